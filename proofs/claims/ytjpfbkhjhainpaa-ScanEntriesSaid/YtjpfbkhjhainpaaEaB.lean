/-
  MERGED BY PROGRAM out of the texts EnSame EnSame2 EnPutW EnChk EnAdd EnRead EnGet EnGet2 EnAll EnDoc.
-/
import Derived.Test.YtjpfbkhjhainpaaEaA
import Derived.BigRegion

/-
  LAYER 16: lists of texts compared (slices.Equal, the document's Texts); entries compared (Same, the document's Same, All): contracts.
-/
set_option linter.unusedVariables false
set_option maxRecDepth 100000
set_option linter.unusedSimpArgs false
namespace Go.Proofs.Ytjpfbkhjhainpaa
open Go.RowKit Go.Shelf

theorem lists_eq {xs ys : List ByteArray} {n : Nat} (hx : xs.length = n) (hy : ys.length = n) (h : ∀ i, i < n → nthT xs i = nthT ys i) : xs = ys := by
  refine List.ext_getElem (by omega) fun i h1 h2 => ?_
  have := h i (by omega)
  rwa [nthT_get h1, nthT_get h2] at this
theorem lists_ne {xs ys : List ByteArray} {i : Nat} (h : nthT xs i ≠ nthT ys i) : xs ≠ ys := fun e => h (by rw [e])
theorem lists_len {xs ys : List ByteArray} (h : xs.length ≠ ys.length) : xs ≠ ys := fun e => h (by rw [e])

set_option maxHeartbeats 1000000 in
theorem rtexts_any (A1 A2 : Option Addr) (n1 n2 c1 c2 : Nat) (xs ys : List ByteArray) (B1 B2 : Nat) (w : World) (h1 : Txt w B1 A1 n1 c1 xs) (h2 : Txt w B2 A2 n2 c2 ys) :
    Calls Try.prog 47 #[.slice A1 n1 c1, .slice A2 n2 c2] w fun e w' => e = .returned (.bool (decide (xs = ys))) ∧ Drew w w' := by
  have hle := h1.le
  have hcap := h1.cap
  have hle2 := h2.le
  have hcap2 := h2.cap
  have hl1 := h1.len
  have hl2 := h2.len
  by_cases hnm : n1 = n2
  · subst hnm
    have HL := Lib.hid (And.intro hl1 hl2)
    clear hl1 hl2
    go_enter Try.func47, Try.ntmps47
    go_wp2
    go_loopw [5] (fun i wr => ∃ k q : Nat, k ≤ n1 ∧ i = .int .i64 k ∧ wr = w.drewN q ∧ Hid (∀ j, j < k → nthT xs j = nthT ys j)) (fun i _ => n1 - (intOf i).toNat)
    case atStart => exact ⟨0, 0, Nat.zero_le _, rfl, rfl, Lib.hid (fun j hj => absurd hj (by omega))⟩
    case round =>
      obtain ⟨k, q, hk, rfl, rfl, HE⟩ := hrel
      have H1 := Lib.hid h1
      have H2 := Lib.hid h2
      by_cases hlt : k < n1
      · obtain ⟨b1, o1, rfl, hb1, hc1⟩ := h1.at_ (by omega)
        obtain ⟨b2, o2, rfl, hb2, hc2⟩ := h2.at_ (by omega)
        have e1 := hc1 k hlt
        have e2 := hc2 k hlt
        have hlti : (k : Int) < n1 := by omega
        have hk0 : (0 : Int) ≤ k := by omega
        by_cases hne : nthT xs k = nthT ys k
        · have HS := Lib.hid hne
          rw [← hne] at e2
          obtain ⟨s, hs⟩ : ∃ s, nthT xs k = s := ⟨_, rfl⟩
          rw [hs] at e1 e2
          clear hc1 hc2 h1 h2 hne hs
          go_wp2
          go_quiet (fail)
          go_wp2
          go_roundw
          case rel => exact ⟨k + 1, _, by omega, by go_num, by first | rfl | exact World.drewN_drewN _ _ _, Lib.hid (fun j hj => by
            rcases Nat.lt_or_ge j k with e | e
            · exact HE.out j e
            · obtain rfl : j = k := by omega
              exact HS.out)⟩
          case measure => simp [intOf]; omega
        · have HN : Hid (decide (xs = ys) = false) := Lib.hid (decide_eq_false (lists_ne hne))
          have d1 : ((nthT xs k).toList == (nthT ys k).toList) = false := by rw [beq_text]; exact decide_eq_false hne
          generalize nthT xs k = s at *
          generalize nthT ys k = t at *
          clear hc1 hc2 h1 h2 hne
          go_wp2
          go_quiet (fail)
          go_wp2
          go_ret
          exact ⟨by rw [HN.out]; rfl, _, by first | rfl | exact World.drewN_drewN _ _ _⟩
      · obtain rfl : k = n1 := by omega
        have HN : Hid (decide (xs = ys) = true) := Lib.hid (decide_eq_true (lists_eq HL.out.1 HL.out.2 HE.out))
        clear h1 h2
        go_wp2
        go_ret
        exact ⟨by rw [HN.out]; rfl, _, rfl⟩
  · have HN : Hid (decide (xs = ys) = false) := Lib.hid (decide_eq_false (lists_len (by omega)))
    have hni : ¬ (n1 : Int) = (n2 : Int) := by omega
    have d1 : ((n1 : Int) == (n2 : Int)) = false := by rw [beq_eq_false_iff_ne]; exact hni
    clear hl1 hl2 h1 h2 hnm
    go_enter Try.func47, Try.ntmps47
    go_wp2
    go_ret
    exact ⟨by rw [HN.out]; rfl, 0, rfl⟩

/-- Are two records the same? -/
def RC.same (a b : RC) : Bool := (decide (a.seq = b.seq) && decide (a.real = b.real) && decide (a.mono = b.mono) && decide (a.boot = b.boot)) && decide (a.its = b.its)

end Go.Proofs.Ytjpfbkhjhainpaa

/-
  LAYER 16: Same, and the document's Same: contracts.
-/
set_option linter.unusedVariables false
set_option maxRecDepth 100000
set_option linter.unusedSimpArgs false
namespace Go.Proofs.Ytjpfbkhjhainpaa
open Go.RowKit Go.Shelf

theorem box5 {w : World} {a b c d e : Value} {t : TypeId} : (∀ i, (w.alloc (.cells #[a, b, c, d, e] t)).cell? ⟨w.heap.size, i, none⟩ = #[a, b, c, d, e][i]?) := fun i => (Blk.new w t #[a, b, c, d, e]).cell i
theorem two_boxes (w : World) (t : TypeId) (cs ds : Array Value) : Below w.heap.size w ((w.alloc (.cells cs t)).alloc (.cells ds t)) ∧ Blk ((w.alloc (.cells cs t)).alloc (.cells ds t)) w.heap.size t cs ∧ Blk ((w.alloc (.cells cs t)).alloc (.cells ds t)) (w.heap.size + 1) t ds := by
  have h := Blk.new (w.alloc (.cells cs t)) t ds
  simp only [World.size_alloc] at h
  exact ⟨(boxed w _).alloc (boxed w _).size _, (Blk.new w t cs).alloc _, h⟩

set_option maxHeartbeats 2000000 in
theorem resame_any (a b : RC) (B1 B2 : Nat) (w : World) (h1 : Txt w B1 a.A a.n a.c a.its) (h2 : Txt w B2 b.A b.n b.c b.its) (hB1 : B1 ≤ w.heap.size) (hB2 : B2 ≤ w.heap.size) :
    Calls Try.prog 26 #[a.v, b.v] w fun e w' => e = .returned (.bool (a.same b)) ∧ Below w.heap.size w w' := by
  obtain ⟨v0, v1, v2, v3, A, n, c, xs⟩ := a
  obtain ⟨u0, u1, u2, u3, A', n', c', ys⟩ := b
  obtain ⟨hb0, hk0, hk1⟩ := two_boxes w 59 #[.int .u64 v0, .int .u64 v1, .int .u64 v2, .int .u64 v3, .slice A n c] #[.int .u64 u0, .int .u64 u1, .int .u64 u2, .int .u64 u3, .slice A' n' c']
  have TX := Lib.hid (rtexts_any A A' n n' c c' xs ys B1 B2 _ (h1.below (hb0.mono hB1)) (h2.below (hb0.mono hB2)))
  have HB := Lib.hid hb0
  obtain ⟨q, hq⟩ : ∃ q, RC.same ⟨v0, v1, v2, v3, A, n, c, xs⟩ ⟨u0, u1, u2, u3, A', n', c', ys⟩ = q := ⟨_, rfl⟩
  have hq2 : ((decide (v0 = u0) && decide (v1 = u1) && decide (v2 = u2) && decide (v3 = u3)) && decide (xs = ys)) = q := hq
  unfold RC.v
  rw [hq]
  obtain ⟨z, hz⟩ : ∃ z, decide (xs = ys) = z := ⟨_, rfl⟩
  rw [hz] at TX hq2
  have x0 := hk0.cell 0
  have x1 := hk0.cell 1
  have x2 := hk0.cell 2
  have x3 := hk0.cell 3
  have x4 := hk0.cell 4
  have y0 := hk1.cell 0
  have y1 := hk1.cell 1
  have y2 := hk1.cell 2
  have y3 := hk1.cell 3
  have y4 := hk1.cell 4
  clear h1 h2 hb0 hk0 hk1 hz hq
  by_cases e0 : v0 = u0
  · by_cases e1 : v1 = u1
    · by_cases e2 : v2 = u2
      · by_cases e3 : v3 = u3
        · subst e0; subst e1; subst e2; subst e3
          have HQ : Hid (q = z) := Lib.hid (by rw [← hq2]; simp)
          clear hq2
          go_enter Try.func26, Try.ntmps26
          go_wp2_with (go_at_call 47; refine TX.out.mono ?_; rintro e w1 ⟨rfl, nn, rfl⟩)
          go_ret
          exact ⟨by rw [HQ.out]; rfl, below_drewn HB.out nn⟩
        · subst e0; subst e1; subst e2
          have d : (v3 == u3) = false := by rw [beq_eq_false_iff_ne]; exact e3
          have HQ : Hid (q = false) := Lib.hid (by rw [← hq2]; simp [e3])
          clear hq2 e3
          go_enter Try.func26, Try.ntmps26
          go_wp2
          go_ret
          exact ⟨by rw [HQ.out]; rfl, HB.out⟩
      · subst e0; subst e1
        have d : (v2 == u2) = false := by rw [beq_eq_false_iff_ne]; exact e2
        have HQ : Hid (q = false) := Lib.hid (by rw [← hq2]; simp [e2])
        clear hq2 e2
        go_enter Try.func26, Try.ntmps26
        go_wp2
        go_ret
        exact ⟨by rw [HQ.out]; rfl, HB.out⟩
    · subst e0
      have d : (v1 == u1) = false := by rw [beq_eq_false_iff_ne]; exact e1
      have HQ : Hid (q = false) := Lib.hid (by rw [← hq2]; simp [e1])
      clear hq2 e1
      go_enter Try.func26, Try.ntmps26
      go_wp2
      go_ret
      exact ⟨by rw [HQ.out]; rfl, HB.out⟩
  · have d : (v0 == u0) = false := by rw [beq_eq_false_iff_ne]; exact e0
    have HQ : Hid (q = false) := Lib.hid (by rw [← hq2]; simp [e0])
    clear hq2 e0
    go_enter Try.func26, Try.ntmps26
    go_wp2
    go_ret
    exact ⟨by rw [HQ.out]; rfl, HB.out⟩

end Go.Proofs.Ytjpfbkhjhainpaa

/-
  LAYER 16: put: an entry with all that must lead to it: its contract.
-/
set_option linter.unusedVariables false
set_option maxRecDepth 100000
set_option linter.unusedSimpArgs false
namespace Go.Proofs.Ytjpfbkhjhainpaa
open Go.RowKit Go.Shelf

/-- The object of an entry. -/
def entO (k : Int) (r : RC) (a : Nat) (ps : List Int) : GO := ⟨0, a, 3, [r.seq, r.real, r.mono, r.boot, xorL k r.its], [], ps⟩
/-- How much an entry may take: the first one of a file, or a later one. -/
def apE (O : List GO) : Nat := if O.length = 0 then 56 else 8216
def rfE (O : List GO) : Nat := if O.length = 0 then 0 else 8216
def budE (R : List DR) (O : List GO) (zs : List (List Int)) : Nat := 1200 * newsD R zs + (56 + 8 * zs.length) + rfE O * zs.length + apE O
theorem apE_le (O : List GO) : apE O ≤ 8216 := by unfold apE; split <;> omega
theorem rfE_le (O : List GO) : rfE O = 8216 ∨ (rfE O = 0 ∧ O.length = 0) := by
  unfold rfE
  split
  · exact .inr ⟨rfl, by assumption⟩
  · exact .inl rfl
theorem budE_le (R : List DR) (O : List GO) {zs : List (List Int)} (h : zs.length ≤ 64) : budE R O zs ≤ 700000 := by
  have := newsD_le R zs
  have := apE_le O
  have h2 : rfE O * zs.length ≤ 8216 * zs.length := Nat.mul_le_mul_right _ (by rcases rfE_le O with e | ⟨e, -⟩ <;> omega)
  unfold budE; omega

section
variable {k d f : Int} {w w' wr : World} {base : Nat} {S T : Nat → Prop} {p lim : Nat} {was bs : List Int} {R : List DR} {O : List GO} {Lr : List Int} {tl cnt : Nat}

theorem words3 (w : World) : Calls Try.prog 43 #[.int .i64 3] w fun e w' => e = .returned (.int .i64 5) ∧ w = w' := owords_any 3 w
theorem make5 (W : World) : (Instr.makeSlice 29 (.int .i64 5) (.int .i64 5)).run Try.prog W = .ok (.slice (some ⟨W.heap.size, 0, none⟩) 5 5) (W.alloc (.cells #[.int .u64 0, .int .u64 0, .int .u64 0, .int .u64 0, .int .u64 0] 47)) := by
  obtain ⟨i0, hi, hz0, hz1, hz2⟩ := info_parts tabWordInfo
  have h := run_make (P := Try.prog) W 29 47 i0 (.int .u64 0) Try.underlying29 hi hz0 .i64 .i64 5 5 (by omega) (Int.le_refl _) (by rw [hz2]; decide) (by omega)
  rw [hz1] at h
  have e : madeCells (Value.int IntKind.u64 0).cells (Int.toNat 5 * 1) = #[.int .u64 0, .int .u64 0, .int .u64 0, .int .u64 0, .int .u64 0] := by
    apply Array.toList_inj.1
    show (madeCells #[Value.int IntKind.u64 0] 5).toList = _
    rw [toList_madeCells_one]; rfl
  rw [e] at h
  exact h

/-- A block of numbers that is known whole, as a slice of it reads. -/
theorem Blk.nums5 {w : World} {g : Nat} {Zc : Array Value} {zs : List Int} (h : Blk w g 47 Zc) (hl : Zc.toList = cellsOf .u64 zs) : Reads w w.heap.size 1 (some ⟨g, 0, none⟩) zs.length (cellsOf .u64 zs) := by
  refine ⟨by rw [cellsOf_length]; omega, fun _ => ⟨_, rfl, h.lt, fun j u hj => ?_⟩⟩
  have e : (⟨g, 0, none⟩ : Addr).add j = ⟨g, j, none⟩ := by unfold Addr.add; split <;> simp_all
  rw [e, h.cell]
  rw [← hl] at hj
  simpa using hj

end

end Go.Proofs.Ytjpfbkhjhainpaa

/-
  LAYER 16: what Check tells, and the document's Check: as layer 4's contracts, and that the list lies in new memory.
-/
set_option linter.unusedVariables false
set_option maxRecDepth 100000
set_option linter.unusedSimpArgs false
namespace Go.Proofs.Ytjpfbkhjhainpaa
open Go.RowKit Go.Sort Go.Shelf

/-- What a call hands back that tells a list of texts: in new memory, or where A0 lies. -/
def TellsO (A0 : Option Addr) (xs : List ByteArray) (w : World) (e : Ending) (w' : World) : Prop := ∃ A c, e = .returned (.slice A xs.length c) ∧ Txt w' w'.heap.size A xs.length c xs ∧ Below w.heap.size w w' ∧ ∀ ad, A = some ad → w.heap.size ≤ ad.block ∨ A0 = some ad
theorem own_fresh {w : World} {base : Nat} {e : TypeId} {size n c : Nat} {A : Option Addr} {xs : List Value} (h : w.ownsRow base e size (.slice A n c) n xs) : ∀ ad, A = some ad → base ≤ ad.block := fun ad ha => by
  subst ha
  obtain ⟨b, o, s⟩ := ad
  exact (h.lt b rfl).1
theorem OwnT.tellsO {w wr : World} {v : Value} {xs : List ByteArray} (A0 : Option Addr) (h : OwnT w wr v xs) (hs : ∀ s ∈ xs, s.size ≤ maxLen) : TellsO A0 xs w (.returned v) wr := by
  obtain ⟨A, c, rfl, h1, h2⟩ := own_form h.own
  exact ⟨A, c, rfl, Txt.of_own h.own h1 h2 hs, h.below, fun ad ha => .inl (own_fresh h.own ad ha)⟩

theorem put_endO {w w' : World} {zs : List ByteArray} {s : ByteArray} {v : Value} (h : OwnT w w' v (putL cfT zs s)) (hz : ∀ x ∈ zs, x.size ≤ maxLen) (hs : s.size ≤ maxLen) (A0 : Option Addr) : TellsO A0 (putL cfT zs s) w (.returned v) w' :=
  h.tellsO A0 fun x hx => by
    rcases (putL_mem zs s x).1 hx with e | e
    · exact hz x e
    · subst e; exact hs

theorem once_endO {cf : ByteArray → ByteArray → Int} (hT : TotC cf) {w w' : World} {A : Option Addr} {c : Nat} {zs : List ByteArray} (hs : ∀ s ∈ zs, s.size ≤ maxLen)
    (ho : w'.ownsRow w.heap.size 9 1 (.slice A (compB (msort cf zs)).length c) (compB (msort cf zs)).length (cellsT (compB (msort cf zs)))) (hb : Below w.heap.size w w') :
    TellsO none (onceL cf zs) w (.returned (.slice A (compB (msort cf zs)).length c)) w' := by
  have e := once_bytes hT zs
  generalize compB (msort cf zs) = q at *
  subst e
  exact OwnT.tellsO none ⟨ho, hb⟩ fun s h => hs s (((onceL_spec hT zs).2 s).1 h)

def ChkO (zs : List ByteArray) (w : World) (e : Ending) (w' : World) : Prop :=
  ∃ A c, e = .returned (.tuple #[.slice A (chkL zs).length c, .int .i64 (chkE zs)]) ∧ Txt w' w'.heap.size A (chkL zs).length c (chkL zs) ∧ Below w.heap.size w w' ∧ ∀ ad, A = some ad → w.heap.size ≤ ad.block

theorem chk_errO {zs : List ByteArray} {w w' : World} {E : Int} (he : chkE zs = E) (h0 : E ≠ 0) (hb : Below w.heap.size w w') : ChkO zs w (.returned (.tuple #[.slice none 0 0, .int .i64 E])) w' := by
  have hl : chkL zs = [] := by unfold chkL; rw [he, if_neg h0]
  unfold ChkO
  rw [hl, he]
  exact ⟨none, 0, rfl, Txt.nil_ _ _, hb, fun ad h => by cases h⟩
theorem chk_okO {zs : List ByteArray} {w w' : World} {A : Option Addr} {c : Nat} (he : chkE zs = 0) (ht : Txt w' w'.heap.size A (onceL cfT zs).length c (onceL cfT zs)) (hb : Below w.heap.size w w') (hf : ∀ ad, A = some ad → w.heap.size ≤ ad.block) : ChkO zs w (.returned (.tuple #[.slice A (onceL cfT zs).length c, .int .i64 0])) w' := by
  have hl : chkL zs = onceL cfT zs := by unfold chkL; rw [if_pos he]
  unfold ChkO
  rw [hl, he]
  exact ⟨A, c, rfl, ht, hb, hf⟩

end Go.Proofs.Ytjpfbkhjhainpaa

/-
  LAYER 16: Add: its contract.
-/
set_option linter.unusedVariables false
set_option maxRecDepth 100000
set_option linter.unusedSimpArgs false
namespace Go.Proofs.Ytjpfbkhjhainpaa
open Go.RowKit Go.Shelf

theorem find_all {zs : List ByteArray} (h : firstBad zs = 0) : ∀ s ∈ zs, okB s = true := fun s hs => by
  unfold firstBad at h
  cases hc : zs.find? (fun s => !okB s) with
  | some a => rw [hc] at h; simp only at h; split at h <;> omega
  | none =>
    have := List.find?_eq_none.1 hc s hs
    simpa using this
theorem chk_zero {zs : List ByteArray} (h : chkE zs = 0) : 0 < zs.length ∧ zs.length ≤ 64 ∧ (∀ s ∈ zs, okB s = true) ∧ chkL zs = onceL cfT zs := by
  have hl : chkL zs = onceL cfT zs := if_pos h
  unfold chkE at h
  by_cases h0 : zs.length = 0
  · rw [if_pos h0] at h; omega
  rw [if_neg h0] at h
  by_cases h1 : 64 < zs.length
  · rw [if_pos h1] at h; omega
  rw [if_neg h1] at h
  by_cases h2 : firstBad zs = 0
  · exact ⟨by omega, by omega, find_all h2, hl⟩
  · rw [if_pos h2] at h; exact absurd h h2
theorem okB_iff {s : ByteArray} (h : okB s = true) : spOk s = true ∧ s.size ≤ 1024 := by
  unfold okB at h
  rw [Bool.and_eq_true, decide_eq_true_eq] at h
  exact ⟨h.2, h.1⟩
/-- What Check lets through. -/
theorem good_of_chk {zs : List ByteArray} (h : chkE zs = 0) : Good64 (chkL zs) := by
  obtain ⟨h0, h1, h2, h3⟩ := chk_zero h
  obtain ⟨hr, hm⟩ := onceL_spec cfT_tot zs
  rw [h3]
  refine ⟨?_, ?_, fun s hs => okB_iff (h2 s ((hm s).1 hs)), ?_⟩
  · refine List.length_pos_of_mem ((hm zs[0]).2 (List.getElem_mem h0))
  · rw [once_put cfT_tot]
    exact Nat.le_trans (putAll_length _) h1
  · rw [List.nodup_iff_pairwise_ne]
    refine hr.imp fun {a b} hlt e => ?_
    subst e
    exact cfT_tot.irr _ hlt

/-- An entry with its items as they are checked. -/
def RC.chk (r : RC) : RC := { r with its := chkL r.its }

/-- A slice of texts doesn't lie in a record's box. -/
theorem txt_nobox {w : World} {B n c g : Nat} {A : Option Addr} {zs : List ByteArray} {v0 v1 v2 v3 : Int} {A1 : Option Addr} {n1 c1 : Nat} {t : TypeId} (h : Txt w B A n c zs) (hn : 0 < n) (hk : Blk w g t #[.int .u64 v0, .int .u64 v1, .int .u64 v2, .int .u64 v3, .slice A1 n1 c1]) : ∀ ad, A = some ad → ad.block ≠ g := by
  obtain ⟨b, off, rfl, hb, hc⟩ := h.at_ hn
  intro ad ha
  injection ha with ha
  subst ha
  intro e
  have e2 : b = g := e
  subst e2
  have h0 := hc 0 hn
  rw [hk.cell] at h0
  match off, h0 with
  | 0, h0 => simp at h0
  | 1, h0 => simp at h0
  | 2, h0 => simp at h0
  | 3, h0 => simp at h0
  | 4, h0 => simp at h0
  | (q + 5), h0 => simp at h0

section
variable {k d f : Int} {w w' wr : World} {base : Nat} {S T : Nat → Prop} {p lim : Nat} {was bs : List Int} {R : List DR} {O : List GO} {Lr : List Int} {tl cnt : Nat}

end

end Go.Proofs.Ytjpfbkhjhainpaa

/-
  LAYER 16: read: what stands at an entry's place: its contract.
-/
set_option linter.unusedVariables false
set_option maxRecDepth 100000
set_option linter.unusedSimpArgs false
namespace Go.Proofs.Ytjpfbkhjhainpaa
open Go.RowKit Go.Shelf

section
variable {k d f : Int} {w w' wr : World} {base : Nat} {S T : Nat → Prop} {p lim : Nat} {was bs : List Int} {R : List DR} {O : List GO} {Lr : List Int} {tl cnt : Nat}

/-- The texts of an entry, as they are read. -/
def fillR (n j : Nat) (zs : List ByteArray) : List ByteArray := zs.take j ++ List.replicate (n - j) ⟨#[]⟩
theorem fillR_length {n j : Nat} {zs : List ByteArray} (hl : zs.length = n) (hk : j ≤ n) : (fillR n j zs).length = n := by
  unfold fillR; rw [List.length_append, List.length_take, List.length_replicate]; omega
theorem fillR_set {n j : Nat} {zs : List ByteArray} (hl : zs.length = n) (hk : j < n) : (cellsT (fillR n j zs)).set j (.string (nthT zs j)) = cellsT (fillR n (j + 1) zs) := by
  unfold fillR
  have e : (zs.take j).length = j := by rw [List.length_take]; omega
  rw [cellsT_append, cellsT_append, List.set_append_right _ _ (by rw [cellsT_length, e]; exact Nat.le_refl _), cellsT_length, e, Nat.sub_self, show n - j = (n - (j + 1)) + 1 by omega, List.replicate_succ,
    take_nthT (by omega), cellsT_append, List.append_assoc]
  rfl
/-- At the head of each round. -/
structure RdAtR (w w3 wr : World) (g n : Nat) (zs : List ByteArray) (j : Nat) : Prop where
  own : wr.ownsRow w.heap.size 9 1 (.slice (some ⟨g, 0, none⟩) n n) n (cellsT (fillR n j zs))
  chg : Chg (fun q => q = g) w3 wr

/-- What is so when the row of texts has been made. -/
structure Rd3 (w w3 : World) (g6 n : Nat) (A1 : Option Addr) (c1 : Nat) (A2 : Option Addr) (n2 c2 : Nat) (A3 : Option Addr) (c3 : Nat) (ws its : List Int) : Prop where
  lt : w.heap.size < g6
  obj : Blk w3 g6 42 #[.int .i64 3, .slice A1 5 c1, .slice A2 n2 c2, .slice A3 n c3]
  res : Blk w3 w.heap.size 59 #[.int .u64 0, .int .u64 0, .int .u64 0, .int .u64 0, .slice none 0 0]
  wr : Reads w3 g6 1 A1 5 (cellsOf .u64 ws)
  ir : Reads w3 g6 1 A3 n (cellsOf .u64 its)
  below : Below w.heap.size w w3
  size : g6 + 1 < w3.heap.size
  row : w3.ownsRow w.heap.size 9 1 (.slice (some ⟨g6 + 1, 0, none⟩) n n) n (cellsT (List.replicate n ⟨#[]⟩))
theorem Rd3.mk' {w w1 w3 : World} {n : Nat} {A1 : Option Addr} {c1 : Nat} {A2 : Option Addr} {n2 c2 : Nat} {A3 : Option Addr} {c3 : Nat} {ws its : List Int} (hb1 : Below (w.alloc (.cells #[.int .u64 0, .int .u64 0, .int .u64 0, .int .u64 0, .slice none 0 0] 59)).heap.size (w.alloc (.cells #[.int .u64 0, .int .u64 0, .int .u64 0, .int .u64 0, .slice none 0 0] 59)) w1)
    (hrw : Reads w1 w1.heap.size 1 A1 5 (cellsOf .u64 ws)) (hri : Reads w1 w1.heap.size 1 A3 n (cellsOf .u64 its)) (hg : (w1.alloc (.cells #[.int .i64 3, .slice A1 5 c1, .slice A2 n2 c2, .slice A3 n c3] 42)).grownBy w3 none)
    (hown : w3.ownsRow w.heap.size 9 1 (.slice (some ⟨(w1.alloc (.cells #[.int .i64 3, .slice A1 5 c1, .slice A2 n2 c2, .slice A3 n c3] 42)).heap.size, 0, none⟩) n n) n (madeCells (Value.string ⟨#[]⟩).cells (n * 1)).toList) : Rd3 w w3 w1.heap.size n A1 c1 A2 n2 c2 A3 c3 ws its := by
  have hs0 : (w.alloc (.cells #[.int .u64 0, .int .u64 0, .int .u64 0, .int .u64 0, .slice none 0 0] 59)).heap.size = w.heap.size + 1 := World.size_alloc _ _
  have hs1 := hb1.size
  have hs2 : (w1.alloc (.cells #[.int .i64 3, .slice A1 5 c1, .slice A2 n2 c2, .slice A3 n c3] 42)).heap.size = w1.heap.size + 1 := World.size_alloc _ _
  have hb2 : Below w1.heap.size w1 (w1.alloc (.cells #[.int .i64 3, .slice A1 5 c1, .slice A2 n2 c2, .slice A3 n c3] 42)) := boxed _ _
  have hb3 := hb2.grown hg (by rw [hs2]; omega) (fun k hk => by cases hk)
  have hb0 := (boxed w (.cells #[.int .u64 0, .int .u64 0, .int .u64 0, .int .u64 0, .slice none 0 0] 59)).trans (hb1.mono (by omega))
  have e : (madeCells (Value.string ⟨#[]⟩).cells (n * 1)).toList = cellsT (List.replicate n ⟨#[]⟩) := by
    rw [Nat.mul_one]
    show (madeCells #[Value.string ⟨#[]⟩] n).toList = _
    rw [toList_madeCells_one]; simp [cellsT]
  rw [e, hs2] at hown
  exact ⟨by omega, (Blk.new w1 _ _).grown hg (by simp), (((Blk.new w _ _).below hb1 (by omega)).alloc _).grown hg (by simp), hrw.below hb3, hri.below hb3, hb0.trans (hb3.mono (by omega)), (hown.lt _ rfl).2, hown⟩

theorem Rd3.start {w w3 : World} {g6 n : Nat} {A1 : Option Addr} {c1 : Nat} {A2 : Option Addr} {n2 c2 : Nat} {A3 : Option Addr} {c3 : Nat} {ws its : List Int} {zs : List ByteArray} (h : Rd3 w w3 g6 n A1 c1 A2 n2 c2 A3 c3 ws its) : RdAtR w w3 w3 (g6 + 1) n zs 0 := by
  have e : fillR n 0 zs = List.replicate n ⟨#[]⟩ := by unfold fillR; simp
  exact ⟨by rw [e]; exact h.row, Chg.refl _ _⟩
theorem Rd3.far {w w3 wr : World} {g6 n j : Nat} {A1 : Option Addr} {c1 : Nat} {A2 : Option Addr} {n2 c2 : Nat} {A3 : Option Addr} {c3 : Nat} {ws its : List Int} {zs : List ByteArray} (h : Rd3 w w3 g6 n A1 c1 A2 n2 c2 A3 c3 ws its) (hj : RdAtR w w3 wr (g6 + 1) n zs j) {q : Nat} (hq : q ≤ g6) : ∀ o, wr.cell? ⟨q, o, none⟩ = w3.cell? ⟨q, o, none⟩ := fun o =>
  World.cell?_of_block (hj.chg.block q (by have := h.size; omega) (by omega))
theorem Rd3.bel {w w3 wr : World} {g6 n j : Nat} {A1 : Option Addr} {c1 : Nat} {A2 : Option Addr} {n2 c2 : Nat} {A3 : Option Addr} {c3 : Nat} {ws its : List Int} {zs : List ByteArray} (h : Rd3 w w3 g6 n A1 c1 A2 n2 c2 A3 c3 ws its) (hj : RdAtR w w3 wr (g6 + 1) n zs j) : Below w.heap.size w wr :=
  h.below.trans (hj.chg.below h.below.size (fun q _ e => by have := h.lt; omega))
/-- One text more. -/
theorem RdAtR.next {w w3 wr w5 : World} {g n j : Nat} {zs : List ByteArray} (hj : RdAtR w w3 wr g n zs j) (hl : zs.length = n) (hlt : j < n) (hb : Below wr.heap.size wr w5) (hg : w3.heap.size ≤ wr.heap.size) :
    (∃ s0, w5.cell? ⟨g, j, none⟩ = some (.string s0)) ∧ w5.frozen? ⟨g, j, none⟩ = false ∧ RdAtR w w3 (w5.setCell ⟨g, j, none⟩ (.string (nthT zs j))) g n zs (j + 1) := by
  have hr5 := own_below hj.own hb
  have q1 := hr5.cellAt j (by omega)
  rw [cellsT_get (by rw [fillR_length hl (by omega)]; exact hlt)] at q1
  refine ⟨⟨_, q1⟩, hr5.frozenAt j, ⟨?_, (hj.chg.trans (Chg.of_below hb (Nat.le_refl _) (fun _ => False)) (fun _ _ e => e.elim)).setCell (.inr rfl) _⟩⟩
  rw [← fillR_set hl hlt]
  exact (hr5.stored j _).1

theorem put5r {w7 : World} {g : Nat} {T : TypeId} {a0 a1 a2 a3 a4 z0 z1 z2 z3 z4 : Value} (h : Blk w7 g T #[z0, z1, z2, z3, z4]) :
    Blk (((((w7.setCell ⟨g, 0, none⟩ a0).setCell ⟨g, 1, none⟩ a1).setCell ⟨g, 2, none⟩ a2).setCell ⟨g, 3, none⟩ a3).setCell ⟨g, 4, none⟩ a4) g T #[a0, a1, a2, a3, a4] ∧
    Chg (fun q => q = g) w7 (((((w7.setCell ⟨g, 0, none⟩ a0).setCell ⟨g, 1, none⟩ a1).setCell ⟨g, 2, none⟩ a2).setCell ⟨g, 3, none⟩ a3).setCell ⟨g, 4, none⟩ a4) :=
  ⟨((((h.set_ 0 a0).set_ 1 a1).set_ 2 a2).set_ 3 a3).set_ 4 a4, (((((Chg.refl (fun q => q = g) w7).setCell (p := ⟨g, 0, none⟩) (.inr rfl) a0).setCell (p := ⟨g, 1, none⟩) (.inr rfl) a1).setCell (p := ⟨g, 2, none⟩) (.inr rfl) a2).setCell (p := ⟨g, 3, none⟩) (.inr rfl) a3).setCell (p := ⟨g, 4, none⟩) (.inr rfl) a4⟩

end

end Go.Proofs.Ytjpfbkhjhainpaa

/-
  LAYER 16: Get, Len, Nth, All, Search: contracts.
-/
set_option linter.unusedVariables false
set_option maxRecDepth 100000
set_option linter.unusedSimpArgs false
namespace Go.Proofs.Ytjpfbkhjhainpaa
open Go.RowKit Go.Shelf
attribute [local go_sem] Oper.semAt_some

section
variable {k d f : Int} {w w' wr : World} {base : Nat} {S T : Nat → Prop} {p lim : Nat} {was bs : List Int} {R : List DR} {O : List GO} {Lr : List Int} {tl cnt : Nat}

def two2 (g : Nat) : Nat → Prop := fun q => q = g ∨ q = g + 1
end

end Go.Proofs.Ytjpfbkhjhainpaa

/-
  LAYER 16: Get; read and Get of what is no entry: contracts.
-/
set_option linter.unusedVariables false
set_option maxRecDepth 100000
set_option linter.unusedSimpArgs false
namespace Go.Proofs.Ytjpfbkhjhainpaa
open Go.RowKit Go.Shelf

/-- The record that is nobody's. -/
def rcZ : Value := .agg #[.int .u64 0, .int .u64 0, .int .u64 0, .int .u64 0, .slice none 0 0]

section
variable {k d f : Int} {w w' wr : World} {base : Nat} {S T : Nat → Prop} {p lim : Nat} {was bs : List Int} {R : List DR} {O : List GO} {Lr : List Int} {tl cnt : Nat}
/-- What Get tells of an entry. -/
def RecTold (o : GO) (zs : List ByteArray) (w : World) (e : Ending) (w' : World) : Prop :=
  ∃ A, e = .returned (.tuple #[.agg #[.int .u64 (o.ws.getD 0 0), .int .u64 (o.ws.getD 1 0), .int .u64 (o.ws.getD 2 0), .int .u64 (o.ws.getD 3 0), .slice A zs.length zs.length], .bool true]) ∧ Txt w' w'.heap.size A zs.length zs.length zs ∧ Below w.heap.size w w'

end

end Go.Proofs.Ytjpfbkhjhainpaa

/-
  LAYER 16: All: the entries of a file, collected: its contract.
-/
set_option linter.unusedVariables false
set_option maxRecDepth 100000
set_option linter.unusedSimpArgs false
namespace Go.Proofs.Ytjpfbkhjhainpaa
open Go.RowKit Go.Shelf
attribute [local go_sem] Oper.semAt_some

theorem recInfo : (Try.prog.info? 59).map (fun i => (i.zero, i.size, i.bytes)) = some (some (.agg #[.int .u64 0, .int .u64 0, .int .u64 0, .int .u64 0, .slice none 0 0]), 5, 56) := by kernel_rfl

/-- The cells of records. -/
def cellsR5 (l : List RC) : List Value := (l.map RC.cs).flatten
theorem cellsR5_length (l : List RC) : (cellsR5 l).length = l.length * 5 := by
  induction l with
  | nil => rfl
  | cons r l ih =>
    unfold cellsR5 at ih ⊢
    rw [List.map_cons, List.flatten_cons, List.length_append, ih, List.length_cons]
    show 5 + _ = _
    omega
theorem cellsR5_snoc (l : List RC) (r : RC) : cellsR5 (l ++ [r]) = cellsR5 l ++ r.cs := by unfold cellsR5; rw [List.map_append, List.flatten_append]; simp

/-- The i-th entry, as it is told. -/
def recOf (o : GO) (A : Option Addr) (zs : List ByteArray) : RC := ⟨o.ws.getD 0 0, o.ws.getD 1 0, o.ws.getD 2 0, o.ws.getD 3 0, A, zs.length, zs.length, zs⟩
theorem recNew (w : World) (t : TypeId) (a b c d e : Value) : Reads (w.alloc (.cells #[a, b, c, d, e] t)) (w.heap.size + 1) 5 (some ⟨w.heap.size, 0, none⟩) 1 [a, b, c, d, e] := by
  refine ⟨rfl, fun _ => ⟨_, rfl, by simp, fun j u hj => ?_⟩⟩
  have e1 : (⟨w.heap.size, 0, none⟩ : Addr).add j = ⟨w.heap.size, j, none⟩ := by unfold Addr.add; split <;> simp_all
  rw [e1, (Blk.new w t #[a, b, c, d, e]).cell]
  simpa using hj
theorem recNew2 {w : World} {g : Nat} (hg : w.heap.size = g) (t : TypeId) (a b c d e : Value) : Reads (w.alloc (.cells #[a, b, c, d, e] t)) (g + 1) 5 (some ⟨g, 0, none⟩) 1 [a, b, c, d, e] := by subst hg; exact recNew w t a b c d e
theorem recOne (a b c d : Int) (A : Option Addr) (n m : Nat) : ∀ u ∈ [Value.int .u64 a, .int .u64 b, .int .u64 c, .int .u64 d, .slice A n m], u.oneCell' = true := fun u hu => by
  simp at hu
  rcases hu with rfl | rfl | rfl | rfl | rfl <;> rfl
theorem sr5a {m : Nat} (h : m ≤ 1001) : m + 1 ≤ maxLen := by unfold maxLen; omega
theorem sr5b {m : Nat} (h : m ≤ 1001) : (m + 1) * 56 ≤ 140737488355328 := by omega

/-- What the i-th record that is told is. -/
structure OneR (O : List GO) (Z : List (List ByteArray)) (W : World) (F : Nat → Prop) (i : Nat) (r : RC) : Prop where
  ex : ∃ o zs, O[i]? = some o ∧ Z[i]? = some zs ∧ r = recOf o r.A zs ∧ Txt W W.heap.size r.A zs.length zs.length zs ∧ (0 < zs.length → ∀ ad, r.A = some ad → ¬ F ad.block)
section
variable {k d f : Int} {w w' wr : World} {base : Nat} {S T : Nat → Prop} {p lim : Nat} {was bs : List Int} {R : List DR} {O : List GO} {Lr : List Int} {tl cnt : Nat}

end

end Go.Proofs.Ytjpfbkhjhainpaa

/-
  LAYER 16: the document's All, Having, Search, Checked, of rows of records in memory: contracts.
-/
set_option linter.unusedVariables false
set_option maxRecDepth 100000
set_option linter.unusedSimpArgs false
namespace Go.Proofs.Ytjpfbkhjhainpaa
open Go.RowKit Go.Shelf

theorem cellsR5_at : ∀ (l : List RC) (i : Nat) (r : RC), l[i]? = some r → ∀ q, q < 5 → (cellsR5 l)[i * 5 + q]? = r.cs[q]?
  | [], i, r, h, q, hq => by simp at h
  | a :: l, 0, r, h, q, hq => by
    simp at h; subst h
    unfold cellsR5
    rw [List.map_cons, List.flatten_cons, List.getElem?_append_left (by show 0 * 5 + q < 5; omega), Nat.zero_mul, Nat.zero_add]
  | a :: l, i + 1, r, h, q, hq => by
    have h' : l[i]? = some r := by simpa using h
    have ih := cellsR5_at l i r h' q hq
    unfold cellsR5 at ih ⊢
    rw [List.map_cons, List.flatten_cons, List.getElem?_append_right (by show 5 ≤ _; omega)]
    rw [← ih]
    congr 1
    show (i + 1) * 5 + q - 5 = _
    omega

/-- A slice that reads as records. -/
structure RecsR (w : World) (B : Nat) (A : Option Addr) (n c : Nat) (l : List RC) : Prop where
  reads : Reads w B 5 A n (cellsR5 l)
  le : n ≤ c
  cap : c ≤ 9223372036854775807
  len : l.length = n
  each : ∀ r ∈ l, Txt w B r.A r.n r.c r.its
theorem RecsR.below {w w' : World} {B n c : Nat} {A : Option Addr} {l : List RC} (h : RecsR w B A n c l) (hb : Below B w w') : RecsR w' B A n c l := ⟨h.reads.below hb, h.le, h.cap, h.len, fun r hr => (h.each r hr).below hb⟩
theorem RecsR.drewN {w : World} {B n c : Nat} {A : Option Addr} {l : List RC} (h : RecsR w B A n c l) (q : Nat) : RecsR (w.drewN q) B A n c l := ⟨h.reads.drewN q, h.le, h.cap, h.len, fun r hr => (h.each r hr).drewN q⟩
theorem RecsR.at_ {w : World} {B n c : Nat} {A : Option Addr} {l : List RC} (h : RecsR w B A n c l) {i : Nat} (hi : i < n) :
    ∃ b off r, A = some ⟨b, off, none⟩ ∧ b < B ∧ l[i]? = some r ∧ Txt w B r.A r.n r.c r.its ∧ w.cell? ⟨b, off + i * 5, none⟩ = some (.int .u64 r.seq) ∧ w.cell? ⟨b, off + i * 5 + 1, none⟩ = some (.int .u64 r.real) ∧ w.cell? ⟨b, off + i * 5 + 2, none⟩ = some (.int .u64 r.mono) ∧ w.cell? ⟨b, off + i * 5 + 3, none⟩ = some (.int .u64 r.boot) ∧ w.cell? ⟨b, off + i * 5 + 4, none⟩ = some (.slice r.A r.n r.c) := by
  have hil : i < l.length := by rw [h.len]; exact hi
  obtain ⟨b, off, e, hb, hc⟩ := h.reads.at2 (by omega) (by omega)
  have hr := List.getElem?_eq_getElem hil
  have g : ∀ q, q < 5 → ∀ u, (l[i]).cs[q]? = some u → w.cell? ⟨b, off + i * 5 + q, none⟩ = some u := fun q hq u hu => by
    rw [Nat.add_assoc]
    exact hc _ _ ((cellsR5_at l i _ hr q hq).trans hu)
  exact ⟨b, off, l[i], e, hb, hr, h.each _ (List.getElem_mem hil), g 0 (by omega) _ rfl, g 1 (by omega) _ rfl, g 2 (by omega) _ rfl, g 3 (by omega) _ rfl, g 4 (by omega) _ rfl⟩
theorem RecsR.of_own {w : World} {base : Nat} {v : Value} {l : List RC} (ho : w.ownsRow base 59 5 v l.length (cellsR5 l)) (he : ∀ r ∈ l, Txt w w.heap.size r.A r.n r.c r.its) : ∃ A c, v = .slice A l.length c ∧ RecsR w w.heap.size A l.length c l := by
  obtain ⟨A, c, rfl, h1, h2⟩ := own_form ho
  exact ⟨A, c, rfl, Reads.of_own ho, h1, by unfold maxLen at h2; omega, rfl, he⟩

/-- Are lists of records alike? -/
theorem same_refl {a b : RC} (h0 : a.seq = b.seq) (h1 : a.real = b.real) (h2 : a.mono = b.mono) (h3 : a.boot = b.boot) (h4 : a.its = b.its) : a.same b = true := by unfold RC.same; simp [h0, h1, h2, h3, h4]

set_option maxHeartbeats 2000000 in
/-- The document's All, of alike lists. -/
theorem reall_same (A1 A2 : Option Addr) (n c1 c2 : Nat) (l1 l2 : List RC) (B1 B2 : Nat) (w : World) (h1 : RecsR w B1 A1 n c1 l1) (h2 : RecsR w B2 A2 n c2 l2) (hB1 : B1 ≤ w.heap.size) (hB2 : B2 ≤ w.heap.size) (hs : ∀ (i : Nat) (a b : RC), l1[i]? = some a → l2[i]? = some b → a.same b = true) :
    Calls Try.prog 16 #[.slice A1 n c1, .slice A2 n c2] w fun e w' => e = .returned (.bool true) ∧ Below w.heap.size w w' := by
  have hle := h1.le
  have hcap := h1.cap
  have hle2 := h2.le
  have hcap2 := h2.cap
  have H1 := Lib.hid (And.intro h1 (And.intro h2 hs))
  clear h1 h2 hs
  go_enter Try.func16, Try.ntmps16
  go_wp2
  go_loopw [5] (fun i wr => ∃ k : Nat, k ≤ n ∧ i = .int .i64 k ∧ Below w.heap.size w wr) (fun i _ => n - (intOf i).toNat)
  case atStart => exact ⟨0, Nat.zero_le _, rfl, Below.refl _ _⟩
  case round =>
    obtain ⟨k, hk, rfl, hbw⟩ := hrel
    by_cases hlt : k < n
    · obtain ⟨b1, o1, r1, rfl, hb1, e1, t1, x0, x1, x2, x3, x4⟩ := (H1.out.1.below (hbw.mono hB1)).at_ hlt
      obtain ⟨b2, o2, r2, rfl, hb2, e2, t2, y0, y1, y2, y3, y4⟩ := (H1.out.2.1.below (hbw.mono hB2)).at_ hlt
      have hsm := H1.out.2.2 k r1 r2 e1 e2
      have SM := Lib.hid (fun wx (hb : Below wr.heap.size wr wx) => resame_any r1 r2 B1 B2 wx (t1.below (hb.mono (Nat.le_trans hB1 hbw.size))) (t2.below (hb.mono (Nat.le_trans hB2 hbw.size))) (Nat.le_trans hB1 (Nat.le_trans hbw.size hb.size)) (Nat.le_trans hB2 (Nat.le_trans hbw.size hb.size)))
      rw [hsm] at SM
      obtain ⟨v0, v1, v2, v3, A3, n3, c3, z3⟩ := r1
      obtain ⟨u0, u1, u2, u3, A4, n4, c4, z4⟩ := r2
      have HS := Lib.hid (fun wx (hb : Below wr.heap.size wr wx) => (show (wx.cell? ⟨b1, o1 + k * 5, none⟩ = some (.int .u64 v0) ∧ wx.cell? ⟨b1, o1 + k * 5 + 1, none⟩ = some (.int .u64 v1) ∧ wx.cell? ⟨b1, o1 + k * 5 + 2, none⟩ = some (.int .u64 v2) ∧ wx.cell? ⟨b1, o1 + k * 5 + 3, none⟩ = some (.int .u64 v3) ∧ wx.cell? ⟨b1, o1 + k * 5 + 4, none⟩ = some (.slice A3 n3 c3)) ∧
          (wx.cell? ⟨b2, o2 + k * 5, none⟩ = some (.int .u64 u0) ∧ wx.cell? ⟨b2, o2 + k * 5 + 1, none⟩ = some (.int .u64 u1) ∧ wx.cell? ⟨b2, o2 + k * 5 + 2, none⟩ = some (.int .u64 u2) ∧ wx.cell? ⟨b2, o2 + k * 5 + 3, none⟩ = some (.int .u64 u3) ∧ wx.cell? ⟨b2, o2 + k * 5 + 4, none⟩ = some (.slice A4 n4 c4)) from by
        have hl1 : b1 < wr.heap.size := by have := hbw.size; omega
        have hl2 : b2 < wr.heap.size := by have := hbw.size; omega
        exact ⟨⟨(hb.cell (p := ⟨b1, _, none⟩) hl1).trans x0, (hb.cell (p := ⟨b1, _, none⟩) hl1).trans x1, (hb.cell (p := ⟨b1, _, none⟩) hl1).trans x2, (hb.cell (p := ⟨b1, _, none⟩) hl1).trans x3, (hb.cell (p := ⟨b1, _, none⟩) hl1).trans x4⟩,
          ⟨(hb.cell (p := ⟨b2, _, none⟩) hl2).trans y0, (hb.cell (p := ⟨b2, _, none⟩) hl2).trans y1, (hb.cell (p := ⟨b2, _, none⟩) hl2).trans y2, (hb.cell (p := ⟨b2, _, none⟩) hl2).trans y3, (hb.cell (p := ⟨b2, _, none⟩) hl2).trans y4⟩⟩))
      have hlti : (k : Int) < n := by omega
      have hk0 : (0 : Int) ≤ k := by omega
      have hbx : Below wr.heap.size wr wr.drew := below_drewn (Below.refl _ _) 1
      have HK := Lib.hid (HS.out _ hbx)
      clear t1 t2 hsm e1 e2 x0 x1 x2 x3 x4 y0 y1 y2 y3 y4
      go_wp2
      go_region_held3 (fun wx => (wx.cell? ⟨b1, o1 + k * 5, none⟩ = some (.int .u64 v0) ∧ wx.cell? ⟨b1, o1 + k * 5 + 1, none⟩ = some (.int .u64 v1) ∧ wx.cell? ⟨b1, o1 + k * 5 + 2, none⟩ = some (.int .u64 v2) ∧ wx.cell? ⟨b1, o1 + k * 5 + 3, none⟩ = some (.int .u64 v3) ∧ wx.cell? ⟨b1, o1 + k * 5 + 4, none⟩ = some (.slice A3 n3 c3)) ∧
          (wx.cell? ⟨b2, o2 + k * 5, none⟩ = some (.int .u64 u0) ∧ wx.cell? ⟨b2, o2 + k * 5 + 1, none⟩ = some (.int .u64 u1) ∧ wx.cell? ⟨b2, o2 + k * 5 + 2, none⟩ = some (.int .u64 u2) ∧ wx.cell? ⟨b2, o2 + k * 5 + 3, none⟩ = some (.int .u64 u3) ∧ wx.cell? ⟨b2, o2 + k * 5 + 4, none⟩ = some (.slice A4 n4 c4)))
        (first | assumption | exact HK.out | exact HS.out _ (by assumption))
        ((go_at_call 26; refine (SM.out _ hbx).mono ?_; rintro e wx ⟨rfl, hb5⟩; have hbx := hbx.trans (hb5.mono hbx.size)))
      go_wp2
      go_roundw
      case rel => exact ⟨k + 1, by omega, by go_num, hbw.trans (hbx.mono hbw.size)⟩
      case measure => simp [intOf]; omega
    · obtain rfl : k = n := by omega
      go_wp2
      go_ret
      exact ⟨rfl, hbw⟩

/-! ### Having -/
def hasAt (l : List RC) (s : ByteArray) (i : Nat) : Bool := match l[i]? with
  | some r => hasB r.its s
  | none => false
def havI (l : List RC) (s : ByteArray) (k : Nat) : List Nat := (List.range k).filter (hasAt l s)
theorem havI_yes {l : List RC} {s : ByteArray} {k : Nat} (h : hasAt l s k = true) : havI l s (k + 1) = havI l s k ++ [k] := by unfold havI; rw [List.range_succ, List.filter_append, List.filter_cons_of_pos (by exact h), List.filter_nil]
theorem havI_no {l : List RC} {s : ByteArray} {k : Nat} (h : hasAt l s k = false) : havI l s (k + 1) = havI l s k := by unfold havI; rw [List.range_succ, List.filter_append, List.filter_cons_of_neg (by rw [h]; simp), List.filter_nil, List.append_nil]
theorem havI_len (l : List RC) (s : ByteArray) (k : Nat) : (havI l s k).length ≤ k := by
  unfold havI
  refine Nat.le_trans (List.length_filter_le _ _) ?_
  rw [List.length_range]; exact Nat.le_refl _
def ints (l : List Nat) : List Int := l.map (fun i : Nat => (i : Int))

/-! ### Search -/
def firstS (q : Int) (qs : List Int) : Nat := (qs.takeWhile fun x => !decide (q ≤ x)).length
theorem firstS_yes {q : Int} {qs : List Int} {k : Nat} (h : ∀ i, i < k → ¬ q ≤ qs.getD i 0) (hk : k < qs.length) (h1 : q ≤ qs.getD k 0) : firstS q qs = k := by
  induction qs generalizing k with
  | nil => simp at hk
  | cons x l ih =>
    cases k with
    | zero =>
      have h1' : q ≤ x := by simpa using h1
      unfold firstS
      rw [List.takeWhile_cons_of_neg (by simp [h1'])]; rfl
    | succ k =>
      have h0 : ¬ q ≤ x := by simpa using h 0 (by omega)
      have hh : firstS q l = k := ih (fun i hi => by simpa using h (i + 1) (by omega)) (by simpa using hk) (by simpa using h1)
      unfold firstS at hh ⊢
      rw [List.takeWhile_cons_of_pos (by simp; omega), List.length_cons, hh]
theorem firstS_no {q : Int} {qs : List Int} (h : ∀ i, i < qs.length → ¬ q ≤ qs.getD i 0) : firstS q qs = qs.length := by
  induction qs with
  | nil => rfl
  | cons x l ih =>
    have h0 : ¬ q ≤ x := by simpa using h 0 (by simp)
    have hh : firstS q l = l.length := ih (fun i hi => by simpa using h (i + 1) (by simpa using hi))
    unfold firstS at hh ⊢
    rw [List.takeWhile_cons_of_pos (by simp; omega), List.length_cons, List.length_cons, hh]

/-! ### Checked -/
end Go.Proofs.Ytjpfbkhjhainpaa
