/-
  LAYER 14: sort.Search, AND WHAT Search DOES: contracts.
-/
import Derived.Test.YtblpmnipapimcaaChAsk
set_option linter.unusedVariables false
set_option maxRecDepth 100000
set_option linter.unusedSimpArgs false
namespace Go.Proofs.Ytblpmnipapimcaa
open Go.RowKit Go.Shelf
attribute [local go_sem] Oper.semAt_some

set_option maxHeartbeats 4000000 in
/-- sort.Search, of a question that is answered with no ahead of a place, and with yes from there on. -/
theorem ssearch_any (cl : Nat) (lb : Array Value) (n c : Nat) (w : World) (hn : n ≤ 1000000000) (hc : c ≤ n) (eg : ∀ args w, (callFunc cl args).run Try.prog w = .ok (.enter cl args) w)
    (HC : ∀ (i d : Nat), i < n → Calls Try.prog cl (#[.int .i64 i] ++ lb) (w.drewN d) fun e w' => e = .returned (.bool (decide (c ≤ i))) ∧ ∃ k, w' = (w.drewN d).drewN k) :
    Calls Try.prog 36 #[.int .i64 n, .func (.func cl) #[] lb] w fun e w' => e = .returned (.int .i64 c) ∧ ∃ k, w' = w.drewN k := by
  have HH := Lib.hid HC
  clear HC
  go_enter Try.func36, Try.ntmps36
  go_wp2
  go_loopw [5, 6] (fun s5 s6 wr => ∃ i j d : Nat, s5 = .int .i64 i ∧ s6 = .int .i64 j ∧ wr = w.drewN d ∧ i ≤ c ∧ c ≤ j ∧ j ≤ n) (fun s5 s6 _ => (intOf s6).toNat - (intOf s5).toNat)
  case atStart => exact ⟨0, n, 0, rfl, rfl, rfl, Nat.zero_le _, hc, Nat.le_refl _⟩
  case round =>
    obtain ⟨i, j, d, rfl, rfl, rfl, hi, hj, hjn⟩ := hrel
    by_cases hlt : i < j
    · have i1 : (i : Int) < (j : Int) := by omega
      obtain ⟨h, hh⟩ : ∃ h : Nat, ((i : Int) + j) / 2 = h := ⟨(i + j) / 2, by omega⟩
      have hh2 : i ≤ h ∧ h < j := by omega
      have HC := Lib.hid (HH.out h d (by omega))
      by_cases hch : c ≤ h
      · rw [decide_eq_true hch] at HC
        go_wp2
        refine HC.out.mono ?_
        rintro e w' ⟨rfl, k, rfl⟩
        go_wp2
        go_roundw
        case rel => exact ⟨i, h, d + k, rfl, rfl, by first | rfl | exact World.drewN_drewN _ _ _, hi, hch, by omega⟩
        case measure => simp [intOf]; omega
      · rw [decide_eq_false hch] at HC
        have hn2 : h + 1 ≤ n := by omega
        go_wp2
        refine HC.out.mono ?_
        rintro e w' ⟨rfl, k, rfl⟩
        go_wp2
        go_roundw
        case rel => exact ⟨h + 1, j, d + k, by go_num, rfl, by first | rfl | exact World.drewN_drewN _ _ _, by omega, hj, hjn⟩
        case measure => simp [intOf]; omega
    · have e : i = c := by omega
      go_wp2
      go_ret
      exact ⟨congrArg (fun z : Nat => Ending.returned (.int .i64 z)) e, _, rfl⟩

/-- Where a question is answered with yes at first. -/
def firstY (q : Int → Bool) (L : List Int) : Nat := (L.takeWhile fun x => !q x).length
/-- Behind a yes all is yes. -/
def MonoY (q : Int → Bool) (L : List Int) : Prop := ∀ i j, i ≤ j → j < L.length → q (L.getD i 0) = true → q (L.getD j 0) = true
theorem firstY_le (q : Int → Bool) (L : List Int) : firstY q L ≤ L.length := (List.takeWhile_prefix _).length_le
theorem firstY_no {q : Int → Bool} : ∀ {L : List Int} {i : Nat}, i < firstY q L → q (L.getD i 0) = false
  | [], i, h => by simp [firstY] at h
  | x :: L, i, h => by
    by_cases hx : q x = true
    · simp [firstY, hx] at h
    · have hx' : q x = false := by simpa using hx
      have e : firstY q (x :: L) = firstY q L + 1 := by simp [firstY, hx']
      cases i with
      | zero => simpa using hx'
      | succ i => simpa using firstY_no (L := L) (i := i) (by omega)
theorem firstY_at {q : Int → Bool} : ∀ {L : List Int}, firstY q L < L.length → q (L.getD (firstY q L) 0) = true
  | [], h => by simp at h
  | x :: L, h => by
    by_cases hx : q x = true
    · have e : firstY q (x :: L) = 0 := by simp [firstY, hx]
      rw [e]; simpa using hx
    · have hx' : q x = false := by simpa using hx
      have e : firstY q (x :: L) = firstY q L + 1 := by simp [firstY, hx']
      rw [e] at h ⊢
      simpa using firstY_at (L := L) (by simpa using h)
theorem firstY_iff {q : Int → Bool} {L : List Int} (hm : MonoY q L) {i : Nat} (hi : i < L.length) : q (L.getD i 0) = decide (firstY q L ≤ i) := by
  by_cases h : firstY q L ≤ i
  · rw [decide_eq_true h]
    exact hm _ i h hi (firstY_at (by omega))
  · rw [decide_eq_false h]
    exact firstY_no (by omega)
theorem firstY_append (q : Int → Bool) (a b : List Int) : firstY q (a ++ b) = if firstY q a = a.length then a.length + firstY q b else firstY q a := by
  unfold firstY
  rw [List.takeWhile_append]
  split
  · rw [List.length_append]
  · rfl
theorem MonoY.mid {q : Int → Bool} {a b c L : List Int} (hm : MonoY q L) (e : L = a ++ (b ++ c)) : MonoY q b := by
  intro i j hij hj hq
  have h1 : ∀ k, k < b.length → L.getD (a.length + k) 0 = b.getD k 0 := fun k hk => by
    rw [e, List.getD_eq_getElem?_getD, List.getD_eq_getElem?_getD, List.getElem?_append_right (by omega), List.getElem?_append_left (by omega)]
    congr 2; omega
  have h2 := hm (a.length + i) (a.length + j) (by omega) (by rw [e]; simp; omega)
  rw [h1 i (by omega), h1 j hj] at h2
  exact h2 hq

/-- A question as Search is handed one. -/
def Asks (q : Int → Bool) (cl : Nat) (lb : Array Value) (w : World) : Prop :=
  ∀ (W : World) (x : Int), Below w.heap.size w W → Calls Try.prog cl (#[.int .u64 x] ++ lb) W fun e w' => e = .returned (.bool (q x)) ∧ ∃ k, w' = W.drewN k

set_option maxHeartbeats 4000000 in
theorem sask_any {B : Nat} (q : Int → Bool) (cl : Nat) (lb : Array Value) (gi gl : Nat) (A : Option Addr) (n c i : Nat) (zs : List Int) (W : World) (hQ : ∀ d x, Calls Try.prog cl (#[.int .u64 x] ++ lb) (W.drewN d) fun e w' => e = .returned (.bool (q x)) ∧ ∃ k, w' = (W.drewN d).drewN k)
    (h1 : W.cell? ⟨gi, 0, none⟩ = some (.func (.func cl) #[] lb)) (h2 : W.cell? ⟨gl, 0, none⟩ = some (.slice A n c)) (hr : Reads W B 1 A n (cellsOf .u64 zs)) (hi : i < n) (hn : n ≤ 1000000000) (eg : ∀ args w, (callFunc cl args).run Try.prog w = .ok (.enter cl args) w) :
    Calls Try.prog 37 #[.int .i64 i, .pointer (some ⟨gi, 0, none⟩), .pointer (some ⟨gl, 0, none⟩)] W fun e w' => e = .returned (.bool (q (zs.getD i 0))) ∧ ∃ k, w' = W.drewN k := by
  obtain ⟨bl, off, rfl, _, h1c⟩ := hr.plain (by omega)
  have q1 := h1c i hi
  obtain ⟨z, hz⟩ : ∃ z, zs.getD i 0 = z := ⟨_, rfl⟩
  rw [hz] at q1 ⊢
  have i1 : (i : Int) < (n : Int) := by omega
  have HQ := Lib.hid (fun d => hQ d z)
  clear h1c hr hQ hz
  go_enter Try.func37, Try.ntmps37
  go_wp2
  go_quiet ((refine (HQ.out _).mono ?_; rintro e w1 ⟨rfl, k, rfl⟩; exact ⟨rfl, _, World.drewN_drewN _ _ _⟩))
  go_wp2
  go_ret
  exact ⟨rfl, _, rfl⟩

section
variable {base p : Nat} {S : Nat → Prop} {root : Int} {its : List It} {L : List Int}

set_option maxHeartbeats 4000000 in
theorem csearch_any (q : Int → Bool) (cl : Nat) (lb : Array Value) (w : World) (h : ListAt w base p S root its L) (hm : MonoY q L) (hQ : Asks q cl lb w) (eg : ∀ args w, (callFunc cl args).run Try.prog w = .ok (.enter cl args) w) :
    Calls Try.prog 18 #[.pointer (some ⟨p, 0, none⟩), .int .i64 root, .func (.func cl) #[] lb] w fun e w' => e = .returned (.int .i64 (firstY q L : Nat)) ∧ Below w.heap.size w w' := by
  have RW := Lib.hid (fun w1 => crows_any p root w1)
  have hb0 : Below w.heap.size w ((w.alloc (.cells #[.func (.func cl) #[] lb] 48)).alloc (.cells #[.int .i64 0] 3)) := (boxed w _).alloc (boxed w _).size _
  have hsz : ((w.alloc (.cells #[.func (.func cl) #[] lb] 48)).alloc (.cells #[.int .i64 0] 3)).heap.size = w.heap.size + 2 := by simp
  have x0 := (Blk.new w 48 #[.func (.func cl) #[] lb]).alloc (.cells #[.int .i64 0] 3)
  have x1 := Blk.new (w.alloc (.cells #[.func (.func cl) #[] lb] 48)) 3 #[.int .i64 0]
  simp only [World.size_alloc] at x1
  have HX := Lib.hid (And.intro hb0 (And.intro hsz (And.intro x0 x1)))
  clear hb0 hsz x0 x1
  refine (callsIn_wide (n := 9)).1 ?_
  refine callsIn_of_wp_marks Try.func18 rfl trivial ?_ rfl
  simp only [Try.ntmps18, List.size_toArray, List.length_cons, List.length_nil, Nat.reduceAdd, Nat.reduceSub, Array.replicate_succ, Array.replicate_zero, List.push_toArray, List.append_toArray, List.nil_append, List.cons_append]
  gi_wp2_with (refine ⟨trivial, ?_⟩; gi_at_call 34; refine (callsIn_wide.2 (RW.out _)).mono ?_; rintro e w2 ⟨rfl, hb2, hfl⟩)
  obtain ⟨hb0, hsz, x0, x1⟩ := HX.out
  rw [hsz] at hfl
  generalize (w.alloc (.cells #[.func (.func cl) #[] lb] 48)).alloc (.cells #[.int .i64 0] 3) = w0 at *
  have hs2 := hb2.size
  have hlo := hfl.lo
  have hbw2 : Below w.heap.size w w2 := hb0.trans (hb2.mono hb0.size)
  have h2 := h.below hbw2
  have y0 := x0.below hb2 (by omega)
  have y1 := x1.below hb2 (by omega)
  have hft := h.foot
  obtain ⟨g0, hg0⟩ : ∃ g0, w.heap.size = g0 := ⟨_, rfl⟩
  rw [hg0] at y0 y1 hlo hbw2 hfl hft ⊢
  obtain ⟨rs, hfl2, hrl, hseq⟩ := h2.rows 8 (by omega) (fun k => k = g0 + 1) (g0 + 2) (fun j hj => ⟨(h2.foot j hj).2, fun e => by have := (hft j hj).2; omega⟩) hfl ⟨fun e => by omega, fun e => by omega⟩
  refine wp_range_F (F := Fence.wide) (n := 9) rfl (by omega) (gf := 54) (lb := rwB (g0 + 2)) rfl trivial (enters_of Try.func54 (by kernel_rfl) rfl) hseq
    (fun k hk => by subst hk; omega)
    (fun fp pre x => tellsR_own rs _ fp pre x) (fun _ => rfl)
    (fun fq pre W => fq = (fun k => k = g0 + 1) ∧ Blk W g0 48 #[.func (.func cl) #[] lb] ∧ Blk W (g0 + 1) 3 #[.int .i64 ((flatR pre).length : Nat)] ∧ firstY q (flatR pre) = (flatR pre).length ∧ Below g0 w W)
    (fun c pre W => c = .exit 0 ∧ Blk W (g0 + 1) 3 #[.int .i64 (firstY q L : Nat)] ∧ Below g0 w W)
    (fun fq s A C row hs hg hr => ⟨hs.1, own_blkOf (β := Unit) (B := w2.heap.size) (by omega) (fun _ => #[.func (.func cl) #[] lb]) () A C row hs.2.1 hg hr, own_blkOf (β := Unit) (B := w2.heap.size) (by omega) (fun _ => #[.int .i64 ((flatR s).length : Nat)]) () A C row hs.2.2.1 hg hr,
      hs.2.2.2.1, hs.2.2.2.2.grown hg (by have := hs.2.2.2.2.size; omega) (fun k e => by have := (hr k e).1; omega)⟩)
    (fun c s A C row hs hg hr => ⟨hs.1, own_blkOf (β := Unit) (B := w2.heap.size) (by omega) (fun _ => #[.int .i64 (firstY q L : Nat)]) () A C row hs.2.1 hg hr, hs.2.2.grown hg (by have := hs.2.2.size; omega) (fun k e => by have := (hr k e).1; omega)⟩)
    ⟨rfl, y0, y1, rfl, hbw2⟩
    (fun x a' W' => ∃ b, Blk W' b 22 #[x.v] ∧ w2.heap.size ≤ b ∧ a' = { tmps := #[.pointer (some ⟨p, 0, none⟩), .int .i64 root, .func (.func cl) #[] lb, undef, undef, .pointer (some ⟨g0, 0, none⟩), .int .i64 0, .pointer (some ⟨g0 + 1, 0, none⟩), .pointer (some ⟨b, 0, none⟩), undef, .pointer (some ⟨p, 0, none⟩), .int .i64 root, rwV (g0 + 2), x.v, undef, undef, undef, undef, undef, undef, undef, undef, undef, undef, undef, undef], defers := [] })
    (fun x a' _ A C row hs hg hr => by
      obtain ⟨b, h1, h2, h3⟩ := hs
      exact ⟨b, h1.grown hg (fun e => by obtain ⟨-, o, ho, hc⟩ := hr b e.symm; rw [show A.heap[b]? = _ from h1] at ho; cases ho; cases hc), h2, h3⟩)
    ?assign ?body ?done ?stop
  case assign =>
    intro l2 x W3 K hW hK
    dsimp only [Rw.encs, Rw.v]
    gi_wp2
    exact hK _ _ (boxed _ _) ⟨W3.heap.size, Blk.new _ _ _, by omega, rfl⟩
  case body =>
    rintro l2 fp fq pre x W3 ⟨rfl, z0, z1, hfy, hbW⟩ hok hsub hlen ⟨⟨rest, hrest⟩, hlies, hfree⟩ - a' ⟨b, hbx, hbn, rfl⟩
    have k0 := z0.cell 0
    have k1 := z1.cell 0
    have f1 := z1.frozen 0
    have kb := hbx.cell 0
    have hxl := hlies.rd.len
    obtain ⟨hml, hLe⟩ := flatR_le hrest
    rw [hfl2] at hml hLe
    have hmost := h.most
    have hfz := firstY_le q x.zs
    have hmz : MonoY q x.zs := MonoY.mid hm hLe
    have HCC : ∀ (i d : Nat), i < x.n → Calls Try.prog 37 (#[.int .i64 i] ++ #[.pointer (some ⟨g0, 0, none⟩), .pointer (some ⟨b, 0, none⟩)]) (W3.drewN d) fun e w' => e = .returned (.bool (decide (firstY q x.zs ≤ i))) ∧ ∃ k, w' = (W3.drewN d).drewN k := fun i d hi => by
      rw [← firstY_iff hmz (by omega)]
      exact sask_any (B := W3.heap.size) q cl lb g0 b x.A x.n x.c i x.zs (W3.drewN d) (fun d2 z => hQ _ z (by rw [hg0]; exact below_drewn (below_drewn hbW d) d2)) k0 kb hlies.rd hi (by omega) eg
    have SS := Lib.hid (ssearch_any 37 #[.pointer (some ⟨g0, 0, none⟩), .pointer (some ⟨b, 0, none⟩)] x.n (firstY q x.zs) W3 (by omega) (by omega) (enters_of Try.func37 (by kernel_rfl) rfl) HCC)
    obtain ⟨c, hc⟩ : ∃ c, firstY q x.zs = c := ⟨_, rfl⟩
    obtain ⟨r, hr⟩ : ∃ r, (flatR pre).length = r := ⟨_, rfl⟩
    rw [hc] at SS hfz
    rw [hr] at k1 hml hfy
    have hw1 : IntKind.i64.wrap ((r : Int) + (c : Int)) = (r : Int) + (c : Int) := wrap_i64_of (by omega) (by omega)
    have HB := Lib.hid (show ∀ (kk : Nat) (v : Value), Chg (fun k => k = g0 + 1) W3 ((W3.drewN kk).setCell ⟨g0 + 1, 0, none⟩ v) ∧ Blk ((W3.drewN kk).setCell ⟨g0 + 1, 0, none⟩ v) g0 48 #[.func (.func cl) #[] lb] ∧ Blk ((W3.drewN kk).setCell ⟨g0 + 1, 0, none⟩ v) (g0 + 1) 3 #[v] ∧ Below g0 w ((W3.drewN kk).setCell ⟨g0 + 1, 0, none⟩ v) from fun kk v => by
      have hd : Below W3.heap.size W3 (W3.drewN kk) := below_drewn (Below.refl _ _) kk
      have c1 : Chg (fun k => k = g0 + 1) W3 (W3.drewN kk) := Chg.of_below hd (Nat.le_refl _) _
      exact ⟨chg_set1 (T := fun k => k = g0 + 1) c1 rfl _, (z0.below hd z0.lt).far (by show g0 ≠ g0 + 1; omega) _, (z1.below hd z1.lt).set_ 0 v, (below_drewn hbW kk).setCell (by show g0 ≤ g0 + 1; omega) _⟩)
    dsimp only [Rw.v] at *
    by_cases hlt : c < x.n
    · have hLY : firstY q L = r + c := by
        rw [hLe, firstY_append, if_pos (by rw [hr]; exact hfy), hr, firstY_append, if_neg (by omega), hc]
      have HL : Hid ((r : Int) + (c : Int) = (firstY q L : Nat)) := Lib.hid (by rw [hLY]; simp)
      have i1 : (c : Int) < (x.n : Int) := by omega
      clear hLY hLe hc hr hrest hfree hlies HCC hmz hm
      gi_wp2_with (refine ⟨trivial, ?_⟩; gi_at_call 36; refine (CallsIn.inRound l2 (callsIn_wide.2 SS.out)).mono ?_; rintro e w5 ⟨rfl, kk, rfl⟩)
      obtain ⟨e1, e2, e3, e4⟩ := HB.out kk (.int .i64 ((r : Int) + (c : Int)))
      refine ⟨e1, rfl, ?_, e4⟩
      rw [← HL.out]; exact e3
    · have hcn : c = x.n := by omega
      have HF : Hid (firstY q (flatR (pre ++ [x])) = (flatR (pre ++ [x])).length ∧ (r : Int) + (c : Int) = ((flatR (pre ++ [x])).length : Nat)) := Lib.hid (by
        rw [flatR_snoc, List.length_append, firstY_append, if_pos (by rw [hr]; exact hfy), hr, hc]
        exact ⟨by omega, by rw [← hxl] at hcn; rw [hcn]; simp⟩)
      have i1 : ¬ (c : Int) < (x.n : Int) := by omega
      clear hcn hLe hc hr hrest hfree hlies HCC hmz hm
      gi_wp2_with (refine ⟨trivial, ?_⟩; gi_at_call 36; refine (CallsIn.inRound l2 (callsIn_wide.2 SS.out)).mono ?_; rintro e w5 ⟨rfl, kk, rfl⟩)
      obtain ⟨e1, e2, e3, e4⟩ := HB.out kk (.int .i64 ((r : Int) + (c : Int)))
      refine ⟨fun k => k = g0 + 1, ⟨rfl, e2, ?_, HF.out.1, e4⟩, e1, fun k hk => ⟨.inl hk, Nat.lt_of_lt_of_le (hok k hk) e1.size⟩⟩
      rw [← HF.out.2]; exact e3
  case done =>
    rintro D fq xs W3 hD hxs ⟨rfl, z0, z1, hfy, hbW⟩ hK
    have k1 := z1.cell 0
    rw [flatR_all hxs, hfl2] at k1 hfy
    have HE := Lib.hid hfy
    clear hfy
    gi_wp2
    refine ⟨by simp, .inl ⟨_, _, rfl, run_takeDeferred hK, ?_⟩⟩
    refine ⟨_, results_tmp rfl _ _ _, ?_, below_put1 hbW (by omega) _⟩
    rw [HE.out]; rfl
  case stop =>
    rintro D cc pre W3 hD hp ⟨rfl, z1, hbW⟩ hK
    have k1 := z1.cell 0
    gi_wp2
    refine ⟨by simp, .inl ⟨_, _, rfl, run_takeDeferred hK, ?_⟩⟩
    exact ⟨_, results_tmp rfl _ _ _, rfl, below_put1 hbW (by omega) _⟩
end

end Go.Proofs.Ytblpmnipapimcaa
