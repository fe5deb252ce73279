/-
  LAYER 16: what Check tells, and the document's Check: as layer 4's contracts, and that the list lies in new memory.
-/
import Derived.Test.YtobbkhncnokpiaaGreatEnFp
set_option linter.unusedVariables false
set_option maxRecDepth 100000
set_option linter.unusedSimpArgs false
namespace Go.Proofs.YtobbkhncnokpiaaGreat
open Go.RowKit Go.Sort Go.Shelf

/-- What a call hands back that tells a list of texts: in new memory, or where A0 lies. -/
def TellsO (A0 : Option Addr) (xs : List ByteArray) (w : World) (e : Ending) (w' : World) : Prop := ∃ A c, e = .returned (.slice A xs.length c) ∧ Txt w' w'.heap.size A xs.length c xs ∧ Below w.heap.size w w' ∧ ∀ ad, A = some ad → w.heap.size ≤ ad.block ∨ A0 = some ad
theorem own_fresh {w : World} {base : Nat} {e : TypeId} {size n c : Nat} {A : Option Addr} {xs : List Value} (h : w.ownsRow base e size (.slice A n c) n xs) : ∀ ad, A = some ad → base ≤ ad.block := fun ad ha => by
  subst ha
  obtain ⟨b, o, s⟩ := ad
  exact (h.lt b rfl).1
theorem OwnT.tellsO {w wr : World} {v : Value} {xs : List ByteArray} (A0 : Option Addr) (h : OwnT w wr v xs) (hs : ∀ s ∈ xs, s.size ≤ maxLen) : TellsO A0 xs w (.returned v) wr := by
  obtain ⟨A, c, rfl, h1, h2⟩ := own_form h.own
  exact ⟨A, c, rfl, Txt.of_own h.own h1 h2 hs, h.below, fun ad ha => .inl (own_fresh h.own ad ha)⟩

theorem put_endO {w w' : World} {zs : List ByteArray} {s : ByteArray} {v : Value} (h : OwnT w w' v (putL cfT zs s)) (hz : ∀ x ∈ zs, x.size ≤ maxLen) (hs : s.size ≤ maxLen) (A0 : Option Addr) : TellsO A0 (putL cfT zs s) w (.returned v) w' :=
  h.tellsO A0 fun x hx => by
    rcases (putL_mem zs s x).1 hx with e | e
    · exact hz x e
    · subst e; exact hs

set_option maxHeartbeats 1000000 in
theorem put_own (A : Option Addr) (n c : Nat) (zs : List ByteArray) (s : ByteArray) (B : Nat) (w : World) (h : Txt w B A n c zs) (hB : B ≤ w.heap.size) (hs : s.size ≤ maxLen) (hn : n ≤ 1000) :
    Calls Tryz.prog 72 #[.slice A n c, .string s] w (TellsO A (putL cfT zs s) w) := by
  obtain ⟨i0, hi, hz0, hz1, hz2⟩ := info_parts strInfo
  have hl := h.len
  have hle := h.le
  have hcap := h.cap
  go_enter Tryz.func72, Tryz.ntmps72
  go_wp2
  go_loopw [5, 6, 7] (fun v d i wr => ∃ (k : Nat) (q : Bool), k ≤ n ∧ Hid (s ∉ zs.take k) ∧ d = .bool q ∧ Hid (q = (putAt zs s k).2) ∧ OwnT w wr v (putAt zs s k).1 ∧ i = .int .i64 k) (fun _ _ i _ => n - (intOf i).toNat)
  case atStart => exact ⟨0, false, Nat.zero_le _, Lib.hid (by simp), rfl, Lib.hid rfl, OwnT.nil_ w, rfl⟩
  case round =>
    obtain ⟨k, q, hk, hin, rfl, hq, H, rfl⟩ := hrel
    have hpl := putAt_len zs s k
    have HO := Lib.hid H
    have HH := Lib.hid h
    have HL := Lib.hid hl
    obtain ⟨A1, c1, rfl, hc1, hc2⟩ := own_form H.own
    have hxl : (putAt zs s k).1.length ≤ 1001 := by omega
    have HX := Lib.hid (show (putAt zs s k).1 = (putAt zs s k).1 from rfl)
    by_cases hlt : k < n
    · obtain ⟨b, off, rfl, hb0, hcell⟩ := h.at_ (by omega)
      have hb : b < w.heap.size := by omega
      have c0 := hcell k hlt
      have cr : _ = some _ := (H.below.cell (p := ⟨b, off + k, none⟩) hb).trans c0
      have hgo := fun hh => putAt_go (zs := zs) (s := s) (k := k) (by omega) hh
      have hlay := fun h1 h2 => putAt_lay (zs := zs) (s := s) (k := k) (by omega) h1 h2
      have hmem : nthT zs k ∈ zs := nthT_mem (by omega)
      have hstep : nthT zs k ≠ s → s ∉ zs.take (k + 1) := fun hne => by
        rw [take_nthT (by omega), List.mem_append, List.mem_singleton]
        rintro (e | e)
        · exact hin.out e
        · exact hne e.symm
      by_cases hx : nthT zs k = s
      · have d1 : ((nthT zs k).toList == s.toList) = true := by rw [beq_text]; exact decide_eq_true hx
        have hp : putL cfT zs s = zs := by unfold putL; rw [if_pos (hx ▸ hmem)]
        have HE : Hid (TellsO (some ⟨b, off, none⟩) (putL cfT zs s) w (.returned (.slice (some ⟨b, off, none⟩) n c)) wr) := by
          rw [hp]
          exact Lib.hid ⟨_, c, by rw [hl], by rw [hl]; exact (h.more hB).below H.below |>.more H.below.size, H.below, fun ad h => .inr h⟩
        generalize nthT zs k = x at *
        clear hcell hgo hlay hmem hstep hp hx H h hl c0
        go_wp2
        go_ret
        exact HE.out
      · have d1 : ((nthT zs k).toList == s.toList) = false := by rw [beq_text]; exact decide_eq_false hx
        have HS := Lib.hid (hstep hx)
        by_cases hg : cfT s (nthT zs k) < 0
        · have d2 : Op.bytesLess (nthT zs k).toList s.toList = false := by
            rw [less_cfT]; exact decide_eq_false (cfT_tot.asym hg)
          cases q with
          | true =>
            have HP := Lib.hid (hgo (fun _ => hq.out.symm))
            generalize (putAt zs s k).1 = xs at *
            generalize nthT zs k = x at *
            have s2 := sm1 hxl
            have s3 := sm2 hxl
            clear hcell hgo hlay hmem hstep hx hg H h hl c0
            go_wp2_with ((at_builtin; refine wpList_append_any _ rfl (.tmp 35) (.tmp 40) 34 rfl w.heap.size 9 i0 (.string ⟨#[]⟩) 1 16 Tryz.underlying34 hi hz0 hz1 hz2 rfl (Nat.lt_succ_self 0) (.slice A1 xs.length c1) xs.length (cellsT xs) rfl (HO.out.own.alloc _) _ _ 1 1 [.string x] rfl (newT wr _ x) (strOne x) s2 s3 (allocLe HO.out _) ?_; intro v1 w1 hown1 hg1 hat1; have H1 := Lib.hid (HO.out.push hown1 hg1); clear hown1 hg1 hat1))
            go_roundw
            case rel => exact ⟨k + 1, true, by omega, HS, rfl, Lib.hid (by rw [HP.out]; exact hq.out), by rw [HP.out]; exact H1.out, by go_num⟩
            case measure => simp [intOf]; omega
          | false =>
            have HP := Lib.hid (hlay hg hq.out.symm)
            generalize (putAt zs s k).1 = xs at *
            generalize nthT zs k = x at *
            have s2 := sm1 hxl
            have s3 := sm2 hxl
            have s5 := sm3 hxl
            have s6 := sm4 hxl
            clear hcell hgo hlay hmem hstep hx hg H h hl
            have m1 : True := trivial
            go_wp2_with (first | (at_builtin; clear m1; refine wpList_append_any _ rfl (.tmp 31) (.tmp 33) 34 rfl w.heap.size 9 i0 (.string ⟨#[]⟩) 1 16 Tryz.underlying34 hi hz0 hz1 hz2 rfl (Nat.lt_succ_self 0) (.slice A1 xs.length c1) xs.length (cellsT xs) rfl (HO.out.own.alloc _) _ _ 1 1 [.string s] rfl (newT wr _ s) (strOne s) s2 s3 (allocLe HO.out _) ?_; intro v1 w1 hown1 hg1 hat1; have H1 := Lib.hid (HO.out.push hown1 hg1); obtain ⟨A2, c2, rfl, hc21, hc22⟩ := own_form hown1; have HW1 := Lib.hid hown1; have cr1 : w1.cell? ⟨b, off + k, none⟩ = some (.string x) := (H1.out.below.cell (p := ⟨b, off + k, none⟩) hb).trans c0; clear hown1 hg1 hat1) | (at_builtin; refine wpList_append_any _ rfl (.tmp 35) (.tmp 40) 34 rfl w.heap.size 9 i0 (.string ⟨#[]⟩) 1 16 Tryz.underlying34 hi hz0 hz1 hz2 rfl (Nat.lt_succ_self 0) (.slice A2 (xs.length + 1) c2) (xs.length + 1) (cellsT xs ++ [.string s]) rfl (HW1.out.alloc _) _ _ 1 1 [.string x] rfl (newT w1 _ x) (strOne x) s5 s6 (allocLe H1.out _) ?_; intro v2 w2 hown2 hg2 hat2; have H2 := Lib.hid (H1.out.push (s := x) (by rw [List.length_append, cellsT_append]; exact hown2) hg2); clear hown2 hg2 hat2))
            go_roundw
            case rel => exact ⟨k + 1, true, by omega, HS, rfl, Lib.hid (by rw [HP.out]), by rw [HP.out]; exact H2.out, by go_num⟩
            case measure => simp [intOf]; omega
        · have d2 : Op.bytesLess (nthT zs k).toList s.toList = true := by
            rw [less_cfT]
            refine decide_eq_true ?_
            rcases cfT_tot.tri s (nthT zs k) with e | e | e
            · exact absurd e hg
            · exact absurd e.symm hx
            · exact e
          have HP := Lib.hid (hgo (fun hh => absurd hh hg))
          generalize (putAt zs s k).1 = xs at *
          generalize nthT zs k = x at *
          have s2 := sm1 hxl
          have s3 := sm2 hxl
          clear hcell hgo hlay hmem hstep hx hg H h hl c0
          go_wp2_with ((at_builtin; refine wpList_append_any _ rfl (.tmp 35) (.tmp 40) 34 rfl w.heap.size 9 i0 (.string ⟨#[]⟩) 1 16 Tryz.underlying34 hi hz0 hz1 hz2 rfl (Nat.lt_succ_self 0) (.slice A1 xs.length c1) xs.length (cellsT xs) rfl (HO.out.own.alloc _) _ _ 1 1 [.string x] rfl (newT wr _ x) (strOne x) s2 s3 (allocLe HO.out _) ?_; intro v1 w1 hown1 hg1 hat1; have H1 := Lib.hid (HO.out.push hown1 hg1); clear hown1 hg1 hat1))
          go_roundw
          case rel => exact ⟨k + 1, q, by omega, HS, rfl, Lib.hid (by rw [HP.out]; exact hq.out), by rw [HP.out]; exact H1.out, by go_num⟩
          case measure => simp [intOf]; omega
    · obtain rfl : k = n := by omega
      have htk : zs.take k = zs := List.take_of_length_le (by omega)
      have hns := hin.out
      rw [htk] at hns
      have hpe : putL cfT zs s = putEnd cfT s zs := by unfold putL; rw [if_neg hns]
      have hpa : putAt zs s k = putRun cfT s zs := by unfold putAt; rw [htk]
      cases q with
      | true =>
        have hp : putL cfT zs s = (putAt zs s k).1 := by
          rw [hpe]; unfold putEnd
          rw [← hpa, ← hq.out]; exact if_pos rfl
        have HE := Lib.hid (put_endO (w := w) (by rw [hp]; exact H) h.sz hs A)
        generalize (putAt zs s k).1 = xs at *
        clear hp hpe hns htk H h hl
        go_wp2
        go_ret
        exact HE.out
      | false =>
        have hp : putL cfT zs s = (putAt zs s k).1 ++ [s] := by
          rw [hpe]; unfold putEnd
          rw [← hpa, ← hq.out]; exact if_neg (by decide)
        have HP := Lib.hid hp
        have HZ := Lib.hid h.sz
        have s2 := sm1 hxl
        have s3 := sm2 hxl
        clear hpa
        generalize (putAt zs s k).1 = xs at *
        clear hp hpe hns htk H h hl
        go_wp2_with ((at_builtin; refine wpList_append_any _ rfl (.tmp 44) (.tmp 46) 34 rfl w.heap.size 9 i0 (.string ⟨#[]⟩) 1 16 Tryz.underlying34 hi hz0 hz1 hz2 rfl (Nat.lt_succ_self 0) (.slice A1 xs.length c1) xs.length (cellsT xs) rfl (HO.out.own.alloc _) _ _ 1 1 [.string s] rfl (newT wr _ s) (strOne s) s2 s3 (allocLe HO.out _) ?_; intro v1 w1 hown1 hg1 hat1; have H1 := Lib.hid (HO.out.push hown1 hg1); obtain ⟨A2, c2, rfl, hc21, hc22⟩ := own_form hown1; clear hown1 hg1 hat1))
        go_ret
        exact put_endO (by rw [HP.out]; exact H1.out) HZ.out hs A

theorem once_endO {cf : ByteArray → ByteArray → Int} (hT : TotC cf) {w w' : World} {A : Option Addr} {c : Nat} {zs : List ByteArray} (hs : ∀ s ∈ zs, s.size ≤ maxLen)
    (ho : w'.ownsRow w.heap.size 9 1 (.slice A (compB (msort cf zs)).length c) (compB (msort cf zs)).length (cellsT (compB (msort cf zs)))) (hb : Below w.heap.size w w') :
    TellsO none (onceL cf zs) w (.returned (.slice A (compB (msort cf zs)).length c)) w' := by
  have e := once_bytes hT zs
  generalize compB (msort cf zs) = q at *
  subst e
  exact OwnT.tellsO none ⟨ho, hb⟩ fun s h => hs s (((onceL_spec hT zs).2 s).1 h)

theorem once_own (g : Nat) (cf : ByteArray → ByteArray → Int) (hC : CmpFn g cf) (A : Option Addr) (n c : Nat) (zs : List ByteArray) (B : Nat) (w : World) (h : Txt w B A n c zs) (hn : n ≤ 1000) :
    Calls Tryz.prog 63 #[.slice A n c, .func (.func g) #[] #[]] w (TellsO none (onceL cf zs) w) := by
  have H := Lib.hid h
  have HC := Lib.hid hC
  have HN := Lib.hid hn
  clear h hC hn
  go_enter Tryz.func63, Tryz.ntmps63
  go_wp2_with (first
    | (go_at_call 96; refine (iclone_any A n c zs B w H.out HN.out).mono ?_; rintro e w1 ⟨v, rfl, ho1, hb1⟩; obtain ⟨A1, c1, rfl, hc1, hc2⟩ := own_form ho1; have HO1 := Lib.hid ho1; clear ho1 hc1 hc2)
    | (go_at_call 97; refine (sort_any g cf HC.out A1 n c1 zs w.heap.size w1 HO1.out hb1.size H.out.sz HN.out).mono ?_; rintro e w2 ⟨rfl, ho2, hb2⟩; have HO2 := Lib.hid ho2; have hb3 := hb1.trans hb2; clear ho2)
    | (go_at_call 98; refine (compact_any A1 n c1 (msort cf zs) w.heap.size w2 HO2.out hb3.size HN.out).mono ?_; rintro e w3 ⟨rfl, ho3, hb4⟩; have HO3 := Lib.hid ho3; have hb5 := hb3.trans hb4; clear ho3))
  go_ret
  exact once_endO HC.out.tot H.out.sz HO3.out hb5

def ChkO (zs : List ByteArray) (w : World) (e : Ending) (w' : World) : Prop :=
  ∃ A c, e = .returned (.tuple #[.slice A (chkL zs).length c, .int .i64 (chkE zs)]) ∧ Txt w' w'.heap.size A (chkL zs).length c (chkL zs) ∧ Below w.heap.size w w' ∧ ∀ ad, A = some ad → w.heap.size ≤ ad.block

theorem chk_errO {zs : List ByteArray} {w w' : World} {E : Int} (he : chkE zs = E) (h0 : E ≠ 0) (hb : Below w.heap.size w w') : ChkO zs w (.returned (.tuple #[.slice none 0 0, .int .i64 E])) w' := by
  have hl : chkL zs = [] := by unfold chkL; rw [he, if_neg h0]
  unfold ChkO
  rw [hl, he]
  exact ⟨none, 0, rfl, Txt.nil_ _ _, hb, fun ad h => by cases h⟩
theorem chk_okO {zs : List ByteArray} {w w' : World} {A : Option Addr} {c : Nat} (he : chkE zs = 0) (ht : Txt w' w'.heap.size A (onceL cfT zs).length c (onceL cfT zs)) (hb : Below w.heap.size w w') (hf : ∀ ad, A = some ad → w.heap.size ≤ ad.block) : ChkO zs w (.returned (.tuple #[.slice A (onceL cfT zs).length c, .int .i64 0])) w' := by
  have hl : chkL zs = onceL cfT zs := by unfold chkL; rw [if_pos he]
  unfold ChkO
  rw [hl, he]
  exact ⟨A, c, rfl, ht, hb, hf⟩

set_option maxHeartbeats 1000000 in
theorem check_own (A : Option Addr) (n c : Nat) (zs : List ByteArray) (B : Nat) (w : World) (h : Txt w B A n c zs) (hn : n ≤ 1000) :
    Calls Tryz.prog 36 #[.slice A n c] w (ChkO zs w) := by
  have hl := h.len
  have hle := h.le
  have hcap := h.cap
  by_cases h0 : n = 0
  · have HE := Lib.hid (chk_none (zs := zs) (by omega))
    subst h0
    go_enter Tryz.func36, Tryz.ntmps36
    go_wp2
    go_ret2
    exact chk_errO HE.out (by omega) (Below.refl _ _)
  by_cases h64 : 64 < n
  · have HE := Lib.hid (chk_many (zs := zs) (by omega))
    have d1 : ((n : Int) == 0) = false := by rw [beq_eq_false_iff_ne]; omega
    clear hl h
    go_enter Tryz.func36, Tryz.ntmps36
    go_wp2
    go_ret2
    exact chk_errO HE.out (by omega) (Below.refl _ _)
  have hp : 0 < n := by omega
  have hl64 : n ≤ 64 := by omega
  have d1 : ((n : Int) == 0) = false := by rw [beq_eq_false_iff_ne]; omega
  clear h0 h64
  go_enter Tryz.func36, Tryz.ntmps36
  go_wp2
  go_loopw [4, 18] (fun v i wr => ∃ k q : Nat, k ≤ n ∧ Hid (∀ j, j < k → okB (nthT zs j) = true) ∧ v = .int .i64 (szB k zs : Nat) ∧ i = .int .i64 k ∧ wr = w.drewN q) (fun _ i _ => n - (intOf i).toNat)
  case atStart => exact ⟨0, 0, Nat.zero_le _, Lib.hid (fun j hj => absurd hj (by omega)), rfl, rfl, rfl⟩
  case round =>
    obtain ⟨k, q, hk, hall, rfl, rfl, rfl⟩ := hrel
    have hsz := szB_le hall.out
    have HH := Lib.hid h
    have HL := Lib.hid hl
    by_cases hlt : k < n
    · obtain ⟨b, off, rfl, hb, hcell⟩ := h.at_ hp
      have c0 := hcell k hlt
      have hz := h.size hlt
      have HZ := Lib.hid hz
      unfold maxLen at hz
      by_cases hbig : 1024 < (nthT zs k).size
      · have HE := Lib.hid (chk_big (zs := zs) (k := k) (by omega) (by omega) hall.out hbig)
        generalize nthT zs k = s at *
        clear hcell h hl
        go_wp2
        go_ret2
        exact chk_errO HE.out (by omega) (below_drewn (Below.refl _ _) q)
      · cases ho : spOk (nthT zs k) with
        | false =>
          have HE := Lib.hid (chk_name (zs := zs) (k := k) (by omega) (by omega) hall.out (by omega) ho)
          have HO := Lib.hid ho
          generalize nthT zs k = s at *
          clear hcell h hl ho
          go_wp2_with (go_at_call 62; refine (split_any s _ HZ.out).mono ?_; rw [HO.out]; rintro e w1 ⟨rfl, n1, rfl⟩)
          go_ret2
          exact chk_errO HE.out (by omega) (by first | exact below_drewn (below_drewn (Below.refl _ _) _) _ | exact below_drewn (Below.refl _ _) _)
        | true =>
          have hok : okB (nthT zs k) = true := by unfold okB; rw [ho, decide_eq_true (by omega)]; rfl
          have HK := Lib.hid hok
          have HO := Lib.hid ho
          have HS := Lib.hid (show szB (k + 1) zs = szB k zs + (nthT zs k).size from rfl)
          generalize hx : nthT zs k = s at *
          have HX := Lib.hid hx
          clear hcell h hl ho hok hx
          go_wp2_with (go_at_call 62; refine (split_any s _ HZ.out).mono ?_; rw [HO.out]; rintro e w1 ⟨rfl, n1, rfl⟩)
          go_roundw
          case rel => exact ⟨k + 1, _, by omega, Lib.hid (fun j hj => by
            rcases Nat.lt_or_ge j k with e | e
            · exact hall.out j e
            · obtain rfl : j = k := by omega
              rw [HX.out]; exact HK.out), by rw [HS.out]; go_num, by go_num, by first | rfl | exact World.drewN_drewN _ _ _⟩
          case measure => simp [intOf]; omega
    · obtain rfl : k = n := by omega
      have hall2 : ∀ j, j < zs.length → okB (nthT zs j) = true := fun j hj => hall.out j (by omega)
      by_cases hbig : 8192 < szB k zs
      · have HE := Lib.hid (chk_total (zs := zs) (by omega) (by omega) hall2 (by rw [hl]; exact hbig))
        clear hl h hall2
        go_wp2
        go_ret2
        exact chk_errO HE.out (by omega) (below_drewn (Below.refl _ _) q)
      · have HE := Lib.hid (chk_good (zs := zs) (by omega) (by omega) hall2 (by rw [hl]; exact hbig))
        clear hl h hall2
        go_wp2_with (go_at_call 63; refine (once_own _ cfT cmpT A k c zs B _ (HH.out.drewN q) hn).mono ?_; rintro e w1 ⟨A1, c1, rfl, hT, hb1, hfr⟩; have HT := Lib.hid (And.intro hT hfr); clear hT hfr)
        go_ret2
        exact chk_okO HE.out HT.out.1 (below_drewn0 hb1) (fun ad ha => (HT.out.2 ad ha).elim (fun h => by simpa using h) (fun h => by cases h))

set_option maxHeartbeats 1000000 in
theorem rcheck_own (A : Option Addr) (n c : Nat) (zs : List ByteArray) (w : World) (h : Txt w w.heap.size A n c zs) (hn : n ≤ 1000) :
    Calls Tryz.prog 39 #[.slice A n c] w (ChkO zs w) := by
  have hl := h.len
  have hle := h.le
  have hcap := h.cap
  by_cases h0 : n = 0
  · have HE := Lib.hid (chk_none (zs := zs) (by omega))
    subst h0
    go_enter Tryz.func39, Tryz.ntmps39
    go_wp2
    go_ret2
    exact chk_errO HE.out (by omega) (Below.refl _ _)
  by_cases h64 : 64 < n
  · have HE := Lib.hid (chk_many (zs := zs) (by omega))
    have d1 : ((n : Int) == 0) = false := by rw [beq_eq_false_iff_ne]; omega
    clear hl h
    go_enter Tryz.func39, Tryz.ntmps39
    go_wp2
    go_ret2
    exact chk_errO HE.out (by omega) (Below.refl _ _)
  have hp : 0 < n := by omega
  have hl64 : n ≤ 64 := by omega
  have d1 : ((n : Int) == 0) = false := by rw [beq_eq_false_iff_ne]; omega
  clear h0 h64
  go_enter Tryz.func39, Tryz.ntmps39
  go_wp2
  go_loopw [4, 5, 6] (fun v o i wr => ∃ (k c1 : Nat) (A1 : Option Addr), k ≤ n ∧ Hid (∀ j, j < k → okB (nthT zs j) = true) ∧ v = .int .i64 (szB k zs : Nat) ∧ i = .int .i64 k ∧ o = .slice A1 (putAll cfT (zs.take k)).length c1 ∧ Hid (Txt wr wr.heap.size A1 (putAll cfT (zs.take k)).length c1 (putAll cfT (zs.take k)) ∧ ∀ ad, A1 = some ad → w.heap.size ≤ ad.block) ∧ Below w.heap.size w wr) (fun _ _ i _ => n - (intOf i).toNat)
  case atStart => exact ⟨0, 0, none, Nat.zero_le _, Lib.hid (fun j hj => absurd hj (by omega)), rfl, rfl, rfl, Lib.hid ⟨Txt.nil_ _ _, fun ad h => by cases h⟩, Below.refl _ _⟩
  case round =>
    obtain ⟨k, c1, A1, hk, hall, rfl, rfl, rfl, HT, hbw⟩ := hrel
    have hsz := szB_le hall.out
    have HH := Lib.hid h
    have HL := Lib.hid hl
    by_cases hlt : k < n
    · obtain ⟨b, off, rfl, hb, hcell⟩ := h.at_ hp
      have c0 := hcell k hlt
      have cr := (hbw.cell (p := ⟨b, off + k, none⟩) hb).trans c0
      have hz := h.size hlt
      have HZ := Lib.hid hz
      unfold maxLen at hz
      by_cases hbig : 1024 < (nthT zs k).size
      · have HE := Lib.hid (chk_big (zs := zs) (k := k) (by omega) (by omega) hall.out hbig)
        generalize nthT zs k = s at *
        generalize putAll cfT (zs.take k) = xs at *
        clear hcell h hl c0
        go_wp2
        go_ret2
        exact chk_errO HE.out (by omega) hbw
      · cases ho : spOk (nthT zs k) with
        | false =>
          have HE := Lib.hid (chk_name (zs := zs) (k := k) (by omega) (by omega) hall.out (by omega) ho)
          have HO := Lib.hid ho
          generalize nthT zs k = s at *
          generalize putAll cfT (zs.take k) = xs at *
          clear hcell h hl ho c0
          go_wp2_with (go_at_call 71; refine (rsplit_any s _ HZ.out).mono ?_; rw [HO.out]; rintro e w1 ⟨rfl, n1, rfl⟩)
          go_ret2
          exact chk_errO HE.out (by omega) (below_drewn hbw _)
        | true =>
          have hok : okB (nthT zs k) = true := by unfold okB; rw [ho, decide_eq_true (by omega)]; rfl
          have HK := Lib.hid hok
          have HO := Lib.hid ho
          have HS := Lib.hid (show szB (k + 1) zs = szB k zs + (nthT zs k).size from rfl)
          have HP := Lib.hid (chk_run zs k (by omega))
          have HN := Lib.hid (show (putAll cfT (zs.take k)).length ≤ 1000 from Nat.le_trans (putAll_length _) (by rw [List.length_take]; omega))
          generalize hx : nthT zs k = s at *
          generalize putAll cfT (zs.take k) = xs at *
          have HX := Lib.hid hx
          clear hcell h hl ho hok hx c0
          go_wp2_with (first
            | (go_at_call 71; refine (rsplit_any s _ HZ.out).mono ?_; rw [HO.out]; rintro e w1 ⟨rfl, n1, rfl⟩; have HT1 := Lib.hid (HT.out.1.drewN n1); have hb1 := below_drewn hbw n1)
            | (go_at_call 72; refine (put_own A1 xs.length c1 xs s wr.heap.size (wr.drewN n1) HT1.out (Nat.le_refl _) HZ.out HN.out).mono ?_; rintro e w2 ⟨A2, c2, rfl, hT2, hb2, hf2⟩; have HT2 := Lib.hid (And.intro hT2 (show ∀ ad, A2 = some ad → w.heap.size ≤ ad.block from fun ad ha => (hf2 ad ha).elim (fun h => Nat.le_trans hbw.size (by simpa using h)) (HT.out.2 ad))); have hb3 := hb1.trans (hb2.mono hbw.size); clear hT2 hf2))
          go_roundw
          case rel => exact ⟨k + 1, c2, A2, by omega, Lib.hid (fun j hj => by
            rcases Nat.lt_or_ge j k with e | e
            · exact hall.out j e
            · obtain rfl : j = k := by omega
              rw [HX.out]; exact HK.out), by rw [HS.out]; go_num, by go_num, by rw [← HP.out], by rw [← HP.out]; exact HT2, hb3⟩
          case measure => simp [intOf]; omega
    · obtain rfl : k = n := by omega
      have hall2 : ∀ j, j < zs.length → okB (nthT zs j) = true := fun j hj => hall.out j (by omega)
      by_cases hbig : 8192 < szB k zs
      · have HE := Lib.hid (chk_total (zs := zs) (by omega) (by omega) hall2 (by rw [hl]; exact hbig))
        clear hl h hall2
        generalize putAll cfT (zs.take k) = xs at *
        go_wp2
        go_ret2
        exact chk_errO HE.out (by omega) hbw
      · have HE := Lib.hid (chk_good (zs := zs) (by omega) (by omega) hall2 (by rw [hl]; exact hbig))
        have hp2 : putAll cfT (zs.take k) = onceL cfT zs := by rw [List.take_of_length_le (by omega), once_put cfT_tot]
        rw [hp2] at HT ⊢
        clear hl h hall2 hp2
        generalize hxx : onceL cfT zs = xs at *
        have HX := Lib.hid hxx
        clear hxx
        go_wp2
        go_ret2
        have e := HX.out
        subst e
        exact chk_okO HE.out HT.out.1 hbw HT.out.2


end Go.Proofs.YtobbkhncnokpiaaGreat
