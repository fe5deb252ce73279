/-
  LAYER 4: item.Check, and the document's Check: contracts.
-/
import Derived.Test.YtggjimpnimlmmaaItemOnce2
set_option linter.unusedVariables false
set_option linter.unusedSimpArgs false
namespace Go.Proofs.Ytggjimpnimlmmaa
open Go.RowKit

/-! ### Plain -/
def okB (s : ByteArray) : Bool := decide (s.size ≤ 1024) && spOk s
def szB : Nat → List ByteArray → Nat
  | 0, _ => 0
  | k + 1, zs => szB k zs + (nthT zs k).size
def firstBad (zs : List ByteArray) : Int := match zs.find? fun s => !okB s with
  | none => 0
  | some s => if 1024 < s.size then 22 else 23
def chkE (zs : List ByteArray) : Int :=
  if zs.length = 0 then 1 else if 64 < zs.length then 22 else if firstBad zs ≠ 0 then firstBad zs else if 8192 < szB zs.length zs then 22 else 0
def chkL (zs : List ByteArray) : List ByteArray := if chkE zs = 0 then onceL cfT zs else []

theorem split_at {zs : List ByteArray} {k : Nat} (h : k < zs.length) : zs = zs.take k ++ nthT zs k :: zs.drop (k + 1) := by
  rw [nthT_get h, List.getElem_cons_drop, List.take_append_drop]
theorem take_all {p : ByteArray → Prop} {zs : List ByteArray} {k : Nat} (h : ∀ j, j < k → p (nthT zs j)) : ∀ s ∈ zs.take k, p s := by
  intro s hs
  obtain ⟨j, hj, rfl⟩ := List.getElem_of_mem hs
  rw [List.length_take] at hj
  rw [List.getElem_take, ← nthT_get (by omega)]
  exact h j (by omega)
theorem find_at {zs : List ByteArray} {k : Nat} (h : k < zs.length) (hall : ∀ j, j < k → okB (nthT zs j) = true) (hb : okB (nthT zs k) = false) : zs.find? (fun s => !okB s) = some (nthT zs k) := by
  rw [List.find?_eq_some_iff_append]
  refine ⟨by rw [hb]; rfl, zs.take k, zs.drop (k + 1), split_at h, fun a ha => ?_⟩
  rw [take_all (p := fun s => okB s = true) hall a ha]; rfl
theorem chk_none {zs : List ByteArray} (h : zs.length = 0) : chkE zs = 1 := by unfold chkE; rw [if_pos h]
theorem chk_many {zs : List ByteArray} (h : 64 < zs.length) : chkE zs = 22 := by unfold chkE; rw [if_neg (by omega), if_pos h]
theorem chk_big {zs : List ByteArray} {k : Nat} (hl : zs.length ≤ 64) (h : k < zs.length) (hall : ∀ j, j < k → okB (nthT zs j) = true) (hb : 1024 < (nthT zs k).size) : chkE zs = 22 := by
  have hf : firstBad zs = 22 := by
    unfold firstBad
    rw [find_at h hall (by unfold okB; rw [decide_eq_false (by omega)]; rfl)]
    exact if_pos hb
  unfold chkE
  rw [if_neg (by omega), if_neg (by omega), hf, if_pos (by omega)]
theorem chk_name {zs : List ByteArray} {k : Nat} (hl : zs.length ≤ 64) (h : k < zs.length) (hall : ∀ j, j < k → okB (nthT zs j) = true) (hb : (nthT zs k).size ≤ 1024) (hs : spOk (nthT zs k) = false) : chkE zs = 23 := by
  have hf : firstBad zs = 23 := by
    unfold firstBad
    rw [find_at h hall (by unfold okB; rw [hs, Bool.and_false])]
    exact if_neg (by omega)
  unfold chkE
  rw [if_neg (by omega), if_neg (by omega), hf, if_pos (by omega)]
theorem bad_none {zs : List ByteArray} (hall : ∀ j, j < zs.length → okB (nthT zs j) = true) : firstBad zs = 0 := by
  have : zs.find? (fun s => !okB s) = none := by
    rw [List.find?_eq_none]
    intro s hs
    have := take_all (p := fun s => okB s = true) hall s (by rw [List.take_length]; exact hs)
    rw [this]; simp
  unfold firstBad
  rw [this]
theorem chk_total {zs : List ByteArray} (h0 : 0 < zs.length) (hl : zs.length ≤ 64) (hall : ∀ j, j < zs.length → okB (nthT zs j) = true) (hb : 8192 < szB zs.length zs) : chkE zs = 22 := by
  unfold chkE
  rw [if_neg (by omega), if_neg (by omega), bad_none hall, if_neg (by omega), if_pos hb]
theorem chk_good {zs : List ByteArray} (h0 : 0 < zs.length) (hl : zs.length ≤ 64) (hall : ∀ j, j < zs.length → okB (nthT zs j) = true) (hb : ¬ 8192 < szB zs.length zs) : chkE zs = 0 := by
  unfold chkE
  rw [if_neg (by omega), if_neg (by omega), bad_none hall, if_neg (by omega), if_neg hb]
theorem szB_le {zs : List ByteArray} {k : Nat} (hall : ∀ j, j < k → okB (nthT zs j) = true) : szB k zs ≤ k * 1024 := by
  induction k with
  | zero => exact Nat.le_refl _
  | succ k ih =>
    have h1 := ih fun j hj => hall j (by omega)
    have h2 := hall k (by omega)
    unfold okB at h2
    simp at h2
    unfold szB; omega

/-! ### What both tell -/
def ChkT (zs : List ByteArray) (w : World) (e : Ending) (w' : World) : Prop :=
  ∃ A c, e = .returned (.tuple #[.slice A (chkL zs).length c, .int .i64 (chkE zs)]) ∧ Txt w' w'.heap.size A (chkL zs).length c (chkL zs) ∧ Below w.heap.size w w'

theorem chk_err {zs : List ByteArray} {w w' : World} {E : Int} (he : chkE zs = E) (h0 : E ≠ 0) (hb : Below w.heap.size w w') : ChkT zs w (.returned (.tuple #[.slice none 0 0, .int .i64 E])) w' := by
  have hl : chkL zs = [] := by unfold chkL; rw [he, if_neg h0]
  unfold ChkT
  rw [hl, he]
  exact ⟨none, 0, rfl, Txt.nil_ _ _, hb⟩
theorem chk_ok {zs : List ByteArray} {w w' : World} {A : Option Addr} {c : Nat} (he : chkE zs = 0) (ht : Txt w' w'.heap.size A (onceL cfT zs).length c (onceL cfT zs)) (hb : Below w.heap.size w w') : ChkT zs w (.returned (.tuple #[.slice A (onceL cfT zs).length c, .int .i64 0])) w' := by
  have hl : chkL zs = onceL cfT zs := by unfold chkL; rw [if_pos he]
  unfold ChkT
  rw [hl, he]
  exact ⟨A, c, rfl, ht, hb⟩

/-! ### item.Check -/
theorem check_any (A : Option Addr) (n c : Nat) (zs : List ByteArray) (B : Nat) (w : World) (h : Txt w B A n c zs) (hn : n ≤ 1000) :
    Calls Try.prog 16 #[.slice A n c] w (ChkT zs w) := by
  have hl := h.len
  have hle := h.le
  have hcap := h.cap
  by_cases h0 : n = 0
  · have HE := Lib.hid (chk_none (zs := zs) (by omega))
    subst h0
    go_enter Try.func16, Try.ntmps16
    go_wp2
    go_ret2
    exact chk_err HE.out (by omega) (Below.refl _ _)
  by_cases h64 : 64 < n
  · have HE := Lib.hid (chk_many (zs := zs) (by omega))
    have d1 : ((n : Int) == 0) = false := by rw [beq_eq_false_iff_ne]; omega
    clear hl h
    go_enter Try.func16, Try.ntmps16
    go_wp2
    go_ret2
    exact chk_err HE.out (by omega) (Below.refl _ _)
  have hp : 0 < n := by omega
  have hl64 : n ≤ 64 := by omega
  have d1 : ((n : Int) == 0) = false := by rw [beq_eq_false_iff_ne]; omega
  clear h0 h64
  go_enter Try.func16, Try.ntmps16
  go_wp2
  go_loopw [4, 18] (fun v i wr => ∃ k q : Nat, k ≤ n ∧ Hid (∀ j, j < k → okB (nthT zs j) = true) ∧ v = .int .i64 (szB k zs : Nat) ∧ i = .int .i64 k ∧ wr = w.drewN q) (fun _ i _ => n - (intOf i).toNat)
  case atStart => exact ⟨0, 0, Nat.zero_le _, Lib.hid (fun j hj => absurd hj (by omega)), rfl, rfl, rfl⟩
  case round =>
    obtain ⟨k, q, hk, hall, rfl, rfl, rfl⟩ := hrel
    have hsz := szB_le hall.out
    have HH := Lib.hid h
    have HL := Lib.hid hl
    by_cases hlt : k < n
    · obtain ⟨b, off, rfl, hb, hcell⟩ := h.at_ hp
      have c0 := hcell k hlt
      have hz := h.size hlt
      have HZ := Lib.hid hz
      unfold maxLen at hz
      by_cases hbig : 1024 < (nthT zs k).size
      · have HE := Lib.hid (chk_big (zs := zs) (k := k) (by omega) (by omega) hall.out hbig)
        generalize nthT zs k = s at *
        clear hcell h hl
        go_wp2
        go_ret2
        exact chk_err HE.out (by omega) (below_drewn (Below.refl _ _) q)
      · cases ho : spOk (nthT zs k) with
        | false =>
          have HE := Lib.hid (chk_name (zs := zs) (k := k) (by omega) (by omega) hall.out (by omega) ho)
          have HO := Lib.hid ho
          generalize nthT zs k = s at *
          clear hcell h hl ho
          go_wp2_with (go_at_call 9; refine (split_any s _ HZ.out).mono ?_; rw [HO.out]; rintro e w1 ⟨rfl, n1, rfl⟩)
          go_ret2
          exact chk_err HE.out (by omega) (by first | exact below_drewn (below_drewn (Below.refl _ _) _) _ | exact below_drewn (Below.refl _ _) _)
        | true =>
          have hok : okB (nthT zs k) = true := by unfold okB; rw [ho, decide_eq_true (by omega)]; rfl
          have HK := Lib.hid hok
          have HO := Lib.hid ho
          have HS := Lib.hid (show szB (k + 1) zs = szB k zs + (nthT zs k).size from rfl)
          generalize hx : nthT zs k = s at *
          have HX := Lib.hid hx
          clear hcell h hl ho hok hx
          go_wp2_with (go_at_call 9; refine (split_any s _ HZ.out).mono ?_; rw [HO.out]; rintro e w1 ⟨rfl, n1, rfl⟩)
          go_roundw
          case rel => exact ⟨k + 1, _, by omega, Lib.hid (fun j hj => by
            rcases Nat.lt_or_ge j k with e | e
            · exact hall.out j e
            · obtain rfl : j = k := by omega
              rw [HX.out]; exact HK.out), by rw [HS.out]; go_num, by go_num, by first | rfl | exact World.drewN_drewN _ _ _⟩
          case measure => simp [intOf]; omega
    · obtain rfl : k = n := by omega
      have hall2 : ∀ j, j < zs.length → okB (nthT zs j) = true := fun j hj => hall.out j (by omega)
      by_cases hbig : 8192 < szB k zs
      · have HE := Lib.hid (chk_total (zs := zs) (by omega) (by omega) hall2 (by rw [hl]; exact hbig))
        clear hl h hall2
        go_wp2
        go_ret2
        exact chk_err HE.out (by omega) (below_drewn (Below.refl _ _) q)
      · have HE := Lib.hid (chk_good (zs := zs) (by omega) (by omega) hall2 (by rw [hl]; exact hbig))
        clear hl h hall2
        go_wp2_with (go_at_call 30; refine (once_any _ cfT cmpT A k c zs B _ (HH.out.drewN q) hn).mono ?_; rintro e w1 ⟨A1, c1, rfl, hT, hb1⟩; have HT := Lib.hid hT; clear hT)
        go_ret2
        exact chk_ok HE.out HT.out (below_drewn0 hb1)

/-! ### the document's Check -/
theorem chk_run (zs : List ByteArray) (k : Nat) (h : k < zs.length) : putL cfT (putAll cfT (zs.take k)) (nthT zs k) = putAll cfT (zs.take (k + 1)) := by
  rw [take_nthT h, putAll_snoc]

set_option maxHeartbeats 1000000 in
theorem rcheck_any (A : Option Addr) (n c : Nat) (zs : List ByteArray) (w : World) (h : Txt w w.heap.size A n c zs) (hn : n ≤ 1000) :
    Calls Try.prog 17 #[.slice A n c] w (ChkT zs w) := by
  have hl := h.len
  have hle := h.le
  have hcap := h.cap
  by_cases h0 : n = 0
  · have HE := Lib.hid (chk_none (zs := zs) (by omega))
    subst h0
    go_enter Try.func17, Try.ntmps17
    go_wp2
    go_ret2
    exact chk_err HE.out (by omega) (Below.refl _ _)
  by_cases h64 : 64 < n
  · have HE := Lib.hid (chk_many (zs := zs) (by omega))
    have d1 : ((n : Int) == 0) = false := by rw [beq_eq_false_iff_ne]; omega
    clear hl h
    go_enter Try.func17, Try.ntmps17
    go_wp2
    go_ret2
    exact chk_err HE.out (by omega) (Below.refl _ _)
  have hp : 0 < n := by omega
  have hl64 : n ≤ 64 := by omega
  have d1 : ((n : Int) == 0) = false := by rw [beq_eq_false_iff_ne]; omega
  clear h0 h64
  go_enter Try.func17, Try.ntmps17
  go_wp2
  go_loopw [4, 5, 6] (fun v o i wr => ∃ (k c1 : Nat) (A1 : Option Addr), k ≤ n ∧ Hid (∀ j, j < k → okB (nthT zs j) = true) ∧ v = .int .i64 (szB k zs : Nat) ∧ i = .int .i64 k ∧ o = .slice A1 (putAll cfT (zs.take k)).length c1 ∧ Hid (Txt wr wr.heap.size A1 (putAll cfT (zs.take k)).length c1 (putAll cfT (zs.take k))) ∧ Below w.heap.size w wr) (fun _ _ i _ => n - (intOf i).toNat)
  case atStart => exact ⟨0, 0, none, Nat.zero_le _, Lib.hid (fun j hj => absurd hj (by omega)), rfl, rfl, rfl, Lib.hid (Txt.nil_ _ _), Below.refl _ _⟩
  case round =>
    obtain ⟨k, c1, A1, hk, hall, rfl, rfl, rfl, HT, hbw⟩ := hrel
    have hsz := szB_le hall.out
    have HH := Lib.hid h
    have HL := Lib.hid hl
    by_cases hlt : k < n
    · obtain ⟨b, off, rfl, hb, hcell⟩ := h.at_ hp
      have c0 := hcell k hlt
      have cr := (hbw.cell (p := ⟨b, off + k, none⟩) hb).trans c0
      have hz := h.size hlt
      have HZ := Lib.hid hz
      unfold maxLen at hz
      by_cases hbig : 1024 < (nthT zs k).size
      · have HE := Lib.hid (chk_big (zs := zs) (k := k) (by omega) (by omega) hall.out hbig)
        generalize nthT zs k = s at *
        generalize putAll cfT (zs.take k) = xs at *
        clear hcell h hl c0
        go_wp2
        go_ret2
        exact chk_err HE.out (by omega) hbw
      · cases ho : spOk (nthT zs k) with
        | false =>
          have HE := Lib.hid (chk_name (zs := zs) (k := k) (by omega) (by omega) hall.out (by omega) ho)
          have HO := Lib.hid ho
          generalize nthT zs k = s at *
          generalize putAll cfT (zs.take k) = xs at *
          clear hcell h hl ho c0
          go_wp2_with (go_at_call 10; refine (rsplit_any s _ HZ.out).mono ?_; rw [HO.out]; rintro e w1 ⟨rfl, n1, rfl⟩)
          go_ret2
          exact chk_err HE.out (by omega) (below_drewn hbw _)
        | true =>
          have hok : okB (nthT zs k) = true := by unfold okB; rw [ho, decide_eq_true (by omega)]; rfl
          have HK := Lib.hid hok
          have HO := Lib.hid ho
          have HS := Lib.hid (show szB (k + 1) zs = szB k zs + (nthT zs k).size from rfl)
          have HP := Lib.hid (chk_run zs k (by omega))
          have HN := Lib.hid (show (putAll cfT (zs.take k)).length ≤ 1000 from Nat.le_trans (putAll_length _) (by rw [List.length_take]; omega))
          generalize hx : nthT zs k = s at *
          generalize putAll cfT (zs.take k) = xs at *
          have HX := Lib.hid hx
          clear hcell h hl ho hok hx c0
          go_wp2_with (first
            | (go_at_call 10; refine (rsplit_any s _ HZ.out).mono ?_; rw [HO.out]; rintro e w1 ⟨rfl, n1, rfl⟩; have HT1 := Lib.hid (HT.out.drewN n1); have hb1 := below_drewn hbw n1)
            | (go_at_call 32; refine (put_any A1 xs.length c1 xs s wr.heap.size (wr.drewN n1) HT1.out (Nat.le_refl _) HZ.out HN.out).mono ?_; rintro e w2 ⟨A2, c2, rfl, hT2, hb2⟩; have HT2 := Lib.hid hT2; have hb3 := hb1.trans (hb2.mono hbw.size); clear hT2))
          go_roundw
          case rel => exact ⟨k + 1, c2, A2, by omega, Lib.hid (fun j hj => by
            rcases Nat.lt_or_ge j k with e | e
            · exact hall.out j e
            · obtain rfl : j = k := by omega
              rw [HX.out]; exact HK.out), by rw [HS.out]; go_num, by go_num, by rw [← HP.out], by rw [← HP.out]; exact HT2, hb3⟩
          case measure => simp [intOf]; omega
    · obtain rfl : k = n := by omega
      have hall2 : ∀ j, j < zs.length → okB (nthT zs j) = true := fun j hj => hall.out j (by omega)
      by_cases hbig : 8192 < szB k zs
      · have HE := Lib.hid (chk_total (zs := zs) (by omega) (by omega) hall2 (by rw [hl]; exact hbig))
        clear hl h hall2
        generalize putAll cfT (zs.take k) = xs at *
        go_wp2
        go_ret2
        exact chk_err HE.out (by omega) hbw
      · have HE := Lib.hid (chk_good (zs := zs) (by omega) (by omega) hall2 (by rw [hl]; exact hbig))
        have hp2 : putAll cfT (zs.take k) = onceL cfT zs := by rw [List.take_of_length_le (by omega), once_put cfT_tot]
        rw [hp2] at HT ⊢
        clear hl h hall2 hp2
        generalize hxx : onceL cfT zs = xs at *
        have HX := Lib.hid hxx
        clear hxx
        go_wp2
        go_ret2
        have e := HX.out
        subst e
        exact chk_ok HE.out HT.out hbw

end Go.Proofs.Ytggjimpnimlmmaa
