/-
  LAYER 4: Fields, Value, Has, and the document's own answers: contracts.
-/
import Derived.Test.YtggjimpnimlmmaaItemCheck
import Derived.OwnWalk
set_option linter.unusedVariables false
set_option linter.unusedSimpArgs false
namespace Go.Proofs.Ytggjimpnimlmmaa
open Go.RowKit

/-! ### item.Fields -/
/-- The fields of the first k texts, then empty ones. -/
def fillF (n k : Nat) (zs : List ByteArray) : List ByteArray := (zs.take k).map spF ++ List.replicate (n - k) ⟨#[]⟩
theorem fillF_length {n k : Nat} {zs : List ByteArray} (hl : zs.length = n) (hk : k ≤ n) : (fillF n k zs).length = n := by
  unfold fillF; rw [List.length_append, List.length_map, List.length_take, List.length_replicate]; omega
theorem fillF_zero (n : Nat) (zs : List ByteArray) : fillF n 0 zs = List.replicate n ⟨#[]⟩ := by unfold fillF; simp
theorem fillF_full {n : Nat} {zs : List ByteArray} (hl : zs.length = n) : fillF n n zs = zs.map spF := by unfold fillF; rw [List.take_of_length_le (by omega), Nat.sub_self]; simp
theorem fillF_set {n k : Nat} {zs : List ByteArray} (hl : zs.length = n) (hk : k < n) : (cellsT (fillF n k zs)).set k (.string (spF (nthT zs k))) = cellsT (fillF n (k + 1) zs) := by
  unfold fillF
  have e : ((zs.take k).map spF).length = k := by rw [List.length_map, List.length_take]; omega
  rw [cellsT_append, cellsT_append, List.set_append_right _ _ (by rw [cellsT_length, e]; exact Nat.le_refl _), cellsT_length, e, Nat.sub_self, show n - k = (n - (k + 1)) + 1 by omega, List.replicate_succ,
    take_nthT (by omega), List.map_append, cellsT_append, List.append_assoc]
  rfl

set_option maxHeartbeats 1000000 in
theorem fields_any (A : Option Addr) (n c : Nat) (zs : List ByteArray) (w : World) (h : Txt w w.heap.size A n c zs) (hn : n ≤ 1000) :
    Calls Try.prog 21 #[.slice A n c] w (Tells (onceL cfT (zs.map spF)) w) := by
  obtain ⟨i0, hi, hz0, hz1, hz2⟩ := info_parts strInfo
  have hl := h.len
  have hle := h.le
  have hcap := h.cap
  have hb2 : i0.bytes * n ≤ 281474976710656 := by rw [hz2]; omega
  have hm3 : n ≤ maxLen := by unfold maxLen; omega
  go_enter Try.func21, Try.ntmps21
  go_wp2_with (at_make; refine wpList_make_full _ rfl _ _ 27 rfl w.heap.size 9 i0 (.string ⟨#[]⟩) 1 Try.underlying27 hi hz0 hz1 _ _ _ _ n rfl rfl rfl rfl hb2 hm3 (Nat.le_refl _) ?_; intro w1 hown1 hg1)
  have hst : (madeCells (Value.string ⟨#[]⟩).cells n).toList = cellsT (fillF n 0 zs) := by
    show (madeCells #[Value.string ⟨#[]⟩] n).toList = _
    rw [toList_madeCells_one, fillF_zero]; simp [cellsT]
  have hb1 : Below w.heap.size w w1 := (Below.refl _ _).grown hg1 (Nat.le_refl _) (by simp)
  have hown2 : w1.ownsRow w.heap.size 9 1 (.slice (some ⟨w.heap.size, 0, none⟩) n n) n (cellsT (fillF n 0 zs)) := by
    rw [← hst]
    simpa using hown1
  clear hst hown1 hg1
  go_loopw [4, 5, 11] (fun _ _ i wr => ∃ k : Nat, k ≤ n ∧ i = .int .i64 k ∧ wr.ownsRow w.heap.size 9 1 (.slice (some ⟨w.heap.size, 0, none⟩) n n) n (cellsT (fillF n k zs)) ∧ Below w.heap.size w wr) (fun _ _ i _ => n - (intOf i).toNat)
  case atStart => exact ⟨0, Nat.zero_le _, rfl, hown2, hb1⟩
  case round =>
    obtain ⟨k, hk, rfl, hown, hbw⟩ := hrel
    have HH := Lib.hid h
    have HL := Lib.hid hl
    by_cases hlt : k < n
    · obtain ⟨b, off, rfl, hb, hcell⟩ := h.at_ (by omega)
      have c0 := hcell k hlt
      have cr := (hbw.cell (p := ⟨b, off + k, none⟩) hb).trans c0
      have HZ := Lib.hid (h.size hlt)
      have q1 : wr.cell? ⟨w.heap.size, k, none⟩ = _ := hown.cellAt k (by omega)
      rw [cellsT_get (by rw [fillF_length hl hk]; exact hlt)] at q1
      have q2 := hown.frozenAt k
      have HO := Lib.hid (hown.stored k (.string (spF (nthT zs k)))).1
      rw [fillF_set hl hlt] at HO
      generalize nthT zs k = s at *
      generalize nthT (fillF n k zs) k = s0 at *
      clear hcell h hl c0 hown
      go_wp2_with (go_at_call 13; refine (field_any s _ HZ.out).mono ?_; rintro e w2 ⟨rfl, n1, rfl⟩)
      go_roundw
      case rel => exact ⟨k + 1, by omega, by go_num, HO.out, below_drewn (hbw.setCell (Nat.le_refl _) _) n1⟩
      case measure => simp [intOf]; omega
    · obtain rfl : k = n := by omega
      rw [fillF_full hl] at hown
      have hT : Txt wr wr.heap.size (some ⟨w.heap.size, 0, none⟩) k k (zs.map spF) := Txt.of_own hown (Nat.le_refl _) hm3 (fun s hs => by
        obtain ⟨x, hx, rfl⟩ := List.mem_map.1 hs
        exact Nat.le_trans (spF_size x) (h.sz x hx))
      have HT := Lib.hid hT
      clear hT hown h hl
      go_wp2_with (go_at_call 30; refine (once_any _ cfT cmpT _ k k (zs.map spF) _ wr HT.out hn).mono ?_; rintro e w2 ⟨A2, c2, rfl, hT2, hb2⟩; have HT2 := Lib.hid hT2; clear hT2)
      go_ret
      exact ⟨A2, c2, rfl, HT2.out, hbw.trans (hb2.mono hbw.size)⟩

/-! ### Value -/
def isOf (f s : ByteArray) : Bool := spOk s && decide (spF s = f)
def valF (zs : List ByteArray) (f : ByteArray) : Option ByteArray := zs.find? (isOf f)
def valV (zs : List ByteArray) (f : ByteArray) : ByteArray := match valF zs f with
  | some s => spV s
  | none => ⟨#[]⟩
def valB (zs : List ByteArray) (f : ByteArray) : Bool := (valF zs f).isSome
theorem val_at {f : ByteArray} {zs : List ByteArray} {k : Nat} (h : k < zs.length) (hall : ∀ j, j < k → isOf f (nthT zs j) = false) (hk : isOf f (nthT zs k) = true) : valV zs f = spV (nthT zs k) ∧ valB zs f = true := by
  have hf : valF zs f = some (nthT zs k) := by
    unfold valF
    rw [List.find?_eq_some_iff_append]
    refine ⟨hk, zs.take k, zs.drop (k + 1), split_at h, fun a ha => ?_⟩
    rw [take_all (p := fun s => isOf f s = false) hall a ha]; rfl
  unfold valV valB
  rw [hf]
  exact ⟨rfl, rfl⟩
theorem val_no {f : ByteArray} {zs : List ByteArray} (hall : ∀ j, j < zs.length → isOf f (nthT zs j) = false) : valV zs f = ⟨#[]⟩ ∧ valB zs f = false := by
  have hf : valF zs f = none := by
    unfold valF
    rw [List.find?_eq_none]
    intro s hs
    have := take_all (p := fun s => isOf f s = false) hall s (by rw [List.take_length]; exact hs)
    rw [this]; simp
  unfold valV valB
  rw [hf]
  exact ⟨rfl, rfl⟩

theorem value_any (A : Option Addr) (n c : Nat) (zs : List ByteArray) (f : ByteArray) (B : Nat) (w : World) (h : Txt w B A n c zs) :
    Calls Try.prog 19 #[.slice A n c, .string f] w fun e w' => e = .returned (.tuple #[.string (valV zs f), .bool (valB zs f)]) ∧ Drew w w' := by
  have hl := h.len
  have hle := h.le
  have hcap := h.cap
  go_enter Try.func19, Try.ntmps19
  go_wp2
  go_loopw [13] (fun i wr => ∃ k q : Nat, k ≤ n ∧ Hid (∀ j, j < k → isOf f (nthT zs j) = false) ∧ i = .int .i64 k ∧ wr = w.drewN q) (fun i _ => n - (intOf i).toNat)
  case atStart => exact ⟨0, 0, Nat.zero_le _, Lib.hid (fun j hj => absurd hj (by omega)), rfl, rfl⟩
  case round =>
    obtain ⟨k, q, hk, hall, rfl, rfl⟩ := hrel
    have HL := Lib.hid hl
    by_cases hlt : k < n
    · obtain ⟨b, off, rfl, hb, hcell⟩ := h.at_ (by omega)
      have c0 := hcell k hlt
      have HZ := Lib.hid (h.size hlt)
      have HH := Lib.hid h
      have hfind := fun hh => val_at (f := f) (zs := zs) (k := k) (by omega) hall.out hh
      have hstep := fun hh : isOf f (nthT zs k) = false => (show ∀ j, j < k + 1 → isOf f (nthT zs j) = false from fun j hj => by
        rcases Nat.lt_or_ge j k with e | e
        · exact hall.out j e
        · obtain rfl : j = k := by omega
          exact hh)
      generalize nthT zs k = s at *
      cases ho : spOk s with
      | false =>
        have HS := Lib.hid (hstep (by unfold isOf; rw [ho]; rfl))
        have HO := Lib.hid ho
        clear hcell h hl ho hfind hstep
        go_wp2_with (go_at_call 9; refine (split_any s _ HZ.out).mono ?_; rw [HO.out]; rintro e w1 ⟨rfl, n1, rfl⟩)
        go_roundw
        case rel => exact ⟨k + 1, _, by omega, HS, by go_num, by first | rfl | exact World.drewN_drewN _ _ _⟩
        case measure => simp [intOf]; omega
      | true =>
        have HO := Lib.hid ho
        by_cases hf : spF s = f
        · have d1 : ((spF s).toList == f.toList) = true := by rw [beq_text]; exact decide_eq_true hf
          obtain ⟨e1, e2⟩ := hfind (by unfold isOf; rw [ho, decide_eq_true hf]; rfl)
          have HE := Lib.hid (show Ending.returned (.tuple #[.string (spV s), .bool true]) = Ending.returned (.tuple #[.string (valV zs f), .bool (valB zs f)]) by rw [e1, e2])
          clear hcell h hl ho hfind hstep hf e1 e2
          go_wp2_with (go_at_call 9; refine (split_any s _ HZ.out).mono ?_; rw [HO.out]; rintro e w1 ⟨rfl, n1, rfl⟩)
          go_ret2
          exact ⟨HE.out, by first | exact Drew.n _ _ | exact ⟨_, World.drewN_drewN _ _ _⟩⟩
        · have d1 : ((spF s).toList == f.toList) = false := by rw [beq_text]; exact decide_eq_false hf
          have HS := Lib.hid (hstep (by unfold isOf; rw [ho, decide_eq_false hf]; rfl))
          clear hcell h hl ho hfind hstep hf
          go_wp2_with (go_at_call 9; refine (split_any s _ HZ.out).mono ?_; rw [HO.out]; rintro e w1 ⟨rfl, n1, rfl⟩)
          go_roundw
          case rel => exact ⟨k + 1, _, by omega, HS, by go_num, by first | rfl | exact World.drewN_drewN _ _ _⟩
          case measure => simp [intOf]; omega
    · obtain rfl : k = n := by omega
      have hno := val_no (f := f) (zs := zs) (fun j hj => hall.out j (by omega))
      have HE := Lib.hid (show Ending.returned (.tuple #[.string ⟨#[]⟩, .bool false]) = Ending.returned (.tuple #[.string (valV zs f), .bool (valB zs f)]) by rw [hno.1, hno.2])
      clear h hl hno
      go_wp2
      go_ret2
      exact ⟨HE.out, Drew.n _ _⟩

theorem rvalue_any (A : Option Addr) (n c : Nat) (zs : List ByteArray) (f : ByteArray) (B : Nat) (w : World) (h : Txt w B A n c zs) :
    Calls Try.prog 20 #[.slice A n c, .string f] w fun e w' => e = .returned (.tuple #[.string (valV zs f), .bool (valB zs f)]) ∧ Drew w w' := by
  have hl := h.len
  have hle := h.le
  have hcap := h.cap
  go_enter Try.func20, Try.ntmps20
  go_wp2
  go_loopw [6] (fun i wr => ∃ k q : Nat, k ≤ n ∧ Hid (∀ j, j < k → isOf f (nthT zs j) = false) ∧ i = .int .i64 k ∧ wr = w.drewN q) (fun i _ => n - (intOf i).toNat)
  case atStart => exact ⟨0, 0, Nat.zero_le _, Lib.hid (fun j hj => absurd hj (by omega)), rfl, rfl⟩
  case round =>
    obtain ⟨k, q, hk, hall, rfl, rfl⟩ := hrel
    have HL := Lib.hid hl
    by_cases hlt : k < n
    · obtain ⟨b, off, rfl, hb, hcell⟩ := h.at_ (by omega)
      have c0 := hcell k hlt
      have HZ := Lib.hid (h.size hlt)
      have HH := Lib.hid h
      have hfind := fun hh => val_at (f := f) (zs := zs) (k := k) (by omega) hall.out hh
      have hstep := fun hh : isOf f (nthT zs k) = false => (show ∀ j, j < k + 1 → isOf f (nthT zs j) = false from fun j hj => by
        rcases Nat.lt_or_ge j k with e | e
        · exact hall.out j e
        · obtain rfl : j = k := by omega
          exact hh)
      generalize nthT zs k = s at *
      cases ho : spOk s with
      | false =>
        have HS := Lib.hid (hstep (by unfold isOf; rw [ho]; rfl))
        have HO := Lib.hid ho
        clear hcell h hl ho hfind hstep
        go_wp2_with (go_at_call 10; refine (rsplit_any s _ HZ.out).mono ?_; rw [HO.out]; rintro e w1 ⟨rfl, n1, rfl⟩)
        go_roundw
        case rel => exact ⟨k + 1, _, by omega, HS, by go_num, by first | rfl | exact World.drewN_drewN _ _ _⟩
        case measure => simp [intOf]; omega
      | true =>
        have HO := Lib.hid ho
        by_cases hf : spF s = f
        · have d1 : ((spF s).toList == f.toList) = true := by rw [beq_text]; exact decide_eq_true hf
          obtain ⟨e1, e2⟩ := hfind (by unfold isOf; rw [ho, decide_eq_true hf]; rfl)
          have HE := Lib.hid (show Ending.returned (.tuple #[.string (spV s), .bool true]) = Ending.returned (.tuple #[.string (valV zs f), .bool (valB zs f)]) by rw [e1, e2])
          clear hcell h hl ho hfind hstep hf e1 e2
          go_wp2_with (go_at_call 10; refine (rsplit_any s _ HZ.out).mono ?_; rw [HO.out]; rintro e w1 ⟨rfl, n1, rfl⟩)
          go_ret2
          exact ⟨HE.out, by first | exact Drew.n _ _ | exact ⟨_, World.drewN_drewN _ _ _⟩⟩
        · have d1 : ((spF s).toList == f.toList) = false := by rw [beq_text]; exact decide_eq_false hf
          have HS := Lib.hid (hstep (by unfold isOf; rw [ho, decide_eq_false hf]; rfl))
          clear hcell h hl ho hfind hstep hf
          go_wp2_with (go_at_call 10; refine (rsplit_any s _ HZ.out).mono ?_; rw [HO.out]; rintro e w1 ⟨rfl, n1, rfl⟩)
          go_roundw
          case rel => exact ⟨k + 1, _, by omega, HS, by go_num, by first | rfl | exact World.drewN_drewN _ _ _⟩
          case measure => simp [intOf]; omega
    · obtain rfl : k = n := by omega
      have hno := val_no (f := f) (zs := zs) (fun j hj => hall.out j (by omega))
      have HE := Lib.hid (show Ending.returned (.tuple #[.string ⟨#[]⟩, .bool false]) = Ending.returned (.tuple #[.string (valV zs f), .bool (valB zs f)]) by rw [hno.1, hno.2])
      clear h hl hno
      go_wp2
      go_ret2
      exact ⟨HE.out, Drew.n _ _⟩

/-! ### Has -/
def hasB (zs : List ByteArray) (s : ByteArray) : Bool := zs.any fun y => decide (y = s)
theorem hasB_iff (zs : List ByteArray) (s : ByteArray) : hasB zs s = true ↔ s ∈ zs := by
  unfold hasB
  rw [List.any_eq_true]
  constructor
  · rintro ⟨y, hy, e⟩; rw [← of_decide_eq_true e]; exact hy
  · intro h; exact ⟨s, h, decide_eq_true rfl⟩
theorem has_eq (zs : List ByteArray) (s : ByteArray) : Lib.containsS zs s = hasB zs s := by
  rw [Bool.eq_iff_iff, hasB_iff, Lib.containsS_iff]

theorem contains_any (A : Option Addr) (n c : Nat) (zs : List ByteArray) (s : ByteArray) (B : Nat) (w : World) (h : Txt w B A n c zs) (hn : n ≤ 1000) :
    Calls Try.prog 33 #[.slice A n c, .string s] w fun e w' => e = .returned (.bool (hasB zs s)) ∧ w = w' := by
  have hl := h.len
  rcases Nat.eq_zero_or_pos n with e | e
  · subst e
    obtain rfl := List.eq_nil_of_length_eq_zero hl
    have hc := Any.slices_Contains_string_empty Try.layContains A c s w
    exact hc.mono fun e w' ⟨he, hw⟩ => ⟨he, hw.symm⟩
  · obtain ⟨b, off, rfl, hb, hcell⟩ := h.at_ e
    have hc := Any.slices_Contains_string Try.layContains b off n c zs s w (by omega) (by omega) (fun j hj => hcell j (by omega))
    rw [List.take_of_length_le (by omega), has_eq] at hc
    exact hc.mono fun e w' ⟨he, hw⟩ => ⟨he, hw.symm⟩

theorem has_any (A : Option Addr) (n c : Nat) (zs : List ByteArray) (s : ByteArray) (B : Nat) (w : World) (h : Txt w B A n c zs) (hn : n ≤ 1000) :
    Calls Try.prog 23 #[.slice A n c, .string s] w fun e w' => e = .returned (.bool (hasB zs s)) ∧ w = w' := by
  have H := Lib.hid (fun w h => contains_any A n c zs s B w h hn)
  have HH := Lib.hid h
  generalize hasB zs s = q at *
  clear h hn
  go_enter Try.func23, Try.ntmps23
  go_wp2_with (go_at_call 33; refine (H.out _ HH.out).mono ?_; rintro e w1 ⟨rfl, rfl⟩)
  go_ret
  exact ⟨rfl, rfl⟩

theorem rhas_any (A : Option Addr) (n c : Nat) (zs : List ByteArray) (s : ByteArray) (B : Nat) (w : World) (h : Txt w B A n c zs) :
    Calls Try.prog 24 #[.slice A n c, .string s] w fun e w' => e = .returned (.bool (hasB zs s)) ∧ w = w' := by
  have hl := h.len
  have hle := h.le
  have hcap := h.cap
  go_enter Try.func24, Try.ntmps24
  go_wp2
  go_loop [5] (fun i => ∃ k : Nat, k ≤ n ∧ Hid (s ∉ zs.take k) ∧ i = .int .i64 k) (fun i => n - (intOf i).toNat)
  case atStart => exact ⟨0, Nat.zero_le _, Lib.hid (by simp), rfl⟩
  case round =>
    obtain ⟨k, hk, hin, rfl⟩ := hrel
    have HL := Lib.hid hl
    by_cases hlt : k < n
    · obtain ⟨b, off, rfl, hb, hcell⟩ := h.at_ (by omega)
      have c0 := hcell k hlt
      have hmem : nthT zs k ∈ zs := nthT_mem (by omega)
      by_cases hx : nthT zs k = s
      · have d1 : ((nthT zs k).toList == s.toList) = true := by rw [beq_text]; exact decide_eq_true hx
        have HE := Lib.hid ((hasB_iff zs s).2 (hx ▸ hmem))
        generalize nthT zs k = x at *
        clear hcell h hl hmem hx
        go_wp2
        go_ret
        exact ⟨ret_bool HE.out.symm, rfl⟩
      · have d1 : ((nthT zs k).toList == s.toList) = false := by rw [beq_text]; exact decide_eq_false hx
        have HS := Lib.hid (show s ∉ zs.take (k + 1) by
          rw [take_nthT (by omega), List.mem_append, List.mem_singleton]
          rintro (e | e)
          · exact hin.out e
          · exact hx e.symm)
        generalize nthT zs k = x at *
        clear hcell h hl hmem hx
        go_wp2
        go_round
        case rel => exact ⟨k + 1, by omega, HS, by go_num⟩
        case measure => simp [intOf]; omega
    · obtain rfl : k = n := by omega
      have hf : hasB zs s = false := by
        cases hq : hasB zs s with
        | false => rfl
        | true => exact absurd ((hasB_iff zs s).1 hq) (by have := hin.out; rwa [List.take_of_length_le (by omega)] at this)
      have HF := Lib.hid hf
      clear hf h hl
      go_wp2
      go_ret
      exact ⟨ret_bool HF.out.symm, rfl⟩

/-! ### the document's Fields -/
theorem flds_run (zs : List ByteArray) (k : Nat) (h : k < zs.length) : putL cfT (putAll cfT ((zs.take k).map spF)) (spF (nthT zs k)) = putAll cfT ((zs.take (k + 1)).map spF) := by
  rw [take_nthT h, List.map_append, List.map_singleton, putAll_snoc]

set_option maxHeartbeats 1000000 in
theorem rfields_any (A : Option Addr) (n c : Nat) (zs : List ByteArray) (w : World) (h : Txt w w.heap.size A n c zs) (hn : n ≤ 1000) :
    Calls Try.prog 22 #[.slice A n c] w (Tells (fieldsR zs) w) := by
  have hl := h.len
  have hle := h.le
  have hcap := h.cap
  go_enter Try.func22, Try.ntmps22
  go_wp2
  go_loopw [3, 4] (fun o i wr => ∃ (k c1 : Nat) (A1 : Option Addr), k ≤ n ∧ i = .int .i64 k ∧ o = .slice A1 (putAll cfT ((zs.take k).map spF)).length c1 ∧ Hid (Txt wr wr.heap.size A1 (putAll cfT ((zs.take k).map spF)).length c1 (putAll cfT ((zs.take k).map spF))) ∧ Below w.heap.size w wr) (fun _ i _ => n - (intOf i).toNat)
  case atStart => exact ⟨0, 0, none, Nat.zero_le _, rfl, rfl, Lib.hid (Txt.nil_ _ _), Below.refl _ _⟩
  case round =>
    obtain ⟨k, c1, A1, hk, rfl, rfl, HT, hbw⟩ := hrel
    have HH := Lib.hid h
    have HL := Lib.hid hl
    by_cases hlt : k < n
    · obtain ⟨b, off, rfl, hb, hcell⟩ := h.at_ (by omega)
      have c0 := hcell k hlt
      have cr := (hbw.cell (p := ⟨b, off + k, none⟩) hb).trans c0
      have HZ := Lib.hid (h.size hlt)
      have HF := Lib.hid (Nat.le_trans (spF_size (nthT zs k)) HZ.out)
      have HP := Lib.hid (flds_run zs k (by omega))
      have HN := Lib.hid (show (putAll cfT ((zs.take k).map spF)).length ≤ 1000 from Nat.le_trans (putAll_length _) (by rw [List.length_map, List.length_take]; omega))
      generalize nthT zs k = s at *
      generalize putAll cfT ((zs.take k).map spF) = xs at *
      clear hcell h hl c0
      go_wp2_with (first
        | (go_at_call 14; refine (rfield_any s _ HZ.out).mono ?_; rintro e w1 ⟨rfl, n1, rfl⟩; have HT1 := Lib.hid (HT.out.drewN n1); have hb1 := below_drewn hbw n1)
        | (go_at_call 32; refine (put_any A1 xs.length c1 xs (spF s) wr.heap.size (wr.drewN n1) HT1.out (Nat.le_refl _) HF.out HN.out).mono ?_; rintro e w2 ⟨A2, c2, rfl, hT2, hb2⟩; have HT2 := Lib.hid hT2; have hb3 := hb1.trans (hb2.mono hbw.size); clear hT2))
      go_roundw
      case rel => exact ⟨k + 1, c2, A2, by omega, by go_num, by rw [← HP.out], by rw [← HP.out]; exact HT2, hb3⟩
      case measure => simp [intOf]; omega
    · obtain rfl : k = n := by omega
      have hp2 : putAll cfT ((zs.take k).map spF) = fieldsR zs := by rw [List.take_of_length_le (by omega)]; rfl
      rw [hp2] at HT ⊢
      clear hl h hp2
      generalize hxx : fieldsR zs = xs at *
      go_wp2
      go_ret
      exact ⟨A1, c1, rfl, HT.out, hbw⟩

end Go.Proofs.Ytggjimpnimlmmaa
