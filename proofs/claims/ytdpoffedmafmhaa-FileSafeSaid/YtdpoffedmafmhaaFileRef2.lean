/-
  LAYER 6: WHAT THE DOCUMENT'S OWN Truncate AND Read DO: contracts.
-/
import Derived.Test.YtdpoffedmafmhaaFileRef
set_option linter.unusedVariables false
set_option linter.unusedSimpArgs false
namespace Go.Proofs.Ytdpoffedmafmhaa
open Go.RowKit

set_option maxHeartbeats 1000000 in
theorem rtrunc_nat (p n : Nat) (base : Nat) (S : Nat → Prop) (s : FS) (nv sv ov : Value) (xs : List Value) (w : World) (h : RF w base S p s nv sv ov xs) (hn : n ≤ 1048576) (hl : s.now.length ≤ 1048576) (ho : s.ops.length ≤ 1000000) (hne : n ≠ s.now.length) :
    Calls Try.prog 21 #[.pointer (some ⟨p, 0, none⟩), .int .i64 n] w fun e w' => e = .returned (.int .i64 0) ∧ RFT base S p ⟨sizeL s.now n, s.safe, s.ops ++ [⟨true, n, []⟩]⟩ w w' := by
  obtain ⟨i0, hi, hz0, hz1, hz2⟩ := info_parts ropInfo
  obtain ⟨A, c, rfl, hc1, hc2⟩ := own_form h.now
  obtain ⟨Ao, co, rfl, ho1, ho2⟩ := own_form h.pend
  obtain ⟨d0, -, d2, -⟩ := h.cells3 (Below.refl _ _)
  obtain ⟨m, hm⟩ : ∃ m, m = s.now.length := ⟨_, rfl⟩
  obtain ⟨q, hq⟩ : ∃ q, q = s.ops.length := ⟨_, rfl⟩
  rw [← hm, ← hq] at h
  rw [← hm] at hl d0 hne
  rw [← hq] at d2 ho
  have H := Lib.hid h
  have HM := Lib.hid hm
  have HQ := Lib.hid hq
  have RS := Lib.hid (rsize_any A m c n s.now w.heap.size w (h.nowR hm).1 (Nat.le_refl _) (by omega) (h.nowR hm).2.1 (h.nowR hm).2.2)
  have s2 : q + 1 ≤ maxLen := by unfold maxLen; omega
  have s3 : (q + 1) * 40 ≤ 140737488355328 := by omega
  have x1 : (((n : Int) == ((m : Nat) : Int))) = false := by simp; omega
  have x2 : ((n : Int) != ((m : Nat) : Int)) = true := by simp; omega
  clear h hm hq hc1 ho1 hne
  go_enter Try.func21, Try.ntmps21
  go_wp2_with (first
    | (go_at_call 32; go_loud (refine RS.out.mono ?_; rintro e w1 ⟨A1, c1, rfl, hown1, hb1⟩; obtain ⟨e0, e1, e2, f0, f1, f2⟩ := H.out.cells3 hb1; have H1 := Lib.hid (H.out.setNow hown1 hb1); have HC1 := Lib.hid (H.out.renowed hb1 (.slice A1 (sizeL s.now (n : Int).toNat).length c1)); clear hown1))
    | (at_builtin; go_loud (refine wpList_append_any _ rfl _ _ _ rfl base 66 i0 _ 3 40 Try.underlying27 hi hz0 hz1 hz2 rfl (Nat.zero_lt_succ 2) (.slice Ao q co) q xs rfl ((H1.out.pend_ HQ.out).alloc _) _ _ 1 1 [.bool true, .int .i64 n, .slice none 0 0] rfl (newAt _ _ _ 3 _ rfl (by simp)) (op_one _ _ _ _ _) s2 s3 (by have := H1.out.bas; simp at this ⊢; omega) ?_; intro v4 w4 hown4 hg4 hat4; obtain ⟨A4, c4, rfl, -, -⟩ := own_form hown4; obtain ⟨g2, gf2⟩ := H1.out.pcells hg4; have HP := Lib.hid (H1.out.pushed (o := ⟨true, n, []⟩) HQ.out hg4 hown4 (by simpa using hat4) Reads.none_ (Nat.le_refl _) (Nat.zero_le _) (fun ad e => by cases e)); clear hown4 hg4 hat4)))
  go_ret
  exact ⟨rfl, RFT.step H.out HC1.out (fun k hk => hk.imp id (fun x => x.1)) HP.out.1 HP.out.2⟩

theorem rtrunc_any (p : Nat) (n : Int) (base : Nat) (S : Nat → Prop) (s : FS) (nv sv ov : Value) (xs : List Value) (w : World) (h : RF w base S p s nv sv ov xs) (h0 : -9223372036854775808 ≤ n) (h1 : n ≤ 9223372036854775807) (hl : s.now.length ≤ 1048576) (ho : s.ops.length ≤ 1000000) :
    Calls Try.prog 21 #[.pointer (some ⟨p, 0, none⟩), .int .i64 n] w fun e w' => e = .returned (.int .i64 (truncE n)) ∧ RFT base S p (s.truncI n) w w' := by
  have HC := Lib.hid (RFT.same h)
  by_cases hn : n < 0
  · have e1 : truncE n = 1 := by unfold truncE; rw [if_pos (.inl hn)]
    have e2 : s.truncI n = s := by unfold FS.truncI; rw [if_pos (.inl hn)]
    rw [e1, e2]
    clear h e1 e2
    go_enter Try.func21, Try.ntmps21
    go_wp2
    go_ret
    exact ⟨rfl, HC.out⟩
  · by_cases hm : 1048576 < n
    · have e1 : truncE n = 1 := by unfold truncE; rw [if_pos (.inr hm)]
      have e2 : s.truncI n = s := by unfold FS.truncI; rw [if_pos (.inr hm)]
      rw [e1, e2]
      clear h e1 e2
      go_enter Try.func21, Try.ntmps21
      go_wp2
      go_ret
      exact ⟨rfl, HC.out⟩
    · obtain ⟨k, rfl⟩ : ∃ k : Nat, n = k := ⟨n.toNat, by omega⟩
      have e1 : truncE k = 0 := by unfold truncE; rw [if_neg (by omega)]
      have e2 : s.truncI k = s.trunc k := by unfold FS.truncI; rw [if_neg (by omega)]; rfl
      rw [e1, e2]
      by_cases hne : k = s.now.length
      · have ht : s.trunc k = s := by unfold FS.trunc; rw [if_pos hne]
        rw [ht]
        obtain ⟨A, c, rfl, -, -⟩ := own_form h.now
        obtain ⟨d0, -⟩ := h.cells3 (Below.refl _ _)
        obtain ⟨m, hm⟩ : ∃ m, m = s.now.length := ⟨_, rfl⟩
        rw [← hm] at d0 hne
        subst hne
        clear h e1 e2 ht hm
        go_enter Try.func21, Try.ntmps21
        go_wp2
        go_ret
        exact ⟨rfl, HC.out⟩
      · rw [show s.trunc k = ⟨sizeL s.now k, s.safe, s.ops ++ [⟨true, k, []⟩]⟩ by unfold FS.trunc; rw [if_neg hne]]
        exact rtrunc_nat p k base S s nv sv ov xs w h (by omega) hl ho hne

set_option maxHeartbeats 1000000 in
theorem rread_any (p : Nat) (a n : Int) (base : Nat) (S : Nat → Prop) (s : FS) (nv sv ov : Value) (xs : List Value) (w : World) (h : RF w base S p s nv sv ov xs) (h0 : -9223372036854775808 ≤ a) (h1 : a ≤ 9223372036854775807) (h2 : -9223372036854775808 ≤ n) (h3 : n ≤ 9223372036854775807) (hl : s.now.length ≤ 1048576) :
    Calls Try.prog 24 #[.pointer (some ⟨p, 0, none⟩), .int .i64 a, .int .i64 n] w (Gives (s.read a n) w) := by
  obtain ⟨i0, hi, hz0, hz1, hz2⟩ := info_parts byteInfo
  obtain ⟨A, c, rfl, hc1, hc2⟩ := own_form h.now
  have HB := Lib.hid (fun (w' : World) (hb : Below w.heap.size w w') => (h.cells3 hb).1)
  obtain ⟨L, hL⟩ : ∃ L, L = s.read a n := ⟨_, rfl⟩
  obtain ⟨m, hm⟩ : ∃ m, m = s.now.length := ⟨_, rfl⟩
  have hLl : L.length ≤ m := by rw [hL, hm]; exact FS.read_length _ _ _
  have hLz : a < 0 → L.length = 0 := fun ha => by rw [hL]; unfold FS.read; rw [if_neg (fun hh => by omega)]; rfl
  have hLk : ∀ k : Nat, (k < L.length ↔ ((k : Int) < n ∧ 0 ≤ a ∧ a + k < m)) := fun k => by
    rw [hL]; unfold FS.read
    by_cases hh : 0 ≤ a ∧ 0 < n
    · rw [if_pos hh, List.length_take, List.length_drop, ← hm]; omega
    · rw [if_neg hh]; simp; omega
  have hLx : ∀ k : Nat, k < L.length → nz L k = nz s.now (a.toNat + k) := fun k hk => by
    have := (hLk k).1 hk
    rw [hL]; unfold FS.read
    rw [if_pos ⟨this.2.1, by omega⟩, nz_take, if_pos (by omega), nz_drop]
  rw [← hL]
  rw [← hm] at hl h
  have HNR := Lib.hid (h.nowR hm)
  rw [← hm] at HB
  have HLK := Lib.hid hLk
  have HLX := Lib.hid hLx
  clear h hm hL hLz hLk hLx hc1
  go_enter Try.func24, Try.ntmps24
  go_wp2
  go_loopw [7, 8] (fun v i wr => ∃ k : Nat, k ≤ L.length ∧ i = .int .i64 k ∧ wr.ownsRow w.heap.size 5 1 v k (cellsOf .u8 (L.take k)) ∧ Below w.heap.size w wr) (fun _ i _ => L.length - (intOf i).toNat)
  case atStart => exact ⟨0, Nat.zero_le _, rfl, by rw [List.take_zero]; exact World.ownsRow_nil _ _ _ _, Below.refl _ _⟩
  case round =>
    obtain ⟨k, hk, rfl, hown, hb⟩ := hrel
    have d0 := HB.out _ hb
    obtain ⟨A1, c1, rfl, hq1, hq2⟩ := own_form hown
    by_cases hlt : k < L.length
    · obtain ⟨t1, t2, t3⟩ := (HLK.out k).1 hlt
      obtain ⟨a', rfl⟩ : ∃ a' : Nat, a = a' := ⟨a.toNat, by omega⟩
      obtain ⟨b, off, rfl, hbB, hc⟩ := HNR.out.1.plain (by omega)
      have hx0 := HLX.out k hlt
      rw [Int.toNat_natCast] at hx0
      obtain ⟨x, hx⟩ : ∃ x, x = nz L k := ⟨_, rfl⟩
      have c0 : wr.cell? ⟨b, off + (a' + k), none⟩ = some (.int .u8 x) := by rw [hx, hx0]; exact (hb.cell (p := ⟨b, off + (a' + k), none⟩) (by show b < _; omega)).trans (hc (a' + k) (by omega))
      have s2 : k + 1 ≤ maxLen := by unfold maxLen; omega
      have s3 : (k + 1) * 1 ≤ 140737488355328 := by omega
      have t4 : (a' : Int) < (m : Int) - (k : Int) := by omega
      have t5 : a' + k < m := by omega
      have s4 : ∀ o, w.heap.size ≤ (wr.alloc o).heap.size := fun o => by have := hb.size; simp; omega
      have HX := Lib.hid hx
      have HTK := Lib.hid (show cellsOf .u8 (L.take (k + 1)) = cellsOf .u8 (L.take k) ++ [.int .u8 x] by
        rw [List.take_succ_eq_append_getElem hlt, cellsOf_append, hx, nz_in hlt]; rfl)
      clear hx hx0 hc
      go_wp2_with (at_builtin; go_loud (refine wpList_append_any _ rfl _ _ _ rfl w.heap.size 5 i0 (.int .u8 0) 1 1 Try.underlying26 hi hz0 hz1 hz2 rfl (Nat.lt_succ_self 0) (.slice A1 k c1) k (cellsOf .u8 (L.take k)) rfl (hown.alloc _) (wr.heap.size + 1) _ 1 1 [.int .u8 x] rfl (Reads.new1 _ _ _) (one_oneCell _ _) s2 s3 (s4 _) ?_; intro v1 w1 hown1 hg1 hat1; have HO1 := Lib.hid (And.intro hown1 hg1); clear hown1 hg1 hat1))
      go_roundw
      case rel => exact ⟨k + 1, by omega, by go_num, by rw [HTK.out]; exact HO1.out.1, (hb.alloc hb.size _).grown HO1.out.2 (s4 _) (fun j hj => (hown.lt j hj).1)⟩
      case measure => simp [intOf]; omega
    · obtain rfl : k = L.length := by omega
      rw [List.take_length] at hown
      have hno : ¬ ((L.length : Int) < n ∧ 0 ≤ a ∧ a + (L.length : Int) < m) := fun hh => hlt ((HLK.out _).2 hh)
      have HO := Lib.hid hown
      obtain ⟨l, hl'⟩ : ∃ l, l = L.length := ⟨_, rfl⟩
      rw [← hl'] at hno HO hLl ⊢
      have HL := Lib.hid hl'
      clear hown hl' hlt hk
      have fin : Gives L w (.returned (.slice A1 l c1)) wr := ⟨A1, c1, by rw [HL.out], by rw [← HL.out]; exact HO.out, hb⟩
      have HF := Lib.hid fin
      clear fin
      by_cases g1 : (l : Int) < n
      · by_cases g2 : 0 ≤ a
        · have g3 : ¬ a < (m : Int) - (l : Int) := by omega
          clear hno
          go_wp2
          go_ret
          exact HF.out
        · clear hno
          go_wp2
          go_ret
          exact HF.out
      · clear hno
        go_wp2
        go_ret
        exact HF.out

end Go.Proofs.Ytdpoffedmafmhaa
