/-
  LAYER 6: WHAT EACH CALL DOES TO THE TWO FILES.
-/
import Derived.Test.YtdpoffedmafmhaaFileAct
import Derived.Test.YtdpoffedmafmhaaFileRef4
set_option linter.unusedVariables false
set_option linter.unusedSimpArgs false
namespace Go.Proofs.Ytdpoffedmafmhaa
open Go.RowKit

theorem rwrite_any (p : Nat) (a : Int) (Ab : Option Addr) (m cb : Nat) (bs : List Int) (B base : Nat) (S : Nat → Prop) (s : FS) (nv sv ov : Value) (xs : List Value) (w : World) (h : RF w base S p s nv sv ov xs) (hr : Reads w B 1 Ab m (cellsOf .u8 bs)) (hB : B ≤ base) (hmc : m ≤ cb) (hcb : cb ≤ 9223372036854775807)
    (h0 : -9223372036854775808 ≤ a) (h1 : a ≤ 9223372036854775807) (hm : m ≤ 4611686018427387904) (hl : s.now.length ≤ 1048576) (ho : s.ops.length ≤ 900000) :
    Calls Try.prog 20 #[.pointer (some ⟨p, 0, none⟩), .int .i64 a, .slice Ab m cb] w fun e w' => e = .returned (.int .i64 (writeE a m)) ∧ RFT base S p (s.writeI a bs) w w' := by
  have HC := Lib.hid (RFT.same h)
  have hbm := hr.len
  by_cases hn : a < 0
  · have e1 : writeE a m = 1 := by unfold writeE; rw [if_pos (.inl hn)]
    have e2 : s.writeI a bs = s := by unfold FS.writeI; rw [if_pos (.inl hn)]
    rw [e1, e2]
    clear h e1 e2 hr hbm
    go_enter Try.func20, Try.ntmps20
    go_wp2
    go_ret
    exact ⟨rfl, HC.out⟩
  · by_cases hx : 1048576 < a + m
    · have e1 : writeE a m = 1 := by unfold writeE; rw [if_pos (.inr hx)]
      have e2 : s.writeI a bs = s := by unfold FS.writeI; rw [if_pos (.inr (by omega))]
      rw [e1, e2]
      by_cases hx2 : 1048576 < a
      · clear h e1 e2 hr hbm
        go_enter Try.func20, Try.ntmps20
        go_wp2
        go_ret
        exact ⟨rfl, HC.out⟩
      · have x1 : 1048576 - a < (m : Int) := by omega
        clear h e1 e2 hr hbm
        go_enter Try.func20, Try.ntmps20
        go_wp2
        go_ret
        exact ⟨rfl, HC.out⟩
    · obtain ⟨k, rfl⟩ : ∃ k : Nat, a = k := ⟨a.toNat, by omega⟩
      have e1 : writeE k m = 0 := by unfold writeE; rw [if_neg (by omega)]
      have e2 : s.writeI k bs = s.write k bs := by unfold FS.writeI; rw [if_neg (by omega)]; rfl
      rw [e1, e2]
      by_cases hm0 : m = 0
      · have e3 : s.write k bs = s := by unfold FS.write; rw [if_pos (List.eq_nil_of_length_eq_zero (by omega))]
        rw [e3]
        subst hm0
        have x1 : ¬ 1048576 < (k : Int) := by omega
        have x2 : ¬ 1048576 - (k : Int) < 0 := by omega
        clear h e1 e2 e3 hr hbm hx hn
        go_enter Try.func20, Try.ntmps20
        go_wp2
        go_loopw [7] (fun i wr => i = .int .i64 0 ∧ wr = w) (fun _ _ => 0)
        case atStart => exact ⟨rfl, rfl⟩
        case round =>
          obtain ⟨rfl, rfl⟩ := hrel
          go_wp2
          go_ret
          exact ⟨rfl, HC.out⟩
      · exact rwrite_nat p k Ab m cb bs B base S s nv sv ov xs w h hr hB hmc hcb (by omega) (by omega) hl ho

section
variable {w w' wb wA : World} {base p q N : Nat} {T : Nat → Prop} {s s1 s2 : FS}

/-- What was handed in stays. -/
theorem arg_keep {size n : Nat} {A : Option Addr} {xs : List Value} (h : Reads w base size A n xs) (hf : ∀ k, T k → base ≤ k ∧ k < w.heap.size) (hb : base ≤ w.heap.size) (hc : Chg T w w') : Reads w' base size A n xs :=
  h.chg hc hb (fun h0 ad e ht => by
    have := (hf _ ht).1
    obtain ⟨ad', e', hb', _⟩ := h.2 h0
    rw [e] at e'; injection e' with e'; subst e'; omega)

theorem two_fwrite (a : Int) (Ab : Option Addr) (m cb : Nat) (bs : List Int) (h : Two w base T p q s s2) (hr : Reads w base 1 Ab m (cellsOf .u8 bs)) (hmc : m ≤ cb) (hcb : cb ≤ 9223372036854775807) (h0 : -9223372036854775808 ≤ a) (h1 : a ≤ 9223372036854775807) (hm : m ≤ 1000) (hg : s.Good N) (hN : N ≤ 900000) :
    Calls Try.prog 18 #[.pointer (some ⟨p, 0, none⟩), .int .i64 a, .slice Ab m cb] w fun e w' => e = .returned (.int .i64 (writeE a m)) ∧ Turn base T p q (s.writeI a bs) s2 w w' := by
  obtain ⟨S, S2, nv, sv, pv, nv2, sv2, ov, xs, c1, c2, c3, c4, c5⟩ := h.ex
  by_cases h00 : m = 0
  · -- nothing is written: the address says nothing
    have hz : bs = [] := List.eq_nil_of_length_eq_zero (by have := hr.len; omega)
    subst hz; subst h00
    have hr0 : Reads w base 1 none 0 (cellsOf .u8 []) := Reads.none_
    have HC := Lib.hid (Turn.same h)
    have e2 : s.writeI a [] = s := by
      unfold FS.writeI; split
      · rfl
      · unfold FS.write; rw [if_pos rfl]
    rw [e2]
    by_cases hn : a < 0
    · have e1 : writeE a 0 = 1 := by unfold writeE; rw [if_pos (.inl hn)]
      rw [e1]
      clear h hr hr0 c1 c2 c3 c4 c5 e1 e2
      go_enter Try.func18, Try.ntmps18
      go_wp2
      go_ret
      exact ⟨rfl, HC.out⟩
    · by_cases hx : 1048576 < a
      · have e1 : writeE a 0 = 1 := by unfold writeE; rw [if_pos (.inr (by simpa using hx))]
        rw [e1]
        clear h hr hr0 c1 c2 c3 c4 c5 e1 e2
        go_enter Try.func18, Try.ntmps18
        go_wp2
        go_ret
        exact ⟨rfl, HC.out⟩
      · have e1 : writeE a 0 = 0 := by unfold writeE; rw [if_neg (by simp; omega)]
        rw [e1]
        clear h hr hr0 c1 c2 c3 c4 c5 e1 e2
        go_enter Try.func18, Try.ntmps18
        go_wp2
        go_ret
        exact ⟨rfl, HC.out⟩
  · exact (fwrite_any p a Ab m cb bs base base S s nv sv pv w c1 hr h.bas (fun ad e hs => by
        have := (c1.foot _ hs).1
        obtain ⟨ad', e', hb', _⟩ := hr.2 (by omega)
        rw [e] at e'; injection e' with e'; subst e'; omega) hmc hcb h0 h1 (by omega) hg.ok.size (by have := hg.few; omega)).mono fun e w' ⟨he, hf⟩ => ⟨he, h.code c1 c2 c3 c4 c5 hf⟩

theorem two_rwrite (a : Int) (Ab : Option Addr) (m cb : Nat) (bs : List Int) (h : Turn base T p q s1 s wb w) (hf : ∀ k, T k → base ≤ k ∧ k < wb.heap.size) (hbb : base ≤ wb.heap.size) (hr : Reads wb base 1 Ab m (cellsOf .u8 bs)) (hmc : m ≤ cb) (hcb : cb ≤ 9223372036854775807) (h0 : -9223372036854775808 ≤ a) (h1 : a ≤ 9223372036854775807) (hm : m ≤ 1000) (hg : s.Good N) (hN : N ≤ 900000) :
    Calls Try.prog 20 #[.pointer (some ⟨q, 0, none⟩), .int .i64 a, .slice Ab m cb] w fun e w' => e = .returned (.int .i64 (writeE a m)) ∧ Turn base T p q s1 (s.writeI a bs) wb w' := by
  obtain ⟨S, S2, nv, sv, pv, nv2, sv2, ov, xs, c1, c2, c3, c4, c5⟩ := h.2.ex
  exact (rwrite_any q a Ab m cb bs base base S2 s nv2 sv2 ov xs w c2 (arg_keep hr hf hbb h.1) (Nat.le_refl _) hmc hcb h0 h1 (by omega) hg.ok.size (by have := hg.few; omega)).mono fun e w' ⟨he, hx⟩ => ⟨he, Turn.trans hf hbb h.1 (h.2.ref c1 c2 c3 c4 c5 hx)⟩

theorem two_ftrunc (n : Int) (h : Two w base T p q s s2) (h0 : -9223372036854775808 ≤ n) (h1 : n ≤ 9223372036854775807) (hg : s.Good N) (hN : N ≤ 900000) :
    Calls Try.prog 19 #[.pointer (some ⟨p, 0, none⟩), .int .i64 n] w fun e w' => e = .returned (.int .i64 (truncE n)) ∧ Turn base T p q (s.truncI n) s2 w w' := by
  obtain ⟨S, S2, nv, sv, pv, nv2, sv2, ov, xs, c1, c2, c3, c4, c5⟩ := h.ex
  exact (ftrunc_any p n base S s nv sv pv w c1 h0 h1 hg.ok.size (by have := hg.few; omega)).mono fun e w' ⟨he, hf⟩ => ⟨he, h.code c1 c2 c3 c4 c5 hf⟩
theorem two_rtrunc (n : Int) (h : Turn base T p q s1 s wb w) (hf : ∀ k, T k → base ≤ k ∧ k < wb.heap.size) (hbb : base ≤ wb.heap.size) (h0 : -9223372036854775808 ≤ n) (h1 : n ≤ 9223372036854775807) (hg : s.Good N) (hN : N ≤ 900000) :
    Calls Try.prog 21 #[.pointer (some ⟨q, 0, none⟩), .int .i64 n] w fun e w' => e = .returned (.int .i64 (truncE n)) ∧ Turn base T p q s1 (s.truncI n) wb w' := by
  obtain ⟨S, S2, nv, sv, pv, nv2, sv2, ov, xs, c1, c2, c3, c4, c5⟩ := h.2.ex
  exact (rtrunc_any q n base S2 s nv2 sv2 ov xs w c2 h0 h1 hg.ok.size (by have := hg.few; omega)).mono fun e w' ⟨he, hx⟩ => ⟨he, Turn.trans hf hbb h.1 (h.2.ref c1 c2 c3 c4 c5 hx)⟩
theorem two_fsync (h : Two w base T p q s s2) (hg : s.Good N) :
    Calls Try.prog 15 #[.pointer (some ⟨p, 0, none⟩)] w fun e w' => e = .returned (.tuple #[]) ∧ Turn base T p q s.sync s2 w w' := by
  obtain ⟨S, S2, nv, sv, pv, nv2, sv2, ov, xs, c1, c2, c3, c4, c5⟩ := h.ex
  exact (fsync_any p base S s nv sv pv w c1 hg.ok.size).mono fun e w' ⟨he, hf⟩ => ⟨he, h.code c1 c2 c3 c4 c5 hf⟩
theorem two_rsync (h : Turn base T p q s1 s wb w) (hf : ∀ k, T k → base ≤ k ∧ k < wb.heap.size) (hbb : base ≤ wb.heap.size) (hg : s.Good N) :
    Calls Try.prog 22 #[.pointer (some ⟨q, 0, none⟩)] w fun e w' => e = .returned (.tuple #[]) ∧ Turn base T p q s1 s.sync wb w' := by
  obtain ⟨S, S2, nv, sv, pv, nv2, sv2, ov, xs, c1, c2, c3, c4, c5⟩ := h.2.ex
  exact (rsync_any q base S2 s nv2 sv2 ov xs w c2 hg.ok.size).mono fun e w' ⟨he, hx⟩ => ⟨he, Turn.trans hf hbb h.1 (h.2.ref c1 c2 c3 c4 c5 hx)⟩
theorem two_fcrash {Bk : Nat} (K : Option Addr) (m d : Nat) (ks : List Bool) (h : Two w base T p q s s2) (hk : Reads w Bk 1 K m (cellsB ks)) (hB : Bk ≤ w.heap.size) (hmd : m ≤ d) (hdc : d ≤ 9223372036854775807) (hg : s.Good N) (hN : N ≤ 900000) :
    Calls Try.prog 13 #[.pointer (some ⟨p, 0, none⟩), .slice K m d] w (CFnew base (s.crash ks) w) := by
  obtain ⟨S, S2, nv, sv, pv, nv2, sv2, ov, xs, c1, c2, c3, c4, c5⟩ := h.ex
  exact fcrash_any p K m d ks Bk base N S s nv sv pv w c1 hk hB hmd hdc hg (by omega)
theorem two_rcrash {Bk : Nat} (K : Option Addr) (m d : Nat) (ks : List Bool) (h : Two w base T p q s2 s) (hk : Reads w Bk 1 K m (cellsB ks)) (hB : Bk ≤ w.heap.size) (hmd : m ≤ d) (hdc : d ≤ 9223372036854775807) (hg : s.Good N) (hN : N ≤ 900000) :
    Calls Try.prog 23 #[.pointer (some ⟨q, 0, none⟩), .slice K m d, .int .i64 0] w (RFnew base (s.crash ks) w) := by
  obtain ⟨S, S2, nv, sv, pv, nv2, sv2, ov, xs, c1, c2, c3, c4, c5⟩ := h.ex
  exact rcrash_any q K m d ks Bk base N S2 s nv2 sv2 ov xs w c2 hk hB hmd hdc hg (by omega)
end

/-- The cells of an act that a call has boxed. -/
def BoxAt (w : World) (g : Nat) (a : ActM) : Prop :=
  w.cell? ⟨g, 1, none⟩ = some (.int .i64 a.at_) ∧ w.cell? ⟨g, 2, none⟩ = some (.slice a.A a.n a.c) ∧ w.cell? ⟨g, 3, none⟩ = some (.slice a.K a.m a.d)

theorem box_new (w : World) (a : ActM) {w' : World} {T : Nat → Prop} (hc : Chg T (w.alloc (.cells #[.int .i64 a.kind, .int .i64 a.at_, .slice a.A a.n a.c, .slice a.K a.m a.d] 34)) w') (hT : ¬ T w.heap.size) :
    w'.cell? ⟨w.heap.size, 1, none⟩ = some (.int .i64 a.at_) ∧ w'.cell? ⟨w.heap.size, 2, none⟩ = some (.slice a.A a.n a.c) ∧ w'.cell? ⟨w.heap.size, 3, none⟩ = some (.slice a.K a.m a.d) := by
  have hb := (Blk.new w 34 #[.int .i64 a.kind, .int .i64 a.at_, .slice a.A a.n a.c, .slice a.K a.m a.d]).chg hc hT
  exact ⟨by rw [hb.cell]; rfl, by rw [hb.cell]; rfl, by rw [hb.cell]; rfl⟩

end Go.Proofs.Ytdpoffedmafmhaa
