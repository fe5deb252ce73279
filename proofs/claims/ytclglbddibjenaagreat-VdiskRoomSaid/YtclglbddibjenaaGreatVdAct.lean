/-
  LAYER 8: THE TWO DISKS, the program's and the document's, side by side; each call, done to both.
-/
import Derived.Test.YtclglbddibjenaaGreatVdFn8
import Derived.Test.YtclglbddibjenaaGreatVdCrash2
import Derived.Test.YtclglbddibjenaaGreatVdRef4
import Derived.Test.YtclglbddibjenaaGreatVdAwake
set_option linter.unusedVariables false
set_option linter.unusedSimpArgs false
set_option maxRecDepth 100000
namespace Go.Proofs.YtclglbddibjenaaGreat
open Go.RowKit

section
variable {w w0 w1 w' wA wB : World} {base p q P Q N M : Nat} {T U S S2 : Nat → Prop} {v v1 v2 : VS} {os : OsL}
theorem VX.keep (h : VX w base S p v os) (hc : Chg U w w') (hU : ∀ k, S k → ¬ U k) : VX w' base S p v os := by
  obtain ⟨dp, mb, bn, bs, pv, SD, SF, ps, Ss, hv⟩ := h
  exact ⟨_, _, _, _, _, _, _, _, _, hv.keep hc hU⟩
theorem VX.bas (h : VX w base S p v os) : base ≤ w.heap.size := by
  obtain ⟨dp, mb, bn, bs, pv, SD, SF, ps, Ss, hv⟩ := h
  exact hv.bas
theorem RX.keep (h : RX w base S p v) (hc : Chg U w w') (hU : ∀ k, S k → ¬ U k) : RX w' base S p v := by
  obtain ⟨dp, mb, bn, bs, pv, SD, SF, ps, Ss, hv⟩ := h
  exact ⟨_, _, _, _, _, _, _, _, _, hv.keep hc hU⟩
theorem RX.below (h : RX w base S p v) (hb : Below w.heap.size w w') : RX w' base S p v := h.keep (Chg.of_below hb (Nat.le_refl _) (fun _ => False)) (fun _ _ h => h)
theorem RX.foot (h : RX w base S p v) : ∀ k, S k → base ≤ k ∧ k < w.heap.size := by
  obtain ⟨dp, mb, bn, bs, pv, SD, SF, ps, Ss, hv⟩ := h
  exact hv.foot
theorem RXT.rx (h : RXT w0 S base p v w) : RX w base (grow S w0 w) p v ∧ Chg S w0 w := by
  obtain ⟨dp, mb, bn, bs, pv, SD, SF, ps, Ss, hv⟩ := h
  exact ⟨⟨_, _, _, _, _, _, _, _, _, hv.rv⟩, hv.chg⟩
theorem VOut.chg (h : VOut w S base p v N w') : Chg S w w' := by
  obtain ⟨os, h, -⟩ := h
  exact (VXT.vx h).2

/-- The two disks lie apart, in T alone. -/
structure Two (w : World) (base : Nat) (T : Nat → Prop) (p q : Nat) (v : VS) (N : Nat) : Prop where
  foot : ∀ k, T k → base ≤ k ∧ k < w.heap.size
  bas : base ≤ w.heap.size
  ex : ∃ S S2 os, VX w base S p v os ∧ GoodV v os N ∧ RX w base S2 q v ∧ (∀ k, S k → ¬ S2 k) ∧ (∀ k, S k → T k) ∧ (∀ k, S2 k → T k)
theorem Two.keep (h : Two w base T p q v N) (hc : Chg U w w') (hU : ∀ k, T k → ¬ U k) : Two w' base T p q v N := by
  obtain ⟨S, S2, os, h1, hg, h2, h3, h4, h5⟩ := h.ex
  have := hc.size
  exact ⟨fun k hk => by have := h.foot k hk; omega, by have := h.bas; omega, S, S2, os, h1.keep hc (fun k hk => hU k (h4 k hk)), hg, h2.keep hc (fun k hk => hU k (h5 k hk)), h3, h4, h5⟩
theorem Two.below (h : Two w base T p q v N) (hb : Below w.heap.size w w') : Two w' base T p q v N := h.keep (Chg.of_below hb (Nat.le_refl _) (fun _ => False)) (fun _ _ h => h)

/-- The two disks have turned: of the blocks that were there those in T alone have. -/
def Turn (base : Nat) (T : Nat → Prop) (p q : Nat) (v : VS) (N : Nat) (w w' : World) : Prop := Chg T w w' ∧ Two w' base (grow T w w') p q v N

/-- Both have done the same, one behind the other. -/
theorem two_both (hf : ∀ k, T k → base ≤ k ∧ k < w.heap.size) (hbas : base ≤ w.heap.size) (hd : ∀ k, S k → ¬ S2 k) (hS : ∀ k, S k → T k) (hS2 : ∀ k, S2 k → T k) (hb : Below w.heap.size w w1)
    (hA : VOut w1 S base P v1 M wA) (hB : RXT wA S2 base Q v1 wB) : Turn base T P Q v1 M w wB := by
  obtain ⟨os1, hx, hg1⟩ := hA
  obtain ⟨h1, c1⟩ := VXT.vx hx
  obtain ⟨h2, c2⟩ := RXT.rx hB
  have s0 := hb.size
  have s1 := c1.size
  have s2 := c2.size
  have hct : Chg T w wB := ((Chg.of_below hb (Nat.le_refl _) T).trans (c1.mono (fun k _ hk => hS k hk)) (fun _ _ h => h)).trans (c2.mono (fun k _ hk => hS2 k hk)) (fun _ _ h => h)
  refine ⟨hct, chg_lt hf hct hbas, by omega, _, _, os1, h1.keep c2 (fun k hk hk2 => ?_), hg1, h2, fun k hk hk2 => ?_, fun k hk => ?_, fun k hk => ?_⟩
  · rcases hk with hk | hk
    · exact hd k hk hk2
    · have := (hf k (hS2 k hk2)).2; omega
  · rcases hk with hk | hk
    · rcases hk2 with hk2 | hk2
      · exact hd k hk hk2
      · have := (hf k (hS k hk)).2; omega
    · rcases hk2 with hk2 | hk2
      · have := (hf k (hS2 k hk2)).2; omega
      · omega
  · rcases hk with hk | hk
    · exact .inl (hS k hk)
    · exact .inr (by omega)
  · rcases hk with hk | hk
    · exact .inl (hS2 k hk)
    · exact .inr (by omega)

/-- A call of the program's, then the document's own of the same name. -/
theorem Two.pair {f1 f2 : Nat} {a1 a2 : Array Value} {E1 E2 : Value} (h : Two w base T p q v N) (hb : Below w.heap.size w w1)
    (F : ∀ S os, VX w1 base S p v os → GoodV v os N → Calls Tryz.prog f1 a1 w1 (fun e w' => e = .returned E1 ∧ VOut w1 S base p v1 M w'))
    (R : ∀ S2 os wA, RX wA base S2 q v → GoodV v os N → Below base w1 wA → Calls Tryz.prog f2 a2 wA (fun e w' => e = .returned E2 ∧ RXT wA S2 base q v1 w')) :
    Calls Tryz.prog f1 a1 w1 fun e wA => e = .returned E1 ∧ Chg T w1 wA ∧ Hid (Calls Tryz.prog f2 a2 wA fun e wB => e = .returned E2 ∧ Chg T w1 wB ∧ Turn base T p q v1 M w wB) := by
  obtain ⟨S, S2, os, h1, hg, h2, h3, h4, h5⟩ := h.ex
  have s0 := hb.size
  refine (F S os (h1.below' hb) hg).mono ?_
  rintro e wA ⟨rfl, hA⟩
  have c1 := hA.chg
  have c1T : Chg T w1 wA := c1.mono (fun k _ hk => h4 k hk)
  refine ⟨rfl, c1T, Lib.hid ?_⟩
  refine (R S2 os wA ((h2.below hb).keep c1 (fun k hk hk2 => h3 k hk2 hk)) hg (c1.below (by have := h.bas; omega) (fun k _ hk => (h.foot k (h4 k hk)).1))).mono ?_
  rintro e wB ⟨rfl, hB⟩
  exact ⟨rfl, c1T.trans (hB.rx.2.mono (fun k _ hk => h5 k hk)) (fun _ _ h => h), two_both h.foot h.bas h3 h4 h5 hb hA hB⟩
/-- A crash of both. -/
theorem Two.crash (K : Option Addr) (m d : Nat) (ks : List Bool) (h : Two w base T p q v N) (hN : N ≤ 1000) (hb : Below w.heap.size w w1) (hr : Reads w1 base 1 K m (cellsB ks)) (hmd : m ≤ d) (hdc : d ≤ 9223372036854775807) :
    Calls Tryz.prog 19 #[.pointer (some ⟨p, 0, none⟩), .slice K m d] w1 fun e wA => ∃ P, e = .returned (.pointer (some ⟨P, 0, none⟩)) ∧ Chg T w1 wA ∧
      Hid (Calls Tryz.prog 41 #[.pointer (some ⟨q, 0, none⟩), .slice K m d] wA fun e wB => ∃ Q, e = .returned (.pointer (some ⟨Q, 0, none⟩)) ∧ Chg T w1 wB ∧ Turn base T P Q (v.crash ks) N w wB) := by
  obtain ⟨S, S2, os, h1, hg, h2, h3, h4, h5⟩ := h.ex
  have s0 := hb.size
  refine (vcrash_any p base N S v os K m d ks w1 (h1.below' hb) hg hN hr hmd hdc).mono ?_
  rintro e wA ⟨P, rfl, hA⟩
  have c1 := hA.out.chg
  have hbA : Below w1.heap.size w1 wA := c1.below (Nat.le_refl _) (fun k _ hk => hk.elim)
  refine ⟨P, rfl, c1.mono (fun k _ hk => hk.elim), Lib.hid ?_⟩
  refine (rvcrash_any q base N S2 v os K m d ks wA ((h2.below hb).below hbA) hg hN (hr.below (hbA.mono (by have := h.bas; omega))) hmd hdc).mono ?_
  rintro e wB ⟨Q, rfl, hB⟩
  exact ⟨Q, rfl, (c1.mono (fun k _ hk => hk.elim)).trans (hB.out.rx.2.mono (fun k _ hk => h5 k hk)) (fun _ _ h => h), two_both h.foot h.bas (fun k hk => hk.elim) (fun k hk => hk.elim) h5 hb hA.out hB.out⟩
end

/-- What an act does to a disk. -/
def actV (v : VS) (a : Act8) : VS :=
  if a.kind = 0 then orTick v (v.tick.create a.a) else if a.kind = 1 then orTick v (v.tick.write a.a a.at_ a.bs) else if a.kind = 2 then orTick v (v.tick.trunc a.a a.at_) else if a.kind = 3 then orTick v (v.tick.sync a.a)
  else if a.kind = 4 then orTick v v.tick.syncDir else if a.kind = 5 then orTick v (v.tick.name ⟨1, a.a, a.b, 0⟩) else if a.kind = 6 then orTick v (v.tick.name ⟨2, a.a, ⟨#[]⟩, 0⟩) else if a.kind = 7 then v.arm a.at_ else v.crash a.ks
/-- An act that is not too much. -/
def lightB (a : Act8) : Bool := decide (a.a.size ≤ 200) && decide (a.b.size ≤ 200) && decide (a.n ≤ 300) && decide (a.m ≤ 300) && (decide (a.at_ ≤ 1500) || decide (1048576 < a.at_))
theorem lightB_n {a : Act8} (h : lightB a = true) : a.a.size ≤ 200 ∧ a.b.size ≤ 200 ∧ a.n ≤ 300 ∧ a.m ≤ 300 := by
  unfold lightB at h; simp at h; exact ⟨h.1.1.1.1, h.1.1.1.2, h.1.1.2, h.1.2⟩

set_option maxHeartbeats 2000000 in
theorem light_any (a : Act8) (w : World) (hok : Act8Ok w a) :
    Calls Tryz.prog 10 #[.agg #[.int .i64 a.kind, .string a.a, .string a.b, .int .i64 a.at_, .slice a.A a.n a.c, .slice a.K a.m a.d]] w fun e w' => e = .returned (.bool (lightB a)) ∧ Below w.heap.size w w' := by
  obtain ⟨kd, x, y, t, A, n, c, bs, K, m, d, ks⟩ := a
  have HB := Lib.hid (show lightB ⟨kd, x, y, t, A, n, c, bs, K, m, d, ks⟩ = (decide (x.size ≤ 200) && decide (y.size ≤ 200) && decide (n ≤ 300) && decide (m ≤ 300) && (decide (t ≤ 1500) || decide (1048576 < t))) from rfl)
  have ha := hok.a
  have hb := hok.b
  have hn := hok.bs.le
  have hn2 := hok.bs.cap
  have hm := hok.ks.le
  have hm2 := hok.ks.cap
  simp only at ha hb hn hn2 hm hm2 ⊢
  unfold maxLen at ha hb
  clear hok
  generalize lightB ⟨kd, x, y, t, A, n, c, bs, K, m, d, ks⟩ = lb at HB ⊢
  by_cases g1 : x.size ≤ 200
  · have q1 : (x.size : Int) ≤ 200 := by omega
    by_cases g2 : y.size ≤ 200
    · have q2 : (y.size : Int) ≤ 200 := by omega
      by_cases g3 : n ≤ 300
      · have q3 : (n : Int) ≤ 300 := by omega
        by_cases g4 : m ≤ 300
        · have q4 : (m : Int) ≤ 300 := by omega
          by_cases g5 : t ≤ 1500
          · go_enter Tryz.func10, Tryz.ntmps10
            go_wp2
            go_ret
            exact ⟨ret_bool (by rw [HB.out, decide_eq_true g1, decide_eq_true g2, decide_eq_true g3, decide_eq_true g4, decide_eq_true g5]; rfl), (Below.refl _ _).alloc (Nat.le_refl _) _⟩
          · by_cases g6 : 1048576 < t
            · go_enter Tryz.func10, Tryz.ntmps10
              go_wp2
              go_ret
              exact ⟨ret_bool (by rw [HB.out, decide_eq_true g1, decide_eq_true g2, decide_eq_true g3, decide_eq_true g4, decide_eq_true g6]; simp), (Below.refl _ _).alloc (Nat.le_refl _) _⟩
            · go_enter Tryz.func10, Tryz.ntmps10
              go_wp2
              go_ret
              exact ⟨ret_bool (by rw [HB.out, decide_eq_true g1, decide_eq_true g2, decide_eq_true g3, decide_eq_true g4, decide_eq_false (show ¬ t ≤ 1500 by omega), decide_eq_false (show ¬ 1048576 < t by omega)]; rfl), (Below.refl _ _).alloc (Nat.le_refl _) _⟩
        · have q4 : ¬ (m : Int) ≤ 300 := by omega
          go_enter Tryz.func10, Tryz.ntmps10
          go_wp2
          go_ret
          exact ⟨ret_bool (by rw [HB.out, decide_eq_true g1, decide_eq_true g2, decide_eq_true g3, decide_eq_false g4]; rfl), (Below.refl _ _).alloc (Nat.le_refl _) _⟩
      · have q3 : ¬ (n : Int) ≤ 300 := by omega
        go_enter Tryz.func10, Tryz.ntmps10
        go_wp2
        go_ret
        exact ⟨ret_bool (by rw [HB.out, decide_eq_true g1, decide_eq_true g2, decide_eq_false g3]; rfl), (Below.refl _ _).alloc (Nat.le_refl _) _⟩
    · have q2 : ¬ (y.size : Int) ≤ 200 := by omega
      go_enter Tryz.func10, Tryz.ntmps10
      go_wp2
      go_ret
      exact ⟨ret_bool (by rw [HB.out, decide_eq_true g1, decide_eq_false g2]; rfl), (Below.refl _ _).alloc (Nat.le_refl _) _⟩
  · have q1 : ¬ (x.size : Int) ≤ 200 := by omega
    go_enter Tryz.func10, Tryz.ntmps10
    go_wp2
    go_ret
    exact ⟨ret_bool (by rw [HB.out, decide_eq_false g1]; rfl), (Below.refl _ _).alloc (Nat.le_refl _) _⟩

end Go.Proofs.YtclglbddibjenaaGreat
