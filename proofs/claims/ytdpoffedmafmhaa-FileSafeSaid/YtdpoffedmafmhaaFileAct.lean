/-
  LAYER 6: THE TWO FILES, the program's and the document's, side by side; what an act does to them.
-/
import Derived.Test.YtdpoffedmafmhaaFileFnX
import Derived.Test.YtdpoffedmafmhaaFileRef6
import Derived.Test.YtdpoffedmafmhaaSame
set_option linter.unusedVariables false
set_option linter.unusedSimpArgs false
namespace Go.Proofs.Ytdpoffedmafmhaa
open Go.RowKit

/-- The two files lie apart, in T alone. -/
structure Two (w : World) (base : Nat) (T : Nat → Prop) (p q : Nat) (s s2 : FS) : Prop where
  foot : ∀ k, T k → base ≤ k ∧ k < w.heap.size
  bas : base ≤ w.heap.size
  ex : ∃ S S2 nv sv pv nv2 sv2 ov xs, CF w base S p s nv sv pv ∧ RF w base S2 q s2 nv2 sv2 ov xs ∧ (∀ k, S k → ¬ S2 k) ∧ (∀ k, S k → T k) ∧ (∀ k, S2 k → T k)

section
variable {w w' : World} {base p q : Nat} {T U : Nat → Prop} {s s1 s2 : FS}

theorem Two.keep (h : Two w base T p q s s2) (hc : Chg U w w') (hU : ∀ k, T k → ¬ U k) : Two w' base T p q s s2 := by
  obtain ⟨S, S2, nv, sv, pv, nv2, sv2, ov, xs, h1, h2, h3, h4, h5⟩ := h.ex
  have := hc.size
  exact ⟨fun k hk => by have := h.foot k hk; omega, by have := h.bas; omega, S, S2, nv, sv, pv, nv2, sv2, ov, xs, h1.keep hc (fun k hk => hU k (h4 k hk)), h2.keep hc (fun k hk => hU k (h5 k hk)), h3, h4, h5⟩
theorem Two.below (h : Two w base T p q s s2) (hb : Below w.heap.size w w') : Two w' base T p q s s2 := h.keep (Chg.of_below hb (Nat.le_refl _) (fun _ => False)) (fun _ _ h => h)
theorem Two.drewN (h : Two w base T p q s s2) (n : Nat) : Two (w.drewN n) base T p q s s2 := h.below (below_drewn (Below.refl _ _) n)
theorem Two.mono (h : Two w base T p q s s2) (hU : ∀ k, T k → U k) (hf : ∀ k, U k → base ≤ k ∧ k < w.heap.size) : Two w base U p q s s2 := by
  obtain ⟨S, S2, nv, sv, pv, nv2, sv2, ov, xs, h1, h2, h3, h4, h5⟩ := h.ex
  exact ⟨hf, h.bas, S, S2, nv, sv, pv, nv2, sv2, ov, xs, h1, h2, h3, fun k hk => hU k (h4 k hk), fun k hk => hU k (h5 k hk)⟩

/-- The two files have turned: of the blocks that were there those in T alone have. -/
def Turn (base : Nat) (T : Nat → Prop) (p q : Nat) (s s2 : FS) (w w' : World) : Prop := Chg T w w' ∧ Two w' base (grow T w w') p q s s2

theorem Turn.same (h : Two w base T p q s s2) : Turn base T p q s s2 w w := ⟨Chg.refl _ _, h.mono (fun _ h => .inl h) (chg_lt h.foot (Chg.refl T w) h.bas)⟩
theorem Turn.drew0 {n : Nat} (h : Turn base T p q s s2 (w.drewN n) w') : Turn base T p q s s2 w w' := ⟨h.1.drewN0, h.2⟩
theorem Turn.trans {w1 : World} (hb : ∀ k, T k → base ≤ k ∧ k < w.heap.size) (hbb : base ≤ w.heap.size) (h1 : Chg T w w1) (h2 : Turn base (grow T w w1) p q s s2 w1 w') : Turn base T p q s s2 w w' := by
  have hs := h1.size
  have hc : Chg T w w' := h1.trans h2.1 (fun k hk hg => by
    rcases hg with h | h
    · exact h
    · omega)
  refine ⟨hc, h2.2.mono (fun k hk => ?_) (chg_lt hb hc hbb)⟩
  have := (h2.2.foot k hk).2
  rcases hk with (h | h) | h
  · exact .inl h
  · exact .inr ⟨h.1, this⟩
  · exact .inr ⟨by omega, this⟩
/-- Ahead of it something has come that has turned nothing. -/
theorem Turn.later {w1 : World} {p0 q0 : Nat} {t1 t2 : FS} (h : Two w base T p0 q0 t1 t2) (hb : Below w.heap.size w w1) (h2 : Turn base T p q s s2 w1 w') : Turn base T p q s s2 w w' := by
  have hs := hb.size
  have hc : Chg T w w' := (Chg.of_below hb (Nat.le_refl _) T).trans h2.1 (fun _ _ h => h)
  refine ⟨hc, h2.2.mono (fun k hk => ?_) (chg_lt h.foot hc h.bas)⟩
  have := (h2.2.foot k hk).2
  rcases hk with h | h
  · exact .inl h
  · exact .inr ⟨by omega, this⟩

/-- The program's file has turned. -/
theorem Two.code {S S2 : Nat → Prop} {nv sv pv nv2 sv2 ov : Value} {xs : List Value} (h : Two w base T p q s s2) (h1 : CF w base S p s nv sv pv) (h2 : RF w base S2 q s2 nv2 sv2 ov xs) (h3 : ∀ k, S k → ¬ S2 k) (h4 : ∀ k, S k → T k) (h5 : ∀ k, S2 k → T k)
    (hf : CFT base S p s1 w w') : Turn base T p q s1 s2 w w' := by
  obtain ⟨hc, nv', sv', pv', hcf⟩ := hf
  have hct : Chg T w w' := hc.mono (fun k _ hk => h4 k hk)
  refine ⟨hct, chg_lt h.foot hct h.bas, by have := h.bas; have := hc.size; omega, _, S2, nv', sv', pv', nv2, sv2, ov, xs, hcf, h2.keep hc (fun k hk hs => h3 k hs hk), fun k hk hk2 => ?_, fun k hk => ?_, fun k hk => .inl (h5 k hk)⟩
  · rcases hk with hk | hk
    · exact h3 k hk hk2
    · have := (h2.foot k hk2).2; omega
  · rcases hk with hk | hk
    · exact .inl (h4 k hk)
    · exact .inr hk
/-- The document's file has turned. -/
theorem Two.ref {S S2 : Nat → Prop} {nv sv pv nv2 sv2 ov : Value} {xs : List Value} (h : Two w base T p q s s2) (h1 : CF w base S p s nv sv pv) (h2 : RF w base S2 q s2 nv2 sv2 ov xs) (h3 : ∀ k, S k → ¬ S2 k) (h4 : ∀ k, S k → T k) (h5 : ∀ k, S2 k → T k)
    (hf : RFT base S2 q s1 w w') : Turn base T p q s s1 w w' := by
  obtain ⟨hc, nv', sv', ov', xs', hrf⟩ := hf
  have hct : Chg T w w' := hc.mono (fun k _ hk => h5 k hk)
  refine ⟨hct, chg_lt h.foot hct h.bas, by have := h.bas; have := hc.size; omega, S, _, nv, sv, pv, nv', sv', ov', xs', h1.keep hc (fun k hk hs => h3 k hk hs), hrf, fun k hk hk2 => ?_, fun k hk => .inl (h4 k hk), fun k hk => ?_⟩
  · rcases hk2 with hk2 | hk2
    · exact h3 k hk hk2
    · have := (h1.foot k hk).2; omega
  · rcases hk with hk | hk
    · exact .inl (h5 k hk)
    · exact .inr hk
/-- Two files of their own. -/
theorem Two.fresh {w1 : World} {e e2 : Ending} (h : Two w base T p q s s2) (hf : CFnew base s1 w e w1) (hr : RFnew base s1 w1 e2 w') : ∃ p' q', e = .returned (.pointer (some ⟨p', 0, none⟩)) ∧ e2 = .returned (.pointer (some ⟨q', 0, none⟩)) ∧ Turn base T p' q' s1 s1 w w' := by
  obtain ⟨p', nv, sv, pv, rfl, hb, hcf⟩ := hf
  obtain ⟨q', nv2, sv2, ov, xs, rfl, hb2, hrf⟩ := hr
  have hs := hb.size
  have hs2 := hb2.size
  have hbb : Below w.heap.size w w' := hb.trans (hb2.mono hs)
  have hct : Chg T w w' := Chg.of_below hbb (Nat.le_refl _) T
  refine ⟨p', q', rfl, rfl, hct, chg_lt h.foot hct h.bas, by have := h.bas; omega, _, _, nv, sv, pv, nv2, sv2, ov, xs, hcf.below hb2, hrf, fun k hk hk2 => by omega, fun k hk => .inr (by omega), fun k hk => .inr (by omega)⟩
end

/-- What an act does to a file. -/
def FS.act (s : FS) (a : ActM) : FS := if a.kind = 0 then s.writeI a.at_ a.bs else if a.kind = 1 then s.truncI a.at_ else if a.kind = 2 then s.sync else s.crash a.ks

/-- An act that is not too much. -/
def lightB (a : ActM) : Bool := decide (a.n ≤ 400) && decide (a.m ≤ 200) && (decide (a.at_ ≤ 2000) || decide (1048576 < a.at_))

theorem FS.Good.act {s : FS} {n : Nat} (h : s.Good n) (a : ActM) (hb : AreB a.bs) (hl : a.bs.length ≤ 400) : (s.act a).Good (n + 10) := by
  unfold FS.act
  split
  · exact (h.writeI a.at_ hb).more (by omega)
  · split
    · exact (h.truncI a.at_).more (by omega)
    · split
      · exact h.sync.more (by omega)
      · exact (h.crash a.ks).more (by omega)

theorem light_any (a : ActM) (w : World) (h1 : (Lit.int .i64 a.at_).wf = true) :
    Calls Try.prog 8 #[.agg #[.int .i64 a.kind, .int .i64 a.at_, .slice a.A a.n a.c, .slice a.K a.m a.d]] w fun e w' => e = .returned (.bool (lightB a)) ∧ Below w.heap.size w w' := by
  have HB := Lib.hid (show lightB a = (decide (a.n ≤ 400) && decide (a.m ≤ 200) && (decide (a.at_ ≤ 2000) || decide (1048576 < a.at_))) from rfl)
  by_cases g1 : a.n ≤ 400
  · have q1 : (a.n : Int) ≤ 400 := by omega
    by_cases g2 : a.m ≤ 200
    · have q2 : (a.m : Int) ≤ 200 := by omega
      by_cases g3 : a.at_ ≤ 2000
      · go_enter Try.func8, Try.ntmps8
        go_wp2
        go_ret
        exact ⟨ret_bool (by rw [HB.out, decide_eq_true g1, decide_eq_true g2, decide_eq_true g3]; rfl), (Below.refl _ _).alloc (Nat.le_refl _) _⟩
      · go_enter Try.func8, Try.ntmps8
        go_wp2
        go_ret
        exact ⟨ret_bool (by rw [HB.out, decide_eq_true g1, decide_eq_true g2, decide_eq_false (show ¬ a.at_ ≤ 2000 by omega)]; rfl), (Below.refl _ _).alloc (Nat.le_refl _) _⟩
    · have q2 : ¬ (a.m : Int) ≤ 200 := by omega
      go_enter Try.func8, Try.ntmps8
      go_wp2
      go_ret
      exact ⟨ret_bool (by rw [HB.out, decide_eq_true g1, decide_eq_false g2]; rfl), (Below.refl _ _).alloc (Nat.le_refl _) _⟩
  · have q1 : ¬ (a.n : Int) ≤ 400 := by omega
    go_enter Try.func8, Try.ntmps8
    go_wp2
    go_ret
    exact ⟨ret_bool (by rw [HB.out, decide_eq_false g1]; rfl), (Below.refl _ _).alloc (Nat.le_refl _) _⟩

end Go.Proofs.Ytdpoffedmafmhaa
