/-
  LAYER 7: THE TWO DIRECTORIES, the program's and the document's, side by side; each call, done to both.
-/
import Derived.Test.YtakjiklpfddooaaDirCrash
import Derived.Test.YtakjiklpfddooaaDirRef4
import Derived.Test.YtakjiklpfddooaaActs7
set_option linter.unusedVariables false
set_option linter.unusedSimpArgs false
namespace Go.Proofs.Ytakjiklpfddooaa
open Go.RowKit

/-- The two directories lie apart, in T alone. -/
structure Two (w : World) (base : Nat) (T : Nat → Prop) (p q : Nat) (s s2 : DB) : Prop where
  foot : ∀ k, T k → base ≤ k ∧ k < w.heap.size
  bas : base ≤ w.heap.size
  ex : ∃ S S2 bn bs pv nv sv ov, CD w base S p s bn bs pv ∧ RD w base S2 q s2 nv sv ov ∧ (∀ k, S k → ¬ S2 k) ∧ (∀ k, S k → T k) ∧ (∀ k, S2 k → T k)

section
variable {w w' : World} {base p q : Nat} {T U : Nat → Prop} {s s1 s2 : DB}

theorem Two.keep (h : Two w base T p q s s2) (hc : Chg U w w') (hU : ∀ k, T k → ¬ U k) : Two w' base T p q s s2 := by
  obtain ⟨S, S2, bn, bs, pv, nv, sv, ov, h1, h2, h3, h4, h5⟩ := h.ex
  have := hc.size
  exact ⟨fun k hk => by have := h.foot k hk; omega, by have := h.bas; omega, S, S2, bn, bs, pv, nv, sv, ov, h1.keep hc (fun k hk => hU k (h4 k hk)), h2.keep hc (fun k hk => hU k (h5 k hk)), h3, h4, h5⟩
theorem Two.below (h : Two w base T p q s s2) (hb : Below w.heap.size w w') : Two w' base T p q s s2 := h.keep (Chg.of_below hb (Nat.le_refl _) (fun _ => False)) (fun _ _ h => h)
theorem Two.drewN (h : Two w base T p q s s2) (n : Nat) : Two (w.drewN n) base T p q s s2 := h.below (below_drewn (Below.refl _ _) n)
theorem Two.mono (h : Two w base T p q s s2) (hU : ∀ k, T k → U k) (hf : ∀ k, U k → base ≤ k ∧ k < w.heap.size) : Two w base U p q s s2 := by
  obtain ⟨S, S2, bn, bs, pv, nv, sv, ov, h1, h2, h3, h4, h5⟩ := h.ex
  exact ⟨hf, h.bas, S, S2, bn, bs, pv, nv, sv, ov, h1, h2, h3, fun k hk => hU k (h4 k hk), fun k hk => hU k (h5 k hk)⟩

/-- The two directories have turned: of the blocks that were there those in T alone have. -/
def Turn (base : Nat) (T : Nat → Prop) (p q : Nat) (s s2 : DB) (w w' : World) : Prop := Chg T w w' ∧ Two w' base (grow T w w') p q s s2

theorem Turn.same (h : Two w base T p q s s2) : Turn base T p q s s2 w w := ⟨Chg.refl _ _, h.mono (fun _ h => .inl h) (chg_lt h.foot (Chg.refl T w) h.bas)⟩
theorem Turn.trans {w1 : World} (hb : ∀ k, T k → base ≤ k ∧ k < w.heap.size) (hbb : base ≤ w.heap.size) (h1 : Chg T w w1) (h2 : Turn base (grow T w w1) p q s s2 w1 w') : Turn base T p q s s2 w w' := by
  have hs := h1.size
  have hc : Chg T w w' := h1.trans h2.1 (fun k hk hg => by
    rcases hg with h | h
    · exact h
    · omega)
  refine ⟨hc, h2.2.mono (fun k hk => ?_) (chg_lt hb hc hbb)⟩
  have := (h2.2.foot k hk).2
  rcases hk with (h | h) | h
  · exact .inl h
  · exact .inr ⟨h.1, this⟩
  · exact .inr ⟨by omega, this⟩
/-- Ahead of it something has come that has turned nothing. -/
theorem Turn.later {w1 : World} {p0 q0 : Nat} {t1 t2 : DB} (h : Two w base T p0 q0 t1 t2) (hb : Below w.heap.size w w1) (h2 : Turn base T p q s s2 w1 w') : Turn base T p q s s2 w w' := by
  have hs := hb.size
  have hc : Chg T w w' := (Chg.of_below hb (Nat.le_refl _) T).trans h2.1 (fun _ _ h => h)
  refine ⟨hc, h2.2.mono (fun k hk => ?_) (chg_lt h.foot hc h.bas)⟩
  have := (h2.2.foot k hk).2
  rcases hk with h | h
  · exact .inl h
  · exact .inr ⟨by omega, this⟩

/-- The program's directory has turned. -/
theorem Two.code {S S2 : Nat → Prop} {bn bs : Nat} {pv nv sv ov : Value} (h : Two w base T p q s s2) (h1 : CD w base S p s bn bs pv) (h2 : RD w base S2 q s2 nv sv ov) (h3 : ∀ k, S k → ¬ S2 k) (h4 : ∀ k, S k → T k) (h5 : ∀ k, S2 k → T k)
    (hf : CDT base S p s1 w w') : Turn base T p q s1 s2 w w' := by
  obtain ⟨hc, bn', bs', pv', hcf⟩ := hf
  have hct : Chg T w w' := hc.mono (fun k _ hk => h4 k hk)
  refine ⟨hct, chg_lt h.foot hct h.bas, by have := h.bas; have := hc.size; omega, _, S2, bn', bs', pv', nv, sv, ov, hcf, h2.keep hc (fun k hk hs => h3 k hs hk), fun k hk hk2 => ?_, fun k hk => ?_, fun k hk => .inl (h5 k hk)⟩
  · rcases hk with hk | hk
    · exact h3 k hk hk2
    · have := (h2.foot k hk2).2; omega
  · rcases hk with hk | hk
    · exact .inl (h4 k hk)
    · exact .inr hk
/-- The document's directory has turned. -/
theorem Two.ref {S S2 : Nat → Prop} {bn bs : Nat} {pv nv sv ov : Value} (h : Two w base T p q s s2) (h1 : CD w base S p s bn bs pv) (h2 : RD w base S2 q s2 nv sv ov) (h3 : ∀ k, S k → ¬ S2 k) (h4 : ∀ k, S k → T k) (h5 : ∀ k, S2 k → T k)
    (hf : RDT base S2 q s1 w w') : Turn base T p q s s1 w w' := by
  obtain ⟨hc, nv', sv', ov', hrf⟩ := hf
  have hct : Chg T w w' := hc.mono (fun k _ hk => h5 k hk)
  refine ⟨hct, chg_lt h.foot hct h.bas, by have := h.bas; have := hc.size; omega, S, _, bn, bs, pv, nv', sv', ov', h1.keep hc (fun k hk hs => h3 k hk hs), hrf, fun k hk hk2 => ?_, fun k hk => .inl (h4 k hk), fun k hk => ?_⟩
  · rcases hk2 with hk2 | hk2
    · exact h3 k hk hk2
    · have := (h1.foot k hk).2; omega
  · rcases hk with hk | hk
    · exact .inl (h5 k hk)
    · exact .inr hk
end

section
variable {w : World} {base p q N : Nat} {T : Nat → Prop} {s s1 : DB} {x y : ByteArray} {id : Int}

theorem two_create (h : Two w base T p q s s1) (hg : GoodD s N) (hN : N ≤ 900000) (ho : OkO ⟨0, x, y, id⟩) :
    Calls Try.prog 19 #[.pointer (some ⟨p, 0, none⟩), .string x, .int .i64 id] w fun e w' => e = .returned (.int .i64 (doE s.now ⟨0, x, y, id⟩)) ∧ Turn base T p q (doS s ⟨0, x, y, id⟩) s1 w w' := by
  obtain ⟨S, S2, bn, bs, pv, nv, sv, ov, h1, h2, h3, h4, h5⟩ := h.ex
  exact (dcreate_any p base N S s bn bs pv x y id w h1 hg hN ho.a ho.b ho.id).mono fun e w' ⟨he, hc⟩ => ⟨he, h.code h1 h2 h3 h4 h5 hc⟩
theorem two_rename (h : Two w base T p q s s1) (hg : GoodD s N) (hN : N ≤ 900000) (ho : OkO ⟨1, x, y, id⟩) :
    Calls Try.prog 20 #[.pointer (some ⟨p, 0, none⟩), .string x, .string y] w fun e w' => e = .returned (.int .i64 (doE s.now ⟨1, x, y, id⟩)) ∧ Turn base T p q (doS s ⟨1, x, y, id⟩) s1 w w' := by
  obtain ⟨S, S2, bn, bs, pv, nv, sv, ov, h1, h2, h3, h4, h5⟩ := h.ex
  exact (drename_any p base N S s bn bs pv x y id w h1 hg hN ho.a ho.b ho.id).mono fun e w' ⟨he, hc⟩ => ⟨he, h.code h1 h2 h3 h4 h5 hc⟩
theorem two_unlink (h : Two w base T p q s s1) (hg : GoodD s N) (hN : N ≤ 900000) (ho : OkO ⟨2, x, y, id⟩) :
    Calls Try.prog 21 #[.pointer (some ⟨p, 0, none⟩), .string x] w fun e w' => e = .returned (.int .i64 (doE s.now ⟨2, x, y, id⟩)) ∧ Turn base T p q (doS s ⟨2, x, y, id⟩) s1 w w' := by
  obtain ⟨S, S2, bn, bs, pv, nv, sv, ov, h1, h2, h3, h4, h5⟩ := h.ex
  exact (dunlink_any p base N S s bn bs pv x y id w h1 hg hN ho.a ho.b ho.id).mono fun e w' ⟨he, hc⟩ => ⟨he, h.code h1 h2 h3 h4 h5 hc⟩
theorem two_dsync (h : Two w base T p q s s1) (hg : GoodD s N) (hN : N ≤ 900000) :
    Calls Try.prog 13 #[.pointer (some ⟨p, 0, none⟩)] w fun e w' => e = .returned (.tuple #[]) ∧ Turn base T p q s.sync s1 w w' := by
  obtain ⟨S, S2, bn, bs, pv, nv, sv, ov, h1, h2, h3, h4, h5⟩ := h.ex
  exact (dsync_any p base N S s bn bs pv w h1 hg hN).mono fun e w' ⟨he, hc⟩ => ⟨he, h.code h1 h2 h3 h4 h5 hc⟩
/-- The document's, behind one of the program's. -/
theorem two_do {w0 : World} {T0 : Nat → Prop} {o : OpB} (h0 : Turn base T0 p q s1 s w0 w) (hf : ∀ k, T0 k → base ≤ k ∧ k < w0.heap.size) (hb : base ≤ w0.heap.size) (hg : GoodD s N) (hN : N ≤ 900000) (ho : OkO o) :
    Calls Try.prog 23 #[.pointer (some ⟨q, 0, none⟩), .agg #[.int .i64 o.kind, .string o.a, .string o.b, .int .i64 o.id]] w fun e w' => e = .returned (.int .i64 (doE s.now o)) ∧ Turn base T0 p q s1 (doS s o) w0 w' := by
  obtain ⟨S, S2, bn, bs, pv, nv, sv, ov, h1, h2, h3, h4, h5⟩ := h0.2.ex
  exact (rdo_any q base N S2 s nv sv ov o w h2 hg hN ho).mono fun e w' ⟨he, hc⟩ => ⟨he, Turn.trans hf hb h0.1 (h0.2.ref h1 h2 h3 h4 h5 hc)⟩
theorem two_rsync {w0 : World} {T0 : Nat → Prop} (h0 : Turn base T0 p q s1 s w0 w) (hf : ∀ k, T0 k → base ≤ k ∧ k < w0.heap.size) (hb : base ≤ w0.heap.size) :
    Calls Try.prog 24 #[.pointer (some ⟨q, 0, none⟩)] w fun e w' => e = .returned (.tuple #[]) ∧ Turn base T0 p q s1 s.sync w0 w' := by
  obtain ⟨S, S2, bn, bs, pv, nv, sv, ov, h1, h2, h3, h4, h5⟩ := h0.2.ex
  exact (rsync_any q base S2 s nv sv ov w h2).mono fun e w' ⟨he, hc⟩ => ⟨he, Turn.trans hf hb h0.1 (h0.2.ref h1 h2 h3 h4 h5 hc)⟩
theorem two_dcrash (K : Option Addr) (m d : Nat) (ks : List Bool) {Bk : Nat} (h : Two w base T p q s s1) (hr : Reads w Bk 1 K m (cellsB ks)) (hB : Bk ≤ w.heap.size) (hmd : m ≤ d) (hdc : d ≤ 9223372036854775807) (hg : GoodD s N) (hN : N ≤ 900000) :
    Calls Try.prog 14 #[.pointer (some ⟨p, 0, none⟩), .slice K m d] w (CDnew base (s.crash cfT ks) w) := by
  obtain ⟨S, S2, bn, bs, pv, nv, sv, ov, h1, h2, h3, h4, h5⟩ := h.ex
  exact dcrash_any p K m d ks Bk base N S s bn bs pv w h1 hr hB hmd hdc hg hN
/-- The document's crash, behind the program's. -/
theorem two_rcrash (K : Option Addr) (m d : Nat) (ks : List Bool) {w1 : World} {Bk p' : Nat} {bn' bs' : Nat} {pv' : Value} {t : DB} (h : Two w base T p q s1 s) (hb : Below w.heap.size w w1) (hcd : CD w1 base (fun k => w.heap.size ≤ k ∧ k < w1.heap.size) p' t bn' bs' pv') (hr : Reads w Bk 1 K m (cellsB ks)) (hB : Bk ≤ w.heap.size) (hmd : m ≤ d) (hdc : d ≤ 9223372036854775807) (hg : GoodD s N) (hN : N ≤ 900000) :
    Calls Try.prog 25 #[.pointer (some ⟨q, 0, none⟩), .slice K m d] w1 fun e w' => ∃ q', e = .returned (.pointer (some ⟨q', 0, none⟩)) ∧ Turn base T p' q' t (s.crash cfT ks) w w' := by
  obtain ⟨S, S2, bn, bs, pv, nv, sv, ov, h1, h2, h3, h4, h5⟩ := h.ex
  have hs := hb.size
  refine (rcrash_any q K m d ks Bk base N S2 s nv sv ov w1 (h2.below hb) (hr.below (hb.mono hB)) (Nat.le_trans hB hs) hmd hdc hg hN).mono ?_
  rintro e w' ⟨q', nv', sv', ov', rfl, hb2, hrd⟩
  have hs2 := hb2.size
  have hbb : Below w.heap.size w w' := hb.trans (hb2.mono hs)
  have hct : Chg T w w' := Chg.of_below hbb (Nat.le_refl _) T
  refine ⟨q', rfl, hct, chg_lt h.foot hct h.bas, by have := h.bas; omega, _, _, bn', bs', pv', nv', sv', ov', hcd.below hb2, hrd, fun k hk hk2 => ?_, fun k hk => .inr (by omega), fun k hk => ?_⟩
  · rcases hk2 with hk2 | hk2
    · have := (h2.foot k hk2).2; omega
    · omega
  · rcases hk with hk | hk
    · exact .inl (h5 k hk)
    · exact .inr (by omega)
end

/-- What an act does to a directory. -/
def actS (s : DB) (a : ActD) : DB := if a.kind = 0 then doS s ⟨0, a.a, a.b, a.id⟩ else if a.kind = 1 then doS s ⟨1, a.a, a.b, a.id⟩ else if a.kind = 2 then doS s ⟨2, a.a, a.b, a.id⟩ else if a.kind = 3 then s.sync else s.crash cfT a.ks
/-- An act that is not too much. -/
def lightB (a : ActD) : Bool := decide (a.a.size ≤ 200) && decide (a.b.size ≤ 200) && decide (a.m ≤ 100)
theorem lightB_n {a : ActD} (h : lightB a = true) : a.a.size ≤ 200 ∧ a.b.size ≤ 200 ∧ a.m ≤ 100 := by
  unfold lightB at h; simp at h; exact ⟨h.1.1, h.1.2, h.2⟩
theorem GoodD.act {s : DB} {n : Nat} (h : GoodD s n) (a : ActD) (ha : a.a.size ≤ 200) (hb : a.b.size ≤ 200) (hi : (Lit.int .i64 a.id).wf = true) : GoodD (actS s a) (n + 1) := by
  unfold actS
  split
  · exact h.do_ ⟨ha, hb, hi, .inl rfl⟩
  · split
    · exact h.do_ ⟨ha, hb, hi, .inr (.inl rfl)⟩
    · split
      · exact h.do_ ⟨ha, hb, hi, .inr (.inr rfl)⟩
      · split
        · exact h.sync.more (by omega)
        · exact (h.crash a.ks).more (by omega)

theorem light_any (a : ActD) (w : World) (ha : a.a.size ≤ maxLen) (hb : a.b.size ≤ maxLen) :
    Calls Try.prog 8 #[.agg #[.int .i64 a.kind, .string a.a, .string a.b, .int .i64 a.id, .slice a.K a.m a.d]] w fun e w' => e = .returned (.bool (lightB a)) ∧ Below w.heap.size w w' := by
  have HB := Lib.hid (show lightB a = (decide (a.a.size ≤ 200) && decide (a.b.size ≤ 200) && decide (a.m ≤ 100)) from rfl)
  unfold maxLen at ha hb
  by_cases g1 : a.a.size ≤ 200
  · have q1 : (a.a.size : Int) ≤ 200 := by omega
    by_cases g2 : a.b.size ≤ 200
    · have q2 : (a.b.size : Int) ≤ 200 := by omega
      go_enter Try.func8, Try.ntmps8
      go_wp2
      go_ret
      exact ⟨ret_bool (by rw [HB.out, decide_eq_true g1, decide_eq_true g2]; simp [decide_eq_decide]; omega), (Below.refl _ _).alloc (Nat.le_refl _) _⟩
    · have q2 : ¬ (a.b.size : Int) ≤ 200 := by omega
      go_enter Try.func8, Try.ntmps8
      go_wp2
      go_ret
      exact ⟨ret_bool (by rw [HB.out, decide_eq_true g1, decide_eq_false g2]; rfl), (Below.refl _ _).alloc (Nat.le_refl _) _⟩
  · have q1 : ¬ (a.a.size : Int) ≤ 200 := by omega
    go_enter Try.func8, Try.ntmps8
    go_wp2
    go_ret
    exact ⟨ret_bool (by rw [HB.out, decide_eq_false g1]; rfl), (Below.refl _ _).alloc (Nat.le_refl _) _⟩

end Go.Proofs.Ytakjiklpfddooaa
