/-
  LAYER 12: THE TWO IMAGES, the program's and the document's, side by side; what an act does to them.
-/
import Derived.Test.YthdnjjdlhhapbaaImCh
import Derived.Test.YthdnjjdlhhapbaaImBack
import Derived.Test.YthdnjjdlhhapbaaImRefN
set_option linter.unusedVariables false
set_option maxRecDepth 100000
set_option linter.unusedSimpArgs false
namespace Go.Proofs.Ythdnjjdlhhapbaa
open Go.RowKit

/-- The two images lie apart, in T alone. -/
structure ITwo (w : World) (base : Nat) (T : Nat → Prop) (p q : Nat) (i k d f h : Int) (m m2 : IM) : Prop where
  foot : ∀ j, T j → base ≤ j ∧ j < w.heap.size
  bas : base ≤ w.heap.size
  ex : ∃ S S2 bv sv bv2 wv2 sv2, IX w base S p i k d f h m bv sv ∧ RX w base S2 q i k d f h m2 bv2 wv2 sv2 ∧ (∀ j, S j → ¬ S2 j) ∧ (∀ j, S j → T j) ∧ (∀ j, S2 j → T j)

/-- The two images have turned: of the blocks that were there those in T alone have. -/
def ITurn (base : Nat) (T : Nat → Prop) (p q : Nat) (i k d f h : Int) (m m2 : IM) (w w' : World) : Prop := Chg T w w' ∧ ITwo w' base (grow T w w') p q i k d f h m m2

section
variable {w w' wb w1 : World} {base p q : Nat} {T U : Nat → Prop} {i k d f h : Int} {m m1 m2 : IM}

theorem ITwo.keep (H : ITwo w base T p q i k d f h m m2) (hc : Chg U w w') (hU : ∀ j, T j → ¬ U j) : ITwo w' base T p q i k d f h m m2 := by
  obtain ⟨S, S2, bv, sv, bv2, wv2, sv2, h1, h2, h3, h4, h5⟩ := H.ex
  have := hc.size
  exact ⟨fun j hj => by have := H.foot j hj; omega, by have := H.bas; omega, S, S2, bv, sv, bv2, wv2, sv2, h1.keep hc (fun j hj => hU j (h4 j hj)), h2.keep hc (fun j hj => hU j (h5 j hj)), h3, h4, h5⟩
theorem ITwo.below (H : ITwo w base T p q i k d f h m m2) (hb : Below w.heap.size w w') : ITwo w' base T p q i k d f h m m2 := H.keep (Chg.of_below hb (Nat.le_refl _) (fun _ => False)) (fun _ _ h => h)
theorem ITwo.drewN (H : ITwo w base T p q i k d f h m m2) (n : Nat) : ITwo (w.drewN n) base T p q i k d f h m m2 := H.below (below_drewn (Below.refl _ _) n)
theorem ITwo.mono (H : ITwo w base T p q i k d f h m m2) (hU : ∀ j, T j → U j) (hf : ∀ j, U j → base ≤ j ∧ j < w.heap.size) : ITwo w base U p q i k d f h m m2 := by
  obtain ⟨S, S2, bv, sv, bv2, wv2, sv2, h1, h2, h3, h4, h5⟩ := H.ex
  exact ⟨hf, H.bas, S, S2, bv, sv, bv2, wv2, sv2, h1, h2, h3, fun j hj => hU j (h4 j hj), fun j hj => hU j (h5 j hj)⟩

theorem ITurn.same (H : ITwo w base T p q i k d f h m m2) : ITurn base T p q i k d f h m m2 w w := ⟨Chg.refl _ _, H.mono (fun _ h => .inl h) (chg_lt H.foot (Chg.refl T w) H.bas)⟩
theorem ITurn.trans (hf : ∀ j, T j → base ≤ j ∧ j < w.heap.size) (hbb : base ≤ w.heap.size) (h1 : Chg T w w1) (h2 : ITurn base (grow T w w1) p q i k d f h m m2 w1 w') : ITurn base T p q i k d f h m m2 w w' := by
  have hs := h1.size
  have hc : Chg T w w' := h1.trans h2.1 (fun j hj hg => by
    rcases hg with h | h
    · exact h
    · omega)
  refine ⟨hc, h2.2.mono (fun j hj => ?_) (chg_lt hf hc hbb)⟩
  have := (h2.2.foot j hj).2
  rcases hj with (h | h) | h
  · exact .inl h
  · exact .inr ⟨h.1, this⟩
  · exact .inr ⟨by omega, this⟩
/-- Ahead of it something has come that has turned nothing. -/
theorem ITurn.later {p0 q0 : Nat} {t1 t2 : IM} (H : ITwo w base T p0 q0 i k d f h t1 t2) (hb : Below w.heap.size w w1) (h2 : ITurn base T p q i k d f h m m2 w1 w') : ITurn base T p q i k d f h m m2 w w' := by
  have hs := hb.size
  have hc : Chg T w w' := (Chg.of_below hb (Nat.le_refl _) T).trans h2.1 (fun _ _ h => h)
  refine ⟨hc, h2.2.mono (fun j hj => ?_) (chg_lt H.foot hc H.bas)⟩
  have := (h2.2.foot j hj).2
  rcases hj with h | h
  · exact .inl h
  · exact .inr ⟨by omega, this⟩

/-- The program's image has turned. -/
theorem ITwo.code {S S2 : Nat → Prop} {bv sv bv2 wv2 sv2 : Value} (H : ITwo w base T p q i k d f h m m2) (h1 : IX w base S p i k d f h m bv sv) (h2 : RX w base S2 q i k d f h m2 bv2 wv2 sv2) (h3 : ∀ j, S j → ¬ S2 j) (h4 : ∀ j, S j → T j) (h5 : ∀ j, S2 j → T j)
    (hf : IXT base S p i k d f h m1 w w') : ITurn base T p q i k d f h m1 m2 w w' := by
  obtain ⟨hc, bv', sv', hcf⟩ := hf
  have hct : Chg T w w' := hc.mono (fun j _ hj => h4 j hj)
  refine ⟨hct, chg_lt H.foot hct H.bas, by have := H.bas; have := hc.size; omega, _, S2, bv', sv', bv2, wv2, sv2, hcf, h2.keep hc (fun j hj hs => h3 j hs hj), fun j hj hj2 => ?_, fun j hj => ?_, fun j hj => .inl (h5 j hj)⟩
  · rcases hj with hj | hj
    · exact h3 j hj hj2
    · have := (h2.foot j hj2).2; omega
  · rcases hj with hj | hj
    · exact .inl (h4 j hj)
    · exact .inr hj
/-- The document's image has turned. -/
theorem ITwo.ref {S S2 : Nat → Prop} {bv sv bv2 wv2 sv2 : Value} (H : ITwo w base T p q i k d f h m m2) (h1 : IX w base S p i k d f h m bv sv) (h2 : RX w base S2 q i k d f h m2 bv2 wv2 sv2) (h3 : ∀ j, S j → ¬ S2 j) (h4 : ∀ j, S j → T j) (h5 : ∀ j, S2 j → T j)
    (hf : RXT base S2 q i k d f h m1 w w') : ITurn base T p q i k d f h m m1 w w' := by
  obtain ⟨hc, bv', wv', sv', hrf⟩ := hf
  have hct : Chg T w w' := hc.mono (fun j _ hj => h5 j hj)
  refine ⟨hct, chg_lt H.foot hct H.bas, by have := H.bas; have := hc.size; omega, S, _, bv, sv, bv', wv', sv', h1.keep hc (fun j hj hs => h3 j hj hs), hrf, fun j hj hj2 => ?_, fun j hj => .inl (h4 j hj), fun j hj => ?_⟩
  · rcases hj2 with hj2 | hj2
    · exact h3 j hj hj2
    · have := (h1.foot j hj).2; omega
  · rcases hj with hj | hj
    · exact .inl (h5 j hj)
    · exact .inr hj
/-- Two images of their own. -/
theorem ITwo.fresh {p' q' : Nat} {e e2 : Ending} (hb : base ≤ w.heap.size) (hf : IXnew base i k d f h m w e w1) (hr : RXnew base i k d f h m w1 e2 w') :
    ∃ p' q', e = .returned (.pointer (some ⟨p', 0, none⟩)) ∧ e2 = .returned (.pointer (some ⟨q', 0, none⟩)) ∧ Below w.heap.size w w' ∧ ITwo w' base (fun j => w.heap.size ≤ j ∧ j < w'.heap.size) p' q' i k d f h m m := by
  obtain ⟨p', bv, sv, rfl, hb1, h1⟩ := hf
  obtain ⟨q', bv2, wv2, sv2, rfl, hb2, h2⟩ := hr
  have hs := hb1.size
  have hs2 := hb2.size
  exact ⟨p', q', rfl, rfl, hb1.trans (hb2.mono hs), fun j hj => ⟨by omega, hj.2⟩, by omega, _, _, bv, sv, bv2, wv2, sv2, h1.below hb2, h2, fun j hj hj2 => by omega, fun j hj => ⟨hj.1, by omega⟩, fun j hj => ⟨by omega, hj.2⟩⟩
end

/-! ### bounds -/
/-- What holds of an image behind N acts. -/
structure IM.Ok (m : IM) (N : Nat) : Prop where
  good : m.Good
  len : m.b.length ≤ 2097152
  lim : m.lim ≤ 1048576
  few : m.words.length ≤ N
theorem IM.Ok.wasle {m : IM} {N : Nat} (h : m.Ok N) : m.was.length ≤ 2097152 := Nat.le_trans h.good.le h.len
theorem IM.Ok.more {m : IM} {N M : Nat} (h : m.Ok N) (hN : N ≤ M) : m.Ok M := ⟨h.good, h.len, h.lim, by have := h.few; omega⟩
theorem IM.Ok.done {m : IM} {N : Nat} (h : m.Ok N) : m.done.Ok N := ⟨h.good.done, h.len, h.lim, Nat.zero_le _⟩
theorem IM.Ok.back {m : IM} {N : Nat} (h : m.Ok N) : m.back.Ok N := ⟨h.good.back, h.wasle, h.lim, Nat.zero_le _⟩
theorem IM.Ok.put {m : IM} {N : Nat} (h : m.Ok N) {x : List Int} (hx : AreB x) : (m.put x).Ok N := by
  refine ⟨h.good.put hx, ?_, ?_, ?_⟩
  · unfold IM.put
    split
    · rename_i he
      have hl := h.lim
      unfold IM.putE at he
      split at he
      · omega
      · split at he
        · omega
        · show (m.b ++ x).length ≤ _
          rw [List.length_append]; omega
    · exact h.len
  · unfold IM.put; split
    · exact h.lim
    · exact h.lim
  · unfold IM.put; split
    · exact h.few
    · exact h.few
theorem IM.Ok.set {m : IM} {N : Nat} (h : m.Ok N) (a n : Int) : (m.set a n).Ok (N + 1) := by
  have hf := h.few
  refine ⟨h.good.set a n, ?_, ?_, ?_⟩
  · unfold IM.set
    split
    · rename_i he
      obtain ⟨h1, h2⟩ := IM.setE_may he
      obtain ⟨q, rfl, h3, -, -⟩ := IM.may_at h1
      show (splice m.b (q : Int).toNat (bts n 8)).length ≤ _
      rw [Int.toNat_natCast, splice_len _ _ _ (by rw [bts8_length]; exact h3)]
      exact h.len
    · exact h.len
  · unfold IM.set; split
    · exact h.lim
    · exact h.lim
  · unfold IM.set; split
    · show (if _ then _ else _ : List Nat).length ≤ _
      split
      · rw [List.length_append]; simp; exact hf
      · omega
    · omega

/-! ### acts -/
/-- An act, as it came in. -/
structure ActI where
  kind : Int
  at_ : Int
  n : Int
  ok : Int
  A1 : Option Addr
  n1 : Nat
  c1 : Nat
  ws : List Int
  A2 : Option Addr
  n2 : Nat
  c2 : Nat
  rs : List Int
  A3 : Option Addr
  n3 : Nat
  c3 : Nat
  is : List Int

def ActI.cells (a : ActI) : Array Value := #[.int .i64 a.kind, .int .i64 a.at_, .int .u64 a.n, .int .i64 a.ok, .slice a.A1 a.n1 a.c1, .slice a.A2 a.n2 a.c2, .slice a.A3 a.n3 a.c3]

/-- The place that an act of the fifth kind means. -/
def modAt (at_ : Int) (len : Nat) : Int := 8 * ((at_ % 18446744073709551616) % ((len / 8 : Nat) : Int))
/-- What an act does to an image. -/
def IM.act (m : IM) (a : ActI) : IM :=
  if a.kind = 0 then m.set a.at_ a.n else if a.kind = 1 then m.put (encR a.ok a.ws a.rs a.is) else if a.kind = 2 then m.done else if a.kind = 3 then m.back else m.set (modAt a.at_ m.b.length) a.n
theorem IM.Ok.act {m : IM} {N : Nat} (h : m.Ok N) (a : ActI) (hb : AreB a.rs) : (m.act a).Ok (N + 1) := by
  unfold IM.act
  split
  · exact h.set _ _
  · split
    · exact (h.put (encR_bytes hb)).more (by omega)
    · split
      · exact h.done.more (by omega)
      · split
        · exact h.back.more (by omega)
        · exact h.set _ _

/-- What a walk knows of an act. -/
structure ActAt (w : World) (base : Nat) (a : ActI) : Prop where
  k0 : -9223372036854775808 ≤ a.kind
  k1 : a.kind ≤ 9223372036854775807
  a0 : -9223372036854775808 ≤ a.at_
  a1 : a.at_ ≤ 9223372036854775807
  nn : 0 ≤ a.n ∧ a.n < 18446744073709551616
  ob : ObR w base a.A1 a.n1 a.c1 a.ws a.A2 a.n2 a.c2 a.rs a.A3 a.n3 a.c3 a.is
  br : AreB a.rs
  bw : ∀ z ∈ a.ws, 0 ≤ z ∧ z < 18446744073709551616
  bi : ∀ z ∈ a.is, 0 ≤ z ∧ z < 18446744073709551616
theorem ActAt.below {w w' : World} {base : Nat} {a : ActI} (h : ActAt w base a) (hb : Below w.heap.size w w') (hB : base ≤ w.heap.size) : ActAt w' base a := ⟨h.k0, h.k1, h.a0, h.a1, h.nn, h.ob.below hb hB, h.br, h.bw, h.bi⟩

/-- An act that is not too much. -/
def lightA (a : ActI) : Bool := decide (a.n1 ≤ 10) && decide (a.n2 ≤ 300) && decide (a.n3 ≤ 80)

section
variable {w w' wb wA : World} {base p q N : Nat} {T : Nat → Prop} {i k d f h : Int} {m m1 m2 : IM}

theorem two_iset (a n : Int) (H : ITwo w base T p q i k d f h m m2) (hg : m.Ok N) (hN : N ≤ 1000000) (h0 : -9223372036854775808 ≤ a) (h1 : a ≤ 9223372036854775807) :
    Calls Try.prog 26 #[.pointer (some ⟨p, 0, none⟩), .int .i64 a, .int .u64 n] w fun e w' => e = .returned (.int .i64 (m.setE a)) ∧ ITurn base T p q i k d f h (m.set a n) m2 w w' := by
  obtain ⟨S, S2, bv, sv, bv2, wv2, sv2, c1, c2, c3, c4, c5⟩ := H.ex
  have := hg.len; have := hg.few; have := hg.wasle
  exact (iset_any a n w c1 hg.good.bb h0 h1 (by omega) (by omega) (by omega)).mono fun e w' ⟨he, hf⟩ => ⟨he, H.code c1 c2 c3 c4 c5 hf⟩
theorem two_rset (a n : Int) (H : ITurn base T p q i k d f h m1 m wb w) (hf : ∀ j, T j → base ≤ j ∧ j < wb.heap.size) (hbb : base ≤ wb.heap.size) (hg : m.Ok N) (hN : N ≤ 1000000) (hn : 0 ≤ n ∧ n < 18446744073709551616) (h0 : -9223372036854775808 ≤ a) (h1 : a ≤ 9223372036854775807) :
    Calls Try.prog 36 #[.pointer (some ⟨q, 0, none⟩), .int .i64 a, .int .u64 n] w fun e w' => e = .returned (.int .i64 (m.setE a)) ∧ ITurn base T p q i k d f h m1 (m.set a n) wb w' := by
  obtain ⟨S, S2, bv, sv, bv2, wv2, sv2, c1, c2, c3, c4, c5⟩ := H.2.ex
  have := hg.len; have := hg.few
  exact (rset_any a n w c2 hg.good hn h0 h1 (by omega) (by omega)).mono fun e w' ⟨he, hx⟩ => ⟨he, ITurn.trans hf hbb H.1 (H.2.ref c1 c2 c3 c4 c5 hx)⟩

theorem two_iput (ok : Int) (A1 : Option Addr) (n1 c1 : Nat) (ws : List Int) (A2 : Option Addr) (n2 c2 : Nat) (rs : List Int) (A3 : Option Addr) (n3 c3 : Nat) (is : List Int) (ho : ObR w base A1 n1 c1 ws A2 n2 c2 rs A3 n3 c3 is) (H : ITwo w base T p q i k d f h m m2) (hg : m.Ok N) :
    Calls Try.prog 28 #[.pointer (some ⟨p, 0, none⟩), obV ok A1 n1 c1 A2 n2 c2 A3 n3 c3] w fun e w' => e = .returned (.tuple #[.int .i64 (m.putA (encR ok ws rs is)), .int .i64 (m.putE (encR ok ws rs is))]) ∧ ITurn base T p q i k d f h (m.put (encR ok ws rs is)) m2 w w' := by
  obtain ⟨S, S2, bv, sv, bv2, wv2, sv2, x1, x2, x3, x4, x5⟩ := H.ex
  have := hg.len
  exact (iput_any ok A1 n1 c1 ws A2 n2 c2 rs A3 n3 c3 is w ho x1.bas x1 (by omega) hg.lim).mono fun e w' ⟨he, hf⟩ => ⟨he, H.code x1 x2 x3 x4 x5 hf⟩
theorem two_rput (ok : Int) (A1 : Option Addr) (n1 c1 : Nat) (ws : List Int) (A2 : Option Addr) (n2 c2 : Nat) (rs : List Int) (A3 : Option Addr) (n3 c3 : Nat) (is : List Int) (ho : ObR w base A1 n1 c1 ws A2 n2 c2 rs A3 n3 c3 is) (hw1 : ∀ z ∈ ws, 0 ≤ z ∧ z < 18446744073709551616) (hw2 : ∀ z ∈ is, 0 ≤ z ∧ z < 18446744073709551616)
    (H : ITurn base T p q i k d f h m1 m wb w) (hf : ∀ j, T j → base ≤ j ∧ j < wb.heap.size) (hbb : base ≤ wb.heap.size) (hg : m.Ok N) :
    Calls Try.prog 37 #[.pointer (some ⟨q, 0, none⟩), obV ok A1 n1 c1 A2 n2 c2 A3 n3 c3] w fun e w' => e = .returned (.tuple #[.int .i64 (m.putA (encR ok ws rs is)), .int .i64 (m.putE (encR ok ws rs is))]) ∧ ITurn base T p q i k d f h m1 (m.put (encR ok ws rs is)) wb w' := by
  obtain ⟨S, S2, bv, sv, bv2, wv2, sv2, x1, x2, x3, x4, x5⟩ := H.2.ex
  have := hg.len
  exact (rput_any ok A1 n1 c1 ws A2 n2 c2 rs A3 n3 c3 is w ho (Nat.le_refl _) hw1 hw2 x2 (by omega) hg.lim).mono fun e w' ⟨he, hx⟩ => ⟨he, ITurn.trans hf hbb H.1 (H.2.ref x1 x2 x3 x4 x5 hx)⟩

theorem two_idone (H : ITwo w base T p q i k d f h m m2) :
    Calls Try.prog 15 #[.pointer (some ⟨p, 0, none⟩)] w fun e w' => e = .returned (.tuple #[]) ∧ ITurn base T p q i k d f h m.done m2 w w' := by
  obtain ⟨S, S2, bv, sv, bv2, wv2, sv2, x1, x2, x3, x4, x5⟩ := H.ex
  exact (idone_any w x1).mono fun e w' ⟨he, hf⟩ => ⟨he, H.code x1 x2 x3 x4 x5 hf⟩
theorem two_rdone (H : ITurn base T p q i k d f h m1 m wb w) (hf : ∀ j, T j → base ≤ j ∧ j < wb.heap.size) (hbb : base ≤ wb.heap.size) (hg : m.Ok N) :
    Calls Try.prog 16 #[.pointer (some ⟨q, 0, none⟩)] w fun e w' => e = .returned (.tuple #[]) ∧ ITurn base T p q i k d f h m1 m.done wb w' := by
  obtain ⟨S, S2, bv, sv, bv2, wv2, sv2, x1, x2, x3, x4, x5⟩ := H.2.ex
  have := hg.len
  exact (rdone_any w x2 (by omega)).mono fun e w' ⟨he, hx⟩ => ⟨he, ITurn.trans hf hbb H.1 (H.2.ref x1 x2 x3 x4 x5 hx)⟩
theorem two_iback (H : ITwo w base T p q i k d f h m m2) (hg : m.Ok N) (hN : N ≤ 1000000) :
    Calls Try.prog 20 #[.pointer (some ⟨p, 0, none⟩)] w fun e w' => e = .returned (.tuple #[]) ∧ ITurn base T p q i k d f h m.back m2 w w' := by
  obtain ⟨S, S2, bv, sv, bv2, wv2, sv2, x1, x2, x3, x4, x5⟩ := H.ex
  have := hg.len; have := hg.few
  exact (iback_any w x1 hg.good (by omega) (by omega)).mono fun e w' ⟨he, hf⟩ => ⟨he, H.code x1 x2 x3 x4 x5 hf⟩
theorem two_rback (H : ITurn base T p q i k d f h m1 m wb w) (hf : ∀ j, T j → base ≤ j ∧ j < wb.heap.size) (hbb : base ≤ wb.heap.size) (hg : m.Ok N) :
    Calls Try.prog 38 #[.pointer (some ⟨q, 0, none⟩)] w fun e w' => e = .returned (.tuple #[]) ∧ ITurn base T p q i k d f h m1 m.back wb w' := by
  obtain ⟨S, S2, bv, sv, bv2, wv2, sv2, x1, x2, x3, x4, x5⟩ := H.2.ex
  have := hg.wasle
  exact (rback_any w x2 (by omega)).mono fun e w' ⟨he, hx⟩ => ⟨he, ITurn.trans hf hbb H.1 (H.2.ref x1 x2 x3 x4 x5 hx)⟩
end

/-! ### light -/
theorem light_any (a : ActI) (w : World) :
    Calls Try.prog 11 #[.agg #[.int .i64 a.kind, .int .i64 a.at_, .int .u64 a.n, .int .i64 a.ok, .slice a.A1 a.n1 a.c1, .slice a.A2 a.n2 a.c2, .slice a.A3 a.n3 a.c3]] w fun e w' => e = .returned (.bool (lightA a)) ∧ Below w.heap.size w w' := by
  have HB := Lib.hid (show lightA a = (decide (a.n1 ≤ 10) && decide (a.n2 ≤ 300) && decide (a.n3 ≤ 80)) from rfl)
  by_cases g1 : a.n1 ≤ 10
  · have q1 : (a.n1 : Int) ≤ 10 := by omega
    by_cases g2 : a.n2 ≤ 300
    · have q2 : (a.n2 : Int) ≤ 300 := by omega
      by_cases g3 : a.n3 ≤ 80
      · have q3 : (a.n3 : Int) ≤ 80 := by omega
        go_enter Try.func11, Try.ntmps11
        go_wp2
        go_ret
        exact ⟨ret_bool (by rw [HB.out, decide_eq_true g1, decide_eq_true g2, decide_eq_true g3]; rfl), boxed _ _⟩
      · have q3 : ¬ (a.n3 : Int) ≤ 80 := by omega
        go_enter Try.func11, Try.ntmps11
        go_wp2
        go_ret
        exact ⟨ret_bool (by rw [HB.out, decide_eq_true g1, decide_eq_true g2, decide_eq_false g3]; rfl), boxed _ _⟩
    · have q2 : ¬ (a.n2 : Int) ≤ 300 := by omega
      go_enter Try.func11, Try.ntmps11
      go_wp2
      go_ret
      exact ⟨ret_bool (by rw [HB.out, decide_eq_true g1, decide_eq_false g2]; rfl), boxed _ _⟩
  · have q1 : ¬ (a.n1 : Int) ≤ 10 := by omega
    go_enter Try.func11, Try.ntmps11
    go_wp2
    go_ret
    exact ⟨ret_bool (by rw [HB.out, decide_eq_false g1]; rfl), boxed _ _⟩

end Go.Proofs.Ythdnjjdlhhapbaa
