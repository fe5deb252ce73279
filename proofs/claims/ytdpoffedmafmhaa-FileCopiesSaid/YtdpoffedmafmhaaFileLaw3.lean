/-
  LAYER 6: both files, and beside them a copy and a row of bytes that no act turns.
-/
import Derived.Test.YtdpoffedmafmhaaFileLaw2
set_option linter.unusedVariables false
set_option linter.unusedSimpArgs false
namespace Go.Proofs.Ytdpoffedmafmhaa
open Go.RowKit

/-- Bytes of the call's own that lie outside of T. -/
structure Apart (w : World) (T : Nat → Prop) (A : Option Addr) (n c : Nat) (zs : List Int) : Prop where
  reads : Reads w w.heap.size 1 A n (cellsOf .u8 zs)
  out : ∀ ad, A = some ad → ad.block < w.heap.size ∧ ¬ T ad.block

/-- At the head of each round of the second loop. -/
structure CpL (w wr : World) (p q : Nat) (T : Nat → Prop) (s : FS) (k : Nat) (pc : Nat) (s0 : FS) (A : Option Addr) (n c : Nat) : Prop where
  at_ : AtL w wr p q T s k
  copy : ∃ S nv sv pv, CF wr w.heap.size S pc s0 nv sv pv ∧ ∀ j, S j → ¬ T j
  row : Apart wr T A n c s0.now

section
variable {w wr w1 w2 : World} {p q k pc n c : Nat} {T : Nat → Prop} {s s0 : FS} {A : Option Addr}

theorem Apart.keep {w w' : World} {T U : Nat → Prop} {A : Option Addr} {n c : Nat} {zs : List Int} (h : Apart w T A n c zs) (hc : Chg T w w') (hU : ∀ j, U j → T j ∨ w.heap.size ≤ j) : Apart w' U A n c zs :=
  ⟨(h.reads.chg hc (Nat.le_refl _) (fun _ ad e => (h.out ad e).2)).more hc.size, fun ad e => by
    obtain ⟨h1, h2⟩ := h.out ad e
    refine ⟨Nat.lt_of_lt_of_le h1 hc.size, fun hu => ?_⟩
    rcases hU _ hu with h | h
    · exact h2 h
    · omega⟩

theorem CpL.later (H : CpL w wr p q T s k pc s0 A n c) (hb : Below wr.heap.size wr w1) : CpL w w1 p q T s k pc s0 A n c := by
  obtain ⟨S, nv, sv, pv, hcf, hd⟩ := H.copy
  exact ⟨H.at_.later hb, ⟨S, nv, sv, pv, hcf.below hb, hd⟩, H.row.keep (Chg.of_below hb (Nat.le_refl _) T) (fun _ h => .inl h)⟩

/-- An act has been done. -/
theorem CpL.next {a : ActM} {e : Ending} (H : CpL w wr p q T s k pc s0 A n c) (hb : Below wr.heap.size wr w1) (hby : AreB a.bs) (hl : a.bs.length ≤ 400) (hd : Did w.heap.size T (s.act a) w1 e w2) :
    ∃ p' q' T', e = .returned (.tuple #[.pointer (some ⟨p', 0, none⟩), .pointer (some ⟨q', 0, none⟩), .bool true]) ∧ CpL w w2 p' q' T' (s.act a) (k + 1) pc s0 A n c := by
  obtain ⟨p', q', rfl, ht⟩ := hd
  have ht2 := Turn.later H.at_.two hb ht
  obtain ⟨S, nv, sv, pv, hcf, hdj⟩ := H.copy
  refine ⟨p', q', _, rfl, ⟨ht2.2, (H.at_.good.act a hby hl).more (by omega), ?_⟩, ⟨S, nv, sv, pv, hcf.keep ht2.1 hdj, fun j hj hg => ?_⟩, H.row.keep ht2.1 (fun j hj => hj.imp id (fun h => h.1))⟩
  · exact H.at_.below.trans (ht2.1.below H.at_.below.size (fun k _ hk => (H.at_.two.foot k hk).1))
  · rcases hg with h | h
    · exact hdj j hj h
    · have := (hcf.foot j hj).2; omega

/-- The copy and the row have been made. -/
theorem CpL.start (H : AtL w wr p q T s k) {nv sv pv : Value} {S : Nat → Prop} (hb : Below wr.heap.size wr w1) (hcf : CF w1 w.heap.size S pc s nv sv pv) (hS : ∀ j, S j → wr.heap.size ≤ j) (hown : w1.ownsRow wr.heap.size 5 1 (.slice A n c) n (cellsOf .u8 s.now)) : CpL w w1 p q T s k pc s A n c := by
  refine ⟨H.later hb, ⟨S, nv, sv, pv, hcf, fun j hj ht => ?_⟩, Reads.of_own hown, fun ad e => ?_⟩
  · have := hS j hj
    have := (H.two.foot j ht).2
    omega
  · subst e
    have := hown.lt ad.block rfl
    exact ⟨this.2, fun ht => by have := (H.two.foot _ ht).2; omega⟩
end

theorem CpL.made {w wr wA wX w2 : World} {p q k pc n c gl n0 c0 : Nat} {T S : Nat → Prop} {s : FS} {A : Option Addr} {nv sv pv : Value} (H : AtL w wr p q T s k) (hbA : Below wr.heap.size wr wA) (hcf : CF wA w.heap.size S pc s nv sv pv) (hS : ∀ j, S j → wr.heap.size ≤ j) (hbX : Below wA.heap.size wA wX)
    (hg : wX.grownBy w2 (Value.ownBlock (.slice (some ⟨gl, 0, none⟩) n0 c0))) (hgl : wr.heap.size ≤ gl) (hng : ¬ S gl) (hown : w2.ownsRow wr.heap.size 5 1 (.slice A n c) n (cellsOf .u8 s.now)) : CpL w w2 p q T s k pc s A n c ∧ Below wr.heap.size wr w2 := by
  have h1 := hbA.size
  have h2 := hbX.size
  have hb2 : Below wr.heap.size wr w2 := (hbA.trans (hbX.mono h1)).grown hg (by omega) (fun j hj => by simp [Value.ownBlock] at hj; omega)
  exact ⟨CpL.start H hb2 ((hcf.below hbX).keep (Chg.of_grown hg) (fun j hj e => hng (by simp [Value.ownBlock] at e; rw [e]; exact hj))) hS hown, hb2⟩

/-- The document's things, as a walk loads them. -/
theorem Two.held {w : World} {base p q : Nat} {T : Nat → Prop} {s s2 : FS} (h : Two w base T p q s s2) : ∃ A c Ao co, ∀ w', Below w.heap.size w w' → (w'.cell? ⟨q, 0, none⟩ = some (.slice A s2.now.length c) ∧ w'.cell? ⟨q, 2, none⟩ = some (.slice Ao s2.ops.length co)) ∧ Reads w' w.heap.size 1 A s2.now.length (cellsOf .u8 s2.now) := by
  obtain ⟨S, S2, nv, sv, pv, nv2, sv2, ov, xs, c1, c2, -, -, -⟩ := h.ex
  obtain ⟨Ar, cr, rfl, -, -⟩ := own_form c2.now
  obtain ⟨Ao, co, rfl, -, -⟩ := own_form c2.pend
  exact ⟨Ar, cr, Ao, co, fun w' hb => ⟨⟨(c2.cells3 hb).1, (c2.cells3 hb).2.2.1⟩, (RF.nowR c2 rfl).1.below hb⟩⟩

theorem Two.copied {w : World} {base p q N : Nat} {T : Nat → Prop} {s s2 : FS} (h : Two w base T p q s s2) (hg : s.Good N) (hN : N ≤ 900000) :
    Calls Try.prog 16 #[.pointer (some ⟨p, 0, none⟩)] w (CFnew base s w) := by
  obtain ⟨S, S2, nv, sv, pv, nv2, sv2, ov, xs, c1, c2, -, -, -⟩ := h.ex
  exact fcopy_any p base S s nv sv pv w c1 hg.ok.size hg.ok.sizeS (by have := hg.few; omega)

end Go.Proofs.Ytdpoffedmafmhaa
