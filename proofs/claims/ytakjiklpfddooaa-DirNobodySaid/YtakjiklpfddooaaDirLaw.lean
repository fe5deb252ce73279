/-
  LAYER 7: what the statements share: both directories made anew, the acts as they came in.
-/
import Derived.Test.YtakjiklpfddooaaDirAct2
import Derived.Test.YtakjiklpfddooaaDirAct3
import Derived.Test.YtakjiklpfddooaaDirAwake
set_option linter.unusedVariables false
set_option linter.unusedSimpArgs false
namespace Go.Proofs.Ytakjiklpfddooaa
open Go.RowKit

theorem RD.new (w : World) (base : Nat) (hb : base ≤ w.heap.size) : RD (w.alloc (.cells #[.slice none 0 0, .slice none 0 0, .slice none 0 0] 29)) base (fun k => k = w.heap.size) w.heap.size newD (.slice none 0 0) (.slice none 0 0) (.slice none 0 0) :=
  ⟨fun k hk => by subst hk; simp; exact hb, by simp; omega, rfl, Blk.new _ _ _, World.ownsRow_nil _ _ _ _, World.ownsRow_nil _ _ _ _, World.ownsRow_nil _ _ _ _, fun g hg => by simp [Value.ownBlock] at hg, fun g hg => by simp [Value.ownBlock] at hg, fun g hg => by simp [Value.ownBlock] at hg⟩

/-- At the head of each round: both directories behind the first k acts. -/
structure AtL (w wr : World) (p q : Nat) (T : Nat → Prop) (s : DB) (k : Nat) : Prop where
  two : Two wr w.heap.size T p q s s
  good : GoodD s k
  below : Below w.heap.size w wr

theorem AtL.start {w w1 : World} {P0 b0 b1 : Nat} (hx : NewAt w w1 w.heap.size P0 b0 b1) : AtL w (w1.alloc (.cells #[.slice none 0 0, .slice none 0 0, .slice none 0 0] 29)) P0 w1.heap.size (fun k => w.heap.size ≤ k ∧ k < w1.heap.size + 1) newD 0 := by
  have hs := hx.below.size
  have h1 := hx.cd.below ((Below.refl _ _).alloc (Nat.le_refl _) (.cells #[.slice none 0 0, .slice none 0 0, .slice none 0 0] 29))
  have h2 := RD.new w1 w.heap.size hs
  have hz : (w1.alloc (.cells #[.slice none 0 0, .slice none 0 0, .slice none 0 0] 29)).heap.size = w1.heap.size + 1 := by simp
  refine ⟨⟨fun k hk => by rw [hz]; exact hk, by rw [hz]; omega, _, _, _, _, _, _, _, _, h1, h2, fun k hk hk2 => ?_, fun k hk => ?_, fun k hk => ?_⟩, newD_good, hx.below.alloc hs _⟩
  · have h2 : k = w1.heap.size := hk2
    have h1 := hk.2
    omega
  · have h1 := hk.1
    have h2 := hk.2
    omega
  · have h2 : k = w1.heap.size := hk
    omega

/-- An act has been done. -/
theorem AtL.next {w wr w1 w2 : World} {p q k : Nat} {T : Nat → Prop} {s : DB} {a : ActD} {e : Ending} (H : AtL w wr p q T s k) (hb : Below wr.heap.size wr w1) (hl : lightB a = true) (hi : (Lit.int .i64 a.id).wf = true) (hd : Did w.heap.size T (actS s a) w1 e w2) :
    ∃ p' q' T', e = .returned (.tuple #[.pointer (some ⟨p', 0, none⟩), .pointer (some ⟨q', 0, none⟩), .bool true]) ∧ AtL w w2 p' q' T' (actS s a) (k + 1) := by
  obtain ⟨p', q', rfl, ht⟩ := hd
  have ht2 := Turn.later H.two hb ht
  obtain ⟨l1, l2, -⟩ := lightB_n hl
  refine ⟨p', q', _, rfl, ht2.2, H.good.act a l1 l2 hi, ?_⟩
  exact H.below.trans (ht2.1.below H.below.size (fun k _ hk => (H.two.foot k hk).1))
theorem AtL.later {w wr w1 : World} {p q k : Nat} {T : Nat → Prop} {s : DB} (H : AtL w wr p q T s k) (hb : Below wr.heap.size wr w1) : AtL w w1 p q T s k := ⟨H.two.below hb, H.good, H.below.trans (hb.mono H.below.size)⟩

section
variable {H : Type} {enc : TypeId × Value → H} {w : World}
theorem acts_view {A : Option Addr} {len cap : Nat} {d : DataW H} {p : List MemPlace}
    (h : DataW.Trod enc Try.prog w 0 (fun _ => true) true 22 (.slice A len cap) d p) : ∃ l, InActsD w A len cap l :=
  view_actsD Try.underlying22 Try.underlying34 (by kernel_rfl) rfl rfl rfl rfl rfl (by kernel_rfl) (by kernel_rfl) (by kernel_rfl) (by kernel_rfl) (by kernel_rfl) Try.underlying3 Try.underlying9 Try.underlying9 Try.underlying3 Try.underlying32 Try.underlying4 (by kernel_rfl) h
theorem bools_view {A : Option Addr} {len cap : Nat} {d : DataW H} {p : List MemPlace}
    (h : DataW.Trod enc Try.prog w 0 (fun _ => true) true 32 (.slice A len cap) d p) : ∃ ks, InBools w A len cap ks :=
  view_bools Try.underlying32 Try.underlying4 (by kernel_rfl) h
end

/-- The k-th act, as a round loads it. -/
theorem InActsD.at_ {w wr : World} {A : Option Addr} {len cap k : Nat} {l : List ActD} (h : InActsD w A len cap l) (hb : Below w.heap.size w wr) (hk : k < len) :
    ∃ b off a, A = some ⟨b, off, none⟩ ∧ ActDOk w a ∧ wr.cell? ⟨b, off + k * 5, none⟩ = some (.int .i64 a.kind) ∧ wr.cell? ⟨b, off + k * 5 + 1, none⟩ = some (.string a.a) ∧ wr.cell? ⟨b, off + k * 5 + 2, none⟩ = some (.string a.b) ∧ wr.cell? ⟨b, off + k * 5 + 3, none⟩ = some (.int .i64 a.id) ∧ wr.cell? ⟨b, off + k * 5 + 4, none⟩ = some (.slice a.K a.m a.d) := by
  obtain ⟨a, ha⟩ : ∃ a, l[k]? = some a := ⟨_, List.getElem?_eq_getElem (by rw [h.length]; exact hk)⟩
  obtain ⟨b, off, rfl, hbB, hc⟩ := h.cells (by omega)
  obtain ⟨h0, h1, h2, h3, h4⟩ := hc k a ha
  have g : ∀ o, wr.cell? ⟨b, o, none⟩ = w.cell? ⟨b, o, none⟩ := fun o => hb.cell (p := ⟨b, o, none⟩) hbB
  exact ⟨b, off, a, rfl, h.ok a (List.mem_of_getElem? ha), (g _).trans h0, (g _).trans h1, (g _).trans h2, (g _).trans h3, (g _).trans h4⟩

theorem act_cells {w w' : World} {b o : Nat} {u0 u1 u2 u3 u4 : Value} (h0 : w.cell? ⟨b, o, none⟩ = some u0) (h1 : w.cell? ⟨b, o + 1, none⟩ = some u1) (h2 : w.cell? ⟨b, o + 2, none⟩ = some u2) (h3 : w.cell? ⟨b, o + 3, none⟩ = some u3) (h4 : w.cell? ⟨b, o + 4, none⟩ = some u4) (hb : Below w.heap.size w w') :
    w'.cell? ⟨b, o, none⟩ = some u0 ∧ w'.cell? ⟨b, o + 1, none⟩ = some u1 ∧ w'.cell? ⟨b, o + 2, none⟩ = some u2 ∧ w'.cell? ⟨b, o + 3, none⟩ = some u3 ∧ w'.cell? ⟨b, o + 4, none⟩ = some u4 := by
  have hl : b < w.heap.size := World.block_lt_of_cell? w _ h0
  exact ⟨(hb.cell (p := ⟨b, _, none⟩) hl).trans h0, (hb.cell (p := ⟨b, _, none⟩) hl).trans h1, (hb.cell (p := ⟨b, _, none⟩) hl).trans h2, (hb.cell (p := ⟨b, _, none⟩) hl).trans h3, (hb.cell (p := ⟨b, _, none⟩) hl).trans h4⟩

end Go.Proofs.Ytakjiklpfddooaa
