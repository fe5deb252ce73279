/-
  LAYER 8: what the statements share: both disks made anew, the acts as they came in.
-/
import Derived.Test.YtclglbddibjenaaGreatVdAct2
import Derived.Test.YtclglbddibjenaaGreatVdAct3
set_option linter.unusedVariables false
set_option linter.unusedSimpArgs false
set_option maxRecDepth 100000
namespace Go.Proofs.YtclglbddibjenaaGreat
open Go.RowKit

/-- At the head of each round: both disks behind the first k acts. -/
structure AtL (w wr : World) (p q : Nat) (T : Nat → Prop) (v : VS) (k : Nat) : Prop where
  two : Two wr w.heap.size T p q v k
  below : Below w.heap.size w wr

section
variable {w wA wr w1 w2 : World} {p q P k : Nat} {T : Nat → Prop} {v : VS} {a : Act8} {e : Ending} {room : Int}
theorem AtL.start (hr : room ≤ 9223372036854775807) (hb : Below w.heap.size w wA) (hx : VXT wA (fun _ => False) w1 w.heap.size P (VS.new room) []) (hn : RNew w1 w.heap.size q (VS.new room) w2) : AtL w w2 P q (fun k => w.heap.size ≤ k ∧ k < w2.heap.size) (VS.new room) 0 := by
  obtain ⟨h1, c1⟩ := VXT.vx hx
  obtain ⟨hb2, dq, fv, nv, sv, ov, SD, SF, qs, Ss, hv⟩ := hn
  have s0 := hb.size
  have s1 := c1.size
  have s2 := hb2.size
  refine ⟨⟨fun k hk => hk, by omega, _, _, [], h1.below' hb2, GoodV.new room hr, ⟨_, _, _, _, _, _, _, _, _, hv⟩, fun k hk hk2 => ?_, fun k hk => ?_, fun k hk => ?_⟩, (hb.trans (c1.below s0 (fun k _ hk => hk.elim))).trans (hb2.mono (by omega))⟩
  · rcases hk with hk | hk
    · exact hk
    · omega
  · rcases hk with hk | hk
    · exact hk.elim
    · omega
  · omega
/-- An act has been done. -/
theorem AtL.next (H : AtL w wr p q T v k) (hb : Below wr.heap.size wr w1) (hd : Did w.heap.size T (actV v a) (k + 1) w1 e w2) :
    ∃ p' q' T', e = .returned (.tuple #[.pointer (some ⟨p', 0, none⟩), .pointer (some ⟨q', 0, none⟩), .bool true]) ∧ AtL w w2 p' q' T' (actV v a) (k + 1) := by
  have h1 := H.two.below hb
  obtain ⟨p', q', rfl, ht⟩ := hd
  have hb1 : Below w.heap.size w w1 := H.below.trans (hb.mono H.below.size)
  exact ⟨p', q', _, rfl, ht.2, hb1.trans (ht.1.below hb1.size (fun k _ hk => (h1.foot k hk).1))⟩
theorem AtL.later (H : AtL w wr p q T v k) (hb : Below wr.heap.size wr w1) : AtL w w1 p q T v k := ⟨H.two.below hb, H.below.trans (hb.mono H.below.size)⟩
end

section
variable {H : Type} {enc : TypeId × Value → H} {w : World}
theorem acts_view {A : Option Addr} {len cap : Nat} {d : DataW H} {p : List MemPlace}
    (h : DataW.Trod enc Tryz.prog w 0 (fun _ => true) true 22 (.slice A len cap) d p) : ∃ l, InActs8 w A len cap l :=
  view_acts8 Tryz.underlying22 Tryz.underlying32 (by kernel_rfl) rfl rfl rfl rfl rfl rfl (by kernel_rfl) (by kernel_rfl) (by kernel_rfl) (by kernel_rfl) (by kernel_rfl) (by kernel_rfl) Tryz.underlying3 Tryz.underlying9 Tryz.underlying9 Tryz.underlying3 Tryz.underlying29 Tryz.underlying5 (by kernel_rfl) Tryz.underlying30 Tryz.underlying4 (by kernel_rfl) h
theorem bools_view {A : Option Addr} {len cap : Nat} {d : DataW H} {p : List MemPlace}
    (h : DataW.Trod enc Tryz.prog w 0 (fun _ => true) true 30 (.slice A len cap) d p) : ∃ ks, InBools w A len cap ks :=
  view_bools Tryz.underlying30 Tryz.underlying4 (by kernel_rfl) h
end

/-- The k-th act, as a round loads it. -/
theorem InActs8.at_ {w wr : World} {A : Option Addr} {len cap k : Nat} {l : List Act8} (h : InActs8 w A len cap l) (hb : Below w.heap.size w wr) (hk : k < len) :
    ∃ b off a, A = some ⟨b, off, none⟩ ∧ Act8Ok w a ∧ wr.cell? ⟨b, off + k * 6, none⟩ = some (.int .i64 a.kind) ∧ wr.cell? ⟨b, off + k * 6 + 1, none⟩ = some (.string a.a) ∧ wr.cell? ⟨b, off + k * 6 + 2, none⟩ = some (.string a.b) ∧ wr.cell? ⟨b, off + k * 6 + 3, none⟩ = some (.int .i64 a.at_) ∧ wr.cell? ⟨b, off + k * 6 + 4, none⟩ = some (.slice a.A a.n a.c) ∧ wr.cell? ⟨b, off + k * 6 + 5, none⟩ = some (.slice a.K a.m a.d) := by
  obtain ⟨a, ha⟩ : ∃ a, l[k]? = some a := ⟨_, List.getElem?_eq_getElem (by rw [h.length]; exact hk)⟩
  obtain ⟨b, off, rfl, hbB, hc⟩ := h.cells (by omega)
  obtain ⟨h0, h1, h2, h3, h4, h5⟩ := hc k a ha
  have g : ∀ o, wr.cell? ⟨b, o, none⟩ = w.cell? ⟨b, o, none⟩ := fun o => hb.cell (p := ⟨b, o, none⟩) hbB
  exact ⟨b, off, a, rfl, h.ok a (List.mem_of_getElem? ha), (g _).trans h0, (g _).trans h1, (g _).trans h2, (g _).trans h3, (g _).trans h4, (g _).trans h5⟩

theorem act_cells {w w' : World} {b o : Nat} {u0 u1 u2 u3 u4 u5 : Value} (h0 : w.cell? ⟨b, o, none⟩ = some u0) (h1 : w.cell? ⟨b, o + 1, none⟩ = some u1) (h2 : w.cell? ⟨b, o + 2, none⟩ = some u2) (h3 : w.cell? ⟨b, o + 3, none⟩ = some u3) (h4 : w.cell? ⟨b, o + 4, none⟩ = some u4) (h5 : w.cell? ⟨b, o + 5, none⟩ = some u5) (hb : Below w.heap.size w w') :
    w'.cell? ⟨b, o, none⟩ = some u0 ∧ w'.cell? ⟨b, o + 1, none⟩ = some u1 ∧ w'.cell? ⟨b, o + 2, none⟩ = some u2 ∧ w'.cell? ⟨b, o + 3, none⟩ = some u3 ∧ w'.cell? ⟨b, o + 4, none⟩ = some u4 ∧ w'.cell? ⟨b, o + 5, none⟩ = some u5 := by
  have hl : b < w.heap.size := World.block_lt_of_cell? w _ h0
  exact ⟨(hb.cell (p := ⟨b, _, none⟩) hl).trans h0, (hb.cell (p := ⟨b, _, none⟩) hl).trans h1, (hb.cell (p := ⟨b, _, none⟩) hl).trans h2, (hb.cell (p := ⟨b, _, none⟩) hl).trans h3, (hb.cell (p := ⟨b, _, none⟩) hl).trans h4, (hb.cell (p := ⟨b, _, none⟩) hl).trans h5⟩

end Go.Proofs.YtclglbddibjenaaGreat
