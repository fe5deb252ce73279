/-
  LAYER 6: what the statements share: both files made anew, the acts as they came in.
-/
import Derived.Test.YtdpoffedmafmhaaFileAct3
import Derived.Test.YtdpoffedmafmhaaFileAct4
set_option linter.unusedVariables false
set_option linter.unusedSimpArgs false
namespace Go.Proofs.Ytdpoffedmafmhaa
open Go.RowKit

theorem RF.new (w : World) (base : Nat) (hb : base ≤ w.heap.size) : RF (w.alloc (.cells #[.slice none 0 0, .slice none 0 0, .slice none 0 0] 29)) base (fun k => k = w.heap.size) w.heap.size FS.new (.slice none 0 0) (.slice none 0 0) (.slice none 0 0) [] :=
  ⟨fun k hk => by subst hk; simp; exact hb, by simp; omega, rfl, Blk.new _ _ _, World.ownsRow_nil _ _ _ _, World.ownsRow_nil _ _ _ _, World.ownsRow_nil _ _ _ _, fun j o ho => by simp [FS.new] at ho, fun g hg => by simp [Value.ownBlock] at hg, fun g hg => by simp [Value.ownBlock] at hg, fun g hg => by simp [Value.ownBlock] at hg, fun g hg => by simp [Value.ownBlock] at hg⟩

/-- The world in which both files have been made. -/
abbrev madeW (w : World) : World := (w.alloc (.cells #[.slice none 0 0, .slice none 0 0, .slice none 0 0] 50)).alloc (.cells #[.slice none 0 0, .slice none 0 0, .slice none 0 0] 29)

/-- At the head of each round: both files behind the first k acts. -/
structure AtL (w wr : World) (p q : Nat) (T : Nat → Prop) (s : FS) (k : Nat) : Prop where
  two : Two wr w.heap.size T p q s s
  good : s.Good (10 * k)
  below : Below w.heap.size w wr

theorem AtL.start (w : World) : AtL w (madeW w) w.heap.size (w.heap.size + 1) (fun k => w.heap.size ≤ k ∧ k < w.heap.size + 2) FS.new 0 := by
  have h1 := (CF.new w w.heap.size (Nat.le_refl _)).below ((Below.refl _ _).alloc (Nat.le_refl _) (.cells #[.slice none 0 0, .slice none 0 0, .slice none 0 0] 29))
  have h2 := RF.new (w.alloc (.cells #[.slice none 0 0, .slice none 0 0, .slice none 0 0] 50)) w.heap.size (by simp)
  have hs : (w.alloc (.cells #[.slice none 0 0, .slice none 0 0, .slice none 0 0] 50)).heap.size = w.heap.size + 1 := by simp
  rw [hs] at h2
  have hs2 : (madeW w).heap.size = w.heap.size + 2 := by simp [madeW]
  refine ⟨⟨fun k hk => by rw [hs2]; exact hk, by rw [hs2]; omega, _, _, _, _, _, _, _, _, _, h1, h2, fun k hk hk2 => ?_, fun k hk => ?_, fun k hk => ?_⟩, FS.new_good, ((Below.refl _ _).alloc (Nat.le_refl _) _).alloc (by simp) _⟩
  · have h1 : k = w.heap.size := hk
    have h2 : k = w.heap.size + 1 := hk2
    omega
  · have h1 : k = w.heap.size := hk
    omega
  · have h2 : k = w.heap.size + 1 := hk
    omega

/-- An act has been done. -/
theorem AtL.next {w wr w1 w2 : World} {p q k : Nat} {T : Nat → Prop} {s : FS} {a : ActM} {e : Ending} (H : AtL w wr p q T s k) (hb : Below wr.heap.size wr w1) (hby : AreB a.bs) (hl : a.bs.length ≤ 400) (hd : Did w.heap.size T (s.act a) w1 e w2) :
    ∃ p' q' T', e = .returned (.tuple #[.pointer (some ⟨p', 0, none⟩), .pointer (some ⟨q', 0, none⟩), .bool true]) ∧ AtL w w2 p' q' T' (s.act a) (k + 1) := by
  obtain ⟨p', q', rfl, ht⟩ := hd
  have ht2 := Turn.later H.two hb ht
  refine ⟨p', q', _, rfl, ht2.2, (H.good.act a hby hl).more (by omega), ?_⟩
  exact H.below.trans (ht2.1.below H.below.size (fun k _ hk => (H.two.foot k hk).1))
theorem AtL.later {w wr w1 : World} {p q k : Nat} {T : Nat → Prop} {s : FS} (H : AtL w wr p q T s k) (hb : Below wr.heap.size wr w1) : AtL w w1 p q T s k := ⟨H.two.below hb, H.good, H.below.trans (hb.mono H.below.size)⟩

section
variable {H : Type} {enc : TypeId × Value → H} {w : World}
theorem acts_view {A : Option Addr} {len cap : Nat} {d : DataW H} {p : List MemPlace}
    (h : DataW.Trod enc Try.prog w 0 (fun _ => true) true 22 (.slice A len cap) d p) : ∃ l, InActs w A len cap l :=
  view_acts (tb := 0) (tk := 0) Try.underlying22 Try.underlying34 (by kernel_rfl) rfl rfl rfl rfl (by kernel_rfl) (by kernel_rfl) (by kernel_rfl) (by kernel_rfl) Try.underlying3 Try.underlying3 Try.underlying26 Try.underlying5 (by kernel_rfl) Try.underlying32 Try.underlying4 (by kernel_rfl) h
theorem bools_view {A : Option Addr} {len cap : Nat} {d : DataW H} {p : List MemPlace}
    (h : DataW.Trod enc Try.prog w 0 (fun _ => true) true 32 (.slice A len cap) d p) : ∃ ks, InBools w A len cap ks :=
  view_bools Try.underlying32 Try.underlying4 (by kernel_rfl) h
end

/-- The k-th act, as a round loads it. -/
theorem InActs.at_ {w wr : World} {A : Option Addr} {len cap k : Nat} {l : List ActM} (h : InActs w A len cap l) (hb : Below w.heap.size w wr) (hk : k < len) :
    ∃ b off a, A = some ⟨b, off, none⟩ ∧ ActOk w a ∧ wr.cell? ⟨b, off + k * 4, none⟩ = some (.int .i64 a.kind) ∧ wr.cell? ⟨b, off + k * 4 + 1, none⟩ = some (.int .i64 a.at_) ∧ wr.cell? ⟨b, off + k * 4 + 2, none⟩ = some (.slice a.A a.n a.c) ∧ wr.cell? ⟨b, off + k * 4 + 3, none⟩ = some (.slice a.K a.m a.d) := by
  obtain ⟨a, ha⟩ : ∃ a, l[k]? = some a := ⟨_, List.getElem?_eq_getElem (by rw [h.length]; exact hk)⟩
  obtain ⟨b, off, rfl, hbB, hc⟩ := h.cells (by omega)
  obtain ⟨h0, h1, h2, h3⟩ := hc k a ha
  have g : ∀ o, wr.cell? ⟨b, o, none⟩ = w.cell? ⟨b, o, none⟩ := fun o => hb.cell (p := ⟨b, o, none⟩) hbB
  exact ⟨b, off, a, rfl, h.ok a (List.mem_of_getElem? ha), (g _).trans h0, (g _).trans h1, (g _).trans h2, (g _).trans h3⟩

theorem lightB_len {w : World} {a : ActM} (h : lightB a = true) (hk : ActOk w a) : AreB a.bs ∧ a.bs.length ≤ 400 :=
  ⟨fun z hz => wf_u8_bd (hk.bs.wf z hz), by rw [hk.bs.reads.len]; exact (lightB_n h).1⟩

end Go.Proofs.Ytdpoffedmafmhaa
