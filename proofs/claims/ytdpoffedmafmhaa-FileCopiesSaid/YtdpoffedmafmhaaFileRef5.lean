/-
  LAYER 6: WHAT THE DOCUMENT'S OWN Crash DOES: its contract.
-/
import Derived.Test.YtdpoffedmafmhaaFileRef2
import Derived.Test.YtdpoffedmafmhaaActs4
import Derived.Deep.RegionLaw
set_option linter.unusedVariables false
set_option linter.unusedSimpArgs false
namespace Go.Proofs.Ytdpoffedmafmhaa
open Go.RowKit

/-- At the head of each round: what the first k have left. -/
structure CrR (w wr : World) (s : FS) (ks : List Bool) (k : Nat) (A : Option Addr) (n c : Nat) (L : List Int) : Prop where
  is_ : L = crashL s.safe (s.ops.take k) ks
  len : L.length = n
  own : wr.ownsRow w.heap.size 5 1 (.slice A n c) n (cellsOf .u8 L)
  below : Below w.heap.size w wr

section
variable {w wr w' : World} {s : FS} {ks : List Bool} {k n c N : Nat} {A : Option Addr} {L : List Int}
theorem CrR.stay (h : CrR w wr s ks k A n c L) (hk : k < s.ops.length) (hb : keepAt ks k = false) : CrR w wr s ks (k + 1) A n c L :=
  ⟨by rw [crashL_next hk, hb, h.is_]; rfl, h.len, h.own, h.below⟩
theorem CrR.step {o : OpV} {e : Ending} (h : CrR w wr s ks k A n c L) (ho : s.ops[k]? = some o) (hb : keepAt ks k = true) (hr : Gives (opDo L o) wr e w') :
    ∃ A' n' c', e = .returned (.slice A' n' c') ∧ CrR w w' s ks (k + 1) A' n' c' (opDo L o) := by
  obtain ⟨A', c', rfl, hown, hbx⟩ := hr
  obtain ⟨hlt, he⟩ := List.getElem?_eq_some_iff.1 ho
  exact ⟨A', _, c', rfl, by rw [crashL_next hlt, hb, if_pos rfl, ← h.is_, he], rfl, own_base hown h.below.size, h.below.trans (hbx.mono h.below.size)⟩
theorem CrR.size (h : CrR w wr s ks k A n c L) (hs : s.Good N) : n ≤ 1048576 := by
  have := (crashL_ok (s.ops.take k) s.safe ks hs.ok.safe hs.ok.sizeS (fun o ho => hs.ok.data o (List.mem_of_mem_take ho)) (fun o ho => hs.ok.n o (List.mem_of_mem_take ho))).2
  rw [← h.is_, h.len] at this
  exact this
theorem CrR.reads (h : CrR w wr s ks k A n c L) : Reads wr wr.heap.size 1 A n (cellsOf .u8 L) ∧ n ≤ c ∧ c ≤ 9223372036854775807 := by
  obtain ⟨A', c', e, h1, h2⟩ := own_form h.own
  injection e with e1 _ e3
  subst e1; subst e3
  exact ⟨Reads.of_own h.own, h1, by unfold maxLen at h2; omega⟩
end

/-- The cells of an op. -/
theorem RF.opCells {w w1 : World} {base p : Nat} {S : Nat → Prop} {s : FS} {nv sv : Value} {xs : List Value} {A : Option Addr} {q c j : Nat} {o : OpV} (h : RF w base S p s nv sv (.slice A q c) xs) (hq : q = s.ops.length) (hb : Below w.heap.size w w1) (ho : s.ops[j]? = some o) :
    ∃ g A' m c', A = some ⟨g, 0, none⟩ ∧ q ≤ c ∧ w1.cell? ⟨g, j * 3, none⟩ = some (.bool o.sz) ∧ w1.cell? ⟨g, j * 3 + 1, none⟩ = some (.int .i64 o.n) ∧ w1.cell? ⟨g, j * 3 + 2, none⟩ = some (.slice A' m c') ∧ Reads w1 w.heap.size 1 A' m (cellsOf .u8 o.data) ∧ m ≤ c' ∧ c' ≤ maxLen := by
  have hlt := (List.getElem?_eq_some_iff.1 ho).1
  have hp := h.pend_ hq
  obtain ⟨g, c2, hv, _, _⟩ := hp.form (by omega)
  obtain ⟨_, _, e, h1, _⟩ := own_form hp
  injection hv with hA _ hc
  injection e with _ _ e3
  subst hA; subst hc; subst e3
  obtain ⟨A', m, c', a1, a2, a3, a4, a5, a6, _⟩ := h.ops j o ho
  have hxl := hp.1
  have hp1 := (h.below hb).pend_ hq
  refine ⟨g, A', m, c', rfl, h1, ?_, ?_, ?_, a4.below hb, a5, a6⟩
  · rw [hp1.cellAt _ (by omega)]; exact a1
  · rw [hp1.cellAt _ (by omega)]; exact a2
  · rw [hp1.cellAt _ (by omega)]; exact a3

theorem CrR.out {w wr w2 : World} {base : Nat} {s : FS} {ks : List Bool} {k n c : Nat} {A A2 : Option Addr} {c2 : Nat} {L : List Int} (h : CrR w wr s ks k A n c L) (hk : ks.length ≤ k ∨ s.ops.length ≤ k) (hb : base ≤ w.heap.size)
    (hown : w2.ownsRow wr.heap.size 5 1 (.slice A2 n c2) n (cellsOf .u8 L)) (hbx : Below wr.heap.size wr w2) :
    RFnew base (s.crash ks) w (.returned (.pointer (some ⟨w2.heap.size, 0, none⟩))) (w2.alloc (.cells #[.slice A n c, .slice A2 n c2, .slice none 0 0] 29)) := by
  have hL : L = crashL s.safe s.ops ks := by rw [h.is_, crashL_take _ _ _ _ hk]
  have hs : s.crash ks = ⟨L, L, []⟩ := by rw [hL]; rfl
  have hsz : (w2.alloc (.cells #[.slice A n c, .slice A2 n c2, .slice none 0 0] 29)).heap.size = w2.heap.size + 1 := by simp
  have h1 := h.below.size
  have h2 := hbx.size
  have o1 := own_below h.own hbx
  refine ⟨w2.heap.size, .slice A n c, .slice A2 n c2, .slice none 0 0, [], rfl, (h.below.trans (hbx.mono h1)).alloc (by omega) _, ?_⟩
  rw [hs]
  refine ⟨fun k hk => ⟨by omega, hk.2⟩, by rw [hsz]; omega, ⟨by omega, by rw [hsz]; omega⟩, Blk.new _ _ _, ?_, ?_, World.ownsRow_nil _ _ _ _, fun j o ho => by simp at ho, ?_, ?_, fun g hg => by simp [Value.ownBlock] at hg, ?_⟩
  · show World.ownsRow _ base _ 1 _ L.length _
    rw [h.len]; exact own_base (o1.alloc _) hb
  · show World.ownsRow _ base _ 1 _ L.length _
    rw [h.len]; exact own_base (hown.alloc _) (by omega)
  · intro g hg; have := o1.lt g hg; rw [hsz]; omega
  · intro g hg; have := hown.lt g hg; rw [hsz]; omega
  · intro g hg hg2
    have := h.own.lt g hg
    have := hown.lt g hg2
    omega

end Go.Proofs.Ytdpoffedmafmhaa
