/-
  LAYER 6: WHAT THE DOCUMENT'S OWN Write DOES: its contract.
-/
import Derived.Test.YtdpoffedmafmhaaFileRef2
import Derived.Deep.RegionLaw
set_option linter.unusedVariables false
set_option linter.unusedSimpArgs false
namespace Go.Proofs.Ytdpoffedmafmhaa
open Go.RowKit

/-- In the midst of a write: i bytes have been put down, j sectors kept. -/
structure WrR (w wr : World) (base : Nat) (S : Nat → Prop) (p : Nat) (s : FS) (g M c : Nat) (sv : Value) (L1 : List Int) (a : Nat) (bs : List Int) (O W : List OpV) (i j : Nat) : Prop where
  ex : ∃ Sk ov xs, RF wr base Sk p ⟨wrL L1 a (bs.take i), s.safe, O ++ W.take j⟩ (.slice (some ⟨g, 0, none⟩) M c) sv ov xs ∧ (∀ k, Sk k → S k ∨ w.heap.size ≤ k)
  chg : Chg S w wr

section
variable {w wr w1 w2 w4 : World} {base p g M c a i j q : Nat} {S Sk : Nat → Prop} {s : FS} {sv ov v' : Value} {xs : List Value} {L1 bs : List Int} {O W : List OpV}

theorem chg_in {w w1 w2 : World} {S T : Nat → Prop} (h1 : Chg S w w1) (h2 : Chg T w1 w2) (hT : ∀ k, T k → S k ∨ w.heap.size ≤ k) : Chg S w w2 := h1.trans h2 (fun k hk ht => by
  rcases hT k ht with h | h
  · exact h
  · omega)

theorem WrR.drew (h : WrR w wr base S p s g M c sv L1 a bs O W i j) : WrR w wr.drew base S p s g M c sv L1 a bs O W i j := by
  obtain ⟨⟨Sk, ov, xs, h1, h2⟩, h3⟩ := h
  exact ⟨⟨Sk, ov, xs, h1.drew, h2⟩, h3.drew⟩

/-- One byte more. -/
theorem WrR.byte (h : WrR w wr base S p s g M c sv L1 a bs O W i j) (hx : a + bs.length ≤ L1.length) (hi : i < bs.length) : WrR w (wr.setCell ⟨g, a + i, none⟩ (.int .u8 (nz bs i))) base S p s g M c sv L1 a bs O W (i + 1) j := by
  obtain ⟨⟨Sk, ov, xs, h1, h2⟩, h3⟩ := h
  have hg : Sk g := h1.inn g rfl
  refine ⟨⟨Sk, ov, xs, ?_, h2⟩, chg_in h3 (chg_set wr ⟨g, a + i, none⟩ _) (fun k hk => by subst hk; exact h2 _ hg)⟩
  have := h1.store (i := a + i) rfl (nz bs i)
  rw [wrL_set hx hi] at this
  exact this

theorem WrR.cells (h : WrR w wr base S p s g M c sv L1 a bs O W i j) (hM : L1.length = M) (hx : a + bs.length ≤ M) (k : Nat) (hk : k < M) : wr.cell? ⟨p, 0, none⟩ = some (.slice (some ⟨g, 0, none⟩) M c) ∧ M ≤ c ∧ (∃ u, wr.cell? ⟨g, k, none⟩ = some u) ∧ wr.frozen? ⟨g, k, none⟩ = false := by
  obtain ⟨⟨Sk, ov, xs, h1, h2⟩, h3⟩ := h
  have hl : (wrL L1 a (bs.take i)).length = M := by rw [wrL_length (by rw [List.length_take]; omega), hM]
  have hn := h1.now
  rw [show (⟨wrL L1 a (bs.take i), s.safe, O ++ W.take j⟩ : FS).now.length = M from hl] at hn
  obtain ⟨A', c', e, q1, q2⟩ := own_form hn
  injection e with _ _ e3
  subst e3
  have c0 := h1.blk.cell 0
  simp at c0
  have hu : wr.cell? ⟨g, k, none⟩ = some (.int .u8 ((wrL L1 a (bs.take i)).getD k 0)) := by
    rw [hn.cellAt _ (by omega)]
    exact cellsOf_get (by show k < (wrL L1 a (bs.take i)).length; omega)
  exact ⟨c0, q1, ⟨_, hu⟩, hn.frozenAt k⟩

/-- One sector more. -/
theorem WrR.sector {o : OpV} {ob : Obj} {gd m : Nat} (h : RF wr base Sk p ⟨wrL L1 a (bs.take i), s.safe, O ++ W.take j⟩ (.slice (some ⟨g, 0, none⟩) M c) sv ov xs) (h2 : ∀ k, Sk k → S k ∨ w.heap.size ≤ k) (h3 : Chg S w wr) (ho : W[j]? = some o)
    (hb : Below wr.heap.size wr w1) (hgd : wr.heap.size ≤ gd) (hd : Blk w1 gd 5 (cellsOf .u8 o.data).toArray) (hdl : o.data.length = m) (hmm : m ≤ maxLen) (hq : q = (O ++ W.take j).length) (hgr : (w1.alloc ob).grownBy w4 ov.ownBlock)
    (hown : w4.ownsRow base 66 3 v' (q + 1) (xs ++ [.bool o.sz, .int .i64 o.n, .slice (some ⟨gd, 0, none⟩) m m])) (hat : v'.ownBlock = ov.ownBlock ∨ v'.ownBlock = some (w1.alloc ob).heap.size) :
    WrR w (w4.setCell ⟨p, 2, none⟩ v') base S p s g M c sv L1 a bs O W i (j + 1) := by
  have hW : W.take (j + 1) = W.take j ++ [o] := by
    obtain ⟨hlt, he⟩ := List.getElem?_eq_some_iff.1 ho
    rw [List.take_succ_eq_append_getElem hlt, he]
  have hs0 := h3.size
  have hs1 := hb.size
  have hgl := hd.lt
  have h1 := (h.below hb).mono (T := grow Sk wr w1) (fun k hk => .inl hk) (chg_lt h.foot (Chg.of_below hb (Nat.le_refl _) (fun _ => False)) h.bas)
  obtain ⟨hc, hrf⟩ := h1.pushed (o := o) (A := some ⟨gd, 0, none⟩) (m := m) (c := m) hq hgr hown hat (hd.reads (by rw [cellsOf_length, hdl])) (Nat.le_refl _) hmm (fun ad e => by
    injection e with e; subst e
    refine ⟨.inr ⟨hgd, hgl⟩, ?_, _, hd⟩
    intro e
    have := (h.now.lt gd e).2
    omega)
  have hgrow : ∀ k, grow Sk wr w1 k → S k ∨ w.heap.size ≤ k := fun k hk => by
    rcases hk with hk | ⟨hk, _⟩
    · exact h2 k hk
    · exact .inr (by omega)
  refine ⟨⟨_, v', _, by rw [hW, ← List.append_assoc]; exact hrf, ?_⟩, chg_in (h3.trans (Chg.of_below hb (Nat.le_refl _) S) (fun _ _ h => h)) hc hgrow⟩
  intro k hk
  rcases hk with hk | ⟨hk, _⟩
  · exact hgrow k hk
  · exact .inr (by omega)

theorem WrR.done_ (h : WrR w wr base S p s g M c sv L1 a bs O W i j) (hi : bs.length ≤ i) (hj : W.length ≤ j) (hf : ∀ k, S k → base ≤ k ∧ k < w.heap.size) (hb : base ≤ w.heap.size) : RFT base S p ⟨wrL L1 a bs, s.safe, O ++ W⟩ w wr := by
  obtain ⟨⟨Sk, ov, xs, h1, h2⟩, h3⟩ := h
  rw [List.take_of_length_le hi, List.take_of_length_le hj] at h1
  exact RFT.of h3 h1 h2 hf hb
end

end Go.Proofs.Ytdpoffedmafmhaa
