/-
  LAYER 6: WHAT Write AND Truncate DO: contracts.
-/
import Derived.Test.YtdpoffedmafmhaaFileFn4
import Derived.Test.YtdpoffedmafmhaaSecPc
set_option linter.unusedVariables false
set_option linter.unusedSimpArgs false
namespace Go.Proofs.Ytdpoffedmafmhaa
open Go.RowKit

/-- The sectors of pieces, in blocks from lo on, up to hi. -/
structure PcS (w : World) (lo hi : Nat) (A : Option Addr) (S K : Nat) : Prop where
  at_ : ∀ j, j < K → ∃ (g : Nat) (u : Int) (A' : Option Addr) (n c : Nat), A = some ⟨g, 0, none⟩ ∧ lo ≤ g ∧ g < hi ∧ w.cell? ⟨g, j * 3, none⟩ = some (.int .i64 ((S + j : Nat) : Int)) ∧ w.cell? ⟨g, j * 3 + 1, none⟩ = some (.int .i64 u) ∧ w.cell? ⟨g, j * 3 + 2, none⟩ = some (.slice A' n c)
  le : hi ≤ w.heap.size

theorem GivesP.pcS {t : TypeId} {S f k : Nat} {bs : List Int} {w w' : World} {e : Ending} (h : GivesP t S f bs k w e w') : ∃ A c, e = .returned (.slice A k c) ∧ k ≤ c ∧ c ≤ maxLen ∧ PcS w' w.heap.size w'.heap.size A S k ∧ Below w.heap.size w w' := by
  obtain ⟨A, c, xs, rfl, hown, hp, hb⟩ := h
  obtain ⟨A1, c1, e1, h1, h2⟩ := own_form hown
  injection e1 with e1 _ e3
  subst e1; subst e3
  refine ⟨A, c, rfl, h1, h2, ⟨fun j hj => ?_, Nat.le_refl _⟩, hb⟩
  obtain ⟨g, c2, e4, hl0, hl⟩ := hown.form (by omega)
  injection e4 with e4 _ e5
  subst e4; subst e5
  obtain ⟨A', n, c', a1, a2, a3, a4, a5, a6⟩ := hp.at_ j hj
  exact ⟨g, _, A', n, c', rfl, hl0, hl, by rw [hown.cellAt _ (by omega), Int.natCast_add]; exact a1, by rw [hown.cellAt _ (by omega)]; exact a2, by rw [hown.cellAt _ (by omega)]; exact a3⟩
theorem PcS.chg {w w' : World} {lo hi S K : Nat} {A : Option Addr} {T : Nat → Prop} (h : PcS w lo hi A S K) (hc : Chg T w w') (hT : ∀ g, T g → g < lo ∨ hi ≤ g) : PcS w' lo hi A S K := by
  have hle := h.le
  refine ⟨fun j hj => ?_, Nat.le_trans hle hc.size⟩
  obtain ⟨g, u, A', n, c, h1, h2, h3, h4, h5, h6⟩ := h.at_ j hj
  have hg : ∀ o, w'.cell? ⟨g, o, none⟩ = w.cell? ⟨g, o, none⟩ := fun o => World.cell?_of_block (hc.block g (by omega) (fun ht => by have := hT g ht; omega))
  exact ⟨g, u, A', n, c, h1, h2, h3, (hg _).trans h4, (hg _).trans h5, (hg _).trans h6⟩

/-- A file as it is behind the first k sectors of a write. -/
def stW (s : FS) (L : List Int) (O W : List OpV) (k : Nat) : FS := ⟨L, s.safe, O ++ W.take k⟩

/-- At the head of each round. -/
structure WrAt (w wr : World) (base : Nat) (S : Nat → Prop) (p : Nat) (s : FS) (lo hi : Nat) (A : Option Addr) (Sa K k : Nat) (L : List Int) (O W : List OpV) : Prop where
  ex : ∃ Sk nv sv pv, CF wr base Sk p (stW s L O W k) nv sv pv ∧ (∀ j, Sk j → j < lo ∨ hi ≤ j) ∧ (∀ j, Sk j → S j ∨ w.heap.size ≤ j)
  pcs : PcS wr lo hi A Sa K
  chg : Chg S w wr

section
variable {w w1 w' : World} {base p g n c a : Nat} {S : Nat → Prop} {s : FS} {sv pv : Value} {cur : List Value} {bs : List Int}

/-- Bytes are written over bytes. -/
theorem CF.wrote (h : CF w base S p s (.slice (some ⟨g, 0, none⟩) n c) sv pv) (hn : n = s.now.length) (hl : cur.length = c * 1) (ht : cur.take (n * 1) = cellsOf .u8 s.now) (hx : a + bs.length ≤ n)
    (hb2 : Blk w' g 5 (splice cur a (cellsOf .u8 bs)).toArray) (hc : Chg (fun k => k = g) w w') : CF w' base S p ⟨wrL s.now a bs, s.safe, s.ops⟩ (.slice (some ⟨g, 0, none⟩) n c) sv pv := by
  subst hn
  obtain ⟨A', c', e, h1, h2⟩ := own_form h.now
  injection e with e1 _ e3
  subst e1; subst e3
  have hbg : base ≤ g := (h.now.lt g rfl).1
  have hwl : (wrL s.now a bs).length = s.now.length := wrL_length hx
  have hsp : (splice cur a (cellsOf .u8 bs)).take (s.now.length * 1) = cellsOf .u8 (wrL s.now a bs) := by
    have e0 : splice (cellsOf .u8 s.now) a (cellsOf .u8 bs) = cellsOf .u8 (wrL s.now a bs) := by unfold wrL splice; simp [cellsOf]
    rw [← e0, ← ht]
    unfold splice
    have q1 : (cellsOf .u8 bs).length = bs.length := cellsOf_length _ _
    simp only [Nat.mul_one] at *
    rw [List.take_take, Nat.min_eq_left (by omega), List.take_append, List.length_take, Nat.min_eq_left (by omega), List.take_of_length_le (by rw [List.length_take]; omega)]
    congr 1
    rw [List.take_append, q1, List.take_of_length_le (by omega)]
    congr 1
    rw [List.drop_take]
    congr 1
    omega
  refine ⟨fun k hk => by have := h.foot k hk; have := hc.size; omega, Nat.le_trans h.bas hc.size, h.inp, h.blk.chg hc (fun e => h.pn (by rw [e]; rfl)), ?_, own_chg h.safe hc (fun g' hg e => h.ne g' (by rw [e]; rfl) hg), own_chg h.pend hc (fun g' hg e => own_ne h.now h.pend (by decide) g' (by rw [e]; rfl) hg), h.inn, h.ins, h.ino, h.ne⟩
  show w'.ownsRow base 5 1 _ (wrL s.now a bs).length (cellsOf .u8 (wrL s.now a bs))
  rw [hwl]
  exact own_shut hbg hb2 h1 h2 (by rw [length_splice _ _ _ (by rw [cellsOf_length, hl]; omega)]; exact hl) hsp (by rw [cellsOf_length, hwl]; omega)
end

theorem trunc_max (s : FS) (M : Nat) : s.trunc (max s.now.length M) = ⟨growL s.now M, s.safe, s.ops ++ growO s.now M⟩ := by
  unfold FS.trunc growL growO
  by_cases h : s.now.length < M
  · rw [if_neg (by omega), if_pos h, if_pos h, Nat.max_eq_right (by omega)]
  · rw [if_pos (by omega), if_neg h, if_neg h, List.append_nil]
theorem growO_length (z : List Int) (M : Nat) : (growO z M).length ≤ 1 := by unfold growO; split <;> simp

theorem WrAt.next {w wr wr1 w' : World} {base p lo hi Sa K k : Nat} {S Sk : Nat → Prop} {s : FS} {A : Option Addr} {L : List Int} {O W : List OpV} {o : OpV} (H : WrAt w wr base S p s lo hi A Sa K k L O W) (hk : W[k]? = some o)
    (hlo : ∀ j, Sk j → j < lo ∨ hi ≤ j) (hgr : ∀ j, Sk j → S j ∨ w.heap.size ≤ j) (hb : Below wr.heap.size wr wr1) (h : CFT base Sk p ⟨L, s.safe, (O ++ W.take k) ++ [o]⟩ wr1 w') : WrAt w w' base S p s lo hi A Sa K (k + 1) L O W := by
  obtain ⟨hc, nv, sv, pv, hcf⟩ := h
  have hs1 := hb.size
  have hs2 := H.chg.size
  have hle := H.pcs.le
  have hW : W.take (k + 1) = W.take k ++ [o] := by
    obtain ⟨hlt, he⟩ := List.getElem?_eq_some_iff.1 hk
    rw [List.take_succ_eq_append_getElem hlt, he]
  have hc1 : Chg Sk wr w' := (Chg.of_below hb (Nat.le_refl _) Sk).trans hc (fun _ _ h => h)
  refine ⟨⟨_, nv, sv, pv, by unfold stW; rw [hW, ← List.append_assoc]; exact hcf, ?_, ?_⟩, H.pcs.chg hc1 hlo, H.chg.trans hc1 (fun j hj hs => ?_)⟩
  · intro j hj
    rcases hj with h | h
    · exact hlo j h
    · exact .inr (by omega)
  · intro j hj
    rcases hj with h | h
    · exact hgr j h
    · exact .inr (by omega)
  · rcases hgr j hs with h | h
    · exact h
    · omega

theorem WrAt.done_ {w wr : World} {base p lo hi Sa K : Nat} {S : Nat → Prop} {s : FS} {A : Option Addr} {L : List Int} {O W : List OpV} (H : WrAt w wr base S p s lo hi A Sa K K L O W) (hK : W.length = K) (hf : ∀ k, S k → base ≤ k ∧ k < w.heap.size) (hb : base ≤ w.heap.size) :
    CFT base S p ⟨L, s.safe, O ++ W⟩ w wr := by
  obtain ⟨Sk, nv, sv, pv, hcf, hlo, hgr⟩ := H.ex
  unfold stW at hcf
  rw [List.take_of_length_le (by omega)] at hcf
  exact CFT.of H.chg hcf hgr hf hb

end Go.Proofs.Ytdpoffedmafmhaa
