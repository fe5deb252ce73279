/-
  LeBack, LeTakes: writer and reader, as a call holds them: what was there when it began is as it was.
-/
import Derived.Test.YtdajjkjpjhpnjaaLeR2
import Derived.Test.YtdajjkjpjhpnjaaLeW2
import Derived.Test.YtdajjkjpjhpnjaaLeAwake
set_option linter.unusedVariables false
set_option maxRecDepth 100000
set_option linter.unusedSimpArgs false
namespace Go.Proofs.Ytdajjkjpjhpnjaa
open Go.RowKit

structure WB (w0 : World) (g : Nat) (v : Value) (zs : List Int) (wx : World) : Prop where
  wr : Wr wx g v zs
  bel : Below w0.heap.size w0 wx
  low : ∀ j, v.ownBlock = some j → w0.heap.size ≤ j

theorem WB.step {w0 wx wy : World} {g : Nat} {v : Value} {zs zs' : List Int} (hg : w0.heap.size ≤ g) (h : WB w0 g v zs wx) (hp : WrPost wx g v zs' wy) : ∃ v', WB w0 g v' zs' wy := by
  obtain ⟨v', hw, hc, hm⟩ := hp
  have hs := h.bel.size
  refine ⟨v', hw, h.bel.trans (hc.below hs (fun j _ hj => ?_)), fun j hj => ?_⟩
  · rcases hj with e | e
    · omega
    · exact h.low j e
  · rcases hm with e | ⟨k, e, hk⟩
    · exact h.low j (e ▸ hj)
    · rw [e] at hj; injection hj with hj; omega

structure RB (w0 : World) (B g : Nat) (p : Int) (A : Option Addr) (n c : Nat) (zs : List Int) (bad : Bool) (wx : World) : Prop where
  rd : Rd wx B g p A n c zs bad
  bel : Below w0.heap.size w0 wx

theorem RB.step {w0 wx wy : World} {B g n c : Nat} {p p' : Int} {A : Option Addr} {zs zs' : List Int} {bad bad' : Bool} (hg : w0.heap.size ≤ g) (h : RB w0 B g p A n c zs bad wx) (hp : RdPost wx B g p' zs' bad' wy) :
    ∃ A' n' c', RB w0 B g p' A' n' c' zs' bad' wy := by
  obtain ⟨A', n', c', hr, hc⟩ := hp
  exact ⟨A', n', c', hr, h.bel.trans (hc.below h.bel.size (fun j _ hj => by omega))⟩

theorem RB.below {w0 wx wy : World} {B g n c : Nat} {p : Int} {A : Option Addr} {zs : List Int} {bad : Bool} (h : RB w0 B g p A n c zs bad wx) (hb : Below wx.heap.size wx wy) : RB w0 B g p A n c zs bad wy :=
  ⟨h.rd.below hb, h.bel.trans (hb.mono h.bel.size)⟩

theorem wdone_n (g n : Nat) (v : Value) (zs : List Int) (w : World) (h : Wr w g v zs) (hz : zs.length = n) (hn : n ≤ 140737488355328) :
    Calls Try.prog 23 #[.pointer (some ⟨g, 0, none⟩)] w fun e w' => ∃ A' c', e = .returned (.slice A' n c') ∧ Reads w' w'.heap.size 1 A' n (cellsOf .u8 zs) ∧ Below w.heap.size w w' ∧ n ≤ c' ∧ c' ≤ 9223372036854775807 := by
  subst hz
  exact (wdone_any g v zs w h hn).mono fun e w' ⟨A', c', he, hown, hb, h1, h2⟩ => ⟨A', c', he, Reads.of_own hown, hb, h1, by unfold maxLen at h2; omega⟩

theorem read_zero {B : Nat} (A : Option Addr) (n c : Nat) (zs : List Int) (w : World) (hr : Reads w B 1 A n (cellsOf .u8 zs)) (hB : B ≤ w.heap.size) (hl : n ≤ c) (hcap : c ≤ 9223372036854775807) (hn : n ≤ 140737488355328) :
    Calls Try.prog 29 #[.slice A n c, .int .i64 0] w fun e w' => ∃ g B' A' c', e = .returned (.pointer (some ⟨g, 0, none⟩)) ∧ Rd w' B' g 0 A' n c' zs false ∧ Below w.heap.size w w' ∧ w.heap.size ≤ g :=
  read_yes A n c 0 zs w hr hB hl hcap (Nat.zero_le _) hn

theorem wrds_wordsB : ∀ (l : List Int) (r : List Int), (∀ z ∈ l, 0 ≤ z ∧ z < 18446744073709551616) → wrds l.length (wordsB l ++ r) = l
  | [], _, _ => rfl
  | x :: l, r, h => by
    have hx := h x (by simp)
    have h8 : (bts x 8).length = 8 := by rw [bts_length]; rfl
    have e : wordsB (x :: l) ++ r = bts x 8 ++ (wordsB l ++ r) := by simp [wordsB]
    rw [List.length_cons, wrds, e, List.take_left' h8, List.drop_left' h8, wrds_wordsB l r (fun z hz => h z (by simp [hz]))]
    congr 1
    exact lev_enb 8 x hx.1 (by have := hx.2; omega)

end Go.Proofs.Ytdajjkjpjhpnjaa
