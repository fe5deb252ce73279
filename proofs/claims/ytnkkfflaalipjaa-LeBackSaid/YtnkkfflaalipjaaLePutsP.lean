/-
  LePuts: what each way of a round does to what holds at its head: outside the walk.
-/
import Derived.Test.YtnkkfflaalipjaaLeAwake
import Derived.Test.YtnkkfflaalipjaaLeW2
import Derived.Test.YtnkkfflaalipjaaLeActs
set_option linter.unusedVariables false
set_option linter.unusedSimpArgs false
namespace Go.Proofs.Ytnkkfflaalipjaa
open Go.RowKit

/-- What holds at the head of each round: the writer's bytes and those that are wanted are one list, each in a row of its own. -/
def PutsInv (w : World) (g k : Nat) (wv : Value) (wr : World) : Prop :=
  ∃ zs v, Wr wr g v zs ∧ wr.ownsRow 0 5 1 wv zs.length (cellsOf .u8 zs) ∧ Below w.heap.size w wr ∧ w.heap.size ≤ g ∧ (∀ b, v.ownBlock = some b → w.heap.size ≤ b) ∧
    (∀ b, wv.ownBlock = some b → w.heap.size ≤ b ∧ v.ownBlock ≠ some b) ∧ zs.length ≤ 4096 * k ∧ AreB zs

/-- The wanted bytes, as they have grown since world w1. -/
structure WantAt (w1 : World) (wv : Value) (xs : List Int) (wv2 : Value) (wq : World) : Prop where
  own : wq.ownsRow 0 5 1 wv2 xs.length (cellsOf .u8 xs)
  chg : Chg (fun k => wv.ownBlock = some k) w1 wq
  moved : Moved w1 wv wv2

theorem WantAt.start {w1 : World} {wv : Value} {xs : List Int} (h : w1.ownsRow 0 5 1 wv xs.length (cellsOf .u8 xs)) : WantAt w1 wv xs wv w1 := ⟨h, Chg.refl _ _, Moved.refl _ _⟩

theorem WantAt.step {w1 wq w2 w3 : World} {wv wv2 wv3 : Value} {xs ys : List Int} {m : Nat} (h : WantAt w1 wv xs wv2 wq) (h2 : Below wq.heap.size wq w2) (hg : w2.grownBy w3 wv2.ownBlock) (hm : m = ys.length)
    (hown : w3.ownsRow 0 5 1 wv3 (xs.length + m) (cellsOf .u8 xs ++ cellsOf .u8 ys)) (hat : wv3.ownBlock = wv2.ownBlock ∨ wv3.ownBlock = some w2.heap.size) : WantAt w1 wv (xs ++ ys) wv3 w3 := by
  subst hm
  have hs1 := h.chg.size
  have hs2 := h2.size
  refine ⟨by rw [cellsOf_append, List.length_append]; exact hown, ?_, ?_⟩
  · refine (h.chg.trans (Chg.of_below h2 (Nat.le_refl _) (fun _ => False)) (fun _ _ h => h.elim)).trans (Chg.of_grown hg) (fun k hk e => ?_)
    rcases h.moved with e2 | ⟨j, e2, hj⟩
    · exact e2 ▸ e
    · rw [e2] at e; injection e with e; omega
  · rcases hat with e | e
    · rcases h.moved with e2 | ⟨j, e2, hj⟩
      · exact .inl (e.trans e2)
      · exact .inr ⟨j, e.trans e2, hj⟩
    · exact .inr ⟨_, e, by omega⟩

theorem puts_end {w wr wa w1 w3 : World} {g k : Nat} {v v1 wv wv3 : Value} {zs ys : List Int}
    (hw : Wr wr g v zs) (hwv : wr.ownsRow 0 5 1 wv zs.length (cellsOf .u8 zs)) (hb : Below w.heap.size w wr) (hg : w.heap.size ≤ g) (hvb : ∀ b, v.ownBlock = some b → w.heap.size ≤ b)
    (hwb : ∀ b, wv.ownBlock = some b → w.heap.size ≤ b ∧ v.ownBlock ≠ some b) (hzl : zs.length ≤ 4096 * k) (hzb : AreB zs) (hyl : ys.length ≤ 4096) (hyb : AreB ys)
    (ha : Below wr.heap.size wr wa) (hw1 : Wr w1 g v1 (zs ++ ys)) (hc1 : Chg (fun k => k = g ∨ v.ownBlock = some k) wa w1) (hm1 : Moved wa v v1)
    (h3 : WantAt w1 wv (zs ++ ys) wv3 w3) : PutsInv w g (k + 1) wv3 w3 ∧ Wr w3 g v1 (zs ++ ys) := by
  have hs0 := hb.size
  have hsa := ha.size
  have hs1 := hc1.size
  have hgl := hw.blk.lt
  have sep : ∀ b, wv.ownBlock = some b → v1.ownBlock ≠ some b := fun b hbb e => by
    rcases hm1 with e2 | ⟨j, e2, hj⟩
    · exact (hwb b hbb).2 (e2 ▸ e)
    · have := (hwv.lt b hbb).2
      rw [e2] at e; injection e with e; omega
  have hwg : wv.ownBlock ≠ some g := own_blk_ne hwv hw.blk (by decide)
  have hw3 : Wr w3 g v1 (zs ++ ys) := hw1.chg h3.chg hwg (fun b hb1 hb2 => sep b hb2 hb1)
  refine ⟨⟨zs ++ ys, v1, hw3, h3.own, ?_, hg, fun b hb1 => ?_, fun b hb1 => ?_, ?_, hzb.append hyb⟩, hw3⟩
  · have b1 : Below w.heap.size w wa := hb.trans (ha.mono hs0)
    have b2 : Below w.heap.size wa w1 := hc1.below (by omega) (fun j _ hj => by
      rcases hj with e | e
      · omega
      · exact hvb j e)
    have b3 : Below w.heap.size w1 w3 := h3.chg.below (by omega) (fun j _ hj => (hwb j hj).1)
    exact (b1.trans b2).trans b3
  · rcases hm1 with e2 | ⟨j, e2, hj⟩
    · exact hvb b (e2 ▸ hb1)
    · rw [e2] at hb1; injection hb1 with e; omega
  · rcases h3.moved with e2 | ⟨j, e2, hj⟩
    · rw [e2] at hb1
      exact ⟨(hwb b hb1).1, sep b hb1⟩
    · rw [e2] at hb1; injection hb1 with e
      refine ⟨by omega, fun e3 => ?_⟩
      have := (hw1.own.lt b e3).2
      omega
  · rw [List.length_append]; omega

theorem wlen_n (g n : Nat) (v : Value) (zs : List Int) (w : World) (h : Wr w g v zs) (hn : zs.length = n) :
    Calls Try.prog 20 #[.pointer (some ⟨g, 0, none⟩)] w fun e w' => e = .returned (.int .i64 n) ∧ w = w' := hn ▸ wlen_any g v zs w h

def slen : Value → Nat
  | .slice _ n _ => n
  | _ => 0

theorem padn_more {len q : Nat} {to : Int} (h : q < padn len to) : 0 < to ∧ (((len : Int) + (q : Int)) % to == 0) = false := by
  unfold padn at h
  split at h
  · omega
  · rename_i h1
    split at h
    · omega
    · have p0 := Int.emod_nonneg (len : Int) (show to ≠ 0 by omega)
      have p1 := Int.emod_lt_of_pos (len : Int) (show 0 < to by omega)
      refine ⟨by omega, ?_⟩
      have e : ((len : Int) + (q : Int)) % to = (len : Int) % to + q := by
        rw [← Int.emod_add_mul_ediv (len : Int) to, Int.add_assoc, Int.add_comm (to * _), ← Int.add_assoc, Int.add_mul_emod_self_left, Int.emod_add_mul_ediv]
        exact Int.emod_eq_of_lt (by omega) (by omega)
      rw [e]
      simp
      omega
theorem padn_done (len : Nat) {to : Int} (h : 0 < to) : (((len : Int) + (padn len to : Int)) % to == 0) = true := by
  unfold padn
  rw [if_neg (by omega)]
  have p0 := Int.emod_nonneg (len : Int) (show to ≠ 0 by omega)
  have p1 := Int.emod_lt_of_pos (len : Int) (show 0 < to by omega)
  split
  · simpa using ‹_›
  · have e : (((to - (len : Int) % to).toNat : Nat) : Int) = to - (len : Int) % to := by omega
    rw [e]
    have e2 : (len : Int) + (to - (len : Int) % to) = to * ((len : Int) / to) + to := by
      have := Int.emod_add_mul_ediv (len : Int) to
      omega
    rw [e2]
    simp

end Go.Proofs.Ytnkkfflaalipjaa
