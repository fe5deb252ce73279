/-
  LAYER 15: a row of the document's rows that a call owns; its Intern: a contract.
-/
import Derived.Test.YtknimfnjmhmamaaGreatDaRef
set_option linter.unusedVariables false
set_option maxRecDepth 100000
set_option linter.unusedSimpArgs false
namespace Go.Proofs.YtknimfnjmhmamaaGreat
open Go.RowKit Go.Shelf

/-- A row of rows that a call owns. -/
structure OwnX (w : World) (base : Nat) (v : Value) (l : List XR) : Prop where
  own : w.ownsRow base 41 3 v l.length (cellsX l)
  fine : ∀ r ∈ l, r.item.size ≤ 100000
  most : l.length ≤ 900
theorem OwnX.nil_ (w : World) (base : Nat) : OwnX w base (.slice none 0 0) [] := ⟨World.ownsRow_nil _ _ _ _, fun r h => (by cases h), (by simp)⟩
theorem OwnX.rows {w : World} {base : Nat} {v : Value} {l : List XR} (h : OwnX w base v l) : ∃ A c, v = .slice A l.length c ∧ RowsX w w.heap.size A l.length c l := by
  obtain ⟨A, c, e, h1, h2, h3⟩ := own_reads h.own
  exact ⟨A, c, e, h3, rfl, h.fine, h.most, h1, h2⟩
theorem OwnX.chg {w w' : World} {base : Nat} {v : Value} {l : List XR} {S : Nat → Prop} (h : OwnX w base v l) (hc : Chg S w w') (hS : ∀ g, v.ownBlock = some g → ¬ S g) : OwnX w' base v l := ⟨own_chg h.own hc hS, h.fine, h.most⟩
theorem OwnX.below {w w' : World} {base : Nat} {v : Value} {l : List XR} (h : OwnX w base v l) (hb : Below w.heap.size w w') : OwnX w' base v l := ⟨own_below h.own hb, h.fine, h.most⟩
theorem rowXInfo : (Tryz.prog.info? 41).map (fun i => (i.zero, i.size, i.bytes)) = some (some (.agg #[.string ⟨#[]⟩, .int .i64 0, .slice none 0 0]), 3, 48) := by kernel_rfl
theorem rowNew3 (w : World) (t : TypeId) (a b c : Value) : Reads (w.alloc (.cells #[a, b, c] t)) (w.heap.size + 1) 3 (some ⟨w.heap.size, 0, none⟩) 1 [a, b, c] := by
  refine ⟨rfl, fun _ => ⟨_, rfl, Nat.lt_succ_self _, fun j v hj => ?_⟩⟩
  have h := (Blk.new w t #[a, b, c]).cell j
  have e : (⟨w.heap.size, 0, none⟩ : Addr).add j = ⟨w.heap.size, j, none⟩ := by unfold Addr.add; split <;> simp_all
  rw [e, h]
  simpa using hj
theorem rowOne3 (s : ByteArray) (c : Int) : ∀ u ∈ [Value.string s, .int .i64 c, .slice none 0 0], u.oneCell' = true := fun u hu => by
  simp at hu
  rcases hu with rfl | rfl | rfl <;> rfl
theorem grown_chg1 {w w1 : World} {o : Obj} {r : Option Nat} (h : (w.alloc o).grownBy w1 r) : Chg (fun k => r = some k) w w1 := by
  have hs := h.size
  rw [World.size_alloc] at hs
  exact ⟨h.os, h.tape, h.output, by omega, fun k hk hn => (h.block k (by rw [World.size_alloc]; omega) (fun e => hn e.symm)).trans (Below.heap_alloc _ _ _ hk)⟩
theorem sx1 {m : Nat} (h : m ≤ 899) : m + 1 ≤ maxLen := by unfold maxLen; omega
theorem sx2 {m : Nat} (h : m ≤ 899) : (m + 1) * 48 ≤ 140737488355328 := by omega

/-- The rows behind Intern. -/
def insX (l : List XR) (s : ByteArray) (at_ : Int) : List XR := if 0 ≤ idxX l s then l else l ++ [⟨s, at_, .slice none 0 0⟩]
def RInTold (base : Nat) (v : Value) (l : List XR) (s : ByteArray) (at_ : Int) (w : World) (e : Ending) (w' : World) : Prop :=
  ∃ v', e = .returned v' ∧ OwnX w' base v' (insX l s at_) ∧ Chg (fun k => v.ownBlock = some k) w w' ∧ (v'.ownBlock = v.ownBlock ∨ ∃ g, v'.ownBlock = some g ∧ w.heap.size ≤ g)

set_option maxHeartbeats 2000000 in
theorem rintern_any {base : Nat} {v : Value} {l : List XR} (s : ByteArray) (at_ : Int) (w : World) (h : OwnX w base v l) (hbase : base ≤ w.heap.size) (hm : l.length ≤ 899) (hs : s.size ≤ 100000) :
    Calls Tryz.prog 8 #[v, .string s, .int .i64 at_] w (RInTold base v l s at_ w) := by
  obtain ⟨i0, hi, hz0, hz1, hz2⟩ := info_parts rowXInfo
  obtain ⟨A, c, rfl, hR⟩ := h.rows
  have FI := Lib.hid (rfind_any s w hR)
  have HH := Lib.hid h
  have s1 := sx1 hm
  have s2 := sx2 hm
  by_cases hx : 0 ≤ idxX l s
  · have HI : Hid (insX l s at_ = l) := Lib.hid (by unfold insX; rw [if_pos hx])
    obtain ⟨x, hxe⟩ : ∃ x, idxX l s = x := ⟨_, rfl⟩
    rw [hxe] at hx FI
    clear h hR hxe
    go_enter Tryz.func8, Tryz.ntmps8
    go_wp2_with (go_at_call 25; refine FI.out.mono ?_; rintro e w1 ⟨rfl, rfl⟩)
    go_ret
    exact ⟨_, rfl, by rw [HI.out]; exact HH.out, Chg.refl _ _, .inl rfl⟩
  · have HI : Hid (insX l s at_ = l ++ [⟨s, at_, .slice none 0 0⟩]) := Lib.hid (by unfold insX; rw [if_neg hx])
    obtain ⟨x, hxe⟩ : ∃ x, idxX l s = x := ⟨_, rfl⟩
    rw [hxe] at hx FI
    have hx2 : x < 0 := by omega
    have HM := Lib.hid (And.intro hm hs)
    clear h hR hxe hx
    go_enter Tryz.func8, Tryz.ntmps8
    go_wp2_with (first
      | (go_at_call 25; refine FI.out.mono ?_; rintro e w1 ⟨rfl, rfl⟩)
      | (at_builtin; refine wpList_append_any _ rfl (.tmp 12) (.tmp 16) 28 rfl base 41 i0 (.agg #[.string ⟨#[]⟩, .int .i64 0, .slice none 0 0]) 3 48 Tryz.underlying28 hi hz0 hz1 hz2 rfl (by decide) (.slice A l.length c) l.length (cellsX l) rfl (HH.out.own.alloc _) _ _ 1 1 [.string s, .int .i64 at_, .slice none 0 0] rfl (rowNew3 w _ _ _ _) (rowOne3 _ _) s1 s2 (by simp; omega) ?_; intro v1 w1 hown1 hg1 hat1; have H1 := Lib.hid (And.intro hown1 (And.intro hg1 hat1)); clear hown1 hg1 hat1))
    go_ret
    obtain ⟨o1, o2, o3⟩ := H1.out
    obtain ⟨m1, m2⟩ := HM.out
    refine ⟨v1, rfl, ?_, grown_chg1 o2, ?_⟩
    · rw [HI.out]
      refine ⟨?_, ?_, ?_⟩
      · rw [List.length_append, cellsX_append]; exact o1
      · intro r hr
        rcases List.mem_append.1 hr with hr | hr
        · exact HH.out.fine r hr
        · rw [List.mem_singleton.1 hr]; exact m2
      · rw [List.length_append]; simp; omega
    · rcases o3 with e | e
      · exact .inl e
      · exact .inr ⟨_, e, by simp⟩

end Go.Proofs.YtknimfnjmhmamaaGreat
