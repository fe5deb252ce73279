/-
  LAYER 6: WHAT THE DOCUMENT'S OWN Truncate, Sync AND Read DO: contracts.
-/
import Derived.Test.YtdpoffedmafmhaaFileRMem
import Derived.Test.YtdpoffedmafmhaaFillOne
import Derived.Test.YtdpoffedmafmhaaFileMath2
import Derived.Test.YtdpoffedmafmhaaSecRef2
set_option linter.unusedVariables false
set_option linter.unusedSimpArgs false
namespace Go.Proofs.Ytdpoffedmafmhaa
open Go.RowKit

/-- The document's file has turned: of the blocks that were there its own alone have. -/
def RFT (base : Nat) (S : Nat → Prop) (p : Nat) (s' : FS) (w w' : World) : Prop := Chg S w w' ∧ ∃ nv sv ov xs, RF w' base (grow S w w') p s' nv sv ov xs
/-- A function has told a file of its own; what was there has not turned. -/
def RFnew (base : Nat) (s : FS) (w : World) (e : Ending) (w' : World) : Prop :=
  ∃ p nv sv ov xs, e = .returned (.pointer (some ⟨p, 0, none⟩)) ∧ Below w.heap.size w w' ∧ RF w' base (fun k => w.heap.size ≤ k ∧ k < w'.heap.size) p s nv sv ov xs

theorem RFT.of {base p : Nat} {S S' : Nat → Prop} {s : FS} {w w' : World} {nv sv ov : Value} {xs : List Value} (hc : Chg S w w') (h : RF w' base S' p s nv sv ov xs) (hS : ∀ k, S' k → S k ∨ w.heap.size ≤ k) (hf : ∀ k, S k → base ≤ k ∧ k < w.heap.size) (hb : base ≤ w.heap.size) : RFT base S p s w w' :=
  ⟨hc, nv, sv, ov, xs, h.mono (fun k hk => by
    have := (h.foot k hk).2
    rcases hS k hk with h1 | h1
    · exact .inl h1
    · exact .inr ⟨h1, this⟩) (chg_lt hf hc hb)⟩
theorem RFT.same {base p : Nat} {S : Nat → Prop} {s : FS} {w : World} {nv sv ov : Value} {xs : List Value} (h : RF w base S p s nv sv ov xs) : RFT base S p s w w := RFT.of (Chg.refl _ _) h (fun _ h => .inl h) h.foot h.bas

theorem ropInfo : (Try.prog.info? 66).map (fun i => (i.zero, i.size, i.bytes)) = some (some (.agg #[.bool false, .int .i64 0, .slice none 0 0]), 3, 40) := by kernel_rfl

section
variable {w w1 w2 w4 : World} {base p : Nat} {S S2 : Nat → Prop} {s : FS} {nv sv ov v' : Value} {xs : List Value}

theorem RF.cells3 (h : RF w base S p s nv sv ov xs) (hb : Below w.heap.size w w1) : w1.cell? ⟨p, 0, none⟩ = some nv ∧ w1.cell? ⟨p, 1, none⟩ = some sv ∧ w1.cell? ⟨p, 2, none⟩ = some ov ∧ w1.frozen? ⟨p, 0, none⟩ = false ∧ w1.frozen? ⟨p, 1, none⟩ = false ∧ w1.frozen? ⟨p, 2, none⟩ = false := by
  have hb : Blk w1 p 29 #[nv, sv, ov] := (h.below hb).blk
  exact ⟨hb.cell 0, hb.cell 1, hb.cell 2, hb.frozen 0, hb.frozen 1, hb.frozen 2⟩
theorem RF.pcells (h : RF w base S p s nv sv ov xs) {o : Obj} (hg : (w.alloc o).grownBy w1 ov.ownBlock) : w1.cell? ⟨p, 2, none⟩ = some ov ∧ w1.frozen? ⟨p, 2, none⟩ = false := by
  have hb : Blk w1 p 29 #[nv, sv, ov] := (h.blk.alloc o).chg (Chg.of_grown hg) (fun e => h.pp e)
  exact ⟨hb.cell 2, hb.frozen 2⟩
theorem RF.pend_ (h : RF w base S p s nv sv ov xs) {q : Nat} (hq : q = s.ops.length) : w.ownsRow base 66 3 ov q xs := hq ▸ h.pend
theorem RF.nowR {A : Option Addr} {m c : Nat} (h : RF w base S p s (.slice A m c) sv ov xs) (hm : m = s.now.length) : Reads w w.heap.size 1 A m (cellsOf .u8 s.now) ∧ m ≤ c ∧ c ≤ 9223372036854775807 := by
  subst hm
  obtain ⟨A', c', e, h1, h2⟩ := own_form h.now
  injection e with e1 _ e3
  subst e1; subst e3
  exact ⟨Reads.of_own h.now, h1, by unfold maxLen at h2; omega⟩
theorem RF.safeR {A : Option Addr} {m c : Nat} (h : RF w base S p s nv (.slice A m c) ov xs) (hm : m = s.safe.length) : Reads w w.heap.size 1 A m (cellsOf .u8 s.safe) ∧ m ≤ c ∧ c ≤ 9223372036854775807 := by
  subst hm
  obtain ⟨A', c', e, h1, h2⟩ := own_form h.safe
  injection e with e1 _ e3
  subst e1; subst e3
  exact ⟨Reads.of_own h.safe, h1, by unfold maxLen at h2; omega⟩

theorem RF.pushed (h : RF w2 base S2 p s nv sv ov xs) {ob : Obj} {o : OpV} {q m c : Nat} {A : Option Addr} (hq : q = s.ops.length) (hg : (w2.alloc ob).grownBy w4 ov.ownBlock) (hown : w4.ownsRow base 66 3 v' (q + 1) (xs ++ [.bool o.sz, .int .i64 o.n, .slice A m c])) (hat : v'.ownBlock = ov.ownBlock ∨ v'.ownBlock = some (w2.alloc ob).heap.size)
    (hd : Reads w2 w2.heap.size 1 A m (cellsOf .u8 o.data)) (hmc : m ≤ c) (hcm : c ≤ maxLen) (ha : ∀ ad, A = some ad → S2 ad.block ∧ nv.ownBlock ≠ some ad.block ∧ ∃ cs, Blk w2 ad.block 5 cs) :
    Chg S2 w2 (w4.setCell ⟨p, 2, none⟩ v') ∧ RF (w4.setCell ⟨p, 2, none⟩ v') base (grow S2 w2 w4) p ⟨s.now, s.safe, s.ops ++ [o]⟩ nv sv v' (xs ++ [.bool o.sz, .int .i64 o.n, .slice A m c]) := by
  have hc : Chg (fun k => ov.ownBlock = some k) w2 w4 := ((Chg.refl (fun k => ov.ownBlock = some k) w2).alloc ob).trans (Chg.of_grown hg) (fun _ _ e => e)
  subst hq
  have hne : ∀ g cs, Blk w2 g 5 cs → ov.ownBlock ≠ some g := fun g cs hb e => by
    obtain ⟨cs', hb'⟩ := own_isblk h.pend e
    exact blk_one hb hb' (by decide)
  refine ⟨(hc.mono (fun k _ e => h.ino k e)).setCell (.inr h.inp) _, h.push hown hc ?_ ((hd.chg hc (Nat.le_refl _) ?_).more hc.size) hmc hcm ?_⟩
  · rcases hat with e | e
    · exact .inl e
    · exact .inr ⟨_, e, by simp⟩
  · intro _ ad e
    obtain ⟨_, _, cs, hb⟩ := ha ad e
    exact hne _ cs hb
  · intro ad e
    obtain ⟨a1, a2, cs, hb⟩ := ha ad e
    exact ⟨.inl a1, a2, cs, hb.chg hc (hne _ cs hb)⟩

theorem RFT.step {s' : FS} {w5 : World} {nv' sv' ov' : Value} {xs' : List Value} (h : RF w base S p s nv sv ov xs) (hc1 : Chg S w w2) (hg : ∀ k, S2 k → S k ∨ w.heap.size ≤ k) (hc2 : Chg S2 w2 w5) (h5 : RF w5 base (grow S2 w2 w4) p s' nv' sv' ov' xs') : RFT base S p s' w w5 :=
  RFT.of (hc1.trans hc2 (fun k hk hs => by
    rcases hg k hs with h | h
    · exact h
    · omega)) h5 (fun k hk => by
    have := hc1.size
    rcases hk with h | ⟨h, _⟩
    · exact hg k h
    · exact .inr (by omega)) h.foot h.bas
theorem RF.renowed (h : RF w base S p s nv sv ov xs) (hc : Below w.heap.size w w1) (v' : Value) : Chg S w (w1.setCell ⟨p, 0, none⟩ v') := (Chg.of_below hc (Nat.le_refl _) S).setCell (.inr h.inp) _
end

theorem lit3b (w : World) (t : TypeId) (a b c : Value) : Reads (w.alloc (.cells #[a, b, c] t)) (w.heap.size + 1) 3 (some ⟨w.heap.size, 0, none⟩) 1 [a, b, c] := by
  refine ⟨rfl, fun _ => ⟨_, rfl, Nat.lt_succ_self _, fun j u hu => ?_⟩⟩
  have h := (Blk.new w t #[a, b, c]).cell j
  have e : (⟨w.heap.size, 0, none⟩ : Addr).add j = ⟨w.heap.size, j, none⟩ := by unfold Addr.add; split <;> simp_all
  rw [e, h]; simpa using hu
theorem op_one (b : Bool) (n : Int) (A : Option Addr) (m c : Nat) : ∀ u ∈ [Value.bool b, Value.int .i64 n, Value.slice A m c], u.oneCell' = true := fun u hu => by
  simp at hu
  rcases hu with rfl | rfl | rfl <;> rfl

set_option maxHeartbeats 1000000 in
theorem rsync_any (p : Nat) (base : Nat) (S : Nat → Prop) (s : FS) (nv sv ov : Value) (xs : List Value) (w : World) (h : RF w base S p s nv sv ov xs) (hl : s.now.length ≤ 1048576) :
    Calls Try.prog 22 #[.pointer (some ⟨p, 0, none⟩)] w fun e w' => e = .returned (.tuple #[]) ∧ RFT base S p s.sync w w' := by
  obtain ⟨i0, hi, hz0, hz1, hz2⟩ := info_parts byteInfo
  obtain ⟨A, c, rfl, hc1, hc2⟩ := own_form h.now
  obtain ⟨d0, -⟩ := h.cells3 ((Below.refl _ _).alloc (Nat.le_refl _) (.cells #[] 5))
  obtain ⟨m, hm⟩ : ∃ m, m = s.now.length := ⟨_, rfl⟩
  rw [← hm] at d0 hl h
  have H := Lib.hid h
  have HM := Lib.hid hm
  have HR := Lib.hid (h.nowR hm).1
  have k2 : 0 + m ≤ maxLen := by unfold maxLen; omega
  have k3 : (0 + m) * 1 ≤ 140737488355328 := by omega
  clear h hm hc1
  go_enter Try.func22, Try.ntmps22
  go_wp2_with (at_builtin; go_loud (refine wpList_append_any _ rfl _ _ _ rfl w.heap.size 5 i0 (.int .u8 0) 1 1 Try.underlying26 hi hz0 hz1 hz2 rfl (Nat.lt_succ_self 0) _ 0 [] rfl (World.ownsRow_lit w #[] 0 (Nat.le_refl _) (Nat.zero_le _) rfl) w.heap.size A m c (cellsOf .u8 s.now) rfl (HR.out.alloc (Nat.le_refl _) _) (cellsOf_one _ _) k2 k3 (by simp) ?_; intro v1 w1 hown1 hg1 hat1; rw [Nat.zero_add, List.nil_append] at hown1; obtain ⟨A1, c1, rfl, hc1, hc2⟩ := own_form hown1; have hb1 := below_lit hg1; obtain ⟨e0, e1, e2, f0, f1, f2⟩ := H.out.cells3 hb1; have HO := Lib.hid hown1; clear hown1 hg1 hat1))
  go_end0
  refine ⟨rfl, RFT.of ?_ (H.out.setSync (HM.out ▸ HO.out) hb1) (fun k hk => hk.imp id (fun x => x.1)) H.out.foot H.out.bas⟩
  exact ((Chg.of_below hb1 (Nat.le_refl _) S).setCell (.inr H.out.inp) _).setCell (.inr H.out.inp) _

end Go.Proofs.Ytdpoffedmafmhaa
