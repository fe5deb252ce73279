/-
  LAYER 7: WHAT THE DOCUMENT'S OWN Do, Sync AND Crash DO: contracts.
-/
import Derived.Test.YtakjiklpfddooaaDirRef2
import Derived.Test.YtakjiklpfddooaaDirFn
import Derived.Deep.RegionHeld3
import Derived.Test.YtakjiklpfddooaaActs4
set_option linter.unusedVariables false
set_option linter.unusedSimpArgs false
namespace Go.Proofs.Ytakjiklpfddooaa
open Go.RowKit

theorem opInfo4 : (Try.prog.info? 59).map (fun i => (i.zero, i.size, i.bytes)) = some (some (.agg #[.int .i64 0, .string ⟨#[]⟩, .string ⟨#[]⟩, .int .i64 0]), 4, 48) := by kernel_rfl
theorem undrew_grown {w w' : World} {r : Option Nat} (h : w.drew.grownBy w' r) : w.grownBy w' r := ⟨h.os, h.tape, h.output, h.size, h.block⟩

section
variable {s : DB} {o : OpB}
theorem rdoS_no (h : doE s.now o ≠ 0) : doS s o = s := by unfold doS; rw [if_neg h]
theorem rdoS_yes (h : doE s.now o = 0) : doS s o = ⟨didN cfT s.now o, s.safe, s.ops ++ [o]⟩ := by unfold doS; rw [if_pos h]
end

section
variable {w w2 w3 w4 w5 : World} {base p q : Nat} {S : Nat → Prop} {s : DB} {nv sv ov v' : Value}
theorem RD.pend_ (h : RD w base S p s nv sv ov) (hq : q = s.ops.length) : w.ownsRow base 59 4 ov q (opsC s.ops) := hq ▸ h.pend
theorem RD.pcells (h : RD w base S p s nv sv ov) {o : Obj} (hg : (w.alloc o).grownBy w4 ov.ownBlock) : w4.cell? ⟨p, 2, none⟩ = some ov ∧ w4.frozen? ⟨p, 2, none⟩ = false := by
  have hb : Blk w4 p 29 #[nv, sv, ov] := (h.blk.alloc o).chg (Chg.of_grown hg) (fun e => h.pp e)
  exact ⟨hb.cell 2, hb.frozen 2⟩
theorem RD.pushed (h : RD w2 base S p s nv sv ov) {ob : Obj} {o : OpB} (hq : q = s.ops.length) (hg : (w2.alloc ob).grownBy w4 ov.ownBlock) (hown : w4.ownsRow base 59 4 v' (q + 1) (opsC s.ops ++ opC o))
    (hat : v'.ownBlock = ov.ownBlock ∨ v'.ownBlock = some (w2.alloc ob).heap.size) : Chg S w2 (w4.setCell ⟨p, 2, none⟩ v') ∧ RD (w4.setCell ⟨p, 2, none⟩ v') base (grow S w2 w4) p ⟨s.now, s.safe, s.ops ++ [o]⟩ nv sv v' := by
  have hc : Chg (fun k => ov.ownBlock = some k) w2 w4 := ((Chg.refl (fun k => ov.ownBlock = some k) w2).alloc ob).trans (Chg.of_grown hg) (fun _ _ e => e)
  subst hq
  refine ⟨(hc.mono (fun k _ e => h.ino k e)).setCell (.inr h.inp) _, h.push hown hc ?_⟩
  rcases hat with e | e
  · exact .inl e
  · exact .inr ⟨_, e, by simp⟩
theorem RDT.step {s' : DB} {nv' sv' ov' : Value} (hf : ∀ k, S k → base ≤ k ∧ k < w.heap.size) (hb : base ≤ w.heap.size) (hc1 : Chg S w w2) (hc2 : Chg (grow S w w3) w2 w5) (h32 : w3.heap.size = w2.heap.size) (h5 : RD w5 base (grow (grow S w w3) w2 w4) p s' nv' sv' ov') : RDT base S p s' w w5 := by
  have hs := hc1.size
  refine RDT.of (hc1.trans hc2 (fun k hk hs => ?_)) h5 (fun k hk => ?_) hf hb
  · rcases hs with h | h
    · exact h
    · omega
  · rcases hk with (h | h) | h
    · exact .inl h
    · exact .inr h.1
    · exact .inr (by omega)
end

set_option maxHeartbeats 4000000 in
set_option maxRecDepth 100000 in
theorem rdo_twice (p : Nat) (base N : Nat) (S : Nat → Prop) (s : DB) (nv sv ov : Value) (x y : ByteArray) (i : Int) (w : World) (h : RD w base S p s nv sv ov) (hg : GoodD s N) (hN : N ≤ 900000) (ho : OkO ⟨0, x, y, i⟩) (hh : hasB s.now x = true) :
    Calls Try.prog 23 #[.pointer (some ⟨p, 0, none⟩), .agg #[.int .i64 0, .string x, .string y, .int .i64 i]] w fun e w' => e = .returned (.int .i64 7) ∧ RDT base S p s w w' := by
  obtain ⟨i0, hi, hz0, hz1, hz2⟩ := info_parts opInfo4
  obtain ⟨An, cn, rfl, hNmsW⟩ := Nms.of_own h.now
  obtain ⟨Ao, co, rfl, -, -⟩ := own_form h.pend
  obtain ⟨n, hn⟩ : ∃ n, n = s.now.length := ⟨_, rfl⟩
  obtain ⟨q, hq⟩ : ∃ q, q = s.ops.length := ⟨_, rfl⟩
  have hq9 : q ≤ 900000 := by have := hg.safe; omega
  have hn9 : n ≤ 900000 := by have := hg.now; omega
  rw [← hn] at hNmsW
  rw [← hq, ← hn] at h
  obtain ⟨wb, hwb⟩ : ∃ wb, wb = w.alloc (.cells #[.int .i64 0, .string x, .string y, .int .i64 i] 59) := ⟨_, rfl⟩
  have hbw : Below w.heap.size w wb := by rw [hwb]; exact (Below.refl _ _).alloc (Nat.le_refl _) _
  have hbx : Blk wb w.heap.size 59 #[.int .i64 0, .string x, .string y, .int .i64 i] := by rw [hwb]; exact Blk.new _ _ _
  have hxs : x.size ≤ maxLen := by have := ho.a; unfold maxLen; simp only at this; omega
  have hys : y.size ≤ maxLen := by have := ho.b; unfold maxLen; simp only at this; omega
  have GT := Lib.hid (rget_any An n cn w.heap.size s.now x wb.drew ((hNmsW.below hbw).drewN 1))
  have KP := Lib.hid (fun w1 (hb : Below wb.heap.size wb w1) => (show w1.cell? ⟨w.heap.size, 0, none⟩ = some (.int .i64 0) ∧ w1.cell? ⟨w.heap.size, 1, none⟩ = some (.string x) ∧ w1.cell? ⟨w.heap.size, 2, none⟩ = some (.string y) ∧ w1.cell? ⟨w.heap.size, 3, none⟩ = some (.int .i64 i) ∧ w1.cell? ⟨p, 0, none⟩ = some (.slice An n cn) from by
    have hx := hbx.below hb hbx.lt
    exact ⟨hx.cell 0, hx.cell 1, hx.cell 2, hx.cell 3, (h.cells (hbw.trans (hb.mono hbw.size))).1⟩))
  have HK := Lib.hid (KP.out wb.drew (below_drewn (Below.refl _ _) 1))
  have RX := Lib.hid (fun w1 => rright_any x w1 hxs)
  have RY := Lib.hid (fun w1 => rright_any y w1 hys)
  have HBW := Lib.hid hbw
  have H := Lib.hid h
  have HBX := Lib.hid hbx
  have HNW := Lib.hid hNmsW
  have HQ := Lib.hid hq
  have HN := Lib.hid hn
  have HG := Lib.hid hg
  have HO := Lib.hid ho
  have hfoo := KP.out wb (Below.refl _ _)
  rw [show (getN s.now x).isSome = true from hh] at GT
  rw [hwb] at GT KP HK HBW HBX hfoo
  obtain ⟨e0, e1, e2, e3, e4⟩ := hfoo
  clear h hg ho hq hn hbw hbx hNmsW hwb hxs hys
  go_enter Try.func23, Try.ntmps23
  go_wp2
  go_region_held3 (fun w1 => w1.cell? ⟨w.heap.size, 0, none⟩ = some (.int .i64 0) ∧ w1.cell? ⟨w.heap.size, 1, none⟩ = some (.string x) ∧ w1.cell? ⟨w.heap.size, 2, none⟩ = some (.string y) ∧ w1.cell? ⟨w.heap.size, 3, none⟩ = some (.int .i64 i) ∧ w1.cell? ⟨p, 0, none⟩ = some (.slice An n cn))
    (first | assumption | exact HK.out)
    (first | (go_at_call 26; go_loud (refine GT.out.mono ?_; rintro e w9 ⟨rfl, rfl⟩)))
  go_wp2
  go_ret
  exact ⟨rfl, RDT.of (Chg.of_below (below_drewn HBW.out 1) (Nat.le_refl _) S) (H.out.below (below_drewn HBW.out 1)) (fun _ h => .inl h) H.out.foot H.out.bas⟩

set_option maxHeartbeats 4000000 in
set_option maxRecDepth 100000 in
theorem rdo_none1 (p : Nat) (base N : Nat) (S : Nat → Prop) (s : DB) (nv sv ov : Value) (x y : ByteArray) (i : Int) (w : World) (h : RD w base S p s nv sv ov) (hg : GoodD s N) (hN : N ≤ 900000) (ho : OkO ⟨1, x, y, i⟩) (hh : hasB s.now x = false) :
    Calls Try.prog 23 #[.pointer (some ⟨p, 0, none⟩), .agg #[.int .i64 1, .string x, .string y, .int .i64 i]] w fun e w' => e = .returned (.int .i64 6) ∧ RDT base S p s w w' := by
  obtain ⟨i0, hi, hz0, hz1, hz2⟩ := info_parts opInfo4
  obtain ⟨An, cn, rfl, hNmsW⟩ := Nms.of_own h.now
  obtain ⟨Ao, co, rfl, -, -⟩ := own_form h.pend
  obtain ⟨n, hn⟩ : ∃ n, n = s.now.length := ⟨_, rfl⟩
  obtain ⟨q, hq⟩ : ∃ q, q = s.ops.length := ⟨_, rfl⟩
  have hq9 : q ≤ 900000 := by have := hg.safe; omega
  have hn9 : n ≤ 900000 := by have := hg.now; omega
  rw [← hn] at hNmsW
  rw [← hq, ← hn] at h
  obtain ⟨wb, hwb⟩ : ∃ wb, wb = w.alloc (.cells #[.int .i64 1, .string x, .string y, .int .i64 i] 59) := ⟨_, rfl⟩
  have hbw : Below w.heap.size w wb := by rw [hwb]; exact (Below.refl _ _).alloc (Nat.le_refl _) _
  have hbx : Blk wb w.heap.size 59 #[.int .i64 1, .string x, .string y, .int .i64 i] := by rw [hwb]; exact Blk.new _ _ _
  have hxs : x.size ≤ maxLen := by have := ho.a; unfold maxLen; simp only at this; omega
  have hys : y.size ≤ maxLen := by have := ho.b; unfold maxLen; simp only at this; omega
  have GT := Lib.hid (rget_any An n cn w.heap.size s.now x wb.drew ((hNmsW.below hbw).drewN 1))
  have KP := Lib.hid (fun w1 (hb : Below wb.heap.size wb w1) => (show w1.cell? ⟨w.heap.size, 0, none⟩ = some (.int .i64 1) ∧ w1.cell? ⟨w.heap.size, 1, none⟩ = some (.string x) ∧ w1.cell? ⟨w.heap.size, 2, none⟩ = some (.string y) ∧ w1.cell? ⟨w.heap.size, 3, none⟩ = some (.int .i64 i) ∧ w1.cell? ⟨p, 0, none⟩ = some (.slice An n cn) from by
    have hx := hbx.below hb hbx.lt
    exact ⟨hx.cell 0, hx.cell 1, hx.cell 2, hx.cell 3, (h.cells (hbw.trans (hb.mono hbw.size))).1⟩))
  have HK := Lib.hid (KP.out wb.drew (below_drewn (Below.refl _ _) 1))
  have RX := Lib.hid (fun w1 => rright_any x w1 hxs)
  have RY := Lib.hid (fun w1 => rright_any y w1 hys)
  have HBW := Lib.hid hbw
  have H := Lib.hid h
  have HBX := Lib.hid hbx
  have HNW := Lib.hid hNmsW
  have HQ := Lib.hid hq
  have HN := Lib.hid hn
  have HG := Lib.hid hg
  have HO := Lib.hid ho
  have hfoo := KP.out wb (Below.refl _ _)
  rw [show (getN s.now x).isSome = false from hh] at GT
  rw [hwb] at GT KP HK HBW HBX hfoo
  obtain ⟨e0, e1, e2, e3, e4⟩ := hfoo
  clear h hg ho hq hn hbw hbx hNmsW hwb hxs hys
  go_enter Try.func23, Try.ntmps23
  go_wp2
  go_region_held3 (fun w1 => w1.cell? ⟨w.heap.size, 0, none⟩ = some (.int .i64 1) ∧ w1.cell? ⟨w.heap.size, 1, none⟩ = some (.string x) ∧ w1.cell? ⟨w.heap.size, 2, none⟩ = some (.string y) ∧ w1.cell? ⟨w.heap.size, 3, none⟩ = some (.int .i64 i) ∧ w1.cell? ⟨p, 0, none⟩ = some (.slice An n cn))
    (first | assumption | exact HK.out)
    (first | (go_at_call 26; go_loud (refine GT.out.mono ?_; rintro e w9 ⟨rfl, rfl⟩)))
  go_wp2
  go_ret
  exact ⟨rfl, RDT.of (Chg.of_below (below_drewn HBW.out 1) (Nat.le_refl _) S) (H.out.below (below_drewn HBW.out 1)) (fun _ h => .inl h) H.out.foot H.out.bas⟩

set_option maxHeartbeats 4000000 in
set_option maxRecDepth 100000 in
theorem rdo_none2 (p : Nat) (base N : Nat) (S : Nat → Prop) (s : DB) (nv sv ov : Value) (x y : ByteArray) (i : Int) (w : World) (h : RD w base S p s nv sv ov) (hg : GoodD s N) (hN : N ≤ 900000) (ho : OkO ⟨2, x, y, i⟩) (hh : hasB s.now x = false) :
    Calls Try.prog 23 #[.pointer (some ⟨p, 0, none⟩), .agg #[.int .i64 2, .string x, .string y, .int .i64 i]] w fun e w' => e = .returned (.int .i64 6) ∧ RDT base S p s w w' := by
  obtain ⟨i0, hi, hz0, hz1, hz2⟩ := info_parts opInfo4
  obtain ⟨An, cn, rfl, hNmsW⟩ := Nms.of_own h.now
  obtain ⟨Ao, co, rfl, -, -⟩ := own_form h.pend
  obtain ⟨n, hn⟩ : ∃ n, n = s.now.length := ⟨_, rfl⟩
  obtain ⟨q, hq⟩ : ∃ q, q = s.ops.length := ⟨_, rfl⟩
  have hq9 : q ≤ 900000 := by have := hg.safe; omega
  have hn9 : n ≤ 900000 := by have := hg.now; omega
  rw [← hn] at hNmsW
  rw [← hq, ← hn] at h
  obtain ⟨wb, hwb⟩ : ∃ wb, wb = w.alloc (.cells #[.int .i64 2, .string x, .string y, .int .i64 i] 59) := ⟨_, rfl⟩
  have hbw : Below w.heap.size w wb := by rw [hwb]; exact (Below.refl _ _).alloc (Nat.le_refl _) _
  have hbx : Blk wb w.heap.size 59 #[.int .i64 2, .string x, .string y, .int .i64 i] := by rw [hwb]; exact Blk.new _ _ _
  have hxs : x.size ≤ maxLen := by have := ho.a; unfold maxLen; simp only at this; omega
  have hys : y.size ≤ maxLen := by have := ho.b; unfold maxLen; simp only at this; omega
  have GT := Lib.hid (rget_any An n cn w.heap.size s.now x wb.drew ((hNmsW.below hbw).drewN 1))
  have KP := Lib.hid (fun w1 (hb : Below wb.heap.size wb w1) => (show w1.cell? ⟨w.heap.size, 0, none⟩ = some (.int .i64 2) ∧ w1.cell? ⟨w.heap.size, 1, none⟩ = some (.string x) ∧ w1.cell? ⟨w.heap.size, 2, none⟩ = some (.string y) ∧ w1.cell? ⟨w.heap.size, 3, none⟩ = some (.int .i64 i) ∧ w1.cell? ⟨p, 0, none⟩ = some (.slice An n cn) from by
    have hx := hbx.below hb hbx.lt
    exact ⟨hx.cell 0, hx.cell 1, hx.cell 2, hx.cell 3, (h.cells (hbw.trans (hb.mono hbw.size))).1⟩))
  have HK := Lib.hid (KP.out wb.drew (below_drewn (Below.refl _ _) 1))
  have RX := Lib.hid (fun w1 => rright_any x w1 hxs)
  have RY := Lib.hid (fun w1 => rright_any y w1 hys)
  have HBW := Lib.hid hbw
  have H := Lib.hid h
  have HBX := Lib.hid hbx
  have HNW := Lib.hid hNmsW
  have HQ := Lib.hid hq
  have HN := Lib.hid hn
  have HG := Lib.hid hg
  have HO := Lib.hid ho
  have hfoo := KP.out wb (Below.refl _ _)
  rw [show (getN s.now x).isSome = false from hh] at GT
  rw [hwb] at GT KP HK HBW HBX hfoo
  obtain ⟨e0, e1, e2, e3, e4⟩ := hfoo
  clear h hg ho hq hn hbw hbx hNmsW hwb hxs hys
  go_enter Try.func23, Try.ntmps23
  go_wp2
  go_region_held3 (fun w1 => w1.cell? ⟨w.heap.size, 0, none⟩ = some (.int .i64 2) ∧ w1.cell? ⟨w.heap.size, 1, none⟩ = some (.string x) ∧ w1.cell? ⟨w.heap.size, 2, none⟩ = some (.string y) ∧ w1.cell? ⟨w.heap.size, 3, none⟩ = some (.int .i64 i) ∧ w1.cell? ⟨p, 0, none⟩ = some (.slice An n cn))
    (first | assumption | exact HK.out)
    (first | (go_at_call 26; go_loud (refine GT.out.mono ?_; rintro e w9 ⟨rfl, rfl⟩)))
  go_wp2
  go_ret
  exact ⟨rfl, RDT.of (Chg.of_below (below_drewn HBW.out 1) (Nat.le_refl _) S) (H.out.below (below_drewn HBW.out 1)) (fun _ h => .inl h) H.out.foot H.out.bas⟩

set_option maxHeartbeats 4000000 in
set_option maxRecDepth 100000 in
theorem rdo_arg0 (p : Nat) (base N : Nat) (S : Nat → Prop) (s : DB) (nv sv ov : Value) (x y : ByteArray) (i : Int) (w : World) (h : RD w base S p s nv sv ov) (hg : GoodD s N) (hN : N ≤ 900000) (ho : OkO ⟨0, x, y, i⟩) (hh : hasB s.now x = false) (hr : rightB x = false) :
    Calls Try.prog 23 #[.pointer (some ⟨p, 0, none⟩), .agg #[.int .i64 0, .string x, .string y, .int .i64 i]] w fun e w' => e = .returned (.int .i64 1) ∧ RDT base S p s w w' := by
  obtain ⟨i0, hi, hz0, hz1, hz2⟩ := info_parts opInfo4
  obtain ⟨An, cn, rfl, hNmsW⟩ := Nms.of_own h.now
  obtain ⟨Ao, co, rfl, -, -⟩ := own_form h.pend
  obtain ⟨n, hn⟩ : ∃ n, n = s.now.length := ⟨_, rfl⟩
  obtain ⟨q, hq⟩ : ∃ q, q = s.ops.length := ⟨_, rfl⟩
  have hq9 : q ≤ 900000 := by have := hg.safe; omega
  have hn9 : n ≤ 900000 := by have := hg.now; omega
  rw [← hn] at hNmsW
  rw [← hq, ← hn] at h
  obtain ⟨wb, hwb⟩ : ∃ wb, wb = w.alloc (.cells #[.int .i64 0, .string x, .string y, .int .i64 i] 59) := ⟨_, rfl⟩
  have hbw : Below w.heap.size w wb := by rw [hwb]; exact (Below.refl _ _).alloc (Nat.le_refl _) _
  have hbx : Blk wb w.heap.size 59 #[.int .i64 0, .string x, .string y, .int .i64 i] := by rw [hwb]; exact Blk.new _ _ _
  have hxs : x.size ≤ maxLen := by have := ho.a; unfold maxLen; simp only at this; omega
  have hys : y.size ≤ maxLen := by have := ho.b; unfold maxLen; simp only at this; omega
  have GT := Lib.hid (rget_any An n cn w.heap.size s.now x wb.drew ((hNmsW.below hbw).drewN 1))
  have KP := Lib.hid (fun w1 (hb : Below wb.heap.size wb w1) => (show w1.cell? ⟨w.heap.size, 0, none⟩ = some (.int .i64 0) ∧ w1.cell? ⟨w.heap.size, 1, none⟩ = some (.string x) ∧ w1.cell? ⟨w.heap.size, 2, none⟩ = some (.string y) ∧ w1.cell? ⟨w.heap.size, 3, none⟩ = some (.int .i64 i) ∧ w1.cell? ⟨p, 0, none⟩ = some (.slice An n cn) from by
    have hx := hbx.below hb hbx.lt
    exact ⟨hx.cell 0, hx.cell 1, hx.cell 2, hx.cell 3, (h.cells (hbw.trans (hb.mono hbw.size))).1⟩))
  have HK := Lib.hid (KP.out wb.drew (below_drewn (Below.refl _ _) 1))
  have RX := Lib.hid (fun w1 => rright_any x w1 hxs)
  have RY := Lib.hid (fun w1 => rright_any y w1 hys)
  have HBW := Lib.hid hbw
  have H := Lib.hid h
  have HBX := Lib.hid hbx
  have HNW := Lib.hid hNmsW
  have HQ := Lib.hid hq
  have HN := Lib.hid hn
  have HG := Lib.hid hg
  have HO := Lib.hid ho
  have hfoo := KP.out wb (Below.refl _ _)
  rw [show (getN s.now x).isSome = false from hh] at GT
  rw [hwb] at GT KP HK HBW HBX hfoo
  obtain ⟨e0, e1, e2, e3, e4⟩ := hfoo
  rw [hr] at RX
  clear h hg ho hq hn hbw hbx hNmsW hwb hxs hys
  go_enter Try.func23, Try.ntmps23
  go_wp2
  go_region_held3 (fun w1 => w1.cell? ⟨w.heap.size, 0, none⟩ = some (.int .i64 0) ∧ w1.cell? ⟨w.heap.size, 1, none⟩ = some (.string x) ∧ w1.cell? ⟨w.heap.size, 2, none⟩ = some (.string y) ∧ w1.cell? ⟨w.heap.size, 3, none⟩ = some (.int .i64 i) ∧ w1.cell? ⟨p, 0, none⟩ = some (.slice An n cn))
    (first | assumption | exact HK.out)
    (first | (go_at_call 26; go_loud (refine GT.out.mono ?_; rintro e w9 ⟨rfl, rfl⟩)))
  go_wp2_with (first
    | (go_at_call 12; go_loud (refine (RX.out _).mono ?_; rintro e w9 ⟨rfl, rfl⟩)))
  go_ret
  exact ⟨rfl, RDT.of (Chg.of_below (below_drewn HBW.out 1) (Nat.le_refl _) S) (H.out.below (below_drewn HBW.out 1)) (fun _ h => .inl h) H.out.foot H.out.bas⟩

set_option maxHeartbeats 4000000 in
set_option maxRecDepth 100000 in
theorem rdo_arg1 (p : Nat) (base N : Nat) (S : Nat → Prop) (s : DB) (nv sv ov : Value) (x y : ByteArray) (i : Int) (w : World) (h : RD w base S p s nv sv ov) (hg : GoodD s N) (hN : N ≤ 900000) (ho : OkO ⟨1, x, y, i⟩) (hh : hasB s.now x = true) (hr : rightB y = false) :
    Calls Try.prog 23 #[.pointer (some ⟨p, 0, none⟩), .agg #[.int .i64 1, .string x, .string y, .int .i64 i]] w fun e w' => e = .returned (.int .i64 1) ∧ RDT base S p s w w' := by
  obtain ⟨i0, hi, hz0, hz1, hz2⟩ := info_parts opInfo4
  obtain ⟨An, cn, rfl, hNmsW⟩ := Nms.of_own h.now
  obtain ⟨Ao, co, rfl, -, -⟩ := own_form h.pend
  obtain ⟨n, hn⟩ : ∃ n, n = s.now.length := ⟨_, rfl⟩
  obtain ⟨q, hq⟩ : ∃ q, q = s.ops.length := ⟨_, rfl⟩
  have hq9 : q ≤ 900000 := by have := hg.safe; omega
  have hn9 : n ≤ 900000 := by have := hg.now; omega
  rw [← hn] at hNmsW
  rw [← hq, ← hn] at h
  obtain ⟨wb, hwb⟩ : ∃ wb, wb = w.alloc (.cells #[.int .i64 1, .string x, .string y, .int .i64 i] 59) := ⟨_, rfl⟩
  have hbw : Below w.heap.size w wb := by rw [hwb]; exact (Below.refl _ _).alloc (Nat.le_refl _) _
  have hbx : Blk wb w.heap.size 59 #[.int .i64 1, .string x, .string y, .int .i64 i] := by rw [hwb]; exact Blk.new _ _ _
  have hxs : x.size ≤ maxLen := by have := ho.a; unfold maxLen; simp only at this; omega
  have hys : y.size ≤ maxLen := by have := ho.b; unfold maxLen; simp only at this; omega
  have GT := Lib.hid (rget_any An n cn w.heap.size s.now x wb.drew ((hNmsW.below hbw).drewN 1))
  have KP := Lib.hid (fun w1 (hb : Below wb.heap.size wb w1) => (show w1.cell? ⟨w.heap.size, 0, none⟩ = some (.int .i64 1) ∧ w1.cell? ⟨w.heap.size, 1, none⟩ = some (.string x) ∧ w1.cell? ⟨w.heap.size, 2, none⟩ = some (.string y) ∧ w1.cell? ⟨w.heap.size, 3, none⟩ = some (.int .i64 i) ∧ w1.cell? ⟨p, 0, none⟩ = some (.slice An n cn) from by
    have hx := hbx.below hb hbx.lt
    exact ⟨hx.cell 0, hx.cell 1, hx.cell 2, hx.cell 3, (h.cells (hbw.trans (hb.mono hbw.size))).1⟩))
  have HK := Lib.hid (KP.out wb.drew (below_drewn (Below.refl _ _) 1))
  have RX := Lib.hid (fun w1 => rright_any x w1 hxs)
  have RY := Lib.hid (fun w1 => rright_any y w1 hys)
  have HBW := Lib.hid hbw
  have H := Lib.hid h
  have HBX := Lib.hid hbx
  have HNW := Lib.hid hNmsW
  have HQ := Lib.hid hq
  have HN := Lib.hid hn
  have HG := Lib.hid hg
  have HO := Lib.hid ho
  have hfoo := KP.out wb (Below.refl _ _)
  rw [show (getN s.now x).isSome = true from hh] at GT
  rw [hwb] at GT KP HK HBW HBX hfoo
  obtain ⟨e0, e1, e2, e3, e4⟩ := hfoo
  rw [hr] at RY
  clear h hg ho hq hn hbw hbx hNmsW hwb hxs hys
  go_enter Try.func23, Try.ntmps23
  go_wp2
  go_region_held3 (fun w1 => w1.cell? ⟨w.heap.size, 0, none⟩ = some (.int .i64 1) ∧ w1.cell? ⟨w.heap.size, 1, none⟩ = some (.string x) ∧ w1.cell? ⟨w.heap.size, 2, none⟩ = some (.string y) ∧ w1.cell? ⟨w.heap.size, 3, none⟩ = some (.int .i64 i) ∧ w1.cell? ⟨p, 0, none⟩ = some (.slice An n cn))
    (first | assumption | exact HK.out)
    (first | (go_at_call 26; go_loud (refine GT.out.mono ?_; rintro e w9 ⟨rfl, rfl⟩)))
  go_wp2_with (first
    | (go_at_call 12; go_loud (refine (RY.out _).mono ?_; rintro e w9 ⟨rfl, rfl⟩)))
  go_ret
  exact ⟨rfl, RDT.of (Chg.of_below (below_drewn HBW.out 1) (Nat.le_refl _) S) (H.out.below (below_drewn HBW.out 1)) (fun _ h => .inl h) H.out.foot H.out.bas⟩

set_option maxHeartbeats 4000000 in
set_option maxRecDepth 100000 in
theorem rdo_ok0 (p : Nat) (base N : Nat) (S : Nat → Prop) (s : DB) (nv sv ov : Value) (x y : ByteArray) (i : Int) (w : World) (h : RD w base S p s nv sv ov) (hg : GoodD s N) (hN : N ≤ 900000) (ho : OkO ⟨0, x, y, i⟩) (hh : hasB s.now x = false) (hr : rightB x = true) :
    Calls Try.prog 23 #[.pointer (some ⟨p, 0, none⟩), .agg #[.int .i64 0, .string x, .string y, .int .i64 i]] w fun e w' => e = .returned (.int .i64 0) ∧ RDT base S p ⟨didN cfT s.now ⟨0, x, y, i⟩, s.safe, s.ops ++ [⟨0, x, y, i⟩]⟩ w w' := by
  obtain ⟨i0, hi, hz0, hz1, hz2⟩ := info_parts opInfo4
  obtain ⟨An, cn, rfl, hNmsW⟩ := Nms.of_own h.now
  obtain ⟨Ao, co, rfl, -, -⟩ := own_form h.pend
  obtain ⟨n, hn⟩ : ∃ n, n = s.now.length := ⟨_, rfl⟩
  obtain ⟨q, hq⟩ : ∃ q, q = s.ops.length := ⟨_, rfl⟩
  have hq9 : q ≤ 900000 := by have := hg.safe; omega
  have hn9 : n ≤ 900000 := by have := hg.now; omega
  rw [← hn] at hNmsW
  rw [← hq, ← hn] at h
  obtain ⟨wb, hwb⟩ : ∃ wb, wb = w.alloc (.cells #[.int .i64 0, .string x, .string y, .int .i64 i] 59) := ⟨_, rfl⟩
  have hbw : Below w.heap.size w wb := by rw [hwb]; exact (Below.refl _ _).alloc (Nat.le_refl _) _
  have hbx : Blk wb w.heap.size 59 #[.int .i64 0, .string x, .string y, .int .i64 i] := by rw [hwb]; exact Blk.new _ _ _
  have hxs : x.size ≤ maxLen := by have := ho.a; unfold maxLen; simp only at this; omega
  have hys : y.size ≤ maxLen := by have := ho.b; unfold maxLen; simp only at this; omega
  have GT := Lib.hid (rget_any An n cn w.heap.size s.now x wb.drew ((hNmsW.below hbw).drewN 1))
  have KP := Lib.hid (fun w1 (hb : Below wb.heap.size wb w1) => (show w1.cell? ⟨w.heap.size, 0, none⟩ = some (.int .i64 0) ∧ w1.cell? ⟨w.heap.size, 1, none⟩ = some (.string x) ∧ w1.cell? ⟨w.heap.size, 2, none⟩ = some (.string y) ∧ w1.cell? ⟨w.heap.size, 3, none⟩ = some (.int .i64 i) ∧ w1.cell? ⟨p, 0, none⟩ = some (.slice An n cn) from by
    have hx := hbx.below hb hbx.lt
    exact ⟨hx.cell 0, hx.cell 1, hx.cell 2, hx.cell 3, (h.cells (hbw.trans (hb.mono hbw.size))).1⟩))
  have HK := Lib.hid (KP.out wb.drew (below_drewn (Below.refl _ _) 1))
  have RX := Lib.hid (fun w1 => rright_any x w1 hxs)
  have RY := Lib.hid (fun w1 => rright_any y w1 hys)
  have HBW := Lib.hid hbw
  have H := Lib.hid h
  have HBX := Lib.hid hbx
  have HNW := Lib.hid hNmsW
  have HQ := Lib.hid hq
  have HN := Lib.hid hn
  have HG := Lib.hid hg
  have HO := Lib.hid ho
  have hfoo := KP.out wb (Below.refl _ _)
  rw [show (getN s.now x).isSome = false from hh] at GT
  rw [hwb] at GT KP HK HBW HBX hfoo
  obtain ⟨e0, e1, e2, e3, e4⟩ := hfoo
  have hnow := h.now
  rw [← hn] at hnow
  have DD := Lib.hid (fun w1 (hb : Below wb.heap.size wb w1) => rdid_any ⟨0, x, y, i⟩ base An n cn s.now w1 (own_below hnow (hbw.trans (hb.mono hbw.size))) hn.symm (Nat.le_trans h.bas (hbw.trans (hb.mono hbw.size)).size) hn9 ho.kind)
  have HB2 := Lib.hid (show Below wb.heap.size wb wb.drew.drew from below_drewn (below_drewn (Below.refl _ _) 1) 1)
  have HBZ := Lib.hid (show w.heap.size ≤ wb.drew.drew.heap.size from hbw.size)
  have s2 : q + 1 ≤ maxLen := by unfold maxLen; omega
  have s3 : (q + 1) * 48 ≤ 140737488355328 := by omega
  rw [hwb] at DD HB2 HBZ
  clear hnow
  rw [hr] at RX
  clear h hg ho hq hn hbw hbx hNmsW hwb hxs hys
  go_enter Try.func23, Try.ntmps23
  go_wp2
  go_region_held3 (fun w1 => w1.cell? ⟨w.heap.size, 0, none⟩ = some (.int .i64 0) ∧ w1.cell? ⟨w.heap.size, 1, none⟩ = some (.string x) ∧ w1.cell? ⟨w.heap.size, 2, none⟩ = some (.string y) ∧ w1.cell? ⟨w.heap.size, 3, none⟩ = some (.int .i64 i) ∧ w1.cell? ⟨p, 0, none⟩ = some (.slice An n cn))
    (first | assumption | exact HK.out)
    (first | (go_at_call 26; go_loud (refine GT.out.mono ?_; rintro e w9 ⟨rfl, rfl⟩)))
  go_wp2_with (first
    | (go_at_call 12; go_loud (refine (RX.out _).mono ?_; rintro e w9 ⟨rfl, rfl⟩)))
  go_region_law ((first
    | (go_simp; go_at_call 34; go_loud (refine (DD.out _ HB2.out).mono ?_; rintro e w3 ⟨A3, c3, rfl, hown3, hb3, hmv3⟩; have HB3 := Lib.hid (show Below w.heap.size w w3 from (HBW.out.trans (HB2.out.mono HBW.out.size)).trans (hb3.mono HBZ.out)); obtain ⟨y0, -, -, yf0, -, -⟩ := H.out.cells HB3.out; have HS5 := Lib.hid (H.out.setNow hown3 HB3.out (fun g hg => (hmv3 g hg).imp id (fun h => Nat.le_trans HBZ.out h))); have HC5 := Lib.hid (show Chg S w (w3.setCell ⟨p, 0, none⟩ (.slice A3 (didN cfT s.now ⟨0, x, y, i⟩).length c3)) from (Chg.of_below HB3.out (Nat.le_refl _) S).setCell (.inr H.out.inp) _); have HX5 := Lib.hid (show Blk (w3.setCell ⟨p, 0, none⟩ (.slice A3 (didN cfT s.now ⟨0, x, y, i⟩).length c3)) w.heap.size 59 #[.int .i64 0, .string x, .string y, .int .i64 i] from ((HBX.out.below (HB2.out.trans (hb3.mono HB2.out.size)) HBX.out.lt).far (fun e => by have := H.out.blk.lt; have e : w.heap.size = p := e; omega) _)); have HZ5 := Lib.hid (show w3.heap.size = (w3.setCell ⟨p, 0, none⟩ (.slice A3 (didN cfT s.now ⟨0, x, y, i⟩).length c3)).heap.size from (size_set _ _ _).symm); clear hown3 hb3 hmv3))))
  all_goals
    generalize (w3.setCell ⟨p, 0, none⟩ (.slice A3 (didN cfT s.now ⟨0, x, y, i⟩).length c3)) = w5 at *
    obtain ⟨-, -, z2, -, -, zf2⟩ := HS5.out.cells (Below.refl _ _)
    have b0 := HX5.out.cell 0
    have b1 := HX5.out.cell 1
    have b2 := HX5.out.cell 2
    have b3 := HX5.out.cell 3
    simp only [List.getElem?_toArray, List.getElem?_cons_zero, List.getElem?_cons_succ] at b0 b1 b2 b3
    have hpl := HS5.out.blk.lt
    have hpn : ¬ p = w5.heap.size := Nat.ne_of_lt hpl
    clear y0 yf0
    go_wp2
    go_region_law ((first
      | go_loud (refine step_append_any _ rfl (.tmp 63) (.tmp 65) _ rfl base 59 i0 _ 4 48 Try.underlying27 hi hz0 hz1 hz2 rfl (Nat.zero_lt_succ 3) (.slice Ao q co) q _ rfl ((HS5.out.pend_ HQ.out).alloc _) _ _ 1 1 (opC ⟨0, x, y, i⟩) rfl (newAt _ _ _ 4 _ rfl (by simp)) (opC_one _) s2 s3 (by have := HS5.out.bas; simp; omega) ?_; intro v4 w4 hown4 hg4 hat4; obtain ⟨A4, c4, rfl, -, -⟩ := own_form hown4; obtain ⟨g2, gf2⟩ := HS5.out.pcells (undrew_grown hg4); have HP := Lib.hid (HS5.out.pushed (o := ⟨0, x, y, i⟩) HQ.out (undrew_grown hg4) hown4 hat4); clear hown4 hg4 hat4)))
    all_goals
      go_wp2
      go_ret
      exact ⟨rfl, RDT.step H.out.foot H.out.bas HC5.out HP.out.1 HZ5.out HP.out.2⟩

set_option maxHeartbeats 4000000 in
set_option maxRecDepth 100000 in
theorem rdo_ok1 (p : Nat) (base N : Nat) (S : Nat → Prop) (s : DB) (nv sv ov : Value) (x y : ByteArray) (i : Int) (w : World) (h : RD w base S p s nv sv ov) (hg : GoodD s N) (hN : N ≤ 900000) (ho : OkO ⟨1, x, y, i⟩) (hh : hasB s.now x = true) (hr : rightB y = true) :
    Calls Try.prog 23 #[.pointer (some ⟨p, 0, none⟩), .agg #[.int .i64 1, .string x, .string y, .int .i64 i]] w fun e w' => e = .returned (.int .i64 0) ∧ RDT base S p ⟨didN cfT s.now ⟨1, x, y, i⟩, s.safe, s.ops ++ [⟨1, x, y, i⟩]⟩ w w' := by
  obtain ⟨i0, hi, hz0, hz1, hz2⟩ := info_parts opInfo4
  obtain ⟨An, cn, rfl, hNmsW⟩ := Nms.of_own h.now
  obtain ⟨Ao, co, rfl, -, -⟩ := own_form h.pend
  obtain ⟨n, hn⟩ : ∃ n, n = s.now.length := ⟨_, rfl⟩
  obtain ⟨q, hq⟩ : ∃ q, q = s.ops.length := ⟨_, rfl⟩
  have hq9 : q ≤ 900000 := by have := hg.safe; omega
  have hn9 : n ≤ 900000 := by have := hg.now; omega
  rw [← hn] at hNmsW
  rw [← hq, ← hn] at h
  obtain ⟨wb, hwb⟩ : ∃ wb, wb = w.alloc (.cells #[.int .i64 1, .string x, .string y, .int .i64 i] 59) := ⟨_, rfl⟩
  have hbw : Below w.heap.size w wb := by rw [hwb]; exact (Below.refl _ _).alloc (Nat.le_refl _) _
  have hbx : Blk wb w.heap.size 59 #[.int .i64 1, .string x, .string y, .int .i64 i] := by rw [hwb]; exact Blk.new _ _ _
  have hxs : x.size ≤ maxLen := by have := ho.a; unfold maxLen; simp only at this; omega
  have hys : y.size ≤ maxLen := by have := ho.b; unfold maxLen; simp only at this; omega
  have GT := Lib.hid (rget_any An n cn w.heap.size s.now x wb.drew ((hNmsW.below hbw).drewN 1))
  have KP := Lib.hid (fun w1 (hb : Below wb.heap.size wb w1) => (show w1.cell? ⟨w.heap.size, 0, none⟩ = some (.int .i64 1) ∧ w1.cell? ⟨w.heap.size, 1, none⟩ = some (.string x) ∧ w1.cell? ⟨w.heap.size, 2, none⟩ = some (.string y) ∧ w1.cell? ⟨w.heap.size, 3, none⟩ = some (.int .i64 i) ∧ w1.cell? ⟨p, 0, none⟩ = some (.slice An n cn) from by
    have hx := hbx.below hb hbx.lt
    exact ⟨hx.cell 0, hx.cell 1, hx.cell 2, hx.cell 3, (h.cells (hbw.trans (hb.mono hbw.size))).1⟩))
  have HK := Lib.hid (KP.out wb.drew (below_drewn (Below.refl _ _) 1))
  have RX := Lib.hid (fun w1 => rright_any x w1 hxs)
  have RY := Lib.hid (fun w1 => rright_any y w1 hys)
  have HBW := Lib.hid hbw
  have H := Lib.hid h
  have HBX := Lib.hid hbx
  have HNW := Lib.hid hNmsW
  have HQ := Lib.hid hq
  have HN := Lib.hid hn
  have HG := Lib.hid hg
  have HO := Lib.hid ho
  have hfoo := KP.out wb (Below.refl _ _)
  rw [show (getN s.now x).isSome = true from hh] at GT
  rw [hwb] at GT KP HK HBW HBX hfoo
  obtain ⟨e0, e1, e2, e3, e4⟩ := hfoo
  have hnow := h.now
  rw [← hn] at hnow
  have DD := Lib.hid (fun w1 (hb : Below wb.heap.size wb w1) => rdid_any ⟨1, x, y, i⟩ base An n cn s.now w1 (own_below hnow (hbw.trans (hb.mono hbw.size))) hn.symm (Nat.le_trans h.bas (hbw.trans (hb.mono hbw.size)).size) hn9 ho.kind)
  have HB2 := Lib.hid (show Below wb.heap.size wb wb.drew.drew from below_drewn (below_drewn (Below.refl _ _) 1) 1)
  have HBZ := Lib.hid (show w.heap.size ≤ wb.drew.drew.heap.size from hbw.size)
  have s2 : q + 1 ≤ maxLen := by unfold maxLen; omega
  have s3 : (q + 1) * 48 ≤ 140737488355328 := by omega
  rw [hwb] at DD HB2 HBZ
  clear hnow
  rw [hr] at RY
  clear h hg ho hq hn hbw hbx hNmsW hwb hxs hys
  go_enter Try.func23, Try.ntmps23
  go_wp2
  go_region_held3 (fun w1 => w1.cell? ⟨w.heap.size, 0, none⟩ = some (.int .i64 1) ∧ w1.cell? ⟨w.heap.size, 1, none⟩ = some (.string x) ∧ w1.cell? ⟨w.heap.size, 2, none⟩ = some (.string y) ∧ w1.cell? ⟨w.heap.size, 3, none⟩ = some (.int .i64 i) ∧ w1.cell? ⟨p, 0, none⟩ = some (.slice An n cn))
    (first | assumption | exact HK.out)
    (first | (go_at_call 26; go_loud (refine GT.out.mono ?_; rintro e w9 ⟨rfl, rfl⟩)))
  go_wp2_with (first
    | (go_at_call 12; go_loud (refine (RY.out _).mono ?_; rintro e w9 ⟨rfl, rfl⟩)))
  go_region_law ((first
    | (go_simp; go_at_call 34; go_loud (refine (DD.out _ HB2.out).mono ?_; rintro e w3 ⟨A3, c3, rfl, hown3, hb3, hmv3⟩; have HB3 := Lib.hid (show Below w.heap.size w w3 from (HBW.out.trans (HB2.out.mono HBW.out.size)).trans (hb3.mono HBZ.out)); obtain ⟨y0, -, -, yf0, -, -⟩ := H.out.cells HB3.out; have HS5 := Lib.hid (H.out.setNow hown3 HB3.out (fun g hg => (hmv3 g hg).imp id (fun h => Nat.le_trans HBZ.out h))); have HC5 := Lib.hid (show Chg S w (w3.setCell ⟨p, 0, none⟩ (.slice A3 (didN cfT s.now ⟨1, x, y, i⟩).length c3)) from (Chg.of_below HB3.out (Nat.le_refl _) S).setCell (.inr H.out.inp) _); have HX5 := Lib.hid (show Blk (w3.setCell ⟨p, 0, none⟩ (.slice A3 (didN cfT s.now ⟨1, x, y, i⟩).length c3)) w.heap.size 59 #[.int .i64 1, .string x, .string y, .int .i64 i] from ((HBX.out.below (HB2.out.trans (hb3.mono HB2.out.size)) HBX.out.lt).far (fun e => by have := H.out.blk.lt; have e : w.heap.size = p := e; omega) _)); have HZ5 := Lib.hid (show w3.heap.size = (w3.setCell ⟨p, 0, none⟩ (.slice A3 (didN cfT s.now ⟨1, x, y, i⟩).length c3)).heap.size from (size_set _ _ _).symm); clear hown3 hb3 hmv3))))
  all_goals
    generalize (w3.setCell ⟨p, 0, none⟩ (.slice A3 (didN cfT s.now ⟨1, x, y, i⟩).length c3)) = w5 at *
    obtain ⟨-, -, z2, -, -, zf2⟩ := HS5.out.cells (Below.refl _ _)
    have b0 := HX5.out.cell 0
    have b1 := HX5.out.cell 1
    have b2 := HX5.out.cell 2
    have b3 := HX5.out.cell 3
    simp only [List.getElem?_toArray, List.getElem?_cons_zero, List.getElem?_cons_succ] at b0 b1 b2 b3
    have hpl := HS5.out.blk.lt
    have hpn : ¬ p = w5.heap.size := Nat.ne_of_lt hpl
    clear y0 yf0
    go_wp2
    go_region_law ((first
      | go_loud (refine step_append_any _ rfl (.tmp 63) (.tmp 65) _ rfl base 59 i0 _ 4 48 Try.underlying27 hi hz0 hz1 hz2 rfl (Nat.zero_lt_succ 3) (.slice Ao q co) q _ rfl ((HS5.out.pend_ HQ.out).alloc _) _ _ 1 1 (opC ⟨1, x, y, i⟩) rfl (newAt _ _ _ 4 _ rfl (by simp)) (opC_one _) s2 s3 (by have := HS5.out.bas; simp; omega) ?_; intro v4 w4 hown4 hg4 hat4; obtain ⟨A4, c4, rfl, -, -⟩ := own_form hown4; obtain ⟨g2, gf2⟩ := HS5.out.pcells (undrew_grown hg4); have HP := Lib.hid (HS5.out.pushed (o := ⟨1, x, y, i⟩) HQ.out (undrew_grown hg4) hown4 hat4); clear hown4 hg4 hat4)))
    all_goals
      go_wp2
      go_ret
      exact ⟨rfl, RDT.step H.out.foot H.out.bas HC5.out HP.out.1 HZ5.out HP.out.2⟩

set_option maxHeartbeats 4000000 in
set_option maxRecDepth 100000 in
theorem rdo_ok2 (p : Nat) (base N : Nat) (S : Nat → Prop) (s : DB) (nv sv ov : Value) (x y : ByteArray) (i : Int) (w : World) (h : RD w base S p s nv sv ov) (hg : GoodD s N) (hN : N ≤ 900000) (ho : OkO ⟨2, x, y, i⟩) (hh : hasB s.now x = true) :
    Calls Try.prog 23 #[.pointer (some ⟨p, 0, none⟩), .agg #[.int .i64 2, .string x, .string y, .int .i64 i]] w fun e w' => e = .returned (.int .i64 0) ∧ RDT base S p ⟨didN cfT s.now ⟨2, x, y, i⟩, s.safe, s.ops ++ [⟨2, x, y, i⟩]⟩ w w' := by
  obtain ⟨i0, hi, hz0, hz1, hz2⟩ := info_parts opInfo4
  obtain ⟨An, cn, rfl, hNmsW⟩ := Nms.of_own h.now
  obtain ⟨Ao, co, rfl, -, -⟩ := own_form h.pend
  obtain ⟨n, hn⟩ : ∃ n, n = s.now.length := ⟨_, rfl⟩
  obtain ⟨q, hq⟩ : ∃ q, q = s.ops.length := ⟨_, rfl⟩
  have hq9 : q ≤ 900000 := by have := hg.safe; omega
  have hn9 : n ≤ 900000 := by have := hg.now; omega
  rw [← hn] at hNmsW
  rw [← hq, ← hn] at h
  obtain ⟨wb, hwb⟩ : ∃ wb, wb = w.alloc (.cells #[.int .i64 2, .string x, .string y, .int .i64 i] 59) := ⟨_, rfl⟩
  have hbw : Below w.heap.size w wb := by rw [hwb]; exact (Below.refl _ _).alloc (Nat.le_refl _) _
  have hbx : Blk wb w.heap.size 59 #[.int .i64 2, .string x, .string y, .int .i64 i] := by rw [hwb]; exact Blk.new _ _ _
  have hxs : x.size ≤ maxLen := by have := ho.a; unfold maxLen; simp only at this; omega
  have hys : y.size ≤ maxLen := by have := ho.b; unfold maxLen; simp only at this; omega
  have GT := Lib.hid (rget_any An n cn w.heap.size s.now x wb.drew ((hNmsW.below hbw).drewN 1))
  have KP := Lib.hid (fun w1 (hb : Below wb.heap.size wb w1) => (show w1.cell? ⟨w.heap.size, 0, none⟩ = some (.int .i64 2) ∧ w1.cell? ⟨w.heap.size, 1, none⟩ = some (.string x) ∧ w1.cell? ⟨w.heap.size, 2, none⟩ = some (.string y) ∧ w1.cell? ⟨w.heap.size, 3, none⟩ = some (.int .i64 i) ∧ w1.cell? ⟨p, 0, none⟩ = some (.slice An n cn) from by
    have hx := hbx.below hb hbx.lt
    exact ⟨hx.cell 0, hx.cell 1, hx.cell 2, hx.cell 3, (h.cells (hbw.trans (hb.mono hbw.size))).1⟩))
  have HK := Lib.hid (KP.out wb.drew (below_drewn (Below.refl _ _) 1))
  have RX := Lib.hid (fun w1 => rright_any x w1 hxs)
  have RY := Lib.hid (fun w1 => rright_any y w1 hys)
  have HBW := Lib.hid hbw
  have H := Lib.hid h
  have HBX := Lib.hid hbx
  have HNW := Lib.hid hNmsW
  have HQ := Lib.hid hq
  have HN := Lib.hid hn
  have HG := Lib.hid hg
  have HO := Lib.hid ho
  have hfoo := KP.out wb (Below.refl _ _)
  rw [show (getN s.now x).isSome = true from hh] at GT
  rw [hwb] at GT KP HK HBW HBX hfoo
  obtain ⟨e0, e1, e2, e3, e4⟩ := hfoo
  have hnow := h.now
  rw [← hn] at hnow
  have DD := Lib.hid (fun w1 (hb : Below wb.heap.size wb w1) => rdid_any ⟨2, x, y, i⟩ base An n cn s.now w1 (own_below hnow (hbw.trans (hb.mono hbw.size))) hn.symm (Nat.le_trans h.bas (hbw.trans (hb.mono hbw.size)).size) hn9 ho.kind)
  have HB2 := Lib.hid (show Below wb.heap.size wb wb.drew.drew from below_drewn (below_drewn (Below.refl _ _) 1) 1)
  have HBZ := Lib.hid (show w.heap.size ≤ wb.drew.drew.heap.size from hbw.size)
  have s2 : q + 1 ≤ maxLen := by unfold maxLen; omega
  have s3 : (q + 1) * 48 ≤ 140737488355328 := by omega
  rw [hwb] at DD HB2 HBZ
  clear hnow
  clear h hg ho hq hn hbw hbx hNmsW hwb hxs hys
  go_enter Try.func23, Try.ntmps23
  go_wp2
  go_region_held3 (fun w1 => w1.cell? ⟨w.heap.size, 0, none⟩ = some (.int .i64 2) ∧ w1.cell? ⟨w.heap.size, 1, none⟩ = some (.string x) ∧ w1.cell? ⟨w.heap.size, 2, none⟩ = some (.string y) ∧ w1.cell? ⟨w.heap.size, 3, none⟩ = some (.int .i64 i) ∧ w1.cell? ⟨p, 0, none⟩ = some (.slice An n cn))
    (first | assumption | exact HK.out)
    (first | (go_at_call 26; go_loud (refine GT.out.mono ?_; rintro e w9 ⟨rfl, rfl⟩)))
  go_wp2
  go_region_law ((first
    | (go_simp; go_at_call 34; go_loud (refine (DD.out _ HB2.out).mono ?_; rintro e w3 ⟨A3, c3, rfl, hown3, hb3, hmv3⟩; have HB3 := Lib.hid (show Below w.heap.size w w3 from (HBW.out.trans (HB2.out.mono HBW.out.size)).trans (hb3.mono HBZ.out)); obtain ⟨y0, -, -, yf0, -, -⟩ := H.out.cells HB3.out; have HS5 := Lib.hid (H.out.setNow hown3 HB3.out (fun g hg => (hmv3 g hg).imp id (fun h => Nat.le_trans HBZ.out h))); have HC5 := Lib.hid (show Chg S w (w3.setCell ⟨p, 0, none⟩ (.slice A3 (didN cfT s.now ⟨2, x, y, i⟩).length c3)) from (Chg.of_below HB3.out (Nat.le_refl _) S).setCell (.inr H.out.inp) _); have HX5 := Lib.hid (show Blk (w3.setCell ⟨p, 0, none⟩ (.slice A3 (didN cfT s.now ⟨2, x, y, i⟩).length c3)) w.heap.size 59 #[.int .i64 2, .string x, .string y, .int .i64 i] from ((HBX.out.below (HB2.out.trans (hb3.mono HB2.out.size)) HBX.out.lt).far (fun e => by have := H.out.blk.lt; have e : w.heap.size = p := e; omega) _)); have HZ5 := Lib.hid (show w3.heap.size = (w3.setCell ⟨p, 0, none⟩ (.slice A3 (didN cfT s.now ⟨2, x, y, i⟩).length c3)).heap.size from (size_set _ _ _).symm); clear hown3 hb3 hmv3))))
  all_goals
    generalize (w3.setCell ⟨p, 0, none⟩ (.slice A3 (didN cfT s.now ⟨2, x, y, i⟩).length c3)) = w5 at *
    obtain ⟨-, -, z2, -, -, zf2⟩ := HS5.out.cells (Below.refl _ _)
    have b0 := HX5.out.cell 0
    have b1 := HX5.out.cell 1
    have b2 := HX5.out.cell 2
    have b3 := HX5.out.cell 3
    simp only [List.getElem?_toArray, List.getElem?_cons_zero, List.getElem?_cons_succ] at b0 b1 b2 b3
    have hpl := HS5.out.blk.lt
    have hpn : ¬ p = w5.heap.size := Nat.ne_of_lt hpl
    clear y0 yf0
    go_wp2
    go_region_law ((first
      | go_loud (refine step_append_any _ rfl (.tmp 63) (.tmp 65) _ rfl base 59 i0 _ 4 48 Try.underlying27 hi hz0 hz1 hz2 rfl (Nat.zero_lt_succ 3) (.slice Ao q co) q _ rfl ((HS5.out.pend_ HQ.out).alloc _) _ _ 1 1 (opC ⟨2, x, y, i⟩) rfl (newAt _ _ _ 4 _ rfl (by simp)) (opC_one _) s2 s3 (by have := HS5.out.bas; simp; omega) ?_; intro v4 w4 hown4 hg4 hat4; obtain ⟨A4, c4, rfl, -, -⟩ := own_form hown4; obtain ⟨g2, gf2⟩ := HS5.out.pcells (undrew_grown hg4); have HP := Lib.hid (HS5.out.pushed (o := ⟨2, x, y, i⟩) HQ.out (undrew_grown hg4) hown4 hat4); clear hown4 hg4 hat4)))
    all_goals
      go_wp2
      go_ret
      exact ⟨rfl, RDT.step H.out.foot H.out.bas HC5.out HP.out.1 HZ5.out HP.out.2⟩

end Go.Proofs.Ytakjiklpfddooaa
