/-
  LAYER 7: WHAT did DOES: its contract.
-/
import Derived.Test.YtakjiklpfddooaaDirDo
import Derived.Test.YtakjiklpfddooaaFillOne
import Derived.Deep.RegionHeld3
import Derived.Deep.Grids
set_option linter.unusedVariables false
set_option linter.unusedSimpArgs false
namespace Go.Proofs.Ytakjiklpfddooaa
open Go.RowKit

/-- The box holds a step. -/
abbrev Box4 (w : World) (g : Nat) (k : Int) (x y : ByteArray) (i : Int) : Prop := w.cell? ⟨g, 0, none⟩ = some (.int .i64 k) ∧ w.cell? ⟨g, 1, none⟩ = some (.string x) ∧ w.cell? ⟨g, 2, none⟩ = some (.string y) ∧ w.cell? ⟨g, 3, none⟩ = some (.int .i64 i) ∧ w.frozen? ⟨g, 1, none⟩ = false ∧ w.frozen? ⟨g, 2, none⟩ = false ∧
  Hid (Blk w g 66 #[.int .i64 k, .string x, .string y, .int .i64 i])
section
variable {w w' : World} {g : Nat} {k i : Int} {x y : ByteArray}
theorem Box4.of (h : Blk w g 66 #[.int .i64 k, .string x, .string y, .int .i64 i]) : Box4 w g k x y i := ⟨h.cell 0, h.cell 1, h.cell 2, h.cell 3, h.frozen 1, h.frozen 2, Lib.hid h⟩
theorem Box4.blk (h : Box4 w g k x y i) : Blk w g 66 #[.int .i64 k, .string x, .string y, .int .i64 i] := h.2.2.2.2.2.2.out
theorem Box4.below {B : Nat} (h : Box4 w g k x y i) (hb : Below B w w') (hg : g < B) : Box4 w' g k x y i := Box4.of (h.blk.below hb hg)
theorem Box4.chg {T : Nat → Prop} (h : Box4 w g k x y i) (hc : Chg T w w') (hg : ¬ T g) : Box4 w' g k x y i := Box4.of (h.blk.chg hc hg)
theorem Box4.set1 (h : Box4 w g k x y i) : Box4 (w.setCell ⟨g, 1, none⟩ (.string x)) g k x y i := Box4.of (by have := h.blk.set_ 1 (.string x); simpa using this)
theorem Box4.set2 (h : Box4 w g k x y i) : Box4 (w.setCell ⟨g, 2, none⟩ (.string y)) g k x y i := Box4.of (by have := h.blk.set_ 2 (.string y); simpa using this)
end

theorem norm_ok {o : OpB} (h : OkO o) : OkO (normO o) := by
  have he : (⟨#[]⟩ : ByteArray).size ≤ 200 := Nat.zero_le _
  have hz : (Lit.int .i64 0).wf = true := by decide
  unfold normO
  split
  · exact ⟨h.a, he, h.id, .inl rfl⟩
  · split
    · exact ⟨h.a, h.b, hz, .inr (.inl rfl)⟩
    · exact ⟨h.a, he, hz, .inr (.inr rfl)⟩

theorem grown_undrew {w w' : World} {r : Option Nat} (h : w.drew.grownBy w' r) : w.grownBy w' r := ⟨h.os, h.tape, h.output, h.size, h.block⟩
theorem stepInfo4 : (Try.prog.info? 66).map (fun i => (i.zero, i.size, i.bytes)) = some (some (.agg #[.int .i64 0, .string ⟨#[]⟩, .string ⟨#[]⟩, .int .i64 0]), 4, 48) := by kernel_rfl

section
variable {w w2 w4 w5 : World} {base p bn bs q : Nat} {S : Nat → Prop} {s : DB} {pv v' : Value}
theorem CD.pend_ (h : CD w base S p s bn bs pv) (hq : q = s.ops.length) : w.ownsRow base 66 4 pv q (opsC (s.ops.map normO)) := hq ▸ h.pend
theorem CD.pcells (h : CD w base S p s bn bs pv) {o : Obj} (hg : (w.alloc o).grownBy w4 pv.ownBlock) : w4.cell? ⟨p, 2, none⟩ = some pv ∧ w4.frozen? ⟨p, 2, none⟩ = false := by
  have hb : Blk w4 p 50 #[.map (some bn), .map (some bs), pv] := (h.blk.alloc o).chg (Chg.of_grown hg) (fun e => h.pp e)
  exact ⟨hb.cell 2, hb.frozen 2⟩
theorem CD.pushed (h : CD w2 base S p s bn bs pv) {ob : Obj} {o : OpB} (hq : q = s.ops.length) (hg : (w2.alloc ob).grownBy w4 pv.ownBlock) (hown : w4.ownsRow base 66 4 v' (q + 1) (opsC (s.ops.map normO) ++ opC (normO o)))
    (hat : v'.ownBlock = pv.ownBlock ∨ v'.ownBlock = some (w2.alloc ob).heap.size) : Chg S w2 (w4.setCell ⟨p, 2, none⟩ v') ∧ CD (w4.setCell ⟨p, 2, none⟩ v') base (grow S w2 w4) p ⟨s.now, s.safe, s.ops ++ [o]⟩ bn bs v' := by
  have hc : Chg (fun k => pv.ownBlock = some k) w2 w4 := ((Chg.refl (fun k => pv.ownBlock = some k) w2).alloc ob).trans (Chg.of_grown hg) (fun _ _ e => e)
  subst hq
  refine ⟨(hc.mono (fun k _ e => h.ino k e)).setCell (.inr h.inp) _, h.push hown hc ?_⟩
  rcases hat with e | e
  · exact .inl e
  · exact .inr ⟨_, e, by simp⟩
theorem CDT.step {s' : DB} {pv' : Value} (hf : ∀ k, S k → base ≤ k ∧ k < w.heap.size) (hb : base ≤ w.heap.size) (hc1 : Chg S w w2) (hc2 : Chg S w2 w5) (h5 : CD w5 base (grow S w2 w4) p s' bn bs pv') : CDT base S p s' w w5 :=
  CDT.of (hc1.trans hc2 (fun k hk hs => hs)) h5 (fun k hk => by
    have := hc1.size
    rcases hk with h | ⟨h, _⟩
    · exact .inl h
    · exact .inr (by omega)) hf hb
end

set_option maxHeartbeats 2000000 in
theorem did_any (p : Nat) (base N : Nat) (S : Nat → Prop) (s : DB) (bn bs : Nat) (pv : Value) (o : OpB) (w : World) (h : CD w base S p s bn bs pv) (hg : GoodD s N) (hN : N ≤ 900000) (ho : OkO o) (k : Int) (x y : ByteArray) (i : Int) (hno : normO o = ⟨k, x, y, i⟩) :
    Calls Try.prog 33 #[.pointer (some ⟨p, 0, none⟩), .agg #[.int .i64 k, .string x, .string y, .int .i64 i]] w fun e w' => e = .returned (.tuple #[]) ∧ CDT base S p ⟨didN cfT s.now o, s.safe, s.ops ++ [o]⟩ w w' := by
  obtain ⟨i0, hi, hz0, hz1, hz2⟩ := info_parts stepInfo4
  obtain ⟨wb, hwb⟩ : ∃ wb, wb = w.alloc (.cells #[.int .i64 k, .string x, .string y, .int .i64 i] 66) := ⟨_, rfl⟩
  have hbox : Box4 wb w.heap.size k x y i := by rw [hwb]; exact Box4.of (Blk.new _ _ _)
  have hb0 : Below wb.heap.size wb wb.drew := below_drewn (Below.refl _ _) 1
  have hbox0 : Box4 wb.drew w.heap.size k x y i := hbox
  have hok := norm_ok ho
  rw [hno] at hok
  have hx : x.size ≤ 1000 := by have := hok.a; simp only at this; omega
  have hy : y.size ≤ 1000 := by have := hok.b; simp only at this; omega
  have hgl : w.heap.size < wb.heap.size := by rw [hwb]; simp
  have CX := Lib.hid (fun w1 => sclone_any x w1 hx)
  have CY := Lib.hid (fun w1 => sclone_any y w1 hy)
  have HB := Lib.hid hbox
  have m1 : True := trivial
  have m2 : True := trivial
  have hfew := hg.safe
  have hnow := hg.now
  obtain ⟨Ap, cp, rfl, -, -⟩ := own_form h.pend
  obtain ⟨q, hq⟩ : ∃ q, q = s.ops.length := ⟨_, rfl⟩
  have hq9 : q ≤ 900000 := by omega
  rw [← hq] at h
  have HCD := Lib.hid (fun (wC : World) (hb : Below w.heap.size w wC) => h.below hb)
  have HQ := Lib.hid hq
  have HG := Lib.hid hg
  have hgn : ¬ w.heap.size = bn := by have := h.now.lt; omega
  have DO := Lib.hid (fun (wC : World) (hm : MapAt wC bn s.now) => do_any ⟨k, x, y, i⟩ bn s.now wC hm (by omega) hok hg.okn)
  have HDN := Lib.hid (show didN cfT s.now ⟨k, x, y, i⟩ = didN cfT s.now o by rw [← hno, did_norm])
  have HNO := Lib.hid hno
  have HBW := Lib.hid (show Below w.heap.size w wb by rw [hwb]; exact (Below.refl _ _).alloc (Nat.le_refl _) _)
  have HF := Lib.hid (And.intro h.foot h.bas)
  clear hx hy hbox h hq hg hok hno hfew hnow ho
  rw [hwb] at hbox0 hb0 hgl HB HBW
  clear hwb
  go_enter Try.func33, Try.ntmps33
  go_wp2
  go_region_held3 (fun w' => Box4 w' w.heap.size k x y i)
    (first | assumption | exact Box4.set1 (by assumption) | exact Box4.set2 (by assumption))
    (first
      | (go_at_call 38; clear m1; refine (CX.out _).mono ?_; rintro e wA ⟨rfl, hbx⟩; have hbA := hb0.trans (hbx.mono hb0.size); have hboxA := HB.out.below hbA hgl; clear hbx)
      | (go_at_call 38; clear m2; refine (CY.out _).mono ?_; rintro e wB ⟨rfl, hbx⟩; have hbB := hbA.trans (hbx.mono hbA.size); have hboxB := HB.out.below hbB hgl; clear hbx))
  have hboxC := hboxB.set1.set2
  have hbC : Below w.heap.size w ((wB.setCell ⟨w.heap.size, 1, none⟩ (.string x)).setCell ⟨w.heap.size, 2, none⟩ (.string y)) := ((HBW.out.trans (hbB.mono HBW.out.size)).setCell (Nat.le_refl _) _).setCell (Nat.le_refl _) _
  generalize (wB.setCell ⟨w.heap.size, 1, none⟩ (.string x)).setCell ⟨w.heap.size, 2, none⟩ (.string y) = wC at *
  clear hboxA hboxB hbA hbB hbox0 hb0 hgl HBW HB CX CY
  have hC := HCD.out wC hbC
  obtain ⟨d0, -, d2, f2⟩ := hC.cells (Below.refl _ _)
  have HC := Lib.hid hC
  have DOC := Lib.hid (DO.out wC.drew (hC.below (below_drewn (Below.refl _ _) 1)).now)
  have HBX := Lib.hid hboxC
  clear hC DO HCD
  go_wp2
  go_region_held3 (fun w' => Box4 w' w.heap.size k x y i ∧ w'.cell? ⟨p, 0, none⟩ = some (.map (some bn)))
    (first | exact ⟨by assumption, by assumption⟩)
    (first | (go_at_call 28; refine DOC.out.mono ?_; rintro e wD ⟨rfl, hmD, hcD⟩; have hD := (HC.out.below (below_drewn (Below.refl _ _) 1)).setNow hmD hcD; have hboxD := HBX.out.chg (T := fun j => j = bn) hcD.drew0 hgn; obtain ⟨e0, -, e2, g2⟩ := hD.cells (Below.refl _ _); have hpl := hD.blk.lt; have hpn : ¬ p = wD.heap.size := Nat.ne_of_lt hpl; have HD := Lib.hid hD; have HCS := Lib.hid (show Chg S w wD from (Chg.of_below hbC (Nat.le_refl _) S).trans hcD.drew0 (fun j _ hj => by have hj : j = bn := hj; subst hj; exact HC.out.inn)); clear hD hmD hcD))
  have s2 : q + 1 ≤ maxLen := by unfold maxLen; omega
  have s3 : (q + 1) * 48 ≤ 140737488355328 := by omega
  clear hbC DOC HC HBX d0 d2 f2
  go_wp2
  go_region_law ((first
    | go_loud (refine step_append_any _ rfl (.tmp 22) (.tmp 24) _ rfl base 66 i0 _ 4 48 Try.underlying48 hi hz0 hz1 hz2 rfl (Nat.zero_lt_succ 3) (.slice Ap q cp) q _ rfl ((HD.out.pend_ HQ.out).alloc _) _ _ 1 1 (opC ⟨k, x, y, i⟩) rfl (newAt _ _ _ 4 _ rfl (by simp)) (opC_one _) s2 s3 (by have := HD.out.bas; simp; omega) ?_; intro v4 w4 hown4 hg4 hat4; obtain ⟨A4, c4, rfl, -, -⟩ := own_form hown4; obtain ⟨g2, gf2⟩ := HD.out.pcells (grown_undrew hg4); have HP := Lib.hid (HD.out.pushed (o := o) HQ.out (grown_undrew hg4) (by rw [HNO.out]; exact hown4) hat4); clear hown4 hg4 hat4)))
  all_goals
    go_end0
    exact ⟨rfl, by rw [← HDN.out]; exact CDT.step HF.out.1 HF.out.2 HCS.out HP.out.1 HP.out.2⟩

end Go.Proofs.Ytakjiklpfddooaa
