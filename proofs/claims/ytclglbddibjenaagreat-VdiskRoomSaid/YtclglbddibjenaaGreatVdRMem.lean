/-
  LAYER 8: HOW THE DOCUMENT'S DISK LIES IN MEMORY: a block of six cells, its directory, its row of files, and these, each in a footprint of its own; what keeps it; one of these turns.
-/
import Derived.Test.YtclglbddibjenaaGreatVdFn6
set_option linter.unusedVariables false
set_option linter.unusedSimpArgs false
set_option maxRecDepth 100000
namespace Go.Proofs.YtclglbddibjenaaGreat
open Go.RowKit

/-- A file of the document's. -/
def TF (base : Nat) (w : World) (S : Nat → Prop) (p : Nat) (f : FS) : Prop := ∃ nv sv ov xs, RF w base S p f nv sv ov xs
theorem tfThing (base : Nat) : Thing base (TF base) :=
  ⟨fun {w w' S T p s} h hc hT => by obtain ⟨nv, sv, ov, xs, h⟩ := h; exact ⟨nv, sv, ov, xs, h.keep hc hT⟩,
   fun {w S p s} h => by obtain ⟨nv, sv, ov, xs, h⟩ := h; exact h.foot⟩
def ptrC (ps : List Nat) : List Value := ps.map fun k => .pointer (some ⟨k, 0, none⟩)
theorem ptrC_length (ps : List Nat) : (ptrC ps).length = ps.length := by unfold ptrC; simp
def rdiskC (dq : Nat) (fv : Value) (v : VS) : Array Value := #[.pointer (some ⟨dq, 0, none⟩), fv, .int .i64 v.room, .int .i64 v.fuse, .bool v.armed, .bool v.dead]

/-- The document's disk. -/
structure RV (w : World) (base : Nat) (T : Nat → Prop) (q : Nat) (v : VS) (dq : Nat) (fv nv sv ov : Value) (SD SF : Nat → Prop) (qs : List Nat) (Ss : List (Nat → Prop)) : Prop where
  foot : ∀ k, T k → base ≤ k ∧ k < w.heap.size
  bas : base ≤ w.heap.size
  blk : Blk w q 48 (rdiskC dq fv v)
  dir : RD w base SD dq v.d nv sv ov
  row : w.ownsRow base 65 1 fv v.fs.length (ptrC qs)
  pile : Pile base (TF base) w SF qs Ss v.fs
  inq : T q
  inr : ∀ g, fv.ownBlock = some g → T g
  ind : ∀ k, SD k → T k
  inf : ∀ k, SF k → T k
  qd : ¬ SD q
  qf : ¬ SF q
  rd : ∀ g, fv.ownBlock = some g → ¬ SD g
  rf : ∀ g, fv.ownBlock = some g → ¬ SF g
  df : ∀ k, SD k → ¬ SF k

/-- Its cells. -/
structure RCells (w : World) (q dq : Nat) (fv : Value) (v : VS) : Prop where
  c0 : w.cell? ⟨q, 0, none⟩ = some (.pointer (some ⟨dq, 0, none⟩))
  c1 : w.cell? ⟨q, 1, none⟩ = some fv
  c2 : w.cell? ⟨q, 2, none⟩ = some (.int .i64 v.room)
  c3 : w.cell? ⟨q, 3, none⟩ = some (.int .i64 v.fuse)
  c4 : w.cell? ⟨q, 4, none⟩ = some (.bool v.armed)
  c5 : w.cell? ⟨q, 5, none⟩ = some (.bool v.dead)
  f1 : w.frozen? ⟨q, 1, none⟩ = false
  f3 : w.frozen? ⟨q, 3, none⟩ = false
  f4 : w.frozen? ⟨q, 4, none⟩ = false
  f5 : w.frozen? ⟨q, 5, none⟩ = false

section
variable {w w0 w' : World} {base q dq : Nat} {T U T0 : Nat → Prop} {v v' : VS} {fv nv sv ov : Value} {SD SF : Nat → Prop} {qs : List Nat} {Ss : List (Nat → Prop)}

theorem rdiskCells (hb : Blk w q 48 (rdiskC dq fv v)) : RCells w q dq fv v :=
  ⟨hb.cell 0, hb.cell 1, hb.cell 2, hb.cell 3, hb.cell 4, hb.cell 5, hb.frozen 1, hb.frozen 3, hb.frozen 4, hb.frozen 5⟩
theorem RV.cells (h : RV w base T q v dq fv nv sv ov SD SF qs Ss) : RCells w q dq fv v := rdiskCells h.blk
theorem RV.qr (h : RV w base T q v dq fv nv sv ov SD SF qs Ss) : fv.ownBlock ≠ some q := own_blk_ne h.row h.blk (by decide)
theorem RV.keep (h : RV w base T q v dq fv nv sv ov SD SF qs Ss) (hc : Chg U w w') (hU : ∀ k, T k → ¬ U k) : RV w' base T q v dq fv nv sv ov SD SF qs Ss :=
  ⟨fun k hk => by have := h.foot k hk; have := hc.size; omega, by have := h.bas; have := hc.size; omega, h.blk.chg hc (hU q h.inq), h.dir.keep hc (fun k hk => hU k (h.ind k hk)), own_chg h.row hc (fun g hg => hU g (h.inr g hg)), h.pile.keep (tfThing base) hc (fun k hk => hU k (h.inf k hk)),
    h.inq, h.inr, h.ind, h.inf, h.qd, h.qf, h.rd, h.rf, h.df⟩
theorem RV.below (h : RV w base T q v dq fv nv sv ov SD SF qs Ss) (hb : Below w.heap.size w w') : RV w' base T q v dq fv nv sv ov SD SF qs Ss := h.keep (Chg.of_below hb (Nat.le_refl _) (fun _ => False)) (fun _ _ h => h)
theorem RV.mono (h : RV w base T q v dq fv nv sv ov SD SF qs Ss) (hT : ∀ k, T k → U k) (hf : ∀ k, U k → base ≤ k ∧ k < w.heap.size) : RV w base U q v dq fv nv sv ov SD SF qs Ss :=
  ⟨hf, h.bas, h.blk, h.dir, h.row, h.pile, hT q h.inq, fun g hg => hT g (h.inr g hg), fun k hk => hT k (h.ind k hk), fun k hk => hT k (h.inf k hk), h.qd, h.qf, h.rd, h.rf, h.df⟩

/-- A disk of the document's that has turned since w0. -/
structure RVT (w0 : World) (T0 : Nat → Prop) (w : World) (base q : Nat) (v : VS) (dq : Nat) (fv nv sv ov : Value) (SD SF : Nat → Prop) (qs : List Nat) (Ss : List (Nat → Prop)) : Prop where
  foot0 : ∀ k, T0 k → base ≤ k ∧ k < w0.heap.size
  bas0 : base ≤ w0.heap.size
  chg : Chg T0 w0 w
  rv : RV w base (grow T0 w0 w) q v dq fv nv sv ov SD SF qs Ss
theorem RVT.start (h : RV w base T q v dq fv nv sv ov SD SF qs Ss) : RVT w T w base q v dq fv nv sv ov SD SF qs Ss :=
  ⟨h.foot, h.bas, Chg.refl _ _, h.mono (fun _ hk => .inl hk) (chg_lt h.foot (Chg.refl T w) h.bas)⟩
theorem RVT.on {w1 : World} {q1 : Nat} {v1 : VS} {dq1 : Nat} {fv1 nv1 sv1 ov1 : Value} {SD1 SF1 : Nat → Prop} {qs1 : List Nat} {Ss1 : List (Nat → Prop)} (h : RVT w0 T0 w base q v dq fv nv sv ov SD SF qs Ss)
    (hc : Chg (grow T0 w0 w) w w1) (hv : RV w1 base (grow (grow T0 w0 w) w w1) q1 v1 dq1 fv1 nv1 sv1 ov1 SD1 SF1 qs1 Ss1) : RVT w0 T0 w1 base q1 v1 dq1 fv1 nv1 sv1 ov1 SD1 SF1 qs1 Ss1 :=
  ⟨h.foot0, h.bas0, chg_grow2 h.chg hc, hv.mono (fun k hk => grow_trans h.chg.size hc.size hk) (chg_lt h.foot0 (chg_grow2 h.chg hc) h.bas0)⟩
theorem RVT.below (h : RVT w0 T0 w base q v dq fv nv sv ov SD SF qs Ss) (hb : Below w.heap.size w w') : RVT w0 T0 w' base q v dq fv nv sv ov SD SF qs Ss :=
  have hc := Chg.of_below hb (Nat.le_refl _) (grow T0 w0 w)
  h.on hc ((h.rv.below hb).mono (fun _ hk => .inl hk) (chg_lt h.rv.foot hc h.rv.bas))
theorem RVT.bel (h : RVT w0 T0 w base q v dq fv nv sv ov SD SF qs Ss) : Below base w0 w := h.chg.below h.bas0 (fun k _ hk => (h.foot0 k hk).1)

/-- Its own block has turned. -/
theorem RV.block (h : RV w base T q v dq fv nv sv ov SD SF qs Ss) (hc : Chg (fun k => k = q) w w') (hb : Blk w' q 48 (rdiskC dq fv v')) (hd : v'.d = v.d) (hf : v'.fs = v.fs) : Chg T w w' ∧ RV w' base (grow T w w') q v' dq fv nv sv ov SD SF qs Ss := by
  have hct : Chg T w w' := hc.mono (fun k _ e => by rw [e]; exact h.inq)
  refine ⟨hct, chg_lt h.foot hct h.bas, by have := h.bas; have := hc.size; omega, hb, by rw [hd]; exact h.dir.keep hc (fun k hk e => h.qd (e ▸ hk)), by rw [hf]; exact own_chg h.row hc (fun g hg e => h.qr (by have e : g = q := e; rw [← e]; exact hg)), by rw [hf]; exact h.pile.keep (tfThing base) hc (fun k hk e => h.qf (e ▸ hk)), .inl h.inq, fun g hg => .inl (h.inr g hg), fun k hk => .inl (h.ind k hk), fun k hk => .inl (h.inf k hk), h.qd, h.qf, h.rd, h.rf, h.df⟩
theorem RVT.block (h : RVT w0 T0 w base q v dq fv nv sv ov SD SF qs Ss) (hc : Chg (fun k => k = q) w w') (hb : Blk w' q 48 (rdiskC dq fv v')) (hd : v'.d = v.d) (hf : v'.fs = v.fs) : RVT w0 T0 w' base q v' dq fv nv sv ov SD SF qs Ss :=
  have ⟨h1, h2⟩ := h.rv.block hc hb hd hf
  h.on h1 h2
/-- Its directory has turned. -/
theorem RV.turnDir {d' : DB} (h : RV w base T q v dq fv nv sv ov SD SF qs Ss) (hd : RDT base SD dq d' w w') : Chg T w w' ∧ ∃ nv' sv' ov', RV w' base (grow T w w') q { v with d := d' } dq fv nv' sv' ov' (grow SD w w') SF qs Ss := by
  obtain ⟨hc, nv', sv', ov', hrd⟩ := hd
  have hct : Chg T w w' := hc.mono (fun k _ hk => h.ind k hk)
  have lt : ∀ k, T k → k < w.heap.size := fun k hk => (h.foot k hk).2
  refine ⟨hct, nv', sv', ov', chg_lt h.foot hct h.bas, by have := h.bas; have := hc.size; omega, h.blk.chg hc h.qd, hrd, own_chg h.row hc h.rd, h.pile.keep (tfThing base) hc (fun k hk hs => h.df k hs hk), .inl h.inq, fun g hg => .inl (h.inr g hg), fun k hk => ?_, fun k hk => .inl (h.inf k hk), fun hk => ?_, h.qf, fun g hg hk => ?_, h.rf, fun k hk hf => ?_⟩
  · rcases hk with hk | hk
    · exact .inl (h.ind k hk)
    · exact .inr hk
  · rcases hk with hk | hk
    · exact h.qd hk
    · have := lt q h.inq; omega
  · rcases hk with hk | hk
    · exact h.rd g hg hk
    · have := lt g (h.inr g hg); omega
  · rcases hk with hk | hk
    · exact h.df k hk hf
    · have := lt k (h.inf k hf); omega
theorem RVT.turnDir {d' : DB} (h : RVT w0 T0 w base q v dq fv nv sv ov SD SF qs Ss) (hd : RDT base SD dq d' w w') : ∃ nv' sv' ov', RVT w0 T0 w' base q { v with d := d' } dq fv nv' sv' ov' (grow SD w w') SF qs Ss :=
  have ⟨h1, nv', sv', ov', h2⟩ := h.rv.turnDir hd
  ⟨nv', sv', ov', h.on h1 h2⟩
/-- One of its files. -/
theorem RV.file (h : RV w base T q v dq fv nv sv ov SD SF qs Ss) {k : Nat} {f : FS} (hf : v.fs[k]? = some f) : ∃ r S a b c xs, qs[k]? = some r ∧ Ss[k]? = some S ∧ RF w base S r f a b c xs ∧ (∀ j, S j → SF j) := by
  obtain ⟨r, S, h1, h2, ⟨a, b, c, xs, h3⟩, h4⟩ := h.pile.get hf
  exact ⟨r, S, a, b, c, xs, h1, h2, h3, h4⟩
/-- One of its files has turned. -/
theorem RV.turnFile (h : RV w base T q v dq fv nv sv ov SD SF qs Ss) {k r : Nat} {S : Nat → Prop} {g : FS} (hq : qs[k]? = some r) (hS : Ss[k]? = some S) (hd : RFT base S r g w w') :
    Chg T w w' ∧ RV w' base (grow T w w') q (v.put (k : Int) g) dq fv nv sv ov SD (grow SF w w') qs (Ss.set k (grow S w w')) := by
  obtain ⟨hc, a, b, c, xs, hrf⟩ := hd
  have hS2 := h.pile.inT k S hS
  have hct : Chg T w w' := hc.mono (fun j _ hj => h.inf j (hS2 j hj))
  have lt : ∀ k, T k → k < w.heap.size := fun k hk => (h.foot k hk).2
  have hp := h.pile.turn (tfThing base) hq hS hc (f := g) ⟨a, b, c, xs, hrf⟩
  have hfs : (v.put (k : Int) g).fs = v.fs.set k g := by unfold VS.put; simp
  refine ⟨hct, chg_lt h.foot hct h.bas, by have := h.bas; have := hc.size; omega, h.blk.chg hc (fun hs => h.qf (hS2 q hs)), h.dir.keep hc (fun j hj hs => h.df j hj (hS2 j hs)), by rw [hfs, List.length_set]; exact own_chg h.row hc (fun g hg hs => h.rf g hg (hS2 g hs)), by rw [hfs]; exact hp, .inl h.inq, fun g hg => .inl (h.inr g hg), fun j hj => .inl (h.ind j hj), fun j hj => ?_, h.qd, fun hk => ?_, h.rd, fun g hg hk => ?_, fun j hj hk => ?_⟩
  · rcases hj with hj | hj
    · exact .inl (h.inf j hj)
    · exact .inr hj
  · rcases hk with hk | hk
    · exact h.qf hk
    · have := lt q h.inq; omega
  · rcases hk with hk | hk
    · exact h.rf g hg hk
    · have := lt g (h.inr g hg); omega
  · rcases hk with hk | hk
    · exact h.df j hj hk
    · have := lt j (h.ind j hj); omega
theorem RVT.turnFile (h : RVT w0 T0 w base q v dq fv nv sv ov SD SF qs Ss) {k r : Nat} {S : Nat → Prop} {g : FS} (hq : qs[k]? = some r) (hS : Ss[k]? = some S) (hd : RFT base S r g w w') : RVT w0 T0 w' base q (v.put (k : Int) g) dq fv nv sv ov SD (grow SF w w') qs (Ss.set k (grow S w w')) :=
  have ⟨h1, h2⟩ := h.rv.turnFile hq hS hd
  h.on h1 h2
/-- The row, as a walk loads it. -/
theorem RV.elem (h : RV w base T q v dq fv nv sv ov SD SF qs Ss) {k : Nat} {f : FS} (hf : v.fs[k]? = some f) : ∃ g n c r S a b d xs, fv = .slice (some ⟨g, 0, none⟩) n c ∧ n = v.fs.length ∧ k < n ∧ n ≤ c ∧ w.cell? ⟨g, k, none⟩ = some (.pointer (some ⟨r, 0, none⟩)) ∧ qs[k]? = some r ∧ Ss[k]? = some S ∧ RF w base S r f a b d xs := by
  obtain ⟨r, S, a, b, d, xs, h1, h2, h3, -⟩ := h.file hf
  have hk := (List.getElem?_eq_some_iff.1 hf).1
  obtain ⟨A, c, rfl, hc1, hc2⟩ := own_form h.row
  obtain ⟨g, cap, hv, -⟩ := h.row.form (by omega)
  injection hv with hv1 _ _
  subst hv1
  have hc := h.row.cells (g := g) rfl k (.pointer (some ⟨r, 0, none⟩)) (by unfold ptrC; rw [List.getElem?_map, h1]; rfl)
  have hpl : (⟨g, 0, none⟩ : Addr).add k = ⟨g, k, none⟩ := by unfold Addr.add; split <;> simp_all
  rw [hpl] at hc
  exact ⟨g, _, c, r, S, a, b, d, xs, rfl, rfl, hk, hc1, hc, h1, h2, h3⟩
end
def RX (w : World) (base : Nat) (T : Nat → Prop) (q : Nat) (v : VS) : Prop := ∃ dq fv nv sv ov SD SF qs Ss, RV w base T q v dq fv nv sv ov SD SF qs Ss
def RXT (w0 : World) (T0 : Nat → Prop) (base q : Nat) (v : VS) (w : World) : Prop := ∃ dq fv nv sv ov SD SF qs Ss, RVT w0 T0 w base q v dq fv nv sv ov SD SF qs Ss
theorem RVT.x {w w0 : World} {base q dq : Nat} {T0 : Nat → Prop} {v : VS} {fv nv sv ov : Value} {SD SF : Nat → Prop} {qs : List Nat} {Ss : List (Nat → Prop)} (h : RVT w0 T0 w base q v dq fv nv sv ov SD SF qs Ss) : RXT w0 T0 base q v w := ⟨_, _, _, _, _, _, _, _, _, h⟩

end Go.Proofs.YtclglbddibjenaaGreat
