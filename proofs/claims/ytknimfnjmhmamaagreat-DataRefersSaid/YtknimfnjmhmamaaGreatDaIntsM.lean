/-
  LAYER 15: what DataInterns holds at the head of each round; what it asks in one.
-/
import Derived.Test.YtknimfnjmhmamaaGreatDaAwake
set_option linter.unusedVariables false
set_option maxRecDepth 100000
set_option linter.unusedSimpArgs false
namespace Go.Proofs.YtknimfnjmhmamaaGreat
open Go.RowKit Go.Shelf

theorem Drew.belowB {B : Nat} {w0 w w' : World} (h : Drew w w') (hb : Below B w0 w) : Below B w0 w' := by
  obtain ⟨n, rfl⟩ := h
  exact below_drewn hb n
theorem Txt.ofDrew {w w' : World} {A : Option Addr} {n c : Nat} {zs : List ByteArray} (h : Txt w w.heap.size A n c zs) (hd : Drew w w') : Txt w' w'.heap.size A n c zs := by
  obtain ⟨k, rfl⟩ := hd
  exact h.drewN k

/-- At the head of each round: the file, and the document's rows. -/
structure ItAt (w wr : World) (S : Nat → Prop) (p : Nat) (R : List DR) (v : Value) (X : List XR) (j : Nat) : Prop where
  ds : DS fldI 3 4 2 wr w.heap.size S p 1048576 R (304 + 1200 * j) (3 * j)
  own : OwnX wr w.heap.size v X
  vS : ∀ g, v.ownBlock = some g → ¬ S g
  like : Like R X
  below : Below w.heap.size w wr
  len : X.length ≤ j
theorem ItAt.more {w wr : World} {S : Nat → Prop} {p : Nat} {R : List DR} {v : Value} {X : List XR} {j : Nat} (H : ItAt w wr S p R v X j) (hj : 3 * (j + 1) ≤ 1000000) : ItAt w wr S p R v X (j + 1) := by
  obtain ⟨⟨m, bv, sv, l, q1, q2, q3, q4, q5, q6, q7, q8⟩, q9, q10⟩ := H.ds
  exact ⟨⟨⟨m, bv, sv, l, q1, q2, q3, q4, q5, by omega, by omega, q8⟩, ⟨q9.1, hj⟩, q10⟩, H.own, H.vS, H.like, H.below, by have := H.len; omega⟩
theorem ItAt.belowW {w wr w' : World} {S : Nat → Prop} {p : Nat} {R : List DR} {v : Value} {X : List XR} {j : Nat} (H : ItAt w wr S p R v X j) (hb : Below wr.heap.size wr w') : ItAt w w' S p R v X j :=
  ⟨H.ds.below hb, H.own.below hb, H.vS, H.like, H.below.trans (hb.mono H.below.size), H.len⟩
/-- What Intern, and the document's, leave. -/
theorem ItAt.next {w wr w2 w3 w4 : World} {S : Nat → Prop} {p a j : Nat} {R : List DR} {v v' : Value} {X : List XR} {s : ByteArray} (H : ItAt w wr S p R v X j) (hc : Chg S wr w2) (hd : DS fldI 3 4 2 w2 w.heap.size (grow S wr w2) p 1048576 (insD R (nums s) a) (304 + 1200 * j + 1200) (3 * j + 3)) (hb3 : Below w2.heap.size w2 w3)
    (ho : OwnX w4 w.heap.size v' (insX X s (a : Int))) (hc4 : Chg (fun k => v.ownBlock = some k) w3 w4) (hm : v'.ownBlock = v.ownBlock ∨ ∃ g, v'.ownBlock = some g ∧ w3.heap.size ≤ g) : ItAt w w4 (grow S wr w2) p (insD R (nums s) a) v' (insX X s (a : Int)) (j + 1) := by
  have hvl : ∀ g, v.ownBlock = some g → ¬ S g ∧ g < wr.heap.size ∧ w.heap.size ≤ g := fun g hg => ⟨H.vS g hg, (H.own.own.lt g hg).2, (H.own.own.lt g hg).1⟩
  have hs2 := hc.size
  have hs3 := hb3.size
  have hB2 := H.below.trans (hc.below H.below.size (fun q _ hq => (H.ds.foot q hq).1))
  have hB3 := hB2.trans (hb3.mono hB2.size)
  refine ⟨(hd.below hb3).keep hc4 (fun q hq e => ?_), ho, fun g hg e => ?_, H.like.ins s a, hB3.trans (hc4.below hB3.size (fun q _ e => (hvl q e).2.2)), ?_⟩
  · have := hvl q e
    rcases hq with hq | hq
    · exact this.1 hq
    · omega
  · rcases hm with hm | ⟨g', hm, hg'⟩
    · have := hvl g (by rw [← hm]; exact hg)
      rcases e with e | e
      · exact this.1 e
      · omega
    · rw [hm] at hg; injection hg with hg; subst hg
      rcases e with e | e
      · have := (H.ds.foot _ e).2; omega
      · omega
  · unfold insX
    have := H.len
    split
    · omega
    · rw [List.length_append]; simp; omega

/-- A row, and what the file tells of it. -/
structure RowAt (w4 : World) (p : Nat) (k gr off : Nat) (s : ByteArray) (a : Nat) : Prop where
  small : s.size ≤ 100000 ∧ a ≤ 1099511627776
  cell : ∀ wx, Below w4.heap.size w4 wx → wx.cell? ⟨gr, off + k * 3, none⟩ = some (.string s) ∧ wx.cell? ⟨gr, off + k * 3 + 1, none⟩ = some (.int .i64 (a : Nat))
  find : ∀ wx, Below w4.heap.size w4 wx → Calls Tryz.prog 38 #[.pointer (some ⟨p, 0, none⟩), .string s] wx fun e w' => e = .returned (.tuple #[.int .i64 (a : Nat), .bool true]) ∧ Below wx.heap.size wx w'
  told : ∀ wx, Below w4.heap.size w4 wx → Calls Tryz.prog 55 #[.pointer (some ⟨p, 0, none⟩), .int .u64 (a : Nat), .int .i64 1] wx fun e w' => ∃ A1 n1 c1 A2 n2 c2 A3 n3 c3, e = .returned (.tuple #[.agg #[.int .i64 1, .slice A1 n1 c1, .slice A2 n2 c2, .slice A3 n3 c3], .bool true]) ∧ Below wx.heap.size wx w' ∧ Reads w' w'.heap.size 1 A2 n2 (cellsOf .u8 (nums s))
theorem Like.get {R : List DR} {X : List XR} (h : Like R X) {k : Nat} {r : XR} (hr : X[k]? = some r) : ∃ q, R[k]? = some q ∧ q.item = nums r.item ∧ (q.at_ : Int) = r.at_ := by
  have e := congrArg (fun l => l[k]?) h
  simp only [List.getElem?_map, hr, Option.map_some] at e
  obtain ⟨q, h1, h2⟩ := Option.map_eq_some_iff.1 e
  injection h2 with h2 h3
  exact ⟨q, h1, h2, h3⟩
theorem ItAt.row {w w4 : World} {S : Nat → Prop} {p j k : Nat} {R : List DR} {A' : Option Addr} {c' N : Nat} {X : List XR} (H : ItAt w w4 S p R (.slice A' N c') X j) (hN : N = X.length) (hk : k < N) :
    ∃ gr off s a, A' = some ⟨gr, off, none⟩ ∧ RowAt w4 p k gr off s a := by
  subst hN
  obtain ⟨A2, c2, e, hR⟩ := H.own.rows
  injection e with e1 e2 e3
  subst e1; subst e3
  obtain ⟨gr, off, r, rfl, hb, hr, q0, q1, -⟩ := hR.at_ hk
  obtain ⟨q, hq, h1, h2⟩ := H.like.get hr
  have hfine := hR.fine r (List.mem_of_getElem? hr)
  obtain ⟨⟨m, bv, sv, l, HX, D, hRw, hbm, -⟩, hsm, hky⟩ := H.ds
  obtain ⟨o, -, ho, hok, horaw, hoat, -⟩ := hRw.obj hq
  have hmem := D.findG_mem ho hok
  rw [horaw, h1, hoat] at hmem
  have hmost := D.gb.most
  have hfit := (D.gb.fine o ho).2.2
  refine ⟨gr, off, r.item, q.at_, rfl, ⟨hfine, by omega⟩, fun wx hx => ⟨(hx.cell (p := ⟨gr, off + k * 3, none⟩) hb).trans q0, by rw [h2]; exact (hx.cell (p := ⟨gr, off + k * 3 + 1, none⟩) hb).trans q1⟩, fun wx hx => ?_, fun wx hx => ?_⟩
  · have h9 := dfind_any r.item wx D (HX.below hx) hbm hky (by omega)
    rw [hmem] at h9
    exact h9
  · obtain ⟨s, hth, e1, e2, e3⟩ := D.obAt ho
    have hth' : m.there 4 2 q.at_ o.k s := by rw [← hoat]; exact hth
    have h9 := iat_yes q.at_ o.k s wx (HX.below hx) hbm hmost (by decide) (by decide) hth'
    rw [hok] at h9
    refine h9.mono ?_
    rintro e w2 ⟨A1, n1, c1', A2, n2, c2', A3, n3, c3', rfl, hb2, hown⟩
    refine ⟨A1, n1, c1', A2, n2, c2', A3, n3, c3', rfl, hb2, ?_⟩
    have h8 := hown.reads.rr
    have e4 : dR (objB m.b q.at_ s) ((1 : Nat) : Int) = nums r.item := by
      rw [← h1, ← horaw, ← hoat, ← hok]; exact e2
    rw [← e4]
    exact h8

end Go.Proofs.YtknimfnjmhmamaaGreat
