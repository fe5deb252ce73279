/-
  LAYER 15: what a round of DataRefers is told: of the row that gets an entry, and what it leaves.
-/
import Derived.Test.YtknimfnjmhmamaaGreatDaSea
set_option linter.unusedVariables false
set_option maxRecDepth 100000
set_option linter.unusedSimpArgs false
namespace Go.Proofs.YtknimfnjmhmamaaGreat
open Go.RowKit Go.Shelf

/-- The head of each round of the entries: the file and the rows, so many rounds in. -/
structure RfAt (w wr : World) (p N : Nat) (A' : Option Addr) (c' : Nat) (y : Int) (t : Nat) : Prop where
  ex : ∃ (S : Nat → Prop) (R : List DR) (X : List XR), RtAt w wr S p R (.slice A' N c') X y t ∧ N = X.length
  y0 : 0 ≤ y ∧ y ≤ 600000 * (t : Int)
theorem RfAt.belowW {w wr w' : World} {p N t c' : Nat} {A' : Option Addr} {y : Int} (H : RfAt w wr p N A' c' y t) (hb : Below wr.heap.size wr w') : RfAt w w' p N A' c' y t := by
  obtain ⟨⟨S, R, X, h, hN⟩, hy⟩ := H
  exact ⟨⟨S, R, X, h.belowW hb, hN⟩, hy⟩
theorem RfAt.below {w wr : World} {p N t c' : Nat} {A' : Option Addr} {y : Int} (H : RfAt w wr p N A' c' y t) : Below w.heap.size w wr := by
  obtain ⟨⟨S, R, X, h, hN⟩, hy⟩ := H
  exact h.below
theorem RfAt.len {w wr : World} {p N t c' : Nat} {A' : Option Addr} {y : Int} (H : RfAt w wr p N A' c' y t) : N ≤ 10 := by
  obtain ⟨⟨S, R, X, h, hN⟩, hy⟩ := H
  have := h.len
  omega
theorem RfAt.notD {w wr : World} {p N t c' : Nat} {A' : Option Addr} {y : Int} (H : RfAt w wr p N A' c' y t) (at_ pl : Int) (hpl : IntKind.u64.wrap at_ = pl) (h0 : 0 ≤ pl) (hp : pl < 256 ∨ 1099511627776 ≤ pl) : NotD p at_ wr := by
  obtain ⟨⟨S, R, X, h, hN⟩, hy⟩ := H
  exact h.ds.notD at_ pl hpl h0 hp
theorem RfAt.row {w wr : World} {p N k t c' : Nat} {A' : Option Addr} {y : Int} (H : RfAt w wr p N A' c' y t) (hk : k < N) (ht : t ≤ 1000) :
    ∃ gr a AL nL cL L, A' = some ⟨gr, 0, none⟩ ∧ RowLAt wr p k gr a AL nL cL L := by
  obtain ⟨⟨S, R, X, h, hN⟩, hy⟩ := H
  exact h.row hN hk ht

/-- What Refer leaves of one row, as the round goes on. -/
structure RfPush (w wr w2 : World) (p i N t gr : Nat) (A' : Option Addr) (c' : Nat) (Ax : Option Addr) (nx cx : Nat) (zs : List Int) (z : Int) : Prop where
  base : w.heap.size ≤ w2.heap.size
  cell : ∀ wx, Below w2.heap.size w2 wx → wx.cell? ⟨gr, i * 3 + 2, none⟩ = some (.slice Ax nx cx)
  row : w2.ownsRow w.heap.size 24 1 (.slice Ax nx cx) nx (cellsOf .u64 zs)
  late : ∀ (tmp : Obj) (w3 : World), (w2.alloc tmp).grownBy w3 (Value.slice Ax nx cx).ownBlock → w3.cell? ⟨gr, i * 3 + 2, none⟩ = some (.slice Ax nx cx) ∧ w3.frozen? ⟨gr, i * 3 + 2, none⟩ = false
  done : ∀ (tmp : Obj) (w3 : World) (v1 : Value), w3.ownsRow w.heap.size 24 1 v1 (nx + 1) (cellsOf .u64 zs ++ [.int .u64 z]) → (w2.alloc tmp).grownBy w3 (Value.slice Ax nx cx).ownBlock → (v1.ownBlock = (Value.slice Ax nx cx).ownBlock ∨ v1.ownBlock = some (w2.alloc tmp).heap.size) → RfAt w (w3.setCell ⟨gr, i * 3 + 2, none⟩ v1) p N A' c' z (t + 1)
theorem RfAt.push {w wr : World} {p N i t c' : Nat} {A' : Option Addr} {y : Int} (H : RfAt w wr p N A' c' y t) (hi : i < N) (ht : t ≤ 100) (z : Int) (hz : y + 8 ≤ z) (hz2 : z ≤ 600000 * ((t + 1 : Nat) : Int)) :
    ∃ gr a Ax nx cx zs, A' = some ⟨gr, 0, none⟩ ∧ nx ≤ 1000 ∧ wr.cell? ⟨gr, i * 3 + 1, none⟩ = some (.int .i64 (a : Nat)) ∧
      Calls Tryz.prog 9 #[.pointer (some ⟨p, 0, none⟩), .int .i64 (a : Nat), .int .u64 z] wr fun e w2 => e = .returned (.int .i64 0) ∧ Hid (RfPush w wr w2 p i N t gr A' c' Ax nx cx zs z) := by
  obtain ⟨⟨S, R, X, h, hN⟩, hy0, hy1⟩ := H
  subst hN
  have hx : X[i]? = some X[i] := List.getElem?_eq_getElem hi
  obtain ⟨x, hxe⟩ : ∃ x, X[i] = x := ⟨_, rfl⟩
  rw [hxe] at hx
  clear hxe
  obtain ⟨gr, rfl, hb, hgl, q1, q2, -⟩ := h.own.cellsAt hx
  obtain ⟨r, hr, h1, h2⟩ := h.like.get hx
  have hrm := List.mem_of_getElem? hr
  have hlen := h.up.len r hrm
  have hown := h.xl.each i x r hx hr
  obtain ⟨Ax, cx, hv, -, -, -⟩ := own_reads hown
  have hu : IsU z := by unfold IsU; omega
  refine ⟨gr, r.at_, Ax, r.L.length, cx, r.L, rfl, by omega, by rw [h2]; exact q1, ?_⟩
  refine (refer_ds h.ds hr z hu (by omega) (by omega) (by omega) (by omega)).mono ?_
  rintro e w2 ⟨rfl, hc, hd⟩
  refine ⟨rfl, Lib.hid ?_⟩
  have hs2 := hc.size
  have hbs := h.below.size
  obtain ⟨gr2, e2, -, hgl2, -, p2, -⟩ := (h.own.chg hc h.vS).cellsAt hx
  injection e2 with e2
  injection e2 with e2
  subst e2
  refine ⟨by omega, fun wx hx => (hx.cell (p := ⟨gr, i * 3 + 2, none⟩) hgl2).trans (by rw [p2, hv]), ?_, fun tmp w3 hg => ?_, fun tmp w3 v1 ho hg hat => ?_⟩
  · have h9 := own_chg hown hc (fun g hg => h.xS i x g hx hg)
    rw [hv] at h9
    exact h9
  · rw [← hv] at hg
    obtain ⟨gr3, e3, -, -, -, p3, p4⟩ := (h.mid hr hx hc hg).cellsAt hx
    injection e3 with e3
    injection e3 with e3
    subst e3
    exact ⟨by rw [p3, hv], p4⟩
  · rw [← hv] at hg hat
    have h9 := h.push hr hx rfl (by omega) hu hc hd ho hg hat
    have hl : (X.set i { x with v := v1 }).length = X.length := List.length_set ..
    rw [hl] at h9
    exact ⟨⟨_, _, _, h9, hl.symm⟩, by omega, hz2⟩

/-- The head of each round of the items: the rows have no entries. -/
structure RfIn (w wr : World) (p N : Nat) (A' : Option Addr) (c' : Nat) (j : Nat) : Prop where
  ex : ∃ (S : Nat → Prop) (R : List DR) (X : List XR), ItAt w wr S p R (.slice A' N c') X j ∧ N = X.length ∧ (∀ x ∈ X, x.v = .slice none 0 0) ∧ (∀ r ∈ R, r.L = [])
theorem RfIn.below {w wr : World} {p N j c' : Nat} {A' : Option Addr} (H : RfIn w wr p N A' c' j) : Below w.heap.size w wr := by
  obtain ⟨S, R, X, h, hN, -⟩ := H
  exact h.below
theorem RfIn.len {w wr : World} {p N j c' : Nat} {A' : Option Addr} (H : RfIn w wr p N A' c' j) : N ≤ j := by
  obtain ⟨S, R, X, h, hN, -⟩ := H
  have := h.len
  omega
theorem RfIn.begin {w wr : World} {p N j c' : Nat} {A' : Option Addr} (H : RfIn w wr p N A' c' j) (hj : j ≤ 10) : RfAt w wr p N A' c' 0 0 := by
  obtain ⟨S, R, X, h, hN, hX, hR⟩ := H
  exact ⟨⟨S, R, X, h.begin hj hX hR, hN⟩, by omega, by omega⟩
theorem RfIn.intern {w wr : World} {p N j c' : Nat} {A' : Option Addr} (s : ByteArray) (H : RfIn w wr p N A' c' j) (hj : j ≤ 10) (ho : spOk s = true) (hs : s.size ≤ 200) :
    Calls Tryz.prog 7 #[.pointer (some ⟨p, 0, none⟩), .string s] wr fun e w1 => ∃ a : Nat, e = .returned (.tuple #[.int .i64 (a : Nat), .int .i64 0]) ∧ Below w.heap.size w w1 ∧
      Hid (∀ wx, Below w1.heap.size w1 wx → Calls Tryz.prog 8 #[.slice A' N c', .string s, .int .i64 (a : Nat)] wx fun e w4 => ∃ A4 N4 c4, e = .returned (.slice A4 N4 c4) ∧ Below w.heap.size w w4 ∧ Hid (RfIn w w4 p N4 A4 c4 (j + 1))) := by
  obtain ⟨S, R, X, h, hN, hX, hR⟩ := H
  have hln := h.len
  refine (dintern_ds s h.ds (by omega) ho (by omega) (by omega)).mono ?_
  rintro e w1 ⟨a, rfl, ha, hc1, hd1, hf1⟩
  have hB1 := h.below.trans (hc1.below h.below.size (fun q _ hq => (h.ds.foot q hq).1))
  refine ⟨a, rfl, hB1, Lib.hid fun wx hx => ?_⟩
  have hbs := hB1.size
  have hxs := hx.size
  refine (rintern_any s (a : Int) wx ((h.own.chg hc1 h.vS).below hx) (by omega) (by omega) (by omega)).mono ?_
  rintro e w4 ⟨v', rfl, ho4, hc4, hm4⟩
  obtain ⟨A4, c4, hv4, -, -⟩ := own_form ho4.own
  subst hv4
  have h4 := h.next hc1 hd1 hx ho4 hc4 hm4
  exact ⟨A4, _, c4, rfl, h4.below, Lib.hid ⟨_, _, _, h4, rfl, insX_nil hX, insD_nil hR⟩⟩

end Go.Proofs.YtknimfnjmhmamaaGreat
