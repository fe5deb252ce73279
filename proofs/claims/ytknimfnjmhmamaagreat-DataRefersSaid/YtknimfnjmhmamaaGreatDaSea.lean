/-
  LAYER 15: the document's Search; what a row with its list tells, and the file of it.
-/
import Derived.Test.YtknimfnjmhmamaaGreatDaRefL
set_option linter.unusedVariables false
set_option maxRecDepth 100000
set_option linter.unusedSimpArgs false
namespace Go.Proofs.YtknimfnjmhmamaaGreat
open Go.RowKit Go.Shelf

theorem rsearchD_any {B : Nat} (A : Option Addr) (n c : Nat) (L : List Int) (place : Int) (w : World) (hr : Reads w B 1 A n (cellsOf .u64 L)) (hn : n ≤ 140737488355328) :
    Calls Tryz.prog 15 #[.slice A n c, .int .u64 place] w fun e w' => e = .returned (.int .i64 (firstY (geQ place) L : Nat)) ∧ w = w' := by
  have hl := hr.len
  go_enter Tryz.func15, Tryz.ntmps15
  go_wp2
  go_loopw [5] (fun i wr => ∃ k : Nat, k ≤ n ∧ i = .int .i64 k ∧ wr = w ∧ Hid (k ≤ firstY (geQ place) L)) (fun i _ => n - (intOf i).toNat)
  case atStart => exact ⟨0, Nat.zero_le _, rfl, rfl, Lib.hid (Nat.zero_le _)⟩
  case round =>
    obtain ⟨k, hk, rfl, rfl, hpl⟩ := hrel
    by_cases hlt : k < n
    · obtain ⟨b1, o1, rfl, _, h1⟩ := hr.plain (by omega)
      have q1 := h1 k hlt
      obtain ⟨x, hx⟩ : ∃ x, L.getD k 0 = x := ⟨_, rfl⟩
      rw [hx] at q1
      have i1 : (k : Int) < (n : Int) := by omega
      by_cases hge : place ≤ x
      · have HE : Hid (firstY (geQ place) L = k) := Lib.hid (by
          have h9 := hpl.out
          rcases Nat.lt_or_ge k (firstY (geQ place) L) with h | h
          · have := firstY_no h
            rw [hx] at this
            simp [geQ, hge] at this
          · omega)
        clear h1 hr hx hl hpl
        go_wp2
        go_ret
        exact ⟨by rw [HE.out]; rfl, rfl⟩
      · have HE : Hid (k + 1 ≤ firstY (geQ place) L) := Lib.hid (by
          have h9 := hpl.out
          rcases Nat.lt_or_ge k (firstY (geQ place) L) with h | h
          · exact h
          · have e : firstY (geQ place) L = k := by omega
            have := firstY_at (q := geQ place) (L := L) (by omega)
            rw [e, hx] at this
            exact absurd (of_decide_eq_true this) hge)
        clear h1 hr hx hl hpl
        go_wp2
        go_roundw
        case rel => exact ⟨k + 1, by omega, by go_num, by first | rfl | trivial, HE⟩
        case measure => simp [intOf]; omega
    · have e : k = n := by omega
      have HE : Hid (firstY (geQ place) L = n) := Lib.hid (by
        have h9 := hpl.out
        have := firstY_le (geQ place) L
        omega)
      subst e
      clear hr hl hpl
      go_wp2
      go_ret
      exact ⟨by rw [HE.out]; rfl, rfl⟩

/-- The cells of a row. -/
theorem OwnX.cellsAt {w : World} {base c i : Nat} {A : Option Addr} {X : List XR} {x : XR} (h : OwnX w base (.slice A X.length c) X) (hx : X[i]? = some x) :
    ∃ gr, A = some ⟨gr, 0, none⟩ ∧ base ≤ gr ∧ gr < w.heap.size ∧ w.cell? ⟨gr, i * 3 + 1, none⟩ = some (.int .i64 x.at_) ∧ w.cell? ⟨gr, i * 3 + 2, none⟩ = some x.v ∧ w.frozen? ⟨gr, i * 3 + 2, none⟩ = false := by
  have hi := (List.getElem?_eq_some_iff.1 hx).1
  obtain ⟨gr, cur, rfl, hb, hblk, hnc, hcm, hcl, hct⟩ := row_open h.own (by omega)
  obtain ⟨-, h2, h3⟩ := cellsX_at X i x hx
  have g : ∀ k, k < X.length * 3 → cur.toArray[k]? = (cellsX X)[k]? := fun k hk => by
    rw [← hct, List.getElem?_take_of_lt hk]; simp
  exact ⟨gr, rfl, hb, hblk.lt, (hblk.cell _).trans ((g _ (by omega)).trans h2), (hblk.cell _).trans ((g _ (by omega)).trans h3), hblk.frozen _⟩
/-- The rows, ahead of the store. -/
theorem RtAt.mid {w wr w2 w3 : World} {S : Nat → Prop} {p t i c' : Nat} {R : List DR} {A' : Option Addr} {X : List XR} {y : Int} {r : DR} {x : XR} {tmp : Obj} (H : RtAt w wr S p R (.slice A' X.length c') X y t) (hr : R[i]? = some r) (hx : X[i]? = some x)
    (hc : Chg S wr w2) (hg1 : (w2.alloc tmp).grownBy w3 x.v.ownBlock) : OwnX w3 w.heap.size (.slice A' X.length c') X := by
  have hxo := own_chg (H.xl.each i x r hx hr) hc (fun g hg => H.xS i x g hx hg)
  have h2 := H.own.chg hc H.vS
  exact h2.chg (grown_chg1 hg1) (fun g hg e => own_ne hxo h2.own (by decide) g e hg)

/-- What a row with its list tells, and the file of it. -/
structure RowLAt (w4 : World) (p k gr a : Nat) (AL : Option Addr) (nL cL : Nat) (L : List Int) : Prop where
  small : a ≤ 1099511627776 ∧ nL = L.length ∧ nL ≤ 1000
  cell : ∀ wx, Below w4.heap.size w4 wx → wx.cell? ⟨gr, k * 3 + 1, none⟩ = some (.int .i64 (a : Nat)) ∧ wx.cell? ⟨gr, k * 3 + 2, none⟩ = some (.slice AL nL cL)
  reads : ∀ wx, Below w4.heap.size w4 wx → Reads wx w4.heap.size 1 AL nL (cellsOf .u64 L)
  nth : ∀ (n : Int) wx, -9223372036854775808 ≤ n → n ≤ 9223372036854775807 → Below w4.heap.size w4 wx → Calls Tryz.prog 10 #[.pointer (some ⟨p, 0, none⟩), .int .i64 a, .int .i64 n] wx fun e w' => e = .returned (.tuple #[.int .u64 (nthV L n), .bool (nthQ L n)]) ∧ Below wx.heap.size wx w'
  ents : ∀ wx, Below w4.heap.size w4 wx → Calls Tryz.prog 12 #[.pointer (some ⟨p, 0, none⟩), .int .i64 a] wx fun e w' => ∃ A2 c2, e = .returned (.slice A2 L.length c2) ∧ Reads w' w'.heap.size 1 A2 L.length (cellsOf .u64 L) ∧ Below wx.heap.size wx w'
  count : ∀ wx, Below w4.heap.size w4 wx → Calls Tryz.prog 13 #[.pointer (some ⟨p, 0, none⟩), .int .i64 a] wx fun e w' => e = .returned (.int .i64 (L.length : Nat)) ∧ Below wx.heap.size wx w'
  search : ∀ (place : Int) wx, Below w4.heap.size w4 wx → Calls Tryz.prog 14 #[.pointer (some ⟨p, 0, none⟩), .int .i64 a, .int .u64 place] wx fun e w' => e = .returned (.int .i64 (firstY (geQ place) L : Nat)) ∧ Below wx.heap.size wx w'
/-- Count and Search at a place without a list. -/
theorem countD_zero (p a : Nat) (w : World) (h : IsDat p a 0 w) :
    Calls Tryz.prog 13 #[.pointer (some ⟨p, 0, none⟩), .int .i64 a] w fun e w' => e = .returned (.int .i64 (0 : Nat)) ∧ Below w.heap.size w w' := by
  have FI := Lib.hid (firstD_yes p a 0 w h)
  clear h
  go_enter Tryz.func13, Tryz.ntmps13
  go_wp2_with (go_at_call 31; refine FI.out.mono ?_; rintro e w1 ⟨rfl, hb1⟩)
  go_ret
  exact ⟨rfl, hb1⟩
theorem searchD_zero (p a : Nat) (place : Int) (w : World) (h : IsDat p a 0 w) :
    Calls Tryz.prog 14 #[.pointer (some ⟨p, 0, none⟩), .int .i64 a, .int .u64 place] w fun e w' => e = .returned (.int .i64 (0 : Nat)) ∧ Below w.heap.size w w' := by
  have hb := boxed w (.cells #[.int .u64 place] 24)
  have FI := Lib.hid (firstD_yes p a 0 _ (h.below hb))
  have HB := Lib.hid hb
  clear h hb
  go_enter Tryz.func14, Tryz.ntmps14
  go_wp2_with (go_at_call 31; refine FI.out.mono ?_; rintro e w1 ⟨rfl, hb1⟩)
  go_ret
  exact ⟨rfl, HB.out.trans (hb1.mono HB.out.size)⟩

theorem RtAt.row {w w4 : World} {S : Nat → Prop} {p t k c' N : Nat} {R : List DR} {A' : Option Addr} {X : List XR} {y : Int} (H : RtAt w w4 S p R (.slice A' N c') X y t) (hN : N = X.length) (hk : k < N) (ht : t ≤ 1000) :
    ∃ gr a AL nL cL L, A' = some ⟨gr, 0, none⟩ ∧ RowLAt w4 p k gr a AL nL cL L := by
  subst hN
  have hx : X[k]? = some X[k] := List.getElem?_eq_getElem hk
  obtain ⟨gr, rfl, hb, hgl, q1, q2, -⟩ := H.own.cellsAt hx
  obtain ⟨r, hr, h1, h2⟩ := H.like.get hx
  have hrm := List.mem_of_getElem? hr
  have hlen := H.up.len r hrm
  have hown := H.xl.each k _ r hx hr
  obtain ⟨AL, cL, hv, hAl, hcm, hrd⟩ := own_reads hown
  obtain ⟨x, its, Ld, hID, hLA, hLE⟩ := H.ds.dat hr (by omega)
  have hrise := H.up.rise r hrm
  have hll : (entsL x Ld).length = r.L.length := by rw [hLE]
  have hLd : Ld.length ≤ 1000000 ∧ Ld.Pairwise (· ≤ ·) ∨ x = 0 := by
    by_cases hx0 : x = 0
    · exact .inr hx0
    · left
      rw [hLE, entsL, if_neg hx0] at hrise hlen
      rw [List.length_cons] at hlen
      exact ⟨by omega, (List.pairwise_cons.1 hrise).2⟩
  rw [← h2] at q1
  rw [hv] at q2
  refine ⟨gr, r.at_, AL, r.L.length, cL, r.L, rfl, ⟨hID.small, rfl, by omega⟩, fun wx hx => ⟨(hx.cell (p := ⟨gr, k * 3 + 1, none⟩) hgl).trans q1, (hx.cell (p := ⟨gr, k * 3 + 2, none⟩) hgl).trans q2⟩, fun wx hx => hrd.below hx, fun n wx hn0 hn1 hx => ?_, fun wx hx => ?_, fun wx hx => ?_, fun place wx hx => ?_⟩
  · rw [hLE]
    exact nthD_yes n wx (hID.below hx) (hLA.below hx) hn0 hn1
  · rw [hLE]
    refine (lentries_yes wx (hID.below hx) (hLA.below hx) (by rw [hll]; omega)).mono ?_
    rintro e w' ⟨v, rfl, ho, hb2⟩
    obtain ⟨A2, c2, rfl, -, -⟩ := own_form ho
    exact ⟨A2, c2, rfl, Reads.of_own ho, hb2⟩
  · rw [hLE]
    rcases hLd with h9 | h9
    · exact countD_yes wx (hID.below hx) (hLA.below hx) h9.1
    · subst h9
      have e1 : entsL 0 Ld = [] := if_pos rfl
      rw [e1]
      exact countD_zero p r.at_ wx (hID.below hx)
  · rw [hLE]
    rcases hLd with h9 | h9
    · exact searchD_yes place wx (hID.below hx) (hLA.below hx) (monoY_rise h9.2) h9.1
    · subst h9
      have e1 : firstY (geQ place) (entsL 0 Ld) = 0 := by rw [entsL, if_pos rfl]; rfl
      rw [e1]
      exact searchD_zero p r.at_ place wx (hID.below hx)

end Go.Proofs.YtknimfnjmhmamaaGreat
