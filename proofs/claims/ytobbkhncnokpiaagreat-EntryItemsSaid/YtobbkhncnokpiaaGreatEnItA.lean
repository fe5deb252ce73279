/-
  LAYER 16: what EntryItems asks behind its first loop.
-/
import Derived.Test.YtobbkhncnokpiaaGreatEnItM
import Derived.Test.YtobbkhncnokpiaaGreatEnDoc
import Derived.Test.YtobbkhncnokpiaaGreatEnMore
set_option linter.unusedVariables false
set_option maxRecDepth 100000
set_option linter.unusedSimpArgs false
namespace Go.Proofs.YtobbkhncnokpiaaGreat
open Go.RowKit Go.Shelf

theorem nums_mem {s : ByteArray} {zs : List ByteArray} : nums s ∈ zs.map nums ↔ s ∈ zs := by
  rw [List.mem_map]
  constructor
  · rintro ⟨t, ht, e⟩
    rw [← nums_inj e]; exact ht
  · intro h; exact ⟨s, h, rfl⟩
/-- Where the i-th entry stands. -/
def plO (O : List GO) (i : Nat) : Int := (((O[i]?.map (·.at_)).getD 0 : Nat) : Int)
theorem zip_hav {O : List GO} {l : List RC} (s : ByteArray) (hl : O.length = l.length) : ∀ k, k ≤ l.length →
    (((O.take k).zip ((l.take k).map fun r => r.its.map nums)).filter fun x => decide (nums s ∈ x.2)).map (fun x => (x.1.at_ : Int)) = (havI l s k).map (plO O)
  | 0, _ => by simp [havI]
  | k + 1, hk => by
    have hO : k < O.length := by omega
    have hL : k < l.length := by omega
    have e1 : O.take (k + 1) = O.take k ++ [O[k]] := by rw [List.take_succ_eq_append_getElem hO]
    have e2 : l.take (k + 1) = l.take k ++ [l[k]] := by rw [List.take_succ_eq_append_getElem hL]
    have ih := zip_hav s hl k (by omega)
    have e3 : hasAt l s k = hasB l[k].its s := by unfold hasAt; rw [List.getElem?_eq_getElem hL]
    have e4 : plO O k = (O[k].at_ : Int) := by unfold plO; rw [List.getElem?_eq_getElem hO]; rfl
    rw [e1, e2, List.map_append, List.zip_append (by simp; omega), List.filter_append, List.map_append, ih]
    cases hb : hasB l[k].its s with
    | true =>
      have hm : nums s ∈ l[k].its.map nums := nums_mem.2 ((hasB_iff _ _).1 hb)
      rw [havI_yes (e3.trans hb), List.map_append]
      congr 1
      simp only [List.map_cons, List.map_nil, List.zip_cons_cons, List.zip_nil_right]
      rw [List.filter_cons_of_pos (by simpa using hm), List.filter_nil, List.map_cons, List.map_nil, e4]
    | false =>
      have hm : ¬ nums s ∈ l[k].its.map nums := fun e => by rw [(hasB_iff _ _).2 (nums_mem.1 e)] at hb; cases hb
      rw [havI_no (e3.trans hb)]
      simp only [List.map_cons, List.map_nil, List.zip_cons_cons, List.zip_nil_right]
      rw [List.filter_cons_of_neg (by simpa using hm), List.filter_nil, List.map_nil, List.append_nil]
theorem zip_all {O : List GO} {l : List RC} (s : ByteArray) (hl : O.length = l.length) :
    ((O.zip (l.map fun r => r.its.map nums)).filter fun x => decide (nums s ∈ x.2)).map (fun x => (x.1.at_ : Int)) = (havI l s l.length).map (plO O) := by
  have h := zip_hav s hl l.length (Nat.le_refl _)
  rw [List.take_of_length_le (by omega), List.take_of_length_le (Nat.le_refl _)] at h
  exact h
theorem havI_lt {l : List RC} {s : ByteArray} {k i : Nat} (h : i ∈ havI l s k) : i < k := by
  unfold havI at h
  exact List.mem_range.1 (List.mem_filter.1 h).1
theorem havI_pos {l : List RC} {s : ByteArray} (h : s ∈ itsOf l) : 0 < (havI l s l.length).length := by
  obtain ⟨r, hr, hs⟩ := itsOf_mem.1 h
  obtain ⟨i, hi⟩ := List.getElem?_of_mem hr
  have hil := (List.getElem?_eq_some_iff.1 hi).1
  have hm : i ∈ havI l s l.length := by
    unfold havI
    refine List.mem_filter.2 ⟨List.mem_range.2 hil, ?_⟩
    unfold hasAt; rw [hi]
    exact (hasB_iff _ _).2 hs
  exact List.length_pos_of_mem hm

/-- What is asked of one item: a where its datum stands, want the numbers of the entries that have it. -/
structure AskAt (wr : World) (p : Nat) (A : Option Addr) (m c : Nat) (s : ByteArray) (a : Nat) (want : List Nat) (pl : Nat → Int) : Prop where
  small : a ≤ 1099511627776
  lt : ∀ i, i < want.length → want.getD i 0 < m
  few : want.length ≤ 900
  find : ∀ wx, Below wr.heap.size wr wx → Calls Tryz.prog 24 #[.pointer (some ⟨p, 0, none⟩), .string s] wx fun e w' => e = .returned (.tuple #[.int .i64 a, .bool true]) ∧ Below wx.heap.size wx w'
  having : ∀ wx, Below wr.heap.size wr wx → Calls Tryz.prog 25 #[.slice A m c, .string s] wx fun e w' => ∃ v, e = .returned v ∧ w'.ownsRow wx.heap.size 3 1 v want.length (cellsOf .i64 (ints want)) ∧ Below wx.heap.size wx w'
  count : ∀ wx, Below wr.heap.size wr wx → Calls Tryz.prog 26 #[.pointer (some ⟨p, 0, none⟩), .int .i64 a] wx fun e w' => e = .returned (.int .i64 (want.length : Nat)) ∧ Below wx.heap.size wx w'
  nthE : ∀ i, i < want.length → ∀ wx, Below wr.heap.size wr wx → Calls Tryz.prog 20 #[.pointer (some ⟨p, 0, none⟩), .int .i64 (want.getD i 0 : Nat)] wx fun e w' => e = .returned (.tuple #[.int .u64 (pl i), .bool true]) ∧ Below wx.heap.size wx w'
  nthD : ∀ i, i < want.length → ∀ wx, Below wr.heap.size wr wx → Calls Tryz.prog 27 #[.pointer (some ⟨p, 0, none⟩), .int .i64 a, .int .i64 (i : Nat)] wx fun e w' => e = .returned (.tuple #[.int .u64 (pl i), .bool true]) ∧ Below wx.heap.size wx w'

theorem ItAt.ask {w wr : World} {p m N k : Nat} {v vi : Value} (H : ItAt w wr p v vi m N k) (hk : k ≤ 40) : ∃ A c Ai ci zs, v = .slice A m c ∧ vi = .slice Ai N ci ∧ Txt wr wr.heap.size Ai N ci zs ∧
    (∀ s : ByteArray, s.size ≤ 140737488355328 → ∀ wx, Below wr.heap.size wr wx → Calls Tryz.prog 24 #[.pointer (some ⟨p, 0, none⟩), .string s] wx fun e w' => ∃ a : Nat, e = .returned (.tuple #[.int .i64 a, .bool (hasB zs s)]) ∧ Below wx.heap.size wx w') ∧
    ∀ j, j < N → ∃ a want pl, AskAt wr p A m c (nthT zs j) a want pl := by
  obtain ⟨S, bs, R, O, Lr, l, HS, h1, h2, h3, h4⟩ := H
  subst h1; subst h3
  have hlen := HS.st.len
  obtain ⟨A, c, rfl, hRec⟩ := HS.st.recs
  obtain ⟨Ai, ci, rfl, hci, hcm⟩ := own_form HS.own
  have hexw : ∀ wx, Below wr.heap.size wr wx → EX 3 4 2 wx w.heap.size S p 1048576 bs R O Lr (304 + 700000 * k) 0 := fun wx hb => (HS.st.ed.below hb).toEX
  have hall : ∀ s, s ∈ itsOf l → s.size ≤ 1024 := fun s hs => by
    obtain ⟨r, hr, h⟩ := itsOf_mem.1 hs
    exact HS.st.small r hr s h
  have hT : Txt wr wr.heap.size Ai (itsOf l).length ci (itsOf l) := Txt.of_own HS.own hci hcm (fun s hs => Nat.le_trans (hall s hs) (by decide))
  have hkn : ∀ s, s ∈ itsOf l → (findD R (nums s)).isSome = true := fun s hs => by
    obtain ⟨r, hr, h⟩ := itsOf_mem.1 hs
    exact HS.st.el.known (r.its.map nums) (List.mem_map.2 ⟨r, hr, rfl⟩) _ (nums_mem.2 h)
  refine ⟨A, c, Ai, ci, itsOf l, rfl, rfl, hT, fun s hs wx hb => ?_, fun j hj => ?_⟩
  · have e : (findD R (nums s)).isSome = hasB (itsOf l) s := by
      cases hh : hasB (itsOf l) s with
      | true => exact hkn s ((hasB_iff _ _).1 hh)
      | false =>
        cases hf : (findD R (nums s)).isSome with
        | false => rfl
        | true =>
          obtain ⟨q, hq, hm⟩ := HS.all _ hf
          have := (hasB_iff (itsOf l) s).2 (itsOf_mem.2 ⟨q, hq, nums_mem.1 hm⟩)
          rw [hh] at this; cases this
    have h9 := dfind_ds s (hexw wx hb).toDS hs
    rw [e] at h9
    refine h9.mono ?_
    rintro e w' ⟨rfl, hb'⟩
    exact ⟨_, rfl, hb'⟩
  · have hget : (itsOf l)[j]? = some (nthT (itsOf l) j) := by
      rw [List.getElem?_eq_getElem hj, nthT_get hj]
    have hmem := List.mem_of_getElem? hget
    generalize nthT (itsOf l) j = s at hget hmem
    have hs := hall s hmem
    obtain ⟨a, ha⟩ := Option.isSome_iff_exists.1 (hkn s hmem)
    obtain ⟨jr, r, hr, hri, hra⟩ := findD_at ha
    have hLe : r.L = (havI l s l.length).map (plO O) := by
      rw [HS.st.el.have_ r (List.mem_of_getElem? hr), hri]
      exact zip_all s hlen
    have hLn : r.L.length = (havI l s l.length).length := by rw [hLe, List.length_map]
    have hhl := havI_len l s l.length
    have hpos := havI_pos hmem
    have hlt : ∀ i, i < (havI l s l.length).length → (havI l s l.length).getD i 0 < l.length := fun i hi => by
      rw [List.getD_eq_getElem?_getD, List.getElem?_eq_getElem hi]
      exact havI_lt (List.getElem_mem hi)
    have hdat : ∀ wx, Below wr.heap.size wr wx → ∃ x its Ld, IsDat p a x wx ∧ ListAt wx w.heap.size p S ((a + 48 : Nat) : Int) its Ld ∧ r.L = entsL x Ld ∧ Ld.length ≤ 1000000 := fun wx hb => by
      obtain ⟨x, its, Ld, h5, h6, h7⟩ := (hexw wx hb).toDS.dat hr (by omega)
      rw [hra] at h5 h6
      refine ⟨x, its, Ld, h5, h6, h7, ?_⟩
      unfold entsL at h7
      by_cases hx : x = 0
      · rw [if_pos hx] at h7
        rw [h7] at hLn
        simp at hLn
        omega
      · rw [if_neg hx] at h7
        have := congrArg List.length h7
        rw [List.length_cons] at this
        omega
    have hsm : a ≤ 1099511627776 := by
      obtain ⟨x, its, Ld, h5, -⟩ := hdat wr (Below.refl _ _)
      exact h5.small
    refine ⟨a, havI l s l.length, fun i => plO O ((havI l s l.length).getD i 0), ⟨hsm, hlt, by omega, fun wx hb => ?_, fun wx hb => ?_, fun wx hb => ?_, fun i hi wx hb => ?_, fun i hi wx hb => ?_⟩⟩
    · have h9 := dfind_ds s (hexw wx hb).toDS (by omega)
      rw [ha] at h9
      exact h9
    · exact rhaving_any s wx (hRec.below hb) hb.size (by omega)
    · obtain ⟨x, its, Ld, h5, h6, h7, h8⟩ := hdat wx hb
      have h9 := countD_yes wx h5 h6 h8
      rw [← h7, hLn] at h9
      exact h9
    · have h9 := enth_any (((havI l s l.length).getD i 0 : Nat) : Int) (hexw wx hb) HS.st.el (by omega) (by omega) (by have := hlt i hi; omega)
      have hll : Lr.length = O.length := by rw [HS.st.el.lr, List.length_map]
      obtain ⟨y1, y2⟩ := nth_yes (L := Lr) (q := (havI l s l.length).getD i 0) (by have := hlt i hi; omega)
      rw [y1, y2] at h9
      have e : Lr.getD ((havI l s l.length).getD i 0) 0 = plO O ((havI l s l.length).getD i 0) := by
        have h8 := hlt i hi
        rw [HS.st.el.lr, List.getD_eq_getElem?_getD, List.getElem?_map]
        unfold plO
        rw [List.getElem?_eq_getElem (by omega : (havI l s l.length).getD i 0 < O.length)]
        rfl
      rw [e] at h9
      exact h9
    · obtain ⟨x, its, Ld, h5, h6, h7, h8⟩ := hdat wx hb
      have h9 := nthD_yes (i : Int) wx h5 h6 (by omega) (by omega)
      rw [← h7] at h9
      obtain ⟨y1, y2⟩ := nth_yes (L := r.L) (q := i) (by omega)
      rw [y1, y2] at h9
      have e : r.L.getD i 0 = plO O ((havI l s l.length).getD i 0) := by
        rw [hLe, List.getD_eq_getElem?_getD, List.getElem?_map, List.getD_eq_getElem?_getD, List.getElem?_eq_getElem hi]
        rfl
      rw [e] at h9
      exact h9

end Go.Proofs.YtobbkhncnokpiaaGreat
