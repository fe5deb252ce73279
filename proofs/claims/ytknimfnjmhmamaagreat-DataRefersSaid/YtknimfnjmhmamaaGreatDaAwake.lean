/-
  LAYER 15: the example that the statements share.
-/
import Derived.Test.YtknimfnjmhmamaaGreatDaState
set_option linter.unusedVariables false
set_option maxRecDepth 100000
set_option linter.unusedSimpArgs false
namespace Go.Proofs.YtknimfnjmhmamaaGreat
open Go.RowKit Go.Shelf

section
variable {H : Type} {enc : TypeId × Value → H} {w : World}
theorem view_strs {A : Option Addr} {len cap : Nat} {d : DataW H} {p : List MemPlace} (h : DataW.Trod enc Tryz.prog w 0 (fun _ => true) true 22 (.slice A len cap) d p) : ∃ zs, Txt w w.heap.size A len cap zs :=
  view_txt Tryz.underlying22 Tryz.underlying9 (by kernel_rfl) h
end

def sA : ByteArray := ⟨#[65]⟩
def sA1 : ByteArray := ⟨#[65, 61, 49]⟩
def sB2 : ByteArray := ⟨#[66, 61, 50]⟩
def sA3 : ByteArray := ⟨#[65, 61, 51]⟩
theorem findD_none {R : List DR} {z : List Int} (h : z ∉ R.map (·.item)) : findD R z = none := by
  unfold findD
  rw [List.find?_eq_none.2 (fun r hr h2 => h (List.mem_map.2 ⟨r, hr, by simpa using h2⟩))]
  rfl
theorem insD_items {R : List DR} {z : List Int} {a : Nat} (h : z ∉ R.map (·.item)) : (insD R z a).map (·.item) = R.map (·.item) ++ [z] := by
  unfold insD
  rw [findD_none h, List.map_append]; rfl
theorem valsD_items (R : List DR) (fs : List Int) : valsD R fs = ((R.map (·.item)).filter (fun z => fldI z == fs)).map strOfNums := by
  unfold valsD
  rw [List.filter_map, List.map_map]
  rfl
theorem vals_ex {R : List DR} (h : R.map (·.item) = [nums sA1, nums sB2, nums sA3]) : valsD R (nums sA) = [sA1, sA3] := by
  rw [valsD_items, h]
  have e1 : (fldI (nums sA1) == nums sA) = true := by rw [fldI_nums]; kernel_rfl
  have e2 : ¬ (fldI (nums sB2) == nums sA) = true := by rw [fldI_nums]; rw [Bool.not_eq_true]; kernel_rfl
  have e3 : (fldI (nums sA3) == nums sA) = true := by rw [fldI_nums]; kernel_rfl
  rw [List.filter_cons_of_pos (p := fun z => fldI z == nums sA) e1, List.filter_cons_of_neg (p := fun z => fldI z == nums sA) e2, List.filter_cons_of_pos (p := fun z => fldI z == nums sA) e3, List.filter_nil]
  simp [str_nums]
theorem txt_two (w : World) (t : TypeId) (a b : ByteArray) (ha : a.size ≤ maxLen) (hb : b.size ≤ maxLen) : Txt (w.alloc (.cells #[.string a, .string b] t)) (w.heap.size + 1) (some ⟨w.heap.size, 0, none⟩) 2 2 [a, b] :=
  ⟨Reads.newN w t #[.string a, .string b], Nat.le_refl _, by omega, fun s hs => by
    rcases List.mem_cons.1 hs with rfl | hs
    · exact ha
    · rw [List.mem_singleton.1 hs]; exact hb⟩

/-- At the head of each round. -/
structure AwAt (w wr : World) (S : Nat → Prop) (p b : Nat) (R : List DR) (j : Nat) : Prop where
  ds : DS fldI 3 4 2 wr w.heap.size S p 5000 R (304 + 1200 * j) (3 * j)
  nb : ∀ q, S q → q ≠ b
  below : Below w.heap.size w wr
  blk : Blk wr b 9 #[.string sA1, .string sB2, .string sA3]
  low : w.heap.size ≤ b
  items : R.map (·.item) = ([nums sA1, nums sB2, nums sA3] : List (List Int)).take j
theorem AwAt.next {w wr w2 : World} {S : Nat → Prop} {p b j a : Nat} {R : List DR} {s : ByteArray} (H : AwAt w wr S p b R j) (hs : nums s ∉ R.map (·.item)) (hn : ([nums sA1, nums sB2, nums sA3] : List (List Int)).take (j + 1) = ([nums sA1, nums sB2, nums sA3] : List (List Int)).take j ++ [nums s])
    (hc : Chg S wr w2) (hd : DS fldI 3 4 2 w2 w.heap.size (grow S wr w2) p 5000 (insD R (nums s) a) (304 + 1200 * j + 1200) (3 * j + 3)) : AwAt w w2 (grow S wr w2) p b (insD R (nums s) a) (j + 1) where
  ds := hd
  nb := fun q hq => hq.elim (H.nb q) (fun e => by have := H.blk.lt; omega)
  below := H.below.trans (hc.below H.below.size (fun q _ hq => (H.ds.foot q hq).1))
  blk := H.blk.chg hc (fun e => H.nb b e rfl)
  low := H.low
  items := by rw [insD_items hs, H.items, hn]

set_option maxHeartbeats 2000000 in
theorem lawake_any (w : World) : Calls Tryz.prog 4 #[] w fun e w' => e = .returned (.bool true) ∧ Below w.heap.size w w' := by
  have FR := Lib.hid (fresh_ds (base := w.heap.size) 5000 w (Nat.le_refl _) (by omega))
  have o1 : spOk sA1 = true := by kernel_rfl
  have o2 : spOk sB2 = true := by kernel_rfl
  have o3 : spOk sA3 = true := by kernel_rfl
  have HO := Lib.hid (And.intro o1 (And.intro o2 o3))
  clear o1 o2 o3
  go_enter Tryz.func4, Tryz.ntmps4
  go_wp2_with (go_at_call 5; refine FR.out.mono ?_; rintro e w1 ⟨p, rfl, hb1, T1⟩)
  go_loopw [9] (fun i wr => ∃ (j : Nat) (S : Nat → Prop) (R : List DR), i = .int .i64 j ∧ j ≤ 3 ∧ AwAt w wr S p w1.heap.size R j) (fun i _ => 3 - (intOf i).toNat)
  case atStart => exact ⟨0, _, [], rfl, Nat.zero_le _, ⟨T1.below (boxed _ _), fun q hq => by have := hq.2; omega, hb1.alloc hb1.size _, Blk.new w1 _ _, hb1.size, rfl⟩⟩
  case round =>
    obtain ⟨j, S, R, rfl, hj, HA⟩ := hrel
    by_cases hlt : j < 3
    · have hc : j = 0 ∨ j = 1 ∨ j = 2 := by omega
      clear hlt hj
      rcases hc with rfl | rfl | rfl
      · have c0 := HA.blk.cell 0
        have DI := Lib.hid (dintern_ds sA1 HA.ds (by omega) HO.out.1 (by decide) (by omega))
        have HNI : Hid (nums sA1 ∉ R.map (·.item)) := Lib.hid (by rw [HA.items]; decide +kernel)
        have HH := Lib.hid HA
        clear HA
        go_wp2_with (go_at_call 7; refine DI.out.mono ?_; rintro e w2 ⟨a, rfl, ha, hc, hd, hf⟩; have HN := Lib.hid (HH.out.next HNI.out rfl hc hd); clear hc hd hf)
        go_roundw
        case rel => exact ⟨1, _, _, rfl, by omega, HN.out⟩
        case measure => simp [intOf]
      · have c0 := HA.blk.cell 1
        have DI := Lib.hid (dintern_ds sB2 HA.ds (by omega) HO.out.2.1 (by decide) (by omega))
        have HNI : Hid (nums sB2 ∉ R.map (·.item)) := Lib.hid (by rw [HA.items]; decide +kernel)
        have HH := Lib.hid HA
        clear HA
        go_wp2_with (go_at_call 7; refine DI.out.mono ?_; rintro e w2 ⟨a, rfl, ha, hc, hd, hf⟩; have HN := Lib.hid (HH.out.next HNI.out rfl hc hd); clear hc hd hf)
        go_roundw
        case rel => exact ⟨2, _, _, rfl, by omega, HN.out⟩
        case measure => simp [intOf]
      · have c0 := HA.blk.cell 2
        have DI := Lib.hid (dintern_ds sA3 HA.ds (by omega) HO.out.2.2 (by decide) (by omega))
        have HNI : Hid (nums sA3 ∉ R.map (·.item)) := Lib.hid (by rw [HA.items]; decide +kernel)
        have HH := Lib.hid HA
        clear HA
        go_wp2_with (go_at_call 7; refine DI.out.mono ?_; rintro e w2 ⟨a, rfl, ha, hc, hd, hf⟩; have HN := Lib.hid (HH.out.next HNI.out rfl hc hd); clear hc hd hf)
        go_roundw
        case rel => exact ⟨3, _, _, rfl, by omega, HN.out⟩
        case measure => simp [intOf]
    · have hc : j = 3 := by omega
      subst hc
      have LV := Lib.hid (lvalues_ds sA HA.ds (by decide) (by have := congrArg List.length HA.items; simp at this; omega))
      rw [vals_ex (by rw [HA.items]; rfl)] at LV
      have HB := Lib.hid HA.below
      have TX := Lib.hid (fun (A : Option Addr) (c : Nat) (wx : World) (hx : Txt wx wx.heap.size A 2 c [sA1, sA3]) => texts_same A (some ⟨wx.heap.size, 0, none⟩) 2 c 2 [sA1, sA3] wx.heap.size (wx.heap.size + 1) (wx.alloc (.cells #[.string sA1, .string sA3] 9)) (hx.below (boxed _ _)) (txt_two wx 9 sA1 sA3 (by decide) (by decide)))
      clear HA
      go_wp2_with (first
        | (go_at_call 17; refine LV.out.mono ?_; rintro e w2 ⟨A, c, rfl, htx, hb2⟩)
        | (go_at_call 16; refine (TX.out _ _ _ htx).mono ?_; rintro e w3 ⟨rfl, nq, rfl⟩))
      go_ret
      have h2 := HB.out.trans (hb2.mono HB.out.size)
      exact ⟨rfl, below_drewn (h2.alloc h2.size _) nq⟩

end Go.Proofs.YtknimfnjmhmamaaGreat
