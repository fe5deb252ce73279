/-
  LAYER 7: WHAT Names DOES: its contract.
-/
import Derived.Test.YtakjiklpfddooaaDirDo
import Derived.WalkKit
import Derived.OwnWalkIn
import Derived.TacticsInMore
import Derived.RegionIn
set_option linter.unusedVariables false
set_option linter.unusedSimpArgs false
namespace Go.Proofs.Ytakjiklpfddooaa
open Go.RowKit Go.Maps Go.Sort Go.Shelf

theorem sortsIn (m : Nat) : AnyZ.SortsIn Try.prog Try.laySorted_ren Fence.wide m :=
  ⟨fun blk off cap ss W hH hblk hsz => callsIn_wide.2 (AnyM.slices_Sort_string Try.laySort blk off cap ss W hH hblk hsz),
   fun p cap W => callsIn_wide.2 (AnyM.slices_Sort_string_none Try.laySort p cap W)⟩

theorem keys_any (mb : Option Nat) (W : World) : CallsIn Fence.wide 5 Try.prog 31 #[.map mb] W fun e w' => e = .returned (.func (.func 37) #[] #[.pointer (some ⟨W.heap.size, 0, none⟩)]) ∧ w' = W.alloc (.cells #[.map mb] 47) :=
  AnyZ.keys_in Try.layKeys Fence.wide 5 trivial rfl mb W

set_option maxHeartbeats 1000000 in
theorem sorted_any {H : Type} (b nn : Nat) (D0 : DataW H) (R : Value → Option (DataW H × List MemPlace)) (w : World) (hown : w.ownsMap Try.prog 9 R b nn D0) (hmax : Maps.size D0 ≤ maxLen) (hbytes : Maps.size D0 * 16 ≤ 140737488355328) :
    CallsIn Fence.wide 5 Try.prog 30 #[.func (.func 37) #[] #[.pointer (some ⟨w.heap.size, 0, none⟩)]] (w.alloc (.cells #[.map (some b)] 47)) fun e w' => ∃ (v : Value) (ss : List (List UInt8)), e = .returned v ∧ ss.Perm (strKeys D0) ∧
      w'.ownsRow (w.alloc (.cells #[.map (some b)] 47)).heap.size 9 1 v ss.length ((ss.mergeSort (fun x y => decide (x ≤ y))).map encStr) ∧ (v = .slice none 0 0 ↔ ss = []) ∧ Below (w.alloc (.cells #[.map (some b)] 47)).heap.size (w.alloc (.cells #[.map (some b)] 47)) w' := by
  have hbl := hown.lt
  have hseq : SeqGives Fence.wide 2 Try.prog 37 #[.pointer (some ⟨w.heap.size, 0, none⟩)] encStr (fun ss => ss.Perm (strKeys D0)) (Maps.size D0) (w.alloc (.cells #[.map (some b)] 47)) :=
    AnyZ.keys_gives (ρ := Try.layKeys_ren) { Try.layKeys with } Fence.wide _ trivial rfl (by omega) w.heap.size b nn D0 _ (by simp) (by simp) (by
      obtain ⟨es, clock, hb, Ft, hs, hD⟩ := hown
      exact ⟨es, clock, (Below.heap_alloc _ _ b hbl).trans hb, Ft, hs, hD⟩)
  exact AnyZ.sorted_in Try.laySorted Fence.wide 5 trivial trivial trivial trivial rfl (by omega) (sortsIn _) (enters_of Try.func36 (by kernel_rfl) rfl) 37 #[.pointer (some ⟨w.heap.size, 0, none⟩)] trivial (enters_of Try.func37 (by kernel_rfl) rfl) _ _ hmax hbytes _ hseq

/-- What was sorted are the names. -/
theorem sorted_names {w : World} {b n : Nat} {D : DataW Unit} {l : NmL} (h : w.ownsMap Try.prog 9 intE b n D) (ht : Tells D l) {ss : List (List UInt8)} (hp : ss.Perm (strKeys D)) : ss.length = l.length ∧ (ss.mergeSort (fun x y => decide (x ≤ y))).map encStr = cellsT (namesN l) := by
  have hk := keys_perm h ht
  have hp2 : ss.Perm ((namesN l).map (·.data.toList)) := hp.trans hk.symm
  have hm := mergeSort_of_perm hp2
  refine ⟨by rw [hp2.length_eq]; simp [namesN], ?_⟩
  show (ss.mergeSort leB).map encStr = _
  rw [hm, names_sorted ht.rise, List.map_map]
  unfold cellsT
  refine List.map_congr_left fun x _ => ?_
  simp [encStr]

set_option maxHeartbeats 1000000 in
theorem dnames_any (p bn : Nat) (l : NmL) (w : World) (h : w.cell? ⟨p, 0, none⟩ = some (.map (some bn))) (hm : MapAt w bn l) (hl : l.length ≤ 1000000) (hn : ∀ q ∈ l, okN q) :
    Calls Try.prog 16 #[.pointer (some ⟨p, 0, none⟩)] w fun e w' => ∃ A c, e = .returned (.slice A l.length c) ∧ Txt w' w'.heap.size A l.length c (namesN l) ∧ Below w.heap.size w w' := by
  obtain ⟨D, hown, ht⟩ := hm
  have hsz := keys_size hown ht
  have hmax : Maps.size D ≤ maxLen := by rw [hsz]; unfold maxLen; omega
  have hbytes : Maps.size D * 16 ≤ 140737488355328 := by rw [hsz]; omega
  have MD := Lib.hid (callsIn_wide (n := 5) |>.2 (made_yes p bn w h))
  have SO := Lib.hid (sorted_any bn _ D intE w hown hmax hbytes)
  have HF := Lib.hid (fun (ss : List (List UInt8)) (hp : ss.Perm (strKeys D)) => sorted_names hown ht hp)
  have HN := Lib.hid hn
  clear hown ht hsz hmax hbytes hn
  refine (callsIn_wide (n := 6)).1 ?_
  have hf1 : Fence.wide.fn 27 := trivial
  have hf2 : Fence.wide.fn 31 := trivial
  have hf3 : Fence.wide.fn 30 := trivial
  refine callsIn_of_wp Try.func16 rfl trivial ?_ rfl
  simp only [Try.ntmps16, List.size_toArray, List.length_cons, List.length_nil, Nat.reduceAdd, Nat.reduceSub, Array.replicate_succ, Array.replicate_zero, List.push_toArray, List.append_toArray, List.nil_append, List.cons_append]
  gi_wp2_with (first
    | (gi_at_call 27; refine MD.out.mono ?_; rintro e w' ⟨rfl, rfl⟩)
    | (gi_at_call 31; refine (keys_any _ _).mono ?_; rintro e w' ⟨rfl, rfl⟩)
    | (gi_at_call 30; refine SO.out.mono ?_; rintro e w' ⟨v, ss, rfl, hS, hrow, hnil, hb⟩))
  go_ret
  obtain ⟨h1, h2⟩ := HF.out ss hS
  rw [h1, h2] at hrow
  obtain ⟨A, c, rfl, hc1, hc2⟩ := own_form hrow
  refine ⟨A, c, rfl, Txt.of_own hrow hc1 hc2 (fun s hs => ?_), ((Below.refl _ w).alloc (Nat.le_refl _) _).trans (hb.mono (by simp))⟩
  obtain ⟨q, hq, rfl⟩ := List.mem_map.1 hs
  have := (HN.out q hq).1
  unfold maxLen; omega

end Go.Proofs.Ytakjiklpfddooaa
