/-
  LAYER 7: WHAT strings.Clone, do AND maps.Copy DO: contracts.
-/
import Derived.Test.YtakjiklpfddooaaDirFn
import Derived.Test.YtakjiklpfddooaaShelf
set_option linter.unusedVariables false
set_option linter.unusedSimpArgs false
namespace Go.Proofs.Ytakjiklpfddooaa
open Go.RowKit

theorem sclone_any (s : ByteArray) (w : World) (hs : s.size ≤ 1000) : Calls Try.prog 38 #[.string s] w fun e w' => e = .returned (.string s) ∧ Below w.heap.size w w' := by
  have C : Calls Try.prog 44 #[.string s] w fun e w' => e = .returned (.string s) ∧ Below w.heap.size w w' := AnyPu.stringslite_Clone Try.layClone s w (by omega)
  have HC := Lib.hid C
  clear C
  go_enter Try.func38, Try.ntmps38
  go_wp2_with (go_at_call 44; refine HC.out.mono ?_; rintro e w1 ⟨rfl, hb⟩)
  go_ret
  exact ⟨rfl, hb⟩

/-- The box in which a step lies. -/
theorem box4 (w : World) (t : TypeId) (a b c d : Value) {w' : World} {T : Nat → Prop} (hc : Chg T (w.alloc (.cells #[a, b, c, d] t)) w') (hT : ¬ T w.heap.size) :
    w'.cell? ⟨w.heap.size, 0, none⟩ = some a ∧ w'.cell? ⟨w.heap.size, 1, none⟩ = some b ∧ w'.cell? ⟨w.heap.size, 2, none⟩ = some c ∧ w'.cell? ⟨w.heap.size, 3, none⟩ = some d := by
  have h := (Blk.new w t #[a, b, c, d]).chg hc hT
  exact ⟨h.cell 0, h.cell 1, h.cell 2, h.cell 3⟩

set_option maxHeartbeats 1000000 in
theorem do_any (o : OpB) (b : Nat) (l : NmL) (w : World) (h : MapAt w b l) (hl : l.length < 999990) (ho : OkO o) (hn : ∀ p ∈ l, okN p) :
    Calls Try.prog 28 #[.agg #[.int .i64 o.kind, .string o.a, .string o.b, .int .i64 o.id], .map (some b)] w fun e w' => e = .returned (.tuple #[]) ∧ MapAt w' b (didN cfT l o) ∧ Chg (fun k => k = b) w w' := by
  obtain ⟨kind, x, y, id⟩ := o
  have hx : x.size ≤ maxLen := by have := ho.a; unfold maxLen; simp only at this; omega
  have hy : y.size ≤ maxLen := by have := ho.b; unfold maxLen; simp only at this; omega
  have hid : (Lit.int .i64 id).wf = true := ho.id
  have hlt := h.lt
  have h1 := h.below ((Below.refl _ _).alloc (Nat.le_refl _) (.cells #[.int .i64 kind, .string x, .string y, .int .i64 id] 66))
  have hne : ¬ w.heap.size = b := by omega
  have HB := Lib.hid (fun (w' : World) (hc : Chg (fun k => k = b) (w.alloc (.cells #[.int .i64 kind, .string x, .string y, .int .i64 id] 66)) w') => box4 w _ _ _ _ _ hc hne)
  have HC := Lib.hid (fun (w' : World) (hc : Chg (fun k => k = b) (w.alloc (.cells #[.int .i64 kind, .string x, .string y, .int .i64 id] 66)) w') => (show Chg (fun k => k = b) w w' from ((Chg.refl _ w).alloc _).trans hc (fun _ _ h => h)))
  have HM := Lib.hid h1
  have HX := Lib.hid (And.intro hx (And.intro hy hid))
  have HL := Lib.hid hl
  have hw := woN_length l x
  have HW := Lib.hid hw
  have HG := Lib.hid (fun i (hg : getN l x = some i) => get_ok hn hg)
  have hk := ho.kind
  simp only at hk
  clear h h1 hx hy hid ho hl hw hn hlt
  rcases hk with rfl | rfl | rfl
  · have HD := Lib.hid (show didN cfT l ⟨0, x, y, id⟩ = withN cfT l x id by unfold didN; rw [if_pos rfl])
    go_enter Try.func28, Try.ntmps28
    go_wp2_with (at_mapUpdate; go_loud (refine wpList_put _ rfl _ _ _ rfl b l HM.out (by have := HL.out; omega) rfl x rfl HX.out.1 id rfl HX.out.2.2 ?_; intro w1 hm1 hc1; have H1 := Lib.hid hm1; have H2 := Lib.hid hc1; clear hm1 hc1))
    go_end0
    exact ⟨rfl, by rw [HD.out]; exact H1.out, HC.out _ H2.out⟩
  · cases hg : getN l x with
    | none =>
      have HD := Lib.hid (show didN cfT l ⟨1, x, y, id⟩ = l by unfold didN; rw [if_neg (show ¬ (1 : Int) = 0 by omega)]; simp only; rw [hg])
      have hi : (getN l x).isSome = false := by rw [hg]; rfl
      clear hg
      go_enter Try.func28, Try.ntmps28
      go_wp2_with (at_lookup; go_loud (refine wpList_look _ rfl _ _ rfl b l HM.out rfl x rfl HX.out.1 ?_))
      go_end0
      exact ⟨rfl, by rw [HD.out]; exact HM.out, HC.out _ (Chg.refl _ _)⟩
    | some i =>
      have HD := Lib.hid (show didN cfT l ⟨1, x, y, id⟩ = withN cfT (woN l x) y i by unfold didN; rw [if_neg (show ¬ (1 : Int) = 0 by omega)]; simp only; rw [hg]; rfl)
      have hi : (getN l x).isSome = true := by rw [hg]; rfl
      have hd : (getN l x).getD 0 = i := by rw [hg]; rfl
      have HI := Lib.hid (HG.out i hg)
      clear hg
      go_enter Try.func28, Try.ntmps28
      go_wp2_with (first
        | (at_lookup; go_loud (refine wpList_look _ rfl _ _ rfl b l HM.out rfl x rfl HX.out.1 ?_))
        | (at_delete; go_loud (refine wpList_del _ rfl _ _ rfl b l HM.out rfl x rfl HX.out.1 ?_; intro w1 hm1 hc1; obtain ⟨e0, e1, e2, e3⟩ := HB.out w1 hc1; have H1 := Lib.hid hm1; have H2 := Lib.hid hc1; clear hm1 hc1))
        | (at_mapUpdate; go_loud (refine wpList_put _ rfl _ _ _ rfl b (woN l x) H1.out (by have := HL.out; have := HW.out; omega) rfl y rfl HX.out.2.1 i rfl HI.out ?_; intro w2 hm2 hc2; have H3 := Lib.hid hm2; have H4 := Lib.hid hc2; clear hm2 hc2)))
      go_end0
      exact ⟨rfl, by rw [HD.out]; exact H3.out, HC.out _ (H2.out.trans H4.out (fun _ _ h => h))⟩
  · have HD := Lib.hid (show didN cfT l ⟨2, x, y, id⟩ = woN l x by
      unfold didN
      rw [if_neg (show ¬ (2 : Int) = 0 by omega)]
      simp only
      cases hg : getN l x with
      | none => exact (woN_none l x hg).symm
      | some i => rfl)
    go_enter Try.func28, Try.ntmps28
    go_wp2_with (at_delete; go_loud (refine wpList_del _ rfl _ _ rfl b l HM.out rfl x rfl HX.out.1 ?_; intro w1 hm1 hc1; have H1 := Lib.hid hm1; have H2 := Lib.hid hc1; clear hm1 hc1))
    go_end0
    exact ⟨rfl, by rw [HD.out]; exact H1.out, HC.out _ H2.out⟩

/-- Names copied onto nothing. -/
theorem copy_any (bd bs : Nat) (l : NmL) (w : World) (hd : MapAt w bd []) (hs : MapAt w bs l) (hne : bd ≠ bs) (hl : l.length ≤ 1000000) :
    Calls Try.prog 29 #[.map (some bd), .map (some bs)] w fun e w' => e = .returned (.tuple #[]) ∧ MapAt w' bd l ∧ Chg (fun k => k = bd) w w' := by
  obtain ⟨Dd, hod, htd⟩ := hd
  obtain ⟨Ds, hos, hts⟩ := hs
  have hsz := keys_size hos hts
  have hszd := keys_size hod htd
  have C := AnyX.maps_Copy (H := Unit) Try.layCopy strKeyed intE bd bs _ _ Dd Ds w hod hos hne (by rw [hsz]; simp only [List.length_nil]; unfold maxLen; omega)
  refine C.mono ?_
  rintro e w' ⟨rfl, h1, h2, h3⟩
  obtain ⟨es, rfl, hp, hk⟩ := hos.entries strKeyed
  obtain ⟨esd, rfl⟩ := hod.isMap
  have he : esd = [] := List.eq_nil_of_length_eq_zero (by simpa [Maps.size] using hszd)
  subst he
  exact ⟨rfl, MapAt.of h1 (hts.merge hp hk), (Chg.of_grown h3).mono (fun k _ e => by injection e with e; exact e.symm)⟩

end Go.Proofs.Ytakjiklpfddooaa
