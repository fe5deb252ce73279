/-
  LAYER 11: the walk of SlotWrites.
-/
import Derived.Test.YtdajjkjpjhpnjaaSlotLaw
set_option linter.unusedVariables false
set_option linter.unusedSimpArgs false
set_option maxRecDepth 100000
namespace Go.Proofs.Ytdajjkjpjhpnjaa
open Go.RowKit

theorem bd6 {a b c d e f : Int} (h : (Lit.int .u64 a).wf = true ∧ (Lit.int .u64 b).wf = true ∧ (Lit.int .u64 c).wf = true ∧ (Lit.int .u64 d).wf = true ∧ (Lit.int .u64 e).wf = true ∧ (Lit.int .u64 f).wf = true) :
    (∀ z ∈ [a, b, c, d, e, f], 0 ≤ z ∧ z < 18446744073709551616) ∧ ∀ j, 0 ≤ [a, b, c, d, e, f].getD j 0 ∧ [a, b, c, d, e, f].getD j 0 < 18446744073709551616 := by
  have h0 := wf_u64_bd h.1
  have h1 := wf_u64_bd h.2.1
  have h2 := wf_u64_bd h.2.2.1
  have h3 := wf_u64_bd h.2.2.2.1
  have h4 := wf_u64_bd h.2.2.2.2.1
  have h5 := wf_u64_bd h.2.2.2.2.2
  refine ⟨fun z hz => ?_, fun j => ?_⟩
  · simp only [List.mem_cons, List.mem_nil_iff, or_false] at hz
    rcases hz with rfl | rfl | rfl | rfl | rfl | rfl <;> assumption
  · match j with
    | 0 => exact h0
    | 1 => exact h1
    | 2 => exact h2
    | 3 => exact h3
    | 4 => exact h4
    | 5 => exact h5
    | n + 6 => exact (⟨by omega, by omega⟩ : (0 : Int) ≤ 0 ∧ (0 : Int) < 18446744073709551616)

set_option maxHeartbeats 4000000 in
theorem writes_law (a b c d e f : Int) (w : World)
    (h : (Lit.int .u64 a).wf = true ∧ (Lit.int .u64 b).wf = true ∧ (Lit.int .u64 c).wf = true ∧ (Lit.int .u64 d).wf = true ∧ (Lit.int .u64 e).wf = true ∧ (Lit.int .u64 f).wf = true) :
    Calls Try.prog 3 #[sV a b c d e f] w fun en w' => en = .returned (.bool true) ∧ Below w.heap.size w w' := by
  obtain ⟨hl, h6⟩ := bd6 h
  have ha := (h6 0).1
  have hb := (h6 1).1
  have hab : a < 18446744073709551616 := (h6 0).2
  have HBA := Lib.hid (fun wx (hx : Below (w.alloc (.cells (sC a b c d e f) 24)).heap.size (w.alloc (.cells (sC a b c d e f) 24)) wx) => (And.intro (slAt_of hx) ((boxed w (.cells (sC a b c d e f) 24)).trans (hx.mono (boxed w (.cells (sC a b c d e f) 24)).size)) : SlAt wx w.heap.size a b c d e f ∧ Below w.heap.size w wx))
  have R1 := Lib.hid (fun wx => sright_any a b c d e f wx ha hb)
  have R2 := Lib.hid (fun wx => rsright_any a b c d e f wx ha hb)
  have EN := Lib.hid (fun G wx (ht : IsTable wx G) => senc_any G a b c d e f wx ht ha hb)
  have ER := Lib.hid (fun wx => rsenc_any a b c d e f wx h6)
  have HX := Lib.hid (encS_bytes a b c d e f)
  have PL := Lib.hid (fun wx => splace_any a b c d e f wx)
  generalize encS a b c d e f = x at *
  generalize rightS a b f = r at *
  have hp : 0 ≤ a % 2 ∧ a % 2 ≤ 1 := by omega
  have hut : a.tmod 2 = a % 2 := Int.tmod_eq_emod_of_nonneg ha
  obtain ⟨p, hpe⟩ : ∃ p, a % 2 = p := ⟨_, rfl⟩
  rw [hpe] at PL hp hut
  have hpw : IntKind.i64.wrap p = p := by rw [IntKind.wrap_i64]; omega
  have e1 : IntKind.i64.wrap (64 * p) = 64 * p := by rw [IntKind.wrap_i64]; omega
  have e2 : IntKind.i64.wrap (64 + 64 * p) = 64 + 64 * p := by rw [IntKind.wrap_i64]; omega
  clear h hl h6 ha hb hab hpe
  go_enter Try.func3, Try.ntmps3
  go_wp2_with fail
  have hb : Below (w.alloc (.cells (sC a b c d e f) 24)).heap.size (w.alloc (.cells (sC a b c d e f) 24)) (w.alloc (.cells (sC a b c d e f) 24)).drew := below_drewn (Below.refl _ _) 1
  have HK := Lib.hid (HBA.out _ hb).1
  have m1 : True := trivial
  go_region_held3 (fun w' => SlAt w' w.heap.size a b c d e f)
    (first | assumption | exact HK.out | exact (HBA.out _ hb).1)
    (first
      | (go_at_call 7; refine (to_any _ _ _ _ _ _ _).mono ?_; rintro en wx ⟨rfl, hbx⟩; have hb := hb.trans (hbx.mono hb.size); (try (have ht1 := IsTable.below ht1 hbx ht1.lt)); (try (have hr1 := Reads.below hr1 hbx)); (try (have hr2 := Reads.below hr2 hbx)); clear hbx)
      | (go_at_call 9; refine (crcMake_any _).mono ?_; rintro en wx ⟨rfl, ht1, hbx⟩; have hb := hb.trans (hbx.mono hb.size); clear hbx)
      | (go_at_call 8; refine (EN.out _ _ ht1).mono ?_; rintro en wx ⟨A1, _, c1, rfl, rfl, ho1, hbx, -, -⟩; have hb := hb.trans (hbx.mono hb.size); have hr1 := Reads.of_own ho1; (try (have hr2 := Reads.below hr2 hbx)); clear hbx ho1)
      | (go_at_call 10; refine (ER.out _).mono ?_; rintro en wx ⟨A2, _, c2, rfl, rfl, ho2, hbx, -, -⟩; have hb := hb.trans (hbx.mono hb.size); have hr2 := Reads.of_own ho2; (try (have hr1 := Reads.below hr1 hbx)); (try (have ht1 := IsTable.below ht1 hbx ht1.lt)); clear hbx ho2)
      | (go_at_call 6; refine (same_yes A1 A2 x.length x.length c1 c2 x x _ hr1 hr2 HX.out rfl).mono ?_; rintro en wx ⟨rfl, rfl⟩)
      | (go_at_call 11; refine (R1.out _).mono ?_; rintro en wx ⟨rfl, hbx⟩; have hb := hb.trans (hbx.mono hb.size); clear hbx)
      | (go_at_call 12; refine (R2.out _).mono ?_; rintro en wx ⟨rfl, hbx⟩; have hb := hb.trans (hbx.mono hb.size); clear hbx)
      | (go_at_call 13; refine (PL.out _).mono ?_; rintro en wx ⟨rfl, hbx⟩; have hb := hb.trans (hbx.mono hb.size); clear hbx)
      | (go_at_call 14; refine (awake_any _).mono ?_; rintro en wx ⟨rfl, hbx⟩; have hb := hb.trans (hbx.mono hb.size); clear hbx))
  go_wp2
  go_ret
  exact ⟨rfl, (HBA.out _ hb).2⟩

end Go.Proofs.Ytdajjkjpjhpnjaa
