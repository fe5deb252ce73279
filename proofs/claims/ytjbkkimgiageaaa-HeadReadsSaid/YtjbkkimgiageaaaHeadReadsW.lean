/-
  LAYER 10: the walk of HeadReads.
-/
import Derived.Test.YtjbkkimgiageaaaHeadLaw
import Derived.Test.YtjbkkimgiageaaaHeadDecR
set_option linter.unusedVariables false
set_option linter.unusedSimpArgs false
set_option maxRecDepth 100000
namespace Go.Proofs.Ytjbkkimgiageaaa
open Go.RowKit

theorem decH_five (zs : List Int) : ∃ a b c d e, decH zs = hdV a b c d e := by
  unfold decH
  split
  · exact ⟨_, _, _, _, _, rfl⟩
  · exact ⟨_, _, _, _, _, rfl⟩

set_option maxHeartbeats 4000000 in
theorem reads_law (A : Option Addr) (n c : Nat) (zs : List Int) (w : World) (hi : InInts w .u8 A n c zs) :
    Calls Try.prog 4 #[.slice A n c] w fun e w' => e = .returned (.bool true) ∧ Below w.heap.size w w' := by
  by_cases h : 2000 < n
  · go_enter Try.func4, Try.ntmps4
    go_wp2_with (go_at_call 18; refine (awake_any _).mono ?_; rintro e w5 ⟨rfl, hb5⟩)
    go_ret
    exact ⟨rfl, hb5⟩
  have hz : AreB zs := fun z hz => wf_u8_bd (hi.wf z hz)
  have RD := Lib.hid (fun wx (hx : Below w.heap.size w wx) => hi.reads.below hx)
  have hl := hi.le
  have hcap := hi.cap
  have D1 := Lib.hid (fun G wx (hx : Below w.heap.size w wx) (ht : IsTable wx G) => hdec_any G A n c zs wx (RD.out wx hx) hx.size hz hl hcap ht)
  have D2 := Lib.hid (fun wx (hx : Below w.heap.size w wx) => rhdec_any A n c zs wx (RD.out wx hx) hx.size hz hl hcap)
  obtain ⟨a1, a2, a3, a4, a5, ha⟩ := decH_five zs
  rw [ha] at D1 D2
  generalize isH zs = is at *
  clear ha hz hi
  go_enter Try.func4, Try.ntmps4
  go_wp2_with (first
    | (go_at_call 6; refine (crcMake_any w).mono ?_; rintro e w1 ⟨rfl, ht1, hb1⟩)
    | (go_at_call 19; refine (D1.out _ _ hb1 ht1).mono ?_; rintro e w2 ⟨rfl, hb2⟩; have hb3 := hb1.trans (hb2.mono hb1.size))
    | (go_at_call 20; refine (D2.out _ (hb3.alloc hb3.size _)).mono ?_; rintro e w3 ⟨rfl, hb4⟩))
  have hBA : Hid (∀ wx, Below (w3.alloc (.cells #[.int .u64 a1, .int .u64 a2, .int .i64 a3, .int .i64 a4, .int .u64 a5] 24)).heap.size (w3.alloc (.cells #[.int .u64 a1, .int .u64 a2, .int .i64 a3, .int .i64 a4, .int .u64 a5] 24)) wx →
      (HdAt wx w2.heap.size a1 a2 a3 a4 a5 ∧ HdAt wx w3.heap.size a1 a2 a3 a4 a5) ∧ Below w.heap.size w wx) := fun wx hx => by
    have q1 : Below w2.heap.size w2 (w2.alloc (.cells #[.int .u64 a1, .int .u64 a2, .int .i64 a3, .int .i64 a4, .int .u64 a5] 27)) := boxed _ _
    have q2 := q1.trans (hb4.mono q1.size)
    have q3 : Below w3.heap.size w3 (w3.alloc (.cells #[.int .u64 a1, .int .u64 a2, .int .i64 a3, .int .i64 a4, .int .u64 a5] 24)) := boxed _ _
    have q4 := q3.trans (hx.mono q3.size)
    have q5 := q2.trans (q4.mono q2.size)
    have g1 := (Blk.new w2 27 #[.int .u64 a1, .int .u64 a2, .int .i64 a3, .int .i64 a4, .int .u64 a5]).below hb4 (by simp)
    have g2 := g1.below q4 g1.lt
    exact ⟨⟨hdAt_blk g2, hdAt_of hx⟩, hb3.trans (q5.mono hb3.size)⟩
  have hb : Below (w3.alloc (.cells #[.int .u64 a1, .int .u64 a2, .int .i64 a3, .int .i64 a4, .int .u64 a5] 24)).heap.size (w3.alloc (.cells #[.int .u64 a1, .int .u64 a2, .int .i64 a3, .int .i64 a4, .int .u64 a5] 24)) (w3.alloc (.cells #[.int .u64 a1, .int .u64 a2, .int .i64 a3, .int .i64 a4, .int .u64 a5] 24)).drew := below_drewn (Below.refl _ _) 1
  have HK := Lib.hid (hBA.out _ hb).1
  clear hb1 hb2 hb3 hb4 ht1
  go_region_held3 (fun w' => HdAt w' w2.heap.size a1 a2 a3 a4 a5 ∧ HdAt w' w3.heap.size a1 a2 a3 a4 a5)
    (first | assumption | exact HK.out | exact (hBA.out _ hb).1)
    (first
      | (go_at_call 21; refine (of_any _ _ _ _ _ _).mono ?_; rintro e wx ⟨rfl, hbx⟩; have hb := hb.trans (hbx.mono hb.size); clear hbx)
      | (go_at_call 18; refine (awake_any _).mono ?_; rintro e wx ⟨rfl, hbx⟩; have hb := hb.trans (hbx.mono hb.size); clear hbx))
  go_wp2
  go_ret
  exact ⟨rfl, (hBA.out _ hb).2⟩

end Go.Proofs.Ytjbkkimgiageaaa
