/-
  LAYER 11: the walk of SlotReads.
-/
import Derived.Test.YtdajjkjpjhpnjaaSlotLaw
set_option linter.unusedVariables false
set_option linter.unusedSimpArgs false
set_option maxRecDepth 100000
namespace Go.Proofs.Ytdajjkjpjhpnjaa
open Go.RowKit

theorem decS_six (zs : List Int) : ∃ a b c d e f, decS zs = sV a b c d e f := by
  unfold decS
  split
  · exact ⟨_, _, _, _, _, _, rfl⟩
  · exact ⟨_, _, _, _, _, _, rfl⟩
theorem chV_six (zs : List Int) : ∃ a b c d e f, chV zs = sV a b c d e f := by
  unfold chV
  split
  · exact decS_six _
  · exact decS_six _

set_option maxHeartbeats 4000000 in
theorem reads_law (A : Option Addr) (n c : Nat) (zs : List Int) (w : World) (hi : InInts w .u8 A n c zs) :
    Calls Try.prog 4 #[.slice A n c] w fun en w' => en = .returned (.bool true) ∧ Below w.heap.size w w' := by
  by_cases h : 1000 < n
  · go_enter Try.func4, Try.ntmps4
    go_wp2_with (go_at_call 14; refine (awake_any _).mono ?_; rintro en w5 ⟨rfl, hb5⟩)
    go_ret
    exact ⟨rfl, hb5⟩
  have hz : AreB zs := fun z hz => wf_u8_bd (hi.wf z hz)
  have RD := Lib.hid (fun wx (hx : Below w.heap.size w wx) => hi.reads.below hx)
  have hl := hi.le
  have hcap := hi.cap
  have D1 := Lib.hid (fun G wx (hx : Below w.heap.size w wx) (ht : IsTable wx G) => sdec_any G A n c zs wx (RD.out wx hx) hx.size hz hl hcap ht)
  have D2 := Lib.hid (fun wx (hx : Below w.heap.size w wx) => rsdec_any A n c 0 zs wx (RD.out wx hx) hx.size hz hl hcap (by omega))
  have C1 := Lib.hid (fun G wx (hx : Below w.heap.size w wx) (ht : IsTable wx G) => schoose_any G A n c zs wx (RD.out wx hx) hx.size hz hl hcap ht)
  have C2 := Lib.hid (fun wx (hx : Below w.heap.size w wx) => rschoose_any A n c zs wx (RD.out wx hx) hx.size hz hl hcap)
  rw [List.drop_zero] at D2
  obtain ⟨a1, a2, a3, a4, a5, a6, ha⟩ := decS_six zs
  rw [ha] at D1 D2
  obtain ⟨b1, b2, b3, b4, b5, b6, hb⟩ := chV_six zs
  rw [hb] at C1 C2
  generalize isS zs = is at *
  generalize chB zs = cb at *
  have HBOX : Hid (∀ (W : World) (o : Obj), Below w.heap.size w W → Below w.heap.size w (W.alloc o)) := fun W o h => h.alloc h.size o
  clear ha hb hz hi
  go_enter Try.func4, Try.ntmps4
  go_wp2_with (first
    | (go_at_call 9; refine (crcMake_any w).mono ?_; rintro en w1 ⟨rfl, ht1, hb1⟩)
    | (go_at_call 15; refine (D1.out _ _ hb1 ht1).mono ?_; rintro en w2 ⟨rfl, hb2⟩; have hb3 := HBOX.out _ (.cells (sC a1 a2 a3 a4 a5 a6) 27) (hb1.trans (hb2.mono hb1.size)); have P1 := (Blk.new w2 27 (sC a1 a2 a3 a4 a5 a6)); have ht2 := Blk.alloc (IsTable.below ht1 hb2 ht1.lt) (.cells (sC a1 a2 a3 a4 a5 a6) 27))
    | (go_at_call 16; refine (D2.out _ hb3).mono ?_; rintro en w3 ⟨rfl, hb4⟩; have hb5 := HBOX.out _ (.cells (sC a1 a2 a3 a4 a5 a6) 24) (hb3.trans (hb4.mono hb3.size)); have P2 := (P1.below hb4 P1.lt).alloc (.cells (sC a1 a2 a3 a4 a5 a6) 24); have Q2 := (Blk.new w3 24 (sC a1 a2 a3 a4 a5 a6)); have ht3 := Blk.alloc (IsTable.below ht2 hb4 ht2.lt) (.cells (sC a1 a2 a3 a4 a5 a6) 24); clear P1)
    | (go_at_call 17; refine (C1.out _ _ hb5 ht3).mono ?_; rintro en w4 ⟨rfl, hb6⟩; have hb7 := HBOX.out _ (.cells (sC b1 b2 b3 b4 b5 b6) 27) (hb5.trans (hb6.mono hb5.size)); have P3 := (P2.below hb6 P2.lt).alloc (.cells (sC b1 b2 b3 b4 b5 b6) 27); have Q3 := (Q2.below hb6 Q2.lt).alloc (.cells (sC b1 b2 b3 b4 b5 b6) 27); have R3 := (Blk.new w4 27 (sC b1 b2 b3 b4 b5 b6)); clear P2 Q2)
    | (go_at_call 18; refine (C2.out _ hb7).mono ?_; rintro en w5 ⟨rfl, hb8⟩; have hb9 := HBOX.out _ (.cells (sC b1 b2 b3 b4 b5 b6) 24) (hb7.trans (hb8.mono hb7.size)); have P4 := (P3.below hb8 P3.lt).alloc (.cells (sC b1 b2 b3 b4 b5 b6) 24); have Q4 := (Q3.below hb8 Q3.lt).alloc (.cells (sC b1 b2 b3 b4 b5 b6) 24); have R4 := (R3.below hb8 R3.lt).alloc (.cells (sC b1 b2 b3 b4 b5 b6) 24); have S4 := (Blk.new w5 24 (sC b1 b2 b3 b4 b5 b6)); clear P3 Q3 R3))
  obtain ⟨W, hW⟩ : ∃ W, w5.alloc (.cells (sC b1 b2 b3 b4 b5 b6) 24) = W := ⟨_, rfl⟩
  rw [hW] at hb9 P4 Q4 R4 S4 ⊢
  have hBA : Hid (∀ wx, Below W.heap.size W wx → (SlAt wx w2.heap.size a1 a2 a3 a4 a5 a6 ∧ SlAt wx w3.heap.size a1 a2 a3 a4 a5 a6 ∧ SlAt wx w4.heap.size b1 b2 b3 b4 b5 b6 ∧ SlAt wx w5.heap.size b1 b2 b3 b4 b5 b6) ∧ Below w.heap.size w wx) := fun wx hx =>
    ⟨⟨slAt_blk (P4.below hx P4.lt), slAt_blk (Q4.below hx Q4.lt), slAt_blk (R4.below hx R4.lt), slAt_blk (S4.below hx S4.lt)⟩, hb9.trans (hx.mono hb9.size)⟩
  have hb : Below W.heap.size W W.drew := below_drewn (Below.refl _ _) 1
  have HK := Lib.hid (hBA.out _ hb).1
  clear hb1 hb2 hb3 hb4 hb5 hb6 hb7 hb8 hb9 ht1 ht2 ht3 P4 Q4 R4 S4 hW
  go_region_held3 (fun w' => SlAt w' w2.heap.size a1 a2 a3 a4 a5 a6 ∧ SlAt w' w3.heap.size a1 a2 a3 a4 a5 a6 ∧ SlAt w' w4.heap.size b1 b2 b3 b4 b5 b6 ∧ SlAt w' w5.heap.size b1 b2 b3 b4 b5 b6)
    (first | assumption | exact HK.out | exact (hBA.out _ hb).1)
    (first
      | (go_at_call 19; refine (of_any _ _ _ _ _ _ _).mono ?_; rintro en wx ⟨rfl, hbx⟩; have hb := hb.trans (hbx.mono hb.size); clear hbx)
      | (go_at_call 14; refine (awake_any _).mono ?_; rintro en wx ⟨rfl, hbx⟩; have hb := hb.trans (hbx.mono hb.size); clear hbx))
  go_wp2
  go_ret
  exact ⟨rfl, (hBA.out _ hb).2⟩

end Go.Proofs.Ytdajjkjpjhpnjaa
