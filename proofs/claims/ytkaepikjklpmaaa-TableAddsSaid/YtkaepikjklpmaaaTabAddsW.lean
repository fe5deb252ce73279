/-
  LAYER 13: TableAdds, walked.
-/
import Derived.Test.YtkaepikjklpmaaaTabMid2
set_option linter.unusedVariables false
set_option maxRecDepth 100000
set_option linter.unusedSimpArgs false
namespace Go.Proofs.Ytkaepikjklpmaaa
open Go.RowKit

set_option maxHeartbeats 24000000 in
theorem adds_law (key da fi lim : Int) (A : Option Addr) (len cap : Nat) (l : List TX) (tf : Bool) (ts : ByteArray) (w : World) (h1 : (Lit.int .u64 key).wf = true) (h2 : (Lit.int .u8 da).wf = true) (h3 : (Lit.int .u8 fi).wf = true) (h4 : (Lit.int .u16 lim).wf = true) (hin : InTX w A len cap l) (hts : ts.size ≤ maxLen) :
    Calls Try.prog 3 #[.int .u64 key, .int .u8 da, .int .u8 fi, .int .u16 lim, .slice A len cap, .agg #[.bool tf, .string ts]] w fun e w' => e = .returned (.bool true) ∧ Below w.heap.size w w' := by
  have hkU : IsU key := wf_u64_bd h1
  have bd := wf_u8_bd h2
  have bf := wf_u8_bd h3
  have bl : 0 ≤ lim ∧ lim < 65536 := by have := bounds_u16 h4; omega
  obtain ⟨lm, rfl⟩ : ∃ lm : Nat, lim = lm := ⟨lim.toNat, by omega⟩
  have hlw : IntKind.i64.wrap (lm : Int) = (lm : Int) := wrap_i64_of (by omega) (by omega)
  obtain ⟨w0, hw0⟩ : ∃ w0, w.alloc (.cells #[.bool tf, .string ts] 26) = w0 := ⟨_, rfl⟩
  have hb0 : Below w.heap.size w w0 := by rw [← hw0]; exact boxed _ _
  have hsz : w0.heap.size = w.heap.size + 1 := by rw [← hw0]; simp
  have x0 : Blk w0 w.heap.size 26 #[.bool tf, .string ts] := by rw [← hw0]; exact Blk.new w _ _
  have AW := Lib.hid awake_any
  have FR := Lib.hid (fun w1 (hb : w0.heap.size ≤ w1.heap.size) => tfresh_any (base := w0.heap.size) key da fi lm w1 hkU (by omega) (by omega) hb (by omega))
  obtain ⟨D, hD⟩ : ∃ D, 1 + da % 6 = D := ⟨_, rfl⟩
  obtain ⟨F, hF⟩ : ∃ F, 1 + fi % 6 = F := ⟨_, rfl⟩
  rw [hD, hF] at FR
  have HX := Lib.hid x0
  have HI := Lib.hid hin
  have HKU := Lib.hid hkU
  have hlc := hin.le
  have hcc := hin.cap
  clear x0 hin hD hF bd bf
  go_enter Try.func3, Try.ntmps3
  go_wp2_with (first
    | (go_at_call 6; refine (AW.out _).mono ?_; rintro e w1 ⟨rfl, hb1⟩)
    | (go_at_call 7; refine (FR.out _ hb1.size).mono ?_; rintro e w2 ⟨p, rfl, hb2, T2⟩; have HM0 := Lib.hid (Mid.nil_ T2 (hb1.trans (hb2.mono hb1.size))); clear T2))
  clear FR hb1 hb2
  go_loopw [14, 15] (fun v z wr => ∃ (y : Nat) (S : Nat → Prop) (rs : List TRow) (tl cnt : Nat), y ≤ len ∧ y ≤ 40 ∧ z = .int .i64 y ∧ cnt ≤ y ∧ Hid (Mid w0 wr S p key D F lm rs tl cnt v rs)) (fun _ z _ => len - (intOf z).toNat)
  case atStart => exact ⟨0, _, [], _, 0, Nat.zero_le _, Nat.zero_le _, rfl, Nat.le_refl _, HM0⟩
  case round =>
    clear HM0
    obtain ⟨y, S, rs, tl, cnt, hy, hy40, rfl, hcnt, H⟩ := hrel
    by_cases hlt : y < len ∧ y < 40
    · obtain ⟨hlt, h40⟩ := hlt
      have u1 : (y : Int) < (len : Int) := by omega
      have u2 : (y : Int) < 40 := by omega
      obtain ⟨b, off, ⟨af, sx⟩, rfl, hbB, -, hsm, c0, c1⟩ := HI.out.at_ (hb0.trans (H.out.bel.mono hb0.size)) hlt
      dsimp only at hsm c0 c1
      have LG := Lib.hid (light_any af sx wr)
      have HBE := Lib.hid (fun (wx : World) (hx : Below wr.heap.size wr wx) => (hb0.trans ((H.out.bel.trans (hx.mono H.out.bel.size)).mono hb0.size) : Below w.heap.size w wx))
      cases hlb : lightB af sx.size with
      | false =>
        rw [hlb] at LG
        clear hlb
        go_wp2_with (first
          | (go_at_call 8; refine LG.out.mono ?_; rintro e w6 ⟨rfl, hb6⟩)
          | (go_at_call 6; refine (AW.out _).mono ?_; rintro e w7 ⟨rfl, hb7⟩; have hb8 := hb6.trans (hb7.mono hb6.size)))
        go_ret
        exact ⟨rfl, HBE.out _ hb8⟩
      | true =>
        rw [hlb] at LG
        obtain ⟨hr, h300⟩ := light_right hlb
        have hs47 : sx.size ≤ 140737488355328 := by omega
        have KD := Lib.hid (fun wx => kind_any af sx wx)
        have HC : Hid (∀ wx, Below w0.heap.size w0 wx → wx.cell? ⟨b, off + y * 2, none⟩ = some (.bool af) ∧ wx.cell? ⟨b, off + y * 2 + 1, none⟩ = some (.string sx)) := Lib.hid (fun wx hx => by
          have e : ∀ o, wx.cell? ⟨b, o, none⟩ = wr.cell? ⟨b, o, none⟩ := fun o => ((hb0.trans (hx.mono hb0.size)).cell (p := ⟨b, o, none⟩) hbB).trans ((hb0.trans (H.out.bel.mono hb0.size)).cell (p := ⟨b, o, none⟩) hbB).symm
          exact ⟨(e _).trans c0, (e _).trans c1⟩)
        have HB : Hid (∀ wx, Below wr.heap.size wr wx → Below w0.heap.size w0 wx) := Lib.hid (fun wx hx => H.out.bel.trans (hx.mono H.out.bel.size))
        have TL := Lib.hid (fun wx (hx : Below wr.heap.size wr wx) => (H.out.below hx).ts.tail)
        have R := H.out.round (by omega) (kdN af) (kdN_or af) (nums sx) (nums_bytes sx) (by rw [nums_length]; exact hr) (by rw [nums_length]; omega)
        rw [str_nums] at R
        clear hlb
        rcases R with ⟨at_, fr, l', hat, OK⟩ | ⟨RAf, TAf⟩
        · have RA := Lib.hid OK.ra
          rw [str_nums] at RA
          have TA := Lib.hid OK.ta
          have hcv := conv_text sx
          obtain ⟨kd, hkd⟩ : ∃ kd, kdN af = kd := ⟨_, rfl⟩
          rw [hkd] at RA TA KD
          clear OK hkd hr
          go_wp2_with (go_at_call 8; refine LG.out.mono ?_; rintro e w6 ⟨rfl, hb6⟩)
          have hb : Below wr.heap.size wr w6.drew := below_drewn hb6 1
          clear c0 c1
          go_region_held3 (fun w' => w'.cell? ⟨b, off + y * 2, none⟩ = some (.bool af) ∧ w'.cell? ⟨b, off + y * 2 + 1, none⟩ = some (.string sx))
            (first | assumption | exact HC.out _ (HB.out _ hb) | exact HC.out _ hbE)
            (first
              | (go_at_call 10; refine (KD.out _).mono ?_; rintro e wx ⟨rfl, hbx⟩; have hb := hb.trans (hbx.mono hb.size); clear hbx)
              | (go_at_call 11; refine (TL.out _ hb).mono ?_; rintro e wx ⟨rfl, rfl⟩)
              | (go_at_call 9; refine (RA.out _ hb).mono ?_; rintro e w5 ⟨v', rfl, hm5, hbE⟩; have HM5 := Lib.hid hm5; clear hm5))
          go_wp2
          refine Code.wp_mono (Q := OnNormal fun a' W' => ∃ S' tl' cnt', cnt' ≤ cnt + 1 ∧ Mid w0 W' S' p key D F lm l' tl' cnt' v' l' ∧ Below w0.heap.size w0 W' ∧ ∃ X : Nat → Value, a' = { tmps := #[.int .u64 key, .int .u8 da, .int .u8 fi, .int .u16 lm, .slice (some ⟨b, off, none⟩) len cap, .agg #[.bool tf, .string ts], undef, undef, undef, undef, undef, .pointer (some ⟨w.heap.size, 0, none⟩), u12, .pointer (some ⟨p, 0, none⟩), u14, .int .i64 y, v', .int .i64 at_, .bool fr, .bool true, .int .i64 at_, .bool fr, .int .i64 0, undef, undef, undef, undef, undef, undef, undef, .bool true, .bool false, .int .u64 key, .int .u8 da, .int .u8 fi, .int .u16 lm, .int .i64 lm, .pointer (some ⟨p, 0, none⟩), .int .i64 y, .slice (some ⟨b, off, none⟩) len cap, .int .i64 len, .bool true, .bool true, .int .i64 y, .bool true, .bool true, u46, u47, .slice (some ⟨b, off, none⟩) len cap, .int .i64 y, .pointer (some ⟨b, off + y * 2, none⟩), .agg #[.bool af, .string sx], .bool true, .bool false, u54, X 55, X 56, X 57, X 58, X 59, X 60, X 61, X 62, X 63, X 64, X 65, X 66, X 67, X 68, X 69, X 70, X 71, X 72, X 73, X 74, X 75, X 76, X 77, X 78, X 79, X 80, X 81, X 82, X 83, X 84, X 85, X 86, X 87, X 88, X 89, X 90, X 91, X 92, u93, u94, u95, u96, u97, u98, u99, u100, u101, u102, u103, u104, u105, u106, u107, u108, u109, u110, u111, u112, u113, u114, u115, u116, u117, u118, u119, u120, u121, u122, u123, u124, u125, u126, u127, u128, u129, u130, u131, u132, u133, u134, u135, undef, undef, undef, undef, undef, undef, undef, undef, undef, undef, undef, undef, undef, undef, undef, undef, undef, undef, undef, undef, undef, undef, undef, undef, undef, undef, undef, undef, undef, undef, undef, undef, undef, undef, undef, undef, undef, undef, undef, undef, undef, undef, undef, undef, undef, undef, undef, undef, undef, undef, undef, undef, undef, undef, undef, undef, undef, undef, undef, undef, undef, undef, undef, undef, undef, undef, undef, undef], defers := [] }) ?_ ?_
          rotate_left
          · have hb : Below w5.heap.size w5 w5.drew := below_drewn (Below.refl _ _) 1
            have HB5 := Lib.hid (fun wx (hx : Below w5.heap.size w5 wx) => (hbE.trans (hx.mono hbE.size) : Below w0.heap.size w0 wx))
            have HTX : Hid (∀ wx, Below w5.heap.size w5 wx → Below w5.heap.size w5 (textW wx sx)) := Lib.hid (fun wx h => textW_bel sx h)
            clear hbE LG
            refine wp_region_held_drew (S := fun w' => w'.cell? ⟨b, off + y * 2, none⟩ = some (.bool af) ∧ w'.cell? ⟨b, off + y * 2 + 1, none⟩ = some (.string sx)) (by kernel_rfl) (HC.out _ (HB5.out _ hb)) (fun hHeld => ?_)
            refine takeH_yes (i := 0) (v := ?_) rfl (by kernel_rfl) (by kernel_rfl) (by kernel_rfl) (fun _ _ _ h => h) (by kernel_rfl) ?_ (by assumption) ?_
            rotate_left
            · intro wz hSw; (try dsimp only at hSw); go_simp; try with_reducible rfl
            simp only [Act.put, List.setIfInBounds_toArray, List.set_cons_zero, List.set_cons_succ]
            refine takeH_yes (i := 1) (v := ?_) rfl (by kernel_rfl) (by kernel_rfl) (by kernel_rfl) (fun _ _ _ h => h) (by kernel_rfl) ?_ (by assumption) ?_
            rotate_left
            · intro wz hSw; (try dsimp only at hSw); go_simp; try with_reducible rfl
            simp only [Act.put, List.setIfInBounds_toArray, List.set_cons_zero, List.set_cons_succ]
            refine takeH_yes (i := 2) (v := ?_) rfl (by kernel_rfl) (by kernel_rfl) (by kernel_rfl) (fun _ _ _ h => h) (by kernel_rfl) ?_ (by assumption) ?_
            rotate_left
            · intro wz hSw; (try dsimp only at hSw); go_simp; try with_reducible rfl
            simp only [Act.put, List.setIfInBounds_toArray, List.set_cons_zero, List.set_cons_succ]
            refine takeH_yes (i := 3) (v := ?_) rfl (by kernel_rfl) (by kernel_rfl) (by kernel_rfl) (fun _ _ _ h => h) (by kernel_rfl) ?_ (by assumption) ?_
            rotate_left
            · intro wz hSw; (try dsimp only at hSw); go_simp; try with_reducible rfl
            simp only [Act.put, List.setIfInBounds_toArray, List.set_cons_zero, List.set_cons_succ]
            refine takeH_yes (i := 4) (v := ?_) rfl (by kernel_rfl) (by kernel_rfl) (by kernel_rfl) (fun _ _ _ h => h) (by kernel_rfl) ?_ (by assumption) ?_
            rotate_left
            · intro wz hSw; (try dsimp only at hSw); go_simp; try with_reducible rfl
            simp only [Act.put, List.setIfInBounds_toArray, List.set_cons_zero, List.set_cons_succ]
            refine takeH_yes (i := 6) (v := ?_) rfl (by kernel_rfl) (by kernel_rfl) (by kernel_rfl) (fun _ _ _ h => h) (by kernel_rfl) ?_ (by assumption) ?_
            rotate_left
            · intro wz hSw; (try dsimp only at hSw); go_simp; try with_reducible rfl
            simp only [Act.put, List.setIfInBounds_toArray, List.set_cons_zero, List.set_cons_succ]
            refine takeH_yes (i := 7) (v := ?_) rfl (by kernel_rfl) (by kernel_rfl) (by kernel_rfl) (fun _ _ _ h => h) (by kernel_rfl) ?_ (by assumption) ?_
            rotate_left
            · intro wz hSw; (try dsimp only at hSw); go_simp; try with_reducible rfl
            simp only [Act.put, List.setIfInBounds_toArray, List.set_cons_zero, List.set_cons_succ]
            refine takeH_yes (i := 8) (v := ?_) rfl (by kernel_rfl) (by kernel_rfl) (by kernel_rfl) (fun _ _ _ h => h) (by kernel_rfl) ?_ (by assumption) ?_
            rotate_left
            · intro wz hSw; (try dsimp only at hSw); go_simp; try with_reducible rfl
            simp only [Act.put, List.setIfInBounds_toArray, List.set_cons_zero, List.set_cons_succ]
            refine takeH_yes (i := 9) (v := ?_) rfl (by kernel_rfl) (by kernel_rfl) (by kernel_rfl) (fun _ _ _ h => h) (by kernel_rfl) ?_ (by assumption) ?_
            rotate_left
            · intro wz hSw; (try dsimp only at hSw); go_simp; try with_reducible rfl
            simp only [Act.put, List.setIfInBounds_toArray, List.set_cons_zero, List.set_cons_succ]
            refine takeH_yes (i := 10) (v := ?_) rfl (by kernel_rfl) (by kernel_rfl) (by kernel_rfl) (fun _ _ _ h => h) (by kernel_rfl) ?_ (by assumption) ?_
            rotate_left
            · intro wz hSw; (try dsimp only at hSw); go_simp; try with_reducible rfl
            simp only [Act.put, List.setIfInBounds_toArray, List.set_cons_zero, List.set_cons_succ]
            refine twoH (i := 5) (j := 11) rfl rfl (by kernel_rfl) (fun K hK => ?_) (fun K hK => ?_)
            · go_simp
              go_at_call 10
              refine (KD.out _).mono ?_
              rintro e wx ⟨rfl, hbx⟩
              have hb := hb.trans (hbx.mono hb.size)
              clear hbx
              refine hK.out _ _ (HC.out _ (HB5.out _ hb)) (fun hHeld => ?_)
              clear hK K
              try simp only [Act.put, List.setIfInBounds_toArray, List.set_cons_zero, List.set_cons_succ]
              refine oneH (i := 11) rfl (by kernel_rfl) (fun K hK => ?_)
              go_simp
              have hrd := RD.of hb hsm
              have hb := HTX.out _ hb
              refine hK.out _ _ (HC.out _ (HB5.out _ hb)) (fun hHeld => ?_)
              clear hK K
              try simp only [Act.put, List.setIfInBounds_toArray, List.set_cons_zero, List.set_cons_succ]
              refine oneH (i := 12) rfl (by kernel_rfl) (fun K hK => ?_)
              go_simp
              go_at_call 12
              refine (TA.out _ _ _ _ _ (HM5.out.below hb) hrd.reads hrd.le hrd.cap).mono ?_
              rintro e w7 ⟨rfl, ⟨S', tl', cnt', hc', hm7⟩, hbF⟩
              refine hK.out _ _ (HC.out _ hbF) (fun hHeld => ?_)
              clear hK K
              try simp only [Act.put, List.setIfInBounds_toArray, List.set_cons_zero, List.set_cons_succ]
              refine takeH_yes (i := 13) (v := ?_) rfl (by kernel_rfl) (by kernel_rfl) (by kernel_rfl) (fun _ _ _ h => h) (by kernel_rfl) ?_ (by assumption) ?_
              rotate_left
              · intro wz hSw; (try dsimp only at hSw); go_simp; try with_reducible rfl
              simp only [Act.put, List.setIfInBounds_toArray, List.set_cons_zero, List.set_cons_succ]
              refine takeH_yes (i := 14) (v := ?_) rfl (by kernel_rfl) (by kernel_rfl) (by kernel_rfl) (fun _ _ _ h => h) (by kernel_rfl) ?_ (by assumption) ?_
              rotate_left
              · intro wz hSw; (try dsimp only at hSw); go_simp; try with_reducible rfl
              simp only [Act.put, List.setIfInBounds_toArray, List.set_cons_zero, List.set_cons_succ]
              refine takeH_yes (i := 15) (v := ?_) rfl (by kernel_rfl) (by kernel_rfl) (by kernel_rfl) (fun _ _ _ h => h) (by kernel_rfl) ?_ (by assumption) ?_
              rotate_left
              · intro wz hSw; (try dsimp only at hSw); go_simp; try with_reducible rfl
              simp only [Act.put, List.setIfInBounds_toArray, List.set_cons_zero, List.set_cons_succ]
              refine takeH_yes (i := 16) (v := ?_) rfl (by kernel_rfl) (by kernel_rfl) (by kernel_rfl) (fun _ _ _ h => h) (by kernel_rfl) ?_ (by assumption) ?_
              rotate_left
              · intro wz hSw; (try dsimp only at hSw); go_simp; try with_reducible rfl
              simp only [Act.put, List.setIfInBounds_toArray, List.set_cons_zero, List.set_cons_succ]
              refine takeH_yes (i := 17) (v := ?_) rfl (by kernel_rfl) (by kernel_rfl) (by kernel_rfl) (fun _ _ _ h => h) (by kernel_rfl) ?_ (by assumption) ?_
              rotate_left
              · intro wz hSw; (try dsimp only at hSw); go_simp; try with_reducible rfl
              simp only [Act.put, List.setIfInBounds_toArray, List.set_cons_zero, List.set_cons_succ]
              refine takeH_yes (i := 18) (v := ?_) rfl (by kernel_rfl) (by kernel_rfl) (by kernel_rfl) (fun _ _ _ h => h) (by kernel_rfl) ?_ (by assumption) ?_
              rotate_left
              · intro wz hSw; (try dsimp only at hSw); go_simp; try with_reducible rfl
              simp only [Act.put, List.setIfInBounds_toArray, List.set_cons_zero, List.set_cons_succ]
              refine takeH_yes (i := 19) (v := ?_) rfl (by kernel_rfl) (by kernel_rfl) (by kernel_rfl) (fun _ _ _ h => h) (by kernel_rfl) ?_ (by assumption) ?_
              rotate_left
              · intro wz hSw; (try dsimp only at hSw); go_simp; try with_reducible rfl
              simp only [Act.put, List.setIfInBounds_toArray, List.set_cons_zero, List.set_cons_succ]
              refine wpAnyH_done (by kernel_rfl) ?_ _
              exact ⟨S', tl', cnt', hc', hm7, hbF, ex_frame rfl⟩
            · go_simp
              have hrd := RD.of hb hsm
              have hb := HTX.out _ hb
              refine hK.out _ _ (HC.out _ (HB5.out _ hb)) (fun hHeld => ?_)
              clear hK K
              try simp only [Act.put, List.setIfInBounds_toArray, List.set_cons_zero, List.set_cons_succ]
              refine oneH (i := 5) rfl (by kernel_rfl) (fun K hK => ?_)
              go_simp
              go_at_call 10
              refine (KD.out _).mono ?_
              rintro e wx ⟨rfl, hbx⟩
              have hrd := hrd.below hbx
              have hb := hb.trans (hbx.mono hb.size)
              clear hbx
              refine hK.out _ _ (HC.out _ (HB5.out _ hb)) (fun hHeld => ?_)
              clear hK K
              try simp only [Act.put, List.setIfInBounds_toArray, List.set_cons_zero, List.set_cons_succ]
              refine oneH (i := 12) rfl (by kernel_rfl) (fun K hK => ?_)
              go_simp
              go_at_call 12
              refine (TA.out _ _ _ _ _ (HM5.out.below hb) hrd.reads hrd.le hrd.cap).mono ?_
              rintro e w7 ⟨rfl, ⟨S', tl', cnt', hc', hm7⟩, hbF⟩
              refine hK.out _ _ (HC.out _ hbF) (fun hHeld => ?_)
              clear hK K
              try simp only [Act.put, List.setIfInBounds_toArray, List.set_cons_zero, List.set_cons_succ]
              refine takeH_yes (i := 13) (v := ?_) rfl (by kernel_rfl) (by kernel_rfl) (by kernel_rfl) (fun _ _ _ h => h) (by kernel_rfl) ?_ (by assumption) ?_
              rotate_left
              · intro wz hSw; (try dsimp only at hSw); go_simp; try with_reducible rfl
              simp only [Act.put, List.setIfInBounds_toArray, List.set_cons_zero, List.set_cons_succ]
              refine takeH_yes (i := 14) (v := ?_) rfl (by kernel_rfl) (by kernel_rfl) (by kernel_rfl) (fun _ _ _ h => h) (by kernel_rfl) ?_ (by assumption) ?_
              rotate_left
              · intro wz hSw; (try dsimp only at hSw); go_simp; try with_reducible rfl
              simp only [Act.put, List.setIfInBounds_toArray, List.set_cons_zero, List.set_cons_succ]
              refine takeH_yes (i := 15) (v := ?_) rfl (by kernel_rfl) (by kernel_rfl) (by kernel_rfl) (fun _ _ _ h => h) (by kernel_rfl) ?_ (by assumption) ?_
              rotate_left
              · intro wz hSw; (try dsimp only at hSw); go_simp; try with_reducible rfl
              simp only [Act.put, List.setIfInBounds_toArray, List.set_cons_zero, List.set_cons_succ]
              refine takeH_yes (i := 16) (v := ?_) rfl (by kernel_rfl) (by kernel_rfl) (by kernel_rfl) (fun _ _ _ h => h) (by kernel_rfl) ?_ (by assumption) ?_
              rotate_left
              · intro wz hSw; (try dsimp only at hSw); go_simp; try with_reducible rfl
              simp only [Act.put, List.setIfInBounds_toArray, List.set_cons_zero, List.set_cons_succ]
              refine takeH_yes (i := 17) (v := ?_) rfl (by kernel_rfl) (by kernel_rfl) (by kernel_rfl) (fun _ _ _ h => h) (by kernel_rfl) ?_ (by assumption) ?_
              rotate_left
              · intro wz hSw; (try dsimp only at hSw); go_simp; try with_reducible rfl
              simp only [Act.put, List.setIfInBounds_toArray, List.set_cons_zero, List.set_cons_succ]
              refine takeH_yes (i := 18) (v := ?_) rfl (by kernel_rfl) (by kernel_rfl) (by kernel_rfl) (fun _ _ _ h => h) (by kernel_rfl) ?_ (by assumption) ?_
              rotate_left
              · intro wz hSw; (try dsimp only at hSw); go_simp; try with_reducible rfl
              simp only [Act.put, List.setIfInBounds_toArray, List.set_cons_zero, List.set_cons_succ]
              refine takeH_yes (i := 19) (v := ?_) rfl (by kernel_rfl) (by kernel_rfl) (by kernel_rfl) (fun _ _ _ h => h) (by kernel_rfl) ?_ (by assumption) ?_
              rotate_left
              · intro wz hSw; (try dsimp only at hSw); go_simp; try with_reducible rfl
              simp only [Act.put, List.setIfInBounds_toArray, List.set_cons_zero, List.set_cons_succ]
              refine wpAnyH_done (by kernel_rfl) ?_ _
              exact ⟨S', tl', cnt', hc', hm7, hbF, ex_frame rfl⟩
          · intro e a' w7 hq7
            cases e <;> try exact hq7.elim
            obtain ⟨S', tl', cnt', hc', hm7, hbF, X, rfl⟩ := hq7
            have HM7 := Lib.hid hm7
            clear hm7 HM5 hbE LG
            go_wp2
            refine Code.wp_mono (Q := OnNormal fun a' W' => Below w7.heap.size w7 W' ∧ ∃ Z : Nat → Value, a' = { tmps := #[.int .u64 key, .int .u8 da, .int .u8 fi, .int .u16 lm, .slice (some ⟨b, off, none⟩) len cap, .agg #[.bool tf, .string ts], undef, undef, undef, undef, undef, .pointer (some ⟨w.heap.size, 0, none⟩), u12, .pointer (some ⟨p, 0, none⟩), v', .int .i64 y, v', .int .i64 at_, .bool fr, .bool true, .int .i64 at_, .bool fr, .int .i64 0, undef, undef, undef, undef, undef, undef, undef, .bool true, .bool false, .int .u64 key, .int .u8 da, .int .u8 fi, .int .u16 lm, .int .i64 lm, .pointer (some ⟨p, 0, none⟩), .int .i64 y, .slice (some ⟨b, off, none⟩) len cap, .int .i64 len, .bool true, .bool true, .int .i64 y, .bool true, .bool true, u46, u47, .slice (some ⟨b, off, none⟩) len cap, .int .i64 y, .pointer (some ⟨b, off + y * 2, none⟩), .agg #[.bool af, .string sx], .bool true, .bool false, u54, Z 55, Z 56, Z 57, Z 58, Z 59, Z 60, Z 61, Z 62, Z 63, Z 64, Z 65, Z 66, Z 67, Z 68, Z 69, Z 70, Z 71, Z 72, Z 73, Z 74, Z 75, Z 76, Z 77, Z 78, Z 79, Z 80, Z 81, Z 82, Z 83, Z 84, Z 85, Z 86, Z 87, Z 88, Z 89, Z 90, Z 91, Z 92, Z 93, Z 94, Z 95, Z 96, Z 97, Z 98, Z 99, Z 100, Z 101, Z 102, Z 103, Z 104, Z 105, Z 106, Z 107, Z 108, Z 109, Z 110, Z 111, Z 112, Z 113, Z 114, Z 115, Z 116, Z 117, Z 118, Z 119, Z 120, Z 121, Z 122, Z 123, Z 124, Z 125, Z 126, Z 127, Z 128, Z 129, Z 130, Z 131, Z 132, Z 133, Z 134, .bool false, undef, undef, undef, undef, undef, undef, undef, undef, undef, undef, undef, undef, undef, undef, undef, undef, undef, undef, undef, undef, undef, undef, undef, undef, undef, undef, undef, undef, undef, undef, undef, undef, undef, undef, undef, undef, undef, undef, undef, undef, undef, undef, undef, undef, undef, undef, undef, undef, undef, undef, undef, undef, undef, undef, undef, undef, undef, undef, undef, undef, undef, undef, undef, undef, undef, undef, undef, undef], defers := [] }) ?_ ?_
            rotate_left
            · have hb : Below w7.heap.size w7 w7.drew := below_drewn (Below.refl _ _) 1
              have HB7 := Lib.hid (fun wx (hx : Below w7.heap.size w7 wx) => (hbF.trans (hx.mono hbF.size) : Below w0.heap.size w0 wx))
              have HTX : Hid (∀ wx, Below w7.heap.size w7 wx → Below w7.heap.size w7 (textW wx sx)) := Lib.hid (fun wx h => textW_bel sx h)
              clear hbF
              refine wp_region_held_drew (S := fun w' => w'.cell? ⟨b, off + y * 2, none⟩ = some (.bool af) ∧ w'.cell? ⟨b, off + y * 2 + 1, none⟩ = some (.string sx)) (by kernel_rfl) (HC.out _ (HB7.out _ hb)) (fun hHeld => ?_)
              refine takeH_yes (i := 0) (v := ?_) rfl (by kernel_rfl) (by kernel_rfl) (by kernel_rfl) (fun _ _ _ h => h) (by kernel_rfl) ?_ (by assumption) ?_
              rotate_left
              · intro wz hSw; (try dsimp only at hSw); go_simp; try with_reducible rfl
              simp only [Act.put, List.setIfInBounds_toArray, List.set_cons_zero, List.set_cons_succ]
              refine takeH_yes (i := 1) (v := ?_) rfl (by kernel_rfl) (by kernel_rfl) (by kernel_rfl) (fun _ _ _ h => h) (by kernel_rfl) ?_ (by assumption) ?_
              rotate_left
              · intro wz hSw; (try dsimp only at hSw); go_simp; try with_reducible rfl
              simp only [Act.put, List.setIfInBounds_toArray, List.set_cons_zero, List.set_cons_succ]
              refine takeH_yes (i := 2) (v := ?_) rfl (by kernel_rfl) (by kernel_rfl) (by kernel_rfl) (fun _ _ _ h => h) (by kernel_rfl) ?_ (by assumption) ?_
              rotate_left
              · intro wz hSw; (try dsimp only at hSw); go_simp; try with_reducible rfl
              simp only [Act.put, List.setIfInBounds_toArray, List.set_cons_zero, List.set_cons_succ]
              refine takeH_yes (i := 3) (v := ?_) rfl (by kernel_rfl) (by kernel_rfl) (by kernel_rfl) (fun _ _ _ h => h) (by kernel_rfl) ?_ (by assumption) ?_
              rotate_left
              · intro wz hSw; (try dsimp only at hSw); go_simp; try with_reducible rfl
              simp only [Act.put, List.setIfInBounds_toArray, List.set_cons_zero, List.set_cons_succ]
              refine takeH_yes (i := 4) (v := ?_) rfl (by kernel_rfl) (by kernel_rfl) (by kernel_rfl) (fun _ _ _ h => h) (by kernel_rfl) ?_ (by assumption) ?_
              rotate_left
              · intro wz hSw; (try dsimp only at hSw); go_simp; try with_reducible rfl
              simp only [Act.put, List.setIfInBounds_toArray, List.set_cons_zero, List.set_cons_succ]
              refine takeH_yes (i := 5) (v := ?_) rfl (by kernel_rfl) (by kernel_rfl) (by kernel_rfl) (fun _ _ _ h => h) (by kernel_rfl) ?_ (by assumption) ?_
              rotate_left
              · intro wz hSw; (try dsimp only at hSw); go_simp; try with_reducible rfl
              simp only [Act.put, List.setIfInBounds_toArray, List.set_cons_zero, List.set_cons_succ]
              refine takeH_yes (i := 6) (v := ?_) rfl (by kernel_rfl) (by kernel_rfl) (by kernel_rfl) (fun _ _ _ h => h) (by kernel_rfl) ?_ (by assumption) ?_
              rotate_left
              · intro wz hSw; (try dsimp only at hSw); go_simp; try with_reducible rfl
              simp only [Act.put, List.setIfInBounds_toArray, List.set_cons_zero, List.set_cons_succ]
              refine takeH_yes (i := 7) (v := ?_) rfl (by kernel_rfl) (by kernel_rfl) (by kernel_rfl) (fun _ _ _ h => h) (by kernel_rfl) ?_ (by assumption) ?_
              rotate_left
              · intro wz hSw; (try dsimp only at hSw); go_simp; try with_reducible rfl
              simp only [Act.put, List.setIfInBounds_toArray, List.set_cons_zero, List.set_cons_succ]
              refine takeH_yes (i := 8) (v := ?_) rfl (by kernel_rfl) (by kernel_rfl) (by kernel_rfl) (fun _ _ _ h => h) (by kernel_rfl) ?_ (by assumption) ?_
              rotate_left
              · intro wz hSw; (try dsimp only at hSw); go_simp; try with_reducible rfl
              simp only [Act.put, List.setIfInBounds_toArray, List.set_cons_zero, List.set_cons_succ]
              refine takeH_yes (i := 9) (v := ?_) rfl (by kernel_rfl) (by kernel_rfl) (by kernel_rfl) (fun _ _ _ h => h) (by kernel_rfl) ?_ (by assumption) ?_
              rotate_left
              · intro wz hSw; (try dsimp only at hSw); go_simp; try with_reducible rfl
              simp only [Act.put, List.setIfInBounds_toArray, List.set_cons_zero, List.set_cons_succ]
              refine takeH_yes (i := 10) (v := ?_) rfl (by kernel_rfl) (by kernel_rfl) (by kernel_rfl) (fun _ _ _ h => h) (by kernel_rfl) ?_ (by assumption) ?_
              rotate_left
              · intro wz hSw; (try dsimp only at hSw); go_simp; try with_reducible rfl
              simp only [Act.put, List.setIfInBounds_toArray, List.set_cons_zero, List.set_cons_succ]
              refine takeH_yes (i := 11) (v := ?_) rfl (by kernel_rfl) (by kernel_rfl) (by kernel_rfl) (fun _ _ _ h => h) (by kernel_rfl) ?_ (by assumption) ?_
              rotate_left
              · intro wz hSw; (try dsimp only at hSw); go_simp; try with_reducible rfl
              simp only [Act.put, List.setIfInBounds_toArray, List.set_cons_zero, List.set_cons_succ]
              refine takeH_yes (i := 12) (v := ?_) rfl (by kernel_rfl) (by kernel_rfl) (by kernel_rfl) (fun _ _ _ h => h) (by kernel_rfl) ?_ (by assumption) ?_
              rotate_left
              · intro wz hSw; (try dsimp only at hSw); go_simp; try with_reducible rfl
              simp only [Act.put, List.setIfInBounds_toArray, List.set_cons_zero, List.set_cons_succ]
              refine takeH_yes (i := 13) (v := ?_) rfl (by kernel_rfl) (by kernel_rfl) (by kernel_rfl) (fun _ _ _ h => h) (by kernel_rfl) ?_ (by assumption) ?_
              rotate_left
              · intro wz hSw; (try dsimp only at hSw); go_simp; try with_reducible rfl
              simp only [Act.put, List.setIfInBounds_toArray, List.set_cons_zero, List.set_cons_succ]
              refine takeH_yes (i := 14) (v := ?_) rfl (by kernel_rfl) (by kernel_rfl) (by kernel_rfl) (fun _ _ _ h => h) (by kernel_rfl) ?_ (by assumption) ?_
              rotate_left
              · intro wz hSw; (try dsimp only at hSw); go_simp; try with_reducible rfl
              simp only [Act.put, List.setIfInBounds_toArray, List.set_cons_zero, List.set_cons_succ]
              refine takeH_yes (i := 15) (v := ?_) rfl (by kernel_rfl) (by kernel_rfl) (by kernel_rfl) (fun _ _ _ h => h) (by kernel_rfl) ?_ (by assumption) ?_
              rotate_left
              · intro wz hSw; (try dsimp only at hSw); go_simp; try with_reducible rfl
              simp only [Act.put, List.setIfInBounds_toArray, List.set_cons_zero, List.set_cons_succ]
              refine takeH_yes (i := 16) (v := ?_) rfl (by kernel_rfl) (by kernel_rfl) (by kernel_rfl) (fun _ _ _ h => h) (by kernel_rfl) ?_ (by assumption) ?_
              rotate_left
              · intro wz hSw; (try dsimp only at hSw); go_simp; try with_reducible rfl
              simp only [Act.put, List.setIfInBounds_toArray, List.set_cons_zero, List.set_cons_succ]
              refine takeH_yes (i := 17) (v := ?_) rfl (by kernel_rfl) (by kernel_rfl) (by kernel_rfl) (fun _ _ _ h => h) (by kernel_rfl) ?_ (by assumption) ?_
              rotate_left
              · intro wz hSw; (try dsimp only at hSw); go_simp; try with_reducible rfl
              simp only [Act.put, List.setIfInBounds_toArray, List.set_cons_zero, List.set_cons_succ]
              refine takeH_yes (i := 18) (v := ?_) rfl (by kernel_rfl) (by kernel_rfl) (by kernel_rfl) (fun _ _ _ h => h) (by kernel_rfl) ?_ (by assumption) ?_
              rotate_left
              · intro wz hSw; (try dsimp only at hSw); go_simp; try with_reducible rfl
              simp only [Act.put, List.setIfInBounds_toArray, List.set_cons_zero, List.set_cons_succ]
              refine takeH_yes (i := 21) (v := ?_) rfl (by kernel_rfl) (by kernel_rfl) (by kernel_rfl) (fun _ _ _ h => h) (by kernel_rfl) ?_ (by assumption) ?_
              rotate_left
              · intro wz hSw; (try dsimp only at hSw); go_simp; try with_reducible rfl
              simp only [Act.put, List.setIfInBounds_toArray, List.set_cons_zero, List.set_cons_succ]
              refine takeH_yes (i := 22) (v := ?_) rfl (by kernel_rfl) (by kernel_rfl) (by kernel_rfl) (fun _ _ _ h => h) (by kernel_rfl) ?_ (by assumption) ?_
              rotate_left
              · intro wz hSw; (try dsimp only at hSw); go_simp; try with_reducible rfl
              simp only [Act.put, List.setIfInBounds_toArray, List.set_cons_zero, List.set_cons_succ]
              refine takeH_yes (i := 23) (v := ?_) rfl (by kernel_rfl) (by kernel_rfl) (by kernel_rfl) (fun _ _ _ h => h) (by kernel_rfl) ?_ (by assumption) ?_
              rotate_left
              · intro wz hSw; (try dsimp only at hSw); go_simp; try with_reducible rfl
              simp only [Act.put, List.setIfInBounds_toArray, List.set_cons_zero, List.set_cons_succ]
              refine takeH_yes (i := 24) (v := ?_) rfl (by kernel_rfl) (by kernel_rfl) (by kernel_rfl) (fun _ _ _ h => h) (by kernel_rfl) ?_ (by assumption) ?_
              rotate_left
              · intro wz hSw; (try dsimp only at hSw); go_simp; try with_reducible rfl
              simp only [Act.put, List.setIfInBounds_toArray, List.set_cons_zero, List.set_cons_succ]
              refine takeH_yes (i := 25) (v := ?_) rfl (by kernel_rfl) (by kernel_rfl) (by kernel_rfl) (fun _ _ _ h => h) (by kernel_rfl) ?_ (by assumption) ?_
              rotate_left
              · intro wz hSw; (try dsimp only at hSw); go_simp; try with_reducible rfl
              simp only [Act.put, List.setIfInBounds_toArray, List.set_cons_zero, List.set_cons_succ]
              refine takeH_yes (i := 26) (v := ?_) rfl (by kernel_rfl) (by kernel_rfl) (by kernel_rfl) (fun _ _ _ h => h) (by kernel_rfl) ?_ (by assumption) ?_
              rotate_left
              · intro wz hSw; (try dsimp only at hSw); go_simp; try with_reducible rfl
              simp only [Act.put, List.setIfInBounds_toArray, List.set_cons_zero, List.set_cons_succ]
              refine twoH (i := 19) (j := 27) rfl rfl (by kernel_rfl) (fun K hK => ?_) (fun K hK => ?_)
              · go_simp
                have hrd := RD.of hb hsm
                have hb := HTX.out _ hb
                refine hK.out _ _ (HC.out _ (HB7.out _ hb)) (fun hHeld => ?_)
                clear hK K
                try simp only [Act.put, List.setIfInBounds_toArray, List.set_cons_zero, List.set_cons_succ]
                refine twoH (i := 20) (j := 27) rfl rfl (by kernel_rfl) (fun K hK => ?_) (fun K hK => ?_)
                · go_simp
                  go_at_call 13
                  refine (Mid.sum (HM7.out.below hb) hrd hs47).mono ?_
                  rintro e wx ⟨rfl, hbx⟩
                  have hb := hb.trans (hbx.mono hb.size)
                  clear hbx
                  refine hK.out _ _ (HC.out _ (HB7.out _ hb)) (fun hHeld => ?_)
                  clear hK K
                  try simp only [Act.put, List.setIfInBounds_toArray, List.set_cons_zero, List.set_cons_succ]
                  refine oneH (i := 27) rfl (by kernel_rfl) (fun K hK => ?_)
                  go_simp
                  have hrd2 := RD.of hb hsm
                  have hb := HTX.out _ hb
                  refine hK.out _ _ (HC.out _ (HB7.out _ hb)) (fun hHeld => ?_)
                  clear hK K
                  try simp only [Act.put, List.setIfInBounds_toArray, List.set_cons_zero, List.set_cons_succ]
                  refine oneH (i := 28) rfl (by kernel_rfl) (fun K hK => ?_)
                  go_simp
                  go_at_call 14
                  refine (rhash_rd HKU.out hrd2 hs47).mono ?_
                  rintro e wx ⟨rfl, rfl⟩
                  refine hK.out _ _ (HC.out _ (HB7.out _ hb)) (fun hHeld => ?_)
                  clear hK K
                  try simp only [Act.put, List.setIfInBounds_toArray, List.set_cons_zero, List.set_cons_succ]
                  refine takeH_yes (i := 29) (v := ?_) rfl (by kernel_rfl) (by kernel_rfl) (by kernel_rfl) (fun _ _ _ h => h) (by kernel_rfl) ?_ (by assumption) ?_
                  rotate_left
                  · intro wz hSw; (try dsimp only at hSw); go_simp; try with_reducible rfl
                  simp only [Act.put, List.setIfInBounds_toArray, List.set_cons_zero, List.set_cons_succ]
                  refine takeH_yes (i := 30) (v := ?_) rfl (by kernel_rfl) (by kernel_rfl) (by kernel_rfl) (fun _ _ _ h => h) (by kernel_rfl) ?_ (by assumption) ?_
                  rotate_left
                  · intro wz hSw; (try dsimp only at hSw); go_simp; try with_reducible rfl
                  simp only [Act.put, List.setIfInBounds_toArray, List.set_cons_zero, List.set_cons_succ]
                  refine wpAnyH_done (by kernel_rfl) ?_ _
                  exact ⟨hb, ex_frame rfl⟩
                · go_simp
                  have hrd2 := RD.of hb hsm
                  have hrd := hrd.below (textW_below _ sx)
                  have hb := HTX.out _ hb
                  refine hK.out _ _ (HC.out _ (HB7.out _ hb)) (fun hHeld => ?_)
                  clear hK K
                  try simp only [Act.put, List.setIfInBounds_toArray, List.set_cons_zero, List.set_cons_succ]
                  refine oneH (i := 20) rfl (by kernel_rfl) (fun K hK => ?_)
                  go_simp
                  go_at_call 13
                  refine (Mid.sum (HM7.out.below hb) hrd hs47).mono ?_
                  rintro e wx ⟨rfl, hbx⟩
                  have hrd2 := hrd2.below hbx
                  have hb := hb.trans (hbx.mono hb.size)
                  clear hbx
                  refine hK.out _ _ (HC.out _ (HB7.out _ hb)) (fun hHeld => ?_)
                  clear hK K
                  try simp only [Act.put, List.setIfInBounds_toArray, List.set_cons_zero, List.set_cons_succ]
                  refine oneH (i := 28) rfl (by kernel_rfl) (fun K hK => ?_)
                  go_simp
                  go_at_call 14
                  refine (rhash_rd HKU.out hrd2 hs47).mono ?_
                  rintro e wx ⟨rfl, rfl⟩
                  refine hK.out _ _ (HC.out _ (HB7.out _ hb)) (fun hHeld => ?_)
                  clear hK K
                  try simp only [Act.put, List.setIfInBounds_toArray, List.set_cons_zero, List.set_cons_succ]
                  refine takeH_yes (i := 29) (v := ?_) rfl (by kernel_rfl) (by kernel_rfl) (by kernel_rfl) (fun _ _ _ h => h) (by kernel_rfl) ?_ (by assumption) ?_
                  rotate_left
                  · intro wz hSw; (try dsimp only at hSw); go_simp; try with_reducible rfl
                  simp only [Act.put, List.setIfInBounds_toArray, List.set_cons_zero, List.set_cons_succ]
                  refine takeH_yes (i := 30) (v := ?_) rfl (by kernel_rfl) (by kernel_rfl) (by kernel_rfl) (fun _ _ _ h => h) (by kernel_rfl) ?_ (by assumption) ?_
                  rotate_left
                  · intro wz hSw; (try dsimp only at hSw); go_simp; try with_reducible rfl
                  simp only [Act.put, List.setIfInBounds_toArray, List.set_cons_zero, List.set_cons_succ]
                  refine wpAnyH_done (by kernel_rfl) ?_ _
                  exact ⟨hb, ex_frame rfl⟩
              · go_simp
                have hrd2 := RD.of hb hsm
                have hb := HTX.out _ hb
                refine hK.out _ _ (HC.out _ (HB7.out _ hb)) (fun hHeld => ?_)
                clear hK K
                try simp only [Act.put, List.setIfInBounds_toArray, List.set_cons_zero, List.set_cons_succ]
                refine oneH (i := 19) rfl (by kernel_rfl) (fun K hK => ?_)
                go_simp
                have hrd := RD.of hb hsm
                have hrd2 := hrd2.below (textW_below _ sx)
                have hb := HTX.out _ hb
                refine hK.out _ _ (HC.out _ (HB7.out _ hb)) (fun hHeld => ?_)
                clear hK K
                try simp only [Act.put, List.setIfInBounds_toArray, List.set_cons_zero, List.set_cons_succ]
                refine oneH (i := 20) rfl (by kernel_rfl) (fun K hK => ?_)
                go_simp
                go_at_call 13
                refine (Mid.sum (HM7.out.below hb) hrd hs47).mono ?_
                rintro e wx ⟨rfl, hbx⟩
                have hrd2 := hrd2.below hbx
                have hb := hb.trans (hbx.mono hb.size)
                clear hbx
                refine hK.out _ _ (HC.out _ (HB7.out _ hb)) (fun hHeld => ?_)
                clear hK K
                try simp only [Act.put, List.setIfInBounds_toArray, List.set_cons_zero, List.set_cons_succ]
                refine oneH (i := 28) rfl (by kernel_rfl) (fun K hK => ?_)
                go_simp
                go_at_call 14
                refine (rhash_rd HKU.out hrd2 hs47).mono ?_
                rintro e wx ⟨rfl, rfl⟩
                refine hK.out _ _ (HC.out _ (HB7.out _ hb)) (fun hHeld => ?_)
                clear hK K
                try simp only [Act.put, List.setIfInBounds_toArray, List.set_cons_zero, List.set_cons_succ]
                refine takeH_yes (i := 29) (v := ?_) rfl (by kernel_rfl) (by kernel_rfl) (by kernel_rfl) (fun _ _ _ h => h) (by kernel_rfl) ?_ (by assumption) ?_
                rotate_left
                · intro wz hSw; (try dsimp only at hSw); go_simp; try with_reducible rfl
                simp only [Act.put, List.setIfInBounds_toArray, List.set_cons_zero, List.set_cons_succ]
                refine takeH_yes (i := 30) (v := ?_) rfl (by kernel_rfl) (by kernel_rfl) (by kernel_rfl) (fun _ _ _ h => h) (by kernel_rfl) ?_ (by assumption) ?_
                rotate_left
                · intro wz hSw; (try dsimp only at hSw); go_simp; try with_reducible rfl
                simp only [Act.put, List.setIfInBounds_toArray, List.set_cons_zero, List.set_cons_succ]
                refine wpAnyH_done (by kernel_rfl) ?_ _
                exact ⟨hb, ex_frame rfl⟩
            · intro e a' w8 hq8
              cases e <;> try exact hq8.elim
              obtain ⟨hb, Z, rfl⟩ := hq8
              go_wp2
              go_roundw
              case rel => exact ⟨y + 1, S', l', tl', cnt', by omega, by omega, by go_num, by omega, Lib.hid (HM7.out.below hb)⟩
              case measure => simp [intOf]; omega
        · have RA := Lib.hid RAf
          have TA := Lib.hid TAf
          have hcv := conv_text sx
          obtain ⟨kd, hkd⟩ : ∃ kd, kdN af = kd := ⟨_, rfl⟩
          rw [hkd] at RA TA KD
          clear RAf TAf hkd hr
          go_wp2_with (go_at_call 8; refine LG.out.mono ?_; rintro e w6 ⟨rfl, hb6⟩)
          have hb : Below wr.heap.size wr w6.drew := below_drewn hb6 1
          have HTX : Hid (∀ wx, Below wr.heap.size wr wx → Below wr.heap.size wr (textW wx sx)) := Lib.hid (fun wx h => textW_bel sx h)
          clear c0 c1
          go_region_held3 (fun w' => w'.cell? ⟨b, off + y * 2, none⟩ = some (.bool af) ∧ w'.cell? ⟨b, off + y * 2 + 1, none⟩ = some (.string sx))
            (first | assumption | exact HC.out _ (HB.out _ hb))
            (first
              | (go_at_call 10; refine (KD.out _).mono ?_; rintro e wx ⟨rfl, hbx⟩; have hb := hb.trans (hbx.mono hb.size); clear hbx)
              | (go_at_call 11; refine (TL.out _ hb).mono ?_; rintro e wx ⟨rfl, rfl⟩)
              | (go_at_call 9; refine (RA.out _ hb).mono ?_; rintro e w5 ⟨rfl, rfl⟩))
          go_wp2
          have hb := below_drewn hb 1
          refine wp_region_held_drew (S := fun w' => w'.cell? ⟨b, off + y * 2, none⟩ = some (.bool af) ∧ w'.cell? ⟨b, off + y * 2 + 1, none⟩ = some (.string sx)) (by kernel_rfl) (HC.out _ (HB.out _ hb)) (fun hHeld => ?_)
          refine takeH_yes (i := 0) (v := ?_) rfl (by kernel_rfl) (by kernel_rfl) (by kernel_rfl) (fun _ _ _ h => h) (by kernel_rfl) ?_ (by assumption) ?_
          rotate_left
          · intro wz hSw; (try dsimp only at hSw); go_simp; try with_reducible rfl
          simp only [Act.put, List.setIfInBounds_toArray, List.set_cons_zero, List.set_cons_succ]
          refine takeH_yes (i := 1) (v := ?_) rfl (by kernel_rfl) (by kernel_rfl) (by kernel_rfl) (fun _ _ _ h => h) (by kernel_rfl) ?_ (by assumption) ?_
          rotate_left
          · intro wz hSw; (try dsimp only at hSw); go_simp; try with_reducible rfl
          simp only [Act.put, List.setIfInBounds_toArray, List.set_cons_zero, List.set_cons_succ]
          refine takeH_yes (i := 2) (v := ?_) rfl (by kernel_rfl) (by kernel_rfl) (by kernel_rfl) (fun _ _ _ h => h) (by kernel_rfl) ?_ (by assumption) ?_
          rotate_left
          · intro wz hSw; (try dsimp only at hSw); go_simp; try with_reducible rfl
          simp only [Act.put, List.setIfInBounds_toArray, List.set_cons_zero, List.set_cons_succ]
          refine takeH_yes (i := 3) (v := ?_) rfl (by kernel_rfl) (by kernel_rfl) (by kernel_rfl) (fun _ _ _ h => h) (by kernel_rfl) ?_ (by assumption) ?_
          rotate_left
          · intro wz hSw; (try dsimp only at hSw); go_simp; try with_reducible rfl
          simp only [Act.put, List.setIfInBounds_toArray, List.set_cons_zero, List.set_cons_succ]
          refine takeH_yes (i := 4) (v := ?_) rfl (by kernel_rfl) (by kernel_rfl) (by kernel_rfl) (fun _ _ _ h => h) (by kernel_rfl) ?_ (by assumption) ?_
          rotate_left
          · intro wz hSw; (try dsimp only at hSw); go_simp; try with_reducible rfl
          simp only [Act.put, List.setIfInBounds_toArray, List.set_cons_zero, List.set_cons_succ]
          refine takeH_yes (i := 6) (v := ?_) rfl (by kernel_rfl) (by kernel_rfl) (by kernel_rfl) (fun _ _ _ h => h) (by kernel_rfl) ?_ (by assumption) ?_
          rotate_left
          · intro wz hSw; (try dsimp only at hSw); go_simp; try with_reducible rfl
          simp only [Act.put, List.setIfInBounds_toArray, List.set_cons_zero, List.set_cons_succ]
          refine takeH_yes (i := 7) (v := ?_) rfl (by kernel_rfl) (by kernel_rfl) (by kernel_rfl) (fun _ _ _ h => h) (by kernel_rfl) ?_ (by assumption) ?_
          rotate_left
          · intro wz hSw; (try dsimp only at hSw); go_simp; try with_reducible rfl
          simp only [Act.put, List.setIfInBounds_toArray, List.set_cons_zero, List.set_cons_succ]
          refine takeH_yes (i := 8) (v := ?_) rfl (by kernel_rfl) (by kernel_rfl) (by kernel_rfl) (fun _ _ _ h => h) (by kernel_rfl) ?_ (by assumption) ?_
          rotate_left
          · intro wz hSw; (try dsimp only at hSw); go_simp; try with_reducible rfl
          simp only [Act.put, List.setIfInBounds_toArray, List.set_cons_zero, List.set_cons_succ]
          refine takeH_yes (i := 9) (v := ?_) rfl (by kernel_rfl) (by kernel_rfl) (by kernel_rfl) (fun _ _ _ h => h) (by kernel_rfl) ?_ (by assumption) ?_
          rotate_left
          · intro wz hSw; (try dsimp only at hSw); go_simp; try with_reducible rfl
          simp only [Act.put, List.setIfInBounds_toArray, List.set_cons_zero, List.set_cons_succ]
          refine takeH_yes (i := 10) (v := ?_) rfl (by kernel_rfl) (by kernel_rfl) (by kernel_rfl) (fun _ _ _ h => h) (by kernel_rfl) ?_ (by assumption) ?_
          rotate_left
          · intro wz hSw; (try dsimp only at hSw); go_simp; try with_reducible rfl
          simp only [Act.put, List.setIfInBounds_toArray, List.set_cons_zero, List.set_cons_succ]
          refine twoH (i := 5) (j := 11) rfl rfl (by kernel_rfl) (fun K hK => ?_) (fun K hK => ?_)
          · go_simp
            go_at_call 10
            refine (KD.out _).mono ?_
            rintro e wx ⟨rfl, hbx⟩
            have hb := hb.trans (hbx.mono hb.size)
            clear hbx
            refine hK.out _ _ (HC.out _ (HB.out _ hb)) (fun hHeld => ?_)
            clear hK K
            try simp only [Act.put, List.setIfInBounds_toArray, List.set_cons_zero, List.set_cons_succ]
            refine oneH (i := 11) rfl (by kernel_rfl) (fun K hK => ?_)
            go_simp
            have hrd := RD.of hb hsm
            have hb := HTX.out _ hb
            refine hK.out _ _ (HC.out _ (HB.out _ hb)) (fun hHeld => ?_)
            clear hK K
            try simp only [Act.put, List.setIfInBounds_toArray, List.set_cons_zero, List.set_cons_succ]
            refine oneH (i := 12) rfl (by kernel_rfl) (fun K hK => ?_)
            go_simp
            go_at_call 12
            refine (TA.out _ _ _ _ hb hrd.reads hrd.le hrd.cap).mono ?_
            rintro e w7 ⟨rfl, hb7⟩
            have hb := hb.trans (hb7.mono hb.size)
            clear hb7
            refine hK.out _ _ (HC.out _ (HB.out _ hb)) (fun hHeld => ?_)
            clear hK K
            try simp only [Act.put, List.setIfInBounds_toArray, List.set_cons_zero, List.set_cons_succ]
            refine takeH_yes (i := 13) (v := ?_) rfl (by kernel_rfl) (by kernel_rfl) (by kernel_rfl) (fun _ _ _ h => h) (by kernel_rfl) ?_ (by assumption) ?_
            rotate_left
            · intro wz hSw; (try dsimp only at hSw); go_simp; try with_reducible rfl
            simp only [Act.put, List.setIfInBounds_toArray, List.set_cons_zero, List.set_cons_succ]
            refine takeH_yes (i := 14) (v := ?_) rfl (by kernel_rfl) (by kernel_rfl) (by kernel_rfl) (fun _ _ _ h => h) (by kernel_rfl) ?_ (by assumption) ?_
            rotate_left
            · intro wz hSw; (try dsimp only at hSw); go_simp; try with_reducible rfl
            simp only [Act.put, List.setIfInBounds_toArray, List.set_cons_zero, List.set_cons_succ]
            refine takeH_yes (i := 15) (v := ?_) rfl (by kernel_rfl) (by kernel_rfl) (by kernel_rfl) (fun _ _ _ h => h) (by kernel_rfl) ?_ (by assumption) ?_
            rotate_left
            · intro wz hSw; (try dsimp only at hSw); go_simp; try with_reducible rfl
            simp only [Act.put, List.setIfInBounds_toArray, List.set_cons_zero, List.set_cons_succ]
            refine takeH_yes (i := 16) (v := ?_) rfl (by kernel_rfl) (by kernel_rfl) (by kernel_rfl) (fun _ _ _ h => h) (by kernel_rfl) ?_ (by assumption) ?_
            rotate_left
            · intro wz hSw; (try dsimp only at hSw); go_simp; try with_reducible rfl
            simp only [Act.put, List.setIfInBounds_toArray, List.set_cons_zero, List.set_cons_succ]
            refine takeH_yes (i := 17) (v := ?_) rfl (by kernel_rfl) (by kernel_rfl) (by kernel_rfl) (fun _ _ _ h => h) (by kernel_rfl) ?_ (by assumption) ?_
            rotate_left
            · intro wz hSw; (try dsimp only at hSw); go_simp; try with_reducible rfl
            simp only [Act.put, List.setIfInBounds_toArray, List.set_cons_zero, List.set_cons_succ]
            refine takeH_yes (i := 18) (v := ?_) rfl (by kernel_rfl) (by kernel_rfl) (by kernel_rfl) (fun _ _ _ h => h) (by kernel_rfl) ?_ (by assumption) ?_
            rotate_left
            · intro wz hSw; (try dsimp only at hSw); go_simp; try with_reducible rfl
            simp only [Act.put, List.setIfInBounds_toArray, List.set_cons_zero, List.set_cons_succ]
            refine takeH_yes (i := 19) (v := ?_) rfl (by kernel_rfl) (by kernel_rfl) (by kernel_rfl) (fun _ _ _ h => h) (by kernel_rfl) ?_ (by assumption) ?_
            rotate_left
            · intro wz hSw; (try dsimp only at hSw); go_simp; try with_reducible rfl
            simp only [Act.put, List.setIfInBounds_toArray, List.set_cons_zero, List.set_cons_succ]
            refine wpAnyH_done (by kernel_rfl) ?_ _
            go_wp2
            go_roundw
            case rel => exact ⟨y + 1, S, rs, tl, cnt, by omega, by omega, by go_num, by omega, Lib.hid (H.out.below hb)⟩
            case measure => simp [intOf]; omega
          · go_simp
            have hrd := RD.of hb hsm
            have hb := HTX.out _ hb
            refine hK.out _ _ (HC.out _ (HB.out _ hb)) (fun hHeld => ?_)
            clear hK K
            try simp only [Act.put, List.setIfInBounds_toArray, List.set_cons_zero, List.set_cons_succ]
            refine oneH (i := 5) rfl (by kernel_rfl) (fun K hK => ?_)
            go_simp
            go_at_call 10
            refine (KD.out _).mono ?_
            rintro e wx ⟨rfl, hbx⟩
            have hrd := hrd.below hbx
            have hb := hb.trans (hbx.mono hb.size)
            clear hbx
            refine hK.out _ _ (HC.out _ (HB.out _ hb)) (fun hHeld => ?_)
            clear hK K
            try simp only [Act.put, List.setIfInBounds_toArray, List.set_cons_zero, List.set_cons_succ]
            refine oneH (i := 12) rfl (by kernel_rfl) (fun K hK => ?_)
            go_simp
            go_at_call 12
            refine (TA.out _ _ _ _ hb hrd.reads hrd.le hrd.cap).mono ?_
            rintro e w7 ⟨rfl, hb7⟩
            have hb := hb.trans (hb7.mono hb.size)
            clear hb7
            refine hK.out _ _ (HC.out _ (HB.out _ hb)) (fun hHeld => ?_)
            clear hK K
            try simp only [Act.put, List.setIfInBounds_toArray, List.set_cons_zero, List.set_cons_succ]
            refine takeH_yes (i := 13) (v := ?_) rfl (by kernel_rfl) (by kernel_rfl) (by kernel_rfl) (fun _ _ _ h => h) (by kernel_rfl) ?_ (by assumption) ?_
            rotate_left
            · intro wz hSw; (try dsimp only at hSw); go_simp; try with_reducible rfl
            simp only [Act.put, List.setIfInBounds_toArray, List.set_cons_zero, List.set_cons_succ]
            refine takeH_yes (i := 14) (v := ?_) rfl (by kernel_rfl) (by kernel_rfl) (by kernel_rfl) (fun _ _ _ h => h) (by kernel_rfl) ?_ (by assumption) ?_
            rotate_left
            · intro wz hSw; (try dsimp only at hSw); go_simp; try with_reducible rfl
            simp only [Act.put, List.setIfInBounds_toArray, List.set_cons_zero, List.set_cons_succ]
            refine takeH_yes (i := 15) (v := ?_) rfl (by kernel_rfl) (by kernel_rfl) (by kernel_rfl) (fun _ _ _ h => h) (by kernel_rfl) ?_ (by assumption) ?_
            rotate_left
            · intro wz hSw; (try dsimp only at hSw); go_simp; try with_reducible rfl
            simp only [Act.put, List.setIfInBounds_toArray, List.set_cons_zero, List.set_cons_succ]
            refine takeH_yes (i := 16) (v := ?_) rfl (by kernel_rfl) (by kernel_rfl) (by kernel_rfl) (fun _ _ _ h => h) (by kernel_rfl) ?_ (by assumption) ?_
            rotate_left
            · intro wz hSw; (try dsimp only at hSw); go_simp; try with_reducible rfl
            simp only [Act.put, List.setIfInBounds_toArray, List.set_cons_zero, List.set_cons_succ]
            refine takeH_yes (i := 17) (v := ?_) rfl (by kernel_rfl) (by kernel_rfl) (by kernel_rfl) (fun _ _ _ h => h) (by kernel_rfl) ?_ (by assumption) ?_
            rotate_left
            · intro wz hSw; (try dsimp only at hSw); go_simp; try with_reducible rfl
            simp only [Act.put, List.setIfInBounds_toArray, List.set_cons_zero, List.set_cons_succ]
            refine takeH_yes (i := 18) (v := ?_) rfl (by kernel_rfl) (by kernel_rfl) (by kernel_rfl) (fun _ _ _ h => h) (by kernel_rfl) ?_ (by assumption) ?_
            rotate_left
            · intro wz hSw; (try dsimp only at hSw); go_simp; try with_reducible rfl
            simp only [Act.put, List.setIfInBounds_toArray, List.set_cons_zero, List.set_cons_succ]
            refine takeH_yes (i := 19) (v := ?_) rfl (by kernel_rfl) (by kernel_rfl) (by kernel_rfl) (fun _ _ _ h => h) (by kernel_rfl) ?_ (by assumption) ?_
            rotate_left
            · intro wz hSw; (try dsimp only at hSw); go_simp; try with_reducible rfl
            simp only [Act.put, List.setIfInBounds_toArray, List.set_cons_zero, List.set_cons_succ]
            refine wpAnyH_done (by kernel_rfl) ?_ _
            go_wp2
            go_roundw
            case rel => exact ⟨y + 1, S, rs, tl, cnt, by omega, by omega, by go_num, by omega, Lib.hid (H.out.below hb)⟩
            case measure => simp [intOf]; omega
    · have hxx : (¬ (y : Int) < (len : Int)) ∨ ((y : Int) < (len : Int) ∧ ¬ (y : Int) < 40) := by omega
      clear hlt
      obtain ⟨A', c', rfl, -, -, -⟩ := H.out.rows.rows
      have hn : rs.length ≤ 1000 := H.out.rows.most
      obtain ⟨n, hnn⟩ : ∃ n, rs.length = n := ⟨_, rfl⟩
      rw [hnn] at hn H ⊢
      have HNN := Lib.hid hnn
      clear hnn
      rcases hxx with u1 | ⟨u1, u2⟩
      all_goals
        go_wp2
        go_loopw [23] (fun z wr => ∃ i : Nat, i ≤ n ∧ z = .int .i64 i ∧ Hid (Mid w0 wr S p key D F lm rs tl cnt (.slice A' n c') rs)) (fun z _ => n - (intOf z).toNat)
        case atStart => exact ⟨0, Nat.zero_le _, rfl, H⟩
        case round =>
          clear H
          obtain ⟨i, hi, rfl, H⟩ := hrel
          by_cases hlt : i < n
          · have u3 : (i : Int) < (n : Int) := by omega
            obtain ⟨b2, off2, r, rfl, hb2, hri, d0, d1, d2⟩ := H.out.rows.rowsR.1.at_ hlt
            obtain ⟨hrb, hrl, hra, hrk⟩ := H.out.rows.fine r (List.mem_of_getElem? hri)
            have hfd := H.out.dist.find hri
            have hns := nums_str hrb
            have hss := strOfNums_size r.raw
            obtain ⟨sr, hsr⟩ : ∃ sr, strOfNums r.raw = sr := ⟨_, rfl⟩
            rw [hsr] at hns hss d1
            have hsm2 : sr.size ≤ maxLen := by unfold maxLen; omega
            obtain ⟨kk, hkk⟩ : ∃ kk, r.k = kk := ⟨_, rfl⟩
            obtain ⟨ra, hraa⟩ : ∃ ra, r.at_ = ra := ⟨_, rfl⟩
            rw [hkk] at d0 hrk hfd
            rw [hraa] at d2 hfd hra
            have hcv := conv_text sr
            have FI : Hid (∀ (wx : World) (g c : Nat), Below wr.heap.size wr wx → RD wx g c sr → Calls Try.prog 15 #[.pointer (some ⟨p, 0, none⟩), .int .i64 kk, .slice (some ⟨g, 0, none⟩) sr.size c] wx fun e w' => e = .returned (.tuple #[.int .i64 ra, .bool true]) ∧ Below wx.heap.size wx w') := Lib.hid (fun wx g c hx hr => by
              have h := (H.out.below hx).find kk hrk hr (by omega)
              rw [hns, hfd] at h
              exact h)
            have HC2 : Hid (∀ wx, Below wr.heap.size wr wx → wx.cell? ⟨b2, off2 + i * 3, none⟩ = some (.int .i64 kk) ∧ wx.cell? ⟨b2, off2 + i * 3 + 1, none⟩ = some (.string sr) ∧ wx.cell? ⟨b2, off2 + i * 3 + 2, none⟩ = some (.int .i64 ra)) := Lib.hid (fun wx hx => ⟨(hx.cell (p := ⟨b2, off2 + i * 3, none⟩) hb2).trans d0, (hx.cell (p := ⟨b2, off2 + i * 3 + 1, none⟩) hb2).trans d1, (hx.cell (p := ⟨b2, off2 + i * 3 + 2, none⟩) hb2).trans d2⟩)
            have HTX : Hid (∀ wx, Below wr.heap.size wr wx → Below wr.heap.size wr (textW wx sr)) := Lib.hid (fun wx h => textW_bel sr h)
            have HC2' : Hid (∀ wx, Below wr.heap.size wr wx → wx.cell? ⟨b2, off2 + i * 3, none⟩ = some (.int .i64 kk) ∧ wx.cell? ⟨b2, off2 + i * 3 + 1, none⟩ = some (.string sr)) := Lib.hid (fun wx hx => ⟨(HC2.out wx hx).1, (HC2.out wx hx).2.1⟩)
            have hb : Below wr.heap.size wr wr.drew := below_drewn (Below.refl _ _) 1
            clear d0 d1 d2 hsr hns hss hkk hraa hri hfd hrb hrl
            go_wp2
            refine wp_region_held_drew (S := fun w' => w'.cell? ⟨b2, off2 + i * 3, none⟩ = some (.int .i64 kk) ∧ w'.cell? ⟨b2, off2 + i * 3 + 1, none⟩ = some (.string sr)) (by kernel_rfl) (HC2'.out _ hb) (fun hHeld => ?_)
            refine takeH_yes (i := 0) (v := ?_) rfl (by kernel_rfl) (by kernel_rfl) (by kernel_rfl) (fun _ _ _ h => h) (by kernel_rfl) ?_ (by assumption) ?_
            rotate_left
            · intro wz hSw; (try dsimp only at hSw); go_simp; try with_reducible rfl
            simp only [Act.put, List.setIfInBounds_toArray, List.set_cons_zero, List.set_cons_succ]
            refine takeH_yes (i := 1) (v := ?_) rfl (by kernel_rfl) (by kernel_rfl) (by kernel_rfl) (fun _ _ _ h => h) (by kernel_rfl) ?_ (by assumption) ?_
            rotate_left
            · intro wz hSw; (try dsimp only at hSw); go_simp; try with_reducible rfl
            simp only [Act.put, List.setIfInBounds_toArray, List.set_cons_zero, List.set_cons_succ]
            refine takeH_yes (i := 2) (v := ?_) rfl (by kernel_rfl) (by kernel_rfl) (by kernel_rfl) (fun _ _ _ h => h) (by kernel_rfl) ?_ (by assumption) ?_
            rotate_left
            · intro wz hSw; (try dsimp only at hSw); go_simp; try with_reducible rfl
            simp only [Act.put, List.setIfInBounds_toArray, List.set_cons_zero, List.set_cons_succ]
            refine takeH_yes (i := 3) (v := ?_) rfl (by kernel_rfl) (by kernel_rfl) (by kernel_rfl) (fun _ _ _ h => h) (by kernel_rfl) ?_ (by assumption) ?_
            rotate_left
            · intro wz hSw; (try dsimp only at hSw); go_simp; try with_reducible rfl
            simp only [Act.put, List.setIfInBounds_toArray, List.set_cons_zero, List.set_cons_succ]
            refine takeH_yes (i := 4) (v := ?_) rfl (by kernel_rfl) (by kernel_rfl) (by kernel_rfl) (fun _ _ _ h => h) (by kernel_rfl) ?_ (by assumption) ?_
            rotate_left
            · intro wz hSw; (try dsimp only at hSw); go_simp; try with_reducible rfl
            simp only [Act.put, List.setIfInBounds_toArray, List.set_cons_zero, List.set_cons_succ]
            refine takeH_yes (i := 5) (v := ?_) rfl (by kernel_rfl) (by kernel_rfl) (by kernel_rfl) (fun _ _ _ h => h) (by kernel_rfl) ?_ (by assumption) ?_
            rotate_left
            · intro wz hSw; (try dsimp only at hSw); go_simp; try with_reducible rfl
            simp only [Act.put, List.setIfInBounds_toArray, List.set_cons_zero, List.set_cons_succ]
            refine takeH_yes (i := 6) (v := ?_) rfl (by kernel_rfl) (by kernel_rfl) (by kernel_rfl) (fun _ _ _ h => h) (by kernel_rfl) ?_ (by assumption) ?_
            rotate_left
            · intro wz hSw; (try dsimp only at hSw); go_simp; try with_reducible rfl
            simp only [Act.put, List.setIfInBounds_toArray, List.set_cons_zero, List.set_cons_succ]
            refine takeH_yes (i := 7) (v := ?_) rfl (by kernel_rfl) (by kernel_rfl) (by kernel_rfl) (fun _ _ _ h => h) (by kernel_rfl) ?_ (by assumption) ?_
            rotate_left
            · intro wz hSw; (try dsimp only at hSw); go_simp; try with_reducible rfl
            simp only [Act.put, List.setIfInBounds_toArray, List.set_cons_zero, List.set_cons_succ]
            refine takeH_yes (i := 8) (v := ?_) rfl (by kernel_rfl) (by kernel_rfl) (by kernel_rfl) (fun _ _ _ h => h) (by kernel_rfl) ?_ (by assumption) ?_
            rotate_left
            · intro wz hSw; (try dsimp only at hSw); go_simp; try with_reducible rfl
            simp only [Act.put, List.setIfInBounds_toArray, List.set_cons_zero, List.set_cons_succ]
            refine takeH_yes (i := 9) (v := ?_) rfl (by kernel_rfl) (by kernel_rfl) (by kernel_rfl) (fun _ _ _ h => h) (by kernel_rfl) ?_ (by assumption) ?_
            rotate_left
            · intro wz hSw; (try dsimp only at hSw); go_simp; try with_reducible rfl
            simp only [Act.put, List.setIfInBounds_toArray, List.set_cons_zero, List.set_cons_succ]
            refine takeH_yes (i := 10) (v := ?_) rfl (by kernel_rfl) (by kernel_rfl) (by kernel_rfl) (fun _ _ _ h => h) (by kernel_rfl) ?_ (by assumption) ?_
            rotate_left
            · intro wz hSw; (try dsimp only at hSw); go_simp; try with_reducible rfl
            simp only [Act.put, List.setIfInBounds_toArray, List.set_cons_zero, List.set_cons_succ]
            refine oneH (i := 11) rfl (by kernel_rfl) (fun K hK => ?_)
            go_simp
            have hrd := RD.of hb hsm2
            have hb := HTX.out _ hb
            refine hK.out _ _ (HC2'.out _ hb) (fun hHeld => ?_)
            clear hK K
            try simp only [Act.put, List.setIfInBounds_toArray, List.set_cons_zero, List.set_cons_succ]
            refine oneH (i := 12) rfl (by kernel_rfl) (fun K hK => ?_)
            go_simp
            go_at_call 15
            refine (FI.out _ _ _ hb hrd).mono ?_
            rintro e wz ⟨rfl, hbz⟩
            have hb := hb.trans (hbz.mono hb.size)
            clear hbz
            refine hK.out _ _ (HC2'.out _ hb) (fun hHeld => ?_)
            clear hK K
            try simp only [Act.put, List.setIfInBounds_toArray, List.set_cons_zero, List.set_cons_succ]
            refine takeH_yes (i := 13) (v := ?_) rfl (by kernel_rfl) (by kernel_rfl) (by kernel_rfl) (fun _ _ _ h => h) (by kernel_rfl) ?_ (by assumption) ?_
            rotate_left
            · intro wz hSw; (try dsimp only at hSw); go_simp; try with_reducible rfl
            simp only [Act.put, List.setIfInBounds_toArray, List.set_cons_zero, List.set_cons_succ]
            refine takeH_yes (i := 14) (v := ?_) rfl (by kernel_rfl) (by kernel_rfl) (by kernel_rfl) (fun _ _ _ h => h) (by kernel_rfl) ?_ (by assumption) ?_
            rotate_left
            · intro wz hSw; (try dsimp only at hSw); go_simp; try with_reducible rfl
            simp only [Act.put, List.setIfInBounds_toArray, List.set_cons_zero, List.set_cons_succ]
            refine takeH_yes (i := 15) (v := ?_) rfl (by kernel_rfl) (by kernel_rfl) (by kernel_rfl) (fun _ _ _ h => h) (by kernel_rfl) ?_ (by assumption) ?_
            rotate_left
            · intro wz hSw; (try dsimp only at hSw); go_simp; try with_reducible rfl
            simp only [Act.put, List.setIfInBounds_toArray, List.set_cons_zero, List.set_cons_succ]
            refine takeH_yes (i := 16) (v := ?_) rfl (by kernel_rfl) (by kernel_rfl) (by kernel_rfl) (fun _ _ _ h => h) (by kernel_rfl) ?_ (by assumption) ?_
            rotate_left
            · intro wz hSw; (try dsimp only at hSw); go_simp; try with_reducible rfl
            simp only [Act.put, List.setIfInBounds_toArray, List.set_cons_zero, List.set_cons_succ]
            refine takeH_yes (i := 17) (v := ?_) rfl (by kernel_rfl) (by kernel_rfl) (by kernel_rfl) (fun _ _ _ h => h) (by kernel_rfl) ?_ (by assumption) ?_
            rotate_left
            · intro wz hSw; (try dsimp only at hSw); go_simp; try with_reducible rfl
            simp only [Act.put, List.setIfInBounds_toArray, List.set_cons_zero, List.set_cons_succ]
            refine wpAnyH_done (by kernel_rfl) ?_ _
            have e2 := (HC2.out _ hb).2.2
            go_wp2
            go_roundw
            case rel => exact ⟨i + 1, by omega, by go_num, Lib.hid (H.out.below hb)⟩
            case measure => simp [intOf]; omega
          · have hin' : i = n := by omega
            have u3 : ¬ (i : Int) < (n : Int) := by omega
            have hbw : Below w.heap.size w wr := hb0.trans (H.out.bel.mono hb0.size)
            have xq := HX.out.below H.out.bel (by omega)
            have e0 := xq.cell 0
            have e1 := xq.cell 1
            have HXQ := Lib.hid (fun (wx : World) (hx : Below wr.heap.size wr wx) => (⟨(xq.below hx xq.lt).cell 0, (xq.below hx xq.lt).cell 1⟩ : wx.cell? ⟨w.heap.size, 0, none⟩ = some (.bool tf) ∧ wx.cell? ⟨w.heap.size, 1, none⟩ = some (.string ts)))
            have HBW := Lib.hid (fun (wx : World) (hx : Below wr.heap.size wr wx) => (hbw.trans (hx.mono hbw.size) : Below w.heap.size w wx))
            clear xq hbw hin'
            by_cases hbig : 500 < ts.size
            · have u4 : (500 : Int) < (ts.size : Int) := by omega
              clear hbig
              go_wp2_with (go_at_call 6; refine (AW.out _).mono ?_; rintro e w7 ⟨rfl, hb7⟩)
              go_ret
              exact ⟨rfl, HBW.out _ hb7⟩
            · have u4 : ¬ (500 : Int) < (ts.size : Int) := by omega
              have hs47 : ts.size ≤ 140737488355328 := by omega
              have KD := Lib.hid (fun wx => kind_any tf ts wx)
              obtain ⟨kd, hkd⟩ : ∃ kd, kdN tf = kd := ⟨_, rfl⟩
              have hkor := kdN_or tf
              rw [hkd] at KD hkor
              obtain ⟨fo, hfo⟩ : ∃ fo, findR rs kd (nums ts) = fo := ⟨_, rfl⟩
              obtain ⟨q, hq⟩ : ∃ q, fo.getD 0 = q := ⟨_, rfl⟩
              obtain ⟨bo, hbo⟩ : ∃ bo, fo.isSome = bo := ⟨_, rfl⟩
              have FI : Hid (∀ (wx : World) (g c : Nat), Below wr.heap.size wr wx → RD wx g c ts → Calls Try.prog 15 #[.pointer (some ⟨p, 0, none⟩), .int .i64 kd, .slice (some ⟨g, 0, none⟩) ts.size c] wx fun e w' => e = .returned (.tuple #[.int .i64 q, .bool bo]) ∧ Below wx.heap.size wx w') := Lib.hid (fun wx g c hx hr => by
                have h := (H.out.below hx).find kd hkor hr hs47
                rw [hfo, hq, hbo] at h
                exact h)
              have RF : Hid (∀ (wx : World), Below wr.heap.size wr wx → Calls Try.prog 16 #[.slice A' n c', .int .i64 kd, .string ts] wx fun e w' => e = .returned (.tuple #[.int .i64 q, .bool bo]) ∧ wx = w') := Lib.hid (fun wx hx => by
                have h := rfind_any kd (nums ts) wx (H.out.below hx).rows.rowsR.1 (nums_bytes ts) (by omega)
                rw [hfo, hq, hbo, str_nums] at h
                exact h)
              have hcv := conv_text ts
              have HTX : Hid (∀ wx, Below wr.heap.size wr wx → Below wr.heap.size wr (textW wx ts)) := Lib.hid (fun wx h => textW_bel ts h)
              have hb : Below wr.heap.size wr wr.drew := below_drewn (Below.refl _ _) 1
              clear hbig hkd hfo hq hbo hkor
              go_wp2
              clear e0 e1
              refine wp_region_held_drew (S := fun w' => w'.cell? ⟨w.heap.size, 0, none⟩ = some (.bool tf) ∧ w'.cell? ⟨w.heap.size, 1, none⟩ = some (.string ts)) (by kernel_rfl) (HXQ.out _ hb) (fun hHeld => ?_)
              refine takeH_yes (i := 0) (v := ?_) rfl (by kernel_rfl) (by kernel_rfl) (by kernel_rfl) (fun _ _ _ h => h) (by kernel_rfl) ?_ (by assumption) ?_
              rotate_left
              · intro wz hSw; (try dsimp only at hSw); go_simp; try with_reducible rfl
              simp only [Act.put, List.setIfInBounds_toArray, List.set_cons_zero, List.set_cons_succ]
              refine takeH_yes (i := 1) (v := ?_) rfl (by kernel_rfl) (by kernel_rfl) (by kernel_rfl) (fun _ _ _ h => h) (by kernel_rfl) ?_ (by assumption) ?_
              rotate_left
              · intro wz hSw; (try dsimp only at hSw); go_simp; try with_reducible rfl
              simp only [Act.put, List.setIfInBounds_toArray, List.set_cons_zero, List.set_cons_succ]
              refine takeH_yes (i := 3) (v := ?_) rfl (by kernel_rfl) (by kernel_rfl) (by kernel_rfl) (fun _ _ _ h => h) (by kernel_rfl) ?_ (by assumption) ?_
              rotate_left
              · intro wz hSw; (try dsimp only at hSw); go_simp; try with_reducible rfl
              simp only [Act.put, List.setIfInBounds_toArray, List.set_cons_zero, List.set_cons_succ]
              refine takeH_yes (i := 4) (v := ?_) rfl (by kernel_rfl) (by kernel_rfl) (by kernel_rfl) (fun _ _ _ h => h) (by kernel_rfl) ?_ (by assumption) ?_
              rotate_left
              · intro wz hSw; (try dsimp only at hSw); go_simp; try with_reducible rfl
              simp only [Act.put, List.setIfInBounds_toArray, List.set_cons_zero, List.set_cons_succ]
              refine twoH (i := 2) (j := 5) rfl rfl (by kernel_rfl) (fun K hK => ?_) (fun K hK => ?_)
              · go_simp
                go_at_call 10
                refine (KD.out _).mono ?_
                rintro e wx ⟨rfl, hbx⟩
                have hb := hb.trans (hbx.mono hb.size)
                clear hbx
                refine hK.out _ _ (HXQ.out _ hb) (fun hHeld => ?_)
                clear hK K
                try simp only [Act.put, List.setIfInBounds_toArray, List.set_cons_zero, List.set_cons_succ]
                refine oneH (i := 5) rfl (by kernel_rfl) (fun K hK => ?_)
                go_simp
                have hrd := RD.of hb hts
                have hb := HTX.out _ hb
                refine hK.out _ _ (HXQ.out _ hb) (fun hHeld => ?_)
                clear hK K
                try simp only [Act.put, List.setIfInBounds_toArray, List.set_cons_zero, List.set_cons_succ]
                refine oneH (i := 6) rfl (by kernel_rfl) (fun K hK => ?_)
                go_simp
                go_at_call 15
                refine (FI.out _ _ _ hb hrd).mono ?_
                rintro e w7 ⟨rfl, hb7⟩
                have hb := hb.trans (hb7.mono hb.size)
                clear hb7
                refine hK.out _ _ (HXQ.out _ hb) (fun hHeld => ?_)
                clear hK K
                try simp only [Act.put, List.setIfInBounds_toArray, List.set_cons_zero, List.set_cons_succ]
                refine takeH_yes (i := 7) (v := ?_) rfl (by kernel_rfl) (by kernel_rfl) (by kernel_rfl) (fun _ _ _ h => h) (by kernel_rfl) ?_ (by assumption) ?_
                rotate_left
                · intro wz hSw; (try dsimp only at hSw); go_simp; try with_reducible rfl
                simp only [Act.put, List.setIfInBounds_toArray, List.set_cons_zero, List.set_cons_succ]
                refine takeH_yes (i := 8) (v := ?_) rfl (by kernel_rfl) (by kernel_rfl) (by kernel_rfl) (fun _ _ _ h => h) (by kernel_rfl) ?_ (by assumption) ?_
                rotate_left
                · intro wz hSw; (try dsimp only at hSw); go_simp; try with_reducible rfl
                simp only [Act.put, List.setIfInBounds_toArray, List.set_cons_zero, List.set_cons_succ]
                refine takeH_yes (i := 9) (v := ?_) rfl (by kernel_rfl) (by kernel_rfl) (by kernel_rfl) (fun _ _ _ h => h) (by kernel_rfl) ?_ (by assumption) ?_
                rotate_left
                · intro wz hSw; (try dsimp only at hSw); go_simp; try with_reducible rfl
                simp only [Act.put, List.setIfInBounds_toArray, List.set_cons_zero, List.set_cons_succ]
                refine takeH_yes (i := 10) (v := ?_) rfl (by kernel_rfl) (by kernel_rfl) (by kernel_rfl) (fun _ _ _ h => h) (by kernel_rfl) ?_ (by assumption) ?_
                rotate_left
                · intro wz hSw; (try dsimp only at hSw); go_simp; try with_reducible rfl
                simp only [Act.put, List.setIfInBounds_toArray, List.set_cons_zero, List.set_cons_succ]
                refine takeH_yes (i := 11) (v := ?_) rfl (by kernel_rfl) (by kernel_rfl) (by kernel_rfl) (fun _ _ _ h => h) (by kernel_rfl) ?_ (by assumption) ?_
                rotate_left
                · intro wz hSw; (try dsimp only at hSw); go_simp; try with_reducible rfl
                simp only [Act.put, List.setIfInBounds_toArray, List.set_cons_zero, List.set_cons_succ]
                refine wpAnyH_done (by kernel_rfl) ?_ _
                clear hrd
                go_wp2
                have hb := below_drewn hb 1
                go_region_held3 (fun w' => w'.cell? ⟨w.heap.size, 0, none⟩ = some (.bool tf) ∧ w'.cell? ⟨w.heap.size, 1, none⟩ = some (.string ts))
                  (first | assumption | exact HXQ.out _ hb)
                  (first
                    | (go_at_call 10; refine (KD.out _).mono ?_; rintro e wx ⟨rfl, hbx⟩; have hb := hb.trans (hbx.mono hb.size); clear hbx)
                    | (go_at_call 16; refine (RF.out _ hb).mono ?_; rintro e wx ⟨rfl, rfl⟩))
                all_goals
                  go_wp2_with (go_at_call 6; refine (AW.out _).mono ?_; rintro e w9 ⟨rfl, hb9⟩; have hb := hb.trans (hb9.mono hb.size); clear hb9)
                  go_ret
                  exact ⟨rfl, HBW.out _ hb⟩
              · go_simp
                have hrd := RD.of hb hts
                have hb := HTX.out _ hb
                refine hK.out _ _ (HXQ.out _ hb) (fun hHeld => ?_)
                clear hK K
                try simp only [Act.put, List.setIfInBounds_toArray, List.set_cons_zero, List.set_cons_succ]
                refine oneH (i := 2) rfl (by kernel_rfl) (fun K hK => ?_)
                go_simp
                go_at_call 10
                refine (KD.out _).mono ?_
                rintro e wx ⟨rfl, hbx⟩
                have hrd := hrd.below hbx
                have hb := hb.trans (hbx.mono hb.size)
                clear hbx
                refine hK.out _ _ (HXQ.out _ hb) (fun hHeld => ?_)
                clear hK K
                try simp only [Act.put, List.setIfInBounds_toArray, List.set_cons_zero, List.set_cons_succ]
                refine oneH (i := 6) rfl (by kernel_rfl) (fun K hK => ?_)
                go_simp
                go_at_call 15
                refine (FI.out _ _ _ hb hrd).mono ?_
                rintro e w7 ⟨rfl, hb7⟩
                have hb := hb.trans (hb7.mono hb.size)
                clear hb7
                refine hK.out _ _ (HXQ.out _ hb) (fun hHeld => ?_)
                clear hK K
                try simp only [Act.put, List.setIfInBounds_toArray, List.set_cons_zero, List.set_cons_succ]
                refine takeH_yes (i := 7) (v := ?_) rfl (by kernel_rfl) (by kernel_rfl) (by kernel_rfl) (fun _ _ _ h => h) (by kernel_rfl) ?_ (by assumption) ?_
                rotate_left
                · intro wz hSw; (try dsimp only at hSw); go_simp; try with_reducible rfl
                simp only [Act.put, List.setIfInBounds_toArray, List.set_cons_zero, List.set_cons_succ]
                refine takeH_yes (i := 8) (v := ?_) rfl (by kernel_rfl) (by kernel_rfl) (by kernel_rfl) (fun _ _ _ h => h) (by kernel_rfl) ?_ (by assumption) ?_
                rotate_left
                · intro wz hSw; (try dsimp only at hSw); go_simp; try with_reducible rfl
                simp only [Act.put, List.setIfInBounds_toArray, List.set_cons_zero, List.set_cons_succ]
                refine takeH_yes (i := 9) (v := ?_) rfl (by kernel_rfl) (by kernel_rfl) (by kernel_rfl) (fun _ _ _ h => h) (by kernel_rfl) ?_ (by assumption) ?_
                rotate_left
                · intro wz hSw; (try dsimp only at hSw); go_simp; try with_reducible rfl
                simp only [Act.put, List.setIfInBounds_toArray, List.set_cons_zero, List.set_cons_succ]
                refine takeH_yes (i := 10) (v := ?_) rfl (by kernel_rfl) (by kernel_rfl) (by kernel_rfl) (fun _ _ _ h => h) (by kernel_rfl) ?_ (by assumption) ?_
                rotate_left
                · intro wz hSw; (try dsimp only at hSw); go_simp; try with_reducible rfl
                simp only [Act.put, List.setIfInBounds_toArray, List.set_cons_zero, List.set_cons_succ]
                refine takeH_yes (i := 11) (v := ?_) rfl (by kernel_rfl) (by kernel_rfl) (by kernel_rfl) (fun _ _ _ h => h) (by kernel_rfl) ?_ (by assumption) ?_
                rotate_left
                · intro wz hSw; (try dsimp only at hSw); go_simp; try with_reducible rfl
                simp only [Act.put, List.setIfInBounds_toArray, List.set_cons_zero, List.set_cons_succ]
                refine wpAnyH_done (by kernel_rfl) ?_ _
                clear hrd
                go_wp2
                have hb := below_drewn hb 1
                go_region_held3 (fun w' => w'.cell? ⟨w.heap.size, 0, none⟩ = some (.bool tf) ∧ w'.cell? ⟨w.heap.size, 1, none⟩ = some (.string ts))
                  (first | assumption | exact HXQ.out _ hb)
                  (first
                    | (go_at_call 10; refine (KD.out _).mono ?_; rintro e wx ⟨rfl, hbx⟩; have hb := hb.trans (hbx.mono hb.size); clear hbx)
                    | (go_at_call 16; refine (RF.out _ hb).mono ?_; rintro e wx ⟨rfl, rfl⟩))
                all_goals
                  go_wp2_with (go_at_call 6; refine (AW.out _).mono ?_; rintro e w9 ⟨rfl, hb9⟩; have hb := hb.trans (hb9.mono hb.size); clear hb9)
                  go_ret
                  exact ⟨rfl, HBW.out _ hb⟩

end Go.Proofs.Ytkaepikjklpmaaa
