/-
  LAYER 14: ChainAppends, walked.
-/
import Derived.Test.YtblpmnipapimcaaChApEnd
import Derived.Test.YtblpmnipapimcaaChBools
set_option linter.unusedVariables false
set_option maxRecDepth 100000
set_option linter.unusedSimpArgs false
namespace Go.Proofs.Ytblpmnipapimcaa
open Go.RowKit Go.Shelf

abbrev fixY (lm p ga : Nat) (j : Nat) : Value := (#[undef, undef, undef, undef, undef, undef, undef, undef, undef, undef, undef, undef, undef, undef, undef, undef, undef, undef, .bool true, .bool false, .int .u16 lm, .int .i64 lm, .pointer (some ⟨p, 0, none⟩), .slice (some ⟨ga, 0, none⟩) 2 2, .agg #[.slice none 0 0, .int .i64 0], .pointer (some ⟨ga + 1, 0, none⟩), .agg #[.slice none 0 0, .int .i64 0], .pointer (some ⟨ga + 1 + 1, 0, none⟩), .slice (some ⟨ga + 1 + 1 + 1, 0, none⟩) 2 2] : Array Value).getD j undef
def gsOf (g0 : Nat) (t : Nat) : Nat := if t = 0 then g0 else g0 + 1

/-- The two lists, made. -/
theorem ap_start {w w2 : World} {S : Nat → Prop} {p lim : Nat} (hC : CS w2 w.heap.size S p lim (fun _ => []) (fun _ => 0) 288 0) (hb : Below w.heap.size w w2) :
    ApSt w ((((w2.alloc (.cells #[.int .i64 192, .int .i64 200] 3)).alloc (.cells #[.slice none 0 0, .int .i64 0] 31)).alloc (.cells #[.slice none 0 0, .int .i64 0] 31)).alloc (.cells #[.pointer (some ⟨w2.heap.size + 1, 0, none⟩), .pointer (some ⟨w2.heap.size + 1 + 1, 0, none⟩)] 29))
      p lim w2.heap.size (w2.heap.size + 1 + 1 + 1) (gsOf (w2.heap.size + 1)) 288 0 := by
  have hs := hb.size
  have b1 := boxed w2 (.cells #[.int .i64 192, .int .i64 200] 3)
  have b2 := b1.alloc b1.size (.cells #[.slice none 0 0, .int .i64 0] 31)
  have b3 := b2.alloc b2.size (.cells #[.slice none 0 0, .int .i64 0] 31)
  have b4 := b3.alloc b3.size (.cells #[.pointer (some ⟨w2.heap.size + 1, 0, none⟩), .pointer (some ⟨w2.heap.size + 1 + 1, 0, none⟩)] 29)
  have z0 := (((Blk.new w2 3 #[.int .i64 192, .int .i64 200]).alloc (.cells #[.slice none 0 0, .int .i64 0] 31)).alloc (.cells #[.slice none 0 0, .int .i64 0] 31)).alloc (.cells #[.pointer (some ⟨w2.heap.size + 1, 0, none⟩), .pointer (some ⟨w2.heap.size + 1 + 1, 0, none⟩)] 29)
  have z1 := ((Blk.new (w2.alloc (.cells #[.int .i64 192, .int .i64 200] 3)) 31 #[.slice none 0 0, .int .i64 0]).alloc (.cells #[.slice none 0 0, .int .i64 0] 31)).alloc (.cells #[.pointer (some ⟨w2.heap.size + 1, 0, none⟩), .pointer (some ⟨w2.heap.size + 1 + 1, 0, none⟩)] 29)
  have z2 := (Blk.new ((w2.alloc (.cells #[.int .i64 192, .int .i64 200] 3)).alloc (.cells #[.slice none 0 0, .int .i64 0] 31)) 31 #[.slice none 0 0, .int .i64 0]).alloc (.cells #[.pointer (some ⟨w2.heap.size + 1, 0, none⟩), .pointer (some ⟨w2.heap.size + 1 + 1, 0, none⟩)] 29)
  have z3 := Blk.new (((w2.alloc (.cells #[.int .i64 192, .int .i64 200] 3)).alloc (.cells #[.slice none 0 0, .int .i64 0] 31)).alloc (.cells #[.slice none 0 0, .int .i64 0] 31)) 29 #[.pointer (some ⟨w2.heap.size + 1, 0, none⟩), .pointer (some ⟨w2.heap.size + 1 + 1, 0, none⟩)]
  simp only [World.size_alloc] at z1 z2 z3
  refine ⟨S, _, _, fun _ => .slice none 0 0, hC.below b4, ⟨fun t ht => ⟨?_, World.ownsRow_nil _ _ _ _⟩, z0, z3, fun j hj => ?_, fun t u ht hu hne => ⟨?_, fun j hj => by cases hj⟩, fun t ht => ?_, hb.trans (b4.mono hb.size)⟩⟩
  · rcases (show t = 0 ∨ t = 1 by omega) with rfl | rfl
    · exact z1
    · exact z2
  · have := (hC.foot j hj).2
    refine ⟨by omega, by omega, fun t ht => ⟨?_, fun e => by cases e⟩⟩
    unfold gsOf; split <;> omega
  · unfold gsOf
    rcases (show t = 0 ∨ t = 1 by omega) with rfl | rfl <;> rcases (show u = 0 ∨ u = 1 by omega) with rfl | rfl <;> simp_all
  · unfold gsOf; split <;> omega

set_option maxHeartbeats 16000000 in
theorem appends_law (A : Option Addr) (n c : Nat) (zs : List Int) (B : Option Addr) (n2 c2 : Nat) (ks : List Bool) (lim : Int) (w : World) (hin : InInts w .u64 A n c zs) (hbo : InBools w B n2 c2 ks) (h3 : (Lit.int .u16 lim).wf = true) :
    Calls Try.prog 3 #[.slice A n c, .slice B n2 c2, .int .u16 lim] w fun e w' => e = .returned (.bool true) ∧ Below w.heap.size w w' := by
  have hlen := hin.reads.len
  have hle := hin.le
  have hcap := hin.cap
  have hle2 := hbo.le
  have hcap2 := hbo.cap
  have hlm := bounds_u16 h3
  obtain ⟨lm, rfl⟩ : ∃ lm : Nat, lim = lm := ⟨lim.toNat, by omega⟩
  have hlm2 : lm < 65536 := by omega
  have hw0 : IntKind.i64.wrap (lm : Int) = (lm : Int) := wrap_i64_of (by omega) (by omega)
  have AW := Lib.hid (fun w1 => awake_any w1)
  have FR : Hid (∀ w1, Below w.heap.size w w1 → Calls Try.prog 7 #[.int .i64 lm] w1 fun e w' => ∃ p, e = .returned (.pointer (some ⟨p, 0, none⟩)) ∧ Below w1.heap.size w1 w' ∧ CS w' w.heap.size (fun j => w1.heap.size ≤ j ∧ j < w'.heap.size) p lm (fun _ => []) (fun _ => 0) 288 0) := Lib.hid (fun w1 hb => cfresh_any lm w1 hb.size (by omega))
  have HIN := Lib.hid hin
  have HBO := Lib.hid hbo
  clear hin hbo h3
  go_enter Try.func3, Try.ntmps3
  go_wp2_with (first
    | (go_at_call 6; refine (AW.out _).mono ?_; rintro e w1 ⟨rfl, hb1⟩)
    | (go_at_call 7; refine (FR.out _ hb1).mono ?_; rintro e w2 ⟨p, rfl, hb2, C2⟩))
  have hbw := hb1.trans (hb2.mono hb1.size)
  have AP := Lib.hid (ap_start C2 hbw)
  obtain ⟨ga, hga⟩ : ∃ ga, w2.heap.size = ga := ⟨_, rfl⟩
  rw [hga] at AP ⊢
  have HGA := Lib.hid hga
  clear hga
  go_loopw [10] (fun s10 wr => ∃ k tl : Nat, s10 = .int .i64 k ∧ k ≤ n ∧ k ≤ 120 ∧ Hid (ApSt w wr p lm ga (ga + 1 + 1 + 1) (gsOf (ga + 1)) tl k)) (fun s10 _ => n - (intOf s10).toNat)
  case atStart => exact ⟨0, 288, rfl, Nat.zero_le _, by omega, AP⟩
  case round =>
    obtain ⟨k, tl, rfl, hk, hk2, hS⟩ := hrel
    clear C2 hb1 hb2 AP hbw
    by_cases hgo : k < n ∧ k < 120
    · obtain ⟨hlt, hlt2⟩ := hgo
      have HAS := hS.out
      obtain ⟨S, Ls, As, vs, hC, hR⟩ := HAS
      have TL := Lib.hid hC.tail
      have hbw : Below w.heap.size w wr := hR.bel
      have i1 : (k : Int) < (n : Int) := by omega
      have i2 : (k : Int) < 120 := by omega
      have hkt : (¬ (k : Int) < (n2 : Int)) ∨ ((k : Int) < (n2 : Int) ∧ ks.getD k false = false) ∨ ((k : Int) < (n2 : Int) ∧ ks.getD k false = true) := by
        by_cases h1 : (k : Int) < (n2 : Int)
        · cases hkk : ks.getD k false with
          | false => exact .inr (.inl ⟨h1, rfl⟩)
          | true => exact .inr (.inr ⟨h1, rfl⟩)
        · exact .inl h1
      clear hC hR
      obtain ⟨bz, off, rfl, _, hz1⟩ := HIN.out.reads.plain (by omega)
      obtain ⟨x, hx⟩ : ∃ x, zs.getD k 0 = x := ⟨_, rfl⟩
      have hxU : IsU x := by
        rw [← hx, List.getD_eq_getElem?_getD, List.getElem?_eq_getElem (by omega)]
        exact wf_u64_bd (HIN.out.wf _ (List.getElem_mem _))
      have HL : Hid (∀ w1, Below w.heap.size w w1 → w1.cell? ⟨bz, off + k, none⟩ = some (.int .u64 x)) := Lib.hid (fun w1 hb => by
        obtain ⟨b3, o3, e3, _, h3⟩ := (HIN.out.reads.below hb).plain (by omega)
        injection e3 with e3
        injection e3 with e4 e5
        subst e4; subst e5
        rw [← hx]
        exact h3 k hlt)
      clear hz1 hx
      rcases hkt with j1 | ⟨j1, j2⟩ | ⟨j1, j2⟩
      · go_wp2_with (go_at_call 8; rename_i K4 hK4 K3 hK3 K2 hK2; have HK3 := Lib.hid hK3; clear hK3; refine TL.out.mono ?_; rintro e w5 ⟨rfl, rfl⟩)
        refine HK3.out _ _ ?_
        refine use_X (R := fun X => apF bz off n c (.slice B n2 c2) lm p ga (ga + 1 + 1 + 1) k 0 tl (fixY lm p ga) X) (K := fun a w' => Code.wp Try.prog apTail _ a w') (fun X => ap_round hS.out (by omega) hlm2 hxU hlt (by omega) (by omega) HL.out (fixY lm p ga) X _ (fun w5 tl5 h5 X5 => ?_)) rfl
        have H5 := Lib.hid h5
        clear h5 HK3 TL
        constructor
        · go_wp2
          go_roundw
          case rel => exact ⟨k + 1, tl5, by go_num, by omega, by omega, H5⟩
          case measure => simp [intOf]; omega
        · go_wp2
          go_roundw
          case rel => exact ⟨k + 1, tl5, by go_num, by omega, by omega, H5⟩
          case measure => simp [intOf]; omega
      · obtain ⟨bB, oB, rfl, _, hB1⟩ := (HBO.out.reads.below hbw).bools (by omega)
        have q1 := hB1 k (by omega)
        rw [j2] at q1
        clear hB1 j2
        go_wp2_with (go_at_call 8; rename_i K4 hK4 K3 hK3 K2 hK2; have HK3 := Lib.hid hK3; clear hK3; refine TL.out.mono ?_; rintro e w5 ⟨rfl, rfl⟩)
        refine HK3.out _ _ ?_
        refine use_X (R := fun X => apF bz off n c (.slice (some ⟨bB, oB, none⟩) n2 c2) lm p ga (ga + 1 + 1 + 1) k 0 tl (fixY lm p ga) X) (K := fun a w' => Code.wp Try.prog apTail _ a w') (fun X => ap_round hS.out (by omega) hlm2 hxU hlt (by omega) (by omega) HL.out (fixY lm p ga) X _ (fun w5 tl5 h5 X5 => ?_)) rfl
        have H5 := Lib.hid h5
        clear h5 HK3 TL
        constructor
        · go_wp2
          go_roundw
          case rel => exact ⟨k + 1, tl5, by go_num, by omega, by omega, H5⟩
          case measure => simp [intOf]; omega
        · go_wp2
          go_roundw
          case rel => exact ⟨k + 1, tl5, by go_num, by omega, by omega, H5⟩
          case measure => simp [intOf]; omega
      · obtain ⟨bB, oB, rfl, _, hB1⟩ := (HBO.out.reads.below hbw).bools (by omega)
        have q1 := hB1 k (by omega)
        rw [j2] at q1
        clear hB1 j2
        go_wp2_with (go_at_call 8; rename_i K4 hK4 K3 hK3 K2 hK2; have HK3 := Lib.hid hK3; clear hK3; refine TL.out.mono ?_; rintro e w5 ⟨rfl, rfl⟩)
        refine HK3.out _ _ ?_
        refine use_X (R := fun X => apF bz off n c (.slice (some ⟨bB, oB, none⟩) n2 c2) lm p ga (ga + 1 + 1 + 1) k 1 tl (fixY lm p ga) X) (K := fun a w' => Code.wp Try.prog apTail _ a w') (fun X => ap_round hS.out (by omega) hlm2 hxU hlt (by omega) (by omega) HL.out (fixY lm p ga) X _ (fun w5 tl5 h5 X5 => ?_)) rfl
        have H5 := Lib.hid h5
        clear h5 HK3 TL
        constructor
        · go_wp2
          go_roundw
          case rel => exact ⟨k + 1, tl5, by go_num, by omega, by omega, H5⟩
          case measure => simp [intOf]; omega
        · go_wp2
          go_roundw
          case rel => exact ⟨k + 1, tl5, by go_num, by omega, by omega, H5⟩
          case measure => simp [intOf]; omega
    · rename_i K9 hK9
      have HK9 := Lib.hid hK9
      clear hK9
      have hbz := hS.out
      obtain ⟨S, Ls, As, vs, hC, hR⟩ := hbz
      have HBW := Lib.hid hR.bel
      have hex : (¬ (k : Int) < (n : Int)) ∨ ((k : Int) < (n : Int) ∧ ¬ (k : Int) < 120) := by omega
      clear hC hR
      rcases hex with i1 | ⟨i1, i2⟩
      all_goals
        go_wp2
        refine HK9.out _ _ ?_
        refine use_X (R := fun X => apG p ga (ga + 1 + 1 + 1) X) (K := fun a w' => Code.wp Try.prog apRest _ a w') (fun X => ap_rest hS.out (by omega) X _ (Lib.hid (fun w5 arr hb5 h6 => ?_))) rfl
        refine bodyPost_ret (results_tmp rfl _ _ _) rfl ?_
        show Ending.returned (arr.getD 6 undef) = Ending.returned (.bool true) ∧ _
        rw [h6]
        exact ⟨rfl, HBW.out.trans (hb5.mono HBW.out.size)⟩

end Go.Proofs.Ytblpmnipapimcaa
