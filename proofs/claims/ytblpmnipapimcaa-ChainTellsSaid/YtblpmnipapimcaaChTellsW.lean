/-
  LAYER 14: ChainTells, walked.
-/
import Derived.Test.YtblpmnipapimcaaChTells1
set_option linter.unusedVariables false
set_option maxRecDepth 100000
set_option linter.unusedSimpArgs false
namespace Go.Proofs.Ytblpmnipapimcaa
open Go.RowKit Go.Shelf

/-- At the head of each round. -/
structure TellAt (w0 wr : World) (p : Nat) (zs : List Int) (v : Value) (k : Nat) : Prop where
  ex : ∃ S, TlS wr w0.heap.size S p (lstT zs k) ∧ ∀ g, v.ownBlock = some g → ¬ S g
  own : wr.ownsRow w0.heap.size 36 1 v k (cellsOf .u64 (lstT zs k))
  bel : Below w0.heap.size w0 wr

theorem use_rest {K : Act → World → Prop} {W : World} {f : (Nat → Value) → Array Value} (h : ∀ X, K { tmps := f X, defers := [] } W) {arr : Array Value} (e : arr = f (fun j => arr.getD j undef)) : K { tmps := arr, defers := [] } W := by rw [e]; exact h _

/-- The row has grown; the file is as it was. -/
theorem tell_mid {w0 wr w3 : World} {S : Nat → Prop} {p : Nat} {L : List Int} {v v' : Value} {tmp : Obj} {n : Nat} {xs : List Value} (h : TlS wr w0.heap.size S p L) (hap : ∀ g, v.ownBlock = some g → ¬ S g) (hown : wr.ownsRow w0.heap.size 36 1 v n xs) (hb : Below w0.heap.size w0 wr)
    (hg : (wr.alloc tmp).grownBy w3 v.ownBlock) (hat : v'.ownBlock = v.ownBlock ∨ v'.ownBlock = some (wr.alloc tmp).heap.size) : TlS w3 w0.heap.size S p L ∧ (∀ g, v'.ownBlock = some g → ¬ S g) ∧ Below w0.heap.size w0 w3 := by
  have hs : (wr.alloc tmp).heap.size = wr.heap.size + 1 := World.size_alloc _ _
  have hc1 : Chg (fun j => v.ownBlock = some j) wr (wr.alloc tmp) := Chg.of_below (boxed _ _) (Nat.le_refl _) _
  have hc := hc1.trans (chg_grown hg) (fun _ _ h => h)
  refine ⟨h.keep hc (fun j hj e => hap j e hj), fun g hgv hS => ?_, ?_⟩
  · rcases hat with e | e
    · exact hap g (by rw [← e]; exact hgv) hS
    · rw [hgv] at e
      injection e with e
      have := (h.foot _ hS).2
      omega
  · exact hb.trans (hc.below hb.size (fun j _ hj => (hown.lt j hj).1))
theorem tell_next {w0 w3 w4 : World} {S : Nat → Prop} {p : Nat} {zs : List Int} {v : Value} {k : Nat} (hap : ∀ g, v.ownBlock = some g → ¬ S g) (hS : ∀ j, S j → w0.heap.size ≤ j) (hown : w3.ownsRow w0.heap.size 36 1 v (k + 1) (cellsOf .u64 (lstT zs (k + 1)))) (hb : Below w0.heap.size w0 w3)
    (hc : Chg S w3 w4) (h : TlS w4 w0.heap.size (grow S w3 w4) p (lstT zs (k + 1))) : TellAt w0 w4 p zs v (k + 1) := by
  refine ⟨⟨_, h, fun g hg hS' => ?_⟩, own_chg hown hc hap, hb.trans (hc.below hb.size (fun j _ hj => hS j hj))⟩
  have h1 := (hown.lt g hg).2
  rcases hS' with hS' | hS'
  · exact hap g hg hS'
  · omega

set_option maxHeartbeats 32000000 in
theorem tells_law (A : Option Addr) (n c : Nat) (zs : List Int) (i least : Int) (w : World) (hin : InInts w .u16 A n c zs) (hi : (Lit.int .i64 i).wf = true) (hl : (Lit.int .u64 least).wf = true) :
    Calls Try.prog 4 #[.slice A n c, .int .i64 i, .int .u64 least] w fun e w' => e = .returned (.bool true) ∧ Below w.heap.size w w' := by
  have hlen := hin.reads.len
  have hle := hin.le
  have hcap := hin.cap
  have hbd : ∀ z ∈ zs, 0 ≤ z ∧ z < 65536 := fun z hz => by
    have := bounds_u16 (hin.wf z hz)
    omega
  obtain ⟨i0, hi0, hz0, hz1, hz2⟩ := info_parts tabWordInfo
  have hI : -9223372036854775808 ≤ i ∧ i ≤ 9223372036854775807 := by have := bounds_i64 hi; omega
  have hbx : Below w.heap.size w (w.alloc (.cells #[.int .u64 least] 36)) := boxed _ _
  have xb := Blk.new w 36 #[.int .u64 least]
  have hsz : (w.alloc (.cells #[.int .u64 least] 36)).heap.size = w.heap.size + 1 := World.size_alloc _ _
  obtain ⟨w0, hw0⟩ : ∃ w0, w.alloc (.cells #[.int .u64 least] 36) = w0 := ⟨_, rfl⟩
  rw [hw0] at hbx xb hsz
  have AW := Lib.hid (fun w1 => awake_any w1)
  have FR : Hid (∀ w1, Below w0.heap.size w0 w1 → Calls Try.prog 7 #[.int .i64 1048576] w1 fun e w' => ∃ p, e = .returned (.pointer (some ⟨p, 0, none⟩)) ∧ Below w1.heap.size w1 w' ∧ CS w' w0.heap.size (fun j => w1.heap.size ≤ j ∧ j < w'.heap.size) p 1048576 (fun _ => []) (fun _ => 0) 288 0) := Lib.hid (fun w1 hb => cfresh_any 1048576 w1 hb.size (by omega))
  have HW0 := Lib.hid hw0
  have HX := Lib.hid (And.intro hbx (And.intro xb hsz))
  have HIN := Lib.hid hin
  have HBD := Lib.hid hbd
  clear hbx xb hsz hin hbd hl hi
  go_enter Try.func4, Try.ntmps4
  go_wp2_with (first
    | (go_at_call 6; refine (AW.out _).mono ?_; rintro e w1 ⟨rfl, hb1⟩)
    | (go_at_call 7; refine (FR.out _ hb1).mono ?_; rintro e w2 ⟨p, rfl, hb2, C2⟩))
  go_loopw [8, 9, 10] (fun v s9 s10 wr => ∃ k : Nat, s9 = .int .u64 (accT zs k) ∧ s10 = .int .i64 k ∧ k ≤ n ∧ k ≤ 200 ∧ Hid (TellAt w0 wr p zs v k)) (fun _ _ s10 _ => n - (intOf s10).toNat)
  case atStart =>
    refine ⟨0, rfl, rfl, Nat.zero_le _, by omega, Lib.hid ⟨⟨_, ⟨⟨_, _, _, C2, rfl, by omega, rfl⟩⟩, fun g hg => by cases hg⟩, World.ownsRow_nil _ _ _ _, hb1.trans (hb2.mono hb1.size)⟩⟩
  case round =>
    obtain ⟨k, rfl, rfl, hk, hk2, hT⟩ := hrel
    clear C2 hb1 hb2
    by_cases hgo : k < n ∧ k < 200
    · obtain ⟨hlt, hlt2⟩ := hgo
      obtain ⟨⟨S, hTl, hap⟩, hown, hbl⟩ := hT.out
      obtain ⟨hbx, xb, hsz⟩ := HX.out
      have hbw : Below w.heap.size w wr := hbx.trans (hbl.mono hbx.size)
      obtain ⟨bA, off, rfl, _, h1⟩ := (HIN.out.reads.below hbw).plain (by omega)
      have q1 := h1 k hlt
      have hbd := accT_bd HBD.out (k := k) (by omega)
      have hbd1 := accT_bd HBD.out (k := k + 1) (by omega)
      have hz : zs.getD k 0 = accT zs (k + 1) - accT zs k - 1 := by rw [accT]; omega
      obtain ⟨z, hze⟩ : ∃ z, zs.getD k 0 = z := ⟨_, rfl⟩
      rw [hze] at q1 hz
      obtain ⟨a, ha⟩ : ∃ a, accT zs k = a := ⟨_, rfl⟩
      obtain ⟨a', ha'⟩ : ∃ a', accT zs (k + 1) = a' := ⟨_, rfl⟩
      rw [ha, ha'] at hz
      rw [ha] at hbd ⊢
      rw [ha'] at hbd1
      have hzb : 0 ≤ z ∧ z < 65536 := by
        rw [← hze, List.getD_eq_getElem?_getD, List.getElem?_eq_getElem (by omega)]
        exact HBD.out _ (List.getElem_mem _)
      have hw1 : IntKind.u64.wrap (a + 1) = a + 1 := wrap_u64_of (by omega) (by omega)
      have hw2 : IntKind.u64.wrap z = z := wrap_u64_of (by omega) (by omega)
      have hw3 : IntKind.u64.wrap (a + 1 + z) = a' := by rw [wrap_u64_of (by omega) (by omega)]; omega
      have i1 : (k : Int) < (n : Int) := by omega
      have i2 : (k : Int) < 200 := by omega
      have s1 : k + 1 ≤ maxLen := by unfold maxLen; omega
      have s2 : (k + 1) * 8 ≤ 140737488355328 := by omega
      have hs3 := hbl.size
      have HLN : Hid (lstT zs (k + 1) = lstT zs k ++ [a']) := Lib.hid (by rw [lstT, ha'])
      have HM := Lib.hid (fun (w3 : World) (v' : Value) (tmp : Obj) => tell_mid (w3 := w3) (v' := v') (tmp := tmp) hTl hap hown hbl)
      have HS := Lib.hid (fun (w3 : World) (h3 : TlS w3 w0.heap.size S p (lstT zs k)) => tl_step h3 (by rw [lstT_length]; omega) a' ⟨by omega, by omega⟩ (by omega))
      have HF := Lib.hid hTl.foot
      have HA := Lib.hid (And.intro ha ha')
      clear h1 hz hze hbd hbd1 ha ha' hTl hap hbl hbw hT hbx xb hsz hzb
      obtain ⟨Av, cv, rfl, -, -⟩ := own_form hown
      go_wp2_with (first
        | (at_builtin; go_loud (refine wpList_append_any _ rfl _ _ 22 rfl w0.heap.size 36 i0 (.int .u64 0) 1 8 Try.underlying22 hi0 hz0 hz1 hz2 rfl (by decide) _ k _ rfl (hown.alloc _) _ _ 1 1 [.int .u64 a'] rfl (Reads.new1 _ _ _) (fun u hu => by rw [List.mem_singleton.1 hu]; rfl) s1 s2 (by simp; omega) ?_; intro v' w3 hown' hg' hat'; obtain ⟨hT3, hap3, hb3⟩ := HM.out w3 v' _ hg' hat'; have HO3 := Lib.hid hown'; clear hown' hg' hat'))
        | (go_at_call 9; refine (HS.out _ hT3).mono ?_; rintro e w4 ⟨rfl, hc4, hT4⟩))
      go_roundw
      case rel =>
        refine ⟨k + 1, ?_, by go_num, by omega, by omega, Lib.hid ?_⟩
        · rw [HA.out.2]
        · rw [← HLN.out] at hT4
          refine tell_next hap3 (fun j hj => (HF.out j hj).1) ?_ hb3 hc4 hT4
          have h9 := HO3.out
          rw [HLN.out, cellsOf_append]
          exact h9
      case measure => simp [intOf]; omega
    · obtain ⟨⟨S, hTl, hap⟩, hown, hbl⟩ := hT.out
      obtain ⟨hbx, xb, hsz⟩ := HX.out
      have hs3 := hbl.size
      obtain ⟨its, hL⟩ := hTl.list
      have hxb := xb.below (hbl.mono (Nat.le_refl _)) (by omega)
      have hmono := lstT_monoY HBD.out (k := k) (by omega) least
      have hkl := lstT_length zs k
      obtain ⟨L, hLe⟩ : ∃ L, lstT zs k = L := ⟨_, rfl⟩
      rw [hLe] at hL hown hmono hkl
      have NT := Lib.hid (cnth_any i wr hL hI.1 hI.2)
      have SR := Lib.hid (fun w5 (hb5 : Below wr.heap.size wr w5) => csearch_any (leastQ least) 19 #[.pointer (some ⟨w.heap.size, 0, none⟩)] w5 (hL.below hb5) hmono (tells_ask least w.heap.size w5 (by have := hb5.size; omega) ((hxb.below hb5 hxb.lt).cell 0)) (enters_of Try.func19 (by kernel_rfl) rfl))
      obtain ⟨Av, cv, hAv, hcv, hcm⟩ := own_form hown
      subst hAv
      have hrd := Reads.of_own hown
      have RS := Lib.hid (fun w5 (hb5 : Below wr.heap.size wr w5) => rcsearch_any Av k cv L least w5 (hrd.below hb5) (by omega))
      have S1 : Hid (∀ w5, Calls Try.prog 16 #[.int .i64 (-1)] w5 fun e w' => e = .returned (.int .i64 0) ∧ w5 = w') := Lib.hid (fun w5 => csize_any (-1) w5 (by omega) (by omega))
      have S2 := Lib.hid (fun w5 => csize_any i w5 hI.1 hI.2)
      have S3 := Lib.hid (fun w5 => rcsize_any i w5 hI.1 hI.2)
      have HXB := Lib.hid hxb
      obtain ⟨fy, hfy⟩ : ∃ fy, firstY (leastQ least) L = fy := ⟨_, rfl⟩
      rw [hfy] at SR RS
      obtain ⟨sz, hszz⟩ : ∃ sz, sizeI i = sz := ⟨_, rfl⟩
      rw [hszz] at S2 S3
      have HBW := Lib.hid (hbx.trans (hbl.mono hbx.size))
      have hex : (¬ (k : Int) < (n : Int)) ∨ ((k : Int) < (n : Int) ∧ ¬ (k : Int) < 200) := by omega
      have hin3 : (i < 0) ∨ (0 ≤ i ∧ ¬ i < (k : Int)) ∨ (∃ q : Nat, i = q ∧ q < k) := by
        by_cases h1 : i < 0
        · exact .inl h1
        · by_cases h2 : i < (k : Int)
          · exact .inr (.inr ⟨i.toNat, by omega, by omega⟩)
          · exact .inr (.inl ⟨by omega, h2⟩)
      rename_i K9 hK9
      have HK9 := Lib.hid hK9
      clear hK9
      rcases hin3 with j1 | ⟨j1, j2⟩ | ⟨q, rfl, j2⟩
      · obtain ⟨e1, e2⟩ := nth_no (L := L) (i := i) (.inl j1)
        rw [e1, e2] at NT
        clear hTl hap hown hbl hbx xb hsz hL hxb hmono hrd hfy hszz hT hgo hLe e1 e2 hI
        have REST : ∀ X : Nat → Value, K9 { tmps := #[.slice A n c, .int .i64 i, .int .u64 least, undef, undef, .pointer (some ⟨w.heap.size, 0, none⟩), X 6, .pointer (some ⟨p, 0, none⟩), .slice Av k cv, X 9, X 10, undef, undef, undef, undef, undef, .bool true, .bool false, .pointer (some ⟨p, 0, none⟩), X 19, X 20, X 21, X 22, X 23, X 24, X 25, X 26, X 27, X 28, X 29, X 30, X 31, X 32, X 33, X 34, X 35, X 36, X 37, X 38, X 39, X 40, X 41, X 42, X 43, X 44, undef, undef, undef, undef, undef, undef, undef, undef, undef, undef, undef, undef, undef, undef, undef, undef, undef, undef, undef, undef, undef, undef, undef, undef, undef, undef, undef, undef, undef, undef, undef, undef, undef, undef, undef, undef, undef, undef, undef, undef, undef, undef, undef, undef, undef, undef, undef, undef, undef, undef, undef], defers := [] } wr := fun X => by
          refine HK9.out _ _ ?_
          clear HK9
          go_wp2_with (first
            | (go_at_call 17; refine NT.out.mono ?_; rintro e w5 ⟨rfl, hb5⟩)
            | (go_at_call 18; refine (SR.out _ hb5).mono ?_; rintro e w6 ⟨rfl, hb6⟩; have hb56 := hb5.trans (hb6.mono hb5.size); have kb := (HXB.out.below hb56 HXB.out.lt).cell 0)
            | (go_at_call 20; refine (RS.out _ hb56).mono ?_; rintro e w7 ⟨rfl, rfl⟩)
            | (go_at_call 16; refine (S1.out _).mono ?_; rintro e w7 ⟨rfl, rfl⟩)
            | (go_at_call 16; refine (S2.out _).mono ?_; rintro e w7 ⟨rfl, rfl⟩)
            | (go_at_call 15; refine (S3.out _).mono ?_; rintro e w7 ⟨rfl, rfl⟩)
            | (go_at_call 6; refine (AW.out _).mono ?_; rintro e w8 ⟨rfl, hb8⟩))
          go_ret
          exact ⟨rfl, HBW.out.trans ((hb56.trans (hb8.mono hb56.size)).mono HBW.out.size)⟩
        clear NT SR RS S1 S2 S3 AW
        rcases hex with i1 | ⟨i1, i2⟩
        all_goals
          go_wp2
          exact use_rest REST rfl
      · obtain ⟨e1, e2⟩ := nth_no (L := L) (i := i) (.inr (by omega))
        rw [e1, e2] at NT
        have j3 : ¬ i < 0 := by omega
        have j5 : decide (i < (k : Int)) = false := decide_eq_false j2
        clear hTl hap hown hbl hbx xb hsz hL hxb hmono hrd hfy hszz hT hgo hLe e1 e2 hI
        have REST : ∀ X : Nat → Value, K9 { tmps := #[.slice A n c, .int .i64 i, .int .u64 least, undef, undef, .pointer (some ⟨w.heap.size, 0, none⟩), X 6, .pointer (some ⟨p, 0, none⟩), .slice Av k cv, X 9, X 10, undef, undef, undef, undef, undef, .bool true, .bool false, .pointer (some ⟨p, 0, none⟩), X 19, X 20, X 21, X 22, X 23, X 24, X 25, X 26, X 27, X 28, X 29, X 30, X 31, X 32, X 33, X 34, X 35, X 36, X 37, X 38, X 39, X 40, X 41, X 42, X 43, X 44, undef, undef, undef, undef, undef, undef, undef, undef, undef, undef, undef, undef, undef, undef, undef, undef, undef, undef, undef, undef, undef, undef, undef, undef, undef, undef, undef, undef, undef, undef, undef, undef, undef, undef, undef, undef, undef, undef, undef, undef, undef, undef, undef, undef, undef, undef, undef, undef, undef, undef, undef], defers := [] } wr := fun X => by
          refine HK9.out _ _ ?_
          clear HK9
          go_wp2_with (first
            | (go_at_call 17; refine NT.out.mono ?_; rintro e w5 ⟨rfl, hb5⟩)
            | (go_at_call 18; refine (SR.out _ hb5).mono ?_; rintro e w6 ⟨rfl, hb6⟩; have hb56 := hb5.trans (hb6.mono hb5.size); have kb := (HXB.out.below hb56 HXB.out.lt).cell 0)
            | (go_at_call 20; refine (RS.out _ hb56).mono ?_; rintro e w7 ⟨rfl, rfl⟩)
            | (go_at_call 16; refine (S1.out _).mono ?_; rintro e w7 ⟨rfl, rfl⟩)
            | (go_at_call 16; refine (S2.out _).mono ?_; rintro e w7 ⟨rfl, rfl⟩)
            | (go_at_call 15; refine (S3.out _).mono ?_; rintro e w7 ⟨rfl, rfl⟩)
            | (go_at_call 6; refine (AW.out _).mono ?_; rintro e w8 ⟨rfl, hb8⟩))
          go_ret
          exact ⟨rfl, HBW.out.trans ((hb56.trans (hb8.mono hb56.size)).mono HBW.out.size)⟩
        clear NT SR RS S1 S2 S3 AW
        rcases hex with i1 | ⟨i1, i2⟩
        all_goals
          go_wp2
          exact use_rest REST rfl
      · obtain ⟨e1, e2⟩ := nth_yes (L := L) (q := q) (by omega)
        rw [e1, e2] at NT
        obtain ⟨b2, o2, hA2, _, h1c⟩ := hrd.plain (by omega)
        have q1 := h1c q j2
        subst hA2
        obtain ⟨v0, hv0⟩ : ∃ v0, L.getD q 0 = v0 := ⟨_, rfl⟩
        rw [hv0] at NT q1
        have HQ : Hid (∀ w5, Below wr.heap.size wr w5 → w5.cell? ⟨b2, o2 + q, none⟩ = some (.int .u64 v0)) := Lib.hid (fun w5 hb5 => by
          obtain ⟨b3, o3, e3, _, h3⟩ := (hrd.below hb5).plain (by omega)
          injection e3 with e3
          injection e3 with e4 e5
          subst e4; subst e5
          rw [← hv0]
          exact h3 q j2)
        have j3 : ¬ (q : Int) < 0 := by omega
        have j4 : (q : Int) < (k : Int) := by omega
        clear h1c hv0 q1
        clear hTl hap hown hbl hbx xb hsz hL hxb hmono hrd hfy hszz hT hgo hLe e1 e2 hI
        have REST : ∀ X : Nat → Value, K9 { tmps := #[.slice A n c, .int .i64 q, .int .u64 least, undef, undef, .pointer (some ⟨w.heap.size, 0, none⟩), X 6, .pointer (some ⟨p, 0, none⟩), .slice (some ⟨b2, o2, none⟩) k cv, X 9, X 10, undef, undef, undef, undef, undef, .bool true, .bool false, .pointer (some ⟨p, 0, none⟩), X 19, X 20, X 21, X 22, X 23, X 24, X 25, X 26, X 27, X 28, X 29, X 30, X 31, X 32, X 33, X 34, X 35, X 36, X 37, X 38, X 39, X 40, X 41, X 42, X 43, X 44, undef, undef, undef, undef, undef, undef, undef, undef, undef, undef, undef, undef, undef, undef, undef, undef, undef, undef, undef, undef, undef, undef, undef, undef, undef, undef, undef, undef, undef, undef, undef, undef, undef, undef, undef, undef, undef, undef, undef, undef, undef, undef, undef, undef, undef, undef, undef, undef, undef, undef, undef], defers := [] } wr := fun X => by
          refine HK9.out _ _ ?_
          clear HK9
          go_wp2_with (first
            | (go_at_call 17; refine NT.out.mono ?_; rintro e w5 ⟨rfl, hb5⟩; have qc := HQ.out _ hb5)
            | (go_at_call 18; refine (SR.out _ hb5).mono ?_; rintro e w6 ⟨rfl, hb6⟩; have hb56 := hb5.trans (hb6.mono hb5.size); have kb := (HXB.out.below hb56 HXB.out.lt).cell 0)
            | (go_at_call 20; refine (RS.out _ hb56).mono ?_; rintro e w7 ⟨rfl, rfl⟩)
            | (go_at_call 16; refine (S1.out _).mono ?_; rintro e w7 ⟨rfl, rfl⟩)
            | (go_at_call 16; refine (S2.out _).mono ?_; rintro e w7 ⟨rfl, rfl⟩)
            | (go_at_call 15; refine (S3.out _).mono ?_; rintro e w7 ⟨rfl, rfl⟩)
            | (go_at_call 6; refine (AW.out _).mono ?_; rintro e w8 ⟨rfl, hb8⟩))
          go_ret
          exact ⟨rfl, HBW.out.trans ((hb56.trans (hb8.mono hb56.size)).mono HBW.out.size)⟩
        clear NT SR RS S1 S2 S3 AW
        rcases hex with i1 | ⟨i1, i2⟩
        all_goals
          go_wp2
          exact use_rest REST rfl

end Go.Proofs.Ytblpmnipapimcaa
