/-
  LAYER 13: TableFollows, walked.
-/
import Derived.Test.YtkaepikjklpmaaaTabFw1
set_option linter.unusedVariables false
set_option maxRecDepth 100000
set_option linter.unusedSimpArgs false
namespace Go.Proofs.Ytkaepikjklpmaaa
open Go.RowKit Go.Shelf
attribute [local go_sem] Oper.semAt_some

/-- The end of the statement: the result is true, what was deferred is nothing. -/
theorem follows_end {w W10 : World} {D : Nat} (T : Array Value) (hT : T.getD 6 undef = .pointer (some ⟨w.heap.size + 1, 0, none⟩)) (hw : w.heap.size ≤ D) (hD : W10.heap[D]? = some (.deferred (some []))) (hb : Blk W10 (w.heap.size + 1) 4 #[.bool false]) (hB : Below w.heap.size w W10) :
    bodyPostM Fence.wide 9 Try.prog Try.f5 (fun e w' => e = .returned (.bool true) ∧ Below w.heap.size w w') Exit.ret { tmps := T, defers := [{ target := .collected D, args := #[] }] } (W10.setCell ⟨w.heap.size + 1, 0, none⟩ (.bool true)) := by
  have hK' := (KeepsOthers.setCell W10 ⟨w.heap.size + 1, 0, none⟩ (.bool true)).same D _ hD rfl
  refine ⟨by simp, .inl ⟨_, _, rfl, run_takeDeferred hK', ?_⟩⟩
  have q1 := hb.set_ 0 (.bool true)
  refine ⟨_, results_c rfl _ _ (w.heap.size + 1) (.bool true) hT (load_bool ((q1.put_other hK' rfl).cell 0)), rfl, ?_⟩
  exact below_put1 (hB.setCell (p := ⟨w.heap.size + 1, 0, none⟩) (by show w.heap.size ≤ w.heap.size + 1; omega) (.bool true)) hw _

set_option maxHeartbeats 24000000 in
theorem follows_law (A : Option Addr) (n c : Nat) (zs : List Int) (pl wd : Int) (w : World) (hin : InInts w .u64 A n c zs) (h2 : (Lit.int .u64 pl).wf = true) (h3 : (Lit.int .i64 wd).wf = true) :
    Calls Try.prog 5 #[.slice A n c, .int .u64 pl, .int .i64 wd] w fun e w' => e = .returned (.bool true) ∧ Below w.heap.size w w' := by
  obtain ⟨w0, hw0⟩ : ∃ w0, (w.alloc (.cells #[.int .u64 pl] 22)).alloc (.cells #[.bool false] 4) = w0 := ⟨_, rfl⟩
  have hb0 : Below w.heap.size w w0 := by rw [← hw0]; exact ((Below.refl _ w).alloc (Nat.le_refl _) _).alloc (by simp) _
  have hsz : w0.heap.size = w.heap.size + 1 + 1 := by rw [← hw0]; simp
  have x0 : Blk w0 w.heap.size 22 #[.int .u64 pl] := by rw [← hw0]; exact (Blk.new w _ _).alloc _
  have x1 : Blk w0 (w.heap.size + 1) 4 #[.bool false] := by rw [← hw0]; have := (Blk.new (w.alloc (.cells #[.int .u64 pl] 22)) 4 #[.bool false]); rw [World.size_alloc] at this; exact this
  have AW := Lib.hid awake_any
  have FR := Lib.hid (fun w1 (hb : w0.heap.size ≤ w1.heap.size) => tfresh_any (base := w0.heap.size) 1 0 0 1048576 w1 ⟨by omega, by omega⟩ (by omega) (by omega) hb (by omega))
  have X := Lib.hid (And.intro x0 x1)
  have HI := Lib.hid hin
  have hnc := hin.le
  have hcc := hin.cap
  clear x0 x1 hin
  refine (callsIn_wide (n := 9)).1 ?_
  refine callsIn_of_wp_marks Try.func5 rfl trivial ?_ rfl
  simp only [Try.ntmps5, List.size_toArray, List.length_cons, List.length_nil, Nat.reduceAdd, Nat.reduceSub, Array.replicate_succ, Array.replicate_zero, List.push_toArray, List.append_toArray, List.nil_append, List.cons_append]
  gi_wp2_with (first
    | (refine ⟨trivial, ?_⟩; gi_at_call 6; refine (callsIn_wide.2 (AW.out _)).mono ?_; rintro e w1 ⟨rfl, hb1⟩)
    | (refine ⟨trivial, ?_⟩; gi_at_call 7; refine (callsIn_wide.2 (FR.out _ hb1.size)).mono ?_; rintro e w2 ⟨p, rfl, hb2, T2⟩))
  have T2' : TS w2 w0.heap.size (fun j => w1.heap.size ≤ j ∧ j < w2.heap.size) p 1 1 1 1048576 [] 272 0 := T2
  obtain ⟨gm, hgm⟩ : ∃ gm, w2.heap.size = gm := ⟨_, rfl⟩
  have xm : Blk (w2.alloc (.cells #[.pointer (some ⟨p, 0, none⟩)] 28)) gm 28 #[.pointer (some ⟨p, 0, none⟩)] := by rw [← hgm]; exact Blk.new w2 _ _
  have hb02 : Below w0.heap.size w0 w2 := hb1.trans (hb2.mono hb1.size)
  have FW0 : FwL w0 (w2.alloc (.cells #[.pointer (some ⟨p, 0, none⟩)] 28)) gm p zs 0 :=
    ⟨⟨_, (AS.of_ts T2').below (boxed _ _), fun e => by have := e.2; omega⟩, xm, by have := hb02.size; omega, hb02.alloc hb02.size _⟩
  rw [hgm]
  clear T2 T2' xm hgm FR hb1 hb2
  refine wpIn_mono (Q := OnBreak 0 fun a' W' => ∃ j : Nat, j ≤ n ∧ j ≤ 30 ∧ FwL w0 W' gm p zs j ∧ ∃ v8 v24 v25 v26 v27 v28 v29 v30 v31 v32 v33 v34 v35 v36 v37 v38 v39 v40 v41 v42, a' = { tmps := #[.slice A n c, .int .u64 pl, .int .i64 wd, undef, .pointer (some ⟨w.heap.size, 0, none⟩), undef, .pointer (some ⟨w.heap.size + 1, 0, none⟩), .pointer (some ⟨gm, 0, none⟩), v8, undef, undef, undef, undef, undef, undef, undef, undef, undef, undef, undef, undef, .bool true, .bool false, .pointer (some ⟨p, 0, none⟩), v24, v25, v26, v27, v28, v29, v30, v31, v32, v33, v34, v35, v36, v37, v38, v39, v40, v41, v42, undef, undef, undef, undef, undef, undef, undef, undef, undef, undef, undef, undef, undef, undef, undef, undef, undef, undef, undef, undef, undef, undef, undef, undef, undef, undef, undef, undef, undef, undef, undef, undef, undef, undef, undef, undef, undef, undef, undef, undef, undef, undef, undef, undef, undef, undef, undef, undef, undef, undef, undef, undef, undef, undef, undef, undef, undef, undef, undef, undef, undef, undef, undef, undef, undef, undef, undef, undef, undef, undef, undef, undef, undef, undef, undef, undef, undef, undef, undef, undef, undef, undef, undef, undef, undef, undef, undef, undef, undef, undef, undef, undef, undef, undef, undef, undef], defers := [] }) ?_ ?_
  rotate_left
  · intro e a' W3 hq3
    cases e <;> try exact hq3.elim
    obtain ⟨rfl, j, hjn, hj30, HF, v8, v24, v25, v26, v27, v28, v29, v30, v31, v32, v33, v34, v35, v36, v37, v38, v39, v40, v41, v42, rfl⟩ := hq3
    clear FW0
    obtain ⟨gg, hgg⟩ : ∃ gg, W3.heap.size = gg := ⟨_, rfl⟩
    obtain ⟨hb34, x9, x10⟩ := two_blocks0 W3 #[.int .i64 0] #[.int .i64 0] 3 3
    have hbw3 : Below w.heap.size w W3 := hb0.trans (HF.below.mono hb0.size)
    have hs3 := HF.below.size
    have hglt := HF.gm_.lt
    have xm := HF.gm_.below hb34 hglt
    have xp := (X.out.1.below HF.below (by omega)).below hb34 (by omega)
    have xr := (X.out.2.below HF.below (by omega)).below hb34 (by omega)
    rw [hgg] at x9 x10
    have cm := xm.cell 0
    have cp := xp.cell 0
    have FOL := Lib.hid (fun w1 => tfollowI_any p pl wd w1)
    have Y := Lib.hid (And.intro x9 (And.intro x10 (And.intro xm (And.intro xp xr))))
    clear x9 x10 xm xp xr
    gi_wp2_with (refine ⟨trivial, ?_⟩; gi_at_call 19; refine (callsIn_wide.2 (FOL.out _)).mono ?_; rintro e w5 ⟨rfl, hb5, hfl⟩)
    obtain ⟨x9, x10, xm, xp, xr⟩ := Y.out
    have hs5 := hb5.size
    rw [World.size_alloc, World.size_alloc, hgg] at hs5
    have y9 := x9.below hb5 (by simp; omega)
    have y10 := x10.below hb5 (by simp; omega)
    have ym := xm.below hb5 (by simp; omega)
    have yp := xp.below hb5 (by simp; omega)
    have yr := xr.below hb5 (by simp; omega)
    obtain ⟨SS, hAS, hgS⟩ := HF.ex
    have hA5 := (hAS.below hb34).below hb5
    have hfoot := hA5.foot
    obtain ⟨m, bv, sv, H5, hbm, hAR, hlim⟩ := hA5
    have hlen := hAR.len
    have hjl : (zs.take j).length = j := by rw [List.length_take, HI.out.reads.len]; omega
    rw [hjl] at hlen
    have hml : m.b.length ≤ 1099511627776 := by omega
    have hSlt : ∀ q, SS q → q < gg := fun q hq => by have := (hAS.foot q hq).2; omega
    have hgl := hfl.lo
    simp only [World.size_alloc, hgg] at hfl hgl
    have hpU : IsU pl := wf_u64_bd h2
    obtain ⟨its, hit, hseq⟩ : ∃ its, Hid ((wd = 0 ∧ chainAt m 1 1 4 0 0 pl its) ∨ (¬ wd = 0 ∧ its = [])) ∧ SeqTells Fence.wide 8 Try.prog 38 #[.pointer (some ⟨gg + 1 + 1 + 3, 0, none⟩), .pointer (some ⟨gg + 1 + 1 + 2, 0, none⟩), .pointer (some ⟨gg + 1 + 1 + 1, 0, none⟩), .pointer (some ⟨gg + 1 + 1, 0, none⟩)] (Ob.encs 4) (TellsOb its) (KeepC w5.heap.size (fun k => k = gg ∨ k = gg + 1))
        (fun xs => xs.map (·.t) = its) (fun pre => ∃ rest, pre.map (·.t) ++ rest = its) its.length w5 := by
      by_cases hwd : wd = 0
      · subst hwd
        obtain ⟨its, hch⟩ := chain_ex (D := 1) (F := 1) (by omega) (by omega) hbm (kd := 4) (wd := 0) m.b.length 0 pl (by omega) (by omega)
        exact ⟨its, Lib.hid (.inl ⟨rfl, hch⟩), follow_tells 8 (by omega) w5.heap.size (fun k => k = gg ∨ k = gg + 1) (gg + 1 + 1 + 3) (gg + 1 + 1 + 2) (gg + 1 + 1 + 1) (gg + 1 + 1) 4 0 pl its w5 H5 hbm hml (by omega) (by omega) (fun q hq => ⟨by have := hSlt q hq; omega, by have := hSlt q hq; omega⟩) ⟨by omega, by omega, by omega, by omega, Nat.le_refl _⟩ ⟨by omega, by omega, by omega, by omega⟩ hfl.cw hfl.ck hfl.cp hfl.cm (by decide) hpU hch⟩
      · exact ⟨[], Lib.hid (.inr ⟨hwd, rfl⟩), follow_none 8 (by omega) w5.heap.size (fun k => k = gg ∨ k = gg + 1) (gg + 1 + 1 + 3) (gg + 1 + 1 + 2) (gg + 1 + 1 + 1) (gg + 1 + 1) wd w5 hwd ⟨by omega, by omega⟩ hfl.cw hfl.ck⟩
    have hbw5 : Below w.heap.size w w5 := hbw3.trans ((hb34.trans (hb5.mono hb34.size)).mono hbw3.size)
    have hgmg : gm < gg := by omega
    clear x9 x10 xm xp xr Y X hAS HF hfl hb34 hb5 cm cp FOL hb02
    refine wp_range_tellsH (F := Fence.wide) (n := 9) rfl (by omega) (gf := 38) (lb := #[.pointer (some ⟨gg + 1 + 1 + 3, 0, none⟩), .pointer (some ⟨gg + 1 + 1 + 2, 0, none⟩), .pointer (some ⟨gg + 1 + 1 + 1, 0, none⟩), .pointer (some ⟨gg + 1 + 1, 0, none⟩)]) rfl trivial (enters_of Try.func38 (by kernel_rfl) rfl)
      hseq keepC_t (keepC_b (Nat.le_refl _)) (fun pre x W l o o' _ hl ho hx => hx.put hl ho) (Below.refl _ _) (fun _ => rfl)
      (fun pre W => (True ∧ KeepC w5.heap.size (fun k => k = gg ∨ k = gg + 1) w5 W) ∧ Blk W gg 3 #[.int .i64 (lastJ (pre.map (·.t)) : Nat)] ∧ Blk W (gg + 1) 3 #[.int .i64 (pre.length : Nat)])
      (fun c pre W => False)
      (OwnFrom.and (own_keepC (Nat.le_refl _) _) (OwnFrom.and (own_blkOf (by omega) _) (own_blkOf (by omega) _)))
      (fun c => own_false)
      ⟨⟨trivial, Chg.refl _ _⟩, y9, y10⟩
      (fun x a' W => ∃ b, Blk W b 54 #[.int .i64 4, .slice x.A x.n x.c, .slice x.B x.m x.d, .slice x.C x.p x.q] ∧ w5.heap.size ≤ b ∧ a' = { tmps := #[.slice A n c, .int .u64 pl, .int .i64 wd, undef, .pointer (some ⟨w.heap.size, 0, none⟩), undef, .pointer (some ⟨w.heap.size + 1, 0, none⟩), .pointer (some ⟨gm, 0, none⟩), v8, .pointer (some ⟨gg, 0, none⟩), .pointer (some ⟨gg + 1, 0, none⟩), .int .i64 x.t.j, .pointer (some ⟨b, 0, none⟩), undef, undef, undef, undef, undef, undef, undef, undef, .bool true, .bool false, .pointer (some ⟨p, 0, none⟩), v24, v25, v26, v27, v28, v29, v30, v31, v32, v33, v34, v35, v36, v37, v38, v39, v40, v41, v42, .pointer (some ⟨p, 0, none⟩), .int .u64 pl, .int .i64 wd, flV (gg + 1 + 1), .int .i64 x.t.j, x.v 4, undef, undef, undef, undef, undef, undef, undef, undef, undef, undef, undef, undef, undef, undef, undef, undef, undef, undef, undef, undef, undef, undef, undef, undef, undef, undef, undef, undef, undef, undef, undef, undef, undef, undef, undef, undef, undef, undef, undef, undef, undef, undef, undef, undef, undef, undef, undef, undef, undef, undef, undef, undef, undef, undef, undef, undef, undef, undef, undef, undef, undef, undef, undef, undef, undef, undef, undef, undef, undef, undef, undef, undef, undef, undef, undef, undef, undef, undef, undef, undef, undef, undef, undef, undef, undef, undef, undef, undef, undef, undef], defers := [] })
      (fun x a' W l o o' _ hl ho ⟨b, h1, h2, h3⟩ => ⟨b, h1.put_other hl ho, h2, h3⟩)
      ?assign ?body ?done ?stop
    case assign =>
      intro l pre x W K hi hpx hK
      dsimp only [Ob.encs, Ob.v, obV]
      gi_wp2
      exact hK _ _ (KeepsOthers.alloc _ _) (keepC_below (boxed _ _)) ⟨⟨trivial, keepC_t hi.1.2 (keepC_below (boxed _ _))⟩, hi.2.1.alloc _, hi.2.2.alloc _⟩ (hpx.alloc _) ⟨W.heap.size, Blk.new _ _ _, hi.1.2.size, rfl⟩
    case body =>
      rintro l pre x W ⟨⟨-, hkw⟩, z9, z10⟩ _ hpx a' ⟨b, hbx, hbn, rfl⟩
      obtain ⟨⟨rest, hpre⟩, hlies⟩ := hpx
      have hmem : x.t ∈ its := by rw [← hpre]; simp
      have hch : chainAt m 1 1 4 0 0 pl (pre.map (·.t) ++ x.t :: rest) := by
        rcases hit.out with ⟨-, h⟩ | ⟨-, h⟩
        · rw [hpre]; exact h
        · rw [h] at hmem; cases hmem
      obtain ⟨hob, hlast, hfirst⟩ := chain_step hch
      have hHW := H5.keep hkw (fun q hq e => by have := hSlt q hq; omega)
      have hpos := obAt_pos hob
      have ATC := Lib.hid (at4_yes W hHW hbm hml hob)
      have hws := obAt_ws hbm hob
      obtain ⟨hisl, hrsb⟩ := obAt_len hbm hob
      have hx1 := hlies.wr.len
      have hx2 := hlies.ir.len
      have SAMEC := Lib.hid (show ∀ (W9 : World) (A1 : Option Addr) (n1 c1 : Nat) (A2 : Option Addr) (n2 c2 : Nat) (A3 : Option Addr) (n3 c3 : Nat), Below W.heap.size W W9 → ObR W9 W9.heap.size A1 n1 c1 x.t.ws A2 n2 c2 x.t.rs A3 n3 c3 x.t.is →
          Calls Try.prog 21 #[obV 4 x.A x.n x.c x.B x.m x.d x.C x.p x.q, obV 4 A1 n1 c1 A2 n2 c2 A3 n3 c3] (W9.alloc (.cells #[.int .i64 4, .slice A1 n1 c1, .slice A2 n2 c2, .slice A3 n3 c3] 54)) fun e w' => e = .returned (.bool true) ∧ Below (W9.alloc (.cells #[.int .i64 4, .slice A1 n1 c1, .slice A2 n2 c2, .slice A3 n3 c3] 54)).heap.size (W9.alloc (.cells #[.int .i64 4, .slice A1 n1 c1, .slice A2 n2 c2, .slice A3 n3 c3] 54)) w' from fun W9 A1 n1 c1 A2 n2 c2 A3 n3 c3 hb9 ho => by
        have g1 := ho.wr.len
        have g2 := ho.ir.len
        have hb10 := boxed W9 (.cells #[.int .i64 4, .slice A1 n1 c1, .slice A2 n2 c2, .slice A3 n3 c3] 54)
        refine (osame_any 4 4 x.A A1 x.n n1 x.c c1 x.t.ws x.t.ws x.B A2 x.m n2 x.d c2 x.t.rs x.t.rs x.C A3 x.p n3 x.q c3 x.t.is x.t.is (W9.alloc (.cells #[.int .i64 4, .slice A1 n1 c1, .slice A2 n2 c2, .slice A3 n3 c3] 54)) ((hlies.below (hb9.trans (hb10.mono hb9.size)) (Nat.le_refl _)).upto (by have := hb9.size; rw [World.size_alloc]; omega)) ((ho.below hb10 (Nat.le_refl _)).upto (by rw [World.size_alloc]; omega)) (Nat.le_refl _) hrsb hrsb ⟨by omega, by omega, by omega, by omega⟩).mono ?_
        rw [sameO_self]
        exact fun e w' h => h)
      have t2 := wrap_u64_of (x := x.t.j) (by omega) (by omega)
      have zp := keepC_blk yp hkw (by omega) (by omega)
      have cmW := (keepC_blk ym hkw (by omega) (by omega)).cell 0
      have HL9 := Lib.hid (show ∀ y : Ob, y = x → lastJ ((pre ++ [y]).map (·.t)) = x.t.j from fun y e => by rw [e, List.map_append]; exact lastJ_snoc _ _)
      obtain ⟨lj, hlj⟩ : ∃ lj, lastJ (pre.map (·.t)) = lj := ⟨_, rfl⟩
      obtain ⟨q, hq⟩ : ∃ q, pre.length = q := ⟨_, rfl⟩
      rw [hlj] at z9 hlast
      rw [hq] at z10
      have d1 : ¬ (x.t.j : Int) ≤ (lj : Int) := by omega
      have hq30 : Hid (q ≤ 1000000) := by
        have h := AR.chain (its := pre.map (·.t) ++ x.t :: rest) hAR (last := 0) (pl := pl) (lo := 0) (fun i _ => Nat.zero_le _) (Nat.zero_le _) hch
        simp only [List.length_append, List.length_map, hq, hjl] at h
        exact Lib.hid (by omega)
      have hfq : Hid (q = 0 → pl = x.t.j) := Lib.hid (fun e => hfirst (by have : pre = [] := List.length_eq_zero_iff.1 (by omega); rw [this]; rfl))
      have w10 : IntKind.i64.wrap ((q : Int) + 1) = (q : Int) + 1 := wrap_i64_of (by have := hq30.out; omega) (by have := hq30.out; omega)
      have b0 := hbx.cell 0
      have b1 := hbx.cell 1
      have b2 := hbx.cell 2
      have b3 := hbx.cell 3
      have hgW := hkw.size
      have ZZ := Lib.hid (And.intro z9 (And.intro z10 (And.intro zp hbx)))
      have HQ := Lib.hid hq
      clear hch hfirst hit hpre hmem hHW hlj hob hpos hws hisl hrsb hx1 hx2 hlies z9 z10 zp hbx hq hlast
      have HD := Lib.hid (show ∀ W9 W10 : World, Below W.heap.size W W9 → Below W9.heap.size W9 W10 → KeepsOthers W W10 ∧ KeepC w5.heap.size (fun k => k = gg ∨ k = gg + 1) W W10 from fun W9 W10 h1 h2 => ⟨(others_below h1).trans (others_below h2), keepC_t (keepC_below h1) (keepC_below h2)⟩)
      by_cases hq0 : q = 0
      · have hpl := hfq.out hq0
        subst hpl
        subst hq0
        gi_wp2_with (first
          | (refine ⟨trivial, ?_⟩; gi_at_call 20; refine (CallsIn.inRound l (callsIn_wide.2 ATC.out)).mono ?_; rintro e W9 ⟨A1, n1, c1, A2, n2, c2, A3, n3, c3, rfl, hb9, ho9, -⟩; have hbA := hb9.trans ((boxed W9 (.cells #[.int .i64 4, .slice A1 n1 c1, .slice A2 n2 c2, .slice A3 n3 c3] 54)).mono hb9.size); have k9 := (ZZ.out.1.below hbA ZZ.out.1.lt).cell 0; have k10 := (ZZ.out.2.1.below hbA ZZ.out.2.1.lt).cell 0; have kp := (ZZ.out.2.2.1.below hbA ZZ.out.2.2.1.lt).cell 0; have kb0 := (ZZ.out.2.2.2.below hbA ZZ.out.2.2.2.lt).cell 0; have kb1 := (ZZ.out.2.2.2.below hbA ZZ.out.2.2.2.lt).cell 1; have kb2 := (ZZ.out.2.2.2.below hbA ZZ.out.2.2.2.lt).cell 2; have kb3 := (ZZ.out.2.2.2.below hbA ZZ.out.2.2.2.lt).cell 3)
          | (refine ⟨trivial, ?_⟩; gi_at_call 21; refine (CallsIn.inRound l (callsIn_wide.2 (SAMEC.out _ _ _ _ _ _ _ _ _ _ hb9 ho9))).mono ?_; rintro e W10 ⟨rfl, hb10⟩; have hbC := hbA.trans (hb10.mono hbA.size); have m9 := (ZZ.out.1.below hbC ZZ.out.1.lt).cell 0; have m10 := (ZZ.out.2.1.below hbC ZZ.out.2.1.lt).cell 0; have mp := (ZZ.out.2.2.1.below hbC ZZ.out.2.2.1.lt).cell 0; have fr9 := (ZZ.out.1.below hbC ZZ.out.1.lt).frozen 0; have fr10 := (ZZ.out.2.1.below hbC ZZ.out.2.1.lt).frozen 0))
        have q9 := ZZ.out.1.below hbC ZZ.out.1.lt
        have q10 := ZZ.out.2.1.below hbC ZZ.out.2.1.lt
        have HK1 := HD.out W10 W10 hbC (Below.refl _ _)
        refine ⟨(HK1.1.trans (KeepsOthers.setCell _ _ _)).trans (KeepsOthers.setCell _ _ _), keepC_set (keepC_set HK1.2 (.inr (.inl rfl)) _) (.inr (.inr rfl)) _, ⟨trivial, keepC_set (keepC_set (keepC_t hkw HK1.2) (.inr (.inl rfl)) _) (.inr (.inr rfl)) _⟩, ?_, ?_⟩
        · rw [HL9.out x rfl]; exact (q9.set_ 0 _).far (by show gg ≠ gg + 1; omega) _
        · have e9 : (((pre ++ [x]).length : Nat) : Int) = ((0 : Nat) : Int) + 1 := by rw [List.length_append, HQ.out]; simp
          rw [e9]
          exact (q10.far (p := ⟨gg, 0, none⟩) (by show gg + 1 ≠ gg; omega) _).set_ 0 _
      · gi_wp2_with (first
          | (refine ⟨trivial, ?_⟩; gi_at_call 20; refine (CallsIn.inRound l (callsIn_wide.2 ATC.out)).mono ?_; rintro e W9 ⟨A1, n1, c1, A2, n2, c2, A3, n3, c3, rfl, hb9, ho9, -⟩; have hbA := hb9.trans ((boxed W9 (.cells #[.int .i64 4, .slice A1 n1 c1, .slice A2 n2 c2, .slice A3 n3 c3] 54)).mono hb9.size); have k9 := (ZZ.out.1.below hbA ZZ.out.1.lt).cell 0; have k10 := (ZZ.out.2.1.below hbA ZZ.out.2.1.lt).cell 0; have kp := (ZZ.out.2.2.1.below hbA ZZ.out.2.2.1.lt).cell 0; have kb0 := (ZZ.out.2.2.2.below hbA ZZ.out.2.2.2.lt).cell 0; have kb1 := (ZZ.out.2.2.2.below hbA ZZ.out.2.2.2.lt).cell 1; have kb2 := (ZZ.out.2.2.2.below hbA ZZ.out.2.2.2.lt).cell 2; have kb3 := (ZZ.out.2.2.2.below hbA ZZ.out.2.2.2.lt).cell 3)
          | (refine ⟨trivial, ?_⟩; gi_at_call 21; refine (CallsIn.inRound l (callsIn_wide.2 (SAMEC.out _ _ _ _ _ _ _ _ _ _ hb9 ho9))).mono ?_; rintro e W10 ⟨rfl, hb10⟩; have hbC := hbA.trans (hb10.mono hbA.size); have m9 := (ZZ.out.1.below hbC ZZ.out.1.lt).cell 0; have m10 := (ZZ.out.2.1.below hbC ZZ.out.2.1.lt).cell 0; have mp := (ZZ.out.2.2.1.below hbC ZZ.out.2.2.1.lt).cell 0; have fr9 := (ZZ.out.1.below hbC ZZ.out.1.lt).frozen 0; have fr10 := (ZZ.out.2.1.below hbC ZZ.out.2.1.lt).frozen 0))
        have q9 := ZZ.out.1.below hbC ZZ.out.1.lt
        have q10 := ZZ.out.2.1.below hbC ZZ.out.2.1.lt
        have HK1 := HD.out W10 W10 hbC (Below.refl _ _)
        refine ⟨(HK1.1.trans (KeepsOthers.setCell _ _ _)).trans (KeepsOthers.setCell _ _ _), keepC_set (keepC_set HK1.2 (.inr (.inl rfl)) _) (.inr (.inr rfl)) _, ⟨trivial, keepC_set (keepC_set (keepC_t hkw HK1.2) (.inr (.inl rfl)) _) (.inr (.inr rfl)) _⟩, ?_, ?_⟩
        · rw [HL9.out x rfl]; exact (q9.set_ 0 _).far (by show gg ≠ gg + 1; omega) _
        · have e9 : (((pre ++ [x]).length : Nat) : Int) = (q : Int) + 1 := by rw [List.length_append, HQ.out]; simp
          rw [e9]
          exact (q10.far (p := ⟨gg, 0, none⟩) (by show gg + 1 ≠ gg; omega) _).set_ 0 _
    case done =>
      rintro D xs W hD hxs ⟨⟨-, hkw⟩, z9, z10⟩ hK
      have zp := keepC_blk yp hkw (by omega) (by omega)
      have zm := keepC_blk ym hkw (by omega) (by omega)
      have zr := keepC_blk yr hkw (by omega) (by omega)
      have hHW := H5.keep hkw (fun q hq e => by have := hSlt q hq; omega)
      have cmW := zm.cell 0
      have cpW := zp.cell 0
      have hsW := hkw.size
      have hbW : Below w.heap.size w W := hbw5.trans (keepC_to hkw (by omega) hbw5.size (fun q hq e => by omega))
      rcases List.eq_nil_or_concat xs with rfl | ⟨xs', x, rfl⟩
      · have hits : its = [] := hxs.symm
        obtain ⟨mo, hmo, hat⟩ := at4_all (base := w0.heap.size) (p := p) (S := SS) (bv := bv) (sv := sv) pl hbm hml hpU.1
        have ATP := Lib.hid (hat W hHW)
        have z10' : Blk W (gg + 1) 3 #[.int .i64 0] := z10
        have c10 := z10'.cell 0
        have hor : Hid (mo = false ∨ (mo = true ∧ ¬ wd = 0)) := by
          rcases hmo with ⟨e, -⟩ | ⟨e, t, ht, e2⟩
          · exact Lib.hid (.inl e)
          · refine Lib.hid (.inr ⟨e, fun e3 => ?_⟩)
            rcases hit.out with ⟨-, hc⟩ | ⟨h, -⟩
            · rw [hits] at hc
              rcases hc with hc | hc
              · have := obAt_pos ht; omega
              · exact no_ob hc ht e2
            · exact h e3
        have ZR := Lib.hid zr
        have HEND := Lib.hid (show ∀ W9 W10 : World, Below W.heap.size W W9 → Below W9.heap.size W9 W10 → W10.heap[D]? = some (.deferred (some [])) ∧ Blk W10 (w.heap.size + 1) 4 #[.bool false] ∧ Below w.heap.size w W10 from fun W9 W10 h1 h2 => by
          have h3 := h1.trans (h2.mono h1.size)
          exact ⟨(h3.block D (Array.getElem?_eq_some_iff.1 hK).1).trans hK, zr.below h3 zr.lt, hbW.trans (h3.mono hbW.size)⟩)
        clear hit hxs hits hmo hat z9 z10 z10' zp zm zr hHW y9 y10 ym yp yr hseq
        rcases hor.out with rfl | ⟨rfl, hwd⟩
        · gi_wp2_with (first
            | (refine ⟨trivial, ?_⟩; gi_at_call 20; refine (callsIn_wide.2 ATP.out).mono ?_; rintro e W9 ⟨k1, A1, n1, c1, A2, n2, c2, A3, n3, c3, rfl, hb9⟩; have hbA := hb9.trans ((boxed W9 (.cells #[.int .i64 k1, .slice A1 n1 c1, .slice A2 n2 c2, .slice A3 n3 c3] 54)).mono hb9.size))
            | (refine ⟨trivial, ?_⟩; gi_at_call 6; refine (callsIn_wide.2 (AW.out _)).mono ?_; rintro e W10 ⟨rfl, hb10⟩; have mr := (HEND.out _ _ hbA hb10).2.1.cell 0; have fr := (HEND.out _ _ hbA hb10).2.1.frozen 0))
          obtain ⟨e1, e2, e3⟩ := HEND.out _ _ hbA hb10
          exact follows_end _ rfl (by omega) e1 e2 e3
        · have ew : (wd != 0) = true := by simpa using hwd
          gi_wp2_with (first
            | (refine ⟨trivial, ?_⟩; gi_at_call 20; refine (callsIn_wide.2 ATP.out).mono ?_; rintro e W9 ⟨k1, A1, n1, c1, A2, n2, c2, A3, n3, c3, rfl, hb9⟩; have hbA := hb9.trans ((boxed W9 (.cells #[.int .i64 k1, .slice A1 n1 c1, .slice A2 n2 c2, .slice A3 n3 c3] 54)).mono hb9.size))
            | (refine ⟨trivial, ?_⟩; gi_at_call 6; refine (callsIn_wide.2 (AW.out _)).mono ?_; rintro e W10 ⟨rfl, hb10⟩; have mr := (HEND.out _ _ hbA hb10).2.1.cell 0; have fr := (HEND.out _ _ hbA hb10).2.1.frozen 0))
          obtain ⟨e1, e2, e3⟩ := HEND.out _ _ hbA hb10
          exact follows_end _ rfl (by omega) e1 e2 e3
      · rw [List.concat_eq_append] at hxs z9 z10
        have hits : xs'.map (·.t) ++ [x.t] = its := by rw [← hxs]; simp
        obtain ⟨rfl, hch⟩ : wd = 0 ∧ chainAt m 1 1 4 0 0 pl (xs'.map (·.t) ++ [x.t]) := by
          rcases hit.out with ⟨h, hc⟩ | ⟨-, h⟩
          · rw [hits]; exact ⟨h, hc⟩
          · rw [h] at hits; simp at hits
        obtain ⟨hob, hlast⟩ := chain_last hch
        have hpos := obAt_pos hob
        obtain ⟨hws, huU⟩ := obAt_ws hbm hob
        have hlj : lastJ ((xs' ++ [x]).map (·.t)) = x.t.j := by rw [List.map_append]; exact lastJ_snoc _ _
        rw [hlj] at z9
        have hcount : (xs' ++ [x]).length ≤ j := by
          have h := AR.chain (its := xs'.map (·.t) ++ [x.t]) hAR (last := 0) (pl := pl) (lo := 0) (fun i _ => Nat.zero_le _) (Nat.zero_le _) hch
          rw [hjl] at h
          simp at h ⊢
          omega
        have hcpos : 0 < (xs' ++ [x]).length := by simp
        obtain ⟨q, hq⟩ : ∃ q, (xs' ++ [x]).length = q := ⟨_, rfl⟩
        rw [hq] at z10 hcount hcpos
        obtain ⟨u, hu⟩ : ∃ u, x.t.ws.getD 0 0 = u := ⟨_, rfl⟩
        rw [hu] at hlast huU
        obtain ⟨mo, hmo, hat⟩ := at4_all (base := w0.heap.size) (p := p) (S := SS) (bv := bv) (sv := sv) u hbm hml huU.1
        have hor : Hid (mo = false ∨ (mo = true ∧ u ≤ x.t.j)) := by
          rcases hmo with ⟨e, -⟩ | ⟨e, t, ht, e2⟩
          · exact Lib.hid (.inl e)
          · refine Lib.hid (.inr ⟨e, ?_⟩)
            rcases hlast with h | h
            · omega
            · exact (no_ob h ht e2).elim
        have ATX := Lib.hid (at4_yes W hHW hbm hml hob)
        have ATU := Lib.hid (fun wx (hx : Below W.heap.size W wx) => hat wx (hHW.below hx))
        have t2 := wrap_u64_of (x := x.t.j) (by omega) (by omega)
        have c9 := z9.cell 0
        have c10 := z10.cell 0
        have hq0 : (((q : Nat) : Int) == 0) = false := by simp; omega
        have hqn : (q : Int) ≤ (n : Int) := by omega
        have HEND := Lib.hid (show ∀ W9 : World, Below W.heap.size W W9 → W9.heap[D]? = some (.deferred (some [])) ∧ (Blk W9 (w.heap.size + 1) 4 #[.bool false] ∧ Blk W9 gg 3 #[.int .i64 (x.t.j : Nat)] ∧ Blk W9 (gg + 1) 3 #[.int .i64 q] ∧ Blk W9 gm 28 #[.pointer (some ⟨p, 0, none⟩)]) ∧ Below w.heap.size w W9 from fun W9 h3 =>
          ⟨(h3.block D (Array.getElem?_eq_some_iff.1 hK).1).trans hK, ⟨zr.below h3 zr.lt, z9.below h3 z9.lt, z10.below h3 z10.lt, zm.below h3 zm.lt⟩, hbW.trans (h3.mono hbW.size)⟩)
        have HOB := Lib.hid (show ∀ (W9 : World) (A1 : Option Addr) (n1 c1 : Nat) (A2 : Option Addr) (n2 c2 : Nat) (A3 : Option Addr) (n3 c3 : Nat), ObR W9 W9.heap.size A1 n1 c1 x.t.ws A2 n2 c2 x.t.rs A3 n3 c3 x.t.is → ∃ gb off, A1 = some ⟨gb, off, none⟩ ∧ n1 = 1 ∧ gb < W9.heap.size ∧ W9.cell? ⟨gb, off, none⟩ = some (.int .u64 u) from fun W9 A1 n1 c1 A2 n2 c2 A3 n3 c3 ho => by
          have hl := ho.wr.len
          rw [hws] at hl
          obtain ⟨gb, off, e1, hgb, hgc⟩ := ho.wr.at2 (by omega) (by omega)
          have hg1 := hgc 0 _ (cellsOf_get (by rw [hws]; omega))
          rw [hu, Nat.add_zero] at hg1
          exact ⟨gb, off, e1, hl.symm, hgb, hg1⟩)
        clear hit hxs hits hmo hat z9 z10 zp zm zr hHW y9 y10 ym yp yr hseq hch hob hlast hws hu hq hlj huU
        gi_wp2_with (first
            | (refine ⟨trivial, ?_⟩; gi_at_call 20; refine (callsIn_wide.2 ATX.out).mono ?_; rintro e W9 ⟨A1, n1, c1, A2, n2, c2, A3, n3, c3, rfl, hb9, ho9, hob9⟩; obtain ⟨gb, off, rfl, rfl, hgb, hcu⟩ := HOB.out _ _ _ _ _ _ _ _ _ _ ho9; obtain ⟨csu, hbu⟩ := hob9 _ _ rfl; clear hob9))
        have hbA : Below W.heap.size W (W9.alloc (.cells #[.int .i64 4, .slice (some ⟨gb, off, none⟩) 1 c1, .slice A2 n2 c2, .slice A3 n3 c3] 54)) := hb9.trans ((boxed W9 (.cells #[.int .i64 4, .slice (some ⟨gb, off, none⟩) 1 c1, .slice A2 n2 c2, .slice A3 n3 c3] 54)).mono hb9.size)
        obtain ⟨Wa, hWa⟩ : ∃ Wa, W9.alloc (.cells #[.int .i64 4, .slice (some ⟨gb, off, none⟩) 1 c1, .slice A2 n2 c2, .slice A3 n3 c3] 54) = Wa := ⟨_, rfl⟩
        have hoa : Blk Wa W9.heap.size 54 #[.int .i64 4, .slice (some ⟨gb, off, none⟩) 1 c1, .slice A2 n2 c2, .slice A3 n3 c3] := by rw [← hWa]; exact Blk.new W9 _ _
        have hcua : Wa.cell? ⟨gb, off, none⟩ = some (.int .u64 u) := by rw [← hWa]; exact cell_kept1 hcu
        rw [hWa] at hbA ⊢
        have cma := (HEND.out _ hbA).2.1.2.2.2.cell 0
        have co1 := hoa.cell 1
        have HOA := Lib.hid (And.intro hoa (And.intro hcua (show gb ≠ w.heap.size + 1 from fun e => by rw [e] at hbu; exact blk_one ((HEND.out _ hb9).2.1.1) hbu (by decide))))
        have ha9 : W9.heap.size < Wa.heap.size := hoa.lt
        clear hoa hWa ho9 hcu ATX hbu
        refine wpIn_wide.2 ?_
        refine Code.wp_mono (Q := OnNormal fun a' W' => Below Wa.heap.size Wa W' ∧ ∃ y19 y99 y100 y101 y102 y103 y104 y105 y106 y107 y108 y109 y110 y111 y112 y113 y114, a' = { tmps := #[.slice A n c, .int .u64 pl, .int .i64 0, undef, .pointer (some ⟨w.heap.size, 0, none⟩), undef, .pointer (some ⟨w.heap.size + 1, 0, none⟩), .pointer (some ⟨gm, 0, none⟩), v8, .pointer (some ⟨gg, 0, none⟩), .pointer (some ⟨gg + 1, 0, none⟩), undef, undef, undef, undef, undef, undef, .pointer (some ⟨W9.heap.size, 0, none⟩), .bool true, y19, .bool mo, .bool true, .bool false, .pointer (some ⟨p, 0, none⟩), v24, v25, v26, v27, v28, v29, v30, v31, v32, v33, v34, v35, v36, v37, v38, v39, v40, v41, v42, .pointer (some ⟨p, 0, none⟩), .int .u64 pl, .int .i64 0, flV (gg + 1 + 1), undef, undef, undef, undef, undef, undef, undef, undef, undef, undef, undef, undef, undef, undef, undef, undef, undef, undef, undef, undef, undef, undef, undef, undef, undef, undef, undef, undef, undef, undef, undef, undef, undef, undef, undef, .int .i64 q, .bool false, undef, undef, undef, undef, undef, undef, undef, undef, undef, undef, undef, undef, undef, undef, undef, y99, y100, y101, y102, y103, y104, y105, y106, y107, y108, y109, y110, y111, y112, y113, y114, undef, undef, undef, undef, undef, undef, undef, undef, undef, undef, undef, undef, undef, undef, undef, undef, undef, undef, undef, undef, undef, undef, undef, undef], defers := [{ target := .collected D, args := #[] }] }) ?_ ?_
        rotate_left
        · have HS0 : Hid (Wa.drew.cell? ⟨gm, 0, none⟩ = some (.pointer (some ⟨p, 0, none⟩)) ∧ Wa.drew.cell? ⟨W9.heap.size, 1, none⟩ = some (.slice (some ⟨gb, off, none⟩) 1 c1) ∧ Wa.drew.cell? ⟨gb, off, none⟩ = some (.int .u64 u)) := Lib.hid ⟨cma, co1, hcua⟩
          have HB0 : Below Wa.heap.size Wa Wa.drew := below_drewn (Below.refl _ _) 1
          have HC := Lib.hid (fun (wx : World) (hx : Below Wa.heap.size Wa wx) => (⟨(hx.cell (p := ⟨gm, 0, none⟩) (by show gm < _; have := hbA.size; omega)).trans cma, (hx.cell (p := ⟨W9.heap.size, 1, none⟩) ha9).trans co1, (hx.cell (p := ⟨gb, off, none⟩) (by show gb < _; omega)).trans hcua⟩ : wx.cell? ⟨gm, 0, none⟩ = some (.pointer (some ⟨p, 0, none⟩)) ∧ wx.cell? ⟨W9.heap.size, 1, none⟩ = some (.slice (some ⟨gb, off, none⟩) 1 c1) ∧ wx.cell? ⟨gb, off, none⟩ = some (.int .u64 u)))
          have HAL := Lib.hid (fun (wx : World) (o : Obj) (hx : Below Wa.heap.size Wa wx) => (hx.alloc hx.size o : Below Wa.heap.size Wa (wx.alloc o)))
          have HST := Lib.hid (fun (wx : World) (u0 u1 u2 u3 : Value) (hx : Below Wa.heap.size Wa wx) => ((((hx.setCell (p := ⟨Wa.heap.size, 0, none⟩) (Nat.le_refl _) u0).setCell (p := ⟨Wa.heap.size, 1, none⟩) (Nat.le_refl _) u1).setCell (p := ⟨Wa.heap.size, 2, none⟩) (Nat.le_refl _) u2).setCell (p := ⟨Wa.heap.size, 3, none⟩) (Nat.le_refl _) u3 : Below Wa.heap.size Wa ((((wx.setCell ⟨Wa.heap.size, 0, none⟩ u0).setCell ⟨Wa.heap.size, 1, none⟩ u1).setCell ⟨Wa.heap.size, 2, none⟩ u2).setCell ⟨Wa.heap.size, 3, none⟩ u3)))
          have HBW := Lib.hid (fun (wx : World) (hx : Below Wa.heap.size Wa wx) => (hbA.trans (hx.mono hbA.size) : Below W.heap.size W wx))
          clear cma co1 hcua
          go_region_held3 (fun w' => w'.cell? ⟨gm, 0, none⟩ = some (.pointer (some ⟨p, 0, none⟩)) ∧ w'.cell? ⟨W9.heap.size, 1, none⟩ = some (.slice (some ⟨gb, off, none⟩) 1 c1) ∧ w'.cell? ⟨gb, off, none⟩ = some (.int .u64 u))
            (first | assumption | exact HS0.out | exact HC.out _ HB0 | exact HC.out _ (HAL.out _ _ HB0) | exact HC.out _ (HST.out _ _ _ _ _ HB0))
            ((first
              | (go_at_call 20; refine (ATU.out _ (HBW.out _ HB0)).mono ?_; rintro e Wb ⟨k4, A4, n4, c4, A5, n5, c5, A6, n6, c6, rfl, hb4⟩; have HB0 := HB0.trans (hb4.mono HB0.size))
              | (go_at_call 20; refine (ATU.out _ (HBW.out _ (HAL.out _ _ HB0))).mono ?_; rintro e Wb ⟨k4, A4, n4, c4, A5, n5, c5, A6, n6, c6, rfl, hb4⟩; have hz : Blk Wb Wa.heap.size 54 #[.int .i64 0, .slice none 0 0, .slice none 0 0, .slice none 0 0] := (Blk.new Wa.drew 54 #[.int .i64 0, .slice none 0 0, .slice none 0 0, .slice none 0 0]).below hb4 (by simp); have zc0 := hz.cell 0; have zc1 := hz.cell 1; have zc2 := hz.cell 2; have zc3 := hz.cell 3; have zf0 := hz.frozen 0; have zf1 := hz.frozen 1; have zf2 := hz.frozen 2; have zf3 := hz.frozen 3; clear hz; have HB0 := (HAL.out _ _ HB0).trans (hb4.mono (HAL.out _ _ HB0).size))))
          all_goals first
            | exact ⟨HAL.out _ _ HB0, _, _, _, _, _, _, _, _, _, _, _, _, _, _, _, _, _, rfl⟩
            | exact ⟨HST.out _ _ _ _ _ HB0, _, _, _, _, _, _, _, _, _, _, _, _, _, _, _, _, _, rfl⟩
        · intro e a' Wc hqc
          cases e <;> try exact hqc.elim
          obtain ⟨hbc, y19, y99, y100, y101, y102, y103, y104, y105, y106, y107, y108, y109, y110, y111, y112, y113, y114, rfl⟩ := hqc
          have hbWc := hbA.trans (hbc.mono hbA.size)
          obtain ⟨e1, ⟨e2, e3, e4, -⟩, e5⟩ := HEND.out _ hbWc
          have cc9 := e3.cell 0
          have cc10 := e4.cell 0
          have hco := HOA.out.1.below hbc HOA.out.1.lt
          have cco := hco.cell 1
          have hgbr := HOA.out.2.2
          have ccu := (hbc.cell (p := ⟨gb, off, none⟩) (by show gb < _; omega)).trans HOA.out.2.1
          have HEN2 := Lib.hid (show ∀ Wx : World, Below Wc.heap.size Wc Wx → Wx.heap[D]? = some (.deferred (some [])) ∧ Blk Wx (w.heap.size + 1) 4 #[.bool false] ∧ Below w.heap.size w Wx from fun Wx h => ⟨(h.block D (Array.getElem?_eq_some_iff.1 e1).1).trans e1, e2.below h e2.lt, e5.trans (h.mono e5.size)⟩)
          have HCC : Hid (∀ Wx : World, Below Wc.heap.size Wc Wx → Wx.cell? ⟨gg + 1, 0, none⟩ = some (.int .i64 q) ∧ Wx.cell? ⟨gg, 0, none⟩ = some (.int .i64 (x.t.j : Nat)) ∧ Wx.cell? ⟨W9.heap.size, 1, none⟩ = some (.slice (some ⟨gb, off, none⟩) 1 c1) ∧ Wx.cell? ⟨gb, off, none⟩ = some (.int .u64 u)) := Lib.hid (fun Wx h => ⟨(e4.below h e4.lt).cell 0, (e3.below h e3.lt).cell 0, (hco.below h hco.lt).cell 1, (h.cell (p := ⟨gb, off, none⟩) (by show gb < _; have := hbc.size; omega)).trans ccu⟩)
          have HCF : Hid (∀ (Wx : World) (v : Value), Below Wc.heap.size Wc Wx → (Wx.setCell ⟨w.heap.size + 1, 0, none⟩ v).cell? ⟨gg + 1, 0, none⟩ = some (.int .i64 q) ∧ (Wx.setCell ⟨w.heap.size + 1, 0, none⟩ v).cell? ⟨gg, 0, none⟩ = some (.int .i64 (x.t.j : Nat)) ∧ (Wx.setCell ⟨w.heap.size + 1, 0, none⟩ v).cell? ⟨W9.heap.size, 1, none⟩ = some (.slice (some ⟨gb, off, none⟩) 1 c1) ∧ (Wx.setCell ⟨w.heap.size + 1, 0, none⟩ v).cell? ⟨gb, off, none⟩ = some (.int .u64 u)) := Lib.hid (fun Wx v h => by
            have h9 := hb9.size
            have hne : ∀ (b o : Nat), b ≠ w.heap.size + 1 → (⟨w.heap.size + 1, 0, none⟩ : Addr) ≠ ⟨b, o, none⟩ := fun b o hb e => by injection e with e _ _; exact hb e.symm
            obtain ⟨g1, g2, g3, g4⟩ := HCC.out Wx h
            exact ⟨(World.cell?_setCell_other _ _ _ _ (hne _ _ (by omega))).trans g1, (World.cell?_setCell_other _ _ _ _ (hne _ _ (by omega))).trans g2, (World.cell?_setCell_other _ _ _ _ (hne _ _ (by omega))).trans g3, (World.cell?_setCell_other _ _ _ _ (hne _ _ hgbr)).trans g4⟩)
          have hq1 : decide ((q : Int) ≤ (n : Int)) = true := decide_eq_true hqn
          have hDw : w.heap.size ≤ D := by omega
          have hb0 : Below Wc.heap.size Wc Wc.drew := below_drewn (Below.refl _ _) 1
          clear e1 e2 e3 e4 e5 HOA hco cc9 cc10 cco ccu HEND HOB
          rcases hor.out with rfl | ⟨rfl, hle⟩
          · gi_wp2
            refine wpIn_wide.2 ?_
            refine Code.wp_mono (Q := OnNormal fun a' W' => ∃ W10, Below Wc.heap.size Wc W10 ∧ W' = W10.setCell ⟨w.heap.size + 1, 0, none⟩ (.bool true) ∧ a'.defers = [{ target := .collected D, args := #[] }] ∧ a'.tmps.getD 6 undef = .pointer (some ⟨w.heap.size + 1, 0, none⟩)) ?_ ?_
            rotate_left
            · refine wp_region_held_drew (S := fun Wx => Wx.cell? ⟨gg + 1, 0, none⟩ = some (.int .i64 q) ∧ Wx.cell? ⟨gg, 0, none⟩ = some (.int .i64 (x.t.j : Nat)) ∧ Wx.cell? ⟨W9.heap.size, 1, none⟩ = some (.slice (some ⟨gb, off, none⟩) 1 c1) ∧ Wx.cell? ⟨gb, off, none⟩ = some (.int .u64 u)) (by kernel_rfl) (HCC.out _ hb0) (fun hHeld => ?_)
              refine takeH_yes (i := 0) (v := ?_) rfl (by kernel_rfl) (by kernel_rfl) (by kernel_rfl) (fun _ _ _ h => h) (by kernel_rfl) ?_ (by assumption) ?_
              rotate_left
              · intro wz hSw; (try dsimp only at hSw); go_simp; try with_reducible rfl
              simp only [Act.put, List.setIfInBounds_toArray, List.set_cons_zero, List.set_cons_succ]
              refine takeH_yes (i := 1) (v := ?_) rfl (by kernel_rfl) (by kernel_rfl) (by kernel_rfl) (fun _ _ _ h => h) (by kernel_rfl) ?_ (by assumption) ?_
              rotate_left
              · intro wz hSw; (try dsimp only at hSw); go_simp; try with_reducible rfl
              simp only [Act.put, List.setIfInBounds_toArray, List.set_cons_zero, List.set_cons_succ]
              refine takeH_yes (i := 2) (v := ?_) rfl (by kernel_rfl) (by kernel_rfl) (by kernel_rfl) (fun _ _ _ h => h) (by kernel_rfl) ?_ (by assumption) ?_
              rotate_left
              · intro wz hSw; (try dsimp only at hSw); go_simp; try with_reducible rfl
              simp only [Act.put, List.setIfInBounds_toArray, List.set_cons_zero, List.set_cons_succ]
              refine takeH_yes (i := 3) (v := ?_) rfl (by kernel_rfl) (by kernel_rfl) (by kernel_rfl) (fun _ _ _ h => h) (by kernel_rfl) ?_ (by assumption) ?_
              rotate_left
              · intro wz hSw; (try dsimp only at hSw); go_simp; try with_reducible rfl
              simp only [Act.put, List.setIfInBounds_toArray, List.set_cons_zero, List.set_cons_succ]
              refine takeH_yes (i := 4) (v := ?_) rfl (by kernel_rfl) (by kernel_rfl) (by kernel_rfl) (fun _ _ _ h => h) (by kernel_rfl) ?_ (by assumption) ?_
              rotate_left
              · intro wz hSw; (try dsimp only at hSw); go_simp; try with_reducible rfl
              simp only [Act.put, List.setIfInBounds_toArray, List.set_cons_zero, List.set_cons_succ]
              refine takeH_yes (i := 5) (v := ?_) rfl (by kernel_rfl) (by kernel_rfl) (by kernel_rfl) (fun _ _ _ h => h) (by kernel_rfl) ?_ (by assumption) ?_
              rotate_left
              · intro wz hSw; (try dsimp only at hSw); go_simp; try with_reducible rfl
              simp only [Act.put, List.setIfInBounds_toArray, List.set_cons_zero, List.set_cons_succ]
              refine takeH_yes (i := 6) (v := ?_) rfl (by kernel_rfl) (by kernel_rfl) (by kernel_rfl) (fun _ _ _ h => h) (by kernel_rfl) ?_ (by assumption) ?_
              rotate_left
              · intro wz hSw; (try dsimp only at hSw); go_simp; try with_reducible rfl
              simp only [Act.put, List.setIfInBounds_toArray, List.set_cons_zero, List.set_cons_succ]
              refine takeH_yes (i := 7) (v := ?_) rfl (by kernel_rfl) (by kernel_rfl) (by kernel_rfl) (fun _ _ _ h => h) (by kernel_rfl) ?_ (by assumption) ?_
              rotate_left
              · intro wz hSw; (try dsimp only at hSw); go_simp; try with_reducible rfl
              simp only [Act.put, List.setIfInBounds_toArray, List.set_cons_zero, List.set_cons_succ]
              refine takeH_yes (i := 8) (v := ?_) rfl (by kernel_rfl) (by kernel_rfl) (by kernel_rfl) (fun _ _ _ h => h) (by kernel_rfl) ?_ (by assumption) ?_
              rotate_left
              · intro wz hSw; (try dsimp only at hSw); go_simp; try with_reducible rfl
              simp only [Act.put, List.setIfInBounds_toArray, List.set_cons_zero, List.set_cons_succ]
              refine takeH_yes (i := 9) (v := ?_) rfl (by kernel_rfl) (by kernel_rfl) (by kernel_rfl) (fun _ _ _ h => h) (by kernel_rfl) ?_ (by assumption) ?_
              rotate_left
              · intro wz hSw; (try dsimp only at hSw); go_simp; try with_reducible rfl
              simp only [Act.put, List.setIfInBounds_toArray, List.set_cons_zero, List.set_cons_succ]
              refine takeH_yes (i := 10) (v := ?_) rfl (by kernel_rfl) (by kernel_rfl) (by kernel_rfl) (fun _ _ _ h => h) (by kernel_rfl) ?_ (by assumption) ?_
              rotate_left
              · intro wz hSw; (try dsimp only at hSw); go_simp; try with_reducible rfl
              simp only [Act.put, List.setIfInBounds_toArray, List.set_cons_zero, List.set_cons_succ]
              refine takeH_yes (i := 11) (v := ?_) rfl (by kernel_rfl) (by kernel_rfl) (by kernel_rfl) (fun _ _ _ h => h) (by kernel_rfl) ?_ (by assumption) ?_
              rotate_left
              · intro wz hSw; (try dsimp only at hSw); go_simp; try with_reducible rfl
              simp only [Act.put, List.setIfInBounds_toArray, List.set_cons_zero, List.set_cons_succ]
              refine takeH_no (i := 12) rfl (by kernel_rfl) (by kernel_rfl) (by kernel_rfl) (fun _ _ _ h => h) (by kernel_rfl) (by assumption) ?_
              simp only [Act.put, List.setIfInBounds_toArray, List.set_cons_zero, List.set_cons_succ]
              refine takeH_no (i := 13) rfl (by kernel_rfl) (by kernel_rfl) (by kernel_rfl) (fun _ _ _ h => h) (by kernel_rfl) (by assumption) ?_
              simp only [Act.put, List.setIfInBounds_toArray, List.set_cons_zero, List.set_cons_succ]
              refine takeH_no (i := 14) rfl (by kernel_rfl) (by kernel_rfl) (by kernel_rfl) (fun _ _ _ h => h) (by kernel_rfl) (by assumption) ?_
              simp only [Act.put, List.setIfInBounds_toArray, List.set_cons_zero, List.set_cons_succ]
              refine takeH_no (i := 15) rfl (by kernel_rfl) (by kernel_rfl) (by kernel_rfl) (fun _ _ _ h => h) (by kernel_rfl) (by assumption) ?_
              simp only [Act.put, List.setIfInBounds_toArray, List.set_cons_zero, List.set_cons_succ]
              refine takeH_no (i := 16) rfl (by kernel_rfl) (by kernel_rfl) (by kernel_rfl) (fun _ _ _ h => h) (by kernel_rfl) (by assumption) ?_
              simp only [Act.put, List.setIfInBounds_toArray, List.set_cons_zero, List.set_cons_succ]
              refine takeH_no (i := 17) rfl (by kernel_rfl) (by kernel_rfl) (by kernel_rfl) (fun _ _ _ h => h) (by kernel_rfl) (by assumption) ?_
              simp only [Act.put, List.setIfInBounds_toArray, List.set_cons_zero, List.set_cons_succ]
              refine takeH_no (i := 18) rfl (by kernel_rfl) (by kernel_rfl) (by kernel_rfl) (fun _ _ _ h => h) (by kernel_rfl) (by assumption) ?_
              simp only [Act.put, List.setIfInBounds_toArray, List.set_cons_zero, List.set_cons_succ]
              refine takeH_yes (i := 19) (v := ?_) rfl (by kernel_rfl) (by kernel_rfl) (by kernel_rfl) (fun _ _ _ h => h) (by kernel_rfl) ?_ (by assumption) ?_
              rotate_left
              · intro wz hSw; (try dsimp only at hSw); go_simp; try with_reducible rfl
              simp only [Act.put, List.setIfInBounds_toArray, List.set_cons_zero, List.set_cons_succ]
              refine takeH_yes (i := 20) (v := ?_) rfl (by kernel_rfl) (by kernel_rfl) (by kernel_rfl) (fun _ _ _ h => h) (by kernel_rfl) ?_ (by assumption) ?_
              rotate_left
              · intro wz hSw; (try dsimp only at hSw); go_simp; try with_reducible rfl
              simp only [Act.put, List.setIfInBounds_toArray, List.set_cons_zero, List.set_cons_succ]
              refine takeH_yes (i := 21) (v := ?_) rfl (by kernel_rfl) (by kernel_rfl) (by kernel_rfl) (fun _ _ _ h => h) (by kernel_rfl) ?_ (by assumption) ?_
              rotate_left
              · intro wz hSw; (try dsimp only at hSw); go_simp; try with_reducible rfl
              simp only [Act.put, List.setIfInBounds_toArray, List.set_cons_zero, List.set_cons_succ]
              refine oneH (i := 22) rfl (by kernel_rfl) (fun K hK => ?_)
              go_simp
              go_at_call 6
              refine (AW.out _).mono ?_
              rintro e W10 ⟨rfl, hb10⟩
              have hb1 := hb0.trans (hb10.mono hb0.size)
              refine hK.out _ _ (HCC.out _ hb1) (fun hHeld => ?_)
              clear hK K
              try simp only [Act.put, List.setIfInBounds_toArray, List.set_cons_zero, List.set_cons_succ]
              refine takeH_yes (i := 23) (v := ?_) rfl (by kernel_rfl) (by kernel_rfl) (by kernel_rfl) (fun _ _ _ h => h) (by kernel_rfl) ?_ (by assumption) ?_
              rotate_left
              · intro wz hSw; (try dsimp only at hSw); go_simp; try with_reducible rfl
              simp only [Act.put, List.setIfInBounds_toArray, List.set_cons_zero, List.set_cons_succ]
              refine oneH (i := 24) rfl (by kernel_rfl) (fun K hK => ?_)
              have mr := (HEN2.out _ hb1).2.1.cell 0
              have fr := (HEN2.out _ hb1).2.1.frozen 0
              go_simp
              refine hK.out _ _ (HCF.out _ _ hb1) (fun hHeld => ?_)
              clear hK K
              try simp only [Act.put, List.setIfInBounds_toArray, List.set_cons_zero, List.set_cons_succ]
              refine wpAnyH_done (by kernel_rfl) ?_ _
              exact ⟨W10, hb1, rfl, rfl, rfl⟩
            · intro e a' Wd hqd
              cases e <;> try exact hqd.elim
              obtain ⟨W10, hb1, rfl, hdf, hts⟩ := hqd
              obtain ⟨T, df⟩ := a'
              dsimp only at hdf hts
              subst hdf
              obtain ⟨e1, e2, e3⟩ := HEN2.out _ hb1
              gi_wp2
              exact follows_end T hts hDw e1 e2 e3
          · have hle2 : decide (u ≤ (x.t.j : Int)) = true := decide_eq_true hle
            gi_wp2
            refine wpIn_wide.2 ?_
            refine Code.wp_mono (Q := OnNormal fun a' W' => ∃ W10, Below Wc.heap.size Wc W10 ∧ W' = W10.setCell ⟨w.heap.size + 1, 0, none⟩ (.bool true) ∧ a'.defers = [{ target := .collected D, args := #[] }] ∧ a'.tmps.getD 6 undef = .pointer (some ⟨w.heap.size + 1, 0, none⟩)) ?_ ?_
            rotate_left
            · refine wp_region_held_drew (S := fun Wx => Wx.cell? ⟨gg + 1, 0, none⟩ = some (.int .i64 q) ∧ Wx.cell? ⟨gg, 0, none⟩ = some (.int .i64 (x.t.j : Nat)) ∧ Wx.cell? ⟨W9.heap.size, 1, none⟩ = some (.slice (some ⟨gb, off, none⟩) 1 c1) ∧ Wx.cell? ⟨gb, off, none⟩ = some (.int .u64 u)) (by kernel_rfl) (HCC.out _ hb0) (fun hHeld => ?_)
              refine takeH_yes (i := 0) (v := ?_) rfl (by kernel_rfl) (by kernel_rfl) (by kernel_rfl) (fun _ _ _ h => h) (by kernel_rfl) ?_ (by assumption) ?_
              rotate_left
              · intro wz hSw; (try dsimp only at hSw); go_simp; try with_reducible rfl
              simp only [Act.put, List.setIfInBounds_toArray, List.set_cons_zero, List.set_cons_succ]
              refine takeH_yes (i := 1) (v := ?_) rfl (by kernel_rfl) (by kernel_rfl) (by kernel_rfl) (fun _ _ _ h => h) (by kernel_rfl) ?_ (by assumption) ?_
              rotate_left
              · intro wz hSw; (try dsimp only at hSw); go_simp; try with_reducible rfl
              simp only [Act.put, List.setIfInBounds_toArray, List.set_cons_zero, List.set_cons_succ]
              refine takeH_yes (i := 2) (v := ?_) rfl (by kernel_rfl) (by kernel_rfl) (by kernel_rfl) (fun _ _ _ h => h) (by kernel_rfl) ?_ (by assumption) ?_
              rotate_left
              · intro wz hSw; (try dsimp only at hSw); go_simp; try with_reducible rfl
              simp only [Act.put, List.setIfInBounds_toArray, List.set_cons_zero, List.set_cons_succ]
              refine takeH_yes (i := 3) (v := ?_) rfl (by kernel_rfl) (by kernel_rfl) (by kernel_rfl) (fun _ _ _ h => h) (by kernel_rfl) ?_ (by assumption) ?_
              rotate_left
              · intro wz hSw; (try dsimp only at hSw); go_simp; try with_reducible rfl
              simp only [Act.put, List.setIfInBounds_toArray, List.set_cons_zero, List.set_cons_succ]
              refine takeH_yes (i := 4) (v := ?_) rfl (by kernel_rfl) (by kernel_rfl) (by kernel_rfl) (fun _ _ _ h => h) (by kernel_rfl) ?_ (by assumption) ?_
              rotate_left
              · intro wz hSw; (try dsimp only at hSw); go_simp; try with_reducible rfl
              simp only [Act.put, List.setIfInBounds_toArray, List.set_cons_zero, List.set_cons_succ]
              refine takeH_yes (i := 5) (v := ?_) rfl (by kernel_rfl) (by kernel_rfl) (by kernel_rfl) (fun _ _ _ h => h) (by kernel_rfl) ?_ (by assumption) ?_
              rotate_left
              · intro wz hSw; (try dsimp only at hSw); go_simp; try with_reducible rfl
              simp only [Act.put, List.setIfInBounds_toArray, List.set_cons_zero, List.set_cons_succ]
              refine takeH_yes (i := 6) (v := ?_) rfl (by kernel_rfl) (by kernel_rfl) (by kernel_rfl) (fun _ _ _ h => h) (by kernel_rfl) ?_ (by assumption) ?_
              rotate_left
              · intro wz hSw; (try dsimp only at hSw); go_simp; try with_reducible rfl
              simp only [Act.put, List.setIfInBounds_toArray, List.set_cons_zero, List.set_cons_succ]
              refine takeH_yes (i := 7) (v := ?_) rfl (by kernel_rfl) (by kernel_rfl) (by kernel_rfl) (fun _ _ _ h => h) (by kernel_rfl) ?_ (by assumption) ?_
              rotate_left
              · intro wz hSw; (try dsimp only at hSw); go_simp; try with_reducible rfl
              simp only [Act.put, List.setIfInBounds_toArray, List.set_cons_zero, List.set_cons_succ]
              refine takeH_yes (i := 8) (v := ?_) rfl (by kernel_rfl) (by kernel_rfl) (by kernel_rfl) (fun _ _ _ h => h) (by kernel_rfl) ?_ (by assumption) ?_
              rotate_left
              · intro wz hSw; (try dsimp only at hSw); go_simp; try with_reducible rfl
              simp only [Act.put, List.setIfInBounds_toArray, List.set_cons_zero, List.set_cons_succ]
              refine takeH_yes (i := 9) (v := ?_) rfl (by kernel_rfl) (by kernel_rfl) (by kernel_rfl) (fun _ _ _ h => h) (by kernel_rfl) ?_ (by assumption) ?_
              rotate_left
              · intro wz hSw; (try dsimp only at hSw); go_simp; try with_reducible rfl
              simp only [Act.put, List.setIfInBounds_toArray, List.set_cons_zero, List.set_cons_succ]
              refine takeH_yes (i := 10) (v := ?_) rfl (by kernel_rfl) (by kernel_rfl) (by kernel_rfl) (fun _ _ _ h => h) (by kernel_rfl) ?_ (by assumption) ?_
              rotate_left
              · intro wz hSw; (try dsimp only at hSw); go_simp; try with_reducible rfl
              simp only [Act.put, List.setIfInBounds_toArray, List.set_cons_zero, List.set_cons_succ]
              refine takeH_yes (i := 11) (v := ?_) rfl (by kernel_rfl) (by kernel_rfl) (by kernel_rfl) (fun _ _ _ h => h) (by kernel_rfl) ?_ (by assumption) ?_
              rotate_left
              · intro wz hSw; (try dsimp only at hSw); go_simp; try with_reducible rfl
              simp only [Act.put, List.setIfInBounds_toArray, List.set_cons_zero, List.set_cons_succ]
              refine takeH_yes (i := 12) (v := ?_) rfl (by kernel_rfl) (by kernel_rfl) (by kernel_rfl) (fun _ _ _ h => h) (by kernel_rfl) ?_ (by assumption) ?_
              rotate_left
              · intro wz hSw; (try dsimp only at hSw); go_simp; try with_reducible rfl
              simp only [Act.put, List.setIfInBounds_toArray, List.set_cons_zero, List.set_cons_succ]
              refine takeH_yes (i := 13) (v := ?_) rfl (by kernel_rfl) (by kernel_rfl) (by kernel_rfl) (fun _ _ _ h => h) (by kernel_rfl) ?_ (by assumption) ?_
              rotate_left
              · intro wz hSw; (try dsimp only at hSw); go_simp; try with_reducible rfl
              simp only [Act.put, List.setIfInBounds_toArray, List.set_cons_zero, List.set_cons_succ]
              refine takeH_yes (i := 14) (v := ?_) rfl (by kernel_rfl) (by kernel_rfl) (by kernel_rfl) (fun _ _ _ h => h) (by kernel_rfl) ?_ (by assumption) ?_
              rotate_left
              · intro wz hSw; (try dsimp only at hSw); go_simp; try with_reducible rfl
              simp only [Act.put, List.setIfInBounds_toArray, List.set_cons_zero, List.set_cons_succ]
              refine takeH_yes (i := 15) (v := ?_) rfl (by kernel_rfl) (by kernel_rfl) (by kernel_rfl) (fun _ _ _ h => h) (by kernel_rfl) ?_ (by assumption) ?_
              rotate_left
              · intro wz hSw; (try dsimp only at hSw); go_simp; try with_reducible rfl
              simp only [Act.put, List.setIfInBounds_toArray, List.set_cons_zero, List.set_cons_succ]
              refine takeH_yes (i := 16) (v := ?_) rfl (by kernel_rfl) (by kernel_rfl) (by kernel_rfl) (fun _ _ _ h => h) (by kernel_rfl) ?_ (by assumption) ?_
              rotate_left
              · intro wz hSw; (try dsimp only at hSw); go_simp; try with_reducible rfl
              simp only [Act.put, List.setIfInBounds_toArray, List.set_cons_zero, List.set_cons_succ]
              refine takeH_yes (i := 17) (v := ?_) rfl (by kernel_rfl) (by kernel_rfl) (by kernel_rfl) (fun _ _ _ h => h) (by kernel_rfl) ?_ (by assumption) ?_
              rotate_left
              · intro wz hSw; (try dsimp only at hSw); go_simp; try with_reducible rfl
              simp only [Act.put, List.setIfInBounds_toArray, List.set_cons_zero, List.set_cons_succ]
              refine takeH_yes (i := 18) (v := ?_) rfl (by kernel_rfl) (by kernel_rfl) (by kernel_rfl) (fun _ _ _ h => h) (by kernel_rfl) ?_ (by assumption) ?_
              rotate_left
              · intro wz hSw; (try dsimp only at hSw); go_simp; try with_reducible rfl
              simp only [Act.put, List.setIfInBounds_toArray, List.set_cons_zero, List.set_cons_succ]
              refine takeH_yes (i := 19) (v := ?_) rfl (by kernel_rfl) (by kernel_rfl) (by kernel_rfl) (fun _ _ _ h => h) (by kernel_rfl) ?_ (by assumption) ?_
              rotate_left
              · intro wz hSw; (try dsimp only at hSw); go_simp; try with_reducible rfl
              simp only [Act.put, List.setIfInBounds_toArray, List.set_cons_zero, List.set_cons_succ]
              refine takeH_yes (i := 20) (v := ?_) rfl (by kernel_rfl) (by kernel_rfl) (by kernel_rfl) (fun _ _ _ h => h) (by kernel_rfl) ?_ (by assumption) ?_
              rotate_left
              · intro wz hSw; (try dsimp only at hSw); go_simp; try with_reducible rfl
              simp only [Act.put, List.setIfInBounds_toArray, List.set_cons_zero, List.set_cons_succ]
              refine takeH_yes (i := 21) (v := ?_) rfl (by kernel_rfl) (by kernel_rfl) (by kernel_rfl) (fun _ _ _ h => h) (by kernel_rfl) ?_ (by assumption) ?_
              rotate_left
              · intro wz hSw; (try dsimp only at hSw); go_simp; try with_reducible rfl
              simp only [Act.put, List.setIfInBounds_toArray, List.set_cons_zero, List.set_cons_succ]
              refine oneH (i := 22) rfl (by kernel_rfl) (fun K hK => ?_)
              go_simp
              go_at_call 6
              refine (AW.out _).mono ?_
              rintro e W10 ⟨rfl, hb10⟩
              have hb1 := hb0.trans (hb10.mono hb0.size)
              refine hK.out _ _ (HCC.out _ hb1) (fun hHeld => ?_)
              clear hK K
              try simp only [Act.put, List.setIfInBounds_toArray, List.set_cons_zero, List.set_cons_succ]
              refine takeH_yes (i := 23) (v := ?_) rfl (by kernel_rfl) (by kernel_rfl) (by kernel_rfl) (fun _ _ _ h => h) (by kernel_rfl) ?_ (by assumption) ?_
              rotate_left
              · intro wz hSw; (try dsimp only at hSw); go_simp; try with_reducible rfl
              simp only [Act.put, List.setIfInBounds_toArray, List.set_cons_zero, List.set_cons_succ]
              refine oneH (i := 24) rfl (by kernel_rfl) (fun K hK => ?_)
              have mr := (HEN2.out _ hb1).2.1.cell 0
              have fr := (HEN2.out _ hb1).2.1.frozen 0
              go_simp
              refine hK.out _ _ (HCF.out _ _ hb1) (fun hHeld => ?_)
              clear hK K
              try simp only [Act.put, List.setIfInBounds_toArray, List.set_cons_zero, List.set_cons_succ]
              refine wpAnyH_done (by kernel_rfl) ?_ _
              exact ⟨W10, hb1, rfl, rfl, rfl⟩
            · intro e a' Wd hqd
              cases e <;> try exact hqd.elim
              obtain ⟨W10, hb1, rfl, hdf, hts⟩ := hqd
              obtain ⟨T, df⟩ := a'
              dsimp only at hdf hts
              subst hdf
              obtain ⟨e1, e2, e3⟩ := HEN2.out _ hb1
              gi_wp2
              exact follows_end T hts hDw e1 e2 e3
    case stop =>
      rintro D cc pre W hD hp hf hK
      exact hf.elim
  gi_loopw [8] (fun s8 wr => ∃ j : Nat, s8 = .int .i64 j ∧ j ≤ n ∧ j ≤ 30 ∧ FwL w0 wr gm p zs j) (fun s8 _ => n - (intOf s8).toNat)
  case atStart => exact ⟨0, rfl, Nat.zero_le _, by omega, FW0⟩
  case round =>
    obtain ⟨j, rfl, hjn, hj30, HF⟩ := hrel
    by_cases hlt : j < n ∧ j < 30
    · obtain ⟨hl1, hl2⟩ := hlt
      obtain ⟨b, off, rfl, hbB, hcz⟩ := HI.out.reads.at2 (by omega) (by omega)
      have hcj := hcz j _ (cellsOf_get (by rw [HI.out.reads.len]; exact hl1))
      have hbwr : Below w.heap.size w wr := hb0.trans (HF.below.mono hb0.size)
      have hcj2 := (hbwr.cell (p := ⟨b, off + j, none⟩) hbB).trans hcj
      obtain ⟨z, hz⟩ : ∃ z, zs.getD j 0 = z := ⟨_, rfl⟩
      rw [hz] at hcj2
      have cm := HF.gm_.cell 0
      clear hcz hcj FW0
      have hzU : IsU z := by
        have hm : z ∈ zs := by rw [← hz, List.getD_eq_getElem?_getD, List.getElem?_eq_getElem (by rw [HI.out.reads.len]; exact hl1)]; exact List.getElem_mem _
        exact wf_u64_bd (HI.out.wf z hm)
      have htk : zs.take (j + 1) = zs.take j ++ [z] := by
        have hjl : j < zs.length := by rw [HI.out.reads.len]; exact hl1
        rw [List.take_add_one, List.getElem?_eq_getElem hjl, ← hz, List.getD_eq_getElem?_getD, List.getElem?_eq_getElem hjl]; rfl
      have PUTA := Lib.hid (show ∀ (X : World) (g1 g2 : Nat), Below wr.heap.size wr X → Blk X g1 22 #[.int .u64 z] → Blk X g2 22 #[.int .u64 1] →
          Calls Try.prog 18 #[.pointer (some ⟨p, 0, none⟩), obV 4 (some ⟨g1, 0, none⟩) 1 1 none 0 0 (some ⟨g2, 0, none⟩) 1 1] X fun e w' => ∃ v1 v2, e = .returned (.tuple #[v1, v2]) ∧ FwL w0 w' gm p zs (j + 1) from fun X g1 g2 hX' b1 b2 => by
        obtain ⟨S, hA, hgS⟩ := HF.ex
        refine (aput_as (hA.below hX') (by rw [List.length_take]; omega) hzU b1 b2).mono ?_
        rintro e w' ⟨v1, v2, rfl, hc, hA'⟩
        have hbX : Below w0.heap.size w0 X := HF.below.trans (hX'.mono HF.below.size)
        have gX := HF.gm_.below hX' HF.gm_.lt
        refine ⟨v1, v2, rfl, ⟨_, by rw [htk]; exact hA', fun e => ?_⟩, (hc.block gm gX.lt hgS).trans gX, HF.lo, hbX.trans (hc.below hbX.size (fun q _ hq => (hA.foot q hq).1))⟩
        rcases e with e | e
        · exact hgS e
        · have := gX.lt; omega)
      have hjc : (j : Int) < 30 := by omega
      have TA := Lib.hid (two_blocks wr #[.int .u64 z] #[.int .u64 1] 22 22)
      have TB := Lib.hid (two_blocks wr #[.int .u64 1] #[.int .u64 z] 22 22)
      gi_wp2
      refine wpIn_wide.2 ?_
      refine Code.wp_mono (Q := OnNormal fun a' W' => FwL w0 W' gm p zs (j + 1) ∧ ∃ v24 v25 v26 v27 v28 v29 v30 v31 v32 v33 v34 v35 v36 v37 v38 v39 v40 v41 v42, a' = { tmps := #[.slice (some ⟨b, off, none⟩) n c, .int .u64 pl, .int .i64 wd, undef, .pointer (some ⟨w.heap.size, 0, none⟩), undef, .pointer (some ⟨w.heap.size + 1, 0, none⟩), .pointer (some ⟨gm, 0, none⟩), .int .i64 j, undef, undef, undef, undef, undef, undef, undef, undef, undef, undef, undef, undef, .bool true, .bool false, .pointer (some ⟨p, 0, none⟩), v24, v25, v26, v27, v28, v29, v30, v31, v32, v33, v34, v35, v36, v37, v38, v39, v40, v41, v42, undef, undef, undef, undef, undef, undef, undef, undef, undef, undef, undef, undef, undef, undef, undef, undef, undef, undef, undef, undef, undef, undef, undef, undef, undef, undef, undef, undef, undef, undef, undef, undef, undef, undef, undef, undef, undef, undef, undef, undef, undef, undef, undef, undef, undef, undef, undef, undef, undef, undef, undef, undef, undef, undef, undef, undef, undef, undef, undef, undef, undef, undef, undef, undef, undef, undef, undef, undef, undef, undef, undef, undef, undef, undef, undef, undef, undef, undef, undef, undef, undef, undef, undef, undef, undef, undef, undef, undef, undef, undef, undef, undef, undef, undef, undef, undef], defers := [] }) ?_ ?_
      rotate_left
      · have HS0 : Hid (wr.drew.cell? ⟨gm, 0, none⟩ = some (.pointer (some ⟨p, 0, none⟩)) ∧ wr.drew.cell? ⟨b, off + j, none⟩ = some (.int .u64 z)) := Lib.hid ⟨cm, hcj2⟩
        have HK := Lib.hid (fun (wx : World) (o : Obj) (hx : wx.cell? ⟨gm, 0, none⟩ = some (.pointer (some ⟨p, 0, none⟩)) ∧ wx.cell? ⟨b, off + j, none⟩ = some (.int .u64 z)) => (⟨cell_kept1 hx.1, cell_kept1 hx.2⟩ : (wx.alloc o).cell? ⟨gm, 0, none⟩ = some (.pointer (some ⟨p, 0, none⟩)) ∧ (wx.alloc o).cell? ⟨b, off + j, none⟩ = some (.int .u64 z)))
        have HC := Lib.hid (fun (wx : World) (hx : FwL w0 wx gm p zs (j + 1)) => (⟨hx.gm_.cell 0, ((hb0.trans (hx.below.mono hb0.size)).cell (p := ⟨b, off + j, none⟩) hbB).trans (by rw [← hcj2]; exact (hbwr.cell (p := ⟨b, off + j, none⟩) hbB).symm)⟩ : wx.cell? ⟨gm, 0, none⟩ = some (.pointer (some ⟨p, 0, none⟩)) ∧ wx.cell? ⟨b, off + j, none⟩ = some (.int .u64 z)))
        clear cm hcj2
        go_region_held3 (fun w' => w'.cell? ⟨gm, 0, none⟩ = some (.pointer (some ⟨p, 0, none⟩)) ∧ w'.cell? ⟨b, off + j, none⟩ = some (.int .u64 z))
          (first | assumption | exact HS0.out | exact HK.out _ _ (by assumption) | exact HK.out _ _ HS0.out | exact HK.out _ _ (HK.out _ _ HS0.out) | exact HC.out _ hF1)
          ((go_at_call 18; refine (PUTA.out _ _ _ (by first | (with_reducible exact TA.out.1) | (with_reducible exact TB.out.1)) (by first | (with_reducible exact TA.out.2.1) | (with_reducible exact TB.out.2.2)) (by first | (with_reducible exact TA.out.2.2) | (with_reducible exact TB.out.2.1))).mono ?_; rintro e W9 ⟨y1, y2, rfl, hF1⟩))
        all_goals exact ⟨hF1, _, _, _, _, _, _, _, _, _, _, _, _, _, _, _, _, _, _, _, rfl⟩
      · intro e a' W5 hq5
        cases e <;> try exact hq5.elim
        obtain ⟨hF1, v24, v25, v26, v27, v28, v29, v30, v31, v32, v33, v34, v35, v36, v37, v38, v39, v40, v41, v42, rfl⟩ := hq5
        clear PUTA TA TB cm hcj2
        have hw1 : IntKind.i64.wrap ((j : Int) + 1) = (j : Int) + 1 := wrap_i64_of (by omega) (by omega)
        gi_wp2
        go_roundw
        case rel => exact ⟨j + 1, by simp, by omega, by omega, hF1⟩
        case measure => simp [intOf]; omega
    · gi_wp2
      all_goals exact ⟨rfl, j, hjn, hj30, HF, _, _, _, _, _, _, _, _, _, _, _, _, _, _, _, _, _, _, _, _, rfl⟩
end Go.Proofs.Ytkaepikjklpmaaa
