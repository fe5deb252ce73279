/-
  LAYER 8: WHAT fits AT NO SIZE, Size, Read AND Loose DO: contracts.
-/
import Derived.Test.YtclglbddibjenaaGreatVdFn3
import Derived.Maps.RangeWalk
import Derived.Deep.LoopGhost
set_option linter.unusedVariables false
set_option linter.unusedSimpArgs false
set_option maxRecDepth 100000
namespace Go.Proofs.YtclglbddibjenaaGreat
open Go.RowKit Go.Shelf Go.Maps

section
variable {w w0 w' : World} {base p dp mb bn bs N : Nat} {T U T0 : Nat → Prop} {v v' : VS} {os : OsL} {pv : Value} {SD SF : Nat → Prop} {ps : List Nat} {Ss : List (Nat → Prop)}

set_option maxHeartbeats 1000000 in
theorem vfits_neg {q : Nat} {i : Int} (size : Int) (h : VDT w0 T0 w base p v os dp mb bn bs pv SD SF ps Ss) (hgd : GoodV v os N) (hq : lookP ps os i = some q) (hs : size < 0) (hs2 : -9223372036854775808 ≤ size) :
    Calls Tryz.prog 66 #[.pointer (some ⟨p, 0, none⟩), .pointer (some ⟨q, 0, none⟩), .int .i64 size] w fun e w' => e = .returned (.bool true) ∧ Below w.heap.size w w' := by
  obtain ⟨A, c, hq0⟩ := h.len hgd hq
  obtain ⟨_, _, _, _, _, _, _, _, _, _, _, _, _, hcf⟩ := h.found hgd hq
  have hnl := szL_le hgd i
  obtain ⟨n, hn⟩ : ∃ n, n = szL v.fs i := ⟨_, rfl⟩
  rw [← hn] at hq0 hnl
  have hql : q < w.heap.size := hcf.blk.lt
  obtain ⟨wb, hwb⟩ : ∃ wb, wb = (w.alloc (.cells #[.pointer (some ⟨q, 0, none⟩)] 83)).alloc (.cells #[.int .i64 size] 3) := ⟨_, rfl⟩
  have hwbs : wb.heap.size = w.heap.size + 2 := by rw [hwb]; simp
  have hbb : Below w.heap.size w wb := by rw [hwb]; exact ((Below.refl _ _).alloc (Nat.le_refl _) _).alloc (by simp) _
  have FB := Lib.hid (fun (W : World) (hb : Below wb.heap.size wb W) => fbox_at w q size A n c hq0 hql (by rw [hwbs, hwb] at hb; exact hb))
  have CT := Lib.hid (fun (m : Nat) (hm : m ≤ 1048576) (W : World) => (show Calls Tryz.prog 82 #[.int .i64 (m : Int)] W (fun e w' => e = .returned (.int .i64 (cntN m : Int)) ∧ W = w') by have h := count_any (m : Int) W (by omega) (by omega); rwa [cntI_nat] at h))
  have C0 := Lib.hid (fun (W : World) => (show Calls Tryz.prog 82 #[.int .i64 size] W (fun e w' => e = .returned (.int .i64 0) ∧ W = w') by have h := count_any size W (by omega) (by omega); rwa [show cntI size = 0 by unfold cntI; rw [if_pos (by omega)]] at h))
  have LN := Lib.hid (fun (W : World) (hc : W.cell? ⟨q, 0, none⟩ = some (.slice A n c)) => flen_any q n A c W hc)
  have HK := FB.out wb (Below.refl _ _)
  obtain ⟨k1, k2, k3⟩ := HK
  have HWB := Lib.hid hwb
  have q1 : (0 : Int) ≤ (cntN n : Int) := by omega
  have HB := Lib.hid hbb
  have HN := Lib.hid hnl
  clear h hgd hq hcf hn hnl hq0 hql hwbs hwb hbb FB hs hs2
  go_enter Tryz.func66, Tryz.ntmps66
  go_wp2
  rw [← HWB.out]
  go_region_held3 (fun w' => FBox w' w.heap.size q size A n c)
    (first | assumption | exact ⟨k1, k2, k3⟩)
    (first
      | (go_at_call 82; (with_reducible refine (C0.out _).mono ?_); rintro e w9 ⟨rfl, rfl⟩)
      | (go_at_call 82; go_loud (refine (CT.out _ HN.out _).mono ?_; rintro e w9 ⟨rfl, rfl⟩))
      | (go_at_call 45; go_loud (refine (LN.out _ (by assumption)).mono ?_; rintro e w9 ⟨rfl, rfl⟩)))
  go_wp2
  go_ret
  exact ⟨rfl, below_drewn HB.out 1⟩

/-! ### Size, Read -/
theorem vsize_dead (x : ByteArray) (h : VDT w0 T0 w base p v os dp mb bn bs pv SD SF ps Ss) (hd : v.dead = true) :
    Calls Tryz.prog 26 #[.pointer (some ⟨p, 0, none⟩), .string x] w fun e w' => e = .returned (.tuple #[.int .i64 0, .int .i64 26]) ∧ w = w' := by
  have O := Lib.hid (vopen_dead x h hd)
  clear h hd
  go_enter Tryz.func26, Tryz.ntmps26
  go_wp2_with (first
    | (go_at_call 61; refine O.out.mono ?_; rintro e w9 ⟨rfl, rfl⟩)
    | (go_at_call 45; refine (flen_nil _).mono ?_; rintro e w9 ⟨rfl, rfl⟩))
  go_ret2
  exact ⟨rfl, rfl⟩
theorem vread_dead (x : ByteArray) (a n : Int) (h : VDT w0 T0 w base p v os dp mb bn bs pv SD SF ps Ss) (hd : v.dead = true) :
    Calls Tryz.prog 22 #[.pointer (some ⟨p, 0, none⟩), .string x, .int .i64 a, .int .i64 n] w fun e w' => e = .returned (.tuple #[.slice none 0 0, .int .i64 26]) ∧ w = w' := by
  have O := Lib.hid (vopen_dead x h hd)
  clear h hd
  go_enter Tryz.func22, Tryz.ntmps22
  go_wp2_with (first
    | (go_at_call 61; refine O.out.mono ?_; rintro e w9 ⟨rfl, rfl⟩)
    | (go_at_call 62; refine (fread_nil _ _ _).mono ?_; rintro e w9 ⟨rfl, rfl⟩))
  go_ret2
  exact ⟨rfl, rfl⟩
/-- The file of a name. -/
theorem VDT.named (h : VDT w0 T0 w base p v os dp mb bn bs pv SD SF ps Ss) (hg : GoodV v os N) {x : ByteArray} {i : Int} (hx : getN v.d.now x = some i) :
    ∃ (k q : Nat) (f : FS) (S : Nat → Prop) (A : Option Addr) (c : Nat) (sv : Value) (B : Option Addr) (d : Nat), i = k ∧ os[k]? = some (some f) ∧ lookP ps os k = some q ∧ ps[k]? = some q ∧ Ss[k]? = some S ∧ v.fs[k]? = some f ∧ fileAt v.fs i = f ∧ f.Good (N * 10) ∧ CF w base S q f (.slice A f.now.length c) sv (.slice B f.ops.length d) := by
  obtain ⟨k, f, rfl, hof, hvf, hfa, hfg⟩ := hg.at_ hx
  obtain ⟨q, S, nv, sv, qv, hq, hS, hcf, -, hlk⟩ := h.vd.file hof
  obtain ⟨A, c, rfl, -, -⟩ := own_form hcf.now
  obtain ⟨B, d, rfl, -, -⟩ := own_form hcf.pend
  exact ⟨k, q, f, S, A, c, sv, B, d, rfl, hof, hlk, hq, hS, hvf, hfa, hfg, hcf⟩
theorem wf_k (h : GoodV v os N) (hN : N ≤ 900000) {k : Nat} {f : FS} (hf : v.fs[k]? = some f) : (Lit.int .i64 (k : Int)).wf = true := wf_nat (by
  have h1 := (List.getElem?_eq_some_iff.1 hf).1
  have h2 := h.few
  omega)
theorem vsize_yes (x : ByteArray) (i : Int) (h : VDT w0 T0 w base p v os dp mb bn bs pv SD SF ps Ss) (hgd : GoodV v os N) (hN : N ≤ 900000) (hd : v.dead = false) (hxs : x.size ≤ 200) (hx : getN v.d.now x = some i) :
    Calls Tryz.prog 26 #[.pointer (some ⟨p, 0, none⟩), .string x] w fun e w' => e = .returned (.tuple #[.int .i64 ((fileAt v.fs i).now.length : Int), .int .i64 0]) ∧ w = w' := by
  obtain ⟨k, q, f, S, A, c, sv, B, d, rfl, hof, hlk, hq, hS, hvf, hfa, hfg, hcf⟩ := h.named hgd hx
  rw [hfa]
  have O := Lib.hid (vopen_yes x k q h hd hxs hx (wf_k hgd hN hvf) hlk)
  have L := Lib.hid (flen_any q _ A c w (hcf.blk.cell 0))
  clear h hgd hd hx hof hlk hq hS hvf hfa hfg hcf
  go_enter Tryz.func26, Tryz.ntmps26
  go_wp2_with (first
    | (go_at_call 61; refine O.out.mono ?_; rintro e w9 ⟨rfl, rfl⟩)
    | (go_at_call 45; refine L.out.mono ?_; rintro e w9 ⟨rfl, rfl⟩))
  go_ret2
  exact ⟨rfl, rfl⟩
theorem vread_yes (x : ByteArray) (i : Int) (a n : Int) (h : VDT w0 T0 w base p v os dp mb bn bs pv SD SF ps Ss) (hgd : GoodV v os N) (hN : N ≤ 900000) (hd : v.dead = false) (hxs : x.size ≤ 200) (hx : getN v.d.now x = some i) (h0 : -9223372036854775808 ≤ a) (h1 : a ≤ 9223372036854775807) (h2 : -9223372036854775808 ≤ n) (h3 : n ≤ 9223372036854775807) :
    Calls Tryz.prog 22 #[.pointer (some ⟨p, 0, none⟩), .string x, .int .i64 a, .int .i64 n] w fun e w' => ∃ bv, e = .returned (.tuple #[bv, .int .i64 0]) ∧ Gives ((fileAt v.fs i).read a n) w (.returned bv) w' := by
  obtain ⟨k, q, f, S, A, c, sv, B, d, rfl, hof, hlk, hq, hS, hvf, hfa, hfg, hcf⟩ := h.named hgd hx
  rw [hfa]
  have O := Lib.hid (vopen_yes x k q h hd hxs hx (wf_k hgd hN hvf) hlk)
  have R := Lib.hid (fread_any q a n base S f _ _ _ w hcf h0 h1 h2 h3 hfg.ok.size)
  clear h hgd hd hx hof hlk hq hS hvf hfa hfg hcf
  go_enter Tryz.func22, Tryz.ntmps22
  go_wp2_with (first
    | (go_at_call 61; refine O.out.mono ?_; rintro e w9 ⟨rfl, rfl⟩)
    | (go_at_call 62; refine R.out.mono ?_; rintro e w1 ⟨A1, c1, rfl, ho, hb⟩; have HO := Lib.hid (And.intro ho hb); clear ho hb))
  go_ret2
  exact ⟨_, rfl, _, _, rfl, HO.out.1, HO.out.2⟩

/-! ### Loose -/
def pendAt (os : OsL) (i : Nat) : Nat := pendO (os.getD i none)
def leftSum (os : OsL) (left : Lit → Bool) : Nat := sumN (fun i => if left (keyI i) then pendAt os i else 0) os.length
theorem keyI_same (i j : Int) : (keyI i).sameKey (keyI j) = decide (i = j) := by
  by_cases e : i = j
  · subst e; rw [WideAt.sameKey_self (keyI_lit i)]; simp
  · rw [Maps.sameKey_ne (fun h => e (keyI_inj h))]; simp [e]
theorem leftSum_start {D : DataW Unit} (ht : TellsF D (lookP ps os)) (hl : ps.length = os.length) : leftSum os (Maps.has D) = looseO os := by
  unfold leftSum looseO
  refine sumN_congr fun i hi => ?_
  rw [ht.has]
  have hoi := List.getElem?_eq_getElem hi
  unfold pendAt
  rw [List.getD_eq_getElem?_getD, hoi]
  cases ho : os[i] with
  | none => simp [pendO]
  | some f =>
    rw [ho] at hoi
    rw [lookP_of hoi, List.getElem?_eq_getElem (show i < ps.length by omega)]
    simp
theorem leftSum_step {left : Lit → Bool} {k : Nat} (hk : k < os.length) (hl : left (keyI k) = true) : leftSum os left = leftSum os (fun z => left z && !z.sameKey (keyI k)) + pendAt os k := by
  unfold leftSum
  refine sumN_one hk (fun i hi hne => ?_) ?_
  · simp only [keyI_same]
    rw [decide_eq_false (by omega)]
    simp
  · simp only [keyI_same, hl]
    simp
theorem leftSum_end {left : Lit → Bool} (hl : ∀ kl, left kl = false) : leftSum os left = 0 := sumN_zero fun i _ => by simp [hl]
theorem leftSum_le (h : GoodV v os N) (left : Lit → Bool) : leftSum os left ≤ N * (N * 10) := by
  have h1 : leftSum os left ≤ os.length * (N * 10) := sumN_le fun i hi => by
    split
    · unfold pendAt
      rw [List.getD_eq_getElem?_getD, List.getElem?_eq_getElem hi]
      cases ho : os[i] with
      | none => simp [pendO]
      | some f => exact (h.fs f (List.mem_of_getElem? (h.live i f (by rw [List.getElem?_eq_getElem hi, ho])))).few
    · omega
  have h2 := h.len
  have h3 := h.few
  exact Nat.le_trans h1 (Nat.mul_le_mul_right _ (by omega))

set_option maxHeartbeats 2000000 in
theorem vloose_any (h : VDT w0 T0 w base p v os dp mb bn bs pv SD SF ps Ss) (hgd : GoodV v os N) (hN : N ≤ 900000) :
    Calls Tryz.prog 15 #[.pointer (some ⟨p, 0, none⟩)] w fun e w' => e = .returned (.int .i64 v.loose) ∧ Below w.heap.size w w' := by
  obtain ⟨c0, c1, -, -, -, -, -, -, -, -, -, -⟩ := h.vd.cells
  have M := Lib.hid (vmade_yes p mb w c1)
  obtain ⟨Ap, cp, rfl, -, -⟩ := own_form h.vd.dir.pend
  obtain ⟨m, hm⟩ : ∃ m, m = v.d.ops.length := ⟨_, rfl⟩
  have PD := Lib.hid (dpend_any dp bn m Ap cp w (h.vd.dir.cells (Below.refl _ _)).1 (by rw [hm]; exact (h.vd.dir.cells (Below.refl _ _)).2.2.1))
  obtain ⟨D, hown, ht⟩ := h.vd.map
  have hls := leftSum_start ht (by rw [h.vd.pile.lenP])
  have hl : v.loose = m + leftSum os (Maps.has D) := by rw [hls, hgd.loose, hm]; rfl
  have hm9 : m ≤ 900000 := by have := hgd.d.safe; omega
  have hle := leftSum_le hgd (Maps.has D)
  have hle9 : leftSum os (Maps.has D) ≤ 8100000000000 := Nat.le_trans hle (by
    have : N * (N * 10) ≤ 900000 * (900000 * 10) := Nat.mul_le_mul hN (Nat.mul_le_mul hN (Nat.le_refl 10))
    omega)
  rw [hl]
  obtain ⟨tot, htot⟩ : ∃ tot, tot = m + leftSum os (Maps.has D) := ⟨_, rfl⟩
  rw [← htot]
  have ht9 : tot ≤ 9000000000000 := by omega
  have H0 := Lib.hid htot
  have HV := Lib.hid h
  have HG := Lib.hid hgd
  have HT := Lib.hid ht
  have HO := Lib.hid hown
  clear h hgd ht hown hm hls hl hle hle9 htot hm9
  go_enter Tryz.func15, Tryz.ntmps15
  go_wp2_with (first
    | (go_at_call 43; refine M.out.mono ?_; rintro e w9 ⟨rfl, rfl⟩)
    | (go_at_call 46; refine PD.out.mono ?_; rintro e w9 ⟨rfl, rfl⟩)
    | (at_range; go_loud (refine wpList_range_own _ rfl _ 56 rfl 3 83 intKeyed Tryz.underlying56 ptrE mb _ _ rfl HO.out ?_; intro w1 hrg0 hg0 hs0; have HR := Lib.hid hrg0; have HB := Lib.hid (show Below w.heap.size w w1 from (Below.refl _ w).grown hg0 (Nat.le_refl _) (fun j hj => by cases hj)); clear hrg0 hg0 hs0))
    | go_in)
  go_frame
  go_loopw [3, 5] (fun s _ wr => ∃ (left : Lit → Bool) (cnt acc : Nat), s = .int .i64 acc ∧ acc ≤ tot ∧ Hid (wr.ranges Tryz.prog 3 ptrE mb w.heap.size os.length D left cnt ∧ Below w.heap.size w wr ∧ acc + leftSum os left = tot)) (fun _ _ wr => wr.rangeLeft mb w.heap.size)
  case atStart => exact ⟨_, _, m, rfl, by have := H0.out; omega, Lib.hid ⟨HR.out, HB.out, H0.out.symm⟩⟩
  case round =>
    obtain ⟨left, cnt, acc, rfl, hat9, H⟩ := hrel
    go_wp2_with (first
      | (at_next; go_loud (refine wpList_next_ranges _ rfl _ rfl 3 intKeyed ptrE (Value.int .i64) ptrV (fun key kl hk => by obtain ⟨i, rfl, _⟩ := keyI_inv hk; exact ⟨i, rfl⟩) (fun u y hy => by rcases ptrE_inv hy with ⟨e, _⟩ | ⟨q, e, _⟩ <;> exact ⟨_, e⟩) mb w.heap.size os.length D left cnt rfl H.out.1 ?_ ?_))
      | go_in)
    · intro _ hl0
      have hz := H.out.2.2
      rw [leftSum_end hl0] at hz
      obtain rfl : acc = tot := by omega
      have HB2 := Lib.hid H.out.2.1
      clear hz H hl0
      go_wp2
      go_ret
      exact ⟨rfl, HB2.out⟩
    · intro x c kl yd yp w2 cnt1 hkey hlx hv hat hrg1 hlt hg1 hs1 hen
      obtain ⟨x', hx', rfl, -⟩ := keyI_inv hkey
      injection hx' with _ hx'
      subst hx'
      have hhas := Maps.has_true_of_atKey hat
      rw [HT.out.has] at hhas
      obtain ⟨q, hq⟩ := Option.isSome_iff_exists.1 hhas
      have hy := HT.out.at_ x q hq .nil
      rw [hat] at hy
      have hc : ptrV c = .pointer (some ⟨q, 0, none⟩) := by
        rcases ptrE_inv hv with ⟨e, e2⟩ | ⟨p', e, e2⟩
        · injection e2 with e2 _; rw [hy] at e2; injection e2 with e2; injection e2 with _ e2; omega
        · injection e2 with e2 _; rw [hy] at e2; injection e2 with e2; injection e2 with _ e2
          have : p' = q := by omega
          subst this; exact e
      have hb2 : Below w.heap.size w w2 := H.out.2.1.grown hg1 (by have := H.out.2.1.size; omega) (fun j hj => by injection hj with hj; omega)
      obtain ⟨k, f, S, A, c', sv, B, d, rfl, hof, -, -, -, hcf⟩ := (HV.out.below hb2).found HG.out hq
      have hkl := (List.getElem?_eq_some_iff.1 hof).1
      have hst := leftSum_step hkl hlx
      have hpa : pendAt os k = f.ops.length := by unfold pendAt; rw [List.getD_eq_getElem?_getD, hof]; rfl
      rw [hpa] at hst
      obtain ⟨pn, hpn⟩ : ∃ pn, pn = f.ops.length := ⟨_, rfl⟩
      have PF := Lib.hid (fpend_any q pn B d w2 (by rw [hpn]; exact hcf.blk.cell 2))
      rw [← hpn] at hst
      have hsum := H.out.2.2
      have hap : acc + pn ≤ tot := by omega
      have hme : w2.rangeLeft mb w.heap.size < wr.rangeLeft mb w.heap.size := by rw [hrg1.left_eq, H.out.1.left_eq]; exact hlt
      have HN := Lib.hid (show w2.ranges Tryz.prog 3 ptrE mb w.heap.size os.length D (fun z => left z && !z.sameKey (keyI k)) cnt1 ∧ Below w.heap.size w w2 ∧ (acc + pn) + leftSum os (fun z => left z && !z.sameKey (keyI k)) = tot from ⟨hrg1, hb2, by omega⟩)
      have HME := Lib.hid hme
      rw [hc] at hen ⊢
      have n1 : IntKind.i64.wrap ((acc : Int) + (pn : Int)) = (acc : Int) + (pn : Int) := by rw [IntKind.wrap_i64]; omega
      clear hkey hlx hv hat hrg1 hlt hg1 hs1 hhas hq hy hc hb2 hof hcf hkl hst hpa hpn hsum hme H
      go_wp2_with (go_at_call 47; go_loud (refine PF.out.mono ?_; rintro e w9 ⟨rfl, rfl⟩))
      go_roundw
      case rel => exact ⟨_, cnt1, acc + pn, by go_num, hap, HN⟩
      case measure => exact HME.out
end

end Go.Proofs.YtclglbddibjenaaGreat
