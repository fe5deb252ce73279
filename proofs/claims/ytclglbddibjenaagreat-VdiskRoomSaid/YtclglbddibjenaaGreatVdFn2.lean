/-
  LAYER 8: WHAT openToChange, sectors, Used, fits, Size AND Read DO: contracts.
-/
import Derived.Test.YtclglbddibjenaaGreatVdFn
import Derived.Shelf.Abstract
import Derived.BigQuiet
set_option linter.unusedVariables false
set_option linter.unusedSimpArgs false
set_option maxRecDepth 100000
namespace Go.Proofs.YtclglbddibjenaaGreat
open Go.RowKit Go.Shelf

/-- Under each name of a list that rises its own number is found. -/
theorem get_rise8 : ∀ {l : NmL} {k : Nat} {p : ByteArray × Int}, RiseN cfT l → l[k]? = some p → getN l p.1 = some p.2
  | [], k, p, _, h => by simp at h
  | q :: r, 0, p, _, h => by
    simp at h; subst h
    rw [getN_cons, if_pos rfl]
  | q :: r, k + 1, p, hr, h => by
    obtain ⟨h1, h2⟩ := List.pairwise_cons.1 hr
    have hp : r[k]? = some p := by simpa using h
    rw [getN_cons, if_neg (fun e => by
      have := h1 p (List.mem_of_getElem? hp)
      rw [e] at this
      exact cfT_tot.irr _ this)]
    exact get_rise8 h2 hp

/-- So many sectors take files of such sizes, by their names. -/
def sumZ (sz : Int → Nat) : NmL → Nat
  | [] => 0
  | p :: r => cntN (sz p.2) + sumZ sz r
theorem sumZ_append (sz : Int → Nat) (a b : NmL) : sumZ sz (a ++ b) = sumZ sz a + sumZ sz b := by
  induction a with
  | nil => simp [sumZ]
  | cons p r ih => simp only [List.cons_append, sumZ, ih]; omega
theorem sumZ_next (sz : Int → Nat) {l : NmL} {k : Nat} {p : ByteArray × Int} (h : l[k]? = some p) : sumZ sz (l.take (k + 1)) = sumZ sz (l.take k) + cntN (sz p.2) := by
  obtain ⟨hk, e⟩ := List.getElem?_eq_some_iff.1 h
  rw [List.take_succ_eq_append_getElem hk, sumZ_append, e]; simp [sumZ]
theorem sumZ_le (sz : Int → Nat) (h : ∀ i, sz i ≤ 1048576) : ∀ l : NmL, sumZ sz l ≤ l.length * 16384
  | [] => by simp [sumZ]
  | p :: r => by
    have h1 := sumZ_le sz h r
    have h2 := h p.2
    have h3 : cntN (sz p.2) ≤ 16384 := by unfold cntN; omega
    simp only [sumZ, List.length_cons]; omega
theorem sumZ_congr {f g : Int → Nat} : ∀ {l : NmL}, (∀ p ∈ l, f p.2 = g p.2) → sumZ f l = sumZ g l
  | [], _ => rfl
  | p :: r, h => by simp only [sumZ]; rw [h p (List.mem_cons_self ..), sumZ_congr (l := r) (fun q hq => h q (List.mem_cons_of_mem _ hq))]
theorem usedL_sum (fs : List FS) : ∀ l : NmL, usedL fs l = sumZ (fun i => (fileAt fs i).now.length) l
  | [] => rfl
  | p :: r => by simp only [usedL, sumZ]; rw [usedL_sum fs r]

section
variable {w w0 w' : World} {base p dp mb bn bs N : Nat} {T U T0 : Nat → Prop} {v v' : VS} {os : OsL} {pv : Value} {SD SF : Nat → Prop} {ps : List Nat} {Ss : List (Nat → Prop)}

/-! ### openToChange -/
theorem votc_dead (x : ByteArray) (h : VDT w0 T0 w base p v os dp mb bn bs pv SD SF ps Ss) (f0 : 0 ≤ v.fuse) (f1 : v.fuse ≤ 9223372036854775807) (hs : v.stops = true) :
    Calls Tryz.prog 48 #[.pointer (some ⟨p, 0, none⟩), .string x] w fun e w' => e = .returned (.tuple #[.pointer none, .int .i64 26]) ∧ VDT w0 T0 w' base p v.tick os dp mb bn bs pv SD SF ps Ss := by
  have C := Lib.hid (vchange_any h f0 f1)
  rw [show stopE v = 26 by unfold stopE; rw [if_pos hs]] at C
  clear h f0 f1 hs
  go_enter Tryz.func48, Tryz.ntmps48
  go_wp2_with (go_at_call 50; refine C.out.mono ?_; rintro e w1 ⟨rfl, hx⟩; have HX := Lib.hid hx; clear hx)
  go_ret2
  exact ⟨rfl, HX.out⟩
theorem votc_none (x : ByteArray) (h : VDT w0 T0 w base p v os dp mb bn bs pv SD SF ps Ss) (f0 : 0 ≤ v.fuse) (f1 : v.fuse ≤ 9223372036854775807) (hs : v.stops = false) (hx : x.size ≤ 200) (hg : getN v.d.now x = none) :
    Calls Tryz.prog 48 #[.pointer (some ⟨p, 0, none⟩), .string x] w fun e w' => e = .returned (.tuple #[.pointer none, .int .i64 6]) ∧ VDT w0 T0 w' base p v.tick os dp mb bn bs pv SD SF ps Ss := by
  have C := Lib.hid (vchange_any h f0 f1)
  rw [show stopE v = 0 by unfold stopE; rw [if_neg (by rw [hs]; simp)]] at C
  have O := Lib.hid (fun (w1 : World) (h1 : VDT w0 T0 w1 base p v.tick os dp mb bn bs pv SD SF ps Ss) => vopen_none x h1 (tick_dead hs) hx (by rw [tick_d]; exact hg))
  clear h f0 f1 hs hx hg
  go_enter Tryz.func48, Tryz.ntmps48
  go_wp2_with (first
    | (go_at_call 50; refine C.out.mono ?_; rintro e w1 ⟨rfl, hx⟩; have HX := Lib.hid hx; clear hx)
    | (go_at_call 61; refine (O.out _ HX.out).mono ?_; rintro e w9 ⟨rfl, rfl⟩))
  go_ret2
  exact ⟨rfl, HX.out⟩
theorem votc_yes (x : ByteArray) (i : Int) (q : Nat) (h : VDT w0 T0 w base p v os dp mb bn bs pv SD SF ps Ss) (f0 : 0 ≤ v.fuse) (f1 : v.fuse ≤ 9223372036854775807) (hs : v.stops = false) (hx : x.size ≤ 200) (hg : getN v.d.now x = some i) (hi : (Lit.int .i64 i).wf = true) (hq : lookP ps os i = some q) :
    Calls Tryz.prog 48 #[.pointer (some ⟨p, 0, none⟩), .string x] w fun e w' => e = .returned (.tuple #[.pointer (some ⟨q, 0, none⟩), .int .i64 0]) ∧ VDT w0 T0 w' base p v.tick os dp mb bn bs pv SD SF ps Ss := by
  have C := Lib.hid (vchange_any h f0 f1)
  rw [show stopE v = 0 by unfold stopE; rw [if_neg (by rw [hs]; simp)]] at C
  have O := Lib.hid (fun (w1 : World) (h1 : VDT w0 T0 w1 base p v.tick os dp mb bn bs pv SD SF ps Ss) => vopen_yes x i q h1 (tick_dead hs) hx (by rw [tick_d]; exact hg) hi hq)
  clear h f0 f1 hs hx hg hi hq
  go_enter Tryz.func48, Tryz.ntmps48
  go_wp2_with (first
    | (go_at_call 50; refine C.out.mono ?_; rintro e w1 ⟨rfl, hx⟩; have HX := Lib.hid hx; clear hx)
    | (go_at_call 61; refine (O.out _ HX.out).mono ?_; rintro e w9 ⟨rfl, rfl⟩))
  go_ret2
  exact ⟨rfl, HX.out⟩

/-! ### sectors -/
set_option maxHeartbeats 1000000 in
theorem vsectors_any (g : Nat) (cb : Array Value) (sz : Int → Nat) (h : VDT w0 T0 w base p v os dp mb bn bs pv SD SF ps Ss) (hgd : GoodV v os N) (hN : N ≤ 900000) (eg : ∀ args w, (callFunc g args).run Tryz.prog w = .ok (.enter g args) w) (hsz : ∀ i, sz i ≤ 1048576)
    (hcl : ∀ (W : World) (i : Int) (q : Nat), Below w.heap.size w W → lookP ps os i = some q → Calls Tryz.prog g (#[.pointer (some ⟨q, 0, none⟩)] ++ cb) W fun e w' => e = .returned (.int .i64 (sz i)) ∧ W = w') :
    Calls Tryz.prog 44 #[.pointer (some ⟨p, 0, none⟩), .func (.func g) #[] cb] w fun e w' => e = .returned (.int .i64 (sumZ sz v.d.now)) ∧ Below w.heap.size w w' := by
  obtain ⟨c0, c1, -, -, -, -, -, -, -, -, -, -⟩ := h.vd.cells
  obtain ⟨n, hn⟩ : ∃ n, n = v.d.now.length := ⟨_, rfl⟩
  have hn9 : n ≤ 900000 := by have := hgd.d.now; omega
  have DN := dnames_any dp bn v.d.now w (h.vd.dir.cells (Below.refl _ _)).1 h.vd.dir.now (by omega) hgd.d.okn
  rw [← hn] at DN
  have DNH := Lib.hid DN
  have HV := Lib.hid h
  have HG := Lib.hid hgd
  have HN := Lib.hid hn
  have HC := Lib.hid hcl
  have HS := Lib.hid (sumZ_le sz hsz)
  have HZ := Lib.hid hsz
  clear h hgd DN hn hcl hsz
  go_enter Tryz.func44, Tryz.ntmps44
  go_wp2_with (go_at_call 21; go_loud (refine DNH.out.mono ?_; rintro e w1 ⟨A, c, rfl, hT, hb⟩; have HT := Lib.hid hT; have HB := Lib.hid hb; clear hT hb))
  clear c0 c1
  have HV1 := Lib.hid (HV.out.below HB.out)
  obtain ⟨c0, c1, -, -, -, -, -, -, -, -, -, -⟩ := HV1.out.vd.cells
  go_loop [5, 7, 8, 9, 16] (fun s _ _ _ i => ∃ j : Nat, j ≤ n ∧ i = .int .i64 j ∧ s = .int .i64 (sumZ sz (v.d.now.take j))) (fun _ _ _ _ i => n - (intOf i).toNat)
  case atStart => exact ⟨0, Nat.zero_le _, rfl, rfl⟩
  case round =>
    obtain ⟨j, hj, rfl, rfl⟩ := hrel
    by_cases hlt : j < n
    · obtain ⟨b, off, rfl, hbB, hc⟩ := HT.out.at_ (by omega)
      have hjl : j < v.d.now.length := by rw [← HN.out]; exact hlt
      obtain ⟨pr, hpr⟩ : ∃ pr, v.d.now[j]? = some pr := ⟨_, List.getElem?_eq_getElem hjl⟩
      have hnm : nthT (namesN v.d.now) j = pr.1 := by
        have : (namesN v.d.now)[j]? = some pr.1 := by unfold namesN; rw [List.getElem?_map, hpr]; rfl
        unfold nthT; rw [List.getD_eq_getElem?_getD, this]; rfl
      have cj := hc j hlt
      rw [hnm] at cj
      have hgt := get_rise8 HG.out.d.riseN hpr
      obtain ⟨kf, f, hik, hof, -, -, -⟩ := HG.out.at_ hgt
      obtain ⟨q, S, nv, sv, qv, hq, hS, hcf, -, hlk⟩ := HV1.out.vd.file hof
      rw [← hik] at hlk
      have hmem := List.mem_of_getElem? hpr
      have hwf := (HG.out.d.okn pr hmem).2
      have GT := dget_any dp bn v.d.now pr.1 w1 (HV1.out.vd.dir.cells (Below.refl _ _)).1 HV1.out.vd.dir.now (by have := (HG.out.d.okn pr hmem).1; unfold maxLen; omega)
      rw [hgt] at GT
      have GTH := Lib.hid GT
      have HQ := Lib.hid (show Value.pointer (some ⟨q, 0, none⟩) = ptrV (lookP ps os pr.2) by rw [hlk]; rfl)
      have HCL := Lib.hid (HC.out w1 pr.2 q HB.out hlk)
      have hz := HZ.out pr.2
      have CT := Lib.hid (count_any (sz pr.2 : Int) w1 (by omega) (by omega))
      rw [cntI_nat] at CT
      have HNX := sumZ_next sz hpr
      have hs1 := HS.out (v.d.now.take j)
      rw [List.length_take] at hs1
      have hs3 : sumZ sz (v.d.now.take j) ≤ 14745600000 := by
        have : min j v.d.now.length ≤ 900000 := by omega
        omega
      have hs2 : cntN (sz pr.2) ≤ 16384 := by unfold cntN; omega
      obtain ⟨s0, hs0⟩ : ∃ s0, s0 = sumZ sz (v.d.now.take j) := ⟨_, rfl⟩
      obtain ⟨s1, hs1e⟩ : ∃ s1, s1 = cntN (sz pr.2) := ⟨_, rfl⟩
      obtain ⟨zq, hzq⟩ : ∃ zq, zq = sz pr.2 := ⟨_, rfl⟩
      obtain ⟨x, i⟩ := pr
      rw [← hs0] at hs3 HNX ⊢
      rw [← hs1e] at CT hs2 HNX
      simp only at hzq hs1e cj GTH HQ HCL hwf CT
      rw [← hzq] at CT HCL
      have hlti : (j : Int) < (n : Int) := by omega
      have n1 : IntKind.i64.wrap ((s0 : Int) + (s1 : Int)) = (s0 : Int) + (s1 : Int) := by rw [IntKind.wrap_i64]; omega
      have HWF := Lib.hid hwf
      have HX := Lib.hid HNX
      clear hc hnm hpr hgt hik hof hq hS hcf hlk hmem hwf GT hz HNX hs1 hs0 hs1e hzq hjl
      go_wp2_with (first
        | (go_at_call 81; go_loud (refine GTH.out.mono ?_; rintro e w9 ⟨rfl, rfl⟩))
        | (at_lookup; go_loud (refine wpList_lookF _ rfl _ _ rfl mb _ _ HV1.out.vd.map rfl i rfl HWF.out _ HQ.out ?_))
        | (go_at_call 82; go_loud (refine CT.out.mono ?_; rintro e w9 ⟨rfl, rfl⟩))
        | (go_at_fn g; go_loud (refine HCL.out.mono ?_; rintro e w9 ⟨rfl, rfl⟩)))
      go_round
      case rel => exact ⟨j + 1, by omega, by go_num, by rw [HX.out]; go_num⟩
      case measure => simp [intOf]; omega
    · obtain rfl : j = n := by omega
      have hlti : ¬ (j : Int) < (j : Int) := by omega
      rw [show v.d.now.take j = v.d.now by rw [HN.out]; exact List.take_length]
      go_wp2
      go_ret
      exact ⟨rfl, HB.out⟩
end

end Go.Proofs.YtclglbddibjenaaGreat
