/-
  LAYER 8: WHAT Truncate AND Write DO: contracts. Written by a program (gen8w.py).
-/
import Derived.Test.YtclglbddibjenaaGreatVdFn5
set_option linter.unusedVariables false
set_option linter.unusedSimpArgs false
set_option maxRecDepth 100000
namespace Go.Proofs.YtclglbddibjenaaGreat
open Go.RowKit Go.Shelf

/-- A file's Write of bytes that came in: of none, too, whose address says nothing. -/
theorem fwrite_arg (p : Nat) (a : Int) (Ab : Option Addr) (m cb : Nat) (bs : List Int) (base : Nat) (S : Nat → Prop) (s : FS) (nv sv pv : Value) (w : World) (h : CF w base S p s nv sv pv) (hr : Reads w base 1 Ab m (cellsOf .u8 bs)) (hmc : m ≤ cb) (hcb : cb ≤ 9223372036854775807)
    (h0 : -9223372036854775808 ≤ a) (h1 : a ≤ 9223372036854775807) (hm : m ≤ 4611686018427387904) (hl : s.now.length ≤ 1048576) (ho : s.ops.length ≤ 900000) :
    Calls Tryz.prog 67 #[.pointer (some ⟨p, 0, none⟩), .int .i64 a, .slice Ab m cb] w fun e w' => e = .returned (.int .i64 (writeE a m)) ∧ CFT base S p (s.writeI a bs) w w' := by
  rcases Nat.eq_zero_or_pos m with h00 | h00
  · have hz : bs = [] := List.eq_nil_of_length_eq_zero (by have := hr.1; rw [cellsOf_length] at this; omega)
    subst hz; subst h00
    have HC := Lib.hid (CFT.same h)
    have e2 : s.writeI a [] = s := by
      unfold FS.writeI; split
      · rfl
      · unfold FS.write; rw [if_pos rfl]
    rw [e2]
    by_cases hn : a < 0
    · have e1 : writeE a 0 = 1 := by unfold writeE; rw [if_pos (.inl hn)]
      rw [e1]
      clear h hr e1 e2
      go_enter Tryz.func67, Tryz.ntmps67
      go_wp2
      go_ret
      exact ⟨rfl, HC.out⟩
    · by_cases hx : 1048576 < a
      · have e1 : writeE a 0 = 1 := by unfold writeE; rw [if_pos (.inr (by simpa using hx))]
        rw [e1]
        clear h hr e1 e2
        go_enter Tryz.func67, Tryz.ntmps67
        go_wp2
        go_ret
        exact ⟨rfl, HC.out⟩
      · have e1 : writeE a 0 = 0 := by unfold writeE; rw [if_neg (by simp; omega)]
        rw [e1]
        clear h hr e1 e2
        go_enter Tryz.func67, Tryz.ntmps67
        go_wp2
        go_ret
        exact ⟨rfl, HC.out⟩
  · exact fwrite_any p a Ab m cb bs base base S s nv sv pv w h hr h.bas (fun ad e hs => by
      have := (h.foot _ hs).1
      obtain ⟨ad', e', hb', _⟩ := hr.2 h00
      rw [e] at e'; injection e' with e'; subst e'; omega) hmc hcb h0 h1 hm hl ho

section
variable {w w0 w' : World} {base p dp mb bn bs N : Nat} {T U T0 : Nat → Prop} {v v' : VS} {os : OsL} {pv : Value} {SD SF : Nat → Prop} {ps : List Nat} {Ss : List (Nat → Prop)}

theorem used_tick : v.tick.used = v.used := by unfold VS.used; rw [tick_fs, tick_d]
theorem fits_tick (f : FS) (n : Nat) : v.tick.fits f n = v.fits f n := by unfold VS.fits; rw [used_tick, tick_room]
theorem truncE_tick (x : ByteArray) (n : Int) : v.tick.truncE x n = v.truncE x n := by unfold VS.truncE; rw [tick_d, tick_fs]; simp only [fits_tick]
theorem writeE_tick (x : ByteArray) (a : Int) (bs : List Int) : v.tick.writeE x a bs = v.writeE x a bs := by unfold VS.writeE; rw [tick_d, tick_fs]; simp only [fits_tick]
theorem put_same {k : Nat} {f : FS} (h : v.fs[k]? = some f) : v.put (k : Int) f = v := by
  obtain ⟨hk, e⟩ := List.getElem?_eq_some_iff.1 h
  have : v.fs.set k f = v.fs := by rw [← e]; exact List.set_getElem_self hk
  unfold VS.put
  rw [Int.toNat_natCast, this]
/-- Where the file itself is asked. -/
theorem trunc_through {x : ByteArray} {k : Nat} {f : FS} {n : Int} (hx : getN v.d.now x = some (k : Int)) (hf : v.fs[k]? = some f) (hfit : 0 ≤ n → n ≤ 1048576 → v.fits f n.toNat = true) : v.truncE x n = truncE n ∧ v.trunc x n = v.put (k : Int) (f.truncI n) := by
  have hfa := fileAt_some hf
  have hE : v.truncE x n = truncE n := by
    unfold VS.truncE truncE
    rw [hx]
    simp only [hfa]
    by_cases hr : n < 0 ∨ 1048576 < n
    · rw [if_pos hr, if_pos hr]
    · rw [if_neg hr, if_neg hr, if_neg (by rw [hfit (by omega) (by omega)]; simp)]
  refine ⟨hE, ?_⟩
  unfold VS.trunc
  rw [hE]
  unfold truncE
  by_cases hr : n < 0 ∨ 1048576 < n
  · rw [if_pos hr, if_neg (by omega), show f.truncI n = f by unfold FS.truncI; rw [if_pos hr], put_same hf]
  · rw [if_neg hr, if_pos rfl, hx]; simp only [hfa]
theorem trunc_full {x : ByteArray} {k : Nat} {f : FS} {n : Int} (hx : getN v.d.now x = some (k : Int)) (hf : v.fs[k]? = some f) (h0 : 0 ≤ n) (h1 : n ≤ 1048576) (hfit : v.fits f n.toNat = false) : v.truncE x n = 20 ∧ v.trunc x n = v := by
  have hE : v.truncE x n = 20 := by
    unfold VS.truncE
    rw [hx]
    simp only [fileAt_some hf]
    rw [if_neg (by omega), if_pos hfit]
  exact ⟨hE, by unfold VS.trunc; rw [if_neg (by rw [hE]; omega)]⟩
theorem fits_max {f : FS} {m : Nat} : v.fits f (max f.now.length m) = v.fits f m := by
  by_cases h : m ≤ f.now.length
  · rw [Nat.max_eq_left h, fits_yes (Nat.le_refl _), fits_yes (by unfold cntN; omega)]
  · rw [Nat.max_eq_right (by omega)]
theorem write_through {x : ByteArray} {k : Nat} {f : FS} {a : Int} {bs : List Int} (hx : getN v.d.now x = some (k : Int)) (hf : v.fs[k]? = some f) (hfit : 0 ≤ a → a + bs.length ≤ 1048576 → 0 < bs.length → v.fits f (a.toNat + bs.length) = true) : v.writeE x a bs = writeE a bs.length ∧ v.write x a bs = v.put (k : Int) (f.writeI a bs) := by
  have hfa := fileAt_some hf
  have hE : v.writeE x a bs = writeE a bs.length := by
    unfold VS.writeE writeE
    rw [hx]
    simp only [hfa]
    by_cases hr : a < 0 ∨ 1048576 < a + bs.length
    · rw [if_pos hr, if_pos hr]
    · rw [if_neg hr, if_neg hr, if_neg (fun hh => by have := hh.2; rw [fits_max, hfit (by omega) (by omega) hh.1] at this; cases this)]
  refine ⟨hE, ?_⟩
  unfold VS.write
  rw [hE]
  unfold writeE
  by_cases hr : a < 0 ∨ 1048576 < a + bs.length
  · rw [if_pos hr, if_neg (by omega), show f.writeI a bs = f by unfold FS.writeI; rw [if_pos hr], put_same hf]
  · rw [if_neg hr, if_pos rfl, hx]; simp only [hfa]
theorem write_full {x : ByteArray} {k : Nat} {f : FS} {a : Int} {bs : List Int} (hx : getN v.d.now x = some (k : Int)) (hf : v.fs[k]? = some f) (h0 : 0 ≤ a) (h1 : a + bs.length ≤ 1048576) (h2 : 0 < bs.length) (hfit : v.fits f (a.toNat + bs.length) = false) : v.writeE x a bs = 20 ∧ v.write x a bs = v := by
  have hE : v.writeE x a bs = 20 := by
    unfold VS.writeE
    rw [hx]
    simp only [fileAt_some hf]
    rw [if_neg (by omega), if_pos ⟨h2, by rw [fits_max]; exact hfit⟩]
  exact ⟨hE, by unfold VS.write; rw [if_neg (by rw [hE]; omega)]⟩

set_option maxHeartbeats 2000000 in
theorem vtrunc_any (x : ByteArray) (n : Int) (h : VX w base T p v os) (hg : GoodV v os N) (hN : N ≤ 1000) (hx : x.size ≤ 200) (h0 : -9223372036854775808 ≤ n) (h1 : n ≤ 9223372036854775807) :
    Calls Tryz.prog 29 #[.pointer (some ⟨p, 0, none⟩), .string x, .int .i64 n] w fun e w' => e = .returned (.int .i64 (orStop v (v.truncE x n))) ∧ VOut w T base p (orTick v (v.tick.trunc x n)) (N + 1) w' := by
  obtain ⟨dp, mb, bn, bs, pv, SD, SF, ps, Ss, hv⟩ := h
  have hgt := hg.tick
  cases hs : v.stops with
  | true =>
    rw [orStop_yes hs, orTick_yes hs]
    have O := Lib.hid (votc_dead x (VDT.start hv) hg.f0 hg.f1 hs)
    have HG := Lib.hid hgt
    clear hv hg hgt hs
    go_enter Tryz.func29, Tryz.ntmps29
    go_wp2_with (go_at_call 48; refine O.out.mono ?_; rintro e w1 ⟨rfl, hx⟩; have HX := Lib.hid hx; clear hx)
    go_ret
    exact ⟨rfl, HX.out.vout (HG.out.more (Nat.le_succ _))⟩
  | false =>
    rw [orStop_no hs, orTick_no hs, ← truncE_tick]
    cases hgx : getN v.d.now x with
    | none =>
      have O := Lib.hid (votc_none x (VDT.start hv) hg.f0 hg.f1 hs hx hgx)
      have HG := Lib.hid hgt
      have hgx2 : getN v.tick.d.now x = none := by rw [tick_d]; exact hgx
      have hE : v.tick.truncE x n = 6 := by unfold VS.truncE; rw [hgx2]
      rw [hE, show v.tick.trunc x n = v.tick by unfold VS.trunc; rw [if_neg (by rw [hE]; omega)]]
      clear hv hg hgt hs hgx hgx2 hE
      go_enter Tryz.func29, Tryz.ntmps29
      go_wp2_with (go_at_call 48; refine O.out.mono ?_; rintro e w1 ⟨rfl, hx⟩; have HX := Lib.hid hx; clear hx)
      go_ret
      exact ⟨rfl, HX.out.vout (HG.out.more (Nat.le_succ _))⟩
    | some i =>
      have hgx2 : getN v.tick.d.now x = some i := by rw [tick_d]; exact hgx
      obtain ⟨k, q, f, -, -, -, -, -, -, rfl, hof, hlk, hq, -, hvf, hfa, hfg, -⟩ := (VDT.start hv).named hg hgx
      have hvf2 : v.tick.fs[k]? = some f := by rw [tick_fs]; exact hvf
      have O := Lib.hid (votc_yes x k q (VDT.start hv) hg.f0 hg.f1 hs hx hgx (wf_k hg (by omega) hvf) hlk)
      have HG := Lib.hid hgt
      have hfew := hfg.few
      have FW := Lib.hid (fun (w1 : World) (h1' : VDT w T w1 base p v.tick os dp mb bn bs pv SD SF ps Ss) => (show Calls Tryz.prog 68 #[.pointer (some ⟨q, 0, none⟩), .int .i64 n] w1 (fun e w' => e = .returned (.int .i64 (truncE n)) ∧ VOut w T base p (v.tick.put (k : Int) (f.truncI n)) (N + 1) w') by
        obtain ⟨q', S, nv, sv, qv, hq', hS, hcf, -, -⟩ := h1'.vd.file hof
        rw [hq] at hq'
        injection hq' with hq'
        subst hq'
        refine (ftrunc_any q n base S f nv sv qv w1 hcf h0 h1 hfg.ok.size (by omega)).mono ?_
        rintro e w' ⟨rfl, hc⟩
        exact ⟨rfl, h1'.putFile hgt hof hq hS hc ((hfg.truncI n).more (by omega))⟩))
      by_cases g1 : n ≤ 1048576
      · by_cases g0 : n < 0
        · obtain ⟨e1, e2⟩ := trunc_through (n := n) hgx2 hvf2 (fun hh => absurd hh (by omega))
          rw [e1, e2]
          have FT := Lib.hid (fun (w1 : World) (h1' : VDT w T w1 base p v.tick os dp mb bn bs pv SD SF ps Ss) => vfits_neg n h1' hgt hlk g0 h0)
          clear hv hg hgt hs hgx hgx2 hof hlk hq hvf hvf2 hfa hfg e1 e2 hfew
          go_enter Tryz.func29, Tryz.ntmps29
          go_wp2_with (first
            | (go_at_call 48; refine O.out.mono ?_; rintro e w1 ⟨rfl, hx⟩; have HX := Lib.hid hx; clear hx)
            | (go_at_call 66; go_loud (refine (FT.out _ HX.out).mono ?_; rintro e w2 ⟨rfl, hb⟩; have HY := Lib.hid (HX.out.below hb); clear hb))
            | (go_at_call 68; go_loud (refine (FW.out _ HY.out).mono ?_; rintro e w3 ⟨rfl, hz⟩; have HZ := Lib.hid hz; clear hz)))
          go_ret
          exact ⟨rfl, HZ.out⟩
        · obtain ⟨m, rfl⟩ : ∃ m : Nat, n = m := ⟨n.toNat, by omega⟩
          have FT0 := (fun (w1 : World) (h1' : VDT w T w1 base p v.tick os dp mb bn bs pv SD SF ps Ss) => vfits_any m h1' hgt (by omega) hgx2 hof hlk (by omega))
          cases hfit : v.tick.fits f m with
          | true =>
            obtain ⟨e1, e2⟩ := trunc_through (n := (m : Int)) hgx2 hvf2 (fun _ _ => hfit)
            rw [e1, e2]
            rw [hfit] at FT0
            have FT := Lib.hid FT0
            clear hv hg hgt hs hgx hgx2 hof hlk hq hvf hvf2 hfa hfg e1 e2 hfew FT0 hfit
            go_enter Tryz.func29, Tryz.ntmps29
            go_wp2_with (first
              | (go_at_call 48; refine O.out.mono ?_; rintro e w1 ⟨rfl, hx⟩; have HX := Lib.hid hx; clear hx)
              | (go_at_call 66; go_loud (refine (FT.out _ HX.out).mono ?_; rintro e w2 ⟨rfl, hb⟩; have HY := Lib.hid (HX.out.below hb); clear hb))
              | (go_at_call 68; go_loud (refine (FW.out _ HY.out).mono ?_; rintro e w3 ⟨rfl, hz⟩; have HZ := Lib.hid hz; clear hz)))
            go_ret
            exact ⟨rfl, HZ.out⟩
          | false =>
            obtain ⟨e1, e2⟩ := trunc_full (n := (m : Int)) hgx2 hvf2 (by omega) g1 hfit
            rw [e1, e2]
            rw [hfit] at FT0
            have FT := Lib.hid FT0
            clear hv hg hgt hs hgx hgx2 hof hlk hq hvf hvf2 hfa hfg e1 e2 hfew FT0 hfit FW
            go_enter Tryz.func29, Tryz.ntmps29
            go_wp2_with (first
              | (go_at_call 48; refine O.out.mono ?_; rintro e w1 ⟨rfl, hx⟩; have HX := Lib.hid hx; clear hx)
              | (go_at_call 66; go_loud (refine (FT.out _ HX.out).mono ?_; rintro e w2 ⟨rfl, hb⟩; have HY := Lib.hid (HX.out.below hb); clear hb)))
            go_ret
            exact ⟨rfl, HY.out.vout (HG.out.more (Nat.le_succ _))⟩
      · obtain ⟨e1, e2⟩ := trunc_through (n := n) hgx2 hvf2 (fun _ hh => absurd hh g1)
        rw [e1, e2]
        clear hv hg hgt hs hgx hgx2 hof hlk hq hvf hvf2 hfa hfg e1 e2 hfew
        go_enter Tryz.func29, Tryz.ntmps29
        go_wp2_with (first
          | (go_at_call 48; refine O.out.mono ?_; rintro e w1 ⟨rfl, hx⟩; have HX := Lib.hid hx; clear hx)
          | (go_at_call 68; go_loud (refine (FW.out _ HX.out).mono ?_; rintro e w3 ⟨rfl, hz⟩; have HZ := Lib.hid hz; clear hz)))
        go_ret
        exact ⟨rfl, HZ.out⟩

set_option maxHeartbeats 2000000 in
theorem vwrite_any (x : ByteArray) (a : Int) (A : Option Addr) (m c : Nat) (l : List Int) (h : VX w base T p v os) (hg : GoodV v os N) (hN : N ≤ 1000) (hx : x.size ≤ 200) (h0 : -9223372036854775808 ≤ a) (h1 : a ≤ 9223372036854775807) (hr : Reads w base 1 A m (cellsOf .u8 l)) (hb : AreB l) (hmc : m ≤ c) (hc : c ≤ 9223372036854775807) (hm : m ≤ 300) :
    Calls Tryz.prog 28 #[.pointer (some ⟨p, 0, none⟩), .string x, .int .i64 a, .slice A m c] w fun e w' => e = .returned (.int .i64 (orStop v (v.writeE x a l))) ∧ VOut w T base p (orTick v (v.tick.write x a l)) (N + 1) w' := by
  obtain ⟨dp, mb, bn, bs, pv, SD, SF, ps, Ss, hv⟩ := h
  have hgt := hg.tick
  cases hs : v.stops with
  | true =>
    rw [orStop_yes hs, orTick_yes hs]
    have O := Lib.hid (votc_dead x (VDT.start hv) hg.f0 hg.f1 hs)
    have HG := Lib.hid hgt
    clear hv hg hgt hs
    go_enter Tryz.func28, Tryz.ntmps28
    go_wp2_with (go_at_call 48; refine O.out.mono ?_; rintro e w1 ⟨rfl, hx⟩; have HX := Lib.hid hx; clear hx)
    go_ret
    exact ⟨rfl, HX.out.vout (HG.out.more (Nat.le_succ _))⟩
  | false =>
    rw [orStop_no hs, orTick_no hs, ← writeE_tick]
    cases hgx : getN v.d.now x with
    | none =>
      have O := Lib.hid (votc_none x (VDT.start hv) hg.f0 hg.f1 hs hx hgx)
      have HG := Lib.hid hgt
      have hgx2 : getN v.tick.d.now x = none := by rw [tick_d]; exact hgx
      have hE : v.tick.writeE x a l = 6 := by unfold VS.writeE; rw [hgx2]
      rw [hE, show v.tick.write x a l = v.tick by unfold VS.write; rw [if_neg (by rw [hE]; omega)]]
      clear hv hg hgt hs hgx hgx2 hE
      go_enter Tryz.func28, Tryz.ntmps28
      go_wp2_with (go_at_call 48; refine O.out.mono ?_; rintro e w1 ⟨rfl, hx⟩; have HX := Lib.hid hx; clear hx)
      go_ret
      exact ⟨rfl, HX.out.vout (HG.out.more (Nat.le_succ _))⟩
    | some i =>
      have hgx2 : getN v.tick.d.now x = some i := by rw [tick_d]; exact hgx
      obtain ⟨k, q, f, -, -, -, -, -, -, rfl, hof, hlk, hq, -, hvf, hfa, hfg, -⟩ := (VDT.start hv).named hg hgx
      have hvf2 : v.tick.fs[k]? = some f := by rw [tick_fs]; exact hvf
      have O := Lib.hid (votc_yes x k q (VDT.start hv) hg.f0 hg.f1 hs hx hgx (wf_k hg (by omega) hvf) hlk)
      have HG := Lib.hid hgt
      have hfew := hfg.few
      have hml : m = l.length := by have := hr.1; rw [cellsOf_length] at this; omega
      have FW := Lib.hid (fun (w1 : World) (h1' : VDT w T w1 base p v.tick os dp mb bn bs pv SD SF ps Ss) => (show Calls Tryz.prog 67 #[.pointer (some ⟨q, 0, none⟩), .int .i64 a, .slice A m c] w1 (fun e w' => e = .returned (.int .i64 (writeE a m)) ∧ VOut w T base p (v.tick.put (k : Int) (f.writeI a l)) (N + 1) w') by
        obtain ⟨q', S, nv, sv, qv, hq', hS, hcf, -, -⟩ := h1'.vd.file hof
        rw [hq] at hq'
        injection hq' with hq'
        subst hq'
        refine (fwrite_arg q a A m c l base S f nv sv qv w1 hcf (hr.below h1'.bel) hmc hc h0 h1 (by omega) hfg.ok.size (by omega)).mono ?_
        rintro e w' ⟨rfl, hcc⟩
        exact ⟨rfl, h1'.putFile hgt hof hq hS hcc ((hfg.writeI a hb).more (by omega))⟩))
      by_cases g2 : 0 < m
      · have q2 : 0 < (m : Int) := by omega
        by_cases g0 : 0 ≤ a
        · have n1 : IntKind.i64.wrap (1048576 - (m : Int)) = 1048576 - (m : Int) := by rw [IntKind.wrap_i64]; omega
          by_cases g1 : a ≤ 1048576 - (m : Int)
          · have n2 : IntKind.i64.wrap (a + (m : Int)) = a + (m : Int) := by rw [IntKind.wrap_i64]; omega
            obtain ⟨z, rfl⟩ : ∃ z : Nat, a = z := ⟨a.toNat, by omega⟩
            have FT0 := (fun (w1 : World) (h1' : VDT w T w1 base p v.tick os dp mb bn bs pv SD SF ps Ss) => vfits_any (z + m) h1' hgt (by omega) hgx2 hof hlk (by omega))
            rw [show ((z + m : Nat) : Int) = (z : Int) + (m : Int) by omega] at FT0
            cases hfit : v.tick.fits f (z + m) with
            | true =>
              obtain ⟨e1, e2⟩ := write_through (a := (z : Int)) (bs := l) hgx2 hvf2 (fun _ _ _ => by rw [Int.toNat_natCast, ← hml]; exact hfit)
              rw [e1, e2, ← hml]
              rw [hfit] at FT0
              have FT := Lib.hid FT0
              clear hv hg hgt hs hgx hgx2 hof hlk hq hvf hvf2 hfa hfg e1 e2 hfew hr hb hml FT0 hfit
              go_enter Tryz.func28, Tryz.ntmps28
              go_wp2_with (first
                | (go_at_call 48; refine O.out.mono ?_; rintro e w1 ⟨rfl, hx⟩; have HX := Lib.hid hx; clear hx)
                | (go_at_call 66; go_loud (refine (FT.out _ HX.out).mono ?_; rintro e w2 ⟨rfl, hb⟩; have HY := Lib.hid (HX.out.below hb); clear hb))
                | (go_at_call 67; go_loud (refine (FW.out _ HY.out).mono ?_; rintro e w3 ⟨rfl, hz⟩; have HZ := Lib.hid hz; clear hz)))
              go_ret
              exact ⟨rfl, HZ.out⟩
            | false =>
              obtain ⟨e1, e2⟩ := write_full (a := (z : Int)) (bs := l) hgx2 hvf2 (by omega) (by omega) (by omega) (by rw [Int.toNat_natCast, ← hml]; exact hfit)
              rw [e1, e2]
              rw [hfit] at FT0
              have FT := Lib.hid FT0
              clear hv hg hgt hs hgx hgx2 hof hlk hq hvf hvf2 hfa hfg e1 e2 hfew hr hb hml FT0 hfit FW
              go_enter Tryz.func28, Tryz.ntmps28
              go_wp2_with (first
                | (go_at_call 48; refine O.out.mono ?_; rintro e w1 ⟨rfl, hx⟩; have HX := Lib.hid hx; clear hx)
                | (go_at_call 66; go_loud (refine (FT.out _ HX.out).mono ?_; rintro e w2 ⟨rfl, hb⟩; have HY := Lib.hid (HX.out.below hb); clear hb)))
              go_ret
              exact ⟨rfl, HY.out.vout (HG.out.more (Nat.le_succ _))⟩
          · obtain ⟨e1, e2⟩ := write_through (a := a) (bs := l) hgx2 hvf2 (fun _ hh _ => absurd hh (by omega))
            rw [e1, e2, ← hml]
            clear hv hg hgt hs hgx hgx2 hof hlk hq hvf hvf2 hfa hfg e1 e2 hfew hr hb hml
            go_enter Tryz.func28, Tryz.ntmps28
            go_wp2_with (first
              | (go_at_call 48; refine O.out.mono ?_; rintro e w1 ⟨rfl, hx⟩; have HX := Lib.hid hx; clear hx)
              | (go_at_call 67; go_loud (refine (FW.out _ HX.out).mono ?_; rintro e w3 ⟨rfl, hz⟩; have HZ := Lib.hid hz; clear hz)))
            go_ret
            exact ⟨rfl, HZ.out⟩
        · obtain ⟨e1, e2⟩ := write_through (a := a) (bs := l) hgx2 hvf2 (fun hh _ _ => absurd hh g0)
          rw [e1, e2, ← hml]
          clear hv hg hgt hs hgx hgx2 hof hlk hq hvf hvf2 hfa hfg e1 e2 hfew hr hb hml
          go_enter Tryz.func28, Tryz.ntmps28
          go_wp2_with (first
            | (go_at_call 48; refine O.out.mono ?_; rintro e w1 ⟨rfl, hx⟩; have HX := Lib.hid hx; clear hx)
            | (go_at_call 67; go_loud (refine (FW.out _ HX.out).mono ?_; rintro e w3 ⟨rfl, hz⟩; have HZ := Lib.hid hz; clear hz)))
          go_ret
          exact ⟨rfl, HZ.out⟩
      · have q2 : ¬ 0 < (m : Int) := by omega
        obtain ⟨e1, e2⟩ := write_through (a := a) (bs := l) hgx2 hvf2 (fun _ _ hh => absurd hh (by omega))
        rw [e1, e2, ← hml]
        clear hv hg hgt hs hgx hgx2 hof hlk hq hvf hvf2 hfa hfg e1 e2 hfew hr hb hml
        go_enter Tryz.func28, Tryz.ntmps28
        go_wp2_with (first
          | (go_at_call 48; refine O.out.mono ?_; rintro e w1 ⟨rfl, hx⟩; have HX := Lib.hid hx; clear hx)
          | (go_at_call 67; go_loud (refine (FW.out _ HX.out).mono ?_; rintro e w3 ⟨rfl, hz⟩; have HZ := Lib.hid hz; clear hz)))
        go_ret
        exact ⟨rfl, HZ.out⟩
end

end Go.Proofs.YtclglbddibjenaaGreat
