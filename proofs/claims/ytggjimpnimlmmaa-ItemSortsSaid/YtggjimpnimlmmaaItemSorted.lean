/-
  LAYER 4: the document's Sorted: its contract.
-/
import Derived.Test.YtggjimpnimlmmaaItemTell
set_option linter.unusedVariables false
set_option linter.unusedSimpArgs false
namespace Go.Proofs.Ytggjimpnimlmmaa
open Go.RowKit

theorem ofR_len (zs : List ByteArray) (f : ByteArray) : (ofR zs f).length ≤ zs.length := Nat.le_trans (putAll_length _) (List.length_filter_le _ _)
theorem flat_len (zs : List ByteArray) : ∀ l : List ByteArray, (l.flatMap (ofR zs)).length ≤ l.length * zs.length
  | [] => by simp
  | f :: l => by
    have h1 := flat_len zs l
    have h2 := ofR_len zs f
    rw [List.flatMap_cons, List.length_append, List.length_cons, Nat.add_mul, Nat.one_mul]
    omega
theorem ofR_mem {zs : List ByteArray} {f x : ByteArray} (h : x ∈ ofR zs f) : x ∈ zs := by
  unfold ofR at h
  rw [(putAll_spec cfT_tot _).2, List.mem_filter] at h
  exact h.1
theorem sortedR_mem {zs : List ByteArray} {x : ByteArray} (h : x ∈ sortedR zs) : x ∈ zs := by
  unfold sortedR at h
  obtain ⟨f, _, hx⟩ := List.mem_flatMap.1 h
  exact ofR_mem hx
theorem fieldsR_len (zs : List ByteArray) : (fieldsR zs).length ≤ zs.length := Nat.le_trans (putAll_length _) (by rw [List.length_map]; exact Nat.le_refl _)
theorem fieldsR_sz {zs : List ByteArray} (h : ∀ s ∈ zs, s.size ≤ maxLen) : ∀ s ∈ fieldsR zs, s.size ≤ maxLen := fun s hs => by
  unfold fieldsR at hs
  rw [(putAll_spec cfT_tot _).2] at hs
  obtain ⟨x, hx, rfl⟩ := List.mem_map.1 hs
  exact Nat.le_trans (spF_size x) (h x hx)

/-- What has been put together of field f, of the first k texts. -/
def ofK (zs : List ByteArray) (f : ByteArray) (k : Nat) : List ByteArray := putAll cfT ((zs.take k).filter fun x => decide (spF x = f))
theorem ofK_zero (zs : List ByteArray) (f : ByteArray) : ofK zs f 0 = [] := by unfold ofK; simp [putAll]
theorem ofK_full {zs : List ByteArray} {f : ByteArray} {n : Nat} (h : zs.length = n) : ofK zs f n = ofR zs f := by unfold ofK ofR; rw [List.take_of_length_le (by omega)]
theorem ofK_yes {zs : List ByteArray} {f : ByteArray} {k : Nat} (h : k < zs.length) (hf : spF (nthT zs k) = f) : putL cfT (ofK zs f k) (nthT zs k) = ofK zs f (k + 1) := by
  unfold ofK
  rw [take_nthT h, List.filter_append, ← putAll_snoc]
  congr 2
  simp [hf]
theorem ofK_no {zs : List ByteArray} {f : ByteArray} {k : Nat} (h : k < zs.length) (hf : ¬ spF (nthT zs k) = f) : ofK zs f (k + 1) = ofK zs f k := by
  unfold ofK
  rw [take_nthT h, List.filter_append]
  have : [nthT zs k].filter (fun x => decide (spF x = f)) = [] := by simp [hf]
  rw [this, List.append_nil]
theorem ofK_len (zs : List ByteArray) (f : ByteArray) (k : Nat) : (ofK zs f k).length ≤ zs.length :=
  Nat.le_trans (putAll_length _) (Nat.le_trans (List.length_filter_le _ _) (by rw [List.length_take]; omega))

/-- What has been laid of the first i fields. -/
def laid (zs : List ByteArray) (i : Nat) : List ByteArray := ((fieldsR zs).take i).flatMap (ofR zs)
theorem laid_succ {zs : List ByteArray} {i : Nat} (h : i < (fieldsR zs).length) : laid zs (i + 1) = laid zs i ++ ofR zs (nthT (fieldsR zs) i) := by
  unfold laid
  rw [take_nthT h, List.flatMap_append]
  simp
theorem laid_full {zs : List ByteArray} {n : Nat} (h : (fieldsR zs).length = n) : laid zs n = sortedR zs := by unfold laid sortedR; rw [List.take_of_length_le (by omega)]
theorem laid_len (zs : List ByteArray) (i : Nat) (h : zs.length ≤ 100) : (laid zs i).length ≤ 10000 := by
  have h1 := flat_len zs ((fieldsR zs).take i)
  have h2 := fieldsR_len zs
  have h3 : ((fieldsR zs).take i).length ≤ 100 := by rw [List.length_take]; omega
  unfold laid
  exact Nat.le_trans h1 (Nat.mul_le_mul h3 h : _ ≤ 100 * 100)

theorem OwnT.below' {w wr w2 : World} {v : Value} {xs : List ByteArray} (h : OwnT w wr v xs) (hb : Below wr.heap.size wr w2) : OwnT w w2 v xs :=
  ⟨own_chg h.own (Chg.of_below hb (Nat.le_refl _) (fun _ => False)) (fun _ _ h => h), h.below.trans (hb.mono h.below.size)⟩
theorem OwnT.more {w wr w2 : World} {v v2 : Value} {xs ys : List ByteArray} (h : OwnT w wr v xs) (hown : w2.ownsRow w.heap.size 9 1 v2 (xs.length + ys.length) (cellsT xs ++ cellsT ys)) (hg : wr.grownBy w2 v.ownBlock) : OwnT w w2 v2 (xs ++ ys) := by
  refine ⟨by rw [List.length_append, cellsT_append]; exact hown, ?_⟩
  exact h.below.grown hg h.below.size (fun k hk => (h.own.lt k hk).1)

set_option maxHeartbeats 1000000 in
theorem rsorted_any (A : Option Addr) (n c : Nat) (zs : List ByteArray) (w : World) (h : Txt w w.heap.size A n c zs) (hn : n ≤ 100) :
    Calls Try.prog 26 #[.slice A n c] w (Tells (sortedR zs) w) := by
  obtain ⟨i0, hinf, hz0, hz1, hz2⟩ := info_parts strInfo
  have hl := h.len
  have hle := h.le
  have hcap := h.cap
  have HH := Lib.hid h
  have HL := Lib.hid hl
  have HFL := Lib.hid (fieldsR_len zs)
  have HSZ := Lib.hid (fieldsR_sz h.sz)
  generalize hfl : fieldsR zs = fl at *
  have HFL2 := Lib.hid hfl
  clear h hl hfl
  go_enter Try.func26, Try.ntmps26
  go_wp2_with (go_at_call 22; refine (rfields_any A n c zs w HH.out (Nat.le_trans hn (by omega))).mono ?_; rw [HFL2.out]; rintro e w1 ⟨A1, c1, rfl, hT1, hb1⟩; have HT1 := Lib.hid hT1; clear hT1)
  go_loopw [3, 5] (fun o i wr => ∃ k : Nat, k ≤ fl.length ∧ i = .int .i64 k ∧ OwnT w1 wr o (laid zs k)) (fun _ i _ => fl.length - (intOf i).toNat)
  case atStart => exact ⟨0, Nat.zero_le _, rfl, OwnT.nil_ w1⟩
  case round =>
    obtain ⟨i, hi, rfl, H⟩ := hrel
    obtain ⟨wo, rfl⟩ : ∃ wo : World, wo = wr := ⟨_, rfl⟩
    have hflb : fl.length ≤ 100 := by have := HFL.out; have := HL.out; omega
    have HLB := Lib.hid (laid_len zs i (by rw [HL.out]; exact hn))
    obtain ⟨A3, c3, rfl, hc31, hc32⟩ := own_form H.own
    by_cases hlt : i < fl.length
    · have HLS := Lib.hid (laid_succ (zs := zs) (i := i) (by rw [HFL2.out]; exact hlt))
      rw [HFL2.out] at HLS
      have HO := Lib.hid H
      obtain ⟨bf, off2, rfl, hbf, hcf⟩ := HT1.out.at_ (by omega)
      have f0 := hcf i hlt
      have fo := (H.below.cell (p := ⟨bf, off2 + i, none⟩) hbf).trans f0
      have hb2 := H.below
      generalize laid zs i = lo at *
      generalize nthT fl i = f at *
      clear hcf H f0
      go_wp2
      go_loopw [6, 7] (fun p j wr => ∃ (k c2 : Nat) (A2 : Option Addr), k ≤ n ∧ j = .int .i64 k ∧ p = .slice A2 (ofK zs f k).length c2 ∧ Hid (Txt wr wr.heap.size A2 (ofK zs f k).length c2 (ofK zs f k)) ∧ Below wo.heap.size wo wr) (fun _ j _ => n - (intOf j).toNat)
      case atStart => exact ⟨0, 0, none, Nat.zero_le _, rfl, by rw [ofK_zero]; rfl, by rw [ofK_zero]; exact Lib.hid (Txt.nil_ _ _), Below.refl _ _⟩
      case round =>
        obtain ⟨k, c2, A2, hk, rfl, rfl, HT, hb3⟩ := hrel
        have HKL := Lib.hid (show (ofK zs f k).length ≤ 1000 by have := ofK_len zs f k; have := HL.out; omega)
        by_cases hlt2 : k < n
        · obtain ⟨b, off, rfl, hb, hcell⟩ := HH.out.at_ (by omega)
          have c0 := hcell k hlt2
          have hs1 := hb1.size
          have hs2 := hb2.size
          have cr1 := (hb1.cell (p := ⟨b, off + k, none⟩) hb).trans c0
          have cr2 := (hb2.cell (p := ⟨b, off + k, none⟩) (Nat.lt_of_lt_of_le hb hs1)).trans cr1
          have cr := (hb3.cell (p := ⟨b, off + k, none⟩) (Nat.lt_of_lt_of_le hb (Nat.le_trans hs1 hs2))).trans cr2
          have fr := (hb3.cell (p := ⟨bf, off2 + i, none⟩) (Nat.lt_of_lt_of_le hbf hs2)).trans fo
          have HZ := Lib.hid (HH.out.size hlt2)
          have i1 : (k : Int) < n := by omega
          have i2 : (i : Int) < fl.length := by omega
          have i3 : (0 : Int) ≤ k := by omega
          have i4 : (0 : Int) ≤ i := by omega
          by_cases hf : spF (nthT zs k) = f
          · have d1 : ((spF (nthT zs k)).toList == f.toList) = true := by rw [beq_text]; exact decide_eq_true hf
            have HP := Lib.hid (ofK_yes (zs := zs) (f := f) (k := k) (by rw [HL.out]; exact hlt2) hf)
            generalize nthT zs k = s at *
            generalize ofK zs f k = xs at *
            clear hcell c0 cr1 cr2 hf fo
            go_wp2
            go_quiet ((go_at_call 14; exact Calls.quiet_of (rfield_any s _ HZ.out)))
            have HT1 := Lib.hid (HT.out.drewN nq)
            have hb4 := below_drewn hb3 nq
            go_wp2_with (go_at_call 32; refine (put_any A2 xs.length c2 xs s wr.heap.size (wr.drewN nq) HT1.out (Nat.le_refl _) HZ.out HKL.out).mono ?_; rintro e w2 ⟨A4, c4, rfl, hT2, hb5⟩; have HT2 := Lib.hid hT2; have hb6 := hb4.trans (hb5.mono hb3.size); clear hT2)
            go_roundw
            case rel => exact ⟨k + 1, c4, A4, by omega, by go_num, by rw [← HP.out], by rw [← HP.out]; exact HT2, hb6⟩
            case measure => simp [intOf]; omega
          · have d1 : ((spF (nthT zs k)).toList == f.toList) = false := by rw [beq_text]; exact decide_eq_false hf
            have HP := Lib.hid (ofK_no (zs := zs) (f := f) (k := k) (by rw [HL.out]; exact hlt2) hf)
            generalize nthT zs k = s at *
            generalize ofK zs f k = xs at *
            clear hcell c0 cr1 cr2 hf fo
            go_wp2
            go_quiet ((go_at_call 14; exact Calls.quiet_of (rfield_any s _ HZ.out)))
            have HT1 := Lib.hid (HT.out.drewN nq)
            have hb4 := below_drewn hb3 nq
            go_wp2
            go_roundw
            case rel => exact ⟨k + 1, c2, A2, by omega, by go_num, by rw [HP.out], by rw [HP.out]; exact HT1, hb4⟩
            case measure => simp [intOf]; omega
        · obtain rfl : k = n := by omega
          have HP := Lib.hid (ofK_full (f := f) HL.out)
          have HR := Lib.hid HT.out.reads
          have HO2 := Lib.hid (HO.out.below' hb3)
          have s2 : lo.length + (ofK zs f k).length ≤ maxLen := by have := HLB.out; have := HKL.out; unfold maxLen; omega
          have s3 : (lo.length + (ofK zs f k).length) * 16 ≤ 140737488355328 := by have := HLB.out; have := HKL.out; omega
          have s4 := HO2.out.below.size
          generalize ofK zs f k = xs at *
          go_wp2_with (at_builtin; refine wpList_append_any _ rfl _ _ _ rfl w1.heap.size 9 i0 (.string ⟨#[]⟩) 1 16 Try.underlying27 hinf hz0 hz1 hz2 rfl (Nat.lt_succ_self 0) (.slice A3 lo.length c3) lo.length (cellsT lo) rfl HO2.out.own wr.heap.size A2 xs.length c2 (cellsT xs) rfl HR.out (cellsT_one _) s2 s3 s4 ?_; intro v3 w3 hown3 hg3 hat3; have HO3 := Lib.hid (HO2.out.more hown3 hg3); clear hown3 hg3 hat3)
          go_roundw
          case rel => exact ⟨i + 1, by omega, by go_num, by rw [HLS.out, ← HP.out]; exact HO3.out⟩
          case measure => simp [intOf]; omega
    · obtain rfl : i = fl.length := by omega
      have hp := laid_full (zs := zs) (n := fl.length) (by rw [HFL2.out])
      rw [hp] at H hc31
      have HO := Lib.hid H
      rw [hp]
      generalize hq : sortedR zs = q at *
      have HQ := Lib.hid hq
      clear H hp hq
      go_wp2
      go_ret
      obtain ⟨A5, c5, e5, hT5, hb5⟩ := HO.out.tells (fun s hs => HH.out.sz s (sortedR_mem (HQ.out ▸ hs)))
      exact ⟨A5, c5, e5, hT5, hb1.trans (hb5.mono hb1.size)⟩

end Go.Proofs.Ytggjimpnimlmmaa
