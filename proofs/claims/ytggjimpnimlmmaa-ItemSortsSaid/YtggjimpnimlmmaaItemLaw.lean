/-
  LAYER 4: the chapter's examples, and the walks of the five statements.
-/
import Derived.Test.YtggjimpnimlmmaaItemSorted
set_option linter.unusedVariables false
set_option linter.unusedSimpArgs false
namespace Go.Proofs.Ytggjimpnimlmmaa
open Go.RowKit

def exL : List ByteArray := [⟨#[66, 61, 50]⟩, ⟨#[65, 61, 49]⟩, ⟨#[66, 61, 50]⟩]
def exR : List ByteArray := [⟨#[65, 61, 49]⟩, ⟨#[66, 61, 50]⟩]
theorem exE : chkE exL = 0 := by kernel_rfl
theorem exP : putAll cfT exL = exR := by kernel_rfl
theorem exC : chkL exL = exR := by unfold chkL; rw [exE, if_pos rfl, once_put cfT_tot, exP]
theorem exF : spF ⟨#[65, 61, 98, 61, 99]⟩ = ⟨#[65]⟩ := by kernel_rfl
theorem exV : spV ⟨#[65, 61, 98, 61, 99]⟩ = ⟨#[98, 61, 99]⟩ := by kernel_rfl
theorem exO : spOk ⟨#[65, 61, 98, 61, 99]⟩ = true := by kernel_rfl

theorem newTxt (w : World) (t : TypeId) (zs : List ByteArray) (h : zs.length ≤ 1000) (hs : ∀ s ∈ zs, s.size ≤ maxLen) : Txt (w.alloc (.cells (cellsT zs).toArray t)) (w.heap.size + 1) (some ⟨w.heap.size, 0, none⟩) zs.length zs.length zs := by
  have hr := Reads.newN w t (cellsT zs).toArray
  have e : (cellsT zs).toArray.size = zs.length := by simp [cellsT_length]
  rw [e] at hr
  exact ⟨hr, Nat.le_refl _, by omega, hs⟩
theorem exSz : ∀ s ∈ exL, s.size ≤ maxLen := by
  intro s hs
  have : s.size = 3 := by
    unfold exL at hs
    simp only [List.mem_cons, List.not_mem_nil, or_false] at hs
    rcases hs with rfl | rfl | rfl <;> rfl
  rw [this]; unfold maxLen; omega
theorem exSzR : ∀ s ∈ exR, s.size ≤ maxLen := by
  intro s hs
  have : s.size = 3 := by
    unfold exR at hs
    simp only [List.mem_cons, List.not_mem_nil, or_false] at hs
    rcases hs with rfl | rfl <;> rfl
  rw [this]; unfold maxLen; omega
theorem exTxt (w : World) (t : TypeId) : Txt (w.alloc (.cells #[.string ⟨#[66, 61, 50]⟩, .string ⟨#[65, 61, 49]⟩, .string ⟨#[66, 61, 50]⟩] t)) (w.heap.size + 1) (some ⟨w.heap.size, 0, none⟩) 3 3 exL := newTxt w t exL (by decide) exSz
theorem exTxtR (w : World) (t : TypeId) : Txt (w.alloc (.cells #[.string ⟨#[65, 61, 49]⟩, .string ⟨#[66, 61, 50]⟩] t)) (w.heap.size + 1) (some ⟨w.heap.size, 0, none⟩) 2 2 exR := newTxt w t exR (by decide) exSzR

theorem exCheck (w : World) (B : Nat) (A : Option Addr) (c : Nat) (h : Txt w B A 3 c exL) :
    Calls Try.prog 16 #[.slice A 3 c] w fun e w' => ∃ A c, e = .returned (.tuple #[.slice A 2 c, .int .i64 0]) ∧ Txt w' w'.heap.size A 2 c exR ∧ Below w.heap.size w w' := by
  refine (check_any A 3 c exL B w h (by decide)).mono fun e w' ⟨A1, c1, he, ht, hb⟩ => ?_
  rw [exC] at he ht
  rw [exE] at he
  exact ⟨A1, c1, he, ht, hb⟩
theorem exSplit (w : World) :
    Calls Try.prog 9 #[.string ⟨#[65, 61, 98, 61, 99]⟩] w fun e w' => e = .returned (.tuple #[.string ⟨#[65]⟩, .string ⟨#[98, 61, 99]⟩, .bool true]) ∧ Drew w w' := by
  have h := split_any ⟨#[65, 61, 98, 61, 99]⟩ w (by show 5 ≤ maxLen; unfold maxLen; omega)
  rw [exF, exV, exO] at h
  exact h

theorem awake_any (w : World) : Calls Try.prog 8 #[] w fun e w' => e = .returned (.bool true) ∧ Below w.heap.size w w' := by
  have hb0 : Below w.heap.size w (w.alloc (.cells #[.string ⟨#[66, 61, 50]⟩, .string ⟨#[65, 61, 49]⟩, .string ⟨#[66, 61, 50]⟩] 9)) := (Below.refl _ _).alloc (Nat.le_refl _) _
  go_enter Try.func8, Try.ntmps8
  go_wp2_with (first
    | (go_at_call 16; refine (exCheck _ _ _ _ (exTxt w _)).mono ?_; rintro e w1 ⟨A1, c1, rfl, hT1, hb1⟩; have HT1 := Lib.hid hT1; have hb2 := hb0.trans (hb1.mono hb0.size); clear hT1)
    | (go_at_call 9; refine (exSplit _).mono ?_; rintro e w2 ⟨rfl, n1, rfl⟩; have hb3 := below_drewn hb2 n1; have HT2 := Lib.hid ((HT1.out.below ((Below.refl w1.heap.size w1).alloc (Nat.le_refl _) (.cells #[.string ⟨#[65, 61, 49]⟩, .string ⟨#[66, 61, 50]⟩] 9))).drewN n1); have HT3 := Lib.hid ((exTxtR w1 9).drewN n1))
    | (go_at_call 18; refine (texts_same _ _ 2 _ _ exR _ _ _ HT2.out HT3.out).mono ?_; rintro e w3 ⟨rfl, n2, rfl⟩))
  go_ret
  exact ⟨rfl, below_drewn (hb2.alloc hb2.size _) _⟩

/-! ### ItemSplits -/
theorem splits_law (s : ByteArray) (w : World) (hs : s.size ≤ maxLen) :
    Calls Try.prog 3 #[.string s] w fun e w' => e = .returned (.bool true) ∧ Below w.heap.size w w' := by
  have HS := Lib.hid hs
  unfold maxLen at hs
  have hb0 : Below w.heap.size w w := Below.refl _ _
  by_cases hbig : 3000 < s.size
  · go_enter Try.func3, Try.ntmps3
    go_wp2_with (go_at_call 8; refine (awake_any _).mono ?_; rintro e w1 ⟨rfl, hb1⟩)
    go_ret
    exact ⟨rfl, hb1⟩
  · go_enter Try.func3, Try.ntmps3
    go_wp2_with (first
      | (go_at_call 9; refine (split_any s _ HS.out).mono ?_; rintro e w1 ⟨rfl, n1, rfl⟩)
      | (go_at_call 10; refine (rsplit_any s _ HS.out).mono ?_; rintro e w1 ⟨rfl, n2, rfl⟩)
      | (go_at_call 11; refine (name_any s _ HS.out).mono ?_; rintro e w1 ⟨rfl, rfl⟩)
      | (go_at_call 12; refine (rname_any s _ HS.out).mono ?_; rintro e w1 ⟨rfl, n3, rfl⟩)
      | (go_at_call 13; refine (field_any s _ HS.out).mono ?_; rintro e w1 ⟨rfl, n4, rfl⟩)
      | (go_at_call 14; refine (rfield_any s _ HS.out).mono ?_; rintro e w1 ⟨rfl, n5, rfl⟩)
      | (go_at_call 8; refine (awake_any _).mono ?_; rintro e w1 ⟨rfl, hb1⟩))
    go_ret
    exact ⟨rfl, below_drewn0 hb1⟩

/-! ### ItemChecks -/
theorem checks_law (A : Option Addr) (n c : Nat) (zs : List ByteArray) (w : World) (h : Txt w w.heap.size A n c zs) :
    Calls Try.prog 4 #[.slice A n c] w fun e w' => e = .returned (.bool true) ∧ Below w.heap.size w w' := by
  have H := Lib.hid h
  have HF := Lib.hid (few_any A n c zs w.heap.size w h)
  have hl := h.len
  cases hf : fewB zs with
  | false =>
    rw [hf] at HF
    clear h hf hl
    go_enter Try.func4, Try.ntmps4
    go_wp2_with (first
      | (go_at_call 15; refine HF.out.mono ?_; rintro e w1 ⟨rfl, rfl⟩)
      | (go_at_call 8; refine (awake_any _).mono ?_; rintro e w1 ⟨rfl, hb1⟩))
    go_ret
    exact ⟨rfl, hb1⟩
  | true =>
    have HN := Lib.hid (show n ≤ 1000 by have := fewB_len hf; omega)
    rw [hf] at HF
    clear h hf hl
    go_enter Try.func4, Try.ntmps4
    go_wp2_with (first
      | (go_at_call 15; refine HF.out.mono ?_; rintro e w1 ⟨rfl, rfl⟩)
      | (go_at_call 16; refine (check_any A n c zs _ w H.out HN.out).mono ?_; rintro e w1 ⟨A1, c1, rfl, hT1, hb1⟩; have HT1 := Lib.hid hT1; have HH := Lib.hid ((H.out.below hb1).more hb1.size); clear hT1)
      | (go_at_call 17; refine (rcheck_any A n c zs w1 HH.out HN.out).mono ?_; rintro e w2 ⟨A2, c2, rfl, hT2, hb2⟩; have HT2 := Lib.hid hT2; have HT3 := Lib.hid (HT1.out.below hb2); have hb3 := hb1.trans (hb2.mono hb1.size); clear hT2)
      | (go_at_call 18; refine (texts_same A1 A2 _ c1 c2 (chkL zs) _ _ w2 HT3.out HT2.out).mono ?_; rintro e w3 ⟨rfl, n2, rfl⟩; have hb4 := below_drewn hb3 n2)
      | (go_at_call 8; refine (awake_any _).mono ?_; rintro e w4 ⟨rfl, hb5⟩))
    go_ret
    exact ⟨rfl, hb4.trans (hb5.mono hb4.size)⟩

/-! ### ItemAgain -/
def tot (l : List ByteArray) : Nat := (l.map (·.size)).sum
theorem tot_append (a b : List ByteArray) : tot (a ++ b) = tot a + tot b := by unfold tot; rw [List.map_append, List.sum_append]
theorem tot_one (s : ByteArray) : tot [s] = s.size := by simp [tot]
theorem tot_put (l : List ByteArray) (s : ByteArray) : tot (putL cfT l s) ≤ tot l + s.size := by
  have run : ∀ (l : List ByteArray) (st : List ByteArray × Bool), tot (l.foldl (putStep cfT s) st).1 + (if (l.foldl (putStep cfT s) st).2 then 0 else s.size) ≤ tot st.1 + tot l + (if st.2 then 0 else s.size) := by
    intro l
    induction l with
    | nil => intro st; exact Nat.le_refl _
    | cons x l ih =>
      intro st
      rw [List.foldl_cons]
      refine Nat.le_trans (ih _) ?_
      have e : tot (x :: l) = x.size + tot l := by simp [tot]
      unfold putStep
      by_cases hc : cfT s x < 0 ∧ st.2 = false
      · rw [if_pos hc, hc.2]; simp only [tot_append, tot_one, e]; simp; omega
      · rw [if_neg hc]; simp only [tot_append, tot_one, e]; omega
  have h := run l ([], false)
  have e0 : tot [] = 0 := rfl
  unfold putL
  by_cases hs : s ∈ l
  · rw [if_pos hs]; omega
  · rw [if_neg hs]
    unfold putEnd putRun
    cases hd : (l.foldl (putStep cfT s) ([], false)).2 with
    | true => rw [hd] at h; simp [e0] at h; simp; omega
    | false => rw [hd] at h; simp [e0] at h; simp [tot_append, tot_one]; omega
theorem tot_all (l : List ByteArray) : tot (putAll cfT l) ≤ tot l := by
  suffices H : ∀ (l o : List ByteArray), tot (l.foldl (putL cfT) o) ≤ tot o + tot l by
    have := H l []
    have e0 : tot [] = 0 := rfl
    unfold putAll; omega
  intro l
  induction l with
  | nil => intro o; simp [tot]
  | cons x l ih =>
    intro o
    rw [List.foldl_cons]
    have h1 := ih (putL cfT o x)
    have h2 := tot_put o x
    have e : tot (x :: l) = x.size + tot l := by simp [tot]
    omega
theorem szB_tot (zs : List ByteArray) (k : Nat) (h : k ≤ zs.length) : szB k zs = tot (zs.take k) := by
  induction k with
  | zero => rfl
  | succ k ih => rw [take_nthT (by omega), tot_append, tot_one, ← ih (by omega)]; rfl

theorem chk_good_iff {zs : List ByteArray} (h : chkE zs = 0) : 0 < zs.length ∧ zs.length ≤ 64 ∧ (∀ s ∈ zs, okB s = true) ∧ tot zs ≤ 8192 := by
  unfold chkE at h
  by_cases h1 : zs.length = 0
  · rw [if_pos h1] at h; omega
  rw [if_neg h1] at h
  by_cases h2 : 64 < zs.length
  · rw [if_pos h2] at h; omega
  rw [if_neg h2] at h
  by_cases h3 : firstBad zs ≠ 0
  · rw [if_pos h3] at h; exact absurd h h3
  rw [if_neg h3] at h
  by_cases h4 : 8192 < szB zs.length zs
  · rw [if_pos h4] at h; omega
  refine ⟨by omega, by omega, ?_, ?_⟩
  · intro s hs
    have h3' := Classical.not_not.1 h3
    unfold firstBad at h3'
    cases hf : zs.find? fun s => !okB s with
    | none =>
      rw [List.find?_eq_none] at hf
      have := hf s hs
      simpa using this
    | some x =>
      rw [hf] at h3'
      by_cases hx : 1024 < x.size
      · simp [hx] at h3'
      · simp [hx] at h3'
  · rw [szB_tot _ _ (Nat.le_refl _), List.take_length] at h4; omega
theorem chk_again {zs : List ByteArray} (h : chkE zs = 0) : chkE (onceL cfT zs) = 0 := by
  obtain ⟨h1, h2, h3, h4⟩ := chk_good_iff h
  have hp := once_put cfT_tot zs
  have hmem := (onceL_spec cfT_tot zs).2
  have hlen : (onceL cfT zs).length ≤ zs.length := by rw [hp]; exact putAll_length _
  have htot : tot (onceL cfT zs) ≤ tot zs := by rw [hp]; exact tot_all _
  have h0 : 0 < (onceL cfT zs).length := by
    rcases Nat.eq_zero_or_pos (onceL cfT zs).length with e | e
    · have := (hmem (nthT zs 0)).2 (nthT_mem h1)
      rw [List.eq_nil_of_length_eq_zero e] at this
      cases this
    · exact e
  refine chk_good h0 (by omega) (fun j hj => h3 _ ((hmem _).1 (nthT_mem hj))) ?_
  rw [szB_tot _ _ (Nat.le_refl _), List.take_length]; omega
theorem chkL_again {zs : List ByteArray} (h : chkE zs = 0) : chkL zs = onceL cfT zs ∧ chkE (onceL cfT zs) = 0 ∧ chkL (onceL cfT zs) = onceL cfT zs := by
  have h2 := chk_again h
  refine ⟨by unfold chkL; rw [if_pos h], h2, ?_⟩
  unfold chkL
  rw [if_pos h2]
  exact onceL_fix cfT_tot _ (onceL_spec cfT_tot zs).1
theorem chkL_no {zs : List ByteArray} (h : ¬ chkE zs = 0) : chkL zs = [] := by unfold chkL; rw [if_neg h]

theorem check_no (A : Option Addr) (n c : Nat) (zs : List ByteArray) (B : Nat) (w : World) (h : Txt w B A n c zs) (hn : n ≤ 1000) (he : ¬ chkE zs = 0) :
    Calls Try.prog 16 #[.slice A n c] w fun e w' => ∃ A c, e = .returned (.tuple #[.slice A 0 c, .int .i64 (chkE zs)]) ∧ Below w.heap.size w w' := by
  refine (check_any A n c zs B w h hn).mono fun e w' ⟨A1, c1, he1, ht, hb⟩ => ?_
  rw [chkL_no he] at he1
  exact ⟨A1, c1, he1, hb⟩
theorem check_yes (A : Option Addr) (n c : Nat) (zs : List ByteArray) (B : Nat) (w : World) (h : Txt w B A n c zs) (hn : n ≤ 1000) (he : chkE zs = 0) (L : List ByteArray) (hL : chkL zs = L) :
    Calls Try.prog 16 #[.slice A n c] w fun e w' => ∃ A c, e = .returned (.tuple #[.slice A L.length c, .int .i64 0]) ∧ Txt w' w'.heap.size A L.length c L ∧ Below w.heap.size w w' := by
  subst hL
  refine (check_any A n c zs B w h hn).mono fun e w' ⟨A1, c1, he1, ht, hb⟩ => ?_
  rw [he] at he1
  exact ⟨A1, c1, he1, ht, hb⟩

theorem again_law (A : Option Addr) (n c : Nat) (zs : List ByteArray) (w : World) (h : Txt w w.heap.size A n c zs) :
    Calls Try.prog 5 #[.slice A n c] w fun e w' => e = .returned (.bool true) ∧ Below w.heap.size w w' := by
  have H := Lib.hid h
  have HF := Lib.hid (few_any A n c zs w.heap.size w h)
  have hl := h.len
  cases hf : fewB zs with
  | false =>
    rw [hf] at HF
    clear h hf hl
    go_enter Try.func5, Try.ntmps5
    go_wp2_with (first
      | (go_at_call 15; refine HF.out.mono ?_; rintro e w1 ⟨rfl, rfl⟩)
      | (go_at_call 8; refine (awake_any _).mono ?_; rintro e w1 ⟨rfl, hb1⟩))
    go_ret
    exact ⟨rfl, hb1⟩
  | true =>
    have HN := Lib.hid (show n ≤ 1000 by have := fewB_len hf; omega)
    rw [hf] at HF
    by_cases he : chkE zs = 0
    · obtain ⟨e1, e2, e3⟩ := chkL_again he
      have hll : (onceL cfT zs).length ≤ 1000 := by rw [once_put cfT_tot]; exact Nat.le_trans (putAll_length _) (by rw [hl]; exact HN.out)
      have HLL := Lib.hid hll
      have HE := Lib.hid he
      have H1 := Lib.hid e1
      have H2 := Lib.hid e2
      have H3 := Lib.hid e3
      generalize onceL cfT zs = L at *
      clear h hf hl he e1 e2 e3 hll
      have m1 : True := trivial
      go_enter Try.func5, Try.ntmps5
      go_wp2_with (first
        | (go_at_call 15; refine HF.out.mono ?_; rintro e w1 ⟨rfl, rfl⟩)
        | (go_at_call 16; clear m1; refine (check_yes A n c zs _ w H.out HN.out HE.out L H1.out).mono ?_; rintro e w1 ⟨A1, c1, rfl, hT1, hb1⟩; have HT1 := Lib.hid hT1; clear hT1)
        | (go_at_call 16; refine (check_yes A1 L.length c1 L _ w1 HT1.out HLL.out H2.out L H3.out).mono ?_; rintro e w2 ⟨A2, c2, rfl, hT2, hb2⟩; have HT2 := Lib.hid hT2; have HT3 := Lib.hid (HT1.out.below hb2); have hb3 := hb1.trans (hb2.mono hb1.size); clear hT2)
        | (go_at_call 18; refine (texts_same A1 A2 L.length c1 c2 L _ _ w2 HT3.out HT2.out).mono ?_; rintro e w3 ⟨rfl, n2, rfl⟩; have hb4 := below_drewn hb3 n2)
        | (go_at_call 8; refine (awake_any _).mono ?_; rintro e w4 ⟨rfl, hb5⟩))
      go_ret
      exact ⟨rfl, hb4.trans (hb5.mono hb4.size)⟩
    · have d1 : (chkE zs == 0) = false := by rw [beq_eq_false_iff_ne]; exact he
      have d2 : (chkE zs != 0) = true := by rw [bne_iff_ne]; exact he
      have HE := Lib.hid he
      clear h hf hl he
      go_enter Try.func5, Try.ntmps5
      go_wp2_with (first
        | (go_at_call 15; refine HF.out.mono ?_; rintro e w1 ⟨rfl, rfl⟩)
        | (go_at_call 16; refine (check_no A n c zs _ w H.out HN.out HE.out).mono ?_; rintro e w1 ⟨A1, c1, rfl, hb1⟩)
        | (go_at_call 8; refine (awake_any _).mono ?_; rintro e w4 ⟨rfl, hb5⟩))
      go_ret
      exact ⟨rfl, hb1.trans (hb5.mono hb1.size)⟩

end Go.Proofs.Ytggjimpnimlmmaa
