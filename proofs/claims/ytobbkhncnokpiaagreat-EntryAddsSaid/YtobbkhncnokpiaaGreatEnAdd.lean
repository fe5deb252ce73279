/-
  LAYER 16: Add: its contract.
-/
import Derived.Test.YtobbkhncnokpiaaGreatEnPutW
import Derived.Test.YtobbkhncnokpiaaGreatEnChk
set_option linter.unusedVariables false
set_option maxRecDepth 100000
set_option linter.unusedSimpArgs false
namespace Go.Proofs.YtobbkhncnokpiaaGreat
open Go.RowKit Go.Shelf

theorem find_all {zs : List ByteArray} (h : firstBad zs = 0) : ∀ s ∈ zs, okB s = true := fun s hs => by
  unfold firstBad at h
  cases hc : zs.find? (fun s => !okB s) with
  | some a => rw [hc] at h; simp only at h; split at h <;> omega
  | none =>
    have := List.find?_eq_none.1 hc s hs
    simpa using this
theorem chk_zero {zs : List ByteArray} (h : chkE zs = 0) : 0 < zs.length ∧ zs.length ≤ 64 ∧ (∀ s ∈ zs, okB s = true) ∧ chkL zs = onceL cfT zs := by
  have hl : chkL zs = onceL cfT zs := if_pos h
  unfold chkE at h
  by_cases h0 : zs.length = 0
  · rw [if_pos h0] at h; omega
  rw [if_neg h0] at h
  by_cases h1 : 64 < zs.length
  · rw [if_pos h1] at h; omega
  rw [if_neg h1] at h
  by_cases h2 : firstBad zs = 0
  · exact ⟨by omega, by omega, find_all h2, hl⟩
  · rw [if_pos h2] at h; exact absurd h h2
theorem okB_iff {s : ByteArray} (h : okB s = true) : spOk s = true ∧ s.size ≤ 1024 := by
  unfold okB at h
  rw [Bool.and_eq_true, decide_eq_true_eq] at h
  exact ⟨h.2, h.1⟩
/-- What Check lets through. -/
theorem good_of_chk {zs : List ByteArray} (h : chkE zs = 0) : Good64 (chkL zs) := by
  obtain ⟨h0, h1, h2, h3⟩ := chk_zero h
  obtain ⟨hr, hm⟩ := onceL_spec cfT_tot zs
  rw [h3]
  refine ⟨?_, ?_, fun s hs => okB_iff (h2 s ((hm s).1 hs)), ?_⟩
  · refine List.length_pos_of_mem ((hm zs[0]).2 (List.getElem_mem h0))
  · rw [once_put cfT_tot]
    exact Nat.le_trans (putAll_length _) h1
  · rw [List.nodup_iff_pairwise_ne]
    refine hr.imp fun {a b} hlt e => ?_
    subst e
    exact cfT_tot.irr _ hlt

/-- An entry with its items as they are checked. -/
def RC.chk (r : RC) : RC := { r with its := chkL r.its }

/-- A slice of texts doesn't lie in a record's box. -/
theorem txt_nobox {w : World} {B n c g : Nat} {A : Option Addr} {zs : List ByteArray} {v0 v1 v2 v3 : Int} {A1 : Option Addr} {n1 c1 : Nat} {t : TypeId} (h : Txt w B A n c zs) (hn : 0 < n) (hk : Blk w g t #[.int .u64 v0, .int .u64 v1, .int .u64 v2, .int .u64 v3, .slice A1 n1 c1]) : ∀ ad, A = some ad → ad.block ≠ g := by
  obtain ⟨b, off, rfl, hb, hc⟩ := h.at_ hn
  intro ad ha
  injection ha with ha
  subst ha
  intro e
  have e2 : b = g := e
  subst e2
  have h0 := hc 0 hn
  rw [hk.cell] at h0
  match off, h0 with
  | 0, h0 => simp at h0
  | 1, h0 => simp at h0
  | 2, h0 => simp at h0
  | 3, h0 => simp at h0
  | 4, h0 => simp at h0
  | (q + 5), h0 => simp at h0

section
variable {k d f : Int} {w w' wr : World} {base : Nat} {S T : Nat → Prop} {p lim : Nat} {was bs : List Int} {R : List DR} {O : List GO} {Lr : List Int} {tl cnt : Nat}

/-- What Add tells, and what it leaves. -/
def AddTold (k d f : Int) (w : World) (base : Nat) (S : Nat → Prop) (p lim : Nat) (bs : List Int) (R : List DR) (O : List GO) (Lr : List Int) (E : List (List (List Int))) (tl : Nat) (r : RC) (e : Ending) (w' : World) : Prop :=
  (¬ chkE r.its = 0 ∧ e = .returned (.tuple #[.int .i64 0, .int .i64 (chkE r.its)]) ∧ Below w.heap.size w w') ∨
  (chkE r.its = 0 ∧ ∃ (a : Nat) (R' : List DR) (ps : List Int), e = .returned (.tuple #[.int .i64 a, .int .i64 0]) ∧ 256 ≤ a ∧ a ≤ 1099511627776 ∧ Chg S w w' ∧ EX k d f w' base (grow S w w') p lim bs R' (O ++ [entO k r.chk a ps]) (Lr ++ [(a : Int)]) (tl + budE R O ((chkL r.its).map nums)) 300 ∧ EL R' (O ++ [entO k r.chk a ps]) (Lr ++ [(a : Int)]) (E ++ [(chkL r.its).map nums]) ∧ ∀ y, y ∉ (chkL r.its).map nums → findD R' y = findD R y) ∨
  (chkE r.its = 0 ∧ lim < tl + budE R O ((chkL r.its).map nums) ∧ e = .returned (.tuple #[.int .i64 0, .int .i64 21]) ∧ Chg S w w' ∧ ED k d f w' base (grow S w w') p lim bs R O Lr tl)

set_option maxHeartbeats 4000000 in
theorem eadd_any {E : List (List (List Int))} {B : Nat} (r : RC) (hr : RCOk w B r) (hB : B ≤ w.heap.size) (hn : r.n ≤ 1000) (h : ED k d f w base S p lim bs R O Lr tl) (hE : EL R O Lr E) (hO : O.length ≤ 900) (htb : tl ≤ 900000000) :
    Calls Tryz.prog 11 #[.pointer (some ⟨p, 0, none⟩), r.v] w (AddTold k d f w base S p lim bs R O Lr E tl r) := by
  obtain ⟨hr0, hr1, hr2, hr3, hT⟩ := hr
  have hbas := h.bas
  have hft := Lib.hid h.foot
  obtain ⟨v0, hv0⟩ : ∃ v0, r.seq = v0 := ⟨_, rfl⟩
  obtain ⟨v1, hv1⟩ : ∃ v1, r.real = v1 := ⟨_, rfl⟩
  obtain ⟨v2, hv2⟩ : ∃ v2, r.mono = v2 := ⟨_, rfl⟩
  obtain ⟨v3, hv3⟩ : ∃ v3, r.boot = v3 := ⟨_, rfl⟩
  have hrv : r.v = .agg #[.int .u64 v0, .int .u64 v1, .int .u64 v2, .int .u64 v3, .slice r.A r.n r.c] := by rw [← hv0, ← hv1, ← hv2, ← hv3]; rfl
  rw [hrv]
  have CH := Lib.hid (fun w0 (hb0 : Below w.heap.size w w0) => check_own r.A r.n r.c r.its B w0 (hT.below (hb0.mono hB)) hn)
  have hcE : (0 : Int) ≤ chkE r.its ∧ chkE r.its ≤ 100 := by
    unfold chkE firstBad
    repeat' split
    all_goals omega
  have PU := Lib.hid (fun (w1 : World) (A1 : Option Addr) (c1 : Nat) (he : chkE r.its = 0) (hF : Below w.heap.size w w1) (hT1 : Txt w1 w1.heap.size A1 (chkL r.its).length c1 (chkL r.its)) (hfr : ∀ ad, A1 = some ad → w.heap.size ≤ ad.block) =>
    eput_any (w := w1) (r := ⟨v0, v1, v2, v3, A1, (chkL r.its).length, c1, chkL r.its⟩) ⟨hv0 ▸ hr0, hv1 ▸ hr1, hv2 ▸ hr2, hv3 ▸ hr3, hT1⟩ (Nat.le_refl _) (fun ad ha e => by have := (hft.out _ e).2; have := hfr ad ha; omega) (good_of_chk he) (h.toEX.below hF) hE (by omega) (by omega) (by omega))
  have HH := Lib.hid h
  have HV := Lib.hid (And.intro hv0 (And.intro hv1 (And.intro hv2 hv3)))
  have HG := Lib.hid (fun he => good_of_chk (zs := r.its) he)
  obtain ⟨A, hAe⟩ : ∃ A, r.A = A := ⟨_, rfl⟩
  obtain ⟨n, hne⟩ : ∃ n, r.n = n := ⟨_, rfl⟩
  obtain ⟨c, hce⟩ : ∃ c, r.c = c := ⟨_, rfl⟩
  rw [hAe, hne, hce] at CH ⊢
  obtain ⟨ec, hec⟩ : ∃ ec, chkE r.its = ec := ⟨_, rfl⟩
  obtain ⟨L, hL⟩ : ∃ L, chkL r.its = L := ⟨_, rfl⟩
  unfold ChkO at CH
  rw [hec, hL] at CH
  rw [hec, hL] at PU
  rw [hec, hL] at HG
  rw [hec] at hcE
  have HEQ := Lib.hid (And.intro hec hL)
  clear hT hr0 hr1 hr2 hr3 hv0 hv1 hv2 hv3 hrv h hE hO hAe hne hce hec hL hn
  by_cases he : ec = 0
  · subst he
    have hG := HG.out rfl
    have hnL : 0 < L.length := hG.pos
    have BK := Lib.hid (fun (w3 : World) (S3 : Nat → Prop) (hh : HX k d f w3 base S3 p lim bs) => back_ed hh HH.out.old HH.out.key_ HH.out.small.1 HH.out.small.2.2 HH.out.small.2.1)
    go_enter Tryz.func11, Tryz.ntmps11
    go_wp2_with (first
      | (go_at_call 36; (refine (CH.out _ (boxed _ _)).mono ?_; rintro e w1 ⟨A1, c1, rfl, ht1, hb1, hfr1⟩; have hsb : (w.alloc (.cells #[.int .u64 v0, .int .u64 v1, .int .u64 v2, .int .u64 v3, .slice A n c] 36)).heap.size = w.heap.size + 1 := World.size_alloc _ _; have hbk1 := (Blk.new w 36 #[.int .u64 v0, .int .u64 v1, .int .u64 v2, .int .u64 v3, .slice A n c]).below hb1 (by omega); have c4 := hbk1.cell 4; have f4 := hbk1.frozen 4; have hbk2 : Blk (w1.setCell ⟨w.heap.size, 4, none⟩ (.slice A1 L.length c1)) w.heap.size 36 #[.int .u64 v0, .int .u64 v1, .int .u64 v2, .int .u64 v3, .slice A1 L.length c1] := hbk1.set_ 4 _; have d0 := hbk2.cell 0; have d1 := hbk2.cell 1; have d2 := hbk2.cell 2; have d3 := hbk2.cell 3; have d4 := hbk2.cell 4; have HF2 : Hid (Below w.heap.size w (w1.setCell ⟨w.heap.size, 4, none⟩ (.slice A1 L.length c1))) := Lib.hid (((boxed w _).trans (hb1.mono (by omega))).setCell (p := ⟨w.heap.size, 4, none⟩) (Nat.le_refl _) _); have hnb := txt_nobox ht1 hnL hbk1; have HT2 : Hid (Txt (w1.setCell ⟨w.heap.size, 4, none⟩ (.slice A1 L.length c1)) (w1.setCell ⟨w.heap.size, 4, none⟩ (.slice A1 L.length c1)).heap.size A1 L.length c1 L) := Lib.hid ((ht1.chg (chg_set w1 ⟨w.heap.size, 4, none⟩ (.slice A1 L.length c1)) (Nat.le_refl _) hnb).more (by rw [size_set]; exact Nat.le_refl _)); have PUT := Lib.hid (PU.out _ A1 c1 rfl HF2.out HT2.out (fun ad ha => by have := hfr1 ad ha; omega)); clear hbk1 hbk2 ht1 hb1 hfr1 hnb))
      | (go_at_call 37; (refine PUT.out.mono ?_; rintro e w3 (⟨a, R', ps, rfl, ha1, ha2, hc3, hx3, hE3, hsm3⟩ | ⟨hlm, ⟨v, rfl⟩, hc3, hh3⟩)))
      | (go_at_call 38; (refine (BK.out _ _ hh3).mono ?_; rintro e w4 ⟨rfl, hc4, hd4⟩)))
    all_goals
      have hF3 := (show Fp S w S _ from ⟨Chg.of_below HF2.out (Nat.le_refl _) S, fun _ h => .inl h⟩).next hc3
    · go_ret2
      obtain ⟨e1, e2⟩ := HEQ.out
      obtain ⟨q0, q1, q2, q3⟩ := HV.out
      obtain ⟨h1, h2⟩ := hx3.fin hF3 hft.out hbas
      have hent : entO k ⟨v0, v1, v2, v3, A1, L.length, c1, L⟩ a ps = entO k r.chk a ps := by unfold entO RC.chk; simp only [q0, q1, q2, q3, e2]
      rw [hent] at h2 hE3
      have hml := hG.most
      refine .inr (.inl ⟨e1, a, R', ps, rfl, ha1, ha2, h1, ?_, ?_, ?_⟩)
      · rw [e2]
        exact h2.more (Nat.le_refl _) (by show 0 + 4 * L.length + 1 ≤ 300; omega) (by omega)
      · rw [e2]; exact hE3
      · rw [e2]; exact hsm3
    · go_ret2
      obtain ⟨e1, e2⟩ := HEQ.out
      obtain ⟨h1, h2⟩ := hd4.fin (hF3.next hc4) hft.out hbas
      exact .inr (.inr ⟨e1, by rw [e2]; exact hlm, rfl, h1, h2⟩)
  · have hcf : (ec == 0) = false := by simpa using he
    have HE := Lib.hid he
    clear he PU
    go_enter Tryz.func11, Tryz.ntmps11
    go_wp2_with (go_at_call 36; refine (CH.out _ (boxed _ _)).mono ?_; rintro e w1 ⟨A1, c1, rfl, -, hb1, -⟩)
    go_ret2
    left
    refine ⟨by rw [HEQ.out.1]; exact HE.out, by rw [HEQ.out.1]; rfl, (boxed w _).trans (hb1.mono (by simp))⟩
end

end Go.Proofs.YtobbkhncnokpiaaGreat
