/-
  LAYER 6: WHAT Truncate AND Write DO: contracts.
-/
import Derived.Test.YtdpoffedmafmhaaFileFn5
import Derived.Test.YtdpoffedmafmhaaFileMath2
set_option linter.unusedVariables false
set_option linter.unusedSimpArgs false
namespace Go.Proofs.Ytdpoffedmafmhaa
open Go.RowKit

theorem CF.openNow {w : World} {base p M : Nat} {S : Nat → Prop} {s : FS} {nv sv pv : Value} (h : CF w base S p s nv sv pv) (hM : s.now.length = M) (h0 : 0 < M) :
    ∃ (g c : Nat) (cur : List Value), nv = .slice (some ⟨g, 0, none⟩) M c ∧ S g ∧ Blk w g 5 cur.toArray ∧ M ≤ c ∧ c ≤ maxLen ∧ cur.length = c * 1 ∧ cur.take (M * 1) = cellsOf .u8 s.now ∧ w.cell? ⟨p, 0, none⟩ = some (.slice (some ⟨g, 0, none⟩) M c) := by
  subst hM
  obtain ⟨A, c, rfl, h1, h2⟩ := own_form h.now
  obtain ⟨g, cur, rfl, h3, h4, h5, h6, h7, h8⟩ := own_open h.now h0
  have c0 := h.blk.cell 0
  simp at c0
  exact ⟨g, c, cur, rfl, h.inn g rfl, h4, h5, h6, h7, h8, c0⟩
theorem chg_grow {w w1 w2 : World} {S T : Nat → Prop} (h1 : Chg S w w1) (h2 : Chg T w1 w2) (hT : ∀ k, T k → S k ∨ w.heap.size ≤ k) : Chg S w w2 := h1.trans h2 (fun k hk ht => by
  rcases hT k ht with h | h
  · exact h
  · omega)

theorem ftrunc_nil (n : Int) (w : World) : Calls Try.prog 19 #[.pointer none, .int .i64 n] w fun e w' => e = .returned (.int .i64 3) ∧ w = w' := by
  go_enter Try.func19, Try.ntmps19
  go_wp2
  go_ret
  exact ⟨rfl, rfl⟩
theorem fwrite_nil (a : Int) (v : Value) (w : World) : Calls Try.prog 18 #[.pointer none, .int .i64 a, v] w fun e w' => e = .returned (.int .i64 3) ∧ w = w' := by
  go_enter Try.func18, Try.ntmps18
  go_wp2
  go_ret
  exact ⟨rfl, rfl⟩

theorem ftrunc_any (p : Nat) (n : Int) (base : Nat) (S : Nat → Prop) (s : FS) (nv sv pv : Value) (w : World) (h : CF w base S p s nv sv pv) (h0 : -9223372036854775808 ≤ n) (h1 : n ≤ 9223372036854775807) (hl : s.now.length ≤ 1048576) (ho : s.ops.length ≤ 1000000) :
    Calls Try.prog 19 #[.pointer (some ⟨p, 0, none⟩), .int .i64 n] w fun e w' => e = .returned (.int .i64 (truncE n)) ∧ CFT base S p (s.truncI n) w w' := by
  have HC := Lib.hid (CFT.same h)
  by_cases hn : n < 0
  · have e1 : truncE n = 1 := by unfold truncE; rw [if_pos (.inl hn)]
    have e2 : s.truncI n = s := by unfold FS.truncI; rw [if_pos (.inl hn)]
    rw [e1, e2]
    clear h e1 e2
    go_enter Try.func19, Try.ntmps19
    go_wp2
    go_ret
    exact ⟨rfl, HC.out⟩
  · by_cases hm : 1048576 < n
    · have e1 : truncE n = 1 := by unfold truncE; rw [if_pos (.inr hm)]
      have e2 : s.truncI n = s := by unfold FS.truncI; rw [if_pos (.inr hm)]
      rw [e1, e2]
      clear h e1 e2
      go_enter Try.func19, Try.ntmps19
      go_wp2
      go_ret
      exact ⟨rfl, HC.out⟩
    · obtain ⟨k, rfl⟩ : ∃ k : Nat, n = k := ⟨n.toNat, by omega⟩
      have e1 : truncE k = 0 := by unfold truncE; rw [if_neg (by omega)]
      have e2 : s.truncI k = s.trunc k := by unfold FS.truncI; rw [if_neg (by omega)]; rfl
      rw [e1, e2]
      have RS := Lib.hid (resize_any p k base S s nv sv pv w h (by omega) hl ho)
      clear h e1 e2
      go_enter Try.func19, Try.ntmps19
      go_wp2_with (go_at_call 29; refine RS.out.mono ?_; rintro e w1 ⟨rfl, hx⟩; have HX := Lib.hid hx; clear hx)
      go_ret
      exact ⟨rfl, HX.out⟩

set_option maxHeartbeats 2000000 in
theorem fwrite_nat (p a : Nat) (Ab : Option Addr) (m cb : Nat) (bs : List Int) (B base : Nat) (S : Nat → Prop) (s : FS) (nv sv pv : Value) (w : World) (h : CF w base S p s nv sv pv) (hr : Reads w B 1 Ab m (cellsOf .u8 bs)) (hB : B ≤ w.heap.size) (hne : ∀ ad, Ab = some ad → ¬ S ad.block) (hmc : m ≤ cb) (hcb : cb ≤ 9223372036854775807)
    (hm0 : 0 < m) (ham : a + m ≤ 1048576) (hl : s.now.length ≤ 1048576) (ho : s.ops.length ≤ 900000) :
    Calls Try.prog 18 #[.pointer (some ⟨p, 0, none⟩), .int .i64 a, .slice Ab m cb] w fun e w' => e = .returned (.int .i64 0) ∧ CFT base S p (s.write a bs) w w' := by
  obtain ⟨A, c, rfl, hc1, hc2⟩ := own_form h.now
  have hbm := hr.len
  obtain ⟨L1, hL1⟩ : ∃ L1, L1 = growL s.now (a + m) := ⟨_, rfl⟩
  obtain ⟨O, hO⟩ : ∃ O, O = s.ops ++ growO s.now (a + m) := ⟨_, rfl⟩
  obtain ⟨L, hL⟩ : ∃ L, L = wrL L1 a bs := ⟨_, rfl⟩
  obtain ⟨W, hW⟩ : ∃ W, W = wrO a bs L := ⟨_, rfl⟩
  obtain ⟨M, hM⟩ : ∃ M, M = max s.now.length (a + m) := ⟨_, rfl⟩
  obtain ⟨K, hK⟩ : ∃ K, K = pcN (a % 64) m := ⟨_, rfl⟩
  obtain ⟨Sa, hSa⟩ : ∃ Sa, Sa = a / 64 := ⟨_, rfl⟩
  have hL1l : L1.length = M := by rw [hL1, growL_length, hM]
  have hLl : L.length = M := by rw [hL, wrL_length (by rw [hL1l, hbm]; omega), hL1l]
  have hWl : W.length = K := by rw [hW, wrO_length, hK, hbm]
  have hWk : ∀ k, k < K → W[k]? = some ⟨false, Sa + k, secL L ((Sa + k : Nat) : Int)⟩ := fun k hk => by
    rw [hW, hSa]; unfold wrO
    simp [hbm, ← hK, hk]
  have hst : s.write a bs = ⟨L, s.safe, O ++ W⟩ := by
    unfold FS.write
    rw [if_neg (by intro e; rw [e] at hbm; simp at hbm; omega), hbm, ← hL1, ← hL, ← hO, ← hW]
  rw [hst]
  have hK2 : K ≤ 16400 := by have := pcN_le (a % 64) m (by omega); omega
  have hOl : O.length ≤ 900001 := by rw [hO, List.length_append]; have := growO_length s.now (a + m); omega
  have RS := resize_any p M base S s _ sv pv w h (by omega) hl (by omega)
  rw [hM, trunc_max, ← hL1, ← hO, ← hM] at RS
  have c0 := h.blk.cell 0
  simp at c0
  obtain ⟨m0, hm0'⟩ : ∃ m0, m0 = s.now.length := ⟨_, rfl⟩
  rw [← hm0'] at c0 hM hl
  clear hm0'
  have HRB := Lib.hid (fun (w' : World) (hc : Chg S w w') => hr.chg hc hB (fun _ ad e hs => hne ad e hs))
  have PC := Lib.hid (fun (w2 : World) (hc : Chg S w w2) => by
    have := pieces_nat a Ab m cb bs B w2 (HRB.out w2 hc) (by have := hc.size; omega) hmc hcb (by omega) (by omega)
    rw [← hK, ← hSa] at this
    exact this)
  have n7 : (if (m0 : Int) < (a : Int) + (m : Int) then (a : Int) + (m : Int) else (m0 : Int)) = (M : Int) := by split <;> omega
  have HN := Lib.hid (show (cellsOf .u8 bs).length = m by rw [cellsOf_length, hbm])
  have HMN := Lib.hid (show m = Nat.min m (M - a) by show m = min m (M - a); omega)
  have HBA := Lib.hid (And.intro h.foot h.bas)
  have HL := Lib.hid hL
  have HL1 := Lib.hid hL1l
  have HWL := Lib.hid hWl
  have HWK := Lib.hid hWk
  have HRS := Lib.hid RS
  have HLL := Lib.hid hLl
  have aM : a < M := by omega
  have hSa6 : Sa ≤ 16384 := by omega
  have HMX := Lib.hid (show M ≤ 1048576 ∧ a + m ≤ M by omega)
  have HBM := Lib.hid hbm
  have x1 : ¬ (m : Int) = 0 := by omega
  have x2 : (a : Int) ≤ 1048576 - (m : Int) := by omega
  have x3 : (a : Int) ≤ (M : Int) := by omega
  clear hne hr hL hL1 hO hW hK hSa hM hst hWl hWk RS hLl hL1l hbm h
  go_enter Try.func18, Try.ntmps18
  go_wp2_with (first
    | (go_at_call 17; refine (flen_any p m0 _ c w c0).mono ?_; rintro e w1 ⟨rfl, rfl⟩)
    | (go_at_call 29; go_loud (refine HRS.out.mono ?_; rintro e w1 ⟨rfl, hch1, nv1, sv1, pv1, hcf1⟩; obtain ⟨g1, c1, cur1, rfl, hsg1, hbk1, hd1, hd2, hd3, hd4, d0⟩ := hcf1.openNow HL1.out (by omega); have ne1 : ¬ c1 = a := (by omega); have HCF1 := Lib.hid hcf1; have HCH1 := Lib.hid hch1; have HD3 := Lib.hid hd3; have HD4 := Lib.hid hd4; clear hcf1 hch1 hd3 hd4))
    | (show wpList _ _ _ (Oper.mk _ (.call { callee := .builtin .copy, args := _, argTypes := _ }) _ _ _ _ :: _) _ _; go_loud (refine wpList_copy_blk rfl (.tmp 37) (.tmp 38) _ _ rfl 5 Try.underlying26 byteOne _ _ _ _ _ _ rfl rfl g1 a m cur1 5 hbk1 (cellsOf .u8 bs) HN.out HMN.out (fun h0 => ⟨rfl, by obtain ⟨ad, e, _, hc⟩ := (HRB.out w1 HCH1.out).2 h0; exact ⟨ad, e, hc⟩⟩) (by have := HD3.out; omega) (cellsOf_one _ _) ?_; intro w2 HG2 hc2; have HCF2 := Lib.hid (HCF1.out.wrote (a := a) (bs := bs) HL1.out.symm HD3.out HD4.out (by have := HBM.out; omega) HG2.out hc2); have HCH2 := Lib.hid (chg_grow HCH1.out hc2 (fun k e => by subst e; rcases hsg1 with h | h; exact .inl h; exact .inr h.1)); clear HG2 hc2))
    | (go_at_call 30; go_loud (refine (PC.out w2 HCH2.out).mono ?_; rintro e w3 hg; obtain ⟨A3, c3, rfl, hc31, hc32, hp3, hb3⟩ := hg.pcS; clear hg)))
  have hw12 := HCH1.out.size
  have hw23 := hb3.size
  have H0 : WrAt w w3 base S p s w2.heap.size w3.heap.size A3 Sa K 0 L O W := by
    refine ⟨⟨_, _, _, _, by have := HCF2.out.below hb3; rw [← HL.out] at this; simpa [stW] using this, fun j hj => .inl (HCF2.out.foot j hj).2, fun j hj => hj.imp id (fun x => x.1)⟩, hp3, HCH2.out.trans (Chg.of_below hb3 (Nat.le_refl _) S) (fun _ _ h => h)⟩
  have HH0 := Lib.hid H0
  obtain ⟨lo, hlo⟩ : ∃ lo, lo = w2.heap.size := ⟨_, rfl⟩
  obtain ⟨hi, hhi⟩ : ∃ hi, hi = w3.heap.size := ⟨_, rfl⟩
  rw [← hlo, ← hhi] at HH0
  clear H0 hp3 hb3 HCF2 HCH2 HCF1 hlo hhi hbk1 d0 hsg1
  go_loopw [44] (fun i wr => ∃ k : Nat, k ≤ K ∧ i = .int .i64 k ∧ Hid (WrAt w wr base S p s lo hi A3 Sa K k L O W)) (fun i _ => K - (intOf i).toNat)
  case atStart => exact ⟨0, Nat.zero_le _, rfl, HH0⟩
  case round =>
    clear HH0
    obtain ⟨k, hk, rfl, H⟩ := hrel
    by_cases hlt : k < K
    · obtain ⟨Sk, nv, sv2, pv2, hcf, hlo, hgr⟩ := H.out.ex
      obtain ⟨g, u, A', n, c', rfl, hg1, hg2, y0, y1, y2⟩ := H.out.pcs.at_ k hlt
      obtain ⟨x, hx⟩ : ∃ x, x = Sa + k := ⟨_, rfl⟩
      rw [← hx] at y0
      have HW := Lib.hid (HWK.out k hlt)
      rw [← hx] at HW
      have hsz : (stW s L O W k).ops.length ≤ 1000000 := by unfold stW; simp only [List.length_append, List.length_take]; omega
      have HT := Lib.hid (fun (w1 : World) (hb : Below wr.heap.size wr w1) => touched_any p x base Sk (stW s L O W k) nv sv2 pv2 w1 (hcf.below hb) (by omega) (by show L.length ≤ _; rw [HLL.out]; exact HMX.out.1) hsz)
      have HLO := Lib.hid hlo
      have HGR := Lib.hid hgr
      have HX := Lib.hid hx
      clear hcf hlo hgr hx hsz
      go_wp2_with (go_at_call 31; go_loud (refine (HT.out _ ((Below.refl _ _).alloc (Nat.le_refl _) _)).mono ?_; rintro e w4 ⟨rfl, hft⟩; have HFT := Lib.hid hft; clear hft))
      go_roundw
      case rel => exact ⟨k + 1, by omega, by go_num, Lib.hid (H.out.next HW.out HLO.out HGR.out ((Below.refl _ _).alloc (Nat.le_refl _) _) HFT.out)⟩
      case measure => simp [intOf]; omega
    · obtain rfl : k = K := by omega
      go_wp2
      go_ret
      exact ⟨rfl, H.out.done_ HWL.out HBA.out.1 HBA.out.2⟩

end Go.Proofs.Ytdpoffedmafmhaa
