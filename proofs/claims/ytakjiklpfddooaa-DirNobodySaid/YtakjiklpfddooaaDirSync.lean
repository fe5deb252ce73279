/-
  LAYER 7: WHAT Sync DOES: its contract.
-/
import Derived.Test.YtakjiklpfddooaaDirActs
set_option linter.unusedVariables false
set_option linter.unusedSimpArgs false
namespace Go.Proofs.Ytakjiklpfddooaa
open Go.RowKit

/-- At the head of each round: what is safe, with the first k of what is pending done to it. -/
structure SyAt (w wr : World) (base : Nat) (S : Nat → Prop) (p : Nat) (s : DB) (bn bs : Nat) (pv : Value) (k : Nat) : Prop where
  cd : CD wr base S p ⟨s.now, behind s k, s.ops⟩ bn bs pv
  chg : Chg S w wr

theorem norm_get {s : DB} {k : Nat} {o : OpB} (h : s.ops[k]? = some o) : (s.ops.map normO)[k]? = some (normO o) := by rw [List.getElem?_map, h]; rfl

/-- The k-th step, as a round loads it. -/
theorem CD.step_at {w : World} {base p bn bs : Nat} {S : Nat → Prop} {s : DB} {g q c k : Nat} (h : CD w base S p s bn bs (.slice (some ⟨g, 0, none⟩) q c)) {o : OpB} (ho : s.ops[k]? = some o) {n : OpB} (hn : normO o = n) :
    w.cell? ⟨g, k * 4, none⟩ = some (.int .i64 n.kind) ∧ w.cell? ⟨g, k * 4 + 1, none⟩ = some (.string n.a) ∧ w.cell? ⟨g, k * 4 + 2, none⟩ = some (.string n.b) ∧ w.cell? ⟨g, k * 4 + 3, none⟩ = some (.int .i64 n.id) := by
  have hg := norm_get ho
  rw [hn] at hg
  obtain ⟨h0, h1, h2, h3⟩ := opsC_get hg
  obtain ⟨_, _, e, _⟩ := own_form h.pend
  injection e with _ e2 _
  have hp := h.pend
  rw [← e2] at hp
  have c := hp.cells (g := g) rfl
  have pl : ∀ j, (⟨g, 0, none⟩ : Addr).add j = ⟨g, j, none⟩ := fun j => by unfold Addr.add; split <;> simp_all
  have c0 := c _ _ h0
  have c1 := c _ _ h1
  have c2 := c _ _ h2
  have c3 := c _ _ h3
  rw [pl] at c0 c1 c2 c3
  exact ⟨c0, c1, c2, c3⟩

set_option maxHeartbeats 2000000 in
theorem dsync_any (p : Nat) (base N : Nat) (S : Nat → Prop) (s : DB) (bn bs : Nat) (pv : Value) (w : World) (h : CD w base S p s bn bs pv) (hg : GoodD s N) (hN : N ≤ 900000) :
    Calls Try.prog 13 #[.pointer (some ⟨p, 0, none⟩)] w fun e w' => e = .returned (.tuple #[]) ∧ CDT base S p s.sync w w' := by
  obtain ⟨MD, -⟩ := CD.held p base S s bn bs pv w h ⟨#[]⟩ (Nat.zero_le _)
  have MDH := Lib.hid MD
  obtain ⟨Ap, cp, rfl, hqc, hcm⟩ := own_form h.pend
  obtain ⟨q, hq⟩ : ∃ q, q = s.ops.length := ⟨_, rfl⟩
  have hq9 : q ≤ 900000 := by have := hg.safe; omega
  rw [← hq] at h hqc
  obtain ⟨d0, d1, d2, f2⟩ := h.cells (Below.refl _ _)
  have HS := Lib.hid (show SyAt w w base S p s bn bs (.slice Ap q cp) 0 from ⟨h, Chg.refl _ _⟩)
  have HQ := Lib.hid hq
  have HG := Lib.hid hg
  have HF := Lib.hid (And.intro h.foot h.bas)
  clear h hq hg MD
  go_enter Try.func13, Try.ntmps13
  go_wp2_with (go_at_call 27; refine MDH.out.mono ?_; rintro e w9 ⟨rfl, rfl⟩)
  go_loopw [3, 12] (fun _ i wr => ∃ k : Nat, k ≤ q ∧ i = .int .i64 k ∧ Hid (SyAt w wr base S p s bn bs (.slice Ap q cp) k)) (fun _ i _ => q - (intOf i).toNat)
  case atStart => exact ⟨0, Nat.zero_le _, rfl, HS⟩
  case round =>
    clear HS
    obtain ⟨k, hk, rfl, H⟩ := hrel
    by_cases hlt : k < q
    · obtain ⟨o, ho⟩ : ∃ o, s.ops[k]? = some o := ⟨_, List.getElem?_eq_getElem (by rw [← HQ.out]; omega)⟩
      obtain ⟨n, hn⟩ : ∃ n, normO o = n := ⟨_, rfl⟩
      have hok := norm_ok (HG.out.oko o (List.mem_of_getElem? ho))
      rw [hn] at hok
      obtain ⟨g, cap, hv, -⟩ := (H.out.cd.pend_ HQ.out).form (by omega)
      injection hv with hv1 hv2 hv3
      subst hv1
      clear hv2 hv3
      obtain ⟨c0, c1, c2, c3⟩ := H.out.cd.step_at ho hn
      obtain ⟨e0, e1, e2, -⟩ := H.out.cd.cells (Below.refl _ _)
      have hpl := H.out.cd.blk.lt
      have hpn : ¬ p = wr.heap.size := Nat.ne_of_lt hpl
      have kq : (k : Int) < (q : Int) := by omega
      obtain ⟨hb1, hb2⟩ := behind_ok HG.out k
      obtain ⟨kd, x, y, i⟩ := n
      have DO := Lib.hid (fun (wz : World) (hb : Below wr.heap.size wr wz) => do_any ⟨kd, x, y, i⟩ bs (behind s k) wz (H.out.cd.safe.below hb) (by omega) hok hb2)
      have HD := Lib.hid (show didN cfT (behind s k) ⟨kd, x, y, i⟩ = behind s (k + 1) by rw [← hn, did_norm, behind_next ho])
      have HB0 := Lib.hid (show Below wr.heap.size wr (wr.alloc (.cells #[.int .i64 kd, .string x, .string y, .int .i64 i] 66)).drew from below_drewn ((Below.refl _ _).alloc (Nat.le_refl _) _) 1)
      have NX := Lib.hid (fun (wz w' : World) (hb : Below wr.heap.size wr wz) (hm : MapAt w' bs (didN cfT (behind s k) ⟨kd, x, y, i⟩)) (hc : Chg (fun j => j = bs) wz w') =>
        (show SyAt w w' base S p s bn bs (.slice (some ⟨g, 0, none⟩) q cp) (k + 1) from ⟨(H.out.cd.below hb).setSafe (HD.out ▸ hm) hc, (H.out.chg.trans (Chg.of_below hb (Nat.le_refl _) S) (fun _ _ h => h)).trans hc (fun j _ hj => by have hj : j = bs := hj; subst hj; exact H.out.cd.ins)⟩))
      have hbs : ¬ wr.heap.size = bs := by have := H.out.cd.safe.lt; omega
      have KP := Lib.hid (fun (w' : World) (hc : Chg (fun j => j = bs) (wr.alloc (.cells #[.int .i64 kd, .string x, .string y, .int .i64 i] 66)).drew w') =>
        (show w'.cell? ⟨wr.heap.size, 0, none⟩ = some (.int .i64 kd) ∧ w'.cell? ⟨wr.heap.size, 1, none⟩ = some (.string x) ∧ w'.cell? ⟨wr.heap.size, 2, none⟩ = some (.string y) ∧ w'.cell? ⟨wr.heap.size, 3, none⟩ = some (.int .i64 i) ∧ w'.cell? ⟨p, 1, none⟩ = some (.map (some bs)) from by
        obtain ⟨b0, b1, b2, b3⟩ := box4 wr 66 (.int .i64 kd) (.string x) (.string y) (.int .i64 i) (T := fun j => j = bs) hc.drew0 hbs
        have hp := (H.out.cd.below HB0.out).blk.chg hc (fun e => H.out.cd.sp e.symm)
        exact ⟨b0, b1, b2, b3, hp.cell 1⟩))
      have HK := Lib.hid (KP.out _ (Chg.refl _ _))
      clear ho hok hn hb1 hb2
      simp only at c0 c1 c2 c3
      go_wp2
      go_region_held3 (fun w' => w'.cell? ⟨wr.heap.size, 0, none⟩ = some (.int .i64 kd) ∧ w'.cell? ⟨wr.heap.size, 1, none⟩ = some (.string x) ∧ w'.cell? ⟨wr.heap.size, 2, none⟩ = some (.string y) ∧ w'.cell? ⟨wr.heap.size, 3, none⟩ = some (.int .i64 i) ∧ w'.cell? ⟨p, 1, none⟩ = some (.map (some bs)))
        (first | assumption | exact HK.out)
        (first | (go_at_call 28; go_loud (refine (DO.out _ HB0.out).mono ?_; rintro e w3 ⟨rfl, hm, hc⟩; have HN := Lib.hid (NX.out _ _ HB0.out hm hc); have hk3 := KP.out _ hc; clear hm hc)))
      go_wp2
      go_roundw
      case rel => exact ⟨k + 1, by omega, by go_num, HN⟩
      case measure => simp [intOf]; omega
    · obtain rfl : k = q := by omega
      have kq : ¬ (k : Int) < (k : Int) := by omega
      obtain ⟨e0, e1, e2, f2⟩ := H.out.cd.cells (Below.refl _ _)
      have hb : behind s k = s.now := by unfold behind; rw [HG.out.inv, List.take_of_length_le (by rw [← HQ.out]; exact Nat.le_refl _)]
      have HE := Lib.hid (show CDT base S p s.sync w (wr.setCell ⟨p, 2, none⟩ (.slice none 0 0)) by
        have h1 := H.out.cd.clear
        simp only at h1
        rw [hb] at h1
        exact CDT.of (H.out.chg.setCell (.inr H.out.cd.inp) _) h1 (fun _ h => .inl h) HF.out.1 HF.out.2)
      clear hb
      go_wp2
      go_end0
      exact ⟨rfl, HE.out⟩

end Go.Proofs.Ytakjiklpfddooaa
