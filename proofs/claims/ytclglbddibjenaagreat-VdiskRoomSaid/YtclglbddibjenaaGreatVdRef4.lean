/-
  LAYER 8: WHAT THE DOCUMENT'S OWN Crash DOES: its contract.
-/
import Derived.Test.YtclglbddibjenaaGreatVdRef3
set_option linter.unusedVariables false
set_option linter.unusedSimpArgs false
set_option maxRecDepth 100000
namespace Go.Proofs.YtclglbddibjenaaGreat
open Go.RowKit

theorem looseF_le {v : VS} {os : OsL} {N : Nat} (hgd : GoodV v os N) (hN : N ≤ 1000) (j : Nat) : looseF (v.fs.take j) ≤ 10000000 := by
  have hf := hgd.few
  have h1 : ∀ j, j ≤ v.fs.length → looseF (v.fs.take j) ≤ j * (N * 10) := by
    intro j
    induction j with
    | zero => intro _; simp [looseF]
    | succ j ih =>
      intro hj
      rw [looseF_next (show j < v.fs.length by omega), Nat.add_mul]
      have := ih (by omega)
      have := (hgd.fs _ (List.getElem_mem (show j < v.fs.length by omega))).few
      omega
  have h3 : ∀ j, j ≤ v.fs.length → looseF (v.fs.take j) ≤ 10000000 := fun j hj => by
    have := h1 j hj
    have h4 : j * (N * 10) ≤ 1000 * 10000 := Nat.mul_le_mul (by omega) (by omega)
    omega
  by_cases hj : j ≤ v.fs.length
  · exact h3 j hj
  · have := h3 v.fs.length (Nat.le_refl _)
    rw [List.take_length] at this
    rw [List.take_of_length_le (by omega)]
    exact this
theorem namedB_next {l : NmL} {k : Nat} {p : ByteArray × Int} (h : l[k]? = some p) (i : Nat) : namedB (l.take (k + 1)) i = (namedB (l.take k) i || (p.2 == (i : Int))) := by
  obtain ⟨hk, e⟩ := List.getElem?_eq_some_iff.1 h
  unfold namedB
  rw [List.take_succ_eq_append_getElem hk, List.any_append, e]
  simp

/-- The document's disk behind a crash, as far as its first files have come. -/
def crashI (v : VS) (ks : List Bool) (i : Nat) : VS := ⟨v.d.crash cfT ks, (v.crash ks).fs.take i, v.room, 0, false, false⟩
structure RcL (w wr : World) (base : Nat) (T Tn : Nat → Prop) (q' dc : Nat) (fv nvc svc ovc : Value) (SD SF : Nat → Prop) (qs : List Nat) (Ss : List (Nat → Prop)) (v : VS) (ks : List Bool) (i : Nat) : Prop where
  below : Below w.heap.size w wr
  rv : RV wr base Tn q' (crashI v ks i) dc fv nvc svc ovc SD SF qs Ss
  tn : ∀ k, Tn k → T k ∨ w.heap.size ≤ k
  qn : w.heap.size ≤ q'
  fn : ∀ g, fv.ownBlock = some g → w.heap.size ≤ g
def RcX (w wr : World) (base : Nat) (T : Nat → Prop) (q' dc : Nat) (nvc svc ovc : Value) (SD : Nat → Prop) (fv : Value) (v : VS) (ks : List Bool) (i : Nat) : Prop := ∃ Tn SF qs Ss, RcL w wr base T Tn q' dc fv nvc svc ovc SD SF qs Ss v ks i

section
variable {w wr w' wb wc : World} {base q' dc N r i : Nat} {T Tn Sn : Nat → Prop} {v : VS} {ks : List Bool} {fv nvc svc ovc v' : Value} {SD SF : Nat → Prop} {qs : List Nat} {Ss : List (Nat → Prop)} {g : FS}
theorem RcL.next (h : RcL w wr base T Tn q' dc fv nvc svc ovc SD SF qs Ss v ks i) (hgi : (v.crash ks).fs[i]? = some g) (hb : Below wr.heap.size wr wb) (hrf : TF base wb Sn r g) (hSn : ∀ k, Sn k → wr.heap.size ≤ k) (hg : wb.grownBy wc fv.ownBlock)
    (hown : wc.ownsRow base 65 1 v' (i + 1) (ptrC qs ++ [.pointer (some ⟨r, 0, none⟩)])) (hat : v'.ownBlock = fv.ownBlock ∨ v'.ownBlock = some wb.heap.size) (hl : i < (v.crash ks).fs.length) :
    RcX w (wc.setCell ⟨q', 1, none⟩ v') base T q' dc nvc svc ovc SD v' v ks (i + 1) := by
  have hlen : (crashI v ks i).fs.length = i := by show ((v.crash ks).fs.take i).length = i; rw [List.length_take]; omega
  have hx : crashI v ks (i + 1) = { crashI v ks i with fs := (crashI v ks i).fs ++ [g] } := by
    unfold crashI
    simp only
    rw [List.take_succ_eq_append_getElem hl]
    rw [List.getElem?_eq_getElem hl] at hgi
    injection hgi with hgi
    rw [hgi]
  obtain ⟨h1, h2⟩ := h.rv.push hb hrf hSn hg (by rw [hlen]; exact hown) hat hx
  have hs := h.below.size
  refine ⟨_, _, _, _, h.below.trans (h1.below hs (fun k _ e => ?_)), h2, fun k hk => ?_, h.qn, fun g hg' => ?_⟩
  · rcases e with e | e
    · exact h.fn k e
    · rw [e]; exact h.qn
  · rcases hk with hk | hk
    · exact h.tn k hk
    · exact .inr (by omega)
  · rcases hat with e | e
    · exact h.fn g (by rw [← e]; exact hg')
    · rw [hg'] at e; injection e with e; subst e
      have := hb.size; omega
theorem RcL.out (h : RcL w wr base T Tn q' dc fv nvc svc ovc SD SF qs Ss v ks i) (hf : ∀ k, T k → base ≤ k ∧ k < w.heap.size) (hbas : base ≤ w.heap.size) (hi : (v.crash ks).fs.length ≤ i) : RXT w T base q' (v.crash ks) wr := by
  have he : crashI v ks i = v.crash ks := by
    unfold crashI
    rw [List.take_of_length_le hi]; rfl
  have hrv := h.rv
  rw [he] at hrv
  have hc := Chg.of_below h.below (Nat.le_refl _) T
  refine ⟨dc, fv, nvc, svc, ovc, SD, SF, qs, Ss, hf, hbas, hc, hrv.mono (fun k hk => ?_) (chg_lt hf hc hbas)⟩
  have := (h.rv.foot k hk).2
  rcases h.tn k hk with e | e
  · exact .inl e
  · exact .inr ⟨e, this⟩
theorem RcL.start {wD : World} {dq : Nat} {nv sv ov : Value} {SD0 : Nat → Prop} (hb : Below w.heap.size w wD) (hrd : RD wD base (grow SD0 w wD) dc (v.d.crash cfT ks) nvc svc ovc) (hT : ∀ k, SD0 k → T k) (hf : ∀ k, T k → base ≤ k ∧ k < w.heap.size) (hbas : base ≤ w.heap.size) :
    RcX w (wD.alloc (.cells (rdiskC dc (.slice none 0 0) (crashI v ks 0)) 48)) base T wD.heap.size dc nvc svc ovc (grow SD0 w wD) (.slice none 0 0) v ks 0 := by
  have hs := hb.size
  have h1 : (wD.alloc (.cells (rdiskC dc (.slice none 0 0) (crashI v ks 0)) 48)).heap.size = wD.heap.size + 1 := by simp
  have hbx : Below wD.heap.size wD (wD.alloc (.cells (rdiskC dc (.slice none 0 0) (crashI v ks 0)) 48)) := (Below.refl _ _).alloc (Nat.le_refl _) _
  refine ⟨(fun k => grow SD0 w wD k ∨ k = wD.heap.size), (fun _ => False), [], [], hb.trans (hbx.mono hs), ⟨fun k hk => ?_, by rw [h1]; omega, Blk.new _ _ _, hrd.below hbx, World.ownsRow_nil _ _ _ _, Pile.nil _ _, .inr rfl, fun g hg => by simp [Value.ownBlock] at hg, fun k hk => .inl hk, fun k hk => hk.elim, fun hk => ?_, fun hk => hk, fun g hg => by simp [Value.ownBlock] at hg, fun g hg => by simp [Value.ownBlock] at hg, fun k _ hk => hk⟩, fun k hk => ?_, hs, fun g hg => by simp [Value.ownBlock] at hg⟩
  · rw [h1]
    rcases hk with hk | hk
    · have := hrd.foot k hk; omega
    · omega
  · have := (hrd.foot _ hk).2; omega
  · rcases hk with hk | hk
    · rcases hk with hk | hk
      · exact .inl (hT k hk)
      · exact .inr hk.1
    · exact .inr (by omega)
theorem RcL.mid (h : RcL w wr base T Tn q' dc fv nvc svc ovc SD SF qs Ss v ks i) (hb : Below wr.heap.size wr wb) (hg : wb.grownBy wc fv.ownBlock) : Below w.heap.size w wc := by
  have hs := h.below.size
  have hs2 := hb.size
  exact (h.below.trans (hb.mono hs)).trans ((Chg.of_grown hg).below (by omega) (fun k _ e => h.fn k e))
theorem RcL.nms {An : Option Addr} {nn cn : Nat} (h : RcL w wr base T Tn q' dc fv (.slice An nn cn) svc ovc SD SF qs Ss v ks i) : Nms wr wr.heap.size An nn cn (v.d.crash cfT ks).now := by
  obtain ⟨A, c, e, hn⟩ := Nms.of_own h.rv.dir.now
  injection e with e1 e2 e3
  subst e1; subst e3
  rw [e2]
  exact hn
end

set_option maxHeartbeats 4000000 in
theorem rvcrash_any (q base N : Nat) (T : Nat → Prop) (v : VS) (os : OsL) (K : Option Addr) (m d : Nat) (ks : List Bool) (w : World) (h : RX w base T q v) (hg : GoodV v os N) (hN : N ≤ 1000) (hr : Reads w base 1 K m (cellsB ks)) (hmd : m ≤ d) (hdc : d ≤ 9223372036854775807) :
    Calls Tryz.prog 41 #[.pointer (some ⟨q, 0, none⟩), .slice K m d] w fun e w' => ∃ q', e = .returned (.pointer (some ⟨q', 0, none⟩)) ∧ Hid (RXT w T base q' (v.crash ks) w') := by
  obtain ⟨dq, fv, nv, sv, ov, SD, SF, qs, Ss, hv⟩ := h
  obtain ⟨i0, hi, hz0, hz1, hz2⟩ := info_parts rptrInfo
  obtain ⟨Ao, co, rfl, -, -⟩ := own_form hv.dir.pend
  obtain ⟨po, hpo⟩ : ∃ po, po = v.d.ops.length := ⟨_, rfl⟩
  rw [← hpo] at hv
  obtain ⟨Af, cf, rfl, hfc, hfm⟩ := own_form hv.row
  obtain ⟨n, hn⟩ : ∃ n, n = v.fs.length := ⟨_, rfl⟩
  rw [← hn] at hv hfc
  have hn9 : n ≤ 1000 := by have := hg.few; omega
  have hp9 : po ≤ 1000 := by have := hg.d.safe; omega
  have HC := Lib.hid (fun (wz : World) (hb : Below w.heap.size w wz) => (show wz.cell? ⟨q, 0, none⟩ = some (.pointer (some ⟨dq, 0, none⟩)) ∧ wz.cell? ⟨q, 1, none⟩ = some (.slice Af n cf) ∧ wz.cell? ⟨q, 2, none⟩ = some (.int .i64 v.room) ∧ wz.cell? ⟨dq, 2, none⟩ = some (.slice Ao po co) from ⟨(hv.below hb).cells.c0, (hv.below hb).cells.c1, (hv.below hb).cells.c2, ((hv.below hb).dir.cells (Below.refl _ _)).2.2.1⟩))
  have DC := Lib.hid (fun (wz : World) (hb : Below w.heap.size w wz) => rdcrash_any dq K m d ks base base N SD v.d nv sv _ wz (hv.below hb).dir (hr.below (hb.mono hv.bas)) (by have := hb.size; have := hv.bas; omega) hmd hdc hg.d (by omega))
  have hbd : Below w.heap.size w w.drew := below_drewn (Below.refl _ _) 1
  have k0 := HC.out _ hbd
  obtain ⟨nn, hnn⟩ : ∃ nn, nn = (v.d.crash cfT ks).now.length := ⟨_, rfl⟩
  obtain ⟨rm, hrm⟩ : ∃ rm, rm = v.room := ⟨_, rfl⟩
  have HST := Lib.hid (fun (wD : World) (dc : Nat) (nvc svc ovc : Value) (hb : Below w.heap.size w wD) (hrd : RD wD base (grow SD w wD) dc (v.d.crash cfT ks) nvc svc ovc) => (show ∃ An cn, nvc = .slice An nn cn ∧ (nn ≤ cn ∧ cn ≤ maxLen) ∧ Hid (RcX w (wD.alloc (.cells #[.pointer (some ⟨dc, 0, none⟩), .slice none 0 0, .int .i64 rm, .int .i64 0, .bool false, .bool false] 48)) base T wD.heap.size dc nvc svc ovc (grow SD w wD) (.slice none 0 0) v ks 0) by
    obtain ⟨An, cn, rfl, hl1, hl2⟩ := own_form hrd.now
    refine ⟨An, cn, by rw [hnn], ⟨by rw [hnn]; exact hl1, hl2⟩, Lib.hid ?_⟩
    have := RcL.start (dq := dq) (nv := nv) (sv := sv) (ov := nv) hb hrd hv.ind hv.foot hv.bas
    rw [hrm]
    exact this))
  have HV := Lib.hid hv
  have HG := Lib.hid hg
  have HR := Lib.hid hr
  have HP := Lib.hid hpo
  have HN := Lib.hid hn
  have HNN := Lib.hid hnn
  rw [← hrm] at HC k0
  clear hv hg hr hpo hn hrm hnn
  go_enter Tryz.func41, Tryz.ntmps41
  go_wp2
  go_region_held3 (fun w' => w'.cell? ⟨q, 0, none⟩ = some (.pointer (some ⟨dq, 0, none⟩)) ∧ w'.cell? ⟨q, 2, none⟩ = some (.int .i64 rm))
    (first | assumption | exact ⟨k0.1, k0.2.2.1⟩)
    (first
      | (go_at_call 78; go_loud (refine (DC.out _ hbd).mono ?_; rintro e wD ⟨dc, nvc, svc, ovc, rfl, hbx, hrd⟩; have hbD := hbd.trans (hbx.mono hbd.size); have kD := HC.out _ hbD; have kk := And.intro kD.1 kD.2.2.1; obtain ⟨An, cn, rfl, hncn, hcx⟩ := HST.out wD dc nvc svc ovc hbD hrd; have HCX := Lib.hid hcx.out; have hbA := hbD.trans (((Below.refl _ wD).alloc (Nat.le_refl _) (.cells #[.pointer (some ⟨dc, 0, none⟩), .slice none 0 0, .int .i64 rm, .int .i64 0, .bool false, .bool false] 48)).mono hbD.size); have kA := HC.out _ hbA; have kA2 := And.intro kA.1 kA.2.2.1; clear hbx hrd hcx)))
  have hnn9 : nn ≤ 9223372036854775807 := by have := hncn.2; unfold maxLen at this; omega
  clear kA2 DC HST hbd k0
  generalize (wD.alloc (.cells #[.pointer (some ⟨dc, 0, none⟩), .slice none 0 0, .int .i64 rm, .int .i64 0, .bool false, .bool false] 48)) = wE at *
  obtain ⟨q', hq'⟩ : ∃ q', q' = wD.heap.size := ⟨_, rfl⟩
  rw [← hq'] at HCX ⊢
  obtain ⟨e0, e1, e2, e3⟩ := kA
  obtain ⟨SDc, hSDc⟩ : ∃ SDc, SDc = grow SD w wD := ⟨_, rfl⟩
  rw [← hSDc] at HCX
  clear kk kD hbD hq' hSDc
  go_wp2
  go_loopw [6, 7, 8, 9, 10] (fun at_ i nm k f wr => ∃ j : Nat, j ≤ n ∧ i = .int .i64 j ∧ at_ = .int .i64 ((po + looseF (v.fs.take j) : Nat) : Int) ∧ Hid (∃ fv', RcX w wr base T q' dc (.slice An nn cn) svc ovc SDc fv' v ks j)) (fun _ i _ _ _ _ => n - (intOf i).toNat)
  case atStart => exact ⟨0, Nat.zero_le _, rfl, by simp [looseF], Lib.hid ⟨_, HCX.out⟩⟩
  case round =>
    clear HCX e0 e1 e2 e3
    obtain ⟨j, hj, rfl, rfl, H⟩ := hrel
    obtain ⟨fv', Tn, SF', qs', Ss', hcl⟩ := H.out
    have hcrl : (v.crash ks).fs.length = n := by rw [HN.out]; exact crashF_length _ _ _ _ _
    have hjl2 : (crashI v ks j).fs.length = j := by show ((v.crash ks).fs.take j).length = j; rw [List.length_take]; omega
    have hrow := hcl.rv.row
    rw [hjl2] at hrow
    obtain ⟨Av, cv, rfl, -, -⟩ := own_form hrow
    have c0 := hcl.rv.cells.c0
    have c1 := hcl.rv.cells.c1
    have dz := (hcl.rv.dir.cells (Below.refl _ _)).1
    obtain ⟨o0, o1, -, -⟩ := HC.out wr hcl.below
    by_cases hlt : j < n
    · have hjl : j < v.fs.length := by rw [← HN.out]; exact hlt
      obtain ⟨fj, hfj⟩ : ∃ fj, v.fs[j]? = some fj := ⟨_, List.getElem?_eq_getElem hjl⟩
      have hge : v.fs[j] = fj := by rw [List.getElem?_eq_getElem hjl] at hfj; injection hfj
      obtain ⟨g, nf, c', r, S, a, b, d', xs, hve, hnf, hkn, hnc, ck, -, -, hrf⟩ := HV.out.elem hfj
      have hgl := (HV.out.row.lt g (by rw [hve]; rfl)).2
      injection hve with hv1 hv2 hv3
      subst hv1
      obtain ⟨Ap, cp, hov, -, -⟩ := own_form hrf.pend
      subst hov
      obtain ⟨pn, hpn⟩ : ∃ pn, pn = fj.ops.length := ⟨_, rfl⟩
      have r2 : w.cell? ⟨r, 2, none⟩ = some (.slice Ap pn cp) := by rw [hpn]; exact hrf.blk.cell 2
      have hrl := (hrf.foot r hrf.inp).2
      have hql := (HV.out.foot q HV.out.inq).2
      have hqn := hcl.qn
      have x1 : ¬ q = q' := by omega
      have x2 : ¬ g = q' := by omega
      have x3 : ¬ r = q' := by omega
      have HE := Lib.hid (fun (wz : World) (hb : Below w.heap.size w wz) => (show wz.cell? ⟨q, 1, none⟩ = some (.slice (some ⟨g, 0, none⟩) n cf) ∧ wz.cell? ⟨g, j, none⟩ = some (.pointer (some ⟨r, 0, none⟩)) ∧ wz.cell? ⟨r, 2, none⟩ = some (.slice Ap pn cp) from ⟨(HC.out wz hb).2.1, by rw [hb.cell (p := ⟨g, j, none⟩) hgl]; exact ck, by rw [hb.cell (p := ⟨r, 2, none⟩) hrl]; exact r2⟩))
      have hnx := looseF_next hjl
      rw [hge, ← hpn] at hnx
      have hu := looseF_le HG.out hN j
      have hu2 := looseF_le HG.out hN (j + 1)
      obtain ⟨s0, hs0⟩ : ∃ s0, s0 = po + looseF (v.fs.take j) := ⟨_, rfl⟩
      rw [← hs0]
      have HX := Lib.hid (show po + looseF (v.fs.take (j + 1)) = s0 + pn by rw [hnx, hs0]; omega)
      have hs9 : s0 ≤ 10001000 := by omega
      have hp9' : pn ≤ 10000000 := by omega
      have hlti : (j : Int) < (n : Int) := by omega
      have n1 : IntKind.i64.wrap ((s0 : Int) + (pn : Int)) = (s0 : Int) + (pn : Int) := by rw [IntKind.wrap_i64]; omega
      have hgi : (v.crash ks).fs[j]? = some (if namedB (v.d.crash cfT ks).now (0 + j) then fj.crash (ks.drop (v.d.ops.length + looseF (v.fs.take j))) else FS.new) := crashF_get (v.d.crash cfT ks).now ks v.fs 0 v.d.ops.length j fj hfj
      rw [Nat.zero_add, ← HP.out, ← hs0] at hgi
      have HGI := Lib.hid hgi
      have HCRL := Lib.hid hcrl
      have HRF := Lib.hid hrf
      have HNM := Lib.hid hcl.nms
      have HCL := Lib.hid hcl
      have HGF := Lib.hid (HG.out.fs _ (List.mem_of_getElem? hfj))
      have HROW0 := Lib.hid hrow
      have s2 : j + 1 ≤ maxLen := by unfold maxLen; omega
      have s3 : (j + 1) * 8 ≤ 140737488355328 := by omega
      obtain ⟨e4, e5, -⟩ := HE.out wr hcl.below
      clear hge hjl hfj hv2 hv3 hnf hkn hnc hrf hpn hnx hu hu2 hs0 hgi hrow hcl hcrl hjl2 ck r2 hrl hql hqn hgl o1 H
      go_wp2
      go_loop [8, 9] (fun nm i => ∃ k : Nat, k ≤ nn ∧ i = .int .i64 k ∧ nm = .bool (namedB ((v.d.crash cfT ks).now.take k) j)) (fun _ i => nn - (intOf i).toNat)
      case atStart => exact ⟨0, Nat.zero_le _, rfl, rfl⟩
      case round =>
        obtain ⟨k, hk, rfl, rfl⟩ := hrel
        by_cases hlt2 : k < nn
        · obtain ⟨b9, off, pr, rfl, hb9, hp, y0, y1⟩ := HNM.out.at_ hlt2
          have hnx2 := namedB_next hp j
          have hlt3 : (k : Int) < (nn : Int) := by omega
          generalize hnm : namedB ((v.d.crash cfT ks).now.take k) j = nb at hnx2 ⊢
          have HNX := Lib.hid hnx2
          clear hnx2 hp hnm
          cases nb with
          | true =>
            go_wp2
            go_round
            case rel => exact ⟨k + 1, by omega, by go_num, by rw [HNX.out]; rfl⟩
            case measure => simp [intOf]; omega
          | false =>
            generalize pr.2 = z at y1 HNX
            go_wp2
            go_round
            case rel => exact ⟨k + 1, by omega, by go_num, by rw [HNX.out]; rfl⟩
            case measure => simp [intOf]; omega
        · obtain rfl : k = nn := by omega
          have hlt3 : ¬ (k : Int) < (k : Int) := by omega
          rw [List.take_of_length_le (by rw [HNN.out]; omega)]
          cases hnm : namedB (v.d.crash cfT ks).now j with
          | true =>
            have hgi := HGI.out
            rw [hnm, if_pos rfl] at hgi
            have HGI2 := Lib.hid hgi
            have hbx : Below wr.heap.size wr (wr.alloc (.cells #[.slice none 0 0, .slice none 0 0, .slice none 0 0] 64)) := (Below.refl _ _).alloc (Nat.le_refl _) _
            have CRF := Lib.hid (rcrashF_any r s0 (by omega) K m d ks base base _ S _ a b _ xs _ ((HRF.out.below HCL.out.below).below hbx) ((HR.out.below (HCL.out.below.mono HV.out.bas)).below (hbx.mono HCL.out.rv.bas)) (by have := HCL.out.rv.bas; simp; omega) hmd hdc HGF.out (by omega))
            obtain ⟨b4, b5, -⟩ := HE.out _ (HCL.out.below.trans (hbx.mono HCL.out.below.size))
            clear hgi hnm
            go_wp2_with (first
              | (go_at_call 79; go_loud (refine CRF.out.mono ?_; rintro e wF ⟨pf, a5, b5', c5, xs5, rfl, hbF, hrfF⟩; have HB0 := Lib.hid (show Below wr.heap.size wr wF from hbx.trans (hbF.mono (by simp))); have HROW := Lib.hid (show wF.ownsRow base 65 1 (.slice Av j cv) j (ptrC qs') by have := (HCL.out.rv.below HB0.out).row; rw [show (crashI v ks j).fs.length = j by (show ((v.crash ks).fs.take j).length = j); rw [List.length_take, HCRL.out]; omega] at this; exact this); have HRF2 := Lib.hid hrfF; have f0 := (HCL.out.rv.below HB0.out).cells.c1; obtain ⟨f1, f2, f3⟩ := HE.out _ (HCL.out.below.trans (HB0.out.mono HCL.out.below.size)); clear hbF hrfF))
              | (at_builtin; go_loud (refine wpList_append_any _ rfl _ _ _ rfl base 65 i0 _ 1 8 Tryz.underlying46 hi hz0 hz1 hz2 rfl (Nat.zero_lt_succ 0) (.slice Av j cv) j _ rfl (HROW.out.alloc _) _ _ 1 1 [.pointer (some ⟨pf, 0, none⟩)] rfl (newAt _ _ _ 1 _ rfl (by simp)) (rptr_one _) s2 s3 (by have := HB0.out.size; have := HCL.out.rv.bas; simp at *; omega) ?_; intro v4 w4 hown4 hg4 hat4; obtain ⟨A4, c4, rfl, -, -⟩ := own_form hown4; have hmid := HCL.out.mid (HB0.out.alloc HB0.out.size _) hg4; obtain ⟨m1, m2, m3⟩ := HE.out _ hmid; obtain ⟨m4, m5⟩ : w4.cell? ⟨q', 1, none⟩ = some (.slice Av j cv) ∧ w4.frozen? ⟨q', 1, none⟩ = false := (by have hb := ((HCL.out.rv.below (HB0.out.alloc HB0.out.size _)).blk).chg (Chg.of_grown hg4) (fun e => HCL.out.rv.qr e); exact ⟨hb.cell 1, hb.frozen 1⟩); have H4 := Lib.hid (And.intro hown4 (And.intro hg4 hat4)); clear hown4 hg4 hat4 hmid)))
            go_round
            case rel => exact ⟨j + 1, by omega, by go_num, by rw [HX.out]; go_num, Lib.hid ⟨_, HCL.out.next HGI2.out (HB0.out.alloc HB0.out.size _) ⟨_, _, _, _, HRF2.out.below ((Below.refl _ _).alloc (Nat.le_refl _) _)⟩ (fun k hk => by have := hk.1; simp at this; omega) H4.out.2.1 H4.out.1 H4.out.2.2 (by rw [HCRL.out]; exact hlt)⟩⟩
            case measure => simp [intOf]; omega
          | false =>
            have hgi := HGI.out
            rw [hnm, if_neg (by simp)] at hgi
            have HGI2 := Lib.hid hgi
            have hbx : Below wr.heap.size wr (wr.alloc (.cells #[.slice none 0 0, .slice none 0 0, .slice none 0 0] 64)) := (Below.refl _ _).alloc (Nat.le_refl _) _
            have HB0 := Lib.hid hbx
            have b1 := (HCL.out.rv.below hbx).cells.c1
            have HROW := Lib.hid (show (wr.alloc (.cells #[.slice none 0 0, .slice none 0 0, .slice none 0 0] 64)).ownsRow base 65 1 (.slice Av j cv) j (ptrC qs') from HROW0.out.alloc _)
            clear hgi hnm
            go_wp2_with (first
              | (at_builtin; go_loud (refine wpList_append_any _ rfl _ _ _ rfl base 65 i0 _ 1 8 Tryz.underlying46 hi hz0 hz1 hz2 rfl (Nat.zero_lt_succ 0) (.slice Av j cv) j _ rfl (HROW.out.alloc _) _ _ 1 1 [.pointer (some ⟨wr.heap.size, 0, none⟩)] rfl (newAt _ _ _ 1 _ rfl (by simp)) (rptr_one _) s2 s3 (by have := HB0.out.size; have := HCL.out.rv.bas; simp at *; omega) ?_; intro v4 w4 hown4 hg4 hat4; obtain ⟨A4, c4, rfl, -, -⟩ := own_form hown4; have hmid := HCL.out.mid (HB0.out.alloc HB0.out.size _) hg4; obtain ⟨m1, m2, m3⟩ := HE.out _ hmid; obtain ⟨m4, m5⟩ : w4.cell? ⟨q', 1, none⟩ = some (.slice Av j cv) ∧ w4.frozen? ⟨q', 1, none⟩ = false := (by have hb := ((HCL.out.rv.below (HB0.out.alloc HB0.out.size _)).blk).chg (Chg.of_grown hg4) (fun e => HCL.out.rv.qr e); exact ⟨hb.cell 1, hb.frozen 1⟩); have H4 := Lib.hid (And.intro hown4 (And.intro hg4 hat4)); clear hown4 hg4 hat4 hmid)))
            go_round
            case rel => exact ⟨j + 1, by omega, by go_num, by rw [HX.out]; go_num, Lib.hid ⟨_, HCL.out.next (Sn := fun k => k = wr.heap.size) HGI2.out (HB0.out.alloc HB0.out.size _) ⟨_, _, _, _, (RF.new8 wr base HCL.out.rv.bas).below ((Below.refl _ _).alloc (Nat.le_refl _) _)⟩ (fun k hk => by have hk : k = wr.heap.size := hk; omega) H4.out.2.1 H4.out.1 H4.out.2.2 (by rw [HCRL.out]; exact hlt)⟩⟩
            case measure => simp [intOf]; omega
    · obtain rfl : j = n := by omega
      have hlti : ¬ (j : Int) < (j : Int) := by omega
      have HO := Lib.hid (hcl.out HV.out.foot HV.out.bas (by rw [hcrl]; exact Nat.le_refl _))
      clear hcl hrow
      go_wp2
      go_ret
      exact ⟨q', rfl, HO⟩

end Go.Proofs.YtclglbddibjenaaGreat
