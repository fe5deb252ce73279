/-
  LAYER 8: what keeps a disk within its room.
-/
import Derived.Test.YtclglbddibjenaaGreatVdSafeW
set_option linter.unusedVariables false
set_option linter.unusedSimpArgs false
set_option maxRecDepth 100000
namespace Go.Proofs.YtclglbddibjenaaGreat
open Go.RowKit

theorem write_len (s : FS) (a : Nat) (xs : List Int) (h : xs ≠ []) : (s.write a xs).now.length = max s.now.length (a + xs.length) ∧ s.ops.length ≤ (s.write a xs).ops.length := by
  unfold FS.write
  rw [if_neg h]
  constructor
  · show (wrL _ _ _).length = _
    rw [wrL_length (by rw [growL_length]; exact Nat.le_max_right _ _), growL_length]
  · simp only [List.length_append]; omega
theorem trunc_len (s : FS) (n : Nat) : (s.trunc n).now.length = n ∧ s.ops.length ≤ (s.trunc n).ops.length := by
  unfold FS.trunc
  split
  · next e => exact ⟨e.symm, Nat.le_refl _⟩
  · exact ⟨sizeL_length _ _, by simp⟩
theorem looseF_cons (f : FS) (r : List FS) : looseF (f :: r) = f.ops.length + looseF r := by
  have run : ∀ (m : List FS) (n : Nat), m.foldl (fun n f => n + f.ops.length) n = n + looseF m := by
    intro m
    induction m with
    | nil => intro n; simp [looseF]
    | cons z m ih => intro n; unfold looseF; rw [List.foldl_cons, List.foldl_cons, ih, ih (0 + z.ops.length)]; omega
  unfold looseF
  rw [List.foldl_cons, run]
  unfold looseF; omega
theorem looseF_set : ∀ (fs : List FS) (k : Nat) (f g : FS), fs[k]? = some f → looseF (fs.set k g) + f.ops.length = looseF fs + g.ops.length
  | [], k, f, g, h => by simp at h
  | z :: r, 0, f, g, h => by
    simp at h; subst h
    rw [List.set_cons_zero, looseF_cons, looseF_cons]; omega
  | z :: r, k + 1, f, g, h => by
    have := looseF_set r k f g (by simpa using h)
    rw [List.set_cons_succ, looseF_cons, looseF_cons]; omega

section
variable {v : VS} {os : OsL} {N : Nat}
/-- A file has turned. -/
theorem room_put (hg : GoodV v os N) {x : ByteArray} {k : Nat} {f g : FS} (hx : getN v.d.now x = some (k : Int)) (hf : v.fs[k]? = some f) (hu : (v.used : Int) ≤ v.room)
    (hfit : cntN g.now.length ≤ cntN f.now.length ∨ (v.used : Int) - cntN f.now.length + cntN g.now.length ≤ v.room) (ho : f.ops.length ≤ g.ops.length) : ((v.put (k : Int) g).used : Int) ≤ v.room ∧ v.loose ≤ (v.put (k : Int) g).loose := by
  have hk := (List.getElem?_eq_some_iff.1 hf).1
  have h1 := usedL_set (g := g) (fs := v.fs) (i := (k : Int)) (by omega) (by omega) hg.inR hg.uq hx
  rw [fileAt_some hf] at h1
  have e1 : (v.put (k : Int) g).used = usedL (v.fs.set (k : Int).toNat g) v.d.now := rfl
  have e2 : v.used = usedL v.fs v.d.now := rfl
  have h2 := looseF_set v.fs k f g hf
  have e3 : (v.put (k : Int) g).loose = v.d.ops.length + looseF (v.fs.set k g) := by
    show v.d.ops.length + looseF (v.fs.set (k : Int).toNat g) = _
    rw [Int.toNat_natCast]
  have e4 : v.loose = v.d.ops.length + looseF v.fs := rfl
  rw [← e1] at h1
  rw [← e2] at h1
  refine ⟨?_, by omega⟩
  rcases hfit with h | h <;> omega
theorem fits_or {f : FS} {n : Nat} (h : v.fits f n = true) : cntN n ≤ cntN f.now.length ∨ (v.used : Int) - cntN f.now.length + cntN n ≤ v.room := by
  unfold VS.fits at h
  simpa using h

theorem room_act (hg : GoodV v os N) (hc : Calm v) (hu : (v.used : Int) ≤ v.room) (a : Act8) (hk : a.kind = 0 ∨ a.kind = 1 ∨ a.kind = 2 ∨ a.kind = 3 ∨ a.kind = 4 ∨ a.kind = 6) :
    (actV v a).room = v.room ∧ ((actV v a).used : Int) ≤ v.room ∧ (a.kind ≠ 3 → a.kind ≠ 4 → v.loose ≤ (actV v a).loose) := by
  obtain ⟨hs, ht⟩ := hc.go
  unfold actV
  rw [orTick_no hs, orTick_no hs, orTick_no hs, orTick_no hs, orTick_no hs, orTick_no hs, orTick_no hs, ht]
  rcases hk with hk | hk | hk | hk | hk | hk <;> simp only [hk] <;> simp only [show ((1 : Int) = 0) = False by simp, show ((2 : Int) = 0) = False by simp, show ((2 : Int) = 1) = False by simp, show ((3 : Int) = 0) = False by simp, show ((3 : Int) = 1) = False by simp, show ((3 : Int) = 2) = False by simp, show ((4 : Int) = 0) = False by simp, show ((4 : Int) = 1) = False by simp, show ((4 : Int) = 2) = False by simp, show ((4 : Int) = 3) = False by simp, show ((6 : Int) = 0) = False by simp, show ((6 : Int) = 1) = False by simp, show ((6 : Int) = 2) = False by simp, show ((6 : Int) = 3) = False by simp, show ((6 : Int) = 4) = False by simp, show ((6 : Int) = 5) = False by simp, if_true, if_false]
  · unfold VS.create
    split
    · next he =>
      rw [doS_yes he]
      have hsl : ∀ l : NmL, IdsP (InR v.fs.length) l → usedL (v.fs ++ [FS.new]) l = usedL v.fs l := fun l h => usedL_more h
      refine ⟨rfl, ?_, fun _ _ => ?_⟩
      · show ((usedL (v.fs ++ [FS.new]) (didN cfT v.d.now (createO v a.a)) : Nat) : Int) ≤ v.room
        have e : didN cfT v.d.now (createO v a.a) = insN cfT (woN v.d.now a.a) a.a (v.fs.length : Int) := rfl
        rw [e, usedL_ins, fileAt_last, hsl _ (hg.inR.wo a.a)]
        have h1 := usedL_wo v.fs v.d.now a.a
        have h2 : v.used = usedL v.fs v.d.now := rfl
        have h3 : cntN FS.new.now.length = 0 := rfl
        omega
      · show v.d.ops.length + looseF v.fs ≤ (v.d.ops ++ [createO v a.a]).length + looseF (v.fs ++ [FS.new])
        rw [looseF_snoc, List.length_append]; omega
    · exact ⟨rfl, hu, fun _ _ => Nat.le_refl _⟩
  · unfold VS.write
    split
    · next he =>
      cases hgx : getN v.d.now a.a with
      | none => exact ⟨rfl, hu, fun _ _ => Nat.le_refl _⟩
      | some i =>
        obtain ⟨k, f, rfl, -, hvf, hfa, hfg⟩ := hg.at_ hgx
        simp only
        unfold VS.writeE at he
        rw [hgx] at he
        simp only [hfa] at he
        rw [hfa]
        split at he
        · cases he
        · next hr =>
          split at he
          · cases he
          · next hf2 =>
            have hw : f.writeI a.at_ a.bs = f.write a.at_.toNat a.bs := by unfold FS.writeI; rw [if_neg hr]
            rw [hw]
            by_cases hb : a.bs = []
            · have hw2 : f.write a.at_.toNat a.bs = f := by unfold FS.write; rw [if_pos hb]
              rw [hw2]
              have := room_put hg hgx hvf hu (.inl (Nat.le_refl _)) (Nat.le_refl _)
              exact ⟨rfl, this.1, fun _ _ => this.2⟩
            · obtain ⟨e1, e2⟩ := write_len f a.at_.toNat a.bs hb
              have hpos : 0 < a.bs.length := List.length_pos_iff.2 hb
              have hfit : v.fits f (max f.now.length (a.at_.toNat + a.bs.length)) = true := by
                cases hq : v.fits f (max f.now.length (a.at_.toNat + a.bs.length)) with
                | true => rfl
                | false => exact absurd ⟨hpos, hq⟩ hf2
              have := room_put hg hgx hvf hu (by rw [e1]; exact fits_or hfit) e2
              exact ⟨rfl, this.1, fun _ _ => this.2⟩
    · exact ⟨rfl, hu, fun _ _ => Nat.le_refl _⟩
  · unfold VS.trunc
    split
    · next he =>
      cases hgx : getN v.d.now a.a with
      | none => exact ⟨rfl, hu, fun _ _ => Nat.le_refl _⟩
      | some i =>
        obtain ⟨k, f, rfl, -, hvf, hfa, hfg⟩ := hg.at_ hgx
        simp only
        unfold VS.truncE at he
        rw [hgx] at he
        simp only [hfa] at he
        rw [hfa]
        split at he
        · cases he
        · next hr =>
          split at he
          · cases he
          · next hf2 =>
            have hw : f.truncI a.at_ = f.trunc a.at_.toNat := by unfold FS.truncI; rw [if_neg hr]
            rw [hw]
            obtain ⟨e1, e2⟩ := trunc_len f a.at_.toNat
            have hfit : v.fits f a.at_.toNat = true := by
              cases hq : v.fits f a.at_.toNat with
              | true => rfl
              | false => exact absurd hq hf2
            have := room_put hg hgx hvf hu (by rw [e1]; exact fits_or hfit) e2
            exact ⟨rfl, this.1, fun _ _ => this.2⟩
    · exact ⟨rfl, hu, fun _ _ => Nat.le_refl _⟩
  · unfold VS.sync
    cases hgx : getN v.d.now a.a with
    | none => exact ⟨rfl, hu, fun h => absurd rfl h⟩
    | some i =>
      obtain ⟨k, f, rfl, -, hvf, hfa, hfg⟩ := hg.at_ hgx
      simp only
      rw [hfa]
      have hkl := (List.getElem?_eq_some_iff.1 hvf).1
      have h1 := usedL_set (g := f.sync) (fs := v.fs) (i := (k : Int)) (by omega) (by omega) hg.inR hg.uq hgx
      rw [fileAt_some hvf] at h1
      have e1 : (v.put (k : Int) f.sync).used = usedL (v.fs.set (k : Int).toNat f.sync) v.d.now := rfl
      have e2 : v.used = usedL v.fs v.d.now := rfl
      have e3 : f.sync.now.length = f.now.length := rfl
      rw [e3] at h1
      exact ⟨rfl, by omega, fun h => absurd rfl h⟩
  · exact ⟨rfl, hu, fun _ h => absurd rfl h⟩
  · show (VS.name v ⟨2, a.a, ⟨#[]⟩, 0⟩).room = _ ∧ _
    unfold VS.name
    by_cases he : doE v.d.now ⟨2, a.a, ⟨#[]⟩, 0⟩ = 0
    · rw [doS_yes he]
      refine ⟨rfl, ?_, fun _ _ => ?_⟩
      · show ((usedL v.fs (didN cfT v.d.now ⟨2, a.a, ⟨#[]⟩, 0⟩) : Nat) : Int) ≤ v.room
        have h2 : v.used = usedL v.fs v.d.now := rfl
        have h1 : usedL v.fs (didN cfT v.d.now ⟨2, a.a, ⟨#[]⟩, 0⟩) ≤ usedL v.fs v.d.now := by
          unfold didN
          rw [if_neg (by simp)]
          split
          · exact Nat.le_refl _
          · rw [if_neg (by simp)]; exact usedL_wo _ _ _
        omega
      · show v.d.ops.length + looseF v.fs ≤ (v.d.ops ++ [_]).length + looseF v.fs
        rw [List.length_append]; omega
    · rw [doS_no he]
      exact ⟨rfl, hu, fun _ _ => Nat.le_refl _⟩
end

section
variable {w : World} {base p q N : Nat} {T : Nat → Prop} {v : VS}
theorem two_used (h : Two w base T p q v N) (hN : N ≤ 900000) : Calls Tryz.prog 14 #[.pointer (some ⟨p, 0, none⟩)] w fun e w' => e = .returned (.int .i64 v.used) ∧ Below w.heap.size w w' := by
  obtain ⟨S, S2, os, ⟨dp, mb, bn, bs, pv, SD, SF, ps, Ss, hv⟩, hg, -, -, -, -⟩ := h.ex
  exact vused_any (VDT.start hv) hg hN
theorem two_loose (h : Two w base T p q v N) (hN : N ≤ 900000) : Calls Tryz.prog 15 #[.pointer (some ⟨p, 0, none⟩)] w fun e w' => e = .returned (.int .i64 v.loose) ∧ Below w.heap.size w w' := by
  obtain ⟨S, S2, os, ⟨dp, mb, bn, bs, pv, SD, SF, ps, Ss, hv⟩, hg, -, -, -, -⟩ := h.ex
  exact vloose_any (VDT.start hv) hg hN
theorem two_rloose (h : Two w base T p q v N) (hN : N ≤ 1000) : Calls Tryz.prog 13 #[.pointer (some ⟨q, 0, none⟩)] w fun e w' => e = .returned (.int .i64 v.loose) ∧ w = w' := by
  obtain ⟨S, S2, os, -, hg, ⟨dq, fv, nv, sv, ov, SD2, SF2, qs, Ss2, hr⟩, -, -, -⟩ := h.ex
  exact rvloose_any (RVT.start hr) hg hN
theorem two_room (h : Two w base T p q v N) (hc : Calm v) (hu : (v.used : Int) ≤ v.room) (a : Act8) (hk : a.kind = 0 ∨ a.kind = 1 ∨ a.kind = 2 ∨ a.kind = 3 ∨ a.kind = 4 ∨ a.kind = 6) :
    (actV v a).room = v.room ∧ ((actV v a).used : Int) ≤ v.room ∧ (a.kind ≠ 3 → a.kind ≠ 4 → v.loose ≤ (actV v a).loose) := by
  obtain ⟨S, S2, os, -, hg, -, -, -, -⟩ := h.ex
  exact room_act hg hc hu a hk
end

set_option maxHeartbeats 2000000 in
theorem room_law (room : Int) (A : Option Addr) (len cap : Nat) (l : List Act8) (w : World) (hw : (Lit.int .u8 room).wf = true) (hin : InActs8 w A len cap l) :
    Calls Tryz.prog 4 #[.int .u8 room, .slice A len cap] w fun e w' => e = .returned (.bool true) ∧ Below w.heap.size w w' := by
  have hle := hin.le
  have hcap := hin.cap
  have hrb := wf_u8_bd hw
  have n0 : IntKind.i64.wrap room = room := by rw [IntKind.wrap_i64]; omega
  have HIN := Lib.hid hin
  have AW := Lib.hid (awake_any w)
  have NW := Lib.hid (fun (wA : World) (hb : Below w.heap.size w wA) => vnew_any room wA w.heap.size hb.size (by omega) (by omega))
  have RN := Lib.hid (fun (w1 : World) (hb : w.heap.size ≤ w1.heap.size) => rvnew_any room w1 w.heap.size hb)
  have ST := Lib.hid (fun (wA w1 w2 : World) (P q : Nat) (hb : Below w.heap.size w wA) (hx : VXT wA (fun _ => False) w1 w.heap.size P (VS.new room) []) (hn : RNew w1 w.heap.size q (VS.new room) w2) => AtL.start (by omega) hb hx hn)
  have HR0 := Lib.hid (show (VS.new room).room = room ∧ ((VS.new room).used : Int) ≤ room from ⟨by unfold VS.new; simp only; rw [if_neg (by omega)], by show ((0 : Nat) : Int) ≤ room; omega⟩)
  have m1 : True := trivial
  clear hin hw
  go_enter Tryz.func4, Tryz.ntmps4
  go_wp2_with (first
    | (go_at_call 7; clear m1; go_loud (refine AW.out.mono ?_; rintro e wA ⟨rfl, hbA⟩))
    | (go_at_call 8; go_loud (refine (NW.out wA hbA).mono ?_; rintro e w1 ⟨P, rfl, hx⟩; have hs1 := Nat.le_trans hbA.size (VXT.vx hx.out).2.size))
    | (go_at_call 9; go_loud (refine (RN.out w1 hs1).mono ?_; rintro e w2 ⟨q, rfl, hy⟩; have HS := Lib.hid (ST.out wA w1 w2 P q hbA hx.out hy.out); clear hx hy)))
  clear AW NW RN ST hs1 hbA
  go_loopw [5, 6, 7, 8, 9, 10, 11] (fun f r i lo f2 r2 ok wr => ∃ (k p q : Nat) (T : Nat → Prop) (v : VS), k ≤ len ∧ k ≤ 25 ∧ i = .int .i64 k ∧ f = .pointer (some ⟨p, 0, none⟩) ∧ r = .pointer (some ⟨q, 0, none⟩) ∧ Hid (Calm v) ∧ Hid (v.room = room ∧ (v.used : Int) ≤ room) ∧ Hid (AtL w wr p q T v k)) (fun _ _ i _ _ _ _ _ => len - (intOf i).toNat)
  case atStart => exact ⟨0, _, _, _, _, Nat.zero_le _, Nat.zero_le _, rfl, rfl, rfl, Lib.hid ⟨rfl, rfl⟩, HR0, HS⟩
  case round =>
    clear HS HR0
    obtain ⟨k, p, q, T, v, hk, hk20, rfl, rfl, rfl, HCALM, HRM, H⟩ := hrel
    by_cases hlt : k < len ∧ k < 25
    · obtain ⟨hlt, h20⟩ := hlt
      have t1 : (k : Int) < (len : Int) := by omega
      have t2 : (k : Int) < 25 := by omega
      obtain ⟨b, off, a, rfl, hok, v0, v1, v2, v3, v4, v5⟩ := HIN.out.at_ (Below.refl _ _) hlt
      have HY := Lib.hid (fun (w9 : World) (hb : Below w.heap.size w w9) => act_cells v0 v1 v2 v3 v4 v5 hb)
      obtain ⟨y0, y1, y2, y3, y4, y5⟩ := HY.out wr H.out.below
      clear v0 v1 v2 v3 v4 v5
      have LG := Lib.hid (light_any a wr ⟨hok.kind, hok.a, hok.b, hok.at_, ⟨hok.bs.reads.below H.out.below |>.more H.out.below.size, hok.bs.le, hok.bs.cap, hok.bs.wf⟩, ⟨hok.ks.reads.below H.out.below |>.more H.out.below.size, hok.ks.le, hok.ks.cap⟩⟩)
      cases hlb : lightB a with
      | false =>
        rw [hlb] at LG
        clear hlb hok
        go_wp2_with (first
          | (go_at_call 10; (with_reducible refine LG.out.mono ?_); rintro e w2 ⟨rfl, hb2⟩)
          | (go_at_call 7; refine (awake_any _).mono ?_; rintro e w5 ⟨rfl, hb5⟩))
        go_ret
        exact ⟨rfl, (H.out.later hb2).below.trans (hb5.mono (H.out.later hb2).below.size)⟩
      | true =>
        rw [hlb] at LG
        by_cases q0 : a.kind < 0
        · clear hlb hok
          go_wp2_with (first
            | (go_at_call 10; (with_reducible refine LG.out.mono ?_); rintro e w2 ⟨rfl, hb2⟩; obtain ⟨z0, z1, z2, z3, z4, z5⟩ := act_cells y0 y1 y2 y3 y4 y5 hb2)
            | (go_at_call 7; refine (awake_any _).mono ?_; rintro e w5 ⟨rfl, hb5⟩))
          go_ret
          exact ⟨rfl, (H.out.later hb2).below.trans (hb5.mono (H.out.later hb2).below.size)⟩
        · by_cases q4 : 4 < a.kind
          · by_cases q6 : a.kind = 6
            · have hkk : a.kind = 0 ∨ a.kind = 1 ∨ a.kind = 2 ∨ a.kind = 3 ∨ a.kind = 4 ∨ a.kind = 6 := by omega
              have q6b : (a.kind == 6) = true := by simpa using q6
              have hrm := two_room H.out.two HCALM.out (by rw [HRM.out.1]; exact HRM.out.2) a hkk
              have HCA := Lib.hid (HCALM.out.act (a := a) (by omega))
              have HRO := Lib.hid (show (actV v a).room = room ∧ ((actV v a).used : Int) ≤ room from ⟨by rw [hrm.1]; exact HRM.out.1, by rw [← HRM.out.1]; exact hrm.2.1⟩)
              have hul := HRO.out.2
              have hlo := hrm.2.2
              have US := Lib.hid (fun (w9 : World) (p' q' : Nat) (T' : Nat → Prop) (ht : Two w9 w.heap.size T' p' q' (actV v a) (k + 1)) => two_used ht (by omega))
              have LO := Lib.hid (fun (w9 : World) (p' q' : Nat) (T' : Nat → Prop) (ht : Two w9 w.heap.size T' p' q' (actV v a) (k + 1)) => two_loose ht (by omega))
              have RL := Lib.hid (fun (w9 : World) (hb : Below wr.heap.size wr w9) => two_rloose (H.out.two.below hb) (by omega))
              have DO := Lib.hid (fun (w1 : World) (hb : Below wr.heap.size wr w1) => does_any p q w.heap.size k T v a w1 (H.out.two.below hb) (by omega) (ActAt.of hok hlb (H.out.later hb).below))
              have NX := Lib.hid (fun (w1 w2 : World) (e : Ending) (hb : Below wr.heap.size wr w1) (hd : Did w.heap.size T (actV v a) (k + 1) w1 e w2) => H.out.next hb hd)
              obtain ⟨u2, hu2⟩ : ∃ u2 : Int, u2 = ((actV v a).used : Int) := ⟨_, rfl⟩
              obtain ⟨l1, hl1⟩ : ∃ l1 : Int, l1 = (v.loose : Int) := ⟨_, rfl⟩
              obtain ⟨l2, hl2⟩ : ∃ l2 : Int, l2 = ((actV v a).loose : Int) := ⟨_, rfl⟩
              rw [← hu2] at US hul
              rw [← hl2] at LO
              rw [← hl1] at RL
              have hlo2 : l2 < l1 → a.kind = 3 ∨ a.kind = 4 := fun h => by
                rcases Classical.em (a.kind = 3) with e | e
                · exact .inl e
                · rcases Classical.em (a.kind = 4) with e2 | e2
                  · exact .inr e2
                  · have := hlo e e2; omega
              have hul2 : ¬ room < u2 := by omega
              clear hrm hlo hu2 hl1 hl2 hlb hok hkk
              have hll : ¬ l2 < l1 := fun h => by
                rcases hlo2 h with e | e <;> omega
              rw [q6] at y0 LG HY DO
              clear hlo2 q0 q4 q6b
              go_wp2_with (first
                | (go_at_call 10; (with_reducible refine LG.out.mono ?_); rintro e w2 ⟨rfl, hb2⟩; obtain ⟨z0, z1, z2, z3, z4, z5⟩ := act_cells y0 y1 y2 y3 y4 y5 hb2)
                | (go_at_call 13; go_loud (refine (RL.out _ hb2).mono ?_; rintro e w9 ⟨rfl, rfl⟩))
                | (go_at_call 11; go_loud ((with_reducible refine (DO.out _ hb2).mono ?_); rintro e w3 hd; obtain ⟨p', q', T', rfl, hN⟩ := NX.out _ _ _ hb2 hd; have HN := Lib.hid hN; obtain ⟨x0, x1, x2, x3, x4, x5⟩ := HY.out w3 hN.below; have U1 := Lib.hid (US.out _ _ _ _ hN.two); clear hd hN))
                | (go_at_call 14; go_loud ((with_reducible refine U1.out.mono ?_); rintro e w4 ⟨rfl, hb4⟩; have HN4 := Lib.hid (HN.out.later hb4); obtain ⟨x6, x7, x8, x9, x10, x11⟩ := HY.out w4 HN4.out.below; have L1 := Lib.hid (LO.out _ _ _ _ HN4.out.two); clear hb4))
                | (go_at_call 15; go_loud ((with_reducible refine L1.out.mono ?_); rintro e w6 ⟨rfl, hb6⟩; have HN6 := Lib.hid (HN4.out.later hb6); obtain ⟨x12, x13, x14, x15, x16, x17⟩ := HY.out w6 HN6.out.below; clear hb6)))
              go_roundw
              case rel => exact ⟨k + 1, p', q', T', _, by omega, by omega, by go_num, rfl, rfl, HCA, HRO, HN6⟩
              case measure => simp [intOf]; omega
            · have q6b : (a.kind == 6) = false := by simpa using q6
              have q6c : (a.kind != 6) = true := by simpa using q6
              have q6d : decide (a.kind = 6) = false := by simpa using q6
              clear hlb hok
              go_wp2_with (first
            | (go_at_call 10; (with_reducible refine LG.out.mono ?_); rintro e w2 ⟨rfl, hb2⟩; obtain ⟨z0, z1, z2, z3, z4, z5⟩ := act_cells y0 y1 y2 y3 y4 y5 hb2)
            | (go_at_call 7; refine (awake_any _).mono ?_; rintro e w5 ⟨rfl, hb5⟩))
              go_ret
              exact ⟨rfl, (H.out.later hb2).below.trans (hb5.mono (H.out.later hb2).below.size)⟩
          · have hkk : a.kind = 0 ∨ a.kind = 1 ∨ a.kind = 2 ∨ a.kind = 3 ∨ a.kind = 4 ∨ a.kind = 6 := by omega
            have hrm := two_room H.out.two HCALM.out (by rw [HRM.out.1]; exact HRM.out.2) a hkk
            have HCA := Lib.hid (HCALM.out.act (a := a) (by omega))
            have HRO := Lib.hid (show (actV v a).room = room ∧ ((actV v a).used : Int) ≤ room from ⟨by rw [hrm.1]; exact HRM.out.1, by rw [← HRM.out.1]; exact hrm.2.1⟩)
            have hul := HRO.out.2
            have hlo := hrm.2.2
            have US := Lib.hid (fun (w9 : World) (p' q' : Nat) (T' : Nat → Prop) (ht : Two w9 w.heap.size T' p' q' (actV v a) (k + 1)) => two_used ht (by omega))
            have LO := Lib.hid (fun (w9 : World) (p' q' : Nat) (T' : Nat → Prop) (ht : Two w9 w.heap.size T' p' q' (actV v a) (k + 1)) => two_loose ht (by omega))
            have RL := Lib.hid (fun (w9 : World) (hb : Below wr.heap.size wr w9) => two_rloose (H.out.two.below hb) (by omega))
            have DO := Lib.hid (fun (w1 : World) (hb : Below wr.heap.size wr w1) => does_any p q w.heap.size k T v a w1 (H.out.two.below hb) (by omega) (ActAt.of hok hlb (H.out.later hb).below))
            have NX := Lib.hid (fun (w1 w2 : World) (e : Ending) (hb : Below wr.heap.size wr w1) (hd : Did w.heap.size T (actV v a) (k + 1) w1 e w2) => H.out.next hb hd)
            obtain ⟨u2, hu2⟩ : ∃ u2 : Int, u2 = ((actV v a).used : Int) := ⟨_, rfl⟩
            obtain ⟨l1, hl1⟩ : ∃ l1 : Int, l1 = (v.loose : Int) := ⟨_, rfl⟩
            obtain ⟨l2, hl2⟩ : ∃ l2 : Int, l2 = ((actV v a).loose : Int) := ⟨_, rfl⟩
            rw [← hu2] at US hul
            rw [← hl2] at LO
            rw [← hl1] at RL
            have hlo2 : l2 < l1 → a.kind = 3 ∨ a.kind = 4 := fun h => by
              rcases Classical.em (a.kind = 3) with e | e
              · exact .inl e
              · rcases Classical.em (a.kind = 4) with e2 | e2
                · exact .inr e2
                · have := hlo e e2; omega
            have hul2 : ¬ room < u2 := by omega
            clear hrm hlo hu2 hl1 hl2 hlb hok hkk
            by_cases hll : l2 < l1
            · rcases hlo2 hll with e3 | e3
              · have HK3 := Lib.hid e3
                rw [e3] at y0 LG HY DO
                clear e3 q0 q4 hlo2
                go_wp2_with (first
                  | (go_at_call 10; (with_reducible refine LG.out.mono ?_); rintro e w2 ⟨rfl, hb2⟩; obtain ⟨z0, z1, z2, z3, z4, z5⟩ := act_cells y0 y1 y2 y3 y4 y5 hb2)
                  | (go_at_call 13; go_loud (refine (RL.out _ hb2).mono ?_; rintro e w9 ⟨rfl, rfl⟩))
                  | (go_at_call 11; go_loud ((with_reducible refine (DO.out _ hb2).mono ?_); rintro e w3 hd; obtain ⟨p', q', T', rfl, hN⟩ := NX.out _ _ _ hb2 hd; have HN := Lib.hid hN; obtain ⟨x0, x1, x2, x3, x4, x5⟩ := HY.out w3 hN.below; have U1 := Lib.hid (US.out _ _ _ _ hN.two); clear hd hN))
                  | (go_at_call 14; go_loud ((with_reducible refine U1.out.mono ?_); rintro e w4 ⟨rfl, hb4⟩; have HN4 := Lib.hid (HN.out.later hb4); obtain ⟨x6, x7, x8, x9, x10, x11⟩ := HY.out w4 HN4.out.below; have L1 := Lib.hid (LO.out _ _ _ _ HN4.out.two); clear hb4))
                  | (go_at_call 15; go_loud ((with_reducible refine L1.out.mono ?_); rintro e w6 ⟨rfl, hb6⟩; have HN6 := Lib.hid (HN4.out.later hb6); obtain ⟨x12, x13, x14, x15, x16, x17⟩ := HY.out w6 HN6.out.below; clear hb6)))
                go_roundw
                case rel => exact ⟨k + 1, p', q', T', _, by omega, by omega, by go_num, rfl, rfl, HCA, HRO, HN6⟩
                case measure => simp [intOf]; omega
              · have HK3 := Lib.hid e3
                rw [e3] at y0 LG HY DO
                clear e3 q0 q4 hlo2
                go_wp2_with (first
                  | (go_at_call 10; (with_reducible refine LG.out.mono ?_); rintro e w2 ⟨rfl, hb2⟩; obtain ⟨z0, z1, z2, z3, z4, z5⟩ := act_cells y0 y1 y2 y3 y4 y5 hb2)
                  | (go_at_call 13; go_loud (refine (RL.out _ hb2).mono ?_; rintro e w9 ⟨rfl, rfl⟩))
                  | (go_at_call 11; go_loud ((with_reducible refine (DO.out _ hb2).mono ?_); rintro e w3 hd; obtain ⟨p', q', T', rfl, hN⟩ := NX.out _ _ _ hb2 hd; have HN := Lib.hid hN; obtain ⟨x0, x1, x2, x3, x4, x5⟩ := HY.out w3 hN.below; have U1 := Lib.hid (US.out _ _ _ _ hN.two); clear hd hN))
                  | (go_at_call 14; go_loud ((with_reducible refine U1.out.mono ?_); rintro e w4 ⟨rfl, hb4⟩; have HN4 := Lib.hid (HN.out.later hb4); obtain ⟨x6, x7, x8, x9, x10, x11⟩ := HY.out w4 HN4.out.below; have L1 := Lib.hid (LO.out _ _ _ _ HN4.out.two); clear hb4))
                  | (go_at_call 15; go_loud ((with_reducible refine L1.out.mono ?_); rintro e w6 ⟨rfl, hb6⟩; have HN6 := Lib.hid (HN4.out.later hb6); obtain ⟨x12, x13, x14, x15, x16, x17⟩ := HY.out w6 HN6.out.below; clear hb6)))
                go_roundw
                case rel => exact ⟨k + 1, p', q', T', _, by omega, by omega, by go_num, rfl, rfl, HCA, HRO, HN6⟩
                case measure => simp [intOf]; omega
            · clear hlo2
              go_wp2_with (first
                | (go_at_call 10; (with_reducible refine LG.out.mono ?_); rintro e w2 ⟨rfl, hb2⟩; obtain ⟨z0, z1, z2, z3, z4, z5⟩ := act_cells y0 y1 y2 y3 y4 y5 hb2)
                | (go_at_call 13; go_loud (refine (RL.out _ hb2).mono ?_; rintro e w9 ⟨rfl, rfl⟩))
                | (go_at_call 11; go_loud ((with_reducible refine (DO.out _ hb2).mono ?_); rintro e w3 hd; obtain ⟨p', q', T', rfl, hN⟩ := NX.out _ _ _ hb2 hd; have HN := Lib.hid hN; obtain ⟨x0, x1, x2, x3, x4, x5⟩ := HY.out w3 hN.below; have U1 := Lib.hid (US.out _ _ _ _ hN.two); clear hd hN))
                | (go_at_call 14; go_loud ((with_reducible refine U1.out.mono ?_); rintro e w4 ⟨rfl, hb4⟩; have HN4 := Lib.hid (HN.out.later hb4); obtain ⟨x6, x7, x8, x9, x10, x11⟩ := HY.out w4 HN4.out.below; have L1 := Lib.hid (LO.out _ _ _ _ HN4.out.two); clear hb4))
                | (go_at_call 15; go_loud ((with_reducible refine L1.out.mono ?_); rintro e w6 ⟨rfl, hb6⟩; have HN6 := Lib.hid (HN4.out.later hb6); obtain ⟨x12, x13, x14, x15, x16, x17⟩ := HY.out w6 HN6.out.below; clear hb6)))
              go_roundw
              case rel => exact ⟨k + 1, p', q', T', _, by omega, by omega, by go_num, rfl, rfl, HCA, HRO, HN6⟩
              case measure => simp [intOf]; omega
    · have t12 : (¬ (k : Int) < 25 ∧ (k : Int) < (len : Int)) ∨ ¬ (k : Int) < (len : Int) := by omega
      clear hlt
      rcases t12 with ⟨t2, t3⟩ | t3
      all_goals
        go_wp2_with (first
          | (go_at_call 12; go_loud ((with_reducible refine (shows_any p q w.heap.size k T v wr H.out.two (by omega)).mono ?_); rintro e w4 ⟨rfl, hb4⟩; have HN4 := Lib.hid (H.out.later hb4); clear hb4))
          | (go_at_call 7; refine (awake_any _).mono ?_; rintro e w5 ⟨rfl, hb5⟩))
        go_ret
        exact ⟨rfl, HN4.out.below.trans (hb5.mono HN4.out.below.size)⟩

end Go.Proofs.YtclglbddibjenaaGreat
