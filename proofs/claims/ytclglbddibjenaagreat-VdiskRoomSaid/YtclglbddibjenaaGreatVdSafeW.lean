/-
  LAYER 8: the walk of VdiskSafe.
-/
import Derived.Test.YtclglbddibjenaaGreatVdLaw
set_option linter.unusedVariables false
set_option linter.unusedSimpArgs false
set_option maxRecDepth 100000
namespace Go.Proofs.YtclglbddibjenaaGreat
open Go.RowKit

set_option maxHeartbeats 1000000 in
theorem rnames_new (A : Option Addr) (n c B : Nat) (l : NmL) (w : World) (h : Nms w B A n c l) (hB : B ≤ w.heap.size) (hn : n ≤ 1000000) (hok : ∀ q ∈ l, okN q) :
    Calls Tryz.prog 16 #[.slice A n c] w fun e w' => ∃ A c, e = .returned (.slice A n c) ∧ Txt w' w'.heap.size A n c (namesN l) ∧ Below w.heap.size w w' ∧ (0 < n → ∀ b off, A = some ⟨b, off, none⟩ → w.heap.size ≤ b) := by
  obtain ⟨i0, hi, hz0, hz1, hz2⟩ := info_parts strInfo
  have hle := h.le
  have hcap := h.cap
  have H := Lib.hid h
  have HOK := Lib.hid hok
  clear h hok
  go_enter Tryz.func16, Tryz.ntmps16
  go_wp2
  go_loopw [3, 4] (fun v i wr => ∃ (k c' : Nat) (A' : Option Addr), k ≤ n ∧ v = .slice A' k c' ∧ i = .int .i64 k ∧ Hid (TxAt w wr A' k c' l)) (fun _ i _ => n - (intOf i).toNat)
  case atStart => exact ⟨0, 0, none, Nat.zero_le _, rfl, rfl, Lib.hid ⟨by rw [List.take_zero]; exact World.ownsRow_nil _ _ _ _, Below.refl _ _⟩⟩
  case round =>
    obtain ⟨k, c', A', hk, rfl, rfl, O⟩ := hrel
    by_cases hlt : k < n
    · obtain ⟨b, off, p, rfl, hb, hp, c0, -⟩ := (H.out.below (O.out.below.mono hB)).at_ hlt
      have hlti : (k : Int) < (n : Int) := by omega
      have HX := Lib.hid (namesN_next hp)
      have s2 : k + 1 ≤ maxLen := by unfold maxLen; omega
      have s3 : (k + 1) * 16 ≤ 140737488355328 := by omega
      clear hp
      go_wp2_with (at_builtin; go_loud (refine wpList_append_any _ rfl _ _ _ rfl w.heap.size 9 i0 _ 1 16 Tryz.underlying39 hi hz0 hz1 hz2 rfl (Nat.zero_lt_succ 0) (.slice A' k c') k _ rfl (O.out.own.alloc _) _ _ 1 1 [.string p.1] rfl (Reads.new1 _ _ _) (fun u hu => by simp at hu; subst hu; rfl) s2 s3 (by have := O.out.below.size; simp; omega) ?_; intro v1 w1 hown1 hg1 hat1; clear hat1; obtain ⟨A1, c1', rfl, -, -⟩ := own_form hown1; have HO := Lib.hid (show TxAt w w1 A1 (k + 1) c1' l from ⟨by rw [HX.out, cellsT_append]; exact hown1, (O.out.below.alloc O.out.below.size _).grown hg1 (by have := O.out.below.size; simp; omega) (fun g hg => (O.out.own.lt g hg).1)⟩); clear hown1 hg1))
      go_roundw
      case rel => exact ⟨k + 1, c1', A1, by omega, rfl, by go_num, HO⟩
      case measure => simp [intOf]; omega
    · obtain rfl : k = n := by omega
      have hlti : ¬ (k : Int) < (k : Int) := by omega
      have HF := Lib.hid (show 0 < k → ∀ b off, A' = some ⟨b, off, none⟩ → w.heap.size ≤ b from fun h0 b off e => by
        have ho := O.out.own
        obtain ⟨g, cap, hv, -⟩ := ho.form h0
        injection hv with hv1 _ _
        rw [hv1] at e ho
        injection e with e
        injection e with e1 _ _
        subst e1
        exact (ho.lt g rfl).1)
      have HE := Lib.hid (show Txt wr wr.heap.size A' k c' (namesN l) by
        have ho := O.out.own
        rw [List.take_of_length_le (by rw [H.out.len]; exact Nat.le_refl _)] at ho
        obtain ⟨A1, c1, e, h1, h2⟩ := own_form ho
        injection e with e1 _ e3
        subst e1; subst e3
        refine Txt.of_own ho h1 h2 (fun s hs => ?_)
        obtain ⟨q, hq, rfl⟩ := List.mem_map.1 hs
        have := (HOK.out q hq).1
        unfold maxLen; omega)
      go_wp2
      go_ret
      exact ⟨A', c', rfl, HE.out, O.out.below, HF.out⟩

/-! ### unarmed, and synced one by one -/
def Calm (v : VS) : Prop := v.armed = false ∧ v.dead = false
theorem Calm.go {v : VS} (h : Calm v) : v.stops = false ∧ v.tick = v := by
  have hs : v.stops = false := by unfold VS.stops; rw [h.1, h.2]; rfl
  refine ⟨hs, ?_⟩
  unfold VS.tick
  rw [if_neg (by rw [hs]; simp), if_neg (by rw [h.1]; simp)]
theorem Calm.act {v : VS} (h : Calm v) {a : Act8} (hk : a.kind ≠ 7) : Calm (actV v a) := by
  obtain ⟨hs, ht⟩ := h.go
  unfold actV
  rw [orTick_no hs, orTick_no hs, orTick_no hs, orTick_no hs, orTick_no hs, orTick_no hs, orTick_no hs, ht]
  unfold Calm
  split
  · unfold VS.create; split <;> exact h
  · split
    · unfold VS.write; split
      · split <;> exact h
      · exact h
    · split
      · unfold VS.trunc; split
        · split <;> exact h
        · exact h
      · split
        · unfold VS.sync; split <;> exact h
        · split
          · exact h
          · split
            · exact h
            · split
              · exact h
              · first
                | exact ⟨rfl, rfl⟩
                | (split; exact absurd ‹_› hk; exact ⟨rfl, rfl⟩)

/-- The files of the first j names are synced. -/
structure Sy (v v' : VS) (j : Nat) : Prop where
  d : v'.d = v.d
  calm : Calm v'
  old : ∀ (i : Nat) (f : FS), v.fs[i]? = some f → v'.fs[i]? = some f ∨ v'.fs[i]? = some f.sync
  done : ∀ (t : Nat) (pr : ByteArray × Int) (i : Nat) (f : FS), t < j → v.d.now[t]? = some pr → pr.2 = i → v.fs[i]? = some f → v'.fs[i]? = some f.sync
theorem Sy.start {v : VS} (h : Calm v) : Sy v v 0 := ⟨rfl, h, fun i f hf => .inl hf, fun t _ _ _ ht => absurd ht (by omega)⟩
theorem Sy.next {v v' : VS} {j k : Nat} {pr : ByteArray × Int} {f : FS} (h : Sy v v' j) (hp : v.d.now[j]? = some pr) (hg : getN v.d.now pr.1 = some pr.2) (hik : pr.2 = (k : Int)) (hf : v.fs[k]? = some f) :
    orStop v' (v'.syncE pr.1) = 0 ∧ Sy v (orTick v' (v'.tick.sync pr.1)) (j + 1) := by
  obtain ⟨hs, ht⟩ := h.calm.go
  have hg' : getN v'.d.now pr.1 = some (k : Int) := by rw [h.d, hg, hik]
  obtain ⟨f', hf', hfs⟩ : ∃ f', v'.fs[k]? = some f' ∧ f'.sync = f.sync := by
    rcases h.old k f hf with e | e
    · exact ⟨f, e, rfl⟩
    · exact ⟨_, e, rfl⟩
  have hkl := (List.getElem?_eq_some_iff.1 hf').1
  rw [orStop_no hs, orTick_no hs, ht]
  have hsy : v'.sync pr.1 = v'.put (k : Int) f.sync := by
    unfold VS.sync
    rw [hg']
    simp only
    rw [fileAt_some hf', hfs]
  have hset : (v'.put (k : Int) f.sync).fs = v'.fs.set k f.sync := by unfold VS.put; simp
  refine ⟨by unfold VS.syncE hasB; rw [hg']; rfl, ?_⟩
  rw [hsy]
  refine ⟨h.d, h.calm, fun i g hi => ?_, fun t q i g htj hq hqi hi => ?_⟩
  · rw [hset]
    by_cases e : k = i
    · subst e
      rw [hf] at hi; injection hi with hi; subst hi
      exact .inr (by rw [List.getElem?_set_self hkl])
    · rw [List.getElem?_set_ne e]; exact h.old i g hi
  · rw [hset]
    by_cases e : k = i
    · subst e
      rw [hf] at hi; injection hi with hi; subst hi
      rw [List.getElem?_set_self hkl]
    · rw [List.getElem?_set_ne e]
      rcases Nat.lt_succ_iff_lt_or_eq.1 htj with h1 | h1
      · exact h.done t q i g h1 hq hqi hi
      · subst h1
        rw [hp] at hq; injection hq with hq; subst hq
        exact absurd (by omega) e
/-- What the crash leaves. -/
theorem Sy.left {v v' : VS} {n : Nat} (h : Sy v v' n) (hn : v.d.now.length ≤ n) (ks : List Bool) : orStop v' 0 = 0 ∧ orTick v' v'.tick.syncDir = v'.syncDir ∧ (v'.syncDir.crash ks).d.now = v.d.now ∧ (v'.syncDir.crash ks).dead = false ∧
    ∀ (t : Nat) (pr : ByteArray × Int) (k : Nat) (f : FS), v.d.now[t]? = some pr → getN v.d.now pr.1 = some pr.2 → pr.2 = (k : Int) → v.fs[k]? = some f → getN (v'.syncDir.crash ks).d.now pr.1 = some pr.2 ∧ (fileAt (v'.syncDir.crash ks).fs pr.2).now = f.now := by
  obtain ⟨hs, ht⟩ := h.calm.go
  have hd : (v'.syncDir.crash ks).d.now = v.d.now := by
    show (v'.d.sync.crash cfT ks).now = _
    rw [crash_sync, h.d]
  refine ⟨orStop_no hs _, by rw [orTick_no hs, ht], hd, rfl, fun t pr k f hp hg hik hf => ⟨by rw [hd]; exact hg, ?_⟩⟩
  have hlt := (List.getElem?_eq_some_iff.1 hp).1
  have h2 := h.done t pr k f (by omega) hp hik hf
  have := (crash_synced (ks := ks) (x := pr.1) (i := k) (by rw [h.d, hg, hik]) h2).2
  rw [hik]
  exact this

/-- What has come of the crash, as the walk asks it. -/
theorem crashed_disk {w w' : World} {base P N n : Nat} {v vC : VS} (hn : n = v.d.now.length) (hd : vC.d.now = v.d.now) (h : VOut w (fun _ => False) base P vC N w') :
    ∃ dpC, w'.cell? ⟨P, 0, none⟩ = some (.pointer (some ⟨dpC, 0, none⟩)) ∧ (N ≤ 1000 → Calls Tryz.prog 21 #[.pointer (some ⟨dpC, 0, none⟩)] w' fun e w2 => ∃ A c, e = .returned (.slice A n c) ∧ Txt w2 w2.heap.size A n c (namesN v.d.now) ∧ Below w'.heap.size w' w2) ∧ Below w.heap.size w w' := by
  subst hn
  obtain ⟨os, hx, hg⟩ := h
  obtain ⟨⟨dp, mb, bn, bs, pv, SD, SF, ps, Ss, hv⟩, hc⟩ := VXT.vx hx
  refine ⟨dp, hv.cells.c0, fun hN => ?_, hc.below (Nat.le_refl _) (fun _ _ hk => hk.elim)⟩
  have hl := hg.d.now
  have hk := hg.d.okn
  have hm := hv.dir.now
  rw [hd] at hl hk hm
  exact dnames_any dp bn v.d.now w' (hv.dir.cells (Below.refl _ _)).1 hm (by omega) hk

/-- What a crashed disk reads. -/
theorem crash_read {w w5 wz : World} {base P N : Nat} {vC : VS} {x : ByteArray} {i : Int} {l : List Int} (h : VOut w (fun _ => False) base P vC N w5) (hN : N ≤ 900000) (hb : Below w5.heap.size w5 wz) (hd : vC.dead = false) (hg : getN vC.d.now x = some i) (hx : x.size ≤ 200) (hl : (fileAt vC.fs i).now = l) :
    Calls Tryz.prog 22 #[.pointer (some ⟨P, 0, none⟩), .string x, .int .i64 0, .int .i64 1048576] wz fun e w' => ∃ bv, e = .returned (.tuple #[bv, .int .i64 0]) ∧ Gives l wz (.returned bv) w' := by
  obtain ⟨os, hx2, hgd⟩ := h
  obtain ⟨⟨dp, mb, bn, bs, pv, SD, SF, ps, Ss, hv⟩, hc⟩ := VXT.vx hx2
  obtain ⟨k, f, -, -, -, hfa, hfg⟩ := hgd.at_ hg
  have h0 := vread_yes x i 0 1048576 (VDT.start (hv.below hb)) hgd hN hd hx hg (by omega) (by omega) (by omega) (by omega)
  rw [FS.read_all _ (by rw [hfa]; have := hfg.ok.size; omega), hl] at h0
  exact h0
/-- What the document's disk has of a name. -/
theorem doc_get {wz : World} {base q k : Nat} {S2 : Nat → Prop} {v : VS} {x : ByteArray} {f : FS} (h : RX wz base S2 q v) (hg : getN v.d.now x = some (k : Int)) (hf : v.fs[k]? = some f) :
    ∃ r Am cm, Hid (Calls Tryz.prog 24 #[.pointer (some ⟨q, 0, none⟩), .string x] wz fun e w' => e = .returned (.pointer (some ⟨r, 0, none⟩)) ∧ wz = w') ∧ wz.cell? ⟨r, 0, none⟩ = some (.slice Am f.now.length cm) ∧ Hid (Reads wz wz.heap.size 1 Am f.now.length (cellsOf .u8 f.now)) := by
  obtain ⟨dq, fv, nv, sv, ov, SD2, SF2, qs, Ss2, hr⟩ := h
  obtain ⟨r, S9, a9, b8, d9, xs9, hq9, hS9, hrf, -⟩ := hr.file hf
  obtain ⟨Am, cm, rfl, -, -⟩ := own_form hrf.now
  exact ⟨r, Am, cm, Lib.hid (rvget_yes x k r f (RVT.start hr) hg hf hq9), (hrf.cells3 (Below.refl _ _)).1, Lib.hid (hrf.nowR rfl).1⟩

/-- The program's disk, the files of the first j names synced. -/
def SyL (wN wr : World) (base p : Nat) (S : Nat → Prop) (v : VS) (M j : Nat) : Prop := ∃ v' os' S', VX wr base S' p v' os' ∧ GoodV v' os' (M + j) ∧ Sy v v' j ∧ Chg S wN wr ∧ (∀ b, S' b → S b ∨ wN.heap.size ≤ b)
section
variable {wN wr : World} {base p M j n : Nat} {S : Nat → Prop} {v : VS} {os : OsL}
theorem SyL.start (hx : VX wN base S p v os) (hg : GoodV v os M) (hc : Calm v) : SyL wN wN base p S v M 0 := ⟨v, os, S, hx, hg, Sy.start hc, Chg.refl _ _, fun b hb => .inl hb⟩
theorem SyL.chg (h : SyL wN wr base p S v M j) : Chg S wN wr := by obtain ⟨_, _, _, _, _, _, h, _⟩ := h; exact h
theorem SyL.sync {pr : ByteArray × Int} {k : Nat} {f : FS} (h : SyL wN wr base p S v M j) (hN : M + j ≤ 1000) (hp : v.d.now[j]? = some pr) (hg : getN v.d.now pr.1 = some pr.2) (hik : pr.2 = (k : Int)) (hf : v.fs[k]? = some f) (hsz : pr.1.size ≤ 200) :
    Calls Tryz.prog 17 #[.pointer (some ⟨p, 0, none⟩), .string pr.1] wr fun e w' => e = .returned (.int .i64 0) ∧ Hid (SyL wN w' base p S v M (j + 1)) := by
  obtain ⟨v', os', S', hx, hgd, hsy, hc, hsub⟩ := h
  obtain ⟨e1, h1⟩ := hsy.next hp hg hik hf
  have h0 := vsync_any pr.1 hx hgd hN hsz
  rw [e1] at h0
  refine h0.mono ?_
  rintro e w' ⟨rfl, os2, hx2, hg2⟩
  obtain ⟨hv2, c2⟩ := VXT.vx hx2
  have hs := hc.size
  refine ⟨rfl, Lib.hid ⟨_, os2, _, hv2, hg2, h1, hc.trans c2 (fun b hb hS => ?_), fun b hb => ?_⟩⟩
  · rcases hsub b hS with e | e
    · exact e
    · omega
  · rcases hb with hb | hb
    · exact hsub b hb
    · exact .inr (by omega)
theorem SyL.syncDir (h : SyL wN wr base p S v M n) (hN : M + n ≤ 1000) (hn : v.d.now.length ≤ n) :
    Calls Tryz.prog 18 #[.pointer (some ⟨p, 0, none⟩)] wr fun e w' => e = .returned (.int .i64 0) ∧ ∃ v' os' S', Hid (VX w' base S' p v'.syncDir os') ∧ Hid (GoodV v'.syncDir os' (M + n + 1)) ∧ Hid (Sy v v' n) ∧ Hid (Chg S wN w') := by
  obtain ⟨v', os', S', hx, hgd, hsy, hc, hsub⟩ := h
  obtain ⟨e1, e2, -⟩ := hsy.left hn []
  have h0 := vsyncdir_any hx hgd hN
  rw [e1, e2] at h0
  refine h0.mono ?_
  rintro e w' ⟨rfl, os2, hx2, hg2⟩
  obtain ⟨hv2, c2⟩ := VXT.vx hx2
  have hs := hc.size
  refine ⟨rfl, v', os2, _, Lib.hid hv2, Lib.hid hg2, Lib.hid hsy, Lib.hid (hc.trans c2 (fun b hb hS => ?_))⟩
  rcases hsub b hS with e | e
  · exact e
  · omega
end

set_option maxHeartbeats 2000000 in
theorem safe_law (A : Option Addr) (len cap : Nat) (l : List Act8) (K : Option Addr) (m d : Nat) (ks : List Bool) (w : World) (hin : InActs8 w A len cap l) (hk : InBools w K m d ks) :
    Calls Tryz.prog 5 #[.slice A len cap, .slice K m d] w fun e w' => e = .returned (.bool true) ∧ Below w.heap.size w w' := by
  have hle := hin.le
  have hcap := hin.cap
  have hkle := hk.le
  have hkcap := hk.cap
  have HIN := Lib.hid hin
  have HKS := Lib.hid hk
  have AW := Lib.hid (awake_any w)
  have NW := Lib.hid (fun (wA : World) (hb : Below w.heap.size w wA) => vnew_any 100 wA w.heap.size hb.size (by omega) (by omega))
  have RN := Lib.hid (fun (w1 : World) (hb : w.heap.size ≤ w1.heap.size) => rvnew_any 100 w1 w.heap.size hb)
  have ST := Lib.hid (fun (wA w1 w2 : World) (P q : Nat) (hb : Below w.heap.size w wA) (hx : VXT wA (fun _ => False) w1 w.heap.size P (VS.new 100) []) (hn : RNew w1 w.heap.size q (VS.new 100) w2) => AtL.start (by omega) hb hx hn)
  have m1 : True := trivial
  clear hin hk
  by_cases g1 : 300 < m
  · have g2 : (300 : Int) < (m : Int) := by omega
    go_enter Tryz.func5, Tryz.ntmps5
    go_wp2_with (first
      | (go_at_call 7; clear m1; go_loud (refine AW.out.mono ?_; rintro e wA ⟨rfl, hbA⟩))
      | (go_at_call 8; go_loud (refine (NW.out wA hbA).mono ?_; rintro e w1 ⟨P, rfl, hx⟩; have hs1 := Nat.le_trans hbA.size (VXT.vx hx.out).2.size))
      | (go_at_call 9; go_loud (refine (RN.out w1 hs1).mono ?_; rintro e w2 ⟨q, rfl, hy⟩; have HS := Lib.hid (ST.out wA w1 w2 P q hbA hx.out hy.out); clear hx hy))
      | (go_at_call 7; refine (awake_any _).mono ?_; rintro e w5 ⟨rfl, hb5⟩))
    go_ret
    exact ⟨rfl, HS.out.below.trans (hb5.mono HS.out.below.size)⟩
  · have g2 : ¬ (300 : Int) < (m : Int) := by omega
    go_enter Tryz.func5, Tryz.ntmps5
    go_wp2_with (first
      | (go_at_call 7; clear m1; go_loud (refine AW.out.mono ?_; rintro e wA ⟨rfl, hbA⟩))
      | (go_at_call 8; go_loud (refine (NW.out wA hbA).mono ?_; rintro e w1 ⟨P, rfl, hx⟩; have hs1 := Nat.le_trans hbA.size (VXT.vx hx.out).2.size))
      | (go_at_call 9; go_loud (refine (RN.out w1 hs1).mono ?_; rintro e w2 ⟨q, rfl, hy⟩; have HS := Lib.hid (ST.out wA w1 w2 P q hbA hx.out hy.out); clear hx hy)))
    clear AW NW RN ST hs1 hbA
    go_loopw [5, 6, 7, 8, 9, 10] (fun f r i f2 r2 ok wr => ∃ (k p q : Nat) (T : Nat → Prop) (v : VS), k ≤ len ∧ k ≤ 20 ∧ i = .int .i64 k ∧ f = .pointer (some ⟨p, 0, none⟩) ∧ r = .pointer (some ⟨q, 0, none⟩) ∧ Hid (Calm v) ∧ Hid (AtL w wr p q T v k)) (fun _ _ i _ _ _ _ => len - (intOf i).toNat)
    case atStart => exact ⟨0, _, _, _, _, Nat.zero_le _, Nat.zero_le _, rfl, rfl, rfl, Lib.hid ⟨rfl, rfl⟩, HS⟩
    case round =>
      clear HS
      obtain ⟨k, p, q, T, v, hk, hk20, rfl, rfl, rfl, HCALM, H⟩ := hrel
      by_cases hlt : k < len ∧ k < 20
      · obtain ⟨hlt, h20⟩ := hlt
        have t1 : (k : Int) < (len : Int) := by omega
        have t2 : (k : Int) < 20 := by omega
        obtain ⟨b, off, a, rfl, hok, y0, y1, y2, y3, y4, y5⟩ := HIN.out.at_ H.out.below hlt
        have LG := Lib.hid (light_any a wr ⟨hok.kind, hok.a, hok.b, hok.at_, ⟨hok.bs.reads.below H.out.below |>.more H.out.below.size, hok.bs.le, hok.bs.cap, hok.bs.wf⟩, ⟨hok.ks.reads.below H.out.below |>.more H.out.below.size, hok.ks.le, hok.ks.cap⟩⟩)
        cases hlb : lightB a with
        | false =>
          rw [hlb] at LG
          clear hlb hok
          go_wp2_with (first
            | (go_at_call 10; (with_reducible refine LG.out.mono ?_); rintro e w2 ⟨rfl, hb2⟩)
            | (go_at_call 7; refine (awake_any _).mono ?_; rintro e w5 ⟨rfl, hb5⟩))
          go_ret
          exact ⟨rfl, (H.out.later hb2).below.trans (hb5.mono (H.out.later hb2).below.size)⟩
        | true =>
          rw [hlb] at LG
          by_cases hk7 : a.kind = 7
          · rw [hk7] at y0 LG
            clear hlb hok hk7
            go_wp2_with (first
              | (go_at_call 10; (with_reducible refine LG.out.mono ?_); rintro e w2 ⟨rfl, hb2⟩; obtain ⟨z0, z1, z2, z3, z4, z5⟩ := act_cells y0 y1 y2 y3 y4 y5 hb2)
              | (go_at_call 7; refine (awake_any _).mono ?_; rintro e w5 ⟨rfl, hb5⟩))
            go_ret
            exact ⟨rfl, (H.out.later hb2).below.trans (hb5.mono (H.out.later hb2).below.size)⟩
          · have q7 : (a.kind == 7) = false := by simpa using hk7
            have HCA := Lib.hid (HCALM.out.act hk7)
            have DO := Lib.hid (fun (w1 : World) (hb : Below wr.heap.size wr w1) => does_any p q w.heap.size k T v a w1 (H.out.two.below hb) (by omega) (ActAt.of hok hlb (H.out.later hb).below))
            have NX := Lib.hid (fun (w1 w2 : World) (e : Ending) (hb : Below wr.heap.size wr w1) (hd : Did w.heap.size T (actV v a) (k + 1) w1 e w2) => H.out.next hb hd)
            clear hlb hok hk7
            go_wp2_with (first
              | (go_at_call 10; (with_reducible refine LG.out.mono ?_); rintro e w2 ⟨rfl, hb2⟩; obtain ⟨z0, z1, z2, z3, z4, z5⟩ := act_cells y0 y1 y2 y3 y4 y5 hb2)
              | (go_at_call 11; go_loud ((with_reducible refine (DO.out _ hb2).mono ?_); rintro e w3 hd; obtain ⟨p', q', T', rfl, hN⟩ := NX.out _ _ _ hb2 hd; have HN := Lib.hid hN; clear hd hN)))
            go_roundw
            case rel => exact ⟨k + 1, p', q', T', _, by omega, by omega, by go_num, rfl, rfl, HCA, HN⟩
            case measure => simp [intOf]; omega
      · have t12 : (¬ (k : Int) < 20 ∧ (k : Int) < (len : Int)) ∨ ¬ (k : Int) < (len : Int) := by omega
        obtain ⟨S, S2, os, hx, hg, hrx, hdis, hS, hS2⟩ := H.out.two.ex
        have HRX := Lib.hid hrx
        have HVX := Lib.hid hx
        have HG := Lib.hid hg
        have HDIS := Lib.hid hdis
        have HSF := Lib.hid hx.foot
        obtain ⟨dq, fv, nv, sv, ov, SD2, SF2, qs, Ss2, hr⟩ := hrx
        obtain ⟨An, cn, rfl, hNm⟩ := Nms.of_own hr.dir.now
        obtain ⟨n, hn⟩ : ∃ n, n = v.d.now.length := ⟨_, rfl⟩
        have hn9 : n ≤ k := by have := hg.d.now; omega
        rw [← hn] at hr hNm
        have RN := Lib.hid (rnames_new An n cn wr.heap.size v.d.now wr hNm (Nat.le_refl _) (by omega) hg.d.okn)
        have c0 := hr.cells.c0
        have d0 := (hr.dir.cells (Below.refl _ _)).1
        have HNM := Lib.hid hn
        clear hx hg hdis hS hS2 hr hNm hn hlt
        rcases t12 with ⟨t2, t3⟩ | t3
        all_goals
          go_wp2_with (go_at_call 16; go_loud (refine RN.out.mono ?_; rintro e wN ⟨A2, c2, rfl, hT, hbN, hnew⟩; have HT := Lib.hid hT; have HBN := Lib.hid hbN; have HNEW := Lib.hid hnew; clear hT hbN hnew))
          clear c0 d0 RN
          have HTC := Lib.hid (fun (wz : World) (hc : Chg S wN wz) => (show Txt wz wN.heap.size A2 n c2 (namesN v.d.now) from ⟨HT.out.reads.chg hc (Nat.le_refl _) (fun h0 ad e hS => by
            obtain ⟨b, off, e2, -, -⟩ := HT.out.at_ h0
            rw [e2] at e
            injection e with e
            subst e
            have := HNEW.out h0 b off e2
            have hS' : S b := hS
            have := (HSF.out _ hS').2
            omega), HT.out.le, HT.out.cap, HT.out.sz⟩))
          have HBW := Lib.hid (fun (wz : World) (hc : Chg S wN wz) => (show Below w.heap.size w wz from (H.out.below.trans (HBN.out.mono H.out.below.size)).trans (hc.below (by have := H.out.below.size; have := HBN.out.size; omega) (fun b _ hb => (HSF.out b hb).1))))
          go_loopw [12] (fun i wr2 => ∃ j : Nat, j ≤ n ∧ i = .int .i64 j ∧ Hid (SyL wN wr2 w.heap.size p S v k j)) (fun i _ => n - (intOf i).toNat)
          case atStart => exact ⟨0, Nat.zero_le _, rfl, Lib.hid (SyL.start (HVX.out.below' HBN.out) HG.out HCALM.out)⟩
          case round =>
            rename_i wr2
            obtain ⟨j, hj, rfl, H2⟩ := hrel
            by_cases hlt2 : j < n
            · obtain ⟨pr, hp⟩ : ∃ pr, v.d.now[j]? = some pr := ⟨_, List.getElem?_eq_getElem (by rw [← HNM.out]; exact hlt2)⟩
              obtain ⟨b9, off9, rfl, hb9, hc⟩ := (HTC.out _ H2.out.chg).at_ (by omega)
              have y0 := hc j hlt2
              rw [namesN_get hp] at y0
              have hlti : (j : Int) < (n : Int) := by omega
              have hgt := get_rise8 HG.out.d.riseN hp
              obtain ⟨k9, f, hik, -, hvf, hfa, hfg⟩ := HG.out.at_ hgt
              have SY := Lib.hid (H2.out.sync (by omega) hp hgt hik hvf (HG.out.d.okn pr (List.mem_of_getElem? hp)).1)
              clear hp hc hgt hik hvf hfa hfg
              go_wp2_with (go_at_call 17; go_loud (refine SY.out.mono ?_; rintro e w3 ⟨rfl, HN3⟩))
              go_round
              case rel => exact ⟨j + 1, by omega, by go_num, HN3⟩
              case measure => simp [intOf]; omega
            · obtain rfl : j = n := by omega
              have hlti : ¬ (j : Int) < (j : Int) := by omega
              have SD := Lib.hid (H2.out.syncDir (by omega) (by rw [HNM.out]; exact Nat.le_refl _))
              have HCO := HBW
              go_wp2_with (first
                | (go_at_call 18; go_loud (refine SD.out.mono ?_; rintro e w4 ⟨rfl, v', os', S', HX4, HG4, HSY, HC4⟩; have HB4 := Lib.hid (HBW.out _ HC4.out); have CR := Lib.hid (vcrash_any p w.heap.size _ S' v'.syncDir os' K m d ks w4 HX4.out HG4.out (by omega) (HKS.out.reads.below HB4.out) hkle hkcap)))
                | (go_at_call 19; go_loud (refine CR.out.mono ?_; rintro e w5 ⟨P, rfl, hvo⟩; have HVT := hvo; have HVO := Lib.hid (crashed_disk HNM.out (HSY.out.left (by rw [HNM.out]; exact Nat.le_refl _) ks).2.2.1 hvo.out); obtain ⟨dpC, hc0, hdn, hb5⟩ := HVO.out; have HB5 := Lib.hid hb5; have DN := Lib.hid hdn; have HC5 := Lib.hid (HC4.out.trans (Chg.of_below hb5 (Nat.le_refl _) S) (fun _ _ h => h)); clear hvo hdn hb5))
                | (go_at_call 21; go_loud (refine (DN.out (by omega)).mono ?_; rintro e w6 ⟨A6, c6, rfl, hT6, hb6⟩; have HB6 := Lib.hid hb6; have HB56 := Lib.hid (show Below w5.heap.size w5 w6 from hb6); have HT6 := Lib.hid hT6; have HC6 := Lib.hid (HC5.out.trans (Chg.of_below hb6 (Nat.le_refl _) S) (fun _ _ h => h)); clear hT6 hb6))
                | (go_at_call 20; go_loud (refine (texts_same A6 A2 j c6 c2 _ _ _ w6 HT6.out (HTC.out w6 HC6.out)).mono ?_; rintro e w9 ⟨rfl, nq, rfl⟩; have HC7 := Lib.hid (HC6.out.trans (Chg.of_below (below_drewn (Below.refl _ w6) nq) (Nat.le_refl _) S) (fun _ _ h => h)))))
              clear HVO HB6 HT6 hc0
              have HB7 := Lib.hid (below_drewn HB56.out nq)
              have HL := Lib.hid (HSY.out.left (by rw [HNM.out]; exact Nat.le_refl _) ks).2.2.2
              have HRN := Lib.hid (fun (wz : World) (hc : Chg S wN wz) => (show RX wz w.heap.size S2 q v from (HRX.out.below HBN.out).keep hc (fun b hb hb2 => HDIS.out b hb2 hb)))
              have HCZ := Lib.hid (fun (wz : World) (hb : Below w5.heap.size w5 wz) => (show Chg S wN wz from HC5.out.trans (Chg.of_below hb (Nat.le_refl _) S) (fun _ _ h => h)))
              go_wp2
              go_loopw [14, 15, 16] (fun i b e wr3 => ∃ t : Nat, t ≤ j ∧ i = .int .i64 t ∧ Hid (Below w5.heap.size w5 wr3)) (fun i _ _ _ => j - (intOf i).toNat)
              case atStart => exact ⟨0, Nat.zero_le _, rfl, HB7⟩
              case round =>
                obtain ⟨t, ht, rfl, H3⟩ := hrel
                have hcz := HCZ.out _ H3.out
                by_cases hlt3 : t < j
                · obtain ⟨pr, hp⟩ : ∃ pr, v.d.now[t]? = some pr := ⟨_, List.getElem?_eq_getElem (by rw [← HNM.out]; exact hlt3)⟩
                  obtain ⟨b9, off9, rfl, hb9, hc⟩ := (HTC.out _ hcz).at_ (by omega)
                  have y0 := hc t hlt3
                  rw [namesN_get hp] at y0
                  have hlti3 : (t : Int) < (j : Int) := by omega
                  have hgt := get_rise8 HG.out.d.riseN hp
                  obtain ⟨k9, f, hik, -, hvf, hfa, hfg⟩ := HG.out.at_ hgt
                  obtain ⟨hdC, hleft⟩ := HL.out
                  obtain ⟨l1, l2⟩ := hleft t pr k9 f hp hgt hik hvf
                  have RD := Lib.hid (crash_read HVT.out (by omega) H3.out hdC l1 (HG.out.d.okn pr (List.mem_of_getElem? hp)).1 l2)
                  rw [hik] at hgt
                  have DG := Lib.hid (fun (wz : World) (hb : Below w5.heap.size w5 wz) => doc_get (HRN.out wz (HCZ.out wz hb)) hgt hvf)
                  have HAR := Lib.hid hfg.ok.now
                  have hb9w := World.block_lt_of_cell? _ _ y0
                  clear hp hc hgt hik hvf hfa hfg l1 l2 hdC hleft hcz
                  go_wp2_with (first
                    | (go_at_call 22; go_loud (refine RD.out.mono ?_; rintro e w10 ⟨bv, rfl, Ab, cb, hbv, hown, hb10⟩; injection hbv with hbv; subst hbv; have H10 := Lib.hid (H3.out.trans (hb10.mono H3.out.size)); obtain ⟨r, Am, cm, HGT, r0, HRM⟩ := DG.out w10 H10.out; have y2 : w10.cell? ⟨b9, off9 + t, none⟩ = some (.string pr.1) := (hb10.cell (p := ⟨b9, off9 + t, none⟩) hb9w).trans y0; have HRD := Lib.hid (Reads.of_own hown); clear hown hb10))
                    | (go_at_call 24; go_loud (refine HGT.out.mono ?_; rintro e w9 ⟨rfl, rfl⟩))
                    | (go_at_call 23; go_loud (refine (same_yes Ab Am f.now.length f.now.length cb cm _ _ w10 HRD.out HRM.out HAR.out (Lib.hid rfl)).mono ?_; rintro e w9 ⟨rfl, rfl⟩)))
                  go_round
                  case rel => exact ⟨t + 1, by omega, by go_num, H10⟩
                  case measure => simp [intOf]; omega
                · obtain rfl : t = j := by omega
                  have hlti3 : ¬ (t : Int) < (t : Int) := by omega
                  have HBZ := Lib.hid (HBW.out _ hcz)
                  clear hcz
                  go_wp2_with (go_at_call 7; refine (awake_any _).mono ?_; rintro e w5 ⟨rfl, hb5⟩)
                  go_ret
                  exact ⟨rfl, HBZ.out.trans (hb5.mono HBZ.out.size)⟩

end Go.Proofs.YtclglbddibjenaaGreat
