/-
  LAYER 9: Decode OF PACKAGE obj: its contract, for every input.
-/
import Derived.Test.YtbgdaiecmpjcbaaObjBegin
set_option linter.unusedVariables false
set_option linter.unusedSimpArgs false
namespace Go.Proofs.Ytbgdaiecmpjcbaa
open Go.RowKit

/-- No object. -/
abbrev obZ : Value := .agg #[.int .i64 0, .slice none 0 0, .slice none 0 0, .slice none 0 0]

/-- An object by value, whose lists lie in rows of their own. -/
structure ObOwn (w : World) (base : Nat) (A : Option Addr) (n c : Nat) (ws : List Int) (B : Option Addr) (m d : Nat) (rs : List Int) (C : Option Addr) (p q : Nat) (is : List Int) : Prop where
  wo : w.ownsRow base 48 1 (.slice A n c) n (cellsOf .u64 ws)
  ro : w.ownsRow base 5 1 (.slice B m d) m (cellsOf .u8 rs)
  io : w.ownsRow base 48 1 (.slice C p q) p (cellsOf .u64 is)

theorem own_caps {w : World} {base : Nat} {e : TypeId} {size n c : Nat} {A : Option Addr} {xs : List Value} (h : w.ownsRow base e size (.slice A n c) n xs) : n ≤ c ∧ c ≤ 9223372036854775807 := by
  obtain ⟨A1, c1, e1, h1, h2⟩ := own_form h
  injection e1 with _ _ e3
  subst e3
  exact ⟨h1, by unfold maxLen at h2; omega⟩

theorem ObOwn.reads {w : World} {base : Nat} {A : Option Addr} {n c : Nat} {ws : List Int} {B : Option Addr} {m d : Nat} {rs : List Int} {C : Option Addr} {p q : Nat} {is : List Int} (h : ObOwn w base A n c ws B m d rs C p q is) : ObR w w.heap.size A n c ws B m d rs C p q is :=
  ⟨Reads.of_own h.wo, Reads.of_own h.ro, Reads.of_own h.io, own_caps h.wo, own_caps h.ro, own_caps h.io⟩

/-- A call whose first result lies in a variable of several cells, beside two others. -/
theorem results_cell3 {P : Program} {fn : Func} {p u v : Tmp} {ty : TypeId} (h : fn.results = #[.cell p ty, .tmp u, .tmp v]) (tmps : Array Value) (w : World) (g : Nat) (t : TypeId) (cs : Array Value) (fr : Nat × Nat) (d : TypeDesc)
    (hp : tmps.getD p undef = .pointer (some ⟨g, 0, none⟩)) (hg : w.heap[g]? = some (.cells cs t fr))
    (hu : P.underlying ty = some d) (hd : (match d with | .struct _ | .array _ _ => true | _ => false) = true) (hi : (P.info? ty).map (·.size) = some cs.size) :
    (results fn tmps).run P w = .ok (.tuple #[.agg cs, tmps.getD u undef, tmps.getD v undef]) w := by
  have hp' : tmps[p]?.getD undef = .pointer (some ⟨g, 0, none⟩) := by simpa using hp
  simp [results, h, hp', asAddr, run_loadVar_row w g t ty cs fr d hg hu hd hi]

set_option maxHeartbeats 1000000 in
theorem odec_no1 {B : Nat} (A : Option Addr) (n c : Nat) (at_ : Int) (zs : List Int) (w : World) (hr : Reads w B 1 A n (cellsOf .u8 zs)) (hB : B ≤ w.heap.size) (hz : AreB zs) (hl : n ≤ c) (hcap : c ≤ 9223372036854775807) (hn : n ≤ 140737488355328) (h0 : -9223372036854775808 ≤ at_) (h1 : at_ ≤ 4611686018427387904)
    (hno : ∀ j k s, at_ = (j : Nat) → ¬ DecAt zs j k s) :
    Calls Try.prog 21 #[.slice A n c, .int .i64 at_] w fun e w' => e = .returned (.tuple #[obZ, .int .i64 0, .bool false]) ∧ Below w.heap.size w w' := by
  have hb1 : Below w.heap.size w (w.alloc (.cells #[.int .i64 0, .slice none 0 0, .slice none 0 0, .slice none 0 0] 30)) := (Below.refl _ _).alloc (Nat.le_refl _) _
  have BG := Lib.hid (obegin_no A n c at_ zs _ (hr.keep fun p hp => hb1.cell (by omega)) hz hl hcap hn h0 h1 hno)
  clear hr hno
  go_enter Try.func21, Try.ntmps21
  go_wp2_with (go_at_call 35; refine BG.out.mono ?_; rintro e w1 ⟨rfl, rfl⟩)
  refine bodyPost_ret (results_cell3 rfl _ _ w.heap.size 30 _ (0, 0) _ rfl (Blk.new _ _ _) Try.underlying30 rfl (by kernel_rfl)) rfl ?_
  exact ⟨rfl, hb1⟩

set_option maxHeartbeats 1000000 in
theorem odec_no2 {B : Nat} (A : Option Addr) (n c j k s : Nat) (zs : List Int) (w : World) (hr : Reads w B 1 A n (cellsOf .u8 zs)) (hB : B ≤ w.heap.size) (hz : AreB zs) (hl : n ≤ c) (hcap : c ≤ 9223372036854775807) (hn : n ≤ 140737488355328)
    (h : DecAt zs j k s) (hd : decB zs j k s = false) :
    Calls Try.prog 21 #[.slice A n c, .int .i64 j] w fun e w' => e = .returned (.tuple #[obZ, .int .i64 0, .bool false]) ∧ Below w.heap.size w w' := by
  have hlen := hr.len
  have hfit := h.fit
  rw [hlen] at hfit
  have hb1 : Below w.heap.size w (w.alloc (.cells #[.int .i64 0, .slice none 0 0, .slice none 0 0, .slice none 0 0] 30)) := (Below.refl _ _).alloc (Nat.le_refl _) _
  have hr1 : Reads (w.alloc (.cells #[.int .i64 0, .slice none 0 0, .slice none 0 0, .slice none 0 0] 30)) B 1 A n (cellsOf .u8 zs) := hr.keep fun p hp => hb1.cell (by omega)
  have BG := Lib.hid (obegin_yes A n c j k s zs _ hr1 hz hl hcap hn h)
  unfold decB at hd
  rw [hlen] at hd
  obtain ⟨b, hb⟩ : ∃ b, (mayB k s && decide (j + s + padn s 8 ≤ n)) = b := ⟨_, rfl⟩
  rw [hb] at hd BG
  cases b
  · clear hr hr1 h hd hb
    go_enter Try.func21, Try.ntmps21
    go_wp2_with (go_at_call 35; refine BG.out.mono ?_; rintro e w1 ⟨rfl, rfl⟩)
    refine bodyPost_ret (results_cell3 rfl _ _ w.heap.size 30 _ (0, 0) _ rfl (Blk.new _ _ _) Try.underlying30 rfl (by kernel_rfl)) rfl ?_
    exact ⟨rfl, hb1⟩
  · rw [Bool.true_and] at hd
    simp only [Bool.and_eq_true, decide_eq_true_eq] at hb
    have hsub := hr1.sub (lo := j + s) (hi := j + (s + padn s 8)) (cap := c) (by omega) (by omega) hl
    have HA := Lib.hid (align_any s (w.alloc (.cells #[.int .i64 0, .slice none 0 0, .slice none 0 0, .slice none 0 0] 30)) (by omega) (by omega))
    rw [algn_pad] at HA
    have hp7 : padn s 8 ≤ 7 := by have := padn_eight s; omega
    have hb2 := hb.2
    generalize padn s 8 = P at *
    have e : j + (s + P) - (j + s) = P := by omega
    have hP0 : 0 < P := by
      rcases Nat.eq_zero_or_pos P with h0 | h0
      · subst h0; simp [zerB] at hd
      · exact h0
    have hcs : ¬ c = j + s := by omega
    rw [if_neg hcs] at hsub
    obtain ⟨A0, hA0⟩ : ∃ A0, A.map (·.add (j + s)) = A0 := ⟨_, rfl⟩
    rw [hA0] at hsub
    have hd2 : zerB ((zs.drop (j + s)).take (j + (s + P) - (j + s))) = false := by rw [e]; exact hd
    have HF := Lib.hid (fun cc => ofilled_any A0 (j + (s + P) - (j + s)) cc _ _ hsub (by omega))
    rw [hd2] at HF
    have i1 : (j : Int) + s ≤ (j : Int) + ((s + P : Nat) : Int) := by omega
    have i2 : (j : Int) + ((s + P : Nat) : Int) ≤ (c : Int) := by omega
    clear hr hr1 h hd hb hsub hlen e hd2
    go_enter Try.func21, Try.ntmps21
    go_wp2_with (first
      | (go_at_call 35; refine BG.out.mono ?_; rintro e w1 ⟨rfl, rfl⟩)
      | (go_at_call 34; refine HA.out.mono ?_; rintro e w1 ⟨rfl, rfl⟩)
      | (go_at_call 36; refine (HF.out _).mono ?_; rintro e w1 ⟨rfl, rfl⟩))
    refine bodyPost_ret (results_cell3 rfl _ _ w.heap.size 30 _ (0, 0) _ rfl (Blk.new _ _ _) Try.underlying30 rfl (by kernel_rfl)) rfl ?_
    exact ⟨rfl, hb1⟩

/-- What stands behind Decode's calls. -/
structure DecMid (w w7 : World) (X : Nat) (k : Int) (A1 : Option Addr) (M c1 : Nat) (ws : List Int) : Prop where
  bel : Below w.heap.size w w7
  own : w7.ownsRow w.heap.size 48 1 (.slice A1 M c1) M (cellsOf .u64 ws)
  hX : Blk w7 X 30 #[.int .i64 k, .slice A1 M c1, .slice none 0 0, .slice none 0 0]
  hR : Blk w7 w.heap.size 30 #[.int .i64 0, .slice none 0 0, .slice none 0 0, .slice none 0 0]
  ne : w.heap.size < X
  lt : X < w7.heap.size
  ow : ∀ g', Value.ownBlock (.slice A1 M c1) = some g' → w.heap.size < g' ∧ g' < X

theorem dec_mid {w w2 w3 w6 w7 : World} {k : Int} {A1 : Option Addr} {M c1 g : Nat} {ws : List Int} (hbe2 : Below (w.alloc (.cells #[.int .i64 0, .slice none 0 0, .slice none 0 0, .slice none 0 0] 30)).heap.size (w.alloc (.cells #[.int .i64 0, .slice none 0 0, .slice none 0 0, .slice none 0 0] 30)) w2) (hch5 : Chg (fun k => k = g) w2 w3) (hg : w.heap.size < g) (hg3 : g < w3.heap.size)
    (ho : w3.ownsRow w2.heap.size 48 1 (.slice A1 M c1) M (cellsOf .u64 ws)) (hg2 : g < w2.heap.size)
    (hb6 : Below (w3.alloc (.cells #[.int .i64 k, .slice A1 M c1, .slice none 0 0, .slice none 0 0] 30)).heap.size (w3.alloc (.cells #[.int .i64 k, .slice A1 M c1, .slice none 0 0, .slice none 0 0] 30)) w6) (hch8 : Chg (fun k => k = g) w6 w7) :
    DecMid w w7 w3.heap.size k A1 M c1 ws := by
  have hb1 : Below w.heap.size w (w.alloc (.cells #[.int .i64 0, .slice none 0 0, .slice none 0 0, .slice none 0 0] 30)) := (Below.refl _ _).alloc (Nat.le_refl _) _
  have s1 : (w.alloc (.cells #[.int .i64 0, .slice none 0 0, .slice none 0 0, .slice none 0 0] 30)).heap.size = w.heap.size + 1 := by simp
  have s2 := hbe2.size
  have s3 := hch5.size
  have s6 := hb6.size
  have s7 := hch8.size
  have sx : (w3.alloc (.cells #[.int .i64 k, .slice A1 M c1, .slice none 0 0, .slice none 0 0] 30)).heap.size = w3.heap.size + 1 := by simp
  have hc : Chg (fun k => k = g) w2 w7 := ((hch5.alloc _).trans (Chg.of_below hb6 (Nat.le_refl _) (fun k => k = g)) (fun _ _ e => e)).trans hch8 (fun _ _ e => e)
  have hc3 : Chg (fun k => k = g) w3 w7 := (((Chg.refl _ w3).alloc _).trans (Chg.of_below hb6 (Nat.le_refl _) (fun k => k = g)) (fun _ _ e => e)).trans hch8 (fun _ _ e => e)
  have hcx := (Chg.of_below hb6 (Nat.le_refl _) (fun k => k = g)).trans hch8 (fun _ _ e => e)
  refine ⟨(hb1.trans (hbe2.mono (by omega))).trans (hc.below (by omega) (fun k _ e => by omega)), own_base (own_chg ho hc3 (fun g' e1 e2 => by have := (ho.lt g' e1).1; omega)) (by omega), ?_, ?_, by omega, by omega, fun g' e1 => ?_⟩
  · exact (Blk.new w3 _ _).chg hcx (by omega)
  · exact ((Blk.new w _ _).below hbe2 (by omega)).chg hc (by omega)
  · have h := ho.lt g' e1; omega

theorem dec_end {w7 : World} {X R i : Nat} {u a v2 v3 z0 z1 z2 z3 : Value} {k : Int} (hX : ¬ R = X) (hR : Blk w7 R 30 #[z0, z1, z2, z3]) :
    Blk (((((w7.setCell ⟨X, i, none⟩ u).setCell ⟨R, 0, none⟩ (.int .i64 k)).setCell ⟨R, 1, none⟩ a).setCell ⟨R, 2, none⟩ v2).setCell ⟨R, 3, none⟩ v3) R 30 #[.int .i64 k, a, v2, v3] ∧
    Chg (fun b => b = X ∨ b = R) w7 (((((w7.setCell ⟨X, i, none⟩ u).setCell ⟨R, 0, none⟩ (.int .i64 k)).setCell ⟨R, 1, none⟩ a).setCell ⟨R, 2, none⟩ v2).setCell ⟨R, 3, none⟩ v3) := by
  refine ⟨?_, ?_⟩
  · have h := ((((hR.far (p := ⟨X, i, none⟩) hX u).set_ 0 (.int .i64 k)).set_ 1 a).set_ 2 v2).set_ 3 v3
    simpa using h
  · exact (((((Chg.refl _ w7).setCell (p := ⟨X, i, none⟩) (.inr (.inl rfl)) _).setCell (p := ⟨R, 0, none⟩) (.inr (.inr rfl)) _).setCell (p := ⟨R, 1, none⟩) (.inr (.inr rfl)) _).setCell (p := ⟨R, 2, none⟩) (.inr (.inr rfl)) _).setCell (p := ⟨R, 3, none⟩) (.inr (.inr rfl)) _

set_option maxHeartbeats 1000000 in
theorem odec_raw {B : Nat} (A : Option Addr) (n c j k s : Nat) (zs : List Int) (w : World) (hr : Reads w B 1 A n (cellsOf .u8 zs)) (hB : B ≤ w.heap.size) (hz : AreB zs) (hl : n ≤ c) (hcap : c ≤ 9223372036854775807) (hn : n ≤ 140737488355328)
    (h : DecAt zs j k s) (hd : decB zs j k s = true) (hi : hasI k = false) :
    Calls Try.prog 21 #[.slice A n c, .int .i64 j] w fun e w' => ∃ A1 c1 A2 m c2, e = .returned (.tuple #[obV k A1 (kwN k) c1 A2 m c2 none 0 0, .int .i64 (j + (s + padn s 8) : Nat), .bool true]) ∧ Below w.heap.size w w' ∧ ObOwn w' w.heap.size A1 (kwN k) c1 (dW (objB zs j s) k) A2 m c2 (dR (objB zs j s) k) none 0 0 (dI (objB zs j s) k) := by
  have hlen := hr.len
  have hfit := h.fit
  have hroom := h.room
  have hk4 := h.kk
  rw [hlen] at hfit hroom
  have hb1 : Below w.heap.size w (w.alloc (.cells #[.int .i64 0, .slice none 0 0, .slice none 0 0, .slice none 0 0] 30)) := (Below.refl _ _).alloc (Nat.le_refl _) _
  have hr1 : Reads (w.alloc (.cells #[.int .i64 0, .slice none 0 0, .slice none 0 0, .slice none 0 0] 30)) B 1 A n (cellsOf .u8 zs) := hr.keep fun p hp => hb1.cell (by omega)
  have BG := Lib.hid (obegin_yes A n c j k s zs _ hr1 hz hl hcap hn h)
  unfold decB at hd
  rw [hlen] at hd
  simp only [Bool.and_eq_true, decide_eq_true_eq] at hd
  obtain ⟨⟨hm, hb2⟩, hzr⟩ := hd
  obtain ⟨-, hf, hmod⟩ := right_may h hm
  rw [hm, decide_eq_true hb2] at BG
  have hsub := hr1.sub (lo := j + s) (hi := j + (s + padn s 8)) (cap := c) (by omega) (by omega) hl
  have hsub2 := hr1.sub (lo := j) (hi := j + s) (cap := c) (by omega) (by omega) hl
  have HA := Lib.hid (align_any s (w.alloc (.cells #[.int .i64 0, .slice none 0 0, .slice none 0 0, .slice none 0 0] 30)) (by omega) (by omega))
  rw [algn_pad] at HA
  have hp7 : padn s 8 ≤ 7 := by have := padn_eight s; omega
  generalize padn s 8 = P at *
  have e : j + (s + P) - (j + s) = P := by omega
  have e2 : j + s - j = s := by omega
  have hcj : ¬ c = j := by omega
  rw [if_neg hcj] at hsub2
  obtain ⟨A3, hA3⟩ : ∃ A3, A.map (·.add j) = A3 := ⟨_, rfl⟩
  rw [hA3, e2] at hsub2
  have hzr2 : zerB ((zs.drop (j + s)).take (j + (s + P) - (j + s))) = true := by rw [e]; exact hzr
  obtain ⟨A0, hA0⟩ : ∃ A0, (if c = j + s then A else A.map (·.add (j + s))) = A0 := ⟨_, rfl⟩
  rw [hA0] at hsub
  have HF := Lib.hid (fun cc => ofilled_any A0 (j + (s + P) - (j + s)) cc _ _ hsub (by omega))
  rw [hzr2] at HF
  have i1 : (j : Int) + s ≤ (j : Int) + ((s + P : Nat) : Int) := by omega
  have i2 : (j : Int) + ((s + P : Nat) : Int) ≤ (c : Int) := by omega
  have hob := objB_bytes hz j s
  have hol := objB_length h.fit
  have hfk : frontN k = 16 + 8 * kwN k := rfl
  have HR := Lib.hid (fun cc (h1 : s ≤ cc) (h2 : cc ≤ 9223372036854775807) => read_yes A3 s cc 16 (objB zs j s) _ hsub2 (by have := hb1.size; omega) h1 h2 (by omega) (by omega))
  have HW := Lib.hid (owords_any (k : Int))
  have HFR := Lib.hid (ofront_any (k : Int))
  have HI := Lib.hid (ohas_any (k : Int))
  rw [hi] at HI
  obtain ⟨M, hM⟩ : ∃ M, kwN k = M := ⟨_, rfl⟩
  obtain ⟨F, hF⟩ : ∃ F, frontN k = F := ⟨_, rfl⟩
  obtain ⟨r, hrr⟩ : ∃ r, s - F = r := ⟨_, rfl⟩
  rw [hF] at HFR hf
  rw [hM] at HW
  have hF2 : F = 16 + 8 * M := by rw [← hF, ← hM]; exact hfk
  have hM5 : M ≤ 5 := by rw [← hM]; exact kwN_le _
  have hri : (s : Int) - (F : Int) = (r : Int) := by omega
  have HF2 := Lib.hid hF2
  have HRS : Hid (s = F + r) := show s = F + r by omega
  have HDW : Hid (dW (objB zs j s) k = wrds M ((objB zs j s).drop 16)) := by show _ = _; unfold dW; rw [hM]
  have HDR : Hid (dR (objB zs j s) k = (objB zs j s).drop F) := by show _ = _; unfold dR; rw [hi]; rw [if_neg (by decide), hF]
  have HDI : Hid (dI (objB zs j s) k = []) := by show _ = _; unfold dI; rw [hi]; rfl
  have HK := Lib.hid hM
  have s16 : 16 ≤ s := by omega
  have s47 : s ≤ 140737488355328 := by omega
  rw [hM]
  clear hr hr1 h hsub hlen e hzr hzr2 hm hb2 hmod hfk hF hF2 hM hrr hz hsub2
  generalize objB zs j s = bs at *
  have HOL := Lib.hid hol
  have HOB := Lib.hid hob
  clear hol hob
  by_cases hcs : c = j + s
  · rw [if_pos hcs] at hA0
    subst hcs
    subst hA0
    go_enter Try.func21, Try.ntmps21
    have m1 : True := trivial
    go_wp2_with (first
      | (go_at_call 35; refine BG.out.mono ?_; rintro e w1 ⟨rfl, rfl⟩)
      | (go_at_call 34; refine HA.out.mono ?_; rintro e w1 ⟨rfl, rfl⟩)
      | (go_at_call 36; refine (HF.out _).mono ?_; rintro e w1 ⟨rfl, rfl⟩)
      | (go_at_call 37; (refine (HR.out _ (by omega) (by omega)).mono ?_; rintro e w2 ⟨g, B', A', c', rfl, hrd, hbe2, hgg⟩; have hbe := hb1.trans (hbe2.mono hb1.size); have hgw : w.heap.size < g := (by simp at hgg; omega)))
      | (go_at_call 17; refine (HW.out _).mono ?_; rintro e w3 ⟨rfl, rfl⟩)
      | (go_at_call 38; clear m1; (refine (rwords_yes B' g (s - 16) c' M _ A' _ false _ hrd (HOB.out.drop 16) (by have h := HF2.out; omega) (by simp) (by simp; omega) (by omega)).mono ?_; rintro e w3 ⟨A1, c1, rfl, ho1, A5, n5, c5, hrd5, hch5⟩))
      | (go_at_call 18; refine (HFR.out _).mono ?_; rintro e w4 ⟨rfl, rfl⟩)
      | (go_at_call 32; refine (HI.out _).mono ?_; rintro e w4 ⟨rfl, rfl⟩)
      | (go_at_call 39; (have hn5 := hrd5.reads.len; rw [List.length_drop, List.length_drop, HOL.out] at hn5; have hn6 : n5 = r := (by have h1 := HF2.out; have h2 := HRS.out; omega); have hgl := hrd5.blk.lt; have hgl2 := hrd.blk.lt; refine (rraw_yes B' g n5 c5 r _ A5 _ false _ (hrd5.below ((Below.refl _ _).alloc (Nat.le_refl _) _)) (by omega) (by simp; omega) (by simp; omega) (by omega)).mono ?_; rintro e w7 ⟨A2, c2, rfl, w6, ho2, hb6, A8, n8, c8, hrd8, hch8⟩; have MD := dec_mid hbe2 hch5 hgw hgl ho1 hgl2 hb6 hch8; have ho27 := own_chg ho2 hch8 (fun g' e1 e2 => by have h1 := (ho2.lt g' e1).1; simp at h1; omega); have o1 := (fun g' e1 => (ho2.lt g' e1).1); obtain ⟨bX, oX, hX, hR, neX, ltX, owX⟩ := MD; have x0 := hX.cell 0; have x1 := hX.cell 1; have x2 := hX.cell 2; have x3 := hX.cell 3; have xf := hX.frozen 2; have y0 := hR.cell 0; have y1 := hR.cell 1; have y2 := hR.cell 2; have y3 := hR.cell 3; have yf0 := hR.frozen 0; have yf1 := hR.frozen 1; have yf2 := hR.frozen 2; have yf3 := hR.frozen 3; have hne : ¬ w3.heap.size = w.heap.size := (by omega); have hne2 : ¬ w.heap.size = w3.heap.size := (by omega); have HoX := Lib.hid oX; have HbX := Lib.hid bX; have Ho2 := Lib.hid ho27; have HhX := Lib.hid hX; have HhR := Lib.hid hR; have How := Lib.hid owX; have Ho1 := Lib.hid o1; clear hn5 hrd hrd5 hrd8 hch5 hch8 hb6 hbe hbe2 ho1 ho2 ho27 oX bX hX hR owX o1))
)
    have DE := dec_end (X := w3.heap.size) (i := 2) (u := .slice A2 r c2) (a := .slice A1 M c1) (v2 := .slice A2 r c2) (v3 := .slice none 0 0) (k := k) hne2 HhR.out
    refine bodyPost_ret (results_cell3 rfl _ _ w.heap.size 30 _ (0, 0) _ rfl DE.1 Try.underlying30 rfl (by kernel_rfl)) rfl ?_
    have hs7 := HbX.out.size
    refine ⟨A1, c1, A2, r, c2, rfl, HbX.out.trans (DE.2.below hs7 (fun b _ e => by rcases e with e | e <;> omega)), ?_, ?_, by rw [HDI.out]; exact World.ownsRow_nil _ _ _ _⟩
    · rw [HDW.out]
      exact own_chg HoX.out DE.2 (fun g' e1 e2 => by have h := How.out g' e1; rcases e2 with e2 | e2 <;> omega)
    · rw [HDR.out]
      have h := own_chg Ho2.out DE.2 (fun g' e1 e2 => by have h := Ho1.out g' e1; simp at h; rcases e2 with e2 | e2 <;> omega)
      rw [List.drop_drop, ← HF2.out, List.take_of_length_le (by rw [List.length_drop, HOL.out, HRS.out]; omega)] at h
      exact own_base h (by simp; omega)
  · rw [if_neg hcs] at hA0
    go_enter Try.func21, Try.ntmps21
    have m1 : True := trivial
    go_wp2_with (first
      | (go_at_call 35; refine BG.out.mono ?_; rintro e w1 ⟨rfl, rfl⟩)
      | (go_at_call 34; refine HA.out.mono ?_; rintro e w1 ⟨rfl, rfl⟩)
      | (go_at_call 36; refine (HF.out _).mono ?_; rintro e w1 ⟨rfl, rfl⟩)
      | (go_at_call 37; (refine (HR.out _ (by omega) (by omega)).mono ?_; rintro e w2 ⟨g, B', A', c', rfl, hrd, hbe2, hgg⟩; have hbe := hb1.trans (hbe2.mono hb1.size); have hgw : w.heap.size < g := (by simp at hgg; omega)))
      | (go_at_call 17; refine (HW.out _).mono ?_; rintro e w3 ⟨rfl, rfl⟩)
      | (go_at_call 38; clear m1; (refine (rwords_yes B' g (s - 16) c' M _ A' _ false _ hrd (HOB.out.drop 16) (by have h := HF2.out; omega) (by simp) (by simp; omega) (by omega)).mono ?_; rintro e w3 ⟨A1, c1, rfl, ho1, A5, n5, c5, hrd5, hch5⟩))
      | (go_at_call 18; refine (HFR.out _).mono ?_; rintro e w4 ⟨rfl, rfl⟩)
      | (go_at_call 32; refine (HI.out _).mono ?_; rintro e w4 ⟨rfl, rfl⟩)
      | (go_at_call 39; (have hn5 := hrd5.reads.len; rw [List.length_drop, List.length_drop, HOL.out] at hn5; have hn6 : n5 = r := (by have h1 := HF2.out; have h2 := HRS.out; omega); have hgl := hrd5.blk.lt; have hgl2 := hrd.blk.lt; refine (rraw_yes B' g n5 c5 r _ A5 _ false _ (hrd5.below ((Below.refl _ _).alloc (Nat.le_refl _) _)) (by omega) (by simp; omega) (by simp; omega) (by omega)).mono ?_; rintro e w7 ⟨A2, c2, rfl, w6, ho2, hb6, A8, n8, c8, hrd8, hch8⟩; have MD := dec_mid hbe2 hch5 hgw hgl ho1 hgl2 hb6 hch8; have ho27 := own_chg ho2 hch8 (fun g' e1 e2 => by have h1 := (ho2.lt g' e1).1; simp at h1; omega); have o1 := (fun g' e1 => (ho2.lt g' e1).1); obtain ⟨bX, oX, hX, hR, neX, ltX, owX⟩ := MD; have x0 := hX.cell 0; have x1 := hX.cell 1; have x2 := hX.cell 2; have x3 := hX.cell 3; have xf := hX.frozen 2; have y0 := hR.cell 0; have y1 := hR.cell 1; have y2 := hR.cell 2; have y3 := hR.cell 3; have yf0 := hR.frozen 0; have yf1 := hR.frozen 1; have yf2 := hR.frozen 2; have yf3 := hR.frozen 3; have hne : ¬ w3.heap.size = w.heap.size := (by omega); have hne2 : ¬ w.heap.size = w3.heap.size := (by omega); have HoX := Lib.hid oX; have HbX := Lib.hid bX; have Ho2 := Lib.hid ho27; have HhX := Lib.hid hX; have HhR := Lib.hid hR; have How := Lib.hid owX; have Ho1 := Lib.hid o1; clear hn5 hrd hrd5 hrd8 hch5 hch8 hb6 hbe hbe2 ho1 ho2 ho27 oX bX hX hR owX o1))
)
    have DE := dec_end (X := w3.heap.size) (i := 2) (u := .slice A2 r c2) (a := .slice A1 M c1) (v2 := .slice A2 r c2) (v3 := .slice none 0 0) (k := k) hne2 HhR.out
    refine bodyPost_ret (results_cell3 rfl _ _ w.heap.size 30 _ (0, 0) _ rfl DE.1 Try.underlying30 rfl (by kernel_rfl)) rfl ?_
    have hs7 := HbX.out.size
    refine ⟨A1, c1, A2, r, c2, rfl, HbX.out.trans (DE.2.below hs7 (fun b _ e => by rcases e with e | e <;> omega)), ?_, ?_, by rw [HDI.out]; exact World.ownsRow_nil _ _ _ _⟩
    · rw [HDW.out]
      exact own_chg HoX.out DE.2 (fun g' e1 e2 => by have h := How.out g' e1; rcases e2 with e2 | e2 <;> omega)
    · rw [HDR.out]
      have h := own_chg Ho2.out DE.2 (fun g' e1 e2 => by have h := Ho1.out g' e1; simp at h; rcases e2 with e2 | e2 <;> omega)
      rw [List.drop_drop, ← HF2.out, List.take_of_length_le (by rw [List.length_drop, HOL.out, HRS.out]; omega)] at h
      exact own_base h (by simp; omega)

set_option maxHeartbeats 1000000 in
theorem odec_items {B : Nat} (A : Option Addr) (n c j k s : Nat) (zs : List Int) (w : World) (hr : Reads w B 1 A n (cellsOf .u8 zs)) (hB : B ≤ w.heap.size) (hz : AreB zs) (hl : n ≤ c) (hcap : c ≤ 9223372036854775807) (hn : n ≤ 140737488355328)
    (h : DecAt zs j k s) (hd : decB zs j k s = true) (hi : hasI k = true) :
    Calls Try.prog 21 #[.slice A n c, .int .i64 j] w fun e w' => ∃ A1 c1 A2 m c2, e = .returned (.tuple #[obV k A1 (kwN k) c1 none 0 0 A2 m c2, .int .i64 (j + (s + padn s 8) : Nat), .bool true]) ∧ Below w.heap.size w w' ∧ ObOwn w' w.heap.size A1 (kwN k) c1 (dW (objB zs j s) k) none 0 0 (dR (objB zs j s) k) A2 m c2 (dI (objB zs j s) k) := by
  have hlen := hr.len
  have hfit := h.fit
  have hroom := h.room
  have hk4 := h.kk
  rw [hlen] at hfit hroom
  have hb1 : Below w.heap.size w (w.alloc (.cells #[.int .i64 0, .slice none 0 0, .slice none 0 0, .slice none 0 0] 30)) := (Below.refl _ _).alloc (Nat.le_refl _) _
  have hr1 : Reads (w.alloc (.cells #[.int .i64 0, .slice none 0 0, .slice none 0 0, .slice none 0 0] 30)) B 1 A n (cellsOf .u8 zs) := hr.keep fun p hp => hb1.cell (by omega)
  have BG := Lib.hid (obegin_yes A n c j k s zs _ hr1 hz hl hcap hn h)
  unfold decB at hd
  rw [hlen] at hd
  simp only [Bool.and_eq_true, decide_eq_true_eq] at hd
  obtain ⟨⟨hm, hb2⟩, hzr⟩ := hd
  obtain ⟨-, hf, hmod⟩ := right_may h hm
  rw [hm, decide_eq_true hb2] at BG
  have hsub := hr1.sub (lo := j + s) (hi := j + (s + padn s 8)) (cap := c) (by omega) (by omega) hl
  have hsub2 := hr1.sub (lo := j) (hi := j + s) (cap := c) (by omega) (by omega) hl
  have HA := Lib.hid (align_any s (w.alloc (.cells #[.int .i64 0, .slice none 0 0, .slice none 0 0, .slice none 0 0] 30)) (by omega) (by omega))
  rw [algn_pad] at HA
  have hp7 : padn s 8 ≤ 7 := by have := padn_eight s; omega
  generalize padn s 8 = P at *
  have e : j + (s + P) - (j + s) = P := by omega
  have e2 : j + s - j = s := by omega
  have hcj : ¬ c = j := by omega
  rw [if_neg hcj] at hsub2
  obtain ⟨A3, hA3⟩ : ∃ A3, A.map (·.add j) = A3 := ⟨_, rfl⟩
  rw [hA3, e2] at hsub2
  have hzr2 : zerB ((zs.drop (j + s)).take (j + (s + P) - (j + s))) = true := by rw [e]; exact hzr
  obtain ⟨A0, hA0⟩ : ∃ A0, (if c = j + s then A else A.map (·.add (j + s))) = A0 := ⟨_, rfl⟩
  rw [hA0] at hsub
  have HF := Lib.hid (fun cc => ofilled_any A0 (j + (s + P) - (j + s)) cc _ _ hsub (by omega))
  rw [hzr2] at HF
  have i1 : (j : Int) + s ≤ (j : Int) + ((s + P : Nat) : Int) := by omega
  have i2 : (j : Int) + ((s + P : Nat) : Int) ≤ (c : Int) := by omega
  have hob := objB_bytes hz j s
  have hol := objB_length h.fit
  have hfk : frontN k = 16 + 8 * kwN k := rfl
  have HR := Lib.hid (fun cc (h1 : s ≤ cc) (h2 : cc ≤ 9223372036854775807) => read_yes A3 s cc 16 (objB zs j s) _ hsub2 (by have := hb1.size; omega) h1 h2 (by omega) (by omega))
  have HW := Lib.hid (owords_any (k : Int))
  have HFR := Lib.hid (ofront_any (k : Int))
  have HI := Lib.hid (ohas_any (k : Int))
  rw [hi] at HI
  obtain ⟨M, hM⟩ : ∃ M, kwN k = M := ⟨_, rfl⟩
  obtain ⟨F, hF⟩ : ∃ F, frontN k = F := ⟨_, rfl⟩
  obtain ⟨r, hrr⟩ : ∃ r, s - F = r := ⟨_, rfl⟩
  rw [hF] at HFR hf
  rw [hM] at HW
  have hF2 : F = 16 + 8 * M := by rw [← hF, ← hM]; exact hfk
  have hM5 : M ≤ 5 := by rw [← hM]; exact kwN_le _
  have hri : (s : Int) - (F : Int) = (r : Int) := by omega
  have HF2 := Lib.hid hF2
  have hr8 : r % 8 = 0 := by have h := hmod hi; rw [hF] at h; omega
  obtain ⟨q, hq⟩ : ∃ q, r / 8 = q := ⟨_, rfl⟩
  have hq8 : 8 * q = r := by omega
  have hq1 : (r : Int) / 8 = (q : Int) := by omega
  have hq2 : (r : Int).tdiv 8 = (q : Int) := by rw [Int.tdiv_eq_ediv_of_nonneg (by omega)]; exact hq1
  have HRS : Hid (s = F + r) := show s = F + r by omega
  have HDW : Hid (dW (objB zs j s) k = wrds M ((objB zs j s).drop 16)) := by show _ = _; unfold dW; rw [hM]
  have HDR : Hid (dR (objB zs j s) k = []) := by show _ = _; unfold dR; rw [hi]; rfl
  have HDI : Hid (dI (objB zs j s) k = wrds q ((objB zs j s).drop F)) := by show _ = _; unfold dI; rw [hi]; rw [if_pos rfl, hol, hF, hrr, hq]
  have HK := Lib.hid hM
  have s16 : 16 ≤ s := by omega
  have s47 : s ≤ 140737488355328 := by omega
  rw [hM]
  clear hr hr1 h hsub hlen e hzr hzr2 hm hb2 hmod hfk hF hF2 hM hrr hz hsub2
  generalize objB zs j s = bs at *
  have HOL := Lib.hid hol
  have HOB := Lib.hid hob
  clear hol hob
  by_cases hcs : c = j + s
  · rw [if_pos hcs] at hA0
    subst hcs
    subst hA0
    go_enter Try.func21, Try.ntmps21
    have m1 : True := trivial
    go_wp2_with (first
      | (go_at_call 35; refine BG.out.mono ?_; rintro e w1 ⟨rfl, rfl⟩)
      | (go_at_call 34; refine HA.out.mono ?_; rintro e w1 ⟨rfl, rfl⟩)
      | (go_at_call 36; refine (HF.out _).mono ?_; rintro e w1 ⟨rfl, rfl⟩)
      | (go_at_call 37; (refine (HR.out _ (by omega) (by omega)).mono ?_; rintro e w2 ⟨g, B', A', c', rfl, hrd, hbe2, hgg⟩; have hbe := hb1.trans (hbe2.mono hb1.size); have hgw : w.heap.size < g := (by simp at hgg; omega)))
      | (go_at_call 17; refine (HW.out _).mono ?_; rintro e w3 ⟨rfl, rfl⟩)
      | (go_at_call 38; clear m1; (refine (rwords_yes B' g (s - 16) c' M _ A' _ false _ hrd (HOB.out.drop 16) (by have h := HF2.out; omega) (by simp) (by simp; omega) (by omega)).mono ?_; rintro e w3 ⟨A1, c1, rfl, ho1, A5, n5, c5, hrd5, hch5⟩))
      | (go_at_call 18; refine (HFR.out _).mono ?_; rintro e w4 ⟨rfl, rfl⟩)
      | (go_at_call 32; refine (HI.out _).mono ?_; rintro e w4 ⟨rfl, rfl⟩)
      | (go_at_call 38; (have hn5 := hrd5.reads.len; rw [List.length_drop, List.length_drop, HOL.out] at hn5; have hn6 : n5 = r := (by have h1 := HF2.out; have h2 := HRS.out; omega); have hgl := hrd5.blk.lt; have hgl2 := hrd.blk.lt; refine (rwords_yes B' g n5 c5 q _ A5 _ false _ (hrd5.below ((Below.refl _ _).alloc (Nat.le_refl _) _)) ((HOB.out.drop 16).drop (8 * M)) (by omega) (by simp; omega) (by simp; omega) (by omega)).mono ?_; rintro e w7 ⟨A2, c2, rfl, ho2, A8, n8, c8, hrd8, hch8⟩; have MD := dec_mid hbe2 hch5 hgw hgl ho1 hgl2 (Below.refl _ _) hch8; have o1 := (fun g' e1 => (ho2.lt g' e1).1); obtain ⟨bX, oX, hX, hR, neX, ltX, owX⟩ := MD; have x0 := hX.cell 0; have x1 := hX.cell 1; have x2 := hX.cell 2; have x3 := hX.cell 3; have xf := hX.frozen 3; have y0 := hR.cell 0; have y1 := hR.cell 1; have y2 := hR.cell 2; have y3 := hR.cell 3; have yf0 := hR.frozen 0; have yf1 := hR.frozen 1; have yf2 := hR.frozen 2; have yf3 := hR.frozen 3; have hne : ¬ w3.heap.size = w.heap.size := (by omega); have hne2 : ¬ w.heap.size = w3.heap.size := (by omega); have HoX := Lib.hid oX; have HbX := Lib.hid bX; have Ho2 := Lib.hid ho2; have HhX := Lib.hid hX; have HhR := Lib.hid hR; have How := Lib.hid owX; have Ho1 := Lib.hid o1; clear hn5 hrd hrd5 hrd8 hch5 hch8 hbe hbe2 ho1 ho2 oX bX hX hR owX o1))
)
    have DE := dec_end (X := w3.heap.size) (i := 3) (u := .slice A2 q c2) (a := .slice A1 M c1) (v2 := .slice none 0 0) (v3 := .slice A2 q c2) (k := k) hne2 HhR.out
    refine bodyPost_ret (results_cell3 rfl _ _ w.heap.size 30 _ (0, 0) _ rfl DE.1 Try.underlying30 rfl (by kernel_rfl)) rfl ?_
    have hs7 := HbX.out.size
    refine ⟨A1, c1, A2, q, c2, rfl, HbX.out.trans (DE.2.below hs7 (fun b _ e => by rcases e with e | e <;> omega)), ?_, by rw [HDR.out]; exact World.ownsRow_nil _ _ _ _, ?_⟩
    · rw [HDW.out]
      exact own_chg HoX.out DE.2 (fun g' e1 e2 => by have h := How.out g' e1; rcases e2 with e2 | e2 <;> omega)
    · rw [HDI.out]
      have h := own_chg Ho2.out DE.2 (fun g' e1 e2 => by have h := Ho1.out g' e1; simp at h; rcases e2 with e2 | e2 <;> omega)
      rw [List.drop_drop, ← HF2.out] at h
      exact own_base h (by simp; omega)
  · rw [if_neg hcs] at hA0
    go_enter Try.func21, Try.ntmps21
    have m1 : True := trivial
    go_wp2_with (first
      | (go_at_call 35; refine BG.out.mono ?_; rintro e w1 ⟨rfl, rfl⟩)
      | (go_at_call 34; refine HA.out.mono ?_; rintro e w1 ⟨rfl, rfl⟩)
      | (go_at_call 36; refine (HF.out _).mono ?_; rintro e w1 ⟨rfl, rfl⟩)
      | (go_at_call 37; (refine (HR.out _ (by omega) (by omega)).mono ?_; rintro e w2 ⟨g, B', A', c', rfl, hrd, hbe2, hgg⟩; have hbe := hb1.trans (hbe2.mono hb1.size); have hgw : w.heap.size < g := (by simp at hgg; omega)))
      | (go_at_call 17; refine (HW.out _).mono ?_; rintro e w3 ⟨rfl, rfl⟩)
      | (go_at_call 38; clear m1; (refine (rwords_yes B' g (s - 16) c' M _ A' _ false _ hrd (HOB.out.drop 16) (by have h := HF2.out; omega) (by simp) (by simp; omega) (by omega)).mono ?_; rintro e w3 ⟨A1, c1, rfl, ho1, A5, n5, c5, hrd5, hch5⟩))
      | (go_at_call 18; refine (HFR.out _).mono ?_; rintro e w4 ⟨rfl, rfl⟩)
      | (go_at_call 32; refine (HI.out _).mono ?_; rintro e w4 ⟨rfl, rfl⟩)
      | (go_at_call 38; (have hn5 := hrd5.reads.len; rw [List.length_drop, List.length_drop, HOL.out] at hn5; have hn6 : n5 = r := (by have h1 := HF2.out; have h2 := HRS.out; omega); have hgl := hrd5.blk.lt; have hgl2 := hrd.blk.lt; refine (rwords_yes B' g n5 c5 q _ A5 _ false _ (hrd5.below ((Below.refl _ _).alloc (Nat.le_refl _) _)) ((HOB.out.drop 16).drop (8 * M)) (by omega) (by simp; omega) (by simp; omega) (by omega)).mono ?_; rintro e w7 ⟨A2, c2, rfl, ho2, A8, n8, c8, hrd8, hch8⟩; have MD := dec_mid hbe2 hch5 hgw hgl ho1 hgl2 (Below.refl _ _) hch8; have o1 := (fun g' e1 => (ho2.lt g' e1).1); obtain ⟨bX, oX, hX, hR, neX, ltX, owX⟩ := MD; have x0 := hX.cell 0; have x1 := hX.cell 1; have x2 := hX.cell 2; have x3 := hX.cell 3; have xf := hX.frozen 3; have y0 := hR.cell 0; have y1 := hR.cell 1; have y2 := hR.cell 2; have y3 := hR.cell 3; have yf0 := hR.frozen 0; have yf1 := hR.frozen 1; have yf2 := hR.frozen 2; have yf3 := hR.frozen 3; have hne : ¬ w3.heap.size = w.heap.size := (by omega); have hne2 : ¬ w.heap.size = w3.heap.size := (by omega); have HoX := Lib.hid oX; have HbX := Lib.hid bX; have Ho2 := Lib.hid ho2; have HhX := Lib.hid hX; have HhR := Lib.hid hR; have How := Lib.hid owX; have Ho1 := Lib.hid o1; clear hn5 hrd hrd5 hrd8 hch5 hch8 hbe hbe2 ho1 ho2 oX bX hX hR owX o1))
)
    have DE := dec_end (X := w3.heap.size) (i := 3) (u := .slice A2 q c2) (a := .slice A1 M c1) (v2 := .slice none 0 0) (v3 := .slice A2 q c2) (k := k) hne2 HhR.out
    refine bodyPost_ret (results_cell3 rfl _ _ w.heap.size 30 _ (0, 0) _ rfl DE.1 Try.underlying30 rfl (by kernel_rfl)) rfl ?_
    have hs7 := HbX.out.size
    refine ⟨A1, c1, A2, q, c2, rfl, HbX.out.trans (DE.2.below hs7 (fun b _ e => by rcases e with e | e <;> omega)), ?_, by rw [HDR.out]; exact World.ownsRow_nil _ _ _ _, ?_⟩
    · rw [HDW.out]
      exact own_chg HoX.out DE.2 (fun g' e1 e2 => by have h := How.out g' e1; rcases e2 with e2 | e2 <;> omega)
    · rw [HDI.out]
      have h := own_chg Ho2.out DE.2 (fun g' e1 e2 => by have h := Ho1.out g' e1; simp at h; rcases e2 with e2 | e2 <;> omega)
      rw [List.drop_drop, ← HF2.out] at h
      exact own_base h (by simp; omega)

end Go.Proofs.Ytbgdaiecmpjcbaa
