/-
  LAYER 8: WHAT drop AND SyncDir DO: contracts.
-/
import Derived.Test.YtclglbddibjenaaGreatVdFn6
set_option linter.unusedVariables false
set_option linter.unusedSimpArgs false
set_option maxRecDepth 100000
namespace Go.Proofs.YtclglbddibjenaaGreat
open Go.RowKit Go.Shelf Go.Maps

/-- How many names of a list have a number. -/
def cntL : NmL → Int → Nat
  | [], _ => 0
  | p :: r, i => (if p.2 = i then 1 else 0) + cntL r i
theorem cntL_append (a b : NmL) (i : Int) : cntL (a ++ b) i = cntL a i + cntL b i := by
  induction a with
  | nil => simp [cntL]
  | cons p r ih => simp only [List.cons_append, cntL, ih]; omega
theorem cntL_next {l : NmL} {k : Nat} {p : ByteArray × Int} (h : l[k]? = some p) (i : Int) : cntL (l.take (k + 1)) i = if i = p.2 then cntL (l.take k) p.2 + 1 else cntL (l.take k) i := by
  obtain ⟨hk, e⟩ := List.getElem?_eq_some_iff.1 h
  rw [List.take_succ_eq_append_getElem hk, cntL_append, e]
  by_cases hi : i = p.2
  · subst hi; simp [cntL]
  · have hi2 : ¬ p.2 = i := fun h => hi h.symm
    simp [cntL, hi, hi2]
theorem cntL_le : ∀ (l : NmL) (i : Int), cntL l i ≤ l.length
  | [], _ => Nat.le_refl _
  | p :: r, i => by
    have := cntL_le r i
    simp only [cntL, List.length_cons]
    split <;> omega
theorem cntL_iff : ∀ (l : NmL) (k : Nat), namedB l k = true ↔ cntL l k ≠ 0
  | [], k => by simp [namedB, cntL]
  | p :: r, k => by
    have ih := cntL_iff r k
    unfold namedB at ih ⊢
    rw [List.any_cons, Bool.or_eq_true, ih]
    by_cases h : p.2 = (k : Int)
    · simp [cntL, h]
    · simp [cntL, h]
theorem cntL_named (l : NmL) (k : Nat) : namedB l k = decide (cntL l k ≠ 0) := by
  rw [Bool.eq_iff_iff, decide_eq_true_iff]; exact cntL_iff l k

theorem imap_ne {w : World} {b n g i : Nat} {f : Int → Nat} {u : Value} (h : IMap w b n f) (hc : w.cell? ⟨g, i, none⟩ = some u) : g ≠ b := by
  rintro rfl
  obtain ⟨D, ⟨es, clock, hb, _⟩, _⟩ := h
  simp [World.cell?, hb] at hc

/-- How many things are pending of the file at a pointer. -/
def pendW (w : World) (q : Nat) : Nat := match w.cell? ⟨q, 2, none⟩ with
  | some (.slice _ n _) => n
  | _ => 0
theorem pendW_of {w : World} {q n c : Nat} {A : Option Addr} (h : w.cell? ⟨q, 2, none⟩ = some (.slice A n c)) : pendW w q = n := by unfold pendW; rw [h]
def liveQ (ps : List Nat) (os : OsL) (q : Nat) : Bool := (List.range os.length).any fun k => decide (lookP ps os k = some q)
theorem liveQ_of {ps : List Nat} {os : OsL} {i : Int} {q : Nat} (h : lookP ps os i = some q) : liveQ ps os q = true := by
  obtain ⟨k, f, rfl, hf, _⟩ := lookP_some h
  unfold liveQ
  rw [List.any_eq_true]
  exact ⟨k, List.mem_range.2 (List.getElem?_eq_some_iff.1 hf).1, by simp [h]⟩
theorem liveQ_some {ps : List Nat} {os : OsL} {q : Nat} (h : liveQ ps os q = true) : ∃ k : Nat, lookP ps os k = some q := by
  unfold liveQ at h
  rw [List.any_eq_true] at h
  obtain ⟨k, _, hk⟩ := h
  exact ⟨k, by simpa using hk⟩

/-! ### the function that drop hands over -/
theorem drop1_any (nb mn n q m : Nat) (f : Int → Nat) (i : Int) (B : Option Addr) (d : Nat) (w : World) (hb : w.cell? ⟨nb, 0, none⟩ = some (.map (some mn))) (hm : IMap w mn n f) (hi : (Lit.int .i64 i).wf = true) (hq : w.cell? ⟨q, 2, none⟩ = some (.slice B m d)) :
    Calls Tryz.prog 87 (#[.int .i64 i, .pointer (some ⟨q, 0, none⟩)] ++ #[.pointer (some ⟨nb, 0, none⟩)]) w fun e w' => e = .returned (.bool (decide (f i = 0) && decide (m = 0))) ∧ w = w' := by
  have hl := hm.look hi
  have PN := Lib.hid (fpend_any q m B d w hq)
  obtain ⟨c, hc⟩ : ∃ c, c = f i := ⟨_, rfl⟩
  rw [← hc] at hl ⊢
  clear hm hi hq hc
  by_cases h0 : c = 0
  · subst h0
    by_cases h1 : m = 0
    · subst h1
      go_enter Tryz.func87, Tryz.ntmps87
      go_wp2_with (go_at_call 47; refine PN.out.mono ?_; rintro e w9 ⟨rfl, rfl⟩)
      go_ret
      exact ⟨rfl, rfl⟩
    · have q1 : ((m : Int) == 0) = false := by simpa using h1
      rw [decide_eq_false h1]
      go_enter Tryz.func87, Tryz.ntmps87
      go_wp2_with (go_at_call 47; refine PN.out.mono ?_; rintro e w9 ⟨rfl, rfl⟩)
      go_ret
      exact ⟨rfl, rfl⟩
  · have q1 : ((c : Int) == 0) = false := by simpa using h0
    rw [decide_eq_false h0]
    go_enter Tryz.func87, Tryz.ntmps87
    go_wp2
    go_ret
    exact ⟨rfl, rfl⟩

section
variable {w w0 w' : World} {base p dp mb bn bs N : Nat} {T U T0 : Nat → Prop} {v v' : VS} {os : OsL} {pv : Value} {SD SF : Nat → Prop} {ps : List Nat} {Ss : List (Nat → Prop)}

/-- What is let go of. -/
theorem lookP_drop (l : NmL) (pd : Int → Nat → Bool) (h : ∀ (k q : Nat) (f : FS), os[k]? = some (some f) → lookP ps os k = some q → pd k q = (decide (cntL l k = 0) && decide (f.ops.length = 0))) (i : Int) :
    lookP ps (dropO l 0 os) i = match lookP ps os i with
      | some q => if pd i q then none else some q
      | none => none := by
  by_cases h0 : 0 ≤ i
  · obtain ⟨k, rfl⟩ : ∃ k : Nat, i = k := ⟨i.toNat, by omega⟩
    have hd := dropO_get l os 0 k
    rw [Nat.zero_add] at hd
    cases hq : lookP ps os k with
    | none =>
      simp only
      cases hk : os[k]? with
      | none => rw [hk] at hd; exact lookP_none (.inr hd)
      | some o =>
        rw [hk] at hd
        cases o with
        | none => exact lookP_none (.inl hd)
        | some f =>
          rw [lookP_of hk] at hq
          simp only [Option.map_some] at hd
          cases hc : keepO l k (some f) with
          | none => rw [hc] at hd; exact lookP_none (.inl hd)
          | some g => rw [hc] at hd; rw [lookP_of hd, hq]
    | some q =>
      simp only
      obtain ⟨k', f, e, hf, hp⟩ := lookP_some hq
      obtain rfl : k = k' := by omega
      rw [h k q f hf hq]
      rw [hf] at hd
      simp only [Option.map_some, keepO, cntL_named] at hd
      by_cases h1 : cntL l k = 0
      · by_cases h2 : f.ops.length = 0
        · rw [decide_eq_true h1, decide_eq_true h2]
          rw [if_neg (by simp [h1, h2])] at hd
          exact lookP_none (.inl hd)
        · rw [decide_eq_false h2, Bool.and_false]
          rw [if_pos (by simp; omega)] at hd
          rw [lookP_of hd]; exact hp
      · rw [decide_eq_false h1, Bool.false_and]
        rw [if_pos (by simp [h1])] at hd
        rw [lookP_of hd]; exact hp
  · rw [lookP_neg (by omega), lookP_neg (by omega)]

set_option maxHeartbeats 2000000 in
theorem vdrop_any (h : VDT w0 T0 w base p v os dp mb bn bs pv SD SF ps Ss) (hR : RiseN cfT v.d.now) (hok : ∀ q ∈ v.d.now, okN q) (hl : v.d.now.length ≤ 1000) :
    Calls Tryz.prog 52 #[.pointer (some ⟨p, 0, none⟩)] w fun e w' => e = .returned (.tuple #[]) ∧ ∃ Ss', VDT w0 T0 w' base p v (dropO v.d.now 0 os) dp mb bn bs pv SD SF ps Ss' := by
  have hmm := @run_makeMap Tryz.prog
  have hs1 : (w.alloc (.map #[] 0)).heap.size = w.heap.size + 1 := by simp
  obtain ⟨wb, hwb⟩ : ∃ wb, wb = (w.alloc (.map #[] 0)).alloc (.cells #[.map (some w.heap.size)] 127) := ⟨_, rfl⟩
  have hwbs : wb.heap.size = w.heap.size + 2 := by rw [hwb]; simp
  have hbb : Below w.heap.size w wb := by rw [hwb]; exact ((Below.refl _ _).alloc (Nat.le_refl _) _).alloc (by simp) _
  have him : IMap wb w.heap.size 0 (fun _ => 0) := by rw [hwb]; exact (IMap.new w).below ((Below.refl _ _).alloc (Nat.le_refl _) _)
  have hbx : Blk wb (w.heap.size + 1) 127 #[.map (some w.heap.size)] := by rw [hwb, ← hs1]; exact Blk.new _ _ _
  obtain ⟨n, hn⟩ : ∃ n, n = v.d.now.length := ⟨_, rfl⟩
  have hn9 : n ≤ 1000 := by omega
  have hvb := h.below hbb
  obtain ⟨c0, -, -, -, -, -, -, -, -, -, -, -⟩ := hvb.vd.cells
  have DN := dnames_any dp bn v.d.now wb (hvb.vd.dir.cells (Below.refl _ _)).1 hvb.vd.dir.now (by omega) hok
  rw [← hn] at DN
  have DNH := Lib.hid DN
  have HV := Lib.hid h
  have HR := Lib.hid hR
  have HOK := Lib.hid hok
  have HN := Lib.hid hn
  have HWB := Lib.hid hwb
  have HB := Lib.hid (And.intro hbb hwbs)
  have HI := Lib.hid (And.intro him hbx)
  have hnb : w.heap.size + 1 < wb.heap.size := by omega
  clear h hR hok hl hn hwbs hbb him hbx hvb DN HWB
  subst hwb
  go_enter Tryz.func52, Tryz.ntmps52
  go_wp2_with (go_at_call 21; go_loud (refine DNH.out.mono ?_; rintro e w2 ⟨A, c, rfl, hT, hb⟩; have HT := Lib.hid hT; have H2 := Lib.hid hb; clear hT hb))
  have hB2 : Below w.heap.size w w2 := HB.out.1.trans (H2.out.mono HB.out.1.size)
  have hI2 := HI.out.1.below H2.out
  have hX2 := HI.out.2.below H2.out hnb
  have hs2 : w.heap.size + 1 < w2.heap.size := by have := H2.out.size; omega
  have HH := Lib.hid (And.intro hB2 (And.intro hI2 (And.intro hX2 hs2)))
  clear c0 hB2 hI2 hX2 hs2 HI HB H2 DNH hnb hs1 hmm
  go_loopw [4, 5, 6, 14] (fun _ _ _ i wr => ∃ j : Nat, j ≤ n ∧ i = .int .i64 j ∧ Hid (IMap wr w.heap.size j (cntL (v.d.now.take j)) ∧ Chg (fun k => k = w.heap.size) w2 wr)) (fun _ _ _ i _ => n - (intOf i).toNat)
  case atStart => exact ⟨0, Nat.zero_le _, rfl, Lib.hid ⟨HH.out.2.1, Chg.refl _ _⟩⟩
  case round =>
    obtain ⟨j, hj, rfl, H⟩ := hrel
    have hwr : Below w.heap.size w wr := HH.out.1.trans (H.out.2.below HH.out.1.size (fun k _ e => by have e : k = w.heap.size := e; omega))
    have hvr := HV.out.below hwr
    obtain ⟨c0, c1, -, -, -, -, -, -, -, -, -, -⟩ := hvr.vd.cells
    have hbx := (HH.out.2.2.1.chg H.out.2 (by omega)).cell 0
    by_cases hlt : j < n
    · obtain ⟨b, off, rfl, hbB, hc⟩ := HT.out.at_ (by omega)
      have hjl : j < v.d.now.length := by rw [← HN.out]; exact hlt
      obtain ⟨pr, hpr⟩ : ∃ pr, v.d.now[j]? = some pr := ⟨_, List.getElem?_eq_getElem hjl⟩
      have hnm : nthT (namesN v.d.now) j = pr.1 := by
        have : (namesN v.d.now)[j]? = some pr.1 := by unfold namesN; rw [List.getElem?_map, hpr]; rfl
        unfold nthT; rw [List.getD_eq_getElem?_getD, this]; rfl
      have cj0 := hc j hlt
      rw [hnm] at cj0
      have hbne : b ≠ w.heap.size := imap_ne HH.out.2.1 cj0
      have cj : wr.cell? ⟨b, off + j, none⟩ = some (.string pr.1) := (World.cell?_of_block (a := ⟨b, off + j, none⟩) (H.out.2.block b hbB hbne)).trans cj0
      have hgt := get_rise8 HR.out hpr
      have hmem := List.mem_of_getElem? hpr
      have hwf := (HOK.out pr hmem).2
      have GT := dget_any dp bn v.d.now pr.1 wr (hvr.vd.dir.cells (Below.refl _ _)).1 hvr.vd.dir.now (by have := (HOK.out pr hmem).1; unfold maxLen; omega)
      rw [hgt] at GT
      have GTH := Lib.hid GT
      have hlk := H.out.1.look hwf
      have hcl := cntL_le (v.d.now.take j) pr.2
      rw [List.length_take] at hcl
      obtain ⟨x, i⟩ := pr
      obtain ⟨c8, hc8⟩ : ∃ c8, c8 = cntL (v.d.now.take j) i := ⟨_, rfl⟩
      simp only at cj GTH hwf hlk hcl
      rw [← hc8] at hlk hcl
      have hc9 : c8 ≤ 1000 := by omega
      have hlti : (j : Int) < (n : Int) := by omega
      have n1 : IntKind.i64.wrap ((c8 : Int) + 1) = ((c8 + 1 : Nat) : Int) := by rw [IntKind.wrap_i64]; omega
      have HWF := Lib.hid hwf
      have HIM := Lib.hid H.out.1
      have HNX := Lib.hid (fun (w3 : World) (hm : IMap w3 w.heap.size (j + 1) (fun y => if y = i then c8 + 1 else cntL (v.d.now.take j) y)) (hcc : Chg (fun k => k = w.heap.size) wr w3) =>
        (show IMap w3 w.heap.size (j + 1) (cntL (v.d.now.take (j + 1))) ∧ Chg (fun k => k = w.heap.size) w2 w3 from ⟨hm.congr (fun y => by rw [cntL_next hpr]; simp only [hc8]), H.out.2.trans hcc (fun _ _ e => e)⟩))
      clear hc hnm hpr hgt hmem hwf GT hcl hc8 hjl cj0 hbne hvr hwr H c1 hbB
      go_wp2_with (first
        | (go_at_call 81; go_loud (refine GTH.out.mono ?_; rintro e w9 ⟨rfl, rfl⟩))
        | (at_mapUpdate; go_loud (refine wpList_putN _ rfl _ _ _ rfl w.heap.size j _ HIM.out (by omega) rfl i rfl HWF.out (c8 + 1) rfl (by omega) ?_; intro w3 hm3 hc3; have HM3 := Lib.hid (HNX.out w3 hm3 hc3); clear hm3 hc3))
        | go_in)
      go_roundw
      case rel => exact ⟨j + 1, by omega, by go_num, HM3⟩
      case measure => simp [intOf]; omega
    · obtain rfl : j = n := by omega
      have hlti : ¬ (j : Int) < (j : Int) := by omega
      have him : IMap wr w.heap.size j (cntL v.d.now) := by
        have := H.out.1
        rwa [show v.d.now.take j = v.d.now by rw [HN.out]; exact List.take_length] at this
      have DEL := del_any mb os.length (lookP ps os) wr hvr.vd.map (liveQ ps os) (fun i q hq => liveQ_of hq) 87 #[.pointer (some ⟨w.heap.size + 1, 0, none⟩)] (fun i q => decide (cntL v.d.now i = 0) && decide (pendW wr q = 0)) (enters_of Tryz.func87 (by kernel_rfl) rfl) (fun W i q hgW hwf hq => by
        obtain ⟨k, hk⟩ := liveQ_some hq
        obtain ⟨f, B, d, hcell, hql⟩ : ∃ f B d, wr.cell? ⟨q, 2, none⟩ = some (.slice B f d) ∧ q < wr.heap.size := by
          obtain ⟨k', f, hkk, hf, hp⟩ := lookP_some hk
          obtain ⟨q', S, nv, sv, qv, h1, h2, h3, -, -⟩ := hvr.vd.file hf
          rw [hp] at h1
          injection h1 with h1
          subst h1
          obtain ⟨B, d, rfl, -, -⟩ := own_form h3.pend
          exact ⟨_, B, d, h3.blk.cell 2, h3.blk.lt⟩
        have hqm : some q ≠ some mb := fun e => by
          injection e with e
          subst e
          obtain ⟨D, ⟨es, clock, hb, _⟩, _⟩ := hvr.vd.map
          simp [World.cell?, hb] at hcell
        have hnm : some w.heap.size ≠ some mb := fun e => by
          injection e with e
          have := HV.out.vd.map.lt
          omega
        have hbm : some (w.heap.size + 1) ≠ some mb := fun e => by
          injection e with e
          have := HV.out.vd.map.lt
          omega
        rw [pendW_of hcell]
        have hc := Chg.of_grown hgW
        exact drop1_any (w.heap.size + 1) w.heap.size j q f (cntL v.d.now) i B d W ((World.cell?_of_block (a := ⟨w.heap.size + 1, 0, none⟩) (hgW.block _ (by show w.heap.size + 1 < _; have := H.out.2.size; have := HH.out.2.2.2; omega) (fun e => hbm e))).trans hbx) (him.chg hc (fun e => hnm e.symm)) hwf ((World.cell?_of_block (a := ⟨q, 2, none⟩) (hgW.block _ hql (fun e => hqm e))).trans hcell))
      have HDEL := Lib.hid DEL
      have HVR := Lib.hid hvr
      have HLK := Lib.hid (lookP_drop (os := os) (ps := ps) v.d.now (fun i q => decide (cntL v.d.now i = 0) && decide (pendW wr q = 0)) (fun k q f hf hq => by
        obtain ⟨q', S, nv, sv, qv, h1, h2, h3, -, h5⟩ := hvr.vd.file hf
        rw [hq] at h5
        injection h5 with h5
        subst h5
        obtain ⟨B, d, rfl, -, -⟩ := own_form h3.pend
        rw [pendW_of (h3.blk.cell 2)]))
      clear DEL him hvr hwr H hbx c0
      go_wp2_with (go_at_call 86; go_loud (refine HDEL.out.mono ?_; rintro e w4 ⟨rfl, hm, hc⟩; have H4 := Lib.hid (And.intro hm hc); clear hm hc))
      go_end0
      exact ⟨rfl, HVR.out.less (dropO_length _ _ _) (fun i f hi => by
        rw [dropO_get, Nat.zero_add] at hi
        cases ho : os[i]? with
        | none => rw [ho] at hi; cases hi
        | some o =>
          rw [ho] at hi
          injection hi with hi
          rw [(keepO_some hi).1]) (H4.out.1.congr HLK.out) H4.out.2⟩

/-! ### SyncDir -/
set_option maxHeartbeats 1000000 in
theorem vsyncdir_any (h : VX w base T p v os) (hg : GoodV v os N) (hN : N ≤ 1000) :
    Calls Tryz.prog 18 #[.pointer (some ⟨p, 0, none⟩)] w fun e w' => e = .returned (.int .i64 (orStop v 0)) ∧ VOut w T base p (orTick v v.tick.syncDir) (N + 1) w' := by
  obtain ⟨dp, mb, bn, bs, pv, SD, SF, ps, Ss, hv⟩ := h
  have C := vchange_any (VDT.start hv) hg.f0 hg.f1
  have hgt := hg.tick
  cases hs : v.stops with
  | true =>
    rw [orStop_yes hs, orTick_yes hs]
    rw [stopE_yes hs] at C
    have CH := Lib.hid C
    have HG := Lib.hid hgt
    clear hv C hg hgt hs
    go_enter Tryz.func18, Tryz.ntmps18
    go_wp2_with (go_at_call 50; refine CH.out.mono ?_; rintro e w1 ⟨rfl, hx⟩; have HX := Lib.hid hx; clear hx)
    go_ret
    exact ⟨rfl, HX.out.vout (HG.out.more (Nat.le_succ _))⟩
  | false =>
    rw [orStop_no hs, orTick_no hs]
    rw [stopE_no hs] at C
    have CH := Lib.hid C
    have HG := Lib.hid hgt
    have DS := Lib.hid (fun (w1 : World) (h1 : VDT w T w1 base p v.tick os dp mb bn bs pv SD SF ps Ss) => (show Calls Tryz.prog 51 #[.pointer (some ⟨dp, 0, none⟩)] w1 (fun e w' => e = .returned (.tuple #[]) ∧ ∃ bn' bs' pv' SD', VDT w T w' base p v.tick.syncDir os dp mb bn' bs' pv' SD' SF ps Ss) by
      refine (dsync_any dp base N SD v.tick.d bn bs pv w1 h1.vd.dir hgt.d (by omega)).mono ?_
      rintro e w' ⟨rfl, hc⟩
      obtain ⟨bn', bs', pv', h2⟩ := h1.turnDir hc
      exact ⟨rfl, bn', bs', pv', _, h2⟩))
    have DR := Lib.hid (fun (w2 : World) (bn' bs' : Nat) (pv' : Value) (SD' : Nat → Prop) (h2 : VDT w T w2 base p v.tick.syncDir os dp mb bn' bs' pv' SD' SF ps Ss) => (show Calls Tryz.prog 52 #[.pointer (some ⟨p, 0, none⟩)] w2 (fun e w' => e = .returned (.tuple #[]) ∧ VOut w T base p v.tick.syncDir (N + 1) w') by
      refine (vdrop_any h2 hgt.d.riseN hgt.d.okn (by have := hgt.d.now; show v.tick.d.now.length ≤ 1000; omega)).mono ?_
      rintro e w' ⟨rfl, Ss', h3⟩
      exact ⟨rfl, h3.vout (hgt.syncDir.more (Nat.le_succ _))⟩))
    clear hv C hg hgt hs
    go_enter Tryz.func18, Tryz.ntmps18
    go_wp2_with (first
      | (go_at_call 50; refine CH.out.mono ?_; rintro e w1 ⟨rfl, hx⟩; have HX := Lib.hid hx; obtain ⟨c0, -, -, -, -, -, -, -, -, -, -, -⟩ := hx.vd.cells; clear hx)
      | (go_at_call 51; refine (DS.out _ HX.out).mono ?_; rintro e w2 ⟨rfl, bn', bs', pv', SD', hy⟩; have HY := Lib.hid hy; clear hy)
      | (go_at_call 52; refine (DR.out _ _ _ _ _ HY.out).mono ?_; rintro e w3 ⟨rfl, hz⟩; have HZ := Lib.hid hz; clear hz))
    go_ret
    exact ⟨rfl, HZ.out⟩
end

end Go.Proofs.YtclglbddibjenaaGreat
