/-
  LAYER 8: WHAT Crash DOES: its contract.
-/
import Derived.Test.YtclglbddibjenaaGreatVdCrash
set_option linter.unusedVariables false
set_option linter.unusedSimpArgs false
set_option maxRecDepth 100000
namespace Go.Proofs.YtclglbddibjenaaGreat
open Go.RowKit Go.Shelf Go.Maps Go.Sort

/-- At the head of each round: the new disk, with the files below i, j of them. -/
structure CrL (w wr : World) (base kb P dq mbP bn bs : Nat) (pv : Value) (SD SF : Nat → Prop) (psN : List Nat) (SsN : List (Nat → Prop)) (v : VS) (os : OsL) (ks : List Bool) (j i : Nat) (A : Option Addr) (m c : Nat) : Prop where
  below : Below w.heap.size w wr
  bas : base ≤ w.heap.size
  blk : Blk wr P 58 (diskC dq mbP (v.crash ks) os.length)
  dir : CD wr base SD dq (v.crash ks).d bn bs pv
  map : FMap wr mbP j (lookP psN (firstO (crashO ks v.d.ops.length os) i))
  pile : Pile base (OF base) wr SF psN SsN (firstO (crashO ks v.d.ops.length os) i)
  lo : ∀ k, (k = P ∨ k = mbP ∨ SD k ∨ SF k) → w.heap.size < k
  fsz : ∀ k, SF k → k < wr.heap.size
  pd : ¬ SD P
  pf : ¬ SF P
  md : ¬ SD mbP
  mf : ¬ SF mbP
  df : ∀ k, SD k → ¬ SF k
  kbe : kb = w.heap.size
  kbx : KB wr kb base ks (v.d.ops.length + looseO (os.take i)) A m c
  ile : i ≤ os.length
  jle : j ≤ i
def CrX (w wr : World) (base kb P dq mbP : Nat) (v : VS) (os : OsL) (ks : List Bool) (j i : Nat) : Prop := ∃ bn bs pv SD SF psN SsN A m c, CrL w wr base kb P dq mbP bn bs pv SD SF psN SsN v os ks j i A m c

section
variable {w wr wC wD wE w' : World} {base kb P dq mbP bn bs q N : Nat} {pv nv sv qv : Value} {SD SF Sn : Nat → Prop} {psN : List Nat} {SsN : List (Nat → Prop)} {v : VS} {os : OsL} {ks : List Bool} {j i a : Nat} {A A2 : Option Addr} {m c m2 c2 : Nat}

theorem CrL.cells (h : CrL w wr base kb P dq mbP bn bs pv SD SF psN SsN v os ks j i A m c) : wr.cell? ⟨P, 1, none⟩ = some (.map (some mbP)) := (diskCells h.blk).c1
theorem CrL.next {f : FS} (h : CrL w wr base kb P dq mbP bn bs pv SD SF psN SsN v os ks j i A m c) (hi : i ≤ a) (ha : os[a]? = some (some f)) (hn : ∀ b, i ≤ b → b < a → os[b]? = some none)
    (hC : Chg (fun k => k = kb) wr wC) (hkb : KB wC kb base ks (v.d.ops.length + looseO (os.take a) + f.ops.length) A2 m2 c2) (hD : Below wC.heap.size wC wD)
    (hcf : CF wD base (fun k => wC.heap.size ≤ k ∧ k < wD.heap.size) q (f.crash (ks.drop (v.d.ops.length + looseO (os.take a)))) nv sv qv)
    (hm : FMap wE mbP (j + 1) (fun x => if x = (a : Int) then some q else lookP psN (firstO (crashO ks v.d.ops.length os) i) x)) (hE : Chg (fun k => k = mbP) wD wE) :
    CrX w wE base kb P dq mbP v os ks (j + 1) (a + 1) := by
  have hal := (List.getElem?_eq_some_iff.1 ha).1
  have hkbe := h.kbe
  have nP : P ≠ kb := by have := h.lo P (.inl rfl); omega
  have nM : mbP ≠ kb := by have := h.lo mbP (.inr (.inl rfl)); omega
  have nPM : mbP ≠ P := h.map.ne_blk h.blk
  have hCD : Chg (fun k => k = kb) wr wD := hC.trans (Chg.of_below hD (Nat.le_refl _) (fun _ => False)) (fun _ _ hf => hf.elim)
  have hCE : Chg (fun k => k = kb ∨ k = mbP) wr wE := (hCD.mono (fun _ _ e => .inl e)).trans hE (fun _ _ e => .inr e)
  have hlt := h.blk.lt
  have hmlt := h.map.lt
  have hsC := hC.size
  have hsD := hD.size
  have hsE := hE.size
  have hcO : (crashO ks v.d.ops.length os)[a]? = some (some (f.crash (ks.drop (v.d.ops.length + looseO (os.take a))))) := by rw [crashO_get, ha]; rfl
  have hcN : ∀ b, i ≤ b → b < a → (crashO ks v.d.ops.length os)[b]? = some none := fun b h1 h2 => by rw [crashO_get, hn b h1 h2]; rfl
  have hst := firstO_step hi hcO hcN
  have hfn : (firstO (crashO ks v.d.ops.length os) i)[a]? = some none := by rw [firstO_get, if_neg (by omega), if_pos (by rw [crashO_length]; exact hal)]
  have hpl : psN.length = (firstO (crashO ks v.d.ops.length os) i).length := h.pile.lenP
  refine ⟨bn, bs, pv, SD, (fun k => SF k ∨ (wC.heap.size ≤ k ∧ k < wD.heap.size)), psN.set a q, SsN.set a (fun k => wC.heap.size ≤ k ∧ k < wD.heap.size), A2, m2, c2, ?_, h.bas, h.blk.chg hCE ?_, h.dir.keep hCE ?_, ?_, ?_, ?_, ?_, h.pd, ?_, h.md, ?_, ?_, hkbe, ?_, by omega, by have := h.jle; omega⟩
  · refine h.below.trans (hCE.below h.below.size (fun k _ e => ?_))
    rcases e with rfl | rfl
    · omega
    · have := h.lo _ (.inr (.inl rfl)); omega
  · rintro (e | e)
    · exact nP e
    · exact nPM e.symm
  · rintro k hk (rfl | rfl)
    · have := h.lo _ (.inr (.inr (.inl hk))); omega
    · exact h.md hk
  · rw [hst]
    exact hm.congr (lookP_fill hfn hpl)
  · rw [hst]
    refine pile_fill (h.pile.keep (ofThing base) hCE (fun k hk e => ?_)) hfn ⟨nv, sv, qv, hcf.keep hE (fun k hk e => ?_)⟩ (fun k hk hs => ?_) (fun _ hk => .inl hk) (fun _ hk => .inr hk)
    · rcases e with rfl | rfl
      · have := h.lo _ (.inr (.inr (.inr hk))); omega
      · exact h.mf hk
    · subst e; have := hk.1; omega
    · have := h.fsz k hs; have := hk.1; omega
  · rintro k (e | e | e | e)
    · exact h.lo k (.inl e)
    · exact h.lo k (.inr (.inl e))
    · exact h.lo k (.inr (.inr (.inl e)))
    · rcases e with e | e
      · exact h.lo k (.inr (.inr (.inr e)))
      · have := h.lo P (.inl rfl); have := e.1; omega
  · rintro k (e | e)
    · have := h.fsz k e; omega
    · have := e.2; omega
  · rintro (e | e)
    · exact h.pf e
    · have := e.1; omega
  · rintro (e | e)
    · exact h.mf e
    · have := e.1; omega
  · rintro k hk (e | e)
    · exact h.df k hk e
    · have := (h.dir.foot k hk).2; have := e.1; omega
  · rw [looseO_take_one ha]
    rw [← Nat.add_assoc]
    refine (hkb.below hD).keep hE (fun k hk => ?_)
    subst hk
    have := h.lo k (.inr (.inl rfl))
    have := h.bas
    exact ⟨by omega, nM⟩
theorem CrL.later (h : CrL w wr base kb P dq mbP bn bs pv SD SF psN SsN v os ks j i A m c) (hb : Below wr.heap.size wr w') : CrL w w' base kb P dq mbP bn bs pv SD SF psN SsN v os ks j i A m c :=
  ⟨h.below.trans (hb.mono h.below.size), h.bas, h.blk.chg (Chg.of_below hb (Nat.le_refl _) (fun _ => False)) (fun h => h), h.dir.below hb, h.map.below hb, h.pile.below (ofThing base) hb, h.lo, fun k hk => by have := h.fsz k hk; have := hb.size; omega, h.pd, h.pf, h.md, h.mf, h.df, h.kbe, h.kbx.below hb, h.ile, h.jle⟩
/-- All have come. -/
theorem CrL.out (h : CrL w wr base kb P dq mbP bn bs pv SD SF psN SsN v os ks j i A m c) (hn : ∀ b, i ≤ b → b < os.length → os[b]? = some none) :
    VDT w (fun _ => False) wr base P (v.crash ks) (crashO ks v.d.ops.length os) dq mbP bn bs pv SD SF psN SsN := by
  have hall : firstO (crashO ks v.d.ops.length os) i = crashO ks v.d.ops.length os := firstO_all (fun b h1 h2 => by rw [crashO_length] at h2; rw [crashO_get, hn b h1 h2]; rfl)
  have hmap := h.map
  have hpile := h.pile
  rw [hall] at hmap hpile
  have hb := h.bas
  refine ⟨fun k hk => hk.elim, h.bas, Chg.of_below h.below (Nat.le_refl _) _, fun k hk => ?_, by have := h.below.size; omega, by rw [crashO_length]; exact h.blk, h.dir, hmap.more (by rw [crashO_length]; have := h.jle; have := h.ile; omega), hpile, .inr ?_, .inr ?_, fun k hk => .inr ?_, fun k hk => .inr ?_, h.pd, h.pf, h.md, h.mf, h.df⟩
  · rcases hk with hk | hk
    · exact hk.elim
    · have := hk.1; have := hk.2; omega
  · have := h.lo P (.inl rfl); have := h.blk.lt; omega
  · have := h.lo mbP (.inr (.inl rfl)); have := h.map.lt; omega
  · have := h.lo k (.inr (.inr (.inl hk))); have := (h.dir.foot k hk).2; omega
  · have := h.lo k (.inr (.inr (.inr hk))); have := h.fsz k hk; omega
/-- Nothing has come yet. -/
theorem CrL.start {w1 w2 w3 w4 w6 : World} {dpN bnN bsN pc : Nat} {pvN : Value} {SDn SFn : Nat → Prop} {ps0 : List Nat} {Ss0 : List (Nat → Prop)} (hbas : base ≤ w.heap.size) (h0 : 0 ≤ v.room) (hw1 : w1.heap.size = w.heap.size + 1) (hb1 : Below w.heap.size w w1)
    (hN : VDT w1 (fun _ => False) w2 base P (VS.new v.room) [] dpN mbP bnN bsN pvN SDn SFn ps0 Ss0) (h3 : Chg (fun k => k = w.heap.size) w2 w3) (hkb : KB w3 w.heap.size base ks v.d.ops.length A m c)
    (h4 : Below w3.heap.size w3 w4) (hcd : CD w4 base (fun k => w3.heap.size ≤ k ∧ k < w4.heap.size) pc (v.d.crash cfT ks) bn bs pv) (h6 : w6 = (w4.setCell ⟨P, 0, none⟩ (.pointer (some ⟨pc, 0, none⟩))).setCell ⟨P, 2, none⟩ (.int .i64 (os.length : Int))) :
    CrX w w6 base w.heap.size P pc mbP v os ks 0 0 := by
  have hP := hN.vd.inp
  have hM := hN.vd.inm
  have hPl : w.heap.size < P ∧ P < w2.heap.size := by
    rcases hP with h | h
    · exact h.elim
    · omega
  have hMl : w.heap.size < mbP ∧ mbP < w2.heap.size := by
    rcases hM with h | h
    · exact h.elim
    · omega
  have hpm := hN.vd.pm
  have hs3 := h3.size
  have hs4 := h4.size
  have hc6 : Chg (fun k => k = P) w4 w6 := by
    rw [h6]
    exact (chg_cell w4 P 0 _).setCell (.inr rfl) _
  have h34 : Chg (fun k => k = w.heap.size) w2 w4 := h3.trans (Chg.of_below h4 (Nat.le_refl _) (fun _ => False)) (fun _ _ hf => hf.elim)
  have hb2 : Below w.heap.size w w2 := hb1.trans ((hN.chg.below (Nat.le_refl _) (fun _ _ hf => hf.elim)).mono (by omega))
  have hb6 : Below w.heap.size w w6 := (hb2.trans (h34.below hb2.size (fun k _ e => by have e : k = w.heap.size := e; omega))).trans (hc6.below (by have := hb2.size; have := h34.size; omega) (fun k _ e => by have e : k = P := e; omega))
  have hbl4 := hN.vd.blk.chg h34 (fun e => by have e : P = w.heap.size := e; omega)
  have hbl6 : Blk w6 P 58 (diskC pc mbP (v.crash ks) os.length) := by
    have := (hbl4.set_ 0 (.pointer (some ⟨pc, 0, none⟩))).set_ 2 (.int .i64 (os.length : Int))
    rw [← h6] at this
    have hr : (VS.new v.room).room = v.room := by unfold VS.new; simp only; rw [if_neg (by omega)]
    unfold diskC at this ⊢
    rw [hr] at this
    exact this
  refine ⟨bn, bs, pv, (fun k => w3.heap.size ≤ k ∧ k < w4.heap.size), (fun _ => False), List.replicate os.length 0, List.replicate os.length (fun _ => False), A, m, c, hb6, hbas, hbl6, hcd.keep hc6 (fun k hk e => ?_), ?_, ?_, ?_, fun k hk => hk.elim, fun hk => ?_, fun hk => hk, fun hk => ?_, fun hk => hk, fun k _ hk => hk, rfl, ?_, Nat.zero_le _, Nat.zero_le _⟩
  · have e : k = P := e
    have := hk.1; omega
  · refine ((hN.vd.map.chg h34 (fun e => by have e : mbP = w.heap.size := e; omega)).chg hc6 hpm).congr (lookP_ext fun k => ?_)
    rw [lookP_none (by
      rw [firstO_zero, List.getElem?_replicate]
      split
      · exact .inl rfl
      · exact .inr rfl), lookP_none (.inr rfl)]
  · rw [firstO_zero, crashO_length]
    exact pile_none _ _ _
  · rintro k (e | e | e | e)
    · omega
    · omega
    · have := e.1; omega
    · exact e.elim
  · have := hk.1; omega
  · have := hk.1; omega
  · rw [List.take_zero, show looseO ([] : OsL) = 0 from rfl, Nat.add_zero]
    exact (hkb.below h4).keep hc6 (fun k hk => by have hk : k = P := hk; subst hk; exact ⟨by omega, by omega⟩)
end

/-- Which numbers are left. -/
structure LeftAt (L : List Nat) (os : OsL) (j i : Nat) : Prop where
  up : ∀ t a, j ≤ t → L[t]? = some a → i ≤ a
  all : ∀ b f, i ≤ b → os[b]? = some (some f) → ∃ t : Nat, j ≤ t ∧ L[t]? = some b
theorem LeftAt.none_ {L : List Nat} {os : OsL} {j i a : Nat} (h : LeftAt L os j i) (hL : L.Pairwise (· < ·)) (ha : L[j]? = some a) (hal : a ≤ os.length) : ∀ b, i ≤ b → b < a → os[b]? = some none := fun b h1 h2 => by
  have hb : b < os.length := by omega
  rw [List.getElem?_eq_getElem hb]
  cases hc : os[b] with
  | none => rfl
  | some f =>
    obtain ⟨t, ht, he⟩ := h.all b f h1 (by rw [List.getElem?_eq_getElem hb, hc])
    obtain ⟨l1, e1⟩ := List.getElem?_eq_some_iff.1 ha
    obtain ⟨l2, e2⟩ := List.getElem?_eq_some_iff.1 he
    rcases Nat.eq_or_lt_of_le ht with e | e
    · subst e; omega
    · have := List.pairwise_iff_getElem.1 hL j t l1 l2 e
      omega
theorem LeftAt.next {L : List Nat} {os : OsL} {j i a : Nat} (h : LeftAt L os j i) (hL : L.Pairwise (· < ·)) (ha : L[j]? = some a) : LeftAt L os (j + 1) (a + 1) := by
  obtain ⟨l1, e1⟩ := List.getElem?_eq_some_iff.1 ha
  have hia := h.up j a (Nat.le_refl _) ha
  refine ⟨fun t x ht hx => ?_, fun b f hb hf => ?_⟩
  · obtain ⟨l2, e2⟩ := List.getElem?_eq_some_iff.1 hx
    have := List.pairwise_iff_getElem.1 hL j t l1 l2 (by omega)
    omega
  · obtain ⟨t, ht, he⟩ := h.all b f (by omega) hf
    refine ⟨t, ?_, he⟩
    rcases Nat.eq_or_lt_of_le ht with e | e
    · subst e; rw [ha] at he; injection he with he; omega
    · omega
theorem LeftAt.done_ {L : List Nat} {os : OsL} {j i : Nat} (h : LeftAt L os j i) (hj : L.length ≤ j) : ∀ b, i ≤ b → b < os.length → os[b]? = some none := fun b h1 h2 => by
  rw [List.getElem?_eq_getElem h2]
  cases hc : os[b] with
  | none => rfl
  | some f =>
    obtain ⟨t, ht, he⟩ := h.all b f h1 (by rw [List.getElem?_eq_getElem h2, hc])
    have := (List.getElem?_eq_some_iff.1 he).1
    omega

set_option maxHeartbeats 4000000 in
theorem vcrash_any (p base N : Nat) (T : Nat → Prop) (v : VS) (os : OsL) (K : Option Addr) (m d : Nat) (ks : List Bool) (w : World) (h : VX w base T p v os) (hg : GoodV v os N) (hN : N ≤ 1000) (hr : Reads w base 1 K m (cellsB ks)) (hmd : m ≤ d) (hdc : d ≤ 9223372036854775807) :
    Calls Tryz.prog 19 #[.pointer (some ⟨p, 0, none⟩), .slice K m d] w fun e w' => ∃ P, e = .returned (.pointer (some ⟨P, 0, none⟩)) ∧ Hid (VOut w (fun _ => False) base P (v.crash ks) N w') := by
  obtain ⟨dp, mb, bn, bs, pv, SD, SF, ps, Ss, hv0⟩ := h
  have hv := VDT.start hv0
  have hbas := hv0.bas
  obtain ⟨w1, hw1⟩ : ∃ w1, w1 = w.alloc (.cells #[.slice K m d] 30) := ⟨_, rfl⟩
  have hs1 : w1.heap.size = w.heap.size + 1 := by rw [hw1]; simp
  have hb1 : Below w.heap.size w w1 := by rw [hw1]; exact (Below.refl _ _).alloc (Nat.le_refl _) _
  have hk1 : KB w1 w.heap.size base ks 0 K m d := ⟨by rw [hw1]; exact Blk.new _ _ _, by rw [List.drop_zero]; exact hr.below (hb1.mono hbas), hmd, hdc, hbas⟩
  have hv1 := hv.below hb1
  obtain ⟨c0, c1, c2, c3, -, -, -, -, -, -, -, -⟩ := hv1.vd.cells
  obtain ⟨n, hn⟩ : ∃ n, n = os.length := ⟨_, rfl⟩
  rw [← hn] at c2
  have M := Lib.hid (vmade_yes p mb w1 c1)
  have NW := Lib.hid (vnew_any v.room w1 base (by omega) (by have := hg.r0; omega) hg.r1)
  obtain ⟨Ap, cp, rfl, -, -⟩ := own_form hv0.dir.pend
  obtain ⟨pn, hpn⟩ : ∃ pn, pn = v.d.ops.length := ⟨_, rfl⟩
  have hpn9 : pn ≤ 9000000000000 := by have := hg.d.safe; omega
  have HC := Lib.hid (fun (wz : World) (hb : Below w.heap.size w wz) => (show wz.cell? ⟨p, 0, none⟩ = some (.pointer (some ⟨dp, 0, none⟩)) ∧ wz.cell? ⟨p, 1, none⟩ = some (.map (some mb)) ∧ wz.cell? ⟨p, 2, none⟩ = some (.int .i64 n) from ⟨(hv.below hb).vd.cells.c0, (hv.below hb).vd.cells.c1, by rw [hn]; exact (hv.below hb).vd.cells.c2⟩))
  have PD := Lib.hid (fun (wz : World) (hb : Below w.heap.size w wz) => dpend_any dp bn pn Ap cp wz ((hv.below hb).vd.dir.cells (Below.refl _ _)).1 (by rw [hpn]; exact ((hv.below hb).vd.dir.cells (Below.refl _ _)).2.2.1))
  have DC := Lib.hid (fun (wz : World) (hb : Below w.heap.size w wz) (A1 : Option Addr) (n1 q1 : Nat) (hr1 : Reads wz base 1 A1 n1 (cellsB (ks.take pn))) (h1 : n1 ≤ q1) (h2 : q1 ≤ 9223372036854775807) =>
    (show Calls Tryz.prog 54 #[.pointer (some ⟨dp, 0, none⟩), .slice A1 n1 q1] wz (CDnew base (v.d.crash cfT ks) wz) by
      have := dcrash_any dp A1 n1 q1 (ks.take pn) base base N SD v.d bn bs _ wz (hv.below hb).vd.dir hr1 (by have := hb.size; omega) h1 h2 hg.d (by omega)
      rw [hpn, dcrash_take] at this
      rw [hpn] at hr1
      exact this))
  have HV := Lib.hid hv
  have HG := Lib.hid hg
  have H1 := Lib.hid (And.intro hs1 (And.intro hb1 (And.intro hk1 hbas)))
  have HPN := Lib.hid hpn
  have HNN := Lib.hid hn
  clear hv0 hv hg hs1 hb1 hk1 hv1 hr hmd hdc hpn hn hbas
  subst hw1
  go_enter Tryz.func19, Tryz.ntmps19
  go_wp2_with (first
    | (go_at_call 43; refine M.out.mono ?_; rintro e w9 ⟨rfl, rfl⟩)
    | (go_at_call 8; go_loud (refine NW.out.mono ?_; rintro e w2 ⟨P, rfl, hx⟩; obtain ⟨dpN, mbP, bnN, bsN, pvN, SDn, SFn, ps0, Ss0, hN⟩ := hx.out; have HNW := Lib.hid hN; clear hN hx)))
  have hb2 : Below w.heap.size w w2 := H1.out.2.1.trans (((HNW.out.chg).below (Nat.le_refl _) (fun _ _ hf => hf.elim)).mono (by have := H1.out.1; omega))
  have hbd : Below w.heap.size w w2.drew := below_drewn hb2 1
  have kc := (HC.out _ hbd).1
  have hkd : KB w2.drew w.heap.size base ks 0 K m d := H1.out.2.2.1.below (below_drewn ((HNW.out.chg).below (Nat.le_refl _) (fun _ _ hf => hf.elim)) 1)
  have HKD := Lib.hid hkd
  have hP : w.heap.size < P ∧ P < w2.heap.size ∧ p < w.heap.size := by
    have h1 := H1.out.1
    have h2 := HV.out.vd.blk.lt
    rcases HNW.out.vd.inp with h | h
    · exact h.elim
    · omega
  have HPP := Lib.hid hP
  clear c0 c1 c2 c3 hkd M NW hP
  go_region_held3 (fun w' => w'.cell? ⟨p, 0, none⟩ = some (.pointer (some ⟨dp, 0, none⟩)))
    (first | assumption | exact kc)
    (first
      | (go_at_call 46; go_loud (refine (PD.out _ hbd).mono ?_; rintro e w9 ⟨rfl, rfl⟩))
      | (go_at_call 53; go_loud (refine (next_any w.heap.size base 0 m d pn ks K _ HKD.out hpn9).mono ?_; rintro e wC ⟨A1, n1, q1, A2, m2, c2, rfl, hx⟩; have HXC := Lib.hid hx.out; have hbC : Below w.heap.size w wC := hbd.trans (hx.out.2.2.2.1.below hbd.size (fun k _ e => Nat.le_of_eq e.symm)); have kC := (HC.out _ hbC).1; clear hx))
      | (go_at_call 54; go_loud (refine (DC.out _ hbC A1 n1 q1 (by have := HXC.out.1; rwa [List.drop_zero] at this) HXC.out.2.1 HXC.out.2.2.1).mono ?_; rintro e wD ⟨pc, bn', bs', pv', rfl, hbx, hcd⟩; have hbD : Below w.heap.size w wD := hbC.trans (hbx.mono hbC.size); obtain ⟨kD, kD1, kD2⟩ := HC.out _ hbD; obtain ⟨e0, e2, g0, g2⟩ : wD.cell? ⟨P, 0, none⟩ = some (.pointer (some ⟨dpN, 0, none⟩)) ∧ wD.cell? ⟨P, 2, none⟩ = some (.int .i64 0) ∧ wD.frozen? ⟨P, 0, none⟩ = false ∧ wD.frozen? ⟨P, 2, none⟩ = false := (by
          have hbl := ((HNW.out.vd.blk.chg (w' := wC) (S := fun k => k = w.heap.size) HXC.out.2.2.2.1.drew0 (fun e => by have e : P = w.heap.size := e; have := HPP.out.1; omega))).chg (Chg.of_below hbx (Nat.le_refl _) (fun _ => False)) (fun h => h)
          exact ⟨hbl.cell 0, hbl.cell 2, hbl.frozen 0, hbl.frozen 2⟩); have kS : (wD.setCell ⟨P, 0, none⟩ (.pointer (some ⟨pc, 0, none⟩))).cell? ⟨p, 0, none⟩ = some (.pointer (some ⟨dp, 0, none⟩)) := (by rw [World.cell?_setCell_other _ _ _ _ (fun e => by injection e with e _; have := HPP.out; omega)]; exact kD); have HCD := Lib.hid (And.intro hbx hcd); clear hbx hcd)))
  clear kc kC kS hbd PD DC
  obtain ⟨ln, hln⟩ : ∃ ln, ln = (liveL ps os).length := ⟨_, rfl⟩
  have HLN := Lib.hid hln
  have hln9 : ln ≤ 1000 := by have := liveL_length ps os; have := HG.out.len; have := HG.out.few; omega
  clear hln
  go_wp2_with (first
    | (go_at_call 56; go_loud (
        generalize hW : World.setCell (World.setCell wD ⟨P, 0, none⟩ (.pointer (some ⟨pc, 0, none⟩))) ⟨P, 2, none⟩ (.int .i64 (n : Int)) = w6
        have hcr : CrX w w6 base w.heap.size P pc mbP v os ks 0 0 := CrL.start H1.out.2.2.2 HG.out.r0 H1.out.1 H1.out.2.1 HNW.out HXC.out.2.2.2.1.drew0 (by have := HXC.out.2.2.2.2; rwa [Nat.zero_add, HPN.out] at this) HCD.out.1 HCD.out.2 (by rw [← hW, HNN.out])
        have HCR := Lib.hid hcr
        have hb6 : Below w.heap.size w w6 := by obtain ⟨_, _, _, _, _, _, _, _, _, _, h⟩ := hcr; exact h.below
        have SO0 := sortedF_any mb os.length ps os w6 (HV.out.below hb6).vd.map (by have := HG.out.len; have := HG.out.few; omega)
        rw [← HLN.out] at SO0
        have SO := Lib.hid SO0
        clear hcr hb6 SO0 hW kD1 kD2 kD e0 e2 g0 g2
        refine (keysF_any _ w6).mono ?_; rintro e w9 ⟨rfl, rfl⟩))
    | (go_at_call 55; go_loud (refine SO.out.mono ?_; rintro e w8 ⟨A, c, rfl, hx⟩; have H8 := Lib.hid hx.out; clear hx)))
  have HL0 := Lib.hid (show LeftAt (liveL ps os) os 0 0 from ⟨fun _ _ _ _ => Nat.zero_le _, fun b f _ hf => by
    obtain ⟨q, _, _, _, _, _, _, _, _, hlk⟩ := HV.out.vd.file hf
    obtain ⟨t, ht, e⟩ := List.mem_iff_getElem.1 (liveL_mem.2 (by rw [hlk]; rfl) : b ∈ liveL ps os)
    exact ⟨t, Nat.zero_le _, by rw [List.getElem?_eq_getElem ht, e]⟩⟩)
  have HCR8 := Lib.hid (show CrX w w8 base w.heap.size P pc mbP v os ks 0 0 from by
    obtain ⟨a1, a2, a3, a4, a5, a6, a7, a8, a9, a10, h⟩ := HCR.out
    exact ⟨a1, a2, a3, a4, a5, a6, a7, a8, a9, a10, h.later H8.out.2⟩)
  have H86 := Lib.hid (show w.heap.size < w6.heap.size ∧ mbP < w6.heap.size from by
    obtain ⟨a1, a2, a3, a4, a5, a6, a7, a8, a9, a10, h⟩ := HCR.out
    exact ⟨h.kbx.blk.lt, h.map.lt⟩)
  clear HCR SO HXC HCD HNW hbC hb2 HPP H1
  go_loopw [8, 9, 48] (fun _ _ i wr => ∃ j : Nat, j ≤ ln ∧ i = .int .i64 j ∧ Hid (∃ i', CrX w wr base w.heap.size P pc mbP v os ks j i' ∧ LeftAt (liveL ps os) os j i' ∧ Chg (fun k => k = w.heap.size ∨ k = mbP) w8 wr)) (fun _ _ i _ => ln - (RowKit.intOf i).toNat)
  case atStart => exact ⟨0, Nat.zero_le _, rfl, Lib.hid ⟨0, HCR8.out, HL0.out, Chg.refl _ _⟩⟩
  case round =>
    clear HCR8 HL0
    obtain ⟨j, hj, rfl, H⟩ := hrel
    obtain ⟨i', hcx, hla, h8r⟩ := H.out
    obtain ⟨b1, b2, b3, SD', SF', psN, SsN, Ak, mk, ck, hcl⟩ := hcx
    have hvr := HV.out.below hcl.below
    obtain ⟨c0, c1, -, -, -, -, -, -, -, -, -, -⟩ := hvr.vd.cells
    have hp1 := hcl.cells
    by_cases hlt : j < ln
    · obtain ⟨a, hLa⟩ : ∃ a, (liveL ps os)[j]? = some a := ⟨_, List.getElem?_eq_getElem (by rw [← HLN.out]; exact hlt)⟩
      have hmem : a ∈ liveL ps os := List.mem_of_getElem? hLa
      obtain ⟨q, hq⟩ := Option.isSome_iff_exists.1 (liveL_mem.1 hmem)
      obtain ⟨k', f, S, Af, cf, svf, Bf, df, hak, hof, hpq, hSs, hfa, hcf⟩ := hvr.found HG.out hq
      obtain rfl : a = k' := by omega
      have hal := (List.getElem?_eq_some_iff.1 hof).1
      have hvf := HG.out.live a f hof
      have hfg := HG.out.fs f (List.mem_of_getElem? hvf)
      have hwf := wf_k HG.out (by omega) hvf
      have hrow := own_chg H8.out.1 h8r (fun g hg => by
        have h1 := (H8.out.1.lt g hg).1
        have h2 := H86.out
        rintro (e | e) <;> omega)
      have hz : (liveZ ps os).map encZ ≠ [] := fun e => by
        have : ((liveZ ps os).map encZ).length = 0 := by rw [e]; rfl
        unfold liveZ at this
        simp at this
        rw [this] at hLa
        simp at hLa
      obtain ⟨g, cap, hvv, -⟩ := hrow.form (by omega)
      injection hvv with hv1 hv2 hv3
      subst hv1
      clear hv2 hv3
      have hcl0 := hrow.cells (g := g) rfl j (.int .i64 (a : Int)) (by unfold liveZ; rw [List.getElem?_map, List.getElem?_map, hLa]; rfl)
      have hpl : (⟨g, 0, none⟩ : Addr).add j = ⟨g, j, none⟩ := by unfold Addr.add; split <;> simp_all
      rw [hpl] at hcl0
      have hia := hla.up j a (Nat.le_refl _) hLa
      have hno := hla.none_ (liveL_rise ps os) hLa (by omega)
      have hnx := hla.next (liveL_rise ps os) hLa
      obtain ⟨F, hF⟩ : ∃ F, F = v.d.ops.length + looseO (os.take a) := ⟨_, rfl⟩
      have hkb := hcl.kbx
      rw [← looseO_take_step hia (by omega) hno, ← hF] at hkb
      obtain ⟨pf, hpf⟩ : ∃ pf, pf = f.ops.length := ⟨_, rfl⟩
      have hpf9 : pf ≤ 9000000000000 := by have := hfg.few; omega
      have hbd : Below wr.heap.size wr wr.drew := below_drewn (Below.refl _ _) 1
      have hkb2 := hkb.below hbd
      have PF := Lib.hid (fpend_any q pf Bf df wr.drew (by rw [hpf]; exact ((hcf.below hbd).blk.cell 2)))
      have HKB := Lib.hid hkb2
      have HQ := Lib.hid (show Value.pointer (some ⟨q, 0, none⟩) = ptrV (lookP ps os (a : Int)) by rw [hq]; rfl)
      have HWF := Lib.hid hwf
      have HM := Lib.hid hvr.vd.map
      have HS := Lib.hid (fun (wz : World) (S' : Nat → Prop) (hc : Chg S' wr.drew wz) (hn : ¬ S' P) => ((hcl.blk.chg (hc.drew0) hn).cell 1 : wz.cell? ⟨P, 1, none⟩ = some (.map (some mbP))))
      have FC := Lib.hid (fun (wC : World) (hc : Chg (fun k => k = w.heap.size) wr.drew wC) (A1 : Option Addr) (n1 q1 : Nat) (hr1 : Reads wC base 1 A1 n1 (cellsB ((ks.drop F).take pf))) (h1 : n1 ≤ q1) (h2 : q1 ≤ 9223372036854775807) =>
        (show Calls Tryz.prog 57 #[.pointer (some ⟨q, 0, none⟩), .slice A1 n1 q1] wC (CFnew base (f.crash (ks.drop F)) wC) by
          have hcfC := hcf.keep hc.drew0 (fun k hk e => by
            have h5 := HV.out.vd.file hof
            obtain ⟨q', S', _, _, _, e1, e2, h6, h7, h8⟩ := h5
            rw [hSs] at e2
            injection e2 with e2
            subst e2
            have := (h6.foot k hk).2
            have e : k = w.heap.size := e
            omega)
          have := fcrash_any q A1 n1 q1 ((ks.drop F).take pf) base base (N * 10) S f _ _ _ wC hcfC hr1 (hcfC.bas) h1 h2 hfg (by omega)
          rwa [hpf, fcrash_take] at this))
      have NX := Lib.hid (fun (wC wD : World) (A2 : Option Addr) (m2 c2 q' : Nat) (nv sv qv : Value) (hC : Chg (fun k => k = w.heap.size) wr.drew wC) (hkC : KB wC w.heap.size base ks (F + pf) A2 m2 c2) (hD : Below wC.heap.size wC wD) (hcfn : CF wD base (fun k => wC.heap.size ≤ k ∧ k < wD.heap.size) q' (f.crash (ks.drop F)) nv sv qv) =>
        (show wD.cell? ⟨P, 1, none⟩ = some (.map (some mbP)) ∧ ∃ wE, (Instr.mapUpdate 56 (.map (some mbP)) (.int .i64 (a : Int)) (.pointer (some ⟨q', 0, none⟩))).run Tryz.prog wD = .ok () wE ∧ wE.cell? ⟨P, 1, none⟩ = some (.map (some mbP)) ∧ Hid (∃ i', CrX w wE base w.heap.size P pc mbP v os ks (j + 1) i' ∧ LeftAt (liveL ps os) os (j + 1) i' ∧ Chg (fun k => k = w.heap.size ∨ k = mbP) w8 wE) from by
        have nPk : P ≠ w.heap.size := by have := hcl.lo P (.inl rfl); omega
        have nMk : mbP ≠ w.heap.size := by have := hcl.lo mbP (.inr (.inl rfl)); omega
        have hCD : Chg (fun k => k = w.heap.size) wr wD := hC.drew0.trans (Chg.of_below hD (Nat.le_refl _) (fun _ => False)) (fun _ _ hf => hf.elim)
        obtain ⟨wE, hrun, hm, hE⟩ := FMap.store (hcl.map.chg hCD nMk) (by have := hcl.jle; have := hcl.ile; have := HG.out.len; have := HG.out.few; omega) (a : Int) hwf q'
        have hbD := hcl.blk.chg hCD (fun e => nPk e)
        refine ⟨hbD.cell 1, wE, hrun, (hbD.chg hE (fun e => (hcl.map.ne_blk hcl.blk) e.symm)).cell 1, Lib.hid ⟨a + 1, ?_, hnx, ?_⟩⟩
        · rw [hF] at hcfn hkC
          rw [hpf] at hkC
          exact hcl.next hia hof hno hC.drew0 hkC hD hcfn hm hE
        · exact (h8r.trans hCD (fun _ _ e => .inl e)).trans hE (fun _ _ e => .inr e)))
      have hPk : ¬ P = w.heap.size := by have := hcl.lo P (.inl rfl); omega
      have hS0 := HS.out wr.drew (fun _ => False) (Chg.refl _ _) (fun h => h)
      have hlti : (j : Int) < (ln : Int) := by omega
      clear hLa hmem hq hof hpq hSs hfa hcf hal hvf hfg hwf hrow hz hpl hia hno hnx hF hkb hpf hbd hkb2 hvr hcl hla h8r H hp1
      go_wp2_with (at_lookup; go_loud (refine wpList_lookF _ rfl _ _ rfl mb _ _ HM.out rfl (a : Int) rfl HWF.out _ HQ.out ?_))
      go_region_held3 (fun w' => w'.cell? ⟨P, 1, none⟩ = some (.map (some mbP)))
        (first | assumption | exact hS0)
        (first
          | (go_at_call 47; go_loud (refine PF.out.mono ?_; rintro e w9 ⟨rfl, rfl⟩))
          | (go_at_call 53; go_loud (refine (next_any w.heap.size base F mk ck pf ks Ak _ HKB.out hpf9).mono ?_; rintro e wC ⟨A1, n1, q1, A2, m2, c2, rfl, hx⟩; have HXC := Lib.hid hx.out; have kC := HS.out wC _ hx.out.2.2.2.1 hPk; clear hx))
          | (go_at_call 57; go_loud (refine (FC.out wC HXC.out.2.2.2.1 A1 n1 q1 HXC.out.1 HXC.out.2.1 HXC.out.2.2.1).mono ?_; rintro e wD ⟨q', nv, sv, qv, rfl, hbx, hcfn⟩; obtain ⟨kD, wE, hrun, kE, HNX⟩ := NX.out wC wD A2 m2 c2 q' nv sv qv HXC.out.2.2.2.1 HXC.out.2.2.2.2 hbx hcfn; clear hbx hcfn)))
      clear kC kD hrun
      go_wp2
      go_roundw
      case rel => exact ⟨j + 1, by omega, by go_num, HNX⟩
      case measure => simp [RowKit.intOf]; omega
    · obtain rfl : j = ln := by omega
      have hlti : ¬ (j : Int) < (j : Int) := by omega
      have hdone := hla.done_ (by rw [← HLN.out]; exact Nat.le_refl _)
      have hout := hcl.out hdone
      have hgc := HG.out.crash ks
      have DRP := Lib.hid ((vdrop_any hout hgc.d.riseN hgc.d.okn (by have := hgc.d.now; omega)).mono (R' := fun e w' => e = .returned (.tuple #[]) ∧ VOut w (fun _ => False) base P (v.crash ks) N w') (fun e w' ⟨he, Ss', h3⟩ => ⟨he, h3.vout hgc⟩))
      clear hvr c0 c1 hp1 hcl hla h8r H hdone hout hgc
      go_wp2_with (go_at_call 52; go_loud (refine DRP.out.mono ?_; rintro e w9 ⟨rfl, hz⟩; have HZ := Lib.hid hz; clear hz))
      go_ret
      exact ⟨P, rfl, HZ⟩

end Go.Proofs.YtclglbddibjenaaGreat
