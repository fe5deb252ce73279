/-
  LAYER 8: A MAP OF FILES BY THEIR NUMBERS, AND ONE OF COUNTS, IN MEMORY: told by what is found under each number; what look-up, store and a deletion by a function do to it.
-/
import Derived.Test.YtclglbddibjenaaGreatVdInv
import Derived.Test.YtclglbddibjenaaGreatShelf
import Derived.Lib.SlMapFilter
import Derived.Lib.SlKeysI
set_option linter.unusedVariables false
set_option maxRecDepth 100000
namespace Go.Proofs.YtclglbddibjenaaGreat
open Go.RowKit Go.WideShapes
open Go.Maps (Keyed IsMap has_put_same has_put_other atKey_put_same atKey_put_other)

def keyI (i : Int) : Lit := .int .i64 i
theorem keyI_inj {i j : Int} (h : keyI i = keyI j) : i = j := by unfold keyI at h; injection h
theorem keyI_lit (i : Int) : WideAt.IsKeyLit (keyI i) := trivial
theorem intKeyed : Keyed Tryz.prog 3 := Maps.int_keyed Tryz.underlying3
theorem keyI_key {i : Int} (h : (Lit.int .i64 i).wf = true) : keyOf Tryz.prog 3 (.int .i64 i) = some (keyI i) := Maps.keyOf_int_mk Tryz.underlying3 h
theorem keyI_inv {v : Value} {kl : Lit} (h : keyOf Tryz.prog 3 v = some kl) : ∃ i, v = .int .i64 i ∧ kl = keyI i ∧ (Lit.int .i64 i).wf = true := Maps.keyOf_int_inv Tryz.underlying3 h

/-- How a pointer that is an element reads: by its block's number; nil by -1. -/
def ptrE (v : Value) : Option (DataW Unit × List MemPlace) :=
  match v with
  | .pointer none => some (.lit (.int .i64 (-1)), [])
  | .pointer (some ⟨p, 0, none⟩) => some (.lit (.int .i64 p), [])
  | _ => none
def ptrV (o : Option Nat) : Value := .pointer (o.map fun p => ⟨p, 0, none⟩)
theorem ptrE_inv {v : Value} {z : DataW Unit × List MemPlace} (h : ptrE v = some z) : (v = ptrV none ∧ z = (.lit (.int .i64 (-1)), [])) ∨ ∃ p : Nat, v = ptrV (some p) ∧ z = (.lit (.int .i64 p), []) := by
  unfold ptrE at h
  split at h
  · injection h with h; exact .inl ⟨rfl, h.symm⟩
  · injection h with h; exact .inr ⟨_, rfl, h.symm⟩
  · cases h
theorem ptrE_mk (p : Nat) : ptrE (ptrV (some p)) = some (.lit (.int .i64 p), []) := rfl
/-- .. of some of them alone. -/
def ptrQ (q : Nat → Bool) (v : Value) : Option (DataW Unit × List MemPlace) :=
  match v with
  | .pointer (some ⟨p, 0, none⟩) => if q p then some (.lit (.int .i64 p), []) else none
  | _ => none
theorem ptrQ_inv {q : Nat → Bool} {v : Value} {z : DataW Unit × List MemPlace} (h : ptrQ q v = some z) : ∃ p : Nat, v = ptrV (some p) ∧ q p = true ∧ z = (.lit (.int .i64 p), []) := by
  unfold ptrQ at h
  split at h
  · split at h
    · next hq => injection h with h; exact ⟨_, rfl, hq, h.symm⟩
    · cases h
  · cases h

/-- What a map reads as: under each number a pointer, or nothing. -/
structure TellsF (D : DataW Unit) (look : Int → Option Nat) : Prop where
  has : ∀ i : Int, Maps.has D (keyI i) = (look i).isSome
  at_ : ∀ i p, look i = some p → ∀ z, D.atKey (keyI i) z = .lit (.int .i64 p)
section
variable {D : DataW Unit} {look : Int → Option Nat}
theorem TellsF.nil : TellsF (.map []) (fun _ => none) := ⟨fun i => rfl, fun i p h => by cases h⟩
theorem TellsF.congr {look' : Int → Option Nat} (h : TellsF D look) (he : ∀ i, look' i = look i) : TellsF D look' := ⟨fun i => by rw [he]; exact h.has i, fun i p hp => h.at_ i p (by rw [← he]; exact hp)⟩
theorem TellsF.put (h : TellsF D look) (hm : IsMap D) (i : Int) (p : Nat) : TellsF (D.put (keyI i) (.lit (.int .i64 p))) (fun j => if j = i then some p else look j) := by
  refine ⟨fun j => ?_, fun j q hj z => ?_⟩
  · by_cases e : j = i
    · subst e; rw [has_put_same hm (keyI_lit _), if_pos rfl]; rfl
    · rw [has_put_other (fun hh => e (keyI_inj hh)), if_neg e, h.has]
  · by_cases e : j = i
    · subst e
      rw [if_pos rfl] at hj
      injection hj with hj
      rw [atKey_put_same hm (keyI_lit _), hj]
    · rw [if_neg e] at hj
      rw [atKey_put_other (fun hh => e (keyI_inj hh)), h.at_ j q hj]
theorem TellsF.get (h : TellsF D look) (i : Int) : D.atKey (keyI i) (.lit (.int .i64 (-1))) = .lit (.int .i64 (match look i with | some p => (p : Int) | none => -1)) := by
  cases hl : look i with
  | none =>
    have := h.has i
    rw [hl] at this
    rw [Maps.atKey_of_not_has this]
  | some p => rw [h.at_ i p hl]
/-- An entry is what is found under its number. -/
theorem TellsF.entry {es : List (Lit × DataW Unit)} (h : TellsF (.map es) look) (hp : es.Pairwise (fun p q => p.1 ≠ q.1)) {i : Int} {d : DataW Unit} (hm : (keyI i, d) ∈ es) : ∃ p : Nat, look i = some p ∧ d = .lit (.int .i64 p) := by
  have hh := h.has i
  have : Maps.has (.map es) (keyI i) = true := by
    rw [Maps.has_eq, List.any_eq_true]
    exact ⟨_, hm, WideAt.sameKey_self (keyI_lit i)⟩
  rw [this] at hh
  obtain ⟨p, hl⟩ := Option.isSome_iff_exists.1 hh.symm
  refine ⟨p, hl, ?_⟩
  rw [← h.at_ i p hl .nil]
  exact (WideAt.atKey_mem .nil (keyI_lit i) hp hm).symm
theorem TellsF.filt {es : List (Lit × DataW Unit)} (h : TellsF (.map es) look) (hp : es.Pairwise (fun p q => p.1 ≠ q.1)) (hk : ∀ p ∈ es, ∃ i, p.1 = keyI i) (pd : Lit → DataW Unit → Bool) :
    TellsF (Lib.deleteFuncD pd (.map es)) (fun i => match look i with | some p => if pd (keyI i) (.lit (.int .i64 p)) then none else some p | none => none) := by
  have hap2 : (es.filter fun p => !pd p.1 p.2).Pairwise (fun p q => p.1 ≠ q.1) := hp.filter _
  have key : ∀ i p, look i = some p → pd (keyI i) (.lit (.int .i64 p)) = false → (keyI i, DataW.lit (.int .i64 (p : Int))) ∈ es.filter fun p => !pd p.1 p.2 := fun i p hl hpd => by
    have hh := h.has i
    rw [hl] at hh
    rw [show (some p).isSome = true from rfl, Maps.has_eq, List.any_eq_true] at hh
    obtain ⟨q, hq, hs⟩ := hh
    have e := WideAt.sameKey_eq hs
    have hm : (keyI i, q.2) ∈ es := by rw [← e]; exact hq
    obtain ⟨p', hl', hd⟩ := h.entry hp hm
    rw [hl] at hl'
    injection hl' with hl'
    subst hl'
    rw [List.mem_filter]
    rw [hd] at hm
    exact ⟨hm, by simp [hpd]⟩
  refine ⟨fun i => ?_, fun i p hl z => ?_⟩
  · show (es.filter fun p => !pd p.1 p.2).any (fun p => p.1.sameKey (keyI i)) = _
    cases hl : look i with
    | none =>
      simp only [Option.isSome_none]
      rw [List.any_eq_false]
      intro q hq hs
      have e := WideAt.sameKey_eq hs
      have hq2 := (List.mem_filter.1 hq).1
      obtain ⟨p', hl', _⟩ := h.entry (i := i) (d := q.2) hp (by rw [← e]; exact hq2)
      rw [hl] at hl'; cases hl'
    | some p =>
      simp only
      cases hpd : pd (keyI i) (.lit (.int .i64 p)) with
      | false =>
        simp only [Bool.false_eq_true, if_false, Option.isSome_some]
        rw [List.any_eq_true]
        exact ⟨_, key i p hl hpd, WideAt.sameKey_self (keyI_lit i)⟩
      | true =>
        simp only [if_true, Option.isSome_none]
        rw [List.any_eq_false]
        intro q hq hs
        have e := WideAt.sameKey_eq hs
        obtain ⟨hq1, hq2⟩ := List.mem_filter.1 hq
        obtain ⟨p', hl', hd⟩ := h.entry (i := i) (d := q.2) hp (by rw [← e]; exact hq1)
        rw [hl] at hl'
        injection hl' with hl'
        subst hl'
        rw [e, hd, hpd] at hq2
        cases hq2
  · cases hl' : look i with
    | none => rw [hl'] at hl; cases hl
    | some p' =>
      rw [hl'] at hl
      simp only at hl
      cases hpd : pd (keyI i) (.lit (.int .i64 p')) with
      | true => rw [hpd] at hl; cases hl
      | false =>
        rw [hpd] at hl
        simp only [Bool.false_eq_true, if_false] at hl
        injection hl with hl
        subst hl
        exact WideAt.atKey_mem z (keyI_lit i) hap2 (key i p' hl' hpd)
end

/-- Block b is a map of at most n files that reads as 'look'. -/
def FMap (w : World) (b n : Nat) (look : Int → Option Nat) : Prop := ∃ D, w.ownsMap Tryz.prog 3 ptrE b n D ∧ TellsF D look
section
variable {w w' : World} {b n : Nat} {look : Int → Option Nat}
theorem FMap.lt (h : FMap w b n look) : b < w.heap.size := by obtain ⟨D, h, _⟩ := h; exact h.lt
theorem FMap.chg {S : Nat → Prop} (h : FMap w b n look) (hc : Chg S w w') (hg : ¬ S b) : FMap w' b n look := by
  have hlt := h.lt
  obtain ⟨D, ⟨es, clock, hb, r⟩, ht⟩ := h
  exact ⟨D, ⟨es, clock, (hc.block b hlt hg).trans hb, r⟩, ht⟩
theorem FMap.below (h : FMap w b n look) (hb : Below w.heap.size w w') : FMap w' b n look := h.chg (Chg.of_below hb (Nat.le_refl _) (fun _ => False)) (fun h => h)
theorem FMap.more {m : Nat} (h : FMap w b n look) (hm : n ≤ m) : FMap w b m look := by obtain ⟨D, h, ht⟩ := h; exact ⟨D, h.mono hm, ht⟩
theorem FMap.congr {look' : Int → Option Nat} (h : FMap w b n look) (he : ∀ i, look' i = look i) : FMap w b n look' := by obtain ⟨D, h, ht⟩ := h; exact ⟨D, h, ht.congr he⟩
theorem FMap.new (w : World) : FMap (w.alloc (.map #[] 0)) w.heap.size 0 (fun _ => none) := ⟨_, World.ownsMap_made w _ _ _, TellsF.nil⟩
theorem FMap.ne_blk {g : Nat} {t : TypeId} {cs : Array Value} (h : FMap w b n look) (hb : Blk w g t cs) : b ≠ g := by
  rintro rfl
  obtain ⟨D, ⟨es, clock, hm, _⟩, _⟩ := h
  unfold Blk at hb
  rw [hm] at hb
  cases hb
/-- Its entries. -/
theorem FMap.entries (h : FMap w b n look) : ∃ es : List (Lit × DataW Unit), w.ownsMap Tryz.prog 3 ptrE b n (.map es) ∧ TellsF (.map es) look ∧ es.Pairwise (fun p q => p.1 ≠ q.1) ∧ (∀ p ∈ es, ∃ i, p.1 = keyI i) ∧ es.length ≤ n := by
  obtain ⟨D, hown, ht⟩ := h
  obtain ⟨es, hD, hpw, _⟩ := hown.entries intKeyed
  obtain ⟨es', hD', hko⟩ := hown.keysOf
  obtain rfl : es = es' := by rw [hD] at hD'; simpa using hD'
  subst hD
  refine ⟨es, hown, ht, hpw, fun p hp => by obtain ⟨v, hv⟩ := hko p hp; obtain ⟨i, _, hi, _⟩ := keyI_inv hv; exact ⟨i, hi⟩, ?_⟩
  obtain ⟨es2, clock, hb, F, hn, hD⟩ := hown
  injection hD with hD
  rw [hD, length_sorted]
  simpa using hn
/-- Its elements are pointers of those that are found alone. -/
theorem FMap.narrow (h : FMap w b n look) (q : Nat → Bool) (hq : ∀ i p, look i = some p → q p = true) : ∃ es : List (Lit × DataW Unit), w.ownsMap Tryz.prog 3 (ptrQ q) b n (.map es) ∧ TellsF (.map es) look ∧ es.Pairwise (fun p q => p.1 ≠ q.1) ∧ (∀ p ∈ es, ∃ i, p.1 = keyI i) := by
  obtain ⟨es, hown, ht, hpw, hki, _⟩ := h.entries
  refine ⟨es, ?_, ht, hpw, hki⟩
  obtain ⟨es2, clock, hb, F, hn, hD⟩ := hown
  obtain ⟨F1, hmap, _⟩ := F.stay (R' := ptrQ q) (fun x hx z hz => by
    obtain ⟨y, hy⟩ := F.reads x hx
    have hm : y ∈ es := by
      injection hD with hD
      rw [hD, mem_sorted]
      exact List.mem_map.2 ⟨x, hx, WideElems.rg_of hy⟩
    obtain ⟨i, hi⟩ := hki y hm
    obtain ⟨p, hl, hd⟩ := ht.entry hpw (i := i) (d := y.2) (by rw [← hi]; exact hm)
    obtain ⟨z', hz', e⟩ := WideElems.rd_val hy
    rw [hz] at hz'
    injection hz' with hz'
    subst hz'
    rcases ptrE_inv hz with ⟨_, rfl⟩ | ⟨p', hv, rfl⟩
    · rw [hd] at e; injection e with e; injection e with _ e; omega
    · rw [hd] at e; injection e with e; injection e with _ e
      have e2 : p = p' := by omega
      subst e2
      rw [hv]
      show (if q p then _ else none) = _
      rw [hq i p hl]; rfl)
  exact ⟨es2, clock, hb, F1, hn, by rw [hmap]; exact hD⟩
/-- .. and back. -/
theorem FMap.widen {es : List (Lit × DataW Unit)} {q : Nat → Bool} (h : w.ownsMap Tryz.prog 3 (ptrQ q) b n (.map es)) (ht : TellsF (.map es) look) : FMap w b n look := by
  obtain ⟨es2, clock, hb, F, hn, hD⟩ := h
  obtain ⟨F1, hmap, _⟩ := F.stay (R' := ptrE) (fun x hx z hz => by
    obtain ⟨p, hv, _, rfl⟩ := ptrQ_inv hz
    rw [hv]; rfl)
  exact ⟨_, ⟨es2, clock, hb, F1, hn, by rw [hmap]; exact hD⟩, ht⟩
end

theorem zeroFile (w : World) : (zeroValue 83).run Tryz.prog w = .ok (ptrV none) w := by kernel_rfl
theorem zeroIntI (w : World) : (zeroValue 3).run Tryz.prog w = .ok (.int .i64 0) w := by kernel_rfl

theorem ptrE_of {v : Value} {look : Option Nat} {ps : List MemPlace} (h : ptrE v = some (.lit (.int .i64 (match look with | some p => (p : Int) | none => -1)), ps)) : v = ptrV look := by
  rcases ptrE_inv h with ⟨hv, e⟩ | ⟨p, hv, e⟩
  · cases look with
    | none => exact hv
    | some p => simp only [Prod.mk.injEq, DataW.lit.injEq, Lit.int.injEq] at e; omega
  · cases look with
    | none => simp only [Prod.mk.injEq, DataW.lit.injEq, Lit.int.injEq] at e; omega
    | some p' =>
      simp only [Prod.mk.injEq, DataW.lit.injEq, Lit.int.injEq] at e
      have : p' = p := by omega
      subst this; exact hv

section
variable (w : World) {ops : Array Oper} {rest : List Oper} {o : Oper} {a : Act} {Q : Exit → Act → World → Prop}
/-- 'm[k]' of files. -/
theorem wpList_lookF (hg : o.guard = none) (m x : Operand) (hop : o.op = Op.lookup 56 m x false) (b n : Nat) (look : Int → Option Nat) (h : FMap w b n look) (hm : a.eval m = .map (some b)) (i : Int) (hx : a.eval x = .int .i64 i) (hi : (Lit.int .i64 i).wf = true)
    (v : Value) (hv : v = ptrV (look i)) (hK : wpList Tryz.prog ops Q rest (a.put o.dst v) w) : wpList Tryz.prog ops Q (o :: rest) a w := by
  obtain ⟨D, hown, ht⟩ := h
  refine wpList_plain hg fun K' hK' => ?_
  obtain ⟨v', ps, hrun, hv'⟩ := hown.lookup intKeyed Tryz.underlying56 (zeroFile w) (zd := .lit (.int .i64 (-1))) (zp := []) rfl (keyI_key hi)
  rw [ht.get] at hv'
  have e : v' = v := by rw [hv]; exact ptrE_of hv'
  subst e
  unfold Oper.wp
  simp [execOp, hop, hm, hx, hrun, Result.andThen]
  exact hK' _ _ hK
/-- 'm[k] = f', at the operation itself. -/
theorem oper_putF {K : Act → World → Prop} {Q' : Exit → Act → World → Prop} (m x v : Operand) (hop : o.op = Op.mapUpdate 56 m x v) (b n : Nat) (look : Int → Option Nat) (h : FMap w b n look) (hn : n < 1000000) (hm : a.eval m = .map (some b)) (i : Int) (hx : a.eval x = .int .i64 i) (hi : (Lit.int .i64 i).wf = true)
    (p : Nat) (hv : a.eval v = .pointer (some ⟨p, 0, none⟩))
    (hK : ∀ w', FMap w' b (n + 1) (fun j => if j = i then some p else look j) → Chg (fun k => k = b) w w' → K (a.put o.dst undef) w') : Oper.wp Tryz.prog o a w K Q' := by
  obtain ⟨D, hown, ht⟩ := h
  have him := hown.isMap
  obtain ⟨w', hrun, r1, r2⟩ := hown.store intKeyed Tryz.underlying56 (by unfold maxLen; omega) (keyI_key hi) (ptrE_mk p)
  have hrun : (Instr.mapUpdate 56 (.map (some b)) (.int .i64 i) (.pointer (some ⟨p, 0, none⟩))).run Tryz.prog w = .ok () w' := hrun
  unfold Oper.wp
  simp [execOp, hop, hm, hx, hv, hrun, Result.andThen]
  exact hK w' ⟨_, r1, ht.put him i p⟩ ((Chg.of_grown r2.grown).mono (fun k _ e => by injection e with e; exact e.symm))
theorem step_putF {K : Act → World → Prop} {E : Prop} (hgd : o.guard = none) (m x v : Operand) (hop : o.op = Op.mapUpdate 56 m x v) (b n : Nat) (look : Int → Option Nat) (h : FMap w b n look) (hn : n < 1000000) (hm : a.eval m = .map (some b)) (i : Int) (hx : a.eval x = .int .i64 i) (hi : (Lit.int .i64 i).wf = true)
    (p : Nat) (hv : a.eval v = .pointer (some ⟨p, 0, none⟩))
    (hK : ∀ w', FMap w' b (n + 1) (fun j => if j = i then some p else look j) → Chg (fun k => k = b) w w' → K (a.put o.dst undef) w') : if Region.wanted o (yielded ops a.tmps) = true then Oper.wp Tryz.prog o a w K Q else E :=
  step_of hgd (oper_putF w m x v hop b n look h hn hm i hx hi p hv hK)
end

/-- maps.DeleteFunc by a function that reads alone. -/
theorem del_any (b n : Nat) (look : Int → Option Nat) (w : World) (h : FMap w b n look) (q : Nat → Bool) (hq : ∀ i p, look i = some p → q p = true) (g : Nat) (cb : Array Value) (pd : Int → Nat → Bool) (eg : ∀ args w, (callFunc g args).run Tryz.prog w = .ok (.enter g args) w)
    (hclo : ∀ (W : World) (i : Int) (p : Nat), w.grownBy W (some b) → (Lit.int .i64 i).wf = true → q p = true → Calls Tryz.prog g (#[.int .i64 i, .pointer (some ⟨p, 0, none⟩)] ++ cb) W fun e w' => e = .returned (.bool (pd i p)) ∧ W = w') :
    Calls Tryz.prog 86 #[.map (some b), .func (.func g) #[] cb] w fun e w' => e = .returned (.tuple #[]) ∧ FMap w' b n (fun i => match look i with | some p => if pd i p then none else some p | none => none) ∧ Chg (fun k => k = b) w w' := by
  obtain ⟨es, hown, ht, hpw, hki⟩ := h.narrow q hq
  refine (AnyDf.maps_DeleteFunc Tryz.layDel intKeyed (ptrQ q) (fun kl yd => match kl, yd with | .int _ i, .lit (.int _ p) => pd i p.toNat | _, _ => false) g cb b n (.map es) w eg hown (fun W key val kl yd yp hgW hkey hv => ?_)).mono ?_
  · obtain ⟨i, rfl, rfl, hwf⟩ := keyI_inv hkey
    obtain ⟨p, rfl, hqp, e⟩ := ptrQ_inv hv
    injection e with e1 _
    subst e1
    refine (hclo W i p hgW hwf hqp).mono fun e w' ⟨he, hw⟩ => ⟨?_, hw ▸ World.grownBy.refl _ _⟩
    rw [he]
    simp [keyI]
  · rintro e w' ⟨rfl, h1, h2⟩
    refine ⟨rfl, ?_, (Chg.of_grown h2).mono (fun k _ e => by injection e with e; exact e.symm)⟩
    have hf := ht.filt hpw hki (fun kl yd => match kl, yd with | .int _ i, .lit (.int _ p) => pd i p.toNat | _, _ => false)
    refine (FMap.widen h1 hf).congr fun i => ?_
    cases look i with
    | none => rfl
    | some p => rfl

/-- Block b is a map of at most n counts that reads as f. -/
def IMap (w : World) (b n : Nat) (f : Int → Nat) : Prop := ∃ D, w.ownsMap Tryz.prog 3 intE b n D ∧ ∀ i : Int, D.atKey (keyI i) (.lit (.int .i64 0)) = .lit (.int .i64 (f i))
section
variable {w w' : World} {b n : Nat} {f : Int → Nat}
theorem IMap.lt (h : IMap w b n f) : b < w.heap.size := by obtain ⟨D, h, _⟩ := h; exact h.lt
theorem IMap.chg {S : Nat → Prop} (h : IMap w b n f) (hc : Chg S w w') (hg : ¬ S b) : IMap w' b n f := by
  have hlt := h.lt
  obtain ⟨D, ⟨es, clock, hb, r⟩, ht⟩ := h
  exact ⟨D, ⟨es, clock, (hc.block b hlt hg).trans hb, r⟩, ht⟩
theorem IMap.below (h : IMap w b n f) (hb : Below w.heap.size w w') : IMap w' b n f := h.chg (Chg.of_below hb (Nat.le_refl _) (fun _ => False)) (fun h => h)
theorem IMap.new (w : World) : IMap (w.alloc (.map #[] 0)) w.heap.size 0 (fun _ => 0) := ⟨_, World.ownsMap_made w _ _ _, fun i => rfl⟩
theorem IMap.congr {f' : Int → Nat} (h : IMap w b n f) (he : ∀ i, f' i = f i) : IMap w b n f' := by obtain ⟨D, h, ht⟩ := h; exact ⟨D, h, fun i => by rw [he]; exact ht i⟩
theorem IMap.look (h : IMap w b n f) {i : Int} (hi : (Lit.int .i64 i).wf = true) : (Instr.lookup 127 (.map (some b)) (.int .i64 i) false).run Tryz.prog w = .ok (.int .i64 (f i)) w := by
  obtain ⟨D, hown, ht⟩ := h
  obtain ⟨c, hrun, hat, _⟩ := hown.lookup_int intKeyed Tryz.underlying127 Tryz.underlying3 (zeroIntI w) (keyI_key hi)
  rw [ht i] at hat
  injection hat with hat
  injection hat with _ hat
  rw [← hat] at hrun
  exact hrun
end
theorem wpList_putN (w : World) {ops : Array Oper} {rest : List Oper} {o : Oper} {a : Act} {Q : Exit → Act → World → Prop} (hg : o.guard = none) (m x v : Operand) (hop : o.op = Op.mapUpdate 127 m x v) (b n : Nat) (f : Int → Nat) (h : IMap w b n f) (hn : n < 1000000) (hm : a.eval m = .map (some b)) (i : Int) (hx : a.eval x = .int .i64 i) (hi : (Lit.int .i64 i).wf = true)
    (c : Nat) (hv : a.eval v = .int .i64 c) (hc : c < 1000000)
    (hK : ∀ w', IMap w' b (n + 1) (fun j => if j = i then c else f j) → Chg (fun k => k = b) w w' → wpList Tryz.prog ops Q rest (a.put o.dst undef) w') : wpList Tryz.prog ops Q (o :: rest) a w := by
  obtain ⟨D, hown, ht⟩ := h
  have him := hown.isMap
  refine wpList_mapUpdate_in w hg m x v 127 hop 3 3 intKeyed Tryz.underlying127 intE b _ D hm hown (by unfold maxLen; omega) (.int .i64 i) (.int .i64 c) (keyI i) hx hv (keyI_key hi) _ _ (plainElem_int Tryz.underlying3 (wf_nat (by omega))) (fun w' h1 h2 => ?_)
  refine hK w' ⟨_, h1, fun j => ?_⟩ ((Chg.of_grown h2.grown).mono (fun k _ e => by injection e with e; exact e.symm))
  by_cases e : j = i
  · subst e; simp only [if_pos]; rw [atKey_put_same him (keyI_lit _)]
  · simp only [if_neg e]; rw [atKey_put_other (fun hh => e (keyI_inj hh)), ht]

end Go.Proofs.YtclglbddibjenaaGreat
