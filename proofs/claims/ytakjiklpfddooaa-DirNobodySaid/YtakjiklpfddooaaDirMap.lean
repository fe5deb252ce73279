/-
  LAYER 7: A MAP OF NAMES IN MEMORY: what it reads as, told by what is found under each name; what look-up, store, delete and a copy do to it.
-/
import Derived.Test.YtakjiklpfddooaaChecked
import Derived.Test.YtakjiklpfddooaaDirMath
import Derived.Test.YtakjiklpfddooaaItemText
import Derived.Test.YtakjiklpfddooaaChg
import Derived.Maps.OwnSet
import Derived.Maps.Ext
import Derived.Lib.SlMapMerge
import Derived.Sort.KeysCollected
import Derived.Sort.Walk0
import Derived.StringKeys
set_option linter.unusedVariables false
namespace Go.Proofs.Ytakjiklpfddooaa
open Go.RowKit Go.WideShapes
open Go.Maps (Keyed IsMap has_put_same has_put_other atKey_put_same atKey_put_other has_del_same has_del_other atKey_del_other)

abbrev NmL := List (ByteArray × Int)
def keyS (x : ByteArray) : Lit := .string x.data.toList
theorem keyS_inj {x y : ByteArray} (h : keyS x = keyS y) : x = y := by unfold keyS at h; injection h with h; exact bytes_ext h
theorem keyS_lit (x : ByteArray) : WideAt.IsKeyLit (keyS x) := trivial
theorem keyS_of (y : List UInt8) : ∃ x : ByteArray, .string y = keyS x := ⟨⟨y.toArray⟩, rfl⟩

theorem cfT_lt (a b : ByteArray) : cfT a b < 0 ↔ a.data.toList < b.data.toList := by
  have h := less_cfT a b
  rw [_root_.Go.ByteArray.toList_eq, _root_.Go.ByteArray.toList_eq, bytesLess_eq] at h
  simpa using h.symm

/-- What a map reads as is a list of names that rise. -/
structure Tells (D : DataW Unit) (l : NmL) : Prop where
  rise : RiseN cfT l
  has : ∀ x : ByteArray, Maps.has D (keyS x) = (getN l x).isSome
  at_ : ∀ x i, getN l x = some i → ∀ z, D.atKey (keyS x) z = .lit (.int .i64 i)

section
variable {D : DataW Unit} {l : NmL}
theorem Tells.nil : Tells (.map []) [] := ⟨List.Pairwise.nil, fun x => rfl, fun x i h => by cases h⟩
theorem Tells.get (h : Tells D l) (x : ByteArray) : D.atKey (keyS x) (.lit (.int .i64 0)) = .lit (.int .i64 ((getN l x).getD 0)) := by
  cases hg : getN l x with
  | none =>
    have := h.has x
    rw [hg] at this
    rw [Maps.atKey_of_not_has this]; rfl
  | some i => rw [h.at_ x i hg]; rfl
theorem Tells.put (h : Tells D l) (hm : IsMap D) (x : ByteArray) (i : Int) : Tells (D.put (keyS x) (.lit (.int .i64 i))) (withN cfT l x i) := by
  refine ⟨h.rise.with cfT_tot x i, fun y => ?_, fun y j hj z => ?_⟩
  · rw [getN_with]
    by_cases e : y = x
    · subst e; rw [has_put_same hm (keyS_lit _), if_pos rfl]; rfl
    · rw [has_put_other (fun hh => e (keyS_inj hh)), if_neg e, h.has]
  · rw [getN_with] at hj
    by_cases e : y = x
    · subst e
      rw [if_pos rfl] at hj
      injection hj with hj
      rw [atKey_put_same hm (keyS_lit _), hj]
    · rw [if_neg e] at hj
      rw [atKey_put_other (fun hh => e (keyS_inj hh)), h.at_ y j hj]
theorem Tells.del (h : Tells D l) (x : ByteArray) : Tells (D.del (keyS x)) (woN l x) := by
  refine ⟨h.rise.wo x, fun y => ?_, fun y j hj z => ?_⟩
  · rw [getN_wo]
    by_cases e : y = x
    · subst e; rw [has_del_same, if_pos rfl]; rfl
    · rw [has_del_other (fun hh => e (keyS_inj hh)), if_neg e, h.has]
  · rw [getN_wo] at hj
    by_cases e : y = x
    · rw [if_pos e] at hj; cases hj
    · rw [if_neg e] at hj
      rw [atKey_del_other (fun hh => e (keyS_inj hh)), h.at_ y j hj]
theorem woN_none : ∀ (l : NmL) (x : ByteArray), getN l x = none → woN l x = l
  | [], x, _ => rfl
  | p :: r, x, h => by
    rw [getN_cons] at h
    by_cases e : p.1 = x
    · rw [if_pos e] at h; cases h
    · rw [if_neg e] at h
      unfold woN
      rw [if_neg e, woN_none r x h]
/-- Copied onto nothing. -/
theorem Tells.merge {es : List (Lit × DataW Unit)} (h : Tells (.map es) l) (hp : es.Pairwise (fun p q => p.1 ≠ q.1)) (hk : ∀ p ∈ es, WideAt.IsKeyLit p.1) : Tells (Lib.mergeD (.map []) (.map es)) l := by
  refine ⟨h.rise, fun x => ?_, fun x i hi z => ?_⟩
  · show Maps.has (es.foldl (fun D p => D.put p.1 p.2) (.map [])) (keyS x) = _
    rw [Maps.has_foldPut _ es _ Maps.isMap_empty hk, ← h.has]
    rfl
  · show (es.foldl (fun D p => D.put p.1 p.2) (DataW.map [])).atKey (keyS x) z = _
    rw [Maps.atKey_foldPut _ z es _ Maps.isMap_empty hk hp, ← h.at_ x i hi z]
    rfl

theorem names_nodup (h : RiseN cfT l) : ((namesN l).map (·.data.toList)).Nodup := by
  have hr := h.names
  unfold Rises at hr
  refine List.pairwise_map.2 (hr.imp fun {a b} hab e => ?_)
  have := bytes_ext e
  subst this
  exact cfT_tot.irr _ hab
theorem names_sorted (h : RiseN cfT l) : ((namesN l).map (·.data.toList)).mergeSort leB = (namesN l).map (·.data.toList) := by
  refine List.mergeSort_of_pairwise ?_
  have hr := h.names
  unfold Rises at hr
  refine List.pairwise_map.2 (hr.imp fun {a b} hab => ?_)
  simp only [leB, decide_eq_true_eq]
  exact List.le_of_lt ((cfT_lt a b).1 hab)
end

theorem strKeyed : Keyed Try.prog 9 := Maps.string_keyed Try.underlying9
theorem zeroInt (w : World) : (zeroValue 3).run Try.prog w = .ok (.int .i64 0) w := by kernel_rfl
theorem keyS_key {x : ByteArray} (h : x.size ≤ maxLen) : keyOf Try.prog 9 (.string x) = some (keyS x) := WideMaps.keyOf_string_mk Try.underlying9 h

/-- How an element of a map of names reads. -/
noncomputable abbrev intE : Value → Option (DataW Unit × List MemPlace) := plainElem Try.prog 3

/-- Block b is a map that reads as the names l. -/
def MapAt (w : World) (b : Nat) (l : NmL) : Prop := ∃ D, w.ownsMap Try.prog 9 intE b l.length D ∧ Tells D l

section
variable {w w' : World} {b : Nat} {l : NmL} {D : DataW Unit} {n : Nat}

theorem keys_perm (h : w.ownsMap Try.prog 9 intE b n D) (ht : Tells D l) : ((namesN l).map (·.data.toList)).Perm (strKeys D) := by
  obtain ⟨es, hD, hpw, _⟩ := h.entries strKeyed
  obtain ⟨es', hD', hko⟩ := h.keysOf
  obtain rfl : es = es' := by rw [hD] at hD'; simpa using hD'
  subst hD
  refine perm_strKeys hpw (fun p hp => by obtain ⟨v, hv⟩ := hko p hp; obtain ⟨x, _, hx, _⟩ := Maps.keyOf_str Try.underlying9 hv; exact ⟨x, hx⟩) (names_nodup ht.rise) (fun y => ?_)
  have hh := ht.has ⟨y.toArray⟩
  have e : keyS ⟨y.toArray⟩ = .string y := rfl
  rw [e] at hh
  rw [hh, ← getN_mem]
  constructor
  · intro hy
    obtain ⟨x, hx, rfl⟩ := List.mem_map.1 hy
    exact (show (⟨x.data.toList.toArray⟩ : ByteArray) = x from bytes_ext (by simp)) ▸ hx
  · intro hy
    exact List.mem_map.2 ⟨_, hy, by simp⟩
theorem keys_size (h : w.ownsMap Try.prog 9 intE b n D) (ht : Tells D l) : Maps.size D = l.length := by
  have hp := (keys_perm h ht).length_eq
  obtain ⟨es, rfl⟩ := h.isMap
  simp only [List.length_map, strKeys, namesN] at hp
  exact hp.symm
theorem MapAt.of (h : w.ownsMap Try.prog 9 intE b n D) (ht : Tells D l) : MapAt w b l := by
  have hs := keys_size h ht
  obtain ⟨es, clock, hb, F, hn, hD⟩ := h
  refine ⟨D, ⟨es, clock, hb, F, ?_, hD⟩, ht⟩
  rw [← hs, hD]
  simp [Maps.size, length_sorted]
theorem MapAt.lt (h : MapAt w b l) : b < w.heap.size := by obtain ⟨D, h, _⟩ := h; exact h.lt
theorem MapAt.chg {S : Nat → Prop} (h : MapAt w b l) (hc : Chg S w w') (hg : ¬ S b) : MapAt w' b l := by
  have hlt := h.lt
  obtain ⟨D, ⟨es, clock, hb, r⟩, ht⟩ := h
  exact ⟨D, ⟨es, clock, (hc.block b hlt hg).trans hb, r⟩, ht⟩
theorem MapAt.below (h : MapAt w b l) (hb : Below w.heap.size w w') : MapAt w' b l := h.chg (Chg.of_below hb (Nat.le_refl _) (fun _ => False)) (fun h => h)
theorem MapAt.new (w : World) : MapAt (w.alloc (.map #[] 0)) w.heap.size [] := ⟨_, World.ownsMap_made w _ _ _, Tells.nil⟩
theorem MapAt.rise (h : MapAt w b l) : RiseN cfT l := by obtain ⟨D, _, ht⟩ := h; exact ht.rise
/-- A map lies in no block of cells. -/
theorem MapAt.ne_blk {g : Nat} {t : TypeId} {cs : Array Value} (h : MapAt w b l) (hb : Blk w g t cs) : b ≠ g := by
  rintro rfl
  obtain ⟨D, ⟨es, clock, hm, _⟩, _⟩ := h
  unfold Blk at hb
  rw [hm] at hb
  cases hb
theorem MapAt.ne_own {g : Nat} {base : Nat} {e : TypeId} {size k : Nat} {v : Value} {xs : List Value} (h : MapAt w b l) (ho : w.ownsRow base e size v k xs) (hg : v.ownBlock = some g) : b ≠ g := by
  rcases ho.2 with ⟨rfl, _⟩ | ⟨g1, c1, cur1, rfl, _, e1, _⟩
  · simp [Value.ownBlock] at hg
  · simp [Value.ownBlock] at hg
    subst hg
    exact h.ne_blk e1
end

section
variable (w : World) {ops : Array Oper} {rest : List Oper} {o : Oper} {a : Act} {Q : Exit → Act → World → Prop}
/-- 'v, ok := m[k]'. -/
theorem wpList_look (hg : o.guard = none) (m x : Operand) (hop : o.op = Op.lookup 47 m x true) (b : Nat) (l : NmL) (h : MapAt w b l) (hm : a.eval m = .map (some b)) (s : ByteArray) (hx : a.eval x = .string s) (hs : s.size ≤ maxLen)
    (hK : wpList Try.prog ops Q rest (a.put o.dst (.tuple #[.int .i64 ((getN l s).getD 0), .bool (getN l s).isSome])) w) : wpList Try.prog ops Q (o :: rest) a w := by
  obtain ⟨D, hown, ht⟩ := h
  refine wpList_lookup_own_ok_int w hg m x 47 hop 9 3 .i64 strKeyed Try.underlying47 Try.underlying3 (zeroInt w) b _ D hm hown (.string s) (keyS s) hx (keyS_key hs) (fun c hc _ => ?_)
  rw [ht.get] at hc
  injection hc with hc
  injection hc with _ hc
  rw [← hc, ht.has]
  exact hK
/-- 'm[k] = v'. -/
theorem wpList_put (hg : o.guard = none) (m x v : Operand) (hop : o.op = Op.mapUpdate 47 m x v) (b : Nat) (l : NmL) (h : MapAt w b l) (hl : l.length < 1000000) (hm : a.eval m = .map (some b)) (s : ByteArray) (hx : a.eval x = .string s) (hs : s.size ≤ maxLen)
    (i : Int) (hv : a.eval v = .int .i64 i) (hi : (Lit.int .i64 i).wf = true)
    (hK : ∀ w', MapAt w' b (withN cfT l s i) → Chg (fun k => k = b) w w' → wpList Try.prog ops Q rest (a.put o.dst undef) w') : wpList Try.prog ops Q (o :: rest) a w := by
  obtain ⟨D, hown, ht⟩ := h
  have him := hown.isMap
  refine wpList_mapUpdate_in w hg m x v 47 hop 9 3 strKeyed Try.underlying47 intE b _ D hm hown (by unfold maxLen; omega) (.string s) (.int .i64 i) (keyS s) hx hv (keyS_key hs) _ _ (plainElem_int Try.underlying3 hi) (fun w' h1 h2 => ?_)
  exact hK w' (MapAt.of h1 (ht.put him s i)) ((Chg.of_grown h2.grown).mono (fun k _ e => by injection e with e; exact e.symm))
/-- 'delete(m, k)'. -/
theorem wpList_del (hg : o.guard = none) (m x : Operand) (hop : o.op = Op.call { callee := Callee.builtin Builtin.delete, args := #[m, x], argTypes := #[47, 9] }) (b : Nat) (l : NmL) (h : MapAt w b l) (hm : a.eval m = .map (some b)) (s : ByteArray) (hx : a.eval x = .string s) (hs : s.size ≤ maxLen)
    (hK : ∀ w', MapAt w' b (woN l s) → Chg (fun k => k = b) w w' → wpList Try.prog ops Q rest (a.put o.dst (.tuple #[])) w') : wpList Try.prog ops Q (o :: rest) a w := by
  obtain ⟨D, hown, ht⟩ := h
  refine wpList_delete_own w hg m x 47 9 hop 3 strKeyed Try.underlying47 intE b _ D hm hown (.string s) (keyS s) hx (keyS_key hs) (fun w' h1 h2 => ?_)
  exact hK w' (MapAt.of h1 (ht.del s)) ((Chg.of_grown h2.grown).mono (fun k _ e => by injection e with e; exact e.symm))
end

end Go.Proofs.Ytakjiklpfddooaa
