/-
  LAYER 8: WHAT Crash ASKS FOR: the numbers of the files as they rise, the next ones of what is kept; a row of files that fills. Contracts and what is kept.
-/
import Derived.Test.YtclglbddibjenaaGreatVdFn8
set_option linter.unusedVariables false
set_option linter.unusedSimpArgs false
set_option maxRecDepth 100000
namespace Go.Proofs.YtclglbddibjenaaGreat
open Go.RowKit Go.Shelf Go.Maps Go.Sort

/-! ### the numbers of the files, as they rise -/
def liveL (ps : List Nat) (os : OsL) : List Nat := (List.range os.length).filter fun k => (lookP ps os k).isSome
theorem liveL_mem {ps : List Nat} {os : OsL} {k : Nat} : k ∈ liveL ps os ↔ (lookP ps os k).isSome = true := by
  unfold liveL
  rw [List.mem_filter, List.mem_range]
  constructor
  · exact fun h => h.2
  · intro h
    obtain ⟨q, hq⟩ := Option.isSome_iff_exists.1 h
    obtain ⟨k', f, e, hf, _⟩ := lookP_some hq
    have : k = k' := by omega
    subst this
    exact ⟨(List.getElem?_eq_some_iff.1 hf).1, h⟩
theorem liveL_rise (ps : List Nat) (os : OsL) : (liveL ps os).Pairwise (· < ·) := List.Pairwise.filter _ List.pairwise_lt_range
theorem liveL_length (ps : List Nat) (os : OsL) : (liveL ps os).length ≤ os.length := by
  have := List.length_filter_le (fun k => (lookP ps os (k : Nat)).isSome) (List.range os.length)
  rwa [List.length_range] at this
def liveZ (ps : List Nat) (os : OsL) : List Int := (liveL ps os).map fun k : Nat => (k : Int)

theorem keys_sorted {es : List (Lit × DataW Unit)} {ps : List Nat} {os : OsL} (ht : TellsF (.map es) (lookP ps os)) (hp : es.Pairwise (fun p q => p.1 ≠ q.1)) (hk : ∀ p ∈ es, ∃ i, p.1 = keyI i) {ss : List Int} (hs : ss.Perm (intKeys (.map es))) :
    ss.length = (liveL ps os).length ∧ (ss.mergeSort (fun x y => decide (x ≤ y))).map encZ = (liveZ ps os).map encZ := by
  have hr : (liveZ ps os).Pairwise (· < ·) := by
    unfold liveZ
    rw [List.pairwise_map]
    exact (liveL_rise ps os).imp fun {a b} h => by omega
  have h1 : (liveZ ps os).Perm (intKeys (.map es)) := perm_intKeys hp hk (hr.imp fun {a b} h e => by omega) (fun x => by
    rw [show Lit.int .i64 x = keyI x from rfl, ht.has]
    unfold liveZ
    rw [List.mem_map]
    constructor
    · rintro ⟨k, hk, rfl⟩; exact liveL_mem.1 hk
    · intro h
      obtain ⟨q, hq⟩ := Option.isSome_iff_exists.1 h
      obtain ⟨k', f, rfl, hf, _⟩ := lookP_some hq
      exact ⟨k', liveL_mem.2 h, rfl⟩)
  have h2 := hs.trans h1.symm
  refine ⟨by rw [h2.length_eq]; unfold liveZ; simp, ?_⟩
  have h3 := mergeSort_of_perm_i h2
  show (ss.mergeSort leI).map encZ = _
  rw [h3, List.mergeSort_of_pairwise]
  exact hr.imp fun {a b} h => by simp only [leI, decide_eq_true_eq]; omega

theorem sortsInF (m : Nat) : AnyZI.SortsIn Tryz.prog Tryz.laySortedF_ren Fence.wide m :=
  ⟨fun blk off cap ss W hH hblk hsz => callsIn_wide.2 (AnyM.slices_Sort_int Tryz.laySortF blk off cap ss W hH hblk hsz),
   fun p cap W => callsIn_wide.2 (AnyM.slices_Sort_int_none Tryz.laySortF p cap W)⟩

theorem keysF_any (mb : Option Nat) (W : World) : Calls Tryz.prog 56 #[.map mb] W fun e w' => e = .returned (.func (.func 91) #[] #[.pointer (some ⟨W.heap.size, 0, none⟩)]) ∧ w' = W.alloc (.cells #[.map mb] 56) :=
  callsIn_wide.1 (AnyZI.keys_in Tryz.layKeysF Fence.wide 5 trivial rfl mb W)

set_option maxHeartbeats 1000000 in
theorem sortedF_any (b n : Nat) (ps : List Nat) (os : OsL) (w : World) (h : FMap w b n (lookP ps os)) (hn : n ≤ 1000000) :
    Calls Tryz.prog 55 #[.func (.func 91) #[] #[.pointer (some ⟨w.heap.size, 0, none⟩)]] (w.alloc (.cells #[.map (some b)] 56)) fun e w' => ∃ A c, e = .returned (.slice A (liveL ps os).length c) ∧
      Hid (w'.ownsRow w.heap.size 3 1 (.slice A (liveL ps os).length c) (liveL ps os).length ((liveZ ps os).map encZ) ∧ Below w.heap.size w w') := by
  obtain ⟨es, hown, ht, hpw, hki, hlen⟩ := h.entries
  have hbl := hown.lt
  have hmax : Maps.size (DataW.map es) ≤ maxLen := by rw [Maps.size_eq]; unfold maxLen; omega
  have hbytes : Maps.size (DataW.map es) * 8 ≤ 140737488355328 := by rw [Maps.size_eq]; omega
  have hseq : SeqGives Fence.wide 2 Tryz.prog 91 #[.pointer (some ⟨w.heap.size, 0, none⟩)] encZ (fun ss => ss.Perm (intKeys (DataW.map es))) (Maps.size (DataW.map es)) (w.alloc (.cells #[.map (some b)] 56)) :=
    AnyZI.keys_gives (ρ := Tryz.layKeysF_ren) { Tryz.layKeysF with } Fence.wide _ trivial rfl (by omega) w.heap.size b n (.map es) _ (by simp) (by simp) (by
      obtain ⟨es2, clock, hb, Ft, hs, hD⟩ := hown
      exact ⟨es2, clock, (Below.heap_alloc _ _ b hbl).trans hb, Ft, hs, hD⟩)
  have cS := AnyZI.sorted_in Tryz.laySortedF Fence.wide 5 trivial trivial trivial trivial rfl (by omega) (sortsInF _) (enters_of Tryz.func90 (by kernel_rfl) rfl) 91 #[.pointer (some ⟨w.heap.size, 0, none⟩)] trivial (enters_of Tryz.func91 (by kernel_rfl) rfl) _ _ hmax hbytes _ hseq
  refine (callsIn_wide.1 cS).mono ?_
  rintro e w' ⟨v, ss, rfl, hS, hrow, hnil, hb⟩
  obtain ⟨h1, h2⟩ := keys_sorted ht hpw hki hS
  rw [h1, h2] at hrow
  obtain ⟨A, c, rfl, hc1, hc2⟩ := own_form hrow
  exact ⟨A, c, rfl, Lib.hid ⟨own_base hrow (by simp), ((Below.refl _ w).alloc (Nat.le_refl _) _).trans (hb.mono (by simp))⟩⟩

/-! ### the next of what is kept -/
structure KB (w : World) (kb B : Nat) (ks : List Bool) (F : Nat) (A : Option Addr) (m c : Nat) : Prop where
  blk : Blk w kb 30 #[.slice A m c]
  rd : Reads w B 1 A m (cellsB (ks.drop F))
  le : m ≤ c
  cap : c ≤ 9223372036854775807
  lt : B ≤ kb
theorem KB.keep {w w' : World} {kb B F m c : Nat} {ks : List Bool} {A : Option Addr} {T : Nat → Prop} (h : KB w kb B ks F A m c) (hc : Chg T w w') (hT : ∀ k, T k → B ≤ k ∧ k ≠ kb) : KB w' kb B ks F A m c :=
  ⟨h.blk.chg hc (fun ht => (hT _ ht).2 rfl), h.rd.keep fun q hq => World.cell?_of_block (a := q) (hc.block _ (by have := h.blk.lt; have := h.lt; omega) (fun ht => by have := (hT _ ht).1; omega)), h.le, h.cap, h.lt⟩
theorem KB.below {w w' : World} {kb B F m c : Nat} {ks : List Bool} {A : Option Addr} (h : KB w kb B ks F A m c) (hb : Below w.heap.size w w') : KB w' kb B ks F A m c := h.keep (T := fun _ => False) (Chg.of_below hb (Nat.le_refl _) _) (fun _ hk => hk.elim)
theorem KB.len {w : World} {kb B F m c : Nat} {ks : List Bool} {A : Option Addr} (h : KB w kb B ks F A m c) : m = ks.length - F := by
  have := h.rd.1
  rw [cellsB_length, List.length_drop] at this
  omega

theorem next_out {w : World} {kb B F m c pn n : Nat} {ks : List Bool} {A A2 : Option Addr} (h : KB w kb B ks F A m c) (hn : n = min pn m) (hA : A2 = if c = n then A else A.map (fun x => x.add n)) :
    Reads (w.setCell ⟨kb, 0, none⟩ (.slice A2 (m - n) (c - n))) B 1 A n (cellsB ((ks.drop F).take pn)) ∧ n ≤ c ∧ c ≤ 9223372036854775807 ∧ Chg (fun k => k = kb) w (w.setCell ⟨kb, 0, none⟩ (.slice A2 (m - n) (c - n))) ∧ KB (w.setCell ⟨kb, 0, none⟩ (.slice A2 (m - n) (c - n))) kb B ks (F + pn) A2 (m - n) (c - n) := by
  have hm := h.len
  have hle := h.le
  have hcap := h.cap
  have hlt := h.lt
  have hr1 : Reads w B 1 A n (cellsB ((ks.drop F).take pn)) := by
    refine ⟨by rw [cellsB_length, List.length_take, List.length_drop]; omega, fun hn0 => ?_⟩
    obtain ⟨ad, e, hb, hc⟩ := h.rd.2 (by omega)
    refine ⟨ad, e, hb, fun j u hu => hc j u ?_⟩
    have hj : j < (cellsB ((ks.drop F).take pn)).length := (List.getElem?_eq_some_iff.1 hu).1
    rw [cellsB_length, List.length_take] at hj
    unfold cellsB at hu ⊢
    rw [List.getElem?_map, List.getElem?_take_of_lt (by omega)] at hu
    rw [List.getElem?_map]; exact hu
  have hr2 : Reads w B 1 A2 (m - n) (cellsB (ks.drop (F + pn))) := by
    have h0 := h.rd.cut (k := n) (cap := c) (by omega) hle
    rw [Nat.mul_one] at h0
    have e : (cellsB (ks.drop F)).drop n = cellsB (ks.drop (F + pn)) := by
      unfold cellsB
      rw [← List.map_drop, List.drop_drop]
      by_cases hp : pn ≤ m
      · rw [show n = pn by omega]
      · rw [List.drop_eq_nil_of_le (by omega), List.drop_eq_nil_of_le (by omega)]
    rw [e, ← hA] at h0
    exact h0
  have hc1 := chg_cell w kb 0 (.slice A2 (m - n) (c - n))
  have kp : ∀ {A' : Option Addr} {n' : Nat} {xs : List Value}, Reads w B 1 A' n' xs → Reads (w.setCell ⟨kb, 0, none⟩ (.slice A2 (m - n) (c - n))) B 1 A' n' xs := fun hr => hr.setCell hlt _
  exact ⟨kp hr1, by omega, hcap, hc1, by have := h.blk.set_ 0 (.slice A2 (m - n) (c - n)); simpa using this, kp hr2, by omega, by omega, hlt⟩

theorem next_any (kb B F m c pn : Nat) (ks : List Bool) (A : Option Addr) (w : World) (h : KB w kb B ks F A m c) (hp : pn ≤ 9000000000000) :
    Calls Tryz.prog 53 (#[.int .i64 (pn : Int)] ++ #[.pointer (some ⟨kb, 0, none⟩)]) w fun e w' => ∃ A1 n c1 A2 m2 c2, e = .returned (.slice A1 n c1) ∧
      Hid (Reads w' B 1 A1 n (cellsB ((ks.drop F).take pn)) ∧ n ≤ c1 ∧ c1 ≤ 9223372036854775807 ∧ Chg (fun k => k = kb) w w' ∧ KB w' kb B ks (F + pn) A2 m2 c2) := by
  have d0 := h.blk.cell 0
  have f0 := h.blk.frozen 0
  have hmc := h.le
  have hcc := h.cap
  obtain ⟨n, hn⟩ : ∃ n, n = min pn m := ⟨_, rfl⟩
  have n7 : min (pn : Int) (m : Int) = (n : Int) := by omega
  have hnm : n ≤ m := by omega
  by_cases hcn : c = n
  · subst hcn
    obtain rfl : m = c := by omega
    have HO0 := next_out (A2 := A) h hn (by rw [if_pos rfl])
    rw [Nat.sub_self] at HO0
    have HO := Lib.hid HO0
    clear HO0
    clear h hn
    go_enter Tryz.func53, Tryz.ntmps53
    go_wp2
    go_ret
    exact ⟨A, m, m, A, 0, 0, rfl, HO⟩
  · have HO := Lib.hid (next_out (A2 := A.map (fun x => x.add n)) h hn (by rw [if_neg hcn]))
    clear h hn
    go_enter Tryz.func53, Tryz.ntmps53
    go_wp2
    go_ret
    exact ⟨A, n, c, A.map (fun x => x.add n), m - n, c - n, rfl, HO⟩

/-! ### a row of files that fills -/
section
variable {base q : Nat} {w : World} {T U S : Nat → Prop} {ps : List Nat} {Ss : List (Nat → Prop)} {os : OsL}
/-- One that was none has come. -/
theorem pile_fill (h : Pile base (OF base) w T ps Ss os) {a : Nat} {g : FS} (ha : os[a]? = some none) (hf : OF base w S q (some g)) (hS : ∀ k, S k → ¬ T k) (hU : ∀ k, T k → U k) (hU2 : ∀ k, S k → U k) : Pile base (OF base) w U (ps.set a q) (Ss.set a S) (os.set a (some g)) := by
  have hal := (List.getElem?_eq_some_iff.1 ha).1
  have halp : a < ps.length := by rw [h.lenP]; exact hal
  have hals : a < Ss.length := by rw [h.lenS]; exact hal
  refine ⟨by simp [h.lenP], by simp [h.lenS], fun i r S' o h1 h2 h3 => ?_, fun i j S1 S2 h1 h2 hne k hk hk2 => ?_, fun i S' h1 k hk => ?_⟩
  · by_cases e : a = i
    · subst e
      rw [List.getElem?_set_self halp] at h1
      rw [List.getElem?_set_self hals] at h2
      rw [List.getElem?_set_self hal] at h3
      injection h1 with h1; injection h2 with h2; injection h3 with h3
      subst h1; subst h2; subst h3
      exact hf
    · rw [List.getElem?_set_ne e] at h1 h2 h3
      exact h.at_ i r S' o h1 h2 h3
  · by_cases e1 : a = i
    · subst e1
      rw [List.getElem?_set_self hals] at h1
      injection h1 with h1
      subst h1
      rw [List.getElem?_set_ne hne] at h2
      exact hS k hk (h.inT j S2 h2 k hk2)
    · rw [List.getElem?_set_ne e1] at h1
      by_cases e2 : a = j
      · subst e2
        rw [List.getElem?_set_self hals] at h2
        injection h2 with h2
        subst h2
        exact hS k hk2 (h.inT i S1 h1 k hk)
      · rw [List.getElem?_set_ne e2] at h2
        exact h.apart i j S1 S2 h1 h2 hne k hk hk2
  · by_cases e : a = i
    · subst e
      rw [List.getElem?_set_self hals] at h1
      injection h1 with h1
      subst h1
      exact hU2 k hk
    · rw [List.getElem?_set_ne e] at h1
      exact hU k (h.inT i S' h1 k hk)
theorem pile_none (w : World) (T : Nat → Prop) (n : Nat) : Pile base (OF base) w T (List.replicate n 0) (List.replicate n (fun _ => False)) (List.replicate n none) := by
  refine ⟨by simp, by simp, fun i r S o h1 h2 h3 => ?_, fun i j S1 S2 h1 h2 hne k hk hk2 => ?_, fun i S h1 k hk => ?_⟩
  · rw [List.getElem?_replicate] at h2 h3
    split at h2
    · next hi =>
      rw [if_pos hi] at h3
      injection h2 with h2; injection h3 with h3
      subst h2; subst h3
      exact fun k hk => hk
    · cases h2
  · rw [List.getElem?_replicate] at h1
    split at h1
    · injection h1 with h1; subst h1; exact hk
    · cases h1
  · rw [List.getElem?_replicate] at h1
    split at h1
    · injection h1 with h1; subst h1; exact hk.elim
    · cases h1
theorem lookP_fill {a : Nat} {g : FS} (ha : os[a]? = some none) (hl : ps.length = os.length) (i : Int) : lookP (ps.set a q) (os.set a (some g)) i = if i = (a : Int) then some q else lookP ps os i := by
  have hal := (List.getElem?_eq_some_iff.1 ha).1
  by_cases h0 : 0 ≤ i
  · obtain ⟨k, rfl⟩ : ∃ k : Nat, i = k := ⟨i.toNat, by omega⟩
    by_cases e : a = k
    · subst e
      rw [if_pos rfl, lookP_of (List.getElem?_set_self hal), List.getElem?_set_self (by omega)]
    · rw [if_neg (by omega)]
      unfold lookP
      rw [if_pos (by omega), if_pos (by omega), Int.toNat_natCast, List.getElem?_set_ne e, List.getElem?_set_ne e]
  · rw [if_neg (by omega), lookP_neg (by omega), lookP_neg (by omega)]

/-- The first i of a row, and none behind them. -/
def firstO (l : OsL) (i : Nat) : OsL := l.take i ++ List.replicate (l.length - i) none
theorem firstO_length (l : OsL) (i : Nat) : (firstO l i).length = l.length := by unfold firstO; simp; omega
theorem firstO_get (l : OsL) (i k : Nat) : (firstO l i)[k]? = if k < i then l[k]? else if k < l.length then some none else none := by
  unfold firstO
  rcases Nat.lt_or_ge k (l.take i).length with h | h
  · rw [List.getElem?_append_left h]
    rw [List.length_take] at h
    rw [if_pos (by omega), List.getElem?_take_of_lt (by omega)]
  · rw [List.getElem?_append_right h, List.getElem?_replicate]
    rw [List.length_take] at h ⊢
    by_cases h1 : k < i
    · rw [if_pos h1, if_neg (by omega), List.getElem?_eq_none (by omega)]
    · rw [if_neg h1]
      by_cases h2 : k < l.length
      · rw [if_pos h2, if_pos (by omega)]
      · rw [if_neg h2, if_neg (by omega)]
theorem firstO_zero (l : OsL) : firstO l 0 = List.replicate l.length none := by unfold firstO; simp
theorem firstO_step {l : OsL} {i a : Nat} {g : FS} (hi : i ≤ a) (ha : l[a]? = some (some g)) (hn : ∀ b, i ≤ b → b < a → l[b]? = some none) : firstO l (a + 1) = (firstO l i).set a (some g) := by
  have hal := (List.getElem?_eq_some_iff.1 ha).1
  apply List.ext_getElem?
  intro k
  rw [firstO_get]
  by_cases e : a = k
  · subst e
    rw [if_pos (by omega), List.getElem?_set_self (by rw [firstO_length]; exact hal), ha]
  · rw [List.getElem?_set_ne e, firstO_get]
    by_cases h1 : k < i
    · rw [if_pos (by omega), if_pos h1]
    · by_cases h2 : k < a
      · rw [if_pos (by omega), if_neg h1, hn k (by omega) h2, if_pos (by omega)]
      · rw [if_neg (by omega), if_neg h1]
theorem firstO_all {l : OsL} {i : Nat} (hn : ∀ b, i ≤ b → b < l.length → l[b]? = some none) : firstO l i = l := by
  apply List.ext_getElem?
  intro k
  rw [firstO_get]
  by_cases h1 : k < i
  · rw [if_pos h1]
  · rw [if_neg h1]
    by_cases h2 : k < l.length
    · rw [if_pos h2, hn k (by omega) h2]
    · rw [if_neg h2, List.getElem?_eq_none (by omega)]
/-- As many are pending up to the next that is in the map. -/
theorem looseO_take_step {l : OsL} {i a : Nat} (hi : i ≤ a) (ha : a ≤ l.length) (hn : ∀ b, i ≤ b → b < a → l[b]? = some none) : looseO (l.take a) = looseO (l.take i) := by
  induction a with
  | zero => rw [show i = 0 by omega]
  | succ a ih =>
    by_cases e : i = a + 1
    · rw [e]
    · have h1 := ih (by omega) (by omega) (fun b h1 h2 => hn b h1 (by omega))
      rw [← h1, List.take_succ_eq_append_getElem (show a < l.length by omega)]
      have h2 := hn a (by omega) (by omega)
      rw [List.getElem?_eq_getElem (show a < l.length by omega)] at h2
      injection h2 with h2
      rw [h2]
      unfold looseO
      rw [List.length_append, List.length_singleton, sumN]
      have hlen : (l.take a).length = a := by rw [List.length_take]; omega
      have e1 : (l.take a ++ [none]).getD (l.take a).length none = none := by rw [List.getD_eq_getElem?_getD, List.getElem?_append_right (Nat.le_refl _)]; simp
      rw [e1]
      show _ + pendO none = _
      rw [show pendO none = 0 from rfl, Nat.add_zero]
      exact sumN_congr fun j hj => by rw [List.getD_eq_getElem?_getD, List.getD_eq_getElem?_getD, List.getElem?_append_left hj]
theorem looseO_take_one {l : OsL} {a : Nat} {f : FS} (ha : l[a]? = some (some f)) : looseO (l.take (a + 1)) = looseO (l.take a) + f.ops.length := by
  have hal := (List.getElem?_eq_some_iff.1 ha).1
  rw [List.take_succ_eq_append_getElem hal]
  rw [List.getElem?_eq_getElem hal] at ha
  injection ha with ha
  rw [ha]
  unfold looseO
  rw [List.length_append, List.length_singleton, sumN]
  have hlen : (l.take a).length = a := by rw [List.length_take]; omega
  have e1 : (l.take a ++ [some f]).getD (l.take a).length none = some f := by rw [List.getD_eq_getElem?_getD, List.getElem?_append_right (Nat.le_refl _)]; simp
  rw [e1]
  show _ + f.ops.length = _
  congr 1
  exact sumN_congr fun j hj => by rw [List.getD_eq_getElem?_getD, List.getD_eq_getElem?_getD, List.getElem?_append_left hj]
end
/-- By what is needed of it alone. -/
theorem fcrash_take (f : FS) (ks : List Bool) : f.crash (ks.take f.ops.length) = f.crash ks := by
  have key : ∀ (ops : List OpV) (z : List Int) (ks : List Bool), crashL z ops (ks.take ops.length) = crashL z ops ks := by
    intro ops
    induction ops with
    | nil => intro z ks; rfl
    | cons o r ih =>
      intro z ks
      cases ks with
      | nil => rfl
      | cons k t => simp only [List.length_cons, List.take_succ_cons, crashL]; rw [ih]
  unfold FS.crash
  rw [key]
theorem dcrash_take (d : DB) (ks : List Bool) : d.crash cfT (ks.take d.ops.length) = d.crash cfT ks := by
  have key : ∀ (ops : List OpB) (z : NmL) (ks : List Bool), crashN cfT z ops (ks.take ops.length) = crashN cfT z ops ks := by
    intro ops
    induction ops with
    | nil => intro z ks; cases ks <;> rfl
    | cons o r ih =>
      intro z ks
      cases ks with
      | nil => rfl
      | cons k t => simp only [List.length_cons, List.take_succ_cons, crashN]; rw [ih]
  unfold DN.crash
  rw [key]

end Go.Proofs.YtclglbddibjenaaGreat
