/-
  LAYER 4, PLAIN: texts as arrays of bytes: how they compare, which name fields, how one is cut at its first sign of equality, the order by fields. Of no program.
-/
import Derived.Test.YtakjiklpfddooaaItemMath
import Derived.Laws.Cover1
import Derived.Lib.Strings
set_option linter.unusedVariables false
namespace Go.Proofs.Ytakjiklpfddooaa

theorem cmpBytes_less : ∀ (a b : List UInt8), Op.bytesLess a b = decide (Lib.compareBytes a b < 0)
  | [], [] => by simp [Op.bytesLess, Lib.compareBytes]
  | [], _ :: _ => by simp [Op.bytesLess, Lib.compareBytes]
  | _ :: _, [] => by simp [Op.bytesLess, Lib.compareBytes]
  | x :: a, y :: b => by
    have ih := cmpBytes_less a b
    unfold Op.bytesLess Lib.compareBytes
    by_cases h1 : x < y
    · simp [h1]
    · by_cases h2 : y < x
      · have hne : x ≠ y := by rintro rfl; exact absurd h2 h1
        simp [h1, h2, hne]
      · have he : x = y := UInt8.le_antisymm (UInt8.not_lt.1 h2) (UInt8.not_lt.1 h1)
        subst he
        simp [ih]

theorem cmpBytes_tot : TotC Lib.compareBytes where
  eq := by
    intro x
    induction x with
    | nil => intro y h; cases y with
      | nil => rfl
      | cons y b => simp [Lib.compareBytes] at h
    | cons x a ih => intro y h; cases y with
      | nil => simp [Lib.compareBytes] at h
      | cons y b =>
        unfold Lib.compareBytes at h
        by_cases h1 : x < y
        · simp [h1] at h
        · by_cases h2 : y < x
          · simp [h1, h2] at h
          · have he : x = y := UInt8.le_antisymm (UInt8.not_lt.1 h2) (UInt8.not_lt.1 h1)
            subst he
            rw [if_neg h1, if_neg h2] at h
            rw [ih b h]
  self := by
    intro x
    induction x with
    | nil => rfl
    | cons x a ih => unfold Lib.compareBytes; rw [if_neg (UInt8.lt_irrefl x), if_neg (UInt8.lt_irrefl x)]; exact ih
  anti := by
    intro x
    induction x with
    | nil => intro y h; cases y with
      | nil => simp [Lib.compareBytes] at h
      | cons y b => simp [Lib.compareBytes]
    | cons x a ih => intro y h; cases y with
      | nil => simp [Lib.compareBytes] at h
      | cons y b =>
        unfold Lib.compareBytes at h ⊢
        by_cases h1 : x < y
        · rw [if_neg (UInt8.lt_asymm h1), if_pos h1]; omega
        · by_cases h2 : y < x
          · rw [if_neg h1, if_pos h2] at h; omega
          · rw [if_neg h1, if_neg h2] at h
            rw [if_neg h2, if_neg h1]
            exact ih b h
  anti' := by
    intro x
    induction x with
    | nil => intro y h; cases y with
      | nil => simp [Lib.compareBytes] at h
      | cons y b => simp [Lib.compareBytes] at h
    | cons x a ih => intro y h; cases y with
      | nil => simp [Lib.compareBytes]
      | cons y b =>
        unfold Lib.compareBytes at h ⊢
        by_cases h1 : x < y
        · rw [if_pos h1] at h; omega
        · by_cases h2 : y < x
          · rw [if_pos h2]; omega
          · rw [if_neg h1, if_neg h2] at h
            rw [if_neg h2, if_neg h1]
            exact ih b h
  trans := by
    intro x
    induction x with
    | nil => intro y z h1 h2; cases y with
      | nil => simp [Lib.compareBytes] at h1
      | cons y b => cases z with
        | nil => simp [Lib.compareBytes] at h2
        | cons z c => simp [Lib.compareBytes]
    | cons x a ih => intro y z h1 h2; cases y with
      | nil => simp [Lib.compareBytes] at h1
      | cons y b => cases z with
        | nil => simp [Lib.compareBytes] at h2
        | cons z c =>
          unfold Lib.compareBytes at h1 h2 ⊢
          by_cases e1 : x < y
          · by_cases e2 : y < z
            · rw [if_pos (UInt8.lt_trans e1 e2)]; omega
            · by_cases e3 : z < y
              · rw [if_neg e2, if_pos e3] at h2; omega
              · have he : y = z := UInt8.le_antisymm (UInt8.not_lt.1 e3) (UInt8.not_lt.1 e2)
                subst he
                rw [if_pos e1]; omega
          · by_cases e2 : y < x
            · rw [if_neg e1, if_pos e2] at h1; omega
            · have he : x = y := UInt8.le_antisymm (UInt8.not_lt.1 e2) (UInt8.not_lt.1 e1)
              subst he
              rw [if_neg e1, if_neg e2] at h1
              by_cases e3 : x < z
              · rw [if_pos e3]; omega
              · by_cases e4 : z < x
                · rw [if_neg e3, if_pos e4] at h2; omega
                · rw [if_neg e3, if_neg e4] at h2 ⊢
                  exact ih b c h1 h2

/-- Texts by their bytes. -/
def cfT (a b : ByteArray) : Int := Lib.compareBytes a.data.toList b.data.toList

theorem bytes_ext {a b : ByteArray} (h : a.data.toList = b.data.toList) : a = b := ByteArray.ext (Array.ext' h)

theorem cfT_tot : TotC cfT where
  eq x y h := bytes_ext (cmpBytes_tot.eq _ _ h)
  self x := cmpBytes_tot.self _
  anti x y h := cmpBytes_tot.anti _ _ h
  anti' x y h := cmpBytes_tot.anti' _ _ h
  trans x y z h1 h2 := cmpBytes_tot.trans _ _ _ h1 h2

theorem less_cfT (a b : ByteArray) : Op.bytesLess a.toList b.toList = decide (cfT a b < 0) := by
  rw [_root_.Go.ByteArray.toList_eq, _root_.Go.ByteArray.toList_eq, cmpBytes_less]; rfl
theorem beq_text (a b : ByteArray) : (a.toList == b.toList) = decide (a = b) := by
  rw [_root_.Go.ByteArray.toList_eq, _root_.Go.ByteArray.toList_eq, Bool.eq_iff_iff]
  simp only [beq_iff_eq, decide_eq_true_eq]
  exact ⟨bytes_ext, fun h => by rw [h]⟩

/-! ### Names -/
/-- May byte c stand in a name at place i? -/
def okAt (c : Nat) (i : Nat) : Bool := decide ((65 ≤ c ∧ c ≤ 90) ∨ c = 95 ∨ (48 ≤ c ∧ c ≤ 57 ∧ 0 < i))
/-- May it stand there wherever that is? -/
def okOf (c : Nat) : Bool := decide ((65 ≤ c ∧ c ≤ 90) ∨ c = 95 ∨ (48 ≤ c ∧ c ≤ 57))
def digB (c : Nat) : Bool := decide (48 ≤ c ∧ c ≤ 57)
def nthB (s : ByteArray) (i : Nat) : Nat := (s.data.toList.getD i 0).toNat
def nameB (s : ByteArray) : Bool := decide (1 ≤ s.size ∧ s.size ≤ 64) && (List.range s.size).all fun i => okAt (nthB s i) i

theorem nthB_get (s : ByteArray) (i : Nat) (h : i < s.size) : nthB s i = s[i].toNat := by
  unfold nthB
  rw [List.getD_eq_getElem?_getD, List.getElem?_eq_getElem (by simpa using h)]
  rfl
theorem nthB_lt (s : ByteArray) (i : Nat) : nthB s i < 256 := UInt8.toNat_lt _

theorem nameB_iff (s : ByteArray) : nameB s = true ↔ 1 ≤ s.size ∧ s.size ≤ 64 ∧ ∀ i, i < s.size → okAt (nthB s i) i = true := by
  unfold nameB
  rw [Bool.and_eq_true, decide_eq_true_eq, List.all_eq_true]
  simp only [List.mem_range]
  exact ⟨fun ⟨⟨a, b⟩, c⟩ => ⟨a, b, c⟩, fun ⟨a, b, c⟩ => ⟨⟨a, b⟩, c⟩⟩
theorem nameB_no {s : ByteArray} (h : ¬ (1 ≤ s.size ∧ s.size ≤ 64 ∧ ∀ i, i < s.size → okAt (nthB s i) i = true)) : nameB s = false := by
  cases hn : nameB s with
  | false => rfl
  | true => exact absurd ((nameB_iff s).1 hn) h
theorem okAt_of {c i : Nat} (h : okOf c = true) (hi : 0 < i ∨ digB c = false) : okAt c i = true := by
  unfold okOf digB at *; unfold okAt
  simp only [decide_eq_true_eq, decide_eq_false_iff_not] at *
  omega
theorem okOf_at {c i : Nat} (h : okAt c i = true) : okOf c = true := by
  unfold okOf okAt at *
  simp only [decide_eq_true_eq] at *
  omega
theorem okAt_dig {c : Nat} (h : digB c = true) : okAt c 0 = false := by
  unfold digB okAt at *
  simp only [decide_eq_true_eq, decide_eq_false_iff_not] at *
  omega

/-! ### Cut at the first sign of equality -/
def eqIdx (s : ByteArray) : Int := Lib.indexByte s.data.toList 61
theorem eqIdx_ge (s : ByteArray) : -1 ≤ eqIdx s := Lib.indexByte_ge _ _
theorem eqIdx_lt (s : ByteArray) : eqIdx s < s.size := by
  rcases Int.lt_or_le (eqIdx s) 0 with h | h
  · omega
  · obtain ⟨n, hn⟩ := Int.eq_ofNat_of_zero_le h
    have := (Lib.indexByte_some (l := s.data.toList) (c := 61) (o := n) hn).1
    have := (List.getElem?_eq_some_iff.1 this).1
    simp at this
    rw [hn]; omega
theorem eqIdx_none {s : ByteArray} (h : eqIdx s = -1) (k : Nat) (hk : k < s.size) : nthB s k ≠ 61 := by
  have := Lib.indexByte_none (l := s.data.toList) (c := 61) h k
  rw [List.getElem?_eq_getElem (by simpa using hk)] at this
  intro e
  apply this
  congr 1
  rw [nthB_get s k hk] at e
  exact UInt8.toNat_inj.1 e
theorem eqIdx_some {s : ByteArray} {n : Nat} (h : eqIdx s = n) : nthB s n = 61 ∧ ∀ k, k < n → nthB s k ≠ 61 := by
  obtain ⟨h1, h2⟩ := Lib.indexByte_some (l := s.data.toList) (c := 61) (o := n) h
  have hl : n < s.size := by have := eqIdx_lt s; rw [h] at this; omega
  refine ⟨?_, fun k hk e => h2 k hk ?_⟩
  · unfold nthB; rw [List.getD_eq_getElem?_getD, h1]; rfl
  · rw [List.getElem?_eq_getElem (by have : s.data.toList.length = s.size := by simp
                                     omega)]
    congr 1
    rw [nthB_get s k (by omega)] at e
    exact UInt8.toNat_inj.1 e
/-- The first sign of equality is where all ahead of it are none. -/
theorem eqIdx_of {s : ByteArray} {n : Nat} (hn : n < s.size) (h : nthB s n = 61) (hb : ∀ k, k < n → nthB s k ≠ 61) : eqIdx s = n := by
  have hge := eqIdx_ge s
  rcases Int.lt_or_le (eqIdx s) 0 with h1 | h1
  · exact absurd h (eqIdx_none (by omega) n hn)
  · obtain ⟨m, hm⟩ := Int.eq_ofNat_of_zero_le h1
    obtain ⟨a, b⟩ := eqIdx_some hm
    rw [hm]
    rcases Nat.lt_trichotomy m n with e | e | e
    · exact absurd a (hb m e)
    · rw [e]
    · exact absurd h (b n e)
theorem eqIdx_no {s : ByteArray} (hb : ∀ k, k < s.size → nthB s k ≠ 61) : eqIdx s = -1 := by
  have hge := eqIdx_ge s
  have hlt := eqIdx_lt s
  rcases Int.lt_or_le (eqIdx s) 0 with h1 | h1
  · omega
  · obtain ⟨m, hm⟩ := Int.eq_ofNat_of_zero_le h1
    rw [hm] at hlt
    exact absurd (eqIdx_some hm).1 (hb m (by omega))

/-- Does a text have a field? -/
def spOk (s : ByteArray) : Bool := decide (0 ≤ eqIdx s) && nameB (s.extract 0 (eqIdx s).toNat)
def spF (s : ByteArray) : ByteArray := if spOk s then s.extract 0 (eqIdx s).toNat else ⟨#[]⟩
def spV (s : ByteArray) : ByteArray := if spOk s then s.extract ((eqIdx s).toNat + 1) s.size else ⟨#[]⟩

theorem spOk_none {s : ByteArray} (h : eqIdx s < 0) : spOk s = false := by
  unfold spOk; rw [decide_eq_false (by omega)]; rfl
theorem spOk_name {s : ByteArray} {n : Nat} (h : eqIdx s = n) : spOk s = nameB (s.extract 0 n) := by
  unfold spOk; rw [h, decide_eq_true (by omega)]; simp
theorem spF_yes {s : ByteArray} {n : Nat} (h : eqIdx s = n) (ho : spOk s = true) : spF s = s.extract 0 n := by unfold spF; rw [if_pos ho, h]; rfl
theorem spV_yes {s : ByteArray} {n : Nat} (h : eqIdx s = n) (ho : spOk s = true) : spV s = s.extract (n + 1) s.size := by unfold spV; rw [if_pos ho, h]; rfl
theorem spF_no {s : ByteArray} (ho : spOk s = false) : spF s = ⟨#[]⟩ := by unfold spF; rw [ho]; rfl
theorem spV_no {s : ByteArray} (ho : spOk s = false) : spV s = ⟨#[]⟩ := by unfold spV; rw [ho]; rfl
theorem spF_size (s : ByteArray) : (spF s).size ≤ s.size := by
  unfold spF
  by_cases h : spOk s = true
  · rw [if_pos h]; simp; omega
  · rw [if_neg h]; exact Nat.zero_le _

/-! ### The order by fields -/
def cfF (a b : ByteArray) : Int := if cfT (spF a) (spF b) = 0 then cfT a b else cfT (spF a) (spF b)

theorem cfF_tot : TotC cfF where
  eq x y h := by
    unfold cfF at h
    by_cases e : cfT (spF x) (spF y) = 0
    · rw [if_pos e] at h; exact cfT_tot.eq _ _ h
    · rw [if_neg e] at h; exact absurd h e
  self x := by unfold cfF; rw [cfT_tot.self, if_pos rfl]; exact cfT_tot.self x
  anti x y h := by
    unfold cfF at h ⊢
    by_cases e : cfT (spF x) (spF y) = 0
    · rw [if_pos e] at h
      rw [cfT_tot.eq _ _ e, cfT_tot.self, if_pos rfl]
      exact cfT_tot.anti _ _ h
    · rw [if_neg e] at h
      have := cfT_tot.anti _ _ h
      rw [if_neg (by omega)]; exact this
  anti' x y h := by
    unfold cfF at h ⊢
    by_cases e : cfT (spF x) (spF y) = 0
    · rw [if_pos e] at h
      rw [cfT_tot.eq _ _ e, cfT_tot.self, if_pos rfl]
      exact cfT_tot.anti' _ _ h
    · rw [if_neg e] at h
      have := cfT_tot.anti' _ _ h
      rw [if_neg (by omega)]; exact this
  trans x y z h1 h2 := by
    unfold cfF at h1 h2 ⊢
    by_cases e1 : cfT (spF x) (spF y) = 0
    · rw [if_pos e1] at h1
      rw [cfT_tot.eq _ _ e1]
      by_cases e2 : cfT (spF y) (spF z) = 0
      · rw [if_pos e2] at h2 ⊢
        exact cfT_tot.trans _ _ _ h1 h2
      · rw [if_neg e2] at h2 ⊢; exact h2
    · rw [if_neg e1] at h1
      by_cases e2 : cfT (spF y) (spF z) = 0
      · rw [← cfT_tot.eq _ _ e2, if_neg e1]; exact h1
      · rw [if_neg e2] at h2
        have := cfT_tot.trans _ _ _ h1 h2
        rw [if_neg (by omega)]; exact this

theorem cfF_same {x y : ByteArray} (h : spF x = spF y) : cfF x y = cfT x y := by unfold cfF; rw [h, cfT_tot.self, if_pos rfl]
theorem cfF_less {x y : ByteArray} (h : cfT (spF x) (spF y) < 0) : cfF x y < 0 := by unfold cfF; rw [if_neg (by omega)]; exact h

/-! ### The document's Fields and Sorted -/
def fieldsR (l : List ByteArray) : List ByteArray := putAll cfT (l.map spF)
/-- What the document puts together of one field. -/
def ofR (l : List ByteArray) (f : ByteArray) : List ByteArray := putAll cfT (l.filter fun x => decide (spF x = f))
def sortedR (l : List ByteArray) : List ByteArray := (fieldsR l).flatMap (ofR l)

theorem once_fields (l : List ByteArray) : onceL cfT (l.map spF) = fieldsR l := once_put cfT_tot _
theorem once_sorted (l : List ByteArray) : onceL cfF l = sortedR l := by
  obtain ⟨h1, h2⟩ := onceL_spec cfF_tot l
  obtain ⟨h3, h4⟩ := putAll_spec cfT_tot (l.map spF)
  have of_ : ∀ f y, y ∈ ofR l f ↔ y ∈ l ∧ spF y = f := fun f y => by
    unfold ofR
    rw [(putAll_spec cfT_tot _).2, List.mem_filter]
    simp
  refine rise_unique cfF_tot _ _ h1 ?_ fun x => ?_
  · unfold Rises sortedR
    rw [List.pairwise_flatMap]
    refine ⟨fun f _ => ?_, ?_⟩
    · refine List.Pairwise.imp_of_mem ?_ (putAll_spec cfT_tot (l.filter fun x => decide (spF x = f))).1
      intro a b ha hb hab
      have ha' := (of_ f a).1 ha
      have hb' := (of_ f b).1 hb
      rw [cfF_same (by rw [ha'.2, hb'.2])]
      exact hab
    · refine List.Pairwise.imp ?_ h3
      intro f g hfg x hx y hy
      have hx' := (of_ f x).1 hx
      have hy' := (of_ g y).1 hy
      exact cfF_less (by rw [hx'.2, hy'.2]; exact hfg)
  · rw [h2]
    unfold sortedR
    rw [List.mem_flatMap]
    constructor
    · intro hx
      exact ⟨spF x, (h4 _).2 (List.mem_map_of_mem hx), (of_ _ _).2 ⟨hx, rfl⟩⟩
    · rintro ⟨f, _, hx⟩
      exact ((of_ f x).1 hx).1

end Go.Proofs.Ytakjiklpfddooaa
