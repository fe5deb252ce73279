/-
  LAYER 4: once: a list cloned, sorted and compacted: contracts.
-/
import Derived.Test.YtggjimpnimlmmaaItemOnce
set_option linter.unusedVariables false
set_option linter.unusedSimpArgs false
namespace Go.Proofs.Ytggjimpnimlmmaa
open Go.RowKit Go.Sort Go.Shelf

/-! ### Plain -/
def msort (cf : ByteArray → ByteArray → Int) (l : List ByteArray) : List ByteArray := l.mergeSort fun x y => !decide (cf y x < 0)
def bytesOf (l : List UInt8) : ByteArray := ⟨l.toArray⟩
theorem bytesOf_data (s : ByteArray) : bytesOf s.data.toList = s := by cases s; simp [bytesOf]
def compB (qs : List ByteArray) : List ByteArray := (Lib.compact (qs.map (·.data.toList))).map bytesOf

theorem msort_pw {cf : ByteArray → ByteArray → Int} (h : TotC cf) (l : List ByteArray) : (msort cf l).Pairwise fun a b => ¬ cf b a < 0 := by
  have hs := List.pairwise_mergeSort (le := fun x y => !decide (cf y x < 0))
    (by
      intro a b c h1 h2
      simp only [Bool.not_eq_true', decide_eq_false_iff_not] at h1 h2 ⊢
      intro h3
      rcases h.tri a b with e | e | e
      · exact h2 (h.trans c a b h3 e)
      · subst e; exact h2 h3
      · exact h1 e)
    (by
      intro a b
      rcases h.tri a b with e | e | e
      · have := h.asym e; simp [this]
      · subst e; have := h.irr a; simp [this]
      · have := h.asym e; simp [this]) l
  exact hs.imp fun hh => by simpa using hh

theorem once_bytes {cf : ByteArray → ByteArray → Int} (h : TotC cf) (l : List ByteArray) : compB (msort cf l) = onceL cf l := by
  have h' : TotC (fun a b : List UInt8 => cf (bytesOf a) (bytesOf b)) :=
    { eq := fun x y e => by
        have := h.eq _ _ e
        have := congrArg (fun s : ByteArray => s.data.toList) this
        simpa [bytesOf] using this
      self := fun x => h.self _
      anti := fun x y => h.anti _ _
      anti' := fun x y => h.anti' _ _
      trans := fun x y z => h.trans _ _ _ }
  have hp := List.mergeSort_perm l fun x y => !decide (cf y x < 0)
  have hs := msort_pw h l
  have hq : msort cf l = l.mergeSort fun x y => !decide (cf y x < 0) := rfl
  rw [← hq] at hp
  clear hq
  generalize msort cf l = q at hp hs
  have hg : ∀ i, (hi : i < q.length) → (q.map (·.data.toList)).toArray[i]! = q[i].data.toList := fun i hi => by simp [hi]
  obtain ⟨h1, h2⟩ := compact_spec h' (q.map (·.data.toList)).toArray (by
    intro i j hij hj
    have hj' : j < q.length := by simpa using hj
    rw [hg i (by omega), hg j hj', bytesOf_data, bytesOf_data]
    exact List.pairwise_iff_getElem.1 hs i j (by omega) hj' hij) (q.map (·.data.toList)).length (by simp)
  obtain ⟨h3, h4⟩ := onceL_spec h l
  refine rise_unique h _ _ ?_ h3 fun x => ?_
  · unfold Rises compB Lib.compact
    rw [List.pairwise_map]
    exact h1
  · rw [h4, ← hp.mem_iff]
    unfold compB Lib.compact
    rw [List.mem_map]
    constructor
    · rintro ⟨y, hy, rfl⟩
      obtain ⟨i, hi, e⟩ := (h2 y).1 hy
      have hi' : i < q.length := by simpa using hi
      rw [hg i hi'] at e
      rw [← e, bytesOf_data]
      exact List.getElem_mem hi'
    · intro hx
      obtain ⟨i, hi, e⟩ := List.getElem_of_mem hx
      exact ⟨x.data.toList, (h2 _).2 ⟨i, by simpa using hi, by rw [hg i hi, e]⟩, bytesOf_data x⟩

/-! ### Clone -/
theorem clone_any (A : Option Addr) (n c : Nat) (zs : List ByteArray) (B : Nat) (w : World) (h : Txt w B A n c zs) (hn : n ≤ 1000) :
    Calls Try.prog 36 #[.slice A n c] w fun e w' => ∃ v, e = .returned v ∧ w'.ownsRow w.heap.size 9 1 v n (cellsT zs) ∧ Below w.heap.size w w' := by
  have hl := h.len
  rcases A with _ | ad
  · have h0 : n = 0 := by
      rcases Nat.eq_zero_or_pos n with e | e
      · exact e
      · obtain ⟨ad, e, _⟩ := h.reads.2 e; cases e
    subst h0
    obtain rfl := List.eq_nil_of_length_eq_zero hl
    have hc := Any.slices_Clone_string_nil Try.layClone 0 c w
    exact hc.mono fun e w' ⟨he, hw⟩ => ⟨_, he, by rw [hw]; exact World.ownsRow_nil _ _ _ _, by rw [hw]; exact Below.refl _ _⟩
  · rcases Nat.eq_zero_or_pos n with e | e
    · subst e
      obtain rfl := List.eq_nil_of_length_eq_zero hl
      have hc := Any.slices_Clone_string_zero Try.layClone ad c w
      exact hc.mono fun e w' ⟨v, he, ho, _, hb⟩ => ⟨v, he, ho, hb⟩
    · obtain ⟨b, off, e2, hb, hcell⟩ := h.at_ e
      injection e2 with e2
      subst e2
      have hc := Any.slices_Clone_string Try.layClone b off n c zs w (by omega) (by omega) (fun j hj => hcell j (by omega))
      exact hc.mono fun e w' ⟨v, he, ho, _, hb⟩ => ⟨v, he, by rw [List.take_of_length_le (by omega)] at ho; exact ho, hb⟩

/-! ### SortFunc -/
theorem own_grow {w : World} {base : Nat} {e : TypeId} {size n : Nat} {v : Value} {xs : List Value} (h : w.ownsRow base e size v n xs) (os : Array Obj) : (grow w os).ownsRow base e size v n xs := by
  refine ⟨h.1, ?_⟩
  rcases h.2 with hn | ⟨g, cap, cur, rfl, hb, hg, rest⟩
  · exact .inl hn
  · exact .inr ⟨g, cap, cur, rfl, hb, by rw [heap_grow_old _ _ (Array.getElem?_eq_some_iff.1 hg).1]; exact hg, rest⟩
theorem below_grow {B : Nat} {w0 w : World} (h : Below B w0 w) (hB : B ≤ w.heap.size) (os : Array Obj) : Below B w0 (grow w os) :=
  ⟨h.os, h.tape, h.output, by have := h.size; simp; omega, fun k hk => (heap_grow_old w os (by omega)).trans (h.block k hk)⟩

/-- Texts that a machine can hold. -/
abbrev TS := { s : ByteArray // s.size ≤ maxLen }
instance : Inhabited TS := ⟨⟨⟨#[]⟩, Nat.zero_le _⟩⟩
def encTS (x : TS) : Value := .string x.1
theorem oneTS : OneCell encTS := fun _ => rfl
theorem liftTS : ∀ (zs : List ByteArray), (∀ s ∈ zs, s.size ≤ maxLen) → ∃ l : List TS, l.map (·.1) = zs
  | [], _ => ⟨[], rfl⟩
  | s :: zs, h => by
    obtain ⟨l, hl⟩ := liftTS zs (fun x hx => h x (List.mem_cons_of_mem _ hx))
    exact ⟨⟨s, h s (List.mem_cons_self ..)⟩ :: l, by rw [List.map_cons, hl]⟩
theorem mapTS (l : List TS) : l.map encTS = cellsT (l.map (·.1)) := by unfold cellsT; rw [List.map_map]; rfl

/-- A comparison as a function value: what it tells of any two texts, whatever the world. -/
structure CmpFn (g : Nat) (cf : ByteArray → ByteArray → Int) : Prop where
  enters : ∀ args w, (callFunc g args).run Try.prog w = .ok (.enter g args) w
  tells : ∀ (a b : ByteArray) (w : World), a.size ≤ maxLen → b.size ≤ maxLen → Calls Try.prog g #[.string a, .string b] w fun e w' => e = .returned (.int .i64 (cf a b)) ∧ Grew w w'
  tot : TotC cf

theorem CmpFn.lays {g : Nat} {cf : ByteArray → ByteArray → Int} (h : CmpFn g cf) (blk off size : Nat) (w : World) : CmpLays1 Try.prog g #[] encTS (fun x y : TS => cf x.1 y.1) blk off size w :=
  fun m os dk hs x y => (h.tells x.1 y.1 _ x.2 y.2).mono fun e w' ⟨he, q, os', hw⟩ => ⟨he, q, os', hw⟩

theorem sort_any (g : Nat) (cf : ByteArray → ByteArray → Int) (hC : CmpFn g cf) (A : Option Addr) (n c : Nat) (zs : List ByteArray) (base : Nat) (w : World)
    (ho : w.ownsRow base 9 1 (.slice A n c) n (cellsT zs)) (hb : base ≤ w.heap.size) (hsz : ∀ s ∈ zs, s.size ≤ maxLen) (hn : n ≤ 1000) :
    Calls Try.prog 37 #[.slice A n c, .func (.func g) #[] #[]] w fun e w' => e = .returned (.tuple #[]) ∧ w'.ownsRow base 9 1 (.slice A n c) n (cellsT (msort cf zs)) ∧ Below base w w' := by
  by_cases hv : (Value.slice A n c) = .slice none 0 0
  · injection hv with e1 e2 e3
    subst e1; subst e2; subst e3
    have hz : zs = [] := List.eq_nil_of_length_eq_zero (by have := ho.1; rw [cellsT_length] at this; omega)
    subst hz
    have hS := AnyF.slices_SortFunc_none (P := Try.prog) (ρ := Try.laySort_ren) { Try.laySort with } none 0 (.func (.func g) #[] #[]) w
    have e0 : msort cf [] = [] := by unfold msort; exact List.mergeSort_nil
    rw [e0]
    exact hS.mono fun e w' ⟨he, hw⟩ => ⟨he, by rw [hw]; exact ho, by rw [hw]; exact Below.refl _ _⟩
  · obtain ⟨l, hl⟩ := liftTS zs hsz
    subst hl
    rw [← mapTS] at ho
    obtain ⟨blk, cap, e, hbase, hlt, hnc, hcm, hlen, hH⟩ := Lib.holds_of_ownsRow ho hv
    injection e with e1 e2 e3
    subst e1; subst e3
    have hT := hC.tot
    have hO : SWO (ltOf fun x y : TS => cf x.1 y.1) :=
      { irrefl := fun x => decide_eq_false (hT.irr _)
        trans := fun x y z h1 h2 => decide_eq_true (hT.trans _ _ _ (of_decide_eq_true h1) (of_decide_eq_true h2))
        ntrans := fun x y z h1 h2 => by
          have h1' : ¬ cf x.1 y.1 < 0 := of_decide_eq_false h1
          have h2' : ¬ cf y.1 z.1 < 0 := of_decide_eq_false h2
          refine decide_eq_false fun h3 => ?_
          have h3 : cf x.1 z.1 < 0 := h3
          rcases hT.tri x.1 y.1 with e | e | e
          · exact h1' e
          · rw [e] at h3; exact h2' h3
          · exact h2' (hT.trans _ _ _ e h3) }
    have hTT : ∀ x y : TS, (ltOf fun x y : TS => cf x.1 y.1) x y = false → (ltOf fun x y : TS => cf x.1 y.1) y x = false → x = y := fun x y h1 h2 => by
      have h1' := of_decide_eq_false h1
      have h2' := of_decide_eq_false h2
      rcases hT.tri x.1 y.1 with e | e | e
      · exact absurd e h1'
      · exact Subtype.ext e
      · exact absurd e h2'
    have hsize : l.toArray.size = n := by simpa using hlen
    have hS := Any.slices_SortFunc_total Try.laySort encTS oneTS (fun x y : TS => cf x.1 y.1) hO g #[] blk 0 c l.toArray w hC.enters (hC.lays _ _ _ _) hH hlt (by rw [hsize]; omega) hTT
    rw [hsize] at hS
    refine hS.mono fun e w' ⟨he, q, os, hw⟩ => ?_
    have hms : (l.mergeSort fun x y => !(ltOf fun x y : TS => cf x.1 y.1) y x).map (·.1) = msort cf (l.map (·.1)) := by
      unfold msort
      exact List.map_mergeSort fun a _ b _ => rfl
    have hml : (l.mergeSort fun x y => !(ltOf fun x y : TS => cf x.1 y.1) y x).length = n := by rw [List.length_mergeSort]; exact hlen
    have hput := Lib.ownsRow_putRow (q := q) (k := n) (ys := l.mergeSort fun x y => !(ltOf fun x y : TS => cf x.1 y.1) y x) ho hml (Nat.le_refl _)
    rw [List.take_of_length_le (by omega), mapTS, hms] at hput
    subst hw
    exact ⟨he, own_grow hput os, below_grow (Lib.below_putRow (Below.refl _ _) hbase) (by simpa [putRow, mapBlock, Sort.ahead] using hb) os⟩

/-! ### Compact -/
theorem encStr_map (qs : List ByteArray) : (qs.map (·.data.toList)).map encStr = cellsT qs := Lib.map_encStr qs
theorem compB_map (qs : List ByteArray) : (Lib.compact (qs.map (·.data.toList))).map encStr = cellsT (compB qs) := by
  unfold compB cellsT; rw [List.map_map]; rfl
theorem compB_length (qs : List ByteArray) : (compB qs).length = (Lib.compact (qs.map (·.data.toList))).length := by unfold compB; rw [List.length_map]
theorem compB_le (qs : List ByteArray) : (compB qs).length ≤ qs.length := by rw [compB_length]; exact Nat.le_trans (Lib.compact_length_le _) (by simp)

theorem compact_any (A : Option Addr) (n c : Nat) (qs : List ByteArray) (base : Nat) (w : World)
    (ho : w.ownsRow base 9 1 (.slice A n c) n (cellsT qs)) (hb : base ≤ w.heap.size) (hn : n ≤ 1000) :
    Calls Try.prog 38 #[.slice A n c] w fun e w' => e = .returned (.slice A (compB qs).length c) ∧ w'.ownsRow base 9 1 (.slice A (compB qs).length c) (compB qs).length (cellsT (compB qs)) ∧ Below base w w' := by
  have hql : qs.length = n := by have := ho.1; rw [cellsT_length] at this; omega
  by_cases hv : (Value.slice A n c) = .slice none 0 0
  · injection hv with e1 e2 e3
    subst e1; subst e2; subst e3
    have hz : qs = [] := List.eq_nil_of_length_eq_zero hql
    subst hz
    have hS := Any.slices_Compact_string_empty Try.layCompact none 0 w
    exact hS.mono fun e w' ⟨he, hw⟩ => ⟨he, by rw [hw]; exact ho, by rw [hw]; exact Below.refl _ _⟩
  · rw [← encStr_map] at ho
    obtain ⟨blk, cap, e, hbase, hlt, hnc, hcm, hlen, hH⟩ := Lib.holds_of_ownsRow ho hv
    injection e with e1 e2 e3
    subst e1; subst e3
    have hS := Any.slices_Compact_string Try.layCompact blk 0 c (qs.map (·.data.toList)) w hH (by rw [hlen]; omega) (by rw [hlen]; exact hnc)
    rw [hlen, ← compB_length] at hS
    refine hS.mono fun e w' ⟨he, q, hw⟩ => ?_
    have hput := Lib.ownsRow_putRow (q := q) (k := (compB qs).length) (ys := Lib.compact (qs.map (·.data.toList)) ++ List.replicate (n - (compB qs).length) []) ho (by rw [List.length_append, List.length_replicate, ← compB_length]; have := compB_le qs; omega) (by have := compB_le qs; omega)
    rw [List.take_left' (compB_length qs).symm, compB_map] at hput
    subst hw
    exact ⟨he, hput, Lib.below_putRow (Below.refl _ _) hbase⟩

/-! ### once -/
theorem once_end {cf : ByteArray → ByteArray → Int} (hT : TotC cf) {w w' : World} {A : Option Addr} {c : Nat} {zs : List ByteArray} (hs : ∀ s ∈ zs, s.size ≤ maxLen)
    (ho : w'.ownsRow w.heap.size 9 1 (.slice A (compB (msort cf zs)).length c) (compB (msort cf zs)).length (cellsT (compB (msort cf zs)))) (hb : Below w.heap.size w w') :
    Tells (onceL cf zs) w (.returned (.slice A (compB (msort cf zs)).length c)) w' := by
  have e := once_bytes hT zs
  generalize compB (msort cf zs) = q at *
  subst e
  exact OwnT.tells ⟨ho, hb⟩ fun s h => hs s (((onceL_spec hT zs).2 s).1 h)

theorem once_any (g : Nat) (cf : ByteArray → ByteArray → Int) (hC : CmpFn g cf) (A : Option Addr) (n c : Nat) (zs : List ByteArray) (B : Nat) (w : World) (h : Txt w B A n c zs) (hn : n ≤ 1000) :
    Calls Try.prog 30 #[.slice A n c, .func (.func g) #[] #[]] w (Tells (onceL cf zs) w) := by
  have H := Lib.hid h
  have HC := Lib.hid hC
  have HN := Lib.hid hn
  clear h hC hn
  go_enter Try.func30, Try.ntmps30
  go_wp2_with (first
    | (go_at_call 36; refine (clone_any A n c zs B w H.out HN.out).mono ?_; rintro e w1 ⟨v, rfl, ho1, hb1⟩; obtain ⟨A1, c1, rfl, hc1, hc2⟩ := own_form ho1; have HO1 := Lib.hid ho1; clear ho1 hc1 hc2)
    | (go_at_call 37; refine (sort_any g cf HC.out A1 n c1 zs w.heap.size w1 HO1.out hb1.size H.out.sz HN.out).mono ?_; rintro e w2 ⟨rfl, ho2, hb2⟩; have HO2 := Lib.hid ho2; have hb3 := hb1.trans hb2; clear ho2)
    | (go_at_call 38; refine (compact_any A1 n c1 (msort cf zs) w.heap.size w2 HO2.out hb3.size HN.out).mono ?_; rintro e w3 ⟨rfl, ho3, hb4⟩; have HO3 := Lib.hid ho3; have hb5 := hb3.trans hb4; clear ho3))
  go_ret
  exact once_end HC.out.tot H.out.sz HO3.out hb5

theorem cmpT : CmpFn 31 cfT where
  enters := enters_of Try.func31 (by kernel_rfl) rfl
  tells a b w _ _ := (compare_any a b w).mono fun e w' ⟨he, hw⟩ => ⟨he, 0, #[], by rw [grow_empty]; exact hw.symm⟩
  tot := cfT_tot
theorem cmpF : CmpFn 34 cfF where
  enters := enters_of Try.func34 (by kernel_rfl) rfl
  tells a b w ha hb := byField_any a b w ha hb
  tot := cfF_tot

theorem sorted_any (A : Option Addr) (n c : Nat) (zs : List ByteArray) (B : Nat) (w : World) (h : Txt w B A n c zs) (hn : n ≤ 1000) :
    Calls Try.prog 25 #[.slice A n c] w (Tells (onceL cfF zs) w) := by
  have H := Lib.hid h
  have HN := Lib.hid hn
  clear h hn
  go_enter Try.func25, Try.ntmps25
  go_wp2_with (go_at_call 30; refine (once_any _ cfF cmpF A n c zs B w H.out HN.out).mono ?_; rintro e w1 ⟨A1, c1, rfl, hT, hb1⟩)
  go_ret
  exact ⟨A1, c1, rfl, hT, hb1⟩

end Go.Proofs.Ytggjimpnimlmmaa
