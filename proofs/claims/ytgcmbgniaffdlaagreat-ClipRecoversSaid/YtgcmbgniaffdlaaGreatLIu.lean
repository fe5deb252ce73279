import Derived.Test.YtgcmbgniaffdlaaGreatLIt
import Derived.Test.YtgcmbgniaffdlaaGreatShelfB
import Derived.Lib.OwnBridge
set_option linter.unusedVariables false
set_option linter.unusedSimpArgs false
namespace Go.Proofs.YtgcmbgniaffdlaaGreat
open Go.RowKit
theorem strInfo : (Tryz.prog.info? 9).map (fun i => (i.zero, i.size, i.bytes)) = some (some (.string ⟨#[]⟩), 1, 16) := by kernel_rfl
structure OwnT (w wr : World) (v : Value) (xs : List ByteArray) : Prop where
 own : wr.ownsRow w.heap.size 9 1 v xs.length (cellsT xs)
 below : Below w.heap.size w wr
theorem OwnT.nil_ (w : World) : OwnT w w (.slice none 0 0) [] := ⟨World.ownsRow_nil _ _ _ _, Below.refl _ _⟩
theorem OwnT.push {w wr w1 : World} {v v1 : Value} {xs : List ByteArray} {s : ByteArray} {o : Obj} (h : OwnT w wr v xs) (hown : w1.ownsRow w.heap.size 9 1 v1 (xs.length + 1) (cellsT xs ++ [.string s])) (hg : (wr.alloc o).grownBy w1 v.ownBlock) : OwnT w w1 v1 (xs ++ [s]) := by
 refine ⟨by rw [List.length_append, cellsT_append]; exact hown, ?_⟩
 exact (h.below.alloc h.below.size o).grown hg (by have := h.below.size; simp; omega) (fun k hk => (h.own.lt k hk).1)
def putAt (zs : List ByteArray) (s : ByteArray) (k : Nat) : List ByteArray × Bool := putRun cfT s (zs.take k)
theorem putAt_len (zs : List ByteArray) (s : ByteArray) (k : Nat) : (putAt zs s k).1.length <= zs.length + 1 := by
 have run : ∀ (l : List ByteArray) (st : List ByteArray × Bool), (l.foldl (putStep cfT s) st).1.length + (if (l.foldl (putStep cfT s) st).2 then 0 else 1) <= st.1.length + l.length + (if st.2 then 0 else 1) := by
   intro l
   induction l with
   | nil => intro st; exact Nat.le_refl _
   | cons x l ih =>
     intro st
     rw [List.foldl_cons]
     refine Nat.le_trans (ih _) ?_
     unfold putStep
     by_cases hc : cfT s x < 0 /\ st.2 = false
     · rw [if_pos hc, hc.2]; simp; omega
     · rw [if_neg hc]; simp; omega
 have := run (zs.take k) ([], false)
 have hl : (zs.take k).length <= zs.length := List.length_take_le' _ _
 unfold putAt putRun
 simp at this
 omega
theorem putAt_succ {zs : List ByteArray} {s : ByteArray} {k : Nat} (h : k < zs.length) : putAt zs s (k + 1) = putStep cfT s (putAt zs s k) (nthT zs k) := by
 unfold putAt; rw [take_nthT h, putRun_snoc]
theorem putAt_lay {zs : List ByteArray} {s : ByteArray} {k : Nat} (h : k < zs.length) (h1 : cfT s (nthT zs k) < 0) (h2 : (putAt zs s k).2 = false) : putAt zs s (k + 1) = ((putAt zs s k).1 ++ [s] ++ [nthT zs k], true) := by
 rw [putAt_succ h]; unfold putStep; rw [if_pos ⟨h1, h2⟩]
theorem putAt_go {zs : List ByteArray} {s : ByteArray} {k : Nat} (h : k < zs.length) (h1 : cfT s (nthT zs k) < 0 -> (putAt zs s k).2 = true) : putAt zs s (k + 1) = ((putAt zs s k).1 ++ [nthT zs k], (putAt zs s k).2) := by
 rw [putAt_succ h]; unfold putStep; rw [if_neg (fun hh => by rw [h1 hh.1] at hh; cases hh.2)]
theorem newT (w : World) (t : TypeId) (s : ByteArray) : Reads (w.alloc (.cells #[.string s] t)) (w.heap.size + 1) 1 (some ⟨w.heap.size, 0, none⟩) 1 [.string s] := Reads.newN w t #[.string s]
theorem strOne (s : ByteArray) : ∀ u ∈ [Value.string s], u.oneCell' = true := fun u hu => by
 rw [List.mem_singleton] at hu
 subst hu
 rfl
theorem allocLe {w wr : World} {v : Value} {xs : List ByteArray} (h : OwnT w wr v xs) (o : Obj) : w.heap.size <= (wr.alloc o).heap.size := by have := h.below.size; simp; omega
theorem sm1 {m : Nat} (h : m <= 1001) : m + 1 <= maxLen := by unfold maxLen; omega
theorem sm2 {m : Nat} (h : m <= 1001) : (m + 1) * 16 <= 140737488355328 := by omega
theorem sm3 {m : Nat} (h : m <= 1001) : m + 1 + 1 <= maxLen := by unfold maxLen; omega
theorem sm4 {m : Nat} (h : m <= 1001) : (m + 1 + 1) * 16 <= 140737488355328 := by omega
open Go.RowKit Go.Sort
def Grew (w w' : World) : Prop := ∃ (q : Nat) (os : Array Obj), w' = Go.Sort.grow (w.drewN q) os
theorem compare_any (a b : ByteArray) (w : World) :
 Calls Tryz.prog 88 #[.string a, .string b] w fun e w' => e = .returned (.int .i64 (cfT a b)) /\ w = w' := by
 have h := Any.strings_Compare Tryz.layCompare a b w
 exact h.mono fun e w' ⟨he, hw⟩ => ⟨he, hw.symm⟩
open Go.RowKit Go.Sort Go.Shelf
def msort (cf : ByteArray -> ByteArray -> Int) (l : List ByteArray) : List ByteArray := l.mergeSort fun x y => !decide (cf y x < 0)
def bytesOf (l : List UInt8) : ByteArray := ⟨l.toArray⟩
theorem bytesOf_data (s : ByteArray) : bytesOf s.data.toList = s := by cases s; simp [bytesOf]
def compB (qs : List ByteArray) : List ByteArray := (Lib.compact (qs.map (·.data.toList))).map bytesOf
theorem msort_pw {cf : ByteArray -> ByteArray -> Int} (h : TotC cf) (l : List ByteArray) : (msort cf l).Pairwise fun a b => ¬ cf b a < 0 := by
 have hs := List.pairwise_mergeSort (le := fun x y => !decide (cf y x < 0))
   (by
     intro a b c h1 h2
     simp only [Bool.not_eq_true', decide_eq_false_iff_not] at h1 h2 ⊢
     intro h3
     rcases h.tri a b with e | e | e
     · exact h2 (h.trans c a b h3 e)
     · subst e; exact h2 h3
     · exact h1 e)
   (by
     intro a b
     rcases h.tri a b with e | e | e
     · have := h.asym e; simp [this]
     · subst e; have := h.irr a; simp [this]
     · have := h.asym e; simp [this]) l
 exact hs.imp fun hh => by simpa using hh
theorem once_bytes {cf : ByteArray -> ByteArray -> Int} (h : TotC cf) (l : List ByteArray) : compB (msort cf l) = onceL cf l := by
 have h' : TotC (fun a b : List UInt8 => cf (bytesOf a) (bytesOf b)) :=
   { eq := fun x y e => by
       have := h.eq _ _ e
       have := congrArg (fun s : ByteArray => s.data.toList) this
       simpa [bytesOf] using this
     self := fun x => h.self _
     anti := fun x y => h.anti _ _
     anti' := fun x y => h.anti' _ _
     trans := fun x y z => h.trans _ _ _ }
 have hp := List.mergeSort_perm l fun x y => !decide (cf y x < 0)
 have hs := msort_pw h l
 have hq : msort cf l = l.mergeSort fun x y => !decide (cf y x < 0) := rfl
 rw [<- hq] at hp
 clear hq
 generalize msort cf l = q at hp hs
 have hg : ∀ i, (hi : i < q.length) -> (q.map (·.data.toList)).toArray[i]! = q[i].data.toList := fun i hi => by simp [hi]
 obtain ⟨h1, h2⟩ := compact_spec h' (q.map (·.data.toList)).toArray (by
   intro i j hij hj
   have hj' : j < q.length := by simpa using hj
   rw [hg i (by omega), hg j hj', bytesOf_data, bytesOf_data]
   exact List.pairwise_iff_getElem.1 hs i j (by omega) hj' hij) (q.map (·.data.toList)).length (by simp)
 obtain ⟨h3, h4⟩ := onceL_spec h l
 refine rise_unique h _ _ ?_ h3 fun x => ?_
 · unfold Rises compB Lib.compact
   rw [List.pairwise_map]
   exact h1
 · rw [h4, <- hp.mem_iff]
   unfold compB Lib.compact
   rw [List.mem_map]
   constructor
   · rintro ⟨y, hy, rfl⟩
     obtain ⟨i, hi, e⟩ := (h2 y).1 hy
     have hi' : i < q.length := by simpa using hi
     rw [hg i hi'] at e
     rw [<- e, bytesOf_data]
     exact List.getElem_mem hi'
   · intro hx
     obtain ⟨i, hi, e⟩ := List.getElem_of_mem hx
     exact ⟨x.data.toList, (h2 _).2 ⟨i, by simpa using hi, by rw [hg i hi, e]⟩, bytesOf_data x⟩
theorem iclone_any (A : Option Addr) (n c : Nat) (zs : List ByteArray) (B : Nat) (w : World) (h : Txt w B A n c zs) (hn : n <= 1000) :
 Calls Tryz.prog 134 #[.slice A n c] w fun e w' => ∃ v, e = .returned v /\ w'.ownsRow w.heap.size 9 1 v n (cellsT zs) /\ Below w.heap.size w w' := by
 have hl := h.len
 rcases A with _ | ad
 · have h0 : n = 0 := by
     rcases Nat.eq_zero_or_pos n with e | e
     · exact e
     · obtain ⟨ad, e, _⟩ := h.reads.2 e; cases e
   subst h0
   obtain rfl := List.eq_nil_of_length_eq_zero hl
   have hc := Any.slices_Clone_string_nil Tryz.layClone 0 c w
   exact hc.mono fun e w' ⟨he, hw⟩ => ⟨_, he, by rw [hw]; exact World.ownsRow_nil _ _ _ _, by rw [hw]; exact Below.refl _ _⟩
 · rcases Nat.eq_zero_or_pos n with e | e
   · subst e
     obtain rfl := List.eq_nil_of_length_eq_zero hl
     have hc := Any.slices_Clone_string_zero Tryz.layClone ad c w
     exact hc.mono fun e w' ⟨v, he, ho, _, hb⟩ => ⟨v, he, ho, hb⟩
   · obtain ⟨b, off, e2, hb, hcell⟩ := h.at_ e
     injection e2 with e2
     subst e2
     have hc := Any.slices_Clone_string Tryz.layClone b off n c zs w (by omega) (by omega) (fun j hj => hcell j (by omega))
     exact hc.mono fun e w' ⟨v, he, ho, _, hb⟩ => ⟨v, he, by rw [List.take_of_length_le (by omega)] at ho; exact ho, hb⟩
theorem own_grow {w : World} {base : Nat} {e : TypeId} {size n : Nat} {v : Value} {xs : List Value} (h : w.ownsRow base e size v n xs) (os : Array Obj) : (Go.Sort.grow w os).ownsRow base e size v n xs := by
 refine ⟨h.1, ?_⟩
 rcases h.2 with hn | ⟨g, cap, cur, rfl, hb, hg, rest⟩
 · exact .inl hn
 · exact .inr ⟨g, cap, cur, rfl, hb, by rw [heap_grow_old _ _ (Array.getElem?_eq_some_iff.1 hg).1]; exact hg, rest⟩
theorem below_grow {B : Nat} {w0 w : World} (h : Below B w0 w) (hB : B <= w.heap.size) (os : Array Obj) : Below B w0 (Go.Sort.grow w os) :=
 ⟨h.os, h.tape, h.output, by have := h.size; simp; omega, fun k hk => (heap_grow_old w os (by omega)).trans (h.block k hk)⟩
abbrev TS := { s : ByteArray // s.size <= maxLen }
instance : Inhabited TS := ⟨⟨⟨#[]⟩, Nat.zero_le _⟩⟩
def encTS (x : TS) : Value := .string x.1
theorem oneTS : OneCell encTS := fun _ => rfl
theorem liftTS : ∀ (zs : List ByteArray), (∀ s ∈ zs, s.size <= maxLen) -> ∃ l : List TS, l.map (·.1) = zs
 | [], _ => ⟨[], rfl⟩
 | s :: zs, h => by
   obtain ⟨l, hl⟩ := liftTS zs (fun x hx => h x (List.mem_cons_of_mem _ hx))
   exact ⟨⟨s, h s (List.mem_cons_self ..)⟩ :: l, by rw [List.map_cons, hl]⟩
theorem mapTS (l : List TS) : l.map encTS = cellsT (l.map (·.1)) := by unfold cellsT; rw [List.map_map]; rfl
structure CmpFn (g : Nat) (cf : ByteArray -> ByteArray -> Int) : Prop where
 enters : ∀ args w, (callFunc g args).run Tryz.prog w = .ok (.enter g args) w
 tells : ∀ (a b : ByteArray) (w : World), a.size <= maxLen -> b.size <= maxLen -> Calls Tryz.prog g #[.string a, .string b] w fun e w' => e = .returned (.int .i64 (cf a b)) /\ Grew w w'
 tot : TotC cf
theorem CmpFn.lays {g : Nat} {cf : ByteArray -> ByteArray -> Int} (h : CmpFn g cf) (blk off size : Nat) (w : World) : CmpLays1 Tryz.prog g #[] encTS (fun x y : TS => cf x.1 y.1) blk off size w :=
 fun m os dk hs x y => (h.tells x.1 y.1 _ x.2 y.2).mono fun e w' ⟨he, q, os', hw⟩ => ⟨he, q, os', hw⟩
theorem sort_any (g : Nat) (cf : ByteArray -> ByteArray -> Int) (hC : CmpFn g cf) (A : Option Addr) (n c : Nat) (zs : List ByteArray) (base : Nat) (w : World)
 (ho : w.ownsRow base 9 1 (.slice A n c) n (cellsT zs)) (hb : base <= w.heap.size) (hsz : ∀ s ∈ zs, s.size <= maxLen) (hn : n <= 1000) :
 Calls Tryz.prog 135 #[.slice A n c, .func (.func g) #[] #[]] w fun e w' => e = .returned (.tuple #[]) /\ w'.ownsRow base 9 1 (.slice A n c) n (cellsT (msort cf zs)) /\ Below base w w' := by
 by_cases hv : (Value.slice A n c) = .slice none 0 0
 · injection hv with e1 e2 e3
   subst e1; subst e2; subst e3
   have hz : zs = [] := List.eq_nil_of_length_eq_zero (by have := ho.1; rw [cellsT_length] at this; omega)
   subst hz
   have hS := AnyF.slices_SortFunc_none (P := Tryz.prog) (ρ := Tryz.laySort_ren) { Tryz.laySort with } none 0 (.func (.func g) #[] #[]) w
   have e0 : msort cf [] = [] := by unfold msort; exact List.mergeSort_nil
   rw [e0]
   exact hS.mono fun e w' ⟨he, hw⟩ => ⟨he, by rw [hw]; exact ho, by rw [hw]; exact Below.refl _ _⟩
 · obtain ⟨l, hl⟩ := liftTS zs hsz
   subst hl
   rw [<- mapTS] at ho
   obtain ⟨blk, cap, e, hbase, hlt, hnc, hcm, hlen, hH⟩ := Lib.holds_of_ownsRow ho hv
   injection e with e1 e2 e3
   subst e1; subst e3
   have hT := hC.tot
   have hO : SWO (ltOf fun x y : TS => cf x.1 y.1) :=
     { irrefl := fun x => decide_eq_false (hT.irr _)
       trans := fun x y z h1 h2 => decide_eq_true (hT.trans _ _ _ (of_decide_eq_true h1) (of_decide_eq_true h2))
       ntrans := fun x y z h1 h2 => by
         have h1' : ¬ cf x.1 y.1 < 0 := of_decide_eq_false h1
         have h2' : ¬ cf y.1 z.1 < 0 := of_decide_eq_false h2
         refine decide_eq_false fun h3 => ?_
         have h3 : cf x.1 z.1 < 0 := h3
         rcases hT.tri x.1 y.1 with e | e | e
         · exact h1' e
         · rw [e] at h3; exact h2' h3
         · exact h2' (hT.trans _ _ _ e h3) }
   have hTT : ∀ x y : TS, (ltOf fun x y : TS => cf x.1 y.1) x y = false -> (ltOf fun x y : TS => cf x.1 y.1) y x = false -> x = y := fun x y h1 h2 => by
     have h1' := of_decide_eq_false h1
     have h2' := of_decide_eq_false h2
     rcases hT.tri x.1 y.1 with e | e | e
     · exact absurd e h1'
     · exact Subtype.ext e
     · exact absurd e h2'
   have hsize : l.toArray.size = n := by simpa using hlen
   have hS := Any.slices_SortFunc_total Tryz.laySort encTS oneTS (fun x y : TS => cf x.1 y.1) hO g #[] blk 0 c l.toArray w hC.enters (hC.lays _ _ _ _) hH hlt (by rw [hsize]; omega) hTT
   rw [hsize] at hS
   refine hS.mono fun e w' ⟨he, q, os, hw⟩ => ?_
   have hms : (l.mergeSort fun x y => !(ltOf fun x y : TS => cf x.1 y.1) y x).map (·.1) = msort cf (l.map (·.1)) := by
     unfold msort
     exact List.map_mergeSort fun a _ b _ => rfl
   have hml : (l.mergeSort fun x y => !(ltOf fun x y : TS => cf x.1 y.1) y x).length = n := by rw [List.length_mergeSort]; exact hlen
   have hput := Lib.ownsRow_putRow (q := q) (k := n) (ys := l.mergeSort fun x y => !(ltOf fun x y : TS => cf x.1 y.1) y x) ho hml (Nat.le_refl _)
   rw [List.take_of_length_le (by omega), mapTS, hms] at hput
   subst hw
   exact ⟨he, own_grow hput os, below_grow (Lib.below_putRow (Below.refl _ _) hbase) (by simpa [putRow, mapBlock, Sort.ahead] using hb) os⟩
theorem encStr_map (qs : List ByteArray) : (qs.map (·.data.toList)).map encStr = cellsT qs := Lib.map_encStr qs
theorem compB_map (qs : List ByteArray) : (Lib.compact (qs.map (·.data.toList))).map encStr = cellsT (compB qs) := by
 unfold compB cellsT; rw [List.map_map]; rfl
theorem compB_length (qs : List ByteArray) : (compB qs).length = (Lib.compact (qs.map (·.data.toList))).length := by unfold compB; rw [List.length_map]
theorem compB_le (qs : List ByteArray) : (compB qs).length <= qs.length := by rw [compB_length]; exact Nat.le_trans (Lib.compact_length_le _) (by simp)
theorem compact_any (A : Option Addr) (n c : Nat) (qs : List ByteArray) (base : Nat) (w : World)
 (ho : w.ownsRow base 9 1 (.slice A n c) n (cellsT qs)) (hb : base <= w.heap.size) (hn : n <= 1000) :
 Calls Tryz.prog 136 #[.slice A n c] w fun e w' => e = .returned (.slice A (compB qs).length c) /\ w'.ownsRow base 9 1 (.slice A (compB qs).length c) (compB qs).length (cellsT (compB qs)) /\ Below base w w' := by
 have hql : qs.length = n := by have := ho.1; rw [cellsT_length] at this; omega
 by_cases hv : (Value.slice A n c) = .slice none 0 0
 · injection hv with e1 e2 e3
   subst e1; subst e2; subst e3
   have hz : qs = [] := List.eq_nil_of_length_eq_zero hql
   subst hz
   have hS := Any.slices_Compact_string_empty Tryz.layCompact none 0 w
   exact hS.mono fun e w' ⟨he, hw⟩ => ⟨he, by rw [hw]; exact ho, by rw [hw]; exact Below.refl _ _⟩
 · rw [<- encStr_map] at ho
   obtain ⟨blk, cap, e, hbase, hlt, hnc, hcm, hlen, hH⟩ := Lib.holds_of_ownsRow ho hv
   injection e with e1 e2 e3
   subst e1; subst e3
   have hS := Any.slices_Compact_string Tryz.layCompact blk 0 c (qs.map (·.data.toList)) w hH (by rw [hlen]; omega) (by rw [hlen]; exact hnc)
   rw [hlen, <- compB_length] at hS
   refine hS.mono fun e w' ⟨he, q, hw⟩ => ?_
   have hput := Lib.ownsRow_putRow (q := q) (k := (compB qs).length) (ys := Lib.compact (qs.map (·.data.toList)) ++ List.replicate (n - (compB qs).length) []) ho (by rw [List.length_append, List.length_replicate, <- compB_length]; have := compB_le qs; omega) (by have := compB_le qs; omega)
   rw [List.take_left' (compB_length qs).symm, compB_map] at hput
   subst hw
   exact ⟨he, hput, Lib.below_putRow (Below.refl _ _) hbase⟩
theorem cmpT : CmpFn 88 cfT where
 enters := enters_of Tryz.func88 (by kernel_rfl) rfl
 tells a b w _ _ := (compare_any a b w).mono fun e w' ⟨he, hw⟩ => ⟨he, 0, #[], by rw [grow_empty]; exact hw.symm⟩
 tot := cfT_tot
def okB (s : ByteArray) : Bool := decide (s.size <= 1024) && spOk s
def szB : Nat -> List ByteArray -> Nat
 | 0, _ => 0
 | k + 1, zs => szB k zs + (nthT zs k).size
def firstBad (zs : List ByteArray) : Int := match zs.find? fun s => !okB s with
  | none => 0
  | some s => if 1024 < s.size then 22 else 23
def chkE (zs : List ByteArray) : Int :=
 if zs.length = 0 then 1 else if 64 < zs.length then 22 else if firstBad zs ≠ 0 then firstBad zs else if 8192 < szB zs.length zs then 22 else 0
def chkL (zs : List ByteArray) : List ByteArray := if chkE zs = 0 then onceL cfT zs else []
theorem split_at {zs : List ByteArray} {k : Nat} (h : k < zs.length) : zs = zs.take k ++ nthT zs k :: zs.drop (k + 1) := by
 rw [nthT_get h, List.getElem_cons_drop, List.take_append_drop]
theorem take_all {p : ByteArray -> Prop} {zs : List ByteArray} {k : Nat} (h : ∀ j, j < k -> p (nthT zs j)) : ∀ s ∈ zs.take k, p s := by
 intro s hs
 obtain ⟨j, hj, rfl⟩ := List.getElem_of_mem hs
 rw [List.length_take] at hj
 rw [List.getElem_take, <- nthT_get (by omega)]
 exact h j (by omega)
theorem find_at {zs : List ByteArray} {k : Nat} (h : k < zs.length) (hall : ∀ j, j < k -> okB (nthT zs j) = true) (hb : okB (nthT zs k) = false) : zs.find? (fun s => !okB s) = some (nthT zs k) := by
 rw [List.find?_eq_some_iff_append]
 refine ⟨by rw [hb]; rfl, zs.take k, zs.drop (k + 1), split_at h, fun a ha => ?_⟩
 rw [take_all (p := fun s => okB s = true) hall a ha]; rfl
theorem chk_none {zs : List ByteArray} (h : zs.length = 0) : chkE zs = 1 := by unfold chkE; rw [if_pos h]
theorem chk_many {zs : List ByteArray} (h : 64 < zs.length) : chkE zs = 22 := by unfold chkE; rw [if_neg (by omega), if_pos h]
theorem chk_big {zs : List ByteArray} {k : Nat} (hl : zs.length <= 64) (h : k < zs.length) (hall : ∀ j, j < k -> okB (nthT zs j) = true) (hb : 1024 < (nthT zs k).size) : chkE zs = 22 := by
 have hf : firstBad zs = 22 := by
   unfold firstBad
   rw [find_at h hall (by unfold okB; rw [decide_eq_false (by omega)]; rfl)]
   exact if_pos hb
 unfold chkE
 rw [if_neg (by omega), if_neg (by omega), hf, if_pos (by omega)]
theorem chk_name {zs : List ByteArray} {k : Nat} (hl : zs.length <= 64) (h : k < zs.length) (hall : ∀ j, j < k -> okB (nthT zs j) = true) (hb : (nthT zs k).size <= 1024) (hs : spOk (nthT zs k) = false) : chkE zs = 23 := by
 have hf : firstBad zs = 23 := by
   unfold firstBad
   rw [find_at h hall (by unfold okB; rw [hs, Bool.and_false])]
   exact if_neg (by omega)
 unfold chkE
 rw [if_neg (by omega), if_neg (by omega), hf, if_pos (by omega)]
theorem bad_none {zs : List ByteArray} (hall : ∀ j, j < zs.length -> okB (nthT zs j) = true) : firstBad zs = 0 := by
 have : zs.find? (fun s => !okB s) = none := by
   rw [List.find?_eq_none]
   intro s hs
   have := take_all (p := fun s => okB s = true) hall s (by rw [List.take_length]; exact hs)
   rw [this]; simp
 unfold firstBad
 rw [this]
theorem chk_total {zs : List ByteArray} (h0 : 0 < zs.length) (hl : zs.length <= 64) (hall : ∀ j, j < zs.length -> okB (nthT zs j) = true) (hb : 8192 < szB zs.length zs) : chkE zs = 22 := by
 unfold chkE
 rw [if_neg (by omega), if_neg (by omega), bad_none hall, if_neg (by omega), if_pos hb]
theorem chk_good {zs : List ByteArray} (h0 : 0 < zs.length) (hl : zs.length <= 64) (hall : ∀ j, j < zs.length -> okB (nthT zs j) = true) (hb : ¬ 8192 < szB zs.length zs) : chkE zs = 0 := by
 unfold chkE
 rw [if_neg (by omega), if_neg (by omega), bad_none hall, if_neg (by omega), if_neg hb]
theorem szB_le {zs : List ByteArray} {k : Nat} (hall : ∀ j, j < k -> okB (nthT zs j) = true) : szB k zs <= k * 1024 := by
 induction k with
 | zero => exact Nat.le_refl _
 | succ k ih =>
   have h1 := ih fun j hj => hall j (by omega)
   have h2 := hall k (by omega)
   unfold okB at h2
   simp at h2
   unfold szB; omega
theorem chk_run (zs : List ByteArray) (k : Nat) (h : k < zs.length) : putL cfT (putAll cfT (zs.take k)) (nthT zs k) = putAll cfT (zs.take (k + 1)) := by
 rw [take_nthT h, putAll_snoc]
end Go.Proofs.YtgcmbgniaffdlaaGreat
