import Derived.Test.YtgcmbgniaffdlaaGreatLGa
import Derived.Test.YtgcmbgniaffdlaaGreatShelf
import Derived.SliceStrings
import Derived.Lib.SlicesCompact
import Derived.Lib.Bytealg
import Derived.Lib.IndexLaws
import Derived.Sort.Walk0
import Derived.Laws.Cover1
import Derived.Lib.Strings
import Derived.Outline
import Derived.Deep.QuietTactic
import Derived.BigQuiet
import Derived.WalkLawsBesides
import Derived.WalkSpells
import Derived.LoopTactic
import Derived.Lib.IndexBytes
set_option linter.unusedVariables false
namespace Go.Proofs.YtgcmbgniaffdlaaGreat
open Go.RowKit Go.ChangeShapes Go.WideShapes
def cellsT (zs : List ByteArray) : List Value := zs.map Value.string
theorem cellsT_length (zs : List ByteArray) : (cellsT zs).length = zs.length := by simp [cellsT]
theorem cellsT_append (a b : List ByteArray) : cellsT (a ++ b) = cellsT a ++ cellsT b := by simp [cellsT]
def nthT (zs : List ByteArray) (i : Nat) : ByteArray := zs.getD i ⟨#[]⟩
theorem nthT_get {zs : List ByteArray} {i : Nat} (h : i < zs.length) : nthT zs i = zs[i] := by
 unfold nthT; rw [List.getD_eq_getElem?_getD, List.getElem?_eq_getElem h]; rfl
theorem nthT_mem {zs : List ByteArray} {i : Nat} (h : i < zs.length) : nthT zs i ∈ zs := by rw [nthT_get h]; exact List.getElem_mem h
theorem cellsT_get {zs : List ByteArray} {i : Nat} (h : i < zs.length) : (cellsT zs)[i]? = some (.string (nthT zs i)) := by
 unfold cellsT; rw [List.getElem?_map, List.getElem?_eq_getElem h, nthT_get h]; rfl
theorem take_nthT {zs : List ByteArray} {i : Nat} (h : i < zs.length) : zs.take (i + 1) = zs.take i ++ [nthT zs i] := by
 rw [nthT_get h, List.take_succ_eq_append_getElem h]
structure Txt (w : World) (B : Nat) (A : Option Addr) (n c : Nat) (zs : List ByteArray) : Prop where
 reads : Reads w B 1 A n (cellsT zs)
 le : n <= c
 cap : c <= 9223372036854775807
 sz : ∀ s ∈ zs, s.size <= maxLen
section
variable {w w' : World} {B B' n c : Nat} {A : Option Addr} {zs : List ByteArray}
theorem Txt.len (h : Txt w B A n c zs) : zs.length = n := by have := h.reads.1; rw [cellsT_length] at this; omega
theorem Txt.size {i : Nat} (h : Txt w B A n c zs) (hi : i < n) : (nthT zs i).size <= maxLen := h.sz _ (nthT_mem (by rw [h.len]; exact hi))
theorem Txt.nil_ (w : World) (B : Nat) : Txt w B none 0 0 [] := ⟨Reads.none_, Nat.le_refl _, by omega, fun s h => by cases h⟩
theorem Txt.below (h : Txt w B A n c zs) (hb : Below B w w') : Txt w' B A n c zs := ⟨h.reads.below hb, h.le, h.cap, h.sz⟩
theorem Txt.more (h : Txt w B A n c zs) (hB : B <= B') : Txt w B' A n c zs := ⟨h.reads.more hB, h.le, h.cap, h.sz⟩
theorem Txt.drewN (h : Txt w B A n c zs) (k : Nat) : Txt (w.drewN k) B A n c zs := ⟨h.reads.drewN k, h.le, h.cap, h.sz⟩
theorem Txt.cell {i : Nat} (h : Txt w B A n c zs) (hi : i < n) : ∃ ad, A = some ad /\ ad.block < B /\ ∀ j, j < n -> w.cell? (ad.add j) = some (.string (nthT zs j)) := by
 obtain ⟨ad, e, hb, hc⟩ := h.reads.2 (by omega)
 exact ⟨ad, e, hb, fun j hj => hc j _ (cellsT_get (by rw [h.len]; exact hj))⟩
theorem Txt.of_own {base : Nat} {e : TypeId} (h : w.ownsRow base e 1 (.slice A n c) n (cellsT zs)) (hc : n <= c) (hm : c <= maxLen) (hs : ∀ s ∈ zs, s.size <= maxLen) : Txt w w.heap.size A n c zs :=
 ⟨Reads.of_own h, hc, by unfold maxLen at hm; omega, hs⟩
end
theorem Txt.at_ {w : World} {B n c : Nat} {A : Option Addr} {zs : List ByteArray} (h : Txt w B A n c zs) (hn : 0 < n) :
 ∃ b off, A = some ⟨b, off, none⟩ /\ b < B /\ ∀ j, j < n -> w.cell? ⟨b, off + j, none⟩ = some (.string (nthT zs j)) := by
 obtain ⟨ad, e, hb, hc⟩ := h.cell hn
 obtain ⟨b, off, spot⟩ := ad
 have h0 := hc 0 hn
 have hs : spot = none := by simpa [Addr.add] using World.cell?_spot h0
 subst hs
 have hp : ∀ k, (⟨b, off, none⟩ : Addr).add k = ⟨b, off + k, none⟩ := fun k => by unfold Addr.add; split <;> simp_all
 exact ⟨b, off, e, hb, fun j hj => by have := hc j hj; rwa [hp] at this⟩
section
variable {H : Type} {enc : TypeId × Value -> H} {P : Program} {w : World}
end
structure TotC {α : Type} (cf : α -> α -> Int) : Prop where
 eq : ∀ x y, cf x y = 0 -> x = y
 self : ∀ x, cf x x = 0
 anti : ∀ x y, cf x y < 0 -> 0 < cf y x
 anti' : ∀ x y, 0 < cf x y -> cf y x < 0
 trans : ∀ x y z, cf x y < 0 -> cf y z < 0 -> cf x z < 0
section
variable {α : Type} {cf : α -> α -> Int}
def Rises (cf : α -> α -> Int) (l : List α) : Prop := l.Pairwise fun x y => cf x y < 0
theorem TotC.irr (h : TotC cf) (x : α) : ¬ cf x x < 0 := by rw [h.self]; omega
theorem TotC.asym (h : TotC cf) {x y : α} (h1 : cf x y < 0) : ¬ cf y x < 0 := by have := h.anti x y h1; omega
theorem TotC.tri (h : TotC cf) (x y : α) : cf x y < 0 ∨ x = y ∨ cf y x < 0 := by
 rcases Int.lt_trichotomy (cf x y) 0 with h1 | h1 | h1
 · exact .inl h1
 · exact .inr (.inl (h.eq x y h1))
 · exact .inr (.inr (h.anti' x y h1))
theorem rise_unique (h : TotC cf) : ∀ (a b : List α), Rises cf a -> Rises cf b -> (∀ x, x ∈ a ↔ x ∈ b) -> a = b
 | [], [], _, _, _ => rfl
 | [], y :: b, _, _, e => by have := (e y).2 (by simp); simp at this
 | x :: a, [], _, _, e => by have := (e x).1 (by simp); simp at this
 | x :: a, y :: b, ha, hb, e => by
   unfold Rises at ha hb
   rw [List.pairwise_cons] at ha hb
   have hxy : x = y := by
     have h1 := (e x).1 (by simp)
     have h2 := (e y).2 (by simp)
     rw [List.mem_cons] at h1 h2
     rcases h1 with h1 | h1
     · exact h1
     · rcases h2 with h2 | h2
       · exact h2.symm
       · exact absurd (ha.1 y h2) (h.asym (hb.1 x h1))
   subst hxy
   have := rise_unique h a b ha.2 hb.2 (fun z => by
     have hz := e z
     rw [List.mem_cons, List.mem_cons] at hz
     constructor
     · intro hm
       rcases hz.1 (.inr hm) with e1 | e1
       · subst e1; exact absurd (ha.1 z hm) (h.irr z)
       · exact e1
     · intro hm
       rcases hz.2 (.inr hm) with e1 | e1
       · subst e1; exact absurd (hb.1 z hm) (h.irr z)
       · exact e1)
   rw [this]
def putStep (cf : α -> α -> Int) (s : α) (st : List α × Bool) (x : α) : List α × Bool :=
 if cf s x < 0 /\ st.2 = false then (st.1 ++ [s] ++ [x], true) else (st.1 ++ [x], st.2)
def putRun (cf : α -> α -> Int) (s : α) (l : List α) : List α × Bool := l.foldl (putStep cf s) ([], false)
def putEnd (cf : α -> α -> Int) (s : α) (l : List α) : List α := if (putRun cf s l).2 then (putRun cf s l).1 else (putRun cf s l).1 ++ [s]
def putL [DecidableEq α] (cf : α -> α -> Int) (l : List α) (s : α) : List α := if s ∈ l then l else putEnd cf s l
theorem putRun_snoc (s : α) (l : List α) (x : α) : putRun cf s (l ++ [x]) = putStep cf s (putRun cf s l) x := by
 unfold putRun; rw [List.foldl_append]; rfl
theorem putRun_mem (s : α) (l : List α) : ∀ y, y ∈ (putRun cf s l).1 ↔ y ∈ l ∨ (y = s /\ (putRun cf s l).2 = true) := by
 suffices H : ∀ (l : List α) (st : List α × Bool), ∀ y, y ∈ (l.foldl (putStep cf s) st).1 ↔ y ∈ l ∨ y ∈ st.1 ∨ (y = s /\ st.2 = false /\ (l.foldl (putStep cf s) st).2 = true) by
   intro y
   have := H l ([], false) y
   simpa [putRun] using this
 intro l
 induction l with
 | nil =>
   intro st y
   simp only [List.foldl_nil, List.not_mem_nil, false_or]
   constructor
   · exact .inl
   · rintro (h | ⟨_, h1, h2⟩)
     · exact h
     · rw [h1] at h2; cases h2
 | cons x l ih =>
   intro st y
   rw [List.foldl_cons, ih, List.mem_cons]
   have keep : ∀ (l : List α) (o : List α), (l.foldl (putStep cf s) (o, true)).2 = true := by
     intro l
     induction l with
     | nil => intro o; rfl
     | cons x l ih => intro o; rw [List.foldl_cons, putStep, if_neg (by simp)]; exact ih _
   by_cases hc : cf s x < 0 /\ st.2 = false
   · have e : putStep cf s st x = (st.1 ++ [s] ++ [x], true) := by unfold putStep; rw [if_pos hc]
     rw [e, keep]
     simp only [List.mem_append, List.mem_singleton, hc.2, true_and]
     constructor
     · rintro (h | ((h | h) | h) | ⟨_, h, _⟩)
       · exact .inl (.inr h)
       · exact .inr (.inl h)
       · exact .inr (.inr ⟨h, trivial⟩)
       · exact .inl (.inl h)
       · cases h
     · rintro ((h | h) | h | ⟨h, _⟩)
       · exact .inr (.inl (.inr h))
       · exact .inl h
       · exact .inr (.inl (.inl (.inl h)))
       · exact .inr (.inl (.inl (.inr h)))
   · have e : putStep cf s st x = (st.1 ++ [x], st.2) := by unfold putStep; rw [if_neg hc]
     rw [e]
     simp only [List.mem_append, List.mem_singleton]
     constructor
     · rintro (h | (h | h) | h)
       · exact .inl (.inr h)
       · exact .inr (.inl h)
       · exact .inl (.inl h)
       · exact .inr (.inr h)
     · rintro ((h | h) | h | h)
       · exact .inr (.inl (.inr h))
       · exact .inl h
       · exact .inr (.inl (.inl h))
       · exact .inr (.inr h)
theorem putEnd_mem (s : α) (l : List α) : ∀ y, y ∈ putEnd cf s l ↔ y ∈ l ∨ y = s := by
 intro y
 unfold putEnd
 by_cases h : (putRun cf s l).2 = true
 · rw [if_pos h, putRun_mem, h]; simp
 · rw [if_neg h, List.mem_append, putRun_mem]
   simp only [Bool.not_eq_true] at h
   rw [h]; simp
theorem putRun_rises (hT : TotC cf) (s : α) : ∀ (l : List α), Rises cf l -> s ∉ l ->
 Rises cf (putRun cf s l).1 /\ ((putRun cf s l).2 = false -> ∀ y ∈ l, cf y s < 0) /\ ((putRun cf s l).2 = true -> ∃ y ∈ l, cf s y < 0) := by
 suffices H : ∀ (r l : List α), Rises cf (l ++ r) -> s ∉ l ++ r -> Rises cf (putRun cf s l).1 /\ ((putRun cf s l).2 = false -> ∀ y ∈ l, cf y s < 0) /\ ((putRun cf s l).2 = true -> ∃ y ∈ l, cf s y < 0) by
   intro l hl hs
   exact H [] l (by simpa using hl) (by simpa using hs)
 intro r l
 generalize hn : l.length = n
 induction n generalizing l r with
 | zero =>
   intro _ _
   obtain rfl := List.eq_nil_of_length_eq_zero hn
   exact ⟨List.Pairwise.nil, fun _ y hy => by simp at hy, fun h => by simp [putRun] at h⟩
 | succ n ih =>
   intro hl hs
   obtain ⟨l', x, rfl⟩ : ∃ l' x, l = l' ++ [x] := ⟨l.dropLast, l.getLast (by intro e; subst e; simp at hn), (List.dropLast_concat_getLast _).symm⟩
   have hn' : l'.length = n := by simpa using hn
   obtain ⟨h1, h2, h3⟩ := ih (x :: r) l' hn' (by simpa using hl) (by simpa using hs)
   have hx : ∀ y ∈ l', cf y x < 0 := by
     have hp : Rises cf (l' ++ (x :: r)) := by simpa using hl
     unfold Rises at hp
     rw [List.pairwise_append] at hp
     exact fun y hy => hp.2.2 y hy x (by simp)
   have hne : s ≠ x := fun e => hs (by subst e; simp)
   rw [putRun_snoc]
   by_cases hc : cf s x < 0 /\ (putRun cf s l').2 = false
   · have e : putStep cf s (putRun cf s l') x = ((putRun cf s l').1 ++ [s] ++ [x], true) := by unfold putStep; rw [if_pos hc]
     rw [e]
     have hm : ∀ y, y ∈ (putRun cf s l').1 -> y ∈ l' := fun y hy => by
       rcases (putRun_mem s l' y).1 hy with h | ⟨_, h⟩
       · exact h
       · rw [hc.2] at h; cases h
     refine ⟨?_, (fun h => by cases h), fun _ => ⟨x, by simp, hc.1⟩⟩
     unfold Rises at h1 ⊢
     rw [List.pairwise_append, List.pairwise_append]
     refine ⟨⟨h1, by simp, fun a ha b hb => ?_⟩, by simp, fun a ha b hb => ?_⟩
     · rw [List.mem_singleton] at hb; subst hb; exact h2 hc.2 a (hm a ha)
     · rw [List.mem_singleton] at hb; subst hb
       rw [List.mem_append, List.mem_singleton] at ha
       rcases ha with ha | ha
       · exact hx a (hm a ha)
       · subst ha; exact hc.1
   · have e : putStep cf s (putRun cf s l') x = ((putRun cf s l').1 ++ [x], (putRun cf s l').2) := by unfold putStep; rw [if_neg hc]
     rw [e]
     have hsx : (putRun cf s l').2 = true -> cf s x < 0 := fun h => by
       obtain ⟨y, hy, hsy⟩ := h3 h
       exact hT.trans s y x hsy (hx y hy)
     refine ⟨?_, fun hf y hy => ?_, fun ht => ?_⟩
     · unfold Rises at h1 ⊢
       rw [List.pairwise_append]
       refine ⟨h1, by simp, fun a ha b hb => ?_⟩
       rw [List.mem_singleton] at hb; subst hb
       rcases (putRun_mem s l' a).1 ha with h | ⟨rfl, h⟩
       · exact hx a h
       · exact hsx h
     · rw [List.mem_append, List.mem_singleton] at hy
       rcases hy with hy | hy
       · exact h2 hf y hy
       · subst hy
         rcases hT.tri s y with h | h | h
         · exact absurd ⟨h, hf⟩ hc
         · exact absurd h hne
         · exact h
     · obtain ⟨y, hy, hsy⟩ := h3 ht
       exact ⟨y, by simp [hy], hsy⟩
theorem putEnd_rises (h : TotC cf) (s : α) (l : List α) (hl : Rises cf l) (hs : s ∉ l) : Rises cf (putEnd cf s l) := by
 obtain ⟨h1, h2, _⟩ := putRun_rises h s l hl hs
 unfold putEnd
 by_cases hd : (putRun cf s l).2 = true
 · rw [if_pos hd]; exact h1
 · rw [if_neg hd]
   simp only [Bool.not_eq_true] at hd
   unfold Rises at h1 ⊢
   rw [List.pairwise_append]
   refine ⟨h1, by simp, fun a ha b hb => ?_⟩
   rw [List.mem_singleton] at hb; subst hb
   rcases (putRun_mem b l a).1 ha with h | ⟨_, h⟩
   · exact h2 hd a h
   · rw [hd] at h; cases h
variable [DecidableEq α]
theorem putL_mem (l : List α) (s : α) : ∀ y, y ∈ putL cf l s ↔ y ∈ l ∨ y = s := by
 intro y
 unfold putL
 by_cases h : s ∈ l
 · rw [if_pos h]
   constructor
   · exact .inl
   · rintro (h' | h')
     · exact h'
     · subst h'; exact h
 · rw [if_neg h]; exact putEnd_mem s l y
theorem putL_rises (h : TotC cf) (l : List α) (s : α) (hl : Rises cf l) : Rises cf (putL cf l s) := by
 unfold putL
 by_cases hs : s ∈ l
 · rw [if_pos hs]; exact hl
 · rw [if_neg hs]; exact putEnd_rises h s l hl hs
def putAll (cf : α -> α -> Int) (l : List α) : List α := l.foldl (putL cf) []
theorem putAll_snoc (l : List α) (s : α) : putAll cf (l ++ [s]) = putL cf (putAll cf l) s := by unfold putAll; rw [List.foldl_append]; rfl
theorem putAll_spec (h : TotC cf) (l : List α) : Rises cf (putAll cf l) /\ ∀ y, y ∈ putAll cf l ↔ y ∈ l := by
 suffices H : ∀ (l o : List α), Rises cf o -> Rises cf (l.foldl (putL cf) o) /\ ∀ y, y ∈ l.foldl (putL cf) o ↔ y ∈ o ∨ y ∈ l by
   have := H l [] List.Pairwise.nil
   simpa [putAll] using this
 intro l
 induction l with
 | nil => intro o ho; exact ⟨ho, fun y => by simp⟩
 | cons x l ih =>
   intro o ho
   obtain ⟨h1, h2⟩ := ih (putL cf o x) (putL_rises h o x ho)
   refine ⟨h1, fun y => ?_⟩
   rw [List.foldl_cons, h2, putL_mem, List.mem_cons]
   constructor
   · rintro ((h | h) | h)
     · exact .inl h
     · exact .inr (.inl h)
     · exact .inr (.inr h)
   · rintro (h | h | h)
     · exact .inl (.inl h)
     · exact .inl (.inr h)
     · exact .inr h
theorem putL_length (l : List α) (s : α) : (putL cf l s).length <= l.length + 1 := by
 have run : ∀ (l : List α) (st : List α × Bool), (l.foldl (putStep cf s) st).1.length + (if (l.foldl (putStep cf s) st).2 then 0 else 1) <= st.1.length + l.length + (if st.2 then 0 else 1) := by
   intro l
   induction l with
   | nil => intro st; exact Nat.le_refl _
   | cons x l ih =>
     intro st
     rw [List.foldl_cons]
     refine Nat.le_trans (ih _) ?_
     unfold putStep
     by_cases hc : cf s x < 0 /\ st.2 = false
     · rw [if_pos hc, hc.2]; simp; omega
     · rw [if_neg hc]; simp; omega
 unfold putL
 by_cases hs : s ∈ l
 · rw [if_pos hs]; omega
 · rw [if_neg hs]
   have := run l ([], false)
   unfold putEnd putRun
   by_cases h : (l.foldl (putStep cf s) ([], false)).2 = true
   · rw [if_pos h]; rw [h] at this; simp at this; omega
   · rw [if_neg h]; simp only [Bool.not_eq_true] at h; rw [h] at this; simp at this ⊢; omega
theorem putAll_length (l : List α) : (putAll cf l).length <= l.length := by
 suffices H : ∀ (l o : List α), (l.foldl (putL cf) o).length <= o.length + l.length by
   have := H l []; simpa [putAll] using this
 intro l
 induction l with
 | nil => intro o; simp
 | cons x l ih =>
   intro o
   rw [List.foldl_cons]
   have h1 := ih (putL cf o x)
   have h2 := putL_length (cf := cf) o x
   simp; omega
theorem compact_spec [Inhabited α] (h : TotC cf) (d : Array α) (hs : ∀ i j, i < j -> j < d.size -> ¬ cf d[j]! d[i]! < 0) (m : Nat) (hm : m <= d.size) :
 Rises cf (Lib.compactUpTo d m) /\ (∀ y, y ∈ Lib.compactUpTo d m ↔ ∃ i, i < m /\ d[i]! = y) := by
 induction m with
 | zero => exact ⟨by simp [Lib.compactUpTo, Rises], fun y => by simp [Lib.compactUpTo]⟩
 | succ m ih =>
   obtain ⟨h1, h2⟩ := ih (by omega)
   rw [Lib.compactUpTo_succ]
   by_cases hk : Lib.keeps d m = true
   · rw [if_pos hk]
     refine ⟨?_, fun y => ?_⟩
     · unfold Rises at h1 ⊢
       rw [List.pairwise_append]
       refine ⟨h1, by simp, fun a ha b hb => ?_⟩
       rw [List.mem_singleton] at hb; subst hb
       obtain ⟨i, hi, rfl⟩ := (h2 a).1 ha
       have hne : d[m]! ≠ d[m - 1]! := by
         unfold Lib.keeps at hk
         rcases of_decide_eq_true hk with e | e
         · omega
         · exact e
       have hlt : cf d[m - 1]! d[m]! < 0 := by
         rcases h.tri d[m - 1]! d[m]! with e | e | e
         · exact e
         · exact absurd e.symm hne
         · exact absurd e (hs (m - 1) m (by omega) (by omega))
       by_cases hi1 : i = m - 1
       · subst hi1; exact hlt
       · rcases h.tri d[i]! d[m - 1]! with e | e | e
         · exact h.trans _ _ _ e hlt
         · rw [e]; exact hlt
         · exact absurd e (hs i (m - 1) (by omega) (by omega))
     · rw [List.mem_append, List.mem_singleton, h2]
       constructor
       · rintro (⟨i, hi, e⟩ | e)
         · exact ⟨i, by omega, e⟩
         · exact ⟨m, by omega, e.symm⟩
       · rintro ⟨i, hi, e⟩
         by_cases him : i = m
         · subst him; exact .inr e.symm
         · exact .inl ⟨i, by omega, e⟩
   · rw [if_neg hk, List.append_nil]
     refine ⟨h1, fun y => ?_⟩
     rw [h2]
     constructor
     · rintro ⟨i, hi, e⟩; exact ⟨i, by omega, e⟩
     · rintro ⟨i, hi, e⟩
       by_cases him : i = m
       · subst him
         have h0 : ¬ (i = 0 ∨ d[i]! ≠ d[i - 1]!) := by unfold Lib.keeps at hk; simpa using hk
         refine ⟨i - 1, by omega, ?_⟩
         rw [<- e]
         exact (Classical.not_not.1 (fun hh => h0 (.inr hh))).symm
       · exact ⟨i, by omega, e⟩
def onceL [Inhabited α] (cf : α -> α -> Int) (l : List α) : List α := Lib.compact (l.mergeSort fun x y => !decide (cf y x < 0))
theorem onceL_spec [Inhabited α] (h : TotC cf) (l : List α) : Rises cf (onceL cf l) /\ ∀ y, y ∈ onceL cf l ↔ y ∈ l := by
 have hp := List.mergeSort_perm l fun x y => !decide (cf y x < 0)
 have hs := List.pairwise_mergeSort (le := fun x y => !decide (cf y x < 0))
   (by
     intro a b c h1 h2
     simp only [Bool.not_eq_true', decide_eq_false_iff_not] at h1 h2 ⊢
     intro h3
     rcases h.tri a b with e | e | e
     · exact h2 (h.trans c a b h3 e)
     · subst e; exact h2 h3
     · exact h1 e)
   (by
     intro a b
     rcases h.tri a b with e | e | e
     · have := h.asym e; simp [this]
     · subst e; have := h.irr a; simp [this]
     · have := h.asym e; simp [this]) l
 unfold onceL Lib.compact
 generalize hq : (l.mergeSort fun x y => !decide (cf y x < 0)) = q at hp hs ⊢
 have hg : ∀ i, (hi : i < q.length) -> q.toArray[i]! = q[i] := fun i hi => by simp [hi]
 obtain ⟨h1, h2⟩ := compact_spec h q.toArray (by
   intro i j hij hj
   have hj' : j < q.length := by simpa using hj
   rw [hg i (by omega), hg j hj']
   have := List.pairwise_iff_getElem.1 hs i j (by omega) hj' hij
   simpa using this) q.length (by simp)
 refine ⟨h1, fun y => ?_⟩
 rw [h2, <- hp.mem_iff]
 constructor
 · rintro ⟨i, hi, e⟩; rw [<- e, hg i hi]; exact List.getElem_mem hi
 · intro hy
   obtain ⟨i, hi, e⟩ := List.getElem_of_mem hy
   exact ⟨i, hi, by rw [hg i hi, e]⟩
theorem once_put [Inhabited α] (h : TotC cf) (l : List α) : onceL cf l = putAll cf l := by
 obtain ⟨h1, h2⟩ := onceL_spec h l
 obtain ⟨h3, h4⟩ := putAll_spec h l
 exact rise_unique h _ _ h1 h3 fun x => by rw [h2, h4]
end
theorem cmpBytes_less : ∀ (a b : List UInt8), Op.bytesLess a b = decide (Lib.compareBytes a b < 0)
 | [], [] => by simp [Op.bytesLess, Lib.compareBytes]
 | [], _ :: _ => by simp [Op.bytesLess, Lib.compareBytes]
 | _ :: _, [] => by simp [Op.bytesLess, Lib.compareBytes]
 | x :: a, y :: b => by
   have ih := cmpBytes_less a b
   unfold Op.bytesLess Lib.compareBytes
   by_cases h1 : x < y
   · simp [h1]
   · by_cases h2 : y < x
     · have hne : x ≠ y := by rintro rfl; exact absurd h2 h1
       simp [h1, h2, hne]
     · have he : x = y := UInt8.le_antisymm (UInt8.not_lt.1 h2) (UInt8.not_lt.1 h1)
       subst he
       simp [ih]
theorem cmpBytes_tot : TotC Lib.compareBytes where
 eq := by
   intro x
   induction x with
   | nil => intro y h; cases y with
     | nil => rfl
     | cons y b => simp [Lib.compareBytes] at h
   | cons x a ih => intro y h; cases y with
     | nil => simp [Lib.compareBytes] at h
     | cons y b =>
       unfold Lib.compareBytes at h
       by_cases h1 : x < y
       · simp [h1] at h
       · by_cases h2 : y < x
         · simp [h1, h2] at h
         · have he : x = y := UInt8.le_antisymm (UInt8.not_lt.1 h2) (UInt8.not_lt.1 h1)
           subst he
           rw [if_neg h1, if_neg h2] at h
           rw [ih b h]
 self := by
   intro x
   induction x with
   | nil => rfl
   | cons x a ih => unfold Lib.compareBytes; rw [if_neg (UInt8.lt_irrefl x), if_neg (UInt8.lt_irrefl x)]; exact ih
 anti := by
   intro x
   induction x with
   | nil => intro y h; cases y with
     | nil => simp [Lib.compareBytes] at h
     | cons y b => simp [Lib.compareBytes]
   | cons x a ih => intro y h; cases y with
     | nil => simp [Lib.compareBytes] at h
     | cons y b =>
       unfold Lib.compareBytes at h ⊢
       by_cases h1 : x < y
       · rw [if_neg (UInt8.lt_asymm h1), if_pos h1]; omega
       · by_cases h2 : y < x
         · rw [if_neg h1, if_pos h2] at h; omega
         · rw [if_neg h1, if_neg h2] at h
           rw [if_neg h2, if_neg h1]
           exact ih b h
 anti' := by
   intro x
   induction x with
   | nil => intro y h; cases y with
     | nil => simp [Lib.compareBytes] at h
     | cons y b => simp [Lib.compareBytes] at h
   | cons x a ih => intro y h; cases y with
     | nil => simp [Lib.compareBytes]
     | cons y b =>
       unfold Lib.compareBytes at h ⊢
       by_cases h1 : x < y
       · rw [if_pos h1] at h; omega
       · by_cases h2 : y < x
         · rw [if_pos h2]; omega
         · rw [if_neg h1, if_neg h2] at h
           rw [if_neg h2, if_neg h1]
           exact ih b h
 trans := by
   intro x
   induction x with
   | nil => intro y z h1 h2; cases y with
     | nil => simp [Lib.compareBytes] at h1
     | cons y b => cases z with
       | nil => simp [Lib.compareBytes] at h2
       | cons z c => simp [Lib.compareBytes]
   | cons x a ih => intro y z h1 h2; cases y with
     | nil => simp [Lib.compareBytes] at h1
     | cons y b => cases z with
       | nil => simp [Lib.compareBytes] at h2
       | cons z c =>
         unfold Lib.compareBytes at h1 h2 ⊢
         by_cases e1 : x < y
         · by_cases e2 : y < z
           · rw [if_pos (UInt8.lt_trans e1 e2)]; omega
           · by_cases e3 : z < y
             · rw [if_neg e2, if_pos e3] at h2; omega
             · have he : y = z := UInt8.le_antisymm (UInt8.not_lt.1 e3) (UInt8.not_lt.1 e2)
               subst he
               rw [if_pos e1]; omega
         · by_cases e2 : y < x
           · rw [if_neg e1, if_pos e2] at h1; omega
           · have he : x = y := UInt8.le_antisymm (UInt8.not_lt.1 e2) (UInt8.not_lt.1 e1)
             subst he
             rw [if_neg e1, if_neg e2] at h1
             by_cases e3 : x < z
             · rw [if_pos e3]; omega
             · by_cases e4 : z < x
               · rw [if_neg e3, if_pos e4] at h2; omega
               · rw [if_neg e3, if_neg e4] at h2 ⊢
                 exact ih b c h1 h2
def cfT (a b : ByteArray) : Int := Lib.compareBytes a.data.toList b.data.toList
theorem bytes_ext {a b : ByteArray} (h : a.data.toList = b.data.toList) : a = b := ByteArray.ext (Array.ext' h)
theorem cfT_tot : TotC cfT where
 eq x y h := bytes_ext (cmpBytes_tot.eq _ _ h)
 self x := cmpBytes_tot.self _
 anti x y h := cmpBytes_tot.anti _ _ h
 anti' x y h := cmpBytes_tot.anti' _ _ h
 trans x y z h1 h2 := cmpBytes_tot.trans _ _ _ h1 h2
theorem less_cfT (a b : ByteArray) : Op.bytesLess a.toList b.toList = decide (cfT a b < 0) := by
 rw [_root_.Go.ByteArray.toList_eq, _root_.Go.ByteArray.toList_eq, cmpBytes_less]; rfl
theorem beq_text (a b : ByteArray) : (a.toList == b.toList) = decide (a = b) := by
 rw [_root_.Go.ByteArray.toList_eq, _root_.Go.ByteArray.toList_eq, Bool.eq_iff_iff]
 simp only [beq_iff_eq, decide_eq_true_eq]
 exact ⟨bytes_ext, fun h => by rw [h]⟩
def okAt (c : Nat) (i : Nat) : Bool := decide ((65 <= c /\ c <= 90) ∨ c = 95 ∨ (48 <= c /\ c <= 57 /\ 0 < i))
def okOf (c : Nat) : Bool := decide ((65 <= c /\ c <= 90) ∨ c = 95 ∨ (48 <= c /\ c <= 57))
def digB (c : Nat) : Bool := decide (48 <= c /\ c <= 57)
def nthB (s : ByteArray) (i : Nat) : Nat := (s.data.toList.getD i 0).toNat
def nameB (s : ByteArray) : Bool := decide (1 <= s.size /\ s.size <= 64) && (List.range s.size).all fun i => okAt (nthB s i) i
theorem nthB_get (s : ByteArray) (i : Nat) (h : i < s.size) : nthB s i = s[i].toNat := by
 unfold nthB
 rw [List.getD_eq_getElem?_getD, List.getElem?_eq_getElem (by simpa using h)]
 rfl
theorem nameB_iff (s : ByteArray) : nameB s = true ↔ 1 <= s.size /\ s.size <= 64 /\ ∀ i, i < s.size -> okAt (nthB s i) i = true := by
 unfold nameB
 rw [Bool.and_eq_true, decide_eq_true_eq, List.all_eq_true]
 simp only [List.mem_range]
 exact ⟨fun ⟨⟨a, b⟩, c⟩ => ⟨a, b, c⟩, fun ⟨a, b, c⟩ => ⟨⟨a, b⟩, c⟩⟩
theorem nameB_no {s : ByteArray} (h : ¬ (1 <= s.size /\ s.size <= 64 /\ ∀ i, i < s.size -> okAt (nthB s i) i = true)) : nameB s = false := by
 cases hn : nameB s with
 | false => rfl
 | true => exact absurd ((nameB_iff s).1 hn) h
theorem okAt_of {c i : Nat} (h : okOf c = true) (hi : 0 < i ∨ digB c = false) : okAt c i = true := by
 unfold okOf digB at *; unfold okAt
 simp only [decide_eq_true_eq, decide_eq_false_iff_not] at *
 omega
theorem okOf_at {c i : Nat} (h : okAt c i = true) : okOf c = true := by
 unfold okOf okAt at *
 simp only [decide_eq_true_eq] at *
 omega
theorem okAt_dig {c : Nat} (h : digB c = true) : okAt c 0 = false := by
 unfold digB okAt at *
 simp only [decide_eq_true_eq, decide_eq_false_iff_not] at *
 omega
def eqIdx (s : ByteArray) : Int := Lib.indexByte s.data.toList 61
theorem eqIdx_ge (s : ByteArray) : -1 <= eqIdx s := Lib.indexByte_ge _ _
theorem eqIdx_lt (s : ByteArray) : eqIdx s < s.size := by
 rcases Int.lt_or_le (eqIdx s) 0 with h | h
 · omega
 · obtain ⟨n, hn⟩ := Int.eq_ofNat_of_zero_le h
   have := (Lib.indexByte_some (l := s.data.toList) (c := 61) (o := n) hn).1
   have := (List.getElem?_eq_some_iff.1 this).1
   simp at this
   rw [hn]; omega
theorem eqIdx_none {s : ByteArray} (h : eqIdx s = -1) (k : Nat) (hk : k < s.size) : nthB s k ≠ 61 := by
 have := Lib.indexByte_none (l := s.data.toList) (c := 61) h k
 rw [List.getElem?_eq_getElem (by simpa using hk)] at this
 intro e
 apply this
 congr 1
 rw [nthB_get s k hk] at e
 exact UInt8.toNat_inj.1 e
theorem eqIdx_some {s : ByteArray} {n : Nat} (h : eqIdx s = n) : nthB s n = 61 /\ ∀ k, k < n -> nthB s k ≠ 61 := by
 obtain ⟨h1, h2⟩ := Lib.indexByte_some (l := s.data.toList) (c := 61) (o := n) h
 have hl : n < s.size := by have := eqIdx_lt s; rw [h] at this; omega
 refine ⟨?_, fun k hk e => h2 k hk ?_⟩
 · unfold nthB; rw [List.getD_eq_getElem?_getD, h1]; rfl
 · rw [List.getElem?_eq_getElem (by have : s.data.toList.length = s.size := by simp
                                    omega)]
   congr 1
   rw [nthB_get s k (by omega)] at e
   exact UInt8.toNat_inj.1 e
theorem eqIdx_of {s : ByteArray} {n : Nat} (hn : n < s.size) (h : nthB s n = 61) (hb : ∀ k, k < n -> nthB s k ≠ 61) : eqIdx s = n := by
 have hge := eqIdx_ge s
 rcases Int.lt_or_le (eqIdx s) 0 with h1 | h1
 · exact absurd h (eqIdx_none (by omega) n hn)
 · obtain ⟨m, hm⟩ := Int.eq_ofNat_of_zero_le h1
   obtain ⟨a, b⟩ := eqIdx_some hm
   rw [hm]
   rcases Nat.lt_trichotomy m n with e | e | e
   · exact absurd a (hb m e)
   · rw [e]
   · exact absurd h (b n e)
theorem eqIdx_no {s : ByteArray} (hb : ∀ k, k < s.size -> nthB s k ≠ 61) : eqIdx s = -1 := by
 have hge := eqIdx_ge s
 have hlt := eqIdx_lt s
 rcases Int.lt_or_le (eqIdx s) 0 with h1 | h1
 · omega
 · obtain ⟨m, hm⟩ := Int.eq_ofNat_of_zero_le h1
   rw [hm] at hlt
   exact absurd (eqIdx_some hm).1 (hb m (by omega))
def spOk (s : ByteArray) : Bool := decide (0 <= eqIdx s) && nameB (s.extract 0 (eqIdx s).toNat)
def spF (s : ByteArray) : ByteArray := if spOk s then s.extract 0 (eqIdx s).toNat else ⟨#[]⟩
def spV (s : ByteArray) : ByteArray := if spOk s then s.extract ((eqIdx s).toNat + 1) s.size else ⟨#[]⟩
theorem spOk_none {s : ByteArray} (h : eqIdx s < 0) : spOk s = false := by
 unfold spOk; rw [decide_eq_false (by omega)]; rfl
theorem spOk_name {s : ByteArray} {n : Nat} (h : eqIdx s = n) : spOk s = nameB (s.extract 0 n) := by
 unfold spOk; rw [h, decide_eq_true (by omega)]; simp
theorem spF_yes {s : ByteArray} {n : Nat} (h : eqIdx s = n) (ho : spOk s = true) : spF s = s.extract 0 n := by unfold spF; rw [if_pos ho, h]; rfl
theorem spV_yes {s : ByteArray} {n : Nat} (h : eqIdx s = n) (ho : spOk s = true) : spV s = s.extract (n + 1) s.size := by unfold spV; rw [if_pos ho, h]; rfl
theorem spF_no {s : ByteArray} (ho : spOk s = false) : spF s = ⟨#[]⟩ := by unfold spF; rw [ho]; rfl
theorem spV_no {s : ByteArray} (ho : spOk s = false) : spV s = ⟨#[]⟩ := by unfold spV; rw [ho]; rfl
end Go.Proofs.YtgcmbgniaffdlaaGreat
set_option linter.unusedSimpArgs false
namespace Go.Proofs.YtgcmbgniaffdlaaGreat
open Go.RowKit
theorem isDigit_any (c : Nat) (w : World) :
 Calls Tryz.prog 178 #[.int .u8 c] w fun e w' => e = .returned (.bool (digB c)) /\ w = w' := by
 by_cases h1 : 48 <= c
 · by_cases h2 : c <= 57
   · go_enter Tryz.func178, Tryz.ntmps178
     go_wp2
     go_ret
     exact ⟨ret_bool (by unfold digB; rw [decide_eq_decide]; omega), rfl⟩
   · go_enter Tryz.func178, Tryz.ntmps178
     go_wp2
     go_ret
     exact ⟨ret_bool (by unfold digB; rw [decide_eq_decide]; omega), rfl⟩
 · go_enter Tryz.func178, Tryz.ntmps178
   go_wp2
   go_ret
   exact ⟨ret_bool (by unfold digB; simp; omega), rfl⟩
theorem isDigit_yes (c : Nat) (w : World) (h : digB c = true) :
 Calls Tryz.prog 178 #[.int .u8 c] w fun e w' => e = .returned (.bool true) /\ w = w' := h ▸ isDigit_any c w
theorem isDigit_no (c : Nat) (w : World) (h : digB c = false) :
 Calls Tryz.prog 178 #[.int .u8 c] w fun e w' => e = .returned (.bool false) /\ w = w' := h ▸ isDigit_any c w
theorem isOfName_any (c : Nat) (w : World) :
 Calls Tryz.prog 179 #[.int .u8 c] w fun e w' => e = .returned (.bool (okOf c)) /\ w = w' := by
 by_cases h1 : 65 <= c /\ c <= 90
 · have ho : okOf c = true := by unfold okOf; simp; omega
   obtain ⟨h1, h2⟩ := h1
   rw [ho]
   clear ho
   go_enter Tryz.func179, Tryz.ntmps179
   go_wp2
   go_ret
   exact ⟨rfl, rfl⟩
 · have hp : 65 <= c -> ¬ c <= 90 := fun a b => h1 ⟨a, b⟩
   cases hd : digB c with
   | true =>
     have ho : okOf c = true := by unfold digB at hd; unfold okOf; simp at hd ⊢; omega
     rw [ho]
     clear ho h1
     have H := Lib.hid hd
     clear hd
     by_cases h65 : 65 <= c
     · have h90 := hp h65
       clear hp
       go_enter Tryz.func179, Tryz.ntmps179
       go_wp2_with (go_at_call 178; refine (isDigit_yes c _ H.out).mono ?_; rintro e w1 ⟨rfl, rfl⟩)
       go_ret
       exact ⟨rfl, rfl⟩
     · clear hp
       go_enter Tryz.func179, Tryz.ntmps179
       go_wp2_with (go_at_call 178; refine (isDigit_yes c _ H.out).mono ?_; rintro e w1 ⟨rfl, rfl⟩)
       go_ret
       exact ⟨rfl, rfl⟩
   | false =>
     have ho : okOf c = decide (c = 95) := by
       unfold digB at hd; unfold okOf
       simp only [decide_eq_false_iff_not, decide_eq_decide] at hd ⊢
       omega
     rw [ho]
     clear ho h1
     have H := Lib.hid hd
     clear hd
     by_cases h65 : 65 <= c
     · have h90 := hp h65
       clear hp
       go_enter Tryz.func179, Tryz.ntmps179
       go_wp2_with (go_at_call 178; refine (isDigit_no c _ H.out).mono ?_; rintro e w1 ⟨rfl, rfl⟩)
       go_ret
       exact ⟨ret_bool (by rw [Bool.eq_iff_iff]; simp; omega), rfl⟩
     · clear hp
       go_enter Tryz.func179, Tryz.ntmps179
       go_wp2_with (go_at_call 178; refine (isDigit_no c _ H.out).mono ?_; rintro e w1 ⟨rfl, rfl⟩)
       go_ret
       exact ⟨ret_bool (by rw [Bool.eq_iff_iff]; simp; omega), rfl⟩
theorem isOfName_yes (c : Nat) (w : World) (h : okOf c = true) :
 Calls Tryz.prog 179 #[.int .u8 c] w fun e w' => e = .returned (.bool true) /\ w = w' := h ▸ isOfName_any c w
theorem isOfName_no (c : Nat) (w : World) (h : okOf c = false) :
 Calls Tryz.prog 179 #[.int .u8 c] w fun e w' => e = .returned (.bool false) /\ w = w' := h ▸ isOfName_any c w
theorem name_any (s : ByteArray) (w : World) (hs : s.size <= maxLen) :
 Calls Tryz.prog 133 #[.string s] w fun e w' => e = .returned (.bool (nameB s)) /\ w = w' := by
 unfold maxLen at hs
 by_cases h0 : s.size = 0
 · have hn : nameB s = false := nameB_no (by omega)
   rw [hn]
   clear hn
   have he : s.toList = [] := by rw [_root_.Go.ByteArray.toList_eq]; exact List.eq_nil_of_length_eq_zero (by simpa using h0)
   go_enter Tryz.func133, Tryz.ntmps133
   go_wp2
   go_ret
   exact ⟨rfl, rfl⟩
 have he1 : s.toList.isEmpty = false := by rw [_root_.Go.ByteArray.toList_eq, List.isEmpty_eq_false_iff]; intro e; exact h0 (by simpa using congrArg List.length e)
 have hp : 0 < s.size := by omega
 by_cases h64 : 64 < s.size
 · have hn : nameB s = false := nameB_no (by omega)
   rw [hn]
   clear hn h0
   go_enter Tryz.func133, Tryz.ntmps133
   go_wp2
   go_ret
   exact ⟨rfl, rfl⟩
 have hle : s.size <= 64 := by omega
 clear hs h64
 have n0 := nthB_get s 0 hp
 cases hd : digB s[0].toNat with
 | true =>
   have hn : nameB s = false := nameB_no fun hh => by
     have := hh.2.2 0 hp
     rw [n0, okAt_dig hd] at this
     cases this
   rw [hn]
   have HD := Lib.hid hd
   clear hn h0 hd n0
   go_enter Tryz.func133, Tryz.ntmps133
   go_wp2_with (go_at_call 178; refine (isDigit_yes _ _ HD.out).mono ?_; rintro e w1 ⟨rfl, rfl⟩)
   go_ret
   exact ⟨rfl, rfl⟩
 | false =>
   have HD := Lib.hid hd
   have N0 := Lib.hid n0
   clear h0 hd n0
   go_enter Tryz.func133, Tryz.ntmps133
   go_wp2_with (go_at_call 178; refine (isDigit_no _ _ HD.out).mono ?_; rintro e w1 ⟨rfl, rfl⟩)
   go_loop [3, 18] (fun _ i => ∃ k : Nat, k <= s.size /\ Hid (∀ j, j < k -> okAt (nthB s j) j = true) /\ i = .int .i64 k) (fun _ i => s.size - (intOf i).toNat)
   case atStart => exact ⟨0, Nat.zero_le _, Lib.hid (fun j hj => absurd hj (by omega)), rfl⟩
   case round =>
     obtain ⟨k, hk, hall, rfl⟩ := hrel
     by_cases hlt : k < s.size
     · have nk := nthB_get s k hlt
       cases ho : okOf s[k].toNat with
       | true =>
         have hok : okAt (nthB s k) k = true := by
           rw [nk]
           refine okAt_of ho ?_
           rcases Nat.eq_zero_or_pos k with e | e
           · subst e; exact .inr HD.out
           · exact .inl e
         have HO := Lib.hid ho
         have HK := Lib.hid hok
         clear ho hok nk
         go_wp2_with (go_at_call 179; refine (isOfName_yes _ _ HO.out).mono ?_; rintro e w1 ⟨rfl, rfl⟩)
         go_round
         case rel => exact ⟨k + 1, by omega, Lib.hid (fun j hj => by
           rcases Nat.lt_or_ge j k with e | e
           · exact hall.out j e
           · obtain rfl : j = k := by omega
             exact HK.out), by go_num⟩
         case measure => simp [intOf]; omega
       | false =>
         have hn : nameB s = false := nameB_no fun hh => by
           have := okOf_at (hh.2.2 k hlt)
           rw [nk, ho] at this
           cases this
         have HO := Lib.hid ho
         have HN := Lib.hid hn
         clear ho hn nk
         go_wp2_with (go_at_call 179; refine (isOfName_no _ _ HO.out).mono ?_; rintro e w1 ⟨rfl, rfl⟩)
         go_ret
         exact ⟨ret_bool HN.out.symm, rfl⟩
     · obtain rfl : k = s.size := by omega
       have hn := Lib.hid ((nameB_iff s).2 ⟨hp, hle, hall.out⟩)
       go_wp2
       go_ret
       exact ⟨ret_bool hn.out.symm, rfl⟩
def Drew (w w' : World) : Prop := ∃ n, w' = w.drewN n
theorem Drew.refl (w : World) : Drew w w := ⟨0, rfl⟩
theorem Drew.n (w : World) (n : Nat) : Drew w (w.drewN n) := ⟨n, rfl⟩
theorem cls (c : Nat) :
 (((decide ((65 : Int) <= (c : Int)) = true /\ decide ((c : Int) <= 90) = true /\ ((c : Int) == 95) = false /\ decide ((48 : Int) <= (c : Int)) = true /\ decide ((c : Int) <= 57) = false) ∨ (decide ((65 : Int) <= (c : Int)) = true /\ decide ((c : Int) <= 90) = false /\ ((c : Int) == 95) = true /\ decide ((48 : Int) <= (c : Int)) = true /\ decide ((c : Int) <= 57) = false)) /\ ∀ i, okAt c i = true) ∨
 ((decide ((65 : Int) <= (c : Int)) = false /\ decide ((c : Int) <= 90) = true /\ ((c : Int) == 95) = false /\ decide ((48 : Int) <= (c : Int)) = true /\ decide ((c : Int) <= 57) = true) /\ ∀ i, okAt c i = decide (0 < i)) ∨
 (((decide ((65 : Int) <= (c : Int)) = false /\ decide ((c : Int) <= 90) = true /\ ((c : Int) == 95) = false /\ decide ((48 : Int) <= (c : Int)) = false /\ decide ((c : Int) <= 57) = true) ∨ (decide ((65 : Int) <= (c : Int)) = false /\ decide ((c : Int) <= 90) = true /\ ((c : Int) == 95) = false /\ decide ((48 : Int) <= (c : Int)) = true /\ decide ((c : Int) <= 57) = false) ∨ (decide ((65 : Int) <= (c : Int)) = true /\ decide ((c : Int) <= 90) = false /\ ((c : Int) == 95) = false /\ decide ((48 : Int) <= (c : Int)) = true /\ decide ((c : Int) <= 57) = false)) /\ ∀ i, okAt c i = false) := by
 have hb : ∀ (p : Prop) [Decidable p], (p -> decide p = true) /\ (¬ p -> decide p = false) := fun p _ => ⟨decide_eq_true, decide_eq_false⟩
 have h95 : ((c : Int) == 95) = decide (c = 95) := by rw [Bool.eq_iff_iff]; simp; omega
 rw [h95]
 by_cases a1 : c < 48
 · refine .inr (.inr ⟨.inl ⟨decide_eq_false (by omega), decide_eq_true (by omega), decide_eq_false (by omega), decide_eq_false (by omega), decide_eq_true (by omega)⟩, fun i => decide_eq_false (by omega)⟩)
 · by_cases a2 : c <= 57
   · refine .inr (.inl ⟨⟨decide_eq_false (by omega), decide_eq_true (by omega), decide_eq_false (by omega), decide_eq_true (by omega), decide_eq_true (by omega)⟩, fun i => ?_⟩)
     unfold okAt
     rw [decide_eq_decide]; omega
   · by_cases a3 : c < 65
     · refine .inr (.inr ⟨.inr (.inl ⟨decide_eq_false (by omega), decide_eq_true (by omega), decide_eq_false (by omega), decide_eq_true (by omega), decide_eq_false (by omega)⟩), fun i => decide_eq_false (by omega)⟩)
     · by_cases a4 : c <= 90
       · exact .inl ⟨.inl ⟨decide_eq_true (by omega), decide_eq_true (by omega), decide_eq_false (by omega), decide_eq_true (by omega), decide_eq_false (by omega)⟩, fun i => decide_eq_true (by omega)⟩
       · by_cases a5 : c = 95
         · exact .inl ⟨.inr ⟨decide_eq_true (by omega), decide_eq_false (by omega), decide_eq_true (by omega), decide_eq_true (by omega), decide_eq_false (by omega)⟩, fun i => decide_eq_true (by omega)⟩
         · exact .inr (.inr ⟨.inr (.inr ⟨decide_eq_true (by omega), decide_eq_false (by omega), decide_eq_false (by omega), decide_eq_true (by omega), decide_eq_false (by omega)⟩), fun i => decide_eq_false (by omega)⟩)
theorem rname_any (s : ByteArray) (w : World) (hs : s.size <= maxLen) :
 Calls Tryz.prog 131 #[.string s] w fun e w' => e = .returned (.bool (nameB s)) /\ Drew w w' := by
 unfold maxLen at hs
 go_enter Tryz.func131, Tryz.ntmps131
 go_wp2
 go_loopw [3] (fun i wr => ∃ k n : Nat, k <= s.size /\ k <= 65 /\ Hid (∀ j, j < k -> okAt (nthB s j) j = true) /\ i = .int .i64 k /\ wr = w.drewN n) (fun i _ => 70 - (intOf i).toNat)
 case atStart => exact ⟨0, 0, Nat.zero_le _, Nat.zero_le _, Lib.hid (fun j hj => absurd hj (by omega)), rfl, rfl⟩
 case round =>
   obtain ⟨k, n, hk, hk65, hall, rfl, rfl⟩ := hrel
   by_cases hlt : k < s.size
   · by_cases h65 : k <= 64
     · have nk := nthB_get s k hlt
       have h65i : (k : Int) <= 64 := by omega
       have hlti : (k : Int) < s.size := by omega
       rcases cls s[k].toNat with ⟨hc, hok⟩ | ⟨hc, hok⟩ | ⟨hc, hok⟩
       · have hok2 : okAt (nthB s k) k = true := by rw [nk]; exact hok k
         have HK := Lib.hid hok2
         clear hok hok2 nk
         rcases hc with ⟨d1, d2, d3, d4, d5⟩ | ⟨d1, d2, d3, d4, d5⟩
         all_goals
           go_wp2
           go_quiet (fail)
           clear d1 d2 d3 d4 d5
           go_wp2
           go_roundw
           case rel => exact ⟨k + 1, n + nq, by omega, by omega, Lib.hid (fun j hj => by
             rcases Nat.lt_or_ge j k with e | e
             · exact hall.out j e
             · obtain rfl : j = k := by omega
               exact HK.out), by go_num, by first | rfl | rw [World.drewN_drewN]⟩
           case measure => simp [intOf]; omega
       · rcases hc with ⟨d1, d2, d3, d4, d5⟩
         rcases Nat.eq_zero_or_pos k with e0 | e0
         · subst e0
           have hn : nameB s = false := nameB_no fun hh => by
             have := hh.2.2 0 hlt
             rw [nk, hok 0] at this
             cases this
           have HN := Lib.hid hn
           clear hn hok nk
           go_wp2
           go_quiet (fail)
           clear d1 d2 d3 d4 d5
           go_wp2
           go_ret
           exact ⟨ret_bool HN.out.symm, by first | exact ⟨_, rfl⟩ | exact ⟨_, (World.drewN_drewN _ _ _)⟩⟩
         · have hok2 : okAt (nthB s k) k = true := by rw [nk, hok k]; exact decide_eq_true e0
           have HK := Lib.hid hok2
           clear hok hok2 nk
           go_wp2
           go_quiet (fail)
           clear d1 d2 d3 d4 d5
           go_wp2
           go_roundw
           case rel => exact ⟨k + 1, n + nq, by omega, by omega, Lib.hid (fun j hj => by
             rcases Nat.lt_or_ge j k with e | e
             · exact hall.out j e
             · obtain rfl : j = k := by omega
               exact HK.out), by go_num, by first | rfl | rw [World.drewN_drewN]⟩
           case measure => simp [intOf]; omega
       · have hn : nameB s = false := nameB_no fun hh => by
           have := hh.2.2 k hlt
           rw [nk, hok k] at this
           cases this
         have HN := Lib.hid hn
         clear hn hok nk
         rcases hc with ⟨d1, d2, d3, d4, d5⟩ | ⟨d1, d2, d3, d4, d5⟩ | ⟨d1, d2, d3, d4, d5⟩
         all_goals
           go_wp2
           go_quiet (fail)
           clear d1 d2 d3 d4 d5
           go_wp2
           go_ret
           exact ⟨ret_bool HN.out.symm, by first | exact ⟨_, rfl⟩ | exact ⟨_, (World.drewN_drewN _ _ _)⟩⟩
     · have hn := Lib.hid (nameB_no (s := s) (by omega))
       have h65i : ¬ (k : Int) <= 64 := by omega
       have hbig : ¬ (s.size : Int) <= 64 := by omega
       have h1 : 1 <= (s.size : Int) := by omega
       go_wp2
       go_ret
       exact ⟨ret_bool hn.out.symm, ⟨_, rfl⟩⟩
   · obtain rfl : k = s.size := by omega
     by_cases h0 : s.size = 0
     · have hn := Lib.hid (nameB_no (s := s) (by omega))
       have H0 := Lib.hid h0
       have h1 : ¬ 1 <= (s.size : Int) := by omega
       clear h0
       go_wp2
       go_ret
       exact ⟨ret_bool hn.out.symm, ⟨_, rfl⟩⟩
     · by_cases h64 : s.size <= 64
       · have hn := Lib.hid ((nameB_iff s).2 ⟨by omega, h64, hall.out⟩)
         have h1 : 1 <= (s.size : Int) := by omega
         have h2 : (s.size : Int) <= 64 := by omega
         go_wp2
         go_ret
         exact ⟨ret_bool hn.out.symm, ⟨_, rfl⟩⟩
       · have hn := Lib.hid (nameB_no (s := s) (by omega))
         have h1 : 1 <= (s.size : Int) := by omega
         have h2 : ¬ (s.size : Int) <= 64 := by omega
         go_wp2
         go_ret
         exact ⟨ret_bool hn.out.symm, ⟨_, rfl⟩⟩
theorem indexByte_eq (s : ByteArray) (w : World) :
 Calls Tryz.prog 217 #[.string s, .int .u8 61] w fun e w' => e = .returned (.int .i64 (eqIdx s)) /\ w = w' := by
 have h := Any.stringslite_IndexByte Tryz.layIndexByte s 61 w
 exact h.mono fun e w' ⟨he, hw⟩ => ⟨he, hw.symm⟩
theorem index_eq (s : ByteArray) (w : World) (hs : s.size <= maxLen) :
 Calls Tryz.prog 200 #[.string s, .string ⟨#[61]⟩] w fun e w' => e = .returned (.int .i64 (eqIdx s)) /\ w = w' := by
 cases he : ([61] == s.toList) with
 | true =>
   have hz : eqIdx s = 0 := by
     have e := beq_iff_eq.1 he
     rw [_root_.Go.ByteArray.toList_eq] at e
     unfold eqIdx
     rw [<- e]; rfl
   rw [hz]
   clear hz
   go_enter Tryz.func200, Tryz.ntmps200
   go_wp2_with fail
   go_ret
   exact ⟨rfl, rfl⟩
 | false =>
   go_enter Tryz.func200, Tryz.ntmps200
   go_wp2_with (go_at_call 217; refine (indexByte_eq _ _).mono ?_; rintro e w1 ⟨rfl, rfl⟩)
   go_ret
   exact ⟨rfl, rfl⟩
def ctB (s : ByteArray) : ByteArray := if 0 <= eqIdx s then s.extract 0 (eqIdx s).toNat else s
def ctA (s : ByteArray) : ByteArray := if 0 <= eqIdx s then s.extract ((eqIdx s).toNat + 1) s.size else ⟨#[]⟩
theorem lcut_any (s : ByteArray) (w : World) (hs : s.size <= maxLen) :
 Calls Tryz.prog 177 #[.string s, .string ⟨#[61]⟩] w fun e w' => e = .returned (.tuple #[.string (ctB s), .string (ctA s), .bool (decide (0 <= eqIdx s))]) /\ Drew w w' := by
 have hi := index_eq s
 have hlt := eqIdx_lt s
 have hs' := hs
 unfold maxLen at hs
 by_cases h0 : 0 <= eqIdx s
 · obtain ⟨n, hn⟩ := Int.eq_ofNat_of_zero_le h0
   have e1 : ctB s = s.extract 0 n := by unfold ctB; rw [if_pos h0, hn]; rfl
   have e2 : ctA s = s.extract (n + 1) s.size := by unfold ctA; rw [if_pos h0, hn]; rfl
   rw [e1, e2, decide_eq_true h0]
   rw [hn] at hi hlt
   have hlt2 : n < s.size := by omega
   have hn1 : ((n : Nat) : Int) + 1 <= (s.size : Int) := by omega
   have H := Lib.hid hi
   clear hi h0 hn e1 e2
   go_enter Tryz.func177, Tryz.ntmps177
   go_wp2_with (go_at_call 200; refine (H.out _ hs').mono ?_; rintro e w1 ⟨rfl, rfl⟩)
   go_quiet (fail)
   go_wp2
   go_ret3
   exact ⟨rfl, Drew.n _ _⟩
 · have e1 : ctB s = s := by unfold ctB; rw [if_neg h0]
   have e2 : ctA s = ⟨#[]⟩ := by unfold ctA; rw [if_neg h0]
   rw [e1, e2, decide_eq_false h0]
   have hge := eqIdx_ge s
   have hn : eqIdx s = -1 := by omega
   rw [hn] at hi
   have H := Lib.hid hi
   clear hi h0 hn e1 e2 hge hlt
   go_enter Tryz.func177, Tryz.ntmps177
   go_wp2_with (go_at_call 200; refine (H.out _ hs').mono ?_; rintro e w1 ⟨rfl, rfl⟩)
   go_ret3
   exact ⟨rfl, Drew.refl _⟩
theorem cut_any (s : ByteArray) (w : World) (hs : s.size <= maxLen) :
 Calls Tryz.prog 132 #[.string s, .string ⟨#[61]⟩] w fun e w' => e = .returned (.tuple #[.string (ctB s), .string (ctA s), .bool (decide (0 <= eqIdx s))]) /\ Drew w w' := by
 generalize hq : decide (0 <= eqIdx s) = q
 have hc := fun w => lcut_any s w hs
 rw [hq] at hc
 have H := Lib.hid hc
 clear hc hq
 go_enter Tryz.func132, Tryz.ntmps132
 go_wp2_with (go_at_call 177; refine (H.out _).mono ?_; rintro e w1 ⟨rfl, n, rfl⟩)
 go_ret3
 exact ⟨rfl, Drew.n _ _⟩
theorem split_any (s : ByteArray) (w : World) (hs : s.size <= maxLen) :
 Calls Tryz.prog 86 #[.string s] w fun e w' => e = .returned (.tuple #[.string (spF s), .string (spV s), .bool (spOk s)]) /\ Drew w w' := by
 have hc := fun w => cut_any s w hs
 by_cases h0 : 0 <= eqIdx s
 · obtain ⟨n, hn⟩ := Int.eq_ofNat_of_zero_le h0
   have e1 : ctB s = s.extract 0 n := by unfold ctB; rw [if_pos h0, hn]; rfl
   have e2 : ctA s = s.extract (n + 1) s.size := by unfold ctA; rw [if_pos h0, hn]; rfl
   have hsz : (s.extract 0 n).size <= maxLen := by simp; omega
   have hno := spOk_name hn
   rw [e1, e2, decide_eq_true h0] at hc
   cases ho : spOk s with
   | true =>
     rw [spF_yes hn ho, spV_yes hn ho]
     have hnm : nameB (s.extract 0 n) = true := hno ▸ ho
     have hname := fun w => name_any (s.extract 0 n) w hsz
     rw [hnm] at hname
     generalize s.extract 0 n = a at *
     generalize s.extract (n + 1) s.size = b at *
     have H := Lib.hid hc
     have H2 := Lib.hid hname
     clear hc hname hnm hno ho hn h0 e1 e2 hsz
     go_enter Tryz.func86, Tryz.ntmps86
     go_wp2_with (first
       | (go_at_call 132; refine (H.out _).mono ?_; rintro e w1 ⟨rfl, n1, rfl⟩)
       | (go_at_call 133; refine (H2.out _).mono ?_; rintro e w1 ⟨rfl, rfl⟩))
     go_ret3
     exact ⟨rfl, Drew.n _ _⟩
   | false =>
     rw [spF_no ho, spV_no ho]
     have hnm : nameB (s.extract 0 n) = false := hno ▸ ho
     have hname := fun w => name_any (s.extract 0 n) w hsz
     rw [hnm] at hname
     generalize s.extract 0 n = a at *
     generalize s.extract (n + 1) s.size = b at *
     have H := Lib.hid hc
     have H2 := Lib.hid hname
     clear hc hname hnm hno ho hn h0 e1 e2 hsz
     go_enter Tryz.func86, Tryz.ntmps86
     go_wp2_with (first
       | (go_at_call 132; refine (H.out _).mono ?_; rintro e w1 ⟨rfl, n1, rfl⟩)
       | (go_at_call 133; refine (H2.out _).mono ?_; rintro e w1 ⟨rfl, rfl⟩))
     go_ret3
     exact ⟨rfl, Drew.n _ _⟩
 · have ho := spOk_none (s := s) (by omega)
   rw [spF_no ho, spV_no ho, ho]
   rw [decide_eq_false h0] at hc
   have H := Lib.hid hc
   clear hc h0 ho
   go_enter Tryz.func86, Tryz.ntmps86
   go_wp2_with (go_at_call 132; refine (H.out _).mono ?_; rintro e w1 ⟨rfl, n1, rfl⟩)
   go_ret3
   exact ⟨rfl, Drew.n _ _⟩
theorem rsplit_any (s : ByteArray) (w : World) (hs : s.size <= maxLen) :
 Calls Tryz.prog 84 #[.string s] w fun e w' => e = .returned (.tuple #[.string (spF s), .string (spV s), .bool (spOk s)]) /\ Drew w w' := by
 have hs' := hs
 unfold maxLen at hs
 go_enter Tryz.func84, Tryz.ntmps84
 go_wp2
 go_loop [5] (fun i => ∃ k : Nat, k <= s.size /\ Hid (∀ j, j < k -> nthB s j ≠ 61) /\ i = .int .i64 k) (fun i => s.size - (intOf i).toNat)
 case atStart => exact ⟨0, Nat.zero_le _, Lib.hid (fun j hj => absurd hj (by omega)), rfl⟩
 case round =>
   obtain ⟨k, hk, hall, rfl⟩ := hrel
   by_cases hlt : k < s.size
   · have nk := nthB_get s k hlt
     have hlti : (k : Int) < s.size := by omega
     by_cases h61 : s[k].toNat = 61
     · have d1 : (((s[k].toNat : Nat) : Int) == 61) = true := by rw [h61]; rfl
       have hidx : eqIdx s = k := eqIdx_of hlt (by rw [nk, h61]) hall.out
       have hsz : (s.extract 0 k).size <= maxLen := by simp; omega
       have hno := spOk_name hidx
       have hname := fun w => rname_any (s.extract 0 k) w hsz
       have hk1 : ((k : Nat) : Int) + 1 <= (s.size : Int) := by omega
       clear h61 nk
       cases ho : spOk s with
       | true =>
         have HE := Lib.hid (show Ending.returned (.tuple #[.string (s.extract 0 k), .string (s.extract (k + 1) s.size), .bool true]) = Ending.returned (.tuple #[.string (spF s), .string (spV s), .bool (spOk s)]) by rw [spF_yes hidx ho, spV_yes hidx ho, ho])
         have hnm : nameB (s.extract 0 k) = true := hno ▸ ho
         rw [hnm] at hname
         have H2 := Lib.hid hname
         clear hname hnm hno ho hidx hsz
         go_wp2_with (go_at_call 131; refine (H2.out _).mono ?_; rintro e w1 ⟨rfl, n1, rfl⟩)
         go_quiet (fail)
         go_wp2
         go_ret3
         exact ⟨HE.out, by first | exact Drew.n _ _ | exact ⟨_, World.drewN_drewN _ _ _⟩⟩
       | false =>
         have HE := Lib.hid (show Ending.returned (.tuple #[.string (⟨#[]⟩), .string (⟨#[]⟩), .bool false]) = Ending.returned (.tuple #[.string (spF s), .string (spV s), .bool (spOk s)]) by rw [spF_no ho, spV_no ho, ho])
         have hnm : nameB (s.extract 0 k) = false := hno ▸ ho
         rw [hnm] at hname
         have H2 := Lib.hid hname
         clear hname hnm hno ho hidx hsz
         go_wp2_with (go_at_call 131; refine (H2.out _).mono ?_; rintro e w1 ⟨rfl, n1, rfl⟩)
         go_ret3
         exact ⟨HE.out, Drew.n _ _⟩
     · have d1 : (((s[k].toNat : Nat) : Int) == 61) = false := by rw [beq_eq_false_iff_ne]; intro e; exact h61 (by omega)
       have hne : nthB s k ≠ 61 := by rw [nk]; exact h61
       have HN := Lib.hid hne
       clear h61 nk hne
       go_wp2
       go_round
       case rel => exact ⟨k + 1, by omega, Lib.hid (fun j hj => by
         rcases Nat.lt_or_ge j k with e | e
         · exact hall.out j e
         · obtain rfl : j = k := by omega
           exact HN.out), by go_num⟩
       case measure => simp [intOf]; omega
   · obtain rfl : k = s.size := by omega
     have ho := spOk_none (s := s) (by rw [eqIdx_no hall.out]; omega)
     have HE := Lib.hid (show Ending.returned (.tuple #[.string (⟨#[]⟩), .string (⟨#[]⟩), .bool false]) = Ending.returned (.tuple #[.string (spF s), .string (spV s), .bool (spOk s)]) by rw [spF_no ho, spV_no ho, ho])
     clear ho
     go_wp2
     go_ret3
     exact ⟨HE.out, Drew.refl _⟩
end Go.Proofs.YtgcmbgniaffdlaaGreat
