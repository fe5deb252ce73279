/-
  MERGED BY PROGRAM out of the texts ChAppend ChState GApp.
-/
import Derived.Test.YtknimfnjmhmamaaLCi
import Derived.Test.YtknimfnjmhmamaaLGm

/-
  LAYER 14: WHAT Append DOES, of any list of a file whose next place is free.
-/
set_option linter.unusedVariables false
set_option maxRecDepth 100000
set_option linter.unusedSimpArgs false
namespace Go.Proofs.Ytknimfnjmhmamaa
open Go.RowKit Go.Shelf
attribute [local go_sem] Oper.semAt_some

/-- The word that is to lead on. -/
def lkI (root : Nat) (its : List It) : Nat := match its.getLast? with
  | none => root
  | some t => t.j + 16
def FullI (its : List It) : Prop := ∀ t, its.getLast? = some t → (placesA t.is).length = t.is.length
def newA (n : Nat) (x : Int) : List Int := x :: List.replicate (sizeC n - 1) 0

section
variable {base p : Nat} {S : Nat → Prop} {i k d f h : Int} {m : IM} {bv sv : Value} {its : List It} {L : List Int}

/-- What Append tells, and leaves. -/
def ApTold (base : Nat) (S : Nat → Prop) (p : Nat) (i k d f h : Int) (m : IM) (root : Nat) (its : List It) (x : Int) (w : World) (e : Ending) (w' : World) : Prop :=
  (x = 0 ∧ e = .returned (.int .i64 1) ∧ Below w.heap.size w w') ∨
  (¬ x = 0 ∧ ∃ t, its.getLast? = some t ∧ (placesA t.is).length < t.is.length ∧ e = .returned (.int .i64 0) ∧ IXT base S p i k d f h (m.put8 (t.j + 24 + 8 * (placesA t.is).length) x) w w') ∨
  (¬ x = 0 ∧ FullI its ∧ m.lim < m.b.length + (encO 4 [0] [] (newA its.length x)).length ∧ e = .returned (.int .i64 21) ∧ Below w.heap.size w w') ∨
  (¬ x = 0 ∧ FullI its ∧ m.b.length + (encO 4 [0] [] (newA its.length x)).length ≤ m.lim ∧ e = .returned (.int .i64 0) ∧ IXT base S p i k d f h ((m.add (encO 4 [0] [] (newA its.length x))).put8 (lkI root its) (m.b.length : Nat)) w w')

/-- What put tells, and leaves. -/
def PutTold (base : Nat) (S : Nat → Prop) (p : Nat) (i k d f h : Int) (m : IM) (q : Nat) (X : List Int) (u : Int) (w w' : World) : Prop :=
  (m.lim < m.b.length + X.length ∧ u = 21 ∧ Below w.heap.size w w') ∨ (m.b.length + X.length ≤ m.lim ∧ u = 0 ∧ IXT base S p i k d f h ((m.add X).put8 q (m.b.length : Nat)) w w')
theorem PutTold.chg {q : Nat} {X : List Int} {u : Int} {w w' : World} (h : PutTold base S p i k d f h m q X u w w') : Chg S w w' := by
  rcases h with ⟨-, -, h⟩ | ⟨-, -, h⟩
  · exact Chg.of_below h (Nat.le_refl _) _
  · exact h.1

theorem ixt_end {m' : IM} {w W5 W6 : World} {D : Nat} (hf : ∀ j, S j → base ≤ j ∧ j < w.heap.size) (hb : base ≤ w.heap.size) (h5 : Below w.heap.size w W5) (h6 : IXT base S p i k d f h m' W5 W6) (hD : w.heap.size ≤ D) (hD5 : D < W5.heap.size) (o : Obj) : IXT base S p i k d f h m' w (W6.putObj D o) := by
  obtain ⟨hc, bv6, sv6, H6⟩ := h6
  have hs := h5.size
  have hs6 := hc.size
  have t2 := (Chg.of_below h5 (Nat.le_refl _) S).trans hc (fun _ _ h => h)
  have t3 : Chg (fun j => j = D) W6 (W6.putObj D o) := ⟨rfl, rfl, rfl, by simp, fun k hk hn => World.putObj_heap_other hn⟩
  have t4 := t2.trans t3 (fun j hj e => by omega)
  refine IXT.of (w0 := w) t4 (H6.keep t3 (fun j hj e => ?_)) (fun j hj => ?_) hf hb
  · subst e
    rcases hj with hj | hj
    · have := (hf _ hj).2; omega
    · omega
  · rcases hj with hj | hj
    · exact .inl hj
    · right; omega
theorem chg_keepD {w W5 W6 : World} {D : Nat} {o : Obj} (hf : ∀ j, S j → base ≤ j ∧ j < w.heap.size) (hD : w.heap.size ≤ D) (hK : W5.heap[D]? = some o) (hc : Chg S W5 W6) : W6.heap[D]? = some o :=
  (hc.block D (Array.getElem?_eq_some_iff.1 hK).1 (fun e => by have := (hf _ e).2; omega)).trans hK

/-- A region that goes on. -/
def OnNorm (R : Act → World → Prop) : Exit → Act → World → Prop
  | .normal, a, w => R a w
  | .ret, _, _ => False
  | .exit _, _, _ => False
  | .goto _, _, _ => False
  | .panic _, _, _ => False
  | .outgrown, _, _ => False
/-- An array made in memory: its word, its places, itself. -/
structure Arr3 (W W' : World) (Zw Zi : Array Value) (K gw gi gb : Nat) : Prop where
  bel : Below W.heap.size W W'
  lw : W.heap.size ≤ gw
  li : W.heap.size ≤ gi
  lb : W.heap.size ≤ gb
  n1 : gw ≠ gi
  n2 : gw ≠ gb
  n3 : gi ≠ gb
  zw : Blk W' gw 48 Zw
  zi : Blk W' gi 48 Zi
  zb : Blk W' gb 45 #[.int .i64 4, .slice (some ⟨gw, 0, none⟩) 1 1, .slice none 0 0, .slice (some ⟨gi, 0, none⟩) K K]
theorem three_blocks (W : World) (Za Zb Zc : Array Value) (ta tb tc : TypeId) : Below W.heap.size W (((W.alloc (.cells Za ta)).alloc (.cells Zb tb)).alloc (.cells Zc tc)).drew ∧ Blk (((W.alloc (.cells Za ta)).alloc (.cells Zb tb)).alloc (.cells Zc tc)).drew W.heap.size ta Za ∧
    Blk (((W.alloc (.cells Za ta)).alloc (.cells Zb tb)).alloc (.cells Zc tc)).drew (W.heap.size + 1) tb Zb ∧ Blk (((W.alloc (.cells Za ta)).alloc (.cells Zb tb)).alloc (.cells Zc tc)).drew (W.heap.size + 1 + 1) tc Zc := by
  have h := Blk.new (W.alloc (.cells Za ta)) tb Zb
  have h2 := Blk.new ((W.alloc (.cells Za ta)).alloc (.cells Zb tb)) tc Zc
  rw [World.size_alloc] at h
  rw [World.size_alloc, World.size_alloc] at h2
  exact ⟨((((Below.refl _ W).alloc (Nat.le_refl _) _).alloc (by simp) _).alloc (by simp; omega) _).drew, (((Blk.new W ta Za).alloc _).alloc _).drew, (h.alloc _).drew, h2.drew⟩

/-- What stands in the three variables. -/
def lastC (pre : List Ob) : Array Value := match pre.getLast? with
  | none => #[.int .i64 0, .slice none 0 0, .slice none 0 0, .slice none 0 0]
  | some y => #[.int .i64 4, .slice y.A y.n y.c, .slice y.B y.m y.d, .slice y.C y.p y.q]
def lastP (pre : List Ob) : Nat := match pre.getLast? with
  | none => 0
  | some y => y.t.j
theorem lastC_form (pre : List Ob) : ∃ a b c d, lastC pre = #[a, b, c, d] := by
  unfold lastC
  cases pre.getLast? with
  | none => exact ⟨_, _, _, _, rfl⟩
  | some y => exact ⟨_, _, _, _, rfl⟩
theorem lastC_snoc (pre : List Ob) (y : Ob) : lastC (pre ++ [y]) = #[.int .i64 4, .slice y.A y.n y.c, .slice y.B y.m y.d, .slice y.C y.p y.q] := by simp [lastC]
theorem lastP_snoc (pre : List Ob) (y : Ob) : lastP (pre ++ [y]) = y.t.j := by simp [lastP]

/-- The last one's places lie where they lay. -/
def LastOk (g0 : Nat) (pre : List Ob) (W : World) : Prop := ∀ y, pre.getLast? = some y → Reads W W.heap.size 1 y.C y.p (cellsOf .u64 y.t.is) ∧ (y.p ≤ y.q ∧ y.q ≤ 9223372036854775807) ∧ ∀ ad, y.C = some ad → ¬ three g0 ad.block
theorem LastOk.grown {g0 : Nat} {pre : List Ob} {W W' : World} {row : Option Nat} (h : LastOk g0 pre W) (hg : W.grownBy W' row) (hr : ∀ r, row = some r → ∃ o : Obj, W.heap[r]? = some o ∧ o.isCells = false) : LastOk g0 pre W' := fun y hy =>
  ⟨((h y hy).1.grownF hg hr).upto hg.size, (h y hy).2⟩
theorem LastOk.chg {g0 : Nat} {pre : List Ob} {W W' : World} (h : LastOk g0 pre W) (hc : Chg (three g0) W W') : LastOk g0 pre W' := fun y hy =>
  ⟨((h y hy).1.chg hc (Nat.le_refl _) (fun _ ad e => (h y hy).2.2 ad e)).upto hc.size, (h y hy).2⟩
theorem LastOk.snoc {g0 : Nat} {y : Ob} {W : World} (h : LastOk g0 [y] W) (pre : List Ob) : LastOk g0 (pre ++ [y]) W := fun z hz => h z (by simpa using hz)

end

end Go.Proofs.Ytknimfnjmhmamaa

/-
  LAYER 14: an image with two lists as the statements hold it; Append to it.
-/
set_option linter.unusedVariables false
set_option maxRecDepth 100000
set_option linter.unusedSimpArgs false
namespace Go.Proofs.Ytknimfnjmhmamaa
open Go.RowKit Go.Shelf

/-- What is told of a list's arrays, and the arrays. -/
def Same2 (its : List It) (c : List ARow) : Prop := its.map (fun t => (t.j, t.is)) = c.map (fun r => (r.at_, r.its))
theorem Same2.is {its : List It} {c : List ARow} (h : Same2 its c) : its.map (·.is) = c.map (·.its) := by
  have := congrArg (List.map Prod.snd) h
  rw [List.map_map, List.map_map] at this
  exact this
theorem Same2.len {its : List It} {c : List ARow} (h : Same2 its c) : its.length = c.length := by
  have := congrArg List.length h
  simpa using this
theorem Same2.last_none {its : List It} {c : List ARow} (h : Same2 its c) (hn : its.getLast? = none) : c = [] := by
  rw [List.getLast?_eq_none_iff] at hn
  have := h.len
  rw [hn] at this
  exact List.length_eq_zero_iff.1 this.symm
theorem Same2.last_some {its : List It} {c : List ARow} {t : It} (h : Same2 its c) (ht : its.getLast? = some t) : ∃ c' q, c = c' ++ [q] ∧ t.j = q.at_ ∧ t.is = q.its := by
  rcases List.eq_nil_or_concat c with rfl | ⟨c', q, rfl⟩
  · have := h.len
    rw [List.length_nil] at this
    rw [List.length_eq_zero_iff.1 this] at ht; simp at ht
  · refine ⟨c', q, by simp, ?_⟩
    have h1 := congrArg List.getLast? h
    rw [List.getLast?_map, List.getLast?_map, ht] at h1
    simp at h1
    exact h1
theorem lkI_eq {root : Nat} {its : List It} {c : List ARow} (h : Same2 its c) : lkI root its = linkA root c := by
  unfold lkI
  cases hc : its.getLast? with
  | none => rw [h.last_none hc]; rfl
  | some t =>
    obtain ⟨c', q, rfl, e, -⟩ := h.last_some hc
    simp [linkA, e]
/-- What stands in the last array. -/
theorem LI.last_places {c : List ARow} {q : ARow} {L : List Int} (h : LI (c ++ [q]) L) : (placesA q.its).length = L.length - roomC c.length ∧ q.its.length = sizeC c.length ∧ roomC c.length < L.length := by
  obtain ⟨h1, h2, h3, h4⟩ := h.last_at
  refine ⟨?_, h2, h1⟩
  rw [h4, placesA_all (fun x hx => h.nz x (List.mem_of_mem_drop hx)), List.length_drop]
theorem LI.full {c : List ARow} {its : List It} {L : List Int} (h : LI c L) (hs : Same2 its c) (hf : FullI its) : L.length = roomC c.length := by
  rcases List.eq_nil_or_concat c with rfl | ⟨c', q, rfl⟩
  · have := h.most
    simp [roomC] at this
    simp [this, roomC]
  · rw [List.concat_eq_append] at *
    obtain ⟨p1, p2, p3⟩ := h.last_places
    have hl : ∃ t, its.getLast? = some t := by
      cases hc : its.getLast? with
      | none => have := hs.last_none hc; simp at this
      | some t => exact ⟨t, rfl⟩
    obtain ⟨t, ht⟩ := hl
    obtain ⟨c2, q2, e, -, e2⟩ := hs.last_some ht
    have e3 : q2 = q := by
      have := congrArg List.getLast? e
      simpa using this.symm
    subst e3
    have := hf t ht
    rw [e2, p1, p2] at this
    have e5 : roomC (c' ++ [q2]).length = roomC c'.length + sizeC c'.length := by rw [List.length_append]; rfl
    omega

/-- Two lists in a file in memory. -/
structure CS (w : World) (base : Nat) (S : Nat → Prop) (p : Nat) (lim : Nat) (Ls : Nat → List Int) (As : Nat → Nat) (tl cnt : Nat) : Prop where
  ex : ∃ k m bv sv l, IX w base S p 0 k 2 2 0 m bv sv ∧ CB 288 roots2 2 m.b l ∧ AreB m.b ∧ m.lim = lim ∧ m.b.length = tl ∧ m.words.length ≤ cnt ∧ m.was.length ≤ 1099511627776 ∧ ∀ t, t < 2 → LI (chainA t l) (Ls t) ∧ (chainA t l).length = As t
  small : lim ≤ 1048576 ∧ cnt ≤ 1000000
  few : ∀ t, t < 2 → (Ls t).length ≤ cnt ∧ As t ≤ cnt

section
variable {w w' : World} {base p : Nat} {S : Nat → Prop} {lim : Nat} {Ls : Nat → List Int} {As : Nat → Nat} {tl cnt : Nat}

theorem CS.keep {T : Nat → Prop} (h : CS w base S p lim Ls As tl cnt) (hc : Chg T w w') (hT : ∀ j, S j → ¬ T j) : CS w' base S p lim Ls As tl cnt := by
  obtain ⟨⟨k, m, bv, sv, l, H, r⟩, hs, hf⟩ := h
  exact ⟨⟨k, m, bv, sv, l, H.keep hc hT, r⟩, hs, hf⟩
theorem CS.below (h : CS w base S p lim Ls As tl cnt) (hb : Below w.heap.size w w') : CS w' base S p lim Ls As tl cnt := h.keep (Chg.of_below hb (Nat.le_refl _) (fun _ => False)) (fun _ _ e => e)
theorem CS.foot (h : CS w base S p lim Ls As tl cnt) : ∀ j, S j → base ≤ j ∧ j < w.heap.size := by
  obtain ⟨⟨k, m, bv, sv, l, H, r⟩, hs, hf⟩ := h
  exact H.foot
theorem CS.bas (h : CS w base S p lim Ls As tl cnt) : base ≤ w.heap.size := by
  obtain ⟨⟨k, m, bv, sv, l, H, r⟩, hs, hf⟩ := h
  exact H.bas
theorem CS.mono {T : Nat → Prop} (h : CS w base S p lim Ls As tl cnt) (hS : ∀ j, S j → T j) (hT : ∀ j, T j → base ≤ j ∧ j < w.heap.size) : CS w base T p lim Ls As tl cnt := by
  obtain ⟨⟨k, m, bv, sv, l, H, r⟩, hs, hf⟩ := h
  exact ⟨⟨k, m, bv, sv, l, H.mono hS hT, r⟩, hs, hf⟩
theorem CS.mostT (h : CS w base S p lim Ls As tl cnt) : tl ≤ 1099511627776 := by
  obtain ⟨⟨k, m, bv, sv, l, H, T, -, -, e, -⟩, -, -⟩ := h
  rw [← e]; exact T.most
theorem CS.tail (h : CS w base S p lim Ls As tl cnt) : Calls Try.prog 30 #[.pointer (some ⟨p, 0, none⟩)] w fun e w' => e = .returned (.int .i64 tl) ∧ w = w' := by
  obtain ⟨⟨k, m, bv, sv, l, H, T, -, -, e, -⟩, -, -⟩ := h
  obtain ⟨A, c, rfl, -, -, -⟩ := H.reads
  rw [← e]
  exact itail_any p _ A c w (nine H.blk).1.2.2.2.2.2.2.1
/-- A list of it. -/
theorem CS.list (h : CS w base S p lim Ls As tl cnt) {t : Nat} (ht : t < 2) : ∃ its, ListAt w base p S (roots2 t : Nat) its (Ls t) ∧ its.length = As t ∧ (its.map fun u => (u.is.length : Int)) = (List.range (As t)).map (fun n => (sizeC n : Int)) := by
  obtain ⟨⟨k, m, bv, sv, l, H, T, hb, hlm, e, hw, hwas, hL⟩, hs, hf⟩ := h
  obtain ⟨hLI, hLn⟩ := hL t ht
  obtain ⟨its, hch, hsame⟩ := T.chain (D := 2) (F := 2) (m := m) (by decide) (by decide) ht
  have hs2 : Same2 its (chainA t l) := hsame
  have hU : IsU (m.word (roots2 t : Nat)) := linkedA_isU (T.chains t ht) (fun r hr => by
    have h1 := T.fine r (mem_chainA hr).1
    have := T.most
    have h3 : alen r.its.length = 24 + 8 * r.its.length := rfl
    omega)
  have hfw := hf t ht
  have hrt := T.rt t ht
  refine ⟨its, ⟨⟨0, k, 2, 2, 0, m, bv, sv, H, hb, T.most, by decide, by decide, hU, hch⟩, by omega, by omega, fun u hu => ?_, ?_, by have := hs2.len; omega⟩, by rw [hs2.len, hLn], ?_⟩
  · have h1 : u.is ∈ (chainA t l).map (·.its) := by rw [← hs2.is]; exact List.mem_map.2 ⟨u, hu, rfl⟩
    obtain ⟨r, hr, e⟩ := List.mem_map.1 h1
    have := (T.fine r (mem_chainA hr).1).1.len
    rw [← e]; omega
  · rw [hs2.is]; exact hLI.places.symm
  · have e1 : (its.map fun u => (u.is.length : Int)) = (chainA t l).map fun r => (r.its.length : Int) := by
      have := congrArg (List.map fun z : List Int => (z.length : Int)) hs2.is
      simpa [List.map_map, Function.comp_def] using this
    rw [e1, ← hLn]
    refine List.ext_getElem (by simp) fun j h1 h2 => ?_
    simp at h1
    rw [List.getElem_map, List.getElem_map, List.getElem_range, hLI.sized j _ (List.getElem?_eq_getElem h1)]

def updL (Ls : Nat → List Int) (t : Nat) (L : List Int) : Nat → List Int := fun u => if u = t then L else Ls u
def updN (As : Nat → Nat) (t n : Nat) : Nat → Nat := fun u => if u = t then n else As u

theorem apart_at {lo N : Nat} {roots : Nat → Nat} {b : List Int} {l : List ARow} (T : CB lo roots N b l) {r q : ARow} (hr : r ∈ l) (hq : q ∈ l) (hne : r ≠ q) : r.at_ ≠ q.at_ := fun e => by
  have hrf := T.fine r hr
  have hqf := T.fine q hq
  have h3 : alen r.its.length = 24 + 8 * r.its.length := rfl
  have h4 : alen q.its.length = 24 + 8 * q.its.length := rfl
  rcases apartA_of T.rise hr hq with e3 | h3 | h3
  · exact hne e3
  · omega
  · omega
/-- A place set in the last array of a list: the other arrays are as they were. -/
theorem chain_put {lo N : Nat} {roots : Nat → Nat} {b : List Int} {l : List ARow} (T : CB lo roots N b l) {t : Nat} {c' : List ARow} {q : ARow} (hc : chainA t l = c' ++ [q]) (i : Nat) (x : Int) :
    chainA t (l.map (putA q.at_ i x)) = c' ++ [{ q with its := q.its.set i x }] ∧ ∀ u, u ≠ t → chainA u (l.map (putA q.at_ i x)) = chainA u l := by
  have hq : q ∈ chainA t l := by rw [hc]; simp
  have hql := mem_chainA hq
  have hid : ∀ r ∈ l, r ≠ q → putA q.at_ i x r = r := fun r hr hne => by
    unfold putA; rw [if_neg (apart_at T hr hql.1 hne)]
  refine ⟨?_, fun u hu => ?_⟩
  · rw [chainA_map, hc, List.map_append, List.map_singleton]
    have e1 : putA q.at_ i x q = { q with its := q.its.set i x } := by unfold putA; rw [if_pos rfl]
    rw [e1]
    congr 1
    refine (List.map_congr_left fun r hr => ?_).trans (List.map_id _)
    have hr2 : r ∈ chainA t l := by rw [hc]; simp [hr]
    refine hid r (mem_chainA hr2).1 (fun e => ?_)
    have hp : (chainA t l).Pairwise (fun r r' => r.at_ + alen r.its.length ≤ r'.at_) := T.rise.filter _
    rw [hc, List.pairwise_append] at hp
    have := hp.2.2 r hr q (by simp)
    rw [e] at this
    have h3 : alen q.its.length = 24 + 8 * q.its.length := rfl
    omega
  · rw [chainA_map]
    refine (List.map_congr_left fun r hr => ?_).trans (List.map_id _)
    have hr2 := mem_chainA hr
    exact hid r hr2.1 (fun e => hu (by rw [← hr2.2, e, hql.2]))

/-- What Append tells of such a file, and what it leaves. -/
def CsTold (base : Nat) (S : Nat → Prop) (p lim : Nat) (Ls : Nat → List Int) (As : Nat → Nat) (tl cnt t : Nat) (x : Int) (w : World) (e : Ending) (w' : World) : Prop :=
  (x = 0 ∧ e = .returned (.int .i64 1) ∧ Below w.heap.size w w') ∨
  (¬ x = 0 ∧ (Ls t).length < roomC (As t) ∧ e = .returned (.int .i64 0) ∧ Chg S w w' ∧ CS w' base (grow S w w') p lim (updL Ls t (Ls t ++ [x])) As tl (cnt + 1)) ∨
  (¬ x = 0 ∧ (Ls t).length = roomC (As t) ∧ lim < tl + alen (sizeC (As t)) ∧ e = .returned (.int .i64 21) ∧ Below w.heap.size w w') ∨
  (¬ x = 0 ∧ (Ls t).length = roomC (As t) ∧ tl + alen (sizeC (As t)) ≤ lim ∧ e = .returned (.int .i64 0) ∧ Chg S w w' ∧ CS w' base (grow S w w') p lim (updL Ls t (Ls t ++ [x])) (updN As t (As t + 1)) (tl + alen (sizeC (As t))) (cnt + 1))

end

end Go.Proofs.Ytknimfnjmhmamaa

/-
  A FILE OF DATA: what package chain's Append does to the list of a datum.
-/
set_option linter.unusedVariables false
set_option maxRecDepth 100000
set_option linter.unusedSimpArgs false
namespace Go.Proofs.Ytknimfnjmhmamaa
open Go.RowKit Go.Shelf

theorem roomC_ge : ∀ n, n ≤ roomC n
  | 0 => Nat.le_refl _
  | n + 1 => by have h1 := roomC_ge n; have h2 := sizeC_bd n; show n + 1 ≤ roomC n + sizeC n; omega
theorem LI.few {c : List ARow} {L : List Int} (h : LI c L) : c.length ≤ L.length := by
  by_cases h0 : 0 < c.length
  · have h1 := h.last h0
    have h2 := roomC_ge (c.length - 1)
    omega
  · omega
theorem filter_k3 {f : GO → GO} (hk : ∀ r, (f r).k = r.k) : ∀ {L : List GO}, (∀ r ∈ L, r.k = 3 → f r = r) → (L.map f).filter (fun r => r.k == 3) = L.filter (fun r => r.k == 3)
  | [], _ => rfl
  | r :: L, h => by
    have ih := filter_k3 hk (L := L) fun q hq => h q (by simp [hq])
    by_cases e : r.k = 3
    · rw [List.map_cons, List.filter_cons_of_pos (by rw [hk, e]; decide), List.filter_cons_of_pos (by rw [e]; decide), ih, h r (by simp) e]
    · rw [List.map_cons, List.filter_cons_of_neg (by rw [hk]; simpa using e), List.filter_cons_of_neg (by simpa using e), ih]
theorem lkI_map (root : Nat) (L : List GO) : lkI root (L.map GO.it) = lkG root 0 L := by
  unfold lkI lkG
  rw [List.getLast?_map]
  cases L.getLast? <;> rfl
theorem same2_G (L : List GO) : Same2 (L.map GO.it) (L.map GO.arow) := by
  unfold Same2
  rw [List.map_map, List.map_map]
  rfl

section
variable {fld : List Int → List Int} {base p : Nat} {S : Nat → Prop} {i k d f h : Int} {m : IM} {bv sv : Value} {ex : Nat} {l : List GO} {w : World}

/-- A list, as chain's contracts want it. -/
theorem DB.listAt (D : DB fld k d f 0 ex m.b l) (H : IX w base S p i k d f h m bv sv) (hb : AreB m.b) {rt : Nat} (hp : ArRoot l rt) {Ld : List Int} (hLI : LI ((arrsG l rt).map GO.arow) Ld) (hmost : Ld.length ≤ 1000000000) :
    ListAt w base p S (rt : Int) ((arrsG l rt).map GO.it) Ld := by
  have h0 := newK_low d f D.hD D.hF
  have hc := D.arrs rt hp
  have hfit := (D.gb.root_fit (D.ar_root hp)).1
  have hm := D.gb.most
  have hfew := hLI.few
  rw [List.length_map] at hfew
  refine ⟨⟨i, k, d, f, h, m, bv, sv, H, hb, D.gb.most, D.hD, D.hF, hc.isU D.gb, hc.follow (newK_val D.hD D.hF).symm h0.2 D.gb (fun r _ hp => (pArr_iff.1 hp).1.1)⟩, by omega, by omega, fun t ht => ?_, ?_, hmost, by rw [List.length_map]; omega⟩
  · obtain ⟨r, hr, rfl⟩ := List.mem_map.1 ht
    have hr2 := arrsG_mem hr
    have := ((D.gb.fine r hr2.1).1.arr hr2.2.1).2.2.1
    show r.its.length ≤ _
    omega
  · rw [← hLI.places, (same2_G _).is]; rfl

/-- WHAT Append LEAVES: a place more in the list whose root is rt, all else as it was. -/
structure Appended (fld : List Int → List Int) (k d f : Int) (ex : Nat) (m m' : IM) (l l' : List GO) (rt : Nat) (Ld : List Int) (x : Int) : Prop where
  db : DB fld k d f 0 ex m'.b l'
  by_ : AreB m'.b
  lim : m'.lim = m.lim
  was : m'.was = m.was
  words : m'.words.length ≤ m.words.length + 1
  most : m'.b.length ≤ m.b.length + 8216
  least : m.b.length ≤ m'.b.length
  here : LI ((arrsG l' rt).map GO.arow) (Ld ++ [x])
  far : ∀ p', p' ≠ rt → (arrsG l' p').map GO.arow = (arrsG l p').map GO.arow
  dat : ∃ g : GO → GO, datG l' = (datG l).map g ∧ ∀ o ∈ datG l, (g o).raw = o.raw ∧ (g o).at_ = o.at_ ∧ (g o).ws.getD 3 0 = o.ws.getD 3 0
  ent : l'.filter (fun r => r.k == 3) = l.filter (fun r => r.k == 3)

/-- THE ROWS behind Append: those of the datum whose list it is have one more; if it is no datum's (the list of all entries), none has. -/
theorem Rows.app {m' : IM} {l' : List GO} {R R' : List DR} {rt : Nat} {Ld : List Int} {x : Int} (h : Rows l R) (hLI : LI ((arrsG l rt).map GO.arow) Ld) (A : Appended fld k d f ex m m' l l' rt Ld x) (hlen : R'.length = R.length)
    (hrow : ∀ (j : Nat) (o : GO) (r r' : DR), (datG l)[j]? = some o → R[j]? = some r → R'[j]? = some r' → r'.item = r.item ∧ r'.at_ = r.at_ ∧ ((o.at_ + 48 ≠ rt ∧ r'.L = r.L) ∨ (o.at_ + 48 = rt ∧ r.L ≠ [] ∧ r'.L = r.L ++ [x]))) : Rows l' R' := by
  obtain ⟨g, hg, hgo⟩ := A.dat
  refine ⟨by rw [hg, List.length_map, h.len, hlen], fun j o' r' ho' hr' => ?_⟩
  rw [hg, List.getElem?_map] at ho'
  have hj := (List.getElem?_eq_some_iff.1 hr').1
  obtain ⟨r, hr⟩ : ∃ r, R[j]? = some r := ⟨_, List.getElem?_eq_getElem (by omega)⟩
  obtain ⟨o, ho, h1, h2, h3, h4, Le, h5, h6⟩ := h.obj hr
  rw [ho] at ho'
  have e : g o = o' := by simpa using ho'
  subst e
  obtain ⟨b1, b2, b3⟩ := hgo o (datG_mem.2 ⟨h1, h2⟩)
  obtain ⟨c1, c2, c3⟩ := hrow j o r r' ho hr hr'
  refine ⟨by rw [b1, h3, c1], by rw [b2, h4, c2], ?_⟩
  rcases c3 with ⟨hne, e⟩ | ⟨he, hnil, e⟩
  · exact ⟨Le, by rw [b2, A.far _ hne]; exact h5, by rw [b3, e]; exact h6⟩
  · subst he
    have e5 : Le = Ld := by rw [← h5.places, ← hLI.places]
    subst e5
    refine ⟨Le ++ [x], by rw [b2]; exact A.here, .inr ?_⟩
    rw [b3, e]
    rcases h6 with ⟨-, -, e9⟩ | ⟨e8, e9⟩
    · exact absurd e9 hnil
    · exact ⟨e8, by rw [e9]; rfl⟩
end

end Go.Proofs.Ytknimfnjmhmamaa
