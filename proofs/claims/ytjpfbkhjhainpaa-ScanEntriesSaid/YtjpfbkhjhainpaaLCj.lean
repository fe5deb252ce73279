/-
  MERGED BY PROGRAM out of the texts ChAppend ChState GApp.
-/
import Derived.Test.YtjpfbkhjhainpaaLCi
import Derived.Test.YtjpfbkhjhainpaaLGm
/-
  LAYER 14: WHAT Append DOES, of any list of a file whose next place is free.
-/
set_option linter.unusedVariables false
set_option maxRecDepth 100000
set_option linter.unusedSimpArgs false
namespace Go.Proofs.Ytjpfbkhjhainpaa
open Go.RowKit Go.Shelf
attribute [local go_sem] Oper.semAt_some

/-- The word that is to lead on. -/
def lkI (root : Nat) (its : List It) : Nat := match its.getLast? with
  | none => root
  | some t => t.j + 16
def FullI (its : List It) : Prop := ∀ t, its.getLast? = some t → (placesA t.is).length = t.is.length
def newA (n : Nat) (x : Int) : List Int := x :: List.replicate (sizeC n - 1) 0

section
variable {base p : Nat} {S : Nat → Prop} {i k d f h : Int} {m : IM} {bv sv : Value} {its : List It} {L : List Int}

theorem chg_keepD {w W5 W6 : World} {D : Nat} {o : Obj} (hf : ∀ j, S j → base ≤ j ∧ j < w.heap.size) (hD : w.heap.size ≤ D) (hK : W5.heap[D]? = some o) (hc : Chg S W5 W6) : W6.heap[D]? = some o :=
  (hc.block D (Array.getElem?_eq_some_iff.1 hK).1 (fun e => by have := (hf _ e).2; omega)).trans hK

/-- A region that goes on. -/
def OnNorm (R : Act → World → Prop) : Exit → Act → World → Prop
  | .normal, a, w => R a w
  | .ret, _, _ => False
  | .exit _, _, _ => False
  | .goto _, _, _ => False
  | .panic _, _, _ => False
  | .outgrown, _, _ => False
/-- An array made in memory: its word, its places, itself. -/
structure Arr3 (W W' : World) (Zw Zi : Array Value) (K gw gi gb : Nat) : Prop where
  bel : Below W.heap.size W W'
  lw : W.heap.size ≤ gw
  li : W.heap.size ≤ gi
  lb : W.heap.size ≤ gb
  n1 : gw ≠ gi
  n2 : gw ≠ gb
  n3 : gi ≠ gb
  zw : Blk W' gw 47 Zw
  zi : Blk W' gi 47 Zi
  zb : Blk W' gb 42 #[.int .i64 4, .slice (some ⟨gw, 0, none⟩) 1 1, .slice none 0 0, .slice (some ⟨gi, 0, none⟩) K K]
theorem three_blocks (W : World) (Za Zb Zc : Array Value) (ta tb tc : TypeId) : Below W.heap.size W (((W.alloc (.cells Za ta)).alloc (.cells Zb tb)).alloc (.cells Zc tc)).drew ∧ Blk (((W.alloc (.cells Za ta)).alloc (.cells Zb tb)).alloc (.cells Zc tc)).drew W.heap.size ta Za ∧
    Blk (((W.alloc (.cells Za ta)).alloc (.cells Zb tb)).alloc (.cells Zc tc)).drew (W.heap.size + 1) tb Zb ∧ Blk (((W.alloc (.cells Za ta)).alloc (.cells Zb tb)).alloc (.cells Zc tc)).drew (W.heap.size + 1 + 1) tc Zc := by
  have h := Blk.new (W.alloc (.cells Za ta)) tb Zb
  have h2 := Blk.new ((W.alloc (.cells Za ta)).alloc (.cells Zb tb)) tc Zc
  rw [World.size_alloc] at h
  rw [World.size_alloc, World.size_alloc] at h2
  exact ⟨((((Below.refl _ W).alloc (Nat.le_refl _) _).alloc (by simp) _).alloc (by simp; omega) _).drew, (((Blk.new W ta Za).alloc _).alloc _).drew, (h.alloc _).drew, h2.drew⟩

/-- What stands in the three variables. -/
def lastC (pre : List Ob) : Array Value := match pre.getLast? with
  | none => #[.int .i64 0, .slice none 0 0, .slice none 0 0, .slice none 0 0]
  | some y => #[.int .i64 4, .slice y.A y.n y.c, .slice y.B y.m y.d, .slice y.C y.p y.q]
def lastP (pre : List Ob) : Nat := match pre.getLast? with
  | none => 0
  | some y => y.t.j
theorem lastC_form (pre : List Ob) : ∃ a b c d, lastC pre = #[a, b, c, d] := by
  unfold lastC
  cases pre.getLast? with
  | none => exact ⟨_, _, _, _, rfl⟩
  | some y => exact ⟨_, _, _, _, rfl⟩
theorem lastC_snoc (pre : List Ob) (y : Ob) : lastC (pre ++ [y]) = #[.int .i64 4, .slice y.A y.n y.c, .slice y.B y.m y.d, .slice y.C y.p y.q] := by simp [lastC]
theorem lastP_snoc (pre : List Ob) (y : Ob) : lastP (pre ++ [y]) = y.t.j := by simp [lastP]

/-- The last one's places lie where they lay. -/
def LastOk (g0 : Nat) (pre : List Ob) (W : World) : Prop := ∀ y, pre.getLast? = some y → Reads W W.heap.size 1 y.C y.p (cellsOf .u64 y.t.is) ∧ (y.p ≤ y.q ∧ y.q ≤ 9223372036854775807) ∧ ∀ ad, y.C = some ad → ¬ three g0 ad.block
theorem LastOk.grown {g0 : Nat} {pre : List Ob} {W W' : World} {row : Option Nat} (h : LastOk g0 pre W) (hg : W.grownBy W' row) (hr : ∀ r, row = some r → ∃ o : Obj, W.heap[r]? = some o ∧ o.isCells = false) : LastOk g0 pre W' := fun y hy =>
  ⟨((h y hy).1.grownF hg hr).upto hg.size, (h y hy).2⟩
theorem LastOk.chg {g0 : Nat} {pre : List Ob} {W W' : World} (h : LastOk g0 pre W) (hc : Chg (three g0) W W') : LastOk g0 pre W' := fun y hy =>
  ⟨((h y hy).1.chg hc (Nat.le_refl _) (fun _ ad e => (h y hy).2.2 ad e)).upto hc.size, (h y hy).2⟩
theorem LastOk.snoc {g0 : Nat} {y : Ob} {W : World} (h : LastOk g0 [y] W) (pre : List Ob) : LastOk g0 (pre ++ [y]) W := fun z hz => h z (by simpa using hz)

end

end Go.Proofs.Ytjpfbkhjhainpaa

/-
  LAYER 14: an image with two lists as the statements hold it; Append to it.
-/
set_option linter.unusedVariables false
set_option maxRecDepth 100000
set_option linter.unusedSimpArgs false
namespace Go.Proofs.Ytjpfbkhjhainpaa
open Go.RowKit Go.Shelf

/-- What is told of a list's arrays, and the arrays. -/
def Same2 (its : List It) (c : List ARow) : Prop := its.map (fun t => (t.j, t.is)) = c.map (fun r => (r.at_, r.its))
theorem Same2.is {its : List It} {c : List ARow} (h : Same2 its c) : its.map (·.is) = c.map (·.its) := by
  have := congrArg (List.map Prod.snd) h
  rw [List.map_map, List.map_map] at this
  exact this
theorem Same2.len {its : List It} {c : List ARow} (h : Same2 its c) : its.length = c.length := by
  have := congrArg List.length h
  simpa using this
theorem Same2.last_none {its : List It} {c : List ARow} (h : Same2 its c) (hn : its.getLast? = none) : c = [] := by
  rw [List.getLast?_eq_none_iff] at hn
  have := h.len
  rw [hn] at this
  exact List.length_eq_zero_iff.1 this.symm
theorem Same2.last_some {its : List It} {c : List ARow} {t : It} (h : Same2 its c) (ht : its.getLast? = some t) : ∃ c' q, c = c' ++ [q] ∧ t.j = q.at_ ∧ t.is = q.its := by
  rcases List.eq_nil_or_concat c with rfl | ⟨c', q, rfl⟩
  · have := h.len
    rw [List.length_nil] at this
    rw [List.length_eq_zero_iff.1 this] at ht; simp at ht
  · refine ⟨c', q, by simp, ?_⟩
    have h1 := congrArg List.getLast? h
    rw [List.getLast?_map, List.getLast?_map, ht] at h1
    simp at h1
    exact h1
theorem lkI_eq {root : Nat} {its : List It} {c : List ARow} (h : Same2 its c) : lkI root its = linkA root c := by
  unfold lkI
  cases hc : its.getLast? with
  | none => rw [h.last_none hc]; rfl
  | some t =>
    obtain ⟨c', q, rfl, e, -⟩ := h.last_some hc
    simp [linkA, e]
/-- What stands in the last array. -/
theorem LI.last_places {c : List ARow} {q : ARow} {L : List Int} (h : LI (c ++ [q]) L) : (placesA q.its).length = L.length - roomC c.length ∧ q.its.length = sizeC c.length ∧ roomC c.length < L.length := by
  obtain ⟨h1, h2, h3, h4⟩ := h.last_at
  refine ⟨?_, h2, h1⟩
  rw [h4, placesA_all (fun x hx => h.nz x (List.mem_of_mem_drop hx)), List.length_drop]
theorem LI.full {c : List ARow} {its : List It} {L : List Int} (h : LI c L) (hs : Same2 its c) (hf : FullI its) : L.length = roomC c.length := by
  rcases List.eq_nil_or_concat c with rfl | ⟨c', q, rfl⟩
  · have := h.most
    simp [roomC] at this
    simp [this, roomC]
  · rw [List.concat_eq_append] at *
    obtain ⟨p1, p2, p3⟩ := h.last_places
    have hl : ∃ t, its.getLast? = some t := by
      cases hc : its.getLast? with
      | none => have := hs.last_none hc; simp at this
      | some t => exact ⟨t, rfl⟩
    obtain ⟨t, ht⟩ := hl
    obtain ⟨c2, q2, e, -, e2⟩ := hs.last_some ht
    have e3 : q2 = q := by
      have := congrArg List.getLast? e
      simpa using this.symm
    subst e3
    have := hf t ht
    rw [e2, p1, p2] at this
    have e5 : roomC (c' ++ [q2]).length = roomC c'.length + sizeC c'.length := by rw [List.length_append]; rfl
    omega

section
variable {w w' : World} {base p : Nat} {S : Nat → Prop} {lim : Nat} {Ls : Nat → List Int} {As : Nat → Nat} {tl cnt : Nat}

def updL (Ls : Nat → List Int) (t : Nat) (L : List Int) : Nat → List Int := fun u => if u = t then L else Ls u
def updN (As : Nat → Nat) (t n : Nat) : Nat → Nat := fun u => if u = t then n else As u

theorem apart_at {lo N : Nat} {roots : Nat → Nat} {b : List Int} {l : List ARow} (T : CB lo roots N b l) {r q : ARow} (hr : r ∈ l) (hq : q ∈ l) (hne : r ≠ q) : r.at_ ≠ q.at_ := fun e => by
  have hrf := T.fine r hr
  have hqf := T.fine q hq
  have h3 : alen r.its.length = 24 + 8 * r.its.length := rfl
  have h4 : alen q.its.length = 24 + 8 * q.its.length := rfl
  rcases apartA_of T.rise hr hq with e3 | h3 | h3
  · exact hne e3
  · omega
  · omega
/-- A place set in the last array of a list: the other arrays are as they were. -/
theorem chain_put {lo N : Nat} {roots : Nat → Nat} {b : List Int} {l : List ARow} (T : CB lo roots N b l) {t : Nat} {c' : List ARow} {q : ARow} (hc : chainA t l = c' ++ [q]) (i : Nat) (x : Int) :
    chainA t (l.map (putA q.at_ i x)) = c' ++ [{ q with its := q.its.set i x }] ∧ ∀ u, u ≠ t → chainA u (l.map (putA q.at_ i x)) = chainA u l := by
  have hq : q ∈ chainA t l := by rw [hc]; simp
  have hql := mem_chainA hq
  have hid : ∀ r ∈ l, r ≠ q → putA q.at_ i x r = r := fun r hr hne => by
    unfold putA; rw [if_neg (apart_at T hr hql.1 hne)]
  refine ⟨?_, fun u hu => ?_⟩
  · rw [chainA_map, hc, List.map_append, List.map_singleton]
    have e1 : putA q.at_ i x q = { q with its := q.its.set i x } := by unfold putA; rw [if_pos rfl]
    rw [e1]
    congr 1
    refine (List.map_congr_left fun r hr => ?_).trans (List.map_id _)
    have hr2 : r ∈ chainA t l := by rw [hc]; simp [hr]
    refine hid r (mem_chainA hr2).1 (fun e => ?_)
    have hp : (chainA t l).Pairwise (fun r r' => r.at_ + alen r.its.length ≤ r'.at_) := T.rise.filter _
    rw [hc, List.pairwise_append] at hp
    have := hp.2.2 r hr q (by simp)
    rw [e] at this
    have h3 : alen q.its.length = 24 + 8 * q.its.length := rfl
    omega
  · rw [chainA_map]
    refine (List.map_congr_left fun r hr => ?_).trans (List.map_id _)
    have hr2 := mem_chainA hr
    exact hid r hr2.1 (fun e => hu (by rw [← hr2.2, e, hql.2]))

end

end Go.Proofs.Ytjpfbkhjhainpaa

/-
  A FILE OF DATA: what package chain's Append does to the list of a datum.
-/
set_option linter.unusedVariables false
set_option maxRecDepth 100000
set_option linter.unusedSimpArgs false
namespace Go.Proofs.Ytjpfbkhjhainpaa
open Go.RowKit Go.Shelf

theorem roomC_ge : ∀ n, n ≤ roomC n
  | 0 => Nat.le_refl _
  | n + 1 => by have h1 := roomC_ge n; have h2 := sizeC_bd n; show n + 1 ≤ roomC n + sizeC n; omega
theorem LI.few {c : List ARow} {L : List Int} (h : LI c L) : c.length ≤ L.length := by
  by_cases h0 : 0 < c.length
  · have h1 := h.last h0
    have h2 := roomC_ge (c.length - 1)
    omega
  · omega
theorem filter_k3 {f : GO → GO} (hk : ∀ r, (f r).k = r.k) : ∀ {L : List GO}, (∀ r ∈ L, r.k = 3 → f r = r) → (L.map f).filter (fun r => r.k == 3) = L.filter (fun r => r.k == 3)
  | [], _ => rfl
  | r :: L, h => by
    have ih := filter_k3 hk (L := L) fun q hq => h q (by simp [hq])
    by_cases e : r.k = 3
    · rw [List.map_cons, List.filter_cons_of_pos (by rw [hk, e]; decide), List.filter_cons_of_pos (by rw [e]; decide), ih, h r (by simp) e]
    · rw [List.map_cons, List.filter_cons_of_neg (by rw [hk]; simpa using e), List.filter_cons_of_neg (by simpa using e), ih]
theorem lkI_map (root : Nat) (L : List GO) : lkI root (L.map GO.it) = lkG root 0 L := by
  unfold lkI lkG
  rw [List.getLast?_map]
  cases L.getLast? <;> rfl
theorem same2_G (L : List GO) : Same2 (L.map GO.it) (L.map GO.arow) := by
  unfold Same2
  rw [List.map_map, List.map_map]
  rfl

section
variable {fld : List Int → List Int} {base p : Nat} {S : Nat → Prop} {i k d f h : Int} {m : IM} {bv sv : Value} {ex : Nat} {l : List GO} {w : World}

/-- WHAT Append LEAVES: a place more in the list whose root is rt, all else as it was. -/
structure Appended (fld : List Int → List Int) (k d f : Int) (ex : Nat) (m m' : IM) (l l' : List GO) (rt : Nat) (Ld : List Int) (x : Int) : Prop where
  db : DB fld k d f 0 ex m'.b l'
  by_ : AreB m'.b
  lim : m'.lim = m.lim
  was : m'.was = m.was
  words : m'.words.length ≤ m.words.length + 1
  most : m'.b.length ≤ m.b.length + 8216
  least : m.b.length ≤ m'.b.length
  here : LI ((arrsG l' rt).map GO.arow) (Ld ++ [x])
  far : ∀ p', p' ≠ rt → (arrsG l' p').map GO.arow = (arrsG l p').map GO.arow
  dat : ∃ g : GO → GO, datG l' = (datG l).map g ∧ ∀ o ∈ datG l, (g o).raw = o.raw ∧ (g o).at_ = o.at_ ∧ (g o).ws.getD 3 0 = o.ws.getD 3 0
  ent : l'.filter (fun r => r.k == 3) = l.filter (fun r => r.k == 3)
  good : m.Good → m'.Good

/-- THE ROWS behind Append: those of the datum whose list it is have one more; if it is no datum's (the list of all entries), none has. -/
theorem Rows.app {m' : IM} {l' : List GO} {R R' : List DR} {rt : Nat} {Ld : List Int} {x : Int} (h : Rows l R) (hLI : LI ((arrsG l rt).map GO.arow) Ld) (A : Appended fld k d f ex m m' l l' rt Ld x) (hlen : R'.length = R.length)
    (hrow : ∀ (j : Nat) (o : GO) (r r' : DR), (datG l)[j]? = some o → R[j]? = some r → R'[j]? = some r' → r'.item = r.item ∧ r'.at_ = r.at_ ∧ ((o.at_ + 48 ≠ rt ∧ r'.L = r.L) ∨ (o.at_ + 48 = rt ∧ r.L ≠ [] ∧ r'.L = r.L ++ [x]))) : Rows l' R' := by
  obtain ⟨g, hg, hgo⟩ := A.dat
  refine ⟨by rw [hg, List.length_map, h.len, hlen], fun j o' r' ho' hr' => ?_⟩
  rw [hg, List.getElem?_map] at ho'
  have hj := (List.getElem?_eq_some_iff.1 hr').1
  obtain ⟨r, hr⟩ : ∃ r, R[j]? = some r := ⟨_, List.getElem?_eq_getElem (by omega)⟩
  obtain ⟨o, ho, h1, h2, h3, h4, Le, h5, h6⟩ := h.obj hr
  rw [ho] at ho'
  have e : g o = o' := by simpa using ho'
  subst e
  obtain ⟨b1, b2, b3⟩ := hgo o (datG_mem.2 ⟨h1, h2⟩)
  obtain ⟨c1, c2, c3⟩ := hrow j o r r' ho hr hr'
  refine ⟨by rw [b1, h3, c1], by rw [b2, h4, c2], ?_⟩
  rcases c3 with ⟨hne, e⟩ | ⟨he, hnil, e⟩
  · exact ⟨Le, by rw [b2, A.far _ hne]; exact h5, by rw [b3, e]; exact h6⟩
  · subst he
    have e5 : Le = Ld := by rw [← h5.places, ← hLI.places]
    subst e5
    refine ⟨Le ++ [x], by rw [b2]; exact A.here, .inr ?_⟩
    rw [b3, e]
    rcases h6 with ⟨-, -, e9⟩ | ⟨e8, e9⟩
    · exact absurd e9 hnil
    · exact ⟨e8, by rw [e9]; rfl⟩
end

end Go.Proofs.Ytjpfbkhjhainpaa
