/-
  MERGED BY PROGRAM out of the texts EnMath EnState EnPut EnAt EnList EnBack.
-/
import Derived.Test.YtjpfbkhjhainpaaLDa
import Derived.Test.YtjpfbkhjhainpaaLDc
import Derived.Test.YtjpfbkhjhainpaaLDb
import Derived.Test.YtjpfbkhjhainpaaLDd
/-
  LAYER 16, LAID AHEAD: A FILE OF ENTRIES, plain: the file of data (layer 15's), the entries' objects in their order, the list of all; what each step of an Add leaves.
-/
set_option linter.unusedVariables false
set_option maxRecDepth 100000
set_option linter.unusedSimpArgs false
namespace Go.Proofs.Ytjpfbkhjhainpaa
open Go.RowKit Go.Shelf

/-- A FILE OF ENTRIES: R the items' rows, O the entries' objects, Lr the list of all. -/
structure EV (k d f : Int) (b : List Int) (l : List GO) (R : List DR) (O : List GO) (Lr : List Int) : Prop where
  db : DB fldI k d f 0 0 b l
  rows : Rows l R
  ent : l.filter (fun r => r.k == 3) = O
  root : LI ((arrsG l 192).map GO.arow) Lr
  ahead : ∀ o ∈ O, ∀ x ∈ o.its, x < (o.at_ : Int)

section
variable {k d f : Int} {b b' : List Int} {l l' : List GO} {R : List DR} {O : List GO} {Lr : List Int}

theorem EV.kept {R' : List DR} (H : EV k d f b l R O Lr) (hd : DB fldI k d f 0 0 b' l') (hr : Rows l' R') (hk : KeptG l l') : EV k d f b' l' R' O Lr :=
  ⟨hd, hr, hk.ent.trans H.ent, by rw [hk.arr]; exact H.root, H.ahead⟩
/-- An item that came. -/
theorem EV.came {m m' : IM} {zs : List Int} {q c : Nat} (H : EV k d f m.b l R O Lr) (C : Came k d f m l m' l' R zs 0 q c) : EV k d f m'.b l' (R ++ [⟨zs, m.b.length, []⟩]) O Lr :=
  H.kept C.db C.rows C.kept
/-- An entry's object is put. -/
theorem EV.entry (H : EV k d f b l R O Lr) {n : GO} (hn : n.Fine) (hk : n.k = 3) (hat : n.at_ = b.length) (hm : b.length + n.len ≤ 1099511627776) (hah : ∀ x ∈ n.its, x < (n.at_ : Int)) : EV k d f (b ++ n.bs) (l ++ [n]) R (O ++ [n]) Lr := by
  have D1 := H.db.add (ex' := 0) hn hat hm (fun h => by omega) (fun h => by omega) (fun _ => rfl) (fun h => by omega)
  have hnm : n ∈ l ++ [n] := by simp
  refine ⟨D1.free hnm rfl ⟨by omega, by omega⟩ (by omega), H.rows.add_other (by omega) (by omega), ?_, ?_, fun o ho => ?_⟩
  · rw [List.filter_append, H.ent, List.filter_cons_of_pos (by simp [hk]), List.filter_nil]
  · have e : arrsG (l ++ [n]) 192 = arrsG l 192 := by
      unfold arrsG
      rw [List.filter_append, List.filter_cons_of_neg (fun h => by have := (pArr_iff.1 h).1.1; omega), List.filter_nil, List.append_nil]
    rw [e]; exact H.root
  · rcases List.mem_append.1 ho with h | h
    · exact H.ahead o h
    · rw [List.mem_singleton.1 h]; exact hah
/-- A datum's first entry. -/
theorem EV.first {m : IM} (H : EV k d f m.b l R O Lr) {j : Nat} {r : DR} {o : GO} (hr : R[j]? = some r) (ho : (datG l)[j]? = some o) (hL : r.L = []) {x : Int} (hx : IsU x) (hx0 : ¬ x = 0) :
    EV k d f (m.put8 (o.at_ + 40) x).b (l.map (stP (o.at_ + 40) x)) (R.set j { r with L := r.L ++ [x] }) O Lr := by
  obtain ⟨D2, R2⟩ := H.db.firstIM H.rows hr ho hL hx hx0
  obtain ⟨hol, hok⟩ := datG_mem.1 (List.mem_of_getElem? ho)
  have hw : 3 < o.ws.length := by have := (H.db.gb.fine o hol).1.kk.2.1 hok; omega
  refine H.kept D2 (by rw [hL]; exact R2) (KeptG.set H.db.gb (.inr ⟨o, hol, by omega, 3, hw, rfl⟩) x)
/-- An entry more of a datum: Append's. -/
theorem EV.more {m m' : IM} (H : EV k d f m.b l R O Lr) {j : Nat} {r : DR} {o : GO} (hr : R[j]? = some r) (ho : (datG l)[j]? = some o) {y : Int} {Ld : List Int} (hL : r.L = y :: Ld) {x : Int} (hLI : LI ((arrsG l (o.at_ + 48)).map GO.arow) Ld)
    (A : Appended fldI k d f 0 m m' l l' (o.at_ + 48) Ld x) : EV k d f m'.b l' (R.set j { r with L := r.L ++ [x] }) O Lr := by
  have hj := (List.getElem?_eq_some_iff.1 hr).1
  obtain ⟨hol, hok⟩ := datG_mem.1 (List.mem_of_getElem? ho)
  have h0 := newK_low d f H.db.hD H.db.hF
  have hlo := (H.db.gb.fine o hol).2.1
  refine ⟨A.db, ?_, A.ent.trans H.ent, by rw [A.far 192 (by omega)]; exact H.root, H.ahead⟩
  refine H.rows.app hLI A (List.length_set ..) (fun i o' s s' ho' hs hs' => ?_)
  by_cases e : i = j
  · subst e
    have e1 : s = r := by rw [hr] at hs; exact (by simpa using hs.symm)
    have e2 : o' = o := by rw [ho] at ho'; exact (by simpa using ho'.symm)
    subst e1
    subst e2
    rw [List.getElem?_set_self hj] at hs'
    have e3 : ({ s with L := s.L ++ [x] } : DR) = s' := by simpa using hs'
    subst e3
    exact ⟨rfl, rfl, .inr ⟨rfl, by rw [hL]; simp, rfl⟩⟩
  · rw [List.getElem?_set_ne (fun e' => e e'.symm)] at hs'
    have e3 : s = s' := by rw [hs] at hs'; simpa using hs'
    subst e3
    refine ⟨rfl, rfl, .inl ⟨fun e9 => ?_, rfl⟩⟩
    have hp : (datG l).Pairwise (fun r r' => r.at_ + r.len ≤ r'.at_) := H.db.gb.rise.filter _
    obtain ⟨hi1, hi2⟩ := List.getElem?_eq_some_iff.1 ho'
    obtain ⟨hj1, hj2⟩ := List.getElem?_eq_some_iff.1 ho
    have hpw := List.pairwise_iff_getElem.1 hp
    have hfo := (H.db.gb.fine o' (datG_mem.1 (List.mem_of_getElem? ho')).1).1.front
    have hfo2 := (H.db.gb.fine o hol).1.front
    rcases Nat.lt_or_ge i j with h1 | h1
    · have := hpw i j hi1 hj1 h1; rw [hi2, hj2] at this; omega
    · have := hpw j i hj1 hi1 (by omega); rw [hi2, hj2] at this; omega
/-- A place more in the list of all. -/
theorem EV.listed {m m' : IM} (H : EV k d f m.b l R O Lr) {x : Int} (A : Appended fldI k d f 0 m m' l l' 192 Lr x) : EV k d f m'.b l' R O (Lr ++ [x]) := by
  have h0 := newK_low d f H.db.hD H.db.hF
  refine ⟨A.db, ?_, A.ent.trans H.ent, A.here, H.ahead⟩
  refine H.rows.app H.root A rfl (fun i o r r' ho hr hr' => ?_)
  have e : r = r' := by rw [hr] at hr'; simpa using hr'
  subst e
  obtain ⟨hol, hok⟩ := datG_mem.1 (List.mem_of_getElem? ho)
  have hlo := (H.db.gb.fine o hol).2.1
  exact ⟨rfl, rfl, .inl ⟨by omega, rfl⟩⟩
theorem EV.nothing (hD : 1 ≤ d ∧ d ≤ 256) (hF : 1 ≤ f ∧ f ≤ 256) (hdb : DB fldI k d f 0 0 b []) : EV k d f b [] [] [] [] :=
  ⟨hdb, Rows.nothing, rfl, LI.nil_, by simp⟩
end

end Go.Proofs.Ytjpfbkhjhainpaa

/-
  LAYER 16, LAID AHEAD: A FILE OF ENTRIES IN MEMORY, as a call and a statement hold it: Intern, Refer, Append to the list of all, each with what it leaves where there is no room; Done, Back.
-/
set_option linter.unusedVariables false
set_option maxRecDepth 100000
set_option linter.unusedSimpArgs false
namespace Go.Proofs.Ytjpfbkhjhainpaa
open Go.RowKit Go.Shelf

section
variable {k d f : Int} {w w' : World} {base : Nat} {S : Nat → Prop} {p lim : Nat} {was : List Int} {R : List DR} {O : List GO} {Lr : List Int} {tl cnt : Nat}

end

end Go.Proofs.Ytjpfbkhjhainpaa

/-
  LAYER 16, LAID AHEAD: image's Put of an entry's object, in a file of entries.
-/
set_option linter.unusedVariables false
set_option maxRecDepth 100000
set_option linter.unusedSimpArgs false
namespace Go.Proofs.Ytjpfbkhjhainpaa
open Go.RowKit Go.Shelf

section
variable {k d f : Int} {w w' : World} {base : Nat} {S : Nat → Prop} {p lim : Nat} {was : List Int} {R : List DR} {O : List GO} {Lr : List Int} {tl cnt : Nat}

end

end Go.Proofs.Ytjpfbkhjhainpaa

/-
  LAYER 16, LAID AHEAD: what image's At tells of an entry, and of a datum, in a file of entries.
-/
set_option linter.unusedVariables false
set_option maxRecDepth 100000
set_option linter.unusedSimpArgs false
namespace Go.Proofs.Ytjpfbkhjhainpaa
open Go.RowKit Go.Shelf

section
variable {k d f : Int} {w w' : World} {base : Nat} {S : Nat → Prop} {p lim : Nat} {was : List Int} {R : List DR} {O : List GO} {Lr : List Int} {tl cnt : Nat}

end

end Go.Proofs.Ytjpfbkhjhainpaa

/-
  LAYER 16, LAID AHEAD, plain: the entries of a file beside the document's: of each item the entries that have it are those whose items have it (P16.4).
-/
set_option linter.unusedVariables false
set_option maxRecDepth 100000
set_option linter.unusedSimpArgs false
namespace Go.Proofs.Ytjpfbkhjhainpaa
open Go.RowKit Go.Shelf

theorem Rows.nodup {fld : List Int → List Int} {k d f : Int} {nl ex : Nat} {b : List Int} {l : List GO} {R : List DR} (D : DB fld k d f nl ex b l) (h : Rows l R) : (R.map (·.item)).Nodup := by
  have e : R.map (·.item) = (datG l).map (·.raw) := by
    have h9 := congrArg (List.map Prod.fst) h.raws
    rw [List.map_map, List.map_map] at h9
    exact h9.symm
  rw [e, List.nodup_iff_pairwise_ne, List.pairwise_map]
  refine (D.gb.rise.filter _).imp_of_mem ?_
  intro r q hr hq hlt he
  obtain ⟨h1, h2⟩ := datG_mem.1 hr
  obtain ⟨h3, h4⟩ := datG_mem.1 hq
  have h5 := D.uniq r h1 q h3 (h2.trans h4.symm) (.inl h2) he
  subst h5
  have := (D.gb.fine r h1).1.front
  omega

/-- The item z is in one entry more. -/
def pushD (R : List DR) (z : List Int) (x : Int) : List DR := R.map fun r => if r.item = z then { r with L := r.L ++ [x] } else r
theorem pushD_items (R : List DR) (z : List Int) (x : Int) : (pushD R z x).map (·.item) = R.map (·.item) := by
  unfold pushD
  rw [List.map_map]
  refine List.map_congr_left fun r _ => ?_
  show (if r.item = z then _ else r : DR).item = _
  split <;> rfl
theorem findD_map {R : List DR} {g : DR → DR} (hg : ∀ r, (g r).item = r.item ∧ (g r).at_ = r.at_) (y : List Int) : findD (R.map g) y = findD R y := by
  unfold findD
  rw [List.find?_map, Option.map_map]
  have e : ((fun r : DR => r.item == y) ∘ g) = fun r => r.item == y := by funext r; show ((g r).item == y) = _; rw [(hg r).1]
  rw [e]
  congr 1
  funext r
  exact (hg r).2
theorem findD_pushD (R : List DR) (z y : List Int) (x : Int) : findD (pushD R z x) y = findD R y := findD_map (fun r => by split <;> exact ⟨rfl, rfl⟩) y
theorem set_pushD {R : List DR} (hn : (R.map (·.item)).Nodup) {j : Nat} {r : DR} (hr : R[j]? = some r) (x : Int) : R.set j { r with L := r.L ++ [x] } = pushD R r.item x := by
  obtain ⟨hj, he⟩ := List.getElem?_eq_some_iff.1 hr
  refine List.ext_getElem? fun i => ?_
  unfold pushD
  rw [List.getElem?_map]
  by_cases e : j = i
  · subst e
    rw [List.getElem?_set_self hj, hr]
    simp
  · rw [List.getElem?_set_ne e]
    cases hi : R[i]? with
    | none => rfl
    | some q =>
      have h9 : ¬ q.item = r.item := fun h9 => by
        obtain ⟨hi1, hi2⟩ := List.getElem?_eq_some_iff.1 hi
        rw [List.nodup_iff_pairwise_ne, List.pairwise_iff_getElem] at hn
        rcases Nat.lt_or_gt_of_ne e with h | h
        · have := hn j i (by simpa using hj) (by simpa using hi1) h
          rw [List.getElem_map, List.getElem_map, he, hi2] at this
          exact this h9.symm
        · have := hn i j (by simpa using hi1) (by simpa using hj) h
          rw [List.getElem_map, List.getElem_map, he, hi2] at this
          exact this h9
      show some q = some (if q.item = r.item then _ else q)
      rw [if_neg h9]
def pushAll (R : List DR) (zs : List (List Int)) (x : Int) : List DR := zs.foldl (fun R z => pushD R z x) R
theorem pushAll_snoc (R : List DR) (zs : List (List Int)) (z : List Int) (x : Int) : pushAll R (zs ++ [z]) x = pushD (pushAll R zs x) z x := by unfold pushAll; rw [List.foldl_append]; rfl
theorem pushAll_items (x : Int) : ∀ (zs : List (List Int)) (R : List DR), (pushAll R zs x).map (·.item) = R.map (·.item)
  | [], R => rfl
  | z :: zs, R => (pushAll_items x zs (pushD R z x)).trans (pushD_items R z x)
theorem findD_pushAll (x : Int) (y : List Int) : ∀ (zs : List (List Int)) (R : List DR), findD (pushAll R zs x) y = findD R y
  | [], R => rfl
  | z :: zs, R => (findD_pushAll x y zs (pushD R z x)).trans (findD_pushD R z y x)
theorem pushAll_eq (x : Int) : ∀ (zs : List (List Int)) (R : List DR), zs.Nodup → pushAll R zs x = R.map fun r => if r.item ∈ zs then { r with L := r.L ++ [x] } else r
  | [], R, _ => by
    show R = _
    have e : (fun r : DR => if r.item ∈ ([] : List (List Int)) then ({ r with L := r.L ++ [x] } : DR) else r) = id := by funext r; simp
    rw [e, List.map_id]
  | z :: zs, R, h => by
    rw [List.nodup_cons] at h
    show pushAll (pushD R z x) zs x = _
    rw [pushAll_eq x zs _ h.2]
    unfold pushD
    rw [List.map_map]
    refine List.map_congr_left fun r _ => ?_
    show (if (if r.item = z then ({ r with L := r.L ++ [x] } : DR) else r).item ∈ zs then _ else _) = _
    by_cases e : r.item = z
    · simp [e, h.1]
    · by_cases e2 : r.item ∈ zs <;> simp [e, e2]
theorem findD_at {R : List DR} {z : List Int} {a : Nat} (h : findD R z = some a) : ∃ (j : Nat) (r : DR), R[j]? = some r ∧ r.item = z ∧ r.at_ = a := by
  unfold findD at h
  obtain ⟨r, h1, h2⟩ := Option.map_eq_some_iff.1 h
  obtain ⟨j, hj⟩ := List.getElem?_of_mem (List.mem_of_find?_eq_some h1)
  exact ⟨j, r, hj, by have := List.find?_some h1; simpa using this, h2⟩

/-- THE ENTRIES of a file: E, of each its items. -/
structure EL (R : List DR) (O : List GO) (Lr : List Int) (E : List (List (List Int))) : Prop where
  lr : Lr = O.map fun o => (o.at_ : Int)
  its : O.map (·.its) = E.map fun zs => zs.map fun z => (((findD R z).getD 0 : Nat) : Int)
  known : ∀ zs ∈ E, ∀ z ∈ zs, (findD R z).isSome = true
  have_ : ∀ r ∈ R, r.L = ((O.zip E).filter fun x => decide (r.item ∈ x.2)).map fun x => (x.1.at_ : Int)
theorem EL.len {R : List DR} {O : List GO} {Lr : List Int} {E : List (List (List Int))} (H : EL R O Lr E) : O.length = E.length := by have := congrArg List.length H.its; simpa using this
theorem EL.nothing : EL [] [] [] [] := ⟨rfl, rfl, (fun zs h => by cases h), (fun r h => by cases h)⟩
theorem findD_insD {R : List DR} {z y : List Int} {a b : Nat} (h : findD R y = some b) : findD (insD R z a) y = some b := by
  unfold insD
  split
  · exact h
  · unfold findD at h ⊢
    obtain ⟨r, h1, h2⟩ := Option.map_eq_some_iff.1 h
    rw [List.find?_append, h1]
    exact congrArg some h2
/-- An item that is there from now on. -/
theorem EL.ins {R : List DR} {O : List GO} {Lr : List Int} {E : List (List (List Int))} (H : EL R O Lr E) (z : List Int) (a : Nat) : EL (insD R z a) O Lr E := by
  have hf : ∀ zs ∈ E, ∀ y ∈ zs, findD (insD R z a) y = findD R y := fun zs hz y hy => by
    obtain ⟨b, hb⟩ := Option.isSome_iff_exists.1 (H.known zs hz y hy)
    rw [hb]; exact findD_insD hb
  refine ⟨H.lr, ?_, fun zs hz y hy => by rw [hf zs hz y hy]; exact H.known zs hz y hy, fun r hr => ?_⟩
  · rw [H.its]
    refine List.map_congr_left fun zs hz => List.map_congr_left fun y hy => ?_
    rw [hf zs hz y hy]
  · unfold insD at hr
    split at hr
    · exact H.have_ r hr
    · rename_i hn
      rcases List.mem_append.1 hr with h | h
      · exact H.have_ r h
      · rw [List.mem_singleton.1 h]
        show ([] : List Int) = _
        rw [List.filter_eq_nil_iff.2, List.map_nil]
        intro x hx h9
        have hm := (List.of_mem_zip hx).2
        have := H.known x.2 hm z (of_decide_eq_true h9)
        rw [hn] at this
        cases this
/-- An entry more. -/
theorem EL.add {R : List DR} {O : List GO} {Lr : List Int} {E : List (List (List Int))} (H : EL R O Lr E) {zs : List (List Int)} (hz : zs.Nodup) (hk : ∀ z ∈ zs, (findD R z).isSome = true) {o : GO} (ho : o.its = zs.map fun z => (((findD R z).getD 0 : Nat) : Int)) :
    EL (pushAll R zs (o.at_ : Nat)) (O ++ [o]) (Lr ++ [((o.at_ : Nat) : Int)]) (E ++ [zs]) := by
  have hl := H.len
  refine ⟨by rw [H.lr, List.map_append]; rfl, ?_, fun ys hy z hz' => ?_, fun r hr => ?_⟩
  · have e : (fun ys : List (List Int) => ys.map fun z => (((findD (pushAll R zs (o.at_ : Nat)) z).getD 0 : Nat) : Int)) = fun ys => ys.map fun z => (((findD R z).getD 0 : Nat) : Int) := by
      funext ys; simp only [findD_pushAll]
    rw [e, List.map_append, List.map_append, H.its]
    congr 1
    show [o.its] = _
    rw [ho]; rfl
  · rw [findD_pushAll]
    rcases List.mem_append.1 hy with h | h
    · exact H.known ys h z hz'
    · rw [List.mem_singleton.1 h] at hz'; exact hk z hz'
  · rw [pushAll_eq _ _ _ hz] at hr
    obtain ⟨q, hq, rfl⟩ := List.mem_map.1 hr
    have h9 := H.have_ q hq
    rw [List.zip_append hl, List.filter_append, List.map_append]
    by_cases e : q.item ∈ zs
    · rw [if_pos e]
      show q.L ++ [_] = _
      rw [h9]
      congr 1
      show _ = ((([(o, zs)] : List (GO × List (List Int))).filter _).map _)
      rw [List.filter_cons_of_pos (by show decide (q.item ∈ zs) = true; exact decide_eq_true e)]
      rfl
    · rw [if_neg e]
      have e2 : (([o].zip [zs]).filter fun x => decide (q.item ∈ x.2)) = [] := by
        show (([(o, zs)] : List (GO × List (List Int))).filter _) = []
        rw [List.filter_cons_of_neg (by show ¬ decide (q.item ∈ zs) = true; simpa using e)]
        rfl
      rw [e2, List.map_nil, List.append_nil]
      exact h9

end Go.Proofs.Ytjpfbkhjhainpaa

/-
  LAYER 16, LAID AHEAD: Done and Back of a file of entries.
-/
set_option linter.unusedVariables false
set_option maxRecDepth 100000
set_option linter.unusedSimpArgs false
namespace Go.Proofs.Ytjpfbkhjhainpaa
open Go.RowKit Go.Shelf

/-- What a file was: what is taken back to. -/
structure Old (k d f : Int) (was : List Int) (R : List DR) (O : List GO) (Lr : List Int) : Prop where
  ex : ∃ l, EV k d f was l R O Lr
  by_ : AreB was

section
variable {k d f : Int} {w w' : World} {base : Nat} {S : Nat → Prop} {p lim : Nat} {was : List Int} {R : List DR} {O : List GO} {Lr : List Int} {tl cnt : Nat}

end

end Go.Proofs.Ytjpfbkhjhainpaa
