import Derived.Test.YtaeegcohimflbaaGreatLOc
set_option linter.unusedVariables false
set_option maxRecDepth 100000
set_option linter.unusedSimpArgs false
namespace Go.Proofs.YtaeegcohimflbaaGreat
open Go.RowKit
structure SR where
 j : Nat
 k : Nat
 s : Nat
def SR.fin (r : SR) : Nat := r.j + (r.s + padn r.s 8)
structure SR.Is (zs : List Int) (r : SR) : Prop where
 at_ : DecAt zs r.j r.k r.s
 dec : decB zs r.j r.k r.s = true
def noOb (zs : List Int) (pl : Int) : Prop := ∀ j k s : Nat, pl = j -> DecAt zs j k s -> decB zs j k s = false
def scanAt (zs : List Int) : Int -> List SR -> Prop
 | pl, [] => noOb zs pl
 | pl, r :: l => pl = r.j /\ r.Is zs /\ scanAt zs r.fin l
def lastE : Int -> List SR -> Int
 | pl, [] => pl
 | _, r :: l => lastE r.fin l
theorem lastE_snoc (r : SR) : ∀ (l : List SR) (pl : Int), lastE pl (l ++ [r]) = r.fin
 | [], _ => rfl
 | q :: l, _ => lastE_snoc r l q.fin
theorem SR.Is.parts {zs : List Int} {r : SR} (h : r.Is zs) : mayB r.k r.s = true /\ r.fin <= zs.length := by
 have h1 := h.dec
 unfold decB at h1
 simp only [Bool.and_eq_true, decide_eq_true_eq] at h1
 exact ⟨h1.1.1, by unfold SR.fin; omega⟩
theorem SR.Is.room {zs : List Int} {r : SR} (h : r.Is zs) : r.j + 16 <= r.fin /\ r.fin <= zs.length /\ r.j + r.s <= r.fin /\ r.j + r.s <= zs.length := by
 have h1 := h.parts
 have h2 := (right_may h.at_ h1.1).2.1
 unfold frontN at h2
 unfold SR.fin at h1 ⊢
 omega
theorem SR.Is.kind {zs : List Int} {r : SR} (h : r.Is zs) : 1 <= r.k /\ r.k <= 4 := ⟨may_one h.parts.1, h.at_.kk⟩
theorem SR.Is.same {zs : List Int} {r q : SR} (h : r.Is zs) (g : q.Is zs) (e : r.j = q.j) : r = q := by
 obtain ⟨j, k, s⟩ := r
 obtain ⟨j', k', s'⟩ := q
 have e1 : j = j' := e
 subst e1
 have h1 : lev ((zs.drop j).take 8) = (k : Int) := h.at_.kd
 have h2 : lev ((zs.drop (j + 8)).take 8) = (s : Int) := h.at_.sd
 have h3 : lev ((zs.drop j).take 8) = (k' : Int) := g.at_.kd
 have h4 : lev ((zs.drop (j + 8)).take 8) = (s' : Int) := g.at_.sd
 have e2 : k = k' := by omega
 have e3 : s = s' := by omega
 subst e2; subst e3; rfl
theorem noOb_not {zs : List Int} {pl : Int} (h : ¬ ∃ r : SR, pl = r.j /\ r.Is zs) : noOb zs pl := fun j k s e hd => by
 cases hb : decB zs j k s
 · rfl
 · exact absurd ⟨⟨j, k, s⟩, e, hd, hb⟩ h
theorem noOb.not {zs : List Int} {pl : Int} (h : noOb zs pl) {r : SR} (e : pl = r.j) : ¬ r.Is zs := fun hr => by
 have := h r.j r.k r.s e hr.at_
 rw [hr.dec] at this; cases this
theorem scan_exN (zs : List Int) : ∀ (n : Nat) (pl : Int), zs.length <= pl.toNat + n -> ∃ l, scanAt zs pl l := by
 intro n
 induction n with
 | zero =>
   intro pl hn
   refine ⟨[], noOb_not fun ⟨r, e, hr⟩ => ?_⟩
   have := hr.room; omega
 | succ n ih =>
   intro pl hn
   by_cases h : ∃ r : SR, pl = r.j /\ r.Is zs
   · obtain ⟨r, e, hr⟩ := h
     obtain ⟨l, hl⟩ := ih (r.fin : Int) (by have := hr.room; omega)
     exact ⟨r :: l, e, hr, hl⟩
   · exact ⟨[], noOb_not h⟩
theorem scan_ex (zs : List Int) (pl : Int) : ∃ l, scanAt zs pl l := scan_exN zs zs.length pl (by omega)
theorem scanAt.short {zs : List Int} : ∀ {l : List SR} {pl : Int}, scanAt zs pl l -> 16 * l.length <= zs.length /\ (l ≠ [] -> pl + 16 * l.length <= zs.length)
 | [], _, _ => ⟨by simp, fun h => absurd rfl h⟩
 | r :: l, pl, ⟨e, hr, hl⟩ => by
   have h1 := hl.short
   have h2 := hr.room
   rw [List.length_cons]
   by_cases h : l = []
   · subst h; simp; omega
   · have := h1.2 h; refine ⟨by omega, fun _ => by omega⟩
theorem scanAt.mem {zs : List Int} : ∀ {l : List SR} {pl : Int}, scanAt zs pl l -> ∀ r ∈ l, r.Is zs
 | [], _, _, r, h => by cases h
 | q :: l, pl, ⟨e, hr, hl⟩, r, h => by
   rcases List.mem_cons.1 h with rfl | h
   · exact hr
   · exact hl.mem r h
theorem scanAt.last {zs : List Int} : ∀ {l : List SR} {pl : Int}, scanAt zs pl l -> l ≠ [] -> 0 <= pl /\ lastE pl l <= zs.length /\ pl <= lastE pl l
 | [], _, _, h => absurd rfl h
 | r :: l, pl, ⟨e, hr, hl⟩, _ => by
   have h2 := hr.room
   show 0 <= pl /\ lastE r.fin l <= _ /\ pl <= lastE r.fin l
   by_cases h : l = []
   · subst h; show 0 <= pl /\ (r.fin : Int) <= _ /\ pl <= (r.fin : Int); omega
   · have := hl.last h; omega
theorem scanAt.low {zs : List Int} : ∀ {l : List SR} {pl : Int}, scanAt zs pl l -> ∀ r ∈ l, pl <= r.j /\ (r.fin : Int) <= lastE pl l
 | [], _, _, r, h => by cases h
 | q :: l, pl, ⟨e, hr, hl⟩, r, h => by
   have h2 := hr.room
   rcases List.mem_cons.1 h with rfl | h
   · refine ⟨by omega, ?_⟩
     show (r.fin : Int) <= lastE r.fin l
     by_cases h : l = []
     · subst h; exact Int.le_refl _
     · exact (hl.last h).2.2
   · have := hl.low r h; exact ⟨by omega, this.2⟩
def cutN (n : Nat) (to : Int) : Nat := min to.toNat n
theorem cutN_le (n : Nat) (to : Int) : cutN n to <= n := by unfold cutN; omega
section
variable {zs : List Int}
theorem take8_take {T j : Nat} (h : j + 8 <= T) : ((zs.take T).drop j).take 8 = (zs.drop j).take 8 := by
 rw [List.drop_take, List.take_take, Nat.min_eq_left (by omega)]
theorem objB_take {T j s : Nat} (h : j + s <= T) : objB (zs.take T) j s = objB zs j s := by
 unfold objB
 rw [List.drop_take, List.take_take, Nat.min_eq_left (by omega)]
theorem SR.is_take {T : Nat} {r : SR} (hT : T <= zs.length) : r.Is (zs.take T) ↔ r.Is zs /\ r.fin <= T := by
 have hl : (zs.take T).length = T := by rw [List.length_take]; omega
 constructor
 · intro h
   have h1 := h.room
   have h2 := h.at_
   have h3 := h.dec
   rw [hl] at h1
   refine ⟨⟨⟨h2.al, by omega, ?_, ?_, h2.kk, by omega⟩, ?_⟩, h1.2.1⟩
   · rw [<- h2.kd, take8_take (by omega)]
   · rw [<- h2.sd, take8_take (by omega)]
   · unfold decB at h3 ⊢
     simp only [Bool.and_eq_true, decide_eq_true_eq] at h3 ⊢
     refine ⟨⟨h3.1.1, by have := h1.2.1; unfold SR.fin at this; omega⟩, ?_⟩
     have e := h3.2
     rw [List.drop_take, List.take_take, Nat.min_eq_left (by have := h1.2.1; unfold SR.fin at this; omega)] at e
     exact e
 · rintro ⟨h, hf⟩
   have h1 := h.room
   have h2 := h.at_
   have h3 := h.dec
   refine ⟨⟨h2.al, by rw [hl]; omega, ?_, ?_, h2.kk, by rw [hl]; omega⟩, ?_⟩
   · rw [<- h2.kd, take8_take (by omega)]
   · rw [<- h2.sd, take8_take (by omega)]
   · unfold decB at h3 ⊢
     simp only [Bool.and_eq_true, decide_eq_true_eq] at h3 ⊢
     refine ⟨⟨h3.1.1, by rw [hl]; unfold SR.fin at hf; omega⟩, ?_⟩
     rw [List.drop_take, List.take_take, Nat.min_eq_left (by unfold SR.fin at hf; omega)]
     exact h3.2
theorem noOb_open {to pl : Int} (h : noOb (zs.take (cutN zs.length to)) pl) : noOb zs pl ∨ ∃ r : SR, pl = r.j /\ r.Is zs /\ to < r.fin := by
 by_cases hx : ∃ r : SR, pl = r.j /\ r.Is zs
 · obtain ⟨r, e, hr⟩ := hx
   refine .inr ⟨r, e, hr, ?_⟩
   have h1 := h.not e
   rw [SR.is_take (cutN_le _ _)] at h1
   have h2 := hr.room
   have h3 : ¬ r.fin <= cutN zs.length to := fun h9 => h1 ⟨hr, h9⟩
   unfold cutN at h3
   omega
 · exact .inl (noOb_not hx)
theorem is_open {to : Int} {r : SR} (h : r.Is (zs.take (cutN zs.length to))) : r.Is zs /\ (r.fin : Int) <= to /\ (r.j : Int) < to := by
 obtain ⟨h1, h2⟩ := (SR.is_take (cutN_le _ _)).1 h
 have := h1.room
 unfold cutN at h2
 exact ⟨h1, by omega, by omega⟩
def sizA (zs : List Int) (p : Nat) : Nat := (lev ((zs.drop (p + 8)).take 8)).toNat
def SR.its (zs : List Int) (r : SR) : List Int := dI (objB zs r.j r.s) r.k
def SR.wds (zs : List Int) (r : SR) : List Int := dW (objB zs r.j r.s) r.k
def SR.raw (zs : List Int) (r : SR) : List Int := dR (objB zs r.j r.s) r.k
theorem its_take {T : Nat} {r : SR} (h : r.j + r.s <= T) : r.its (zs.take T) = r.its zs := by unfold SR.its; rw [objB_take h]
theorem wds_take {T : Nat} {r : SR} (h : r.j + r.s <= T) : r.wds (zs.take T) = r.wds zs := by unfold SR.wds; rw [objB_take h]
theorem raw_take {T : Nat} {r : SR} (h : r.j + r.s <= T) : r.raw (zs.take T) = r.raw zs := by unfold SR.raw; rw [objB_take h]
end
end Go.Proofs.YtaeegcohimflbaaGreat
