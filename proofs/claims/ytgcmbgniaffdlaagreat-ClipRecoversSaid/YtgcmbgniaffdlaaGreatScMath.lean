import Derived.Test.YtgcmbgniaffdlaaGreatLOc
set_option linter.unusedVariables false
set_option maxRecDepth 100000
set_option linter.unusedSimpArgs false
namespace Go.Proofs.YtgcmbgniaffdlaaGreat
open Go.RowKit
structure SR where
 j : Nat
 k : Nat
 s : Nat
def SR.fin (r : SR) : Nat := r.j + (r.s + padn r.s 8)
structure SR.Is (zs : List Int) (r : SR) : Prop where
 at_ : DecAt zs r.j r.k r.s
 dec : decB zs r.j r.k r.s = true
def noOb (zs : List Int) (pl : Int) : Prop := ∀ j k s : Nat, pl = j -> DecAt zs j k s -> decB zs j k s = false
def scanAt (zs : List Int) : Int -> List SR -> Prop
 | pl, [] => noOb zs pl
 | pl, r :: l => pl = r.j /\ r.Is zs /\ scanAt zs r.fin l
def lastE : Int -> List SR -> Int
 | pl, [] => pl
 | _, r :: l => lastE r.fin l
theorem lastE_snoc (r : SR) : ∀ (l : List SR) (pl : Int), lastE pl (l ++ [r]) = r.fin
 | [], _ => rfl
 | q :: l, _ => lastE_snoc r l q.fin
theorem SR.Is.parts {zs : List Int} {r : SR} (h : r.Is zs) : mayB r.k r.s = true /\ r.fin <= zs.length := by
 have h1 := h.dec
 unfold decB at h1
 simp only [Bool.and_eq_true, decide_eq_true_eq] at h1
 exact ⟨h1.1.1, by unfold SR.fin; omega⟩
theorem SR.Is.room {zs : List Int} {r : SR} (h : r.Is zs) : r.j + 16 <= r.fin /\ r.fin <= zs.length /\ r.j + r.s <= r.fin /\ r.j + r.s <= zs.length := by
 have h1 := h.parts
 have h2 := (right_may h.at_ h1.1).2.1
 unfold frontN at h2
 unfold SR.fin at h1 ⊢
 omega
theorem SR.Is.same {zs : List Int} {r q : SR} (h : r.Is zs) (g : q.Is zs) (e : r.j = q.j) : r = q := by
 obtain ⟨j, k, s⟩ := r
 obtain ⟨j', k', s'⟩ := q
 have e1 : j = j' := e
 subst e1
 have h1 : lev ((zs.drop j).take 8) = (k : Int) := h.at_.kd
 have h2 : lev ((zs.drop (j + 8)).take 8) = (s : Int) := h.at_.sd
 have h3 : lev ((zs.drop j).take 8) = (k' : Int) := g.at_.kd
 have h4 : lev ((zs.drop (j + 8)).take 8) = (s' : Int) := g.at_.sd
 have e2 : k = k' := by omega
 have e3 : s = s' := by omega
 subst e2; subst e3; rfl
theorem noOb.not {zs : List Int} {pl : Int} (h : noOb zs pl) {r : SR} (e : pl = r.j) : ¬ r.Is zs := fun hr => by
 have := h r.j r.k r.s e hr.at_
 rw [hr.dec] at this; cases this
theorem scanAt.mem {zs : List Int} : ∀ {l : List SR} {pl : Int}, scanAt zs pl l -> ∀ r ∈ l, r.Is zs
 | [], _, _, r, h => by cases h
 | q :: l, pl, ⟨e, hr, hl⟩, r, h => by
   rcases List.mem_cons.1 h with rfl | h
   · exact hr
   · exact hl.mem r h
theorem scanAt.last {zs : List Int} : ∀ {l : List SR} {pl : Int}, scanAt zs pl l -> l ≠ [] -> 0 <= pl /\ lastE pl l <= zs.length /\ pl <= lastE pl l
 | [], _, _, h => absurd rfl h
 | r :: l, pl, ⟨e, hr, hl⟩, _ => by
   have h2 := hr.room
   show 0 <= pl /\ lastE r.fin l <= _ /\ pl <= lastE r.fin l
   by_cases h : l = []
   · subst h; show 0 <= pl /\ (r.fin : Int) <= _ /\ pl <= (r.fin : Int); omega
   · have := hl.last h; omega
theorem scanAt.low {zs : List Int} : ∀ {l : List SR} {pl : Int}, scanAt zs pl l -> ∀ r ∈ l, pl <= r.j /\ (r.fin : Int) <= lastE pl l
 | [], _, _, r, h => by cases h
 | q :: l, pl, ⟨e, hr, hl⟩, r, h => by
   have h2 := hr.room
   rcases List.mem_cons.1 h with rfl | h
   · refine ⟨by omega, ?_⟩
     show (r.fin : Int) <= lastE r.fin l
     by_cases h : l = []
     · subst h; exact Int.le_refl _
     · exact (hl.last h).2.2
   · have := hl.low r h; exact ⟨by omega, this.2⟩
def cutN (n : Nat) (to : Int) : Nat := min to.toNat n
theorem cutN_le (n : Nat) (to : Int) : cutN n to <= n := by unfold cutN; omega
section
variable {zs : List Int}
theorem take8_take {T j : Nat} (h : j + 8 <= T) : ((zs.take T).drop j).take 8 = (zs.drop j).take 8 := by
 rw [List.drop_take, List.take_take, Nat.min_eq_left (by omega)]
theorem objB_take {T j s : Nat} (h : j + s <= T) : objB (zs.take T) j s = objB zs j s := by
 unfold objB
 rw [List.drop_take, List.take_take, Nat.min_eq_left (by omega)]
theorem SR.is_take {T : Nat} {r : SR} (hT : T <= zs.length) : r.Is (zs.take T) ↔ r.Is zs /\ r.fin <= T := by
 have hl : (zs.take T).length = T := by rw [List.length_take]; omega
 constructor
 · intro h
   have h1 := h.room
   have h2 := h.at_
   have h3 := h.dec
   rw [hl] at h1
   refine ⟨⟨⟨h2.al, by omega, ?_, ?_, h2.kk, by omega⟩, ?_⟩, h1.2.1⟩
   · rw [<- h2.kd, take8_take (by omega)]
   · rw [<- h2.sd, take8_take (by omega)]
   · unfold decB at h3 ⊢
     simp only [Bool.and_eq_true, decide_eq_true_eq] at h3 ⊢
     refine ⟨⟨h3.1.1, by have := h1.2.1; unfold SR.fin at this; omega⟩, ?_⟩
     have e := h3.2
     rw [List.drop_take, List.take_take, Nat.min_eq_left (by have := h1.2.1; unfold SR.fin at this; omega)] at e
     exact e
 · rintro ⟨h, hf⟩
   have h1 := h.room
   have h2 := h.at_
   have h3 := h.dec
   refine ⟨⟨h2.al, by rw [hl]; omega, ?_, ?_, h2.kk, by rw [hl]; omega⟩, ?_⟩
   · rw [<- h2.kd, take8_take (by omega)]
   · rw [<- h2.sd, take8_take (by omega)]
   · unfold decB at h3 ⊢
     simp only [Bool.and_eq_true, decide_eq_true_eq] at h3 ⊢
     refine ⟨⟨h3.1.1, by rw [hl]; unfold SR.fin at hf; omega⟩, ?_⟩
     rw [List.drop_take, List.take_take, Nat.min_eq_left (by unfold SR.fin at hf; omega)]
     exact h3.2
def sizA (zs : List Int) (p : Nat) : Nat := (lev ((zs.drop (p + 8)).take 8)).toNat
def SR.its (zs : List Int) (r : SR) : List Int := dI (objB zs r.j r.s) r.k
def SR.wds (zs : List Int) (r : SR) : List Int := dW (objB zs r.j r.s) r.k
def SR.raw (zs : List Int) (r : SR) : List Int := dR (objB zs r.j r.s) r.k
theorem its_take {T : Nat} {r : SR} (h : r.j + r.s <= T) : r.its (zs.take T) = r.its zs := by unfold SR.its; rw [objB_take h]
end
end Go.Proofs.YtgcmbgniaffdlaaGreat
