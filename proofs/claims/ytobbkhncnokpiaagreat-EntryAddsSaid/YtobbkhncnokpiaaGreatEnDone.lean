/-
  LAYER 16: A FILE OF ENTRIES THAT IS AS IT WAS WHEN LAST Done: what each call of image makes of it.
-/
import Derived.Test.YtobbkhncnokpiaaGreatEnIns
set_option linter.unusedVariables false
set_option maxRecDepth 100000
set_option linter.unusedSimpArgs false
namespace Go.Proofs.YtobbkhncnokpiaaGreat
open Go.RowKit Go.Shelf

/-- A file of entries in memory that is as it was when last Done; bs: its bytes. -/
structure ED (k d f : Int) (w : World) (base : Nat) (S : Nat → Prop) (p lim : Nat) (bs : List Int) (R : List DR) (O : List GO) (Lr : List Int) (tl : Nat) : Prop where
  ex : ∃ m bv sv l, IX w base S p 0 k d f 0 m bv sv ∧ EV k d f m.b l R O Lr ∧ m.Good ∧ m.lim = lim ∧ m.was = bs ∧ m.b = bs ∧ m.words = []
  small : lim ≤ 1048576 ∧ bs.length ≤ 1099511627776 ∧ bs.length ≤ tl
  key_ : IsU k

section
variable {k d f : Int} {w w' : World} {base : Nat} {S : Nat → Prop} {p lim : Nat} {was bs : List Int} {R : List DR} {O : List GO} {Lr : List Int} {tl cnt : Nat}

theorem ED.toEX (h : ED k d f w base S p lim bs R O Lr tl) : EX k d f w base S p lim bs R O Lr tl 0 := by
  obtain ⟨⟨m, bv, sv, l, H, V, hg, hl, hw, hb, hn⟩, hs, hk⟩ := h
  exact ⟨⟨m, bv, sv, l, H, V, hg, hl, hw, by rw [hb]; exact hs.2.2, by rw [hn]; exact Nat.le_refl _⟩, ⟨hs.1, by omega, hs.2.1⟩, hk⟩
theorem ED.old (h : ED k d f w base S p lim bs R O Lr tl) : Old k d f bs R O Lr := by
  obtain ⟨⟨m, bv, sv, l, H, V, hg, hl, hw, hb, hn⟩, hs, hk⟩ := h
  rw [hb] at V
  exact ⟨⟨l, V⟩, by rw [← hb]; exact hg.bb⟩
theorem ED.keep {T : Nat → Prop} (h : ED k d f w base S p lim bs R O Lr tl) (hc : Chg T w w') (hT : ∀ j, S j → ¬ T j) : ED k d f w' base S p lim bs R O Lr tl := by
  obtain ⟨⟨m, bv, sv, l, H, r⟩, hs, hk⟩ := h
  exact ⟨⟨m, bv, sv, l, H.keep hc hT, r⟩, hs, hk⟩
theorem ED.below (h : ED k d f w base S p lim bs R O Lr tl) (hb : Below w.heap.size w w') : ED k d f w' base S p lim bs R O Lr tl := h.keep (Chg.of_below hb (Nat.le_refl _) (fun _ => False)) (fun _ _ e => e)
theorem ED.foot (h : ED k d f w base S p lim bs R O Lr tl) : ∀ j, S j → base ≤ j ∧ j < w.heap.size := h.toEX.foot
theorem ED.bas (h : ED k d f w base S p lim bs R O Lr tl) : base ≤ w.heap.size := h.toEX.bas
theorem ED.mono {T : Nat → Prop} (h : ED k d f w base S p lim bs R O Lr tl) (hS : ∀ j, S j → T j) (hT : ∀ j, T j → base ≤ j ∧ j < w.heap.size) : ED k d f w base T p lim bs R O Lr tl := by
  obtain ⟨⟨m, bv, sv, l, H, r⟩, hs, hk⟩ := h
  exact ⟨⟨m, bv, sv, l, H.mono hS hT, r⟩, hs, hk⟩
theorem ED.more {tl' : Nat} (h : ED k d f w base S p lim bs R O Lr tl) (ht : tl ≤ tl') : ED k d f w base S p lim bs R O Lr tl' := ⟨h.ex, ⟨h.small.1, h.small.2.1, by have := h.small.2.2; omega⟩, h.key_⟩

theorem HX.keep {T : Nat → Prop} (h : HX k d f w base S p lim was) (hc : Chg T w w') (hT : ∀ j, S j → ¬ T j) : HX k d f w' base S p lim was := by
  obtain ⟨m, bv, sv, H, r⟩ := h
  exact ⟨m, bv, sv, H.keep hc hT, r⟩
theorem HX.below (h : HX k d f w base S p lim was) (hb : Below w.heap.size w w') : HX k d f w' base S p lim was := h.keep (Chg.of_below hb (Nat.le_refl _) (fun _ => False)) (fun _ _ e => e)
theorem HX.foot (h : HX k d f w base S p lim was) : ∀ j, S j → base ≤ j ∧ j < w.heap.size := by
  obtain ⟨m, bv, sv, H, r⟩ := h
  exact H.foot
theorem HX.mono {T : Nat → Prop} (h : HX k d f w base S p lim was) (hS : ∀ j, S j → T j) (hT : ∀ j, T j → base ≤ j ∧ j < w.heap.size) : HX k d f w base T p lim was := by
  obtain ⟨m, bv, sv, H, r⟩ := h
  exact ⟨m, bv, sv, H.mono hS hT, r⟩

/-- Done. -/
theorem done_ed (h : EX k d f w base S p lim was R O Lr tl cnt) (hb : tl ≤ 1099511627776) :
    Calls Tryz.prog 14 #[.pointer (some ⟨p, 0, none⟩)] w fun e w' => e = .returned (.tuple #[]) ∧ Chg S w w' ∧ ∃ bs, ED k d f w' base (grow S w w') p lim bs R O Lr tl := by
  obtain ⟨⟨m, bv, sv, l, H, V, hg, rfl, rfl, htl, hcnt⟩, hsm, hk⟩ := id h
  refine (idone_any w H).mono ?_
  rintro e w' ⟨rfl, hchg, bv', sv', H'⟩
  exact ⟨rfl, hchg, m.b, ⟨⟨m.done, bv', sv', l, H', V, hg.done, rfl, rfl, rfl, rfl⟩, ⟨hsm.1, by omega, htl⟩, hk⟩⟩
/-- Back. -/
theorem back_ed (h : HX k d f w base S p lim bs) (ho : Old k d f bs R O Lr) (hk : IsU k) (hl : lim ≤ 1048576) (ht : bs.length ≤ tl) (ht2 : bs.length ≤ 1099511627776) :
    Calls Tryz.prog 38 #[.pointer (some ⟨p, 0, none⟩)] w fun e w' => e = .returned (.tuple #[]) ∧ Chg S w w' ∧ ED k d f w' base (grow S w w') p lim bs R O Lr tl := by
  obtain ⟨m, bv, sv, H, hg, rfl, rfl, hb, hn⟩ := h
  obtain ⟨⟨l, V⟩, hby⟩ := ho
  refine (iback_any w H hg hb hn).mono ?_
  rintro e w' ⟨rfl, hchg, bv', sv', H'⟩
  exact ⟨rfl, hchg, ⟨⟨m.back, bv', sv', l, H', V, hg.back, rfl, rfl, rfl, rfl⟩, ⟨hl, ht2, ht⟩, hk⟩⟩
/-- Bytes. -/
theorem bytes_ed (h : ED k d f w base S p lim bs R O Lr tl) : Calls Tryz.prog 10 #[.pointer (some ⟨p, 0, none⟩)] w (Told bs w) := by
  obtain ⟨⟨m, bv, sv, l, H, V, hg, hl, hw, hb, hn⟩, hs, hk⟩ := h
  have h9 := ibytes_any w H (by rw [hb]; have := hs.2.1; omega)
  rw [hb] at h9
  exact h9
theorem ED.bytes (h : ED k d f w base S p lim bs R O Lr tl) : AreB bs := h.old.by_

/-- Items stand once; entries rise. -/
theorem EX.nodup (h : EX k d f w base S p lim was R O Lr tl cnt) : (R.map (·.item)).Nodup := by
  obtain ⟨⟨m, bv, sv, l, H, V, r⟩, hs, hk⟩ := h
  exact V.rows.nodup V.db
theorem EX.rise (h : EX k d f w base S p lim was R O Lr tl cnt) : O.Pairwise fun a b => a.at_ < b.at_ := by
  obtain ⟨⟨m, bv, sv, l, H, V, r⟩, hs, hk⟩ := h
  rw [← V.ent]
  refine (V.db.gb.rise.filter _).imp_of_mem ?_
  intro a b ha hb hlt
  have := (V.db.gb.fine a (List.mem_filter.1 ha).1).1.front
  omega
theorem EX.words0 (h : EX k d f w base S p lim was R O Lr tl cnt) : ∃ m bv sv, IX w base S p 0 k d f 0 m bv sv ∧ AreB m.b ∧ ∀ o ∈ O, m.word ((o.at_ + 16 : Nat) : Int) = o.ws.getD 0 0 := by
  obtain ⟨⟨m, bv, sv, l, H, V, hg, hl, hw, htl, hcnt⟩, hs, hk⟩ := h
  refine ⟨m, bv, sv, H, hg.bb, fun o ho => ?_⟩
  rw [← V.ent] at ho
  obtain ⟨hol, hok⟩ := List.mem_filter.1 ho
  have ok3 : o.k = 3 := by simpa using hok
  have hwl := (V.db.gb.fine o hol).1.wl
  rw [ok3] at hwl
  exact V.db.gb.word (i := 0) hol (by rw [hwl]; decide)
end

end Go.Proofs.YtobbkhncnokpiaaGreat
