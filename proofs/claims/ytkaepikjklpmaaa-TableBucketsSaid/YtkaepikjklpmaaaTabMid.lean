/-
  LAYER 13: AN IMAGE WITH TABLES BESIDE THE DOCUMENT'S ROWS: what a round of the statements does to both.
-/
import Derived.Test.YtkaepikjklpmaaaTabRef2
set_option linter.unusedVariables false
set_option maxRecDepth 100000
set_option linter.unusedSimpArgs false
namespace Go.Proofs.Ytkaepikjklpmaaa
open Go.RowKit

/-- No two rows alike. -/
def DistR (l : List TRow) : Prop := l.Pairwise fun r q => ¬ (r.k = q.k ∧ r.raw = q.raw)
theorem findR_no {l : List TRow} {k : Nat} {zs : List Int} (h : findR l k zs = none) : ∀ r ∈ l, ¬ (r.k = k ∧ r.raw = zs) := by
  intro r hr e
  unfold findR at h
  rw [Option.map_eq_none_iff, List.find?_eq_none] at h
  have := h r hr
  simp [e.1, e.2] at this
theorem DistR.snoc {l : List TRow} {r : TRow} (h : DistR l) (hf : findR l r.k r.raw = none) : DistR (l ++ [r]) := by
  unfold DistR
  rw [List.pairwise_append]
  refine ⟨h, List.pairwise_singleton _ _, fun q hq x hx => ?_⟩
  rw [List.mem_singleton.1 hx]
  exact findR_no hf q hq
theorem DistR.find : ∀ {l : List TRow} {i : Nat} {r : TRow}, DistR l → l[i]? = some r → findR l r.k r.raw = some r.at_ := by
  intro l i r h hi
  obtain ⟨hl, e⟩ := List.getElem?_eq_some_iff.1 hi
  refine findR_at (i := i) (fun q hq => ?_) hi rfl rfl
  obtain ⟨j, hj, e2⟩ := List.mem_take_iff_getElem.1 hq
  have := List.pairwise_iff_getElem.1 h j i (by omega) hl (by omega)
  rw [← e2, ← e]; exact this

theorem light_right {f : Bool} {n : Nat} (h : lightB f n = true) : rightN (kdN f) (kwN (kdN f)) n 0 = true ∧ n ≤ 300 := by
  unfold lightB at h
  cases f with
  | true =>
    simp at h
    have h2 : 1 ≤ n ∧ n ≤ 64 := h
    refine ⟨?_, by omega⟩
    have : ((kdN true : Nat) : Int) = 2 := rfl
    rw [this]
    unfold rightN
    simp [kwN, mostN, hasI]
    omega
  | false =>
    simp at h
    have h2 : 1 ≤ n ∧ n ≤ 300 := by omega
    refine ⟨?_, by omega⟩
    have : ((kdN false : Nat) : Int) = 1 := rfl
    rw [this]
    unfold rightN
    simp [kwN, mostN, hasI]
    omega

/-- An image whose tables hold l, and the document's rows l', each apart from the other. -/
structure Mid (w0 w : World) (S : Nat → Prop) (p : Nat) (k d f : Int) (lim : Nat) (l : List TRow) (tl cnt : Nat) (v : Value) (l' : List TRow) : Prop where
  ts : TS w w0.heap.size S p k d f lim l tl cnt
  rows : OwnR w w0.heap.size v l'
  apart : ∀ g, v.ownBlock = some g → ¬ S g
  bel : Below w0.heap.size w0 w
  dist : DistR l'
  sz : l'.length ≤ cnt + 1 ∧ l.length ≤ cnt

section
variable {w0 w w' : World} {S : Nat → Prop} {p : Nat} {k d f : Int} {lim : Nat} {l : List TRow} {tl cnt : Nat} {v : Value} {l' : List TRow}
theorem Mid.below (h : Mid w0 w S p k d f lim l tl cnt v l') (hb : Below w.heap.size w w') : Mid w0 w' S p k d f lim l tl cnt v l' :=
  ⟨h.ts.below hb, h.rows.below hb, h.apart, h.bel.trans (hb.mono h.bel.size), h.dist, h.sz⟩

/-- What is asked of a round that puts a text in. -/
structure OkRound (w0 w : World) (S : Nat → Prop) (p : Nat) (k d f : Int) (lim : Nat) (l : List TRow) (tl cnt : Nat) (v : Value) (kd : Nat) (zs : List Int) (at_ : Nat) (fr : Bool) (l' : List TRow) : Prop where
  sub : ∀ r ∈ l', r ∈ l ∨ r.k = kd
  ra : ∀ w1, Below w.heap.size w w1 → Calls Try.prog 9 #[v, .int .i64 kd, .string (strOfNums zs), .int .i64 tl, .int .i64 lim] w1 fun e w2 =>
    ∃ v', e = .returned (.tuple #[v', .int .i64 (at_ : Nat), .bool fr, .bool true]) ∧ Mid w0 w2 S p k d f lim l tl cnt v' l' ∧ Below w0.heap.size w0 w2
  ta : ∀ (w3 : World) (v' : Value) (A : Option Addr) (n c : Nat), Mid w0 w3 S p k d f lim l tl cnt v' l' → Reads w3 w3.heap.size 1 A n (cellsOf .u8 zs) → n ≤ c → c ≤ 9223372036854775807 →
    Calls Try.prog 12 #[.pointer (some ⟨p, 0, none⟩), .int .i64 kd, .slice A n c] w3 fun e w4 =>
      e = .returned (.tuple #[.int .i64 (at_ : Nat), .bool fr, .int .i64 0]) ∧ (∃ S' tl' cnt', cnt' ≤ cnt + 1 ∧ Mid w0 w4 S' p k d f lim l' tl' cnt' v' l') ∧ Below w0.heap.size w0 w4

theorem findR_at_le {l : List TRow} {k a : Nat} {zs : List Int} (h : findR l k zs = some a) (hl : ∀ r ∈ l, FineR r) : a ≤ 1099511627776 := by
  unfold findR at h
  rw [Option.map_eq_some_iff] at h
  obtain ⟨r, hr, rfl⟩ := h
  exact (hl r (List.mem_of_find?_eq_some hr)).2.2.1

/-- A text is put in, or was there. -/
theorem Mid.round (h : Mid w0 w S p k d f lim l tl cnt v l) (hc : cnt ≤ 100) (kd : Nat) (hkd : kd = 1 ∨ kd = 2) (zs : List Int) (hz : AreB zs) (hr : rightN kd (kwN kd) zs.length 0 = true) (hzl : zs.length ≤ 300) :
    (∃ at_ fr l', at_ ≤ 1099511627776 ∧ OkRound w0 w S p k d f lim l tl cnt v kd zs at_ fr l') ∨
    ((∀ w1, Below w.heap.size w w1 → Calls Try.prog 9 #[v, .int .i64 kd, .string (strOfNums zs), .int .i64 tl, .int .i64 lim] w1 fun e w2 => e = .returned (.tuple #[v, .int .i64 0, .bool false, .bool false]) ∧ w1 = w2) ∧
      (∀ (w3 : World) (A : Option Addr) (n c : Nat), Below w.heap.size w w3 → Reads w3 w3.heap.size 1 A n (cellsOf .u8 zs) → n ≤ c → c ≤ 9223372036854775807 →
        Calls Try.prog 12 #[.pointer (some ⟨p, 0, none⟩), .int .i64 kd, .slice A n c] w3 fun e w4 => e = .returned (.tuple #[.int .i64 0, .bool false, .int .i64 21]) ∧ Below w3.heap.size w3 w4)) := by
  have hmt := h.ts.mostT
  have hlm := h.ts.small.1
  have RA := fun (w1 : World) (hb : Below w.heap.size w w1) => radd_any kd zs tl lim w1 (h.below hb).rows (h.below hb).ts.bas (by have := h.sz; omega) hz (by omega) hkd hmt (by omega)
  have TA := fun (w3 : World) (S3 : Nat → Prop) (A : Option Addr) (n c : Nat) (h3 : TS w3 w0.heap.size S3 p k d f lim l tl cnt) (hrd : Reads w3 w3.heap.size 1 A n (cellsOf .u8 zs)) (h1 : n ≤ c) (h2 : c ≤ 9223372036854775807) =>
    tadd_ts h3 (by omega) kd hkd A n c zs hrd (Nat.le_refl _) hz h1 h2 (by have := hrd.len; omega) hr
  cases hf : findR l kd zs with
  | some a =>
    refine .inl ⟨a, false, l, findR_at_le hf h.rows.fine, fun r hr => .inl hr, fun w1 hb => (RA w1 hb).mono ?_, fun w3 v' A n c h3 hrd h1 h2 => (TA w3 S A n c h3.ts hrd h1 h2).mono ?_⟩
    · rintro e w2 (⟨b, g1, rfl, rfl⟩ | ⟨g1, -⟩ | ⟨g1, -⟩)
      · rw [hf] at g1; injection g1 with g1; subst g1
        exact ⟨v, rfl, h.below hb, (h.below hb).bel⟩
      · rw [hf] at g1; cases g1
      · rw [hf] at g1; cases g1
    · intro e w4 hh
      obtain ⟨e1, hb⟩ := hh.old hf
      exact ⟨e1, ⟨S, tl, cnt, by omega, h3.below hb⟩, (h3.below hb).bel⟩
  | none =>
    by_cases hfull : lim < tl + tlen kd zs.length
    · refine .inr ⟨fun w1 hb => (RA w1 hb).mono ?_, fun w3 A n c hb hrd h1 h2 => (TA w3 S A n c (h.below hb).ts hrd h1 h2).mono ?_⟩
      · rintro e w2 (⟨b, g1, -⟩ | ⟨-, -, e1, e2⟩ | ⟨-, g1, -⟩)
        · rw [hf] at g1; cases g1
        · exact ⟨e1, e2⟩
        · omega
      · intro e w4 hh
        exact hh.full hf hfull
    · refine .inl ⟨tl, true, l ++ [⟨kd, zs, tl⟩], hmt, fun r hr => (List.mem_append.1 hr).imp id (fun e => by rw [List.mem_singleton.1 e]), fun w1 hb => (RA w1 hb).mono ?_, fun w3 v' A n c h3 hrd h1 h2 => (TA w3 S A n c h3.ts hrd h1 h2).mono ?_⟩
      · rintro e w2 (⟨b, g1, -⟩ | ⟨-, g1, -⟩ | ⟨-, -, v', rfl, ho, hc2, hat⟩)
        · rw [hf] at g1; cases g1
        · omega
        · have h1 := h.below hb
          have hfo := h1.ts.foot
          have hS : ∀ j, S j → ¬ v.ownBlock = some j := fun j hj e => h1.apart j e hj
          have hbel : Below w0.heap.size w0 w2 := h1.bel.trans (hc2.below h1.bel.size (fun q _ hq => (h1.rows.own.lt q hq).1))
          refine ⟨v', rfl, ⟨h1.ts.keep hc2 hS, ho, fun g hg hSg => ?_, hbel, h1.dist.snoc hf, ?_⟩, hbel⟩
          · rcases hat with e | ⟨q, e, hq⟩
            · exact h1.apart g (by rw [← e]; exact hg) hSg
            · rw [e] at hg; injection hg with hg
              have := (hfo g hSg).2
              omega
          · have := h1.sz; rw [List.length_append]; simp; omega
      · intro e w4 hh
        obtain ⟨e1, hc4, ht4⟩ := hh.new hf (by omega)
        have hbel : Below w0.heap.size w0 w4 := h3.bel.trans (hc4.below h3.bel.size (fun q _ hq => (h3.ts.foot q hq).1))
        refine ⟨e1, ⟨grow S w3 w4, _, cnt + 1, Nat.le_refl _, ⟨ht4, h3.rows.chg hc4 h3.apart, fun g hg hSg => ?_, hbel, h3.dist, ?_⟩⟩, hbel⟩
        · rcases hSg with hSg | hSg
          · exact h3.apart g hg hSg
          · have := (h3.rows.own.lt g hg).2
            omega
        · have := h.sz; rw [List.length_append]; simp; omega
end

end Go.Proofs.Ytkaepikjklpmaaa
