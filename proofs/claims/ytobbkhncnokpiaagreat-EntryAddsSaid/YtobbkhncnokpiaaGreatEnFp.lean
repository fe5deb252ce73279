/-
  LAYER 16: what a chain of calls has turned, and where the file lies behind it; Put of an entry, its size told; one item more that has the entry.
-/
import Derived.Test.YtobbkhncnokpiaaGreatEnIntern
import Derived.Test.YtobbkhncnokpiaaGreatEnSmall
set_option linter.unusedVariables false
set_option maxRecDepth 100000
set_option linter.unusedSimpArgs false
namespace Go.Proofs.YtobbkhncnokpiaaGreat
open Go.RowKit Go.Shelf

/-- Of w's blocks those in S alone have turned; T lies in S and in new memory. -/
structure Fp (S : Nat → Prop) (w : World) (T : Nat → Prop) (wr : World) : Prop where
  chg : Chg S w wr
  sub : ∀ q, T q → S q ∨ w.heap.size ≤ q
section
variable {S T : Nat → Prop} {w wr w2 : World}
theorem Fp.refl (S : Nat → Prop) (w : World) : Fp S w S w := ⟨Chg.refl _ _, fun _ h => .inl h⟩
theorem Fp.size (h : Fp S w T wr) : w.heap.size ≤ wr.heap.size := h.chg.size
theorem Fp.step {T' : Nat → Prop} (h : Fp S w T wr) (hc : Chg T wr w2) (hT : ∀ q, T' q → grow T wr w2 q) : Fp S w T' w2 := by
  have hs := h.chg.size
  refine ⟨h.chg.trans hc (fun q hq hg => (h.sub q hg).elim id (fun e => by omega)), fun q hq => ?_⟩
  rcases hT q hq with e | e
  · exact h.sub q e
  · right; omega
theorem Fp.next (h : Fp S w T wr) (hc : Chg T wr w2) : Fp S w (grow T wr w2) w2 := h.step hc (fun _ e => e)
theorem Fp.below (h : Fp S w T wr) (hb : Below wr.heap.size wr w2) : Fp S w T w2 := ⟨h.chg.trans (Chg.of_below hb (Nat.le_refl _) (fun _ => False)) (fun _ _ e => e.elim), h.sub⟩
theorem Fp.drewN (h : Fp S w T wr) (n : Nat) : Fp S w T (wr.drewN n) := ⟨h.chg.drewN n, h.sub⟩
theorem Fp.drew (h : Fp S w T wr) : Fp S w T wr.drew := ⟨h.chg.drew, h.sub⟩
theorem Fp.alloc (h : Fp S w T wr) (o : Obj) : Fp S w T (wr.alloc o) := ⟨h.chg.alloc o, h.sub⟩
theorem Fp.set (h : Fp S w T wr) {a : Addr} (ha : w.heap.size ≤ a.block) (u : Value) : Fp S w T (wr.setCell a u) := ⟨h.chg.setCell (.inl ha) u, h.sub⟩
theorem Fp.fin {base : Nat} (h : Fp S w T wr) (hT : ∀ q, T q → base ≤ q ∧ q < wr.heap.size) : ∀ q, T q → grow S w wr q := fun q hq => (h.sub q hq).elim .inl (fun e => .inr ⟨e, (hT q hq).2⟩)
end

section
variable {k d f : Int} {w w' wr : World} {base : Nat} {S T : Nat → Prop} {p lim : Nat} {was bs : List Int} {R : List DR} {O : List GO} {Lr : List Int} {tl cnt : Nat}
theorem EX.fin (h : EX k d f wr base T p lim was R O Lr tl cnt) (hF : Fp S w T wr) (hS : ∀ q, S q → base ≤ q ∧ q < w.heap.size) (hb : base ≤ w.heap.size) : Chg S w wr ∧ EX k d f wr base (grow S w wr) p lim was R O Lr tl cnt :=
  ⟨hF.chg, h.mono (hF.fin h.foot) (chg_lt hS hF.chg hb)⟩
theorem HX.fin (h : HX k d f wr base T p lim was) (hF : Fp S w T wr) (hS : ∀ q, S q → base ≤ q ∧ q < w.heap.size) (hb : base ≤ w.heap.size) : Chg S w wr ∧ HX k d f wr base (grow S w wr) p lim was :=
  ⟨hF.chg, h.mono (hF.fin h.foot) (chg_lt hS hF.chg hb)⟩
theorem ED.fin (h : ED k d f wr base T p lim bs R O Lr tl) (hF : Fp S w T wr) (hS : ∀ q, S q → base ≤ q ∧ q < w.heap.size) (hb : base ≤ w.heap.size) : Chg S w wr ∧ ED k d f wr base (grow S w wr) p lim bs R O Lr tl :=
  ⟨hF.chg, h.mono (hF.fin h.foot) (chg_lt hS hF.chg hb)⟩

theorem EX.at_le (h : EX k d f w base S p lim was R O Lr tl cnt) {z : List Int} {a : Nat} (ha : findD R z = some a) : a ≤ 1099511627776 ∧ ¬ a = 0 := by
  obtain ⟨j, r, hr, -, rfl⟩ := findD_at ha
  obtain ⟨⟨m, bv, sv, l, H, V, hg, hl, hw, htl, hcnt⟩, hs, hk⟩ := h
  obtain ⟨o, -, ho, hok, horaw, hoat, -⟩ := V.rows.obj hr
  have hmost := V.db.gb.most
  have h0 := newK_low d f V.db.hD V.db.hF
  have := V.db.gb.fine o ho
  rw [← hoat]
  omega

/-- image's Put of an entry, its size told. -/
theorem put_ex2 {L : Nat} (A1 : Option Addr) (n1 c1 : Nat) (ws : List Int) (A2 : Option Addr) (n2 c2 : Nat) (A3 : Option Addr) (n3 c3 : Nat) (is : List Int) (ho : ObR w L A1 n1 c1 ws A2 n2 c2 [] A3 n3 c3 is) (hL : L ≤ w.heap.size)
    (hr : rightN 3 n1 n2 n3 = true) (hu : ∀ z ∈ ws, 0 ≤ z ∧ z < 18446744073709551616) (hi : ∀ z ∈ is, 0 ≤ z ∧ z < 18446744073709551616) (h : EX k d f w base S p lim was R O Lr tl cnt) :
    Calls Tryz.prog 67 #[.pointer (some ⟨p, 0, none⟩), obV 3 A1 n1 c1 A2 n2 c2 A3 n3 c3] w fun e w' =>
      (∃ a : Nat, e = .returned (.tuple #[.int .i64 (a : Nat), .int .i64 0]) ∧ 256 ≤ a ∧ a ≤ 1099511627776 ∧ Chg S w w' ∧ EX k d f w' base (grow S w w') p lim was R (O ++ [⟨0, a, 3, ws, [], is⟩]) Lr (tl + (56 + 8 * n3)) cnt) ∨
      (lim < tl + (56 + 8 * n3) ∧ e = .returned (.tuple #[.int .i64 0, .int .i64 21]) ∧ Below w.heap.size w w') := by
  obtain ⟨⟨m, bv, sv, l, H, V, hg, rfl, rfl, htl, hcnt⟩, hsm, hk⟩ := id h
  have hmost := V.db.gb.most
  have h0 := newK_low d f V.db.hD V.db.hF
  have hlow := V.db.gb.low
  have e1 := ho.wr.len
  have e2 := ho.rr.len
  have e3 := ho.ir.len
  have hr' : rightN 3 ws.length ([] : List Int).length is.length = true := by rw [e1, e2, e3]; exact hr
  have hln := encO_length hr'
  have hlx := rightN_len hr'
  have hbd : (encO 3 ws [] is).length = 56 + 8 * n3 := by
    rw [hln]
    have e9 : frontN 3 = 56 := rfl
    unfold bareN
    rw [e9, List.length_nil, e3, padn_eight]
    omega
  by_cases hx : m.b.length + (encO 3 ws [] is).length ≤ m.lim
  · refine (iput_yes 3 A1 n1 c1 ws A2 n2 c2 [] A3 n3 c3 is w ho hL hr H hmost hsm.1 hx).mono ?_
    rintro e w' ⟨rfl, hT⟩
    left
    have hfine : (⟨0, m.b.length, 3, ws, [], is⟩ : GO).Fine := ⟨hr', hu, (by intro z hz; cases hz), hi, V.db.gb.al⟩
    have hsm1 := hsm.1
    have V2 := V.entry hfine rfl rfl (by show m.b.length + (encO 3 ws [] is).length ≤ _; omega)
    obtain ⟨hchg, hX⟩ := h.of (m := m.add (encO 3 ws [] is)) hT V2 (hg.add (encO_bytes (by intro z hz; cases hz))) rfl rfl (tl' := tl + (56 + 8 * n3)) (by show (m.b ++ _).length ≤ _; rw [List.length_append]; omega) (cnt' := cnt) hcnt (by have := hsm.2.1; omega)
    exact ⟨m.b.length, rfl, by omega, hmost, hchg, hX⟩
  · refine (iput_full 3 A1 n1 c1 ws A2 n2 c2 [] A3 n3 c3 is w ho hr H hmost hsm.1 (by omega)).mono ?_
    rintro e w' ⟨rfl, hb⟩
    exact .inr ⟨by omega, rfl, hb⟩

/-- At the head of each round: the first j items have the entry. -/
structure RefAtE (k d f : Int) (w wr : World) (base : Nat) (S : Nat → Prop) (p lim : Nat) (was : List Int) (R : List DR) (O : List GO) (Lr : List Int) (tl cnt : Nat) (zs : List (List Int)) (x : Int) (T2 : Nat → Prop) (w2 : World) (u j : Nat) : Prop where
  ex : ∃ T, EX k d f wr base T p lim was (pushAll R (zs.take j) x) O Lr (tl + u * j) (cnt + j) ∧ Fp S w T wr ∧ Fp T2 w2 T wr
/-- One item more. -/
theorem RefAtE.next {E : List (List (List Int))} {zs : List (List Int)} {ps : List Int} {R0 : List DR} {O' : List GO} {x : Int} {T2 : Nat → Prop} {w2 : World} {u j : Nat} {z : List Int} (H : RefAtE k d f w wr base S p lim was R O Lr tl cnt zs x T2 w2 u j)
    (hI : InsAt R0 R zs ps O' Lr E) (hO : O'.length ≤ 1000) (hu : u = 8216 ∨ (u = 0 ∧ O'.length = 0)) (hN : zs.Nodup) (hz : zs[j]? = some z) (hx : IsU x) (hx0 : ¬ x = 0) (hc : cnt + j ≤ 100000) (hS : ∀ q, S q → base ≤ q ∧ q < w.heap.size) (hb : base ≤ w.heap.size) :
    ∃ a : Nat, ps[j]? = some (a : Int) ∧ a ≤ 1099511627776 ∧ Calls Tryz.prog 68 #[.pointer (some ⟨p, 0, none⟩), .int .i64 a, .int .u64 x] wr fun e w' =>
      (e = .returned (.int .i64 0) ∧ RefAtE k d f w w' base S p lim was R O Lr tl cnt zs x T2 w2 u (j + 1)) ∨
      (lim < tl + u * (j + 1) ∧ e = .returned (.int .i64 21) ∧ Chg S w w' ∧ HX k d f w' base (grow S w w') p lim was) := by
  obtain ⟨T, hex, hF, hF2⟩ := H
  obtain ⟨a, ha, hpa⟩ := hI.known j z hz
  have hfa : findD (pushAll R (zs.take j) x) z = some a := by rw [findD_pushAll]; exact ha
  obtain ⟨i, r, hr, hri, hra⟩ := findD_at hfa
  have hle := hex.at_le hfa
  subst hra
  have hNt : (zs.take j).Nodup := hN.sublist (List.take_sublist _ _)
  have hsh := pushAll_short (x := x) hNt hI.el.short r (List.mem_of_getElem? hr)
  have htk : zs.take (j + 1) = zs.take j ++ [z] := by
    obtain ⟨h1, h2⟩ := List.getElem?_eq_some_iff.1 hz
    rw [List.take_succ_eq_append_getElem h1, h2]
  refine ⟨r.at_, hpa, hle.1, ?_⟩
  rcases hu with rfl | ⟨rfl, h0⟩
  · have h9 := refer_ex hex hr x hx hx0 (by omega) (by omega)
    refine h9.mono ?_
    rintro e w' (⟨rfl, hc2, hx2⟩ | ⟨h1, rfl, hb2⟩)
    · left
      refine ⟨rfl, ⟨_, ?_, hF.next hc2, hF2.next hc2⟩⟩
      rw [set_pushD hex.nodup hr, hri] at hx2
      rw [htk, pushAll_snoc]
      exact hx2.more (by omega) (by omega) (by omega)
    · right
      exact ⟨by omega, rfl, (hex.half.below hb2).fin (hF.below hb2) hS hb⟩
  · have hLn : r.L = [] := by
      have hm := List.mem_of_getElem? hr
      rw [pushAll_eq x _ R hNt] at hm
      obtain ⟨q, hq, hqr⟩ := List.mem_map.1 hm
      have hzn : z ∉ zs.take j := fun hm => by
        obtain ⟨i, hi, he⟩ := List.mem_take_iff_getElem.1 hm
        obtain ⟨h1, h2⟩ := List.getElem?_eq_some_iff.1 hz
        rw [List.nodup_iff_pairwise_ne, List.pairwise_iff_getElem] at hN
        exact hN i j (by omega) h1 (by omega) (by rw [he, h2])
      have hqz : q.item = z := by
        rw [← hri, ← hqr]
        split <;> rfl
      rw [if_neg (by rw [hqz]; exact hzn)] at hqr
      rw [← hqr]
      have := hI.el.short q hq
      exact List.eq_nil_of_length_eq_zero (by omega)
    refine (refer_nil hex hr x hx hx0 (by omega) hLn).mono ?_
    rintro e w' ⟨rfl, hc2, hx2⟩
    left
    refine ⟨rfl, ⟨_, ?_, hF.next hc2, hF2.next hc2⟩⟩
    rw [set_pushD hex.nodup hr, hri] at hx2
    rw [htk, pushAll_snoc]
    exact hx2.more (by omega) (by omega) (by omega)
end

end Go.Proofs.YtobbkhncnokpiaaGreat
