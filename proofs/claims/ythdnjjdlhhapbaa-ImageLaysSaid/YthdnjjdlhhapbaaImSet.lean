/-
  LAYER 12: WHAT Set OF PACKAGE image DOES: its contract.
-/
import Derived.Test.YthdnjjdlhhapbaaImFn
set_option linter.unusedVariables false
set_option maxRecDepth 100000
set_option linter.unusedSimpArgs false
namespace Go.Proofs.Ythdnjjdlhhapbaa
open Go.RowKit

theorem placeInfo : (Try.prog.info? 3).map (fun i => (i.zero, i.size, i.bytes)) = some (some (.int .i64 0), 1, 8) := by kernel_rfl

section
variable {base p : Nat} {S : Nat → Prop} {i k d f h : Int} {m : IM} {bv sv : Value}

theorem IXT.later {w w1 w' : World} (hc : Chg S w w1) (hf : ∀ j, S j → base ≤ j ∧ j < w.heap.size) (hb : base ≤ w.heap.size) (H : IXT base S p i k d f h m w1 w') : IXT base S p i k d f h m w w' := by
  obtain ⟨h1, bv, sv, h2⟩ := H
  have := hc.size
  refine IXT.of (w0 := w) (hc.trans h1 (fun _ _ h => h)) h2 (fun j hj => ?_) hf hb
  rcases hj with hj | hj
  · exact .inl hj
  · exact .inr (by omega)

/-- A place is put behind the others. -/
theorem IX.pushed {w w1 w' : World} {v' : Value} {q : Nat} {A : Option Addr} {n c : Nat} (H : IX w base S p i k d f h m bv (.slice A n c)) (ob : Obj) (hg : (w.alloc ob).grownBy w1 (Value.ownBlock (.slice A n c))) (hown : w1.ownsRow base 3 1 v' (n + 1) (cellsOf .i64 (nats m.words) ++ cellsOf .i64 [(q : Int)]))
    (hat : v'.ownBlock = Value.ownBlock (.slice A n c) ∨ v'.ownBlock = some (w.heap.size + 1)) (hn : n = m.words.length) :
    IXT base S p i k d f h { m with words := m.words ++ [q] } w (w1.setCell ⟨p, 8, none⟩ v') := by
  have hc : Chg (fun j => Value.ownBlock (.slice A n c) = some j) w w1 := ((Chg.refl (fun j => Value.ownBlock (.slice A n c) = some j) w).alloc ob).trans (Chg.of_grown hg) (fun _ _ e => e)
  refine H.setW ?_ hc ?_
  · rw [List.length_append, nats_snoc, cellsOf_append, ← hn]; exact hown
  · rcases hat with e | e
    · exact .inl e
    · exact .inr ⟨_, e, by omega⟩
/-- Its cell of the places behind what has made the row longer. -/
theorem IX.cell8 {w w1 : World} (H : IX w base S p i k d f h m bv sv) (ob : Obj) (hg : (w.alloc ob).grownBy w1 sv.ownBlock) : w1.cell? ⟨p, 8, none⟩ = some sv ∧ w1.frozen? ⟨p, 8, none⟩ = false := by
  have hb : Blk w1 p 91 (imC i k d f h m.lim bv m.was.length sv) := (H.blk.alloc ob).chg (Chg.of_grown hg) (fun e => H.ps e)
  exact ⟨hb.cell 8, hb.frozen 8⟩

theorem iset_nil (at_ n : Int) (w : World) :
    Calls Try.prog 26 #[.pointer none, .int .i64 at_, .int .u64 n] w fun e w' => e = .returned (.int .i64 3) ∧ w = w' := by
  go_enter Try.func26, Try.ntmps26
  go_wp2
  go_ret
  exact ⟨rfl, rfl⟩

theorem iset_no (at_ n : Int) (w : World) (H : IX w base S p i k d f h m bv sv) (hb : AreB m.b) (h0 : -9223372036854775808 ≤ at_) (h1 : at_ ≤ 9223372036854775807) (hm : m.may at_ = false) :
    Calls Try.prog 26 #[.pointer (some ⟨p, 0, none⟩), .int .i64 at_, .int .u64 n] w fun e w' => e = .returned (.int .i64 1) ∧ w = w' := by
  have GG := Lib.hid (iword2_any at_ w H hb h0 h1)
  unfold IM.may at hm
  generalize m.word at_ = u at GG
  clear H hb
  cases hg : gok m.b.length at_ 8 with
  | false =>
    rw [hg] at GG
    clear hg hm
    go_enter Try.func26, Try.ntmps26
    go_wp2_with (go_at_call 50; refine GG.out.mono ?_; rintro e w1 ⟨rfl, rfl⟩)
    go_ret
    exact ⟨rfl, rfl⟩
  | true =>
    rw [hg] at GG hm
    have hp : 0 ≤ at_ := by simp [gok] at hg; omega
    clear hg
    obtain ⟨r, hr⟩ : ∃ r, Int.tmod at_ 8 = r := ⟨_, rfl⟩
    have hr2 : r = at_ % 8 := by rw [← hr]; exact Int.tmod_eq_emod_of_nonneg hp
    by_cases hz : r = 0
    · have hz2 : at_ < 192 := by
        rw [← hr2, hz] at hm
        simp at hm; omega
      subst hz
      clear hr2 hm
      go_enter Try.func26, Try.ntmps26
      go_wp2_with (go_at_call 50; refine GG.out.mono ?_; rintro e w1 ⟨rfl, rfl⟩)
      go_ret
      exact ⟨rfl, rfl⟩
    · have hz2 : (r != 0) = true := by simpa using hz
      clear hr2 hm hz
      go_enter Try.func26, Try.ntmps26
      go_wp2_with (go_at_call 50; refine GG.out.mono ?_; rintro e w1 ⟨rfl, rfl⟩)
      go_ret
      exact ⟨rfl, rfl⟩

theorem iset_twice (q : Nat) (n : Int) (w : World) (H : IX w base S p i k d f h m bv sv) (hb : AreB m.b) (hq : q + 8 ≤ m.b.length) (h8 : q % 8 = 0) (h0 : 192 ≤ q) (hl : m.b.length ≤ 1099511627776) (hz : m.word q ≠ 0) :
    Calls Try.prog 26 #[.pointer (some ⟨p, 0, none⟩), .int .i64 q, .int .u64 n] w fun e w' => e = .returned (.int .i64 7) ∧ w = w' := by
  have GG := Lib.hid (iword2_any q w H hb (by omega) (by omega))
  rw [show gok m.b.length (q : Int) 8 = true by simp [gok]; omega] at GG
  have hr : Int.tmod (q : Int) 8 = 0 := by rw [Int.tmod_eq_emod_of_nonneg (by omega)]; omega
  have hz2 : (m.word q != 0) = true := by simpa using hz
  have hq2 : ¬ (q : Int) < 192 := by omega
  generalize m.word q = u at GG hz2
  clear H hb hz h0 h8 hq
  go_enter Try.func26, Try.ntmps26
  go_wp2_with (go_at_call 50; refine GG.out.mono ?_; rintro e w1 ⟨rfl, rfl⟩)
  go_ret
  exact ⟨rfl, rfl⟩

set_option maxHeartbeats 1000000 in
theorem iset_yes (q : Nat) (n : Int) (w : World) (H : IX w base S p i k d f h m bv sv) (hb : AreB m.b) (hq : q + 8 ≤ m.b.length) (h8 : q % 8 = 0) (h0 : 192 ≤ q) (hl : m.b.length ≤ 1099511627776) (hN : m.words.length ≤ 1000000000) (hwl : m.was.length ≤ 1099511627776) (hz : m.word q = 0) :
    Calls Try.prog 26 #[.pointer (some ⟨p, 0, none⟩), .int .i64 q, .int .u64 n] w fun e w' => e = .returned (.int .i64 0) ∧ IXT base S p i k d f h (m.put8 q n) w w' := by
  obtain ⟨i0, hi, hz0, hz1, hz2⟩ := info_parts placeInfo
  have GG := Lib.hid (iword2_any q w H hb (by omega) (by omega))
  rw [show gok m.b.length (q : Int) 8 = true by simp [gok]; omega, hz] at GG
  have LL := Lib.hid (ilay_any q n w H hq)
  have hr : Int.tmod (q : Int) 8 = 0 := by rw [Int.tmod_eq_emod_of_nonneg (by omega)]; omega
  have hq2 : ¬ (q : Int) < 192 := by omega
  obtain ⟨As, cs, rfl, s1, s2, s3⟩ := H.places
  obtain ⟨nw, hnw⟩ : ∃ nw, nw = m.words.length := ⟨_, rfl⟩
  obtain ⟨o, ho⟩ : ∃ o, o = m.was.length := ⟨_, rfl⟩
  rw [← hnw] at LL H hN
  have k2 : nw + 1 ≤ maxLen := by unfold maxLen; omega
  have k3 : (nw + 1) * 8 ≤ 140737488355328 := by omega
  have HS := Lib.hid H
  have HNW := Lib.hid hnw
  have HO := Lib.hid ho
  rw [← ho] at hwl
  by_cases hlt : q < o
  · have hlt2 : (q : Int) < (o : Int) := by omega
    have HP : Hid (m.put8 q n = { { m with b := splice m.b q (bts n 8) } with words := m.words ++ [q] }) := by show _ = _; unfold IM.put8; rw [if_pos (by rw [← ho]; exact hlt)]
    clear H hb hz h0 h8 hq s1 s2 s3 hnw ho hN
    go_enter Try.func26, Try.ntmps26
    go_wp2_with (first
      | (go_at_call 50; refine GG.out.mono ?_; rintro e w1 ⟨rfl, rfl⟩)
      | (go_at_call 47; go_loud (refine LL.out.mono ?_; rintro e w1 ⟨rfl, hc1, hx1⟩; have HC1 := Lib.hid hc1; have HX1 := Lib.hid hx1; obtain ⟨⟨-, -, -, -, -, -, -, c7, c8⟩, -⟩ := nine hx1.blk; rw [show (IM.mk (splice m.b q (bts n 8)) m.was m.words m.lim).was.length = o from HO.out.symm] at c7; obtain ⟨⟨-, -, -, -, -, -, -, -, e8⟩, -⟩ := nine (hx1.blk.alloc (.cells #[.int .i64 (q : Int)] 3)); have hrow := (hx1.set).alloc (.cells #[.int .i64 (q : Int)] 3); rw [show (IM.mk (splice m.b q (bts n 8)) m.was m.words m.lim).words.length = nw from HNW.out.symm] at hrow; have hbas : base ≤ (w1.alloc (.cells #[.int .i64 (q : Int)] 3)).heap.size := (by have := hx1.bas; simp; omega); clear hc1 hx1))
      | (at_builtin; go_loud (refine wpList_append_any _ rfl _ _ _ rfl base 3 i0 (.int .i64 0) 1 8 Try.underlying48 hi hz0 hz1 hz2 rfl (Nat.lt_succ_self 0) (.slice As nw cs) nw (cellsOf .i64 (nats m.words)) rfl hrow _ _ 1 1 (cellsOf .i64 [(q : Int)]) rfl (Reads.new1 _ _ _) (one_oneCell _ _) k2 k3 hbas ?_; intro v3 w3 ho3 hg3 hat3; obtain ⟨A3, c3, rfl, -, -⟩ := own_form ho3; obtain ⟨g8, f8⟩ := HX1.out.cell8 _ hg3; have HT := Lib.hid (HX1.out.pushed (q := q) (w' := w3) _ hg3 ho3 (by simpa using hat3) HNW.out); clear ho3 hg3 hat3 hrow)))
    go_ret
    rw [HP.out]
    exact ⟨rfl, HT.out.later (HC1.out.mono (fun j _ e => HS.out.inb j e)) HS.out.foot HS.out.bas⟩
  · have hlt2 : ¬ (q : Int) < (o : Int) := by omega
    have HP : Hid (m.put8 q n = { m with b := splice m.b q (bts n 8) }) := by show _ = _; unfold IM.put8; rw [if_neg (by rw [← ho]; exact hlt)]
    clear H hb hz h0 h8 hq s1 s2 s3 hnw ho hN
    go_enter Try.func26, Try.ntmps26
    go_wp2_with (first
      | (go_at_call 50; refine GG.out.mono ?_; rintro e w1 ⟨rfl, rfl⟩)
      | (go_at_call 47; refine LL.out.mono ?_; rintro e w1 ⟨rfl, hc1, hx1⟩; have HC1 := Lib.hid hc1; have HX1 := Lib.hid hx1; obtain ⟨⟨-, -, -, -, -, -, -, c7, c8⟩, -⟩ := nine hx1.blk; rw [show (IM.mk (splice m.b q (bts n 8)) m.was m.words m.lim).was.length = o from HO.out.symm] at c7; clear hc1 hx1))
    go_ret
    rw [HP.out]
    exact ⟨rfl, (IXT.same HX1.out).later (HC1.out.mono (fun j _ e => HS.out.inb j e)) HS.out.foot HS.out.bas⟩

/-- Set. -/
theorem iset_any (at_ n : Int) (w : World) (H : IX w base S p i k d f h m bv sv) (hb : AreB m.b) (h0 : -9223372036854775808 ≤ at_) (h1 : at_ ≤ 9223372036854775807) (hl : m.b.length ≤ 1099511627776) (hN : m.words.length ≤ 1000000000) (hwl : m.was.length ≤ 1099511627776) :
    Calls Try.prog 26 #[.pointer (some ⟨p, 0, none⟩), .int .i64 at_, .int .u64 n] w fun e w' => e = .returned (.int .i64 (m.setE at_)) ∧ IXT base S p i k d f h (m.set at_ n) w w' := by
  by_cases hm : m.may at_ = true
  · obtain ⟨q, rfl, q1, q2, q3⟩ := IM.may_at hm
    by_cases hz : m.word q = 0
    · have e1 : m.setE q = 0 := by unfold IM.setE; rw [if_pos hm, if_pos hz]
      have e2 : m.set q n = m.put8 q n := by unfold IM.set; rw [if_pos e1]; rfl
      rw [e1, e2]
      exact iset_yes q n w H hb q1 q2 q3 hl hN hwl hz
    · have e1 : m.setE q = 7 := by unfold IM.setE; rw [if_pos hm, if_neg hz]
      have e2 : m.set q n = m := by unfold IM.set; rw [if_neg (by rw [e1]; omega)]
      rw [e1, e2]
      exact (iset_twice q n w H hb q1 q2 q3 hl hz).mono fun e w' ⟨he, hw⟩ => ⟨he, hw ▸ IXT.same H⟩
  · have e1 : m.setE at_ = 1 := by unfold IM.setE; rw [if_neg hm]
    have e2 : m.set at_ n = m := by unfold IM.set; rw [if_neg (by rw [e1]; omega)]
    rw [e1, e2]
    exact (iset_no at_ n w H hb h0 h1 (by simpa using hm)).mono fun e w' ⟨he, hw⟩ => ⟨he, hw ▸ IXT.same H⟩
end

end Go.Proofs.Ythdnjjdlhhapbaa
