/-
  LAYER 12: WHAT THE DOCUMENT'S OWN Word, Set, Done AND Back OF AN IMAGE DO: contracts.
-/
import Derived.Test.YthdnjjdlhhapbaaImSet
import Derived.Test.YthdnjjdlhhapbaaRegionZ
set_option linter.unusedVariables false
set_option maxRecDepth 100000
set_option linter.unusedSimpArgs false
namespace Go.Proofs.Ythdnjjdlhhapbaa
open Go.RowKit

section
variable {base p : Nat} {S : Nat → Prop} {i k d f h : Int} {m : IM} {bv wv sv : Value}

theorem RXT.later {S' : Nat → Prop} {w w1 w' : World} (hc : Chg S w w1) (hS : ∀ j, S' j → S j ∨ w.heap.size ≤ j) (hf : ∀ j, S j → base ≤ j ∧ j < w.heap.size) (hb : base ≤ w.heap.size) (H : RXT base S' p i k d f h m w1 w') : RXT base S p i k d f h m w w' := by
  obtain ⟨h1, bv, wv, sv, h2⟩ := H
  have := hc.size
  refine RXT.of (hc.trans h1 (fun j hj hg => ?_)) h2 (fun j hj => ?_) hf hb
  · rcases hS j hg with hg | hg
    · exact hg
    · omega
  · rcases hj with hj | hj
    · exact hS j hj
    · exact .inr (by omega)
/-- A place is put behind the others. -/
theorem RX.pushed {w w1 : World} {v' : Value} {q : Nat} {A : Option Addr} {n c : Nat} (H : RX w base S p i k d f h m bv wv (.slice A n c)) (ob : Obj) (hg : (w.alloc ob).grownBy w1 (Value.ownBlock (.slice A n c))) (hown : w1.ownsRow base 3 1 v' (n + 1) (cellsOf .i64 (nats m.words) ++ cellsOf .i64 [(q : Int)]))
    (hat : v'.ownBlock = Value.ownBlock (.slice A n c) ∨ v'.ownBlock = some (w.heap.size + 1)) (hn : n = m.words.length) :
    RXT base S p i k d f h { m with words := m.words ++ [q] } w (w1.setCell ⟨p, 8, none⟩ v') := by
  have hc : Chg (fun j => Value.ownBlock (.slice A n c) = some j) w w1 := ((Chg.refl (fun j => Value.ownBlock (.slice A n c) = some j) w).alloc ob).trans (Chg.of_grown hg) (fun _ _ e => e)
  refine H.setW ?_ hc ?_
  · rw [List.length_append, nats_snoc, cellsOf_append, ← hn]; exact hown
  · rcases hat with e | e
    · exact .inl e
    · exact .inr ⟨_, e, by omega⟩
theorem RX.cell8 {w w1 : World} (H : RX w base S p i k d f h m bv wv sv) (ob : Obj) (hg : (w.alloc ob).grownBy w1 sv.ownBlock) : w1.cell? ⟨p, 8, none⟩ = some sv ∧ w1.frozen? ⟨p, 8, none⟩ = false := by
  have hb : Blk w1 p 50 (rimC i k d f h bv wv m.lim sv) := (H.blk.alloc ob).chg (Chg.of_grown hg) (fun e => H.ps e)
  exact ⟨hb.cell 8, hb.frozen 8⟩

theorem rword_any (at_ : Int) (w : World) (H : RX w base S p i k d f h m bv wv sv) (hb : AreB m.b) (h0 : -9223372036854775808 ≤ at_) (h1 : at_ ≤ 9223372036854775807) :
    Calls Try.prog 39 #[.pointer (some ⟨p, 0, none⟩), .int .i64 at_] w fun e w' => e = .returned (.int .u64 (m.word at_)) ∧ w = w' := by
  obtain ⟨A, c, rfl, q1, q2, q3⟩ := H.reads
  obtain ⟨⟨-, -, -, -, -, c5, -, -, -⟩, -⟩ := nine H.blk
  have GG := Lib.hid (rget_any A m.b.length c at_ 8 m.b w q3 hb q1 q2 h0 h1 (by omega) (by omega))
  obtain ⟨n, hn⟩ : ∃ n, n = m.b.length := ⟨_, rfl⟩
  rw [← hn] at c5 GG
  clear H q1 q2 q3 hn
  go_enter Try.func39, Try.ntmps39
  go_wp2_with (go_at_call 62; refine GG.out.mono ?_; rintro e w1 ⟨rfl, rfl⟩)
  go_ret
  exact ⟨rfl, rfl⟩

theorem rget_im (at_ : Int) (w : World) {A : Option Addr} {c : Nat} (H : RX w base S p i k d f h m (.slice A m.b.length c) wv sv) (hb : AreB m.b) (h0 : -9223372036854775808 ≤ at_) (h1 : at_ ≤ 9223372036854775807) :
    Calls Try.prog 62 #[.slice A m.b.length c, .int .i64 at_, .int .i64 8] w fun e w' => e = .returned (.tuple #[.int .u64 (m.word at_), .bool (gok m.b.length at_ 8)]) ∧ w = w' := by
  obtain ⟨A', c', e, q1, q2, q3⟩ := H.reads
  injection e with e1 _ e3
  subst e1; subst e3
  exact rget_any A m.b.length c at_ 8 m.b w q3 hb q1 q2 h0 h1 (by omega) (by omega)

theorem rset_no (at_ n : Int) (w : World) (H : RX w base S p i k d f h m bv wv sv) (hb : AreB m.b) (h0 : -9223372036854775808 ≤ at_) (h1 : at_ ≤ 9223372036854775807) (hm : m.may at_ = false) :
    Calls Try.prog 36 #[.pointer (some ⟨p, 0, none⟩), .int .i64 at_, .int .u64 n] w fun e w' => e = .returned (.int .i64 1) ∧ w = w' := by
  obtain ⟨A, c, rfl, -, -, -⟩ := H.reads
  have GG := Lib.hid (rget_im at_ w H hb h0 h1)
  obtain ⟨⟨-, -, -, -, -, c5, -, -, -⟩, -⟩ := nine H.blk
  unfold IM.may at hm
  generalize m.word at_ = u at GG
  obtain ⟨g, hgk⟩ : ∃ g, gok m.b.length at_ 8 = g := ⟨_, rfl⟩
  have hpos : g = true → 0 ≤ at_ := fun e => by rw [e] at hgk; simp [gok] at hgk; omega
  rw [hgk] at GG hm
  obtain ⟨L, hL⟩ : ∃ L, L = m.b.length := ⟨_, rfl⟩
  rw [← hL] at GG c5
  obtain ⟨r, hr⟩ : ∃ r, Int.tmod at_ 8 = r := ⟨_, rfl⟩
  clear H hb hgk hL
  by_cases hz : r = 0
  · by_cases hlt : at_ < 192
    · subst hz
      clear hm hpos
      go_enter Try.func36, Try.ntmps36
      go_wp2_with (go_at_call 62; refine GG.out.mono ?_; rintro e w1 ⟨rfl, rfl⟩)
      go_ret
      exact ⟨rfl, rfl⟩
    · have hg : g = false := by
        cases g
        · rfl
        · have h2 := hpos rfl
          rw [Int.tmod_eq_emod_of_nonneg h2, hz] at hr
          simp [hr] at hm; omega
      subst hz
      subst hg
      clear hm hpos
      go_enter Try.func36, Try.ntmps36
      go_wp2_with (go_at_call 62; refine GG.out.mono ?_; rintro e w1 ⟨rfl, rfl⟩)
      go_ret
      exact ⟨rfl, rfl⟩
  · have hz2 : (r != 0) = true := by simpa using hz
    clear hz hm hpos
    go_enter Try.func36, Try.ntmps36
    go_wp2_with (go_at_call 62; refine GG.out.mono ?_; rintro e w1 ⟨rfl, rfl⟩)
    go_ret
    exact ⟨rfl, rfl⟩

theorem rset_twice (q : Nat) (n : Int) (w : World) (H : RX w base S p i k d f h m bv wv sv) (hb : AreB m.b) (hq : q + 8 ≤ m.b.length) (h8 : q % 8 = 0) (h0 : 192 ≤ q) (hl : m.b.length ≤ 1099511627776) (hz : m.word q ≠ 0) :
    Calls Try.prog 36 #[.pointer (some ⟨p, 0, none⟩), .int .i64 q, .int .u64 n] w fun e w' => e = .returned (.int .i64 7) ∧ w = w' := by
  obtain ⟨A, c, rfl, -, -, -⟩ := H.reads
  have GG := Lib.hid (rget_im q w H hb (by omega) (by omega))
  have WD := Lib.hid (rword_any q w H hb (by omega) (by omega))
  obtain ⟨⟨-, -, -, -, -, c5, -, -, -⟩, -⟩ := nine H.blk
  rw [show gok m.b.length (q : Int) 8 = true by simp [gok]; omega] at GG
  have hr : Int.tmod (q : Int) 8 = 0 := by rw [Int.tmod_eq_emod_of_nonneg (by omega)]; omega
  have hz2 : (m.word q != 0) = true := by simpa using hz
  have hq2 : ¬ (q : Int) < 192 := by omega
  generalize m.word q = u at GG WD hz2
  obtain ⟨L, hL⟩ : ∃ L, L = m.b.length := ⟨_, rfl⟩
  rw [← hL] at GG c5
  clear H hb hz h0 h8 hq hL
  go_enter Try.func36, Try.ntmps36
  go_wp2_with (first
    | (go_at_call 62; refine GG.out.mono ?_; rintro e w1 ⟨rfl, rfl⟩)
    | (go_at_call 39; refine WD.out.mono ?_; rintro e w1 ⟨rfl, rfl⟩))
  go_ret
  exact ⟨rfl, rfl⟩

theorem OutB.lit (w : World) : OutB w (.slice (some ⟨w.heap.size, 0, none⟩) 0 0) 0 [] (w.alloc (.cells #[] 5)) := ⟨World.ownsRow_lit w #[] 0 (Nat.le_refl _) (Nat.zero_le _) rfl, boxed _ _⟩
theorem OutB.lit1 (w : World) : OutB w (.slice (some ⟨w.heap.size, 0, none⟩) 0 0) 0 [] (w.drew.alloc (.cells #[] 5)) := ⟨World.ownsRow_lit w.drew #[] 0 (Nat.le_refl _) (Nat.zero_le _) rfl, (below_drewn (Below.refl _ _) 1).alloc (Nat.le_refl _) _⟩

set_option maxHeartbeats 2000000 in
theorem rset_yes (q : Nat) (n : Int) (w : World) (H : RX w base S p i k d f h m bv wv sv) (hg : m.Good) (hn : 0 ≤ n ∧ n < 18446744073709551616) (hq : q + 8 ≤ m.b.length) (h8 : q % 8 = 0) (h0 : 192 ≤ q) (hl : m.b.length ≤ 1099511627776) (hN : m.words.length ≤ 1000000000) (hz : m.word q = 0) :
    Calls Try.prog 36 #[.pointer (some ⟨p, 0, none⟩), .int .i64 q, .int .u64 n] w fun e w' => e = .returned (.int .i64 0) ∧ RXT base S p i k d f h (m.put8 q n) w w' := by
  obtain ⟨i0, hi, hz0, hz1, hz2⟩ := info_parts byteInfo
  obtain ⟨iw, hiw, hw0, hw1, hw2⟩ := info_parts placeInfo
  obtain ⟨A, c, rfl, r1, r2, r3⟩ := H.reads
  obtain ⟨As, cs, rfl, -, -, -⟩ := H.places
  obtain ⟨Aw, cw, rfl, -, -, -⟩ := H.wasR
  have GG := Lib.hid (rget_im q w H hg.bb (by omega) (by omega))
  have WD := Lib.hid (rword_any q w H hg.bb (by omega) (by omega))
  rw [show gok m.b.length (q : Int) 8 = true by simp [gok]; omega, hz] at GG
  rw [hz] at WD
  obtain ⟨⟨-, -, -, -, -, c5, -, -, -⟩, -⟩ := nine H.blk
  have hr : Int.tmod (q : Int) 8 = 0 := by rw [Int.tmod_eq_emod_of_nonneg (by omega)]; omega
  have hq2 : ¬ (q : Int) < 192 := by omega
  obtain ⟨L, hL⟩ : ∃ L, L = m.b.length := ⟨_, rfl⟩
  rw [← hL] at hq hl r1
  have hpre := r3.pre (m := q) (by omega)
  obtain ⟨e8, he8⟩ : ∃ e8, e8 = q + 8 := ⟨_, rfl⟩
  have hsub := r3.sub (lo := e8) (hi := m.b.length) (cap := c) (by omega) (Nat.le_refl _) (by omega)
  rw [List.take_of_length_le (by rw [List.length_drop]; omega)] at hsub
  rw [← hL] at c5 hsub GG
  have HB8 := Lib.hid (fun w1 => rbytes8 n w1 hn)
  have HPRE := Lib.hid (fun w1 (hb : Below w.heap.size w w1) => hpre.below hb)
  have HSUB := Lib.hid (fun w1 (hb : Below w.heap.size w w1) => hsub.below hb)
  have HC := Lib.hid (fun w1 (hb : Below w.heap.size w w1) => (by rw [hL]; exact (nine (H.below hb).blk).1.2.2.2.2.2.1 : w1.cell? ⟨p, 5, none⟩ = some (.slice A L c)))
  have HX := Lib.hid (fun w1 (hb : Below w.heap.size w w1) => (nine (H.below hb).blk).2)
  have hb : Below w.heap.size w w.drew := below_drewn (Below.refl _ _) 1
  have H0 := Lib.hid (HC.out _ hb)
  have HI := Lib.hid H
  have HG := Lib.hid hg
  have HN8 := Lib.hid hN
  have HLE : Hid (L = m.b.length) := hL
  have HSP : Hid ([] ++ m.b.take q ++ bts n 8 ++ m.b.drop e8 = splice m.b q (bts n 8)) := by show _ = _; unfold splice; rw [bts8_length, he8]; simp
  have HSL : Hid ((splice m.b q (bts n 8)).length = q + 8 + (L - e8)) := by show _ = _; rw [splice_len _ _ _ (by rw [bts8_length]; omega)]; omega
  have HTL : Hid ((m.b.take q).length = q) := by show _ = _; rw [List.length_take]; omega
  have t1 : (q : Int) ≤ (L : Int) := by omega
  have t2 : q ≤ L := by omega
  have t3 : (q : Int) ≤ (c : Int) := by omega
  have t4 : (q : Int) + 8 = (e8 : Int) := by omega
  have t5 : IntKind.i64.wrap (e8 : Int) = (e8 : Int) := by rw [IntKind.wrap_i64]; omega
  have t6 : (e8 : Int) ≤ (L : Int) := by omega
  have t7 : e8 ≤ L := by omega
  have k1 : 0 + q ≤ maxLen := by unfold maxLen; omega
  have k2 : q + 8 ≤ maxLen := by unfold maxLen; omega
  have k3 : q + 8 + (L - e8) ≤ maxLen := by unfold maxLen; omega
  have k4 : (0 + q) * 1 ≤ 140737488355328 := by omega
  have k5 : (q + 8) * 1 ≤ 140737488355328 := by omega
  have k6 : (q + 8 + (L - e8)) * 1 ≤ 140737488355328 := by omega
  clear H hg hz h0 h8 hN r3 hpre hsub hn hL he8 hq
  go_enter Try.func36, Try.ntmps36
  go_wp2_with (first
    | (go_at_call 62; refine GG.out.mono ?_; rintro e w1 ⟨rfl, rfl⟩)
    | (go_at_call 39; refine WD.out.mono ?_; rintro e w1 ⟨rfl, rfl⟩))
  refine wp_region_z (S := fun w' => w'.cell? ⟨p, 5, none⟩ = some (.slice A L c)) 22 (by kernel_rfl) H0.out (fun hHeld => ?_)
  refine takeZ_yes (i := 0) (v := ?_) rfl (by kernel_rfl) (by kernel_rfl) (by kernel_rfl) (by kernel_rfl) (fun _ _ _ h => h) (by kernel_rfl) ?_ (by assumption) ?_
  rotate_left
  · intro wz hSw; (try dsimp only at hSw); go_simp; try with_reducible rfl
  simp only [Act.put, List.setIfInBounds_toArray, List.set_cons_zero, List.set_cons_succ]
  refine takeZ_yes (i := 2) (v := ?_) rfl (by kernel_rfl) (by kernel_rfl) (by kernel_rfl) (by kernel_rfl) (fun _ _ _ h => h) (by kernel_rfl) ?_ (by assumption) ?_
  rotate_left
  · intro wz hSw; (try dsimp only at hSw); go_simp; try with_reducible rfl
  simp only [Act.put, List.setIfInBounds_toArray, List.set_cons_zero, List.set_cons_succ]
  refine takeZ_yes (i := 3) (v := ?_) rfl (by kernel_rfl) (by kernel_rfl) (by kernel_rfl) (by kernel_rfl) (fun _ _ _ h => h) (by kernel_rfl) ?_ (by assumption) ?_
  rotate_left
  · intro wz hSw; (try dsimp only at hSw); go_simp; try with_reducible rfl
  simp only [Act.put, List.setIfInBounds_toArray, List.set_cons_zero, List.set_cons_succ]
  refine takeZ_yes (i := 4) (v := ?_) rfl (by kernel_rfl) (by kernel_rfl) (by kernel_rfl) (by kernel_rfl) (fun _ _ _ h => h) (by kernel_rfl) ?_ (by assumption) ?_
  rotate_left
  · intro wz hSw; (try dsimp only at hSw); go_simp; try with_reducible rfl
  simp only [Act.put, List.setIfInBounds_toArray, List.set_cons_zero, List.set_cons_succ]
  refine takeZ_yes (i := 5) (v := ?_) rfl (by kernel_rfl) (by kernel_rfl) (by kernel_rfl) (by kernel_rfl) (fun _ _ _ h => h) (by kernel_rfl) ?_ (by assumption) ?_
  rotate_left
  · intro wz hSw; (try dsimp only at hSw); go_simp; try with_reducible rfl
  simp only [Act.put, List.setIfInBounds_toArray, List.set_cons_zero, List.set_cons_succ]
  refine takeZ_yes (i := 6) (v := ?_) rfl (by kernel_rfl) (by kernel_rfl) (by kernel_rfl) (by kernel_rfl) (fun _ _ _ h => h) (by kernel_rfl) ?_ (by assumption) ?_
  rotate_left
  · intro wz hSw; (try dsimp only at hSw); go_simp; try with_reducible rfl
  simp only [Act.put, List.setIfInBounds_toArray, List.set_cons_zero, List.set_cons_succ]
  refine takeZ_yes (i := 7) (v := ?_) rfl (by kernel_rfl) (by kernel_rfl) (by kernel_rfl) (by kernel_rfl) (fun _ _ _ h => h) (by kernel_rfl) ?_ (by assumption) ?_
  rotate_left
  · intro wz hSw; (try dsimp only at hSw); go_simp; try with_reducible rfl
  simp only [Act.put, List.setIfInBounds_toArray, List.set_cons_zero, List.set_cons_succ]
  refine takeZ_yes (i := 9) (v := ?_) rfl (by kernel_rfl) (by kernel_rfl) (by kernel_rfl) (by kernel_rfl) (fun _ _ _ h => h) (by kernel_rfl) ?_ (by assumption) ?_
  rotate_left
  · intro wz hSw; (try dsimp only at hSw); go_simp; try with_reducible rfl
  simp only [Act.put, List.setIfInBounds_toArray, List.set_cons_zero, List.set_cons_succ]
  refine takeZ_yes (i := 12) (v := ?_) rfl (by kernel_rfl) (by kernel_rfl) (by kernel_rfl) (by kernel_rfl) (fun _ _ _ h => h) (by kernel_rfl) ?_ (by assumption) ?_
  rotate_left
  · intro wz hSw; (try dsimp only at hSw); go_simp; try with_reducible rfl
  simp only [Act.put, List.setIfInBounds_toArray, List.set_cons_zero, List.set_cons_succ]
  refine takeZ_yes (i := 13) (v := ?_) rfl (by kernel_rfl) (by kernel_rfl) (by kernel_rfl) (by kernel_rfl) (fun _ _ _ h => h) (by kernel_rfl) ?_ (by assumption) ?_
  rotate_left
  · intro wz hSw; (try dsimp only at hSw); go_simp; try with_reducible rfl
  simp only [Act.put, List.setIfInBounds_toArray, List.set_cons_zero, List.set_cons_succ]
  refine takeZ_yes (i := 14) (v := ?_) rfl (by kernel_rfl) (by kernel_rfl) (by kernel_rfl) (by kernel_rfl) (fun _ _ _ h => h) (by kernel_rfl) ?_ (by assumption) ?_
  rotate_left
  · intro wz hSw; (try dsimp only at hSw); go_simp; try with_reducible rfl
  simp only [Act.put, List.setIfInBounds_toArray, List.set_cons_zero, List.set_cons_succ]
  refine takeZ_yes (i := 15) (v := ?_) rfl (by kernel_rfl) (by kernel_rfl) (by kernel_rfl) (by kernel_rfl) (fun _ _ _ h => h) (by kernel_rfl) ?_ (by assumption) ?_
  rotate_left
  · intro wz hSw; (try dsimp only at hSw); go_simp; try with_reducible rfl
  simp only [Act.put, List.setIfInBounds_toArray, List.set_cons_zero, List.set_cons_succ]
  refine takeZ_yes (i := 16) (v := ?_) rfl (by kernel_rfl) (by kernel_rfl) (by kernel_rfl) (by kernel_rfl) (fun _ _ _ h => h) (by kernel_rfl) ?_ (by assumption) ?_
  rotate_left
  · intro wz hSw; (try dsimp only at hSw); go_simp; try with_reducible rfl
  simp only [Act.put, List.setIfInBounds_toArray, List.set_cons_zero, List.set_cons_succ]
  refine takeZ_yes (i := 17) (v := ?_) rfl (by kernel_rfl) (by kernel_rfl) (by kernel_rfl) (by kernel_rfl) (fun _ _ _ h => h) (by kernel_rfl) ?_ (by assumption) ?_
  rotate_left
  · intro wz hSw; (try dsimp only at hSw); go_simp; try with_reducible rfl
  simp only [Act.put, List.setIfInBounds_toArray, List.set_cons_zero, List.set_cons_succ]
  refine takeZ_yes (i := 18) (v := ?_) rfl (by kernel_rfl) (by kernel_rfl) (by kernel_rfl) (by kernel_rfl) (fun _ _ _ h => h) (by kernel_rfl) ?_ (by assumption) ?_
  rotate_left
  · intro wz hSw; (try dsimp only at hSw); go_simp; try with_reducible rfl
  simp only [Act.put, List.setIfInBounds_toArray, List.set_cons_zero, List.set_cons_succ]
  refine wpAnyZ_ready (rs := [1]) (by kernel_rfl) (by simp) (AllReadyZ.cons rfl (fun K hK => ?_) AllReadyZ.nil)
  go_simp
  have O0 := OutB.lit1 w
  refine hK.out _ _ (HC.out _ O0.bel) (fun hHeld => ?_)
  clear hK K
  try simp only [Act.put, List.setIfInBounds_toArray, List.set_cons_zero, List.set_cons_succ]
  refine wpAnyZ_ready (rs := [8]) (by kernel_rfl) (by simp) (AllReadyZ.cons rfl (fun K hK => ?_) AllReadyZ.nil)
  refine step_append_any _ rfl (.tmp 34) (.tmp 40) _ rfl w.heap.size 5 i0 (.int .u8 0) 1 1 Try.underlying39 hi hz0 hz1 hz2 rfl (Nat.lt_succ_self 0) _ 0 [] rfl O0.own w.heap.size A q c (cellsOf .u8 (m.b.take q)) rfl (HPRE.out _ O0.bel) (cellsOf_one _ _) k1 k4 O0.bel.size ?_
  intro v1 w1 ho1 hg1 hat1
  have O1 := O0.app (ys := m.b.take q) ho1 hg1
  rw [Nat.zero_add] at O1
  obtain ⟨A1, c1, rfl, -, -⟩ := own_form O1.own
  clear ho1 hg1 hat1
  refine hK.out _ _ (HC.out _ O1.bel) (fun hHeld => ?_)
  clear hK K
  try simp only [Act.put, List.setIfInBounds_toArray, List.set_cons_zero, List.set_cons_succ]
  refine wpAnyZ_ready (rs := [10]) (by kernel_rfl) (by simp) (AllReadyZ.cons rfl (fun K hK => ?_) AllReadyZ.nil)
  go_simp
  go_at_call 48
  refine (HB8.out _).mono ?_
  rintro e w2 ⟨A2, c2, rfl, ho2, hb2⟩
  have O2 := O1.below hb2
  have R2 := Reads.of_own ho2
  clear ho2 hb2
  refine hK.out _ _ (HC.out _ O2.bel) (fun hHeld => ?_)
  clear hK K
  try simp only [Act.put, List.setIfInBounds_toArray, List.set_cons_zero, List.set_cons_succ]
  refine wpAnyZ_ready (rs := [11]) (by kernel_rfl) (by simp) (AllReadyZ.cons rfl (fun K hK => ?_) AllReadyZ.nil)
  refine step_append_any _ rfl (.tmp 41) (.tmp 43) _ rfl w.heap.size 5 i0 (.int .u8 0) 1 1 Try.underlying39 hi hz0 hz1 hz2 rfl (Nat.lt_succ_self 0) _ q _ rfl O2.own w2.heap.size A2 8 c2 (cellsOf .u8 (bts n 8)) rfl R2 (cellsOf_one _ _) k2 k5 O2.bel.size ?_
  intro v3 w3 ho3 hg3 hat3
  have O3 := O2.app ho3 hg3
  obtain ⟨A3, c3, rfl, -, -⟩ := own_form O3.own
  clear ho3 hg3 hat3
  refine hK.out _ _ (HC.out _ O3.bel) (fun hHeld => ?_)
  clear hK K
  try simp only [Act.put, List.setIfInBounds_toArray, List.set_cons_zero, List.set_cons_succ]
  refine wpAnyZ_ready (rs := [19]) (by kernel_rfl) (by simp) (AllReadyZ.cons rfl (fun K hK => ?_) AllReadyZ.nil)
  refine step_append_any _ rfl (.tmp 44) (.tmp 51) _ rfl w.heap.size 5 i0 (.int .u8 0) 1 1 Try.underlying39 hi hz0 hz1 hz2 rfl (Nat.lt_succ_self 0) _ (q + 8) _ rfl O3.own w.heap.size _ (L - e8) (c - e8) (cellsOf .u8 (m.b.drop e8)) rfl (HSUB.out _ O3.bel) (cellsOf_one _ _) k3 k6 O3.bel.size ?_
  intro v4 w4 ho4 hg4 hat4
  have O4 := O3.app ho4 hg4
  obtain ⟨A4, c4, rfl, -, -⟩ := own_form O4.own
  clear ho4 hg4 hat4 O0 O1 O2 O3 R2
  rw [HSP.out] at O4
  have h5 := HC.out _ O4.bel
  obtain ⟨g5, -, -, -⟩ := HX.out _ O4.bel
  refine hK.out _ _ h5 (fun hHeld => ?_)
  clear hK K
  try simp only [Act.put, List.setIfInBounds_toArray, List.set_cons_zero, List.set_cons_succ]
  refine takeZ_yes (i := 20) (v := ?_) rfl (by kernel_rfl) (by kernel_rfl) (by kernel_rfl) (by kernel_rfl) (fun _ _ _ h => h) (by kernel_rfl) ?_ (by assumption) ?_
  rotate_left
  · intro wz hSw; (try dsimp only at hSw); go_simp; try with_reducible rfl
  simp only [Act.put, List.setIfInBounds_toArray, List.set_cons_zero, List.set_cons_succ]
  refine takeZ_yes (i := 21) (v := ?_) rfl (by kernel_rfl) (by kernel_rfl) (by kernel_rfl) (by kernel_rfl) (fun _ _ _ h => h) (by kernel_rfl) ?_ (by assumption) ?_
  rotate_left
  · intro wz hSw; (try dsimp only at hSw); go_simp; try with_reducible rfl
  simp only [Act.put, List.setIfInBounds_toArray, List.set_cons_zero, List.set_cons_succ]
  refine wpAnyZ_ready (rs := [22]) (by kernel_rfl) (by simp) (AllReadyZ.last rfl (fun K hK => ?_))
  go_simp
  refine hK.out _ _ ?_
  clear hK K
  try simp only [Act.put, List.setIfInBounds_toArray, List.set_cons_zero, List.set_cons_succ]
  refine wpAnyZ_done (by kernel_rfl) ?_ _
  have hn4 := O4.own
  rw [← HSL.out] at hn4
  obtain ⟨hx5, hc5⟩ := HI.out.setB hn4 O4.bel
  rw [HSL.out] at hx5 hc5
  have HX5 := Lib.hid hx5
  have HC5 := Lib.hid hc5
  generalize w4.setCell ⟨p, 5, none⟩ (.slice A4 (q + 8 + (L - e8)) c4) = w5 at HX5 HC5 ⊢
  clear hn4 hx5 hc5 h5 g5 O4 hHeld hb c5
  obtain ⟨⟨-, -, -, -, -, -, c6, -, c8⟩, -⟩ := nine HX5.out.blk
  obtain ⟨nw, hnw⟩ : ∃ nw, nw = m.words.length := ⟨_, rfl⟩
  obtain ⟨o, ho⟩ : ∃ o, o = m.was.length := ⟨_, rfl⟩
  have HNW := Lib.hid hnw
  have hN := HN8.out
  have hol : o ≤ 1099511627776 := by have h1 := HG.out.le; have h2 := HLE.out; omega
  rw [← hnw] at hN c8
  rw [← ho] at c6
  have u2 : nw + 1 ≤ maxLen := by unfold maxLen; omega
  have u3 : (nw + 1) * 8 ≤ 140737488355328 := by omega
  have hgr : Hid (∀ j, grow S w w4 j → S j ∨ w.heap.size ≤ j) := fun j hj => hj.imp id (fun x => x.1)
  by_cases hlt : q < o
  · have hlt2 : (q : Int) < (o : Int) := by omega
    have HP : Hid (m.put8 q n = { { m with b := splice m.b q (bts n 8) } with words := m.words ++ [q] }) := by show _ = _; unfold IM.put8; rw [if_pos (by rw [← ho]; exact hlt)]
    obtain ⟨⟨-, -, -, -, -, -, -, -, e8b⟩, -⟩ := nine (HX5.out.blk.alloc (.cells #[.int .i64 (q : Int)] 3))
    rw [← hnw] at e8b
    have hrow := (HX5.out.set).alloc (.cells #[.int .i64 (q : Int)] 3)
    rw [show (IM.mk (splice m.b q (bts n 8)) m.was m.words m.lim).words.length = nw from hnw.symm] at hrow
    have hbas : base ≤ (w5.alloc (.cells #[.int .i64 (q : Int)] 3)).heap.size := by have := HX5.out.bas; simp; omega
    rw [← hnw] at HX5
    clear hlt hnw ho hN
    go_wp2_with (at_builtin; go_loud (refine wpList_append_any _ rfl _ _ _ rfl base 3 iw (.int .i64 0) 1 8 Try.underlying48 hiw hw0 hw1 hw2 rfl (Nat.lt_succ_self 0) (.slice As nw cs) nw (cellsOf .i64 (nats m.words)) rfl hrow _ _ 1 1 (cellsOf .i64 [(q : Int)]) rfl (Reads.new1 _ _ _) (one_oneCell _ _) u2 u3 hbas ?_; intro v6 w6 ho6 hg6 hat6; obtain ⟨A6, c6b, rfl, -, -⟩ := own_form ho6; obtain ⟨g8, f8⟩ := HX5.out.cell8 _ hg6; have HT := Lib.hid (HX5.out.pushed (q := q) (w1 := w6) _ hg6 ho6 (by simpa using hat6) HNW.out); clear ho6 hg6 hat6 hrow))
    all_goals
      go_ret
      rw [HP.out]
      exact ⟨rfl, HT.out.later HC5.out hgr.out HI.out.foot HI.out.bas⟩
  · have hlt2 : ¬ (q : Int) < (o : Int) := by omega
    have HP : Hid (m.put8 q n = { m with b := splice m.b q (bts n 8) }) := by show _ = _; unfold IM.put8; rw [if_neg (by rw [← ho]; exact hlt)]
    clear hlt hnw ho hN
    go_wp2
    all_goals
      go_ret
      rw [HP.out]
      exact ⟨rfl, (RXT.same HX5.out).later HC5.out hgr.out HI.out.foot HI.out.bas⟩

/-- The document's Set. -/
theorem rset_any (at_ n : Int) (w : World) (H : RX w base S p i k d f h m bv wv sv) (hg : m.Good) (hn : 0 ≤ n ∧ n < 18446744073709551616) (h0 : -9223372036854775808 ≤ at_) (h1 : at_ ≤ 9223372036854775807) (hl : m.b.length ≤ 1099511627776) (hN : m.words.length ≤ 1000000000) :
    Calls Try.prog 36 #[.pointer (some ⟨p, 0, none⟩), .int .i64 at_, .int .u64 n] w fun e w' => e = .returned (.int .i64 (m.setE at_)) ∧ RXT base S p i k d f h (m.set at_ n) w w' := by
  by_cases hm : m.may at_ = true
  · obtain ⟨q, rfl, q1, q2, q3⟩ := IM.may_at hm
    by_cases hz : m.word q = 0
    · have e1 : m.setE q = 0 := by unfold IM.setE; rw [if_pos hm, if_pos hz]
      have e2 : m.set q n = m.put8 q n := by unfold IM.set; rw [if_pos e1]; rfl
      rw [e1, e2]
      exact rset_yes q n w H hg hn q1 q2 q3 hl hN hz
    · have e1 : m.setE q = 7 := by unfold IM.setE; rw [if_pos hm, if_neg hz]
      have e2 : m.set q n = m := by unfold IM.set; rw [if_neg (by rw [e1]; omega)]
      rw [e1, e2]
      exact (rset_twice q n w H hg.bb q1 q2 q3 hl hz).mono fun e w' ⟨he, hw⟩ => ⟨he, hw ▸ RXT.same H⟩
  · have e1 : m.setE at_ = 1 := by unfold IM.setE; rw [if_neg hm]
    have e2 : m.set at_ n = m := by unfold IM.set; rw [if_neg (by rw [e1]; omega)]
    rw [e1, e2]
    exact (rset_no at_ n w H hg.bb h0 h1 (by simpa using hm)).mono fun e w' ⟨he, hw⟩ => ⟨he, hw ▸ RXT.same H⟩

/-! ### Done, Back -/
theorem rdone_any (w : World) (H : RX w base S p i k d f h m bv wv sv) (hl : m.b.length ≤ 1099511627776) :
    Calls Try.prog 16 #[.pointer (some ⟨p, 0, none⟩)] w fun e w' => e = .returned (.tuple #[]) ∧ RXT base S p i k d f h m.done w w' := by
  obtain ⟨i0, hi, hz0, hz1, hz2⟩ := info_parts byteInfo
  obtain ⟨A, c, rfl, r1, r2, r3⟩ := H.reads
  obtain ⟨L, hL⟩ : ∃ L, L = m.b.length := ⟨_, rfl⟩
  have hc0 := fun w1 (hb : Below w.heap.size w w1) => nine (H.below hb).blk
  rw [← hL] at hc0 r3 hl
  have HC := Lib.hid hc0
  have HR := Lib.hid (r3.alloc (Nat.le_refl _) (.cells #[] 5))
  have HI := Lib.hid H
  have HL := Lib.hid hL
  obtain ⟨⟨-, -, -, -, -, d5, -, -, -⟩, -⟩ := HC.out _ (boxed w (.cells #[] 5))
  have k1 : 0 + L ≤ maxLen := by unfold maxLen; omega
  have k2 : (0 + L) * 1 ≤ 140737488355328 := by omega
  clear H r1 r2 r3 hc0 hL
  go_enter Try.func16, Try.ntmps16
  go_wp2_with (at_builtin; go_loud (refine wpList_append_any _ rfl _ _ _ rfl w.heap.size 5 i0 (.int .u8 0) 1 1 Try.underlying39 hi hz0 hz1 hz2 rfl (Nat.lt_succ_self 0) _ 0 [] rfl (OutB.lit w).own w.heap.size A L c (cellsOf .u8 m.b) rfl HR.out (cellsOf_one _ _) k1 k2 (OutB.lit w).bel.size ?_; intro v1 w1 ho1 hg1 hat1; have O1 := (OutB.lit w).app (ys := m.b) ho1 hg1; rw [Nat.zero_add] at O1; obtain ⟨A1, c1, rfl, -, -⟩ := own_form O1.own; obtain ⟨⟨-, -, -, -, -, -, e6, -, e8⟩, -, f6, -, f8⟩ := HC.out _ O1.bel; have HO1 := Lib.hid O1; clear ho1 hg1 hat1 O1))
  go_end0
  have hn1 := HO1.out.own
  rw [HL.out] at hn1 ⊢
  exact ⟨rfl, HI.out.setDone hn1 HO1.out.bel⟩

theorem rback_any (w : World) (H : RX w base S p i k d f h m bv wv sv) (hl : m.was.length ≤ 1099511627776) :
    Calls Try.prog 38 #[.pointer (some ⟨p, 0, none⟩)] w fun e w' => e = .returned (.tuple #[]) ∧ RXT base S p i k d f h m.back w w' := by
  obtain ⟨i0, hi, hz0, hz1, hz2⟩ := info_parts byteInfo
  obtain ⟨A, c, rfl, r1, r2, r3⟩ := H.wasR
  obtain ⟨L, hL⟩ : ∃ L, L = m.was.length := ⟨_, rfl⟩
  have hc0 := fun w1 (hb : Below w.heap.size w w1) => nine (H.below hb).blk
  rw [← hL] at hc0 r3 hl
  have HC := Lib.hid hc0
  have HR := Lib.hid (r3.alloc (Nat.le_refl _) (.cells #[] 5))
  have HI := Lib.hid H
  have HL := Lib.hid hL
  obtain ⟨⟨-, -, -, -, -, -, d6, -, -⟩, -⟩ := HC.out _ (boxed w (.cells #[] 5))
  have k1 : 0 + L ≤ maxLen := by unfold maxLen; omega
  have k2 : (0 + L) * 1 ≤ 140737488355328 := by omega
  clear H r1 r2 r3 hc0 hL
  go_enter Try.func38, Try.ntmps38
  go_wp2_with (at_builtin; go_loud (refine wpList_append_any _ rfl _ _ _ rfl w.heap.size 5 i0 (.int .u8 0) 1 1 Try.underlying39 hi hz0 hz1 hz2 rfl (Nat.lt_succ_self 0) _ 0 [] rfl (OutB.lit w).own w.heap.size A L c (cellsOf .u8 m.was) rfl HR.out (cellsOf_one _ _) k1 k2 (OutB.lit w).bel.size ?_; intro v1 w1 ho1 hg1 hat1; have O1 := (OutB.lit w).app (ys := m.was) ho1 hg1; rw [Nat.zero_add] at O1; obtain ⟨A1, c1, rfl, -, -⟩ := own_form O1.own; obtain ⟨⟨-, -, -, -, -, e5, -, -, e8⟩, f5, -, -, f8⟩ := HC.out _ O1.bel; have HO1 := Lib.hid O1; clear ho1 hg1 hat1 O1))
  go_end0
  have hn1 := HO1.out.own
  rw [HL.out] at hn1 ⊢
  exact ⟨rfl, HI.out.setBack hn1 HO1.out.bel⟩
end

end Go.Proofs.Ythdnjjdlhhapbaa
