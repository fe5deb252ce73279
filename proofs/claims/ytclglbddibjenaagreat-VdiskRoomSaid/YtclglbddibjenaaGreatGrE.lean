/-
  MERGED BY PROGRAM out of the texts DirRef DirRef2 DirRef3 DirRef4.
-/
import Derived.Test.YtclglbddibjenaaGreatGrD
import Derived.Test.YtclglbddibjenaaGreatGrB
import Derived.Test.YtclglbddibjenaaGreatGrC
import Derived.Deep.Grids
import Derived.Deep.RegionHeld3

/-
  LAYER 7: WHAT THE DOCUMENT'S OWN Get, without, with AND Names DO: contracts.
-/
set_option linter.unusedVariables false
set_option linter.unusedSimpArgs false
namespace Go.Proofs.YtclglbddibjenaaGreat
open Go.RowKit

theorem nameInfo : (Tryz.prog.info? 85).map (fun i => (i.zero, i.size, i.bytes)) = some (some (.agg #[.string ⟨#[]⟩, .int .i64 0]), 2, 24) := by kernel_rfl
theorem strInfo : (Tryz.prog.info? 9).map (fun i => (i.zero, i.size, i.bytes)) = some (some (.string ⟨#[]⟩), 1, 16) := by kernel_rfl

/-- A slice that reads as names. -/
structure Nms (w : World) (B : Nat) (A : Option Addr) (n c : Nat) (l : NmL) : Prop where
  reads : Reads w B 2 A n (namesC l)
  len : l.length = n
  le : n ≤ c
  cap : c ≤ 9223372036854775807

section
variable {w w' : World} {B n c : Nat} {A : Option Addr} {l : NmL}
theorem Nms.at_ {k : Nat} (h : Nms w B A n c l) (hk : k < n) : ∃ (b off : Nat) (p : ByteArray × Int), A = some ⟨b, off, none⟩ ∧ b < B ∧ l[k]? = some p ∧ w.cell? ⟨b, off + k * 2, none⟩ = some (.string p.1) ∧ w.cell? ⟨b, off + k * 2 + 1, none⟩ = some (.int .i64 p.2) := by
  obtain ⟨b, off, e, hb, hc⟩ := h.reads.at2 (by omega) (by omega)
  have hl : k < l.length := by rw [h.len]; exact hk
  obtain ⟨h0, h1⟩ := namesC_get (List.getElem?_eq_getElem hl)
  exact ⟨b, off, l[k], e, hb, List.getElem?_eq_getElem hl, hc _ _ h0, by have := hc _ _ h1; rwa [← Nat.add_assoc] at this⟩
theorem Nms.below (h : Nms w B A n c l) (hb : Below B w w') : Nms w' B A n c l := ⟨h.reads.below hb, h.len, h.le, h.cap⟩
theorem Nms.drewN (h : Nms w B A n c l) (k : Nat) : Nms (w.drewN k) B A n c l := ⟨h.reads.drewN k, h.len, h.le, h.cap⟩
theorem Nms.of_own {base : Nat} {v : Value} (h : w.ownsRow base 85 2 v l.length (namesC l)) : ∃ A c, v = .slice A l.length c ∧ Nms w w.heap.size A l.length c l := by
  obtain ⟨A, c, rfl, h1, h2, hr⟩ := own_reads h
  exact ⟨A, c, rfl, hr, rfl, h1, by unfold maxLen at h2; omega⟩
end

theorem get_at {l : NmL} {k : Nat} {p : ByteArray × Int} {x : ByteArray} (h : l[k]? = some p) (hn : ∀ j, j < k → ∀ q, l[j]? = some q → q.1 ≠ x) (hp : p.1 = x) : getN l x = some p.2 := by
  obtain ⟨hlt, he⟩ := List.getElem?_eq_some_iff.1 h
  rw [getN_at hlt (fun j hj => hn j hj _ (List.getElem?_eq_getElem (by omega))), he, if_pos hp]
theorem get_no {l : NmL} {x : ByteArray} (hn : ∀ j, j < l.length → ∀ q, l[j]? = some q → q.1 ≠ x) : getN l x = none := getN_no fun j hj => hn j hj _ (List.getElem?_eq_getElem hj)

theorem rget_any (A : Option Addr) (n c B : Nat) (l : NmL) (x : ByteArray) (w : World) (h : Nms w B A n c l) :
    Calls Tryz.prog 63 #[.slice A n c, .string x] w fun e w' => e = .returned (.tuple #[.int .i64 ((getN l x).getD 0), .bool (getN l x).isSome]) ∧ w = w' := by
  have hle := h.le
  have hcap := h.cap
  have H := Lib.hid h
  clear h
  go_enter Tryz.func63, Tryz.ntmps63
  go_wp2
  go_loop [6] (fun i => ∃ k : Nat, k ≤ n ∧ i = .int .i64 k ∧ Hid (∀ j, j < k → ∀ q, l[j]? = some q → q.1 ≠ x)) (fun i => n - (intOf i).toNat)
  case atStart => exact ⟨0, Nat.zero_le _, rfl, Lib.hid (fun j hj => absurd hj (by omega))⟩
  case round =>
    obtain ⟨k, hk, rfl, hall⟩ := hrel
    by_cases hlt : k < n
    · obtain ⟨b, off, p, rfl, hb, hp, c0, c1⟩ := H.out.at_ hlt
      have hlti : (k : Int) < (n : Int) := by omega
      by_cases hx : p.1 = x
      · have HG := Lib.hid (get_at hp hall.out hx)
        have d1 : (p.1.toList == x.toList) = true := by rw [beq_text]; exact decide_eq_true hx
        clear hp hx
        go_wp2
        go_ret2
        exact ⟨by rw [HG.out]; rfl, rfl⟩
      · have d1 : (p.1.toList == x.toList) = false := by rw [beq_text]; exact decide_eq_false hx
        have HN := Lib.hid (show ∀ j, j < k + 1 → ∀ q, l[j]? = some q → q.1 ≠ x from fun j hj q hq => by
          rcases Nat.lt_or_ge j k with e | e
          · exact hall.out j e q hq
          · obtain rfl : j = k := by omega
            rw [hp] at hq; injection hq with hq; subst hq; exact hx)
        clear hp hx
        go_wp2
        go_round
        case rel => exact ⟨k + 1, by omega, by go_num, HN⟩
        case measure => simp [intOf]; omega
    · obtain rfl : k = n := by omega
      have hlti : ¬ (k : Int) < (k : Int) := by omega
      have HG := Lib.hid (get_no (l := l) (x := x) (fun j hj => hall.out j (by rw [← H.out.len]; exact hj)))
      go_wp2
      go_ret2
      exact ⟨by rw [HG.out]; rfl, rfl⟩

/-- Names of its own have been told. -/
def GivesN (l : NmL) (w : World) (e : Ending) (w' : World) : Prop := ∃ A c, e = .returned (.slice A l.length c) ∧ w'.ownsRow w.heap.size 85 2 (.slice A l.length c) l.length (namesC l) ∧ Below w.heap.size w w'

/-- At the head of each round: the names that have been put down. -/
structure OutAt (w wr : World) (A : Option Addr) (m c : Nat) (out : NmL) : Prop where
  len : out.length = m
  own : wr.ownsRow w.heap.size 85 2 (.slice A m c) m (namesC out)
  below : Below w.heap.size w wr
theorem OutAt.start (w : World) : OutAt w w none 0 0 [] := ⟨rfl, World.ownsRow_nil _ _ _ _, Below.refl _ _⟩
theorem OutAt.gives {w wr : World} {A : Option Addr} {m c : Nat} {out : NmL} (h : OutAt w wr A m c out) : GivesN out w (.returned (.slice A m c)) wr := by
  obtain ⟨rfl, h2, h3⟩ := h
  exact ⟨A, c, rfl, h2, h3⟩
theorem OutAt.push {w wr w1 : World} {A : Option Addr} {m c : Nat} {out : NmL} {p : ByteArray × Int} {v : Value} {o : Obj} (h : OutAt w wr A m c out) (hown : w1.ownsRow w.heap.size 85 2 v (m + 1) (namesC out ++ nameC p)) (hg : (wr.alloc o).grownBy w1 (Value.slice A m c).ownBlock) :
    ∃ A' c', v = .slice A' (m + 1) c' ∧ OutAt w w1 A' (m + 1) c' (out ++ [p]) := by
  obtain ⟨A', c', rfl, -, -⟩ := own_form hown
  refine ⟨A', c', rfl, by simp [h.len], by rw [namesC_append, namesC_one]; exact hown, ?_⟩
  exact (h.below.alloc h.below.size o).grown hg (by have := h.below.size; simp; omega) (fun g hg => (h.own.lt g hg).1)

theorem new2 (w : World) (t : TypeId) (p : ByteArray × Int) : Reads (w.alloc (.cells #[.string p.1, .int .i64 p.2] t)) (w.heap.size + 1) 2 (some ⟨w.heap.size, 0, none⟩) 1 (nameC p) := new66 w t #[.string p.1, .int .i64 p.2] 2 rfl

set_option maxHeartbeats 1000000 in
theorem rwo_any (A : Option Addr) (n c B : Nat) (l : NmL) (x : ByteArray) (w : World) (h : Nms w B A n c l) (hB : B ≤ w.heap.size) (hn : n ≤ 1000000) :
    Calls Tryz.prog 118 #[.slice A n c, .string x] w (GivesN (woN l x) w) := by
  obtain ⟨i0, hi, hz0, hz1, hz2⟩ := info_parts nameInfo
  have hle := h.le
  have hcap := h.cap
  have H := Lib.hid h
  clear h
  go_enter Tryz.func118, Tryz.ntmps118
  go_wp2
  go_loopw [5, 6] (fun v i wr => ∃ (k m c' : Nat) (A' : Option Addr), k ≤ n ∧ m ≤ k ∧ v = .slice A' m c' ∧ i = .int .i64 k ∧ Hid (OutAt w wr A' m c' (woN (l.take k) x))) (fun _ i _ => n - (intOf i).toNat)
  case atStart => exact ⟨0, 0, 0, none, Nat.zero_le _, Nat.zero_le _, rfl, rfl, Lib.hid (OutAt.start w)⟩
  case round =>
    obtain ⟨k, m, c', A', hk, hm, rfl, rfl, O⟩ := hrel
    by_cases hlt : k < n
    · obtain ⟨b, off, p, rfl, hb, hp, c0, c1⟩ := (H.out.below (O.out.below.mono hB)).at_ hlt
      have hlti : (k : Int) < (n : Int) := by omega
      have hll : k < l.length := by rw [H.out.len]; exact hlt
      have hpe : l[k] = p := by rw [List.getElem?_eq_getElem hll] at hp; injection hp
      have hnx := woN_next x hll
      rw [hpe] at hnx
      by_cases hx : p.1 = x
      · have d1 : (p.1.toList == x.toList) = true := by rw [beq_text]; exact decide_eq_true hx
        rw [if_pos hx] at hnx
        have HN := Lib.hid (show OutAt w wr A' m c' (woN (l.take (k + 1)) x) by rw [hnx]; exact O.out)
        clear hp hx hnx hpe
        go_wp2
        go_roundw
        case rel => exact ⟨k + 1, m, c', A', by omega, by omega, rfl, by go_num, HN⟩
        case measure => simp [intOf]; omega
      · have d1 : (p.1.toList == x.toList) = false := by rw [beq_text]; exact decide_eq_false hx
        rw [if_neg hx] at hnx
        have HX := Lib.hid hnx
        have s2 : m + 1 ≤ maxLen := by unfold maxLen; omega
        have s3 : (m + 1) * 24 ≤ 140737488355328 := by omega
        clear hp hx hnx hpe
        go_wp2_with (at_builtin; go_loud (refine wpList_append_any _ rfl _ _ _ rfl w.heap.size 85 i0 _ 2 24 Tryz.underlying41 hi hz0 hz1 hz2 rfl (Nat.zero_lt_succ 1) (.slice A' m c') m _ rfl (O.out.own.alloc _) _ _ 1 1 (nameC p) rfl (new2 _ _ _) (nameC_one _) s2 s3 (by have := O.out.below.size; simp; omega) ?_; intro v1 w1 hown1 hg1 hat1; clear hat1; obtain ⟨A1, c1', rfl, hO⟩ := O.out.push hown1 hg1; have HO := Lib.hid hO; clear hown1 hg1 hO))
        go_roundw
        case rel => exact ⟨k + 1, m + 1, c1', A1, by omega, by omega, rfl, by go_num, Lib.hid (by rw [HX.out]; exact HO.out)⟩
        case measure => simp [intOf]; omega
    · obtain rfl : k = n := by omega
      have hlti : ¬ (k : Int) < (k : Int) := by omega
      have HE := Lib.hid (show GivesN (woN l x) w (.returned (.slice A' m c')) wr by
        have := O.out.gives
        rwa [List.take_of_length_le (by rw [H.out.len]; exact Nat.le_refl _)] at this)
      go_wp2
      go_ret
      exact HE.out

theorem GivesN.nms {l : NmL} {w w' : World} {e : Ending} (h : GivesN l w e w') : ∃ A n c, e = .returned (.slice A n c) ∧ n = l.length ∧ Nms w' w'.heap.size A n c l ∧ Below w.heap.size w w' := by
  obtain ⟨A, c, rfl, h1, h2⟩ := h
  obtain ⟨A', c', e, h3⟩ := Nms.of_own h1
  injection e with e1 _ e3
  subst e1; subst e3
  exact ⟨A, _, c, rfl, rfl, h3, h2⟩
theorem GivesN.later {l : NmL} {w w1 w' : World} {e : Ending} (hb : Below w.heap.size w w1) (h : GivesN l w1 e w') : GivesN l w e w' := by
  obtain ⟨A, c, rfl, h1, h2⟩ := h
  exact ⟨A, c, rfl, own_base h1 hb.size, hb.trans (h2.mono hb.size)⟩

theorem sm2 {m k : Nat} (h : m ≤ 2 * k) (h2 : k ≤ 900000) : m ≤ 2000000 := by omega
theorem sm24 {m : Nat} (h : m ≤ 2000000) : m + 1 ≤ maxLen ∧ (m + 1) * 24 ≤ 140737488355328 ∧ m + 1 + 1 ≤ maxLen ∧ (m + 1 + 1) * 24 ≤ 140737488355328 := by
  unfold maxLen
  refine ⟨?_, ?_, ?_, ?_⟩ <;> omega

theorem wrun_put {st : NmL × Bool} {x : ByteArray} {i : Int} {p : ByteArray × Int} (h1 : st.2 = false) (h2 : cfT x p.1 < 0) : wStep cfT x i st p = (st.1 ++ [(x, i)] ++ [p], true) := by
  unfold wStep; rw [if_pos ⟨h1, h2⟩]; simp
theorem wrun_by {st : NmL × Bool} {x : ByteArray} {i : Int} {p : ByteArray × Int} (h : st.2 = true ∨ ¬ cfT x p.1 < 0) : wStep cfT x i st p = (st.1 ++ [p], st.2) := by
  unfold wStep
  rw [if_neg (fun hh => by
    rcases h with h | h
    · rw [h] at hh; cases hh.1
    · exact h hh.2)]

set_option maxHeartbeats 2000000 in
set_option maxRecDepth 100000 in
theorem rwith_any (A : Option Addr) (n c B : Nat) (l : NmL) (x : ByteArray) (id : Int) (w : World) (h : Nms w B A n c l) (hB : B ≤ w.heap.size) (hn : n ≤ 900000) :
    Calls Tryz.prog 117 #[.slice A n c, .string x, .int .i64 id] w (GivesN (withN cfT l x id) w) := by
  obtain ⟨i0, hi, hz0, hz1, hz2⟩ := info_parts nameInfo
  have hll := woN_length l x
  have hle0 := h.len
  have WO := Lib.hid (rwo_any A n c B l x w h hB (by omega))
  have HW := Lib.hid (show withN cfT l x id = insN cfT (woN l x) x id from rfl)
  generalize woN l x = L at WO HW hll
  clear h
  go_enter Tryz.func117, Tryz.ntmps117
  go_wp2_with (go_at_call 118; go_loud (refine WO.out.mono ?_; rintro e w1 hg; obtain ⟨AL, nL, cL, rfl, hnL, hL, hbL⟩ := hg.nms; have HL := Lib.hid hL; have HB := Lib.hid hbL; have HNL := Lib.hid hnL; have hLn : nL ≤ 900000 := (by omega); clear hg hL hbL hnL))
  have hle := HL.out.le
  have hcap := HL.out.cap
  clear hll hle0
  go_loopw [7, 8, 9] (fun v dn i wr => ∃ (k m c' : Nat) (A' : Option Addr) (bd : Bool), k ≤ nL ∧ m ≤ 2 * k ∧ v = .slice A' m c' ∧ dn = .bool bd ∧ i = .int .i64 k ∧ Hid ((wRun cfT x id (L.take k)).2 = bd) ∧ Hid (OutAt w1 wr A' m c' (wRun cfT x id (L.take k)).1)) (fun _ _ i _ => nL - (intOf i).toNat)
  case atStart => exact ⟨0, 0, 0, none, false, Nat.zero_le _, Nat.zero_le _, rfl, rfl, rfl, Lib.hid rfl, Lib.hid (OutAt.start w1)⟩
  case round =>
    obtain ⟨k, m, c', A', bd, hk, hm, rfl, rfl, rfl, D, O⟩ := hrel
    have hm2 : m ≤ 2000000 := sm2 hm (Nat.le_trans hk hLn)
    obtain ⟨s2, s3, s4, s5⟩ := sm24 hm2
    by_cases hlt : k < nL
    · obtain ⟨b, off, p, rfl, hb, hp, c0, c1⟩ := HL.out.at_ hlt
      have hlti : (k : Int) < (nL : Int) := by omega
      have hLl : k < L.length := by rw [← HNL.out]; exact hlt
      have hpe : L[k] = p := by rw [List.getElem?_eq_getElem hLl] at hp; injection hp
      have hnx := wRun_next (cf := cfT) x id hLl
      rw [hpe] at hnx
      have e0 := (O.out.below.cell (p := ⟨b, off + k * 2, none⟩) (by show b < _; omega)).trans c0
      have e1 := (O.out.below.cell (p := ⟨b, off + k * 2 + 1, none⟩) (by show b < _; omega)).trans c1
      have kl : k < nL := hlt
      cases bd with
      | true =>
        rw [wrun_by (.inl D.out), D.out] at hnx
        have HX := Lib.hid hnx
        clear hp hnx hpe c0 c1
        go_wp2_with (at_builtin; go_loud (refine wpList_append_any _ rfl _ _ _ rfl w1.heap.size 85 i0 _ 2 24 Tryz.underlying41 hi hz0 hz1 hz2 rfl (Nat.zero_lt_succ 1) (.slice A' m c') m _ rfl (O.out.own.alloc _) _ _ 1 1 (nameC p) rfl (new2 _ _ _) (nameC_one _) s2 s3 (by have := O.out.below.size; simp; omega) ?_; intro v1 w2 hown1 hg1 hat1; clear hat1; obtain ⟨A1, c1', rfl, hO⟩ := O.out.push hown1 hg1; have HO := Lib.hid hO; clear hown1 hg1 hO))
        go_roundw
        case rel => exact ⟨k + 1, m + 1, c1', A1, true, by omega, by omega, rfl, rfl, by go_num, Lib.hid (by rw [HX.out]), Lib.hid (by rw [HX.out]; exact HO.out)⟩
        case measure => simp [intOf]; omega
      | false =>
        by_cases hc : cfT x p.1 < 0
        · rw [wrun_put D.out hc] at hnx
          have HX := Lib.hid hnx
          have d1 : Op.bytesLess p.1.toList x.toList = false := by rw [less_cfT]; exact decide_eq_false (cfT_tot.asym hc)
          have d2 : (p.1.toList == x.toList) = false := by rw [beq_text]; exact decide_eq_false (fun e => by rw [e] at hc; exact cfT_tot.irr _ hc)
          have m1 : True := trivial
          have c0' := Lib.hid (And.intro c0 c1)
          clear hp hnx hpe c0 c1 hc
          go_wp2_with (first
            | (at_builtin; clear m1; go_loud (refine wpList_append_any _ rfl _ _ _ rfl w1.heap.size 85 i0 _ 2 24 Tryz.underlying41 hi hz0 hz1 hz2 rfl (Nat.zero_lt_succ 1) (.slice A' m c') m _ rfl (O.out.own.alloc _) _ _ 1 1 (nameC (x, id)) rfl (new2 _ _ (x, id)) (nameC_one _) s2 s3 (by have := O.out.below.size; simp; omega) ?_; intro v1 w2 hown1 hg1 hat1; clear hat1; obtain ⟨A1, c1', rfl, hO⟩ := O.out.push hown1 hg1; have e2 := (hO.below.cell (p := ⟨b, off + k * 2, none⟩) (by show b < _; omega)).trans (c0'.out.1); have e3 := (hO.below.cell (p := ⟨b, off + k * 2 + 1, none⟩) (by show b < _; omega)).trans (c0'.out.2); have HO := Lib.hid hO; clear hown1 hg1 hO))
            | (at_builtin; go_loud (refine wpList_append_any _ rfl _ _ _ rfl w1.heap.size 85 i0 _ 2 24 Tryz.underlying41 hi hz0 hz1 hz2 rfl (Nat.zero_lt_succ 1) (.slice A1 (m + 1) c1') (m + 1) _ rfl (HO.out.own.alloc _) _ _ 1 1 (nameC p) rfl (new2 _ _ _) (nameC_one _) s4 s5 (by have := HO.out.below.size; simp; omega) ?_; intro v3 w3 hown3 hg3 hat3; clear hat3; obtain ⟨A3, c3', rfl, hO3⟩ := HO.out.push hown3 hg3; have HO3 := Lib.hid hO3; clear hown3 hg3 hO3)))
          go_roundw
          case rel => exact ⟨k + 1, m + 1 + 1, c3', A3, true, by omega, by omega, rfl, rfl, by go_num, Lib.hid (by rw [HX.out]), Lib.hid (by rw [HX.out]; exact HO3.out)⟩
          case measure => simp [intOf]; omega
        · rw [wrun_by (.inr hc), D.out] at hnx
          have HX := Lib.hid hnx
          have dd : (Op.bytesLess p.1.toList x.toList = true) ∨ (Op.bytesLess p.1.toList x.toList = false ∧ (p.1.toList == x.toList) = true) := by
            rw [less_cfT, beq_text]
            rcases cfT_tot.tri p.1 x with e | e | e
            · exact .inl (decide_eq_true e)
            · exact .inr ⟨decide_eq_false (by rw [e]; exact cfT_tot.irr _), decide_eq_true e⟩
            · exact absurd e hc
          clear hp hnx hpe c0 c1 hc
          rcases dd with d1 | ⟨d1, d2⟩
          all_goals
            go_wp2_with (at_builtin; go_loud (refine wpList_append_any _ rfl _ _ _ rfl w1.heap.size 85 i0 _ 2 24 Tryz.underlying41 hi hz0 hz1 hz2 rfl (Nat.zero_lt_succ 1) (.slice A' m c') m _ rfl (O.out.own.alloc _) _ _ 1 1 (nameC p) rfl (new2 _ _ _) (nameC_one _) s2 s3 (by have := O.out.below.size; simp; omega) ?_; intro v1 w2 hown1 hg1 hat1; clear hat1; obtain ⟨A1, c1', rfl, hO⟩ := O.out.push hown1 hg1; have HO := Lib.hid hO; clear hown1 hg1 hO))
            go_roundw
            case rel => exact ⟨k + 1, m + 1, c1', A1, false, by omega, by omega, rfl, rfl, by go_num, Lib.hid (by rw [HX.out]), Lib.hid (by rw [HX.out]; exact HO.out)⟩
            case measure => simp [intOf]; omega
    · obtain rfl : k = nL := by omega
      have hlti : ¬ (k : Int) < (k : Int) := by omega
      have hall := wRun_all (cf := cfT) x id L
      have hD := D.out
      have hO := O.out
      rw [List.take_of_length_le (by rw [HNL.out]; exact Nat.le_refl _)] at hD hO
      rw [hD, ← HW.out] at hall
      cases bd with
      | true =>
        have HE := Lib.hid (show GivesN (withN cfT l x id) w (.returned (.slice A' m c')) wr by
          rw [← hall]
          exact GivesN.later HB.out hO.gives)
        clear hall hD hO
        go_wp2
        go_ret
        exact HE.out
      | false =>
        have HO2 := Lib.hid hO
        have HA := Lib.hid hall
        clear hall hD hO
        go_wp2_with (at_builtin; go_loud (refine wpList_append_any _ rfl _ _ _ rfl w1.heap.size 85 i0 _ 2 24 Tryz.underlying41 hi hz0 hz1 hz2 rfl (Nat.zero_lt_succ 1) (.slice A' m c') m _ rfl (HO2.out.own.alloc _) _ _ 1 1 (nameC (x, id)) rfl (new2 _ _ (x, id)) (nameC_one _) s2 s3 (by have := HO2.out.below.size; simp; omega) ?_; intro v1 w2 hown1 hg1 hat1; clear hat1; obtain ⟨A1, c1', rfl, hO⟩ := HO2.out.push hown1 hg1; have HE := Lib.hid (show GivesN (withN cfT l x id) w (.returned (.slice A1 (m + 1) c1')) w2 by rw [← HA.out]; exact GivesN.later HB.out hO.gives); clear hown1 hg1 hO))
        go_ret
        exact HE.out

end Go.Proofs.YtclglbddibjenaaGreat

/-
  LAYER 7: WHAT THE DOCUMENT'S OWN Names AND Did DO: contracts.
-/
set_option linter.unusedVariables false
set_option linter.unusedSimpArgs false
namespace Go.Proofs.YtclglbddibjenaaGreat
open Go.RowKit

theorem namesN_take (l : NmL) (k : Nat) : namesN (l.take k) = (namesN l).take k := by unfold namesN; rw [List.map_take]
theorem namesN_next {l : NmL} {k : Nat} {p : ByteArray × Int} (h : l[k]? = some p) : namesN (l.take (k + 1)) = namesN (l.take k) ++ [p.1] := by
  obtain ⟨hlt, he⟩ := List.getElem?_eq_some_iff.1 h
  unfold namesN
  rw [List.take_succ_eq_append_getElem hlt, he, List.map_append]; rfl

/-- At the head of each round: the names that have been told. -/
structure TxAt (w wr : World) (A : Option Addr) (k c : Nat) (l : NmL) : Prop where
  own : wr.ownsRow w.heap.size 9 1 (.slice A k c) k (cellsT (namesN (l.take k)))
  below : Below w.heap.size w wr

set_option maxHeartbeats 1000000 in
theorem rnames_any (A : Option Addr) (n c B : Nat) (l : NmL) (w : World) (h : Nms w B A n c l) (hB : B ≤ w.heap.size) (hn : n ≤ 1000000) (hok : ∀ q ∈ l, okN q) :
    Calls Tryz.prog 16 #[.slice A n c] w fun e w' => ∃ A c, e = .returned (.slice A n c) ∧ Txt w' w'.heap.size A n c (namesN l) ∧ Below w.heap.size w w' := by
  obtain ⟨i0, hi, hz0, hz1, hz2⟩ := info_parts strInfo
  have hle := h.le
  have hcap := h.cap
  have H := Lib.hid h
  have HOK := Lib.hid hok
  clear h hok
  go_enter Tryz.func16, Tryz.ntmps16
  go_wp2
  go_loopw [3, 4] (fun v i wr => ∃ (k c' : Nat) (A' : Option Addr), k ≤ n ∧ v = .slice A' k c' ∧ i = .int .i64 k ∧ Hid (TxAt w wr A' k c' l)) (fun _ i _ => n - (intOf i).toNat)
  case atStart => exact ⟨0, 0, none, Nat.zero_le _, rfl, rfl, Lib.hid ⟨by rw [List.take_zero]; exact World.ownsRow_nil _ _ _ _, Below.refl _ _⟩⟩
  case round =>
    obtain ⟨k, c', A', hk, rfl, rfl, O⟩ := hrel
    by_cases hlt : k < n
    · obtain ⟨b, off, p, rfl, hb, hp, c0, -⟩ := (H.out.below (O.out.below.mono hB)).at_ hlt
      have hlti : (k : Int) < (n : Int) := by omega
      have HX := Lib.hid (namesN_next hp)
      have s2 : k + 1 ≤ maxLen := by unfold maxLen; omega
      have s3 : (k + 1) * 16 ≤ 140737488355328 := by omega
      clear hp
      go_wp2_with (at_builtin; go_loud (refine wpList_append_any _ rfl _ _ _ rfl w.heap.size 9 i0 _ 1 16 Tryz.underlying39 hi hz0 hz1 hz2 rfl (Nat.zero_lt_succ 0) (.slice A' k c') k _ rfl (O.out.own.alloc _) _ _ 1 1 [.string p.1] rfl (Reads.new1 _ _ _) (fun u hu => by simp at hu; subst hu; rfl) s2 s3 (by have := O.out.below.size; simp; omega) ?_; intro v1 w1 hown1 hg1 hat1; clear hat1; obtain ⟨A1, c1', rfl, -, -⟩ := own_form hown1; have HO := Lib.hid (show TxAt w w1 A1 (k + 1) c1' l from ⟨by rw [HX.out, cellsT_append]; exact hown1, (O.out.below.alloc O.out.below.size _).grown hg1 (by have := O.out.below.size; simp; omega) (fun g hg => (O.out.own.lt g hg).1)⟩); clear hown1 hg1))
      go_roundw
      case rel => exact ⟨k + 1, c1', A1, by omega, rfl, by go_num, HO⟩
      case measure => simp [intOf]; omega
    · obtain rfl : k = n := by omega
      have hlti : ¬ (k : Int) < (k : Int) := by omega
      have HE := Lib.hid (show Txt wr wr.heap.size A' k c' (namesN l) by
        have ho := O.out.own
        rw [List.take_of_length_le (by rw [H.out.len]; exact Nat.le_refl _)] at ho
        obtain ⟨A1, c1, e, h1, h2⟩ := own_form ho
        injection e with e1 _ e3
        subst e1; subst e3
        refine Txt.of_own ho h1 h2 (fun s hs => ?_)
        obtain ⟨q, hq, rfl⟩ := List.mem_map.1 hs
        have := (HOK.out q hq).1
        unfold maxLen; omega)
      go_wp2
      go_ret
      exact ⟨A', c', rfl, HE.out, O.out.below⟩

/-! ### Did -/
/-- Names have been told, in a row that was there, or in one of its own. -/
def DidR (base : Nat) (v : Value) (l : NmL) (w : World) (e : Ending) (w' : World) : Prop :=
  ∃ A c, e = .returned (.slice A l.length c) ∧ w'.ownsRow base 85 2 (.slice A l.length c) l.length (namesC l) ∧ Below w.heap.size w w' ∧ ∀ g, (Value.slice A l.length c).ownBlock = some g → v.ownBlock = some g ∨ w.heap.size ≤ g
theorem DidR.of {base : Nat} {v : Value} {l : NmL} {w w1 w' : World} {e : Ending} (hB : base ≤ w.heap.size) (hb : Below w.heap.size w w1) (h : GivesN l w1 e w') : DidR base v l w e w' := by
  obtain ⟨A, c, rfl, h1, h2⟩ := h
  have hs := hb.size
  exact ⟨A, c, rfl, own_base h1 (by omega), hb.trans (h2.mono hs), fun g hg => .inr (by have := (h1.lt g hg).1; omega)⟩

theorem did0 (l : NmL) (x y : ByteArray) (i : Int) : didN cfT l ⟨0, x, y, i⟩ = withN cfT l x i := by unfold didN; rw [if_pos rfl]
theorem didNone {l : NmL} {k : Int} {x y : ByteArray} {i : Int} (hk : k ≠ 0) (h : getN l x = none) : didN cfT l ⟨k, x, y, i⟩ = l := by
  unfold didN; rw [if_neg (show ¬ k = 0 from hk)]; simp only; rw [h]
theorem did1 {l : NmL} {x y : ByteArray} {i j : Int} (h : getN l x = some j) : didN cfT l ⟨1, x, y, i⟩ = withN cfT (woN l x) y j := by
  unfold didN; rw [if_neg (show ¬ (1 : Int) = 0 by omega)]; simp only; rw [h]; rfl
theorem did2 {l : NmL} {x y : ByteArray} {i j : Int} (h : getN l x = some j) : didN cfT l ⟨2, x, y, i⟩ = woN l x := by
  unfold didN; rw [if_neg (show ¬ (2 : Int) = 0 by omega)]; simp only; rw [h]; rfl

set_option maxHeartbeats 2000000 in
theorem rdid_any (o : OpB) (base : Nat) (A : Option Addr) (n c : Nat) (l : NmL) (w : World) (h : w.ownsRow base 85 2 (.slice A n c) n (namesC l)) (hln : l.length = n) (hB : base ≤ w.heap.size) (hn : n ≤ 900000) (hk : o.kind = 0 ∨ o.kind = 1 ∨ o.kind = 2) :
    Calls Tryz.prog 105 #[.slice A n c, .agg #[.int .i64 o.kind, .string o.a, .string o.b, .int .i64 o.id]] w (DidR base (.slice A n c) (didN cfT l o) w) := by
  obtain ⟨k, x, y, i⟩ := o
  simp only at hk
  obtain ⟨wb, hwb⟩ : ∃ wb, wb = w.alloc (.cells #[.int .i64 k, .string x, .string y, .int .i64 i] 113) := ⟨_, rfl⟩
  have hbw : Below w.heap.size w wb := by rw [hwb]; exact (Below.refl _ _).alloc (Nat.le_refl _) _
  have hbx : Blk wb w.heap.size 113 #[.int .i64 k, .string x, .string y, .int .i64 i] := by rw [hwb]; exact Blk.new _ _ _
  have hNm : ∀ w1, Below wb.heap.size wb w1 → Nms w1 w.heap.size A n c l := fun w1 hb => by
    have h1 : Nms w w.heap.size A n c l := by
      subst hln
      obtain ⟨A1, c1, e, h2⟩ := Nms.of_own h
      injection e with e1 _ e3
      subst e1; subst e3
      exact h2
    exact h1.below (hbw.trans (hb.mono hbw.size))
  have hsz := hbw.size
  have GT := Lib.hid (rget_any A n c w.heap.size l x wb (hNm wb (Below.refl _ _)))
  have HBX := Lib.hid (fun w1 (hb : Below wb.heap.size wb w1) => (show w1.cell? ⟨w.heap.size, 0, none⟩ = some (.int .i64 k) ∧ w1.cell? ⟨w.heap.size, 1, none⟩ = some (.string x) ∧ w1.cell? ⟨w.heap.size, 2, none⟩ = some (.string y) ∧ w1.cell? ⟨w.heap.size, 3, none⟩ = some (.int .i64 i) from by
    have hx := hbx.below hb hbx.lt
    exact ⟨hx.cell 0, hx.cell 1, hx.cell 2, hx.cell 3⟩))
  have HSAME := Lib.hid (show didN cfT l ⟨k, x, y, i⟩ = l → DidR base (.slice A n c) (didN cfT l ⟨k, x, y, i⟩) w (.returned (.slice A n c)) wb from fun e => by
    rw [e]
    subst hln
    exact ⟨A, c, rfl, own_below h hbw, hbw, fun g hg => .inl hg⟩)
  have HOF := Lib.hid (fun (L : NmL) (w1 : World) (e : Ending) (w' : World) (hb : Below wb.heap.size wb w1) (hg : GivesN L w1 e w') => (show DidR base (.slice A n c) L w e w' from DidR.of hB (hbw.trans (hb.mono hsz)) hg))
  have W0 := Lib.hid (rwith_any A n c w.heap.size l x i wb (hNm wb (Below.refl _ _)) hsz hn)
  have WO := Lib.hid (rwo_any A n c w.heap.size l x wb (hNm wb (Below.refl _ _)) hsz (by omega))
  have hwl := woN_length l x
  have HWL := Lib.hid (show (woN l x).length ≤ 900000 by omega)
  rw [hwb] at GT HBX HSAME HOF W0 WO
  clear h hbw hbx hNm hsz hwl hwb hln
  have hfoo := HBX.out _ (Below.refl _ _)
  rcases hk with rfl | rfl | rfl
  · rw [did0]
    go_enter Tryz.func105, Tryz.ntmps105
    go_wp2_with (first
      | (go_at_call 63; refine GT.out.mono ?_; rintro e w9 ⟨rfl, rfl⟩)
      | (go_at_call 117; go_loud (refine W0.out.mono ?_; rintro e w3 hg; have HG := Lib.hid (HOF.out _ _ _ _ (Below.refl _ _) hg); obtain ⟨A3, c3, rfl, -⟩ := hg)))
    go_ret
    exact HG.out
  · cases hg : getN l x with
    | none =>
      have HE := Lib.hid (HSAME.out (didNone (by omega) hg))
      rw [hg] at GT
      clear hg
      go_enter Tryz.func105, Tryz.ntmps105
      go_wp2_with (go_at_call 63; refine GT.out.mono ?_; rintro e w9 ⟨rfl, rfl⟩)
      go_ret
      exact HE.out
    | some j =>
      rw [did1 hg]
      rw [hg] at GT
      clear hg
      go_enter Tryz.func105, Tryz.ntmps105
      go_wp2_with (first
        | (go_at_call 63; refine GT.out.mono ?_; rintro e w9 ⟨rfl, rfl⟩)
        | (go_at_call 118; go_loud (refine WO.out.mono ?_; rintro e w3 hg; obtain ⟨A3, n3, c3, rfl, hn3, hN3, hb3⟩ := hg.nms; obtain ⟨e0, e1, e2, e3⟩ := HBX.out w3 hb3; have W1 := Lib.hid (rwith_any A3 n3 c3 w3.heap.size (woN l x) y j w3 hN3 (Nat.le_refl _) (by rw [hn3]; exact HWL.out)); have HB3 := Lib.hid hb3; clear hg hn3 hN3 hb3))
        | (go_at_call 117; go_loud (refine W1.out.mono ?_; rintro e w4 hg; have HG := Lib.hid (HOF.out _ _ _ _ HB3.out hg); obtain ⟨A4, c4, rfl, -⟩ := hg)))
      go_ret
      exact HG.out
  · cases hg : getN l x with
    | none =>
      have HE := Lib.hid (HSAME.out (didNone (by omega) hg))
      rw [hg] at GT
      clear hg
      go_enter Tryz.func105, Tryz.ntmps105
      go_wp2_with (go_at_call 63; refine GT.out.mono ?_; rintro e w9 ⟨rfl, rfl⟩)
      go_ret
      exact HE.out
    | some j =>
      rw [did2 hg]
      rw [hg] at GT
      clear hg
      go_enter Tryz.func105, Tryz.ntmps105
      go_wp2_with (first
        | (go_at_call 63; refine GT.out.mono ?_; rintro e w9 ⟨rfl, rfl⟩)
        | (go_at_call 118; go_loud (refine WO.out.mono ?_; rintro e w3 hg; have HG := Lib.hid (HOF.out _ _ _ _ (Below.refl _ _) hg); obtain ⟨A3, n3, c3, rfl, hn3, hN3, hb3⟩ := hg.nms; obtain ⟨e0, e1, e2, e3⟩ := HBX.out w3 hb3; clear hg hn3 hN3 hb3)))
      go_ret
      exact HG.out

end Go.Proofs.YtclglbddibjenaaGreat

/-
  LAYER 7: WHAT THE DOCUMENT'S OWN Do, Sync AND Crash DO: contracts.
-/
set_option linter.unusedVariables false
set_option linter.unusedSimpArgs false
namespace Go.Proofs.YtclglbddibjenaaGreat
open Go.RowKit

theorem opInfo4 : (Tryz.prog.info? 113).map (fun i => (i.zero, i.size, i.bytes)) = some (some (.agg #[.int .i64 0, .string ⟨#[]⟩, .string ⟨#[]⟩, .int .i64 0]), 4, 48) := by kernel_rfl
theorem undrew_grown {w w' : World} {r : Option Nat} (h : w.drew.grownBy w' r) : w.grownBy w' r := ⟨h.os, h.tape, h.output, h.size, h.block⟩

section
variable {s : DB} {o : OpB}
theorem rdoS_no (h : doE s.now o ≠ 0) : doS s o = s := by unfold doS; rw [if_neg h]
theorem rdoS_yes (h : doE s.now o = 0) : doS s o = ⟨didN cfT s.now o, s.safe, s.ops ++ [o]⟩ := by unfold doS; rw [if_pos h]
end

section
variable {w w2 w3 w4 w5 : World} {base p q : Nat} {S : Nat → Prop} {s : DB} {nv sv ov v' : Value}
theorem RD.pend_ (h : RD w base S p s nv sv ov) (hq : q = s.ops.length) : w.ownsRow base 113 4 ov q (opsC s.ops) := hq ▸ h.pend
theorem RD.pcells (h : RD w base S p s nv sv ov) {o : Obj} (hg : (w.alloc o).grownBy w4 ov.ownBlock) : w4.cell? ⟨p, 2, none⟩ = some ov ∧ w4.frozen? ⟨p, 2, none⟩ = false := by
  have hb : Blk w4 p 44 #[nv, sv, ov] := (h.blk.alloc o).chg (Chg.of_grown hg) (fun e => h.pp e)
  exact ⟨hb.cell 2, hb.frozen 2⟩
theorem RD.pushed (h : RD w2 base S p s nv sv ov) {ob : Obj} {o : OpB} (hq : q = s.ops.length) (hg : (w2.alloc ob).grownBy w4 ov.ownBlock) (hown : w4.ownsRow base 113 4 v' (q + 1) (opsC s.ops ++ opC o))
    (hat : v'.ownBlock = ov.ownBlock ∨ v'.ownBlock = some (w2.alloc ob).heap.size) : Chg S w2 (w4.setCell ⟨p, 2, none⟩ v') ∧ RD (w4.setCell ⟨p, 2, none⟩ v') base (grow S w2 w4) p ⟨s.now, s.safe, s.ops ++ [o]⟩ nv sv v' := by
  have hc : Chg (fun k => ov.ownBlock = some k) w2 w4 := ((Chg.refl (fun k => ov.ownBlock = some k) w2).alloc ob).trans (Chg.of_grown hg) (fun _ _ e => e)
  subst hq
  refine ⟨(hc.mono (fun k _ e => h.ino k e)).setCell (.inr h.inp) _, h.push hown hc ?_⟩
  rcases hat with e | e
  · exact .inl e
  · exact .inr ⟨_, e, by simp⟩
theorem RDT.step {s' : DB} {nv' sv' ov' : Value} (hf : ∀ k, S k → base ≤ k ∧ k < w.heap.size) (hb : base ≤ w.heap.size) (hc1 : Chg S w w2) (hc2 : Chg (grow S w w3) w2 w5) (h32 : w3.heap.size = w2.heap.size) (h5 : RD w5 base (grow (grow S w w3) w2 w4) p s' nv' sv' ov') : RDT base S p s' w w5 := by
  have hs := hc1.size
  refine RDT.of (hc1.trans hc2 (fun k hk hs => ?_)) h5 (fun k hk => ?_) hf hb
  · rcases hs with h | h
    · exact h
    · omega
  · rcases hk with (h | h) | h
    · exact .inl h
    · exact .inr h.1
    · exact .inr (by omega)
end

set_option maxHeartbeats 4000000 in
set_option maxRecDepth 100000 in
theorem rdo_twice (p : Nat) (base N : Nat) (S : Nat → Prop) (s : DB) (nv sv ov : Value) (x y : ByteArray) (i : Int) (w : World) (h : RD w base S p s nv sv ov) (hg : GoodD s N) (hN : N ≤ 900000) (ho : OkO ⟨0, x, y, i⟩) (hh : hasB s.now x = true) :
    Calls Tryz.prog 72 #[.pointer (some ⟨p, 0, none⟩), .agg #[.int .i64 0, .string x, .string y, .int .i64 i]] w fun e w' => e = .returned (.int .i64 7) ∧ RDT base S p s w w' := by
  obtain ⟨i0, hi, hz0, hz1, hz2⟩ := info_parts opInfo4
  obtain ⟨An, cn, rfl, hNmsW⟩ := Nms.of_own h.now
  obtain ⟨Ao, co, rfl, -, -⟩ := own_form h.pend
  obtain ⟨n, hn⟩ : ∃ n, n = s.now.length := ⟨_, rfl⟩
  obtain ⟨q, hq⟩ : ∃ q, q = s.ops.length := ⟨_, rfl⟩
  have hq9 : q ≤ 900000 := by have := hg.safe; omega
  have hn9 : n ≤ 900000 := by have := hg.now; omega
  rw [← hn] at hNmsW
  rw [← hq, ← hn] at h
  obtain ⟨wb, hwb⟩ : ∃ wb, wb = w.alloc (.cells #[.int .i64 0, .string x, .string y, .int .i64 i] 113) := ⟨_, rfl⟩
  have hbw : Below w.heap.size w wb := by rw [hwb]; exact (Below.refl _ _).alloc (Nat.le_refl _) _
  have hbx : Blk wb w.heap.size 113 #[.int .i64 0, .string x, .string y, .int .i64 i] := by rw [hwb]; exact Blk.new _ _ _
  have hxs : x.size ≤ maxLen := by have := ho.a; unfold maxLen; simp only at this; omega
  have hys : y.size ≤ maxLen := by have := ho.b; unfold maxLen; simp only at this; omega
  have GT := Lib.hid (rget_any An n cn w.heap.size s.now x wb.drew ((hNmsW.below hbw).drewN 1))
  have KP := Lib.hid (fun w1 (hb : Below wb.heap.size wb w1) => (show w1.cell? ⟨w.heap.size, 0, none⟩ = some (.int .i64 0) ∧ w1.cell? ⟨w.heap.size, 1, none⟩ = some (.string x) ∧ w1.cell? ⟨w.heap.size, 2, none⟩ = some (.string y) ∧ w1.cell? ⟨w.heap.size, 3, none⟩ = some (.int .i64 i) ∧ w1.cell? ⟨p, 0, none⟩ = some (.slice An n cn) from by
    have hx := hbx.below hb hbx.lt
    exact ⟨hx.cell 0, hx.cell 1, hx.cell 2, hx.cell 3, (h.cells (hbw.trans (hb.mono hbw.size))).1⟩))
  have HK := Lib.hid (KP.out wb.drew (below_drewn (Below.refl _ _) 1))
  have RX := Lib.hid (fun w1 => rright_any x w1 hxs)
  have RY := Lib.hid (fun w1 => rright_any y w1 hys)
  have HBW := Lib.hid hbw
  have H := Lib.hid h
  have HBX := Lib.hid hbx
  have HNW := Lib.hid hNmsW
  have HQ := Lib.hid hq
  have HN := Lib.hid hn
  have HG := Lib.hid hg
  have HO := Lib.hid ho
  have hfoo := KP.out wb (Below.refl _ _)
  rw [show (getN s.now x).isSome = true from hh] at GT
  rw [hwb] at GT KP HK HBW HBX hfoo
  obtain ⟨e0, e1, e2, e3, e4⟩ := hfoo
  clear h hg ho hq hn hbw hbx hNmsW hwb hxs hys
  go_enter Tryz.func72, Tryz.ntmps72
  go_wp2
  go_region_held3 (fun w1 => w1.cell? ⟨w.heap.size, 0, none⟩ = some (.int .i64 0) ∧ w1.cell? ⟨w.heap.size, 1, none⟩ = some (.string x) ∧ w1.cell? ⟨w.heap.size, 2, none⟩ = some (.string y) ∧ w1.cell? ⟨w.heap.size, 3, none⟩ = some (.int .i64 i) ∧ w1.cell? ⟨p, 0, none⟩ = some (.slice An n cn))
    (first | assumption | exact HK.out)
    (first | (go_at_call 63; go_loud (refine GT.out.mono ?_; rintro e w9 ⟨rfl, rfl⟩)))
  go_wp2
  go_ret
  exact ⟨rfl, RDT.of (Chg.of_below (below_drewn HBW.out 1) (Nat.le_refl _) S) (H.out.below (below_drewn HBW.out 1)) (fun _ h => .inl h) H.out.foot H.out.bas⟩

set_option maxHeartbeats 4000000 in
set_option maxRecDepth 100000 in
theorem rdo_none1 (p : Nat) (base N : Nat) (S : Nat → Prop) (s : DB) (nv sv ov : Value) (x y : ByteArray) (i : Int) (w : World) (h : RD w base S p s nv sv ov) (hg : GoodD s N) (hN : N ≤ 900000) (ho : OkO ⟨1, x, y, i⟩) (hh : hasB s.now x = false) :
    Calls Tryz.prog 72 #[.pointer (some ⟨p, 0, none⟩), .agg #[.int .i64 1, .string x, .string y, .int .i64 i]] w fun e w' => e = .returned (.int .i64 6) ∧ RDT base S p s w w' := by
  obtain ⟨i0, hi, hz0, hz1, hz2⟩ := info_parts opInfo4
  obtain ⟨An, cn, rfl, hNmsW⟩ := Nms.of_own h.now
  obtain ⟨Ao, co, rfl, -, -⟩ := own_form h.pend
  obtain ⟨n, hn⟩ : ∃ n, n = s.now.length := ⟨_, rfl⟩
  obtain ⟨q, hq⟩ : ∃ q, q = s.ops.length := ⟨_, rfl⟩
  have hq9 : q ≤ 900000 := by have := hg.safe; omega
  have hn9 : n ≤ 900000 := by have := hg.now; omega
  rw [← hn] at hNmsW
  rw [← hq, ← hn] at h
  obtain ⟨wb, hwb⟩ : ∃ wb, wb = w.alloc (.cells #[.int .i64 1, .string x, .string y, .int .i64 i] 113) := ⟨_, rfl⟩
  have hbw : Below w.heap.size w wb := by rw [hwb]; exact (Below.refl _ _).alloc (Nat.le_refl _) _
  have hbx : Blk wb w.heap.size 113 #[.int .i64 1, .string x, .string y, .int .i64 i] := by rw [hwb]; exact Blk.new _ _ _
  have hxs : x.size ≤ maxLen := by have := ho.a; unfold maxLen; simp only at this; omega
  have hys : y.size ≤ maxLen := by have := ho.b; unfold maxLen; simp only at this; omega
  have GT := Lib.hid (rget_any An n cn w.heap.size s.now x wb.drew ((hNmsW.below hbw).drewN 1))
  have KP := Lib.hid (fun w1 (hb : Below wb.heap.size wb w1) => (show w1.cell? ⟨w.heap.size, 0, none⟩ = some (.int .i64 1) ∧ w1.cell? ⟨w.heap.size, 1, none⟩ = some (.string x) ∧ w1.cell? ⟨w.heap.size, 2, none⟩ = some (.string y) ∧ w1.cell? ⟨w.heap.size, 3, none⟩ = some (.int .i64 i) ∧ w1.cell? ⟨p, 0, none⟩ = some (.slice An n cn) from by
    have hx := hbx.below hb hbx.lt
    exact ⟨hx.cell 0, hx.cell 1, hx.cell 2, hx.cell 3, (h.cells (hbw.trans (hb.mono hbw.size))).1⟩))
  have HK := Lib.hid (KP.out wb.drew (below_drewn (Below.refl _ _) 1))
  have RX := Lib.hid (fun w1 => rright_any x w1 hxs)
  have RY := Lib.hid (fun w1 => rright_any y w1 hys)
  have HBW := Lib.hid hbw
  have H := Lib.hid h
  have HBX := Lib.hid hbx
  have HNW := Lib.hid hNmsW
  have HQ := Lib.hid hq
  have HN := Lib.hid hn
  have HG := Lib.hid hg
  have HO := Lib.hid ho
  have hfoo := KP.out wb (Below.refl _ _)
  rw [show (getN s.now x).isSome = false from hh] at GT
  rw [hwb] at GT KP HK HBW HBX hfoo
  obtain ⟨e0, e1, e2, e3, e4⟩ := hfoo
  clear h hg ho hq hn hbw hbx hNmsW hwb hxs hys
  go_enter Tryz.func72, Tryz.ntmps72
  go_wp2
  go_region_held3 (fun w1 => w1.cell? ⟨w.heap.size, 0, none⟩ = some (.int .i64 1) ∧ w1.cell? ⟨w.heap.size, 1, none⟩ = some (.string x) ∧ w1.cell? ⟨w.heap.size, 2, none⟩ = some (.string y) ∧ w1.cell? ⟨w.heap.size, 3, none⟩ = some (.int .i64 i) ∧ w1.cell? ⟨p, 0, none⟩ = some (.slice An n cn))
    (first | assumption | exact HK.out)
    (first | (go_at_call 63; go_loud (refine GT.out.mono ?_; rintro e w9 ⟨rfl, rfl⟩)))
  go_wp2
  go_ret
  exact ⟨rfl, RDT.of (Chg.of_below (below_drewn HBW.out 1) (Nat.le_refl _) S) (H.out.below (below_drewn HBW.out 1)) (fun _ h => .inl h) H.out.foot H.out.bas⟩

set_option maxHeartbeats 4000000 in
set_option maxRecDepth 100000 in
theorem rdo_none2 (p : Nat) (base N : Nat) (S : Nat → Prop) (s : DB) (nv sv ov : Value) (x y : ByteArray) (i : Int) (w : World) (h : RD w base S p s nv sv ov) (hg : GoodD s N) (hN : N ≤ 900000) (ho : OkO ⟨2, x, y, i⟩) (hh : hasB s.now x = false) :
    Calls Tryz.prog 72 #[.pointer (some ⟨p, 0, none⟩), .agg #[.int .i64 2, .string x, .string y, .int .i64 i]] w fun e w' => e = .returned (.int .i64 6) ∧ RDT base S p s w w' := by
  obtain ⟨i0, hi, hz0, hz1, hz2⟩ := info_parts opInfo4
  obtain ⟨An, cn, rfl, hNmsW⟩ := Nms.of_own h.now
  obtain ⟨Ao, co, rfl, -, -⟩ := own_form h.pend
  obtain ⟨n, hn⟩ : ∃ n, n = s.now.length := ⟨_, rfl⟩
  obtain ⟨q, hq⟩ : ∃ q, q = s.ops.length := ⟨_, rfl⟩
  have hq9 : q ≤ 900000 := by have := hg.safe; omega
  have hn9 : n ≤ 900000 := by have := hg.now; omega
  rw [← hn] at hNmsW
  rw [← hq, ← hn] at h
  obtain ⟨wb, hwb⟩ : ∃ wb, wb = w.alloc (.cells #[.int .i64 2, .string x, .string y, .int .i64 i] 113) := ⟨_, rfl⟩
  have hbw : Below w.heap.size w wb := by rw [hwb]; exact (Below.refl _ _).alloc (Nat.le_refl _) _
  have hbx : Blk wb w.heap.size 113 #[.int .i64 2, .string x, .string y, .int .i64 i] := by rw [hwb]; exact Blk.new _ _ _
  have hxs : x.size ≤ maxLen := by have := ho.a; unfold maxLen; simp only at this; omega
  have hys : y.size ≤ maxLen := by have := ho.b; unfold maxLen; simp only at this; omega
  have GT := Lib.hid (rget_any An n cn w.heap.size s.now x wb.drew ((hNmsW.below hbw).drewN 1))
  have KP := Lib.hid (fun w1 (hb : Below wb.heap.size wb w1) => (show w1.cell? ⟨w.heap.size, 0, none⟩ = some (.int .i64 2) ∧ w1.cell? ⟨w.heap.size, 1, none⟩ = some (.string x) ∧ w1.cell? ⟨w.heap.size, 2, none⟩ = some (.string y) ∧ w1.cell? ⟨w.heap.size, 3, none⟩ = some (.int .i64 i) ∧ w1.cell? ⟨p, 0, none⟩ = some (.slice An n cn) from by
    have hx := hbx.below hb hbx.lt
    exact ⟨hx.cell 0, hx.cell 1, hx.cell 2, hx.cell 3, (h.cells (hbw.trans (hb.mono hbw.size))).1⟩))
  have HK := Lib.hid (KP.out wb.drew (below_drewn (Below.refl _ _) 1))
  have RX := Lib.hid (fun w1 => rright_any x w1 hxs)
  have RY := Lib.hid (fun w1 => rright_any y w1 hys)
  have HBW := Lib.hid hbw
  have H := Lib.hid h
  have HBX := Lib.hid hbx
  have HNW := Lib.hid hNmsW
  have HQ := Lib.hid hq
  have HN := Lib.hid hn
  have HG := Lib.hid hg
  have HO := Lib.hid ho
  have hfoo := KP.out wb (Below.refl _ _)
  rw [show (getN s.now x).isSome = false from hh] at GT
  rw [hwb] at GT KP HK HBW HBX hfoo
  obtain ⟨e0, e1, e2, e3, e4⟩ := hfoo
  clear h hg ho hq hn hbw hbx hNmsW hwb hxs hys
  go_enter Tryz.func72, Tryz.ntmps72
  go_wp2
  go_region_held3 (fun w1 => w1.cell? ⟨w.heap.size, 0, none⟩ = some (.int .i64 2) ∧ w1.cell? ⟨w.heap.size, 1, none⟩ = some (.string x) ∧ w1.cell? ⟨w.heap.size, 2, none⟩ = some (.string y) ∧ w1.cell? ⟨w.heap.size, 3, none⟩ = some (.int .i64 i) ∧ w1.cell? ⟨p, 0, none⟩ = some (.slice An n cn))
    (first | assumption | exact HK.out)
    (first | (go_at_call 63; go_loud (refine GT.out.mono ?_; rintro e w9 ⟨rfl, rfl⟩)))
  go_wp2
  go_ret
  exact ⟨rfl, RDT.of (Chg.of_below (below_drewn HBW.out 1) (Nat.le_refl _) S) (H.out.below (below_drewn HBW.out 1)) (fun _ h => .inl h) H.out.foot H.out.bas⟩

set_option maxHeartbeats 4000000 in
set_option maxRecDepth 100000 in
theorem rdo_arg0 (p : Nat) (base N : Nat) (S : Nat → Prop) (s : DB) (nv sv ov : Value) (x y : ByteArray) (i : Int) (w : World) (h : RD w base S p s nv sv ov) (hg : GoodD s N) (hN : N ≤ 900000) (ho : OkO ⟨0, x, y, i⟩) (hh : hasB s.now x = false) (hr : rightB x = false) :
    Calls Tryz.prog 72 #[.pointer (some ⟨p, 0, none⟩), .agg #[.int .i64 0, .string x, .string y, .int .i64 i]] w fun e w' => e = .returned (.int .i64 1) ∧ RDT base S p s w w' := by
  obtain ⟨i0, hi, hz0, hz1, hz2⟩ := info_parts opInfo4
  obtain ⟨An, cn, rfl, hNmsW⟩ := Nms.of_own h.now
  obtain ⟨Ao, co, rfl, -, -⟩ := own_form h.pend
  obtain ⟨n, hn⟩ : ∃ n, n = s.now.length := ⟨_, rfl⟩
  obtain ⟨q, hq⟩ : ∃ q, q = s.ops.length := ⟨_, rfl⟩
  have hq9 : q ≤ 900000 := by have := hg.safe; omega
  have hn9 : n ≤ 900000 := by have := hg.now; omega
  rw [← hn] at hNmsW
  rw [← hq, ← hn] at h
  obtain ⟨wb, hwb⟩ : ∃ wb, wb = w.alloc (.cells #[.int .i64 0, .string x, .string y, .int .i64 i] 113) := ⟨_, rfl⟩
  have hbw : Below w.heap.size w wb := by rw [hwb]; exact (Below.refl _ _).alloc (Nat.le_refl _) _
  have hbx : Blk wb w.heap.size 113 #[.int .i64 0, .string x, .string y, .int .i64 i] := by rw [hwb]; exact Blk.new _ _ _
  have hxs : x.size ≤ maxLen := by have := ho.a; unfold maxLen; simp only at this; omega
  have hys : y.size ≤ maxLen := by have := ho.b; unfold maxLen; simp only at this; omega
  have GT := Lib.hid (rget_any An n cn w.heap.size s.now x wb.drew ((hNmsW.below hbw).drewN 1))
  have KP := Lib.hid (fun w1 (hb : Below wb.heap.size wb w1) => (show w1.cell? ⟨w.heap.size, 0, none⟩ = some (.int .i64 0) ∧ w1.cell? ⟨w.heap.size, 1, none⟩ = some (.string x) ∧ w1.cell? ⟨w.heap.size, 2, none⟩ = some (.string y) ∧ w1.cell? ⟨w.heap.size, 3, none⟩ = some (.int .i64 i) ∧ w1.cell? ⟨p, 0, none⟩ = some (.slice An n cn) from by
    have hx := hbx.below hb hbx.lt
    exact ⟨hx.cell 0, hx.cell 1, hx.cell 2, hx.cell 3, (h.cells (hbw.trans (hb.mono hbw.size))).1⟩))
  have HK := Lib.hid (KP.out wb.drew (below_drewn (Below.refl _ _) 1))
  have RX := Lib.hid (fun w1 => rright_any x w1 hxs)
  have RY := Lib.hid (fun w1 => rright_any y w1 hys)
  have HBW := Lib.hid hbw
  have H := Lib.hid h
  have HBX := Lib.hid hbx
  have HNW := Lib.hid hNmsW
  have HQ := Lib.hid hq
  have HN := Lib.hid hn
  have HG := Lib.hid hg
  have HO := Lib.hid ho
  have hfoo := KP.out wb (Below.refl _ _)
  rw [show (getN s.now x).isSome = false from hh] at GT
  rw [hwb] at GT KP HK HBW HBX hfoo
  obtain ⟨e0, e1, e2, e3, e4⟩ := hfoo
  rw [hr] at RX
  clear h hg ho hq hn hbw hbx hNmsW hwb hxs hys
  go_enter Tryz.func72, Tryz.ntmps72
  go_wp2
  go_region_held3 (fun w1 => w1.cell? ⟨w.heap.size, 0, none⟩ = some (.int .i64 0) ∧ w1.cell? ⟨w.heap.size, 1, none⟩ = some (.string x) ∧ w1.cell? ⟨w.heap.size, 2, none⟩ = some (.string y) ∧ w1.cell? ⟨w.heap.size, 3, none⟩ = some (.int .i64 i) ∧ w1.cell? ⟨p, 0, none⟩ = some (.slice An n cn))
    (first | assumption | exact HK.out)
    (first | (go_at_call 63; go_loud (refine GT.out.mono ?_; rintro e w9 ⟨rfl, rfl⟩)))
  go_wp2_with (first
    | (go_at_call 104; go_loud (refine (RX.out _).mono ?_; rintro e w9 ⟨rfl, rfl⟩)))
  go_ret
  exact ⟨rfl, RDT.of (Chg.of_below (below_drewn HBW.out 1) (Nat.le_refl _) S) (H.out.below (below_drewn HBW.out 1)) (fun _ h => .inl h) H.out.foot H.out.bas⟩

set_option maxHeartbeats 4000000 in
set_option maxRecDepth 100000 in
theorem rdo_arg1 (p : Nat) (base N : Nat) (S : Nat → Prop) (s : DB) (nv sv ov : Value) (x y : ByteArray) (i : Int) (w : World) (h : RD w base S p s nv sv ov) (hg : GoodD s N) (hN : N ≤ 900000) (ho : OkO ⟨1, x, y, i⟩) (hh : hasB s.now x = true) (hr : rightB y = false) :
    Calls Tryz.prog 72 #[.pointer (some ⟨p, 0, none⟩), .agg #[.int .i64 1, .string x, .string y, .int .i64 i]] w fun e w' => e = .returned (.int .i64 1) ∧ RDT base S p s w w' := by
  obtain ⟨i0, hi, hz0, hz1, hz2⟩ := info_parts opInfo4
  obtain ⟨An, cn, rfl, hNmsW⟩ := Nms.of_own h.now
  obtain ⟨Ao, co, rfl, -, -⟩ := own_form h.pend
  obtain ⟨n, hn⟩ : ∃ n, n = s.now.length := ⟨_, rfl⟩
  obtain ⟨q, hq⟩ : ∃ q, q = s.ops.length := ⟨_, rfl⟩
  have hq9 : q ≤ 900000 := by have := hg.safe; omega
  have hn9 : n ≤ 900000 := by have := hg.now; omega
  rw [← hn] at hNmsW
  rw [← hq, ← hn] at h
  obtain ⟨wb, hwb⟩ : ∃ wb, wb = w.alloc (.cells #[.int .i64 1, .string x, .string y, .int .i64 i] 113) := ⟨_, rfl⟩
  have hbw : Below w.heap.size w wb := by rw [hwb]; exact (Below.refl _ _).alloc (Nat.le_refl _) _
  have hbx : Blk wb w.heap.size 113 #[.int .i64 1, .string x, .string y, .int .i64 i] := by rw [hwb]; exact Blk.new _ _ _
  have hxs : x.size ≤ maxLen := by have := ho.a; unfold maxLen; simp only at this; omega
  have hys : y.size ≤ maxLen := by have := ho.b; unfold maxLen; simp only at this; omega
  have GT := Lib.hid (rget_any An n cn w.heap.size s.now x wb.drew ((hNmsW.below hbw).drewN 1))
  have KP := Lib.hid (fun w1 (hb : Below wb.heap.size wb w1) => (show w1.cell? ⟨w.heap.size, 0, none⟩ = some (.int .i64 1) ∧ w1.cell? ⟨w.heap.size, 1, none⟩ = some (.string x) ∧ w1.cell? ⟨w.heap.size, 2, none⟩ = some (.string y) ∧ w1.cell? ⟨w.heap.size, 3, none⟩ = some (.int .i64 i) ∧ w1.cell? ⟨p, 0, none⟩ = some (.slice An n cn) from by
    have hx := hbx.below hb hbx.lt
    exact ⟨hx.cell 0, hx.cell 1, hx.cell 2, hx.cell 3, (h.cells (hbw.trans (hb.mono hbw.size))).1⟩))
  have HK := Lib.hid (KP.out wb.drew (below_drewn (Below.refl _ _) 1))
  have RX := Lib.hid (fun w1 => rright_any x w1 hxs)
  have RY := Lib.hid (fun w1 => rright_any y w1 hys)
  have HBW := Lib.hid hbw
  have H := Lib.hid h
  have HBX := Lib.hid hbx
  have HNW := Lib.hid hNmsW
  have HQ := Lib.hid hq
  have HN := Lib.hid hn
  have HG := Lib.hid hg
  have HO := Lib.hid ho
  have hfoo := KP.out wb (Below.refl _ _)
  rw [show (getN s.now x).isSome = true from hh] at GT
  rw [hwb] at GT KP HK HBW HBX hfoo
  obtain ⟨e0, e1, e2, e3, e4⟩ := hfoo
  rw [hr] at RY
  clear h hg ho hq hn hbw hbx hNmsW hwb hxs hys
  go_enter Tryz.func72, Tryz.ntmps72
  go_wp2
  go_region_held3 (fun w1 => w1.cell? ⟨w.heap.size, 0, none⟩ = some (.int .i64 1) ∧ w1.cell? ⟨w.heap.size, 1, none⟩ = some (.string x) ∧ w1.cell? ⟨w.heap.size, 2, none⟩ = some (.string y) ∧ w1.cell? ⟨w.heap.size, 3, none⟩ = some (.int .i64 i) ∧ w1.cell? ⟨p, 0, none⟩ = some (.slice An n cn))
    (first | assumption | exact HK.out)
    (first | (go_at_call 63; go_loud (refine GT.out.mono ?_; rintro e w9 ⟨rfl, rfl⟩)))
  go_wp2_with (first
    | (go_at_call 104; go_loud (refine (RY.out _).mono ?_; rintro e w9 ⟨rfl, rfl⟩)))
  go_ret
  exact ⟨rfl, RDT.of (Chg.of_below (below_drewn HBW.out 1) (Nat.le_refl _) S) (H.out.below (below_drewn HBW.out 1)) (fun _ h => .inl h) H.out.foot H.out.bas⟩

set_option maxHeartbeats 4000000 in
set_option maxRecDepth 100000 in
theorem rdo_ok0 (p : Nat) (base N : Nat) (S : Nat → Prop) (s : DB) (nv sv ov : Value) (x y : ByteArray) (i : Int) (w : World) (h : RD w base S p s nv sv ov) (hg : GoodD s N) (hN : N ≤ 900000) (ho : OkO ⟨0, x, y, i⟩) (hh : hasB s.now x = false) (hr : rightB x = true) :
    Calls Tryz.prog 72 #[.pointer (some ⟨p, 0, none⟩), .agg #[.int .i64 0, .string x, .string y, .int .i64 i]] w fun e w' => e = .returned (.int .i64 0) ∧ RDT base S p ⟨didN cfT s.now ⟨0, x, y, i⟩, s.safe, s.ops ++ [⟨0, x, y, i⟩]⟩ w w' := by
  obtain ⟨i0, hi, hz0, hz1, hz2⟩ := info_parts opInfo4
  obtain ⟨An, cn, rfl, hNmsW⟩ := Nms.of_own h.now
  obtain ⟨Ao, co, rfl, -, -⟩ := own_form h.pend
  obtain ⟨n, hn⟩ : ∃ n, n = s.now.length := ⟨_, rfl⟩
  obtain ⟨q, hq⟩ : ∃ q, q = s.ops.length := ⟨_, rfl⟩
  have hq9 : q ≤ 900000 := by have := hg.safe; omega
  have hn9 : n ≤ 900000 := by have := hg.now; omega
  rw [← hn] at hNmsW
  rw [← hq, ← hn] at h
  obtain ⟨wb, hwb⟩ : ∃ wb, wb = w.alloc (.cells #[.int .i64 0, .string x, .string y, .int .i64 i] 113) := ⟨_, rfl⟩
  have hbw : Below w.heap.size w wb := by rw [hwb]; exact (Below.refl _ _).alloc (Nat.le_refl _) _
  have hbx : Blk wb w.heap.size 113 #[.int .i64 0, .string x, .string y, .int .i64 i] := by rw [hwb]; exact Blk.new _ _ _
  have hxs : x.size ≤ maxLen := by have := ho.a; unfold maxLen; simp only at this; omega
  have hys : y.size ≤ maxLen := by have := ho.b; unfold maxLen; simp only at this; omega
  have GT := Lib.hid (rget_any An n cn w.heap.size s.now x wb.drew ((hNmsW.below hbw).drewN 1))
  have KP := Lib.hid (fun w1 (hb : Below wb.heap.size wb w1) => (show w1.cell? ⟨w.heap.size, 0, none⟩ = some (.int .i64 0) ∧ w1.cell? ⟨w.heap.size, 1, none⟩ = some (.string x) ∧ w1.cell? ⟨w.heap.size, 2, none⟩ = some (.string y) ∧ w1.cell? ⟨w.heap.size, 3, none⟩ = some (.int .i64 i) ∧ w1.cell? ⟨p, 0, none⟩ = some (.slice An n cn) from by
    have hx := hbx.below hb hbx.lt
    exact ⟨hx.cell 0, hx.cell 1, hx.cell 2, hx.cell 3, (h.cells (hbw.trans (hb.mono hbw.size))).1⟩))
  have HK := Lib.hid (KP.out wb.drew (below_drewn (Below.refl _ _) 1))
  have RX := Lib.hid (fun w1 => rright_any x w1 hxs)
  have RY := Lib.hid (fun w1 => rright_any y w1 hys)
  have HBW := Lib.hid hbw
  have H := Lib.hid h
  have HBX := Lib.hid hbx
  have HNW := Lib.hid hNmsW
  have HQ := Lib.hid hq
  have HN := Lib.hid hn
  have HG := Lib.hid hg
  have HO := Lib.hid ho
  have hfoo := KP.out wb (Below.refl _ _)
  rw [show (getN s.now x).isSome = false from hh] at GT
  rw [hwb] at GT KP HK HBW HBX hfoo
  obtain ⟨e0, e1, e2, e3, e4⟩ := hfoo
  have hnow := h.now
  rw [← hn] at hnow
  have DD := Lib.hid (fun w1 (hb : Below wb.heap.size wb w1) => rdid_any ⟨0, x, y, i⟩ base An n cn s.now w1 (own_below hnow (hbw.trans (hb.mono hbw.size))) hn.symm (Nat.le_trans h.bas (hbw.trans (hb.mono hbw.size)).size) hn9 ho.kind)
  have HB2 := Lib.hid (show Below wb.heap.size wb wb.drew.drew from below_drewn (below_drewn (Below.refl _ _) 1) 1)
  have HBZ := Lib.hid (show w.heap.size ≤ wb.drew.drew.heap.size from hbw.size)
  have s2 : q + 1 ≤ maxLen := by unfold maxLen; omega
  have s3 : (q + 1) * 48 ≤ 140737488355328 := by omega
  rw [hwb] at DD HB2 HBZ
  clear hnow
  rw [hr] at RX
  clear h hg ho hq hn hbw hbx hNmsW hwb hxs hys
  go_enter Tryz.func72, Tryz.ntmps72
  go_wp2
  go_region_held3 (fun w1 => w1.cell? ⟨w.heap.size, 0, none⟩ = some (.int .i64 0) ∧ w1.cell? ⟨w.heap.size, 1, none⟩ = some (.string x) ∧ w1.cell? ⟨w.heap.size, 2, none⟩ = some (.string y) ∧ w1.cell? ⟨w.heap.size, 3, none⟩ = some (.int .i64 i) ∧ w1.cell? ⟨p, 0, none⟩ = some (.slice An n cn))
    (first | assumption | exact HK.out)
    (first | (go_at_call 63; go_loud (refine GT.out.mono ?_; rintro e w9 ⟨rfl, rfl⟩)))
  go_wp2_with (first
    | (go_at_call 104; go_loud (refine (RX.out _).mono ?_; rintro e w9 ⟨rfl, rfl⟩)))
  go_region_law ((first
    | (go_simp; go_at_call 105; go_loud (refine (DD.out _ HB2.out).mono ?_; rintro e w3 ⟨A3, c3, rfl, hown3, hb3, hmv3⟩; have HB3 := Lib.hid (show Below w.heap.size w w3 from (HBW.out.trans (HB2.out.mono HBW.out.size)).trans (hb3.mono HBZ.out)); obtain ⟨y0, -, -, yf0, -, -⟩ := H.out.cells HB3.out; have HS5 := Lib.hid (H.out.setNow hown3 HB3.out (fun g hg => (hmv3 g hg).imp id (fun h => Nat.le_trans HBZ.out h))); have HC5 := Lib.hid (show Chg S w (w3.setCell ⟨p, 0, none⟩ (.slice A3 (didN cfT s.now ⟨0, x, y, i⟩).length c3)) from (Chg.of_below HB3.out (Nat.le_refl _) S).setCell (.inr H.out.inp) _); have HX5 := Lib.hid (show Blk (w3.setCell ⟨p, 0, none⟩ (.slice A3 (didN cfT s.now ⟨0, x, y, i⟩).length c3)) w.heap.size 113 #[.int .i64 0, .string x, .string y, .int .i64 i] from ((HBX.out.below (HB2.out.trans (hb3.mono HB2.out.size)) HBX.out.lt).far (fun e => by have := H.out.blk.lt; have e : w.heap.size = p := e; omega) _)); have HZ5 := Lib.hid (show w3.heap.size = (w3.setCell ⟨p, 0, none⟩ (.slice A3 (didN cfT s.now ⟨0, x, y, i⟩).length c3)).heap.size from (size_set _ _ _).symm); clear hown3 hb3 hmv3))))
  all_goals
    generalize (w3.setCell ⟨p, 0, none⟩ (.slice A3 (didN cfT s.now ⟨0, x, y, i⟩).length c3)) = w5 at *
    obtain ⟨-, -, z2, -, -, zf2⟩ := HS5.out.cells (Below.refl _ _)
    have b0 := HX5.out.cell 0
    have b1 := HX5.out.cell 1
    have b2 := HX5.out.cell 2
    have b3 := HX5.out.cell 3
    simp only [List.getElem?_toArray, List.getElem?_cons_zero, List.getElem?_cons_succ] at b0 b1 b2 b3
    have hpl := HS5.out.blk.lt
    have hpn : ¬ p = w5.heap.size := Nat.ne_of_lt hpl
    clear y0 yf0
    go_wp2
    go_region_law ((first
      | go_loud (refine step_append_any _ rfl (.tmp 63) (.tmp 65) _ rfl base 113 i0 _ 4 48 Tryz.underlying42 hi hz0 hz1 hz2 rfl (Nat.zero_lt_succ 3) (.slice Ao q co) q _ rfl ((HS5.out.pend_ HQ.out).alloc _) _ _ 1 1 (opC ⟨0, x, y, i⟩) rfl (newAt _ _ _ 4 _ rfl (by simp)) (opC_one _) s2 s3 (by have := HS5.out.bas; simp; omega) ?_; intro v4 w4 hown4 hg4 hat4; obtain ⟨A4, c4, rfl, -, -⟩ := own_form hown4; obtain ⟨g2, gf2⟩ := HS5.out.pcells (undrew_grown hg4); have HP := Lib.hid (HS5.out.pushed (o := ⟨0, x, y, i⟩) HQ.out (undrew_grown hg4) hown4 hat4); clear hown4 hg4 hat4)))
    all_goals
      go_wp2
      go_ret
      exact ⟨rfl, RDT.step H.out.foot H.out.bas HC5.out HP.out.1 HZ5.out HP.out.2⟩

set_option maxHeartbeats 4000000 in
set_option maxRecDepth 100000 in
theorem rdo_ok1 (p : Nat) (base N : Nat) (S : Nat → Prop) (s : DB) (nv sv ov : Value) (x y : ByteArray) (i : Int) (w : World) (h : RD w base S p s nv sv ov) (hg : GoodD s N) (hN : N ≤ 900000) (ho : OkO ⟨1, x, y, i⟩) (hh : hasB s.now x = true) (hr : rightB y = true) :
    Calls Tryz.prog 72 #[.pointer (some ⟨p, 0, none⟩), .agg #[.int .i64 1, .string x, .string y, .int .i64 i]] w fun e w' => e = .returned (.int .i64 0) ∧ RDT base S p ⟨didN cfT s.now ⟨1, x, y, i⟩, s.safe, s.ops ++ [⟨1, x, y, i⟩]⟩ w w' := by
  obtain ⟨i0, hi, hz0, hz1, hz2⟩ := info_parts opInfo4
  obtain ⟨An, cn, rfl, hNmsW⟩ := Nms.of_own h.now
  obtain ⟨Ao, co, rfl, -, -⟩ := own_form h.pend
  obtain ⟨n, hn⟩ : ∃ n, n = s.now.length := ⟨_, rfl⟩
  obtain ⟨q, hq⟩ : ∃ q, q = s.ops.length := ⟨_, rfl⟩
  have hq9 : q ≤ 900000 := by have := hg.safe; omega
  have hn9 : n ≤ 900000 := by have := hg.now; omega
  rw [← hn] at hNmsW
  rw [← hq, ← hn] at h
  obtain ⟨wb, hwb⟩ : ∃ wb, wb = w.alloc (.cells #[.int .i64 1, .string x, .string y, .int .i64 i] 113) := ⟨_, rfl⟩
  have hbw : Below w.heap.size w wb := by rw [hwb]; exact (Below.refl _ _).alloc (Nat.le_refl _) _
  have hbx : Blk wb w.heap.size 113 #[.int .i64 1, .string x, .string y, .int .i64 i] := by rw [hwb]; exact Blk.new _ _ _
  have hxs : x.size ≤ maxLen := by have := ho.a; unfold maxLen; simp only at this; omega
  have hys : y.size ≤ maxLen := by have := ho.b; unfold maxLen; simp only at this; omega
  have GT := Lib.hid (rget_any An n cn w.heap.size s.now x wb.drew ((hNmsW.below hbw).drewN 1))
  have KP := Lib.hid (fun w1 (hb : Below wb.heap.size wb w1) => (show w1.cell? ⟨w.heap.size, 0, none⟩ = some (.int .i64 1) ∧ w1.cell? ⟨w.heap.size, 1, none⟩ = some (.string x) ∧ w1.cell? ⟨w.heap.size, 2, none⟩ = some (.string y) ∧ w1.cell? ⟨w.heap.size, 3, none⟩ = some (.int .i64 i) ∧ w1.cell? ⟨p, 0, none⟩ = some (.slice An n cn) from by
    have hx := hbx.below hb hbx.lt
    exact ⟨hx.cell 0, hx.cell 1, hx.cell 2, hx.cell 3, (h.cells (hbw.trans (hb.mono hbw.size))).1⟩))
  have HK := Lib.hid (KP.out wb.drew (below_drewn (Below.refl _ _) 1))
  have RX := Lib.hid (fun w1 => rright_any x w1 hxs)
  have RY := Lib.hid (fun w1 => rright_any y w1 hys)
  have HBW := Lib.hid hbw
  have H := Lib.hid h
  have HBX := Lib.hid hbx
  have HNW := Lib.hid hNmsW
  have HQ := Lib.hid hq
  have HN := Lib.hid hn
  have HG := Lib.hid hg
  have HO := Lib.hid ho
  have hfoo := KP.out wb (Below.refl _ _)
  rw [show (getN s.now x).isSome = true from hh] at GT
  rw [hwb] at GT KP HK HBW HBX hfoo
  obtain ⟨e0, e1, e2, e3, e4⟩ := hfoo
  have hnow := h.now
  rw [← hn] at hnow
  have DD := Lib.hid (fun w1 (hb : Below wb.heap.size wb w1) => rdid_any ⟨1, x, y, i⟩ base An n cn s.now w1 (own_below hnow (hbw.trans (hb.mono hbw.size))) hn.symm (Nat.le_trans h.bas (hbw.trans (hb.mono hbw.size)).size) hn9 ho.kind)
  have HB2 := Lib.hid (show Below wb.heap.size wb wb.drew.drew from below_drewn (below_drewn (Below.refl _ _) 1) 1)
  have HBZ := Lib.hid (show w.heap.size ≤ wb.drew.drew.heap.size from hbw.size)
  have s2 : q + 1 ≤ maxLen := by unfold maxLen; omega
  have s3 : (q + 1) * 48 ≤ 140737488355328 := by omega
  rw [hwb] at DD HB2 HBZ
  clear hnow
  rw [hr] at RY
  clear h hg ho hq hn hbw hbx hNmsW hwb hxs hys
  go_enter Tryz.func72, Tryz.ntmps72
  go_wp2
  go_region_held3 (fun w1 => w1.cell? ⟨w.heap.size, 0, none⟩ = some (.int .i64 1) ∧ w1.cell? ⟨w.heap.size, 1, none⟩ = some (.string x) ∧ w1.cell? ⟨w.heap.size, 2, none⟩ = some (.string y) ∧ w1.cell? ⟨w.heap.size, 3, none⟩ = some (.int .i64 i) ∧ w1.cell? ⟨p, 0, none⟩ = some (.slice An n cn))
    (first | assumption | exact HK.out)
    (first | (go_at_call 63; go_loud (refine GT.out.mono ?_; rintro e w9 ⟨rfl, rfl⟩)))
  go_wp2_with (first
    | (go_at_call 104; go_loud (refine (RY.out _).mono ?_; rintro e w9 ⟨rfl, rfl⟩)))
  go_region_law ((first
    | (go_simp; go_at_call 105; go_loud (refine (DD.out _ HB2.out).mono ?_; rintro e w3 ⟨A3, c3, rfl, hown3, hb3, hmv3⟩; have HB3 := Lib.hid (show Below w.heap.size w w3 from (HBW.out.trans (HB2.out.mono HBW.out.size)).trans (hb3.mono HBZ.out)); obtain ⟨y0, -, -, yf0, -, -⟩ := H.out.cells HB3.out; have HS5 := Lib.hid (H.out.setNow hown3 HB3.out (fun g hg => (hmv3 g hg).imp id (fun h => Nat.le_trans HBZ.out h))); have HC5 := Lib.hid (show Chg S w (w3.setCell ⟨p, 0, none⟩ (.slice A3 (didN cfT s.now ⟨1, x, y, i⟩).length c3)) from (Chg.of_below HB3.out (Nat.le_refl _) S).setCell (.inr H.out.inp) _); have HX5 := Lib.hid (show Blk (w3.setCell ⟨p, 0, none⟩ (.slice A3 (didN cfT s.now ⟨1, x, y, i⟩).length c3)) w.heap.size 113 #[.int .i64 1, .string x, .string y, .int .i64 i] from ((HBX.out.below (HB2.out.trans (hb3.mono HB2.out.size)) HBX.out.lt).far (fun e => by have := H.out.blk.lt; have e : w.heap.size = p := e; omega) _)); have HZ5 := Lib.hid (show w3.heap.size = (w3.setCell ⟨p, 0, none⟩ (.slice A3 (didN cfT s.now ⟨1, x, y, i⟩).length c3)).heap.size from (size_set _ _ _).symm); clear hown3 hb3 hmv3))))
  all_goals
    generalize (w3.setCell ⟨p, 0, none⟩ (.slice A3 (didN cfT s.now ⟨1, x, y, i⟩).length c3)) = w5 at *
    obtain ⟨-, -, z2, -, -, zf2⟩ := HS5.out.cells (Below.refl _ _)
    have b0 := HX5.out.cell 0
    have b1 := HX5.out.cell 1
    have b2 := HX5.out.cell 2
    have b3 := HX5.out.cell 3
    simp only [List.getElem?_toArray, List.getElem?_cons_zero, List.getElem?_cons_succ] at b0 b1 b2 b3
    have hpl := HS5.out.blk.lt
    have hpn : ¬ p = w5.heap.size := Nat.ne_of_lt hpl
    clear y0 yf0
    go_wp2
    go_region_law ((first
      | go_loud (refine step_append_any _ rfl (.tmp 63) (.tmp 65) _ rfl base 113 i0 _ 4 48 Tryz.underlying42 hi hz0 hz1 hz2 rfl (Nat.zero_lt_succ 3) (.slice Ao q co) q _ rfl ((HS5.out.pend_ HQ.out).alloc _) _ _ 1 1 (opC ⟨1, x, y, i⟩) rfl (newAt _ _ _ 4 _ rfl (by simp)) (opC_one _) s2 s3 (by have := HS5.out.bas; simp; omega) ?_; intro v4 w4 hown4 hg4 hat4; obtain ⟨A4, c4, rfl, -, -⟩ := own_form hown4; obtain ⟨g2, gf2⟩ := HS5.out.pcells (undrew_grown hg4); have HP := Lib.hid (HS5.out.pushed (o := ⟨1, x, y, i⟩) HQ.out (undrew_grown hg4) hown4 hat4); clear hown4 hg4 hat4)))
    all_goals
      go_wp2
      go_ret
      exact ⟨rfl, RDT.step H.out.foot H.out.bas HC5.out HP.out.1 HZ5.out HP.out.2⟩

set_option maxHeartbeats 4000000 in
set_option maxRecDepth 100000 in
theorem rdo_ok2 (p : Nat) (base N : Nat) (S : Nat → Prop) (s : DB) (nv sv ov : Value) (x y : ByteArray) (i : Int) (w : World) (h : RD w base S p s nv sv ov) (hg : GoodD s N) (hN : N ≤ 900000) (ho : OkO ⟨2, x, y, i⟩) (hh : hasB s.now x = true) :
    Calls Tryz.prog 72 #[.pointer (some ⟨p, 0, none⟩), .agg #[.int .i64 2, .string x, .string y, .int .i64 i]] w fun e w' => e = .returned (.int .i64 0) ∧ RDT base S p ⟨didN cfT s.now ⟨2, x, y, i⟩, s.safe, s.ops ++ [⟨2, x, y, i⟩]⟩ w w' := by
  obtain ⟨i0, hi, hz0, hz1, hz2⟩ := info_parts opInfo4
  obtain ⟨An, cn, rfl, hNmsW⟩ := Nms.of_own h.now
  obtain ⟨Ao, co, rfl, -, -⟩ := own_form h.pend
  obtain ⟨n, hn⟩ : ∃ n, n = s.now.length := ⟨_, rfl⟩
  obtain ⟨q, hq⟩ : ∃ q, q = s.ops.length := ⟨_, rfl⟩
  have hq9 : q ≤ 900000 := by have := hg.safe; omega
  have hn9 : n ≤ 900000 := by have := hg.now; omega
  rw [← hn] at hNmsW
  rw [← hq, ← hn] at h
  obtain ⟨wb, hwb⟩ : ∃ wb, wb = w.alloc (.cells #[.int .i64 2, .string x, .string y, .int .i64 i] 113) := ⟨_, rfl⟩
  have hbw : Below w.heap.size w wb := by rw [hwb]; exact (Below.refl _ _).alloc (Nat.le_refl _) _
  have hbx : Blk wb w.heap.size 113 #[.int .i64 2, .string x, .string y, .int .i64 i] := by rw [hwb]; exact Blk.new _ _ _
  have hxs : x.size ≤ maxLen := by have := ho.a; unfold maxLen; simp only at this; omega
  have hys : y.size ≤ maxLen := by have := ho.b; unfold maxLen; simp only at this; omega
  have GT := Lib.hid (rget_any An n cn w.heap.size s.now x wb.drew ((hNmsW.below hbw).drewN 1))
  have KP := Lib.hid (fun w1 (hb : Below wb.heap.size wb w1) => (show w1.cell? ⟨w.heap.size, 0, none⟩ = some (.int .i64 2) ∧ w1.cell? ⟨w.heap.size, 1, none⟩ = some (.string x) ∧ w1.cell? ⟨w.heap.size, 2, none⟩ = some (.string y) ∧ w1.cell? ⟨w.heap.size, 3, none⟩ = some (.int .i64 i) ∧ w1.cell? ⟨p, 0, none⟩ = some (.slice An n cn) from by
    have hx := hbx.below hb hbx.lt
    exact ⟨hx.cell 0, hx.cell 1, hx.cell 2, hx.cell 3, (h.cells (hbw.trans (hb.mono hbw.size))).1⟩))
  have HK := Lib.hid (KP.out wb.drew (below_drewn (Below.refl _ _) 1))
  have RX := Lib.hid (fun w1 => rright_any x w1 hxs)
  have RY := Lib.hid (fun w1 => rright_any y w1 hys)
  have HBW := Lib.hid hbw
  have H := Lib.hid h
  have HBX := Lib.hid hbx
  have HNW := Lib.hid hNmsW
  have HQ := Lib.hid hq
  have HN := Lib.hid hn
  have HG := Lib.hid hg
  have HO := Lib.hid ho
  have hfoo := KP.out wb (Below.refl _ _)
  rw [show (getN s.now x).isSome = true from hh] at GT
  rw [hwb] at GT KP HK HBW HBX hfoo
  obtain ⟨e0, e1, e2, e3, e4⟩ := hfoo
  have hnow := h.now
  rw [← hn] at hnow
  have DD := Lib.hid (fun w1 (hb : Below wb.heap.size wb w1) => rdid_any ⟨2, x, y, i⟩ base An n cn s.now w1 (own_below hnow (hbw.trans (hb.mono hbw.size))) hn.symm (Nat.le_trans h.bas (hbw.trans (hb.mono hbw.size)).size) hn9 ho.kind)
  have HB2 := Lib.hid (show Below wb.heap.size wb wb.drew.drew from below_drewn (below_drewn (Below.refl _ _) 1) 1)
  have HBZ := Lib.hid (show w.heap.size ≤ wb.drew.drew.heap.size from hbw.size)
  have s2 : q + 1 ≤ maxLen := by unfold maxLen; omega
  have s3 : (q + 1) * 48 ≤ 140737488355328 := by omega
  rw [hwb] at DD HB2 HBZ
  clear hnow
  clear h hg ho hq hn hbw hbx hNmsW hwb hxs hys
  go_enter Tryz.func72, Tryz.ntmps72
  go_wp2
  go_region_held3 (fun w1 => w1.cell? ⟨w.heap.size, 0, none⟩ = some (.int .i64 2) ∧ w1.cell? ⟨w.heap.size, 1, none⟩ = some (.string x) ∧ w1.cell? ⟨w.heap.size, 2, none⟩ = some (.string y) ∧ w1.cell? ⟨w.heap.size, 3, none⟩ = some (.int .i64 i) ∧ w1.cell? ⟨p, 0, none⟩ = some (.slice An n cn))
    (first | assumption | exact HK.out)
    (first | (go_at_call 63; go_loud (refine GT.out.mono ?_; rintro e w9 ⟨rfl, rfl⟩)))
  go_wp2
  go_region_law ((first
    | (go_simp; go_at_call 105; go_loud (refine (DD.out _ HB2.out).mono ?_; rintro e w3 ⟨A3, c3, rfl, hown3, hb3, hmv3⟩; have HB3 := Lib.hid (show Below w.heap.size w w3 from (HBW.out.trans (HB2.out.mono HBW.out.size)).trans (hb3.mono HBZ.out)); obtain ⟨y0, -, -, yf0, -, -⟩ := H.out.cells HB3.out; have HS5 := Lib.hid (H.out.setNow hown3 HB3.out (fun g hg => (hmv3 g hg).imp id (fun h => Nat.le_trans HBZ.out h))); have HC5 := Lib.hid (show Chg S w (w3.setCell ⟨p, 0, none⟩ (.slice A3 (didN cfT s.now ⟨2, x, y, i⟩).length c3)) from (Chg.of_below HB3.out (Nat.le_refl _) S).setCell (.inr H.out.inp) _); have HX5 := Lib.hid (show Blk (w3.setCell ⟨p, 0, none⟩ (.slice A3 (didN cfT s.now ⟨2, x, y, i⟩).length c3)) w.heap.size 113 #[.int .i64 2, .string x, .string y, .int .i64 i] from ((HBX.out.below (HB2.out.trans (hb3.mono HB2.out.size)) HBX.out.lt).far (fun e => by have := H.out.blk.lt; have e : w.heap.size = p := e; omega) _)); have HZ5 := Lib.hid (show w3.heap.size = (w3.setCell ⟨p, 0, none⟩ (.slice A3 (didN cfT s.now ⟨2, x, y, i⟩).length c3)).heap.size from (size_set _ _ _).symm); clear hown3 hb3 hmv3))))
  all_goals
    generalize (w3.setCell ⟨p, 0, none⟩ (.slice A3 (didN cfT s.now ⟨2, x, y, i⟩).length c3)) = w5 at *
    obtain ⟨-, -, z2, -, -, zf2⟩ := HS5.out.cells (Below.refl _ _)
    have b0 := HX5.out.cell 0
    have b1 := HX5.out.cell 1
    have b2 := HX5.out.cell 2
    have b3 := HX5.out.cell 3
    simp only [List.getElem?_toArray, List.getElem?_cons_zero, List.getElem?_cons_succ] at b0 b1 b2 b3
    have hpl := HS5.out.blk.lt
    have hpn : ¬ p = w5.heap.size := Nat.ne_of_lt hpl
    clear y0 yf0
    go_wp2
    go_region_law ((first
      | go_loud (refine step_append_any _ rfl (.tmp 63) (.tmp 65) _ rfl base 113 i0 _ 4 48 Tryz.underlying42 hi hz0 hz1 hz2 rfl (Nat.zero_lt_succ 3) (.slice Ao q co) q _ rfl ((HS5.out.pend_ HQ.out).alloc _) _ _ 1 1 (opC ⟨2, x, y, i⟩) rfl (newAt _ _ _ 4 _ rfl (by simp)) (opC_one _) s2 s3 (by have := HS5.out.bas; simp; omega) ?_; intro v4 w4 hown4 hg4 hat4; obtain ⟨A4, c4, rfl, -, -⟩ := own_form hown4; obtain ⟨g2, gf2⟩ := HS5.out.pcells (undrew_grown hg4); have HP := Lib.hid (HS5.out.pushed (o := ⟨2, x, y, i⟩) HQ.out (undrew_grown hg4) hown4 hat4); clear hown4 hg4 hat4)))
    all_goals
      go_wp2
      go_ret
      exact ⟨rfl, RDT.step H.out.foot H.out.bas HC5.out HP.out.1 HZ5.out HP.out.2⟩

end Go.Proofs.YtclglbddibjenaaGreat

/-
  LAYER 7: WHAT THE DOCUMENT'S OWN Do, Sync AND Crash DO: contracts.
-/
set_option linter.unusedVariables false
set_option linter.unusedSimpArgs false
namespace Go.Proofs.YtclglbddibjenaaGreat
open Go.RowKit

theorem rdo_any (p : Nat) (base N : Nat) (S : Nat → Prop) (s : DB) (nv sv ov : Value) (o : OpB) (w : World) (h : RD w base S p s nv sv ov) (hg : GoodD s N) (hN : N ≤ 900000) (ho : OkO o) :
    Calls Tryz.prog 72 #[.pointer (some ⟨p, 0, none⟩), .agg #[.int .i64 o.kind, .string o.a, .string o.b, .int .i64 o.id]] w fun e w' => e = .returned (.int .i64 (doE s.now o)) ∧ RDT base S p (doS s o) w w' := by
  obtain ⟨k, x, y, i⟩ := o
  have hk := ho.kind
  simp only at hk
  rcases hk with rfl | rfl | rfl
  · have hE : doE s.now ⟨0, x, y, i⟩ = if hasB s.now x then 7 else if rightB x then 0 else 1 := by unfold doE; rw [if_pos rfl]
    cases h1 : hasB s.now x with
    | true =>
      have he : doE s.now ⟨0, x, y, i⟩ = 7 := by rw [hE, h1]; rfl
      rw [rdoS_no (by rw [he]; omega), he]
      exact rdo_twice p base N S s nv sv ov x y i w h hg hN ho h1
    | false =>
      cases h2 : rightB x with
      | true =>
        have he : doE s.now ⟨0, x, y, i⟩ = 0 := by rw [hE, h1, h2]; rfl
        rw [rdoS_yes he, he]
        exact rdo_ok0 p base N S s nv sv ov x y i w h hg hN ho h1 h2
      | false =>
        have he : doE s.now ⟨0, x, y, i⟩ = 1 := by rw [hE, h1, h2]; rfl
        rw [rdoS_no (by rw [he]; omega), he]
        exact rdo_arg0 p base N S s nv sv ov x y i w h hg hN ho h1 h2
  · have hE : doE s.now ⟨1, x, y, i⟩ = if hasB s.now x then (if rightB y then 0 else 1) else 6 := by unfold doE; rw [if_neg (show ¬ (1 : Int) = 0 by omega), if_pos rfl]
    cases h1 : hasB s.now x with
    | false =>
      have he : doE s.now ⟨1, x, y, i⟩ = 6 := by rw [hE, h1]; rfl
      rw [rdoS_no (by rw [he]; omega), he]
      exact rdo_none1 p base N S s nv sv ov x y i w h hg hN ho h1
    | true =>
      cases h2 : rightB y with
      | true =>
        have he : doE s.now ⟨1, x, y, i⟩ = 0 := by rw [hE, h1, h2]; rfl
        rw [rdoS_yes he, he]
        exact rdo_ok1 p base N S s nv sv ov x y i w h hg hN ho h1 h2
      | false =>
        have he : doE s.now ⟨1, x, y, i⟩ = 1 := by rw [hE, h1, h2]; rfl
        rw [rdoS_no (by rw [he]; omega), he]
        exact rdo_arg1 p base N S s nv sv ov x y i w h hg hN ho h1 h2
  · have hE : doE s.now ⟨2, x, y, i⟩ = if hasB s.now x then 0 else 6 := by unfold doE; rw [if_neg (show ¬ (2 : Int) = 0 by omega), if_neg (show ¬ (2 : Int) = 1 by omega)]
    cases h1 : hasB s.now x with
    | false =>
      have he : doE s.now ⟨2, x, y, i⟩ = 6 := by rw [hE, h1]; rfl
      rw [rdoS_no (by rw [he]; omega), he]
      exact rdo_none2 p base N S s nv sv ov x y i w h hg hN ho h1
    | true =>
      have he : doE s.now ⟨2, x, y, i⟩ = 0 := by rw [hE, h1]; rfl
      rw [rdoS_yes he, he]
      exact rdo_ok2 p base N S s nv sv ov x y i w h hg hN ho h1

theorem rdsync_any (p : Nat) (base : Nat) (S : Nat → Prop) (s : DB) (nv sv ov : Value) (w : World) (h : RD w base S p s nv sv ov) :
    Calls Tryz.prog 76 #[.pointer (some ⟨p, 0, none⟩)] w fun e w' => e = .returned (.tuple #[]) ∧ RDT base S p s.sync w w' := by
  obtain ⟨An, cn, rfl, -, -⟩ := own_form h.now
  obtain ⟨d0, d1, d2, f0, f1, f2⟩ := h.cells (Below.refl _ _)
  obtain ⟨n, hn⟩ : ∃ n, n = s.now.length := ⟨_, rfl⟩
  rw [← hn] at h d0
  have HE := Lib.hid (show RDT base S p s.sync w ((w.setCell ⟨p, 1, none⟩ (.slice An n cn)).setCell ⟨p, 2, none⟩ (.slice none 0 0)) from
    RDT.of (((Chg.refl S w).setCell (.inr h.inp) _).setCell (.inr h.inp) _) h.setSync (fun _ h => .inl h) h.foot h.bas)
  obtain ⟨sv1, rfl⟩ : ∃ sv1, sv1 = sv := ⟨_, rfl⟩
  clear h hn
  go_enter Tryz.func76, Tryz.ntmps76
  go_wp2
  go_end0
  exact ⟨rfl, HE.out⟩

/-! ### Crash -/
/-- A directory has been told; its names may lie where the elder's do. -/
def RDcr (base : Nat) (S : Nat → Prop) (s : DB) (w : World) (e : Ending) (w' : World) : Prop :=
  ∃ p nv sv ov, e = .returned (.pointer (some ⟨p, 0, none⟩)) ∧ Below w.heap.size w w' ∧ RD w' base (grow S w w') p s nv sv ov

structure RcA (w wr : World) (base : Nat) (S : Nat → Prop) (s : DB) (ks : List Bool) (k : Nat) (A : Option Addr) (n c : Nat) (L : NmL) : Prop where
  is_ : L = crashN cfT s.safe (s.ops.take k) ks
  len : L.length = n
  own : wr.ownsRow base 85 2 (.slice A n c) n (namesC L)
  in_ : ∀ g, (Value.slice A n c).ownBlock = some g → S g ∨ w.heap.size ≤ g
  below : Below w.heap.size w wr

section
variable {w wr w' : World} {base k n c : Nat} {S : Nat → Prop} {s : DB} {ks : List Bool} {A : Option Addr} {L : NmL}
theorem RcA.stay (h : RcA w wr base S s ks k A n c L) (hk : k < s.ops.length) (hb : ks.getD k false = false) : RcA w wr base S s ks (k + 1) A n c L :=
  ⟨by rw [crashN_next hk, hb, h.is_]; rfl, h.len, h.own, h.in_, h.below⟩
theorem RcA.step {o : OpB} {e : Ending} (h : RcA w wr base S s ks k A n c L) (ho : s.ops[k]? = some o) (hb : ks.getD k false = true) (hd : DidR base (.slice A n c) (didN cfT L o) wr e w') :
    ∃ A' n' c', e = .returned (.slice A' n' c') ∧ RcA w w' base S s ks (k + 1) A' n' c' (didN cfT L o) := by
  obtain ⟨A', c', rfl, hown, hbl, hm⟩ := hd
  obtain ⟨hlt, he⟩ := List.getElem?_eq_some_iff.1 ho
  have hs := h.below.size
  refine ⟨A', _, c', rfl, by rw [crashN_next hlt, hb, if_pos rfl, ← h.is_, he], rfl, hown, fun g hg => ?_, h.below.trans (hbl.mono hs)⟩
  rcases hm g hg with e | e
  · exact h.in_ g e
  · exact .inr (by omega)
theorem RcA.out (h : RcA w wr base S s ks k A n c L) (hk : ks.length ≤ k ∨ s.ops.length ≤ k) (hf : ∀ j, S j → base ≤ j ∧ j < w.heap.size) (hb : base ≤ w.heap.size) :
    RDcr base S (s.crash cfT ks) w (.returned (.pointer (some ⟨wr.heap.size, 0, none⟩))) (wr.alloc (.cells #[.slice A n c, .slice A n c, .slice none 0 0] 44)) := by
  have hL : L = crashN cfT s.safe s.ops ks := by rw [h.is_, crashN_take _ _ _ _ hk]
  have hbl := h.below.alloc h.below.size (.cells #[.slice A n c, .slice A n c, .slice none 0 0] 44)
  have hsz : (wr.alloc (.cells #[.slice A n c, .slice A n c, .slice none 0 0] 44)).heap.size = wr.heap.size + 1 := by simp
  have hs := h.below.size
  have hin : ∀ g, (Value.slice A n c).ownBlock = some g → grow S w (wr.alloc (.cells #[.slice A n c, .slice A n c, .slice none 0 0] 44)) g := fun g hg => by
    rcases h.in_ g hg with e | e
    · exact .inl e
    · have := (h.own.lt g hg).2; exact .inr ⟨e, by omega⟩
  have hs2 : s.crash cfT ks = ⟨L, L, []⟩ := by rw [hL]; rfl
  rw [hs2]
  have hlen := h.len
  subst hlen
  exact ⟨_, _, _, _, rfl, hbl, ⟨chg_lt hf (Chg.of_below hbl (Nat.le_refl _) (fun _ => False)) hb, by omega, .inr ⟨hs, by omega⟩, Blk.new _ _ _, h.own.alloc _, h.own.alloc _, World.ownsRow_nil _ _ _ _, hin, hin, fun g hg => by simp [Value.ownBlock] at hg⟩⟩
theorem RcA.size {N : Nat} (h : RcA w wr base S s ks k A n c L) (hg : GoodD s N) : n ≤ N := by
  have h1 := crashN_length (s.ops.take k) s.safe ks
  have h2 := hg.safe
  rw [List.length_take, ← h.is_, h.len] at h1
  omega
end

/-- The k-th op, as a round loads it. -/
theorem RD.op_at {w : World} {base p : Nat} {S : Nat → Prop} {s : DB} {nv sv : Value} {g q c k : Nat} (h : RD w base S p s nv sv (.slice (some ⟨g, 0, none⟩) q c)) {o : OpB} (ho : s.ops[k]? = some o) :
    w.cell? ⟨g, k * 4, none⟩ = some (.int .i64 o.kind) ∧ w.cell? ⟨g, k * 4 + 1, none⟩ = some (.string o.a) ∧ w.cell? ⟨g, k * 4 + 2, none⟩ = some (.string o.b) ∧ w.cell? ⟨g, k * 4 + 3, none⟩ = some (.int .i64 o.id) := by
  obtain ⟨h0, h1, h2, h3⟩ := opsC_get ho
  obtain ⟨_, _, e, _⟩ := own_form h.pend
  injection e with _ e2 _
  have hp := h.pend
  rw [← e2] at hp
  have c := hp.cells (g := g) rfl
  have pl : ∀ j, (⟨g, 0, none⟩ : Addr).add j = ⟨g, j, none⟩ := fun j => by unfold Addr.add; split <;> simp_all
  have c0 := c _ _ h0
  have c1 := c _ _ h1
  have c2 := c _ _ h2
  have c3 := c _ _ h3
  rw [pl] at c0 c1 c2 c3
  exact ⟨c0, c1, c2, c3⟩

set_option maxHeartbeats 2000000 in
theorem rdcrash_any (p : Nat) (K : Option Addr) (m d : Nat) (ks : List Bool) (Bk base N : Nat) (S : Nat → Prop) (s : DB) (nv sv ov : Value) (w : World) (h : RD w base S p s nv sv ov) (hr : Reads w Bk 1 K m (cellsB ks)) (hB : Bk ≤ w.heap.size) (hmd : m ≤ d) (hdc : d ≤ 9223372036854775807) (hg : GoodD s N) (hN : N ≤ 900000) :
    Calls Tryz.prog 78 #[.pointer (some ⟨p, 0, none⟩), .slice K m d] w (RDcr base S (s.crash cfT ks) w) := by
  obtain ⟨As, cs, rfl, -, -⟩ := own_form h.safe
  obtain ⟨Ao, co, rfl, hqc, -⟩ := own_form h.pend
  have hlk : ks.length = m := by have := hr.1; rw [cellsB_length] at this; omega
  obtain ⟨n, hn⟩ : ∃ n, n = s.safe.length := ⟨_, rfl⟩
  obtain ⟨q, hq⟩ : ∃ q, q = s.ops.length := ⟨_, rfl⟩
  have hq9 : q ≤ 900000 := by have := hg.safe; omega
  rw [← hq, ← hn] at h
  rw [← hq] at hqc
  have hsf := h.safe
  rw [← hn] at hsf
  have HS := Lib.hid (show RcA w w base S s ks 0 As n cs s.safe from ⟨by rw [List.take_zero]; rfl, hn.symm, hsf, fun g hg => .inl (h.ins g hg), Below.refl _ _⟩)
  obtain ⟨-, d1, -⟩ := h.cells (Below.refl _ _)
  have H := Lib.hid (fun (w1 : World) (hb : Below w.heap.size w w1) => h.below hb)
  have HF := Lib.hid (And.intro h.foot h.bas)
  have HQ := Lib.hid hq
  have HG := Lib.hid hg
  have HR := Lib.hid hr
  have HLK := Lib.hid hlk
  clear h hn hq hg hr hlk hsf
  go_enter Tryz.func78, Tryz.ntmps78
  go_wp2
  clear d1
  go_loopw [5, 6] (fun v i wr => ∃ (k : Nat) (A : Option Addr) (n c : Nat) (L : NmL), k ≤ q ∧ i = .int .i64 k ∧ v = .slice A n c ∧ Hid (RcA w wr base S s ks k A n c L)) (fun _ i _ => q - (intOf i).toNat)
  case atStart => exact ⟨0, _, _, _, _, Nat.zero_le _, rfl, rfl, HS⟩
  case round =>
    clear HS
    obtain ⟨k, A, n, c, L, hk, rfl, rfl, C⟩ := hrel
    obtain ⟨-, -, e2, -⟩ := (H.out wr C.out.below).cells (Below.refl _ _)
    by_cases hlt : k < q
    · have kq : (k : Int) < (q : Int) := by omega
      by_cases hkm : k < m
      · have kmi : (k : Int) < (m : Int) := by omega
        obtain ⟨o, ho⟩ : ∃ o, s.ops[k]? = some o := ⟨_, List.getElem?_eq_getElem (by rw [← HQ.out]; omega)⟩
        obtain ⟨b, off, rfl, hbB, hc⟩ := HR.out.bools (by omega)
        obtain ⟨bt, hbt⟩ : ∃ bt, bt = ks.getD k false := ⟨_, rfl⟩
        have ck : wr.cell? ⟨b, off + k, none⟩ = some (.bool bt) := by rw [hbt]; exact (C.out.below.cell (p := ⟨b, off + k, none⟩) (by show b < _; omega)).trans (hc k (by omega))
        cases bt with
        | false =>
          have HN := Lib.hid (C.out.stay (by rw [← HQ.out]; omega) hbt.symm)
          clear hbt ho hc
          go_wp2
          go_roundw
          case rel => exact ⟨k + 1, A, n, c, L, by omega, by go_num, rfl, HN⟩
          case measure => simp [intOf]; omega
        | true =>
          have hw := H.out wr C.out.below
          obtain ⟨g, cap, hv, -⟩ := (hw.pend_ HQ.out).form (by omega)
          injection hv with hv1 hv2 hv3
          subst hv1
          clear hv2 hv3
          obtain ⟨c0, c1, c2, c3⟩ := hw.op_at ho
          have hok := HG.out.oko o (List.mem_of_getElem? ho)
          have hnN := C.out.size HG.out
          obtain ⟨kd, x, y, i⟩ := o
          have DO := Lib.hid (rdid_any ⟨kd, x, y, i⟩ base A n c L wr C.out.own C.out.len (Nat.le_trans HF.out.2 C.out.below.size) (by omega) hok.kind)
          have NX := Lib.hid (fun (e : Ending) (w' : World) (hd : DidR base (.slice A n c) (didN cfT L ⟨kd, x, y, i⟩) wr e w') => C.out.step ho hbt.symm hd)
          simp only at c0 c1 c2 c3
          clear hbt ho hc hok hw hnN
          go_wp2_with (go_at_call 105; go_loud (refine DO.out.mono ?_; rintro e w3 hd; obtain ⟨A3, n3, c3', rfl, hC3⟩ := NX.out _ _ hd; have HC3 := Lib.hid hC3; clear hd hC3))
          go_roundw
          case rel => exact ⟨k + 1, A3, n3, c3', _, by omega, by go_num, rfl, HC3⟩
          case measure => simp [intOf]; omega
      · have kmi : ¬ (k : Int) < (m : Int) := by omega
        have HE := Lib.hid (C.out.out (.inl (by rw [HLK.out]; omega)) HF.out.1 HF.out.2)
        go_wp2
        go_ret
        exact HE.out
    · have kq : ¬ (k : Int) < (q : Int) := by omega
      have HE := Lib.hid (C.out.out (.inr (by rw [← HQ.out]; omega)) HF.out.1 HF.out.2)
      go_wp2
      go_ret
      exact HE.out

end Go.Proofs.YtclglbddibjenaaGreat
