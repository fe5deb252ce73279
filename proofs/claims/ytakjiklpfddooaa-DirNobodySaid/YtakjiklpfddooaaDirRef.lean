/-
  LAYER 7: WHAT THE DOCUMENT'S OWN Get, without, with AND Names DO: contracts.
-/
import Derived.Test.YtakjiklpfddooaaDirGood
import Derived.Test.YtakjiklpfddooaaFillOne
import Derived.Test.YtakjiklpfddooaaTexts
import Derived.Deep.Grids
set_option linter.unusedVariables false
set_option linter.unusedSimpArgs false
namespace Go.Proofs.Ytakjiklpfddooaa
open Go.RowKit

theorem nameInfo : (Try.prog.info? 64).map (fun i => (i.zero, i.size, i.bytes)) = some (some (.agg #[.string ⟨#[]⟩, .int .i64 0]), 2, 24) := by kernel_rfl
theorem strInfo : (Try.prog.info? 9).map (fun i => (i.zero, i.size, i.bytes)) = some (some (.string ⟨#[]⟩), 1, 16) := by kernel_rfl

/-- A slice that reads as names. -/
structure Nms (w : World) (B : Nat) (A : Option Addr) (n c : Nat) (l : NmL) : Prop where
  reads : Reads w B 2 A n (namesC l)
  len : l.length = n
  le : n ≤ c
  cap : c ≤ 9223372036854775807

section
variable {w w' : World} {B n c : Nat} {A : Option Addr} {l : NmL}
theorem Nms.at_ {k : Nat} (h : Nms w B A n c l) (hk : k < n) : ∃ (b off : Nat) (p : ByteArray × Int), A = some ⟨b, off, none⟩ ∧ b < B ∧ l[k]? = some p ∧ w.cell? ⟨b, off + k * 2, none⟩ = some (.string p.1) ∧ w.cell? ⟨b, off + k * 2 + 1, none⟩ = some (.int .i64 p.2) := by
  obtain ⟨b, off, e, hb, hc⟩ := h.reads.at2 (by omega) (by omega)
  have hl : k < l.length := by rw [h.len]; exact hk
  obtain ⟨h0, h1⟩ := namesC_get (List.getElem?_eq_getElem hl)
  exact ⟨b, off, l[k], e, hb, List.getElem?_eq_getElem hl, hc _ _ h0, by have := hc _ _ h1; rwa [← Nat.add_assoc] at this⟩
theorem Nms.below (h : Nms w B A n c l) (hb : Below B w w') : Nms w' B A n c l := ⟨h.reads.below hb, h.len, h.le, h.cap⟩
theorem Nms.drewN (h : Nms w B A n c l) (k : Nat) : Nms (w.drewN k) B A n c l := ⟨h.reads.drewN k, h.len, h.le, h.cap⟩
theorem Nms.of_own {base : Nat} {v : Value} (h : w.ownsRow base 64 2 v l.length (namesC l)) : ∃ A c, v = .slice A l.length c ∧ Nms w w.heap.size A l.length c l := by
  obtain ⟨A, c, rfl, h1, h2, hr⟩ := own_reads h
  exact ⟨A, c, rfl, hr, rfl, h1, by unfold maxLen at h2; omega⟩
end

theorem get_at {l : NmL} {k : Nat} {p : ByteArray × Int} {x : ByteArray} (h : l[k]? = some p) (hn : ∀ j, j < k → ∀ q, l[j]? = some q → q.1 ≠ x) (hp : p.1 = x) : getN l x = some p.2 := by
  obtain ⟨hlt, he⟩ := List.getElem?_eq_some_iff.1 h
  rw [getN_at hlt (fun j hj => hn j hj _ (List.getElem?_eq_getElem (by omega))), he, if_pos hp]
theorem get_no {l : NmL} {x : ByteArray} (hn : ∀ j, j < l.length → ∀ q, l[j]? = some q → q.1 ≠ x) : getN l x = none := getN_no fun j hj => hn j hj _ (List.getElem?_eq_getElem hj)

theorem rget_any (A : Option Addr) (n c B : Nat) (l : NmL) (x : ByteArray) (w : World) (h : Nms w B A n c l) :
    Calls Try.prog 26 #[.slice A n c, .string x] w fun e w' => e = .returned (.tuple #[.int .i64 ((getN l x).getD 0), .bool (getN l x).isSome]) ∧ w = w' := by
  have hle := h.le
  have hcap := h.cap
  have H := Lib.hid h
  clear h
  go_enter Try.func26, Try.ntmps26
  go_wp2
  go_loop [6] (fun i => ∃ k : Nat, k ≤ n ∧ i = .int .i64 k ∧ Hid (∀ j, j < k → ∀ q, l[j]? = some q → q.1 ≠ x)) (fun i => n - (intOf i).toNat)
  case atStart => exact ⟨0, Nat.zero_le _, rfl, Lib.hid (fun j hj => absurd hj (by omega))⟩
  case round =>
    obtain ⟨k, hk, rfl, hall⟩ := hrel
    by_cases hlt : k < n
    · obtain ⟨b, off, p, rfl, hb, hp, c0, c1⟩ := H.out.at_ hlt
      have hlti : (k : Int) < (n : Int) := by omega
      by_cases hx : p.1 = x
      · have HG := Lib.hid (get_at hp hall.out hx)
        have d1 : (p.1.toList == x.toList) = true := by rw [beq_text]; exact decide_eq_true hx
        clear hp hx
        go_wp2
        go_ret2
        exact ⟨by rw [HG.out]; rfl, rfl⟩
      · have d1 : (p.1.toList == x.toList) = false := by rw [beq_text]; exact decide_eq_false hx
        have HN := Lib.hid (show ∀ j, j < k + 1 → ∀ q, l[j]? = some q → q.1 ≠ x from fun j hj q hq => by
          rcases Nat.lt_or_ge j k with e | e
          · exact hall.out j e q hq
          · obtain rfl : j = k := by omega
            rw [hp] at hq; injection hq with hq; subst hq; exact hx)
        clear hp hx
        go_wp2
        go_round
        case rel => exact ⟨k + 1, by omega, by go_num, HN⟩
        case measure => simp [intOf]; omega
    · obtain rfl : k = n := by omega
      have hlti : ¬ (k : Int) < (k : Int) := by omega
      have HG := Lib.hid (get_no (l := l) (x := x) (fun j hj => hall.out j (by rw [← H.out.len]; exact hj)))
      go_wp2
      go_ret2
      exact ⟨by rw [HG.out]; rfl, rfl⟩

/-- Names of its own have been told. -/
def GivesN (l : NmL) (w : World) (e : Ending) (w' : World) : Prop := ∃ A c, e = .returned (.slice A l.length c) ∧ w'.ownsRow w.heap.size 64 2 (.slice A l.length c) l.length (namesC l) ∧ Below w.heap.size w w'

/-- At the head of each round: the names that have been put down. -/
structure OutAt (w wr : World) (A : Option Addr) (m c : Nat) (out : NmL) : Prop where
  len : out.length = m
  own : wr.ownsRow w.heap.size 64 2 (.slice A m c) m (namesC out)
  below : Below w.heap.size w wr
theorem OutAt.start (w : World) : OutAt w w none 0 0 [] := ⟨rfl, World.ownsRow_nil _ _ _ _, Below.refl _ _⟩
theorem OutAt.gives {w wr : World} {A : Option Addr} {m c : Nat} {out : NmL} (h : OutAt w wr A m c out) : GivesN out w (.returned (.slice A m c)) wr := by
  obtain ⟨rfl, h2, h3⟩ := h
  exact ⟨A, c, rfl, h2, h3⟩
theorem OutAt.push {w wr w1 : World} {A : Option Addr} {m c : Nat} {out : NmL} {p : ByteArray × Int} {v : Value} {o : Obj} (h : OutAt w wr A m c out) (hown : w1.ownsRow w.heap.size 64 2 v (m + 1) (namesC out ++ nameC p)) (hg : (wr.alloc o).grownBy w1 (Value.slice A m c).ownBlock) :
    ∃ A' c', v = .slice A' (m + 1) c' ∧ OutAt w w1 A' (m + 1) c' (out ++ [p]) := by
  obtain ⟨A', c', rfl, -, -⟩ := own_form hown
  refine ⟨A', c', rfl, by simp [h.len], by rw [namesC_append, namesC_one]; exact hown, ?_⟩
  exact (h.below.alloc h.below.size o).grown hg (by have := h.below.size; simp; omega) (fun g hg => (h.own.lt g hg).1)

theorem new2 (w : World) (t : TypeId) (p : ByteArray × Int) : Reads (w.alloc (.cells #[.string p.1, .int .i64 p.2] t)) (w.heap.size + 1) 2 (some ⟨w.heap.size, 0, none⟩) 1 (nameC p) := new66 w t #[.string p.1, .int .i64 p.2] 2 rfl

set_option maxHeartbeats 1000000 in
theorem rwo_any (A : Option Addr) (n c B : Nat) (l : NmL) (x : ByteArray) (w : World) (h : Nms w B A n c l) (hB : B ≤ w.heap.size) (hn : n ≤ 1000000) :
    Calls Try.prog 40 #[.slice A n c, .string x] w (GivesN (woN l x) w) := by
  obtain ⟨i0, hi, hz0, hz1, hz2⟩ := info_parts nameInfo
  have hle := h.le
  have hcap := h.cap
  have H := Lib.hid h
  clear h
  go_enter Try.func40, Try.ntmps40
  go_wp2
  go_loopw [5, 6] (fun v i wr => ∃ (k m c' : Nat) (A' : Option Addr), k ≤ n ∧ m ≤ k ∧ v = .slice A' m c' ∧ i = .int .i64 k ∧ Hid (OutAt w wr A' m c' (woN (l.take k) x))) (fun _ i _ => n - (intOf i).toNat)
  case atStart => exact ⟨0, 0, 0, none, Nat.zero_le _, Nat.zero_le _, rfl, rfl, Lib.hid (OutAt.start w)⟩
  case round =>
    obtain ⟨k, m, c', A', hk, hm, rfl, rfl, O⟩ := hrel
    by_cases hlt : k < n
    · obtain ⟨b, off, p, rfl, hb, hp, c0, c1⟩ := (H.out.below (O.out.below.mono hB)).at_ hlt
      have hlti : (k : Int) < (n : Int) := by omega
      have hll : k < l.length := by rw [H.out.len]; exact hlt
      have hpe : l[k] = p := by rw [List.getElem?_eq_getElem hll] at hp; injection hp
      have hnx := woN_next x hll
      rw [hpe] at hnx
      by_cases hx : p.1 = x
      · have d1 : (p.1.toList == x.toList) = true := by rw [beq_text]; exact decide_eq_true hx
        rw [if_pos hx] at hnx
        have HN := Lib.hid (show OutAt w wr A' m c' (woN (l.take (k + 1)) x) by rw [hnx]; exact O.out)
        clear hp hx hnx hpe
        go_wp2
        go_roundw
        case rel => exact ⟨k + 1, m, c', A', by omega, by omega, rfl, by go_num, HN⟩
        case measure => simp [intOf]; omega
      · have d1 : (p.1.toList == x.toList) = false := by rw [beq_text]; exact decide_eq_false hx
        rw [if_neg hx] at hnx
        have HX := Lib.hid hnx
        have s2 : m + 1 ≤ maxLen := by unfold maxLen; omega
        have s3 : (m + 1) * 24 ≤ 140737488355328 := by omega
        clear hp hx hnx hpe
        go_wp2_with (at_builtin; go_loud (refine wpList_append_any _ rfl _ _ _ rfl w.heap.size 64 i0 _ 2 24 Try.underlying26 hi hz0 hz1 hz2 rfl (Nat.zero_lt_succ 1) (.slice A' m c') m _ rfl (O.out.own.alloc _) _ _ 1 1 (nameC p) rfl (new2 _ _ _) (nameC_one _) s2 s3 (by have := O.out.below.size; simp; omega) ?_; intro v1 w1 hown1 hg1 hat1; clear hat1; obtain ⟨A1, c1', rfl, hO⟩ := O.out.push hown1 hg1; have HO := Lib.hid hO; clear hown1 hg1 hO))
        go_roundw
        case rel => exact ⟨k + 1, m + 1, c1', A1, by omega, by omega, rfl, by go_num, Lib.hid (by rw [HX.out]; exact HO.out)⟩
        case measure => simp [intOf]; omega
    · obtain rfl : k = n := by omega
      have hlti : ¬ (k : Int) < (k : Int) := by omega
      have HE := Lib.hid (show GivesN (woN l x) w (.returned (.slice A' m c')) wr by
        have := O.out.gives
        rwa [List.take_of_length_le (by rw [H.out.len]; exact Nat.le_refl _)] at this)
      go_wp2
      go_ret
      exact HE.out

theorem GivesN.nms {l : NmL} {w w' : World} {e : Ending} (h : GivesN l w e w') : ∃ A n c, e = .returned (.slice A n c) ∧ n = l.length ∧ Nms w' w'.heap.size A n c l ∧ Below w.heap.size w w' := by
  obtain ⟨A, c, rfl, h1, h2⟩ := h
  obtain ⟨A', c', e, h3⟩ := Nms.of_own h1
  injection e with e1 _ e3
  subst e1; subst e3
  exact ⟨A, _, c, rfl, rfl, h3, h2⟩
theorem GivesN.later {l : NmL} {w w1 w' : World} {e : Ending} (hb : Below w.heap.size w w1) (h : GivesN l w1 e w') : GivesN l w e w' := by
  obtain ⟨A, c, rfl, h1, h2⟩ := h
  exact ⟨A, c, rfl, own_base h1 hb.size, hb.trans (h2.mono hb.size)⟩

theorem sm2 {m k : Nat} (h : m ≤ 2 * k) (h2 : k ≤ 900000) : m ≤ 2000000 := by omega
theorem sm24 {m : Nat} (h : m ≤ 2000000) : m + 1 ≤ maxLen ∧ (m + 1) * 24 ≤ 140737488355328 ∧ m + 1 + 1 ≤ maxLen ∧ (m + 1 + 1) * 24 ≤ 140737488355328 := by
  unfold maxLen
  refine ⟨?_, ?_, ?_, ?_⟩ <;> omega

theorem wrun_put {st : NmL × Bool} {x : ByteArray} {i : Int} {p : ByteArray × Int} (h1 : st.2 = false) (h2 : cfT x p.1 < 0) : wStep cfT x i st p = (st.1 ++ [(x, i)] ++ [p], true) := by
  unfold wStep; rw [if_pos ⟨h1, h2⟩]; simp
theorem wrun_by {st : NmL × Bool} {x : ByteArray} {i : Int} {p : ByteArray × Int} (h : st.2 = true ∨ ¬ cfT x p.1 < 0) : wStep cfT x i st p = (st.1 ++ [p], st.2) := by
  unfold wStep
  rw [if_neg (fun hh => by
    rcases h with h | h
    · rw [h] at hh; cases hh.1
    · exact h hh.2)]

set_option maxHeartbeats 2000000 in
set_option maxRecDepth 100000 in
theorem rwith_any (A : Option Addr) (n c B : Nat) (l : NmL) (x : ByteArray) (id : Int) (w : World) (h : Nms w B A n c l) (hB : B ≤ w.heap.size) (hn : n ≤ 900000) :
    Calls Try.prog 39 #[.slice A n c, .string x, .int .i64 id] w (GivesN (withN cfT l x id) w) := by
  obtain ⟨i0, hi, hz0, hz1, hz2⟩ := info_parts nameInfo
  have hll := woN_length l x
  have hle0 := h.len
  have WO := Lib.hid (rwo_any A n c B l x w h hB (by omega))
  have HW := Lib.hid (show withN cfT l x id = insN cfT (woN l x) x id from rfl)
  generalize woN l x = L at WO HW hll
  clear h
  go_enter Try.func39, Try.ntmps39
  go_wp2_with (go_at_call 40; go_loud (refine WO.out.mono ?_; rintro e w1 hg; obtain ⟨AL, nL, cL, rfl, hnL, hL, hbL⟩ := hg.nms; have HL := Lib.hid hL; have HB := Lib.hid hbL; have HNL := Lib.hid hnL; have hLn : nL ≤ 900000 := (by omega); clear hg hL hbL hnL))
  have hle := HL.out.le
  have hcap := HL.out.cap
  clear hll hle0
  go_loopw [7, 8, 9] (fun v dn i wr => ∃ (k m c' : Nat) (A' : Option Addr) (bd : Bool), k ≤ nL ∧ m ≤ 2 * k ∧ v = .slice A' m c' ∧ dn = .bool bd ∧ i = .int .i64 k ∧ Hid ((wRun cfT x id (L.take k)).2 = bd) ∧ Hid (OutAt w1 wr A' m c' (wRun cfT x id (L.take k)).1)) (fun _ _ i _ => nL - (intOf i).toNat)
  case atStart => exact ⟨0, 0, 0, none, false, Nat.zero_le _, Nat.zero_le _, rfl, rfl, rfl, Lib.hid rfl, Lib.hid (OutAt.start w1)⟩
  case round =>
    obtain ⟨k, m, c', A', bd, hk, hm, rfl, rfl, rfl, D, O⟩ := hrel
    have hm2 : m ≤ 2000000 := sm2 hm (Nat.le_trans hk hLn)
    obtain ⟨s2, s3, s4, s5⟩ := sm24 hm2
    by_cases hlt : k < nL
    · obtain ⟨b, off, p, rfl, hb, hp, c0, c1⟩ := HL.out.at_ hlt
      have hlti : (k : Int) < (nL : Int) := by omega
      have hLl : k < L.length := by rw [← HNL.out]; exact hlt
      have hpe : L[k] = p := by rw [List.getElem?_eq_getElem hLl] at hp; injection hp
      have hnx := wRun_next (cf := cfT) x id hLl
      rw [hpe] at hnx
      have e0 := (O.out.below.cell (p := ⟨b, off + k * 2, none⟩) (by show b < _; omega)).trans c0
      have e1 := (O.out.below.cell (p := ⟨b, off + k * 2 + 1, none⟩) (by show b < _; omega)).trans c1
      have kl : k < nL := hlt
      cases bd with
      | true =>
        rw [wrun_by (.inl D.out), D.out] at hnx
        have HX := Lib.hid hnx
        clear hp hnx hpe c0 c1
        go_wp2_with (at_builtin; go_loud (refine wpList_append_any _ rfl _ _ _ rfl w1.heap.size 64 i0 _ 2 24 Try.underlying26 hi hz0 hz1 hz2 rfl (Nat.zero_lt_succ 1) (.slice A' m c') m _ rfl (O.out.own.alloc _) _ _ 1 1 (nameC p) rfl (new2 _ _ _) (nameC_one _) s2 s3 (by have := O.out.below.size; simp; omega) ?_; intro v1 w2 hown1 hg1 hat1; clear hat1; obtain ⟨A1, c1', rfl, hO⟩ := O.out.push hown1 hg1; have HO := Lib.hid hO; clear hown1 hg1 hO))
        go_roundw
        case rel => exact ⟨k + 1, m + 1, c1', A1, true, by omega, by omega, rfl, rfl, by go_num, Lib.hid (by rw [HX.out]), Lib.hid (by rw [HX.out]; exact HO.out)⟩
        case measure => simp [intOf]; omega
      | false =>
        by_cases hc : cfT x p.1 < 0
        · rw [wrun_put D.out hc] at hnx
          have HX := Lib.hid hnx
          have d1 : Op.bytesLess p.1.toList x.toList = false := by rw [less_cfT]; exact decide_eq_false (cfT_tot.asym hc)
          have d2 : (p.1.toList == x.toList) = false := by rw [beq_text]; exact decide_eq_false (fun e => by rw [e] at hc; exact cfT_tot.irr _ hc)
          have m1 : True := trivial
          have c0' := Lib.hid (And.intro c0 c1)
          clear hp hnx hpe c0 c1 hc
          go_wp2_with (first
            | (at_builtin; clear m1; go_loud (refine wpList_append_any _ rfl _ _ _ rfl w1.heap.size 64 i0 _ 2 24 Try.underlying26 hi hz0 hz1 hz2 rfl (Nat.zero_lt_succ 1) (.slice A' m c') m _ rfl (O.out.own.alloc _) _ _ 1 1 (nameC (x, id)) rfl (new2 _ _ (x, id)) (nameC_one _) s2 s3 (by have := O.out.below.size; simp; omega) ?_; intro v1 w2 hown1 hg1 hat1; clear hat1; obtain ⟨A1, c1', rfl, hO⟩ := O.out.push hown1 hg1; have e2 := (hO.below.cell (p := ⟨b, off + k * 2, none⟩) (by show b < _; omega)).trans (c0'.out.1); have e3 := (hO.below.cell (p := ⟨b, off + k * 2 + 1, none⟩) (by show b < _; omega)).trans (c0'.out.2); have HO := Lib.hid hO; clear hown1 hg1 hO))
            | (at_builtin; go_loud (refine wpList_append_any _ rfl _ _ _ rfl w1.heap.size 64 i0 _ 2 24 Try.underlying26 hi hz0 hz1 hz2 rfl (Nat.zero_lt_succ 1) (.slice A1 (m + 1) c1') (m + 1) _ rfl (HO.out.own.alloc _) _ _ 1 1 (nameC p) rfl (new2 _ _ _) (nameC_one _) s4 s5 (by have := HO.out.below.size; simp; omega) ?_; intro v3 w3 hown3 hg3 hat3; clear hat3; obtain ⟨A3, c3', rfl, hO3⟩ := HO.out.push hown3 hg3; have HO3 := Lib.hid hO3; clear hown3 hg3 hO3)))
          go_roundw
          case rel => exact ⟨k + 1, m + 1 + 1, c3', A3, true, by omega, by omega, rfl, rfl, by go_num, Lib.hid (by rw [HX.out]), Lib.hid (by rw [HX.out]; exact HO3.out)⟩
          case measure => simp [intOf]; omega
        · rw [wrun_by (.inr hc), D.out] at hnx
          have HX := Lib.hid hnx
          have dd : (Op.bytesLess p.1.toList x.toList = true) ∨ (Op.bytesLess p.1.toList x.toList = false ∧ (p.1.toList == x.toList) = true) := by
            rw [less_cfT, beq_text]
            rcases cfT_tot.tri p.1 x with e | e | e
            · exact .inl (decide_eq_true e)
            · exact .inr ⟨decide_eq_false (by rw [e]; exact cfT_tot.irr _), decide_eq_true e⟩
            · exact absurd e hc
          clear hp hnx hpe c0 c1 hc
          rcases dd with d1 | ⟨d1, d2⟩
          all_goals
            go_wp2_with (at_builtin; go_loud (refine wpList_append_any _ rfl _ _ _ rfl w1.heap.size 64 i0 _ 2 24 Try.underlying26 hi hz0 hz1 hz2 rfl (Nat.zero_lt_succ 1) (.slice A' m c') m _ rfl (O.out.own.alloc _) _ _ 1 1 (nameC p) rfl (new2 _ _ _) (nameC_one _) s2 s3 (by have := O.out.below.size; simp; omega) ?_; intro v1 w2 hown1 hg1 hat1; clear hat1; obtain ⟨A1, c1', rfl, hO⟩ := O.out.push hown1 hg1; have HO := Lib.hid hO; clear hown1 hg1 hO))
            go_roundw
            case rel => exact ⟨k + 1, m + 1, c1', A1, false, by omega, by omega, rfl, rfl, by go_num, Lib.hid (by rw [HX.out]), Lib.hid (by rw [HX.out]; exact HO.out)⟩
            case measure => simp [intOf]; omega
    · obtain rfl : k = nL := by omega
      have hlti : ¬ (k : Int) < (k : Int) := by omega
      have hall := wRun_all (cf := cfT) x id L
      have hD := D.out
      have hO := O.out
      rw [List.take_of_length_le (by rw [HNL.out]; exact Nat.le_refl _)] at hD hO
      rw [hD, ← HW.out] at hall
      cases bd with
      | true =>
        have HE := Lib.hid (show GivesN (withN cfT l x id) w (.returned (.slice A' m c')) wr by
          rw [← hall]
          exact GivesN.later HB.out hO.gives)
        clear hall hD hO
        go_wp2
        go_ret
        exact HE.out
      | false =>
        have HO2 := Lib.hid hO
        have HA := Lib.hid hall
        clear hall hD hO
        go_wp2_with (at_builtin; go_loud (refine wpList_append_any _ rfl _ _ _ rfl w1.heap.size 64 i0 _ 2 24 Try.underlying26 hi hz0 hz1 hz2 rfl (Nat.zero_lt_succ 1) (.slice A' m c') m _ rfl (HO2.out.own.alloc _) _ _ 1 1 (nameC (x, id)) rfl (new2 _ _ (x, id)) (nameC_one _) s2 s3 (by have := HO2.out.below.size; simp; omega) ?_; intro v1 w2 hown1 hg1 hat1; clear hat1; obtain ⟨A1, c1', rfl, hO⟩ := HO2.out.push hown1 hg1; have HE := Lib.hid (show GivesN (withN cfT l x id) w (.returned (.slice A1 (m + 1) c1')) w2 by rw [← HA.out]; exact GivesN.later HB.out hO.gives); clear hown1 hg1 hO))
        go_ret
        exact HE.out

end Go.Proofs.Ytakjiklpfddooaa
