/-
  LeTakes: the walk of the statement's own text.
-/
import Derived.Test.YtnkkfflaalipjaaLeTakesP
import Derived.Test.YtnkkfflaalipjaaLeTakesW
import Derived.Test.YtnkkfflaalipjaaLeAwake
set_option linter.unusedVariables false
set_option linter.unusedSimpArgs false
namespace Go.Proofs.Ytnkkfflaalipjaa
open Go.RowKit

theorem rget_true (A : Option Addr) (len cap : Nat) (i v : Int) (zs : List Int) (w : World) {B : Nat} (hr : Reads w B 1 A len (cellsOf .u8 zs)) (hz : AreB zs) (hl : len ≤ cap) (hcap : cap ≤ 9223372036854775807)
    (hi : -9223372036854775808 ≤ i) (hi' : i ≤ 9223372036854775807) (hv : -9223372036854775808 ≤ v) (hv' : v ≤ 9223372036854775807) (hk : gok len i v = true) :
    Calls Try.prog 10 #[.slice A len cap, .int .i64 i, .int .i64 v] w fun e w' => e = .returned (.tuple #[.int .u64 (gnum zs i v), .bool true]) ∧ w = w' := by
  have h := rget_any A len cap i v zs w hr hz hl hcap hi hi' hv hv'
  rw [hk] at h
  exact h

theorem rwsame_eq {B B' : Nat} (A A' : Option Addr) (n n' c c' : Nat) (xs : List Int) (w : World) (h : n' = n) (hx : Reads w B 1 A n (cellsOf .u64 xs)) (hy : Reads w B' 1 A' n (cellsOf .u64 xs)) (hn : n ≤ 1000000000) :
    Calls Try.prog 25 #[.slice A n c, .slice A' n' c'] w fun e w' => e = .returned (.bool true) ∧ Below w.heap.size w w' := by
  subst h
  exact rwsame_any A A' n' c c' xs w hx hy hn

theorem reads_take {w : World} {B n m : Nat} {A : Option Addr} {k : IntKind} {zs : List Int} (h : Reads w B 1 A n (cellsOf k zs)) (hm : m ≤ n) : Reads w B 1 A m (cellsOf k (zs.take m)) := by
  refine ⟨by rw [cellsOf_length, List.length_take, h.len]; omega, fun h0 => ?_⟩
  obtain ⟨ad, e, hb, hc⟩ := h.2 (by omega)
  refine ⟨ad, e, hb, fun j u hu => hc j u ?_⟩
  simp only [cellsOf, List.map_take, List.getElem?_take] at hu
  split at hu
  · exact hu
  · cases hu

theorem gok_eight {len p : Nat} (h : p + 8 ≤ len) : gok len p 8 = true := by
  rw [gok_isw]; simp [isw]; omega

theorem gnum_eight {bs : List Int} {p q : Nat} (h : p + 8 * q + 8 ≤ bs.length) : gnum bs ((p + 8 * q : Nat) : Int) 8 = lev (((bs.drop p).drop (8 * q)).take 8) := by
  unfold gnum
  rw [gok_eight h, List.drop_drop]
  rfl

set_option maxRecDepth 100000 in
set_option maxHeartbeats 8000000 in
theorem takes_good (A : Option Addr) (len cap : Nat) (bs : List Int) (AL : Option Addr) (ln lc : Nat) (acts : List ActV) (w : World) (hin : InInts w .u8 A len cap bs) (hacts : InActs w AL ln lc acts) (hl2 : len ≤ 2000) (j : Nat) (hj : j ≤ len) :
    Calls Try.prog 6 #[.slice A len cap, .int .i64 j, .slice AL ln lc] w fun e w' => e = .returned (.bool true) ∧ Below w.heap.size w w' := by
  obtain ⟨i0, hi, hz0, hz1, hz2⟩ := info_parts wordInfo
  have hlen := hin.reads.len
  have hbs : AreB bs := fun z hz => wf_u8_bd (hin.wf z hz)
  have hle := hin.le
  have hcap := hin.cap
  have hlle := hacts.le
  have hlcap := hacts.cap
  have hl0 : ln ≤ 9223372036854775807 := by omega
  have hll := hacts.length
  have HL := Lib.hid hll
  have h2000 : (len : Int) ≤ 2000 := by omega
  have hbl2 : bs.length ≤ 2000 := by omega
  have HLEN := Lib.hid hlen
  clear hll hlen
  have hd1 : decide ((j : Int) < 0) = false := decide_eq_false (by omega)
  have hd2 : decide (len < j) = false := decide_eq_false (by omega)
  go_enter Try.func6, Try.ntmps6
  go_wp2_with (go_at_call 22; refine (read_good A len cap j bs w hin hj hl2).mono ?_; rintro e w1 ⟨g, B, rfl, hgg, T0⟩)
  go_loopw [1, 8, 9] (fun s1 s8 i wr => ∃ (k pos : Nat) (bad : Bool), k ≤ ln ∧ k ≤ 40 ∧ s1 = .int .i64 pos ∧ s8 = .bool bad ∧ i = .int .i64 k ∧ TS w B g bs pos bad wr) (fun _ _ i _ => 40 - (intOf i).toNat)
  case atStart => exact ⟨0, j, false, Nat.zero_le _, by omega, rfl, rfl, rfl, T0⟩
  case round =>
    obtain ⟨k, pos, bad, hk, hk40, rfl, rfl, rfl, hts⟩ := hrel
    by_cases hlt : k < ln ∧ k < 40
    · obtain ⟨hlt1, hlt2⟩ := hlt
      obtain ⟨b, off, rfl, hbl, hcells⟩ := hacts.cells (by omega)
      have hk2 : k < acts.length := by rw [HL.out]; exact hlt1
      have hat := hcells k acts[k] (List.getElem?_eq_getElem hk2)
      have hok := hacts.ok acts[k] (List.getElem_mem hk2)
      generalize acts[k] = a at hat hok
      obtain ⟨g0, g1, g2, g3, g4⟩ := hat.below hts.bel hbl
      have hpl := hts.len
      have hwid := bounds_i64 hok.width
      have hw1 := hwid.1
      have hw2 := hwid.2
      have hn0 : 0 ≤ a.n := (wf_u64_bd hok.n).1
      have hlnc : a.ln ≤ 9223372036854775807 := by have := hok.l.le; have := hok.l.cap; omega
      clear hcells
      by_cases hbad : bad = true
      · subst hbad
        by_cases h1 : a.kind = 1
        · have k1 : (a.kind == 1) = true := by simpa using h1
          have k2 : (a.kind == 2) = false := by rw [h1]; rfl
          clear h1
          go_wp2_with (first
            | (go_at_call 23; refine (num_badT hgg a.width true hts (.inl rfl) hw1 hw2).mono ?_; rintro e w1 ⟨rfl, T1⟩; have T2 := (T1.below ((Below.refl _ _).alloc (Nat.le_refl _) (.cells #[] 24))).below ((Below.refl _ _).alloc (Nat.le_refl _) (.cells #[] 5)); obtain ⟨f0, f1, f2, f3, f4⟩ := hat.below T2.bel hbl)
            | (go_at_call 10; refine (rget_any A len cap (pos : Int) a.width bs _ (hin.reads.below T2.bel) hbs hle hcap (by omega) (by omega) hw1 hw2).mono ?_; rintro e w2 ⟨rfl, rfl⟩)
            | (go_at_call 24; refine (words_badT hgg hbl2 a.ln true T2 (.inl rfl)).mono ?_; rintro e w3 ⟨A3, c3, rfl, T3⟩; obtain ⟨e0, e1, e2, e3, e4⟩ := hat.below T3.bel hbl))
          by_cases hz : a.ln = 0
          · have hz' : (a.ln : Int) ≤ 0 := by omega
            refine wp_loop_rounds 1 ?_
            rw [rounds_succ]
            clear hz
            go_wp2_with (go_at_call 25; refine (rwsame_any A3 none 0 c3 0 [] _ (reads_zero _ 0 1 A3) (reads_zero _ 0 1 none) (by omega)).mono ?_; rintro e w4 ⟨rfl, hb4⟩; have T4 := T3.below hb4; obtain ⟨e0, e1, e2, e3, e4⟩ := hat.below T4.bel hbl)
            go_roundw
            case rel => exact ⟨k + 1, pos, true, by omega, by omega, rfl, rfl, by go_num, T4⟩
            case measure => simp [intOf]; omega
          · have hz' : (0 : Int) < (a.ln : Int) := by omega
            refine wp_loop_rounds 1 ?_
            rw [rounds_succ]
            clear hz
            go_wp2_with (go_at_call 25; refine (rwsame_any A3 none 0 c3 0 [] _ (reads_zero _ 0 1 A3) (reads_zero _ 0 1 none) (by omega)).mono ?_; rintro e w4 ⟨rfl, hb4⟩; have T4 := T3.below hb4; obtain ⟨e0, e1, e2, e3, e4⟩ := hat.below T4.bel hbl)
            go_roundw
            case rel => exact ⟨k + 1, pos, true, by omega, by omega, rfl, rfl, by go_num, T4⟩
            case measure => simp [intOf]; omega
        · have k1 : (a.kind == 1) = false := by simpa using h1
          by_cases h2 : a.kind = 2
          · have k2 : (a.kind == 2) = true := by simpa using h2
            clear h1 h2
            go_wp2_with (first
              | (go_at_call 23; refine (num_badT hgg a.width true hts (.inl rfl) hw1 hw2).mono ?_; rintro e w1 ⟨rfl, T1⟩; have T2 := (T1.below ((Below.refl _ _).alloc (Nat.le_refl _) (.cells #[] 24))).below ((Below.refl _ _).alloc (Nat.le_refl _) (.cells #[] 5)); obtain ⟨f0, f1, f2, f3, f4⟩ := hat.below T2.bel hbl)
              | (go_at_call 10; refine (rget_any A len cap (pos : Int) a.width bs _ (hin.reads.below T2.bel) hbs hle hcap (by omega) (by omega) hw1 hw2).mono ?_; rintro e w2 ⟨rfl, rfl⟩)
              | (go_at_call 26; refine (raw_badT hgg hbl2 _ (a.n % 100).toNat true T2 (by omega) (.inl rfl)).mono ?_; rintro e w3 ⟨A3, c3, rfl, T3⟩; obtain ⟨e0, e1, e2, e3, e4⟩ := hat.below T3.bel hbl))
            go_roundw
            case rel => exact ⟨k + 1, pos, true, by omega, by omega, rfl, rfl, by go_num, T3⟩
            case measure => simp [intOf]; omega
          · have k2 : (a.kind == 2) = false := by simpa using h2
            clear h1 h2
            go_wp2_with (first
              | (go_at_call 23; refine (num_badT hgg a.width true hts (.inl rfl) hw1 hw2).mono ?_; rintro e w1 ⟨rfl, T1⟩; have T2 := (T1.below ((Below.refl _ _).alloc (Nat.le_refl _) (.cells #[] 24))).below ((Below.refl _ _).alloc (Nat.le_refl _) (.cells #[] 5)); obtain ⟨f0, f1, f2, f3, f4⟩ := hat.below T2.bel hbl)
              | (go_at_call 10; refine (rget_any A len cap (pos : Int) a.width bs _ (hin.reads.below T2.bel) hbs hle hcap (by omega) (by omega) hw1 hw2).mono ?_; rintro e w2 ⟨rfl, rfl⟩))
            go_roundw
            case rel => exact ⟨k + 1, pos, true, by omega, by omega, rfl, rfl, by go_num, T2⟩
            case measure => simp [intOf]; omega
      · have hbad : bad = false := by simpa using hbad
        subst hbad
        by_cases hgk : gok bs.length pos a.width = true
        · have HK := Lib.hid hgk
          have HK2 : Hid (gok len pos a.width = true) := by show _ = _; rw [← HLEN.out]; exact hgk
          obtain ⟨j0, m0, hj0, hm0, hw0, hjm⟩ := gok_nat hgk
          obtain ⟨p1, hp1⟩ : ∃ p1 : Nat, (pos : Int) + a.width = (p1 : Int) := ⟨pos + a.width.toNat, by omega⟩
          have e1 : pos + a.width.toNat = p1 := by omega
          have HE1 := Lib.hid e1
          have hp1l : p1 ≤ len := by have := HLEN.out; omega
          clear hgk hj0 hm0 hw0 e1 hjm
          by_cases h1 : a.kind = 1
          · have k1 : (a.kind == 1) = true := by simpa using h1
            have k2 : (a.kind == 2) = false := by rw [h1]; rfl
            clear h1
            by_cases he : 8 * a.ln ≤ bs.length - p1
            · have hq : ¬ ((len : Int) - (p1 : Int)) / 8 < (a.ln : Int) := by have := HLEN.out; omega
              have hqd : decide (((len : Int) - (p1 : Int)) / 8 < (a.ln : Int)) = false := decide_eq_false hq
              have hln9 : a.ln ≤ 1000 := by omega
              go_wp2_with (first
                | (go_at_call 23; refine (num_good hgg hbs hbl2 a.width hts HK.out).mono ?_; rintro e w1 ⟨rfl, T1⟩; rw [HE1.out] at T1; have T2 := (T1.below ((Below.refl _ _).alloc (Nat.le_refl _) (.cells #[] 24))).below ((Below.refl _ _).alloc (Nat.le_refl _) (.cells #[] 5)); obtain ⟨f0, f1, f2, f3, f4⟩ := hat.below T2.bel hbl)
                | (go_at_call 10; refine (rget_true A len cap (pos : Int) a.width bs _ (hin.reads.below T2.bel) hbs hle hcap (by omega) (by omega) hw1 hw2 HK2.out).mono ?_; rintro e w2 ⟨rfl, rfl⟩)
                | (go_at_call 24; refine (words_good hgg hbs hbl2 a.ln T2 (by omega)).mono ?_; rintro e w3 ⟨A3, c3, rfl, hR3, T3⟩; obtain ⟨e0, e1, e2, e3, e4⟩ := hat.below T3.bel hbl))
              have hB3 := T3.bel
              go_loopw [1, 15, 16] (fun s1 s15 s16 wq => ∃ q : Nat, q ≤ a.ln ∧ s1 = .int .i64 ((p1 + 8 * q : Nat) : Int) ∧ s16 = .int .i64 q ∧ wq.ownsRow w3.heap.size 24 1 s15 q (cellsOf .u64 (wrds q (bs.drop p1))) ∧ Below w3.heap.size w3 wq) (fun _ _ s16 _ => a.ln - (intOf s16).toNat)
              case atStart => exact ⟨0, Nat.zero_le _, rfl, rfl, World.ownsRow_nil _ _ _ _, Below.refl _ _⟩
              case round =>
                obtain ⟨q, hq1, rfl, rfl, hown, hbq⟩ := hrel
                obtain ⟨A5, c5, rfl, _, _⟩ := own_form hown
                have T5 := T3.below hbq
                obtain ⟨r0, r1, r2, r3, r4⟩ := hat.below T5.bel hbl
                by_cases hql : q < a.ln
                · have hx := wrds_snoc q (bs.drop p1)
                  have hgn := gnum_eight (bs := bs) (p := p1) (q := q) (by omega)
                  generalize lev (((bs.drop p1).drop (8 * q)).take 8) = x at hx hgn
                  have HX := Lib.hid hx
                  have G5 := Lib.hid (rget_true A len cap ((p1 + 8 * q : Nat) : Int) 8 bs wr (hin.reads.below T5.bel) hbs hle hcap (by omega) (by omega) (by omega) (by omega) (gok_eight (by have := HLEN.out; omega)))
                  rw [hgn] at G5
                  have s2 : q + 1 ≤ maxLen := by unfold maxLen; omega
                  have s3 : (q + 1) * 8 ≤ 140737488355328 := by omega
                  have s4 : w3.heap.size ≤ (wr.alloc (.cells #[Value.int IntKind.u64 x] 24)).heap.size := by have := hbq.size; simp; omega
                  clear hx hgn
                  go_wp2_with (first
                    | (go_at_call 10; refine G5.out.mono ?_; rintro e w6 ⟨rfl, rfl⟩)
                    | (at_builtin; refine wpList_append_any _ rfl _ _ _ rfl w3.heap.size 24 i0 (.int .u64 0) 1 8 Try.underlying35 hi hz0 hz1 hz2 rfl (Nat.lt_succ_self 0) (.slice A5 q c5) q (cellsOf .u64 (wrds q (bs.drop p1))) rfl (hown.alloc _) (wr.heap.size + 1) _ 1 1 [.int .u64 x] rfl (Reads.new1 _ _ _) (one_oneCell _ _) s2 s3 s4 ?_; intro v7 w7 hown7 hg7 hat7))
                  go_roundw
                  case rel =>
                    rw [show cellsOf .u64 (wrds q (bs.drop p1)) ++ [Value.int IntKind.u64 x] = cellsOf .u64 (wrds (q + 1) (bs.drop p1)) by rw [HX.out]; simp [cellsOf]] at hown7
                    exact ⟨q + 1, by omega, by first | go_num | (congr 1; omega), by go_num, hown7, (hbq.alloc hbq.size _).grown hg7 s4 (fun j hj => (hown.lt j hj).1)⟩
                  case measure => simp [intOf]; omega
                · have e : q = a.ln := by omega
                  have hown9 : wr.ownsRow w3.heap.size 24 1 (.slice A5 q c5) q (cellsOf .u64 (wrds a.ln (bs.drop p1))) := by rw [← e]; exact hown
                  have hR5 := Reads.of_own hown9
                  rw [e] at hR5
                  have E := Lib.hid e
                  clear e hown9
                  go_wp2_with (go_at_call 25; refine (rwsame_eq A3 A5 a.ln q c3 c5 (wrds a.ln (bs.drop p1)) wr E.out (hR3.below hbq) hR5 (by omega)).mono ?_; rintro e w8 ⟨rfl, hb8⟩; have T8 := T5.below hb8; obtain ⟨t0, t1, t2, t3, t4⟩ := hat.below T8.bel hbl)
                  go_roundw
                  case rel => exact ⟨k + 1, p1 + 8 * a.ln, false, by omega, by omega, by have hh := E.out; congr 1; omega, rfl, by go_num, T8⟩
                  case measure => simp [intOf]; omega
            · have hq : ((len : Int) - (p1 : Int)) / 8 < (a.ln : Int) := by have := HLEN.out; omega
              have hz' : (0 : Int) < (a.ln : Int) := by omega
              go_wp2_with (first
                | (go_at_call 23; refine (num_good hgg hbs hbl2 a.width hts HK.out).mono ?_; rintro e w1 ⟨rfl, T1⟩; rw [HE1.out] at T1; have T2 := (T1.below ((Below.refl _ _).alloc (Nat.le_refl _) (.cells #[] 24))).below ((Below.refl _ _).alloc (Nat.le_refl _) (.cells #[] 5)); obtain ⟨f0, f1, f2, f3, f4⟩ := hat.below T2.bel hbl)
                | (go_at_call 10; refine (rget_true A len cap (pos : Int) a.width bs _ (hin.reads.below T2.bel) hbs hle hcap (by omega) (by omega) hw1 hw2 HK2.out).mono ?_; rintro e w2 ⟨rfl, rfl⟩)
                | (go_at_call 24; refine (words_badT hgg hbl2 a.ln false T2 (.inr (by omega))).mono ?_; rintro e w3 ⟨A3, c3, rfl, T3⟩; obtain ⟨e0, e1, e2, e3, e4⟩ := hat.below T3.bel hbl))
              refine wp_loop_rounds 1 ?_
              rw [rounds_succ]
              go_wp2_with (go_at_call 25; refine (rwsame_any A3 none 0 c3 0 [] _ (reads_zero _ 0 1 A3) (reads_zero _ 0 1 none) (by omega)).mono ?_; rintro e w4 ⟨rfl, hb4⟩; have T4 := T3.below hb4; obtain ⟨t0, t1, t2, t3, t4⟩ := hat.below T4.bel hbl)
              go_roundw
              case rel => exact ⟨k + 1, p1, true, by omega, by omega, rfl, rfl, by go_num, T4⟩
              case measure => simp [intOf]; omega
          · have k1 : (a.kind == 1) = false := by simpa using h1
            by_cases h2 : a.kind = 2
            · have k2 : (a.kind == 2) = true := by simpa using h2
              obtain ⟨m, hm⟩ : ∃ m : Nat, a.n % 100 = (m : Int) := ⟨(a.n % 100).toNat, by omega⟩
              clear h1 h2
              by_cases he : m ≤ bs.length - p1
              · have hq : ¬ ((len : Int) - (p1 : Int)) < (m : Int) := by have := HLEN.out; omega
                have hq2 : (m : Int) ≤ (len : Int) - (p1 : Int) := by omega
                have hs1 : (p1 : Int) + (m : Int) ≤ (cap : Int) := by omega
                have hs2 : (p1 : Int) ≤ (p1 : Int) + (m : Int) := by omega
                obtain ⟨A', hA'⟩ : ∃ A', (if cap = p1 then A else A.map (·.add p1)) = A' := ⟨_, rfl⟩
                have hcut := hin.reads.cut (k := p1) (cap := cap) (by omega) hle
                rw [Nat.mul_one, hA', cellsOf_drop] at hcut
                have hmn : m ≤ len - p1 := by omega
                go_wp2_with (first
                  | (go_at_call 23; refine (num_good hgg hbs hbl2 a.width hts HK.out).mono ?_; rintro e w1 ⟨rfl, T1⟩; rw [HE1.out] at T1; have T2 := (T1.below ((Below.refl _ _).alloc (Nat.le_refl _) (.cells #[] 24))).below ((Below.refl _ _).alloc (Nat.le_refl _) (.cells #[] 5)); obtain ⟨f0, f1, f2, f3, f4⟩ := hat.below T2.bel hbl)
                  | (go_at_call 10; refine (rget_true A len cap (pos : Int) a.width bs _ (hin.reads.below T2.bel) hbs hle hcap (by omega) (by omega) hw1 hw2 HK2.out).mono ?_; rintro e w2 ⟨rfl, rfl⟩)
                  | (go_at_call 26; refine (raw_good hgg hbl2 _ m T2 rfl (by omega)).mono ?_; rintro e w3 ⟨A3, c3, rfl, hR3, T3⟩; obtain ⟨e0, e1, e2, e3, e4⟩ := hat.below T3.bel hbl; have hR4 := reads_take (hcut.below T3.bel) hmn)
                  | (go_at_call 11; refine (same_yes _ _ _ _ _ _ ((bs.drop p1).take m) ((bs.drop p1).take m) _ hR3 hR4 ((hbs.drop p1).take m) rfl).mono ?_; rintro e w4 ⟨rfl, rfl⟩))
                go_roundw
                case rel => exact ⟨k + 1, p1 + m, false, by omega, by omega, by go_num, rfl, by go_num, T3⟩
                case measure => simp [intOf]; omega
              · have hq : ((len : Int) - (p1 : Int)) < (m : Int) := by have := HLEN.out; omega
                go_wp2_with (first
                  | (go_at_call 23; refine (num_good hgg hbs hbl2 a.width hts HK.out).mono ?_; rintro e w1 ⟨rfl, T1⟩; rw [HE1.out] at T1; have T2 := (T1.below ((Below.refl _ _).alloc (Nat.le_refl _) (.cells #[] 24))).below ((Below.refl _ _).alloc (Nat.le_refl _) (.cells #[] 5)); obtain ⟨f0, f1, f2, f3, f4⟩ := hat.below T2.bel hbl)
                  | (go_at_call 10; refine (rget_true A len cap (pos : Int) a.width bs _ (hin.reads.below T2.bel) hbs hle hcap (by omega) (by omega) hw1 hw2 HK2.out).mono ?_; rintro e w2 ⟨rfl, rfl⟩)
                  | (go_at_call 26; refine (raw_badT hgg hbl2 _ m false T2 rfl (.inr (by omega))).mono ?_; rintro e w3 ⟨A3, c3, rfl, T3⟩; obtain ⟨e0, e1, e2, e3, e4⟩ := hat.below T3.bel hbl))
                go_roundw
                case rel => exact ⟨k + 1, p1, true, by omega, by omega, rfl, rfl, by go_num, T3⟩
                case measure => simp [intOf]; omega
            · have k2 : (a.kind == 2) = false := by simpa using h2
              clear h1 h2
              go_wp2_with (first
                | (go_at_call 23; refine (num_good hgg hbs hbl2 a.width hts HK.out).mono ?_; rintro e w1 ⟨rfl, T1⟩; rw [HE1.out] at T1; have T2 := (T1.below ((Below.refl _ _).alloc (Nat.le_refl _) (.cells #[] 24))).below ((Below.refl _ _).alloc (Nat.le_refl _) (.cells #[] 5)); obtain ⟨f0, f1, f2, f3, f4⟩ := hat.below T2.bel hbl)
                | (go_at_call 10; refine (rget_true A len cap (pos : Int) a.width bs _ (hin.reads.below T2.bel) hbs hle hcap (by omega) (by omega) hw1 hw2 HK2.out).mono ?_; rintro e w2 ⟨rfl, rfl⟩))
              go_roundw
              case rel => exact ⟨k + 1, p1, false, by omega, by omega, rfl, rfl, by go_num, T2⟩
              case measure => simp [intOf]; omega
        · have hgk : gok bs.length pos a.width = false := by simpa using hgk
          have HKB := Lib.hid hgk
          have HK : Hid (gok len pos a.width = false) := by show _ = _; rw [← HLEN.out]; exact hgk
          clear hgk
          by_cases h1 : a.kind = 1
          · have k1 : (a.kind == 1) = true := by simpa using h1
            have k2 : (a.kind == 2) = false := by rw [h1]; rfl
            clear h1
            go_wp2_with (first
              | (go_at_call 23; refine (num_badT hgg a.width false hts (.inr HKB.out) hw1 hw2).mono ?_; rintro e w1 ⟨rfl, T1⟩; have T2 := (T1.below ((Below.refl _ _).alloc (Nat.le_refl _) (.cells #[] 24))).below ((Below.refl _ _).alloc (Nat.le_refl _) (.cells #[] 5)); obtain ⟨f0, f1, f2, f3, f4⟩ := hat.below T2.bel hbl)
              | (go_at_call 10; refine (rget_no A len cap (pos : Int) a.width _ HK.out (by omega) (by omega) (by omega) hw1 hw2).mono ?_; rintro e w2 ⟨rfl, rfl⟩)
              | (go_at_call 24; refine (words_badT hgg hbl2 a.ln true T2 (.inl rfl)).mono ?_; rintro e w3 ⟨A3, c3, rfl, T3⟩; obtain ⟨e0, e1, e2, e3, e4⟩ := hat.below T3.bel hbl))
            by_cases hz : a.ln = 0
            · have hz' : (a.ln : Int) ≤ 0 := by omega
              refine wp_loop_rounds 1 ?_
              rw [rounds_succ]
              clear hz
              go_wp2_with (go_at_call 25; refine (rwsame_any A3 none 0 c3 0 [] _ (reads_zero _ 0 1 A3) (reads_zero _ 0 1 none) (by omega)).mono ?_; rintro e w4 ⟨rfl, hb4⟩; have T4 := T3.below hb4; obtain ⟨e0, e1, e2, e3, e4⟩ := hat.below T4.bel hbl)
              go_roundw
              case rel => exact ⟨k + 1, pos, true, by omega, by omega, rfl, rfl, by go_num, T4⟩
              case measure => simp [intOf]; omega
            · have hz' : (0 : Int) < (a.ln : Int) := by omega
              refine wp_loop_rounds 1 ?_
              rw [rounds_succ]
              clear hz
              go_wp2_with (go_at_call 25; refine (rwsame_any A3 none 0 c3 0 [] _ (reads_zero _ 0 1 A3) (reads_zero _ 0 1 none) (by omega)).mono ?_; rintro e w4 ⟨rfl, hb4⟩; have T4 := T3.below hb4; obtain ⟨e0, e1, e2, e3, e4⟩ := hat.below T4.bel hbl)
              go_roundw
              case rel => exact ⟨k + 1, pos, true, by omega, by omega, rfl, rfl, by go_num, T4⟩
              case measure => simp [intOf]; omega
          · have k1 : (a.kind == 1) = false := by simpa using h1
            by_cases h2 : a.kind = 2
            · have k2 : (a.kind == 2) = true := by simpa using h2
              clear h1 h2
              go_wp2_with (first
                | (go_at_call 23; refine (num_badT hgg a.width false hts (.inr HKB.out) hw1 hw2).mono ?_; rintro e w1 ⟨rfl, T1⟩; have T2 := (T1.below ((Below.refl _ _).alloc (Nat.le_refl _) (.cells #[] 24))).below ((Below.refl _ _).alloc (Nat.le_refl _) (.cells #[] 5)); obtain ⟨f0, f1, f2, f3, f4⟩ := hat.below T2.bel hbl)
                | (go_at_call 10; refine (rget_no A len cap (pos : Int) a.width _ HK.out (by omega) (by omega) (by omega) hw1 hw2).mono ?_; rintro e w2 ⟨rfl, rfl⟩)
                | (go_at_call 26; refine (raw_badT hgg hbl2 _ (a.n % 100).toNat true T2 (by omega) (.inl rfl)).mono ?_; rintro e w3 ⟨A3, c3, rfl, T3⟩; obtain ⟨e0, e1, e2, e3, e4⟩ := hat.below T3.bel hbl))
              go_roundw
              case rel => exact ⟨k + 1, pos, true, by omega, by omega, rfl, rfl, by go_num, T3⟩
              case measure => simp [intOf]; omega
            · have k2 : (a.kind == 2) = false := by simpa using h2
              clear h1 h2
              go_wp2_with (first
                | (go_at_call 23; refine (num_badT hgg a.width false hts (.inr HKB.out) hw1 hw2).mono ?_; rintro e w1 ⟨rfl, T1⟩; have T2 := (T1.below ((Below.refl _ _).alloc (Nat.le_refl _) (.cells #[] 24))).below ((Below.refl _ _).alloc (Nat.le_refl _) (.cells #[] 5)); obtain ⟨f0, f1, f2, f3, f4⟩ := hat.below T2.bel hbl)
                | (go_at_call 10; refine (rget_no A len cap (pos : Int) a.width _ HK.out (by omega) (by omega) (by omega) hw1 hw2).mono ?_; rintro e w2 ⟨rfl, rfl⟩))
              go_roundw
              case rel => exact ⟨k + 1, pos, true, by omega, by omega, rfl, rfl, by go_num, T2⟩
              case measure => simp [intOf]; omega
    · have hstop : (k : Int) < (ln : Int) → ¬ (k : Int) < 40 := fun h => by omega
      have hpl := hts.len
      clear hlt
      by_cases hkl : (k : Int) < (ln : Int)
      all_goals
        go_wp2_with (first
          | (go_at_call 27; refine (tat_any bad hts).mono ?_; rintro e w1 ⟨rfl, hb1⟩; have T1 := hts.below hb1)
          | (go_at_call 8; refine (awake_any _).mono ?_; rintro e w5 ⟨rfl, hb5⟩; have T5 := T1.below hb5))
        go_ret
        exact ⟨rfl, T5.bel⟩

end Go.Proofs.Ytnkkfflaalipjaa
