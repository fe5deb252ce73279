/-
  LAYER 7: the walk of DirPlays.
-/
import Derived.Test.YtakjiklpfddooaaDirLaw
set_option linter.unusedVariables false
set_option linter.unusedSimpArgs false
namespace Go.Proofs.Ytakjiklpfddooaa
open Go.RowKit

set_option maxHeartbeats 4000000 in
set_option maxRecDepth 100000 in
theorem plays_law (A : Option Addr) (len cap : Nat) (l : List ActD) (x : ByteArray) (w : World) (hin : InActsD w A len cap l) (hx : x.size ≤ maxLen) :
    Calls Try.prog 3 #[.slice A len cap, .string x] w fun e w' => e = .returned (.bool true) ∧ Below w.heap.size w w' := by
  have hle := hin.le
  have hcap := hin.cap
  have HIN := Lib.hid hin
  have NW := Lib.hid (dnew_ex w w.heap.size (Nat.le_refl _))
  have HXM := Lib.hid hx
  unfold maxLen at hx
  clear hin
  by_cases g1 : 300 < x.size
  · have g2 : (300 : Int) < x.size := by omega
    go_enter Try.func3, Try.ntmps3
    go_wp2_with (first
      | (go_at_call 6; go_loud (refine NW.out.mono ?_; rintro e w1 ⟨P0, b0, b1, rfl, hn⟩; have HS := Lib.hid (AtL.start hn.out); clear hn))
      | (go_at_call 7; go_loud (refine (awake_any _).mono ?_; rintro e w5 ⟨rfl, hb5⟩)))
    go_ret
    exact ⟨rfl, HS.out.below.trans (hb5.mono HS.out.below.size)⟩
  · have g2 : ¬ (300 : Int) < x.size := by omega
    have SH := Lib.hid (fun (p' q' : Nat) (T' : Nat → Prop) (s' : DB) (N : Nat) (w3 : World) (ht : Two w3 w.heap.size T' p' q' s' s') (hy : GoodD s' N) (hN : N ≤ 900000) => shows_any p' q' w.heap.size N T' s' x w3 ht hy hN HXM.out)
    go_enter Try.func3, Try.ntmps3
    go_wp2_with (go_at_call 6; go_loud (refine NW.out.mono ?_; rintro e w1 ⟨P0, b0, b1, rfl, hn⟩; have HS := Lib.hid (AtL.start hn.out); clear hn))
    go_loopw [5, 6, 7] (fun f r i wr => ∃ (k p q : Nat) (T : Nat → Prop) (s : DB), k ≤ len ∧ k ≤ 40 ∧ i = .int .i64 k ∧ f = .pointer (some ⟨p, 0, none⟩) ∧ r = .pointer (some ⟨q, 0, none⟩) ∧ Hid (AtL w wr p q T s k)) (fun _ _ i _ => len - (intOf i).toNat)
    case atStart => exact ⟨0, _, _, _, _, Nat.zero_le _, Nat.zero_le _, rfl, rfl, rfl, HS⟩
    case round =>
      clear HS
      obtain ⟨k, p, q, T, s, hk, hk20, rfl, rfl, rfl, H⟩ := hrel
      by_cases hlt : k < len ∧ k < 40
      · obtain ⟨hlt, h20⟩ := hlt
        have t1 : (k : Int) < (len : Int) := by omega
        have t2 : (k : Int) < 40 := by omega
        obtain ⟨b, off, a, rfl, hok, y0, y1, y2, y3, y4⟩ := HIN.out.at_ H.out.below hlt
        have LG := Lib.hid (light_any a wr hok.a hok.b)
        cases hlb : lightB a with
        | false =>
          rw [hlb] at LG
          clear hlb
          go_wp2_with (first
            | (go_at_call 8; (with_reducible refine LG.out.mono ?_); rintro e w2 ⟨rfl, hb2⟩)
            | (go_at_call 7; refine (awake_any _).mono ?_; rintro e w5 ⟨rfl, hb5⟩))
          go_ret
          exact ⟨rfl, (H.out.later hb2).below.trans (hb5.mono (H.out.later hb2).below.size)⟩
        | true =>
          rw [hlb] at LG
          have DO := Lib.hid (fun (w1 : World) (hb : Below wr.heap.size wr w1) => does_any p q w.heap.size k T s a w1 (H.out.two.below hb) H.out.good (by omega) (ActAt.of hok hlb (H.out.later hb).below))
          have NX := Lib.hid (fun (w1 w2 : World) (e : Ending) (hb : Below wr.heap.size wr w1) (hd : Did w.heap.size T (actS s a) w1 e w2) => H.out.next hb hlb hok.id hd)
          have hk9 : k + 1 ≤ 900000 := by omega
          clear hlb hok
          go_wp2_with (first
            | (go_at_call 8; (with_reducible refine LG.out.mono ?_); rintro e w2 ⟨rfl, hb2⟩; obtain ⟨z0, z1, z2, z3, z4⟩ := act_cells y0 y1 y2 y3 y4 hb2)
            | (go_at_call 9; go_loud ((with_reducible refine (DO.out _ hb2).mono ?_); rintro e w3 hd; obtain ⟨p', q', T', rfl, hN⟩ := NX.out _ _ _ hb2 hd; have HN := Lib.hid hN; clear hd hN))
            | (go_at_call 10; go_loud ((with_reducible refine (SH.out p' q' T' (actS s a) (k + 1) w3 HN.out.two HN.out.good hk9).mono ?_); rintro e w4 ⟨rfl, hb4⟩; have HN4 := Lib.hid (HN.out.later hb4); clear hb4)))
          go_roundw
          case rel => exact ⟨k + 1, p', q', T', _, by omega, by omega, by go_num, rfl, rfl, HN4⟩
          case measure => simp [intOf]; omega
      · have RX1 := Lib.hid (fun w1 => right_any x w1 HXM.out)
        have RX2 := Lib.hid (fun w1 => rright_any x w1 HXM.out)
        generalize rightB x = rb at RX1 RX2
        by_cases t1 : k < len
        · have t2 : ¬ (k : Int) < 40 := by omega
          have t3 : (k : Int) < (len : Int) := by omega
          clear hlt
          go_wp2_with (first
            | (go_at_call 11; refine (RX1.out _).mono ?_; rintro e w9 ⟨rfl, rfl⟩)
            | (go_at_call 12; refine (RX2.out _).mono ?_; rintro e w9 ⟨rfl, rfl⟩)
            | (go_at_call 7; refine (awake_any _).mono ?_; rintro e w5 ⟨rfl, hb5⟩))
          go_ret
          exact ⟨rfl, H.out.below.trans (hb5.mono H.out.below.size)⟩
        · have t3 : ¬ (k : Int) < (len : Int) := by omega
          clear hlt
          go_wp2_with (first
            | (go_at_call 11; refine (RX1.out _).mono ?_; rintro e w9 ⟨rfl, rfl⟩)
            | (go_at_call 12; refine (RX2.out _).mono ?_; rintro e w9 ⟨rfl, rfl⟩)
            | (go_at_call 7; refine (awake_any _).mono ?_; rintro e w5 ⟨rfl, hb5⟩))
          go_ret
          exact ⟨rfl, H.out.below.trans (hb5.mono H.out.below.size)⟩

end Go.Proofs.Ytakjiklpfddooaa
