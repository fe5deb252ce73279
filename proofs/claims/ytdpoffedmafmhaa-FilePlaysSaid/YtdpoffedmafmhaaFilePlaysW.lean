/-
  LAYER 6: the walk of FilePlays.
-/
import Derived.Test.YtdpoffedmafmhaaFileLaw
set_option linter.unusedVariables false
set_option linter.unusedSimpArgs false
namespace Go.Proofs.Ytdpoffedmafmhaa
open Go.RowKit

theorem act_cells {w w' : World} {b o : Nat} {u0 u1 u2 u3 : Value} (h0 : w.cell? ⟨b, o, none⟩ = some u0) (h1 : w.cell? ⟨b, o + 1, none⟩ = some u1) (h2 : w.cell? ⟨b, o + 2, none⟩ = some u2) (h3 : w.cell? ⟨b, o + 3, none⟩ = some u3) (hb : Below w.heap.size w w') :
    w'.cell? ⟨b, o, none⟩ = some u0 ∧ w'.cell? ⟨b, o + 1, none⟩ = some u1 ∧ w'.cell? ⟨b, o + 2, none⟩ = some u2 ∧ w'.cell? ⟨b, o + 3, none⟩ = some u3 := by
  have hl : b < w.heap.size := World.block_lt_of_cell? w _ h0
  exact ⟨(hb.cell (p := ⟨b, _, none⟩) hl).trans h0, (hb.cell (p := ⟨b, _, none⟩) hl).trans h1, (hb.cell (p := ⟨b, _, none⟩) hl).trans h2, (hb.cell (p := ⟨b, _, none⟩) hl).trans h3⟩

set_option maxHeartbeats 2000000 in
theorem plays_law (A : Option Addr) (len cap : Nat) (l : List ActM) (at_ n : Int) (w : World) (hin : InActs w A len cap l) (h1 : (Lit.int .i64 at_).wf = true) (h2 : (Lit.int .i64 n).wf = true) :
    Calls Try.prog 3 #[.slice A len cap, .int .i64 at_, .int .i64 n] w fun e w' => e = .returned (.bool true) ∧ Below w.heap.size w w' := by
  have hb1 := bounds_i64 h1
  have hb2 := bounds_i64 h2
  have hle := hin.le
  have hcap := hin.cap
  have HS := Lib.hid (AtL.start w)
  have HIN := Lib.hid hin
  clear hin h1 h2
  by_cases g1 : 3000 < n ∧ n < 1048576
  · obtain ⟨g1, g2⟩ := g1
    have HB := Lib.hid (AtL.start w).below
    go_enter Try.func3, Try.ntmps3
    go_wp2_with (first
      | (go_at_call 6; refine (fnew_any w).mono ?_; rintro e w1 ⟨rfl, hx⟩; obtain rfl := hx.out; clear hx)
      | (go_at_call 7; refine (awake_any _).mono ?_; rintro e w5 ⟨rfl, hb5⟩))
    go_ret
    exact ⟨rfl, HB.out.trans (hb5.mono HB.out.size)⟩
  · have g2 : n ≤ 3000 ∨ (3000 < n ∧ 1048576 ≤ n) := by omega
    clear g1
    rcases g2 with g2 | ⟨g2, g3⟩
    · have SH := Lib.hid (fun (p' q' : Nat) (T' : Nat → Prop) (s' : FS) (N : Nat) (w3 : World) (hx : Two w3 w.heap.size T' p' q' s' s') (hy : s'.Good N) => shows_any p' q' w.heap.size T' s' N at_ n w3 hx hy hb1.1 hb1.2 hb2.1 hb2.2)
      go_enter Try.func3, Try.ntmps3
      go_wp2_with (go_at_call 6; refine (fnew_any w).mono ?_; rintro e w1 ⟨rfl, hx⟩; obtain rfl := hx.out; clear hx)
      go_loopw [7, 8, 9] (fun f r i wr => ∃ (k p q : Nat) (T : Nat → Prop) (s : FS), k ≤ len ∧ k ≤ 20 ∧ i = .int .i64 k ∧ f = .pointer (some ⟨p, 0, none⟩) ∧ r = .pointer (some ⟨q, 0, none⟩) ∧ Hid (AtL w wr p q T s k)) (fun _ _ i _ => len - (intOf i).toNat)
      case atStart => exact ⟨0, _, _, _, _, Nat.zero_le _, Nat.zero_le _, rfl, rfl, by simp, HS⟩
      case round =>
        clear HS
        obtain ⟨k, p, q, T, s, hk, hk20, rfl, rfl, rfl, H⟩ := hrel
        by_cases hlt : k < len ∧ k < 20
        · obtain ⟨hlt, h20⟩ := hlt
          have t1 : (k : Int) < (len : Int) := by omega
          have t2 : (k : Int) < 20 := by omega
          obtain ⟨b, off, a, rfl, hok, y0, y1, y2, y3⟩ := HIN.out.at_ H.out.below hlt
          have LG := Lib.hid (light_any a wr hok.at_)
          cases hlb : lightB a with
          | false =>
            rw [hlb] at LG
            clear hlb
            go_wp2_with (first
              | (go_at_call 8; (with_reducible refine LG.out.mono ?_); rintro e w2 ⟨rfl, hb2⟩)
              | (go_at_call 7; refine (awake_any _).mono ?_; rintro e w5 ⟨rfl, hb5⟩))
            go_ret
            exact ⟨rfl, (H.out.later hb2).below.trans (hb5.mono (H.out.later hb2).below.size)⟩
          | true =>
            rw [hlb] at LG
            have HLB := Lib.hid hlb
            have DO := Lib.hid (fun (w1 : World) (hb : Below wr.heap.size wr w1) => does_any p q w.heap.size T s (10 * k) a w1 (H.out.two.below hb) H.out.good (by omega) (ActAt.of hok (H.out.later hb).below) hlb)
            have NX := Lib.hid (fun (w1 w2 : World) (e : Ending) (hb : Below wr.heap.size wr w1) (hd : Did w.heap.size T (s.act a) w1 e w2) => H.out.next hb (lightB_len hlb hok).1 (lightB_len hlb hok).2 hd)
            clear hlb hok
            go_wp2_with (first
              | (go_at_call 8; (with_reducible refine LG.out.mono ?_); rintro e w2 ⟨rfl, hb2⟩; obtain ⟨z0, z1, z2, z3⟩ := act_cells y0 y1 y2 y3 hb2)
              | (go_at_call 9; go_loud ((with_reducible refine (DO.out _ hb2).mono ?_); rintro e w3 hd; obtain ⟨p', q', T', rfl, hN⟩ := NX.out _ _ _ hb2 hd; have HN := Lib.hid hN; clear hd hN))
              | (go_at_call 10; go_loud ((with_reducible refine (SH.out p' q' T' (s.act a) (10 * (k + 1)) w3 HN.out.two HN.out.good).mono ?_); rintro e w4 ⟨rfl, hb4⟩; have HN4 := Lib.hid (HN.out.later hb4); clear hb4)))
            go_roundw
            case rel => exact ⟨k + 1, p', q', T', _, by omega, by omega, by go_num, rfl, rfl, HN4⟩
            case measure => simp [intOf]; omega
        · by_cases t1 : k < len
          · have t2 : ¬ (k : Int) < 20 := by omega
            have t3 : (k : Int) < (len : Int) := by omega
            clear hlt
            go_wp2_with (go_at_call 7; refine (awake_any _).mono ?_; rintro e w5 ⟨rfl, hb5⟩)
            go_ret
            exact ⟨rfl, H.out.below.trans (hb5.mono H.out.below.size)⟩
          · have t3 : ¬ (k : Int) < (len : Int) := by omega
            clear hlt
            go_wp2_with (go_at_call 7; refine (awake_any _).mono ?_; rintro e w5 ⟨rfl, hb5⟩)
            go_ret
            exact ⟨rfl, H.out.below.trans (hb5.mono H.out.below.size)⟩
    · have SH := Lib.hid (fun (p' q' : Nat) (T' : Nat → Prop) (s' : FS) (N : Nat) (w3 : World) (hx : Two w3 w.heap.size T' p' q' s' s') (hy : s'.Good N) => shows_any p' q' w.heap.size T' s' N at_ 5000 w3 hx hy hb1.1 hb1.2 (by omega) (by omega))
      go_enter Try.func3, Try.ntmps3
      go_wp2_with (go_at_call 6; refine (fnew_any w).mono ?_; rintro e w1 ⟨rfl, hx⟩; obtain rfl := hx.out; clear hx)
      go_loopw [7, 8, 9] (fun f r i wr => ∃ (k p q : Nat) (T : Nat → Prop) (s : FS), k ≤ len ∧ k ≤ 20 ∧ i = .int .i64 k ∧ f = .pointer (some ⟨p, 0, none⟩) ∧ r = .pointer (some ⟨q, 0, none⟩) ∧ Hid (AtL w wr p q T s k)) (fun _ _ i _ => len - (intOf i).toNat)
      case atStart => exact ⟨0, _, _, _, _, Nat.zero_le _, Nat.zero_le _, rfl, rfl, by simp, HS⟩
      case round =>
        clear HS
        obtain ⟨k, p, q, T, s, hk, hk20, rfl, rfl, rfl, H⟩ := hrel
        by_cases hlt : k < len ∧ k < 20
        · obtain ⟨hlt, h20⟩ := hlt
          have t1 : (k : Int) < (len : Int) := by omega
          have t2 : (k : Int) < 20 := by omega
          obtain ⟨b, off, a, rfl, hok, y0, y1, y2, y3⟩ := HIN.out.at_ H.out.below hlt
          have LG := Lib.hid (light_any a wr hok.at_)
          cases hlb : lightB a with
          | false =>
            rw [hlb] at LG
            clear hlb
            go_wp2_with (first
              | (go_at_call 8; (with_reducible refine LG.out.mono ?_); rintro e w2 ⟨rfl, hb2⟩)
              | (go_at_call 7; refine (awake_any _).mono ?_; rintro e w5 ⟨rfl, hb5⟩))
            go_ret
            exact ⟨rfl, (H.out.later hb2).below.trans (hb5.mono (H.out.later hb2).below.size)⟩
          | true =>
            rw [hlb] at LG
            have HLB := Lib.hid hlb
            have DO := Lib.hid (fun (w1 : World) (hb : Below wr.heap.size wr w1) => does_any p q w.heap.size T s (10 * k) a w1 (H.out.two.below hb) H.out.good (by omega) (ActAt.of hok (H.out.later hb).below) hlb)
            have NX := Lib.hid (fun (w1 w2 : World) (e : Ending) (hb : Below wr.heap.size wr w1) (hd : Did w.heap.size T (s.act a) w1 e w2) => H.out.next hb (lightB_len hlb hok).1 (lightB_len hlb hok).2 hd)
            clear hlb hok
            go_wp2_with (first
              | (go_at_call 8; (with_reducible refine LG.out.mono ?_); rintro e w2 ⟨rfl, hb2⟩; obtain ⟨z0, z1, z2, z3⟩ := act_cells y0 y1 y2 y3 hb2)
              | (go_at_call 9; go_loud ((with_reducible refine (DO.out _ hb2).mono ?_); rintro e w3 hd; obtain ⟨p', q', T', rfl, hN⟩ := NX.out _ _ _ hb2 hd; have HN := Lib.hid hN; clear hd hN))
              | (go_at_call 10; go_loud ((with_reducible refine (SH.out p' q' T' (s.act a) (10 * (k + 1)) w3 HN.out.two HN.out.good).mono ?_); rintro e w4 ⟨rfl, hb4⟩; have HN4 := Lib.hid (HN.out.later hb4); clear hb4)))
            go_roundw
            case rel => exact ⟨k + 1, p', q', T', _, by omega, by omega, by go_num, rfl, rfl, HN4⟩
            case measure => simp [intOf]; omega
        · by_cases t1 : k < len
          · have t2 : ¬ (k : Int) < 20 := by omega
            have t3 : (k : Int) < (len : Int) := by omega
            clear hlt
            go_wp2_with (go_at_call 7; refine (awake_any _).mono ?_; rintro e w5 ⟨rfl, hb5⟩)
            go_ret
            exact ⟨rfl, H.out.below.trans (hb5.mono H.out.below.size)⟩
          · have t3 : ¬ (k : Int) < (len : Int) := by omega
            clear hlt
            go_wp2_with (go_at_call 7; refine (awake_any _).mono ?_; rintro e w5 ⟨rfl, hb5⟩)
            go_ret
            exact ⟨rfl, H.out.below.trans (hb5.mono H.out.below.size)⟩

end Go.Proofs.Ytdpoffedmafmhaa
