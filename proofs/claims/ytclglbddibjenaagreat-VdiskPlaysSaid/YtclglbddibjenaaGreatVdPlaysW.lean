/-
  LAYER 8: the walk of VdiskPlays.
-/
import Derived.Test.YtclglbddibjenaaGreatVdLaw
set_option linter.unusedVariables false
set_option linter.unusedSimpArgs false
set_option maxRecDepth 100000
namespace Go.Proofs.YtclglbddibjenaaGreat
open Go.RowKit

set_option maxHeartbeats 4000000 in
theorem plays_law (room : Int) (A : Option Addr) (len cap : Nat) (l : List Act8) (w : World) (hw : (Lit.int .i64 room).wf = true) (hin : InActs8 w A len cap l) :
    Calls Tryz.prog 3 #[.int .i64 room, .slice A len cap] w fun e w' => e = .returned (.bool true) ∧ Below w.heap.size w w' := by
  have hle := hin.le
  have hcap := hin.cap
  have hrb := bounds_i64 hw
  have HIN := Lib.hid hin
  have AW := Lib.hid (awake_any w)
  have NW := Lib.hid (fun (wA : World) (hb : Below w.heap.size w wA) => vnew_any room wA w.heap.size hb.size hrb.1 hrb.2)
  have RN := Lib.hid (fun (w1 : World) (hb : w.heap.size ≤ w1.heap.size) => rvnew_any room w1 w.heap.size hb)
  have ST := Lib.hid (fun (wA w1 w2 : World) (P q : Nat) (hb : Below w.heap.size w wA) (hx : VXT wA (fun _ => False) w1 w.heap.size P (VS.new room) []) (hn : RNew w1 w.heap.size q (VS.new room) w2) => AtL.start hrb.2 hb hx hn)
  have m1 : True := trivial
  clear hin hw hrb
  go_enter Tryz.func3, Tryz.ntmps3
  go_wp2_with (first
    | (go_at_call 7; clear m1; go_loud (refine AW.out.mono ?_; rintro e wA ⟨rfl, hbA⟩))
    | (go_at_call 8; go_loud (refine (NW.out wA hbA).mono ?_; rintro e w1 ⟨P, rfl, hx⟩; have hs1 := Nat.le_trans hbA.size (VXT.vx hx.out).2.size))
    | (go_at_call 9; go_loud (refine (RN.out w1 hs1).mono ?_; rintro e w2 ⟨q, rfl, hy⟩; have HS := Lib.hid (ST.out wA w1 w2 P q hbA hx.out hy.out); clear hx hy)))
  clear AW NW RN ST hs1 hbA
  go_loopw [5, 6, 7, 8, 9, 10] (fun f r i f2 r2 ok wr => ∃ (k p q : Nat) (T : Nat → Prop) (v : VS), k ≤ len ∧ k ≤ 25 ∧ i = .int .i64 k ∧ f = .pointer (some ⟨p, 0, none⟩) ∧ r = .pointer (some ⟨q, 0, none⟩) ∧ Hid (AtL w wr p q T v k)) (fun _ _ i _ _ _ _ => len - (intOf i).toNat)
  case atStart => exact ⟨0, _, _, _, _, Nat.zero_le _, Nat.zero_le _, rfl, rfl, rfl, HS⟩
  case round =>
    clear HS
    obtain ⟨k, p, q, T, v, hk, hk20, rfl, rfl, rfl, H⟩ := hrel
    by_cases hlt : k < len ∧ k < 25
    · obtain ⟨hlt, h20⟩ := hlt
      have t1 : (k : Int) < (len : Int) := by omega
      have t2 : (k : Int) < 25 := by omega
      obtain ⟨b, off, a, rfl, hok, y0, y1, y2, y3, y4, y5⟩ := HIN.out.at_ H.out.below hlt
      have LG := Lib.hid (light_any a wr ⟨hok.kind, hok.a, hok.b, hok.at_, ⟨hok.bs.reads.below H.out.below |>.more H.out.below.size, hok.bs.le, hok.bs.cap, hok.bs.wf⟩, ⟨hok.ks.reads.below H.out.below |>.more H.out.below.size, hok.ks.le, hok.ks.cap⟩⟩)
      cases hlb : lightB a with
      | false =>
        rw [hlb] at LG
        clear hlb hok
        go_wp2_with (first
          | (go_at_call 10; (with_reducible refine LG.out.mono ?_); rintro e w2 ⟨rfl, hb2⟩)
          | (go_at_call 7; refine (awake_any _).mono ?_; rintro e w5 ⟨rfl, hb5⟩))
        go_ret
        exact ⟨rfl, (H.out.later hb2).below.trans (hb5.mono (H.out.later hb2).below.size)⟩
      | true =>
        rw [hlb] at LG
        have DO := Lib.hid (fun (w1 : World) (hb : Below wr.heap.size wr w1) => does_any p q w.heap.size k T v a w1 (H.out.two.below hb) (by omega) (ActAt.of hok hlb (H.out.later hb).below))
        have NX := Lib.hid (fun (w1 w2 : World) (e : Ending) (hb : Below wr.heap.size wr w1) (hd : Did w.heap.size T (actV v a) (k + 1) w1 e w2) => H.out.next hb hd)
        have SH := Lib.hid (fun (p' q' : Nat) (T' : Nat → Prop) (w3 : World) (ht : Two w3 w.heap.size T' p' q' (actV v a) (k + 1)) => shows_any p' q' w.heap.size (k + 1) T' (actV v a) w3 ht (by omega))
        clear hlb hok
        go_wp2_with (first
          | (go_at_call 10; (with_reducible refine LG.out.mono ?_); rintro e w2 ⟨rfl, hb2⟩; obtain ⟨z0, z1, z2, z3, z4, z5⟩ := act_cells y0 y1 y2 y3 y4 y5 hb2)
          | (go_at_call 11; go_loud ((with_reducible refine (DO.out _ hb2).mono ?_); rintro e w3 hd; obtain ⟨p', q', T', rfl, hN⟩ := NX.out _ _ _ hb2 hd; have HN := Lib.hid hN; clear hd hN))
          | (go_at_call 12; go_loud ((with_reducible refine (SH.out p' q' T' w3 HN.out.two).mono ?_); rintro e w4 ⟨rfl, hb4⟩; have HN4 := Lib.hid (HN.out.later hb4); clear hb4)))
        go_roundw
        case rel => exact ⟨k + 1, p', q', T', _, by omega, by omega, by go_num, rfl, rfl, HN4⟩
        case measure => simp [intOf]; omega
    · by_cases t1 : k < len
      · have t2 : ¬ (k : Int) < 25 := by omega
        have t3 : (k : Int) < (len : Int) := by omega
        clear hlt
        go_wp2_with (go_at_call 7; refine (awake_any _).mono ?_; rintro e w5 ⟨rfl, hb5⟩)
        go_ret
        exact ⟨rfl, H.out.below.trans (hb5.mono H.out.below.size)⟩
      · have t3 : ¬ (k : Int) < (len : Int) := by omega
        clear hlt
        go_wp2_with (go_at_call 7; refine (awake_any _).mono ?_; rintro e w5 ⟨rfl, hb5⟩)
        go_ret
        exact ⟨rfl, H.out.below.trans (hb5.mono H.out.below.size)⟩

end Go.Proofs.YtclglbddibjenaaGreat
