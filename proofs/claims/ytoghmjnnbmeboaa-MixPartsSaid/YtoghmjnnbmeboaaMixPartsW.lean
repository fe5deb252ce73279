/-
  LAYER 2: the walk of MixParts.
-/
import Derived.Test.YtoghmjnnbmeboaaMixLaw
import Derived.Test.YtoghmjnnbmeboaaBRows
import Derived.Lib.Hide
import Derived.KernelRfl
set_option linter.unusedVariables false
set_option linter.unusedSimpArgs false
namespace Go.Proofs.Ytoghmjnnbmeboaa
open Go.RowKit

theorem byteInfo : (Try.prog.info? 5).map (fun i => (i.zero, i.size, i.bytes)) = some (some (.int .u8 0), 1, 1) := by kernel_rfl

/-- What holds at the head of each round: the sum has taken in all that the row holds. -/
structure PartsAt (w wr : World) (key : Int) (k : Nat) (v : Value) (zs : List Int) : Prop where
  sm : Sm wr w.heap.size key zs
  own : wr.ownsRow w.heap.size 5 1 v zs.length (cellsOf .u8 zs)
  below : Below w.heap.size w wr
  small : zs.length ≤ 200 * k

theorem PartsAt.ne {w wr : World} {key : Int} {k : Nat} {v : Value} {zs : List Int} (h : PartsAt w wr key k v zs) : v.ownBlock ≠ some w.heap.size := own_blk_ne h.own h.sm.blk (by decide)

theorem PartsAt.next {w wr w1 w2 : World} {key : Int} {k : Nat} {v v2 : Value} {zs ys : List Int} (h : PartsAt w wr key k v zs) (hs : Sm w1 w.heap.size key (zs ++ ys)) (hc : Chg (fun k => k = w.heap.size) wr w1)
    (hown : w2.ownsRow w.heap.size 5 1 v2 (zs.length + ys.length) (cellsOf .u8 zs ++ cellsOf .u8 ys)) (hg : w1.grownBy w2 v.ownBlock) (hl : ys.length ≤ 200) : PartsAt w w2 key (k + 1) v2 (zs ++ ys) := by
  have hb := h.below
  have hne := h.ne
  refine ⟨hs.chg (Chg.of_grown hg) (fun e => hne e), by rw [List.length_append, cellsOf_append]; exact hown, ?_, by rw [List.length_append]; have := h.small; omega⟩
  have b1 := Sm.chg_self hc hb.size (Nat.le_refl _)
  have b2 : Below w.heap.size w1 w2 := (Chg.of_grown hg).below (Nat.le_trans hb.size hc.size) (fun j _ e => (h.own.lt j e).1)
  exact (hb.trans b1).trans b2

theorem PartsAt.drewN {w wr : World} {key : Int} {k : Nat} {v : Value} {zs : List Int} (h : PartsAt w wr key k v zs) (n : Nat) : PartsAt w (wr.drewN n) key k v zs := ⟨h.sm.drewN n, h.own, below_drewn h.below n, h.small⟩

set_option maxHeartbeats 1600000 in
theorem parts_walk (key : Int) (A : Option Addr) (len cap : Nat) (rows : List RowV) (w : World) (hk : IsU key) (hin : InRows w .u8 A len cap rows) :
    Calls Try.prog 4 #[.int .u64 key, .slice A len cap] w fun e w' => e = .returned (.bool true) ∧ Below w.heap.size w w' := by
  obtain ⟨i0, hi, hz0, hz1, hz2⟩ := info_parts byteInfo
  have hll := hin.length
  have hle := hin.le
  have hcap := hin.cap
  go_enter Try.func4, Try.ntmps4
  go_wp2_with (go_at_call 9; refine (new_any key w hk).mono ?_; rintro e w1 ⟨rfl, hs1, hb1⟩)
  go_loopw [6, 7] (fun v i wr => ∃ (k : Nat) (zs : List Int), k ≤ len ∧ k ≤ 30 ∧ i = .int .i64 k ∧ PartsAt w wr key k v zs) (fun _ i _ => len - (intOf i).toNat)
  case atStart => exact ⟨0, [], Nat.zero_le _, Nat.zero_le _, rfl, hs1, World.ownsRow_nil _ _ _ _, hb1, Nat.zero_le _⟩
  case round =>
    obtain ⟨k, zs, hk1, hk2, rfl, H⟩ := hrel
    have hsm := H.small
    have hzb := H.sm.bytes
    obtain ⟨A1, c1, rfl, hc1, hc2⟩ := own_form H.own
    by_cases hlt : k < len ∧ k < 30
    · obtain ⟨hlt, h30⟩ := hlt
      obtain ⟨r, hr⟩ : ∃ r, rows[k]? = some r := ⟨_, List.getElem?_eq_getElem (by omega)⟩
      have hok := hin.ok r (List.mem_of_getElem? hr)
      obtain ⟨b, off, rfl, hb, hcell⟩ := hin.cells (by omega)
      have c0 : w.cell? ⟨b, off + k, none⟩ = some (.slice r.A r.n r.c) := hcell k r hr
      have cr : wr.cell? ⟨b, off + k, none⟩ = some (.slice r.A r.n r.c) := (H.below.cell (p := ⟨b, off + k, none⟩) hb).trans c0
      have hrr := hok.reads.below H.below
      have hrle := hok.le
      have hrcap := hok.cap
      have hyb : AreB r.zs := fun z h => wf_u8_bd (hok.wf z h)
      have hyl := hok.reads.len
      clear hcell
      by_cases hbig : 200 < r.n
      · go_wp2_with (go_at_call 6; refine (awake_any _).mono ?_; rintro e w5 ⟨rfl, hb5⟩)
        go_ret
        exact ⟨rfl, H.below.trans (hb5.mono H.below.size)⟩
      · have hne : 0 < r.n → ∀ ad, r.A = some ad → ad.block ≠ w.heap.size := fun h0 ad e => by
          obtain ⟨ad', e', hb', _⟩ := hok.reads.2 h0
          rw [e] at e'; injection e' with e'
          subst e'
          omega
        have HNE := Lib.hid hne
        have HYL := Lib.hid hyl
        have HLL := Lib.hid hll
        have HR := Lib.hid hr
        clear hne hyl hll hr
        have s2 : zs.length + r.n ≤ maxLen := by unfold maxLen; omega
        have s3 : (zs.length + r.n) * 1 ≤ 140737488355328 := by omega
        go_wp2_with (first
          | (go_at_call 10; refine (add_any w.heap.size key zs r.A r.n r.c r.zs wr H.sm hrr H.below.size HNE.out hyb hrle hrcap (by omega)).mono ?_; rintro e w1 ⟨rfl, hs1, hc1⟩; have cr1 : w1.cell? ⟨b, off + k, none⟩ = some (.slice r.A r.n r.c) := ((Sm.chg_self hc1 H.below.size (Nat.le_refl _)).cell (p := ⟨b, off + k, none⟩) hb).trans cr; have hrr1 := hrr.below (Sm.chg_self hc1 H.below.size (Nat.le_refl _)); have hown1 := own_chg H.own hc1 (fun g e e2 => H.ne (e2 ▸ e)))
          | (at_builtin; refine wpList_append_any _ rfl _ _ _ rfl w.heap.size 5 i0 (.int .u8 0) 1 1 Try.underlying23 hi hz0 hz1 hz2 rfl (Nat.lt_succ_self 0) (.slice A1 zs.length c1) zs.length (cellsOf .u8 zs) rfl hown1 w.heap.size r.A r.n r.c (cellsOf .u8 r.zs) rfl hrr1 (cellsOf_one _ _) s2 s3 (Nat.le_trans H.below.size hc1.size) ?_; intro v3 w3 hown3 hg3 hat3; have H3 := H.next hs1 hc1 (HYL.out ▸ hown3) hg3 (by have := HYL.out; omega); obtain ⟨A3, c3, rfl, hcc3, hcm3⟩ := own_form hown3; have hR3 := Reads.of_own hown3; rw [← cellsOf_append] at hR3)
          | (go_at_call 11; refine (value_any w.heap.size key (zs ++ r.zs) w3 H3.sm (by rw [List.length_append, HYL.out]; omega)).mono ?_; rintro e w4 ⟨rfl, n4, rfl⟩)
          | (go_at_call 8; refine (rhash_any A3 (zs.length + r.n) c3 key (zs ++ r.zs) (w3.drewN n4) (hR3.drewN n4) (hzb.append hyb) hcc3 (by unfold maxLen at hcm3; omega) (by omega) hk).mono ?_; rintro e w5 ⟨rfl, rfl⟩))
        go_roundw
        case rel => exact ⟨k + 1, zs ++ r.zs, by omega, by omega, by go_num, H3.drewN n4⟩
        case measure => simp [intOf]; omega
    · have hR := Reads.of_own H.own
      have hstop : (k : Int) < (len : Int) → ¬ (k : Int) < 30 := fun h => by omega
      clear hlt
      by_cases hkl : (k : Int) < (len : Int)
      all_goals
        go_wp2_with (first
          | (go_at_call 11; refine (value_any w.heap.size key zs wr H.sm (by omega)).mono ?_; rintro e w4 ⟨rfl, n4, rfl⟩)
          | (go_at_call 8; refine (rhash_any A1 zs.length c1 key zs (wr.drewN n4) (hR.drewN n4) hzb hc1 (by unfold maxLen at hc2; omega) (by omega) hk).mono ?_; rintro e w5 ⟨rfl, rfl⟩)
          | (go_at_call 6; refine (awake_any _).mono ?_; rintro e w5 ⟨rfl, hb5⟩))
        go_ret
        exact ⟨rfl, (below_drewn H.below n4).trans (hb5.mono H.below.size)⟩

theorem parts_law (key : Int) (A : Option Addr) (len cap : Nat) (rows : List RowV) (w : World) (h0 : (Lit.int .u64 key).wf = true) (hin : InRows w .u8 A len cap rows) :
    Calls Try.prog 4 #[.int .u64 key, .slice A len cap] w fun e w' => e = .returned (.bool true) ∧ Below w.heap.size w w' := parts_walk key A len cap rows w (wf_u64_bd h0) hin

theorem view_parts {H : Type} {enc : TypeId × Value → H} {w : World} {A : Option Addr} {len cap : Nat} {d : DataW H} {p : List MemPlace}
    (h : DataW.Trod enc Try.prog w 0 (fun _ => true) true 27 (.slice A len cap) d p) : ∃ rows, InRows w .u8 A len cap rows :=
  view_rows Try.underlying27 Try.underlying23 Try.underlying5 (by kernel_rfl) (by kernel_rfl) h

end Go.Proofs.Ytoghmjnnbmeboaa
