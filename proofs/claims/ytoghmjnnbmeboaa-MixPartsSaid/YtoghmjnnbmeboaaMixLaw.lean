/-
  LAYER 2: what Hash does, the chapter's example (awake), and the walks of MixHashes and MixBuckets.
-/
import Derived.Test.YtoghmjnnbmeboaaMixAdd
import Derived.Test.YtoghmjnnbmeboaaFrame
set_option linter.unusedVariables false
set_option linter.unusedSimpArgs false
namespace Go.Proofs.Ytoghmjnnbmeboaa
open Go.RowKit

theorem Sm.chg_self {w w' : World} {g : Nat} (hc : Chg (fun k => k = g) w w') {B : Nat} (hB : B ≤ w.heap.size) (hg : B ≤ g) : Below B w w' := hc.below hB (fun k _ e => by omega)

theorem hash_any {B : Nat} (A : Option Addr) (len cap : Nat) (key : Int) (zs : List Int) (w : World) (hk : IsU key) (hr : Reads w B 1 A len (cellsOf .u8 zs)) (hB : B ≤ w.heap.size) (hz : AreB zs) (hl : len ≤ cap) (hcap : cap ≤ 9223372036854775807) (hn : len ≤ 4611686018427387904) :
    Calls Try.prog 7 #[.int .u64 key, .slice A len cap] w fun e w' => e = .returned (.int .u64 (hsh key zs)) ∧ Below w.heap.size w w' := by
  have hll := hr.len
  have hne : 0 < len → ∀ ad, A = some ad → ad.block ≠ w.heap.size := fun h0 ad e => by
    obtain ⟨ad', e', hb, _⟩ := hr.2 h0
    rw [e] at e'; injection e' with e'
    subst e'
    omega
  have HN := Lib.hid hne
  have HL := Lib.hid hll
  clear hne hll
  go_enter Try.func7, Try.ntmps7
  go_wp2_with (first
    | (go_at_call 9; refine (new_any key w hk).mono ?_; rintro e w1 ⟨rfl, hs1, hb1⟩; have hr1 := hr.keep (fun p hp => hb1.cell (p := p) (by omega)); have hB1 : B ≤ w1.heap.size := (by have := hb1.size; omega))
    | (go_at_call 10; refine (add_any w.heap.size key [] A len cap zs w1 hs1 hr1 hB1 HN.out hz hl hcap (by simpa using hn)).mono ?_; rintro e w2 ⟨rfl, hs2, hc2⟩)
    | (go_at_call 11; refine (value_any w.heap.size key ([] ++ zs) w2 hs2 (by have := HL.out; simp; omega)).mono ?_; rintro e w3 ⟨rfl, k, rfl⟩))
  go_ret
  exact ⟨rfl, (hb1.trans (Sm.chg_self hc2 hb1.size (Nat.le_refl _))).trans ⟨rfl, rfl, rfl, Nat.le_refl _, fun _ _ => rfl⟩⟩

theorem bytesOk (l : List Int) (h : ∀ z ∈ l, decide (0 ≤ z ∧ z < 256) = true) : AreB l := fun z hz => by simpa using h z hz

/-- A slice of given bytes in a block of its own. -/
theorem litReads (w : World) (t : TypeId) (zs : List Int) : Reads (w.alloc (.cells (cellsOf .u8 zs).toArray t)) (w.heap.size + 1) 1 (some ⟨w.heap.size, 0, none⟩) zs.length (cellsOf .u8 zs) := by
  have h := Reads.newN w t (cellsOf .u8 zs).toArray
  have e : (cellsOf .u8 zs).toArray.size = zs.length := by simp [cellsOf_length]
  rw [e] at h
  exact h

theorem add_lit (g : Nat) (key : Int) (zs l : List Int) (t : TypeId) (w : World) (h : Sm w g key zs) (hz : AreB l) (hn : zs.length + l.length ≤ 4611686018427387904) :
    Calls Try.prog 10 #[.pointer (some ⟨g, 0, none⟩), .slice (some ⟨w.heap.size, 0, none⟩) l.length l.length] (w.alloc (.cells (cellsOf .u8 l).toArray t)) fun e w' => e = .returned (.tuple #[]) ∧ Sm w' g key (zs ++ l) ∧ Chg (fun k => k = g) w w' := by
  have hlt := h.blk.lt
  refine (add_any g key zs _ l.length l.length l _ (h.below ((Below.refl _ _).alloc (Nat.le_refl _) _)) (litReads w t l) (by simp) (fun _ ad e => ?_) hz (Nat.le_refl _) (by omega) hn).mono fun e w' ⟨he, hs, hc⟩ => ⟨he, hs, ?_⟩
  · injection e with e
    subst e
    show w.heap.size ≠ g
    omega
  · exact ((Chg.refl (fun k => k = g) w).alloc _).trans hc (fun _ _ e => e)

set_option maxHeartbeats 1000000 in
theorem awake_any (w : World) : Calls Try.prog 6 #[] w fun e w' => e = .returned (.bool true) ∧ Below w.heap.size w w' := by
  have b1 : AreB [97, 98] := bytesOk _ (by decide)
  have b2 : AreB [99] := bytesOk _ (by decide)
  have b3 : AreB [100, 101, 102, 103, 104, 105] := bytesOk _ (by decide)
  have b4 : AreB [97, 98, 99, 100, 101, 102, 103, 104, 105] := bytesOk _ (by decide)
  have hu : IsU 5 := ⟨by decide, by decide⟩
  go_enter Try.func6, Try.ntmps6
  go_wp2_with (first
    | (go_at_call 9; refine (new_any 5 w hu).mono ?_; rintro e w1 ⟨rfl, hs1, hb1⟩)
    | (go_at_call 10; refine (add_lit w.heap.size 5 [] [97, 98] _ w1 hs1 b1 (by decide)).mono ?_; rintro e w2 ⟨rfl, hs2, hc2⟩; clear hs1)
    | (go_at_call 10; refine (add_lit w.heap.size 5 _ [99] _ w2 hs2 b2 (by decide)).mono ?_; rintro e w3 ⟨rfl, hs3, hc3⟩; clear hs2)
    | (go_at_call 10; refine (add_lit w.heap.size 5 _ [100, 101, 102, 103, 104, 105] _ w3 hs3 b3 (by decide)).mono ?_; rintro e w4 ⟨rfl, hs4, hc4⟩; clear hs3)
    | (go_at_call 11; refine (value_any w.heap.size 5 [97, 98, 99, 100, 101, 102, 103, 104, 105] w4 hs4 (by decide)).mono ?_; rintro e w5 ⟨rfl, k, rfl⟩)
    | (go_at_call 8; refine (rhash_any _ 9 9 5 [97, 98, 99, 100, 101, 102, 103, 104, 105] _ (litReads _ _ [97, 98, 99, 100, 101, 102, 103, 104, 105]) b4 (by omega) (by omega) (by omega) hu).mono ?_; rintro e w6 ⟨rfl, rfl⟩))
  go_ret
  refine ⟨rfl, ?_⟩
  have hsz := hb1.size
  have h2 := (Sm.chg_self hc2 hsz (Nat.le_refl _))
  have h3 := (Sm.chg_self hc3 (Nat.le_trans hsz hc2.size) (Nat.le_refl _))
  have h4 := (Sm.chg_self hc4 (Nat.le_trans (Nat.le_trans hsz hc2.size) hc3.size) (Nat.le_refl _))
  have h5 := ((hb1.trans h2).trans h3).trans h4
  exact (below_drewn h5 k).alloc h5.size _

theorem buckets_walk (h n : Int) (w : World) (hh : IsU h) (hn : -9223372036854775808 ≤ n) (hn' : n ≤ 9223372036854775807) :
    Calls Try.prog 5 #[.int .u64 h, .int .i64 n] w fun e w' => e = .returned (.bool true) ∧ Below w.heap.size w w' := by
  obtain ⟨h0, h1⟩ := hh
  by_cases h2 : n < 1
  · have hb : bucket h n = 0 := by unfold bucket; rw [if_pos h2]
    have G := Lib.hid (bucket_any h n w ⟨h0, h1⟩ hn hn')
    rw [hb] at G
    clear hb
    go_enter Try.func5, Try.ntmps5
    go_wp2_with (first
      | (go_at_call 12; refine G.out.mono ?_; rintro e w1 ⟨rfl, rfl⟩)
      | (go_at_call 6; refine (awake_any _).mono ?_; rintro e w5 ⟨rfl, hb5⟩))
    go_ret
    exact ⟨rfl, hb5⟩
  · have hb : bucket h n = h % n := by unfold bucket; rw [if_neg h2]
    have G := Lib.hid (bucket_any h n w ⟨h0, h1⟩ hn hn')
    rw [hb] at G
    clear hb
    have h3 := Int.emod_nonneg h (show n ≠ 0 by omega)
    have h4 := Int.emod_lt_of_pos h (show 0 < n by omega)
    have h5 : (h % n == IntKind.u64.wrap (h - IntKind.u64.wrap (h / n * n))) = true := by
      have e : h / n * n = h - h % n := by have := Int.mul_ediv_add_emod h n; rw [Int.mul_comm]; omega
      have h6 : 0 ≤ h / n * n := Int.mul_nonneg (Int.ediv_nonneg h0 (by omega)) (by omega)
      rw [e] at h6 ⊢
      rw [IntKind.wrap_u64, IntKind.wrap_u64, Int.emod_eq_of_lt (a := h - h % n) (by omega) (by omega), show h - (h - h % n) = h % n by omega, Int.emod_eq_of_lt (a := h % n) (by omega) (by omega)]
      simp
    go_enter Try.func5, Try.ntmps5
    go_wp2_with (first
      | (go_at_call 12; refine G.out.mono ?_; rintro e w1 ⟨rfl, rfl⟩)
      | (go_at_call 6; refine (awake_any _).mono ?_; rintro e w5 ⟨rfl, hb5⟩))
    go_ret
    exact ⟨rfl, hb5⟩

set_option maxHeartbeats 1000000 in
theorem hashes_walk (key : Int) (A : Option Addr) (len cap : Nat) (zs : List Int) (w : World) (hk : IsU key) (hin : InInts w .u8 A len cap zs) :
    Calls Try.prog 3 #[.int .u64 key, .slice A len cap] w fun e w' => e = .returned (.bool true) ∧ Below w.heap.size w w' := by
  have hz : AreB zs := fun z h => wf_u8_bd (hin.wf z h)
  have hr := hin.reads
  have hl := hin.le
  have hcap := hin.cap
  by_cases h : 3000 < len
  · go_enter Try.func3, Try.ntmps3
    go_wp2_with (go_at_call 6; refine (awake_any _).mono ?_; rintro e w5 ⟨rfl, hb5⟩)
    go_ret
    exact ⟨rfl, hb5⟩
  · go_enter Try.func3, Try.ntmps3
    go_wp2_with (first
      | (go_at_call 7; refine (hash_any A len cap key zs w hk hr (Nat.le_refl _) hz hl hcap (by omega)).mono ?_; rintro e w1 ⟨rfl, hb1⟩; have hr1 := hr.below hb1)
      | (go_at_call 8; refine (rhash_any A len cap key zs w1 hr1 hz hl hcap (by omega) hk).mono ?_; rintro e w2 ⟨rfl, rfl⟩)
      | (go_at_call 6; refine (awake_any _).mono ?_; rintro e w5 ⟨rfl, hb5⟩))
    go_ret
    exact ⟨rfl, hb1.trans (hb5.mono hb1.size)⟩

theorem hashes_law (key : Int) (A : Option Addr) (len cap : Nat) (zs : List Int) (w : World) (h0 : (Lit.int .u64 key).wf = true) (hin : InInts w .u8 A len cap zs) :
    Calls Try.prog 3 #[.int .u64 key, .slice A len cap] w fun e w' => e = .returned (.bool true) ∧ Below w.heap.size w w' := hashes_walk key A len cap zs w (wf_u64_bd h0) hin

theorem buckets_law (h n : Int) (w : World) (h0 : (Lit.int .u64 h).wf = true) (h1 : (Lit.int .i64 n).wf = true) :
    Calls Try.prog 5 #[.int .u64 h, .int .i64 n] w fun e w' => e = .returned (.bool true) ∧ Below w.heap.size w w' := buckets_walk h n w (wf_u64_bd h0) (bounds_i64 h1).1 (bounds_i64 h1).2

end Go.Proofs.Ytoghmjnnbmeboaa
