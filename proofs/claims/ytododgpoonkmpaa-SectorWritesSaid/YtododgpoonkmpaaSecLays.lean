/-
  LAYER 5: the walk of SectorLays.
-/
import Derived.Test.YtododgpoonkmpaaSecLaw
import Derived.Test.YtododgpoonkmpaaSecAt
import Derived.Test.YtododgpoonkmpaaSecRef2
import Derived.Deep.RegionHeld3
set_option linter.unusedVariables false
set_option linter.unusedSimpArgs false
namespace Go.Proofs.Ytododgpoonkmpaa
open Go.RowKit

theorem size_int (A : Option Addr) (len cap : Nat) (n : Int) (zs : List Int) (B : Nat) (w : World) (hr : Reads w B 1 A len (cellsOf .u8 zs)) (hB : B ≤ w.heap.size) (hn : n ≤ 2147483647) (hl : len ≤ cap) :
    Calls Try.prog 12 #[.slice A len cap, .int .i64 n] w (Gives (sizeL zs n.toNat) w) := by
  by_cases h : n < 0
  · refine (size_neg A len cap n w h).mono fun e w' ⟨he, hw⟩ => ?_
    subst he; subst hw
    rw [show n.toNat = 0 by omega, sizeL_zero]
    exact ⟨none, 0, rfl, World.ownsRow_nil _ _ _ _, Below.refl _ _⟩
  · obtain ⟨k, rfl⟩ : ∃ k : Nat, n = k := ⟨n.toNat, by omega⟩
    exact (size_any A len cap k zs B w hr hB (by omega) hl).mono fun e w' hh => hh.gives (by rw [sizeL_length]; unfold maxLen; omega)

/-- What a reader of bytes that a function has told is handed. -/
theorem Gives.reads {zs : List Int} {w w' : World} {e : Ending} (h : Gives zs w e w') : ∃ A n c, e = .returned (.slice A n c) ∧ n = zs.length ∧ Reads w' w'.heap.size 1 A n (cellsOf .u8 zs) ∧ n ≤ c ∧ c ≤ maxLen ∧ Below w.heap.size w w' := by
  obtain ⟨A, c, rfl, hown, hb⟩ := h
  obtain ⟨A1, c1, e1, h1, h2⟩ := own_form hown
  injection e1 with e1 _ e3
  subst e1; subst e3
  exact ⟨A, _, c, rfl, rfl, Reads.of_own hown, h1, h2, hb⟩
theorem Lays.reads {zs : List Int} {w w' : World} {e : Ending} (h : Lays zs w e w') (hz : zs.length ≤ maxLen) : ∃ A n c, e = .returned (.slice A n c) ∧ n = zs.length ∧ Reads w' w'.heap.size 1 A n (cellsOf .u8 zs) ∧ n ≤ c ∧ c ≤ maxLen ∧ Below w.heap.size w w' := (h.gives hz).reads

/-- The world in which the two pieces have been made. -/
abbrev pqW (w : World) (frm : Int) (A2 : Option Addr) (m c : Nat) : World :=
  (w.alloc (.cells #[.int .i64 0, .int .i64 frm, .slice A2 m c] 30)).alloc (.cells #[.int .i64 0, .int .i64 frm, .slice A2 m c] 31)

theorem pq_below (w : World) (frm : Int) (A2 : Option Addr) (m c : Nat) : Below w.heap.size w (pqW w frm A2 m c) := ((Below.refl _ _).alloc (Nat.le_refl _) _).alloc (by simp) _
theorem pq_size (w : World) (frm : Int) (A2 : Option Addr) (m c : Nat) : (pqW w frm A2 m c).heap.size = w.heap.size + 2 := by simp [pqW]

/-- What stands in the world of the region: the pieces, and what was there. -/
theorem pq_cells {w w' : World} {frm : Int} {A2 : Option Addr} {m c : Nat} (h : Below (w.heap.size + 2) (pqW w frm A2 m c) w') :
    w'.cell? ⟨w.heap.size, 0, none⟩ = some (.int .i64 0) ∧ w'.cell? ⟨w.heap.size, 1, none⟩ = some (.int .i64 frm) ∧ w'.cell? ⟨w.heap.size, 2, none⟩ = some (.slice A2 m c) ∧
    w'.cell? ⟨w.heap.size + 1, 0, none⟩ = some (.int .i64 0) ∧ w'.cell? ⟨w.heap.size + 1, 1, none⟩ = some (.int .i64 frm) ∧ w'.cell? ⟨w.heap.size + 1, 2, none⟩ = some (.slice A2 m c) := by
  have h1 : Blk (w.alloc (.cells #[.int .i64 0, .int .i64 frm, .slice A2 m c] 30)) w.heap.size 30 #[.int .i64 0, .int .i64 frm, .slice A2 m c] := Blk.new _ _ _
  have h2 : Blk (pqW w frm A2 m c) (w.heap.size + 1) 31 #[.int .i64 0, .int .i64 frm, .slice A2 m c] := by
    have := Blk.new (w.alloc (.cells #[.int .i64 0, .int .i64 frm, .slice A2 m c] 30)) 31 #[.int .i64 0, .int .i64 frm, .slice A2 m c]
    rw [World.size_alloc] at this
    exact this
  have k1 := (h1.alloc (.cells #[.int .i64 0, .int .i64 frm, .slice A2 m c] 31)).below h (by omega)
  have k2 := h2.below h (by omega)
  exact ⟨by rw [k1.cell]; rfl, by rw [k1.cell]; rfl, by rw [k1.cell]; rfl, by rw [k2.cell]; rfl, by rw [k2.cell]; rfl, by rw [k2.cell]; rfl⟩

/-- On from there. -/
theorem pq_on {w w' w'' : World} {frm : Int} {A2 : Option Addr} {m c : Nat} (h : Below (w.heap.size + 2) (pqW w frm A2 m c) w') (h2 : Below w'.heap.size w' w'') : Below (w.heap.size + 2) (pqW w frm A2 m c) w'' :=
  h.trans (h2.mono (by have := h.size; rw [pq_size] at this; exact this))
theorem pq_back {w w' : World} {frm : Int} {A2 : Option Addr} {m c : Nat} (h : Below (w.heap.size + 2) (pqW w frm A2 m c) w') : Below w.heap.size w w' := (pq_below w frm A2 m c).trans (h.mono (by omega))

set_option maxHeartbeats 4000000 in
theorem lays_law (A : Option Addr) (len cap : Nat) (zs : List Int) (n : Int) (A2 : Option Addr) (m c : Nat) (ss : List Int) (frm : Int) (w : World) (hin : InInts w .u8 A len cap zs) (h1 : (Lit.int .i64 n).wf = true) (hin2 : InInts w .u8 A2 m c ss) (h3 : (Lit.int .i64 frm).wf = true) :
    Calls Try.prog 4 #[.slice A len cap, .int .i64 n, .slice A2 m c, .int .i64 frm] w fun e w' => e = .returned (.bool true) ∧ Below w.heap.size w w' := by
  have hb1 := bounds_i64 h1
  have hb3 := bounds_i64 h3
  have hl := hin.le
  have hc := hin.cap
  have hl2 := hin2.le
  have hc2 := hin2.cap
  have hr := hin.reads
  have hr2 := hin2.reads
  have hby := in_bytes hin
  have hby2 := in_bytes hin2
  have hlen := hr.len
  clear hin hin2 h1 h3
  by_cases g1 : len ≤ 1000
  · by_cases g2 : m ≤ 1000
    · have AT1 := Lib.hid (fun (w1 : World) (hb : Below (w.heap.size + 2) (pqW w frm A2 m c) w1) => at_any A len cap n zs w.heap.size w1 (hr.below (pq_back hb)) (pq_back hb).size hl hc (by omega))
      have AT2 := Lib.hid (fun (w1 : World) (hb : Below (w.heap.size + 2) (pqW w frm A2 m c) w1) => rat_any A len cap n zs w.heap.size w1 (hr.below (pq_back hb)) (pq_back hb).size hl hc (by omega))
      have ST1 := Lib.hid (fun (w1 : World) (hb : Below (w.heap.size + 2) (pqW w frm A2 m c) w1) => set_any A len cap n zs A2 m c ss w.heap.size w1 (hr.below (pq_back hb)) (hr2.below (pq_back hb)) (pq_back hb).size hl (by omega) hl2 hc2)
      have ST2 := Lib.hid (fun (w1 : World) (hb : Below (w.heap.size + 2) (pqW w frm A2 m c) w1) => rset_any A len cap n zs A2 m c ss w.heap.size w1 (hr.below (pq_back hb)) (hr2.below (pq_back hb)) (pq_back hb).size hl hc (by omega) hl2 hc2)
      have LY1 := Lib.hid (fun (w1 : World) (hb : Below (w.heap.size + 2) (pqW w frm A2 m c) w1) => lay_any A len cap 0 frm zs A2 m c ss w.heap.size w1 (hr.below (pq_back hb)) (hr2.below (pq_back hb)) (pq_back hb).size hl hl2)
      have LY2 := Lib.hid (fun (w1 : World) (hb : Below (w.heap.size + 2) (pqW w frm A2 m c) w1) => rlay_any A len cap 0 frm zs A2 m c ss w.heap.size w1 (hr.below (pq_back hb)) (hr2.below (pq_back hb)) (pq_back hb).size hl hc (by omega) hl2 hc2)
      have BY1 : AreB (secL zs n) := secL_bytes hby n
      have BY2 : AreB (setL zs n ss) := setL_bytes hby hby2 n
      have BY3 : AreB (layL zs frm ss) := layL_bytes hby hby2 frm
      have HSL := Lib.hid (show (setL zs n ss).length ≤ maxLen by rw [setL_length]; unfold maxLen; omega)
      have m1 : True := trivial
      have m2 : True := trivial
      have m3 : True := trivial
      have m4 : True := trivial
      by_cases g3 : n ≤ 2000
      · have S1 := Lib.hid (fun (w1 : World) (hb : Below (w.heap.size + 2) (pqW w frm A2 m c) w1) => size_int A len cap n zs w.heap.size w1 (hr.below (pq_back hb)) (pq_back hb).size (by omega) hl)
        have S2 := Lib.hid (fun (w1 : World) (hb : Below (w.heap.size + 2) (pqW w frm A2 m c) w1) => rsize_any A len cap n zs w.heap.size w1 (hr.below (pq_back hb)) (pq_back hb).size (by omega) hl hc)
        have BY0 : AreB (sizeL zs n.toNat) := sizeL_bytes hby _
        clear hr hr2 hby hby2
        have hbz : Below (w.heap.size + 2) (pqW w frm A2 m c) (pqW w frm A2 m c) := Below.refl _ _
        go_enter Try.func4, Try.ntmps4
        go_wp2_with (first
          | (go_at_call 12; refine (S1.out _ hbz).mono ?_; rintro e w1 hg; obtain ⟨Aa, na, ca, rfl, -, ra, -, -, hbx⟩ := hg.reads; have hbA := pq_on hbz hbx; clear hg hbx)
          | (go_at_call 13; refine (S2.out _ hbA).mono ?_; rintro e wB hg; obtain ⟨Ab, nb, cb, rfl, -, rb, -, -, hbx⟩ := hg.reads; have hbB := pq_on hbA hbx; have ra2 := ra.below hbx; clear hg hbx)
          | (go_at_call 11; clear m4; refine (same_self Aa Ab na nb ca cb _ wB ra2 rb BY0).mono ?_; rintro e w9 ⟨rfl, rfl⟩))
        have hb0 : Below (w.heap.size + 2) (pqW w frm A2 m c) wB.drew := below_drewn hbB 1
        clear hbA hbB ra rb ra2
        go_region_held3 (fun w' => w'.cell? ⟨w.heap.size, 0, none⟩ = some (.int .i64 0) ∧ w'.cell? ⟨w.heap.size, 1, none⟩ = some (.int .i64 frm) ∧ w'.cell? ⟨w.heap.size, 2, none⟩ = some (.slice A2 m c) ∧
            w'.cell? ⟨w.heap.size + 1, 0, none⟩ = some (.int .i64 0) ∧ w'.cell? ⟨w.heap.size + 1, 1, none⟩ = some (.int .i64 frm) ∧ w'.cell? ⟨w.heap.size + 1, 2, none⟩ = some (.slice A2 m c))
          (first | assumption | exact pq_cells (by assumption))
          (first
            | (go_at_call 14; refine (AT1.out _ hb0).mono ?_; rintro e wA hg; obtain ⟨Aa, na, ca, rfl, -, ra, -, -, hbx⟩ := hg.reads (by rw [secL_length]; decide); have hbA := pq_on hb0 hbx; clear hg hbx)
            | (go_at_call 15; refine (AT2.out _ hbA).mono ?_; rintro e wB hg; obtain ⟨Ab, nb, cb, rfl, -, rb, -, -, hbx⟩ := hg.reads (by rw [secL_length]; decide); have hbB := pq_on hbA hbx; have ra2 := ra.below hbx; clear hg hbx)
            | (go_at_call 11; clear m1; refine (same_self Aa Ab na nb ca cb _ wB ra2 rb BY1).mono ?_; rintro e w9 ⟨rfl, rfl⟩)
            | (go_at_call 16; refine (ST1.out _ hbB).mono ?_; rintro e wC hg; obtain ⟨Ac, nc, cc, rfl, -, rc, -, -, hbx⟩ := hg.reads HSL.out; have hbC := pq_on hbB hbx; clear hg hbx)
            | (go_at_call 17; refine (ST2.out _ hbC).mono ?_; rintro e wD hg; obtain ⟨Ad, nd, cd, rfl, -, rd, -, -, hbx⟩ := hg.reads; have hbD := pq_on hbC hbx; have rc2 := rc.below hbx; clear hg hbx)
            | (go_at_call 11; clear m2; refine (same_self Ac Ad nc nd cc cd _ wD rc2 rd BY2).mono ?_; rintro e w9 ⟨rfl, rfl⟩)
            | (go_at_call 18; refine (LY1.out _ hbD).mono ?_; rintro e wE hg; obtain ⟨Ae, ne, ce, rfl, -, re, -, -, hbx⟩ := hg.reads (by rw [layL_length]; decide); have hbE := pq_on hbD hbx; clear hg hbx)
            | (go_at_call 19; refine (LY2.out _ hbE).mono ?_; rintro e wF hg; obtain ⟨Af, nf, cf, rfl, -, rf, -, -, hbx⟩ := hg.reads (by rw [layL_length]; decide); have hbF := pq_on hbE hbx; have re2 := re.below hbx; clear hg hbx)
            | (go_at_call 11; clear m3; refine (same_self Ae Af ne nf ce cf _ wF re2 rf BY3).mono ?_; rintro e w9 ⟨rfl, rfl⟩)
            | (go_at_call 6; refine (awake_any _).mono ?_; rintro e wG ⟨rfl, hbx⟩; have hbG := pq_on hbF hbx; clear hbx))

        clear hbA hbB hbC hbD hbE hbF
        go_wp2
        go_ret
        exact ⟨rfl, pq_back hbG⟩
      · clear hr hr2 hby hby2
        by_cases g4 : n < 1099511627776
        · clear AT1 AT2 ST1 ST2 LY1 LY2
          go_enter Try.func4, Try.ntmps4
          go_wp2_with (go_at_call 6; refine (awake_any _).mono ?_; rintro e w5 ⟨rfl, hb5⟩)
          go_ret
          exact ⟨rfl, hb5⟩
        have hbz : Below (w.heap.size + 2) (pqW w frm A2 m c) (pqW w frm A2 m c) := Below.refl _ _
        have hb0 : Below (w.heap.size + 2) (pqW w frm A2 m c) (pqW w frm A2 m c).drew := below_drewn hbz 1
        go_enter Try.func4, Try.ntmps4
        go_wp2
        go_region_held3 (fun w' => w'.cell? ⟨w.heap.size, 0, none⟩ = some (.int .i64 0) ∧ w'.cell? ⟨w.heap.size, 1, none⟩ = some (.int .i64 frm) ∧ w'.cell? ⟨w.heap.size, 2, none⟩ = some (.slice A2 m c) ∧
            w'.cell? ⟨w.heap.size + 1, 0, none⟩ = some (.int .i64 0) ∧ w'.cell? ⟨w.heap.size + 1, 1, none⟩ = some (.int .i64 frm) ∧ w'.cell? ⟨w.heap.size + 1, 2, none⟩ = some (.slice A2 m c))
          (first | assumption | exact pq_cells (by assumption))
          (first
            | (go_at_call 14; refine (AT1.out _ hb0).mono ?_; rintro e wA hg; obtain ⟨Aa, na, ca, rfl, -, ra, -, -, hbx⟩ := hg.reads (by rw [secL_length]; decide); have hbA := pq_on hb0 hbx; clear hg hbx)
            | (go_at_call 15; refine (AT2.out _ hbA).mono ?_; rintro e wB hg; obtain ⟨Ab, nb, cb, rfl, -, rb, -, -, hbx⟩ := hg.reads (by rw [secL_length]; decide); have hbB := pq_on hbA hbx; have ra2 := ra.below hbx; clear hg hbx)
            | (go_at_call 11; clear m1; refine (same_self Aa Ab na nb ca cb _ wB ra2 rb BY1).mono ?_; rintro e w9 ⟨rfl, rfl⟩)
            | (go_at_call 16; refine (ST1.out _ hbB).mono ?_; rintro e wC hg; obtain ⟨Ac, nc, cc, rfl, -, rc, -, -, hbx⟩ := hg.reads HSL.out; have hbC := pq_on hbB hbx; clear hg hbx)
            | (go_at_call 17; refine (ST2.out _ hbC).mono ?_; rintro e wD hg; obtain ⟨Ad, nd, cd, rfl, -, rd, -, -, hbx⟩ := hg.reads; have hbD := pq_on hbC hbx; have rc2 := rc.below hbx; clear hg hbx)
            | (go_at_call 11; clear m2; refine (same_self Ac Ad nc nd cc cd _ wD rc2 rd BY2).mono ?_; rintro e w9 ⟨rfl, rfl⟩)
            | (go_at_call 18; refine (LY1.out _ hbD).mono ?_; rintro e wE hg; obtain ⟨Ae, ne, ce, rfl, -, re, -, -, hbx⟩ := hg.reads (by rw [layL_length]; decide); have hbE := pq_on hbD hbx; clear hg hbx)
            | (go_at_call 19; refine (LY2.out _ hbE).mono ?_; rintro e wF hg; obtain ⟨Af, nf, cf, rfl, -, rf, -, -, hbx⟩ := hg.reads (by rw [layL_length]; decide); have hbF := pq_on hbE hbx; have re2 := re.below hbx; clear hg hbx)
            | (go_at_call 11; clear m3; refine (same_self Ae Af ne nf ce cf _ wF re2 rf BY3).mono ?_; rintro e w9 ⟨rfl, rfl⟩)
            | (go_at_call 6; refine (awake_any _).mono ?_; rintro e wG ⟨rfl, hbx⟩; have hbG := pq_on hbF hbx; clear hbx))

        clear hbA hbB hbC hbD hbE hbF
        go_wp2
        go_ret
        exact ⟨rfl, pq_back hbG⟩
    · clear hr hr2 hby hby2
      go_enter Try.func4, Try.ntmps4
      go_wp2_with (go_at_call 6; refine (awake_any _).mono ?_; rintro e w5 ⟨rfl, hb5⟩)
      go_ret
      exact ⟨rfl, hb5⟩
  · clear hr hr2 hby hby2
    go_enter Try.func4, Try.ntmps4
    go_wp2_with (go_at_call 6; refine (awake_any _).mono ?_; rintro e w5 ⟨rfl, hb5⟩)
    go_ret
    exact ⟨rfl, hb5⟩

end Go.Proofs.Ytododgpoonkmpaa
