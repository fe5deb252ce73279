/-
  WHAT A Reader OF PACKAGE le DOES: contracts of Read, Num, Raw, At.
-/
import Derived.Test.YtdajjkjpjhpnjaaLeNum
import Derived.Test.YtdajjkjpjhpnjaaLeW
import Derived.BigQuiet
import Derived.Deep.QuietTactic
set_option linter.unusedVariables false
set_option maxRecDepth 100000
set_option linter.unusedSimpArgs false
namespace Go.Proofs.Ytdajjkjpjhpnjaa
open Go.RowKit

/-- Block g is a reader at place p; zs is what it has left. -/
structure Rd (w : World) (B g : Nat) (p : Int) (A : Option Addr) (n c : Nat) (zs : List Int) (bad : Bool) : Prop where
  blk : Blk w g 71 #[.int .i64 p, .slice A n c, .bool bad]
  reads : Reads w B 1 A n (cellsOf .u8 zs)
  low : B ≤ w.heap.size
  le : n ≤ c
  cap : c ≤ 9223372036854775807
  ne : 0 < n → ∀ ad, A = some ad → ad.block ≠ g

/-- What a reader's method leaves. -/
def RdPost (w : World) (B g : Nat) (p : Int) (zs : List Int) (bad : Bool) (w' : World) : Prop := ∃ A n c, Rd w' B g p A n c zs bad ∧ Chg (fun k => k = g) w w'

theorem Rd.below {w w' : World} {B g n c : Nat} {p : Int} {A : Option Addr} {zs : List Int} {bad : Bool} (h : Rd w B g p A n c zs bad) (hb : Below w.heap.size w w') : Rd w' B g p A n c zs bad :=
  ⟨h.blk.below hb h.blk.lt, h.reads.keep (fun p hp => hb.cell (by have := h.low; omega)), by have := h.low; have := hb.size; omega, h.le, h.cap, h.ne⟩

theorem RdPost.step {w w1 w2 : World} {B g : Nat} {p : Int} {zs : List Int} {bad : Bool} (hc : Chg (fun k => k = g) w w1) (h : RdPost w1 B g p zs bad w2) : RdPost w B g p zs bad w2 := by
  obtain ⟨A, n, c, hr, hc2⟩ := h
  exact ⟨A, n, c, hr, hc.trans hc2 (fun _ _ e => e)⟩

theorem spoil_any (B g n c : Nat) (p : Int) (A : Option Addr) (zs : List Int) (bad : Bool) (w : World) (h : Rd w B g p A n c zs bad) :
    Calls Try.prog 39 #[.pointer (some ⟨g, 0, none⟩)] w fun e w' => e = .returned (.tuple #[]) ∧ RdPost w B g p [] true w' := by
  have c1 : w.cell? ⟨g, 1, none⟩ = some (.slice A n c) := h.blk.cell 1
  have c2 : w.cell? ⟨g, 2, none⟩ = some (.bool bad) := h.blk.cell 2
  have f1 := h.blk.frozen 1
  have f2 := h.blk.frozen 2
  go_enter Try.func39, Try.ntmps39
  go_wp2
  go_end0
  refine ⟨rfl, none, 0, 0, ⟨?_, Reads.none_, by simpa using h.low, Nat.le_refl _, by omega, fun h => absurd h (by omega)⟩, ?_⟩
  · have := (h.blk.set_ 2 (.bool true)).set_ 1 (.slice none 0 0)
    simpa using this
  · exact ((Chg.refl (fun k => k = g) w).setCell (p := ⟨g, 2, none⟩) (.inr rfl) _).setCell (p := ⟨g, 1, none⟩) (.inr rfl) _

theorem skip_any (B g n c m : Nat) (p : Int) (A : Option Addr) (zs : List Int) (bad : Bool) (w : World) (h : Rd w B g p A n c zs bad) (hm : m ≤ n) (hp : 0 ≤ p) (hp' : p + m ≤ 4611686018427387904) :
    Calls Try.prog 40 #[.pointer (some ⟨g, 0, none⟩), .int .i64 m] w fun e w' => e = .returned (.tuple #[]) ∧ RdPost w B g (p + m) (zs.drop m) bad w' := by
  have c0 : w.cell? ⟨g, 0, none⟩ = some (.int .i64 p) := h.blk.cell 0
  have c1 : w.cell? ⟨g, 1, none⟩ = some (.slice A n c) := h.blk.cell 1
  have f0 := h.blk.frozen 0
  have f1 := h.blk.frozen 1
  have hle := h.le
  have hcap := h.cap
  obtain ⟨A', hA'⟩ : ∃ A', (if c = m then A else A.map (·.add m)) = A' := ⟨_, rfl⟩
  have hcut := h.reads.cut (k := m) (cap := c) hm hle
  rw [Nat.mul_one, hA', cellsOf_drop] at hcut
  have i1 : (m : Int) ≤ n := by omega
  go_enter Try.func40, Try.ntmps40
  go_wp2
  go_end0
  have hne : 0 < n - m → ∀ ad, A' = some ad → ¬ (ad.block = g) := fun hn ad e => by
    rw [if_neg (by omega)] at hA'
    obtain ⟨ad0, e0, _⟩ := h.reads.2 (by omega)
    rw [← hA', e0] at e
    simp at e
    rw [← e, block_of_add]
    exact h.ne (by omega) ad0 e0
  have hch : Chg (fun k => k = g) w ((w.setCell ⟨g, 0, none⟩ (.int .i64 (p + m))).setCell ⟨g, 1, none⟩ (.slice A' (n - m) (c - m))) :=
    ((Chg.refl (fun k => k = g) w).setCell (p := ⟨g, 0, none⟩) (.inr rfl) _).setCell (p := ⟨g, 1, none⟩) (.inr rfl) _
  refine ⟨rfl, A', n - m, c - m, ⟨?_, hcut.chg hch h.low hne, Nat.le_trans h.low hch.size, by omega, by omega, hne⟩, hch⟩
  have := (h.blk.set_ 0 (.int .i64 (p + m))).set_ 1 (.slice A' (n - m) (c - m))
  simpa using this

theorem num_no (B g n c : Nat) (p v : Int) (A : Option Addr) (zs : List Int) (bad : Bool) (w : World) (h : Rd w B g p A n c zs bad) (hg : gok n 0 v = false) (hv : -9223372036854775808 ≤ v) (hv' : v ≤ 9223372036854775807) :
    Calls Try.prog 30 #[.pointer (some ⟨g, 0, none⟩), .int .i64 v] w fun e w' => e = .returned (.int .u64 0) ∧ RdPost w B g p [] true w' := by
  have c1 : w.cell? ⟨g, 1, none⟩ = some (.slice A n c) := h.blk.cell 1
  have hle := h.le
  have hcap := h.cap
  have HG := Lib.hid hg
  clear hg
  go_enter Try.func30, Try.ntmps30
  go_wp2_with (first
    | (go_at_call 38; refine (get_no A n c 0 v w HG.out (by omega) (by omega) (by omega) hv hv').mono ?_; rintro e w1 ⟨rfl, rfl⟩)
    | (go_at_call 39; refine (spoil_any B g n c p A zs bad w h).mono ?_; rintro e w1 ⟨rfl, hp1⟩))
  go_ret
  exact ⟨rfl, hp1⟩

theorem num_yes (B g n c m : Nat) (p : Int) (A : Option Addr) (zs : List Int) (bad : Bool) (w : World) (h : Rd w B g p A n c zs bad) (hz : AreB zs) (hw : isw (m : Int) = true) (hm : m ≤ n) (hp : 0 ≤ p) (hp' : p + m ≤ 4611686018427387904) :
    Calls Try.prog 30 #[.pointer (some ⟨g, 0, none⟩), .int .i64 m] w fun e w' => e = .returned (.int .u64 (lev (zs.take m))) ∧ RdPost w B g (p + m) (zs.drop m) bad w' := by
  have c1 : w.cell? ⟨g, 1, none⟩ = some (.slice A n c) := h.blk.cell 1
  have hle := h.le
  have hcap := h.cap
  have hm1 := isw_cases hw
  have hok : gok n 0 (m : Int) = true := by rw [gok_isw, hw]; simp; omega
  have hnum : gnum zs 0 (m : Int) = lev (zs.take m) := by unfold gnum; rw [h.reads.len, hok]; simp
  have G := Lib.hid (get_any A n c 0 (m : Int) zs w h.reads hz hle hcap (by omega) (by omega) (by omega) (by omega))
  rw [hok, hnum] at G
  clear hok hnum hw hm1
  go_enter Try.func30, Try.ntmps30
  go_wp2_with (first
    | (go_at_call 38; refine G.out.mono ?_; rintro e w1 ⟨rfl, rfl⟩)
    | (go_at_call 40; refine (skip_any B g n c m p A zs bad w h hm hp hp').mono ?_; rintro e w1 ⟨rfl, hp1⟩))
  go_ret
  exact ⟨rfl, hp1⟩

theorem read_no (A : Option Addr) (n c : Nat) (v : Int) (w : World) (hg : v < 0 ∨ (n : Int) < v) :
    Calls Try.prog 29 #[.slice A n c, .int .i64 v] w fun e w' => ∃ g B, e = .returned (.pointer (some ⟨g, 0, none⟩)) ∧ Rd w' B g 0 none 0 0 [] true ∧ Below w.heap.size w w' ∧ w.heap.size ≤ g := by
  rcases hg with hg | hg
  all_goals
    go_enter Try.func29, Try.ntmps29
    go_wp2
  all_goals
    go_ret
    refine ⟨w.heap.size, 0, rfl, ⟨Blk.new _ _ _, Reads.none_, Nat.zero_le _, Nat.le_refl _, by omega, fun h => absurd h (by omega)⟩, (Below.refl _ _).alloc (Nat.le_refl _) _, Nat.le_refl _⟩

theorem read_yes {B : Nat} (A : Option Addr) (n c m : Nat) (zs : List Int) (w : World) (hr : Reads w B 1 A n (cellsOf .u8 zs)) (hB : B ≤ w.heap.size) (hl : n ≤ c) (hcap : c ≤ 9223372036854775807) (hm : m ≤ n) (hn : n ≤ 140737488355328) :
    Calls Try.prog 29 #[.slice A n c, .int .i64 m] w fun e w' => ∃ g B' A' c', e = .returned (.pointer (some ⟨g, 0, none⟩)) ∧ Rd w' B' g m A' (n - m) c' (zs.drop m) false ∧ Below w.heap.size w w' ∧ w.heap.size ≤ g := by
  have i1 : (m : Int) ≤ n := by omega
  obtain ⟨A0, hA0⟩ : ∃ A0, (if c = m then A else A.map (·.add m)) = A0 := ⟨_, rfl⟩
  have hcut := hr.cut (k := m) (cap := c) hm hl
  rw [Nat.mul_one, hA0, cellsOf_drop] at hcut
  go_enter Try.func29, Try.ntmps29
  go_wp2_with (go_at_call 36; refine (clone_any A0 (n - m) _ (zs.drop m) w hcut hB (by omega)).mono ?_; rintro e w1 ⟨A1, c1, rfl, hown1, hb1, hc1, hc2⟩)
  go_ret
  refine ⟨w1.heap.size, w1.heap.size, A1, c1, rfl, ⟨Blk.new _ _ _, (Reads.of_own hown1).alloc (Nat.le_refl _) _, by simp, hc1, by unfold maxLen at hc2; omega, fun hn0 ad e => ?_⟩, hb1.alloc hb1.size _, hb1.size⟩
  obtain ⟨ad', e', hb', _⟩ := (Reads.of_own hown1).2 hn0
  rw [e] at e'; injection e' with e'
  subst e'
  omega

end Go.Proofs.Ytdajjkjpjhpnjaa
