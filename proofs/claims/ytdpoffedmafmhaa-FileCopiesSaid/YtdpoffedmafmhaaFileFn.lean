/-
  LAYER 6: WHAT New, Len, Pending, bytes.Clone AND resized DO: contracts.
-/
import Derived.Test.YtdpoffedmafmhaaFileMem
import Derived.Test.YtdpoffedmafmhaaZeros
import Derived.WalkKit
import Derived.WalkSpells
import Derived.Lib.Hide
set_option linter.unusedVariables false
set_option linter.unusedSimpArgs false
namespace Go.Proofs.Ytdpoffedmafmhaa
open Go.RowKit

theorem flen_any (p n : Nat) (A : Option Addr) (c : Nat) (w : World) (h : w.cell? ⟨p, 0, none⟩ = some (.slice A n c)) :
    Calls Try.prog 17 #[.pointer (some ⟨p, 0, none⟩)] w fun e w' => e = .returned (.int .i64 n) ∧ w = w' := by
  go_enter Try.func17, Try.ntmps17
  go_wp2
  go_ret
  exact ⟨rfl, rfl⟩
theorem flen_nil (w : World) :
    Calls Try.prog 17 #[.pointer none] w fun e w' => e = .returned (.int .i64 0) ∧ w = w' := by
  go_enter Try.func17, Try.ntmps17
  go_wp2
  go_ret
  exact ⟨rfl, rfl⟩
theorem fpend_any (p n : Nat) (A : Option Addr) (c : Nat) (w : World) (h : w.cell? ⟨p, 2, none⟩ = some (.slice A n c)) :
    Calls Try.prog 11 #[.pointer (some ⟨p, 0, none⟩)] w fun e w' => e = .returned (.int .i64 n) ∧ w = w' := by
  go_enter Try.func11, Try.ntmps11
  go_wp2
  go_ret
  exact ⟨rfl, rfl⟩
theorem fpend_nil (w : World) :
    Calls Try.prog 11 #[.pointer none] w fun e w' => e = .returned (.int .i64 0) ∧ w = w' := by
  go_enter Try.func11, Try.ntmps11
  go_wp2
  go_ret
  exact ⟨rfl, rfl⟩

/-- A new file. -/
theorem fnew_any (w : World) :
    Calls Try.prog 6 #[] w fun e w' => e = .returned (.pointer (some ⟨w.heap.size, 0, none⟩)) ∧ Hid (w' = w.alloc (.cells #[.slice none 0 0, .slice none 0 0, .slice none 0 0] 50)) := by
  go_enter Try.func6, Try.ntmps6
  go_wp2
  go_ret
  exact ⟨rfl, rfl⟩

theorem CF.new (w : World) (base : Nat) (hb : base ≤ w.heap.size) : CF (w.alloc (.cells #[.slice none 0 0, .slice none 0 0, .slice none 0 0] 50)) base (fun k => k = w.heap.size) w.heap.size FS.new (.slice none 0 0) (.slice none 0 0) (.slice none 0 0) :=
  ⟨fun k hk => by subst hk; simp; exact hb, by simp; omega, rfl, Blk.new _ _ _, World.ownsRow_nil _ _ _ _, World.ownsRow_nil _ _ _ _, World.ownsRow_nil _ _ _ _, fun g hg => by simp [Value.ownBlock] at hg, fun g hg => by simp [Value.ownBlock] at hg, fun g hg => by simp [Value.ownBlock] at hg, fun g hg => by simp [Value.ownBlock] at hg⟩

/-- An empty row of the call's own, and what is put behind it. -/
theorem below_lit {w w1 : World} {t : TypeId} {n c : Nat} (hg : (w.alloc (.cells #[] t)).grownBy w1 (Value.ownBlock (.slice (some ⟨w.heap.size, 0, none⟩) n c))) : Below w.heap.size w w1 :=
  ((Below.refl _ _).alloc (Nat.le_refl _) _).grown hg (by simp) (fun k hk => by simp [Value.ownBlock] at hk; omega)

theorem reads_nil {w : World} {B size n : Nat} {xs : List Value} (h : Reads w B size none n xs) : n = 0 := by
  rcases Nat.eq_zero_or_pos n with h0 | h0
  · exact h0
  · obtain ⟨ad, e, _⟩ := h.2 h0; cases e

/-- bytes.Clone. -/
theorem clone_any (A : Option Addr) (len cap : Nat) (zs : List Int) (B : Nat) (w : World) (hr : Reads w B 1 A len (cellsOf .u8 zs)) (hB : B ≤ w.heap.size) (hn : len ≤ 140737488355328) :
    Calls Try.prog 25 #[.slice A len cap] w (Gives zs w) := by
  obtain ⟨i0, hi, hz0, hz1, hz2⟩ := info_parts byteInfo
  have hlen := hr.len
  cases A with
  | none =>
    obtain rfl := reads_nil hr
    have hz : zs = [] := List.eq_nil_of_length_eq_zero hlen
    have hq := fun w1 : World => Lib.run_eql_slice_nil (P := Try.prog) w1 26 5 none 0 cap 0 0 Try.underlying26
    clear hr
    go_enter Try.func25, Try.ntmps25
    go_wp2
    go_ret
    subst hz
    exact ⟨none, 0, rfl, World.ownsRow_nil _ _ _ _, Below.refl _ _⟩
  | some ad =>
    have h1 : len ≤ maxLen := by unfold maxLen; omega
    have h2 : 0 + len ≤ maxLen := by omega
    have h3 : (0 + len) * 1 ≤ 140737488355328 := by omega
    have HR := Lib.hid hr
    have HL := Lib.hid hlen
    have hq := fun w1 : World => Lib.run_eql_slice_nil (P := Try.prog) w1 26 5 (some ad) len cap 0 0 Try.underlying26
    clear hr hlen
    go_enter Try.func25, Try.ntmps25
    go_wp2_with (at_builtin; refine wpList_append_any _ rfl _ _ _ rfl w.heap.size 5 i0 (.int .u8 0) 1 1 Try.underlying26 hi hz0 hz1 hz2 rfl (Nat.lt_succ_self 0) _ 0 [] rfl (World.ownsRow_lit w #[] 0 (Nat.le_refl _) (Nat.zero_le _) rfl) B (some ad) len cap (cellsOf .u8 zs) rfl (HR.out.alloc hB _) (cellsOf_one _ _) h2 h3 (by simp) ?_; intro v1 w1 hown1 hg1 hat1; rw [Nat.zero_add, List.nil_append] at hown1; obtain ⟨A1, c1, rfl, hc1, hc2⟩ := own_form hown1; have hb1 := below_lit hg1; clear hg1 hat1)
    go_ret
    rw [← HL.out] at hown1 ⊢
    exact ⟨A1, c1, rfl, hown1, hb1⟩

/-- A row with nothing more. -/
theorem run_append_zero0 {P : Program} (w : World) (base : Nat) (t tn ty e : TypeId) (i : TypeInfo) (z : Value) (kq kn : IntKind) (ht : P.underlying t = some (.slice e)) (htn : P.underlying tn = some (.int kn)) (hi : P.info? e = some i) (hz : i.zero = some z)
    (v : Value) (n size : Nat) (xs : List Value) (hown : w.ownsRow base e size v n xs) : (Builtin.append_ #[t, tn] ty #[v, .int kq 0]).run P w = .ok v w := by
  obtain ⟨A, c, rfl, hc1, hc2⟩ := own_form hown
  have hw : IntKind.i64.wrap (0 : Int) = 0 := rfl
  simp [Builtin.append_, run_underlying ht, run_underlying htn, sizeOf, typeInfo, zeroValue, hi, hz, asInt, asIntOf, hw]
  rw [if_pos hc1]
  cases A <;> simp [storeCells]

end Go.Proofs.Ytdpoffedmafmhaa
