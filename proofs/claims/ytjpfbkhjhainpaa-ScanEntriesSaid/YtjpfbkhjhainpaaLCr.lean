/-
  MERGED BY PROGRAM out of the texts CrcMath CrcFn.
-/
import Derived.Test.YtjpfbkhjhainpaaChecked
import Derived.Test.YtjpfbkhjhainpaaLGa
import Derived.Laws.BitsAllLaws
import Derived.Outline
/-
  PLAIN ARITHMETIC FOR LAYER 3, of no program: CRC-32 bit by bit, and that a table of its 256 rows tells the same.
-/
set_option linter.unusedVariables false
set_option maxRecDepth 100000
namespace Go.Proofs.Ytjpfbkhjhainpaa

/-- One bit on. -/
def crcBit (n : Nat) : Nat := if n % 2 = 1 then (n / 2) ^^^ 3988292384 else n / 2
/-- k bits on. -/
def crcN : Nat → Nat → Nat
  | 0, n => n
  | k + 1, n => crcN k (crcBit n)
/-- The state behind some bytes. -/
def crcIn (c : Nat) : List Int → Nat
  | [] => c
  | x :: xs => crcIn (crcN 8 (c ^^^ x.toNat)) xs
/-- A sum gone on with. -/
def crcAdd (sum : Nat) (zs : List Int) : Nat := (crcIn (sum ^^^ 4294967295) zs) ^^^ 4294967295

theorem crcBit_lt {n : Nat} (h : n < 4294967296) : crcBit n < 4294967296 := by
  unfold crcBit
  split
  · exact Nat.xor_lt_two_pow (n := 32) (by omega) (by omega)
  · omega
theorem crcN_lt : ∀ (k : Nat) {n : Nat}, n < 4294967296 → crcN k n < 4294967296
  | 0, _, h => h
  | k + 1, _, h => crcN_lt k (crcBit_lt h)
theorem crcN_succ : ∀ (k n : Nat), crcN (k + 1) n = crcBit (crcN k n)
  | 0, _ => rfl
  | k + 1, n => by rw [crcN, crcN_succ k]; rfl
theorem xor_lt32 {a b : Nat} (ha : a < 4294967296) (hb : b < 4294967296) : a ^^^ b < 4294967296 := Nat.xor_lt_two_pow (n := 32) ha hb
theorem crcIn_lt : ∀ (zs : List Int) {c : Nat}, c < 4294967296 → (∀ z ∈ zs, 0 ≤ z ∧ z < 256) → crcIn c zs < 4294967296
  | [], _, h, _ => h
  | x :: xs, c, h, hz => by
    have hx := hz x (by simp)
    exact crcIn_lt xs (crcN_lt 8 (xor_lt32 h (by omega))) (fun z hm => hz z (by simp [hm]))
theorem crcIn_append : ∀ (a b : List Int) (c : Nat), crcIn c (a ++ b) = crcIn (crcIn c a) b
  | [], _, _ => rfl
  | x :: xs, b, c => crcIn_append xs b _
theorem crcIn_step {zs : List Int} {c k : Nat} (hk : k < zs.length) : crcIn c (zs.take (k + 1)) = crcN 8 (crcIn c (zs.take k) ^^^ (zs.getD k 0).toNat) := by
  rw [List.take_succ_eq_append_getElem hk, crcIn_append, List.getD_eq_getElem?_getD, List.getElem?_eq_getElem hk]
  rfl

theorem xor_half (a b : Nat) : (a ^^^ b) / 2 = (a / 2) ^^^ (b / 2) := by
  have h := Nat.shiftRight_xor_distrib (a := a) (b := b) (i := 1)
  simpa [Nat.shiftRight_eq_div_pow] using h
theorem xor_odd (a b : Nat) : (a ^^^ b) % 2 = (a + b) % 2 := by
  have h := Nat.xor_mod_two_pow (a := a) (b := b) (n := 1)
  rw [show (2 : Nat) ^ 1 = 2 by rfl] at h
  rw [h]
  rcases Nat.mod_two_eq_zero_or_one a with ha | ha <;> rcases Nat.mod_two_eq_zero_or_one b with hb | hb <;> rw [ha, hb] <;> simp <;> omega

/-- A bit's way is linear. -/
theorem crcBit_xor (a b : Nat) : crcBit (a ^^^ b) = crcBit a ^^^ crcBit b := by
  have h1 := xor_odd a b
  have h2 := xor_half a b
  have hx : (3988292384 : Nat) ^^^ 3988292384 = 0 := Nat.xor_self _
  unfold crcBit
  rcases Nat.mod_two_eq_zero_or_one a with ha | ha <;> rcases Nat.mod_two_eq_zero_or_one b with hb | hb
  · rw [if_neg (by omega), if_neg (by omega), if_neg (by omega), h2]
  · rw [if_pos (by omega), if_neg (by omega), if_pos (by omega), h2, Nat.xor_assoc]
  · rw [if_pos (by omega), if_pos (by omega), if_neg (by omega), h2, Nat.xor_assoc, Nat.xor_assoc, Nat.xor_comm (b / 2)]
  · rw [if_neg (by omega), if_pos (by omega), if_pos (by omega), h2]
    rw [Nat.xor_assoc, Nat.xor_comm 3988292384 _, Nat.xor_assoc, hx, Nat.xor_zero]
theorem crcN_xor : ∀ (k a b : Nat), crcN k (a ^^^ b) = crcN k a ^^^ crcN k b
  | 0, _, _ => rfl
  | k + 1, a, b => by rw [crcN, crcBit_xor, crcN_xor k]; rfl
/-- Zeros at the end go out as they are. -/
theorem crcN_pow : ∀ (k n : Nat), crcN k (2 ^ k * n) = n
  | 0, n => by show 2 ^ 0 * n = n; omega
  | k + 1, n => by
    have e : 2 ^ (k + 1) * n = 2 * (2 ^ k * n) := by rw [Nat.pow_succ, Nat.mul_comm (2 ^ k) 2, Nat.mul_assoc]
    have h : crcBit (2 ^ (k + 1) * n) = 2 ^ k * n := by
      unfold crcBit
      rw [e, if_neg (by omega)]
      omega
    rw [crcN, h, crcN_pow k]
theorem split256 (n : Nat) : n = (n % 256) ^^^ (2 ^ 8 * (n / 256)) := by
  have h : (2 ^ 8 * (n / 256)) ||| (n % 256) = 2 ^ 8 * (n / 256) + n % 256 := (Nat.two_pow_add_eq_or_of_lt (Nat.mod_lt _ (by omega)) (n / 256)).symm
  have h2 : (2 ^ 8 * (n / 256)) &&& (n % 256) = 0 := by
    apply Nat.eq_of_testBit_eq
    intro i
    rw [Nat.testBit_and, Nat.zero_testBit, Nat.testBit_two_pow_mul]
    by_cases hi : 8 ≤ i
    · have : (n % 256).testBit i = false := Nat.testBit_lt_two_pow (Nat.lt_of_lt_of_le (Nat.mod_lt _ (by omega)) (Nat.pow_le_pow_right (n := 2) (by omega) hi))
      simp [this]
    · simp [hi]
  apply Nat.eq_of_testBit_eq
  intro i
  have h3 := congrArg (fun m => m.testBit i) h
  have h4 := congrArg (fun m => m.testBit i) h2
  simp only [Nat.testBit_or, Nat.testBit_and, Nat.testBit_xor, Nat.zero_testBit] at h3 h4 ⊢
  have e : 2 ^ 8 * (n / 256) + n % 256 = n := by omega
  rw [e] at h3
  revert h3 h4
  cases (2 ^ 8 * (n / 256)).testBit i <;> cases (n % 256).testBit i <;> simp <;> intro h <;> simp [h]
theorem xor_mod256 (c x : Nat) (hx : x < 256) : (c ^^^ x) % 256 = (c % 256) ^^^ x := by
  have := Nat.xor_mod_two_pow (a := c) (b := x) (n := 8)
  rw [show (2 : Nat) ^ 8 = 256 by rfl, Nat.mod_eq_of_lt hx] at this
  exact this
theorem xor_div256 (c x : Nat) (hx : x < 256) : (c ^^^ x) / 256 = c / 256 := by
  have := Nat.shiftRight_xor_distrib (a := c) (b := x) (i := 8)
  rw [Nat.shiftRight_eq_div_pow, Nat.shiftRight_eq_div_pow, Nat.shiftRight_eq_div_pow, show (2 : Nat) ^ 8 = 256 by rfl, Nat.div_eq_of_lt hx, Nat.xor_zero] at this
  exact this

/-- What a byte does, by its row of the table. -/
theorem crc_row (c x : Nat) (hx : x < 256) : crcN 8 ((c % 256) ^^^ x) ^^^ (c / 256) = crcN 8 (c ^^^ x) := by
  have h := split256 (c ^^^ x)
  rw [xor_mod256 c x hx, xor_div256 c x hx] at h
  rw [h, crcN_xor 8 (c % 256 ^^^ x), crcN_pow 8]

/-- The rows of the table. -/
def crcRows : List Value := (List.range 256).map fun i => .int .u32 (crcN 8 i : Nat)
theorem crcRows_length : crcRows.length = 256 := by simp [crcRows]
theorem crcRows_get {i : Nat} (h : i < 256) : crcRows[i]? = some (.int .u32 (crcN 8 i : Nat)) := by
  simp [crcRows, h]

theorem crcAdd_append (a b : List Int) (s : Nat) (hs : s < 4294967296) (ha : ∀ z ∈ a, 0 ≤ z ∧ z < 256) : crcAdd s (a ++ b) = crcAdd (crcAdd s a) b := by
  have h : ∀ x : Nat, (x ^^^ 4294967295) ^^^ 4294967295 = x := fun x => by rw [Nat.xor_assoc, Nat.xor_self, Nat.xor_zero]
  unfold crcAdd
  rw [crcIn_append, h]

theorem crcAdd_lt {s : Nat} {zs : List Int} (hs : s < 4294967296) (hz : ∀ z ∈ zs, 0 ≤ z ∧ z < 256) : crcAdd s zs < 4294967296 := xor_lt32 (crcIn_lt zs (xor_lt32 hs (by omega)) hz) (by omega)

end Go.Proofs.Ytjpfbkhjhainpaa

/-
  WHAT THE FUNCTIONS OF PACKAGE crc ON NUMBERS DO, AND THE DOCUMENT'S OWN ANSWERS: contracts, for every input.
-/
set_option linter.unusedVariables false
set_option maxRecDepth 100000
set_option linter.unusedSimpArgs false
namespace Go.Proofs.Ytjpfbkhjhainpaa
open Go.RowKit

theorem and1 {n : Nat} (h : n < 4294967296) : bits .and .u32 (n : Int) 1 = ((n % 2 : Nat) : Int) := by
  have := u32_and_nat n 1 h (by omega)
  rw [Nat.and_one_is_mod] at this
  exact this
theorem xorPoly {n : Nat} (h : n < 4294967296) : bits .xor .u32 ((n : Int) / 2) 3988292384 = ((n / 2 ^^^ 3988292384 : Nat) : Int) := by
  have := u32_xor_nat (n / 2) 3988292384 (by omega) (by omega)
  rw [← this]
  rfl
theorem xorAll {n : Nat} (h : n < 4294967296) : bits .xor .u32 (n : Int) 4294967295 = ((n ^^^ 4294967295 : Nat) : Int) := u32_xor_nat n 4294967295 h (by omega)
theorem notAll {n : Nat} (h : n < 4294967296) : bits .xor .u32 IntKind.u32.max (n : Int) = ((n ^^^ 4294967295 : Nat) : Int) := by
  rw [show IntKind.u32.max = 4294967295 by decide]
  have := u32_xor_nat 4294967295 n (by omega) h
  rw [Nat.xor_comm] at this
  exact this

/-- The table in the making: its first k rows are there. -/
def crcPart (k : Nat) : List Value := crcRows.take k ++ List.replicate (256 - k) (.int .u32 0)
theorem crcPart_set {k : Nat} (hk : k < 256) : (crcPart k).toArray.setIfInBounds k (.int .u32 (crcN 8 k : Nat)) = (crcPart (k + 1)).toArray := by
  have hl := crcRows_length
  have e : (crcRows.take k).length = k := by rw [List.length_take]; omega
  unfold crcPart
  rw [List.setIfInBounds_toArray, List.set_append_right _ _ (by omega), e, Nat.sub_self, show 256 - k = (256 - (k + 1)) + 1 by omega, List.replicate_succ, List.set_cons_zero,
    List.take_succ_eq_append_getElem (by omega), List.append_assoc]
  congr 3
  have := crcRows_get hk
  rw [List.getElem?_eq_getElem (by omega)] at this
  injection this with this
  rw [this]

theorem crcPart0 : crcPart 0 = List.replicate 256 (.int .u32 0) := by unfold crcPart; rw [List.take_zero, List.nil_append, Nat.sub_zero]
theorem crcPart256 : crcPart 256 = crcRows := by
  unfold crcPart
  rw [List.take_of_length_le (Nat.le_of_eq crcRows_length), Nat.sub_self, List.replicate_zero, List.append_nil]
def crcZero : Array Value := Array.replicate 256 (.int .u32 0)
theorem crcZero_part : crcZero = (crcPart 0).toArray := by rw [crcPart0]; rw [List.toArray_replicate]; rfl
theorem crcAdd_def (s : Nat) (zs : List Int) : crcAdd s zs = (crcIn (s ^^^ 4294967295) zs) ^^^ 4294967295 := rfl

end Go.Proofs.Ytjpfbkhjhainpaa
