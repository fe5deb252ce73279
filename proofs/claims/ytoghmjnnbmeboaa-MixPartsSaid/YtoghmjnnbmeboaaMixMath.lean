/-
  PLAIN ARITHMETIC FOR LAYER 2, of no program: what a word makes of a sum, the sum of bytes by a key, and how the state of a sum in the making goes on.
-/
import Derived.Test.YtoghmjnnbmeboaaLeMath
import Derived.Laws.BitsAllLaws
set_option linter.unusedVariables false
namespace Go.Proofs.Ytoghmjnnbmeboaa

/-- h turned left by 29. -/
def rot29 (x : Int) : Int := bits .or .u64 (IntKind.u64.wrap (x * 536870912)) (x / 34359738368)
/-- What a word makes of a sum: the sum times, before the last step. -/
def stirA (h w : Int) : Int := bits .xor .u64 h (IntKind.u64.wrap (w * 14029467366897019727))
def stirB (x : Int) : Int := IntKind.u64.wrap (x * 11400714819323198485)
def stirC (x : Int) : Int := bits .xor .u64 x (x / 4294967296)
/-- What a word makes of a sum. -/
def stir (h w : Int) : Int := stirC (stirB (rot29 (stirA h w)))

/-- A sum's beginning. -/
def sum0 (key : Int) : Int := bits .xor .u64 key 11400714819323198485

/-- The sum behind k words of eight bytes. -/
def hst (key : Int) (zs : List Int) : Nat → Int
  | 0 => sum0 key
  | k + 1 => stir (hst key zs k) (lev ((zs.drop (8 * k)).take 8))

/-- What has not stirred the sum yet. -/
def rest8 (zs : List Int) : List Int := zs.drop (8 * (zs.length / 8))

/-- The sum of bytes by a key. -/
def hsh (key : Int) (zs : List Int) : Int := stir (stir (hst key zs (zs.length / 8)) (lev (rest8 zs))) zs.length

def IsU (x : Int) : Prop := 0 ≤ x ∧ x < 18446744073709551616

theorem wrap_isU (x : Int) : IsU (IntKind.u64.wrap x) := by rw [IntKind.wrap_u64]; unfold IsU; omega
theorem bits_isU (o : BinOp) (ho : o = .xor ∨ o = .or) (x y : Int) : IsU (bits o .u64 x y) := by
  rcases ho with rfl | rfl <;> exact wrap_isU _
theorem stirA_isU (h w : Int) : IsU (stirA h w) := bits_isU _ (.inl rfl) _ _
theorem rot29_isU (x : Int) : IsU (rot29 x) := bits_isU _ (.inr rfl) _ _
theorem stirB_isU (x : Int) : IsU (stirB x) := wrap_isU _
theorem stirC_isU (x : Int) : IsU (stirC x) := bits_isU _ (.inl rfl) _ _
theorem stir_isU (h w : Int) : IsU (stir h w) := stirC_isU _
theorem sum0_isU (k : Int) : IsU (sum0 k) := bits_isU _ (.inl rfl) _ _
theorem hst_isU (key : Int) (zs : List Int) : ∀ k, IsU (hst key zs k)
  | 0 => sum0_isU _
  | k + 1 => stir_isU _ _

theorem lev_zeros : ∀ n : Nat, lev (List.replicate n 0) = 0
  | 0 => rfl
  | n + 1 => by rw [List.replicate_succ, lev, lev_zeros n]; rfl
theorem lev_pad (l : List Int) (n : Nat) : lev (l ++ List.replicate n 0) = lev l := by rw [lev_append, lev_zeros]; simp

theorem hst_append (key : Int) (zs ys : List Int) : ∀ k, 8 * k ≤ zs.length → hst key (zs ++ ys) k = hst key zs k
  | 0, _ => rfl
  | k + 1, h => by
    rw [hst, hst, hst_append key zs ys k (by omega)]
    congr 2
    rw [List.drop_append_of_le_length (by omega), List.take_append_of_le_length (by rw [List.length_drop]; omega)]

theorem rest8_length (zs : List Int) : (rest8 zs).length = zs.length % 8 := by unfold rest8; rw [List.length_drop]; omega
theorem rest8_bytes {zs : List Int} (h : AreB zs) : AreB (rest8 zs) := h.drop _

/-- What is added, and does not fill the word. -/
theorem rest8_less {zs ys : List Int} (h : zs.length % 8 + ys.length < 8) : rest8 (zs ++ ys) = rest8 zs ++ ys ∧ (zs ++ ys).length / 8 = zs.length / 8 := by
  have e : (zs ++ ys).length / 8 = zs.length / 8 := by rw [List.length_append]; omega
  refine ⟨?_, e⟩
  unfold rest8
  rw [e, List.drop_append_of_le_length (by omega)]

/-- What is added, and fills the word. -/
theorem rest8_full {zs ys : List Int} (h : zs.length % 8 + ys.length = 8) (key : Int) :
    rest8 (zs ++ ys) = [] ∧ (zs ++ ys).length / 8 = zs.length / 8 + 1 ∧ hst key (zs ++ ys) (zs.length / 8 + 1) = stir (hst key zs (zs.length / 8)) (lev (rest8 zs ++ ys)) := by
  have e : (zs ++ ys).length / 8 = zs.length / 8 + 1 := by rw [List.length_append]; omega
  refine ⟨?_, e, ?_⟩
  · unfold rest8
    rw [e, List.drop_eq_nil_of_le (by rw [List.length_append]; omega)]
  · rw [hst, hst_append key zs ys _ (by omega)]
    congr 2
    rw [List.drop_append_of_le_length (by omega), List.take_of_length_le (by rw [List.length_append, List.length_drop]; omega)]
    rfl

end Go.Proofs.Ytoghmjnnbmeboaa
