/-
  MERGED BY PROGRAM out of the texts MixMath MixFn MixSum MixAdd MixLaw.
-/
import Derived.Test.YtjpfbkhjhainpaaLGa
import Derived.Test.YtjpfbkhjhainpaaLLe
import Derived.Laws.BitsAllLaws
import Derived.Outline
import Derived.BigQuiet
import Derived.Deep.QuietTactic
import Derived.Laws.CopyOwn
import Derived.Deep.Draws
import Derived.Deep.RegionLaw
import Derived.StillTailTactics
/-
  PLAIN ARITHMETIC FOR LAYER 2, of no program: what a word makes of a sum, the sum of bytes by a key, and how the state of a sum in the making goes on.
-/
set_option linter.unusedVariables false
set_option maxRecDepth 100000
namespace Go.Proofs.Ytjpfbkhjhainpaa

/-- h turned left by 29. -/
def rot29 (x : Int) : Int := bits .or .u64 (IntKind.u64.wrap (x * 536870912)) (x / 34359738368)
/-- What a word makes of a sum: the sum times, before the last step. -/
def stirA (h w : Int) : Int := bits .xor .u64 h (IntKind.u64.wrap (w * 14029467366897019727))
def stirB (x : Int) : Int := IntKind.u64.wrap (x * 11400714819323198485)
def stirC (x : Int) : Int := bits .xor .u64 x (x / 4294967296)
/-- What a word makes of a sum. -/
def stir (h w : Int) : Int := stirC (stirB (rot29 (stirA h w)))

/-- A sum's beginning. -/
def sum0 (key : Int) : Int := bits .xor .u64 key 11400714819323198485

/-- The sum behind k words of eight bytes. -/
def hst (key : Int) (zs : List Int) : Nat → Int
  | 0 => sum0 key
  | k + 1 => stir (hst key zs k) (lev ((zs.drop (8 * k)).take 8))

/-- What has not stirred the sum yet. -/
def rest8 (zs : List Int) : List Int := zs.drop (8 * (zs.length / 8))

/-- The sum of bytes by a key. -/
def hsh (key : Int) (zs : List Int) : Int := stir (stir (hst key zs (zs.length / 8)) (lev (rest8 zs))) zs.length

def IsU (x : Int) : Prop := 0 ≤ x ∧ x < 18446744073709551616

theorem wrap_isU (x : Int) : IsU (IntKind.u64.wrap x) := by rw [IntKind.wrap_u64]; unfold IsU; omega
theorem bits_isU (o : BinOp) (ho : o = .xor ∨ o = .or) (x y : Int) : IsU (bits o .u64 x y) := by
  rcases ho with rfl | rfl <;> exact wrap_isU _
theorem stirA_isU (h w : Int) : IsU (stirA h w) := bits_isU _ (.inl rfl) _ _
theorem rot29_isU (x : Int) : IsU (rot29 x) := bits_isU _ (.inr rfl) _ _
theorem stirB_isU (x : Int) : IsU (stirB x) := wrap_isU _
theorem stirC_isU (x : Int) : IsU (stirC x) := bits_isU _ (.inl rfl) _ _
theorem stir_isU (h w : Int) : IsU (stir h w) := stirC_isU _
theorem sum0_isU (k : Int) : IsU (sum0 k) := bits_isU _ (.inl rfl) _ _
theorem hst_isU (key : Int) (zs : List Int) : ∀ k, IsU (hst key zs k)
  | 0 => sum0_isU _
  | k + 1 => stir_isU _ _

theorem lev_zeros : ∀ n : Nat, lev (List.replicate n 0) = 0
  | 0 => rfl
  | n + 1 => by rw [List.replicate_succ, lev, lev_zeros n]; rfl
theorem lev_pad (l : List Int) (n : Nat) : lev (l ++ List.replicate n 0) = lev l := by rw [lev_append, lev_zeros]; simp

theorem hst_append (key : Int) (zs ys : List Int) : ∀ k, 8 * k ≤ zs.length → hst key (zs ++ ys) k = hst key zs k
  | 0, _ => rfl
  | k + 1, h => by
    rw [hst, hst, hst_append key zs ys k (by omega)]
    congr 2
    rw [List.drop_append_of_le_length (by omega), List.take_append_of_le_length (by rw [List.length_drop]; omega)]

theorem rest8_length (zs : List Int) : (rest8 zs).length = zs.length % 8 := by unfold rest8; rw [List.length_drop]; omega
theorem rest8_bytes {zs : List Int} (h : AreB zs) : AreB (rest8 zs) := h.drop _

/-- What is added, and does not fill the word. -/
theorem rest8_less {zs ys : List Int} (h : zs.length % 8 + ys.length < 8) : rest8 (zs ++ ys) = rest8 zs ++ ys ∧ (zs ++ ys).length / 8 = zs.length / 8 := by
  have e : (zs ++ ys).length / 8 = zs.length / 8 := by rw [List.length_append]; omega
  refine ⟨?_, e⟩
  unfold rest8
  rw [e, List.drop_append_of_le_length (by omega)]

/-- What is added, and fills the word. -/
theorem rest8_full {zs ys : List Int} (h : zs.length % 8 + ys.length = 8) (key : Int) :
    rest8 (zs ++ ys) = [] ∧ (zs ++ ys).length / 8 = zs.length / 8 + 1 ∧ hst key (zs ++ ys) (zs.length / 8 + 1) = stir (hst key zs (zs.length / 8)) (lev (rest8 zs ++ ys)) := by
  have e : (zs ++ ys).length / 8 = zs.length / 8 + 1 := by rw [List.length_append]; omega
  refine ⟨?_, e, ?_⟩
  · unfold rest8
    rw [e, List.drop_eq_nil_of_le (by rw [List.length_append]; omega)]
  · rw [hst, hst_append key zs ys _ (by omega)]
    congr 2
    rw [List.drop_append_of_le_length (by omega), List.take_of_length_le (by rw [List.length_append, List.length_drop]; omega)]
    rfl

end Go.Proofs.Ytjpfbkhjhainpaa

/-
  WHAT THE FUNCTIONS OF PACKAGE mix ON NUMBERS DO (stir, Bucket), AND THE DOCUMENT'S OWN ANSWERS: contracts, for every input.
-/
set_option linter.unusedVariables false
set_option maxRecDepth 100000
namespace Go.Proofs.Ytjpfbkhjhainpaa
open Go.RowKit

theorem quo32 {y : Int} (h : IsU y) : IntKind.u64.wrap (y.tdiv 4294967296) = y / 4294967296 := by
  obtain ⟨h0, h1⟩ := h
  rw [IntKind.wrap_u64, Int.tdiv_eq_ediv_of_nonneg h0]; omega

/-- What is left of h by n; 0, if n is below 1. -/
def bucket (h n : Int) : Int := if n < 1 then 0 else h % n

end Go.Proofs.Ytjpfbkhjhainpaa

/-
  A SUM IN THE MAKING, AS ITS CELLS LIE: and the contracts of New, word, Value.
-/
set_option linter.unusedVariables false
set_option maxRecDepth 100000
set_option linter.unusedSimpArgs false
namespace Go.Proofs.Ytjpfbkhjhainpaa
open Go.RowKit

theorem quiet_eq {P : Program} {f : FuncId} {args : Array Value} {w : World} {n : Nat} {v : Value}
    (h : Calls P f args (w.drewN n) fun e w' => e = .returned v ∧ w.drewN n = w') : Calls P f args (w.drewN n) fun e w'' => e = .returned v ∧ ∃ m, w'' = w.drewN m :=
  h.mono fun _ _ ⟨he, hm⟩ => ⟨he, n, hm.symm⟩

/-- The ten cells of a sum: what it is so far, eight bytes, how many have come in. -/
def smc (h : Int) (left : List Int) (n : Int) : List Value := .int .u64 h :: (cellsOf .u8 left ++ [.int .i64 n])

theorem smc_0 (h : Int) (left : List Int) (n : Int) : (smc h left n)[0]? = some (.int .u64 h) := rfl
theorem smc_length (h : Int) (left : List Int) (n : Int) : (smc h left n).length = left.length + 2 := by simp [smc, cellsOf_length]
theorem smc_9 (h : Int) (left : List Int) (n : Int) (h8 : left.length = 8) : (smc h left n)[9]? = some (.int .i64 n) := by
  unfold smc
  rw [List.getElem?_cons_succ, List.getElem?_append_right (by rw [cellsOf_length]; omega), cellsOf_length, h8]
  rfl
theorem smc_left (h : Int) (left : List Int) (n : Int) (j : Nat) (u : Value) (hj : (cellsOf .u8 left)[j]? = some u) : (smc h left n)[1 + j]? = some u := by
  have hl := (List.getElem?_eq_some_iff.1 hj).1
  unfold smc
  rw [Nat.add_comm, List.getElem?_cons_succ, List.getElem?_append_left hl, hj]
theorem smc_set0 (h h' : Int) (left : List Int) (n : Int) : (smc h left n).toArray.setIfInBounds 0 (.int .u64 h') = (smc h' left n).toArray := by
  simp [smc]
theorem smc_set9 (h : Int) (left : List Int) (n n' : Int) (h8 : left.length = 8) : (smc h left n).toArray.setIfInBounds 9 (.int .i64 n') = (smc h left n').toArray := by
  have hc : (cellsOf .u8 left).length = 8 := by rw [cellsOf_length, h8]
  simp only [smc, List.setIfInBounds_toArray, List.set_cons_succ]
  rw [List.set_append_right _ _ (by omega), hc]
  rfl
theorem smc_splice (h : Int) (left ys : List Int) (n : Int) (k : Nat) (h8 : left.length = 8) (hk : k + ys.length ≤ 8) :
    splice (smc h left n) (1 + k) (cellsOf .u8 ys) = smc h (splice left k ys) n := by
  have hc : (cellsOf .u8 left).length = 8 := by rw [cellsOf_length, h8]
  have hy : (cellsOf .u8 ys).length = ys.length := cellsOf_length _ _
  unfold splice smc
  rw [show 1 + k = k + 1 by omega, List.take_succ_cons, show k + 1 + (cellsOf .u8 ys).length = (k + (cellsOf .u8 ys).length) + 1 by omega, List.drop_succ_cons,
    List.take_append_of_le_length (by omega), List.drop_append_of_le_length (by omega), hy]
  simp [cellsOf]

theorem left_length (zs : List Int) : (rest8 zs ++ List.replicate (8 - zs.length % 8) 0).length = 8 := by
  rw [List.length_append, rest8_length, List.length_replicate]; omega
theorem left_bytes {zs : List Int} (h : AreB zs) : AreB (rest8 zs ++ List.replicate (8 - zs.length % 8) 0) := (rest8_bytes h).append (AreB.zeros _)

theorem lev_isU {l : List Int} (h : AreB l) (h8 : l.length ≤ 8) : IsU (lev l) := by
  have h1 := lev_bound l h
  have h2 := pow256_le l.length h8
  exact ⟨h1.1, by omega⟩

end Go.Proofs.Ytjpfbkhjhainpaa

/-
  WHAT Add OF A SUM IN THE MAKING DOES: it takes all bytes in, one behind the other.
-/
set_option linter.unusedVariables false
set_option maxRecDepth 100000
set_option linter.unusedSimpArgs false
namespace Go.Proofs.Ytjpfbkhjhainpaa
open Go.RowKit

theorem splice_all (l z : List Int) (h : l.length ≤ z.length) : splice l 0 z = z := by
  unfold splice
  rw [List.drop_eq_nil_of_le (by omega)]
  simp

theorem splice_rest {xs ys : List Int} (h : xs.length % 8 + ys.length ≤ 8) :
    splice (rest8 xs ++ List.replicate (8 - xs.length % 8) 0) (xs.length % 8) ys = rest8 xs ++ ys ++ List.replicate (8 - xs.length % 8 - ys.length) 0 := by
  have hr := rest8_length xs
  unfold splice
  rw [List.take_append_of_le_length (by omega), List.take_of_length_le (by omega), List.drop_append, List.drop_eq_nil_of_le (by omega), List.drop_replicate, hr]
  simp only [List.nil_append, List.append_assoc]
  congr 3
  omega

/-- A slice's length. -/
def slen : Value → Nat
  | .slice _ n _ => n
  | _ => 0

theorem byteOne : (Try.prog.info? 5).map (·.size) = some 1 := by kernel_rfl

end Go.Proofs.Ytjpfbkhjhainpaa

/-
  LAYER 2: what Hash does, the chapter's example (awake), and the walks of MixHashes and MixBuckets.
-/
set_option linter.unusedVariables false
set_option maxRecDepth 100000
set_option linter.unusedSimpArgs false
namespace Go.Proofs.Ytjpfbkhjhainpaa
open Go.RowKit

theorem Sm.chg_self {w w' : World} {g : Nat} (hc : Chg (fun k => k = g) w w') {B : Nat} (hB : B ≤ w.heap.size) (hg : B ≤ g) : Below B w w' := hc.below hB (fun k _ e => by omega)

theorem bytesOk (l : List Int) (h : ∀ z ∈ l, decide (0 ≤ z ∧ z < 256) = true) : AreB l := fun z hz => by simpa using h z hz

end Go.Proofs.Ytjpfbkhjhainpaa
