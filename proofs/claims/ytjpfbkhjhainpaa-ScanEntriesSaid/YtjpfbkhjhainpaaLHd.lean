/-
  MERGED BY PROGRAM out of the texts HeadMath HeadFn HeadEnc HeadEncR.
-/
import Derived.Test.YtjpfbkhjhainpaaLLe
import Derived.Test.YtjpfbkhjhainpaaLCr
import Derived.Test.YtjpfbkhjhainpaaChecked
import Derived.Deep.RegionHeld3
import Derived.Lib.SmallJoins
/-
  PLAIN ARITHMETIC FOR LAYER 10, of no program but by its imports: a header's bytes, and the header that bytes begin with.
-/
set_option linter.unusedVariables false
set_option maxRecDepth 100000
set_option linter.unusedSimpArgs false
namespace Go.Proofs.Ytjpfbkhjhainpaa

/-- How a file begins. -/
def magicB : List Int := [76, 79, 71, 66, 79, 79, 75, 49]
/-- May a header have so many buckets? -/
def rightH (d f : Int) : Bool := decide (1 ≤ d) && decide (d ≤ 256) && decide (1 ≤ f) && decide (f ≤ 256)
/-- A header's bytes, ahead of its sum. -/
def wordsH (i k d f m : Int) : List Int := magicB ++ wordsB [i, k, d, f, m]
/-- A header's bytes. -/
def encH (i k d f m : Int) : List Int := wordsH i k d f m ++ bts (crcAdd 0 (wordsH i k d f m) : Nat) 4 ++ List.replicate 12 0

theorem magicB_bytes : AreB magicB := fun z hz => by simp [magicB] at hz; omega
theorem wordsH_length (i k d f m : Int) : (wordsH i k d f m).length = 48 := by unfold wordsH; rw [List.length_append, wordsB_length]; rfl
theorem wordsH_bytes (i k d f m : Int) : AreB (wordsH i k d f m) := magicB_bytes.append (wordsB_bytes _)
theorem encH_length (i k d f m : Int) : (encH i k d f m).length = 64 := by
  unfold encH; rw [List.length_append, List.length_append, wordsH_length, bts_length, List.length_replicate]; rfl
theorem encH_bytes (i k d f m : Int) : AreB (encH i k d f m) := ((wordsH_bytes _ _ _ _ _).append (bts_bytes _ _)).append (AreB.zeros _)

theorem lev8_bts {n : Int} (h : 0 ≤ n ∧ n < 18446744073709551616) : lev (bts n 8) = n := lev_enb 8 n h.1 (by
  have : (256 : Int) ^ 8 = 18446744073709551616 := by decide
  omega)

/-- The five words of what begins with a header. -/
theorem encH_word (i k d f m : Int) (r : List Int) (j : Nat) (hj : j < 5) : (((encH i k d f m ++ r).drop (8 + 8 * j)).take 8) = bts ([i, k, d, f, m].getD j 0) 8 := by
  have l8 : ∀ n : Int, (bts n 8).length = 8 := fun n => by rw [bts_length]; rfl
  have e : encH i k d f m ++ r = magicB ++ (bts i 8 ++ (bts k 8 ++ (bts d 8 ++ (bts f 8 ++ (bts m 8 ++ (bts (crcAdd 0 (wordsH i k d f m) : Nat) 4 ++ (List.replicate 12 0 ++ r))))))) := by
    unfold encH wordsH
    simp [wordsB, List.append_assoc]
  rw [e, ← List.drop_drop, List.drop_left' (show magicB.length = 8 from rfl)]
  match j, hj with
  | 0, _ => exact List.take_left' (l8 _)
  | 1, _ => rw [show 8 * 1 = 8 from rfl, List.drop_left' (l8 _)]; exact List.take_left' (l8 _)
  | 2, _ => rw [show 8 * 2 = 8 + 8 from rfl, ← List.drop_drop, List.drop_left' (l8 _), List.drop_left' (l8 _)]; exact List.take_left' (l8 _)
  | 3, _ => rw [show 8 * 3 = 8 + 8 + 8 from rfl, ← List.drop_drop, ← List.drop_drop, List.drop_left' (l8 _), List.drop_left' (l8 _), List.drop_left' (l8 _)]; exact List.take_left' (l8 _)
  | 4, _ => rw [show 8 * 4 = 8 + 8 + 8 + 8 from rfl, ← List.drop_drop, ← List.drop_drop, ← List.drop_drop, List.drop_left' (l8 _), List.drop_left' (l8 _), List.drop_left' (l8 _), List.drop_left' (l8 _)]; exact List.take_left' (l8 _)
  | n + 5, h => omega

/-- What stands where a header's words stand. -/
def wordAt (zs : List Int) (j : Nat) : Int := lev ((zs.drop (8 + 8 * j)).take 8)

/-- Do bytes begin with a header? -/
def isH (zs : List Int) : Bool :=
  decide (64 ≤ zs.length) && rightH (wordAt zs 2) (wordAt zs 3) && decide (encH (wordAt zs 0) (wordAt zs 1) (wordAt zs 2) (wordAt zs 3) (wordAt zs 4) = zs.take 64)

/-- What is encoded is a header, whatever stands behind it. -/
theorem isH_enc {i k d f m : Int} (hi : 0 ≤ i ∧ i < 18446744073709551616) (hk : 0 ≤ k ∧ k < 18446744073709551616) (hm : 0 ≤ m ∧ m < 18446744073709551616) (hr : rightH d f = true) (r : List Int) :
    isH (encH i k d f m ++ r) = true ∧ wordAt (encH i k d f m ++ r) 0 = i ∧ wordAt (encH i k d f m ++ r) 1 = k ∧ wordAt (encH i k d f m ++ r) 2 = d ∧ wordAt (encH i k d f m ++ r) 3 = f ∧ wordAt (encH i k d f m ++ r) 4 = m := by
  have hr2 : 1 ≤ d ∧ d ≤ 256 ∧ 1 ≤ f ∧ f ≤ 256 := by simp [rightH] at hr; omega
  have w : ∀ j, j < 5 → wordAt (encH i k d f m ++ r) j = lev (bts ([i, k, d, f, m].getD j 0) 8) := fun j hj => by unfold wordAt; rw [encH_word i k d f m r j hj]
  have w0 : wordAt (encH i k d f m ++ r) 0 = i := (w 0 (by omega)).trans (lev8_bts hi)
  have w1 : wordAt (encH i k d f m ++ r) 1 = k := (w 1 (by omega)).trans (lev8_bts hk)
  have w2 : wordAt (encH i k d f m ++ r) 2 = d := (w 2 (by omega)).trans (lev8_bts (n := d) ⟨by omega, by omega⟩)
  have w3 : wordAt (encH i k d f m ++ r) 3 = f := (w 3 (by omega)).trans (lev8_bts (n := f) ⟨by omega, by omega⟩)
  have w4 : wordAt (encH i k d f m ++ r) 4 = m := (w 4 (by omega)).trans (lev8_bts hm)
  refine ⟨?_, w0, w1, w2, w3, w4⟩
  unfold isH
  rw [w0, w1, w2, w3, w4, hr, List.take_left' (encH_length _ _ _ _ _)]
  simp [encH_length]

end Go.Proofs.Ytjpfbkhjhainpaa

/-
  LAYER 10: WHAT THE SMALL FUNCTIONS OF PACKAGE head DO (mayHave, Right, DataTable, FieldTable, Objects, Slot), and the document's Right and Objects: contracts.
-/
set_option linter.unusedVariables false
set_option maxRecDepth 100000
set_option linter.unusedSimpArgs false
namespace Go.Proofs.Ytjpfbkhjhainpaa
open Go.RowKit

/-- A header by value. -/
abbrev hdV (i k d f m : Int) : Value := .agg #[.int .u64 i, .int .u64 k, .int .i64 d, .int .i64 f, .int .u64 m]
/-- The cells of a boxed header. -/
abbrev HdAt (w : World) (g : Nat) (i k d f m : Int) : Prop :=
  w.cell? ⟨g, 0, none⟩ = some (.int .u64 i) ∧ w.cell? ⟨g, 1, none⟩ = some (.int .u64 k) ∧ w.cell? ⟨g, 2, none⟩ = some (.int .i64 d) ∧ w.cell? ⟨g, 3, none⟩ = some (.int .i64 f) ∧ w.cell? ⟨g, 4, none⟩ = some (.int .u64 m)

theorem hdAt_blk {w : World} {g : Nat} {t : TypeId} {i k d f m : Int} (h : Blk w g t #[.int .u64 i, .int .u64 k, .int .i64 d, .int .i64 f, .int .u64 m]) : HdAt w g i k d f m :=
  ⟨by rw [h.cell]; rfl, by rw [h.cell]; rfl, by rw [h.cell]; rfl, by rw [h.cell]; rfl, by rw [h.cell]; rfl⟩
theorem hdAt_of {w w' : World} {t : TypeId} {i k d f m : Int}
    (h : Below (w.alloc (.cells #[.int .u64 i, .int .u64 k, .int .i64 d, .int .i64 f, .int .u64 m] t)).heap.size (w.alloc (.cells #[.int .u64 i, .int .u64 k, .int .i64 d, .int .i64 f, .int .u64 m] t)) w') : HdAt w' w.heap.size i k d f m :=
  hdAt_blk ((Blk.new w t _).below h (by simp))
theorem boxed (w : World) (o : Obj) : Below w.heap.size w (w.alloc o) := (Below.refl _ _).alloc (Nat.le_refl _) _

theorem rightH_two (d f : Int) : rightH d f = ((decide (1 ≤ d) && decide (d ≤ 256)) && (decide (1 ≤ f) && decide (f ≤ 256))) := by unfold rightH; simp only [Bool.and_assoc]
theorem rightH_bd {d f : Int} (h : rightH d f = true) : 1 ≤ d ∧ d ≤ 256 ∧ 1 ≤ f ∧ f ≤ 256 := by simp [rightH] at h; omega

theorem i64_and1 (n : Int) : bits .and .i64 n 1 = n % 2 := by
  have h1 : (BitVec.ofInt 64 1).toNat = 2 ^ 1 - 1 := by decide
  have key : (BitVec.ofInt 64 n &&& BitVec.ofInt 64 1).toNat = (n % ((2 ^ 64 : Nat) : Int)).toNat % 2 ^ 1 := by
    rw [BitVec.toNat_and, BitVec.toNat_ofInt, h1, Nat.and_two_pow_sub_one_eq_mod]
  show IntKind.i64.wrap ((BitVec.ofInt 64 n &&& BitVec.ofInt 64 1).toNat : Nat) = n % 2
  rw [key, IntKind.wrap_i64]
  omega

end Go.Proofs.Ytjpfbkhjhainpaa

/-
  LAYER 10: Encode OF PACKAGE head: its contract, for every input.
-/
set_option linter.unusedVariables false
set_option maxRecDepth 100000
set_option linter.unusedSimpArgs false
namespace Go.Proofs.Ytjpfbkhjhainpaa
open Go.RowKit

/-- What Encode tells. -/
def encHR (i k d f m : Int) : List Int := if rightH d f then encH i k d f m else []

theorem encHR_bytes (i k d f m : Int) : AreB (encHR i k d f m) := by
  unfold encHR
  split
  · exact encH_bytes _ _ _ _ _
  · exact AreB.nil

theorem words5 (w : World) (t : TypeId) (a b c d e : Int) : Reads (w.alloc (.cells #[.int .u64 a, .int .u64 b, .int .u64 c, .int .u64 d, .int .u64 e] t)) (w.heap.size + 1) 1 (some ⟨w.heap.size, 0, none⟩) 5 (cellsOf .u64 [a, b, c, d, e]) := Reads.newN _ _ _

/-- A row with a mark behind it reads as one without. -/
theorem Reads.newF (w : World) (t : TypeId) (cs : Array Value) (fr : Nat × Nat) : Reads (w.alloc (.cells cs t fr)) (w.heap.size + 1) 1 (some ⟨w.heap.size, 0, none⟩) cs.size cs.toList := by
  refine ⟨by simp, fun _ => ⟨_, rfl, Nat.lt_succ_self _, fun j v hj => ?_⟩⟩
  have h := World.cell?_alloc_mark w cs t fr j
  have e : (⟨w.heap.size, 0, none⟩ : Addr).add j = ⟨w.heap.size, j, none⟩ := by unfold Addr.add; split <;> simp_all
  rw [e, h]; simpa using hj

/-- The eight bytes that a file begins with, as cells. -/
abbrev magicC : Array Value := #[.int .u8 76, .int .u8 79, .int .u8 71, .int .u8 66, .int .u8 79, .int .u8 79, .int .u8 75, .int .u8 49]
theorem magicReads (w : World) (t : TypeId) (fr : Nat × Nat) : Reads (w.alloc (.cells magicC t fr)) (w.heap.size + 1) 1 (some ⟨w.heap.size, 0, none⟩) 8 (cellsOf .u8 magicB) := Reads.newF w t magicC fr

/-- A block that a writer was made ahead of is none of its own. -/
theorem WB.apart {w0 wx : World} {g : Nat} {v : Value} {zs : List Int} (h : WB w0 g v zs wx) : ¬ (wx.heap.size = g ∨ v.ownBlock = some wx.heap.size) := by
  rintro (e | e)
  · have := h.wr.blk.lt; omega
  · have := (h.wr.own.lt _ e).2; omega

end Go.Proofs.Ytjpfbkhjhainpaa

/-
  LAYER 10: THE DOCUMENT'S Encode: its contract, for every input.
-/
set_option linter.unusedVariables false
set_option maxRecDepth 100000
set_option linter.unusedSimpArgs false
namespace Go.Proofs.Ytjpfbkhjhainpaa
open Go.RowKit

theorem rbytes4 (x : Int) (w : World) (h0 : Hid (0 ≤ x ∧ x < 18446744073709551616)) : Calls Try.prog 52 #[.int .u64 x, .int .i64 4] w fun e w' =>
    ∃ A c, e = .returned (.slice A 4 c) ∧ w'.ownsRow w.heap.size 5 1 (.slice A 4 c) 4 (cellsOf .u8 (bts x 4)) ∧ Below w.heap.size w w' :=
  rbytes_any x 4 w h0

/-- A row in the making, and five words beside it. -/
structure OutW (w0 : World) (g : Nat) (a b c d e : Int) (v : Value) (N : Nat) (zs : List Int) (wx : World) : Prop where
  out : OutB w0 v N zs wx
  wds : Blk wx g 47 #[.int .u64 a, .int .u64 b, .int .u64 c, .int .u64 d, .int .u64 e]

theorem OutW.below {w0 wx wy : World} {g : Nat} {a b c d e : Int} {v : Value} {N : Nat} {zs : List Int} (h : OutW w0 g a b c d e v N zs wx) (hb : Below wx.heap.size wx wy) : OutW w0 g a b c d e v N zs wy :=
  ⟨h.out.below hb, h.wds.below hb h.wds.lt⟩
theorem OutW.app {w0 wx wy : World} {g : Nat} {a b c d e : Int} {v v' : Value} {N M : Nat} {zs ys : List Int} (h : OutW w0 g a b c d e v N zs wx) (ho : wy.ownsRow w0.heap.size 5 1 v' (N + M) (cellsOf .u8 zs ++ cellsOf .u8 ys)) (hg : wx.grownBy wy v.ownBlock) : OutW w0 g a b c d e v' (N + M) (zs ++ ys) wy :=
  ⟨h.out.app ho hg, h.wds.grown hg (fun e2 => own_blk_ne h.out.own h.wds (by decide) e2.symm)⟩
theorem OutW.word {w0 wx : World} {g : Nat} {a b c d e : Int} {v : Value} {N : Nat} {zs : List Int} (h : OutW w0 g a b c d e v N zs wx) {j : Nat} (hj : j < 5) : wx.cell? ⟨g, j, none⟩ = some (.int .u64 ([a, b, c, d, e].getD j 0)) := by
  rw [h.wds.cell]
  match j, hj with
  | 0, _ | 1, _ | 2, _ | 3, _ | 4, _ => rfl
  | n + 5, h => omega

/-- The words of a row of given bytes and of given words, made one behind the other. -/
theorem outW_start (w : World) (a b c d e : Int) :
    OutW w (w.heap.size + 1) a b c d e (.slice (some ⟨w.heap.size, 0, none⟩) 8 8) 8 magicB ((w.alloc (.cells magicC 5)).alloc (.cells #[.int .u64 a, .int .u64 b, .int .u64 c, .int .u64 d, .int .u64 e] 47)) := by
  have h0 : OutB w (.slice (some ⟨w.heap.size, 0, none⟩) 8 8) 8 magicB (w.alloc (.cells magicC 5)) :=
    ⟨World.ownsRow_lit w magicC 8 (Nat.le_refl _) (by decide) rfl, boxed _ _⟩
  refine ⟨h0.below (boxed _ _), ?_⟩
  have h := Blk.new (w.alloc (.cells magicC 5)) 47 #[.int .u64 a, .int .u64 b, .int .u64 c, .int .u64 d, .int .u64 e]
  rwa [World.size_alloc] at h

end Go.Proofs.Ytjpfbkhjhainpaa
