/-
  MERGED BY PROGRAM out of the texts SecMath SecFn SecAt SecRef SecRef2 SecPc Same.
-/
import Derived.Test.YtclglbddibjenaaGreatGrA
import Derived.Test.YtclglbddibjenaaGreatChecked
import Derived.Laws.CopyOwn
import Derived.WalkKit
import Derived.Lib.Hide
import Derived.Deep.RegionLaw

/-
  PLAIN MATHEMATICS FOR LAYER 5, of no program: bytes of a size, a sector of bytes, bytes with another sector, a piece laid over a sector, the pieces of a write.
-/
set_option linter.unusedVariables false
set_option maxRecDepth 100000
namespace Go.Proofs.YtclglbddibjenaaGreat
open Go.RowKit

/-! ### lists by their places -/
def nz (zs : List Int) (j : Nat) : Int := zs.getD j 0
theorem nz_out {zs : List Int} {j : Nat} (h : zs.length ≤ j) : nz zs j = 0 := by
  unfold nz; rw [List.getD_eq_getElem?_getD, List.getElem?_eq_none h]; rfl
theorem nz_in {zs : List Int} {j : Nat} (h : j < zs.length) : nz zs j = zs[j] := by
  unfold nz; rw [List.getD_eq_getElem?_getD, List.getElem?_eq_getElem h]; rfl
theorem nz_get {zs : List Int} {j : Nat} (h : j < zs.length) : zs[j]? = some (nz zs j) := by rw [nz_in h]; exact List.getElem?_eq_getElem h
theorem ext_nz {a b : List Int} (hl : a.length = b.length) (h : ∀ j, j < a.length → nz a j = nz b j) : a = b := by
  apply List.ext_getElem? fun j => ?_
  by_cases hj : j < a.length
  · rw [nz_get hj, nz_get (by omega), h j hj]
  · rw [List.getElem?_eq_none (by omega), List.getElem?_eq_none (by omega)]
theorem nz_take (zs : List Int) (n j : Nat) : nz (zs.take n) j = if j < n then nz zs j else 0 := by
  unfold nz
  simp only [List.getD_eq_getElem?_getD, List.getElem?_take]
  split <;> rfl
theorem nz_drop (zs : List Int) (n j : Nat) : nz (zs.drop n) j = nz zs (n + j) := by
  unfold nz
  simp only [List.getD_eq_getElem?_getD, List.getElem?_drop]
theorem nz_append (a b : List Int) (j : Nat) : nz (a ++ b) j = if j < a.length then nz a j else nz b (j - a.length) := by
  unfold nz
  simp only [List.getD_eq_getElem?_getD, List.getElem?_append]
  split <;> rfl
theorem nz_zeros (n j : Nat) : nz (List.replicate n 0) j = 0 := by
  unfold nz
  simp only [List.getD_eq_getElem?_getD, List.getElem?_replicate]
  split <;> rfl
theorem nz_splice (l cs : List Int) (off j : Nat) (h : off ≤ l.length) : nz (splice l off cs) j = if off ≤ j ∧ j < off + cs.length then nz cs (j - off) else nz l j := by
  unfold splice
  rw [nz_append, nz_append, nz_drop, nz_take, List.length_take]
  by_cases h1 : j < off
  · rw [if_pos (by omega), if_pos h1, if_neg (by omega)]
  · rw [if_neg (by omega)]
    by_cases h2 : j < off + cs.length
    · rw [if_pos (by omega), if_pos (by omega)]; congr 1; omega
    · rw [if_neg (by omega), if_neg (by omega)]; congr 1; omega
theorem nz_set (l : List Int) (i j : Nat) (x : Int) (h : i < l.length) : nz (l.set i x) j = if i = j then x else nz l j := by
  unfold nz
  simp only [List.getD_eq_getElem?_getD, List.getElem?_set]
  split
  · rfl
  · rfl
theorem nz_snoc (l : List Int) (x : Int) (j : Nat) : nz (l ++ [x]) j = if j < l.length then nz l j else if j = l.length then x else 0 := by
  rw [nz_append]
  split
  · rfl
  · by_cases h : j = l.length
    · rw [if_pos h, h, Nat.sub_self]; rfl
    · rw [if_neg h, nz_out (by simp; omega)]
theorem AreB.nz {l : List Int} (h : AreB l) (i : Nat) : 0 ≤ nz l i ∧ nz l i < 256 := h.get i

/-! ### bytes of a size -/
def sizeL (zs : List Int) (n : Nat) : List Int := zs.take n ++ List.replicate (n - zs.length) 0
theorem sizeL_length (zs : List Int) (n : Nat) : (sizeL zs n).length = n := by
  unfold sizeL; rw [List.length_append, List.length_take, List.length_replicate]; omega
theorem nz_sizeL (zs : List Int) (n j : Nat) : nz (sizeL zs n) j = if j < n then nz zs j else 0 := by
  unfold sizeL
  rw [nz_append, List.length_take, nz_take, nz_zeros]
  by_cases h : j < n
  · rw [if_pos h]
    by_cases h2 : j < min n zs.length
    · rw [if_pos h2]
    · rw [if_neg h2, nz_out (by omega)]
  · rw [if_neg (by omega), if_neg h]
theorem sizeL_bytes {zs : List Int} (h : AreB zs) (n : Nat) : AreB (sizeL zs n) := (h.take n).append (AreB.zeros _)
theorem sizeL_self (zs : List Int) : sizeL zs zs.length = zs := by unfold sizeL; simp
theorem sizeL_zero (zs : List Int) : sizeL zs 0 = [] := by unfold sizeL; simp
theorem sizeL_snoc (zs : List Int) (n : Nat) : sizeL zs (n + 1) = sizeL zs n ++ [nz zs n] := by
  refine ext_nz (by rw [List.length_append, sizeL_length, sizeL_length]; rfl) fun j hj => ?_
  rw [sizeL_length] at hj
  rw [nz_sizeL, if_pos hj, nz_snoc, sizeL_length, nz_sizeL]
  by_cases h : j < n
  · rw [if_pos h, if_pos h]
  · rw [if_neg h, if_pos (by omega)]; congr 1; omega
/-- What copying into noughts gives. -/
theorem sizeL_splice (zs : List Int) (n : Nat) : splice (List.replicate n 0) 0 (zs.take n) = sizeL zs n := by
  unfold splice sizeL
  simp only [List.take_zero, List.nil_append, List.drop_replicate, List.length_take]
  congr 2
  omega

theorem splice_bytes {l cs : List Int} (hl : AreB l) (hc : AreB cs) (off : Nat) : AreB (splice l off cs) := (hl.take off).append (hc.append (hl.drop _))

/-! ### sectors -/
def cntN (n : Nat) : Nat := (n + 63) / 64
def cntI (n : Int) : Int := if n < 1 then 0 else (n + 63) / 64
theorem cntI_nat (n : Nat) : cntI n = cntN n := by unfold cntI cntN; split <;> omega

def hasL (zs : List Int) (k : Int) : Bool := decide (0 ≤ k) && decide (k < cntN zs.length)
theorem hasL_true {zs : List Int} {k : Int} (h : hasL zs k = true) : 0 ≤ k ∧ k < cntN zs.length := by unfold hasL at h; simpa using h
theorem hasL_false {zs : List Int} {k : Int} (h : hasL zs k = false) : k < 0 ∨ (cntN zs.length : Int) ≤ k := by
  unfold hasL at h
  by_cases h0 : 0 ≤ k
  · right; simp [h0] at h; omega
  · left; omega

/-- Sector k of bytes. -/
def secL (zs : List Int) (k : Int) : List Int := if hasL zs k then sizeL (zs.drop (64 * k.toNat)) 64 else List.replicate 64 0
theorem secL_length (zs : List Int) (k : Int) : (secL zs k).length = 64 := by
  unfold secL
  split
  · exact sizeL_length _ _
  · exact List.length_replicate
theorem secL_bytes {zs : List Int} (h : AreB zs) (k : Int) : AreB (secL zs k) := by
  unfold secL
  split
  · exact sizeL_bytes (h.drop _) _
  · exact AreB.zeros _
theorem nz_secL {zs : List Int} {k : Int} {j : Nat} (hj : j < 64) : nz (secL zs k) j = if hasL zs k = true then nz zs (64 * k.toNat + j) else 0 := by
  unfold secL
  split
  · rw [nz_sizeL, if_pos hj, nz_drop]
  · exact nz_zeros _ _

/-- Bytes with another sector. -/
def setL (zs : List Int) (k : Int) (s : List Int) : List Int := if hasL zs k then splice zs (64 * k.toNat) ((s.take 64).take (zs.length - 64 * k.toNat)) else zs
theorem hasL_lt {zs : List Int} {k : Int} (h : hasL zs k = true) : 64 * k.toNat < zs.length := by
  have := hasL_true h
  unfold cntN at this
  omega
theorem setL_length (zs : List Int) (k : Int) (s : List Int) : (setL zs k s).length = zs.length := by
  unfold setL
  split
  · next h =>
    have := hasL_lt h
    rw [length_splice _ _ _ (by simp only [List.length_take]; omega)]
  · rfl
theorem setL_bytes {zs s : List Int} (h : AreB zs) (hs : AreB s) (k : Int) : AreB (setL zs k s) := by
  unfold setL
  split
  · exact splice_bytes h ((hs.take _).take _) _
  · exact h
theorem nz_setL (zs s : List Int) (k : Int) (j : Nat) : nz (setL zs k s) j = if hasL zs k = true ∧ 64 * k.toNat ≤ j ∧ j < 64 * k.toNat + 64 ∧ j < 64 * k.toNat + s.length ∧ j < zs.length then nz s (j - 64 * k.toNat) else nz zs j := by
  unfold setL
  by_cases h : hasL zs k = true
  · have hl := hasL_lt h
    rw [if_pos h, nz_splice _ _ _ _ (by omega), nz_take, nz_take]
    simp only [List.length_take]
    by_cases h1 : 64 * k.toNat ≤ j ∧ j < 64 * k.toNat + 64 ∧ j < 64 * k.toNat + s.length ∧ j < zs.length
    · rw [if_pos (by omega), if_pos (by omega), if_pos (by omega), if_pos ⟨h, h1⟩]
    · rw [if_neg (by omega), if_neg (fun hh => h1 hh.2)]
  · rw [if_neg h, if_neg (fun hh => h hh.1)]

/-- A piece laid over a sector. -/
def layL (old : List Int) (frm : Int) (data : List Int) : List Int := if 0 ≤ frm ∧ frm ≤ 64 then splice (sizeL old 64) frm.toNat (data.take (64 - frm.toNat)) else sizeL old 64
theorem layL_length (old : List Int) (frm : Int) (data : List Int) : (layL old frm data).length = 64 := by
  unfold layL
  split
  · rw [length_splice _ _ _ (by rw [sizeL_length, List.length_take]; omega), sizeL_length]
  · exact sizeL_length _ _
theorem layL_bytes {old data : List Int} (h : AreB old) (hd : AreB data) (frm : Int) : AreB (layL old frm data) := by
  unfold layL
  split
  · exact splice_bytes (sizeL_bytes h _) (hd.take _) _
  · exact sizeL_bytes h _
theorem nz_layL (old data : List Int) (frm : Int) {j : Nat} (hj : j < 64) : nz (layL old frm data) j = if 0 ≤ frm ∧ frm ≤ 64 ∧ frm.toNat ≤ j ∧ j < frm.toNat + data.length then nz data (j - frm.toNat) else nz old j := by
  unfold layL
  by_cases h : 0 ≤ frm ∧ frm ≤ 64
  · rw [if_pos h, nz_splice _ _ _ _ (by rw [sizeL_length]; omega), nz_take, List.length_take, nz_sizeL, if_pos hj]
    by_cases h1 : frm.toNat ≤ j ∧ j < frm.toNat + data.length
    · rw [if_pos (by omega), if_pos (by omega), if_pos ⟨h.1, h.2, h1⟩]
    · rw [if_neg (by omega), if_neg (fun hh => h1 hh.2.2)]
  · rw [if_neg h, if_neg (fun hh => h ⟨hh.1, hh.2.1⟩), nz_sizeL, if_pos hj]

/-! ### pieces: f is the place in the first sector, i the piece's number -/
def pcN (f len : Nat) : Nat := if len = 0 then 0 else cntN (f + len)
def pcD (f : Nat) (bs : List Int) (i : Nat) : List Int := (bs.take (64 * (i + 1) - f)).drop (64 * i - f)
theorem pcD_length (f : Nat) (bs : List Int) (i : Nat) : (pcD f bs i).length = min (64 * (i + 1) - f) bs.length - (64 * i - f) := by
  unfold pcD; rw [List.length_drop, List.length_take]
theorem pcD_bytes {bs : List Int} (h : AreB bs) (f i : Nat) : AreB (pcD f bs i) := (h.take _).drop _
theorem nz_pcD (f : Nat) (bs : List Int) (i j : Nat) (h : j < (pcD f bs i).length) : nz (pcD f bs i) j = nz bs (64 * i - f + j) := by
  rw [pcD_length] at h
  unfold pcD
  rw [nz_drop, nz_take, if_pos (by omega)]
/-- What the program takes off the front of what is left is the piece. -/
theorem pcD_front {f i : Nat} {bs : List Int} (hf : f < 64) : (bs.drop (64 * i - f)).take (64 - (f - 64 * i)) = pcD f bs i := by
  unfold pcD
  rw [List.drop_take]
  congr 1
  omega
theorem pcN_le (f len : Nat) (hf : f < 64) : pcN f len ≤ len / 64 + 2 := by unfold pcN cntN; split <;> omega
theorem pcN_lt {f len i : Nat} (hf : f < 64) : i < pcN f len ↔ 64 * i - f < len := by
  unfold pcN cntN
  split <;> omega

/-- Bytes with others from a place on (there is room). -/
def wrL (zs : List Int) (at_ : Nat) (xs : List Int) : List Int := splice zs at_ xs
theorem wrL_length {zs xs : List Int} {a : Nat} (h : a + xs.length ≤ zs.length) : (wrL zs a xs).length = zs.length := length_splice _ _ _ h

/-- Piece by piece: what has been written up to the i-th piece, and that one laid over its sector. -/
theorem wrL_step {zs xs : List Int} {a i : Nat} (h : a + xs.length ≤ zs.length) (hi : i < pcN (a % 64) xs.length) :
    setL (wrL zs a (xs.take (64 * i - a % 64))) ((a / 64 + i : Nat) : Int) (layL (secL (wrL zs a (xs.take (64 * i - a % 64))) ((a / 64 + i : Nat) : Int)) ((a % 64 - 64 * i : Nat) : Int) (pcD (a % 64) xs i))
      = wrL zs a (xs.take (64 * (i + 1) - a % 64)) := by
  have hi' := (pcN_lt (Nat.mod_lt a (by omega))).1 hi
  have hf := Nat.mod_lt a (show 0 < 64 by omega)
  have hd := Nat.div_add_mod a 64
  generalize hF : a % 64 = f at *
  generalize hS : a / 64 = s at *
  have hl1 : (wrL zs a (xs.take (64 * i - f))).length = zs.length := wrL_length (by rw [List.length_take]; omega)
  have hl2 : (wrL zs a (xs.take (64 * (i + 1) - f))).length = zs.length := wrL_length (by rw [List.length_take]; omega)
  have hh : hasL (wrL zs a (xs.take (64 * i - f))) ((s + i : Nat) : Int) = true := by
    unfold hasL cntN; rw [hl1]
    simp
    omega
  refine ext_nz (by rw [setL_length, hl1, hl2]) fun j hj => ?_
  rw [setL_length, hl1] at hj
  have ht : ((s + i : Nat) : Int).toNat = s + i := by omega
  have ht2 : ((f - 64 * i : Nat) : Int).toNat = f - 64 * i := by omega
  rw [nz_setL, hl1, layL_length, ht]
  have hw : ∀ n j, nz (wrL zs a (xs.take n)) j = if a ≤ j ∧ j < a + min n xs.length then nz xs (j - a) else nz zs j := fun n j => by
    unfold wrL
    rw [nz_splice _ _ _ _ (by omega), List.length_take, nz_take]
    by_cases hc : a ≤ j ∧ j < a + min n xs.length
    · rw [if_pos hc, if_pos (by omega), if_pos hc]
    · rw [if_neg hc, if_neg hc]
  by_cases hin : 64 * (s + i) ≤ j ∧ j < 64 * (s + i) + 64
  · rw [if_pos ⟨hh, by omega, by omega, by omega, by omega⟩, nz_layL _ _ _ (by omega), ht2, pcD_length]
    by_cases h2 : f - 64 * i ≤ j - 64 * (s + i) ∧ j - 64 * (s + i) < f - 64 * i + (min (64 * (i + 1) - f) xs.length - (64 * i - f))
    · rw [if_pos ⟨by omega, by omega, h2⟩, nz_pcD _ _ _ _ (by rw [pcD_length]; omega), hw, if_pos (by omega)]
      congr 1
      omega
    · rw [if_neg (fun hx => h2 hx.2.2), nz_secL (by omega), if_pos hh, ht, hw, hw]
      have e : 64 * (s + i) + (j - 64 * (s + i)) = j := by omega
      rw [e]
      by_cases h3 : a ≤ j ∧ j < a + min (64 * i - f) xs.length
      · rw [if_pos h3, if_pos (by omega)]
      · rw [if_neg h3, if_neg (by omega)]
  · rw [if_neg (by omega), hw, hw]
    by_cases h3 : a ≤ j ∧ j < a + min (64 * i - f) xs.length
    · rw [if_pos h3, if_pos (by omega)]
    · rw [if_neg h3, if_neg (by omega)]

/-- One byte more of what is written. -/
theorem wrL_set {zs xs : List Int} {a i : Nat} (h : a + xs.length ≤ zs.length) (hi : i < xs.length) : (wrL zs a (xs.take i)).set (a + i) (nz xs i) = wrL zs a (xs.take (i + 1)) := by
  have hl1 : (wrL zs a (xs.take i)).length = zs.length := wrL_length (by rw [List.length_take]; omega)
  have hl2 : (wrL zs a (xs.take (i + 1))).length = zs.length := wrL_length (by rw [List.length_take]; omega)
  refine ext_nz (by rw [List.length_set, hl1, hl2]) fun j hj => ?_
  rw [List.length_set, hl1] at hj
  rw [nz_set _ _ _ _ (by omega)]
  unfold wrL
  rw [nz_splice _ _ _ _ (by omega), nz_splice _ _ _ _ (by omega), nz_take, nz_take, List.length_take, List.length_take]
  by_cases h1 : a + i = j
  · subst h1
    rw [if_pos rfl, if_pos (by omega), if_pos (by omega)]
    congr 1; omega
  · rw [if_neg h1]
    by_cases h2 : a ≤ j ∧ j < a + min i xs.length
    · rw [if_pos h2, if_pos (by omega), if_pos (by omega), if_pos (by omega)]
    · rw [if_neg h2, if_neg (by omega)]
theorem wrL_none (zs : List Int) (a : Nat) : wrL zs a [] = zs := by unfold wrL splice; simp
theorem wrL_bytes {zs xs : List Int} (h : AreB zs) (hx : AreB xs) (a : Nat) : AreB (wrL zs a xs) := splice_bytes h hx a

end Go.Proofs.YtclglbddibjenaaGreat

/-
  WHAT Count, has AND Size OF PACKAGE sector DO, AND THE DOCUMENT'S OWN Count AND Size: contracts.
-/
set_option linter.unusedVariables false
set_option maxRecDepth 100000
set_option linter.unusedSimpArgs false
namespace Go.Proofs.YtclglbddibjenaaGreat
open Go.RowKit

/-- A function has told bytes: in a row of the call's own; below the call's own blocks nothing has turned. -/
def Gives (zs : List Int) (w : World) (e : Ending) (w' : World) : Prop :=
  ∃ A c, e = .returned (.slice A zs.length c) ∧ w'.ownsRow w.heap.size 5 1 (.slice A zs.length c) zs.length (cellsOf .u8 zs) ∧ Below w.heap.size w w'

theorem count_any (n : Int) (w : World) (h0 : -9223372036854775808 ≤ n) (h1 : n ≤ 9223372036854775807) :
    Calls Tryz.prog 82 #[.int .i64 n] w fun e w' => e = .returned (.int .i64 (cntI n)) ∧ w = w' := by
  by_cases h : n < 1
  · go_enter Tryz.func82, Tryz.ntmps82
    go_wp2
    go_ret
    exact ⟨ret_int (by unfold cntI; rw [if_pos h]), rfl⟩
  · have ht : (n - 1).tdiv 64 = (n - 1) / 64 := Int.tdiv_eq_ediv_of_nonneg (by omega)
    go_enter Tryz.func82, Tryz.ntmps82
    go_wp2
    go_ret
    exact ⟨ret_int (by unfold cntI; rw [if_neg (by omega)]; omega), rfl⟩

theorem rcount_any (n : Int) (w : World) (h0 : -9223372036854775808 ≤ n) (h1 : n ≤ 9223372036854775807) :
    Calls Tryz.prog 80 #[.int .i64 n] w fun e w' => e = .returned (.int .i64 (cntI n)) ∧ w = w' := by
  by_cases h : n < 1
  · go_enter Tryz.func80, Tryz.ntmps80
    go_wp2
    go_ret
    exact ⟨ret_int (by unfold cntI; rw [if_pos h]), rfl⟩
  · have ht : n.tdiv 64 = n / 64 := Int.tdiv_eq_ediv_of_nonneg (by omega)
    have ht2 : n.tmod 64 = n % 64 := Int.tmod_eq_emod_of_nonneg (by omega)
    by_cases hm : 0 < n % 64
    · go_enter Tryz.func80, Tryz.ntmps80
      go_wp2
      go_ret
      exact ⟨ret_int (by unfold cntI; rw [if_neg (by omega)]; omega), rfl⟩
    · go_enter Tryz.func80, Tryz.ntmps80
      go_wp2
      go_ret
      exact ⟨ret_int (by unfold cntI; rw [if_neg (by omega)]; omega), rfl⟩

theorem has_any (A : Option Addr) (len cap : Nat) (zs : List Int) (k : Int) (w : World) (hl : zs.length = len) (h1 : len ≤ 4611686018427387904) (hc : len ≤ cap) :
    Calls Tryz.prog 140 #[.slice A len cap, .int .i64 k] w fun e w' => e = .returned (.bool (hasL zs k)) ∧ w = w' := by
  have hcn : cntI len = cntN len := cntI_nat _
  have HV := Lib.hid (show hasL zs k = (decide (0 ≤ k) && decide (k < cntN len)) by unfold hasL; rw [hl])
  by_cases h : 0 ≤ k
  · go_enter Tryz.func140, Tryz.ntmps140
    go_wp2_with (go_at_call 82; refine (count_any len w (by omega) (by omega)).mono ?_; rintro e w1 ⟨rfl, rfl⟩)
    go_ret
    exact ⟨ret_bool (by rw [HV.out]; simp [h]), rfl⟩
  · go_enter Tryz.func140, Tryz.ntmps140
    go_wp2
    go_ret
    exact ⟨ret_bool (by rw [HV.out, decide_eq_false (by omega)]; rfl), rfl⟩

/-! ### rows that are known whole -/
theorem zerosMade (n : Nat) : (madeCells #[Value.int IntKind.u8 0] n).toList = cellsOf .u8 (List.replicate n 0) := by
  rw [toList_madeCells_one]; simp [cellsOf]
theorem blk_of_full {w : World} {base g n : Nat} {e : TypeId} {xs : List Value} (h : w.ownsRow base e 1 (.slice (some ⟨g, 0, none⟩) n n) n xs) : Blk w g e xs.toArray := by
  rcases h.2 with ⟨hv, _⟩ | ⟨g', cap, cur, hv, _, hg, _, _, hs, ht⟩
  · injection hv with h1; cases h1
  · injection hv with h1 _ h3
    injection h1 with h1
    injection h1 with h1
    subst h1; subst h3
    rw [List.take_of_length_le (by simp; omega)] at ht
    subst ht
    exact hg
theorem made_blk {w : World} {base g n : Nat} {e : TypeId} (h : w.ownsRow base e 1 (.slice (some ⟨g, 0, none⟩) n n) n (madeCells (Value.int .u8 0).cells (n * 1)).toList) : Blk w g e (cellsOf .u8 (List.replicate n 0)).toArray := by
  rw [Nat.mul_one] at h
  rw [← zerosMade]
  exact blk_of_full h
theorem own_of_blk {w : World} {base g n : Nat} {e : TypeId} {xs : List Value} (h : Blk w g e xs.toArray) (hl : xs.length = n) (hb : base ≤ g) (hn : n ≤ maxLen) : w.ownsRow base e 1 (.slice (some ⟨g, 0, none⟩) n n) n xs :=
  ⟨by omega, .inr ⟨g, n, _, rfl, hb, h, Nat.le_refl _, hn, by rw [List.size_toArray]; omega, List.take_of_length_le (by show xs.length ≤ n * 1; omega)⟩⟩
theorem Blk.reads {w : World} {g n : Nat} {e : TypeId} {xs : List Value} (h : Blk w g e xs.toArray) (hl : xs.length = n) : Reads w w.heap.size 1 (some ⟨g, 0, none⟩) n xs := by
  refine ⟨by omega, fun _ => ⟨_, rfl, h.lt, fun j u hu => ?_⟩⟩
  have e : (⟨g, 0, none⟩ : Addr).add j = ⟨g, j, none⟩ := by unfold Addr.add; split <;> simp_all
  rw [e, h.cell j]
  simpa using hu

theorem byteOne : (Tryz.prog.info? 5).map (·.size) = some 1 := by kernel_rfl

/-- A function has told bytes: in a block of its own that is known whole; what was there has not turned. -/
def Lays (zs : List Int) (w : World) (e : Ending) (w' : World) : Prop :=
  ∃ g, w.heap.size ≤ g ∧ e = .returned (.slice (some ⟨g, 0, none⟩) zs.length zs.length) ∧ Blk w' g 5 (cellsOf .u8 zs).toArray ∧ Below w.heap.size w w'

theorem Lays.gives {zs : List Int} {w w' : World} {e : Ending} (h : Lays zs w e w') (hn : zs.length ≤ maxLen) : Gives zs w e w' := by
  obtain ⟨g, hg, rfl, hb, hw⟩ := h
  exact ⟨_, _, rfl, own_of_blk hb (cellsOf_length _ _) hg hn, hw⟩

set_option maxRecDepth 100000 in
theorem size_any (A : Option Addr) (len cap n : Nat) (zs : List Int) (B : Nat) (w : World) (hr : Reads w B 1 A len (cellsOf .u8 zs)) (hB : B ≤ w.heap.size) (hn : n ≤ 2147483647) (hl : len ≤ cap) :
    Calls Tryz.prog 96 #[.slice A len cap, .int .i64 n] w (Lays (sizeL zs n) w) := by
  obtain ⟨i0, hi, hz0, hz1, hz2⟩ := info_parts byteInfo
  have hlen := hr.len
  obtain ⟨news, hnews⟩ : ∃ news, news = cellsOf .u8 (zs.take n) := ⟨_, rfl⟩
  have hnl : news.length = min n len := by rw [hnews, cellsOf_length, List.length_take]; omega
  have hone : ∀ v ∈ news, v.oneCell' = true := hnews ▸ cellsOf_one _ _
  have hmin : news.length = Nat.min len n := by rw [hnl]; exact Nat.min_comm _ _
  have hsrc : ∀ w1, Below w.heap.size w w1 → 0 < news.length → some (⟨w.heap.size, 0, none⟩ : Addr) = some ⟨w.heap.size, 0, none⟩ ∧ ∃ ad, A = some ad ∧ ∀ j v, news[j]? = some v → w1.cell? (ad.add j) = some v := fun w1 hb h0 => by
    obtain ⟨ad, e, _, hc⟩ := ((hr.more hB).below hb).2 (by omega)
    refine ⟨rfl, ad, e, fun j v hj => hc j v ?_⟩
    rw [hnews] at hj
    simp only [cellsOf, List.map_take, List.getElem?_take] at hj
    split at hj
    · exact hj
    · cases hj
  have HNL := Lib.hid hnl
  have HON := Lib.hid hone
  have HMIN := Lib.hid hmin
  have HSRC := Lib.hid hsrc
  have HNEWS := Lib.hid hnews
  have HR := Lib.hid hr
  clear hnl hone hmin hsrc hnews hr
  go_enter Tryz.func96, Tryz.ntmps96
  go_wp2_with (first
    | (at_make; refine wpList_make_full _ rfl _ _ 29 rfl w.heap.size 5 i0 (.int .u8 0) 1 Tryz.underlying29 hi hz0 hz1 _ _ _ _ n rfl rfl rfl rfl (by rw [hz2]; omega) (by unfold maxLen; omega) (Nat.le_refl _) ?_; intro w1 hown hgr; have hb1 : Below w.heap.size w w1 := (Below.refl _ _).grown hgr (Nat.le_refl _) (by simp); have hb : Blk w1 w.heap.size 5 (cellsOf .u8 (List.replicate n 0)).toArray := made_blk hown; clear hown hgr)
    | (refine wpList_copy_splice rfl (.tmp 14) (.tmp 15) _ _ rfl 5 Tryz.underlying29 byteOne _ _ _ _ _ _ rfl rfl w.heap.size 0 (cellsOf .u8 (List.replicate n 0)) 5 hb news HMIN.out (HSRC.out _ hb1) (by rw [cellsOf_length, List.length_replicate, HNL.out]; omega) HON.out w.heap.size w hb1 (Nat.le_refl _) ?_; intro w2 HG2 hb2))
  go_ret
  refine ⟨w.heap.size, Nat.le_refl _, by rw [sizeL_length]; rfl, ?_, hb2⟩
  have := HG2.out
  rw [HNEWS.out] at this
  rw [← sizeL_splice]
  unfold splice at this ⊢
  unfold Blk
  rw [this]
  simp [cellsOf]

theorem size_neg (A : Option Addr) (len cap : Nat) (n : Int) (w : World) (hn : n < 0) :
    Calls Tryz.prog 96 #[.slice A len cap, .int .i64 n] w fun e w' => e = .returned (.slice none 0 0) ∧ w = w' := by
  go_enter Tryz.func96, Tryz.ntmps96
  go_wp2
  go_ret
  exact ⟨rfl, rfl⟩

/-! ### the document's Size -/
theorem rsize_in (A : Option Addr) (len cap n : Nat) (v : Int) (zs : List Int) (B : Nat) (w : World) (hr : Reads w B 1 A len (cellsOf .u8 zs)) (hB : B ≤ w.heap.size) (hm1 : (n : Int) = max v 0) (hn : n ≤ 4611686018427) (hl : len ≤ cap) (hcap : cap ≤ 9223372036854775807) :
    Calls Tryz.prog 106 #[.slice A len cap, .int .i64 v] w fun e w' => ∃ x, e = .returned x ∧ w'.ownsRow w.heap.size 5 1 x n (cellsOf .u8 (sizeL zs n)) ∧ Below w.heap.size w w' := by
  obtain ⟨i0, hi, hz0, hz1, hz2⟩ := info_parts byteInfo
  have hlen := hr.len
  have h1 : (n : Int) ≤ 0 ∨ (n : Int) ≤ v := by omega
  have h2 : v ≤ n := by omega
  clear hm1
  go_enter Tryz.func106, Tryz.ntmps106
  go_wp2
  go_loopw [5, 6] (fun b i wr => ∃ k : Nat, k ≤ n ∧ i = .int .i64 k ∧ wr.ownsRow w.heap.size 5 1 b k (cellsOf .u8 (sizeL zs k)) ∧ Below w.heap.size w wr)
    (fun _ i _ => n - (intOf i).toNat)
  case atStart => exact ⟨0, Nat.zero_le _, rfl, by rw [sizeL_zero]; exact World.ownsRow_nil _ _ _ _, Below.refl _ _⟩
  case round =>
    obtain ⟨k, hk, rfl, hown, hb⟩ := hrel
    have HS := Lib.hid (sizeL_snoc zs k)
    by_cases hlt : k < n
    · have h3 : (k : Int) < v := by omega
      obtain ⟨A1, c1, rfl, _, _⟩ := own_form hown
      have s2 : k + 1 ≤ maxLen := by unfold maxLen; omega
      have s3 : (k + 1) * 1 ≤ 140737488355328 := by omega
      have s4 : ∀ o, w.heap.size ≤ (wr.alloc o).heap.size := fun o => by have := hb.size; simp; omega
      obtain ⟨x, hx⟩ : ∃ x, x = nz zs k := ⟨_, rfl⟩
      by_cases hin : k < len
      · obtain ⟨b, off, rfl, hbB, hc⟩ := hr.plain (by omega)
        have c0 : wr.cell? ⟨b, off + k, none⟩ = some (.int .u8 x) := by rw [hx]; exact ((hb.cell (p := ⟨b, off + k, none⟩) (by show b < _; omega)).trans (hc k hin))
        have HX := Lib.hid hx
        have HR := Lib.hid hr
        have h4 : (k : Int) < len := by omega
        clear hx hr hc
        go_wp2_with (at_builtin; refine wpList_append_any _ rfl _ _ _ rfl w.heap.size 5 i0 (.int .u8 0) 1 1 Tryz.underlying29 hi hz0 hz1 hz2 rfl (Nat.lt_succ_self 0) (.slice A1 k c1) k (cellsOf .u8 (sizeL zs k)) rfl (hown.alloc _) (wr.heap.size + 1) _ 1 1 [.int .u8 x] rfl (Reads.new1 _ _ _) (one_oneCell _ _) s2 s3 (s4 _) ?_; intro v1 w1 hown1 hg1 hat1)
        go_roundw
        case rel =>
          refine ⟨k + 1, by omega, by go_num, ?_, (hb.alloc hb.size _).grown hg1 (s4 _) (fun g hg => (hown.lt g hg).1)⟩
          rw [HS.out, ← HX.out, cellsOf_append]
          exact hown1
        case measure => simp [intOf]; omega
      · have hx0 : x = 0 := by rw [hx]; exact nz_out (by omega)
        subst hx0
        have HX := Lib.hid hx
        have HR := Lib.hid hr
        have h4 : ¬ (k : Int) < len := by omega
        clear hx hr
        go_wp2_with (at_builtin; refine wpList_append_any _ rfl _ _ _ rfl w.heap.size 5 i0 (.int .u8 0) 1 1 Tryz.underlying29 hi hz0 hz1 hz2 rfl (Nat.lt_succ_self 0) (.slice A1 k c1) k (cellsOf .u8 (sizeL zs k)) rfl (hown.alloc _) (wr.heap.size + 1) _ 1 1 [.int .u8 0] rfl (Reads.new1 _ _ _) (one_oneCell _ _) s2 s3 (s4 _) ?_; intro v1 w1 hown1 hg1 hat1)
        go_roundw
        case rel =>
          refine ⟨k + 1, by omega, by go_num, ?_, (hb.alloc hb.size _).grown hg1 (s4 _) (fun g hg => (hown.lt g hg).1)⟩
          rw [HS.out, ← HX.out, cellsOf_append]
          exact hown1
        case measure => simp [intOf]; omega
    · obtain rfl : k = n := by omega
      have h3 : ¬ (k : Int) < v := by omega
      go_wp2
      go_ret
      exact ⟨_, rfl, hown, hb⟩

theorem rsize_any (A : Option Addr) (len cap : Nat) (v : Int) (zs : List Int) (B : Nat) (w : World) (hr : Reads w B 1 A len (cellsOf .u8 zs)) (hB : B ≤ w.heap.size) (hn : v ≤ 4611686018427) (hl : len ≤ cap) (hcap : cap ≤ 9223372036854775807) :
    Calls Tryz.prog 106 #[.slice A len cap, .int .i64 v] w (Gives (sizeL zs v.toNat) w) :=
  (rsize_in A len cap v.toNat v zs B w hr hB (by omega) (by omega) hl hcap).mono fun e w' ⟨x, he, hown, hb⟩ => by
    obtain ⟨A1, c1, rfl, _, _⟩ := own_form hown
    refine ⟨A1, c1, by rw [he, sizeL_length], by rw [sizeL_length]; exact hown, hb⟩

/-- A piece that a call has boxed stays as it is. -/
theorem box_cells {w w1 : World} {g : Nat} {t : TypeId} {u0 u1 u2 : Value} (hw : Below (w.alloc (.cells #[u0, u1, u2] t)).heap.size (w.alloc (.cells #[u0, u1, u2] t)) w1) (hg : (w.alloc (.cells #[u0, u1, u2] t)).heap.size ≤ g) :
    w1.cell? ⟨w.heap.size, 1, none⟩ = some u1 ∧ w1.cell? ⟨w.heap.size, 2, none⟩ = some u2 ∧ w.heap.size ≤ g := by
  have hp : Blk w1 w.heap.size t #[u0, u1, u2] := (Blk.new w t _).below hw (by simp)
  exact ⟨by rw [hp.cell]; rfl, by rw [hp.cell]; rfl, by simp at hg; omega⟩
theorem below_box {w w1 : World} {o : Obj} (hw : Below (w.alloc o).heap.size (w.alloc o) w1) : Below w.heap.size w w1 :=
  ((Below.refl _ _).alloc (Nat.le_refl _) o).trans (hw.mono (by simp))

/-- What a call has turned of its own blocks alone. -/
theorem chg_below2 {w0 w w' : World} {g B : Nat} (h : Below B w0 w) (hc : Chg (fun k => k = g) w w') (hg : B ≤ g) (hB : B ≤ w.heap.size) : Below B w0 w' :=
  h.trans (hc.below hB (fun k _ e => by omega))

end Go.Proofs.YtclglbddibjenaaGreat

/-
  WHAT At OF PACKAGE sector DOES: its contract.
-/
set_option linter.unusedVariables false
set_option maxRecDepth 100000
set_option linter.unusedSimpArgs false
namespace Go.Proofs.YtclglbddibjenaaGreat
open Go.RowKit

theorem at_any (A : Option Addr) (len cap : Nat) (k : Int) (zs : List Int) (B : Nat) (w : World) (hr : Reads w B 1 A len (cellsOf .u8 zs)) (hB : B ≤ w.heap.size) (hl : len ≤ cap) (hcap : cap ≤ 9223372036854775807) (hn : len ≤ 4611686018427387904) :
    Calls Tryz.prog 116 #[.slice A len cap, .int .i64 k] w (Lays (secL zs k) w) := by
  obtain ⟨i0, hi, hz0, hz1, hz2⟩ := info_parts byteInfo
  have hlen := hr.len
  cases hh : hasL zs k with
  | true =>
    have hk := hasL_true hh
    have hlt := hasL_lt hh
    obtain ⟨n, rfl⟩ : ∃ n : Nat, k = n := ⟨k.toNat, by omega⟩
    have hn1 : 64 * n < len := by simp at hlt; omega
    obtain ⟨b, off, rfl, hbB, hc⟩ := hr.plain (by omega)
    have hcut := hr.cut (k := 64 * n) (cap := cap) (by omega) hl
    rw [if_neg (by omega)] at hcut
    simp only [Option.map_some, Nat.mul_one, cellsOf_drop, row_addC] at hcut
    have HSEC := Lib.hid (show secL zs n = sizeL (zs.drop (64 * n)) 64 by unfold secL; rw [if_pos hh]; rfl)
    have HCUT := Lib.hid hcut
    have HR := Lib.hid hr
    have n1 : (n : Int) * 64 = ((64 * n : Nat) : Int) := by omega
    have n2 : ¬ cap = 64 * n := by omega
    clear hcut hr hc hlt hk
    go_enter Tryz.func116, Tryz.ntmps116
    go_wp2_with (first
      | (go_at_call 140; refine (has_any _ len cap zs n w hlen hn hl).mono ?_; rintro e w1 ⟨rfl, rfl⟩; rw [hh])
      | (go_at_call 96; go_loud (refine (size_any _ (len - 64 * n) (cap - 64 * n) 64 (zs.drop (64 * n)) B w HCUT.out hB (by omega) (by omega)).mono ?_; rintro e w1 ⟨g, hg, rfl, hb, hw⟩)))
    go_ret
    rw [HSEC.out]
    exact ⟨g, hg, by rfl, hb, hw⟩
  | false =>
    have HSEC := Lib.hid (show secL zs k = List.replicate 64 0 by unfold secL; rw [if_neg (by rw [hh]; decide)])
    have HR := Lib.hid hr
    clear hr
    go_enter Tryz.func116, Tryz.ntmps116
    go_wp2_with (first
      | (go_at_call 140; refine (has_any _ len cap zs k w hlen hn hl).mono ?_; rintro e w1 ⟨rfl, rfl⟩; rw [hh])
      | (at_make; refine wpList_make_full _ rfl _ _ 29 rfl w.heap.size 5 i0 (.int .u8 0) 1 Tryz.underlying29 hi hz0 hz1 _ _ _ _ 64 rfl rfl rfl rfl (by rw [hz2]; omega) (by unfold maxLen; omega) (Nat.le_refl _) ?_; intro w1 hown hgr; have hb1 : Below w.heap.size w w1 := (Below.refl _ _).grown hgr (Nat.le_refl _) (by simp); have hb : Blk w1 w.heap.size 5 (cellsOf .u8 (List.replicate 64 0)).toArray := made_blk hown; clear hown hgr))
    go_ret
    rw [HSEC.out]
    exact ⟨w.heap.size, Nat.le_refl _, by rfl, hb, hb1⟩

theorem src_take {w : World} {B m n q : Nat} {A : Option Addr} {xs : List Int} {news : List Value} (h : Reads w B 1 A m (cellsOf .u8 xs)) (hn : news = cellsOf .u8 (xs.take n)) (hq : news.length = q) :
    0 < q → ∃ ad, A = some ad ∧ ad.block < B ∧ ∀ j v, news[j]? = some v → w.cell? (ad.add j) = some v := fun h0 => by
  have hm := h.len
  rw [hn, cellsOf_length, List.length_take] at hq
  obtain ⟨ad, e, hb, hc⟩ := h.2 (by omega)
  refine ⟨ad, e, hb, fun j v hj => hc j v ?_⟩
  rw [hn] at hj
  simp only [cellsOf, List.map_take, List.getElem?_take] at hj
  split at hj
  · exact hj
  · cases hj
theorem cellsOf_splice (xs ys : List Int) (off : Nat) : splice (cellsOf .u8 xs) off (cellsOf .u8 ys) = cellsOf .u8 (splice xs off ys) := by
  unfold splice; simp [cellsOf]
theorem blk_splice {w : World} {g off : Nat} {xs ys : List Int} {news : List Value} (h : Blk w g 5 (splice (cellsOf .u8 xs) off news).toArray) (hn : news = cellsOf .u8 ys) : Blk w g 5 (cellsOf .u8 (splice xs off ys)).toArray := by
  rw [← cellsOf_splice, ← hn]; exact h


end Go.Proofs.YtclglbddibjenaaGreat

/-
  THE DOCUMENT'S OWN At OF LAYER 5: its contract.
-/
set_option linter.unusedVariables false
set_option maxRecDepth 100000
set_option linter.unusedSimpArgs false
namespace Go.Proofs.YtclglbddibjenaaGreat
open Go.RowKit

/-- A list up to a place, noughts behind. -/
def partL (l : List Int) (i : Nat) : List Int := l.take i ++ List.replicate (l.length - i) 0
theorem partL_length {l : List Int} {i : Nat} (h : i ≤ l.length) : (partL l i).length = l.length := by
  unfold partL; rw [List.length_append, List.length_take, List.length_replicate]; omega
theorem nz_partL (l : List Int) (i j : Nat) : nz (partL l i) j = if j < i then nz l j else 0 := by
  unfold partL
  rw [nz_append, List.length_take, nz_take, nz_zeros]
  by_cases h : j < i
  · rw [if_pos h]
    by_cases h2 : j < min i l.length
    · rw [if_pos h2]
    · rw [if_neg h2, nz_out (by omega)]
  · rw [if_neg (by omega), if_neg h]
theorem partL_set {l : List Int} {i : Nat} (h : i < l.length) : (partL l i).set i (nz l i) = partL l (i + 1) := by
  have hl := partL_length (l := l) (i := i) (by omega)
  refine ext_nz (by rw [List.length_set, hl, partL_length (by omega)]) fun j hj => ?_
  rw [nz_set _ _ _ _ (by omega), nz_partL, nz_partL]
  by_cases h1 : i = j
  · subst h1; rw [if_pos rfl, if_pos (by omega)]
  · rw [if_neg h1]
    by_cases h2 : j < i
    · rw [if_pos h2, if_pos (by omega)]
    · rw [if_neg h2, if_neg (by omega)]
theorem partL_stay {l : List Int} {i : Nat} (h : i < l.length) (h0 : nz l i = 0) : partL l (i + 1) = partL l i := by
  rw [← partL_set h, h0]
  have hl := partL_length (l := l) (i := i) (by omega)
  refine ext_nz (by rw [List.length_set]) fun j hj => ?_
  rw [nz_set _ _ _ _ (by omega)]
  by_cases h1 : i = j
  · subst h1; rw [if_pos rfl, nz_partL, if_neg (by omega)]
  · rw [if_neg h1]
theorem partL_all {l : List Int} {i : Nat} (h : i = l.length) : partL l i = l := by unfold partL; rw [h]; simp
theorem partL_none (l : List Int) : partL l 0 = List.replicate l.length 0 := by unfold partL; simp

/-- A piece that a call has boxed stays as it is. -/
theorem box_blk {w w1 : World} {t : TypeId} {cs : Array Value} (hw : Below (w.alloc (.cells cs t)).heap.size (w.alloc (.cells cs t)) w1) : Blk w1 w.heap.size t cs := (Blk.new w t _).below hw (by simp)

theorem rat_any (A : Option Addr) (len cap : Nat) (k : Int) (zs : List Int) (B : Nat) (w : World) (hr : Reads w B 1 A len (cellsOf .u8 zs)) (hB : B ≤ w.heap.size) (hl : len ≤ cap) (hcap : cap ≤ 9223372036854775807) (hn : len ≤ 4611686018427387904) :
    Calls Tryz.prog 107 #[.slice A len cap, .int .i64 k] w (Lays (secL zs k) w) := by
  obtain ⟨i0, hi, hz0, hz1, hz2⟩ := info_parts byteInfo
  have hlen := hr.len
  have hsl := secL_length zs k
  have hcn : cntI len = cntN len := cntI_nat _
  have hE : Hid ((∀ (h : hasL zs k = true) (i : Nat), i < 64 → nz (secL zs k) i = nz zs (64 * k.toNat + i)) ∧ (hasL zs k = false → ∀ i, i < 64 → nz (secL zs k) i = 0)) := by
    refine Lib.hid ⟨fun h i hi => ?_, fun h i hi => ?_⟩
    · rw [nz_secL hi, if_pos h]
    · rw [nz_secL hi, if_neg (by rw [h]; decide)]
  obtain ⟨L, hL⟩ : ∃ L, L = secL zs k := ⟨_, rfl⟩
  rw [← hL] at hsl hE
  rw [← hL]
  have hcnt : ∀ w1 : World, Calls Tryz.prog 80 #[.int .i64 (len : Int)] w1 fun e w' => e = .returned (.int .i64 (cntN len : Nat)) ∧ w1 = w' := fun w1 => by
    rw [← hcn]; exact rcount_any len w1 (by omega) (by omega)
  have HCNT := Lib.hid hcnt
  clear hL hcn hcnt
  go_enter Tryz.func107, Tryz.ntmps107
  go_wp2_with (at_make; refine wpList_make_full _ rfl _ _ 29 rfl w.heap.size 5 i0 (.int .u8 0) 1 Tryz.underlying29 hi hz0 hz1 _ _ _ _ 64 rfl rfl rfl rfl (by rw [hz2]; omega) (by unfold maxLen; omega) (Nat.le_refl _) ?_; intro w1 hown hgr; have hb1 : Below w.heap.size w w1 := (Below.refl _ _).grown hgr (Nat.le_refl _) (by simp); have hb : Blk w1 w.heap.size 5 (cellsOf .u8 (List.replicate 64 0)).toArray := made_blk hown; clear hown hgr)
  go_loopw [6] (fun i wr => ∃ q : Nat, q ≤ 64 ∧ i = .int .i64 q ∧ Blk wr w.heap.size 5 (cellsOf .u8 (partL L q)).toArray ∧ Below w.heap.size w wr)
    (fun i _ => 64 - (intOf i).toNat)
  case atStart => exact ⟨0, Nat.zero_le _, rfl, by rw [partL_none, hsl]; exact hb, hb1⟩
  case round =>
    obtain ⟨q, hq, rfl, hblk, hbel⟩ := hrel
    clear hb hb1
    have hpl := partL_length (l := L) (i := q) (by omega)
    have HP := Lib.hid hpl
    clear hpl
    by_cases hlt : q < 64
    · have hlt2 : (q : Int) < 64 := by omega
      cases hh : hasL zs k with
      | true =>
        have hk := hasL_true hh
        obtain ⟨n, rfl⟩ : ∃ n : Nat, k = n := ⟨k.toNat, by omega⟩
        have hn1 := hasL_lt hh
        have hnc : (n : Int) < (cntN len : Nat) := by rw [← hlen]; exact hk.2
        have hn0 : (0 : Int) ≤ n := by omega
        have e1 := hE.out.1 hh q hlt
        simp only [Int.toNat_natCast] at e1 hn1
        rw [hlen] at hn1
        have hm1 : ((n : Int) * 64 : Int) ≤ 4611686018427387904 := by omega
        by_cases hin : 64 * n + q < len
        · obtain ⟨b, off, rfl, hbB, hc⟩ := hr.plain (by omega)
          obtain ⟨x, hx⟩ : ∃ x, x = nz L q := ⟨_, rfl⟩
          have c0 : wr.cell? ⟨b, off + (n * 64 + q), none⟩ = some (.int .u8 x) := by rw [hx, e1]; exact ((hbel.cell (p := ⟨b, off + (n * 64 + q), none⟩) (by show b < _; omega)).trans (by rw [Nat.mul_comm n 64]; exact hc _ hin))
          have cw : ∃ u, wr.cell? ⟨w.heap.size, q, none⟩ = some u := by
            rw [hblk.cell, List.getElem?_toArray, cellsOf_get (by rw [HP.out, hsl]; omega)]; exact ⟨_, rfl⟩
          obtain ⟨u, cw⟩ := cw
          have fw := hblk.frozen q
          have hset := hblk.set_ q (.int .u8 x)
          have hset2 : Blk (wr.setCell ⟨w.heap.size, q, none⟩ (.int .u8 x)) w.heap.size 5 (cellsOf .u8 (partL L (q + 1))).toArray := by
            rw [← partL_set (by omega), ← hx, ← cellsOf_set]
            simpa using hset
          have HSET := Lib.hid hset2
          have HX := Lib.hid hx
          have HR := Lib.hid hr
          have h4 : ((n : Int) * 64 + (q : Int)) < (len : Int) := by omega
          clear hset hset2 hx hr hc e1 hk
          go_wp2_with (go_at_call 80; refine (HCNT.out wr).mono ?_; rintro e w2 ⟨rfl, rfl⟩)
          go_roundw
          case rel => exact ⟨q + 1, by omega, by go_num, HSET.out, hbel.setCell (Nat.le_refl _) _⟩
          case measure => simp [intOf]; omega
        · have e2 : nz L q = 0 := by rw [e1, nz_out (by omega)]
          have HST := Lib.hid (partL_stay (l := L) (i := q) (by omega) e2)
          have HR := Lib.hid hr
          have h4 : ¬ ((n : Int) * 64 + (q : Int)) < (len : Int) := by omega
          clear hr e1 e2 hk
          go_wp2_with (go_at_call 80; refine (HCNT.out wr).mono ?_; rintro e w2 ⟨rfl, rfl⟩)
          go_roundw
          case rel => exact ⟨q + 1, by omega, by go_num, by rw [HST.out]; exact hblk, hbel⟩
          case measure => simp [intOf]; omega
      | false =>
        have hk := hasL_false hh
        rw [hlen] at hk
        have HST := Lib.hid (partL_stay (l := L) (i := q) (by omega) (hE.out.2 hh q hlt))
        have HR := Lib.hid hr
        clear hr
        by_cases h0 : 0 ≤ k
        · have h4 : ¬ k < (cntN len : Nat) := by omega
          clear hk
          go_wp2_with (go_at_call 80; refine (HCNT.out wr).mono ?_; rintro e w2 ⟨rfl, rfl⟩)
          go_roundw
          case rel => exact ⟨q + 1, by omega, by go_num, by rw [HST.out]; exact hblk, hbel⟩
          case measure => simp [intOf]; omega
        · clear hk
          go_wp2
          go_roundw
          case rel => exact ⟨q + 1, by omega, by go_num, by rw [HST.out]; exact hblk, hbel⟩
          case measure => simp [intOf]; omega
    · obtain rfl : q = 64 := by omega
      have hfin := hblk
      rw [partL_all hsl.symm] at hfin
      clear hr hblk
      go_wp2
      go_ret
      exact ⟨_, Nat.le_refl _, by rw [hsl]; rfl, hfin, hbel⟩

end Go.Proofs.YtclglbddibjenaaGreat

/-
  THE DOCUMENT'S OWN Set OF LAYER 5: its contract.
-/
set_option linter.unusedVariables false
set_option maxRecDepth 100000
set_option linter.unusedSimpArgs false
namespace Go.Proofs.YtclglbddibjenaaGreat
open Go.RowKit

theorem setL_none (zs : List Int) (k : Int) : setL zs k [] = zs := by
  unfold setL; split
  · simp [splice]
  · rfl
theorem setL_stay {zs ss : List Int} {k : Int} {i : Nat} (h : 64 ≤ i ∨ ss.length ≤ i ∨ hasL zs k = false ∨ zs.length ≤ 64 * k.toNat + i) : setL zs k (ss.take i) = setL zs k ss := by
  refine ext_nz (by rw [setL_length, setL_length]) fun j hj => ?_
  rw [setL_length] at hj
  rw [nz_setL, nz_setL, nz_take, List.length_take]
  by_cases h2 : hasL zs k = true ∧ 64 * k.toNat ≤ j ∧ j < 64 * k.toNat + 64 ∧ j < 64 * k.toNat + ss.length ∧ j < zs.length
  · obtain ⟨h3, h4⟩ := h2
    have h' : 64 ≤ i ∨ ss.length ≤ i ∨ zs.length ≤ 64 * k.toNat + i := by
      rcases h with h | h | h | h
      · exact .inl h
      · exact .inr (.inl h)
      · rw [h3] at h; cases h
      · exact .inr (.inr h)
    rw [if_pos (c := hasL zs k = true ∧ _) ⟨h3, by omega⟩, if_pos (c := hasL zs k = true ∧ _) ⟨h3, h4⟩, if_pos (by omega)]
  · rw [if_neg h2, if_neg (fun hh => h2 ⟨hh.1, by omega⟩)]
theorem setL_set {zs ss : List Int} {n i : Nat} (hh : hasL zs n = true) (hi : i < ss.length) (h6 : i < 64) (h : 64 * n + i < zs.length) : (setL zs n (ss.take i)).set (64 * n + i) (nz ss i) = setL zs n (ss.take (i + 1)) := by
  refine ext_nz (by rw [List.length_set, setL_length, setL_length]) fun j hj => ?_
  rw [List.length_set, setL_length] at hj
  rw [nz_set _ _ _ _ (by rw [setL_length]; omega), nz_setL, nz_setL, nz_take, nz_take, List.length_take, List.length_take]
  simp only [Int.toNat_natCast]
  by_cases h1 : 64 * n + i = j
  · subst h1
    rw [if_pos rfl, if_pos (c := hasL zs n = true ∧ _) ⟨hh, by omega⟩, if_pos (by omega)]
    congr 1; omega
  · rw [if_neg h1]
    by_cases h2 : 64 * n ≤ j ∧ j < 64 * n + 64 ∧ j < 64 * n + min i ss.length ∧ j < zs.length
    · rw [if_pos (c := hasL zs n = true ∧ _) ⟨hh, h2⟩, if_pos (c := hasL zs n = true ∧ _) ⟨hh, by omega⟩, if_pos (by omega), if_pos (by omega)]
    · rw [if_neg (fun x => h2 x.2), if_neg (by omega)]

/-- An empty row of the call's own, and what is put behind it. -/
theorem below_lit {w w1 : World} {t : TypeId} {n c : Nat} (hg : (w.alloc (.cells #[] t)).grownBy w1 (Value.ownBlock (.slice (some ⟨w.heap.size, 0, none⟩) n c))) : Below w.heap.size w w1 :=
  ((Below.refl _ _).alloc (Nat.le_refl _) _).grown hg (by simp) (fun k hk => by simp [Value.ownBlock] at hk; omega)

theorem rset_any (A : Option Addr) (len cap : Nat) (k : Int) (zs : List Int) (A2 : Option Addr) (m c : Nat) (ss : List Int) (B : Nat) (w : World) (hr : Reads w B 1 A len (cellsOf .u8 zs)) (hs : Reads w B 1 A2 m (cellsOf .u8 ss)) (hB : B ≤ w.heap.size)
    (hl : len ≤ cap) (hcap : cap ≤ 9223372036854775807) (hn : len ≤ 4611686018427) (hm : m ≤ c) (hc : c ≤ 9223372036854775807) :
    Calls Tryz.prog 108 #[.slice A len cap, .int .i64 k, .slice A2 m c] w (Gives (setL zs k ss) w) := by
  obtain ⟨i0, hi, hz0, hz1, hz2⟩ := info_parts byteInfo
  have hlen := hr.len
  have hmm := hs.len
  have hcn : cntI len = cntN len := cntI_nat _
  have hcnt : ∀ w1 : World, Calls Tryz.prog 80 #[.int .i64 (len : Int)] w1 fun e w' => e = .returned (.int .i64 (cntN len : Nat)) ∧ w1 = w' := fun w1 => by
    rw [← hcn]; exact rcount_any len w1 (by omega) (by omega)
  have HCNT := Lib.hid hcnt
  clear hcn hcnt
  go_enter Tryz.func108, Tryz.ntmps108
  go_wp2_with (at_builtin; refine wpList_append_any _ rfl (.tmp 9) (.tmp 10) _ rfl w.heap.size 5 i0 (.int .u8 0) 1 1 Tryz.underlying29 hi hz0 hz1 hz2 rfl (Nat.lt_succ_self 0) _ 0 [] rfl (World.ownsRow_lit w #[] 0 (Nat.le_refl _) (Nat.zero_le _) rfl) B A len cap (cellsOf .u8 zs) rfl (hr.alloc hB _) (cellsOf_one _ _) (by unfold maxLen; omega) (by omega) (by simp) ?_; intro v1 w1 hown1 hg1 hat1; rw [Nat.zero_add, List.nil_append] at hown1; obtain ⟨A1, c1, rfl, hc1, hc2⟩ := own_form hown1; have hb1 := below_lit hg1; clear hg1 hat1)
  go_loopw [8] (fun i wr => ∃ q : Nat, q ≤ m ∧ q ≤ 64 ∧ i = .int .i64 q ∧ wr.ownsRow w.heap.size 5 1 (.slice A1 len c1) len (cellsOf .u8 (setL zs k (ss.take q))) ∧ Below w.heap.size w wr)
    (fun i _ => 64 - (intOf i).toNat)
  case atStart => exact ⟨0, Nat.zero_le _, Nat.zero_le _, rfl, by rw [List.take_zero, setL_none]; exact hown1, hb1⟩
  case round =>
    clear hown1 hb1
    obtain ⟨q, hq, hq6, rfl, hown, hbel⟩ := hrel
    by_cases hlt : q < m ∧ q < 64
    · obtain ⟨hlm, hl6⟩ := hlt
      have k1 : (q : Int) < (m : Int) := by omega
      have k2 : (q : Int) < 64 := by omega
      have k0 : (0 : Int) ≤ (q : Int) := by omega
      cases hh : hasL zs k with
      | true =>
        have hk := hasL_true hh
        obtain ⟨n, rfl⟩ : ∃ n : Nat, k = n := ⟨k.toNat, by omega⟩
        have hn1 := hasL_lt hh
        have hnc : (n : Int) < (cntN len : Nat) := by rw [← hlen]; exact hk.2
        have hn0 : (0 : Int) ≤ n := by omega
        simp only [Int.toNat_natCast] at hn1
        rw [hlen] at hn1
        obtain ⟨g, c2, hv, hgb, hgl⟩ := hown.form (by omega)
        injection hv with hv1 hv2 hv3
        subst hv1; subst hv3
        by_cases hin : 64 * n + q < len
        · obtain ⟨b, off, rfl, hbB, hcs⟩ := hs.plain (by omega)
          obtain ⟨x, hx⟩ : ∃ x, x = nz ss q := ⟨_, rfl⟩
          have c0 : wr.cell? ⟨b, off + q, none⟩ = some (.int .u8 x) := by rw [hx]; exact (hbel.cell (p := ⟨b, off + q, none⟩) (by show b < _; omega)).trans (hcs _ hlm)
          obtain ⟨u, cw⟩ : ∃ u, wr.cell? ⟨g, n * 64 + q, none⟩ = some u := by
            rw [hown.cellAt _ (by omega), cellsOf_get (by rw [setL_length]; omega)]; exact ⟨_, rfl⟩
          have fw := hown.frozenAt (n * 64 + q)
          have hset := (hown.stored (n * 64 + q) (.int .u8 x)).1
          have hset2 : (wr.setCell ⟨g, n * 64 + q, none⟩ (.int .u8 x)).ownsRow w.heap.size 5 1 (.slice (some ⟨g, 0, none⟩) len c1) len (cellsOf .u8 (setL zs n (ss.take (q + 1)))) := by
            rw [← setL_set hh (by omega) hl6 (by omega), ← hx, ← cellsOf_set, Nat.mul_comm 64 n]
            exact hset
          have HSET := Lib.hid hset2
          have HX := Lib.hid hx
          have HS := Lib.hid hs
          have k4 : ((n : Int) * 64 + (q : Int)) < (len : Int) := by omega
          have hne : ¬ b = g := by omega
          clear hset hset2 hx hs hcs hk hr
          go_wp2_with (go_at_call 80; refine (HCNT.out wr).mono ?_; rintro e w2 ⟨rfl, rfl⟩)
          go_roundw
          case rel => exact ⟨q + 1, by omega, by omega, by go_num, HSET.out, hbel.setCell (by show w.heap.size ≤ g; omega) _⟩
          case measure => simp [intOf]; omega
        · have HST := Lib.hid (show setL zs n (ss.take (q + 1)) = setL zs n (ss.take q) by
            rw [setL_stay (by right; right; right; simp; omega), setL_stay (by right; right; right; simp; omega)])
          have HS := Lib.hid hs
          have k4 : ¬ ((n : Int) * 64 + (q : Int)) < (len : Int) := by omega
          clear hs hr hk
          go_wp2_with (go_at_call 80; refine (HCNT.out wr).mono ?_; rintro e w2 ⟨rfl, rfl⟩)
          go_roundw
          case rel => exact ⟨q + 1, by omega, by omega, by go_num, by rw [HST.out]; exact hown, hbel⟩
          case measure => simp [intOf]; omega
      | false =>
        have hk := hasL_false hh
        rw [hlen] at hk
        have HST := Lib.hid (show setL zs k (ss.take (q + 1)) = setL zs k (ss.take q) by
          rw [setL_stay (.inr (.inr (.inl hh))), setL_stay (.inr (.inr (.inl hh)))])
        clear hr hs
        by_cases h0 : 0 ≤ k
        · have h4 : ¬ k < (cntN len : Nat) := by omega
          clear hk
          go_wp2_with (go_at_call 80; refine (HCNT.out wr).mono ?_; rintro e w2 ⟨rfl, rfl⟩)
          go_roundw
          case rel => exact ⟨q + 1, by omega, by omega, by go_num, by rw [HST.out]; exact hown, hbel⟩
          case measure => simp [intOf]; omega
        · clear hk
          go_wp2
          go_roundw
          case rel => exact ⟨q + 1, by omega, by omega, by go_num, by rw [HST.out]; exact hown, hbel⟩
          case measure => simp [intOf]; omega
    · have hfin : setL zs k (ss.take q) = setL zs k ss := setL_stay (by omega)
      rw [hfin] at hown
      have hll := setL_length zs k ss
      rw [hlen] at hll
      have HR := Lib.hid (show Gives (setL zs k ss) w (.returned (.slice A1 len c1)) wr from ⟨A1, c1, by rw [hll], by rw [hll]; exact hown, hbel⟩)
      clear hs hr hfin hown hbel
      by_cases h : q < m
      · have h6 : ¬ (q : Int) < 64 := by omega
        have h7 : (q : Int) < (m : Int) := by omega
        clear hlt
        go_wp2
        go_ret
        exact HR.out
      · have h7 : ¬ (q : Int) < (m : Int) := by omega
        clear hlt
        by_cases h8 : (q : Int) < 64
        · go_wp2
          go_ret
          exact HR.out
        · go_wp2
          go_ret
          exact HR.out

end Go.Proofs.YtclglbddibjenaaGreat

/-
  WHAT Pieces OF PACKAGE sector DOES: its contract.
-/
set_option linter.unusedVariables false
set_option maxRecDepth 100000
set_option linter.unusedSimpArgs false
namespace Go.Proofs.YtclglbddibjenaaGreat
open Go.RowKit

/-- What a reader is told of cells that hold pieces: the first k of them; S is the first sector, f the place in it. -/
structure PcR (w : World) (xs : List Value) (S f : Nat) (bs : List Int) (k : Nat) : Prop where
  at_ : ∀ j, j < k → ∃ A n c, xs[j * 3]? = some (.int .i64 ((S : Int) + (j : Int))) ∧ xs[j * 3 + 1]? = some (.int .i64 (f - 64 * j : Nat)) ∧ xs[j * 3 + 2]? = some (.slice A n c) ∧
    Reads w w.heap.size 1 A n (cellsOf .u8 (pcD f bs j)) ∧ n ≤ c ∧ c ≤ maxLen

/-- A function has told pieces. -/
def GivesP (t : TypeId) (S f : Nat) (bs : List Int) (k : Nat) (w : World) (e : Ending) (w' : World) : Prop :=
  ∃ A c xs, e = .returned (.slice A k c) ∧ w'.ownsRow w.heap.size t 3 (.slice A k c) k xs ∧ PcR w' xs S f bs k ∧ Below w.heap.size w w'

theorem GivesP.none_ (t : TypeId) (S f : Nat) (bs : List Int) (w : World) : GivesP t S f bs 0 w (.returned (.slice none 0 0)) w :=
  ⟨none, 0, [], rfl, World.ownsRow_nil _ _ _ _, ⟨fun j hj => by omega⟩, Below.refl _ _⟩

theorem pieceInfo : (Tryz.prog.info? 143).map (fun i => (i.zero, i.size, i.bytes)) = some (some (.agg #[.int .i64 0, .int .i64 0, .slice none 0 0]), 3, 40) := by kernel_rfl
theorem pieceSize : (Tryz.prog.info? 143).map (·.size) = some 3 := by kernel_rfl

theorem blk_of_full3 {w : World} {base g n : Nat} {e : TypeId} {xs : List Value} (h : w.ownsRow base e 3 (.slice (some ⟨g, 0, none⟩) n n) n xs) : Blk w g e xs.toArray := by
  rcases h.2 with ⟨hv, _⟩ | ⟨g', cap, cur, hv, _, hg, _, _, hs, ht⟩
  · injection hv with h1; cases h1
  · injection hv with h1 _ h3
    injection h1 with h1
    injection h1 with h1
    subst h1; subst h3
    rw [List.take_of_length_le (by simp; omega)] at ht
    subst ht
    exact hg
theorem own_of_blk3 {w : World} {base g n : Nat} {e : TypeId} {xs : List Value} (h : Blk w g e xs.toArray) (hl : xs.length = 3 * n) (hb : base ≤ g) (hn : n ≤ maxLen) : w.ownsRow base e 3 (.slice (some ⟨g, 0, none⟩) n n) n xs :=
  ⟨by omega, .inr ⟨g, n, _, rfl, hb, h, Nat.le_refl _, hn, by rw [List.size_toArray]; omega, List.take_of_length_le (by show xs.length ≤ n * 3; omega)⟩⟩

/-- At the head of each round: the first k pieces stand. -/
structure PcAt (w0 wr : World) (g : Nat) (S f : Nat) (bs : List Int) (n k : Nat) (cur : List Value) : Prop where
  blk : Blk wr g 143 cur.toArray
  len : cur.length = 3 * n
  at_ : ∀ j, j < k → ∃ h, w0.heap.size ≤ h ∧ cur[j * 3]? = some (.int .i64 ((S : Int) + (j : Int))) ∧ cur[j * 3 + 1]? = some (.int .i64 (f - 64 * j : Nat)) ∧
    cur[j * 3 + 2]? = some (.slice (some ⟨h, 0, none⟩) (pcD f bs j).length (pcD f bs j).length) ∧ Blk wr h 5 (cellsOf .u8 (pcD f bs j)).toArray
  below : Below w0.heap.size w0 wr
  le : w0.heap.size ≤ g

theorem get_splice3 {l : List Value} {off j : Nat} {a b c : Value} (h : off + 3 ≤ l.length) : (splice l off [a, b, c])[j]? = if j = off then some a else if j = off + 1 then some b else if j = off + 2 then some c else l[j]? := by
  unfold splice
  rw [List.getElem?_append, List.getElem?_append, List.length_take]
  by_cases h0 : j < off
  · rw [if_pos (by omega), if_neg (by omega), if_neg (by omega), if_neg (by omega), List.getElem?_take, if_pos h0]
  · rw [if_neg (by omega)]
    have e : min off l.length = off := by omega
    rw [e]
    by_cases h1 : j < off + 3
    · rw [if_pos (by simp; omega)]
      obtain h2 | h2 | h2 : j = off ∨ j = off + 1 ∨ j = off + 2 := by omega
      · rw [if_pos h2, h2]; simp
      · rw [if_neg (by omega), if_pos h2, h2]
        rw [show off + 1 - off = 1 by omega]; rfl
      · rw [if_neg (by omega), if_neg (by omega), if_pos h2, h2]
        rw [show off + 2 - off = 2 by omega]; rfl
    · rw [if_neg (by simp; omega), if_neg (by omega), if_neg (by omega), if_neg (by omega), List.getElem?_drop]
      congr 1
      simp
      omega

/-- The next piece is laid. -/
theorem PcAt.next {w0 wr w1 w2 : World} {g S f n k h : Nat} {bs : List Int} {cur : List Value} (H : PcAt w0 wr g S f bs n k cur) (hk : k < n) (hB : Below wr.heap.size wr w1) (hg : wr.heap.size ≤ h)
    (hb : Blk w1 h 5 (cellsOf .u8 (pcD f bs k)).toArray) (hb2 : Blk w2 g 143 (splice cur (k * 3) [.int .i64 ((S : Int) + (k : Int)), .int .i64 (f - 64 * k : Nat), .slice (some ⟨h, 0, none⟩) (pcD f bs k).length (pcD f bs k).length]).toArray)
    (hc : Chg (fun j => j = g) w1 w2) : PcAt w0 w2 g S f bs n (k + 1) (splice cur (k * 3) [.int .i64 ((S : Int) + (k : Int)), .int .i64 (f - 64 * k : Nat), .slice (some ⟨h, 0, none⟩) (pcD f bs k).length (pcD f bs k).length]) := by
  have hl := H.len
  have hgl := H.blk.lt
  have hs := H.below.size
  refine ⟨hb2, by rw [length_splice _ _ _ (by simp; omega), hl], fun j hj => ?_, chg_below2 (H.below.trans (hB.mono hs)) hc H.le (Nat.le_trans hs hB.size), H.le⟩
  by_cases hjk : j = k
  · subst hjk
    refine ⟨h, by omega, ?_, ?_, ?_, hb.chg hc (fun e => by omega)⟩
    · rw [get_splice3 (by omega), if_pos rfl]
    · rw [get_splice3 (by omega), if_neg (by omega), if_pos rfl]
    · rw [get_splice3 (by omega), if_neg (by omega), if_neg (by omega), if_pos rfl]
  · obtain ⟨h', h1, h2, h3, h4, h5⟩ := H.at_ j (by omega)
    refine ⟨h', h1, ?_, ?_, ?_, (h5.below hB h5.lt).chg hc (fun e => ?_)⟩
    · rw [get_splice3 (by omega), if_neg (by omega), if_neg (by omega), if_neg (by omega)]; exact h2
    · rw [get_splice3 (by omega), if_neg (by omega), if_neg (by omega), if_neg (by omega)]; exact h3
    · rw [get_splice3 (by omega), if_neg (by omega), if_neg (by omega), if_neg (by omega)]; exact h4
    · subst e
      exact Blk.ne_ h5 H.blk (by decide) rfl

theorem PcAt.gives {w0 wr : World} {g S f n : Nat} {bs : List Int} {cur : List Value} (H : PcAt w0 wr g S f bs n n cur) (hn : n ≤ maxLen) (hl : bs.length ≤ maxLen) : GivesP 143 S f bs n w0 (.returned (.slice (some ⟨g, 0, none⟩) n n)) wr := by
  refine ⟨_, _, cur, rfl, own_of_blk3 H.blk H.len H.le hn, ⟨fun j hj => ?_⟩, H.below⟩
  obtain ⟨h', h1, h2, h3, h4, h5⟩ := H.at_ j hj
  exact ⟨_, _, _, h2, h3, h4, h5.reads (cellsOf_length _ _), Nat.le_refl _, by rw [pcD_length]; omega⟩

theorem drop_min (l : List Int) (n : Nat) : l.drop (min n l.length) = l.drop n := by
  rcases Nat.le_total n l.length with h | h
  · rw [Nat.min_eq_left h]
  · rw [Nat.min_eq_right h, List.drop_of_length_le (Nat.le_refl _), List.drop_of_length_le h]

theorem pc_one (a b : Int) (v : Value) (hv : v.oneCell' = true := by rfl) : ∀ u ∈ [Value.int .i64 a, Value.int .i64 b, v], u.oneCell' = true := fun u hu => by
  simp at hu
  rcases hu with rfl | rfl | rfl
  · rfl
  · rfl
  · exact hv

theorem ret0 {k : IntKind} {n : Nat} (h : n = 0) : Value.int k 0 = .int k (n : Nat) := by rw [h]; rfl

theorem pieces_neg (at_ : Int) (A : Option Addr) (len cap : Nat) (w : World) (h : at_ < 0) : Calls Tryz.prog 102 #[.int .i64 at_, .slice A len cap] w fun e w' => e = .returned (.slice none 0 0) ∧ w = w' := by
  go_enter Tryz.func102, Tryz.ntmps102
  go_wp2
  go_ret
  exact ⟨rfl, rfl⟩

set_option maxHeartbeats 1000000 in
theorem pieces_nat (at_ : Nat) (A : Option Addr) (len cap : Nat) (bs : List Int) (B : Nat) (w : World) (hr : Reads w B 1 A len (cellsOf .u8 bs)) (hB : B ≤ w.heap.size) (hl : len ≤ cap) (hcap : cap ≤ 9223372036854775807) (hn : len ≤ 1073741824) (hat : at_ ≤ 4611686018427387904) :
    Calls Tryz.prog 102 #[.int .i64 at_, .slice A len cap] w (GivesP 143 (at_ / 64) (at_ % 64) bs (pcN (at_ % 64) len) w) := by
  obtain ⟨i0, hi, hz0, hz1, hz2⟩ := info_parts pieceInfo
  have hlen := hr.len
  have ha0 : ¬ (at_ : Int) < 0 := by omega
  by_cases h0 : len = 0
  · subst h0
    have HR := Lib.hid hr
    have hK : pcN (at_ % 64) 0 = 0 := rfl
    clear hr
    go_enter Tryz.func102, Tryz.ntmps102
    go_wp2
    go_ret
    exact GivesP.none_ _ _ _ _ _
  obtain ⟨S, hS⟩ : ∃ S, S = at_ / 64 := ⟨_, rfl⟩
  obtain ⟨f, hf⟩ : ∃ f, f = at_ % 64 := ⟨_, rfl⟩
  obtain ⟨K, hK⟩ : ∃ K, K = pcN f len := ⟨_, rfl⟩
  rw [← hS, ← hf, ← hK]
  have hf6 : f < 64 := by omega
  have hS6 : S ≤ 72057594037927936 := by omega
  have t1 : (at_ : Int).tdiv 64 = (S : Int) := by rw [Int.tdiv_eq_ediv_of_nonneg (by omega)]; omega
  have t2 : (at_ : Int).tmod 64 = (f : Int) := by rw [Int.tmod_eq_emod_of_nonneg (by omega)]; omega
  have hK2 : K ≤ 16777300 := by have := pcN_le f len hf6; omega
  have hKn : cntI ((f : Int) + (len : Int)) = (K : Int) := by
    rw [← Int.natCast_add, cntI_nat, hK]; unfold pcN; rw [if_neg h0]
  have hlt : ∀ i, i < K ↔ 64 * i - f < len := fun i => by rw [hK]; exact pcN_lt hf6
  have HCNT := Lib.hid (fun w1 : World => by have := count_any ((f : Int) + (len : Int)) w1 (by omega) (by omega); rw [hKn] at this; exact this)
  have h0' : ¬ (len : Int) = 0 := by omega
  clear hS hf hK hKn
  go_enter Tryz.func102, Tryz.ntmps102
  go_wp2_with (first
    | (go_at_call 82; refine (HCNT.out _).mono ?_; rintro e w1 ⟨rfl, rfl⟩)
    | (at_make; go_loud (refine wpList_make_full _ rfl _ _ 140 rfl w.heap.size 143 i0 _ 3 Tryz.underlying140 hi hz0 hz1 _ _ _ _ K rfl rfl rfl rfl (by rw [hz2]; omega) (by unfold maxLen; omega) (Nat.le_refl _) ?_; intro w1 hown hgr; have hb1 : Below w.heap.size w w1 := (Below.refl _ _).grown hgr (Nat.le_refl _) (by simp); have hbk := blk_of_full3 hown; have hcl := hown.1; clear hown hgr)))
  go_loopw [1, 6, 30] (fun b fr i wr => ∃ (k m c : Nat) (A' : Option Addr) (cur : List Value), k ≤ K ∧ i = .int .i64 k ∧ fr = .int .i64 (f - 64 * k : Nat) ∧ b = .slice A' m c ∧ Hid (m = len - (64 * k - f)) ∧ m ≤ c ∧ c ≤ 9223372036854775807 ∧
      Hid (Reads w w.heap.size 1 A' m (cellsOf .u8 (bs.drop (64 * k - f)))) ∧ PcAt w wr w.heap.size S f bs K k cur) (fun _ _ i _ => K - (intOf i).toNat)
  case atStart =>
    refine ⟨0, len, cap, A, _, Nat.zero_le _, rfl, rfl, rfl, Lib.hid (by omega), hl, hcap, Lib.hid ?_, hbk, by omega, fun j hj => by omega, hb1, Nat.le_refl _⟩
    rw [show 64 * 0 - f = 0 by omega]; exact hr.more hB
  case round =>
    clear hbk hcl hb1 hr
    obtain ⟨k, m, c, A', cur, hk, rfl, rfl, rfl, hm, hmc, hcc, hrd, H⟩ := hrel
    obtain ⟨fr, hfr⟩ : ∃ fr, fr = f - 64 * k := ⟨_, rfl⟩
    rw [← hfr]
    by_cases hlk : k < K
    · have hm0 := (hlt k).1 hlk
      have hmm := hm.out
      obtain ⟨q, hq⟩ : ∃ q, q = min (64 - fr) m := ⟨_, rfl⟩
      have hpl : (pcD f bs k).length = q := by rw [pcD_length]; omega
      have hsz : sizeL (bs.drop (64 * k - f)) q = pcD f bs k := by
        rw [← pcD_front hf6, ← hfr]
        unfold sizeL
        rw [List.length_drop, show q - (bs.length - (64 * k - f)) = 0 by omega]
        simp only [List.replicate_zero, List.append_nil]
        rcases Nat.le_total (64 - fr) m with h | h
        · rw [show q = 64 - fr by omega]
        · rw [List.take_of_length_le (by rw [List.length_drop]; omega), List.take_of_length_le (by rw [List.length_drop]; omega)]
      have HSZ := Lib.hid (fun (w1 : World) (hb : Below w.heap.size w w1) => by
        have := size_any A' m c q (bs.drop (64 * k - f)) w.heap.size w1 (hrd.out.below hb) hb.size (by omega) hmc
        rw [hsz] at this
        exact this)
      obtain ⟨A2, hA2⟩ : ∃ A2, (if c = q then A' else A'.map (·.add q)) = A2 := ⟨_, rfl⟩
      have hcut := hrd.out.cut (k := q) (cap := c) (by omega) hmc
      rw [Nat.mul_one, hA2, cellsOf_drop, List.drop_drop, show 64 * k - f + q = min (64 * (k + 1) - f) bs.length by omega, drop_min] at hcut
      have n7 : (if (m : Int) < 64 - (fr : Int) then (m : Int) else 64 - (fr : Int)) = (q : Int) := by split <;> omega
      have n8 : (q : Int) ≤ (c : Int) := by omega
      have n9 : (q : Int) ≤ (m : Int) := by omega
      have hql : q ≤ m := by omega
      have HPL := Lib.hid hpl
      have HH := Lib.hid H
      have HFR := Lib.hid hfr
      have HCUT := Lib.hid hcut
      have HQ := Lib.hid hq
      have HM := Lib.hid hmm
      have hblk := H.blk
      clear hpl hsz hcut hq hmm hfr hm0 hlt H hm hrd
      have hfit : k * 3 + 3 ≤ cur.length := by rw [HH.out.len]; omega
      go_wp2_with (first
        | (go_at_call 96; refine (HSZ.out _ HH.out.below).mono ?_; rintro e w2 ⟨gd, hh, rfl, hb, hw⟩; rw [HPL.out]; have hblk2 := hblk.below hw hblk.lt)
        | (show wpList _ _ _ (Oper.mk none (.store 143 (.tmp 48) (.tmp 47)) _ _ _ _ :: _) _ _; refine wpList_store_blk (op := ⟨none, .store 143 (.tmp 48) (.tmp 47), _, _, _, _⟩) rfl 143 _ _ rfl w.heap.size (k * 3) rfl [.int .i64 ((S : Int) + (k : Int)), .int .i64 (fr : Int), .slice (some ⟨gd, 0, none⟩) q q] rfl cur 143 hblk2 pieceSize hfit (pc_one _ _ _) ?_ rfl; intro w4 hb4 hc4))
      have hnx := HH.out.next hlk hw hh hb (by rw [HPL.out, ← HFR.out]; exact hb4.out) hc4
      have HNX := Lib.hid hnx
      clear hnx hb4 hc4 hb hblk2
      go_roundw
      case rel =>
        exact ⟨k + 1, m - q, c - q, A2, _, by omega, by go_num, ret0 (by omega), rfl, Lib.hid (by have := HM.out; have := HQ.out; have := HFR.out; omega), by omega, by omega, HCUT, HNX.out⟩
      case measure => simp [intOf]; omega
    · obtain rfl : k = K := by omega
      have HG := Lib.hid (H.gives (by unfold maxLen; omega) (by unfold maxLen; omega))
      clear H hrd hm
      go_wp2
      go_ret
      exact HG.out

end Go.Proofs.YtclglbddibjenaaGreat

/-
  THE DOCUMENT'S OWN Same OF LAYER 1: whether two slices of bytes are alike: its contract.
-/
set_option linter.unusedVariables false
namespace Go.Proofs.YtclglbddibjenaaGreat
open Go.RowKit

theorem same_any {B B' : Nat} (A A' : Option Addr) (n n' c c' : Nat) (xs ys : List Int) (w : World) (hx : Reads w B 1 A n (cellsOf .u8 xs)) (hy : Reads w B' 1 A' n' (cellsOf .u8 ys)) (bx : AreB xs) (byy : AreB ys) :
    Calls Tryz.prog 23 #[.slice A n c, .slice A' n' c'] w fun e w' => e = .returned (.bool (decide (xs = ys))) ∧ w = w' := by
  have h1 := run_text (P := Tryz.prog) 29 5 9 Tryz.underlying29 Tryz.underlying5 Tryz.underlying9 hx c
  have h2 := run_text (P := Tryz.prog) 29 5 9 Tryz.underlying29 Tryz.underlying5 Tryz.underlying9 hy c'
  clear hx hy
  go_enter Tryz.func23, Tryz.ntmps23
  go_wp2
  go_ret
  exact ⟨ret_bool (strOfNums_beq bx byy), rfl⟩

theorem same_yes {B B' : Nat} (A A' : Option Addr) (n n' c c' : Nat) (xs ys : List Int) (w : World) (hx : Reads w B 1 A n (cellsOf .u8 xs)) (hy : Reads w B' 1 A' n' (cellsOf .u8 ys)) (bx : AreB xs) (h : Hid (xs = ys)) :
    Calls Tryz.prog 23 #[.slice A n c, .slice A' n' c'] w fun e w' => e = .returned (.bool true) ∧ w = w' :=
  (same_any A A' n n' c c' xs ys w hx hy bx (h.out ▸ bx)).mono fun _ _ ⟨he, hw⟩ => ⟨by rw [he, decide_eq_true h.out], hw⟩

end Go.Proofs.YtclglbddibjenaaGreat
