/-
  PLAIN MATHEMATICS FOR LAYER 5, of no program: bytes of a size, a sector of bytes, bytes with another sector, a piece laid over a sector, the pieces of a write.
-/
import Derived.Test.YtdpoffedmafmhaaLeMath
import Derived.Laws.CopyOwn
set_option linter.unusedVariables false
namespace Go.Proofs.Ytdpoffedmafmhaa
open Go.RowKit

/-! ### lists by their places -/
def nz (zs : List Int) (j : Nat) : Int := zs.getD j 0
theorem nz_out {zs : List Int} {j : Nat} (h : zs.length ≤ j) : nz zs j = 0 := by
  unfold nz; rw [List.getD_eq_getElem?_getD, List.getElem?_eq_none h]; rfl
theorem nz_in {zs : List Int} {j : Nat} (h : j < zs.length) : nz zs j = zs[j] := by
  unfold nz; rw [List.getD_eq_getElem?_getD, List.getElem?_eq_getElem h]; rfl
theorem nz_get {zs : List Int} {j : Nat} (h : j < zs.length) : zs[j]? = some (nz zs j) := by rw [nz_in h]; exact List.getElem?_eq_getElem h
theorem ext_nz {a b : List Int} (hl : a.length = b.length) (h : ∀ j, j < a.length → nz a j = nz b j) : a = b := by
  apply List.ext_getElem? fun j => ?_
  by_cases hj : j < a.length
  · rw [nz_get hj, nz_get (by omega), h j hj]
  · rw [List.getElem?_eq_none (by omega), List.getElem?_eq_none (by omega)]
theorem nz_take (zs : List Int) (n j : Nat) : nz (zs.take n) j = if j < n then nz zs j else 0 := by
  unfold nz
  simp only [List.getD_eq_getElem?_getD, List.getElem?_take]
  split <;> rfl
theorem nz_drop (zs : List Int) (n j : Nat) : nz (zs.drop n) j = nz zs (n + j) := by
  unfold nz
  simp only [List.getD_eq_getElem?_getD, List.getElem?_drop]
theorem nz_append (a b : List Int) (j : Nat) : nz (a ++ b) j = if j < a.length then nz a j else nz b (j - a.length) := by
  unfold nz
  simp only [List.getD_eq_getElem?_getD, List.getElem?_append]
  split <;> rfl
theorem nz_zeros (n j : Nat) : nz (List.replicate n 0) j = 0 := by
  unfold nz
  simp only [List.getD_eq_getElem?_getD, List.getElem?_replicate]
  split <;> rfl
theorem nz_splice (l cs : List Int) (off j : Nat) (h : off ≤ l.length) : nz (splice l off cs) j = if off ≤ j ∧ j < off + cs.length then nz cs (j - off) else nz l j := by
  unfold splice
  rw [nz_append, nz_append, nz_drop, nz_take, List.length_take]
  by_cases h1 : j < off
  · rw [if_pos (by omega), if_pos h1, if_neg (by omega)]
  · rw [if_neg (by omega)]
    by_cases h2 : j < off + cs.length
    · rw [if_pos (by omega), if_pos (by omega)]; congr 1; omega
    · rw [if_neg (by omega), if_neg (by omega)]; congr 1; omega
theorem nz_set (l : List Int) (i j : Nat) (x : Int) (h : i < l.length) : nz (l.set i x) j = if i = j then x else nz l j := by
  unfold nz
  simp only [List.getD_eq_getElem?_getD, List.getElem?_set]
  split
  · rfl
  · rfl
theorem nz_snoc (l : List Int) (x : Int) (j : Nat) : nz (l ++ [x]) j = if j < l.length then nz l j else if j = l.length then x else 0 := by
  rw [nz_append]
  split
  · rfl
  · by_cases h : j = l.length
    · rw [if_pos h, h, Nat.sub_self]; rfl
    · rw [if_neg h, nz_out (by simp; omega)]
theorem AreB.nz {l : List Int} (h : AreB l) (i : Nat) : 0 ≤ nz l i ∧ nz l i < 256 := h.get i

/-! ### bytes of a size -/
def sizeL (zs : List Int) (n : Nat) : List Int := zs.take n ++ List.replicate (n - zs.length) 0
theorem sizeL_length (zs : List Int) (n : Nat) : (sizeL zs n).length = n := by
  unfold sizeL; rw [List.length_append, List.length_take, List.length_replicate]; omega
theorem nz_sizeL (zs : List Int) (n j : Nat) : nz (sizeL zs n) j = if j < n then nz zs j else 0 := by
  unfold sizeL
  rw [nz_append, List.length_take, nz_take, nz_zeros]
  by_cases h : j < n
  · rw [if_pos h]
    by_cases h2 : j < min n zs.length
    · rw [if_pos h2]
    · rw [if_neg h2, nz_out (by omega)]
  · rw [if_neg (by omega), if_neg h]
theorem sizeL_bytes {zs : List Int} (h : AreB zs) (n : Nat) : AreB (sizeL zs n) := (h.take n).append (AreB.zeros _)
theorem sizeL_self (zs : List Int) : sizeL zs zs.length = zs := by unfold sizeL; simp
theorem sizeL_zero (zs : List Int) : sizeL zs 0 = [] := by unfold sizeL; simp
theorem sizeL_snoc (zs : List Int) (n : Nat) : sizeL zs (n + 1) = sizeL zs n ++ [nz zs n] := by
  refine ext_nz (by rw [List.length_append, sizeL_length, sizeL_length]; rfl) fun j hj => ?_
  rw [sizeL_length] at hj
  rw [nz_sizeL, if_pos hj, nz_snoc, sizeL_length, nz_sizeL]
  by_cases h : j < n
  · rw [if_pos h, if_pos h]
  · rw [if_neg h, if_pos (by omega)]; congr 1; omega
/-- What copying into noughts gives. -/
theorem sizeL_splice (zs : List Int) (n : Nat) : splice (List.replicate n 0) 0 (zs.take n) = sizeL zs n := by
  unfold splice sizeL
  simp only [List.take_zero, List.nil_append, List.drop_replicate, List.length_take]
  congr 2
  omega

theorem splice_bytes {l cs : List Int} (hl : AreB l) (hc : AreB cs) (off : Nat) : AreB (splice l off cs) := (hl.take off).append (hc.append (hl.drop _))

/-! ### sectors -/
def cntN (n : Nat) : Nat := (n + 63) / 64
def cntI (n : Int) : Int := if n < 1 then 0 else (n + 63) / 64
theorem cntI_nat (n : Nat) : cntI n = cntN n := by unfold cntI cntN; split <;> omega

def hasL (zs : List Int) (k : Int) : Bool := decide (0 ≤ k) && decide (k < cntN zs.length)
theorem hasL_true {zs : List Int} {k : Int} (h : hasL zs k = true) : 0 ≤ k ∧ k < cntN zs.length := by unfold hasL at h; simpa using h
theorem hasL_false {zs : List Int} {k : Int} (h : hasL zs k = false) : k < 0 ∨ (cntN zs.length : Int) ≤ k := by
  unfold hasL at h
  by_cases h0 : 0 ≤ k
  · right; simp [h0] at h; omega
  · left; omega

/-- Sector k of bytes. -/
def secL (zs : List Int) (k : Int) : List Int := if hasL zs k then sizeL (zs.drop (64 * k.toNat)) 64 else List.replicate 64 0
theorem secL_length (zs : List Int) (k : Int) : (secL zs k).length = 64 := by
  unfold secL
  split
  · exact sizeL_length _ _
  · exact List.length_replicate
theorem secL_bytes {zs : List Int} (h : AreB zs) (k : Int) : AreB (secL zs k) := by
  unfold secL
  split
  · exact sizeL_bytes (h.drop _) _
  · exact AreB.zeros _
theorem nz_secL {zs : List Int} {k : Int} {j : Nat} (hj : j < 64) : nz (secL zs k) j = if hasL zs k = true then nz zs (64 * k.toNat + j) else 0 := by
  unfold secL
  split
  · rw [nz_sizeL, if_pos hj, nz_drop]
  · exact nz_zeros _ _

/-- Bytes with another sector. -/
def setL (zs : List Int) (k : Int) (s : List Int) : List Int := if hasL zs k then splice zs (64 * k.toNat) ((s.take 64).take (zs.length - 64 * k.toNat)) else zs
theorem hasL_lt {zs : List Int} {k : Int} (h : hasL zs k = true) : 64 * k.toNat < zs.length := by
  have := hasL_true h
  unfold cntN at this
  omega
theorem setL_length (zs : List Int) (k : Int) (s : List Int) : (setL zs k s).length = zs.length := by
  unfold setL
  split
  · next h =>
    have := hasL_lt h
    rw [length_splice _ _ _ (by simp only [List.length_take]; omega)]
  · rfl
theorem setL_bytes {zs s : List Int} (h : AreB zs) (hs : AreB s) (k : Int) : AreB (setL zs k s) := by
  unfold setL
  split
  · exact splice_bytes h ((hs.take _).take _) _
  · exact h
theorem nz_setL (zs s : List Int) (k : Int) (j : Nat) : nz (setL zs k s) j = if hasL zs k = true ∧ 64 * k.toNat ≤ j ∧ j < 64 * k.toNat + 64 ∧ j < 64 * k.toNat + s.length ∧ j < zs.length then nz s (j - 64 * k.toNat) else nz zs j := by
  unfold setL
  by_cases h : hasL zs k = true
  · have hl := hasL_lt h
    rw [if_pos h, nz_splice _ _ _ _ (by omega), nz_take, nz_take]
    simp only [List.length_take]
    by_cases h1 : 64 * k.toNat ≤ j ∧ j < 64 * k.toNat + 64 ∧ j < 64 * k.toNat + s.length ∧ j < zs.length
    · rw [if_pos (by omega), if_pos (by omega), if_pos (by omega), if_pos ⟨h, h1⟩]
    · rw [if_neg (by omega), if_neg (fun hh => h1 hh.2)]
  · rw [if_neg h, if_neg (fun hh => h hh.1)]

/-- A piece laid over a sector. -/
def layL (old : List Int) (frm : Int) (data : List Int) : List Int := if 0 ≤ frm ∧ frm ≤ 64 then splice (sizeL old 64) frm.toNat (data.take (64 - frm.toNat)) else sizeL old 64
theorem layL_length (old : List Int) (frm : Int) (data : List Int) : (layL old frm data).length = 64 := by
  unfold layL
  split
  · rw [length_splice _ _ _ (by rw [sizeL_length, List.length_take]; omega), sizeL_length]
  · exact sizeL_length _ _
theorem layL_bytes {old data : List Int} (h : AreB old) (hd : AreB data) (frm : Int) : AreB (layL old frm data) := by
  unfold layL
  split
  · exact splice_bytes (sizeL_bytes h _) (hd.take _) _
  · exact sizeL_bytes h _
theorem nz_layL (old data : List Int) (frm : Int) {j : Nat} (hj : j < 64) : nz (layL old frm data) j = if 0 ≤ frm ∧ frm ≤ 64 ∧ frm.toNat ≤ j ∧ j < frm.toNat + data.length then nz data (j - frm.toNat) else nz old j := by
  unfold layL
  by_cases h : 0 ≤ frm ∧ frm ≤ 64
  · rw [if_pos h, nz_splice _ _ _ _ (by rw [sizeL_length]; omega), nz_take, List.length_take, nz_sizeL, if_pos hj]
    by_cases h1 : frm.toNat ≤ j ∧ j < frm.toNat + data.length
    · rw [if_pos (by omega), if_pos (by omega), if_pos ⟨h.1, h.2, h1⟩]
    · rw [if_neg (by omega), if_neg (fun hh => h1 hh.2.2)]
  · rw [if_neg h, if_neg (fun hh => h ⟨hh.1, hh.2.1⟩), nz_sizeL, if_pos hj]

/-! ### pieces: f is the place in the first sector, i the piece's number -/
def pcN (f len : Nat) : Nat := if len = 0 then 0 else cntN (f + len)
def pcD (f : Nat) (bs : List Int) (i : Nat) : List Int := (bs.take (64 * (i + 1) - f)).drop (64 * i - f)
theorem pcD_length (f : Nat) (bs : List Int) (i : Nat) : (pcD f bs i).length = min (64 * (i + 1) - f) bs.length - (64 * i - f) := by
  unfold pcD; rw [List.length_drop, List.length_take]
theorem pcD_bytes {bs : List Int} (h : AreB bs) (f i : Nat) : AreB (pcD f bs i) := (h.take _).drop _
theorem nz_pcD (f : Nat) (bs : List Int) (i j : Nat) (h : j < (pcD f bs i).length) : nz (pcD f bs i) j = nz bs (64 * i - f + j) := by
  rw [pcD_length] at h
  unfold pcD
  rw [nz_drop, nz_take, if_pos (by omega)]
/-- What the program takes off the front of what is left is the piece. -/
theorem pcD_front {f i : Nat} {bs : List Int} (hf : f < 64) : (bs.drop (64 * i - f)).take (64 - (f - 64 * i)) = pcD f bs i := by
  unfold pcD
  rw [List.drop_take]
  congr 1
  omega
theorem pcN_le (f len : Nat) (hf : f < 64) : pcN f len ≤ len / 64 + 2 := by unfold pcN cntN; split <;> omega
theorem pcN_lt {f len i : Nat} (hf : f < 64) : i < pcN f len ↔ 64 * i - f < len := by
  unfold pcN cntN
  split <;> omega

/-- Bytes with others from a place on (there is room). -/
def wrL (zs : List Int) (at_ : Nat) (xs : List Int) : List Int := splice zs at_ xs
theorem wrL_length {zs xs : List Int} {a : Nat} (h : a + xs.length ≤ zs.length) : (wrL zs a xs).length = zs.length := length_splice _ _ _ h

/-- Piece by piece: what has been written up to the i-th piece, and that one laid over its sector. -/
theorem wrL_step {zs xs : List Int} {a i : Nat} (h : a + xs.length ≤ zs.length) (hi : i < pcN (a % 64) xs.length) :
    setL (wrL zs a (xs.take (64 * i - a % 64))) ((a / 64 + i : Nat) : Int) (layL (secL (wrL zs a (xs.take (64 * i - a % 64))) ((a / 64 + i : Nat) : Int)) ((a % 64 - 64 * i : Nat) : Int) (pcD (a % 64) xs i))
      = wrL zs a (xs.take (64 * (i + 1) - a % 64)) := by
  have hi' := (pcN_lt (Nat.mod_lt a (by omega))).1 hi
  have hf := Nat.mod_lt a (show 0 < 64 by omega)
  have hd := Nat.div_add_mod a 64
  generalize hF : a % 64 = f at *
  generalize hS : a / 64 = s at *
  have hl1 : (wrL zs a (xs.take (64 * i - f))).length = zs.length := wrL_length (by rw [List.length_take]; omega)
  have hl2 : (wrL zs a (xs.take (64 * (i + 1) - f))).length = zs.length := wrL_length (by rw [List.length_take]; omega)
  have hh : hasL (wrL zs a (xs.take (64 * i - f))) ((s + i : Nat) : Int) = true := by
    unfold hasL cntN; rw [hl1]
    simp
    omega
  refine ext_nz (by rw [setL_length, hl1, hl2]) fun j hj => ?_
  rw [setL_length, hl1] at hj
  have ht : ((s + i : Nat) : Int).toNat = s + i := by omega
  have ht2 : ((f - 64 * i : Nat) : Int).toNat = f - 64 * i := by omega
  rw [nz_setL, hl1, layL_length, ht]
  have hw : ∀ n j, nz (wrL zs a (xs.take n)) j = if a ≤ j ∧ j < a + min n xs.length then nz xs (j - a) else nz zs j := fun n j => by
    unfold wrL
    rw [nz_splice _ _ _ _ (by omega), List.length_take, nz_take]
    by_cases hc : a ≤ j ∧ j < a + min n xs.length
    · rw [if_pos hc, if_pos (by omega), if_pos hc]
    · rw [if_neg hc, if_neg hc]
  by_cases hin : 64 * (s + i) ≤ j ∧ j < 64 * (s + i) + 64
  · rw [if_pos ⟨hh, by omega, by omega, by omega, by omega⟩, nz_layL _ _ _ (by omega), ht2, pcD_length]
    by_cases h2 : f - 64 * i ≤ j - 64 * (s + i) ∧ j - 64 * (s + i) < f - 64 * i + (min (64 * (i + 1) - f) xs.length - (64 * i - f))
    · rw [if_pos ⟨by omega, by omega, h2⟩, nz_pcD _ _ _ _ (by rw [pcD_length]; omega), hw, if_pos (by omega)]
      congr 1
      omega
    · rw [if_neg (fun hx => h2 hx.2.2), nz_secL (by omega), if_pos hh, ht, hw, hw]
      have e : 64 * (s + i) + (j - 64 * (s + i)) = j := by omega
      rw [e]
      by_cases h3 : a ≤ j ∧ j < a + min (64 * i - f) xs.length
      · rw [if_pos h3, if_pos (by omega)]
      · rw [if_neg h3, if_neg (by omega)]
  · rw [if_neg (by omega), hw, hw]
    by_cases h3 : a ≤ j ∧ j < a + min (64 * i - f) xs.length
    · rw [if_pos h3, if_pos (by omega)]
    · rw [if_neg h3, if_neg (by omega)]

/-- One byte more of what is written. -/
theorem wrL_set {zs xs : List Int} {a i : Nat} (h : a + xs.length ≤ zs.length) (hi : i < xs.length) : (wrL zs a (xs.take i)).set (a + i) (nz xs i) = wrL zs a (xs.take (i + 1)) := by
  have hl1 : (wrL zs a (xs.take i)).length = zs.length := wrL_length (by rw [List.length_take]; omega)
  have hl2 : (wrL zs a (xs.take (i + 1))).length = zs.length := wrL_length (by rw [List.length_take]; omega)
  refine ext_nz (by rw [List.length_set, hl1, hl2]) fun j hj => ?_
  rw [List.length_set, hl1] at hj
  rw [nz_set _ _ _ _ (by omega)]
  unfold wrL
  rw [nz_splice _ _ _ _ (by omega), nz_splice _ _ _ _ (by omega), nz_take, nz_take, List.length_take, List.length_take]
  by_cases h1 : a + i = j
  · subst h1
    rw [if_pos rfl, if_pos (by omega), if_pos (by omega)]
    congr 1; omega
  · rw [if_neg h1]
    by_cases h2 : a ≤ j ∧ j < a + min i xs.length
    · rw [if_pos h2, if_pos (by omega), if_pos (by omega), if_pos (by omega)]
    · rw [if_neg h2, if_neg (by omega)]
theorem wrL_none (zs : List Int) (a : Nat) : wrL zs a [] = zs := by unfold wrL splice; simp
theorem wrL_bytes {zs xs : List Int} (h : AreB zs) (hx : AreB xs) (a : Nat) : AreB (wrL zs a xs) := splice_bytes h hx a

end Go.Proofs.Ytdpoffedmafmhaa
