import Derived.Test.YtgcmbgniaffdlaaGreatLTa
set_option linter.unusedVariables false
set_option maxRecDepth 100000
set_option linter.unusedSimpArgs false
namespace Go.Proofs.YtgcmbgniaffdlaaGreat
open Go.RowKit
structure ARow where
 t : Nat
 its : List Int
 at_ : Nat
def alen (n : Nat) : Nat := 24 + 8 * n
def aO (r : ARow) (z : Int) : List Int := encO 4 [z] [] r.its
def chainA (t : Nat) (l : List ARow) : List ARow := l.filter fun r => r.t == t
structure ARow.Fine (r : ARow) : Prop where
 len : 1 <= r.its.length /\ r.its.length <= 1024
 us : ∀ x ∈ r.its, IsU x
 al : r.at_ % 8 = 0
theorem padn_alen (n : Nat) : padn (24 + 8 * n) 8 = 0 := by
 unfold padn
 rw [if_neg (by omega), if_pos (by omega)]
def linkedA (b : List Int) : Int -> List ARow -> Prop
 | p, [] => p = 0
 | p, r :: L => p = r.at_ /\ ∃ z, IsU z /\ HoldsB b r.at_ (aO r z) /\ linkedA b z L
structure CB (lo : Nat) (roots : Nat -> Nat) (N : Nat) (b : List Int) (l : List ARow) : Prop where
 al : b.length % 8 = 0
 low : lo <= b.length
 most : b.length <= 1099511627776
 rt : ∀ t, t < N -> roots t % 8 = 0 /\ 192 <= roots t /\ roots t + 8 <= lo
 ap : ∀ t t', t < N -> t' < N -> t ≠ t' -> roots t + 8 <= roots t' ∨ roots t' + 8 <= roots t
 fine : ∀ r ∈ l, r.Fine /\ r.t < N /\ lo <= r.at_ /\ r.at_ + alen r.its.length <= b.length
 rise : l.Pairwise (fun r r' => r.at_ + alen r.its.length <= r'.at_)
 chains : ∀ t, t < N -> linkedA b (gnum b (roots t : Nat) 8) (chainA t l)
theorem gnum_nought {b : List Int} {p : Nat} (hp : p + 8 <= b.length) (hz : ∀ j, p <= j -> nz b j = 0) : gnum b (p : Nat) 8 = 0 := by
 unfold gnum
 have g1 : gok b.length (p : Nat) 8 = true := by simp [gok]; omega
 have h8 : (8 : Int).toNat = 8 := rfl
 rw [g1, if_pos rfl, Int.toNat_natCast, h8]
 have e : (b.drop p).take 8 = List.replicate 8 0 := by
   refine ext_nz (by rw [List.length_take, List.length_drop, List.length_replicate]; omega) fun j hj => ?_
   rw [List.length_take] at hj
   rw [nz_take, if_pos (by omega), nz_drop, hz _ (by omega)]
   exact (nz_of_all (fun z hz => (List.mem_replicate.1 hz).2) j).symm
 rw [e]; decide
def roots2 (t : Nat) : Nat := 192 + 8 * t
def sizeC (n : Nat) : Nat := min (4 * 2 ^ n) 1024
def roomC : Nat -> Nat
 | 0 => 0
 | n + 1 => roomC n + sizeC n
theorem sizeC_bd (n : Nat) : 4 <= sizeC n /\ sizeC n <= 1024 := by
 have : 0 < 2 ^ n := Nat.two_pow_pos n
 unfold sizeC
 omega
theorem sizeC_most {n : Nat} (h : sizeC n = 1024) : sizeC (n + 1) = 1024 := by
 have h5 : 2 ^ (n + 1) = 2 ^ n * 2 := Nat.pow_succ 2 n
 unfold sizeC at h ⊢
 omega
theorem sizeC_big {n m : Nat} (h : sizeC n = 1024) (hm : n <= m) : sizeC m = 1024 := by
 induction m with
 | zero => rw [show n = 0 by omega] at h; exact h
 | succ k ih =>
   by_cases e : n = k + 1
   · rw [<- e]; exact h
   · exact sizeC_most (ih (by omega))
def catA (c : List ARow) : List Int := (c.map (·.its)).flatten
theorem catA_snoc (c : List ARow) (r : ARow) : catA (c ++ [r]) = catA c ++ r.its := by simp [catA]
def SizedA (c : List ARow) : Prop := ∀ j r, c[j]? = some r -> r.its.length = sizeC j
theorem SizedA.init {c : List ARow} {r : ARow} (h : SizedA (c ++ [r])) : SizedA c /\ r.its.length = sizeC c.length := by
 refine ⟨fun j q hq => h j q (by rw [List.getElem?_append_left (List.getElem?_eq_some_iff.1 hq).1]; exact hq), h c.length r (by simp)⟩
theorem SizedA.snoc {c : List ARow} {r : ARow} (h : SizedA c) (hr : r.its.length = sizeC c.length) : SizedA (c ++ [r]) := by
 intro j q hq
 by_cases hj : j < c.length
 · rw [List.getElem?_append_left hj] at hq
   exact h j q hq
 · rw [List.getElem?_append_right (by omega)] at hq
   have h0 : j - c.length = 0 := by
     rcases Nat.eq_zero_or_pos (j - c.length) with h0 | h0
     · exact h0
     · rw [List.getElem?_eq_none (by simp; omega)] at hq; cases hq
   rw [h0] at hq
   simp at hq
   have : j = c.length := by omega
   rw [<- hq, this]; exact hr
theorem SizedA.cat_length : ∀ {n : Nat} {c : List ARow}, c.length = n -> SizedA c -> (catA c).length = roomC n
 | 0, c, hn, _ => by rw [List.eq_nil_of_length_eq_zero hn]; rfl
 | n + 1, c, hn, h => by
   rcases List.eq_nil_or_concat c with rfl | ⟨c', r, rfl⟩
   · simp at hn
   · rw [List.concat_eq_append] at hn h ⊢
     have hl : c'.length = n := by simpa using hn
     obtain ⟨h1, h2⟩ := h.init
     rw [catA_snoc, List.length_append, SizedA.cat_length hl h1, h2, hl]; rfl
structure LI (c : List ARow) (L : List Int) : Prop where
 sized : SizedA c
 cat : catA c = L ++ List.replicate (roomC c.length - L.length) 0
 nz : ∀ x ∈ L, ¬ x = 0
 most : L.length <= roomC c.length
 last : 0 < c.length -> roomC (c.length - 1) < L.length
theorem LI.nil_ : LI [] [] := ⟨fun j r h => (by simp at h), rfl, fun x h => (by cases h), Nat.le_refl _, fun h => (by simp at h)⟩
theorem LI.new {c : List ARow} {L : List Int} (h : LI c L) (hf : L.length = roomC c.length) {x : Int} (hx : ¬ x = 0) {r : ARow} (hr : r.its = x :: List.replicate (sizeC c.length - 1) 0) : LI (c ++ [r]) (L ++ [x]) := by
 have hs := sizeC_bd c.length
 have hrl : r.its.length = sizeC c.length := by rw [hr]; simp; omega
 have e : roomC (c ++ [r]).length = roomC c.length + sizeC c.length := by rw [List.length_append]; rfl
 refine ⟨h.sized.snoc hrl, ?_, ?_, ?_, ?_⟩
 · rw [catA_snoc, h.cat, hf, Nat.sub_self, e, hr, List.length_append, hf]
   simp only [List.replicate_zero, List.append_nil, List.length_cons, List.length_nil, List.append_assoc, List.cons_append, List.nil_append]
   congr 3; omega
 · intro y hy
   rcases List.mem_append.1 hy with hy | hy
   · exact h.nz y hy
   · rw [List.mem_singleton.1 hy]; exact hx
 · rw [e, List.length_append]; simp; omega
 · intro _
   rw [List.length_append, List.length_append]
   simp
   omega
theorem LI.last_at {c : List ARow} {q : ARow} {L : List Int} (h : LI (c ++ [q]) L) : roomC c.length < L.length /\ q.its.length = sizeC c.length /\ catA c = L.take (roomC c.length) /\
 q.its = L.drop (roomC c.length) ++ List.replicate (roomC c.length + sizeC c.length - L.length) 0 := by
 obtain ⟨h1, h2⟩ := h.sized.init
 have hl := h.last (by simp)
 have e1 : (c ++ [q]).length - 1 = c.length := by simp
 rw [e1] at hl
 have e : roomC (c ++ [q]).length = roomC c.length + sizeC c.length := by rw [List.length_append]; rfl
 have hc := h.cat
 rw [catA_snoc, e] at hc
 have hcl := SizedA.cat_length rfl h1
 have h3 : L ++ List.replicate (roomC c.length + sizeC c.length - L.length) 0 = L.take (roomC c.length) ++ (L.drop (roomC c.length) ++ List.replicate (roomC c.length + sizeC c.length - L.length) 0) := by
   rw [<- List.append_assoc, List.take_append_drop]
 rw [h3] at hc
 have := List.append_inj hc (by rw [hcl, List.length_take]; omega)
 exact ⟨hl, h2, this.1, this.2⟩
theorem LI.place {c : List ARow} {q : ARow} {L : List Int} (h : LI (c ++ [q]) L) {i : Nat} (hi : i < q.its.length) : (q.its.getD i 0 = 0 ↔ L.length - roomC c.length <= i) := by
 obtain ⟨h1, h2, h3, h4⟩ := h.last_at
 rw [h4, List.getD_eq_getElem?_getD]
 by_cases hd : i < (L.drop (roomC c.length)).length
 · have hd2 := hd
   rw [List.length_drop] at hd2
   rw [List.getElem?_append_left hd, List.getElem?_eq_getElem hd]
   have hm : (L.drop (roomC c.length))[i] ∈ L := List.mem_of_mem_drop (List.getElem_mem hd)
   have := h.nz _ hm
   exact ⟨fun e => absurd e this, fun e => by omega⟩
 · have hd2 := hd
   rw [List.length_drop] at hd2
   have hm := h.most
   have e : roomC (c ++ [q]).length = roomC c.length + sizeC c.length := by rw [List.length_append]; rfl
   rw [List.getElem?_append_right (by omega), List.length_drop, List.getElem?_replicate, if_pos (by omega)]
   exact ⟨fun _ => by omega, fun _ => rfl⟩
theorem LI.put {c : List ARow} {q : ARow} {L : List Int} (h : LI (c ++ [q]) L) (hf : L.length < roomC c.length + sizeC c.length) {x : Int} (hx : ¬ x = 0) {q' : ARow} (hq : q'.its = q.its.set (L.length - roomC c.length) x) : LI (c ++ [q']) (L ++ [x]) := by
 obtain ⟨h1, h2, h3, h4⟩ := h.last_at
 obtain ⟨g1, -⟩ := h.sized.init
 have hl : q'.its.length = sizeC c.length := by rw [hq, List.length_set]; exact h2
 have e : roomC (c ++ [q']).length = roomC c.length + sizeC c.length := by rw [List.length_append]; rfl
 have hdl : (L.drop (roomC c.length)).length = L.length - roomC c.length := List.length_drop ..
 have hset : q'.its = L.drop (roomC c.length) ++ (x :: List.replicate (roomC c.length + sizeC c.length - L.length - 1) 0) := by
   rw [hq, h4, List.set_append_right _ _ (by rw [hdl]; exact Nat.le_refl _), hdl, Nat.sub_self]
   congr 1
   obtain ⟨j, hj⟩ : ∃ j, roomC c.length + sizeC c.length - L.length = j + 1 := ⟨roomC c.length + sizeC c.length - L.length - 1, by omega⟩
   rw [hj, List.replicate_succ]
   simp
 refine ⟨g1.snoc hl, ?_, ?_, ?_, ?_⟩
 · rw [catA_snoc, h3, hset, e, List.length_append, <- List.append_assoc, List.take_append_drop, List.append_assoc]
   congr 1
 · intro y hy
   rcases List.mem_append.1 hy with hy | hy
   · exact h.nz y hy
   · rw [List.mem_singleton.1 hy]; exact hx
 · rw [e, List.length_append]; simp; omega
 · intro _
   rw [List.length_append, List.length_append]
   simp
   omega
def placesA (zs : List Int) : List Int := zs.takeWhile fun x => !decide (x = 0)
theorem placesA_all {L : List Int} (h : ∀ x ∈ L, ¬ x = 0) (k : Nat) : placesA (L ++ List.replicate k 0) = L := by
 unfold placesA
 rw [List.takeWhile_append_of_pos (by intro x hx; simpa using h x hx)]
 cases k with
 | zero => simp
 | succ k => simp [List.replicate_succ]
theorem LI.places {c : List ARow} {L : List Int} (h : LI c L) : placesA (catA c) = L := by rw [h.cat]; exact placesA_all h.nz _
theorem placesA_le (zs : List Int) : (placesA zs).length <= zs.length := by unfold placesA; exact (List.takeWhile_prefix _).length_le
theorem placesA_append (a b : List Int) : placesA (a ++ b) = if (placesA a).length = a.length then a ++ placesA b else placesA a := by
 unfold placesA
 rw [List.takeWhile_append]
def rowsL : List (List Int) -> List (List Int)
 | [] => []
 | a :: r => if (placesA a).length = a.length then a :: rowsL r else [placesA a]
theorem placesA_take (a : List Int) : placesA a = a.take (placesA a).length := by
 have hp : placesA a <+: a := by unfold placesA; exact List.takeWhile_prefix _
 exact List.prefix_iff_eq_take.1 hp
theorem rowsL_flatten : ∀ z : List (List Int), (rowsL z).flatten = placesA z.flatten
 | [] => rfl
 | a :: r => by
   rw [List.flatten_cons, placesA_append]
   unfold rowsL
   by_cases h : (placesA a).length = a.length
   · rw [if_pos h, if_pos h, List.flatten_cons, rowsL_flatten r]
   · rw [if_neg h, if_neg h]; simp
theorem rowsL_length_le : ∀ z : List (List Int), (rowsL z).length <= z.length
 | [] => Nat.le_refl _
 | a :: r => by
   unfold rowsL
   have := rowsL_length_le r
   split
   · simp only [List.length_cons]; omega
   · simp
theorem rowsL_full {pre rest : List (List Int)} (h : ∀ a ∈ pre, (placesA a).length = a.length) : rowsL (pre ++ rest) = pre ++ rowsL rest := by
 induction pre with
 | nil => rfl
 | cons a pre ih =>
   rw [List.cons_append]
   rw [rowsL, if_pos (h a (by simp)), ih (fun b hb => h b (by simp [hb]))]
   rfl
theorem rowsL_cons_full {a : List Int} {r : List (List Int)} (h : (placesA a).length = a.length) : rowsL (a :: r) = a :: rowsL r := by rw [rowsL, if_pos h]
theorem rowsL_cons_cut {a : List Int} {r : List (List Int)} (h : ¬ (placesA a).length = a.length) : rowsL (a :: r) = [placesA a] := by rw [rowsL, if_neg h]
def idx0 (zs : List Int) : Int := if (placesA zs).length = zs.length then -1 else ((placesA zs).length : Nat)
theorem placesA_at {zs : List Int} (h : ¬ (placesA zs).length = zs.length) : (placesA zs).length < zs.length /\ zs.getD (placesA zs).length 0 = 0 := by
 have hle := placesA_le zs
 have hlt : (placesA zs).length < zs.length := by omega
 refine ⟨hlt, ?_⟩
 induction zs with
 | nil => simp at hlt
 | cons x r ih =>
   by_cases hx : x = 0
   · subst hx; simp [placesA]
   · have e : placesA (x :: r) = x :: placesA r := by unfold placesA; rw [List.takeWhile_cons_of_pos (by simpa using hx)]
     rw [e] at h hlt ⊢
     simp only [List.length_cons] at h hlt ⊢
     have := ih (by omega) (placesA_le r) (by omega)
     simpa using this
theorem placesA_snoc {zs : List Int} {k : Nat} (hk : k < zs.length) (h : (placesA (zs.take k)).length = k) : (placesA (zs.take (k + 1))).length = (if zs.getD k 0 = 0 then k else k + 1) /\ (zs.getD k 0 = 0 -> (placesA zs).length = k) := by
 have hx : zs.getD k 0 = zs[k] := by rw [List.getD_eq_getElem?_getD, List.getElem?_eq_getElem hk]; rfl
 have hl : (zs.take k).length = k := by rw [List.length_take]; omega
 constructor
 · rw [List.take_succ_eq_append_getElem hk, placesA_append, if_pos (by rw [h, hl]), hx]
   unfold placesA
   by_cases h0 : zs[k] = 0
   · simp [h0]; omega
   · simp [h0]; omega
 · intro h0
   rw [hx] at h0
   have e : zs = zs.take k ++ zs.drop k := (List.take_append_drop k zs).symm
   rw [e, placesA_append, if_pos (by rw [h, hl]), List.drop_eq_getElem_cons hk]
   simp [placesA, h0]; omega
end Go.Proofs.YtgcmbgniaffdlaaGreat
