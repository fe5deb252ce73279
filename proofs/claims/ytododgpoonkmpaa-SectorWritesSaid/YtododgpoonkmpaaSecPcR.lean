/-
  WHAT THE DOCUMENT'S OWN Pieces OF LAYER 5 DOES: its contract.
-/
import Derived.Test.YtododgpoonkmpaaSecPc
import Derived.Deep.RegionLaw
set_option linter.unusedVariables false
set_option linter.unusedSimpArgs false
namespace Go.Proofs.Ytododgpoonkmpaa
open Go.RowKit

theorem rpieceInfo : (Try.prog.info? 31).map (fun i => (i.zero, i.size, i.bytes)) = some (some (.agg #[.int .i64 0, .int .i64 0, .slice none 0 0]), 3, 40) := by kernel_rfl

/-- k pieces of the first i bytes stand; D is the last one's bytes. -/
structure RAt (w0 wr : World) (S f : Nat) (bs : List Int) (i k : Nat) (v : Value) (xs : List Value) (D : Value) : Prop where
  own : wr.ownsRow w0.heap.size 31 3 v k xs
  at_ : ∀ j, j < k → ∃ d, xs[j * 3]? = some (.int .i64 ((S : Int) + (j : Int))) ∧ xs[j * 3 + 1]? = some (.int .i64 (f - 64 * j : Nat)) ∧ xs[j * 3 + 2]? = some d ∧
    wr.ownsRow w0.heap.size 5 1 d (pcD f (bs.take i) j).length (cellsOf .u8 (pcD f (bs.take i) j)) ∧ (j + 1 = k → d = D) ∧ (j + 1 < k → ∀ g, d.ownBlock = some g → D.ownBlock ≠ some g)
  below : Below w0.heap.size w0 wr

theorem pcD_take (f : Nat) (bs : List Int) (i j : Nat) : pcD f (bs.take i) j = (bs.take (min (64 * (j + 1) - f) i)).drop (64 * j - f) := by
  unfold pcD; rw [List.take_take]
theorem pcD_none {f : Nat} {bs : List Int} {i j : Nat} (h : i ≤ 64 * j - f) : pcD f (bs.take i) j = [] := by
  rw [pcD_take]; exact List.drop_eq_nil_of_le (by rw [List.length_take]; omega)
theorem pcD_full {f : Nat} {bs : List Int} {i j : Nat} (h : 64 * (j + 1) - f ≤ i) : pcD f (bs.take (i + 1)) j = pcD f (bs.take i) j := by
  rw [pcD_take, pcD_take]; congr 2; omega
theorem pcD_more {f : Nat} {bs : List Int} {i j : Nat} (hi : i < bs.length) (h : i < 64 * (j + 1) - f) (h2 : 64 * j - f ≤ i) : pcD f (bs.take (i + 1)) j = pcD f (bs.take i) j ++ [nz bs i] := by
  rw [pcD_take, pcD_take, show min (64 * (j + 1) - f) (i + 1) = i + 1 by omega, show min (64 * (j + 1) - f) i = i by omega,
    List.take_succ_eq_append_getElem hi, List.drop_append_of_le_length (by rw [List.length_take]; omega), nz_in hi]

theorem RAt.start (w : World) (S f : Nat) (bs : List Int) : RAt w w S f bs 0 0 (.slice none 0 0) [] (.slice none 0 0) := ⟨World.ownsRow_nil _ _ _ _, fun j hj => by omega, Below.refl _ _⟩

section
variable {w0 wr : World} {S f i k : Nat} {bs : List Int} {v D : Value} {xs : List Value}
theorem RAt.drew (H : RAt w0 wr S f bs i k v xs D) : RAt w0 wr.drew S f bs i k v xs D := ⟨H.own, H.at_, below_drewn H.below 1⟩

/-- The rows of bytes are no row of pieces. -/
theorem rows_ne {w : World} {b b' : Nat} {u v : Value} {n m : Nat} {xs ys : List Value} (h : w.ownsRow b 5 1 u n xs) (h' : w.ownsRow b' 31 3 v m ys) : ∀ g, u.ownBlock = some g → v.ownBlock ≠ some g := by
  intro g hg hg'
  rcases h.2 with ⟨rfl, _⟩ | ⟨g1, c1, cur1, rfl, _, e1, _⟩
  · simp [Value.ownBlock] at hg
  · rcases h'.2 with ⟨rfl, _⟩ | ⟨g2, c2, cur2, rfl, _, e2, _⟩
    · simp [Value.ownBlock] at hg'
    · simp [Value.ownBlock] at hg hg'
      subst hg; subst hg'
      rw [e1] at e2
      injection e2 with e2
      injection e2 with _ e3
      exact absurd e3 (by decide)

/-- A piece is put behind the others; it has no bytes yet. -/
theorem RAt.push (H : RAt w0 wr S f bs i k v xs D) {o : Obj} {w1 : World} {v1 : Value} (hown : w1.ownsRow w0.heap.size 31 3 v1 (k + 1) (xs ++ [.int .i64 ((S : Int) + (k : Int)), .int .i64 (f - 64 * k : Nat), .slice none 0 0]))
    (hg : (wr.alloc o).grownBy w1 v.ownBlock) (hi : i ≤ 64 * k - f) : RAt w0 w1 S f bs i (k + 1) v1 (xs ++ [.int .i64 ((S : Int) + (k : Int)), .int .i64 (f - 64 * k : Nat), .slice none 0 0]) (.slice none 0 0) := by
  have hxl := H.own.1
  refine ⟨hown, fun j hj => ?_, (H.below.alloc H.below.size o).grown hg (by have := H.below.size; simp; omega) (fun g hgg => (H.own.lt g hgg).1)⟩
  by_cases hjk : j = k
  · subst hjk
    refine ⟨.slice none 0 0, ?_, ?_, ?_, ?_, fun _ => rfl, fun h => by omega⟩
    · rw [List.getElem?_append_right (by omega), show j * 3 - xs.length = 0 by omega]; rfl
    · rw [List.getElem?_append_right (by omega), show j * 3 + 1 - xs.length = 1 by omega]; rfl
    · rw [List.getElem?_append_right (by omega), show j * 3 + 2 - xs.length = 2 by omega]; rfl
    · rw [pcD_none hi]; exact World.ownsRow_nil _ _ _ _
  · obtain ⟨d, h1, h2, h3, h4, h5, h6⟩ := H.at_ j (by omega)
    refine ⟨d, ?_, ?_, ?_, ?_, fun h => by omega, fun h g hg => by simp [Value.ownBlock]⟩
    · rw [List.getElem?_append_left (by omega)]; exact h1
    · rw [List.getElem?_append_left (by omega)]; exact h2
    · rw [List.getElem?_append_left (by omega)]; exact h3
    · refine (h4.alloc o).kept hg ?_
      by_cases hn : d.ownBlock = none
      · exact .inl hn
      · obtain ⟨g, hgd⟩ := Option.ne_none_iff_exists'.1 hn
        exact .inr (fun e => rows_ne h4 H.own g hgd (by rw [← e]; exact hgd))

/-- One byte more for the last piece. -/
theorem RAt.grow (H : RAt w0 wr S f bs i (k + 1) v xs D) {g c : Nat} (hv : v = .slice (some ⟨g, 0, none⟩) (k + 1) c) {w1 w2 : World} {D' : Value} (h1 : Below wr.heap.size wr w1)
    (hown : w2.ownsRow w0.heap.size 5 1 D' ((pcD f (bs.take i) k).length + 1) (cellsOf .u8 (pcD f (bs.take i) k) ++ [.int .u8 (nz bs i)])) (hg : w1.grownBy w2 D.ownBlock)
    (hat : D'.ownBlock = D.ownBlock ∨ D'.ownBlock = some w1.heap.size) (hi : i < bs.length) (hi1 : i < 64 * (k + 1) - f) (hi2 : 64 * k - f ≤ i) (hf : f < 64) :
    RAt w0 (w2.setCell ⟨g, k * 3 + 2, none⟩ D') S f bs (i + 1) (k + 1) v (xs.set (k * 3 + 2) D') D' := by
  have hxl := H.own.1
  have hs := H.below.size
  obtain ⟨dk, hk1, hk2, hk3, hk4, hk5, _⟩ := H.at_ k (by omega)
  have hDk := hk5 rfl
  subst hDk
  have hneg : ∀ g', dk.ownBlock = some g' → v.ownBlock ≠ some g' := rows_ne hk4 H.own
  have keep : ∀ {e size n : Nat} {u : Value} {ys : List Value}, wr.ownsRow w0.heap.size e size u n ys → (∀ g', u.ownBlock = some g' → dk.ownBlock ≠ some g') → w2.ownsRow w0.heap.size e size u n ys := by
    intro e size n u ys hu hne
    refine (own_below hu h1).kept hg ?_
    by_cases hn : u.ownBlock = none
    · exact .inl hn
    · obtain ⟨g', hgd⟩ := Option.ne_none_iff_exists'.1 hn
      exact .inr (fun e => hne g' hgd (by rw [← e]; exact hgd))
  have hvo : w2.ownsRow w0.heap.size 31 3 v (k + 1) xs := keep H.own (fun g' h h' => hneg g' h' h)
  have hD'ne : ∀ {n : Nat} {u : Value} {ys : List Value}, wr.ownsRow w0.heap.size 5 1 u n ys → (∀ g', u.ownBlock = some g' → dk.ownBlock ≠ some g') → ∀ g', u.ownBlock = some g' → D'.ownBlock ≠ some g' := by
    intro n u ys hu hne g' hg' he
    rcases hat with e | e
    · exact hne g' hg' (by rw [← e]; exact he)
    · rw [e] at he
      injection he with he
      have := (hu.lt g' hg').2
      have := h1.size
      omega
  have hsto := hvo
  rw [hv] at hsto
  have hst := (hsto.stored (k * 3 + 2) D').1
  have far : ∀ {n : Nat} {u : Value} {ys : List Value}, w2.ownsRow w0.heap.size 5 1 u n ys → (w2.setCell ⟨g, k * 3 + 2, none⟩ D').ownsRow w0.heap.size 5 1 u n ys := by
    intro n u ys hu
    exact ownsRow_setCell_other hu (fun e => rows_ne hu hsto g e rfl) _
  refine ⟨by rw [hv]; exact hst, fun j hj => ?_, ?_⟩
  · by_cases hjk : j = k
    · subst hjk
      refine ⟨D', ?_, ?_, ?_, ?_, fun _ => rfl, fun h => by omega⟩
      · rw [List.getElem?_set_ne (by omega)]; exact hk1
      · rw [List.getElem?_set_ne (by omega)]; exact hk2
      · rw [List.getElem?_set_self (by omega)]
      · rw [pcD_more hi hi1 hi2, List.length_append, cellsOf_append]
        exact far hown
    · obtain ⟨d, e1, e2, e3, e4, e5, e6⟩ := H.at_ j (by omega)
      have hne := e6 (by omega)
      refine ⟨d, ?_, ?_, ?_, ?_, fun h => by omega, fun h => hD'ne e4 hne⟩
      · rw [List.getElem?_set_ne (by omega)]; exact e1
      · rw [List.getElem?_set_ne (by omega)]; exact e2
      · rw [List.getElem?_set_ne (by omega)]; exact e3
      · rw [pcD_full (by omega)]
        exact far (keep e4 hne)
  · have hb2 : Below w0.heap.size w0 w2 := (H.below.trans (h1.mono hs)).grown hg (Nat.le_trans hs h1.size) (fun g' hg' => (hk4.lt g' hg').1)
    exact hb2.setCell (by have := (H.own.lt g (by rw [hv]; rfl)).1; exact this) _

theorem RAt.last (H : RAt w0 wr S f bs i (k + 1) v xs D) : ∃ g c, v = .slice (some ⟨g, 0, none⟩) (k + 1) c ∧ g < wr.heap.size ∧ ∃ n A cD, D = .slice A n cD ∧ wr.cell? ⟨g, k * 3, none⟩ = some (.int .i64 ((S : Int) + (k : Int))) ∧
    wr.cell? ⟨g, k * 3 + 2, none⟩ = some (.slice A n cD) ∧ wr.frozen? ⟨g, k * 3 + 2, none⟩ = false ∧
    Hid (n = (pcD f (bs.take i) k).length ∧ wr.ownsRow w0.heap.size 5 1 (.slice A n cD) n (cellsOf .u8 (pcD f (bs.take i) k)) ∧ n ≤ 64) := by
  obtain ⟨g, c, rfl, _, hl⟩ := H.own.form (by omega)
  obtain ⟨d, e1, e2, e3, e4, e5, e6⟩ := H.at_ k (by omega)
  have := e5 rfl
  subst this
  obtain ⟨A, cD, rfl, _, _⟩ := own_form e4
  refine ⟨g, c, rfl, hl, _, A, cD, rfl, ?_, ?_, H.own.frozenAt _, rfl, e4, by rw [pcD_length]; omega⟩
  · rw [H.own.cellAt _ (by omega)]; exact e1
  · rw [H.own.cellAt _ (by omega)]; exact e3

theorem grown_undrew {w w' : World} {r : Option Nat} (h : w.drew.grownBy w' r) : w.grownBy w' r := ⟨h.os, h.tape, h.output, h.size, h.block⟩

/-- The last piece's cells behind an append to its bytes. -/
theorem RAt.after {g c : Nat} (H : RAt w0 wr S f bs i (k + 1) (.slice (some ⟨g, 0, none⟩) (k + 1) c) xs D) {o : Obj} {w2 : World} (hg : (wr.alloc o).grownBy w2 D.ownBlock) : w2.cell? ⟨g, k * 3 + 2, none⟩ = some D ∧ w2.frozen? ⟨g, k * 3 + 2, none⟩ = false := by
  obtain ⟨d, e1, e2, e3, e4, e5, e6⟩ := H.at_ k (by omega)
  have hxl := H.own.1
  have hd := e5 rfl
  subst hd
  have hk : w2.ownsRow w0.heap.size 31 3 (.slice (some ⟨g, 0, none⟩) (k + 1) c) (k + 1) xs := (H.own.alloc o).kept hg (.inr (fun e => rows_ne e4 H.own g e.symm rfl))
  exact ⟨by rw [hk.cellAt _ (by omega)]; exact e3, hk.frozenAt _⟩

theorem RAt.grow2 {g c n : Nat} (H : RAt w0 wr S f bs i (k + 1) (.slice (some ⟨g, 0, none⟩) (k + 1) c) xs D) {o : Obj} {w2 : World} {x : Int} {D' : Value} (hn : n = (pcD f (bs.take i) k).length) (hx : x = nz bs i)
    (hown : w2.ownsRow w0.heap.size 5 1 D' (n + 1) (cellsOf .u8 (pcD f (bs.take i) k) ++ [.int .u8 x])) (hg : (wr.alloc o).grownBy w2 D.ownBlock)
    (hat : D'.ownBlock = D.ownBlock ∨ D'.ownBlock = some (wr.alloc o).drew.heap.size) (hi : i < bs.length) (hi1 : i < 64 * (k + 1) - f) (hi2 : 64 * k - f ≤ i) (hf : f < 64) :
    Hid (RAt w0 (w2.setCell ⟨g, k * 3 + 2, none⟩ D') S f bs (i + 1) (k + 1) (.slice (some ⟨g, 0, none⟩) (k + 1) c) (xs.set (k * 3 + 2) D') D') := by
  subst hn; subst hx
  exact Lib.hid (H.grow rfl ((Below.refl _ _).alloc (Nat.le_refl _) o) hown hg hat hi hi1 hi2 hf)

theorem RAt.gives (H : RAt w0 wr S f bs i k v xs D) (hi : i = bs.length) : ∃ A c, v = .slice A k c ∧ GivesP 31 S f bs k w0 (.returned (.slice A k c)) wr := by
  obtain ⟨A, c, rfl, _, _⟩ := own_form H.own
  refine ⟨A, c, rfl, A, c, xs, rfl, H.own, ⟨fun j hj => ?_⟩, H.below⟩
  obtain ⟨d, e1, e2, e3, e4, e5, e6⟩ := H.at_ j hj
  rw [hi, List.take_length] at e4
  obtain ⟨A1, c1, rfl, h1, h2⟩ := own_form e4
  exact ⟨A1, _, c1, e1, e2, e3, Reads.of_own e4, h1, h2⟩
end

theorem rpieces_neg (at_ : Int) (A : Option Addr) (len cap : Nat) (w : World) (h : at_ < 0) : Calls Try.prog 8 #[.int .i64 at_, .slice A len cap] w fun e w' => e = .returned (.slice none 0 0) ∧ w = w' := by
  go_enter Try.func8, Try.ntmps8
  go_wp2
  go_ret
  exact ⟨rfl, rfl⟩

theorem lit3 (w : World) (t : TypeId) (a b c : Value) : Reads (w.alloc (.cells #[a, b, c] t)) (w.heap.size + 1) 3 (some ⟨w.heap.size, 0, none⟩) 1 [a, b, c] := by
  refine ⟨rfl, fun _ => ⟨_, rfl, Nat.lt_succ_self _, fun j u hu => ?_⟩⟩
  have h := (Blk.new w t #[a, b, c]).cell j
  have e : (⟨w.heap.size, 0, none⟩ : Addr).add j = ⟨w.heap.size, j, none⟩ := by unfold Addr.add; split <;> simp_all
  rw [e, h]; simpa using hu

/-- The number of pieces of the first i bytes, one byte more. -/
theorem pcN_zero (f : Nat) : pcN f 0 = 0 := rfl
theorem pcN_next {f i p : Nat} (hf : f < 64) (hp : pcN f i = p + 1) : (64 * p - f < i) ∧ i ≤ 64 * (p + 1) - f ∧ (i < 64 * (p + 1) - f → pcN f (i + 1) = p + 1 ∧ (f + i) / 64 = p) ∧ (i = 64 * (p + 1) - f → pcN f (i + 1) = p + 2 ∧ (f + i) / 64 = p + 1) := by
  unfold pcN cntN at *
  split at hp
  · omega
  · rw [if_neg (by omega)]
    refine ⟨by omega, by omega, fun h => by omega, fun h => by omega⟩
theorem pcN_one {f : Nat} (hf : f < 64) : pcN f 1 = 1 := by unfold pcN cntN; rw [if_neg (by omega)]; omega

set_option maxHeartbeats 2000000 in
theorem rpieces_nat (at_ : Nat) (A : Option Addr) (len cap : Nat) (bs : List Int) (B : Nat) (w : World) (hr : Reads w B 1 A len (cellsOf .u8 bs)) (hB : B ≤ w.heap.size) (hl : len ≤ cap) (hcap : cap ≤ 9223372036854775807) (hn : len ≤ 1073741824) (hat : at_ ≤ 4611686018427387904) :
    Calls Try.prog 8 #[.int .i64 at_, .slice A len cap] w (GivesP 31 (at_ / 64) (at_ % 64) bs (pcN (at_ % 64) len) w) := by
  obtain ⟨i0, hi, hz0, hz1, hz2⟩ := info_parts rpieceInfo
  obtain ⟨i1, hi1, hy0, hy1, hy2⟩ := info_parts byteInfo
  have hlen := hr.len
  have ha0 : ¬ (at_ : Int) < 0 := by omega
  obtain ⟨S, hS⟩ : ∃ S, S = at_ / 64 := ⟨_, rfl⟩
  obtain ⟨f, hf⟩ : ∃ f, f = at_ % 64 := ⟨_, rfl⟩
  rw [← hS, ← hf]
  have hf6 : f < 64 := by omega
  have hat2 : at_ = 64 * S + f := by omega
  have HAT := Lib.hid hat2
  have hS6 : S ≤ 72057594037927936 := by omega
  clear hS hf hat2
  go_enter Try.func8, Try.ntmps8
  go_wp2
  go_loopw [5, 6] (fun v i wr => ∃ (q : Nat) (xs : List Value) (D : Value), q ≤ len ∧ i = .int .i64 q ∧ Hid (RAt w wr S f bs q (pcN f q) v xs D)) (fun _ i _ => len - (intOf i).toNat)
  case atStart => exact ⟨0, [], _, Nat.zero_le _, rfl, Lib.hid (RAt.start w S f bs)⟩
  case round =>
    obtain ⟨q, xs, D, hq, rfl, H⟩ := hrel
    have hsz := H.out.below.size
    by_cases hlt : q < len
    · obtain ⟨b, off, rfl, hbB, hcs⟩ := hr.plain (by omega)
      obtain ⟨x, hx⟩ : ∃ x, x = nz bs q := ⟨_, rfl⟩
      have cw0 : w.cell? ⟨b, off + q, none⟩ = some (.int .u8 x) := by rw [hx]; exact hcs _ hlt
      have hbl : b < w.heap.size := by omega
      have hlti : (q : Int) < (len : Int) := by omega
      have HX := Lib.hid hx
      have HR := Lib.hid hr
      clear hx hr hcs
      have e1 : ((at_ : Int) + (q : Int)).tdiv 64 = (((at_ + q) / 64 : Nat) : Int) := by rw [Int.tdiv_eq_ediv_of_nonneg (by omega)]; omega
      have e2 : ((at_ : Int) + (q : Int)).tmod 64 = (((at_ + q) % 64 : Nat) : Int) := by rw [Int.tmod_eq_emod_of_nonneg (by omega)]; omega
      obtain ⟨A1, c1, rfl, hc1, hc2⟩ := own_form H.out.own
      generalize hk : pcN f q = k at *
      cases k with
      | zero =>
        have hq0 : q = 0 := by
          rcases Nat.eq_zero_or_pos q with h | h
          · exact h
          · have := (pcN_lt (f := f) (len := q) (i := 0) hf6).2 (by omega); omega
        subst hq0
        have e3 : (at_ + 0) / 64 = S := by have := HAT.out; omega
        have e4 : (at_ + 0) % 64 = f := by have := HAT.out; omega
        rw [e3] at e1
        rw [e4] at e2
        simp only [Int.natCast_zero, Int.add_zero] at e1 e2
        
        have HK := Lib.hid hk
        clear e3 e4 hk
        go_wp2_with (at_builtin; refine wpList_append_any _ rfl _ _ _ rfl w.heap.size 31 i0 _ 3 40 Try.underlying26 hi hz0 hz1 hz2 rfl (by decide) (.slice A1 0 c1) 0 xs rfl (H.out.own.alloc _) (wr.heap.size + 1) _ 1 1 [.int .i64 ((S : Int) + ((0 : Nat) : Int)), .int .i64 (f - 64 * 0 : Nat), .slice none 0 0] rfl (lit3 _ _ _ _ _) (pc_one _ _ _) (by decide) (by omega) (by simp; omega) ?_; intro v1 w1 hown1 hg1 hat1; have H1 := Lib.hid (H.out.push hown1 hg1 (Nat.zero_le _)); clear hown1 hg1 hat1)
        obtain ⟨g, c2, rfl, hgl, nD, AD, cD, hD0, cS, cD2, fD, HD⟩ := H1.out.last
        injection hD0 with hd1 hd2 hd3
        subst hd1; subst hd2; subst hd3
        simp only [Nat.zero_mul, Nat.zero_add] at cS cD2 fD
        have c01 : w1.cell? ⟨b, off, none⟩ = some (.int .u8 x) := (H1.out.below.cell (p := ⟨b, off + 0, none⟩) hbl).trans cw0
        go_region_law (refine step_append_any _ rfl (.tmp 52) (.tmp 57) _ rfl w.heap.size 5 i1 (.int .u8 0) 1 1 Try.underlying22 hi1 hy0 hy1 hy2 rfl (Nat.lt_succ_self 0) (.slice none 0 0) 0 _ rfl (HD.out.2.1.alloc _) (w1.heap.size + 1) _ 1 1 [.int .u8 x] rfl (Reads.new1 _ _ _) (one_oneCell _ _) (by decide) (by decide) (by simp; have := H1.out.below.size; omega) ?_; intro v2 w2 hown2 hg2 hat2; have hg3 := grown_undrew hg2; obtain ⟨cg2, fg2⟩ := H1.out.after hg3; clear hg2; simp only [Nat.zero_mul, Nat.zero_add] at cg2 fg2; obtain ⟨A2, c3, rfl, _, _⟩ := own_form hown2; have HN := H1.out.grow2 HD.out.1 HX.out hown2 hg3 hat2 (by omega) (by omega) (by omega) hf6; clear hown2 hg3 hat2)
        all_goals
          simp only [Nat.zero_mul, Nat.zero_add] at HN
          go_wp2
          go_roundw
          case rel => exact ⟨1, _, _, by omega, rfl, by rw [pcN_one hf6]; exact HN⟩
          case measure => simp [intOf]; omega
      | succ p =>
        obtain ⟨hp1, hp2, hp3, hp4⟩ := pcN_next hf6 hk
        have hxl := H.out.own.1
        by_cases hsame : q < 64 * (p + 1) - f
        · obtain ⟨g, c2, hv, hgl, nD, AD, cD, rfl, cS, cD2, fD, HD⟩ := H.out.last
          injection hv with hv1 hv2 hv3
          subst hv1; subst hv3
          obtain ⟨hn1, hn2⟩ := hp3 hsame
          have e3 : (((at_ + q) / 64 : Nat) : Int) = (S : Int) + (p : Int) := by have := HAT.out; omega
          rw [e3] at e1
          have c01 : wr.cell? ⟨b, off + q, none⟩ = some (.int .u8 x) := (H.out.below.cell (p := ⟨b, off + q, none⟩) hbl).trans cw0
          have hnD := HD.out.2.2
          have HN1 := Lib.hid hn1
          have HK := Lib.hid hk
          have HH := Lib.hid (And.intro hp1 (And.intro hp2 hsame))
          have hpl : p ≤ 16777300 := by omega
          clear e2 e3 hn1 hn2 hp1 hp2 hp3 hp4 hsame hk
          go_wp2
          have s2 : nD + 1 ≤ maxLen := by unfold maxLen; omega
          have s3 : (nD + 1) * 1 ≤ 140737488355328 := by omega
          go_region_law (refine step_append_any _ rfl (.tmp 52) (.tmp 57) _ rfl w.heap.size 5 i1 (.int .u8 0) 1 1 Try.underlying22 hi1 hy0 hy1 hy2 rfl (Nat.lt_succ_self 0) (.slice AD nD cD) nD _ rfl (HD.out.2.1.alloc _) (wr.heap.size + 1) _ 1 1 [.int .u8 x] rfl (Reads.new1 _ _ _) (one_oneCell _ _) s2 s3 (by simp; omega) ?_; intro v2 w2 hown2 hg2 hat2; have hg3 := grown_undrew hg2; obtain ⟨cg2, fg2⟩ := H.out.after hg3; clear hg2; obtain ⟨A2, c3, rfl, _, _⟩ := own_form hown2; have HN := H.out.grow2 HD.out.1 HX.out hown2 hg3 hat2 (by omega) (by have := HH.out; omega) (by have := HH.out; omega) hf6; clear hown2 hg3 hat2)
          all_goals
            go_wp2
            go_roundw
            case rel => exact ⟨q + 1, _, _, by omega, by go_num, by rw [HN1.out]; exact HN⟩
            case measure => simp [intOf]; omega
        · have hq1 : q = 64 * (p + 1) - f := by omega
          obtain ⟨g0, c2, hv, hgl, nD, AD, cD, rfl, cS, cD2, fD, HD⟩ := H.out.last
          injection hv with hv1 hv2 hv3
          subst hv1; subst hv3
          obtain ⟨hn1, hn2⟩ := hp4 hq1
          have e3 : (((at_ + q) / 64 : Nat) : Int) = (S : Int) + ((p : Int) + 1) := by have := HAT.out; omega
          have e4 : (((at_ + q) % 64 : Nat) : Int) = 0 := by have := HAT.out; omega
          rw [e3] at e1
          rw [e4] at e2
          have c01 : wr.cell? ⟨b, off + q, none⟩ = some (.int .u8 x) := (H.out.below.cell (p := ⟨b, off + q, none⟩) hbl).trans cw0
          have HN1 := Lib.hid hn1
          have HK := Lib.hid hk
          have HH := Lib.hid (And.intro hp1 hq1)
          have hpl : p ≤ 16777300 := by omega
          have hz : ((f - 64 * (p + 1) : Nat) : Int) = 0 := by omega
          have HZ := Lib.hid hz
          clear e3 e4 hn1 hn2 hp1 hp2 hp3 hp4 hsame hk hq1 hz
          have hbne : (((S : Int) + (p : Int)) != ((S : Int) + ((p : Int) + 1))) = true := by simp; omega
          have s4 : p + 1 + 1 ≤ maxLen := by unfold maxLen; omega
          have s5 : (p + 1 + 1) * 40 ≤ 140737488355328 := by omega
          go_wp2_with (at_builtin; refine wpList_append_any _ rfl _ _ _ rfl w.heap.size 31 i0 _ 3 40 Try.underlying26 hi hz0 hz1 hz2 rfl (by decide) (.slice (some ⟨g0, 0, none⟩) (p + 1) c1) (p + 1) xs rfl (H.out.own.alloc _) (wr.heap.size + 1) _ 1 1 [.int .i64 ((S : Int) + ((p : Int) + 1)), .int .i64 0, .slice none 0 0] rfl (lit3 _ _ _ _ _) (pc_one _ _ _) s4 s5 (by simp; omega) ?_; intro v1 w1 hown1 hg1 hat1; have H1 := Lib.hid (H.out.push (by rw [HZ.out]; exact hown1) hg1 (by have := HH.out; omega)); clear hown1 hg1 hat1)
          obtain ⟨g, c2, rfl, hgl1, nE, AE, cE, hD0, cS1, cE2, fE, HE⟩ := H1.out.last
          injection hD0 with hd1 hd2 hd3
          subst hd1; subst hd2; subst hd3
          have c02 : w1.cell? ⟨b, off + q, none⟩ = some (.int .u8 x) := (H1.out.below.cell (p := ⟨b, off + q, none⟩) hbl).trans cw0
          clear c01 cS cD2 fD
          have ix1 : (0 : Int) ≤ (p : Int) + 1 := by omega
          have ix2 : (p : Int) + 1 < (p : Int) + 1 + 1 := by omega
          have ix3 : ((p : Int) + 1).toNat = p + 1 := by omega
          go_region_law (refine step_append_any _ rfl (.tmp 52) (.tmp 57) _ rfl w.heap.size 5 i1 (.int .u8 0) 1 1 Try.underlying22 hi1 hy0 hy1 hy2 rfl (Nat.lt_succ_self 0) (.slice none 0 0) 0 _ rfl (HE.out.2.1.alloc _) (w1.heap.size + 1) _ 1 1 [.int .u8 x] rfl (Reads.new1 _ _ _) (one_oneCell _ _) (by decide) (by decide) (by simp; have := H1.out.below.size; omega) ?_; intro v2 w2 hown2 hg2 hat2; have hg3 := grown_undrew hg2; obtain ⟨cg2, fg2⟩ := H1.out.after hg3; clear hg2; obtain ⟨A2, c3, rfl, _, _⟩ := own_form hown2; have HN := H1.out.grow2 HE.out.1 HX.out hown2 hg3 hat2 (by omega) (by have := HH.out; omega) (by have := HH.out; omega) hf6; clear hown2 hg3 hat2)
          all_goals
            go_wp2
            go_roundw
            case rel => exact ⟨q + 1, _, _, by omega, by go_num, by rw [HN1.out]; exact HN⟩
            case measure => simp [intOf]; omega
    · obtain rfl : q = len := by omega
      obtain ⟨A9, c9, rfl, HG⟩ := H.out.gives hlen.symm
      have HG2 := Lib.hid HG
      clear hr HG
      go_wp2
      go_ret
      exact HG2.out

end Go.Proofs.Ytododgpoonkmpaa
