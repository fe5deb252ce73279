/-
  LAYER 7: WHAT THE DOCUMENT'S OWN Names AND Did DO: contracts.
-/
import Derived.Test.YtakjiklpfddooaaDirRef
set_option linter.unusedVariables false
set_option linter.unusedSimpArgs false
namespace Go.Proofs.Ytakjiklpfddooaa
open Go.RowKit

theorem namesN_take (l : NmL) (k : Nat) : namesN (l.take k) = (namesN l).take k := by unfold namesN; rw [List.map_take]
theorem namesN_next {l : NmL} {k : Nat} {p : ByteArray × Int} (h : l[k]? = some p) : namesN (l.take (k + 1)) = namesN (l.take k) ++ [p.1] := by
  obtain ⟨hlt, he⟩ := List.getElem?_eq_some_iff.1 h
  unfold namesN
  rw [List.take_succ_eq_append_getElem hlt, he, List.map_append]; rfl

/-- At the head of each round: the names that have been told. -/
structure TxAt (w wr : World) (A : Option Addr) (k c : Nat) (l : NmL) : Prop where
  own : wr.ownsRow w.heap.size 9 1 (.slice A k c) k (cellsT (namesN (l.take k)))
  below : Below w.heap.size w wr

set_option maxHeartbeats 1000000 in
theorem rnames_any (A : Option Addr) (n c B : Nat) (l : NmL) (w : World) (h : Nms w B A n c l) (hB : B ≤ w.heap.size) (hn : n ≤ 1000000) (hok : ∀ q ∈ l, okN q) :
    Calls Try.prog 17 #[.slice A n c] w fun e w' => ∃ A c, e = .returned (.slice A n c) ∧ Txt w' w'.heap.size A n c (namesN l) ∧ Below w.heap.size w w' := by
  obtain ⟨i0, hi, hz0, hz1, hz2⟩ := info_parts strInfo
  have hle := h.le
  have hcap := h.cap
  have H := Lib.hid h
  have HOK := Lib.hid hok
  clear h hok
  go_enter Try.func17, Try.ntmps17
  go_wp2
  go_loopw [3, 4] (fun v i wr => ∃ (k c' : Nat) (A' : Option Addr), k ≤ n ∧ v = .slice A' k c' ∧ i = .int .i64 k ∧ Hid (TxAt w wr A' k c' l)) (fun _ i _ => n - (intOf i).toNat)
  case atStart => exact ⟨0, 0, none, Nat.zero_le _, rfl, rfl, Lib.hid ⟨by rw [List.take_zero]; exact World.ownsRow_nil _ _ _ _, Below.refl _ _⟩⟩
  case round =>
    obtain ⟨k, c', A', hk, rfl, rfl, O⟩ := hrel
    by_cases hlt : k < n
    · obtain ⟨b, off, p, rfl, hb, hp, c0, -⟩ := (H.out.below (O.out.below.mono hB)).at_ hlt
      have hlti : (k : Int) < (n : Int) := by omega
      have HX := Lib.hid (namesN_next hp)
      have s2 : k + 1 ≤ maxLen := by unfold maxLen; omega
      have s3 : (k + 1) * 16 ≤ 140737488355328 := by omega
      clear hp
      go_wp2_with (at_builtin; go_loud (refine wpList_append_any _ rfl _ _ _ rfl w.heap.size 9 i0 _ 1 16 Try.underlying42 hi hz0 hz1 hz2 rfl (Nat.zero_lt_succ 0) (.slice A' k c') k _ rfl (O.out.own.alloc _) _ _ 1 1 [.string p.1] rfl (Reads.new1 _ _ _) (fun u hu => by simp at hu; subst hu; rfl) s2 s3 (by have := O.out.below.size; simp; omega) ?_; intro v1 w1 hown1 hg1 hat1; clear hat1; obtain ⟨A1, c1', rfl, -, -⟩ := own_form hown1; have HO := Lib.hid (show TxAt w w1 A1 (k + 1) c1' l from ⟨by rw [HX.out, cellsT_append]; exact hown1, (O.out.below.alloc O.out.below.size _).grown hg1 (by have := O.out.below.size; simp; omega) (fun g hg => (O.out.own.lt g hg).1)⟩); clear hown1 hg1))
      go_roundw
      case rel => exact ⟨k + 1, c1', A1, by omega, rfl, by go_num, HO⟩
      case measure => simp [intOf]; omega
    · obtain rfl : k = n := by omega
      have hlti : ¬ (k : Int) < (k : Int) := by omega
      have HE := Lib.hid (show Txt wr wr.heap.size A' k c' (namesN l) by
        have ho := O.out.own
        rw [List.take_of_length_le (by rw [H.out.len]; exact Nat.le_refl _)] at ho
        obtain ⟨A1, c1, e, h1, h2⟩ := own_form ho
        injection e with e1 _ e3
        subst e1; subst e3
        refine Txt.of_own ho h1 h2 (fun s hs => ?_)
        obtain ⟨q, hq, rfl⟩ := List.mem_map.1 hs
        have := (HOK.out q hq).1
        unfold maxLen; omega)
      go_wp2
      go_ret
      exact ⟨A', c', rfl, HE.out, O.out.below⟩

/-! ### Did -/
/-- Names have been told, in a row that was there, or in one of its own. -/
def DidR (base : Nat) (v : Value) (l : NmL) (w : World) (e : Ending) (w' : World) : Prop :=
  ∃ A c, e = .returned (.slice A l.length c) ∧ w'.ownsRow base 64 2 (.slice A l.length c) l.length (namesC l) ∧ Below w.heap.size w w' ∧ ∀ g, (Value.slice A l.length c).ownBlock = some g → v.ownBlock = some g ∨ w.heap.size ≤ g
theorem DidR.of {base : Nat} {v : Value} {l : NmL} {w w1 w' : World} {e : Ending} (hB : base ≤ w.heap.size) (hb : Below w.heap.size w w1) (h : GivesN l w1 e w') : DidR base v l w e w' := by
  obtain ⟨A, c, rfl, h1, h2⟩ := h
  have hs := hb.size
  exact ⟨A, c, rfl, own_base h1 (by omega), hb.trans (h2.mono hs), fun g hg => .inr (by have := (h1.lt g hg).1; omega)⟩

theorem did0 (l : NmL) (x y : ByteArray) (i : Int) : didN cfT l ⟨0, x, y, i⟩ = withN cfT l x i := by unfold didN; rw [if_pos rfl]
theorem didNone {l : NmL} {k : Int} {x y : ByteArray} {i : Int} (hk : k ≠ 0) (h : getN l x = none) : didN cfT l ⟨k, x, y, i⟩ = l := by
  unfold didN; rw [if_neg (show ¬ k = 0 from hk)]; simp only; rw [h]
theorem did1 {l : NmL} {x y : ByteArray} {i j : Int} (h : getN l x = some j) : didN cfT l ⟨1, x, y, i⟩ = withN cfT (woN l x) y j := by
  unfold didN; rw [if_neg (show ¬ (1 : Int) = 0 by omega)]; simp only; rw [h]; rfl
theorem did2 {l : NmL} {x y : ByteArray} {i j : Int} (h : getN l x = some j) : didN cfT l ⟨2, x, y, i⟩ = woN l x := by
  unfold didN; rw [if_neg (show ¬ (2 : Int) = 0 by omega)]; simp only; rw [h]; rfl

set_option maxHeartbeats 2000000 in
theorem rdid_any (o : OpB) (base : Nat) (A : Option Addr) (n c : Nat) (l : NmL) (w : World) (h : w.ownsRow base 64 2 (.slice A n c) n (namesC l)) (hln : l.length = n) (hB : base ≤ w.heap.size) (hn : n ≤ 900000) (hk : o.kind = 0 ∨ o.kind = 1 ∨ o.kind = 2) :
    Calls Try.prog 34 #[.slice A n c, .agg #[.int .i64 o.kind, .string o.a, .string o.b, .int .i64 o.id]] w (DidR base (.slice A n c) (didN cfT l o) w) := by
  obtain ⟨k, x, y, i⟩ := o
  simp only at hk
  obtain ⟨wb, hwb⟩ : ∃ wb, wb = w.alloc (.cells #[.int .i64 k, .string x, .string y, .int .i64 i] 59) := ⟨_, rfl⟩
  have hbw : Below w.heap.size w wb := by rw [hwb]; exact (Below.refl _ _).alloc (Nat.le_refl _) _
  have hbx : Blk wb w.heap.size 59 #[.int .i64 k, .string x, .string y, .int .i64 i] := by rw [hwb]; exact Blk.new _ _ _
  have hNm : ∀ w1, Below wb.heap.size wb w1 → Nms w1 w.heap.size A n c l := fun w1 hb => by
    have h1 : Nms w w.heap.size A n c l := by
      subst hln
      obtain ⟨A1, c1, e, h2⟩ := Nms.of_own h
      injection e with e1 _ e3
      subst e1; subst e3
      exact h2
    exact h1.below (hbw.trans (hb.mono hbw.size))
  have hsz := hbw.size
  have GT := Lib.hid (rget_any A n c w.heap.size l x wb (hNm wb (Below.refl _ _)))
  have HBX := Lib.hid (fun w1 (hb : Below wb.heap.size wb w1) => (show w1.cell? ⟨w.heap.size, 0, none⟩ = some (.int .i64 k) ∧ w1.cell? ⟨w.heap.size, 1, none⟩ = some (.string x) ∧ w1.cell? ⟨w.heap.size, 2, none⟩ = some (.string y) ∧ w1.cell? ⟨w.heap.size, 3, none⟩ = some (.int .i64 i) from by
    have hx := hbx.below hb hbx.lt
    exact ⟨hx.cell 0, hx.cell 1, hx.cell 2, hx.cell 3⟩))
  have HSAME := Lib.hid (show didN cfT l ⟨k, x, y, i⟩ = l → DidR base (.slice A n c) (didN cfT l ⟨k, x, y, i⟩) w (.returned (.slice A n c)) wb from fun e => by
    rw [e]
    subst hln
    exact ⟨A, c, rfl, own_below h hbw, hbw, fun g hg => .inl hg⟩)
  have HOF := Lib.hid (fun (L : NmL) (w1 : World) (e : Ending) (w' : World) (hb : Below wb.heap.size wb w1) (hg : GivesN L w1 e w') => (show DidR base (.slice A n c) L w e w' from DidR.of hB (hbw.trans (hb.mono hsz)) hg))
  have W0 := Lib.hid (rwith_any A n c w.heap.size l x i wb (hNm wb (Below.refl _ _)) hsz hn)
  have WO := Lib.hid (rwo_any A n c w.heap.size l x wb (hNm wb (Below.refl _ _)) hsz (by omega))
  have hwl := woN_length l x
  have HWL := Lib.hid (show (woN l x).length ≤ 900000 by omega)
  rw [hwb] at GT HBX HSAME HOF W0 WO
  clear h hbw hbx hNm hsz hwl hwb hln
  have hfoo := HBX.out _ (Below.refl _ _)
  rcases hk with rfl | rfl | rfl
  · rw [did0]
    go_enter Try.func34, Try.ntmps34
    go_wp2_with (first
      | (go_at_call 26; refine GT.out.mono ?_; rintro e w9 ⟨rfl, rfl⟩)
      | (go_at_call 39; go_loud (refine W0.out.mono ?_; rintro e w3 hg; have HG := Lib.hid (HOF.out _ _ _ _ (Below.refl _ _) hg); obtain ⟨A3, c3, rfl, -⟩ := hg)))
    go_ret
    exact HG.out
  · cases hg : getN l x with
    | none =>
      have HE := Lib.hid (HSAME.out (didNone (by omega) hg))
      rw [hg] at GT
      clear hg
      go_enter Try.func34, Try.ntmps34
      go_wp2_with (go_at_call 26; refine GT.out.mono ?_; rintro e w9 ⟨rfl, rfl⟩)
      go_ret
      exact HE.out
    | some j =>
      rw [did1 hg]
      rw [hg] at GT
      clear hg
      go_enter Try.func34, Try.ntmps34
      go_wp2_with (first
        | (go_at_call 26; refine GT.out.mono ?_; rintro e w9 ⟨rfl, rfl⟩)
        | (go_at_call 40; go_loud (refine WO.out.mono ?_; rintro e w3 hg; obtain ⟨A3, n3, c3, rfl, hn3, hN3, hb3⟩ := hg.nms; obtain ⟨e0, e1, e2, e3⟩ := HBX.out w3 hb3; have W1 := Lib.hid (rwith_any A3 n3 c3 w3.heap.size (woN l x) y j w3 hN3 (Nat.le_refl _) (by rw [hn3]; exact HWL.out)); have HB3 := Lib.hid hb3; clear hg hn3 hN3 hb3))
        | (go_at_call 39; go_loud (refine W1.out.mono ?_; rintro e w4 hg; have HG := Lib.hid (HOF.out _ _ _ _ HB3.out hg); obtain ⟨A4, c4, rfl, -⟩ := hg)))
      go_ret
      exact HG.out
  · cases hg : getN l x with
    | none =>
      have HE := Lib.hid (HSAME.out (didNone (by omega) hg))
      rw [hg] at GT
      clear hg
      go_enter Try.func34, Try.ntmps34
      go_wp2_with (go_at_call 26; refine GT.out.mono ?_; rintro e w9 ⟨rfl, rfl⟩)
      go_ret
      exact HE.out
    | some j =>
      rw [did2 hg]
      rw [hg] at GT
      clear hg
      go_enter Try.func34, Try.ntmps34
      go_wp2_with (first
        | (go_at_call 26; refine GT.out.mono ?_; rintro e w9 ⟨rfl, rfl⟩)
        | (go_at_call 40; go_loud (refine WO.out.mono ?_; rintro e w3 hg; have HG := Lib.hid (HOF.out _ _ _ _ (Below.refl _ _) hg); obtain ⟨A3, n3, c3, rfl, hn3, hN3, hb3⟩ := hg.nms; obtain ⟨e0, e1, e2, e3⟩ := HBX.out w3 hb3; clear hg hn3 hN3 hb3)))
      go_ret
      exact HG.out

end Go.Proofs.Ytakjiklpfddooaa
