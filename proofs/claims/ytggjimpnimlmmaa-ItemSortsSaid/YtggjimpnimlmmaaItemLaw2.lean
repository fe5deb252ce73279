/-
  LAYER 4: the walks of ItemTells and ItemSorts.
-/
import Derived.Test.YtggjimpnimlmmaaItemLaw
set_option linter.unusedVariables false
set_option linter.unusedSimpArgs false
namespace Go.Proofs.Ytggjimpnimlmmaa
open Go.RowKit

/-! ### ItemSorts -/
theorem sorts_law (A : Option Addr) (n c : Nat) (zs : List ByteArray) (w : World) (h : Txt w w.heap.size A n c zs) :
    Calls Try.prog 7 #[.slice A n c] w fun e w' => e = .returned (.bool true) ∧ Below w.heap.size w w' := by
  have H := Lib.hid h
  have HF := Lib.hid (few_any A n c zs w.heap.size w h)
  have hl := h.len
  cases hf : fewB zs with
  | false =>
    rw [hf] at HF
    clear h hf hl
    go_enter Try.func7, Try.ntmps7
    go_wp2_with (first
      | (go_at_call 15; refine HF.out.mono ?_; rintro e w1 ⟨rfl, rfl⟩)
      | (go_at_call 8; refine (awake_any _).mono ?_; rintro e w1 ⟨rfl, hb1⟩))
    go_ret
    exact ⟨rfl, hb1⟩
  | true =>
    have HN := Lib.hid (show n ≤ 100 by have := fewB_len hf; omega)
    have HS1 := Lib.hid (fun (B : Nat) (w : World) (h : Txt w B A n c zs) => sorted_any A n c zs B w h (Nat.le_trans HN.out (by omega)))
    have HS2 := Lib.hid (fun (w : World) (h : Txt w w.heap.size A n c zs) => rsorted_any A n c zs w h HN.out)
    rw [hf] at HF
    rw [once_sorted zs] at HS1
    generalize sortedR zs = q at *
    clear h hf hl
    go_enter Try.func7, Try.ntmps7
    go_wp2_with (first
      | (go_at_call 15; refine HF.out.mono ?_; rintro e w1 ⟨rfl, rfl⟩)
      | (go_at_call 25; refine (HS1.out _ w H.out).mono ?_; rintro e w1 ⟨A1, c1, rfl, hT1, hb1⟩; have HT1 := Lib.hid hT1; have HH := Lib.hid ((H.out.below hb1).more hb1.size); clear hT1)
      | (go_at_call 26; refine (HS2.out w1 HH.out).mono ?_; rintro e w2 ⟨A2, c2, rfl, hT2, hb2⟩; have HT2 := Lib.hid hT2; have HT3 := Lib.hid (HT1.out.below hb2); have hb3 := hb1.trans (hb2.mono hb1.size); clear hT2)
      | (go_at_call 18; refine (texts_same A1 A2 q.length c1 c2 q _ _ w2 HT3.out HT2.out).mono ?_; rintro e w3 ⟨rfl, n2, rfl⟩; have hb4 := below_drewn hb3 n2)
      | (go_at_call 8; refine (awake_any _).mono ?_; rintro e w4 ⟨rfl, hb5⟩))
    go_ret
    exact ⟨rfl, hb4.trans (hb5.mono hb4.size)⟩

/-! ### ItemTells -/
theorem rcheck_no (A : Option Addr) (n c : Nat) (zs : List ByteArray) (w : World) (h : Txt w w.heap.size A n c zs) (hn : n ≤ 1000) (he : ¬ chkE zs = 0) :
    Calls Try.prog 17 #[.slice A n c] w fun e w' => ∃ A c, e = .returned (.tuple #[.slice A 0 c, .int .i64 (chkE zs)]) ∧ Below w.heap.size w w' := by
  refine (rcheck_any A n c zs w h hn).mono fun e w' ⟨A1, c1, he1, ht, hb⟩ => ?_
  rw [chkL_no he] at he1
  exact ⟨A1, c1, he1, hb⟩
theorem rcheck_yes (A : Option Addr) (n c : Nat) (zs : List ByteArray) (w : World) (h : Txt w w.heap.size A n c zs) (hn : n ≤ 1000) (he : chkE zs = 0) (L : List ByteArray) (hL : chkL zs = L) :
    Calls Try.prog 17 #[.slice A n c] w fun e w' => ∃ A c, e = .returned (.tuple #[.slice A L.length c, .int .i64 0]) ∧ Txt w' w'.heap.size A L.length c L ∧ Below w.heap.size w w' := by
  subst hL
  refine (rcheck_any A n c zs w h hn).mono fun e w' ⟨A1, c1, he1, ht, hb⟩ => ?_
  rw [he] at he1
  exact ⟨A1, c1, he1, ht, hb⟩

set_option maxHeartbeats 1000000 in
theorem tells_law (A : Option Addr) (n c : Nat) (zs : List ByteArray) (s : ByteArray) (w : World) (h : Txt w w.heap.size A n c zs) (hs : s.size ≤ maxLen) :
    Calls Try.prog 6 #[.slice A n c, .string s] w fun e w' => e = .returned (.bool true) ∧ Below w.heap.size w w' := by
  have H := Lib.hid h
  have HF := Lib.hid (few_any A n c zs w.heap.size w h)
  have hl := h.len
  unfold maxLen at hs
  cases hf : fewB zs with
  | false =>
    rw [hf] at HF
    clear h hf hl
    go_enter Try.func6, Try.ntmps6
    go_wp2_with (first
      | (go_at_call 15; refine HF.out.mono ?_; rintro e w1 ⟨rfl, rfl⟩)
      | (go_at_call 8; refine (awake_any _).mono ?_; rintro e w1 ⟨rfl, hb1⟩))
    go_ret
    exact ⟨rfl, hb1⟩
  | true =>
    have HN := Lib.hid (show n ≤ 1000 by have := fewB_len hf; omega)
    rw [hf] at HF
    by_cases hbig : 3000 < s.size
    · have d1 : (3000 : Int) < s.size := by omega
      clear h hf hl
      go_enter Try.func6, Try.ntmps6
      go_wp2_with (first
        | (go_at_call 15; refine HF.out.mono ?_; rintro e w1 ⟨rfl, rfl⟩)
        | (go_at_call 8; refine (awake_any _).mono ?_; rintro e w1 ⟨rfl, hb1⟩))
      go_ret
      exact ⟨rfl, hb1⟩
    have d0 : ¬ (3000 : Int) < s.size := by omega
    by_cases he : chkE zs = 0
    · obtain ⟨e1, e2, e3⟩ := chkL_again he
      have hll : (onceL cfT zs).length ≤ 1000 := by rw [once_put cfT_tot]; exact Nat.le_trans (putAll_length _) (by rw [hl]; exact HN.out)
      have HLL := Lib.hid hll
      have HE := Lib.hid he
      have H1 := Lib.hid e1
      generalize onceL cfT zs = L at *
      have HV1 := Lib.hid (fun (A1 : Option Addr) (c1 : Nat) (B : Nat) (w : World) (h : Txt w B A1 L.length c1 L) => value_any A1 L.length c1 L s B w h)
      have HV2 := Lib.hid (fun (A1 : Option Addr) (c1 : Nat) (B : Nat) (w : World) (h : Txt w B A1 L.length c1 L) => rvalue_any A1 L.length c1 L s B w h)
      have HH1 := Lib.hid (fun (A1 : Option Addr) (c1 : Nat) (B : Nat) (w : World) (h : Txt w B A1 L.length c1 L) => has_any A1 L.length c1 L s B w h HLL.out)
      have HH2 := Lib.hid (fun (A1 : Option Addr) (c1 : Nat) (B : Nat) (w : World) (h : Txt w B A1 L.length c1 L) => rhas_any A1 L.length c1 L s B w h)
      have HS1 := Lib.hid (fun (A1 : Option Addr) (c1 : Nat) (w : World) (h : Txt w w.heap.size A1 L.length c1 L) => fields_any A1 L.length c1 L w h HLL.out)
      have HS2 := Lib.hid (fun (A1 : Option Addr) (c1 : Nat) (w : World) (h : Txt w w.heap.size A1 L.length c1 L) => rfields_any A1 L.length c1 L w h HLL.out)
      rw [once_fields L] at HS1
      generalize fieldsR L = q at *
      generalize valV L s = vv at *
      generalize valB L s = vb at *
      generalize hasB L s = hh at *
      clear h hf hl he e1 e2 e3 hll
      go_enter Try.func6, Try.ntmps6
      go_wp2_with (first
        | (go_at_call 15; refine HF.out.mono ?_; rintro e w1 ⟨rfl, rfl⟩)
        | (go_at_call 17; refine (rcheck_yes A n c zs w H.out HN.out HE.out L H1.out).mono ?_; rintro e w1 ⟨A1, c1, rfl, hT1, hb1⟩; have HT1 := Lib.hid hT1; clear hT1)
        | (go_at_call 19; refine (HV1.out A1 c1 _ _ HT1.out).mono ?_; rintro e w2 ⟨rfl, n1, rfl⟩; have HT2 := Lib.hid (HT1.out.drewN n1))
        | (go_at_call 20; refine (HV2.out A1 c1 _ _ HT2.out).mono ?_; rintro e w2 ⟨rfl, n2, rfl⟩; rw [World.drewN_drewN]; have HT3 := Lib.hid (HT1.out.drewN (n1 + n2)); have hb2 := below_drewn hb1 (n1 + n2))
        | (go_at_call 21; refine (HS1.out A1 c1 _ HT3.out).mono ?_; rintro e w3 ⟨A2, c2, rfl, hT4, hb3⟩; have HT4 := Lib.hid hT4; have HT5 := Lib.hid ((HT3.out.below hb3).more hb3.size); have hb4 := hb2.trans (hb3.mono hb2.size); clear hT4)
        | (go_at_call 22; refine (HS2.out A1 c1 w3 HT5.out).mono ?_; rintro e w4 ⟨A3, c3, rfl, hT6, hb5⟩; have HT6 := Lib.hid hT6; have HT7 := Lib.hid (HT4.out.below hb5); have HT8 := Lib.hid ((HT5.out.below hb5).more hb5.size); have hb6 := hb4.trans (hb5.mono hb4.size); clear hT6)
        | (go_at_call 18; refine (texts_same A2 A3 q.length c2 c3 q _ _ w4 HT7.out HT6.out).mono ?_; rintro e w5 ⟨rfl, n3, rfl⟩; have hb7 := below_drewn hb6 n3; have HT9 := Lib.hid (HT8.out.drewN n3))
        | (go_at_call 23; refine (HH1.out A1 c1 _ _ HT9.out).mono ?_; rintro e w6 ⟨rfl, rfl⟩)
        | (go_at_call 24; refine (HH2.out A1 c1 _ _ HT9.out).mono ?_; rintro e w6 ⟨rfl, rfl⟩)
        | (go_at_call 8; refine (awake_any _).mono ?_; rintro e w7 ⟨rfl, hb8⟩))
      go_ret
      exact ⟨rfl, hb7.trans (hb8.mono hb7.size)⟩
    · have d1 : (chkE zs == 0) = false := by rw [beq_eq_false_iff_ne]; exact he
      have d2 : (chkE zs != 0) = true := by rw [bne_iff_ne]; exact he
      have HE := Lib.hid he
      clear h hf hl he
      go_enter Try.func6, Try.ntmps6
      go_wp2_with (first
        | (go_at_call 15; refine HF.out.mono ?_; rintro e w1 ⟨rfl, rfl⟩)
        | (go_at_call 17; refine (rcheck_no A n c zs w H.out HN.out HE.out).mono ?_; rintro e w1 ⟨A1, c1, rfl, hb1⟩)
        | (go_at_call 8; refine (awake_any _).mono ?_; rintro e w4 ⟨rfl, hb5⟩))
      go_ret
      exact ⟨rfl, hb1.trans (hb5.mono hb1.size)⟩

/-! ### How the argument is opened -/
theorem view_texts {H : Type} {enc : TypeId × Value → H} {w : World} {A : Option Addr} {len cap : Nat} {d : DataW H} {p : List MemPlace}
    (h : DataW.Trod enc Try.prog w 0 (fun _ => true) true 27 (.slice A len cap) d p) : ∃ zs, Txt w w.heap.size A len cap zs :=
  view_txt Try.underlying27 Try.underlying9 (by kernel_rfl) h

end Go.Proofs.Ytggjimpnimlmmaa
