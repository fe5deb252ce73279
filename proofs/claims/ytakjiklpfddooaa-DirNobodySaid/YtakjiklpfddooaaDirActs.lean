/-
  LAYER 7: WHAT Create, Rename AND Unlink DO: contracts.
-/
import Derived.Test.YtakjiklpfddooaaDirDid
set_option linter.unusedVariables false
set_option linter.unusedSimpArgs false
namespace Go.Proofs.Ytakjiklpfddooaa
open Go.RowKit

section
variable {s : DB} {o : OpB}
theorem doS_no (h : doE s.now o ≠ 0) : doS s o = s := by unfold doS; rw [if_neg h]
theorem doS_yes (h : doE s.now o = 0) : doS s o = ⟨didN cfT s.now o, s.safe, s.ops ++ [o]⟩ := by unfold doS; rw [if_pos h]
end

theorem CD.held (p base : Nat) (S : Nat → Prop) (s : DB) (bn bs : Nat) (pv : Value) (w : World) (h : CD w base S p s bn bs pv) (x : ByteArray) (hx : x.size ≤ 200) :
    Calls Try.prog 27 #[.pointer (some ⟨p, 0, none⟩)] w (fun e w' => e = .returned (.bool true) ∧ w = w') ∧ Calls Try.prog 32 #[.pointer (some ⟨p, 0, none⟩), .string x] w (fun e w' => e = .returned (.bool (hasB s.now x)) ∧ w = w') := by
  obtain ⟨d0, -⟩ := h.cells (Below.refl _ _)
  exact ⟨made_yes p bn w d0, dhas_any p bn s.now x w d0 h.now (by unfold maxLen; omega)⟩

set_option maxHeartbeats 1000000 in
theorem dcreate_any (p : Nat) (base N : Nat) (S : Nat → Prop) (s : DB) (bn bs : Nat) (pv : Value) (x y : ByteArray) (id : Int) (w : World) (h : CD w base S p s bn bs pv) (hg : GoodD s N) (hN : N ≤ 900000) (hx : x.size ≤ 200) (hy : y.size ≤ 200) (hid : (Lit.int .i64 id).wf = true) :
    Calls Try.prog 19 #[.pointer (some ⟨p, 0, none⟩), .string x, .int .i64 id] w fun e w' => e = .returned (.int .i64 (doE s.now ⟨0, x, y, id⟩)) ∧ CDT base S p (doS s ⟨0, x, y, id⟩) w w' := by
  obtain ⟨MD, HS⟩ := CD.held p base S s bn bs pv w h x hx
  have RT := Lib.hid (right_any x w (by unfold maxLen; omega))
  have DD := Lib.hid (did_any p base N S s bn bs pv ⟨0, x, y, id⟩ w h hg hN ⟨hx, hy, hid, .inl rfl⟩ 0 x ⟨#[]⟩ id (by unfold normO; rw [if_pos rfl]))
  have hE : doE s.now ⟨0, x, y, id⟩ = if hasB s.now x then 7 else if rightB x then 0 else 1 := by unfold doE; rw [if_pos rfl]
  have HSM := Lib.hid (CDT.same h)
  have MDH := Lib.hid MD
  have HSH := Lib.hid HS
  clear h hg MD HS hid
  cases h1 : hasB s.now x with
  | true =>
    have he : doE s.now ⟨0, x, y, id⟩ = 7 := by rw [hE, h1]; rfl
    rw [doS_no (by rw [he]; omega), he]
    rw [h1] at HSH
    clear hE he h1
    go_enter Try.func19, Try.ntmps19
    go_wp2_with (first
      | (go_at_call 27; refine MDH.out.mono ?_; rintro e w9 ⟨rfl, rfl⟩)
      | (go_at_call 32; refine HSH.out.mono ?_; rintro e w9 ⟨rfl, rfl⟩))
    go_ret
    exact ⟨rfl, HSM.out⟩
  | false =>
    rw [h1] at HSH
    cases h2 : rightB x with
    | false =>
      have he : doE s.now ⟨0, x, y, id⟩ = 1 := by rw [hE, h1, h2]; rfl
      rw [doS_no (by rw [he]; omega), he]
      rw [h2] at RT
      clear hE he h1 h2
      go_enter Try.func19, Try.ntmps19
      go_wp2_with (first
        | (go_at_call 27; refine MDH.out.mono ?_; rintro e w9 ⟨rfl, rfl⟩)
        | (go_at_call 32; refine HSH.out.mono ?_; rintro e w9 ⟨rfl, rfl⟩)
        | (go_at_call 11; refine RT.out.mono ?_; rintro e w9 ⟨rfl, rfl⟩))
      go_ret
      exact ⟨rfl, HSM.out⟩
    | true =>
      have he : doE s.now ⟨0, x, y, id⟩ = 0 := by rw [hE, h1, h2]; rfl
      rw [doS_yes he, he]
      rw [h2] at RT
      clear hE he h1 h2
      go_enter Try.func19, Try.ntmps19
      go_wp2_with (first
        | (go_at_call 27; refine MDH.out.mono ?_; rintro e w9 ⟨rfl, rfl⟩)
        | (go_at_call 32; refine HSH.out.mono ?_; rintro e w9 ⟨rfl, rfl⟩)
        | (go_at_call 11; refine RT.out.mono ?_; rintro e w9 ⟨rfl, rfl⟩)
        | (go_at_call 33; go_loud (refine DD.out.mono ?_; rintro e w3 ⟨rfl, hc⟩; have HC := Lib.hid hc; clear hc)))
      go_ret
      exact ⟨rfl, HC.out⟩

set_option maxHeartbeats 1000000 in
theorem drename_any (p : Nat) (base N : Nat) (S : Nat → Prop) (s : DB) (bn bs : Nat) (pv : Value) (x y : ByteArray) (id : Int) (w : World) (h : CD w base S p s bn bs pv) (hg : GoodD s N) (hN : N ≤ 900000) (hx : x.size ≤ 200) (hy : y.size ≤ 200) (hid : (Lit.int .i64 id).wf = true) :
    Calls Try.prog 20 #[.pointer (some ⟨p, 0, none⟩), .string x, .string y] w fun e w' => e = .returned (.int .i64 (doE s.now ⟨1, x, y, id⟩)) ∧ CDT base S p (doS s ⟨1, x, y, id⟩) w w' := by
  obtain ⟨MD, HS⟩ := CD.held p base S s bn bs pv w h x hx
  have RT := Lib.hid (right_any y w (by unfold maxLen; omega))
  have DD := Lib.hid (did_any p base N S s bn bs pv ⟨1, x, y, id⟩ w h hg hN ⟨hx, hy, hid, .inr (.inl rfl)⟩ 1 x y 0 (by unfold normO; rw [if_neg (show ¬ (1 : Int) = 0 by omega), if_pos rfl]))
  have hE : doE s.now ⟨1, x, y, id⟩ = if hasB s.now x then (if rightB y then 0 else 1) else 6 := by unfold doE; rw [if_neg (show ¬ (1 : Int) = 0 by omega), if_pos rfl]
  have HSM := Lib.hid (CDT.same h)
  have MDH := Lib.hid MD
  have HSH := Lib.hid HS
  clear h hg MD HS hid
  cases h1 : hasB s.now x with
  | false =>
    have he : doE s.now ⟨1, x, y, id⟩ = 6 := by rw [hE, h1]; rfl
    rw [doS_no (by rw [he]; omega), he]
    rw [h1] at HSH
    clear hE he h1
    go_enter Try.func20, Try.ntmps20
    go_wp2_with (first
      | (go_at_call 27; refine MDH.out.mono ?_; rintro e w9 ⟨rfl, rfl⟩)
      | (go_at_call 32; refine HSH.out.mono ?_; rintro e w9 ⟨rfl, rfl⟩))
    go_ret
    exact ⟨rfl, HSM.out⟩
  | true =>
    rw [h1] at HSH
    cases h2 : rightB y with
    | false =>
      have he : doE s.now ⟨1, x, y, id⟩ = 1 := by rw [hE, h1, h2]; rfl
      rw [doS_no (by rw [he]; omega), he]
      rw [h2] at RT
      clear hE he h1 h2
      go_enter Try.func20, Try.ntmps20
      go_wp2_with (first
        | (go_at_call 27; refine MDH.out.mono ?_; rintro e w9 ⟨rfl, rfl⟩)
        | (go_at_call 32; refine HSH.out.mono ?_; rintro e w9 ⟨rfl, rfl⟩)
        | (go_at_call 11; refine RT.out.mono ?_; rintro e w9 ⟨rfl, rfl⟩))
      go_ret
      exact ⟨rfl, HSM.out⟩
    | true =>
      have he : doE s.now ⟨1, x, y, id⟩ = 0 := by rw [hE, h1, h2]; rfl
      rw [doS_yes he, he]
      rw [h2] at RT
      clear hE he h1 h2
      go_enter Try.func20, Try.ntmps20
      go_wp2_with (first
        | (go_at_call 27; refine MDH.out.mono ?_; rintro e w9 ⟨rfl, rfl⟩)
        | (go_at_call 32; refine HSH.out.mono ?_; rintro e w9 ⟨rfl, rfl⟩)
        | (go_at_call 11; refine RT.out.mono ?_; rintro e w9 ⟨rfl, rfl⟩)
        | (go_at_call 33; go_loud (refine DD.out.mono ?_; rintro e w3 ⟨rfl, hc⟩; have HC := Lib.hid hc; clear hc)))
      go_ret
      exact ⟨rfl, HC.out⟩

set_option maxHeartbeats 1000000 in
theorem dunlink_any (p : Nat) (base N : Nat) (S : Nat → Prop) (s : DB) (bn bs : Nat) (pv : Value) (x y : ByteArray) (id : Int) (w : World) (h : CD w base S p s bn bs pv) (hg : GoodD s N) (hN : N ≤ 900000) (hx : x.size ≤ 200) (hy : y.size ≤ 200) (hid : (Lit.int .i64 id).wf = true) :
    Calls Try.prog 21 #[.pointer (some ⟨p, 0, none⟩), .string x] w fun e w' => e = .returned (.int .i64 (doE s.now ⟨2, x, y, id⟩)) ∧ CDT base S p (doS s ⟨2, x, y, id⟩) w w' := by
  obtain ⟨MD, HS⟩ := CD.held p base S s bn bs pv w h x hx
  have DD := Lib.hid (did_any p base N S s bn bs pv ⟨2, x, y, id⟩ w h hg hN ⟨hx, hy, hid, .inr (.inr rfl)⟩ 2 x ⟨#[]⟩ 0 (by unfold normO; rw [if_neg (show ¬ (2 : Int) = 0 by omega), if_neg (show ¬ (2 : Int) = 1 by omega)]))
  have hE : doE s.now ⟨2, x, y, id⟩ = if hasB s.now x then 0 else 6 := by unfold doE; rw [if_neg (show ¬ (2 : Int) = 0 by omega), if_neg (show ¬ (2 : Int) = 1 by omega)]
  have HSM := Lib.hid (CDT.same h)
  have MDH := Lib.hid MD
  have HSH := Lib.hid HS
  clear h hg MD HS hid
  cases h1 : hasB s.now x with
  | false =>
    have he : doE s.now ⟨2, x, y, id⟩ = 6 := by rw [hE, h1]; rfl
    rw [doS_no (by rw [he]; omega), he]
    rw [h1] at HSH
    clear hE he h1
    go_enter Try.func21, Try.ntmps21
    go_wp2_with (first
      | (go_at_call 27; refine MDH.out.mono ?_; rintro e w9 ⟨rfl, rfl⟩)
      | (go_at_call 32; refine HSH.out.mono ?_; rintro e w9 ⟨rfl, rfl⟩))
    go_ret
    exact ⟨rfl, HSM.out⟩
  | true =>
    have he : doE s.now ⟨2, x, y, id⟩ = 0 := by rw [hE, h1]; rfl
    rw [doS_yes he, he]
    rw [h1] at HSH
    clear hE he h1
    go_enter Try.func21, Try.ntmps21
    go_wp2_with (first
      | (go_at_call 27; refine MDH.out.mono ?_; rintro e w9 ⟨rfl, rfl⟩)
      | (go_at_call 32; refine HSH.out.mono ?_; rintro e w9 ⟨rfl, rfl⟩)
      | (go_at_call 33; go_loud (refine DD.out.mono ?_; rintro e w3 ⟨rfl, hc⟩; have HC := Lib.hid hc; clear hc)))
    go_ret
    exact ⟨rfl, HC.out⟩

end Go.Proofs.Ytakjiklpfddooaa
