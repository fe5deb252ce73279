/-
  LAYER 12: WHAT THE DOCUMENT'S OWN Put AND Object OF AN IMAGE DO: contracts.
-/
import Derived.Test.YthdnjjdlhhapbaaImRef
import Derived.Test.YthdnjjdlhhapbaaImObj
import Derived.Test.YthdnjjdlhhapbaaImPut
set_option linter.unusedVariables false
set_option maxRecDepth 100000
set_option linter.unusedSimpArgs false
namespace Go.Proofs.Ythdnjjdlhhapbaa
open Go.RowKit

theorem OutB.lit2 {w wx : World} (hb : Below w.heap.size w wx) : OutB w (.slice (some ⟨wx.heap.size, 0, none⟩) 0 0) 0 [] (wx.alloc (.cells #[] 5)) := ⟨World.ownsRow_lit wx #[] 0 hb.size (Nat.zero_le _) rfl, hb.alloc hb.size _⟩
/-- What is owned stays, when an empty row of the call's own has been made longer. -/
theorem own_past {wx wy : World} {b : Nat} {e : TypeId} {size n : Nat} {v : Value} {xs : List Value} {ob : Obj} (h : wx.ownsRow b e size v n xs) (hg : (wx.alloc ob).grownBy wy (Value.ownBlock (.slice (some ⟨wx.heap.size, 0, none⟩) 0 0))) : wy.ownsRow b e size v n xs :=
  own_chg (h.alloc ob) (Chg.of_grown hg) (fun g hg' e => by
    have := (h.lt g hg').2
    simp [Value.ownBlock] at e
    omega)

section
variable {base p : Nat} {S : Nat → Prop} {i k d f h : Int} {m : IM} {bv wv sv : Value}

set_option maxHeartbeats 2000000 in
theorem rput_any {L : Nat} (ok : Int) (A1 : Option Addr) (n1 c1 : Nat) (ws : List Int) (A2 : Option Addr) (n2 c2 : Nat) (rs : List Int) (A3 : Option Addr) (n3 c3 : Nat) (is : List Int) (w : World) (ho : ObR w L A1 n1 c1 ws A2 n2 c2 rs A3 n3 c3 is) (hL : L ≤ base)
    (hw1 : ∀ z ∈ ws, 0 ≤ z ∧ z < 18446744073709551616) (hw2 : ∀ z ∈ is, 0 ≤ z ∧ z < 18446744073709551616)
    (H : RX w base S p i k d f h m bv wv sv) (hl : m.b.length ≤ 1099511627776) (hlim : m.lim ≤ 1048576) :
    Calls Try.prog 37 #[.pointer (some ⟨p, 0, none⟩), obV ok A1 n1 c1 A2 n2 c2 A3 n3 c3] w fun e w' => e = .returned (.tuple #[.int .i64 (m.putA (encR ok ws rs is)), .int .i64 (m.putE (encR ok ws rs is))]) ∧ RXT base S p i k d f h (m.put (encR ok ws rs is)) w w' := by
  obtain ⟨i0, hi, hz0, hz1, hz2⟩ := info_parts byteInfo
  have HB0 := Lib.hid (boxed w (.cells #[.int .i64 ok, .slice A1 n1 c1, .slice A2 n2 c2, .slice A3 n3 c3] 41))
  have EN := Lib.hid (roenc_any ok A1 n1 c1 ws A2 n2 c2 rs A3 n3 c3 is (w.alloc (.cells #[.int .i64 ok, .slice A1 n1 c1, .slice A2 n2 c2, .slice A3 n3 c3] 41)) (ho.below HB0.out (Nat.le_trans hL H.bas)) (Nat.le_trans (Nat.le_trans hL H.bas) HB0.out.size) hw1 hw2)
  have hXb : (encR ok ws rs is).length ≤ 20000 := by
    unfold encR; split
    · exact encO_le (by assumption)
    · exact Nat.zero_le _
  generalize encR ok ws rs is = xs at *
  obtain ⟨A, c, rfl, r1, r2, r3⟩ := H.reads
  obtain ⟨n, hn⟩ : ∃ n, n = m.b.length := ⟨_, rfl⟩
  obtain ⟨x, hx⟩ : ∃ x, x = xs.length := ⟨_, rfl⟩
  obtain ⟨lm, hlm⟩ : ∃ lm, lm = m.lim := ⟨_, rfl⟩
  have hc0 := fun w1 (hb : Below w.heap.size w w1) => nine (H.below hb).blk
  rw [← hn, ← hlm] at hc0
  rw [← hn] at r3 hl
  rw [← hlm] at hlim
  rw [← hx] at hXb
  have HC := Lib.hid hc0
  have HR := Lib.hid (fun w1 (hb : Below w.heap.size w w1) => r3.below hb)
  have HI := Lib.hid H
  have HN := Lib.hid hn
  have HXL := Lib.hid hx
  have HLM := Lib.hid hlm
  have k1 : 0 + n ≤ maxLen := by unfold maxLen; omega
  have k2 : (0 + n) * 1 ≤ 140737488355328 := by omega
  have k3 : n + x ≤ maxLen := by unfold maxLen; omega
  have k4 : (n + x) * 1 ≤ 140737488355328 := by omega
  have t0 : IntKind.i64.wrap ((n : Int) + (x : Int)) = (n : Int) + (x : Int) := by rw [IntKind.wrap_i64]; omega
  clear ho H r1 r2 r3 hc0 hn hx hlm
  by_cases hx0 : x = 0
  · have hxs : xs = [] := List.eq_nil_of_length_eq_zero (by have := HXL.out; omega)
    have e1 : m.putE xs = 1 := by unfold IM.putE; rw [if_pos hxs]
    have e2 : m.putA xs = 0 := by unfold IM.putA; rw [e1, if_neg (by omega)]
    have e3 : m.put xs = m := by unfold IM.put; rw [e1, if_neg (by omega)]
    rw [e1, e2, e3]
    clear e1 e2 e3 hxs
    subst hx0
    go_enter Try.func37, Try.ntmps37
    go_wp2_with (go_at_call 63; go_loud (refine EN.out.mono ?_; rintro e w1 ⟨A5, n5, c5, rfl, hn5, -, hb5, -, -⟩; rw [← HXL.out] at hn5; subst hn5; have hbw := HB0.out.trans (hb5.mono HB0.out.size)))
    go_ret2
    exact ⟨rfl, RXT.far HI.out hbw⟩
  · have hxs : xs ≠ [] := fun e => hx0 (by rw [HXL.out, e]; rfl)
    by_cases hfull : lm < n + x
    · have e1 : m.putE xs = 21 := by unfold IM.putE; rw [if_neg hxs, if_pos (by rw [← HN.out, ← HXL.out, ← HLM.out]; exact hfull)]
      have e2 : m.putA xs = 0 := by unfold IM.putA; rw [e1, if_neg (by omega)]
      have e3 : m.put xs = m := by unfold IM.put; rw [e1, if_neg (by omega)]
      rw [e1, e2, e3]
      have t1 : ((x : Int) == 0) = false := by simpa using hx0
      have t2 : (lm : Int) < (n : Int) + (x : Int) := by omega
      clear e1 e2 e3 hxs hx0
      go_enter Try.func37, Try.ntmps37
      go_wp2_with (go_at_call 63; go_loud (refine EN.out.mono ?_; rintro e w1 ⟨A5, n5, c5, rfl, hn5, -, hb5, -, -⟩; rw [← HXL.out] at hn5; have hn5 := hn5.symm; subst hn5; have hbw := HB0.out.trans (hb5.mono HB0.out.size)))
      have hk := HC.out _ (below_drewn hbw 1)
      go_region_held3 (fun w' => w'.cell? ⟨p, 5, none⟩ = some (.slice A n c) ∧ w'.cell? ⟨p, 7, none⟩ = some (.int .i64 (lm : Int)))
        (first | assumption | exact ⟨hk.1.2.2.2.2.2.1, hk.1.2.2.2.2.2.2.2.1⟩) (fail)
      go_wp2
      go_ret2
      exact ⟨rfl, RXT.far HI.out (below_drewn hbw 1)⟩
    · have e1 : m.putE xs = 0 := by unfold IM.putE; rw [if_neg hxs, if_neg (by rw [← HN.out, ← HXL.out, ← HLM.out]; exact hfull)]
      have e2 : m.putA xs = (n : Nat) := by unfold IM.putA; rw [e1, if_pos rfl, ← HN.out]
      have e3 : m.put xs = { m with b := m.b ++ xs } := by unfold IM.put; rw [e1, if_pos rfl]; rfl
      rw [e1, e2, e3]
      have t1 : ((x : Int) == 0) = false := by simpa using hx0
      have t2 : ¬ (lm : Int) < (n : Int) + (x : Int) := by omega
      clear e1 e2 e3 hxs hx0
      go_enter Try.func37, Try.ntmps37
      go_wp2_with (go_at_call 63; go_loud (refine EN.out.mono ?_; rintro e w1 ⟨A5, n5, c5, rfl, hn5, ho5, hb5, -, -⟩; rw [← HXL.out] at hn5; have hn5 := hn5.symm; subst hn5; have hbw := HB0.out.trans (hb5.mono HB0.out.size); have HO5 := Lib.hid ho5; clear ho5))
      have hk := HC.out _ (below_drewn hbw 1)
      go_region_held3 (fun w' => w'.cell? ⟨p, 5, none⟩ = some (.slice A n c) ∧ w'.cell? ⟨p, 7, none⟩ = some (.int .i64 (lm : Int)))
        (first | assumption | exact ⟨hk.1.2.2.2.2.2.1, hk.1.2.2.2.2.2.2.2.1⟩) (fail)
      have d5 := hk.1.2.2.2.2.2.1
      have hbd := below_drewn hbw 1
      obtain ⟨wd, hwd⟩ : ∃ wd, w1.drew = wd := ⟨_, rfl⟩
      have HO6 : Hid (wd.ownsRow (w.alloc (.cells #[.int .i64 ok, .slice A1 n1 c1, .slice A2 n2 c2, .slice A3 n3 c3] 41)).heap.size 5 1 (.slice A5 x c5) x (cellsOf .u8 xs)) := by show World.ownsRow _ _ _ _ _ _ _; rw [← hwd]; exact HO5.out
      rw [show w1.drewN 1 = wd from hwd] at hbd d5
      have hbl := hbd.alloc hbd.size (.cells #[] 5)
      have d6 := (HC.out _ hbl).1.2.2.2.2.2.1
      clear hk hbw hb5
      have O0 := OutB.lit2 hbd
      have m1 : True := trivial
      rw [show World.drew w1 = wd from hwd]
      clear hwd hbl hn5
      go_wp2_with (first
        | (at_builtin; clear m1; go_loud (refine wpList_append_any _ rfl _ _ _ rfl w.heap.size 5 i0 (.int .u8 0) 1 1 Try.underlying39 hi hz0 hz1 hz2 rfl (Nat.lt_succ_self 0) _ 0 [] rfl O0.own w.heap.size A n c (cellsOf .u8 m.b) rfl (HR.out _ O0.bel) (cellsOf_one _ _) k1 k2 O0.bel.size ?_; intro v3 w3 ho3 hg3 hat3; have O1 := O0.app (ys := m.b) ho3 hg3; rw [Nat.zero_add] at O1; obtain ⟨A6, c6, rfl, -, -⟩ := own_form O1.own; have R5 := Reads.of_own (own_past HO6.out hg3); clear ho3 hg3 hat3 O0))
        | (at_builtin; go_loud (refine wpList_append_any _ rfl _ _ _ rfl w.heap.size 5 i0 (.int .u8 0) 1 1 Try.underlying39 hi hz0 hz1 hz2 rfl (Nat.lt_succ_self 0) _ n (cellsOf .u8 ([] ++ m.b)) rfl O1.own w3.heap.size A5 x c5 (cellsOf .u8 xs) rfl R5 (cellsOf_one _ _) k3 k4 O1.bel.size ?_; intro v4 w4 ho4 hg4 hat4; have O2 := O1.app (ys := xs) ho4 hg4; obtain ⟨A7, c7, rfl, -, -⟩ := own_form O2.own; obtain ⟨⟨-, -, -, -, -, e5, -, -, -⟩, f5, -, -, -⟩ := HC.out _ O2.bel; have HO2 := Lib.hid O2; clear ho4 hg4 hat4 O1 R5 O2)))
      go_ret2
      have hh := HO2.out
      rw [List.nil_append] at hh
      have hown := hh.own
      rw [show n + x = (m.b ++ xs).length by rw [List.length_append, ← HN.out, ← HXL.out]] at hown ⊢
      obtain ⟨q1, q2⟩ := HI.out.setB hown hh.bel
      exact ⟨rfl, RXT.of q2 q1 (fun j hj => hj.imp id (fun y => y.1)) HI.out.foot HI.out.bas⟩

/-! ### Object -/
/-- A row of numbers of another kind lies in no object's own block. -/
theorem ob_apart {w : World} {B n R : Nat} {A : Option Addr} {kk : IntKind} {zs : List Int} {T : TypeId} {x : Int} {a1 a2 a3 : Option Addr} {m1 m2 m3 c1 c2 c3 : Nat} (hk : kk ≠ .i64) (hr : Reads w B 1 A n (cellsOf kk zs)) (hR : Blk w R T #[.int .i64 x, .slice a1 m1 c1, .slice a2 m2 c2, .slice a3 m3 c3]) :
    0 < n → ∀ ad, A = some ad → ¬ ad.block = R := fun hn ad e hb => by
  obtain ⟨b, off, e2, _, hc⟩ := hr.plain hn
  rw [e] at e2
  injection e2 with e2
  subst e2
  have hb : b = R := hb
  subst hb
  have h1 := hc 0 hn
  rw [Nat.add_zero, hR.cell] at h1
  match off, h1 with
  | 0, h1 => simp at h1; exact hk h1.1.symm
  | 1, h1 => simp at h1
  | 2, h1 => simp at h1
  | 3, h1 => simp at h1
  | q + 4, h1 => simp at h1

/-- What the document's Object tells of an object that stands there. -/
def RObTold (m : IM) (j k s : Nat) (w : World) (e : Ending) (w' : World) : Prop :=
  ∃ A1 n1 c1 A2 n2 c2 A3 n3 c3, e = .returned (.tuple #[obV k A1 n1 c1 A2 n2 c2 A3 n3 c3, .bool true]) ∧ Below w.heap.size w w' ∧ ObR w' w'.heap.size A1 n1 c1 (dW (objB m.b j s) k) A2 n2 c2 (dR (objB m.b j s) k) A3 n3 c3 (dI (objB m.b j s) k)

theorem robject_low (at_ : Int) (w : World) (H : RX w base S p i k d f h m bv wv sv) (hd : 1 ≤ d ∧ d ≤ 256) (hf : 1 ≤ f ∧ f ≤ 256) (hlt : at_ < 256 + 8 * (d + f)) :
    Calls Try.prog 41 #[.pointer (some ⟨p, 0, none⟩), .int .i64 at_] w fun e w' => e = .returned (.tuple #[obZ, .bool false]) ∧ Below w.heap.size w w' := by
  have OB := Lib.hid (fun w1 => rhobjects_any i k d f h w1 (by omega) hd.2 (by omega) hf.2)
  obtain ⟨t, ht⟩ : ∃ t, 256 + 8 * (d + f) = t := ⟨_, rfl⟩
  rw [ht] at OB hlt
  obtain ⟨⟨c0, c1, c2, c3, c4, -, -, -, -⟩, -⟩ := nine (H.blk.alloc (.cells #[.int .i64 0, .slice none 0 0, .slice none 0 0, .slice none 0 0] 41))
  have HZ := Lib.hid (fun w1 (hb : Below (w.alloc (.cells #[.int .i64 0, .slice none 0 0, .slice none 0 0, .slice none 0 0] 41)).heap.size (w.alloc (.cells #[.int .i64 0, .slice none 0 0, .slice none 0 0, .slice none 0 0] 41)) w1) => ((Blk.new w 41 #[.int .i64 0, .slice none 0 0, .slice none 0 0, .slice none 0 0]).below hb (by simp) : Blk w1 w.heap.size 41 #[.int .i64 0, .slice none 0 0, .slice none 0 0, .slice none 0 0]))
  clear H ht
  go_enter Try.func41, Try.ntmps41
  go_wp2_with (go_at_call 22; refine (OB.out _).mono ?_; rintro e w1 ⟨rfl, hb1⟩; have hz := HZ.out _ hb1; have z0 := hz.cell 0; have z1 := hz.cell 1; have z2 := hz.cell 2; have z3 := hz.cell 3; have f0 := hz.frozen 0; have f1 := hz.frozen 1; have f2 := hz.frozen 2; have f3 := hz.frozen 3; have HZ1 := Lib.hid hz; clear hz)
  refine bodyPost_ret (results_cell2 rfl _ _ w.heap.size 41 _ (0, 0) _ rfl (put4 HZ1.out).1 Try.underlying41 rfl (by kernel_rfl)) rfl ?_
  exact ⟨rfl, put4_below HZ1.out ((boxed _ _).trans (hb1.mono (by simp)))⟩

set_option maxHeartbeats 1000000 in
theorem robject_none (at_ : Int) (w : World) (H : RX w base S p i k d f h m bv wv sv) (hbm : AreB m.b) (hl : m.b.length ≤ 1099511627776) (hd : 1 ≤ d ∧ d ≤ 256) (hf : 1 ≤ f ∧ f ≤ 256) (h0 : ¬ at_ < 256 + 8 * (d + f)) (h1 : at_ ≤ 9223372036854775807)
    (hno : ∀ j k s, at_ = (j : Nat) → DecAt m.b j k s → decB m.b j k s = false) :
    Calls Try.prog 41 #[.pointer (some ⟨p, 0, none⟩), .int .i64 at_] w fun e w' => e = .returned (.tuple #[obZ, .bool false]) ∧ Below w.heap.size w w' := by
  have OB := Lib.hid (fun w1 => rhobjects_any i k d f h w1 (by omega) hd.2 (by omega) hf.2)
  obtain ⟨A, c, rfl, q1, q2, q3⟩ := H.reads
  have DN := Lib.hid (fun w1 (hb : Below w.heap.size w w1) => rodec_no A m.b.length c at_ m.b w1 (q3.below hb) (hb.size) hbm q1 q2 (by omega) (by omega) h1 hno)
  obtain ⟨n, hn⟩ : ∃ n, n = m.b.length := ⟨_, rfl⟩
  rw [← hn] at DN H
  obtain ⟨t, ht⟩ : ∃ t, 256 + 8 * (d + f) = t := ⟨_, rfl⟩
  rw [ht] at OB h0
  have HB0 := Lib.hid (boxed w (.cells #[.int .i64 0, .slice none 0 0, .slice none 0 0, .slice none 0 0] 41))
  obtain ⟨⟨c0, c1, c2, c3, c4, -, -, -, -⟩, -⟩ := nine (H.blk.alloc (.cells #[.int .i64 0, .slice none 0 0, .slice none 0 0, .slice none 0 0] 41))
  have HC := Lib.hid (fun w1 (hb : Below w.heap.size w w1) => ((nine (H.below hb).blk).1.2.2.2.2.2.1 : w1.cell? ⟨p, 5, none⟩ = some (.slice A n c)))
  have HZ := Lib.hid (fun w1 (hb : Below (w.alloc (.cells #[.int .i64 0, .slice none 0 0, .slice none 0 0, .slice none 0 0] 41)).heap.size (w.alloc (.cells #[.int .i64 0, .slice none 0 0, .slice none 0 0, .slice none 0 0] 41)) w1) => ((Blk.new w 41 #[.int .i64 0, .slice none 0 0, .slice none 0 0, .slice none 0 0]).below hb (by simp) : Blk w1 w.heap.size 41 #[.int .i64 0, .slice none 0 0, .slice none 0 0, .slice none 0 0]))
  clear H ht q1 q2 q3 hn hno
  go_enter Try.func41, Try.ntmps41
  go_wp2_with (first
    | (go_at_call 22; refine (OB.out _).mono ?_; rintro e w1 ⟨rfl, hb1⟩; have hbW := HB0.out.trans (hb1.mono HB0.out.size); have c5 := HC.out _ hbW)
    | (go_at_call 65; refine (DN.out _ hbW).mono ?_; rintro e w2 ⟨rfl, hb2⟩; have hbV := hbW.trans (hb2.mono hbW.size); have hbX := hbV.alloc hbV.size (.cells #[.int .i64 0, .slice none 0 0, .slice none 0 0, .slice none 0 0] 41); have hz := (HZ.out _ (hb1.trans (hb2.mono hb1.size))).alloc (.cells #[.int .i64 0, .slice none 0 0, .slice none 0 0, .slice none 0 0] 41); have z0 := hz.cell 0; have z1 := hz.cell 1; have z2 := hz.cell 2; have z3 := hz.cell 3; have f0 := hz.frozen 0; have f1 := hz.frozen 1; have f2 := hz.frozen 2; have f3 := hz.frozen 3; have HZ1 := Lib.hid (And.intro hz hbX); clear hz hbX))
  refine bodyPost_ret (results_cell2 rfl _ _ w.heap.size 41 _ (0, 0) _ rfl (put4 HZ1.out.1).1 Try.underlying41 rfl (by kernel_rfl)) rfl ?_
  exact ⟨rfl, put4_below HZ1.out.1 HZ1.out.2⟩

set_option maxHeartbeats 1000000 in
theorem robject_yes (j kk s : Nat) (w : World) (H : RX w base S p i k d f h m bv wv sv) (hbm : AreB m.b) (hl : m.b.length ≤ 1099511627776) (hd : 1 ≤ d ∧ d ≤ 256) (hf : 1 ≤ f ∧ f ≤ 256) (hth : m.there d f j kk s) :
    Calls Try.prog 41 #[.pointer (some ⟨p, 0, none⟩), .int .i64 j] w (RObTold m j kk s w) := by
  obtain ⟨t0, t1, t2⟩ := hth
  have OB := Lib.hid (fun w1 => rhobjects_any i k d f h w1 (by omega) hd.2 (by omega) hf.2)
  obtain ⟨A, c, rfl, q1, q2, q3⟩ := H.reads
  have DN := Lib.hid (fun w1 (hb : Below w.heap.size w w1) => rodec_yes A m.b.length c j kk s m.b w1 (q3.below hb) (hb.size) hbm q1 q2 (by omega) t1 t2)
  obtain ⟨n, hn⟩ : ∃ n, n = m.b.length := ⟨_, rfl⟩
  rw [← hn] at DN H
  obtain ⟨t, ht⟩ : ∃ t, 256 + 8 * (d + f) = t := ⟨_, rfl⟩
  rw [ht] at OB t0
  have h0 : ¬ (j : Int) < t := by omega
  have HB0 := Lib.hid (boxed w (.cells #[.int .i64 0, .slice none 0 0, .slice none 0 0, .slice none 0 0] 41))
  obtain ⟨⟨c0, c1, c2, c3, c4, -, -, -, -⟩, -⟩ := nine (H.blk.alloc (.cells #[.int .i64 0, .slice none 0 0, .slice none 0 0, .slice none 0 0] 41))
  have HC := Lib.hid (fun w1 (hb : Below w.heap.size w w1) => ((nine (H.below hb).blk).1.2.2.2.2.2.1 : w1.cell? ⟨p, 5, none⟩ = some (.slice A n c)))
  have HZ := Lib.hid (fun w1 (hb : Below (w.alloc (.cells #[.int .i64 0, .slice none 0 0, .slice none 0 0, .slice none 0 0] 41)).heap.size (w.alloc (.cells #[.int .i64 0, .slice none 0 0, .slice none 0 0, .slice none 0 0] 41)) w1) => ((Blk.new w 41 #[.int .i64 0, .slice none 0 0, .slice none 0 0, .slice none 0 0]).below hb (by simp) : Blk w1 w.heap.size 41 #[.int .i64 0, .slice none 0 0, .slice none 0 0, .slice none 0 0]))
  obtain ⟨Z, hZ⟩ : ∃ Z : Nat, Z = j + (s + padn s 8) := ⟨_, rfl⟩
  rw [← hZ] at DN
  clear H ht q1 q2 q3 hn hZ t0 t1 t2
  go_enter Try.func41, Try.ntmps41
  go_wp2_with (first
    | (go_at_call 22; refine (OB.out _).mono ?_; rintro e w1 ⟨rfl, hb1⟩; have hbW := HB0.out.trans (hb1.mono HB0.out.size); have c5 := HC.out _ hbW)
    | (go_at_call 65; refine (DN.out _ hbW).mono ?_; rintro e w2 ⟨A1, n1, c1', A2, n2, c2', A3, n3, c3', rfl, hb2, hor⟩; have hbV := hbW.trans (hb2.mono hbW.size); have hbX := hbV.alloc hbV.size (.cells #[.int .i64 kk, .slice A1 n1 c1', .slice A2 n2 c2', .slice A3 n3 c3'] 41); have hz := (HZ.out _ (hb1.trans (hb2.mono hb1.size))).alloc (.cells #[.int .i64 kk, .slice A1 n1 c1', .slice A2 n2 c2', .slice A3 n3 c3'] 41); have z0 := hz.cell 0; have z1 := hz.cell 1; have z2 := hz.cell 2; have z3 := hz.cell 3; have f0 := hz.frozen 0; have f1 := hz.frozen 1; have f2 := hz.frozen 2; have f3 := hz.frozen 3; have HZ1 := Lib.hid (And.intro hz hbX); have HOR := Lib.hid (hor.below (boxed w2 (.cells #[.int .i64 kk, .slice A1 n1 c1', .slice A2 n2 c2', .slice A3 n3 c3'] 41)) (Nat.le_refl _)); clear hz hbX hor))
  refine bodyPost_ret (results_cell2 rfl _ _ w.heap.size 41 _ (0, 0) _ rfl (put4 HZ1.out.1).1 Try.underlying41 rfl (by kernel_rfl)) rfl ?_
  refine ⟨A1, n1, c1', A2, n2, c2', A3, n3, c3', rfl, put4_below HZ1.out.1 HZ1.out.2, ?_⟩
  have hc := (put4 (a0 := .int .i64 kk) (a1 := .slice A1 n1 c1') (a2 := .slice A2 n2 c2') (a3 := .slice A3 n3 c3') HZ1.out.1).2
  have ha := HOR.out
  have hle : w2.heap.size ≤ (w2.alloc (.cells #[.int .i64 kk, .slice A1 n1 c1', .slice A2 n2 c2', .slice A3 n3 c3'] 41)).heap.size := by simp
  exact (ObR.mk (ha.wr.chg hc hle (fun h0 ad e hb => ob_apart (by decide) ha.wr HZ1.out.1 h0 ad e hb)) (ha.rr.chg hc hle (fun h0 ad e hb => ob_apart (by decide) ha.rr HZ1.out.1 h0 ad e hb)) (ha.ir.chg hc hle (fun h0 ad e hb => ob_apart (by decide) ha.ir HZ1.out.1 h0 ad e hb)) ha.wc ha.rc ha.ic).more (Nat.le_trans hle hc.size)

/-- The document's Object, where there is none. -/
theorem robject_bare (at_ : Int) (w : World) (H : RX w base S p i k d f h m bv wv sv) (hbm : AreB m.b) (hl : m.b.length ≤ 1099511627776) (hd : 1 ≤ d ∧ d ≤ 256) (hf : 1 ≤ f ∧ f ≤ 256) (h1 : at_ ≤ 9223372036854775807) (hno : m.bare d f at_) :
    Calls Try.prog 41 #[.pointer (some ⟨p, 0, none⟩), .int .i64 at_] w fun e w' => e = .returned (.tuple #[obZ, .bool false]) ∧ Below w.heap.size w w' := by
  by_cases hlt : at_ < 256 + 8 * (d + f)
  · exact robject_low at_ w H hd hf hlt
  · rcases hno with hno | hno
    · exact absurd hno hlt
    · exact robject_none at_ w H hbm hl hd hf hlt h1 hno
end

end Go.Proofs.Ythdnjjdlhhapbaa
