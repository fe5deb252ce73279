/-
  LAYER 12: WHAT Put OF PACKAGE image DOES: its contract.
-/
import Derived.Test.YthdnjjdlhhapbaaImSet
import Derived.Deep.RegionLaw
set_option linter.unusedVariables false
set_option maxRecDepth 100000
set_option linter.unusedSimpArgs false
namespace Go.Proofs.Ythdnjjdlhhapbaa
open Go.RowKit

theorem encO_length {ok : Int} {ws rs is : List Int} (hr : rightN ok ws.length rs.length is.length = true) : (encO ok ws rs is).length = bareN ok rs.length is.length + padn (bareN ok rs.length is.length) 8 := by
  obtain ⟨h1, -⟩ := rightN_len hr
  unfold encO
  rw [List.length_append, List.length_replicate, headO_length, h1]
  have e : 16 + 8 * kwN ok + rs.length + 8 * is.length = bareN ok rs.length is.length := by unfold bareN frontN; omega
  rw [e]
theorem encO_algn {ok : Int} {ws rs is : List Int} (hr : rightN ok ws.length rs.length is.length = true) : algn (bareN ok rs.length is.length : Nat) = ((encO ok ws rs is).length : Nat) := by
  rw [encO_length hr, algn_pad]
theorem encO_pos {ok : Int} {ws rs is : List Int} : encO ok ws rs is ≠ [] := by
  intro h
  have := congrArg List.length h
  unfold encO at this
  rw [List.length_append, headO_length] at this
  simp at this
theorem encO_le {ok : Int} {ws rs is : List Int} (hr : rightN ok ws.length rs.length is.length = true) : (encO ok ws rs is).length ≤ 20000 := by
  obtain ⟨h1, h2, h3, h4⟩ := rightN_len hr
  have := frontN_le ok
  rw [encO_length hr, padn_eight]
  unfold bareN; omega

section
variable {base p : Nat} {S : Nat → Prop} {i k d f h : Int} {m : IM} {bv sv : Value}

/-- Bytes are put behind the others. -/
theorem IX.added {w w1 : World} {v' : Value} {A : Option Addr} {n c x : Nat} {xs : List Int} (H : IX w base S p i k d f h m (.slice A n c) sv) (hg : w.grownBy w1 (Value.ownBlock (.slice A n c))) (hown : w1.ownsRow base 5 1 v' (n + x) (cellsOf .u8 m.b ++ cellsOf .u8 xs))
    (hat : v'.ownBlock = Value.ownBlock (.slice A n c) ∨ v'.ownBlock = some w.heap.size) (hn : n = m.b.length) (hx : x = xs.length) : IXT base S p i k d f h (m.add xs) w (w1.setCell ⟨p, 6, none⟩ v') := by
  refine H.setB (zs := m.b ++ xs) ?_ (Chg.of_grown hg) ?_
  · rw [List.length_append, cellsOf_append, ← hn, ← hx]; exact hown
  · rcases hat with e | e
    · exact .inl e
    · exact .inr ⟨_, e, Nat.le_refl _⟩
theorem IX.cell6 {w w1 : World} (H : IX w base S p i k d f h m bv sv) (hg : w.grownBy w1 bv.ownBlock) : w1.cell? ⟨p, 6, none⟩ = some bv ∧ w1.frozen? ⟨p, 6, none⟩ = false ∧ p < w1.heap.size := by
  have hb : Blk w1 p 91 (imC i k d f h m.lim bv m.was.length sv) := H.blk.chg (Chg.of_grown hg) (fun e => H.pb e)
  exact ⟨hb.cell 6, hb.frozen 6, hb.lt⟩

theorem iput_nil (ok : Int) (A1 : Option Addr) (n1 c1 : Nat) (A2 : Option Addr) (n2 c2 : Nat) (A3 : Option Addr) (n3 c3 : Nat) (w : World) :
    Calls Try.prog 28 #[.pointer none, obV ok A1 n1 c1 A2 n2 c2 A3 n3 c3] w fun e w' => e = .returned (.tuple #[.int .i64 0, .int .i64 3]) ∧ Below w.heap.size w w' := by
  go_enter Try.func28, Try.ntmps28
  go_wp2
  go_ret2
  exact ⟨rfl, boxed _ _⟩

theorem iput_no {L : Nat} (ok : Int) (A1 : Option Addr) (n1 c1 : Nat) (ws : List Int) (A2 : Option Addr) (n2 c2 : Nat) (rs : List Int) (A3 : Option Addr) (n3 c3 : Nat) (is : List Int) (w : World) (ho : ObR w L A1 n1 c1 ws A2 n2 c2 rs A3 n3 c3 is) (hr : rightN ok n1 n2 n3 = false) :
    Calls Try.prog 28 #[.pointer (some ⟨p, 0, none⟩), obV ok A1 n1 c1 A2 n2 c2 A3 n3 c3] w fun e w' => e = .returned (.tuple #[.int .i64 0, .int .i64 1]) ∧ Below w.heap.size w w' := by
  have h1 := ho.wc
  have h2 := ho.rc
  have h3 := ho.ic
  have R1 := Lib.hid (oright_any ok A1 n1 c1 A2 n2 c2 A3 n3 c3)
  rw [hr] at R1
  clear ho hr
  go_enter Try.func28, Try.ntmps28
  go_wp2_with (go_at_call 51; refine (R1.out _ (by omega) (by omega) (by omega)).mono ?_; rintro e wR ⟨rfl, hbR⟩)
  go_ret2
  exact ⟨rfl, (boxed _ _).trans (hbR.mono (by simp))⟩

set_option maxHeartbeats 2000000 in
theorem iput_full {L : Nat} (ok : Int) (A1 : Option Addr) (n1 c1 : Nat) (ws : List Int) (A2 : Option Addr) (n2 c2 : Nat) (rs : List Int) (A3 : Option Addr) (n3 c3 : Nat) (is : List Int) (w : World) (ho : ObR w L A1 n1 c1 ws A2 n2 c2 rs A3 n3 c3 is) (hr : rightN ok n1 n2 n3 = true)
    (H : IX w base S p i k d f h m bv sv) (hl : m.b.length ≤ 1099511627776) (hlim : m.lim ≤ 1048576) (hx : m.lim < m.b.length + (encO ok ws rs is).length) :
    Calls Try.prog 28 #[.pointer (some ⟨p, 0, none⟩), obV ok A1 n1 c1 A2 n2 c2 A3 n3 c3] w fun e w' => e = .returned (.tuple #[.int .i64 0, .int .i64 21]) ∧ Below w.heap.size w w' := by
  have h1 := ho.wc
  have h2 := ho.rc
  have h3 := ho.ic
  have e1 := ho.wr.len
  have e2 := ho.rr.len
  have e3 := ho.ir.len
  have hr' := hr
  rw [← e1, ← e2, ← e3] at hr'
  obtain ⟨-, hn2, hn3, -⟩ := rightN_len hr
  have R1 := Lib.hid (oright_any ok A1 n1 c1 A2 n2 c2 A3 n3 c3)
  rw [hr] at R1
  have Z1 := fun w1 => osize_any ok A1 n1 c1 A2 n2 c2 A3 n3 c3 w1 (by omega) (by omega)
  have hle := encO_le hr'
  have ha := encO_algn hr'
  rw [e2, e3] at ha
  rw [ha] at Z1
  have ZS := Lib.hid Z1
  obtain ⟨x, hxx⟩ : ∃ x, x = (encO ok ws rs is).length := ⟨_, rfl⟩
  rw [← hxx] at ZS hx hle
  obtain ⟨A, c, rfl, q1, q2, q3⟩ := H.reads
  have HX := Lib.hid (fun w1 (hb : Below w.heap.size w w1) => H.below hb)
  have HB0 := Lib.hid (boxed w (.cells #[.int .i64 ok, .slice A1 n1 c1, .slice A2 n2 c2, .slice A3 n3 c3] 70))
  have HO := Lib.hid (fun wx (hx : Below (w.alloc (.cells #[.int .i64 ok, .slice A1 n1 c1, .slice A2 n2 c2, .slice A3 n3 c3] 70)).heap.size (w.alloc (.cells #[.int .i64 ok, .slice A1 n1 c1, .slice A2 n2 c2, .slice A3 n3 c3] 70)) wx) => (obAt_of hx : ObAt wx w.heap.size ok A1 n1 c1 A2 n2 c2 A3 n3 c3))
  obtain ⟨n, hn⟩ : ∃ n, n = m.b.length := ⟨_, rfl⟩
  obtain ⟨lm, hlm⟩ : ∃ lm, lm = m.lim := ⟨_, rfl⟩
  rw [← hn] at hl hx HX
  rw [← hlm] at hlim hx
  have HC := Lib.hid (fun w1 (hb : Below w.heap.size w w1) => (by rw [hlm]; exact ⟨(nine (H.below hb).blk).1.2.2.2.2.2.1, by rw [hn]; exact (nine (H.below hb).blk).1.2.2.2.2.2.2.1⟩ : w1.cell? ⟨p, 5, none⟩ = some (.int .i64 (lm : Int)) ∧ w1.cell? ⟨p, 6, none⟩ = some (.slice A n c)))
  have t1 : ¬ 1048576 < (lm : Int) := by omega
  have t2 : (lm : Int) < (n : Int) + (x : Int) := by omega
  have t3 : (lm : Int) ≤ 1048576 := by omega
  have t6 : IntKind.i64.wrap ((n : Int) + (x : Int)) = (n : Int) + (x : Int) := by rw [IntKind.wrap_i64]; omega
  clear ho hr hr' Z1 ha H q1 q2 q3 e1 e2 e3 hxx hn hlm HX
  go_enter Try.func28, Try.ntmps28
  go_wp2_with (first
    | (go_at_call 51; refine (R1.out _ (by omega) (by omega) (by omega)).mono ?_; rintro e wR ⟨rfl, hbR⟩; have hbW := HB0.out.trans (hbR.mono HB0.out.size); have c6 := (HC.out _ hbW).2))
  have hb : Below wR.heap.size wR wR.drew := below_drewn (Below.refl _ _) 1
  have HK : Hid (∀ wx, Below wR.heap.size wR wx → ObAt wx w.heap.size ok A1 n1 c1 A2 n2 c2 A3 n3 c3 ∧ wx.cell? ⟨p, 5, none⟩ = some (.int .i64 (lm : Int))) := fun wx hx => ⟨HO.out _ (hbR.trans (hx.mono hbR.size)), (HC.out _ (hbW.trans (hx.mono hbW.size))).1⟩
  have H0 := Lib.hid (HK.out _ hb)
  go_region_held3 (fun w' => ObAt w' w.heap.size ok A1 n1 c1 A2 n2 c2 A3 n3 c3 ∧ w'.cell? ⟨p, 5, none⟩ = some (.int .i64 (lm : Int)))
    (first | assumption | exact H0.out | exact HK.out _ hb)
    ((go_at_call 52; refine (ZS.out _).mono ?_; rintro e wx ⟨rfl, hbx⟩; have hb := hb.trans (hbx.mono hb.size); clear hbx))
  all_goals
    go_wp2
    go_ret2
    exact ⟨rfl, hbW.trans (hb.mono hbW.size)⟩

set_option maxHeartbeats 2000000 in
theorem iput_yes {L : Nat} (ok : Int) (A1 : Option Addr) (n1 c1 : Nat) (ws : List Int) (A2 : Option Addr) (n2 c2 : Nat) (rs : List Int) (A3 : Option Addr) (n3 c3 : Nat) (is : List Int) (w : World) (ho : ObR w L A1 n1 c1 ws A2 n2 c2 rs A3 n3 c3 is) (hL : L ≤ w.heap.size) (hr : rightN ok n1 n2 n3 = true)
    (H : IX w base S p i k d f h m bv sv) (hl : m.b.length ≤ 1099511627776) (hlim : m.lim ≤ 1048576) (hx : m.b.length + (encO ok ws rs is).length ≤ m.lim) :
    Calls Try.prog 28 #[.pointer (some ⟨p, 0, none⟩), obV ok A1 n1 c1 A2 n2 c2 A3 n3 c3] w fun e w' => e = .returned (.tuple #[.int .i64 (m.b.length : Nat), .int .i64 0]) ∧ IXT base S p i k d f h (m.add (encO ok ws rs is)) w w' := by
  obtain ⟨i0, hi, hz0, hz1, hz2⟩ := info_parts byteInfo
  have h1 := ho.wc
  have h2 := ho.rc
  have h3 := ho.ic
  have e1 := ho.wr.len
  have e2 := ho.rr.len
  have e3 := ho.ir.len
  have hr' := hr
  rw [← e1, ← e2, ← e3] at hr'
  obtain ⟨-, hn2, hn3, -⟩ := rightN_len hr
  have R1 := Lib.hid (oright_any ok A1 n1 c1 A2 n2 c2 A3 n3 c3)
  rw [hr] at R1
  have Z1 := fun w1 => osize_any ok A1 n1 c1 A2 n2 c2 A3 n3 c3 w1 (by omega) (by omega)
  have hle := encO_le hr'
  have ha := encO_algn hr'
  rw [e2, e3] at ha
  rw [ha] at Z1
  have ZS := Lib.hid Z1
  have EN := Lib.hid (fun w1 (hb : Below w.heap.size w w1) => oenc_yes ok A1 n1 c1 ws A2 n2 c2 rs A3 n3 c3 is w1 (ho.below hb hL) (Nat.le_trans hL hb.size) hr)
  obtain ⟨xs, hxs⟩ : ∃ xs, encO ok ws rs is = xs := ⟨_, rfl⟩
  rw [hxs] at ZS hx hle EN ⊢
  obtain ⟨x, hxx⟩ : ∃ x, x = xs.length := ⟨_, rfl⟩
  rw [← hxx] at ZS hx hle
  have HXX := Lib.hid hxx
  obtain ⟨A, c, rfl, q1, q2, q3⟩ := H.reads
  have HB0 := Lib.hid (boxed w (.cells #[.int .i64 ok, .slice A1 n1 c1, .slice A2 n2 c2, .slice A3 n3 c3] 70))
  have HO := Lib.hid (fun wx (hx : Below (w.alloc (.cells #[.int .i64 ok, .slice A1 n1 c1, .slice A2 n2 c2, .slice A3 n3 c3] 70)).heap.size (w.alloc (.cells #[.int .i64 ok, .slice A1 n1 c1, .slice A2 n2 c2, .slice A3 n3 c3] 70)) wx) => (obAt_of hx : ObAt wx w.heap.size ok A1 n1 c1 A2 n2 c2 A3 n3 c3))
  obtain ⟨n, hn⟩ : ∃ n, n = m.b.length := ⟨_, rfl⟩
  obtain ⟨lm, hlm⟩ : ∃ lm, lm = m.lim := ⟨_, rfl⟩
  rw [← hn] at H hl hx ⊢
  rw [← hlm] at hlim hx
  have HN := Lib.hid hn
  have HX := Lib.hid (fun w1 (hb : Below w.heap.size w w1) => H.below hb)
  have HROW := Lib.hid (fun w1 (hb : Below w.heap.size w w1) => (by rw [hn]; have := (H.below hb).row; rw [hn] at this; exact this : w1.ownsRow base 5 1 (.slice A n c) n (cellsOf .u8 m.b)))
  have HC := Lib.hid (fun w1 (hb : Below w.heap.size w w1) => (by rw [hlm]; exact ⟨(nine (H.below hb).blk).1.2.2.2.2.2.1, (nine (H.below hb).blk).1.2.2.2.2.2.2.1⟩ : w1.cell? ⟨p, 5, none⟩ = some (.int .i64 (lm : Int)) ∧ w1.cell? ⟨p, 6, none⟩ = some (.slice A n c)))
  have t1 : ¬ 1048576 < (lm : Int) := by omega
  have t2 : ¬ (lm : Int) < (n : Int) + (x : Int) := by omega
  have t3 : (lm : Int) ≤ 1048576 := by omega
  have t6 : IntKind.i64.wrap ((n : Int) + (x : Int)) = (n : Int) + (x : Int) := by rw [IntKind.wrap_i64]; omega
  have t4 : n + x ≤ maxLen := by unfold maxLen; omega
  have t5 : (n + x) * 1 ≤ 140737488355328 := by omega
  have HF := Lib.hid (And.intro H.foot H.bas)
  clear ho hr hr' Z1 ha H q1 q2 q3 e1 e2 e3 hxx hn hlm hxs
  go_enter Try.func28, Try.ntmps28
  go_wp2_with (first
    | (go_at_call 51; refine (R1.out _ (by omega) (by omega) (by omega)).mono ?_; rintro e wR ⟨rfl, hbR⟩; have hbW := HB0.out.trans (hbR.mono HB0.out.size); have c6 := (HC.out _ hbW).2))
  have hb : Below wR.heap.size wR wR.drew := below_drewn (Below.refl _ _) 1
  have HK : Hid (∀ wx, Below wR.heap.size wR wx → ObAt wx w.heap.size ok A1 n1 c1 A2 n2 c2 A3 n3 c3 ∧ wx.cell? ⟨p, 5, none⟩ = some (.int .i64 (lm : Int))) := fun wx hx => ⟨HO.out _ (hbR.trans (hx.mono hbR.size)), (HC.out _ (hbW.trans (hx.mono hbW.size))).1⟩
  have H0 := Lib.hid (HK.out _ hb)
  go_region_held3 (fun w' => ObAt w' w.heap.size ok A1 n1 c1 A2 n2 c2 A3 n3 c3 ∧ w'.cell? ⟨p, 5, none⟩ = some (.int .i64 (lm : Int)))
    (first | assumption | exact H0.out | exact HK.out _ hb)
    ((go_at_call 52; refine (ZS.out _).mono ?_; rintro e wx ⟨rfl, hbx⟩; have hb := hb.trans (hbx.mono hb.size); clear hbx))
  all_goals
    have hbV := hbW.trans (hb.mono hbW.size)
    have HOV := Lib.hid (fun wy (hy : Below wx.heap.size wx wy) => (HK.out wy (hb.trans (hy.mono hb.size))).1)
    clear hb H0 c6 hbR hbW HK
    go_wp2
    have hb0 : Below wx.heap.size wx wx.drew := below_drewn (Below.refl _ _) 1
    have hbY := hbV.trans (hb0.mono hbV.size)
    obtain ⟨x0, x1, x2, x3⟩ := HOV.out _ hb0
    have d6 := (HC.out _ hbY).2
    have hbase : base ≤ wx.drew.heap.size := Nat.le_trans HF.out.2 hbY.size
    go_region_law ((first
      | (go_simp; go_at_call 53; go_loud (refine (EN.out _ hbY).mono ?_; rintro e w2 ht; obtain ⟨A5, n5, c5, rfl, hn5, r5, -, -, hb5, -⟩ := ht.reads; rw [← HXX.out] at hn5; have hn5 := hn5.symm; subst hn5; have hbZ := hbY.trans (hb5.mono hbY.size); have e6 := (HC.out _ hbZ).2; have hrow := HROW.out _ hbZ; have hbase2 := Nat.le_trans hbase hb5.size; have HXZ := Lib.hid (HX.out _ hbZ); have HBZ := Lib.hid hbZ; clear hb5 ht))
      | go_loud (refine step_append_any _ rfl _ _ _ rfl base 5 i0 (.int .u8 0) 1 1 Try.underlying39 hi hz0 hz1 hz2 rfl (Nat.lt_succ_self 0) (.slice A n c) n (cellsOf .u8 m.b) rfl hrow _ A5 x c5 (cellsOf .u8 xs) rfl r5 (cellsOf_one _ _) t4 t5 hbase2 ?_; intro v4 w4 hown4 hg4 hat4; obtain ⟨A4, c4, rfl, -, -⟩ := own_form hown4; have HP := Lib.hid (HXZ.out.added hg4 hown4 hat4 HN.out HXX.out); obtain ⟨g6, gf6, gl6⟩ := HXZ.out.cell6 hg4; clear hown4 hg4 hat4)))
    all_goals
      go_wp2
      go_ret2
      exact ⟨rfl, HP.out.later (Chg.of_below HBZ.out (Nat.le_refl _) S) HF.out.1 HF.out.2⟩
/-- Put. -/
theorem iput_any {L : Nat} (ok : Int) (A1 : Option Addr) (n1 c1 : Nat) (ws : List Int) (A2 : Option Addr) (n2 c2 : Nat) (rs : List Int) (A3 : Option Addr) (n3 c3 : Nat) (is : List Int) (w : World) (ho : ObR w L A1 n1 c1 ws A2 n2 c2 rs A3 n3 c3 is) (hL : L ≤ w.heap.size)
    (H : IX w base S p i k d f h m bv sv) (hl : m.b.length ≤ 1099511627776) (hlim : m.lim ≤ 1048576) :
    Calls Try.prog 28 #[.pointer (some ⟨p, 0, none⟩), obV ok A1 n1 c1 A2 n2 c2 A3 n3 c3] w fun e w' => e = .returned (.tuple #[.int .i64 (m.putA (encR ok ws rs is)), .int .i64 (m.putE (encR ok ws rs is))]) ∧ IXT base S p i k d f h (m.put (encR ok ws rs is)) w w' := by
  have e1 := ho.wr.len
  have e2 := ho.rr.len
  have e3 := ho.ir.len
  by_cases hr : rightN ok n1 n2 n3 = true
  · have e : encR ok ws rs is = encO ok ws rs is := by unfold encR; rw [e1, e2, e3, hr]; rfl
    rw [e]
    by_cases hx : m.lim < m.b.length + (encO ok ws rs is).length
    · have q1 : m.putE (encO ok ws rs is) = 21 := by unfold IM.putE; rw [if_neg encO_pos, if_pos hx]
      have q2 : m.putA (encO ok ws rs is) = 0 := by unfold IM.putA; rw [q1, if_neg (by omega)]
      have q3 : m.put (encO ok ws rs is) = m := by unfold IM.put; rw [q1, if_neg (by omega)]
      rw [q1, q2, q3]
      exact (iput_full ok A1 n1 c1 ws A2 n2 c2 rs A3 n3 c3 is w ho hr H hl hlim hx).mono fun e w' ⟨he, hb⟩ => ⟨he, IXT.far H hb⟩
    · have q1 : m.putE (encO ok ws rs is) = 0 := by unfold IM.putE; rw [if_neg encO_pos, if_neg hx]
      have q2 : m.putA (encO ok ws rs is) = (m.b.length : Nat) := by unfold IM.putA; rw [q1, if_pos rfl]
      have q3 : m.put (encO ok ws rs is) = m.add (encO ok ws rs is) := by unfold IM.put; rw [q1, if_pos rfl]
      rw [q1, q2, q3]
      exact iput_yes ok A1 n1 c1 ws A2 n2 c2 rs A3 n3 c3 is w ho hL hr H hl hlim (by omega)
  · have hr : rightN ok n1 n2 n3 = false := by simpa using hr
    have e : encR ok ws rs is = [] := by unfold encR; rw [e1, e2, e3, hr]; rfl
    rw [e]
    exact (iput_no ok A1 n1 c1 ws A2 n2 c2 rs A3 n3 c3 is w ho hr).mono fun e w' ⟨he, hb⟩ => ⟨he, IXT.far H hb⟩
end

end Go.Proofs.Ythdnjjdlhhapbaa
