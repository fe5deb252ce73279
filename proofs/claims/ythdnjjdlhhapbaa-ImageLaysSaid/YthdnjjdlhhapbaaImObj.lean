/-
  LAYER 12: WHAT Object AND At OF PACKAGE image DO: contracts.
-/
import Derived.Test.YthdnjjdlhhapbaaImFn
set_option linter.unusedVariables false
set_option maxRecDepth 100000
set_option linter.unusedSimpArgs false
namespace Go.Proofs.Ythdnjjdlhhapbaa
open Go.RowKit

/-- An object stands there. -/
def IM.there (m : IM) (D F : Int) (j k s : Nat) : Prop := 256 + 8 * (D + F) ≤ (j : Int) ∧ DecAt m.b j k s ∧ decB m.b j k s = true
/-- No object stands there. -/
def IM.bare (m : IM) (D F : Int) (at_ : Int) : Prop := at_ < 256 + 8 * (D + F) ∨ ∀ j k s, at_ = (j : Nat) → DecAt m.b j k s → decB m.b j k s = false
theorem IM.there_or (m : IM) (D F at_ : Int) (hD : 0 ≤ D) (hF : 0 ≤ F) : m.bare D F at_ ∨ ∃ j k s : Nat, at_ = (j : Nat) ∧ m.there D F j k s := by
  by_cases h : at_ < 256 + 8 * (D + F)
  · exact .inl (.inl h)
  · by_cases h2 : ∃ j k s : Nat, at_ = (j : Nat) ∧ DecAt m.b j k s ∧ decB m.b j k s = true
    · obtain ⟨j, k, s, rfl, h3, h4⟩ := h2
      exact .inr ⟨j, k, s, rfl, by omega, h3, h4⟩
    · refine .inl (.inr fun j k s e hd => ?_)
      cases hb : decB m.b j k s
      · rfl
      · exact absurd ⟨j, k, s, e, hd, hb⟩ h2

/-- What Object tells of an object that stands there. -/
def ObTold (m : IM) (j k s : Nat) (w : World) (e : Ending) (w' : World) : Prop :=
  ∃ A1 n1 c1 A2 n2 c2 A3 n3 c3, e = .returned (.tuple #[obV k A1 n1 c1 A2 n2 c2 A3 n3 c3, .bool true]) ∧ Below w.heap.size w w' ∧ ObOwn w' w.heap.size A1 n1 c1 (dW (objB m.b j s) k) A2 n2 c2 (dR (objB m.b j s) k) A3 n3 c3 (dI (objB m.b j s) k)

section
variable {base p : Nat} {S : Nat → Prop} {i k d f h : Int} {m : IM} {bv sv : Value}

theorem iobject_low (at_ : Int) (w : World) (H : IX w base S p i k d f h m bv sv) (hd : 1 ≤ d ∧ d ≤ 256) (hf : 1 ≤ f ∧ f ≤ 256) (hlt : at_ < 256 + 8 * (d + f)) :
    Calls Try.prog 40 #[.pointer (some ⟨p, 0, none⟩), .int .i64 at_] w fun e w' => e = .returned (.tuple #[obZ, .bool false]) ∧ Below w.heap.size w w' := by
  have OB := Lib.hid (fun w1 => hobjects_any i k d f h w1 (by omega) hd.2 (by omega) hf.2)
  obtain ⟨t, ht⟩ : ∃ t, 256 + 8 * (d + f) = t := ⟨_, rfl⟩
  rw [ht] at OB hlt
  obtain ⟨⟨c0, c1, c2, c3, c4, -, -, -, -⟩, -⟩ := nine (H.blk.alloc (.cells #[.int .i64 0, .slice none 0 0, .slice none 0 0, .slice none 0 0] 70))
  have HZ := Lib.hid (fun w1 (hb : Below (w.alloc (.cells #[.int .i64 0, .slice none 0 0, .slice none 0 0, .slice none 0 0] 70)).heap.size (w.alloc (.cells #[.int .i64 0, .slice none 0 0, .slice none 0 0, .slice none 0 0] 70)) w1) => ((Blk.new w 70 #[.int .i64 0, .slice none 0 0, .slice none 0 0, .slice none 0 0]).below hb (by simp) : Blk w1 w.heap.size 70 #[.int .i64 0, .slice none 0 0, .slice none 0 0, .slice none 0 0]))
  clear H ht
  go_enter Try.func40, Try.ntmps40
  go_wp2_with (go_at_call 30; refine (OB.out _).mono ?_; rintro e w1 ⟨rfl, hb1⟩; have hz := HZ.out _ hb1; have z0 := hz.cell 0; have z1 := hz.cell 1; have z2 := hz.cell 2; have z3 := hz.cell 3; have f0 := hz.frozen 0; have f1 := hz.frozen 1; have f2 := hz.frozen 2; have f3 := hz.frozen 3; have HZ1 := Lib.hid hz; clear hz)
  refine bodyPost_ret (results_cell2 rfl _ _ w.heap.size 70 _ (0, 0) _ rfl (put4 HZ1.out).1 Try.underlying70 rfl (by kernel_rfl)) rfl ?_
  have hbx := (boxed w (.cells #[.int .i64 0, .slice none 0 0, .slice none 0 0, .slice none 0 0] 70)).trans (hb1.mono (by simp))
  exact ⟨rfl, hbx.trans ((put4 HZ1.out).2.below hbx.size (fun j _ e => by rw [e]; exact Nat.le_refl _))⟩

/-- What a call holds in its own result's variable. -/
theorem put4_below {w w7 : World} {t : TypeId} {z0 z1 z2 z3 a0 a1 a2 a3 : Value} (hR : Blk w7 w.heap.size t #[z0, z1, z2, z3]) (hb : Below w.heap.size w w7) :
    Below w.heap.size w ((((w7.setCell ⟨w.heap.size, 0, none⟩ a0).setCell ⟨w.heap.size, 1, none⟩ a1).setCell ⟨w.heap.size, 2, none⟩ a2).setCell ⟨w.heap.size, 3, none⟩ a3) :=
  hb.trans ((put4 hR).2.below hb.size (fun j _ e => by rw [e]; exact Nat.le_refl _))

set_option maxHeartbeats 1000000 in
theorem iobject_none (at_ : Int) (w : World) (H : IX w base S p i k d f h m bv sv) (hbm : AreB m.b) (hl : m.b.length ≤ 1099511627776) (hd : 1 ≤ d ∧ d ≤ 256) (hf : 1 ≤ f ∧ f ≤ 256) (h0 : ¬ at_ < 256 + 8 * (d + f)) (h1 : at_ ≤ 9223372036854775807)
    (hno : ∀ j k s, at_ = (j : Nat) → DecAt m.b j k s → decB m.b j k s = false) :
    Calls Try.prog 40 #[.pointer (some ⟨p, 0, none⟩), .int .i64 at_] w fun e w' => e = .returned (.tuple #[obZ, .bool false]) ∧ Below w.heap.size w w' := by
  have OB := Lib.hid (fun w1 => hobjects_any i k d f h w1 (by omega) hd.2 (by omega) hf.2)
  obtain ⟨A, c, rfl, q1, q2, q3⟩ := H.reads
  have DN := Lib.hid (fun w1 (hb : Below w.heap.size w w1) => odec_no A m.b.length c at_ m.b w1 (q3.below hb) (hb.size) hbm q1 q2 (by omega) (by omega) h1 hno)
  obtain ⟨n, hn⟩ : ∃ n, n = m.b.length := ⟨_, rfl⟩
  rw [← hn] at DN H
  obtain ⟨t, ht⟩ : ∃ t, 256 + 8 * (d + f) = t := ⟨_, rfl⟩
  rw [ht] at OB h0
  have HB0 := Lib.hid (boxed w (.cells #[.int .i64 0, .slice none 0 0, .slice none 0 0, .slice none 0 0] 70))
  obtain ⟨⟨c0, c1, c2, c3, c4, -, -, -, -⟩, -⟩ := nine (H.blk.alloc (.cells #[.int .i64 0, .slice none 0 0, .slice none 0 0, .slice none 0 0] 70))
  have HC := Lib.hid (fun w1 (hb : Below w.heap.size w w1) => ((nine (H.below hb).blk).1.2.2.2.2.2.2.1 : w1.cell? ⟨p, 6, none⟩ = some (.slice A n c)))
  have HZ := Lib.hid (fun w1 (hb : Below (w.alloc (.cells #[.int .i64 0, .slice none 0 0, .slice none 0 0, .slice none 0 0] 70)).heap.size (w.alloc (.cells #[.int .i64 0, .slice none 0 0, .slice none 0 0, .slice none 0 0] 70)) w1) => ((Blk.new w 70 #[.int .i64 0, .slice none 0 0, .slice none 0 0, .slice none 0 0]).below hb (by simp) : Blk w1 w.heap.size 70 #[.int .i64 0, .slice none 0 0, .slice none 0 0, .slice none 0 0]))
  clear H ht q1 q2 q3 hn hno
  go_enter Try.func40, Try.ntmps40
  go_wp2_with (first
    | (go_at_call 30; refine (OB.out _).mono ?_; rintro e w1 ⟨rfl, hb1⟩; have hbW := HB0.out.trans (hb1.mono HB0.out.size); have c6 := HC.out _ hbW)
    | (go_at_call 64; refine (DN.out _ hbW).mono ?_; rintro e w2 ⟨rfl, hb2⟩; have hbV := hbW.trans (hb2.mono hbW.size); have hbX := hbV.alloc hbV.size (.cells #[.int .i64 0, .slice none 0 0, .slice none 0 0, .slice none 0 0] 70); have hz := (HZ.out _ (hb1.trans (hb2.mono hb1.size))).alloc (.cells #[.int .i64 0, .slice none 0 0, .slice none 0 0, .slice none 0 0] 70); have z0 := hz.cell 0; have z1 := hz.cell 1; have z2 := hz.cell 2; have z3 := hz.cell 3; have f0 := hz.frozen 0; have f1 := hz.frozen 1; have f2 := hz.frozen 2; have f3 := hz.frozen 3; have HZ1 := Lib.hid (And.intro hz hbX); clear hz hbX))
  refine bodyPost_ret (results_cell2 rfl _ _ w.heap.size 70 _ (0, 0) _ rfl (put4 HZ1.out.1).1 Try.underlying70 rfl (by kernel_rfl)) rfl ?_
  exact ⟨rfl, put4_below HZ1.out.1 HZ1.out.2⟩

set_option maxHeartbeats 1000000 in
theorem iobject_yes (j kk s : Nat) (w : World) (H : IX w base S p i k d f h m bv sv) (hbm : AreB m.b) (hl : m.b.length ≤ 1099511627776) (hd : 1 ≤ d ∧ d ≤ 256) (hf : 1 ≤ f ∧ f ≤ 256) (hth : m.there d f j kk s) :
    Calls Try.prog 40 #[.pointer (some ⟨p, 0, none⟩), .int .i64 j] w (ObTold m j kk s w) := by
  obtain ⟨t0, t1, t2⟩ := hth
  have OB := Lib.hid (fun w1 => hobjects_any i k d f h w1 (by omega) hd.2 (by omega) hf.2)
  obtain ⟨A, c, rfl, q1, q2, q3⟩ := H.reads
  have DN := Lib.hid (fun w1 (hb : Below w.heap.size w w1) => odec_yes A m.b.length c j kk s m.b w1 (q3.below hb) (hb.size) hbm q1 q2 (by omega) t1 t2)
  obtain ⟨n, hn⟩ : ∃ n, n = m.b.length := ⟨_, rfl⟩
  rw [← hn] at DN H
  obtain ⟨t, ht⟩ : ∃ t, 256 + 8 * (d + f) = t := ⟨_, rfl⟩
  rw [ht] at OB t0
  have h0 : ¬ (j : Int) < t := by omega
  have HB0 := Lib.hid (boxed w (.cells #[.int .i64 0, .slice none 0 0, .slice none 0 0, .slice none 0 0] 70))
  obtain ⟨⟨c0, c1, c2, c3, c4, -, -, -, -⟩, -⟩ := nine (H.blk.alloc (.cells #[.int .i64 0, .slice none 0 0, .slice none 0 0, .slice none 0 0] 70))
  have HC := Lib.hid (fun w1 (hb : Below w.heap.size w w1) => ((nine (H.below hb).blk).1.2.2.2.2.2.2.1 : w1.cell? ⟨p, 6, none⟩ = some (.slice A n c)))
  have HZ := Lib.hid (fun w1 (hb : Below (w.alloc (.cells #[.int .i64 0, .slice none 0 0, .slice none 0 0, .slice none 0 0] 70)).heap.size (w.alloc (.cells #[.int .i64 0, .slice none 0 0, .slice none 0 0, .slice none 0 0] 70)) w1) => ((Blk.new w 70 #[.int .i64 0, .slice none 0 0, .slice none 0 0, .slice none 0 0]).below hb (by simp) : Blk w1 w.heap.size 70 #[.int .i64 0, .slice none 0 0, .slice none 0 0, .slice none 0 0]))
  obtain ⟨Z, hZ⟩ : ∃ Z : Nat, Z = j + (s + padn s 8) := ⟨_, rfl⟩
  rw [← hZ] at DN
  clear H ht q1 q2 q3 hn hZ t0 t1 t2
  go_enter Try.func40, Try.ntmps40
  go_wp2_with (first
    | (go_at_call 30; refine (OB.out _).mono ?_; rintro e w1 ⟨rfl, hb1⟩; have hbW := HB0.out.trans (hb1.mono HB0.out.size); have c6 := HC.out _ hbW)
    | (go_at_call 64; refine (DN.out _ hbW).mono ?_; rintro e w2 ⟨A1, n1, c1', A2, n2, c2', A3, n3, c3', rfl, hb2, hown⟩; have hbV := hbW.trans (hb2.mono hbW.size); have hbX := hbV.alloc hbV.size (.cells #[.int .i64 kk, .slice A1 n1 c1', .slice A2 n2 c2', .slice A3 n3 c3'] 70); have hz := (HZ.out _ (hb1.trans (hb2.mono hb1.size))).alloc (.cells #[.int .i64 kk, .slice A1 n1 c1', .slice A2 n2 c2', .slice A3 n3 c3'] 70); have z0 := hz.cell 0; have z1 := hz.cell 1; have z2 := hz.cell 2; have z3 := hz.cell 3; have f0 := hz.frozen 0; have f1 := hz.frozen 1; have f2 := hz.frozen 2; have f3 := hz.frozen 3; have HZ1 := Lib.hid (And.intro hz hbX); have HOWN := Lib.hid hown; have HLT : Hid (w.heap.size < w1.heap.size) := (by show _ < _; have := hb1.size; simp at this; omega); clear hz hbX hown))
  refine bodyPost_ret (results_cell2 rfl _ _ w.heap.size 70 _ (0, 0) _ rfl (put4 HZ1.out.1).1 Try.underlying70 rfl (by kernel_rfl)) rfl ?_
  refine ⟨A1, n1, c1', A2, n2, c2', A3, n3, c3', rfl, put4_below HZ1.out.1 HZ1.out.2, ?_⟩
  have hlt := HLT.out
  have hc := (put4 (a0 := .int .i64 kk) (a1 := .slice A1 n1 c1') (a2 := .slice A2 n2 c2') (a3 := .slice A3 n3 c3') HZ1.out.1).2
  have ha := HOWN.out
  have far : ∀ {e : TypeId} {v : Value} {q : Nat} {xs : List Value}, w2.ownsRow w1.heap.size e 1 v q xs → (((((w2.alloc (.cells #[.int .i64 kk, .slice A1 n1 c1', .slice A2 n2 c2', .slice A3 n3 c3'] 70)).setCell ⟨w.heap.size, 0, none⟩ (.int .i64 kk)).setCell ⟨w.heap.size, 1, none⟩ (.slice A1 n1 c1')).setCell ⟨w.heap.size, 2, none⟩ (.slice A2 n2 c2')).setCell ⟨w.heap.size, 3, none⟩ (.slice A3 n3 c3')).ownsRow w1.heap.size e 1 v q xs := fun hu =>
    own_chg (hu.alloc _) hc (fun g hg e => by have := (hu.lt g hg).1; have e : g = w.heap.size := e; omega)
  exact ObOwn.mk (own_base (far ha.wo) (by omega)) (own_base (far ha.ro) (by omega)) (own_base (far ha.io) (by omega))

/-- Object, where there is none. -/
theorem iobject_bare (at_ : Int) (w : World) (H : IX w base S p i k d f h m bv sv) (hbm : AreB m.b) (hl : m.b.length ≤ 1099511627776) (hd : 1 ≤ d ∧ d ≤ 256) (hf : 1 ≤ f ∧ f ≤ 256) (h1 : at_ ≤ 9223372036854775807) (hno : m.bare d f at_) :
    Calls Try.prog 40 #[.pointer (some ⟨p, 0, none⟩), .int .i64 at_] w fun e w' => e = .returned (.tuple #[obZ, .bool false]) ∧ Below w.heap.size w w' := by
  by_cases hlt : at_ < 256 + 8 * (d + f)
  · exact iobject_low at_ w H hd hf hlt
  · rcases hno with hno | hno
    · exact absurd hno hlt
    · exact iobject_none at_ w H hbm hl hd hf hlt h1 hno

/-! ### At -/
theorem wrap_u64_of {x : Int} (h0 : 0 ≤ x) (h1 : x ≤ 140737488355328) : IntKind.u64.wrap x = x := by rw [IntKind.wrap_u64]; omega
theorem wrap_i64_of {x : Int} (h0 : 0 ≤ x) (h1 : x ≤ 140737488355328) : IntKind.i64.wrap x = x := by rw [IntKind.wrap_i64]; omega

/-- At, of a place that is not in it. -/
theorem iat_out (pl kd : Int) (w : World) (H : IX w base S p i k d f h m bv sv) (hl : m.b.length ≤ 1099511627776) (hpl : (m.b.length : Int) ≤ pl) :
    Calls Try.prog 42 #[.pointer (some ⟨p, 0, none⟩), .int .u64 pl, .int .i64 kd] w fun e w' => e = .returned (.tuple #[obZ, .bool false]) ∧ Below w.heap.size w w' := by
  obtain ⟨A, c, rfl, -, -, -⟩ := H.reads
  have h6 := (nine (H.blk.alloc (.cells #[.int .i64 0, .slice none 0 0, .slice none 0 0, .slice none 0 0] 70))).1.2.2.2.2.2.2.1
  obtain ⟨n, hn⟩ : ∃ n, n = m.b.length := ⟨_, rfl⟩
  rw [← hn] at h6 hpl hl
  have TL := Lib.hid (itail_any p n A c _ h6)
  have t1 := wrap_u64_of (x := n) (by omega) (by omega)
  clear H h6 hn
  go_enter Try.func42, Try.ntmps42
  go_wp2_with (go_at_call 24; refine TL.out.mono ?_; rintro e w1 ⟨rfl, rfl⟩)
  refine bodyPost_ret (results_cell2 rfl _ _ w.heap.size 70 _ (0, 0) _ rfl (Blk.new w _ _) Try.underlying70 rfl (by kernel_rfl)) rfl ?_
  exact ⟨rfl, boxed _ _⟩

set_option maxHeartbeats 1000000 in
/-- At, of a place at which there is none. -/
theorem iat_bare (pl kd : Int) (w : World) (H : IX w base S p i k d f h m bv sv) (hbm : AreB m.b) (hl : m.b.length ≤ 1099511627776) (hd : 1 ≤ d ∧ d ≤ 256) (hf : 1 ≤ f ∧ f ≤ 256) (hp0 : 0 ≤ pl) (hno : m.bare d f pl) :
    Calls Try.prog 42 #[.pointer (some ⟨p, 0, none⟩), .int .u64 pl, .int .i64 kd] w fun e w' => e = .returned (.tuple #[obZ, .bool false]) ∧ Below w.heap.size w w' := by
  by_cases hpl : (m.b.length : Int) ≤ pl
  · exact iat_out pl kd w H hl hpl
  have HB0 := Lib.hid (boxed w (.cells #[.int .i64 0, .slice none 0 0, .slice none 0 0, .slice none 0 0] 70))
  have hw : IX (w.alloc (.cells #[.int .i64 0, .slice none 0 0, .slice none 0 0, .slice none 0 0] 70)) base S p i k d f h m bv sv := H.below HB0.out
  have OB := Lib.hid (iobject_bare pl _ hw hbm hl hd hf (by omega) hno)
  obtain ⟨A, c, rfl, -, -, -⟩ := H.reads
  have h6 := (nine hw.blk).1.2.2.2.2.2.2.1
  obtain ⟨n, hn⟩ : ∃ n, n = m.b.length := ⟨_, rfl⟩
  rw [← hn] at h6 hpl hl
  have TL := Lib.hid (itail_any p n A c _ h6)
  have t1 := wrap_u64_of (x := n) (by omega) (by omega)
  have t2 := wrap_i64_of (x := pl) (by omega) (by omega)
  have t3 : ¬ (n : Int) ≤ pl := hpl
  have HZ := Lib.hid (fun w1 (hb : Below (w.alloc (.cells #[.int .i64 0, .slice none 0 0, .slice none 0 0, .slice none 0 0] 70)).heap.size (w.alloc (.cells #[.int .i64 0, .slice none 0 0, .slice none 0 0, .slice none 0 0] 70)) w1) => ((Blk.new w 70 #[.int .i64 0, .slice none 0 0, .slice none 0 0, .slice none 0 0]).below hb (by simp) : Blk w1 w.heap.size 70 #[.int .i64 0, .slice none 0 0, .slice none 0 0, .slice none 0 0]))
  clear H h6 hn hw hpl hno
  go_enter Try.func42, Try.ntmps42
  go_wp2_with (first
    | (go_at_call 24; refine TL.out.mono ?_; rintro e w1 ⟨rfl, rfl⟩)
    | (go_at_call 40; refine OB.out.mono ?_; rintro e w2 ⟨rfl, hb2⟩; have hbV := HB0.out.trans (hb2.mono HB0.out.size); have hbX := hbV.alloc hbV.size (.cells #[.int .i64 0, .slice none 0 0, .slice none 0 0, .slice none 0 0] 70); have hz := (HZ.out _ hb2).alloc (.cells #[.int .i64 0, .slice none 0 0, .slice none 0 0, .slice none 0 0] 70); have z0 := hz.cell 0; have z1 := hz.cell 1; have z2 := hz.cell 2; have z3 := hz.cell 3; have f0 := hz.frozen 0; have f1 := hz.frozen 1; have f2 := hz.frozen 2; have f3 := hz.frozen 3; have HZ1 := Lib.hid (And.intro hz hbX); clear hz hbX))
  refine bodyPost_ret (results_cell2 rfl _ _ w.heap.size 70 _ (0, 0) _ rfl (put4 HZ1.out.1).1 Try.underlying70 rfl (by kernel_rfl)) rfl ?_
  exact ⟨rfl, put4_below HZ1.out.1 HZ1.out.2⟩

set_option maxHeartbeats 1000000 in
/-- At, of another kind than that of the object that stands there. -/
theorem iat_other (j kk s : Nat) (kd : Int) (w : World) (H : IX w base S p i k d f h m bv sv) (hbm : AreB m.b) (hl : m.b.length ≤ 1099511627776) (hd : 1 ≤ d ∧ d ≤ 256) (hf : 1 ≤ f ∧ f ≤ 256) (hth : m.there d f j kk s) (hk : (kk : Int) ≠ kd) :
    Calls Try.prog 42 #[.pointer (some ⟨p, 0, none⟩), .int .u64 j, .int .i64 kd] w fun e w' => e = .returned (.tuple #[obZ, .bool false]) ∧ Below w.heap.size w w' := by
  have HB0 := Lib.hid (boxed w (.cells #[.int .i64 0, .slice none 0 0, .slice none 0 0, .slice none 0 0] 70))
  have hw : IX (w.alloc (.cells #[.int .i64 0, .slice none 0 0, .slice none 0 0, .slice none 0 0] 70)) base S p i k d f h m bv sv := H.below HB0.out
  have OB := Lib.hid (iobject_yes j kk s _ hw hbm hl hd hf hth)
  obtain ⟨A, c, rfl, -, -, -⟩ := H.reads
  have h6 := (nine hw.blk).1.2.2.2.2.2.2.1
  have hroom := hth.2.1.room
  obtain ⟨n, hn⟩ : ∃ n, n = m.b.length := ⟨_, rfl⟩
  rw [← hn] at h6 hl hroom
  have TL := Lib.hid (itail_any p n A c _ h6)
  have t1 := wrap_u64_of (x := n) (by omega) (by omega)
  have t2 := wrap_i64_of (x := j) (by omega) (by omega)
  have t3 : ¬ (n : Int) ≤ (j : Int) := by omega
  have t4 : ((kk : Int) == kd) = false := by simpa using hk
  have HZ := Lib.hid (fun w1 (hb : Below (w.alloc (.cells #[.int .i64 0, .slice none 0 0, .slice none 0 0, .slice none 0 0] 70)).heap.size (w.alloc (.cells #[.int .i64 0, .slice none 0 0, .slice none 0 0, .slice none 0 0] 70)) w1) => ((Blk.new w 70 #[.int .i64 0, .slice none 0 0, .slice none 0 0, .slice none 0 0]).below hb (by simp) : Blk w1 w.heap.size 70 #[.int .i64 0, .slice none 0 0, .slice none 0 0, .slice none 0 0]))
  clear H h6 hn hw hth hroom hk
  go_enter Try.func42, Try.ntmps42
  go_wp2_with (first
    | (go_at_call 24; refine TL.out.mono ?_; rintro e w1 ⟨rfl, rfl⟩)
    | (go_at_call 40; refine OB.out.mono ?_; rintro e w2 ⟨A1, n1, c1', A2, n2, c2', A3, n3, c3', rfl, hb2, hown⟩; have hbV := HB0.out.trans (hb2.mono HB0.out.size); have hbX := hbV.alloc hbV.size (.cells #[.int .i64 kk, .slice A1 n1 c1', .slice A2 n2 c2', .slice A3 n3 c3'] 70); have hz := (HZ.out _ hb2).alloc (.cells #[.int .i64 kk, .slice A1 n1 c1', .slice A2 n2 c2', .slice A3 n3 c3'] 70); have z0 := hz.cell 0; have z1 := hz.cell 1; have z2 := hz.cell 2; have z3 := hz.cell 3; have f0 := hz.frozen 0; have f1 := hz.frozen 1; have f2 := hz.frozen 2; have f3 := hz.frozen 3; have HZ1 := Lib.hid (And.intro hz hbX); clear hz hbX hown))
  refine bodyPost_ret (results_cell2 rfl _ _ w.heap.size 70 _ (0, 0) _ rfl (put4 HZ1.out.1).1 Try.underlying70 rfl (by kernel_rfl)) rfl ?_
  exact ⟨rfl, put4_below HZ1.out.1 HZ1.out.2⟩

set_option maxHeartbeats 1000000 in
/-- At, of the kind of the object that stands there. -/
theorem iat_yes (j kk s : Nat) (w : World) (H : IX w base S p i k d f h m bv sv) (hbm : AreB m.b) (hl : m.b.length ≤ 1099511627776) (hd : 1 ≤ d ∧ d ≤ 256) (hf : 1 ≤ f ∧ f ≤ 256) (hth : m.there d f j kk s) :
    Calls Try.prog 42 #[.pointer (some ⟨p, 0, none⟩), .int .u64 j, .int .i64 kk] w (ObTold m j kk s w) := by
  have HB0 := Lib.hid (boxed w (.cells #[.int .i64 0, .slice none 0 0, .slice none 0 0, .slice none 0 0] 70))
  have hw : IX (w.alloc (.cells #[.int .i64 0, .slice none 0 0, .slice none 0 0, .slice none 0 0] 70)) base S p i k d f h m bv sv := H.below HB0.out
  have OB := Lib.hid (iobject_yes j kk s _ hw hbm hl hd hf hth)
  obtain ⟨A, c, rfl, -, -, -⟩ := H.reads
  have h6 := (nine hw.blk).1.2.2.2.2.2.2.1
  have hroom := hth.2.1.room
  obtain ⟨n, hn⟩ : ∃ n, n = m.b.length := ⟨_, rfl⟩
  rw [← hn] at h6 hl hroom
  have TL := Lib.hid (itail_any p n A c _ h6)
  have t1 := wrap_u64_of (x := n) (by omega) (by omega)
  have t2 := wrap_i64_of (x := j) (by omega) (by omega)
  have t3 : ¬ (n : Int) ≤ (j : Int) := by omega
  have HZ := Lib.hid (fun w1 (hb : Below (w.alloc (.cells #[.int .i64 0, .slice none 0 0, .slice none 0 0, .slice none 0 0] 70)).heap.size (w.alloc (.cells #[.int .i64 0, .slice none 0 0, .slice none 0 0, .slice none 0 0] 70)) w1) => ((Blk.new w 70 #[.int .i64 0, .slice none 0 0, .slice none 0 0, .slice none 0 0]).below hb (by simp) : Blk w1 w.heap.size 70 #[.int .i64 0, .slice none 0 0, .slice none 0 0, .slice none 0 0]))
  clear H h6 hn hw hth hroom
  go_enter Try.func42, Try.ntmps42
  go_wp2_with (first
    | (go_at_call 24; refine TL.out.mono ?_; rintro e w1 ⟨rfl, rfl⟩)
    | (go_at_call 40; refine OB.out.mono ?_; rintro e w2 ⟨A1, n1, c1', A2, n2, c2', A3, n3, c3', rfl, hb2, hown⟩; have hbV := HB0.out.trans (hb2.mono HB0.out.size); have hbX := hbV.alloc hbV.size (.cells #[.int .i64 kk, .slice A1 n1 c1', .slice A2 n2 c2', .slice A3 n3 c3'] 70); have hz := (HZ.out _ hb2).alloc (.cells #[.int .i64 kk, .slice A1 n1 c1', .slice A2 n2 c2', .slice A3 n3 c3'] 70); have z0 := hz.cell 0; have z1 := hz.cell 1; have z2 := hz.cell 2; have z3 := hz.cell 3; have f0 := hz.frozen 0; have f1 := hz.frozen 1; have f2 := hz.frozen 2; have f3 := hz.frozen 3; have HZ1 := Lib.hid (And.intro hz hbX); have HOWN := Lib.hid hown; clear hz hbX hown))
  refine bodyPost_ret (results_cell2 rfl _ _ w.heap.size 70 _ (0, 0) _ rfl (put4 HZ1.out.1).1 Try.underlying70 rfl (by kernel_rfl)) rfl ?_
  refine ⟨A1, n1, c1', A2, n2, c2', A3, n3, c3', rfl, put4_below HZ1.out.1 HZ1.out.2, ?_⟩
  have hc := (put4 (a0 := .int .i64 kk) (a1 := .slice A1 n1 c1') (a2 := .slice A2 n2 c2') (a3 := .slice A3 n3 c3') HZ1.out.1).2
  have ha := HOWN.out
  have far : ∀ {e : TypeId} {v : Value} {q : Nat} {xs : List Value}, w2.ownsRow (w.alloc (.cells #[.int .i64 0, .slice none 0 0, .slice none 0 0, .slice none 0 0] 70)).heap.size e 1 v q xs → (((((w2.alloc (.cells #[.int .i64 kk, .slice A1 n1 c1', .slice A2 n2 c2', .slice A3 n3 c3'] 70)).setCell ⟨w.heap.size, 0, none⟩ (.int .i64 kk)).setCell ⟨w.heap.size, 1, none⟩ (.slice A1 n1 c1')).setCell ⟨w.heap.size, 2, none⟩ (.slice A2 n2 c2')).setCell ⟨w.heap.size, 3, none⟩ (.slice A3 n3 c3')).ownsRow w.heap.size e 1 v q xs := fun hu =>
    own_base (own_chg (hu.alloc _) hc (fun g hg e => by have := (hu.lt g hg).1; simp at this; have e : g = w.heap.size := e; omega)) (by simp)
  exact ObOwn.mk (far ha.wo) (far ha.ro) (far ha.io)
end

end Go.Proofs.Ythdnjjdlhhapbaa
