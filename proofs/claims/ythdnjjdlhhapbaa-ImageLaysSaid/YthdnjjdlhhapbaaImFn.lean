/-
  LAYER 12: WHAT Tail, Bytes, Head, word, Word AND lay OF PACKAGE image DO, of a nil image too: contracts.
-/
import Derived.Test.YthdnjjdlhhapbaaImMem
import Derived.Deep.RegionHeld3
set_option linter.unusedVariables false
set_option maxRecDepth 100000
set_option linter.unusedSimpArgs false
namespace Go.Proofs.Ythdnjjdlhhapbaa
open Go.RowKit

theorem imByteOne : (Try.prog.info? 5).map (·.size) = some 1 := by kernel_rfl

/-- Five cells are stored. -/
theorem st5 {w : World} {g : Nat} {t : TypeId} {a b c d e a' b' c' d' e' : Value} (h : Blk w g t #[a, b, c, d, e]) :
    Blk (((((w.setCell ⟨g, 0, none⟩ a').setCell ⟨g, 1, none⟩ b').setCell ⟨g, 2, none⟩ c').setCell ⟨g, 3, none⟩ d').setCell ⟨g, 4, none⟩ e') g t #[a', b', c', d', e'] := by
  have := ((((h.set_ 0 a').set_ 1 b').set_ 2 c').set_ 3 d').set_ 4 e'
  simpa using this
theorem st5_below {B : Nat} {w0 w : World} {g : Nat} {a' b' c' d' e' : Value} (h : Below B w0 w) (hg : B ≤ g) :
    Below B w0 (((((w.setCell ⟨g, 0, none⟩ a').setCell ⟨g, 1, none⟩ b').setCell ⟨g, 2, none⟩ c').setCell ⟨g, 3, none⟩ d').setCell ⟨g, 4, none⟩ e') :=
  ((((h.setCell (p := ⟨g, 0, none⟩) hg _).setCell (p := ⟨g, 1, none⟩) hg _).setCell (p := ⟨g, 2, none⟩) hg _).setCell (p := ⟨g, 3, none⟩) hg _).setCell (p := ⟨g, 4, none⟩) hg _

theorem itail_any (p n : Nat) (A : Option Addr) (c : Nat) (w : World) (h : w.cell? ⟨p, 6, none⟩ = some (.slice A n c)) :
    Calls Try.prog 24 #[.pointer (some ⟨p, 0, none⟩)] w fun e w' => e = .returned (.int .i64 n) ∧ w = w' := by
  go_enter Try.func24, Try.ntmps24
  go_wp2
  go_ret
  exact ⟨rfl, rfl⟩
theorem itail_nil (w : World) :
    Calls Try.prog 24 #[.pointer none] w fun e w' => e = .returned (.int .i64 0) ∧ w = w' := by
  go_enter Try.func24, Try.ntmps24
  go_wp2
  go_ret
  exact ⟨rfl, rfl⟩

section
variable {base p : Nat} {S : Nat → Prop} {i k d f h : Int} {m : IM} {bv sv : Value}

theorem ibytes_any (w : World) (H : IX w base S p i k d f h m bv sv) (hl : m.b.length ≤ 140737488355328) :
    Calls Try.prog 19 #[.pointer (some ⟨p, 0, none⟩)] w (Told m.b w) := by
  obtain ⟨A, c, rfl, h1, h2, h3⟩ := H.reads
  obtain ⟨⟨-, -, -, -, -, -, c6, -, -⟩, -⟩ := nine H.blk
  have CL := Lib.hid (bclone_any A m.b.length c m.b w.heap.size w h3 (Nat.le_refl _) hl)
  obtain ⟨n, hn⟩ : ∃ n, n = m.b.length := ⟨_, rfl⟩
  rw [← hn] at c6 CL
  clear H h1 h2 h3 hn hl
  go_enter Try.func19, Try.ntmps19
  go_wp2_with (go_at_call 45; refine CL.out.mono ?_; rintro e w1 ⟨A1, n1, c1, rfl, ht⟩; have HT := Lib.hid ht; clear ht)
  go_ret
  exact ⟨A1, n1, c1, rfl, HT.out⟩
theorem ibytes_nil (w : World) :
    Calls Try.prog 19 #[.pointer none] w fun e w' => e = .returned (.slice none 0 0) ∧ w = w' := by
  go_enter Try.func19, Try.ntmps19
  go_wp2
  go_ret
  exact ⟨rfl, rfl⟩

theorem ihead_any (w : World) (H : IX w base S p i k d f h m bv sv) :
    Calls Try.prog 14 #[.pointer (some ⟨p, 0, none⟩)] w fun e w' => e = .returned (hdV i k d f h) ∧ Below w.heap.size w w' := by
  obtain ⟨⟨c0, c1, c2, c3, c4, -, -, -, -⟩, -⟩ := nine (H.blk.alloc (.cells #[.int .u64 0, .int .u64 0, .int .i64 0, .int .i64 0, .int .u64 0] 27))
  clear H
  go_enter Try.func14, Try.ntmps14
  go_wp2
  refine bodyPost_ret (results_cell_row rfl _ _ w.heap.size 27 _ (0, 0) _ rfl (Blk.new w _ _) Try.underlying27 rfl (by kernel_rfl)) rfl ?_
  exact ⟨rfl, boxed _ _⟩
theorem ihead_nil (w : World) :
    Calls Try.prog 14 #[.pointer none] w fun e w' => e = .returned (hdV 0 0 0 0 0) ∧ Below w.heap.size w w' := by
  go_enter Try.func14, Try.ntmps14
  go_wp2
  refine bodyPost_ret (results_cell_row rfl _ _ w.heap.size 27 _ (0, 0) _ rfl (Blk.new w _ _) Try.underlying27 rfl (by kernel_rfl)) rfl ?_
  exact ⟨rfl, boxed _ _⟩

theorem iword2_any (at_ : Int) (w : World) (H : IX w base S p i k d f h m bv sv) (hb : AreB m.b) (h0 : -9223372036854775808 ≤ at_) (h1 : at_ ≤ 9223372036854775807) :
    Calls Try.prog 50 #[.pointer (some ⟨p, 0, none⟩), .int .i64 at_] w fun e w' => e = .returned (.tuple #[.int .u64 (m.word at_), .bool (gok m.b.length at_ 8)]) ∧ w = w' := by
  obtain ⟨A, c, rfl, q1, q2, q3⟩ := H.reads
  obtain ⟨⟨-, -, -, -, -, -, c6, -, -⟩, -⟩ := nine H.blk
  have G := get_any A m.b.length c at_ 8 m.b w q3 hb q1 q2 h0 h1 (by omega) (by omega)
  have GG := Lib.hid G
  obtain ⟨n, hn⟩ : ∃ n, n = m.b.length := ⟨_, rfl⟩
  rw [← hn] at c6 GG ⊢
  clear H q1 q2 q3 G hn
  go_enter Try.func50, Try.ntmps50
  go_wp2_with (go_at_call 70; refine GG.out.mono ?_; rintro e w1 ⟨rfl, rfl⟩)
  go_ret2
  exact ⟨rfl, rfl⟩
theorem iword2_nil (at_ : Int) (w : World) :
    Calls Try.prog 50 #[.pointer none, .int .i64 at_] w fun e w' => e = .returned (.tuple #[.int .u64 0, .bool false]) ∧ w = w' := by
  go_enter Try.func50, Try.ntmps50
  go_wp2
  go_ret2
  exact ⟨rfl, rfl⟩
theorem iword_any (at_ : Int) (w : World) (H : IX w base S p i k d f h m bv sv) (hb : AreB m.b) (h0 : -9223372036854775808 ≤ at_) (h1 : at_ ≤ 9223372036854775807) :
    Calls Try.prog 25 #[.pointer (some ⟨p, 0, none⟩), .int .i64 at_] w fun e w' => e = .returned (.int .u64 (m.word at_)) ∧ w = w' := by
  have GG := Lib.hid (iword2_any at_ w H hb h0 h1)
  clear H hb
  go_enter Try.func25, Try.ntmps25
  go_wp2_with (go_at_call 50; refine GG.out.mono ?_; rintro e w1 ⟨rfl, rfl⟩)
  go_ret
  exact ⟨rfl, rfl⟩
theorem iword_nil (at_ : Int) (w : World) :
    Calls Try.prog 25 #[.pointer none, .int .i64 at_] w fun e w' => e = .returned (.int .u64 0) ∧ w = w' := by
  go_enter Try.func25, Try.ntmps25
  go_wp2_with (go_at_call 50; refine (iword2_nil at_ w).mono ?_; rintro e w1 ⟨rfl, rfl⟩)
  go_ret
  exact ⟨rfl, rfl⟩

theorem bts8_length (x : Int) : (bts x 8).length = 8 := by rw [bts_length]; rfl

set_option maxHeartbeats 1000000 in
theorem ilay_any (a : Nat) (x : Int) (w : World) (H : IX w base S p i k d f h m bv sv) (ha : a + 8 ≤ m.b.length) :
    Calls Try.prog 47 #[.pointer (some ⟨p, 0, none⟩), .int .i64 a, .int .u64 x] w fun e w' => e = .returned (.tuple #[]) ∧ Chg (fun j => bv.ownBlock = some j) w w' ∧ IX w' base S p i k d f h { m with b := splice m.b a (bts x 8) } bv sv := by
  obtain ⟨A, c, rfl, q1, q2, q3⟩ := H.reads
  obtain ⟨n, hn⟩ : ∃ n, n = m.b.length := ⟨_, rfl⟩
  rw [← hn] at H q1 ha
  have hrow := H.row
  rw [← hn] at hrow
  obtain ⟨g, cur, rfl, r1, r2, r3, r4, r5, r6⟩ := row_open hrow (by omega)
  have HX := Lib.hid (fun w1 (hb : Below w.heap.size w w1) => (H.below hb))
  have HC := Lib.hid (fun w1 (hb : Below w.heap.size w w1) => ((nine (H.below hb).blk).1.2.2.2.2.2.2.1 : w1.cell? ⟨p, 6, none⟩ = some (.slice (some ⟨g, 0, none⟩) n c)))
  have HK := Lib.hid (fun w1 (hb : Below w.heap.size w w1) => (r2.below hb r2.lt : Blk w1 g 5 cur.toArray))
  have hb : Below w.heap.size w w.drew := below_drewn (Below.refl _ _) 1
  have H0 := Lib.hid (HC.out _ hb)
  have LXC : Hid ((cellsOf .u8 (bts x 8)).length = 8) := by show _ = _; rw [cellsOf_length]; exact bts8_length x
  have MP : Hid (8 = Nat.min 8 (n - a)) := by show 8 = min 8 (n - a); omega
  have FP : Hid (a + 8 ≤ cur.length) := by show _ ≤ _; omega
  have t1 : (a : Int) ≤ (n : Int) := by omega
  have t2 : a ≤ n := by omega
  have t3 : ¬ c = a := by omega
  have HN := Lib.hid hn
  have HR := Lib.hid (And.intro r5 r6)
  have HA := Lib.hid ha
  have HL := Lib.hid (And.intro (HX.out w (Below.refl _ _)) H.bas)
  clear H q3 hrow r1 r2 r3 r4 r5 r6 hn ha
  go_enter Try.func47, Try.ntmps47
  go_wp2_with fail
  go_region_held3 (fun w' => w'.cell? ⟨p, 6, none⟩ = some (.slice (some ⟨g, 0, none⟩) n c))
    (first | assumption | exact H0.out | exact HC.out _ hb)
    (first
      | (go_at_call 46; refine (bytes_any x 8 _).mono ?_; rintro e wx ⟨A1, c1, rfl, ho1, hbx⟩; rw [bts8_length] at ho1 ⊢; have hb := hb.trans (hbx.mono hb.size); have hr1 := Reads.of_own ho1; clear hbx ho1)
      | (refine step_copy_blk rfl _ _ _ _ rfl 5 Try.underlying39 imByteOne _ _ _ _ _ _ rfl rfl g a 8 cur 5 (HK.out _ hb) (cellsOf .u8 (bts x 8)) LXC.out MP.out (fun _ => ⟨rfl, by obtain ⟨ad, h0, _, hc⟩ := hr1.2 (by omega); exact ⟨ad, h0, hc⟩⟩) FP.out (cellsOf_one _ _) ?_; intro w6 HG hc; have HX6 := Lib.hid ((HX.out _ hb).laid HN.out HR.out.1 HR.out.2 (by rw [bts8_length]; exact HA.out) HG.out hc); have hS := (nine HX6.out.blk).1.2.2.2.2.2.2.1; have HC6 := Lib.hid hc; clear HG hc))
  clear hS
  go_wp2
  go_end0
  rw [← HN.out]
  exact ⟨rfl, (Chg.of_below hb (Nat.le_refl _) _).trans HC6.out (fun j _ e => by rw [e]; rfl), HX6.out⟩
end

end Go.Proofs.Ythdnjjdlhhapbaa
