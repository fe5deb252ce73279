/-
  LAYER 15: WHAT end OF PACKAGE data TELLS: a contract.
-/
import Derived.Test.YtknimfnjmhmamaaGreatDaPlc
set_option linter.unusedVariables false
set_option maxRecDepth 100000
set_option linter.unusedSimpArgs false
namespace Go.Proofs.YtknimfnjmhmamaaGreat
open Go.RowKit Go.Shelf
attribute [local go_sem] Oper.semAt_some

/-- The word that will lead on, by places. -/
def lkN (root wd : Nat) (js : List Nat) : Nat := match js.getLast? with
  | none => root
  | some j => j + (16 + 8 * wd)
theorem lkN_snoc (root wd : Nat) (js : List Nat) (j : Nat) : lkN root wd (js ++ [j]) = j + (16 + 8 * wd) := by simp [lkN]
theorem lkN_map (root wd : Nat) (L : List GO) : lkN root wd (L.map (·.at_)) = lkG root wd L := by
  unfold lkN lkG
  rw [List.getLast?_map]
  cases L.getLast? <;> rfl

section
variable {base p : Nat} {S : Nat → Prop} {i k d f h : Int} {m : IM} {bv sv : Value}

set_option maxHeartbeats 4000000 in
theorem end_any (q : Nat) (js : List Nat) (w : World) (H : IX w base S p i k d f h m bv sv) (hbm : AreB m.b) (hl : m.b.length ≤ 1099511627776) (hq : q ≤ 1099511627776) (hU : IsU (m.word (q + 32 : Nat))) (hch : plcs m 2 0 (m.word (q + 32 : Nat)) js) :
    Calls Tryz.prog 24 #[.pointer (some ⟨p, 0, none⟩), .int .i64 q] w fun e w' => e = .returned (.int .i64 (lkN (q + 32) 2 js : Nat)) ∧ Below w.heap.size w w' := by
  have OA := Lib.hid (fun wx => oat_any 2 wx (by omega) (by omega))
  obtain ⟨r, hr⟩ : ∃ r, q + 32 = r := ⟨_, rfl⟩
  have hw0 : (q : Int) + 32 = (r : Int) := by omega
  have hw1 : IntKind.i64.wrap (r : Int) = (r : Int) := by rw [IntKind.wrap_i64]; omega
  have hb1 : Below w.heap.size w (w.alloc (.cells #[.int .i64 (r : Int)] 3)) := boxed w _
  have x0 := Blk.new w 3 #[.int .i64 (r : Int)]
  have hsz : (w.alloc (.cells #[.int .i64 (r : Int)] 3)).heap.size = w.heap.size + 1 := by simp
  rw [hr] at hU hch ⊢
  have WW := Lib.hid (fun wx (hb : Below w.heap.size w wx) => iword_any (r : Nat) wx (H.below hb) hbm (by omega) (by omega))
  obtain ⟨pl, hpl⟩ : ∃ pl, m.word (r : Nat) = pl := ⟨_, rfl⟩
  rw [hpl] at WW hU hch
  have PP := Lib.hid (fun wx => places_any p pl 2 wx)
  have HX := Lib.hid (And.intro hb1 (And.intro x0 hsz))
  clear hb1 x0 hsz hr
  refine (callsIn_wide (n := 9)).1 ?_
  refine callsIn_of_wp_marks Tryz.func24 rfl trivial ?_ rfl
  simp only [Tryz.ntmps24, List.size_toArray, List.length_cons, List.length_nil, Nat.reduceAdd, Nat.reduceSub, Array.replicate_succ, Array.replicate_zero, List.push_toArray, List.append_toArray, List.nil_append, List.cons_append]
  gi_wp2_with (first
    | (refine ⟨trivial, ?_⟩; gi_at_call 27; refine (callsIn_wide.2 (OA.out _)).mono ?_; rintro e w1 ⟨rfl, rfl⟩)
    | (refine ⟨trivial, ?_⟩; gi_at_call 28; refine (callsIn_wide.2 (WW.out _ HX.out.1)).mono ?_; rintro e w1 ⟨rfl, rfl⟩)
    | (refine ⟨trivial, ?_⟩; gi_at_call 54; refine (callsIn_wide.2 (PP.out _)).mono ?_; rintro e w2 ⟨rfl, hb2, hfl⟩))
  have hs2 := hb2.size
  obtain ⟨hb1, x0, hsz⟩ := HX.out
  have hlo := hfl.lo
  rw [hsz] at hfl hs2 hlo
  have hbw2 : Below w.heap.size w w2 := hb1.trans (hb2.mono hb1.size)
  have h2 := H.below hbw2
  have y0 := x0.below hb2 (by omega)
  have hft := H.foot
  have hfin := plcs_fine (by omega) hch
  obtain ⟨g0, hg0⟩ : ∃ g0, w.heap.size = g0 := ⟨_, rfl⟩
  rw [hg0] at y0 hlo hbw2 hfl hft hs2 ⊢
  refine wp_range_F (F := Fence.wide) (n := 9) rfl (by omega) (gf := 91) (lb := plB (g0 + 1)) rfl trivial (enters_of Tryz.func91 (by kernel_rfl) rfl)
    (places_F 8 (by omega) (fun k => k = g0) (g0 + 1) 2 pl js w2 h2 hbm hl (fun j hj => ⟨(h2.foot j hj).2, fun e => by have := (hft j hj).2; omega⟩) hfl ⟨fun e => by omega, fun e => by omega, fun e => by omega⟩ (by omega) hU hch)
    (fun k hk => by subst hk; omega)
    (fun fp pre x => tellsN_own js _ fp pre x) (fun _ => rfl)
    (fun fq pre W => fq = (fun k => k = g0) ∧ Blk W g0 3 #[.int .i64 (lkN r 2 pre : Nat)] ∧ Below g0 w W)
    (fun c pre W => False)
    (fun fq s A C row hs hg hr => ⟨hs.1, own_blkOf (β := Unit) (B := w2.heap.size) (by omega) (fun _ => #[.int .i64 (lkN r 2 s : Nat)]) () A C row hs.2.1 hg hr, hs.2.2.grown hg (by have := hs.2.2.size; omega) (fun k e => by have := (hr k e).1; omega)⟩)
    (fun c => own_never)
    ⟨rfl, y0, hbw2⟩
    (fun x a' W' => a' = { tmps := #[.pointer (some ⟨p, 0, none⟩), .int .i64 q, undef, undef, .int .i64 0, .pointer (some ⟨g0, 0, none⟩), .int .i64 x, .int .i64 q, .int .i64 32, .int .i64 r, .pointer (some ⟨p, 0, none⟩), .pointer (some ⟨p, 0, none⟩), .int .i64 r, .int .u64 pl, plV (g0 + 1), .int .i64 x, undef, undef, undef, undef], defers := [] })
    (fun x a' _ A C row hs hg hr => hs)
    ?assign ?body ?done ?stop
  case assign =>
    intro l2 x W3 K hW hK
    dsimp only [natE]
    gi_wp2
    exact hK _ _ (Below.refl _ _) rfl
  case body =>
    rintro l2 fp fq pre x W3 ⟨rfl, z0, hbW⟩ hok hsub hlen ⟨rest, hrest⟩ - a' rfl
    have k0 := z0.cell 0
    have f0 := z0.frozen 0
    have hx := hfin x (by rw [← hrest]; simp)
    obtain ⟨z, hz⟩ : ∃ z, x + 32 = z := ⟨_, rfl⟩
    have hz0 : (x : Int) + 32 = (z : Int) := by omega
    have hz1 : IntKind.i64.wrap (z : Int) = (z : Int) := by rw [IntKind.wrap_i64]; omega
    have HN : Hid (lkN r 2 (pre ++ [x]) = z) := Lib.hid (by rw [lkN_snoc]; omega)
    clear hz
    gi_wp2_with (refine ⟨trivial, ?_⟩; gi_at_call 27; refine (CallsIn.inRound l2 (callsIn_wide.2 (OA.out _))).mono ?_; rintro e w9 ⟨rfl, rfl⟩)
    have e1 : Chg (fun k => k = g0) W3 (W3.setCell ⟨g0, 0, none⟩ (.int .i64 z)) := chg_set1 (T := fun k => k = g0) (Chg.refl _ _) rfl _
    refine ⟨fun k => k = g0, ⟨rfl, ?_, hbW.setCell (p := ⟨g0, 0, none⟩) (Nat.le_refl _) _⟩, e1, fun k hk => ⟨.inl hk, Nat.lt_of_lt_of_le (hok k hk) e1.size⟩⟩
    rw [HN.out]
    exact z0.set_ 0 _
  case done =>
    rintro D fq xs W3 hD hxs ⟨rfl, z0, hbW⟩ hK
    have k0 := z0.cell 0
    subst hxs
    gi_wp2
    refine ⟨by simp, .inl ⟨_, _, rfl, run_takeDeferred hK, ?_⟩⟩
    exact ⟨_, results_tmp rfl _ _ _, rfl, by rw [hg0]; exact below_put1 hbW (by omega) _⟩
  case stop =>
    rintro D cc pre W3 hD hp hf hK
    exact hf.elim
end

end Go.Proofs.YtknimfnjmhmamaaGreat
