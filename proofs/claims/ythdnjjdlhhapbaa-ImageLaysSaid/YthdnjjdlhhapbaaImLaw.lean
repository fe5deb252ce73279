/-
  LAYER 12: what the statements share: the headers, the chapter's example, both images made anew.
-/
import Derived.Test.YthdnjjdlhhapbaaImDoes
import Derived.Test.YthdnjjdlhhapbaaImShow
import Derived.Test.YthdnjjdlhhapbaaImView
set_option linter.unusedVariables false
set_option maxRecDepth 100000
set_option linter.unusedSimpArgs false
namespace Go.Proofs.Ythdnjjdlhhapbaa
open Go.RowKit

/-- A call whose two results lie in variables of several cells. -/
theorem results_cc {P : Program} {fn : Func} {p u : Tmp} {ty ty2 : TypeId} (h : fn.results = #[.cell p ty, .cell u ty2]) (tmps : Array Value) (w : World) (g : Nat) (t : TypeId) (cs : Array Value) (fr : Nat × Nat) (d : TypeDesc) (g2 : Nat) (t2 : TypeId) (cs2 : Array Value) (fr2 : Nat × Nat) (d2 : TypeDesc)
    (hp : tmps.getD p undef = .pointer (some ⟨g, 0, none⟩)) (hg : w.heap[g]? = some (.cells cs t fr)) (hp2 : tmps.getD u undef = .pointer (some ⟨g2, 0, none⟩)) (hg2 : w.heap[g2]? = some (.cells cs2 t2 fr2))
    (hu : P.underlying ty = some d) (hd : (match d with | .struct _ | .array _ _ => true | _ => false) = true) (hi : (P.info? ty).map (·.size) = some cs.size)
    (hu2 : P.underlying ty2 = some d2) (hd2 : (match d2 with | .struct _ | .array _ _ => true | _ => false) = true) (hi2 : (P.info? ty2).map (·.size) = some cs2.size) :
    (results fn tmps).run P w = .ok (.tuple #[.agg cs, .agg cs2]) w := by
  have hp' : tmps[p]?.getD undef = .pointer (some ⟨g, 0, none⟩) := by simpa using hp
  have hp2' : tmps[u]?.getD undef = .pointer (some ⟨g2, 0, none⟩) := by simpa using hp2
  simp [results, h, hp', hp2', asAddr, run_loadVar_row w g t ty cs fr d hg hu hd hi, run_loadVar_row w g2 t2 ty2 cs2 fr2 d2 hg2 hu2 hd2 hi2]

theorem heads_any (a b D F : Int) (w : World) (ha : 0 ≤ a) (ha2 : a < 256) (hb : 0 ≤ b) (hb2 : b < 256) (hD : 1 + a % 8 = D) (hF : 1 + b % 8 = F) :
    Calls Try.prog 7 #[.int .u8 a, .int .u8 b] w fun e w' => e = .returned (.tuple #[hdV 5 6 D F 0, hdV 5 6 D F 0]) ∧ Below w.heap.size w w' := by
  obtain ⟨x, hx⟩ : ∃ x, a % 8 = x := ⟨_, rfl⟩
  obtain ⟨y, hy⟩ : ∃ y, b % 8 = y := ⟨_, rfl⟩
  rw [hx] at hD
  rw [hy] at hF
  have t1 : IntKind.u8.wrap x = x := by rw [IntKind.wrap_u8]; omega
  have t2 : IntKind.u8.wrap y = y := by rw [IntKind.wrap_u8]; omega
  have t3 : IntKind.i64.wrap x = x := by rw [IntKind.wrap_i64]; omega
  have t4 : IntKind.i64.wrap y = y := by rw [IntKind.wrap_i64]; omega
  have t5 : IntKind.i64.wrap D = D := by rw [IntKind.wrap_i64]; omega
  have t6 : IntKind.i64.wrap F = F := by rw [IntKind.wrap_i64]; omega
  go_enter Try.func7, Try.ntmps7
  go_wp2
  have h1 := (Blk.new w 27 #[.int .u64 5, .int .u64 6, .int .i64 D, .int .i64 F, .int .u64 0]).alloc (.cells #[.int .u64 5, .int .u64 6, .int .i64 D, .int .i64 F, .int .u64 0] 28)
  have h2 := Blk.new (w.alloc (.cells #[.int .u64 5, .int .u64 6, .int .i64 D, .int .i64 F, .int .u64 0] 27)) 28 #[.int .u64 5, .int .u64 6, .int .i64 D, .int .i64 F, .int .u64 0]
  rw [World.size_alloc] at h2
  refine bodyPost_ret (results_cc rfl _ _ w.heap.size 27 _ (0, 0) _ (w.heap.size + 1) 28 _ (0, 0) _ rfl h1 rfl h2 Try.underlying27 rfl (by kernel_rfl) Try.underlying28 rfl (by kernel_rfl)) rfl ?_
  exact ⟨rfl, (boxed _ _).alloc (by simp) _⟩

theorem lit_ob (w : World) (xs ys : List Int) (t : TypeId) (hx : xs.length ≤ 100) (hy : ys.length ≤ 100) : ObR ((w.alloc (.cells (cellsOf .u64 xs).toArray t)).alloc (.cells (cellsOf .u64 ys).toArray t)) ((w.alloc (.cells (cellsOf .u64 xs).toArray t)).alloc (.cells (cellsOf .u64 ys).toArray t)).heap.size (some ⟨w.heap.size, 0, none⟩) xs.length xs.length xs none 0 0 [] (some ⟨w.heap.size + 1, 0, none⟩) ys.length ys.length ys := by
  have h1 := (Reads.newN w t (cellsOf .u64 xs).toArray).alloc (by simp) (.cells (cellsOf .u64 ys).toArray t)
  have h2 := Reads.newN (w.alloc (.cells (cellsOf .u64 xs).toArray t)) t (cellsOf .u64 ys).toArray
  rw [World.size_alloc] at h2
  have e1 : (cellsOf .u64 xs).toArray.size = xs.length := by simp [cellsOf_length]
  have e2 : (cellsOf .u64 ys).toArray.size = ys.length := by simp [cellsOf_length]
  rw [e1] at h1
  rw [e2] at h2
  exact ⟨h1.more (by simp), Reads.none_, h2.more (by simp), ⟨Nat.le_refl _, by omega⟩, ⟨Nat.le_refl _, by omega⟩, ⟨Nat.le_refl _, by omega⟩⟩

theorem awake_any (w : World) : Calls Try.prog 6 #[] w fun e w' => e = .returned (.bool true) ∧ Below w.heap.size w w' := by
  have NW := Lib.hid (fun G w1 (ht : IsTable w1 G) => inew_yes (base := w1.heap.size) G 0 0 4 2 0 1000 w1 rfl ht (Nat.le_refl _))
  have hx : encR 4 [0] [] [5, 6] = [4, 0, 0, 0, 0, 0, 0, 0, 40, 0, 0, 0, 0, 0, 0, 0, 0, 0, 0, 0, 0, 0, 0, 0, 5, 0, 0, 0, 0, 0, 0, 0, 6, 0, 0, 0, 0, 0, 0, 0] := by decide
  have hl : (newB 0 0 4 2 0).length = 304 := newB_length rfl
  have hA : ∀ m : IM, m.b.length = 304 → m.lim = 1000 → m.putA (encR 4 [0] [] [5, 6]) = 304 ∧ m.putE (encR 4 [0] [] [5, 6]) = 0 ∧ (m.put (encR 4 [0] [] [5, 6])).b.length = 344 := fun m h1 h2 => by
    have e1 : m.putE (encR 4 [0] [] [5, 6]) = 0 := by
      unfold IM.putE
      rw [hx, h1, h2]; simp
    refine ⟨?_, e1, ?_⟩
    · unfold IM.putA; rw [e1, if_pos rfl, h1]; rfl
    · unfold IM.put; rw [e1, if_pos rfl]
      show (m.b ++ _).length = _
      rw [hx, List.length_append, h1]; rfl
  have HA := Lib.hid (hA ⟨newB 0 0 4 2 0, newB 0 0 4 2 0, [], 1000⟩ hl rfl)
  have HL := Lib.hid hl
  clear hA hx hl
  obtain ⟨xs, hxs⟩ : ∃ xs, encR 4 [0] [] [5, 6] = xs := ⟨_, rfl⟩
  rw [hxs] at HA
  have HXS := Lib.hid hxs
  clear hxs
  go_enter Try.func6, Try.ntmps6
  go_wp2_with (first
    | (go_at_call 9; refine (crcMake_any _).mono ?_; rintro e w1 ⟨rfl, ht, hb1⟩; have HT := Lib.hid ht; clear ht)
    | (go_at_call 8; go_loud (refine (NW.out _ _ HT.out).mono ?_; rintro e w2 ⟨p, bv, sv, rfl, hb2, hx⟩; have HX := Lib.hid hx; have hb2 := hb1.trans (hb2.mono hb1.size); clear hx)))
  obtain ⟨wL, hwL⟩ : ∃ wL, (w2.alloc (.cells #[.int .u64 0] 25)).alloc (.cells #[.int .u64 5, .int .u64 6] 25) = wL := ⟨_, rfl⟩
  have hbL : Below w2.heap.size w2 wL := by rw [← hwL]; exact (boxed _ _).alloc (by simp) _
  have LO : ObR wL wL.heap.size (some ⟨w2.heap.size, 0, none⟩) 1 1 [0] none 0 0 [] (some ⟨w2.heap.size + 1, 0, none⟩) 2 2 [5, 6] := by rw [← hwL]; exact lit_ob w2 [0] [5, 6] _ (by decide) (by decide)
  have PT := Lib.hid (iput_any 4 _ 1 1 [0] none 0 0 [] _ 2 2 [5, 6] wL LO (Nat.le_refl _) (HX.out.below hbL) (by show (newB 0 0 4 2 0).length ≤ _; rw [HL.out]; omega) (by show (1000 : Nat) ≤ _; omega))
  rw [HXS.out, HA.out.1, HA.out.2.1] at PT
  have hb3 := hb2.trans (hbL.mono hb2.size)
  rw [hwL]
  clear hwL LO hbL
  go_wp2_with (first
    | (go_at_call 28; go_loud (refine PT.out.mono ?_; rintro e w5 ⟨rfl, hc5, bv5, sv5, hx5⟩; obtain ⟨A5, c5, rfl, -, -, -⟩ := hx5.reads; have h6 := (nine hx5.blk).1.2.2.2.2.2.2.1; rw [HA.out.2.2] at h6; have HC5 := Lib.hid hc5; clear hc5 hx5))
    | (go_at_call 24; go_loud (refine (itail_any p 344 A5 c5 w5 h6).mono ?_; rintro e w9 ⟨rfl, rfl⟩)))
  go_ret
  exact ⟨rfl, hb3.trans (HC5.out.below hb3.size (fun j _ hj => by have := hj.1; have := hb1.size; omega))⟩

/-! ### the rounds -/
theorem IM.act_was (m : IM) (a : ActI) : (m.act a).was = (if a.kind = 2 then m.b else m.was) := by
  unfold IM.act
  by_cases h0 : a.kind = 0
  · rw [if_pos h0, if_neg (by omega)]; unfold IM.set; split <;> rfl
  · rw [if_neg h0]
    by_cases h1 : a.kind = 1
    · rw [if_pos h1, if_neg (by omega)]; unfold IM.put; split <;> rfl
    · rw [if_neg h1]
      by_cases h2 : a.kind = 2
      · rw [if_pos h2, if_pos h2]; rfl
      · rw [if_neg h2, if_neg h2]
        split
        · rfl
        · unfold IM.set; split <;> rfl

/-- At the head of each round: both images behind k acts. -/
structure AtI (wB wr : World) (p q : Nat) (T : Nat → Prop) (D F : Int) (m : IM) (k : Nat) : Prop where
  two : ITwo wr wB.heap.size T p q 5 6 D F 0 m m
  ok : m.Ok k
  big : 272 ≤ m.was.length
  bel : Below wB.heap.size wB wr

theorem AtI.len8 {wB wr : World} {p q k : Nat} {T : Nat → Prop} {D F : Int} {m : IM} (H : AtI wB wr p q T D F m k) : 8 ≤ m.b.length := by
  have := H.big; have := H.ok.good.le; omega
theorem AtI.later {wB wr w1 : World} {p q k : Nat} {T : Nat → Prop} {D F : Int} {m : IM} (H : AtI wB wr p q T D F m k) (hb : Below wr.heap.size wr w1) : AtI wB w1 p q T D F m k := ⟨H.two.below hb, H.ok, H.big, H.bel.trans (hb.mono H.bel.size)⟩
/-- An act has been done. -/
theorem AtI.next {wB wr w1 w2 : World} {p q k : Nat} {T : Nat → Prop} {D F : Int} {m : IM} {a : ActI} {e : Ending} (H : AtI wB wr p q T D F m k) (hb : Below wr.heap.size wr w1) (hy : AreB a.rs) (hd : IDid wB.heap.size T p q 5 6 D F 0 (m.act a) w1 e w2) :
    ∃ T', e = .returned (.bool true) ∧ AtI wB w2 p q T' D F (m.act a) (k + 1) ∧ Chg T wr w2 ∧ (∀ j, T' j → T j ∨ wr.heap.size ≤ j) := by
  obtain ⟨he, ht⟩ := hd
  have ht2 := ITurn.later H.two hb ht
  refine ⟨_, he, ⟨ht2.2, H.ok.act a hy, ?_, ?_⟩, ht2.1, fun j hj => hj.imp id (fun x => x.1)⟩
  · rw [IM.act_was]
    have := H.big; have := H.ok.good.le
    split <;> omega
  · exact H.bel.trans (ht2.1.below H.bel.size (fun j _ hj => (H.two.foot j hj).1))

theorem ActAt.in_ {w0 wB w : World} {a : ActI} (h : ActIOk w0 a) (hB : w0.heap.size ≤ wB.heap.size) (hb : Below w0.heap.size w0 w) : ActAt w wB.heap.size a := by
  have h1 := ActAt.of h hb
  exact ⟨h1.k0, h1.k1, h1.a0, h1.a1, h1.nn, h1.ob.more hB, h1.br, h1.bw, h1.bi⟩

/-- The world in which both images have been made. -/
theorem AtI.made {wB w1 w2 : World} {D F : Int} {lm : Nat} {e e2 : Ending} (hr : rightH D F = true) (hlm : lm ≤ 1048576) (h1 : IXnew wB.heap.size 5 6 D F 0 ⟨newB 5 6 D F 0, newB 5 6 D F 0, [], lm⟩ w1 e w2) {w3 w4 : World} (hb : Below wB.heap.size wB w1) (hb2 : Below w2.heap.size w2 w3) (h2 : RXnew wB.heap.size 5 6 D F 0 ⟨newB 5 6 D F 0, newB 5 6 D F 0, [], lm⟩ w3 e2 w4) :
    ∃ p q T, e = .returned (.pointer (some ⟨p, 0, none⟩)) ∧ e2 = .returned (.pointer (some ⟨q, 0, none⟩)) ∧ AtI wB w4 p q T D F ⟨newB 5 6 D F 0, newB 5 6 D F 0, [], lm⟩ 0 := by
  obtain ⟨p, bv, sv, rfl, hb1, hx1⟩ := h1
  have hs := hb.size
  have hs1 := hb1.size
  have h1' : IXnew wB.heap.size 5 6 D F 0 ⟨newB 5 6 D F 0, newB 5 6 D F 0, [], lm⟩ w1 (.returned (.pointer (some ⟨p, 0, none⟩))) w3 := ⟨p, bv, sv, rfl, hb1.trans (hb2.mono hs1), (hx1.below hb2).mono (fun j hj => ⟨hj.1, by have := hb2.size; omega⟩) (fun j hj => ⟨by omega, hj.2⟩)⟩
  obtain ⟨p', q', e1, e3, hb3, h3⟩ := ITwo.fresh (p' := 0) (q' := 0) hs h1' h2
  have hl := newB_length (i := 5) (k := 6) (h := 0) hr
  have hk := newK_eq hr
  refine ⟨p', q', _, e1, e3, h3, ⟨IM.good_new (newB_bytes _ _ _ _ _) _, ?_, hlm, Nat.zero_le _⟩, ?_, hb.trans (hb3.mono hs)⟩
  · show (newB 5 6 D F 0).length ≤ _; rw [hl]; omega
  · show 272 ≤ (newB 5 6 D F 0).length; rw [hl]; omega

end Go.Proofs.Ythdnjjdlhhapbaa
