/-
  LAYER 14: WHAT Len AND Nth DO: contracts.
-/
import Derived.Test.YtblpmnipapimcaaChAll
set_option linter.unusedVariables false
set_option maxRecDepth 100000
set_option linter.unusedSimpArgs false
namespace Go.Proofs.Ytblpmnipapimcaa
open Go.RowKit Go.Shelf
attribute [local go_sem] Oper.semAt_some

/-- A list of a file: what its places are. -/
structure ListAt (w : World) (base p : Nat) (S : Nat → Prop) (root : Int) (its : List It) (L : List Int) : Prop where
  ex : ∃ i k d f h m bv sv, IX w base S p i k d f h m bv sv ∧ AreB m.b ∧ m.b.length ≤ 1099511627776 ∧ (1 ≤ d ∧ d ≤ 256) ∧ (1 ≤ f ∧ f ≤ 256) ∧ IsU (m.word root) ∧ chainAt m d f 4 0 0 (m.word root) its
  lo : -9223372036854775808 ≤ root
  hi : root ≤ 9223372036854775807
  its_ : ∀ t ∈ its, t.is.length ≤ 140737488355328
  eq : L = placesA (its.map (·.is)).flatten
  most : L.length ≤ 1000000000 ∧ its.length ≤ 1000000000
theorem ListAt.keep {w w' : World} {base p : Nat} {S T : Nat → Prop} {root : Int} {its : List It} {L : List Int} (h : ListAt w base p S root its L) (hc : Chg T w w') (hT : ∀ j, S j → ¬ T j) : ListAt w' base p S root its L := by
  obtain ⟨⟨i, k, d, f, h', m, bv, sv, H, r⟩, r2, r3, r4, r5, r6⟩ := h
  exact ⟨⟨i, k, d, f, h', m, bv, sv, H.keep hc hT, r⟩, r2, r3, r4, r5, r6⟩
theorem ListAt.below {w w' : World} {base p : Nat} {S : Nat → Prop} {root : Int} {its : List It} {L : List Int} (h : ListAt w base p S root its L) (hb : Below w.heap.size w w') : ListAt w' base p S root its L := h.keep (Chg.of_below hb (Nat.le_refl _) (fun _ => False)) (fun _ _ e => e)
theorem ListAt.foot {w : World} {base p : Nat} {S : Nat → Prop} {root : Int} {its : List It} {L : List Int} (h : ListAt w base p S root its L) : ∀ j, S j → base ≤ j ∧ j < w.heap.size := by
  obtain ⟨⟨i, k, d, f, h', m, bv, sv, H, r⟩, -⟩ := h
  exact H.foot
/-- What rows' iterator tells of it. -/
theorem ListAt.rows {w : World} {base p : Nat} {S : Nat → Prop} {root : Int} {its : List It} {L : List Int} (h : ListAt w base p S root its L) (n : Nat) (hn : 2 ≤ n) (fp₀ : Nat → Prop) (g : Nat) (hS : ∀ j, S j → j < w.heap.size ∧ ¬ fp₀ j) (hB : RwAt w g p root) (hT : ¬ fp₀ g ∧ ¬ fp₀ (g + 1)) :
    ∃ rs : List (List Int), rs.flatten = L ∧ rs.length ≤ its.length ∧ SeqF Fence.wide n Try.prog 54 (rwB g) Rw.encs (TellsR rs) fp₀ (fun xs => xs.map (·.zs) = rs) (fun pre => ∃ rest, pre.map (·.zs) ++ rest = rs) rs.length w := by
  obtain ⟨⟨i, k, d, f, h', m, bv, sv, H, hb, hl, hd, hf, hU, hch⟩, r2, r3, r4, r5, r6⟩ := h
  refine ⟨rowsL (its.map (·.is)), by rw [rowsL_flatten, r5], by have := rowsL_length_le (its.map (·.is)); rwa [List.length_map] at this, ?_⟩
  exact rows_F n hn fp₀ g root its w H hb hl hd hf hS hB hT r2 r3 r4 hU hch

/-- How long what has come is. -/
theorem flatR_le {pre : List Rw} {zs : List Int} {rest : List (List Int)} {rs : List (List Int)} (h : pre.map (·.zs) ++ zs :: rest = rs) : (flatR pre).length + zs.length ≤ rs.flatten.length ∧ rs.flatten = flatR pre ++ (zs ++ rest.flatten) := by
  have e : rs.flatten = flatR pre ++ (zs ++ rest.flatten) := by rw [← h]; simp [flatR]
  refine ⟨?_, e⟩
  rw [e, List.length_append, List.length_append]; omega
theorem flatR_all {xs : List Rw} {rs : List (List Int)} (h : xs.map (·.zs) = rs) : flatR xs = rs.flatten := by rw [← h]; rfl

section
variable {base p : Nat} {S : Nat → Prop} {root : Int} {its : List It} {L : List Int}

set_option maxHeartbeats 4000000 in
theorem clen_any (w : World) (h : ListAt w base p S root its L) :
    Calls Try.prog 14 #[.pointer (some ⟨p, 0, none⟩), .int .i64 root] w fun e w' => e = .returned (.int .i64 (L.length : Nat)) ∧ Below w.heap.size w w' := by
  have RW := Lib.hid (fun w1 => crows_any p root w1)
  refine (callsIn_wide (n := 9)).1 ?_
  refine callsIn_of_wp_marks Try.func14 rfl trivial ?_ rfl
  simp only [Try.ntmps14, List.size_toArray, List.length_cons, List.length_nil, Nat.reduceAdd, Nat.reduceSub, Array.replicate_succ, Array.replicate_zero, List.push_toArray, List.append_toArray, List.nil_append, List.cons_append]
  gi_wp2_with (refine ⟨trivial, ?_⟩; gi_at_call 34; refine (callsIn_wide.2 (RW.out _)).mono ?_; rintro e w2 ⟨rfl, hb2, hfl⟩)
  have hb0 : Below w.heap.size w (w.alloc (.cells #[.int .i64 0] 3)) := boxed _ _
  have hsz : (w.alloc (.cells #[.int .i64 0] 3)).heap.size = w.heap.size + 1 := World.size_alloc _ _
  have x0 := Blk.new w 3 #[.int .i64 0]
  obtain ⟨gr, hgr⟩ : ∃ gr, w.heap.size + 1 = gr := ⟨_, rfl⟩
  rw [hsz, hgr] at hfl
  generalize w.alloc (.cells #[.int .i64 0] 3) = w0 at *
  have hs2 := hb2.size
  have hlo := hfl.lo
  have hbw2 : Below w.heap.size w w2 := hb0.trans (hb2.mono hb0.size)
  have h2 := h.below hbw2
  have y0 := x0.below hb2 (by omega)
  obtain ⟨rs, hfl2, hrl, hseq⟩ := h2.rows 8 (by omega) (fun k => k = w.heap.size) gr (fun j hj => ⟨(h2.foot j hj).2, fun e => by have := (h.foot j hj).2; omega⟩) hfl ⟨fun e => by omega, fun e => by omega⟩
  subst hgr
  refine wp_range_F (F := Fence.wide) (n := 9) rfl (by omega) (gf := 54) (lb := rwB (w.heap.size + 1)) rfl trivial (enters_of Try.func54 (by kernel_rfl) rfl) hseq
      (fun k hk => by subst hk; omega)
      (fun fp pre x => tellsR_own rs _ fp pre x) (fun _ => rfl)
      (fun fq pre W => fq = (fun k => k = w.heap.size) ∧ Blk W w.heap.size 3 #[.int .i64 ((flatR pre).length : Nat)] ∧ Below w.heap.size w W)
      (fun c pre W => False)
      (fun fq s A C row hs hg hr => ⟨hs.1, own_blkOf (β := Unit) (B := w2.heap.size) (by omega) (fun _ => #[.int .i64 ((flatR s).length : Nat)]) () A C row hs.2.1 hg hr, hs.2.2.grown hg (by have := hs.2.2.size; omega) (fun k e => by have := (hr k e).1; omega)⟩)
      (fun c => own_never)
      ⟨rfl, y0, hbw2⟩
      (fun x a' W' => a' = { tmps := #[.pointer (some ⟨p, 0, none⟩), .int .i64 root, undef, undef, .int .i64 0, .pointer (some ⟨w.heap.size, 0, none⟩), x.v, .pointer (some ⟨p, 0, none⟩), .int .i64 root, rwV (w.heap.size + 1), x.v, undef, undef, undef, undef, undef], defers := [] })
      (fun x a' _ A C row hs hg hr => hs)
      ?assign ?body ?done ?stop
  case assign =>
    intro l2 x W3 K hW hK
    dsimp only [Rw.encs]
    gi_wp2
    exact hK _ _ (Below.refl _ _) rfl
  case body =>
    rintro l2 fp fq pre x W3 ⟨rfl, yb3, hbW⟩ hok hsub hlen ⟨⟨rest, hrest⟩, hlies, hfree⟩ - a' rfl
    have y3 := yb3.cell 0
    have f3 := yb3.frozen 0
    have hxl := hlies.rd.len
    have hm := (flatR_le hrest).1
    have hmost := h.most
    rw [hfl2] at hm
    obtain ⟨q, hq⟩ : ∃ q, (flatR pre).length = q := ⟨_, rfl⟩
    rw [hq] at y3 hm
    have hqn : ((q : Int) + (x.n : Int)) = ((flatR (pre ++ [x])).length : Nat) := by rw [flatR_snoc, List.length_append, hq, hxl]; simp
    have HQ := Lib.hid hqn
    have hb1 : q + x.n ≤ 1000000000 := by omega
    have hw1 : IntKind.i64.wrap ((q : Int) + (x.n : Int)) = (q : Int) + (x.n : Int) := wrap_i64_of (by omega) (by omega)
    clear hqn hm hmost hq
    dsimp only [Rw.v]
    gi_wp2
    have hbk := yb3.set_ 0 (.int .i64 ((q : Int) + (x.n : Int)))
    refine ⟨fun k => k = w.heap.size, ⟨rfl, ?_, ?_⟩, ⟨?_, ?_⟩⟩
    · rw [← HQ.out]; exact hbk
    · exact hbW.setCell (Nat.le_refl _) _
    · exact chg_set1 (T := fun k => k = w.heap.size) (Chg.refl _ _) rfl _
    · intro k hk; subst hk; exact ⟨.inl rfl, by have := yb3.lt; rw [size_set]; omega⟩
  case done =>
    rintro D fq xs W3 hD hxs ⟨rfl, yb3, hbW⟩ hK
    have y3 := yb3.cell 0
    rw [flatR_all hxs, hfl2] at y3
    gi_wp2
    refine ⟨by simp, .inl ⟨_, _, rfl, run_takeDeferred hK, ?_⟩⟩
    refine ⟨_, results_tmp rfl _ _ _, rfl, below_put1 hbW (by omega) _⟩
  case stop =>
    rintro D cc pre W3 hD hp hf hK
    exact hf.elim

/-- What Nth tells. -/
def nthV (L : List Int) (i : Int) : Int := if 0 ≤ i ∧ i < L.length then L.getD i.toNat 0 else 0
def nthB (L : List Int) (i : Int) : Bool := decide (0 ≤ i ∧ i < L.length)
theorem nth_yes {L : List Int} {q : Nat} (h : q < L.length) : nthV L q = L.getD q 0 ∧ nthB L q = true := by
  unfold nthV nthB
  rw [if_pos (by omega)]
  exact ⟨rfl, decide_eq_true (by omega)⟩
theorem nth_no {L : List Int} {i : Int} (h : i < 0 ∨ (L.length : Int) ≤ i) : nthV L i = 0 ∧ nthB L i = false := by
  unfold nthV nthB
  rw [if_neg (by omega)]
  exact ⟨rfl, decide_eq_false (by omega)⟩
def three (g : Nat) : Nat → Prop := fun k => k = g ∨ k = g + 1 ∨ k = g + 1 + 1
theorem load_u64 {w : World} {g : Nat} {x : Int} (h : w.cell? ⟨g, 0, none⟩ = some (.int .u64 x)) : (loadVar 36 ⟨g, 0, none⟩).run Try.prog w = .ok (.int .u64 x) w := by simp [go_sem, h]

set_option maxHeartbeats 4000000 in
theorem cnth_any (i : Int) (w : World) (h : ListAt w base p S root its L) (hi0 : -9223372036854775808 ≤ i) (hi1 : i ≤ 9223372036854775807) :
    Calls Try.prog 17 #[.pointer (some ⟨p, 0, none⟩), .int .i64 root, .int .i64 i] w fun e w' => e = .returned (.tuple #[.int .u64 (nthV L i), .bool (nthB L i)]) ∧ Below w.heap.size w w' := by
  have RW := Lib.hid (fun w1 => crows_any p root w1)
  have hb0 : Below w.heap.size w (((w.alloc (.cells #[.int .i64 i] 3)).alloc (.cells #[.int .u64 0] 36)).alloc (.cells #[.bool false] 4)) := ((boxed w _).alloc (boxed w _).size _).alloc (by simp; omega) _
  have hsz : (((w.alloc (.cells #[.int .i64 i] 3)).alloc (.cells #[.int .u64 0] 36)).alloc (.cells #[.bool false] 4)).heap.size = w.heap.size + 3 := by simp
  have x0 := ((Blk.new w 3 #[.int .i64 i]).alloc (.cells #[.int .u64 0] 36)).alloc (.cells #[.bool false] 4)
  have x1 := (Blk.new (w.alloc (.cells #[.int .i64 i] 3)) 36 #[.int .u64 0]).alloc (.cells #[.bool false] 4)
  have x2 := Blk.new ((w.alloc (.cells #[.int .i64 i] 3)).alloc (.cells #[.int .u64 0] 36)) 4 #[.bool false]
  simp only [World.size_alloc] at x1 x2
  by_cases hneg : i < 0
  · obtain ⟨e1, e2⟩ := nth_no (L := L) (i := i) (.inl hneg)
    rw [e1, e2]
    have X := Lib.hid (And.intro hb0 (And.intro x1 x2))
    clear hb0 hsz x0 x1 x2 e1 e2
    go_enter Try.func17, Try.ntmps17
    go_wp2
    obtain ⟨hb0, x1, x2⟩ := X.out
    refine bodyPost_ret (results_cc rfl _ _ _ _ _ _ rfl rfl (load_u64 (x1.cell 0)) (load_bool (x2.cell 0))) rfl ⟨rfl, hb0⟩
  · obtain ⟨q, rfl⟩ : ∃ q : Nat, i = q := ⟨i.toNat, by omega⟩
    obtain ⟨v0, hv0⟩ : ∃ v0, L.getD q 0 = v0 := ⟨_, rfl⟩
    have HV := Lib.hid hv0
    clear hv0
    have HX := Lib.hid (And.intro hb0 (And.intro hsz (And.intro x0 (And.intro x1 x2))))
    clear hb0 hsz x0 x1 x2
    refine (callsIn_wide (n := 9)).1 ?_
    refine callsIn_of_wp_marks Try.func17 rfl trivial ?_ rfl
    simp only [Try.ntmps17, List.size_toArray, List.length_cons, List.length_nil, Nat.reduceAdd, Nat.reduceSub, Array.replicate_succ, Array.replicate_zero, List.push_toArray, List.append_toArray, List.nil_append, List.cons_append]
    gi_wp2_with (refine ⟨trivial, ?_⟩; gi_at_call 34; refine (callsIn_wide.2 (RW.out _)).mono ?_; rintro e w2 ⟨rfl, hb2, hfl⟩)
    obtain ⟨hb0, hsz, x0, x1, x2⟩ := HX.out
    rw [hsz] at hfl
    generalize ((w.alloc (.cells #[.int .i64 q] 3)).alloc (.cells #[.int .u64 0] 36)).alloc (.cells #[.bool false] 4) = w0 at *
    have hs2 := hb2.size
    have hlo := hfl.lo
    have hbw2 : Below w.heap.size w w2 := hb0.trans (hb2.mono hb0.size)
    have h2 := h.below hbw2
    have y0 := x0.below hb2 (by omega)
    have y1 := x1.below hb2 (by omega)
    have y2 := x2.below hb2 (by omega)
    obtain ⟨g0, hg0⟩ : ∃ g0, w.heap.size = g0 := ⟨_, rfl⟩
    have hF3' : ∀ k, three g0 k ↔ (k = g0 ∨ k = g0 + 1 ∨ k = g0 + 1 + 1) := fun k => Iff.rfl
    obtain ⟨rs, hfl2, hrl, hseq⟩ := h2.rows 8 (by omega) (three g0) (g0 + 3) (fun j hj => ⟨(h2.foot j hj).2, fun e => by have := (h.foot j hj).2; rw [hF3'] at e; omega⟩) (by rw [hg0] at hfl; exact hfl) ⟨fun e => by rw [hF3'] at e; omega, fun e => by rw [hF3'] at e; omega⟩
    rw [hg0] at y0 y1 y2 hlo hbw2 ⊢
    refine wp_range_F (F := Fence.wide) (n := 9) rfl (by omega) (gf := 54) (lb := rwB (g0 + 3)) rfl trivial (enters_of Try.func54 (by kernel_rfl) rfl) hseq
      (fun k hk => by rw [hF3'] at hk; omega)
      (fun fp pre x => tellsR_own rs _ fp pre x) (fun _ => rfl)
      (fun fq pre W => fq = three g0 ∧ Blk W g0 3 #[.int .i64 ((q : Int) - (flatR pre).length)] ∧ Blk W (g0 + 1) 36 #[.int .u64 0] ∧ Blk W (g0 + 1 + 1) 4 #[.bool false] ∧ (flatR pre).length ≤ q ∧ Below g0 w W)
      (fun c pre W => c = .ret ∧ Blk W (g0 + 1) 36 #[.int .u64 v0] ∧ Blk W (g0 + 1 + 1) 4 #[.bool true] ∧ q < L.length ∧ Below g0 w W)
      (fun fq s A C row hs hg hr => ⟨hs.1, own_blkOf (β := Unit) (B := w2.heap.size) (by omega) (fun _ => #[.int .i64 ((q : Int) - (flatR s).length)]) () A C row hs.2.1 hg hr, own_blkOf (β := Unit) (B := w2.heap.size) (by omega) (fun _ => #[.int .u64 0]) () A C row hs.2.2.1 hg hr,
        own_blkOf (β := Unit) (B := w2.heap.size) (by omega) (fun _ => #[.bool false]) () A C row hs.2.2.2.1 hg hr, hs.2.2.2.2.1, hs.2.2.2.2.2.grown hg (by have := hs.2.2.2.2.2.size; omega) (fun k e => by have := (hr k e).1; omega)⟩)
      (fun c s A C row hs hg hr => ⟨hs.1, own_blkOf (β := Unit) (B := w2.heap.size) (by omega) (fun _ => #[.int .u64 v0]) () A C row hs.2.1 hg hr,
        own_blkOf (β := Unit) (B := w2.heap.size) (by omega) (fun _ => #[.bool true]) () A C row hs.2.2.1 hg hr, hs.2.2.2.1, hs.2.2.2.2.grown hg (by have := hs.2.2.2.2.size; omega) (fun k e => by have := (hr k e).1; omega)⟩)
      ⟨rfl, by simpa [flatR] using y0, y1, y2, by simp [flatR], hbw2⟩
      (fun x a' W' => a' = { tmps := #[.pointer (some ⟨p, 0, none⟩), .int .i64 root, .int .i64 q, undef, undef, .pointer (some ⟨g0, 0, none⟩), .pointer (some ⟨g0 + 1, 0, none⟩), .pointer (some ⟨g0 + 1 + 1, 0, none⟩), x.v, .int .i64 q, .bool false, .pointer (some ⟨p, 0, none⟩), .int .i64 root, rwV (g0 + 3), x.v, undef, undef, undef, undef, undef, undef, undef, undef, undef, undef, undef, undef], defers := [] })
      (fun x a' _ A C row hs hg hr => hs)
      ?assign ?body ?done ?stop
    case assign =>
      intro l2 x W3 K hW hK
      dsimp only [Rw.encs]
      gi_wp2
      exact hK _ _ (Below.refl _ _) rfl
    case body =>
      rintro l2 fp fq pre x W3 ⟨rfl, z0, z1, z2, hq, hbW⟩ hok hsub hlen ⟨⟨rest, hrest⟩, hlies, hfree⟩ - a' rfl
      have k0 := z0.cell 0
      have k1 := z1.cell 0
      have k2 := z2.cell 0
      have f0 := z0.frozen 0
      have f1 := z1.frozen 0
      have f2 := z2.frozen 0
      have hxl := hlies.rd.len
      obtain ⟨hm, hLe⟩ := flatR_le hrest
      rw [hfl2] at hm hLe
      have hmost := h.most
      obtain ⟨c, hc⟩ : ∃ c, (flatR pre).length = c := ⟨_, rfl⟩
      rw [hc] at k0 z0 hq hm
      have hg01 : ¬ g0 = g0 + 1 := by omega
      have hg02 : ¬ g0 = g0 + 1 + 1 := by omega
      have hg12 : ¬ g0 + 1 = g0 + 1 + 1 := by omega
      obtain ⟨r, hr⟩ : ∃ r : Nat, (q : Int) - (c : Int) = r := ⟨q - c, by omega⟩
      rw [hr] at k0 z0
      have HS := Lib.hid (show ∀ v : Value, Chg (three g0) W3 (W3.setCell ⟨g0, 0, none⟩ v) from fun v => chg_set1 (T := three g0) (Chg.refl _ _) (.inl rfl) _)
      by_cases hlt : r < x.n
      · obtain ⟨bl, off, hA, _, h1c⟩ := hlies.rd.plain (by omega)
        have q1 := h1c r hlt
        have hval : x.zs.getD r 0 = L.getD q 0 := by
          rw [hLe, List.getD_eq_getElem?_getD, List.getD_eq_getElem?_getD, List.getElem?_append_right (by omega), hc, List.getElem?_append_left (by omega), show q - c = r by omega]
        rw [hval, HV.out] at q1
        have hql : q < L.length := by omega
        have i1 : (r : Int) < (x.n : Int) := by omega
        have HE : Hid (∀ v u : Value, Chg (three g0) W3 ((W3.setCell ⟨g0 + 1, 0, none⟩ v).setCell ⟨g0 + 1 + 1, 0, none⟩ u) ∧ Blk ((W3.setCell ⟨g0 + 1, 0, none⟩ v).setCell ⟨g0 + 1 + 1, 0, none⟩ u) (g0 + 1) 36 #[v] ∧ Blk ((W3.setCell ⟨g0 + 1, 0, none⟩ v).setCell ⟨g0 + 1 + 1, 0, none⟩ u) (g0 + 1 + 1) 4 #[u] ∧ Below g0 w ((W3.setCell ⟨g0 + 1, 0, none⟩ v).setCell ⟨g0 + 1 + 1, 0, none⟩ u)) := Lib.hid (fun v u =>
          ⟨chg_set1 (T := three g0) (chg_set1 (Chg.refl _ _) (.inr (.inl rfl)) _) (.inr (.inr rfl)) _, (z1.set_ 0 v).far (by show g0 + 1 ≠ g0 + 1 + 1; omega) _, (z2.far (by show g0 + 1 + 1 ≠ g0 + 1; omega) _).set_ 0 u, (hbW.setCell (by show g0 ≤ g0 + 1; omega) _).setCell (by show g0 ≤ g0 + 1 + 1; omega) _⟩)
        dsimp only [Rw.v]
        rw [hA]
        clear h1c hval hLe hm hc hr hlies hfree
        gi_wp2
        obtain ⟨e1, e2, e3, e4⟩ := HE.out (.int .u64 v0) (.bool true)
        first | exact ⟨e1, rfl, e2, e3, hql, e4⟩ | exact ⟨e1, rfl, e2, e3, e4⟩
      · have i1 : ¬ (r : Int) < (x.n : Int) := by omega
        have hw1 : IntKind.i64.wrap ((r : Int) - (x.n : Int)) = (r : Int) - (x.n : Int) := by rw [IntKind.wrap_i64]; omega
        have HQ : Hid ((q : Int) - (flatR (pre ++ [x])).length = (r : Int) - (x.n : Int)) := Lib.hid (by rw [flatR_snoc, List.length_append, hc, hxl]; omega)
        have HL : Hid ((flatR (pre ++ [x])).length ≤ q) := Lib.hid (by rw [flatR_snoc, List.length_append, hc, hxl]; omega)
        dsimp only [Rw.v]
        clear hLe hm hc hr hlies hfree
        gi_wp2
        have hbk := z0.set_ 0 (.int .i64 ((r : Int) - (x.n : Int)))
        refine ⟨three g0, ⟨rfl, ?_, z1.far (by show g0 + 1 ≠ g0; omega) _, z2.far (by show g0 + 1 + 1 ≠ g0; omega) _, HL.out, hbW.setCell (Nat.le_refl _) _⟩, HS.out _, fun k hk => ⟨.inl hk, by rw [size_set]; exact hok k hk⟩⟩
        rw [HQ.out]; exact hbk
    case done =>
      rintro D fq xs W3 hD hxs ⟨rfl, z0, z1, z2, hq, hbW⟩ hK
      rw [flatR_all hxs, hfl2] at hq
      obtain ⟨e1, e2⟩ := nth_no (L := L) (i := (q : Int)) (.inr (by omega))
      have k1 := z1.cell 0
      have k2 := z2.cell 0
      have f1 := z1.frozen 0
      have f2 := z2.frozen 0
      have hg12 : ¬ g0 + 1 = g0 + 1 + 1 := by omega
      have HE := Lib.hid (And.intro e1 e2)
      clear e1 e2 hq
      gi_wp2
      have q1 : Blk ((W3.setCell ⟨g0 + 1, 0, none⟩ (.int .u64 0)).setCell ⟨g0 + 1 + 1, 0, none⟩ (.bool false)) (g0 + 1) 36 #[.int .u64 0] := (z1.set_ 0 _).far (by show g0 + 1 ≠ g0 + 1 + 1; omega) _
      have q2 : Blk ((W3.setCell ⟨g0 + 1, 0, none⟩ (.int .u64 0)).setCell ⟨g0 + 1 + 1, 0, none⟩ (.bool false)) (g0 + 1 + 1) 4 #[.bool false] := (z2.far (by show g0 + 1 + 1 ≠ g0 + 1; omega) _).set_ 0 _
      have hK' : ((W3.setCell ⟨g0 + 1, 0, none⟩ (.int .u64 0)).setCell ⟨g0 + 1 + 1, 0, none⟩ (.bool false)).heap[D]? = some (.deferred (some [])) := ((KeepsOthers.setCell _ _ _).trans (KeepsOthers.setCell _ _ _)).same D _ hK rfl
      refine ⟨by simp, .inl ⟨_, _, rfl, run_takeDeferred hK', ?_⟩⟩
      refine ⟨_, results_cc rfl _ _ (g0 + 1) (g0 + 1 + 1) _ _ rfl rfl (load_u64 ((q1.put_other hK' rfl).cell 0)) (load_bool ((q2.put_other hK' rfl).cell 0)), ?_, ?_⟩
      · rw [HE.out.1, HE.out.2]
      · exact below_put1 ((hbW.setCell (by show g0 ≤ g0 + 1; omega) _).setCell (by show g0 ≤ g0 + 1 + 1; omega) _) (by omega) _
    case stop =>
      rintro D cc pre W3 hD hp ⟨rfl, z1, z2, hq, hbW⟩ hK
      have HE := Lib.hid (nth_yes hq)
      rw [HV.out] at HE
      clear hq
      gi_wp2
      refine ⟨by simp, .inl ⟨_, _, rfl, run_takeDeferred hK, ?_⟩⟩
      refine ⟨_, results_cc rfl _ _ (g0 + 1) (g0 + 1 + 1) _ _ rfl rfl (load_u64 ((z1.put_other hK rfl).cell 0)) (load_bool ((z2.put_other hK rfl).cell 0)), ?_, ?_⟩
      · rw [HE.out.1, HE.out.2]
      · exact below_put1 hbW (by omega) _
end

end Go.Proofs.Ytblpmnipapimcaa
