/-
  MERGED BY PROGRAM out of the texts ChAsk ChSearch ChLists ChPut.
-/
import Derived.Test.YtobbkhncnokpiaaGreatLCh

/-
  LAYER 14: WHAT Len AND Nth DO: contracts.
-/
set_option linter.unusedVariables false
set_option maxRecDepth 100000
set_option linter.unusedSimpArgs false
namespace Go.Proofs.YtobbkhncnokpiaaGreat
open Go.RowKit Go.Shelf
attribute [local go_sem] Oper.semAt_some

/-- A list of a file: what its places are. -/
structure ListAt (w : World) (base p : Nat) (S : Nat → Prop) (root : Int) (its : List It) (L : List Int) : Prop where
  ex : ∃ i k d f h m bv sv, IX w base S p i k d f h m bv sv ∧ AreB m.b ∧ m.b.length ≤ 1099511627776 ∧ (1 ≤ d ∧ d ≤ 256) ∧ (1 ≤ f ∧ f ≤ 256) ∧ IsU (m.word root) ∧ chainAt m d f 4 0 0 (m.word root) its
  lo : -9223372036854775808 ≤ root
  hi : root ≤ 9223372036854775807
  its_ : ∀ t ∈ its, t.is.length ≤ 140737488355328
  eq : L = placesA (its.map (·.is)).flatten
  most : L.length ≤ 1000000000 ∧ its.length ≤ 1000000000
theorem ListAt.keep {w w' : World} {base p : Nat} {S T : Nat → Prop} {root : Int} {its : List It} {L : List Int} (h : ListAt w base p S root its L) (hc : Chg T w w') (hT : ∀ j, S j → ¬ T j) : ListAt w' base p S root its L := by
  obtain ⟨⟨i, k, d, f, h', m, bv, sv, H, r⟩, r2, r3, r4, r5, r6⟩ := h
  exact ⟨⟨i, k, d, f, h', m, bv, sv, H.keep hc hT, r⟩, r2, r3, r4, r5, r6⟩
theorem ListAt.below {w w' : World} {base p : Nat} {S : Nat → Prop} {root : Int} {its : List It} {L : List Int} (h : ListAt w base p S root its L) (hb : Below w.heap.size w w') : ListAt w' base p S root its L := h.keep (Chg.of_below hb (Nat.le_refl _) (fun _ => False)) (fun _ _ e => e)
theorem ListAt.foot {w : World} {base p : Nat} {S : Nat → Prop} {root : Int} {its : List It} {L : List Int} (h : ListAt w base p S root its L) : ∀ j, S j → base ≤ j ∧ j < w.heap.size := by
  obtain ⟨⟨i, k, d, f, h', m, bv, sv, H, r⟩, -⟩ := h
  exact H.foot
/-- What rows' iterator tells of it. -/
theorem ListAt.rows {w : World} {base p : Nat} {S : Nat → Prop} {root : Int} {its : List It} {L : List Int} (h : ListAt w base p S root its L) (n : Nat) (hn : 2 ≤ n) (fp₀ : Nat → Prop) (g : Nat) (hS : ∀ j, S j → j < w.heap.size ∧ ¬ fp₀ j) (hB : RwAt w g p root) (hT : ¬ fp₀ g ∧ ¬ fp₀ (g + 1)) :
    ∃ rs : List (List Int), rs.flatten = L ∧ rs.length ≤ its.length ∧ SeqF Fence.wide n Tryz.prog 123 (rwB g) Rw.encs (TellsR rs) fp₀ (fun xs => xs.map (·.zs) = rs) (fun pre => ∃ rest, pre.map (·.zs) ++ rest = rs) rs.length w := by
  obtain ⟨⟨i, k, d, f, h', m, bv, sv, H, hb, hl, hd, hf, hU, hch⟩, r2, r3, r4, r5, r6⟩ := h
  refine ⟨rowsL (its.map (·.is)), by rw [rowsL_flatten, r5], by have := rowsL_length_le (its.map (·.is)); rwa [List.length_map] at this, ?_⟩
  exact rows_F n hn fp₀ g root its w H hb hl hd hf hS hB hT r2 r3 r4 hU hch

/-- How long what has come is. -/
theorem flatR_le {pre : List Rw} {zs : List Int} {rest : List (List Int)} {rs : List (List Int)} (h : pre.map (·.zs) ++ zs :: rest = rs) : (flatR pre).length + zs.length ≤ rs.flatten.length ∧ rs.flatten = flatR pre ++ (zs ++ rest.flatten) := by
  have e : rs.flatten = flatR pre ++ (zs ++ rest.flatten) := by rw [← h]; simp [flatR]
  refine ⟨?_, e⟩
  rw [e, List.length_append, List.length_append]; omega
theorem flatR_all {xs : List Rw} {rs : List (List Int)} (h : xs.map (·.zs) = rs) : flatR xs = rs.flatten := by rw [← h]; rfl

section
variable {base p : Nat} {S : Nat → Prop} {root : Int} {its : List It} {L : List Int}

set_option maxHeartbeats 4000000 in
theorem clen_any (w : World) (h : ListAt w base p S root its L) :
    Calls Tryz.prog 48 #[.pointer (some ⟨p, 0, none⟩), .int .i64 root] w fun e w' => e = .returned (.int .i64 (L.length : Nat)) ∧ Below w.heap.size w w' := by
  have RW := Lib.hid (fun w1 => crows_any p root w1)
  refine (callsIn_wide (n := 9)).1 ?_
  refine callsIn_of_wp_marks Tryz.func48 rfl trivial ?_ rfl
  simp only [Tryz.ntmps48, List.size_toArray, List.length_cons, List.length_nil, Nat.reduceAdd, Nat.reduceSub, Array.replicate_succ, Array.replicate_zero, List.push_toArray, List.append_toArray, List.nil_append, List.cons_append]
  gi_wp2_with (refine ⟨trivial, ?_⟩; gi_at_call 78; refine (callsIn_wide.2 (RW.out _)).mono ?_; rintro e w2 ⟨rfl, hb2, hfl⟩)
  have hb0 : Below w.heap.size w (w.alloc (.cells #[.int .i64 0] 3)) := boxed _ _
  have hsz : (w.alloc (.cells #[.int .i64 0] 3)).heap.size = w.heap.size + 1 := World.size_alloc _ _
  have x0 := Blk.new w 3 #[.int .i64 0]
  obtain ⟨gr, hgr⟩ : ∃ gr, w.heap.size + 1 = gr := ⟨_, rfl⟩
  rw [hsz, hgr] at hfl
  generalize w.alloc (.cells #[.int .i64 0] 3) = w0 at *
  have hs2 := hb2.size
  have hlo := hfl.lo
  have hbw2 : Below w.heap.size w w2 := hb0.trans (hb2.mono hb0.size)
  have h2 := h.below hbw2
  have y0 := x0.below hb2 (by omega)
  obtain ⟨rs, hfl2, hrl, hseq⟩ := h2.rows 8 (by omega) (fun k => k = w.heap.size) gr (fun j hj => ⟨(h2.foot j hj).2, fun e => by have := (h.foot j hj).2; omega⟩) hfl ⟨fun e => by omega, fun e => by omega⟩
  subst hgr
  refine wp_range_F (F := Fence.wide) (n := 9) rfl (by omega) (gf := 123) (lb := rwB (w.heap.size + 1)) rfl trivial (enters_of Tryz.func123 (by kernel_rfl) rfl) hseq
      (fun k hk => by subst hk; omega)
      (fun fp pre x => tellsR_own rs _ fp pre x) (fun _ => rfl)
      (fun fq pre W => fq = (fun k => k = w.heap.size) ∧ Blk W w.heap.size 3 #[.int .i64 ((flatR pre).length : Nat)] ∧ Below w.heap.size w W)
      (fun c pre W => False)
      (fun fq s A C row hs hg hr => ⟨hs.1, own_blkOf (β := Unit) (B := w2.heap.size) (by omega) (fun _ => #[.int .i64 ((flatR s).length : Nat)]) () A C row hs.2.1 hg hr, hs.2.2.grown hg (by have := hs.2.2.size; omega) (fun k e => by have := (hr k e).1; omega)⟩)
      (fun c => own_never)
      ⟨rfl, y0, hbw2⟩
      (fun x a' W' => a' = { tmps := #[.pointer (some ⟨p, 0, none⟩), .int .i64 root, undef, undef, .int .i64 0, .pointer (some ⟨w.heap.size, 0, none⟩), x.v, .pointer (some ⟨p, 0, none⟩), .int .i64 root, rwV (w.heap.size + 1), x.v, undef, undef, undef, undef, undef], defers := [] })
      (fun x a' _ A C row hs hg hr => hs)
      ?assign ?body ?done ?stop
  case assign =>
    intro l2 x W3 K hW hK
    dsimp only [Rw.encs]
    gi_wp2
    exact hK _ _ (Below.refl _ _) rfl
  case body =>
    rintro l2 fp fq pre x W3 ⟨rfl, yb3, hbW⟩ hok hsub hlen ⟨⟨rest, hrest⟩, hlies, hfree⟩ - a' rfl
    have y3 := yb3.cell 0
    have f3 := yb3.frozen 0
    have hxl := hlies.rd.len
    have hm := (flatR_le hrest).1
    have hmost := h.most
    rw [hfl2] at hm
    obtain ⟨q, hq⟩ : ∃ q, (flatR pre).length = q := ⟨_, rfl⟩
    rw [hq] at y3 hm
    have hqn : ((q : Int) + (x.n : Int)) = ((flatR (pre ++ [x])).length : Nat) := by rw [flatR_snoc, List.length_append, hq, hxl]; simp
    have HQ := Lib.hid hqn
    have hb1 : q + x.n ≤ 1000000000 := by omega
    have hw1 : IntKind.i64.wrap ((q : Int) + (x.n : Int)) = (q : Int) + (x.n : Int) := wrap_i64_of (by omega) (by omega)
    clear hqn hm hmost hq
    dsimp only [Rw.v]
    gi_wp2
    have hbk := yb3.set_ 0 (.int .i64 ((q : Int) + (x.n : Int)))
    refine ⟨fun k => k = w.heap.size, ⟨rfl, ?_, ?_⟩, ⟨?_, ?_⟩⟩
    · rw [← HQ.out]; exact hbk
    · exact hbW.setCell (Nat.le_refl _) _
    · exact chg_set1 (T := fun k => k = w.heap.size) (Chg.refl _ _) rfl _
    · intro k hk; subst hk; exact ⟨.inl rfl, by have := yb3.lt; rw [size_set]; omega⟩
  case done =>
    rintro D fq xs W3 hD hxs ⟨rfl, yb3, hbW⟩ hK
    have y3 := yb3.cell 0
    rw [flatR_all hxs, hfl2] at y3
    gi_wp2
    refine ⟨by simp, .inl ⟨_, _, rfl, run_takeDeferred hK, ?_⟩⟩
    refine ⟨_, results_tmp rfl _ _ _, rfl, below_put1 hbW (by omega) _⟩
  case stop =>
    rintro D cc pre W3 hD hp hf hK
    exact hf.elim

/-- What Nth tells. -/
def nthV (L : List Int) (i : Int) : Int := if 0 ≤ i ∧ i < L.length then L.getD i.toNat 0 else 0
def nthQ (L : List Int) (i : Int) : Bool := decide (0 ≤ i ∧ i < L.length)
theorem nth_yes {L : List Int} {q : Nat} (h : q < L.length) : nthV L q = L.getD q 0 ∧ nthQ L q = true := by
  unfold nthV nthQ
  rw [if_pos (by omega)]
  exact ⟨rfl, decide_eq_true (by omega)⟩
theorem nth_no {L : List Int} {i : Int} (h : i < 0 ∨ (L.length : Int) ≤ i) : nthV L i = 0 ∧ nthQ L i = false := by
  unfold nthV nthQ
  rw [if_neg (by omega)]
  exact ⟨rfl, decide_eq_false (by omega)⟩
def three (g : Nat) : Nat → Prop := fun k => k = g ∨ k = g + 1 ∨ k = g + 1 + 1
theorem load_u64 {w : World} {g : Nat} {x : Int} (h : w.cell? ⟨g, 0, none⟩ = some (.int .u64 x)) : (loadVar 33 ⟨g, 0, none⟩).run Tryz.prog w = .ok (.int .u64 x) w := by simp [go_sem, h]

set_option maxHeartbeats 4000000 in
theorem cnth_any (i : Int) (w : World) (h : ListAt w base p S root its L) (hi0 : -9223372036854775808 ≤ i) (hi1 : i ≤ 9223372036854775807) :
    Calls Tryz.prog 46 #[.pointer (some ⟨p, 0, none⟩), .int .i64 root, .int .i64 i] w fun e w' => e = .returned (.tuple #[.int .u64 (nthV L i), .bool (nthQ L i)]) ∧ Below w.heap.size w w' := by
  have RW := Lib.hid (fun w1 => crows_any p root w1)
  have hb0 : Below w.heap.size w (((w.alloc (.cells #[.int .i64 i] 3)).alloc (.cells #[.int .u64 0] 33)).alloc (.cells #[.bool false] 4)) := ((boxed w _).alloc (boxed w _).size _).alloc (by simp; omega) _
  have hsz : (((w.alloc (.cells #[.int .i64 i] 3)).alloc (.cells #[.int .u64 0] 33)).alloc (.cells #[.bool false] 4)).heap.size = w.heap.size + 3 := by simp
  have x0 := ((Blk.new w 3 #[.int .i64 i]).alloc (.cells #[.int .u64 0] 33)).alloc (.cells #[.bool false] 4)
  have x1 := (Blk.new (w.alloc (.cells #[.int .i64 i] 3)) 33 #[.int .u64 0]).alloc (.cells #[.bool false] 4)
  have x2 := Blk.new ((w.alloc (.cells #[.int .i64 i] 3)).alloc (.cells #[.int .u64 0] 33)) 4 #[.bool false]
  simp only [World.size_alloc] at x1 x2
  by_cases hneg : i < 0
  · obtain ⟨e1, e2⟩ := nth_no (L := L) (i := i) (.inl hneg)
    rw [e1, e2]
    have X := Lib.hid (And.intro hb0 (And.intro x1 x2))
    clear hb0 hsz x0 x1 x2 e1 e2
    go_enter Tryz.func46, Tryz.ntmps46
    go_wp2
    obtain ⟨hb0, x1, x2⟩ := X.out
    refine bodyPost_ret (results_cc rfl _ _ _ _ _ _ rfl rfl (load_u64 (x1.cell 0)) (load_bool (x2.cell 0))) rfl ⟨rfl, hb0⟩
  · obtain ⟨q, rfl⟩ : ∃ q : Nat, i = q := ⟨i.toNat, by omega⟩
    obtain ⟨v0, hv0⟩ : ∃ v0, L.getD q 0 = v0 := ⟨_, rfl⟩
    have HV := Lib.hid hv0
    clear hv0
    have HX := Lib.hid (And.intro hb0 (And.intro hsz (And.intro x0 (And.intro x1 x2))))
    clear hb0 hsz x0 x1 x2
    refine (callsIn_wide (n := 9)).1 ?_
    refine callsIn_of_wp_marks Tryz.func46 rfl trivial ?_ rfl
    simp only [Tryz.ntmps46, List.size_toArray, List.length_cons, List.length_nil, Nat.reduceAdd, Nat.reduceSub, Array.replicate_succ, Array.replicate_zero, List.push_toArray, List.append_toArray, List.nil_append, List.cons_append]
    gi_wp2_with (refine ⟨trivial, ?_⟩; gi_at_call 78; refine (callsIn_wide.2 (RW.out _)).mono ?_; rintro e w2 ⟨rfl, hb2, hfl⟩)
    obtain ⟨hb0, hsz, x0, x1, x2⟩ := HX.out
    rw [hsz] at hfl
    generalize ((w.alloc (.cells #[.int .i64 q] 3)).alloc (.cells #[.int .u64 0] 33)).alloc (.cells #[.bool false] 4) = w0 at *
    have hs2 := hb2.size
    have hlo := hfl.lo
    have hbw2 : Below w.heap.size w w2 := hb0.trans (hb2.mono hb0.size)
    have h2 := h.below hbw2
    have y0 := x0.below hb2 (by omega)
    have y1 := x1.below hb2 (by omega)
    have y2 := x2.below hb2 (by omega)
    obtain ⟨g0, hg0⟩ : ∃ g0, w.heap.size = g0 := ⟨_, rfl⟩
    have hF3' : ∀ k, three g0 k ↔ (k = g0 ∨ k = g0 + 1 ∨ k = g0 + 1 + 1) := fun k => Iff.rfl
    obtain ⟨rs, hfl2, hrl, hseq⟩ := h2.rows 8 (by omega) (three g0) (g0 + 3) (fun j hj => ⟨(h2.foot j hj).2, fun e => by have := (h.foot j hj).2; rw [hF3'] at e; omega⟩) (by rw [hg0] at hfl; exact hfl) ⟨fun e => by rw [hF3'] at e; omega, fun e => by rw [hF3'] at e; omega⟩
    rw [hg0] at y0 y1 y2 hlo hbw2 ⊢
    refine wp_range_F (F := Fence.wide) (n := 9) rfl (by omega) (gf := 123) (lb := rwB (g0 + 3)) rfl trivial (enters_of Tryz.func123 (by kernel_rfl) rfl) hseq
      (fun k hk => by rw [hF3'] at hk; omega)
      (fun fp pre x => tellsR_own rs _ fp pre x) (fun _ => rfl)
      (fun fq pre W => fq = three g0 ∧ Blk W g0 3 #[.int .i64 ((q : Int) - (flatR pre).length)] ∧ Blk W (g0 + 1) 33 #[.int .u64 0] ∧ Blk W (g0 + 1 + 1) 4 #[.bool false] ∧ (flatR pre).length ≤ q ∧ Below g0 w W)
      (fun c pre W => c = .ret ∧ Blk W (g0 + 1) 33 #[.int .u64 v0] ∧ Blk W (g0 + 1 + 1) 4 #[.bool true] ∧ q < L.length ∧ Below g0 w W)
      (fun fq s A C row hs hg hr => ⟨hs.1, own_blkOf (β := Unit) (B := w2.heap.size) (by omega) (fun _ => #[.int .i64 ((q : Int) - (flatR s).length)]) () A C row hs.2.1 hg hr, own_blkOf (β := Unit) (B := w2.heap.size) (by omega) (fun _ => #[.int .u64 0]) () A C row hs.2.2.1 hg hr,
        own_blkOf (β := Unit) (B := w2.heap.size) (by omega) (fun _ => #[.bool false]) () A C row hs.2.2.2.1 hg hr, hs.2.2.2.2.1, hs.2.2.2.2.2.grown hg (by have := hs.2.2.2.2.2.size; omega) (fun k e => by have := (hr k e).1; omega)⟩)
      (fun c s A C row hs hg hr => ⟨hs.1, own_blkOf (β := Unit) (B := w2.heap.size) (by omega) (fun _ => #[.int .u64 v0]) () A C row hs.2.1 hg hr,
        own_blkOf (β := Unit) (B := w2.heap.size) (by omega) (fun _ => #[.bool true]) () A C row hs.2.2.1 hg hr, hs.2.2.2.1, hs.2.2.2.2.grown hg (by have := hs.2.2.2.2.size; omega) (fun k e => by have := (hr k e).1; omega)⟩)
      ⟨rfl, by simpa [flatR] using y0, y1, y2, by simp [flatR], hbw2⟩
      (fun x a' W' => a' = { tmps := #[.pointer (some ⟨p, 0, none⟩), .int .i64 root, .int .i64 q, undef, undef, .pointer (some ⟨g0, 0, none⟩), .pointer (some ⟨g0 + 1, 0, none⟩), .pointer (some ⟨g0 + 1 + 1, 0, none⟩), x.v, .int .i64 q, .bool false, .pointer (some ⟨p, 0, none⟩), .int .i64 root, rwV (g0 + 3), x.v, undef, undef, undef, undef, undef, undef, undef, undef, undef, undef, undef, undef], defers := [] })
      (fun x a' _ A C row hs hg hr => hs)
      ?assign ?body ?done ?stop
    case assign =>
      intro l2 x W3 K hW hK
      dsimp only [Rw.encs]
      gi_wp2
      exact hK _ _ (Below.refl _ _) rfl
    case body =>
      rintro l2 fp fq pre x W3 ⟨rfl, z0, z1, z2, hq, hbW⟩ hok hsub hlen ⟨⟨rest, hrest⟩, hlies, hfree⟩ - a' rfl
      have k0 := z0.cell 0
      have k1 := z1.cell 0
      have k2 := z2.cell 0
      have f0 := z0.frozen 0
      have f1 := z1.frozen 0
      have f2 := z2.frozen 0
      have hxl := hlies.rd.len
      obtain ⟨hm, hLe⟩ := flatR_le hrest
      rw [hfl2] at hm hLe
      have hmost := h.most
      obtain ⟨c, hc⟩ : ∃ c, (flatR pre).length = c := ⟨_, rfl⟩
      rw [hc] at k0 z0 hq hm
      have hg01 : ¬ g0 = g0 + 1 := by omega
      have hg02 : ¬ g0 = g0 + 1 + 1 := by omega
      have hg12 : ¬ g0 + 1 = g0 + 1 + 1 := by omega
      obtain ⟨r, hr⟩ : ∃ r : Nat, (q : Int) - (c : Int) = r := ⟨q - c, by omega⟩
      rw [hr] at k0 z0
      have HS := Lib.hid (show ∀ v : Value, Chg (three g0) W3 (W3.setCell ⟨g0, 0, none⟩ v) from fun v => chg_set1 (T := three g0) (Chg.refl _ _) (.inl rfl) _)
      by_cases hlt : r < x.n
      · obtain ⟨bl, off, hA, _, h1c⟩ := hlies.rd.plain (by omega)
        have q1 := h1c r hlt
        have hval : x.zs.getD r 0 = L.getD q 0 := by
          rw [hLe, List.getD_eq_getElem?_getD, List.getD_eq_getElem?_getD, List.getElem?_append_right (by omega), hc, List.getElem?_append_left (by omega), show q - c = r by omega]
        rw [hval, HV.out] at q1
        have hql : q < L.length := by omega
        have i1 : (r : Int) < (x.n : Int) := by omega
        have HE : Hid (∀ v u : Value, Chg (three g0) W3 ((W3.setCell ⟨g0 + 1, 0, none⟩ v).setCell ⟨g0 + 1 + 1, 0, none⟩ u) ∧ Blk ((W3.setCell ⟨g0 + 1, 0, none⟩ v).setCell ⟨g0 + 1 + 1, 0, none⟩ u) (g0 + 1) 33 #[v] ∧ Blk ((W3.setCell ⟨g0 + 1, 0, none⟩ v).setCell ⟨g0 + 1 + 1, 0, none⟩ u) (g0 + 1 + 1) 4 #[u] ∧ Below g0 w ((W3.setCell ⟨g0 + 1, 0, none⟩ v).setCell ⟨g0 + 1 + 1, 0, none⟩ u)) := Lib.hid (fun v u =>
          ⟨chg_set1 (T := three g0) (chg_set1 (Chg.refl _ _) (.inr (.inl rfl)) _) (.inr (.inr rfl)) _, (z1.set_ 0 v).far (by show g0 + 1 ≠ g0 + 1 + 1; omega) _, (z2.far (by show g0 + 1 + 1 ≠ g0 + 1; omega) _).set_ 0 u, (hbW.setCell (by show g0 ≤ g0 + 1; omega) _).setCell (by show g0 ≤ g0 + 1 + 1; omega) _⟩)
        dsimp only [Rw.v]
        rw [hA]
        clear h1c hval hLe hm hc hr hlies hfree
        gi_wp2
        obtain ⟨e1, e2, e3, e4⟩ := HE.out (.int .u64 v0) (.bool true)
        first | exact ⟨e1, rfl, e2, e3, hql, e4⟩ | exact ⟨e1, rfl, e2, e3, e4⟩
      · have i1 : ¬ (r : Int) < (x.n : Int) := by omega
        have hw1 : IntKind.i64.wrap ((r : Int) - (x.n : Int)) = (r : Int) - (x.n : Int) := by rw [IntKind.wrap_i64]; omega
        have HQ : Hid ((q : Int) - (flatR (pre ++ [x])).length = (r : Int) - (x.n : Int)) := Lib.hid (by rw [flatR_snoc, List.length_append, hc, hxl]; omega)
        have HL : Hid ((flatR (pre ++ [x])).length ≤ q) := Lib.hid (by rw [flatR_snoc, List.length_append, hc, hxl]; omega)
        dsimp only [Rw.v]
        clear hLe hm hc hr hlies hfree
        gi_wp2
        have hbk := z0.set_ 0 (.int .i64 ((r : Int) - (x.n : Int)))
        refine ⟨three g0, ⟨rfl, ?_, z1.far (by show g0 + 1 ≠ g0; omega) _, z2.far (by show g0 + 1 + 1 ≠ g0; omega) _, HL.out, hbW.setCell (Nat.le_refl _) _⟩, HS.out _, fun k hk => ⟨.inl hk, by rw [size_set]; exact hok k hk⟩⟩
        rw [HQ.out]; exact hbk
    case done =>
      rintro D fq xs W3 hD hxs ⟨rfl, z0, z1, z2, hq, hbW⟩ hK
      rw [flatR_all hxs, hfl2] at hq
      obtain ⟨e1, e2⟩ := nth_no (L := L) (i := (q : Int)) (.inr (by omega))
      have k1 := z1.cell 0
      have k2 := z2.cell 0
      have f1 := z1.frozen 0
      have f2 := z2.frozen 0
      have hg12 : ¬ g0 + 1 = g0 + 1 + 1 := by omega
      have HE := Lib.hid (And.intro e1 e2)
      clear e1 e2 hq
      gi_wp2
      have q1 : Blk ((W3.setCell ⟨g0 + 1, 0, none⟩ (.int .u64 0)).setCell ⟨g0 + 1 + 1, 0, none⟩ (.bool false)) (g0 + 1) 33 #[.int .u64 0] := (z1.set_ 0 _).far (by show g0 + 1 ≠ g0 + 1 + 1; omega) _
      have q2 : Blk ((W3.setCell ⟨g0 + 1, 0, none⟩ (.int .u64 0)).setCell ⟨g0 + 1 + 1, 0, none⟩ (.bool false)) (g0 + 1 + 1) 4 #[.bool false] := (z2.far (by show g0 + 1 + 1 ≠ g0 + 1; omega) _).set_ 0 _
      have hK' : ((W3.setCell ⟨g0 + 1, 0, none⟩ (.int .u64 0)).setCell ⟨g0 + 1 + 1, 0, none⟩ (.bool false)).heap[D]? = some (.deferred (some [])) := ((KeepsOthers.setCell _ _ _).trans (KeepsOthers.setCell _ _ _)).same D _ hK rfl
      refine ⟨by simp, .inl ⟨_, _, rfl, run_takeDeferred hK', ?_⟩⟩
      refine ⟨_, results_cc rfl _ _ (g0 + 1) (g0 + 1 + 1) _ _ rfl rfl (load_u64 ((q1.put_other hK' rfl).cell 0)) (load_bool ((q2.put_other hK' rfl).cell 0)), ?_, ?_⟩
      · rw [HE.out.1, HE.out.2]
      · exact below_put1 ((hbW.setCell (by show g0 ≤ g0 + 1; omega) _).setCell (by show g0 ≤ g0 + 1 + 1; omega) _) (by omega) _
    case stop =>
      rintro D cc pre W3 hD hp ⟨rfl, z1, z2, hq, hbW⟩ hK
      have HE := Lib.hid (nth_yes hq)
      rw [HV.out] at HE
      clear hq
      gi_wp2
      refine ⟨by simp, .inl ⟨_, _, rfl, run_takeDeferred hK, ?_⟩⟩
      refine ⟨_, results_cc rfl _ _ (g0 + 1) (g0 + 1 + 1) _ _ rfl rfl (load_u64 ((z1.put_other hK rfl).cell 0)) (load_bool ((z2.put_other hK rfl).cell 0)), ?_, ?_⟩
      · rw [HE.out.1, HE.out.2]
      · exact below_put1 hbW (by omega) _
end

end Go.Proofs.YtobbkhncnokpiaaGreat

/-
  LAYER 14: sort.Search, AND WHAT Search DOES: contracts.
-/
set_option linter.unusedVariables false
set_option maxRecDepth 100000
set_option linter.unusedSimpArgs false
namespace Go.Proofs.YtobbkhncnokpiaaGreat
open Go.RowKit Go.Shelf
attribute [local go_sem] Oper.semAt_some

set_option maxHeartbeats 4000000 in
/-- sort.Search, of a question that is answered with no ahead of a place, and with yes from there on. -/
theorem ssearch_any (cl : Nat) (lb : Array Value) (n c : Nat) (w : World) (hn : n ≤ 1000000000) (hc : c ≤ n) (eg : ∀ args w, (callFunc cl args).run Tryz.prog w = .ok (.enter cl args) w)
    (HC : ∀ (i d : Nat), i < n → Calls Tryz.prog cl (#[.int .i64 i] ++ lb) (w.drewN d) fun e w' => e = .returned (.bool (decide (c ≤ i))) ∧ ∃ k, w' = (w.drewN d).drewN k) :
    Calls Tryz.prog 83 #[.int .i64 n, .func (.func cl) #[] lb] w fun e w' => e = .returned (.int .i64 c) ∧ ∃ k, w' = w.drewN k := by
  have HH := Lib.hid HC
  clear HC
  go_enter Tryz.func83, Tryz.ntmps83
  go_wp2
  go_loopw [5, 6] (fun s5 s6 wr => ∃ i j d : Nat, s5 = .int .i64 i ∧ s6 = .int .i64 j ∧ wr = w.drewN d ∧ i ≤ c ∧ c ≤ j ∧ j ≤ n) (fun s5 s6 _ => (intOf s6).toNat - (intOf s5).toNat)
  case atStart => exact ⟨0, n, 0, rfl, rfl, rfl, Nat.zero_le _, hc, Nat.le_refl _⟩
  case round =>
    obtain ⟨i, j, d, rfl, rfl, rfl, hi, hj, hjn⟩ := hrel
    by_cases hlt : i < j
    · have i1 : (i : Int) < (j : Int) := by omega
      obtain ⟨h, hh⟩ : ∃ h : Nat, ((i : Int) + j) / 2 = h := ⟨(i + j) / 2, by omega⟩
      have hh2 : i ≤ h ∧ h < j := by omega
      have HC := Lib.hid (HH.out h d (by omega))
      by_cases hch : c ≤ h
      · rw [decide_eq_true hch] at HC
        go_wp2
        refine HC.out.mono ?_
        rintro e w' ⟨rfl, k, rfl⟩
        go_wp2
        go_roundw
        case rel => exact ⟨i, h, d + k, rfl, rfl, by first | rfl | exact World.drewN_drewN _ _ _, hi, hch, by omega⟩
        case measure => simp [intOf]; omega
      · rw [decide_eq_false hch] at HC
        have hn2 : h + 1 ≤ n := by omega
        go_wp2
        refine HC.out.mono ?_
        rintro e w' ⟨rfl, k, rfl⟩
        go_wp2
        go_roundw
        case rel => exact ⟨h + 1, j, d + k, by go_num, rfl, by first | rfl | exact World.drewN_drewN _ _ _, by omega, hj, hjn⟩
        case measure => simp [intOf]; omega
    · have e : i = c := by omega
      go_wp2
      go_ret
      exact ⟨congrArg (fun z : Nat => Ending.returned (.int .i64 z)) e, _, rfl⟩

/-- Where a question is answered with yes at first. -/
def firstY (q : Int → Bool) (L : List Int) : Nat := (L.takeWhile fun x => !q x).length
/-- Behind a yes all is yes. -/
def MonoY (q : Int → Bool) (L : List Int) : Prop := ∀ i j, i ≤ j → j < L.length → q (L.getD i 0) = true → q (L.getD j 0) = true
theorem firstY_le (q : Int → Bool) (L : List Int) : firstY q L ≤ L.length := (List.takeWhile_prefix _).length_le
theorem firstY_no {q : Int → Bool} : ∀ {L : List Int} {i : Nat}, i < firstY q L → q (L.getD i 0) = false
  | [], i, h => by simp [firstY] at h
  | x :: L, i, h => by
    by_cases hx : q x = true
    · simp [firstY, hx] at h
    · have hx' : q x = false := by simpa using hx
      have e : firstY q (x :: L) = firstY q L + 1 := by simp [firstY, hx']
      cases i with
      | zero => simpa using hx'
      | succ i => simpa using firstY_no (L := L) (i := i) (by omega)
theorem firstY_at {q : Int → Bool} : ∀ {L : List Int}, firstY q L < L.length → q (L.getD (firstY q L) 0) = true
  | [], h => by simp at h
  | x :: L, h => by
    by_cases hx : q x = true
    · have e : firstY q (x :: L) = 0 := by simp [firstY, hx]
      rw [e]; simpa using hx
    · have hx' : q x = false := by simpa using hx
      have e : firstY q (x :: L) = firstY q L + 1 := by simp [firstY, hx']
      rw [e] at h ⊢
      simpa using firstY_at (L := L) (by simpa using h)
theorem firstY_iff {q : Int → Bool} {L : List Int} (hm : MonoY q L) {i : Nat} (hi : i < L.length) : q (L.getD i 0) = decide (firstY q L ≤ i) := by
  by_cases h : firstY q L ≤ i
  · rw [decide_eq_true h]
    exact hm _ i h hi (firstY_at (by omega))
  · rw [decide_eq_false h]
    exact firstY_no (by omega)
theorem firstY_append (q : Int → Bool) (a b : List Int) : firstY q (a ++ b) = if firstY q a = a.length then a.length + firstY q b else firstY q a := by
  unfold firstY
  rw [List.takeWhile_append]
  split
  · rw [List.length_append]
  · rfl
theorem MonoY.mid {q : Int → Bool} {a b c L : List Int} (hm : MonoY q L) (e : L = a ++ (b ++ c)) : MonoY q b := by
  intro i j hij hj hq
  have h1 : ∀ k, k < b.length → L.getD (a.length + k) 0 = b.getD k 0 := fun k hk => by
    rw [e, List.getD_eq_getElem?_getD, List.getD_eq_getElem?_getD, List.getElem?_append_right (by omega), List.getElem?_append_left (by omega)]
    congr 2; omega
  have h2 := hm (a.length + i) (a.length + j) (by omega) (by rw [e]; simp; omega)
  rw [h1 i (by omega), h1 j hj] at h2
  exact h2 hq

/-- A question as Search is handed one. -/
def Asks (q : Int → Bool) (cl : Nat) (lb : Array Value) (w : World) : Prop :=
  ∀ (W : World) (x : Int), Below w.heap.size w W → Calls Tryz.prog cl (#[.int .u64 x] ++ lb) W fun e w' => e = .returned (.bool (q x)) ∧ ∃ k, w' = W.drewN k

set_option maxHeartbeats 4000000 in
theorem sask_any {B : Nat} (q : Int → Bool) (cl : Nat) (lb : Array Value) (gi gl : Nat) (A : Option Addr) (n c i : Nat) (zs : List Int) (W : World) (hQ : ∀ d x, Calls Tryz.prog cl (#[.int .u64 x] ++ lb) (W.drewN d) fun e w' => e = .returned (.bool (q x)) ∧ ∃ k, w' = (W.drewN d).drewN k)
    (h1 : W.cell? ⟨gi, 0, none⟩ = some (.func (.func cl) #[] lb)) (h2 : W.cell? ⟨gl, 0, none⟩ = some (.slice A n c)) (hr : Reads W B 1 A n (cellsOf .u64 zs)) (hi : i < n) (hn : n ≤ 1000000000) (eg : ∀ args w, (callFunc cl args).run Tryz.prog w = .ok (.enter cl args) w) :
    Calls Tryz.prog 84 #[.int .i64 i, .pointer (some ⟨gi, 0, none⟩), .pointer (some ⟨gl, 0, none⟩)] W fun e w' => e = .returned (.bool (q (zs.getD i 0))) ∧ ∃ k, w' = W.drewN k := by
  obtain ⟨bl, off, rfl, _, h1c⟩ := hr.plain (by omega)
  have q1 := h1c i hi
  obtain ⟨z, hz⟩ : ∃ z, zs.getD i 0 = z := ⟨_, rfl⟩
  rw [hz] at q1 ⊢
  have i1 : (i : Int) < (n : Int) := by omega
  have HQ := Lib.hid (fun d => hQ d z)
  clear h1c hr hQ hz
  go_enter Tryz.func84, Tryz.ntmps84
  go_wp2
  go_quiet ((refine (HQ.out _).mono ?_; rintro e w1 ⟨rfl, k, rfl⟩; exact ⟨rfl, _, World.drewN_drewN _ _ _⟩))
  go_wp2
  go_ret
  exact ⟨rfl, _, rfl⟩

section
variable {base p : Nat} {S : Nat → Prop} {root : Int} {its : List It} {L : List Int}

set_option maxHeartbeats 4000000 in
theorem csearch_any (q : Int → Bool) (cl : Nat) (lb : Array Value) (w : World) (h : ListAt w base p S root its L) (hm : MonoY q L) (hQ : Asks q cl lb w) (eg : ∀ args w, (callFunc cl args).run Tryz.prog w = .ok (.enter cl args) w) :
    Calls Tryz.prog 52 #[.pointer (some ⟨p, 0, none⟩), .int .i64 root, .func (.func cl) #[] lb] w fun e w' => e = .returned (.int .i64 (firstY q L : Nat)) ∧ Below w.heap.size w w' := by
  have RW := Lib.hid (fun w1 => crows_any p root w1)
  have hb0 : Below w.heap.size w ((w.alloc (.cells #[.func (.func cl) #[] lb] 94)).alloc (.cells #[.int .i64 0] 3)) := (boxed w _).alloc (boxed w _).size _
  have hsz : ((w.alloc (.cells #[.func (.func cl) #[] lb] 94)).alloc (.cells #[.int .i64 0] 3)).heap.size = w.heap.size + 2 := by simp
  have x0 := (Blk.new w 94 #[.func (.func cl) #[] lb]).alloc (.cells #[.int .i64 0] 3)
  have x1 := Blk.new (w.alloc (.cells #[.func (.func cl) #[] lb] 94)) 3 #[.int .i64 0]
  simp only [World.size_alloc] at x1
  have HX := Lib.hid (And.intro hb0 (And.intro hsz (And.intro x0 x1)))
  clear hb0 hsz x0 x1
  refine (callsIn_wide (n := 9)).1 ?_
  refine callsIn_of_wp_marks Tryz.func52 rfl trivial ?_ rfl
  simp only [Tryz.ntmps52, List.size_toArray, List.length_cons, List.length_nil, Nat.reduceAdd, Nat.reduceSub, Array.replicate_succ, Array.replicate_zero, List.push_toArray, List.append_toArray, List.nil_append, List.cons_append]
  gi_wp2_with (refine ⟨trivial, ?_⟩; gi_at_call 78; refine (callsIn_wide.2 (RW.out _)).mono ?_; rintro e w2 ⟨rfl, hb2, hfl⟩)
  obtain ⟨hb0, hsz, x0, x1⟩ := HX.out
  rw [hsz] at hfl
  generalize (w.alloc (.cells #[.func (.func cl) #[] lb] 94)).alloc (.cells #[.int .i64 0] 3) = w0 at *
  have hs2 := hb2.size
  have hlo := hfl.lo
  have hbw2 : Below w.heap.size w w2 := hb0.trans (hb2.mono hb0.size)
  have h2 := h.below hbw2
  have y0 := x0.below hb2 (by omega)
  have y1 := x1.below hb2 (by omega)
  have hft := h.foot
  obtain ⟨g0, hg0⟩ : ∃ g0, w.heap.size = g0 := ⟨_, rfl⟩
  rw [hg0] at y0 y1 hlo hbw2 hfl hft ⊢
  obtain ⟨rs, hfl2, hrl, hseq⟩ := h2.rows 8 (by omega) (fun k => k = g0 + 1) (g0 + 2) (fun j hj => ⟨(h2.foot j hj).2, fun e => by have := (hft j hj).2; omega⟩) hfl ⟨fun e => by omega, fun e => by omega⟩
  refine wp_range_F (F := Fence.wide) (n := 9) rfl (by omega) (gf := 123) (lb := rwB (g0 + 2)) rfl trivial (enters_of Tryz.func123 (by kernel_rfl) rfl) hseq
    (fun k hk => by subst hk; omega)
    (fun fp pre x => tellsR_own rs _ fp pre x) (fun _ => rfl)
    (fun fq pre W => fq = (fun k => k = g0 + 1) ∧ Blk W g0 94 #[.func (.func cl) #[] lb] ∧ Blk W (g0 + 1) 3 #[.int .i64 ((flatR pre).length : Nat)] ∧ firstY q (flatR pre) = (flatR pre).length ∧ Below g0 w W)
    (fun c pre W => c = .exit 0 ∧ Blk W (g0 + 1) 3 #[.int .i64 (firstY q L : Nat)] ∧ Below g0 w W)
    (fun fq s A C row hs hg hr => ⟨hs.1, own_blkOf (β := Unit) (B := w2.heap.size) (by omega) (fun _ => #[.func (.func cl) #[] lb]) () A C row hs.2.1 hg hr, own_blkOf (β := Unit) (B := w2.heap.size) (by omega) (fun _ => #[.int .i64 ((flatR s).length : Nat)]) () A C row hs.2.2.1 hg hr,
      hs.2.2.2.1, hs.2.2.2.2.grown hg (by have := hs.2.2.2.2.size; omega) (fun k e => by have := (hr k e).1; omega)⟩)
    (fun c s A C row hs hg hr => ⟨hs.1, own_blkOf (β := Unit) (B := w2.heap.size) (by omega) (fun _ => #[.int .i64 (firstY q L : Nat)]) () A C row hs.2.1 hg hr, hs.2.2.grown hg (by have := hs.2.2.size; omega) (fun k e => by have := (hr k e).1; omega)⟩)
    ⟨rfl, y0, y1, rfl, hbw2⟩
    (fun x a' W' => ∃ b, Blk W' b 42 #[x.v] ∧ w2.heap.size ≤ b ∧ a' = { tmps := #[.pointer (some ⟨p, 0, none⟩), .int .i64 root, .func (.func cl) #[] lb, undef, undef, .pointer (some ⟨g0, 0, none⟩), .int .i64 0, .pointer (some ⟨g0 + 1, 0, none⟩), .pointer (some ⟨b, 0, none⟩), undef, .pointer (some ⟨p, 0, none⟩), .int .i64 root, rwV (g0 + 2), x.v, undef, undef, undef, undef, undef, undef, undef, undef, undef, undef, undef, undef], defers := [] })
    (fun x a' _ A C row hs hg hr => by
      obtain ⟨b, h1, h2, h3⟩ := hs
      exact ⟨b, h1.grown hg (fun e => by obtain ⟨-, o, ho, hc⟩ := hr b e.symm; rw [show A.heap[b]? = _ from h1] at ho; cases ho; cases hc), h2, h3⟩)
    ?assign ?body ?done ?stop
  case assign =>
    intro l2 x W3 K hW hK
    dsimp only [Rw.encs, Rw.v]
    gi_wp2
    exact hK _ _ (boxed _ _) ⟨W3.heap.size, Blk.new _ _ _, by omega, rfl⟩
  case body =>
    rintro l2 fp fq pre x W3 ⟨rfl, z0, z1, hfy, hbW⟩ hok hsub hlen ⟨⟨rest, hrest⟩, hlies, hfree⟩ - a' ⟨b, hbx, hbn, rfl⟩
    have k0 := z0.cell 0
    have k1 := z1.cell 0
    have f1 := z1.frozen 0
    have kb := hbx.cell 0
    have hxl := hlies.rd.len
    obtain ⟨hml, hLe⟩ := flatR_le hrest
    rw [hfl2] at hml hLe
    have hmost := h.most
    have hfz := firstY_le q x.zs
    have hmz : MonoY q x.zs := MonoY.mid hm hLe
    have HCC : ∀ (i d : Nat), i < x.n → Calls Tryz.prog 84 (#[.int .i64 i] ++ #[.pointer (some ⟨g0, 0, none⟩), .pointer (some ⟨b, 0, none⟩)]) (W3.drewN d) fun e w' => e = .returned (.bool (decide (firstY q x.zs ≤ i))) ∧ ∃ k, w' = (W3.drewN d).drewN k := fun i d hi => by
      rw [← firstY_iff hmz (by omega)]
      exact sask_any (B := W3.heap.size) q cl lb g0 b x.A x.n x.c i x.zs (W3.drewN d) (fun d2 z => hQ _ z (by rw [hg0]; exact below_drewn (below_drewn hbW d) d2)) k0 kb hlies.rd hi (by omega) eg
    have SS := Lib.hid (ssearch_any 84 #[.pointer (some ⟨g0, 0, none⟩), .pointer (some ⟨b, 0, none⟩)] x.n (firstY q x.zs) W3 (by omega) (by omega) (enters_of Tryz.func84 (by kernel_rfl) rfl) HCC)
    obtain ⟨c, hc⟩ : ∃ c, firstY q x.zs = c := ⟨_, rfl⟩
    obtain ⟨r, hr⟩ : ∃ r, (flatR pre).length = r := ⟨_, rfl⟩
    rw [hc] at SS hfz
    rw [hr] at k1 hml hfy
    have hw1 : IntKind.i64.wrap ((r : Int) + (c : Int)) = (r : Int) + (c : Int) := wrap_i64_of (by omega) (by omega)
    have HB := Lib.hid (show ∀ (kk : Nat) (v : Value), Chg (fun k => k = g0 + 1) W3 ((W3.drewN kk).setCell ⟨g0 + 1, 0, none⟩ v) ∧ Blk ((W3.drewN kk).setCell ⟨g0 + 1, 0, none⟩ v) g0 94 #[.func (.func cl) #[] lb] ∧ Blk ((W3.drewN kk).setCell ⟨g0 + 1, 0, none⟩ v) (g0 + 1) 3 #[v] ∧ Below g0 w ((W3.drewN kk).setCell ⟨g0 + 1, 0, none⟩ v) from fun kk v => by
      have hd : Below W3.heap.size W3 (W3.drewN kk) := below_drewn (Below.refl _ _) kk
      have c1 : Chg (fun k => k = g0 + 1) W3 (W3.drewN kk) := Chg.of_below hd (Nat.le_refl _) _
      exact ⟨chg_set1 (T := fun k => k = g0 + 1) c1 rfl _, (z0.below hd z0.lt).far (by show g0 ≠ g0 + 1; omega) _, (z1.below hd z1.lt).set_ 0 v, (below_drewn hbW kk).setCell (by show g0 ≤ g0 + 1; omega) _⟩)
    dsimp only [Rw.v] at *
    by_cases hlt : c < x.n
    · have hLY : firstY q L = r + c := by
        rw [hLe, firstY_append, if_pos (by rw [hr]; exact hfy), hr, firstY_append, if_neg (by omega), hc]
      have HL : Hid ((r : Int) + (c : Int) = (firstY q L : Nat)) := Lib.hid (by rw [hLY]; simp)
      have i1 : (c : Int) < (x.n : Int) := by omega
      clear hLY hLe hc hr hrest hfree hlies HCC hmz hm
      gi_wp2_with (refine ⟨trivial, ?_⟩; gi_at_call 83; refine (CallsIn.inRound l2 (callsIn_wide.2 SS.out)).mono ?_; rintro e w5 ⟨rfl, kk, rfl⟩)
      obtain ⟨e1, e2, e3, e4⟩ := HB.out kk (.int .i64 ((r : Int) + (c : Int)))
      refine ⟨e1, rfl, ?_, e4⟩
      rw [← HL.out]; exact e3
    · have hcn : c = x.n := by omega
      have HF : Hid (firstY q (flatR (pre ++ [x])) = (flatR (pre ++ [x])).length ∧ (r : Int) + (c : Int) = ((flatR (pre ++ [x])).length : Nat)) := Lib.hid (by
        rw [flatR_snoc, List.length_append, firstY_append, if_pos (by rw [hr]; exact hfy), hr, hc]
        exact ⟨by omega, by rw [← hxl] at hcn; rw [hcn]; simp⟩)
      have i1 : ¬ (c : Int) < (x.n : Int) := by omega
      clear hcn hLe hc hr hrest hfree hlies HCC hmz hm
      gi_wp2_with (refine ⟨trivial, ?_⟩; gi_at_call 83; refine (CallsIn.inRound l2 (callsIn_wide.2 SS.out)).mono ?_; rintro e w5 ⟨rfl, kk, rfl⟩)
      obtain ⟨e1, e2, e3, e4⟩ := HB.out kk (.int .i64 ((r : Int) + (c : Int)))
      refine ⟨fun k => k = g0 + 1, ⟨rfl, e2, ?_, HF.out.1, e4⟩, e1, fun k hk => ⟨.inl hk, Nat.lt_of_lt_of_le (hok k hk) e1.size⟩⟩
      rw [← HF.out.2]; exact e3
  case done =>
    rintro D fq xs W3 hD hxs ⟨rfl, z0, z1, hfy, hbW⟩ hK
    have k1 := z1.cell 0
    rw [flatR_all hxs, hfl2] at k1 hfy
    have HE := Lib.hid hfy
    clear hfy
    gi_wp2
    refine ⟨by simp, .inl ⟨_, _, rfl, run_takeDeferred hK, ?_⟩⟩
    refine ⟨_, results_tmp rfl _ _ _, ?_, below_put1 hbW (by omega) _⟩
    rw [HE.out]; rfl
  case stop =>
    rintro D cc pre W3 hD hp ⟨rfl, z1, hbW⟩ hK
    have k1 := z1.cell 0
    gi_wp2
    refine ⟨by simp, .inl ⟨_, _, rfl, run_takeDeferred hK, ?_⟩⟩
    exact ⟨_, results_tmp rfl _ _ _, rfl, below_put1 hbW (by omega) _⟩
end

end Go.Proofs.YtobbkhncnokpiaaGreat

/-
  LAYER 14: WHAT sizes AND all OF THE STATEMENTS DO.
-/
set_option linter.unusedVariables false
set_option maxRecDepth 100000
set_option linter.unusedSimpArgs false
namespace Go.Proofs.YtobbkhncnokpiaaGreat
open Go.RowKit Go.Shelf
attribute [local go_sem] Oper.semAt_some

/-- What Arrays' iterator is, and tells. -/
theorem arrays_at {w : World} {base p : Nat} {S : Nat → Prop} {root : Int} {its : List It} {L : List Int} (h : ListAt w base p S root its L) (n : Nat) (hn : 1 ≤ n) (fp₀ : Nat → Prop) (hS : ∀ j, S j → ¬ fp₀ j) (hfp : ∀ j, fp₀ j → j < w.heap.size) :
    Calls Tryz.prog 105 #[.pointer (some ⟨p, 0, none⟩), .int .i64 root] w fun e w' => e = .returned (flV w.heap.size) ∧ Below w.heap.size w w' ∧
      SeqF Fence.wide n Tryz.prog 151 #[.pointer (some ⟨w.heap.size + 3, 0, none⟩), .pointer (some ⟨w.heap.size + 2, 0, none⟩), .pointer (some ⟨w.heap.size + 1, 0, none⟩), .pointer (some ⟨w.heap.size, 0, none⟩)] (Ob.encs 4) (TellsF its) fp₀ (fun xs => xs.map (·.t) = its) (fun pre => ∃ rest, pre.map (·.t) ++ rest = its) its.length w' := by
  obtain ⟨⟨i, k, d, f, h', m, bv, sv, H, hb, hl, hd, hf, hU, hch⟩, r2, r3, r4, r5, r6⟩ := h
  refine (carrays_any root w H hb r2 r3).mono ?_
  rintro e w' ⟨rfl, hbl, hfl⟩
  have hs := hbl.size
  have hlo := hfl.lo
  refine ⟨rfl, hbl, ?_⟩
  have hnf : ∀ j, w.heap.size ≤ j → ¬ fp₀ j := fun j hj e => by have := hfp j e; omega
  exact follow_F n hn fp₀ (w.heap.size + 3) (w.heap.size + 2) (w.heap.size + 1) w.heap.size 4 0 (m.word root) its w' (H.below hbl) hb hl hd hf (fun j hj => ⟨by have := (H.foot j hj).2; omega, hS j hj⟩) (by omega) ⟨hnf _ (by omega), hnf _ (by omega), hnf _ (by omega), hnf _ (by omega)⟩ hfl.cw hfl.ck hfl.cp hfl.cm (by decide) hU hch
/-- What All's iterator is, and tells. -/
theorem all_at {w : World} {base p : Nat} {S : Nat → Prop} {root : Int} {its : List It} {L : List Int} (h : ListAt w base p S root its L) (n : Nat) (hn : 3 ≤ n) (fp₀ : Nat → Prop) (hS : ∀ j, S j → ¬ fp₀ j) (hfp : ∀ j, fp₀ j → j < w.heap.size) :
    Calls Tryz.prog 47 #[.pointer (some ⟨p, 0, none⟩), .int .i64 root] w fun e w' => e = .returned (alV w.heap.size) ∧ Below w.heap.size w w' ∧
      SeqF Fence.wide n Tryz.prog 79 (rwB w.heap.size) placeE (TellsP L) fp₀ (IsL L) (PreL L) L.length w' := by
  obtain ⟨⟨i, k, d, f, h', m, bv, sv, H, hb, hl, hd, hf, hU, hch⟩, r2, r3, r4, r5, r6⟩ := h
  refine (call_any p root w).mono ?_
  rintro e w' ⟨rfl, hbl, hfl⟩
  have hs := hbl.size
  have hlo := hfl.lo
  refine ⟨rfl, hbl, ?_⟩
  have hnf : ∀ j, w.heap.size ≤ j → ¬ fp₀ j := fun j hj e => by have := hfp j e; omega
  exact all_F n hn fp₀ w.heap.size root its w' (H.below hbl) hb hl hd hf (fun j hj => ⟨by have := (H.foot j hj).2; omega, hS j hj⟩) hfl ⟨hnf _ (by omega), hnf _ (by omega)⟩ r2 r3 r4 hU hch L r5

theorem intInfo14 : (Tryz.prog.info? 3).map (fun i => (i.zero, i.size, i.bytes)) = some (some (.int .i64 0), 1, 8) := by kernel_rfl

section
variable {base p : Nat} {S : Nat → Prop} {root : Int} {its : List It} {L : List Int}

end

end Go.Proofs.YtobbkhncnokpiaaGreat

/-
  LAYER 14: WHAT isFree, refusal AND put DO: an array is put behind all objects, and the word that is to lead there is set; or there is no room, and nothing is as it was not.
-/
set_option linter.unusedVariables false
set_option maxRecDepth 100000
set_option linter.unusedSimpArgs false
namespace Go.Proofs.YtobbkhncnokpiaaGreat
open Go.RowKit Go.Shelf

section
variable {base p : Nat} {S : Nat → Prop} {i k d f h : Int} {m : IM} {bv sv : Value}

set_option maxHeartbeats 2000000 in
theorem isfree_any (q : Nat) (w : World) (H : IX w base S p i k d f h m bv sv) (hb : AreB m.b) (hd : 1 ≤ d ∧ d ≤ 256) (hf : 1 ≤ f ∧ f ≤ 256) (hl : m.b.length ≤ 1099511627776) (hq : q + 8 ≤ m.b.length) (h8 : q % 8 = 0) (hz : m.word q = 0) :
    Calls Tryz.prog 142 #[.pointer (some ⟨p, 0, none⟩), .int .i64 q] w fun e w' => ∃ b, e = .returned (.bool b) ∧ Below w.heap.size w w' := by
  have HH := Lib.hid (ihead_any w H)
  have HO := Lib.hid (fun w1 => hobjects_any i k d f h w1 (by omega) (by omega) (by omega) (by omega))
  have HT : Hid (∀ w1, Below w.heap.size w w1 → Calls Tryz.prog 42 #[.pointer (some ⟨p, 0, none⟩)] w1 fun e w' => e = .returned (.int .i64 m.b.length) ∧ w1 = w') := Lib.hid (fun w1 hb1 => by
    have H1 := H.below hb1
    obtain ⟨A, c, rfl, -, -, -⟩ := H1.reads
    exact itail_any p _ A c w1 (nine H1.blk).1.2.2.2.2.2.2.1)
  have HW := Lib.hid (fun w1 (hb1 : Below w.heap.size w w1) => iword_any q w1 (H.below hb1) hb (by omega) (by omega))
  rw [hz] at HW
  obtain ⟨n, hn⟩ : ∃ n, m.b.length = n := ⟨_, rfl⟩
  rw [hn] at hq hl HT
  have h8' : (q : Int) % 8 = 0 := by omega
  have hr : Int.tmod (q : Int) 8 = 0 := by rw [Int.tmod_eq_emod_of_nonneg (by omega)]; exact h8'
  clear H hz hn h8 h8'
  by_cases hlo : 256 + 8 * (d + f) ≤ (q : Int)
  · have hw1 : IntKind.i64.wrap ((n : Int) - 8) = (n : Int) - 8 := by rw [IntKind.wrap_i64]; omega
    have h5 : (q : Int) ≤ (n : Int) - 8 := by omega
    go_enter Tryz.func142, Tryz.ntmps142
    go_wp2_with (first
      | (go_at_call 77; refine HH.out.mono ?_; rintro e w1 ⟨rfl, hb1⟩)
      | (go_at_call 58; refine (HO.out _).mono ?_; rintro e w2 ⟨rfl, hb2⟩; have hb12 := hb1.trans (hb2.mono hb1.size))
      | (go_at_call 42; refine (HT.out _ hb12).mono ?_; rintro e w3 ⟨rfl, rfl⟩)
      | (go_at_call 54; refine (HW.out _ hb12).mono ?_; rintro e w3 ⟨rfl, rfl⟩))
    go_ret
    exact ⟨_, rfl, hb12⟩
  · go_enter Tryz.func142, Tryz.ntmps142
    go_wp2_with (first
      | (go_at_call 77; refine HH.out.mono ?_; rintro e w1 ⟨rfl, hb1⟩)
      | (go_at_call 58; refine (HO.out _).mono ?_; rintro e w2 ⟨rfl, hb2⟩; have hb12 := hb1.trans (hb2.mono hb1.size)))
    go_ret
    first | exact ⟨_, rfl, hb12⟩ | exact ⟨.inl rfl, hb12⟩

theorem put8_length {m : IM} {q : Nat} {n : Int} (hq : q + 8 ≤ m.b.length) : (m.put8 q n).b.length = m.b.length := by
  show (splice m.b q (bts n 8)).length = _
  rw [splice_len _ _ _ (by rw [bts8_length]; exact hq)]

set_option maxHeartbeats 4000000 in
theorem refusal_any {L : Nat} (q : Nat) (A1 : Option Addr) (n1 c1 : Nat) (ws : List Int) (A3 : Option Addr) (n3 c3 : Nat) (is : List Int) (w : World) (ho : ObR w L A1 n1 c1 ws none 0 0 [] A3 n3 c3 is) (hL : L ≤ w.heap.size) (hr : rightN 4 n1 0 n3 = true)
    (H : IX w base S p i k d f h m bv sv) (hb : AreB m.b) (hl : m.b.length ≤ 1099511627776) (hlim : m.lim ≤ 1048576) (hq : q + 8 ≤ m.b.length) (h8 : q % 8 = 0) (h0 : 192 ≤ q) (hz : m.word q = 0) (u : Int) (hu : u = if m.lim < m.b.length + (encO 4 ws [] is).length then 21 else 0) :
    Calls Tryz.prog 143 #[.pointer (some ⟨p, 0, none⟩), .int .i64 q, obV 4 A1 n1 c1 none 0 0 A3 n3 c3] w fun e w' => e = .returned (.int .i64 u) ∧ Below w.heap.size w w' := by
  have CP := Lib.hid (fun w1 (hb1 : Below w.heap.size w w1) => icopy_any w1 (H.below hb1) hl)
  have TL : Hid (∀ (w2 : World) (S2 : Nat → Prop) (p2 : Nat) (bv2 sv2 : Value), IX w2 base S2 p2 i k d f h ⟨m.b, m.b, [], m.lim⟩ bv2 sv2 → Calls Tryz.prog 42 #[.pointer (some ⟨p2, 0, none⟩)] w2 fun e w' => e = .returned (.int .i64 m.b.length) ∧ w2 = w') := Lib.hid (fun w2 S2 p2 bv2 sv2 H2 => by
    obtain ⟨A, c, rfl, -, -, -⟩ := H2.reads
    exact itail_any p2 _ A c w2 (nine H2.blk).1.2.2.2.2.2.2.1)
  have ST := Lib.hid (fun (w2 : World) (S2 : Nat → Prop) (p2 : Nat) (bv2 sv2 : Value) (H2 : IX w2 base S2 p2 i k d f h ⟨m.b, m.b, [], m.lim⟩ bv2 sv2) => iset_yes q (m.b.length : Nat) w2 H2 hb hq h8 h0 hl (by simp) hl hz)
  have hlen : (IM.put8 ⟨m.b, m.b, [], m.lim⟩ q (m.b.length : Nat)).b.length = m.b.length := put8_length (m := ⟨m.b, m.b, [], m.lim⟩) hq
  have PT : Hid (∀ (w3 : World) (S2 : Nat → Prop) (p2 : Nat) (bv2 sv2 : Value), IX w3 base S2 p2 i k d f h (IM.put8 ⟨m.b, m.b, [], m.lim⟩ q (m.b.length : Nat)) bv2 sv2 → Below w.heap.size w w3 →
      Calls Tryz.prog 67 #[.pointer (some ⟨p2, 0, none⟩), obV 4 A1 n1 c1 none 0 0 A3 n3 c3] w3 fun e w' => ∃ x, e = .returned (.tuple #[.int .i64 x, .int .i64 u]) ∧ Chg S2 w3 w') := Lib.hid (fun w3 S2 p2 bv2 sv2 H3 hb3 => by
    by_cases hx : m.lim < m.b.length + (encO 4 ws [] is).length
    · rw [if_pos hx] at hu
      subst hu
      refine (iput_full 4 A1 n1 c1 ws none 0 0 [] A3 n3 c3 is w3 (ho.below hb3 hL) hr H3 (by rw [hlen]; exact hl) hlim (by rw [hlen]; exact hx)).mono ?_
      rintro e w' ⟨rfl, hb⟩
      exact ⟨_, rfl, Chg.of_below hb (Nat.le_refl _) _⟩
    · rw [if_neg hx] at hu
      subst hu
      refine (iput_yes 4 A1 n1 c1 ws none 0 0 [] A3 n3 c3 is w3 (ho.below hb3 hL) (Nat.le_trans hL hb3.size) hr H3 (by rw [hlen]; exact hl) hlim (by rw [hlen]; show m.b.length + _ ≤ m.lim; omega)).mono ?_
      rintro e w' ⟨rfl, hc, -⟩
      exact ⟨_, rfl, hc⟩)
  have hu2 : u = 0 ∨ u = 21 := by rw [hu]; split <;> simp
  have hbx : Below w.heap.size w (w.alloc (.cells #[.int .i64 4, .slice A1 n1 c1, .slice none 0 0, .slice A3 n3 c3] 44)) := boxed _ _
  have zb : Blk (w.alloc (.cells #[.int .i64 4, .slice A1 n1 c1, .slice none 0 0, .slice A3 n3 c3] 44)) w.heap.size 44 #[.int .i64 4, .slice A1 n1 c1, .slice none 0 0, .slice A3 n3 c3] := Blk.new _ _ _
  have HB := Lib.hid (And.intro hbx zb)
  have HN := Lib.hid (show ∀ (w1 w2 w3 : World) (S2 : Nat → Prop), Below w.heap.size w w1 → (∀ j, S2 j → w1.heap.size ≤ j) → Below w1.heap.size w1 w2 → Chg S2 w2 w3 → Below w1.heap.size w1 w3 from fun w1 w2 w3 S2 h1 hS h2 hc => h2.trans (hc.below h2.size (fun j _ hj => hS j hj)))
  obtain ⟨n, hn⟩ : ∃ n, m.b.length = n := ⟨_, rfl⟩
  rw [hn] at TL ST PT hl
  have hwu : IntKind.u64.wrap (n : Int) = (n : Int) := wrap_u64_of (by omega) (by omega)
  clear H hb hl hu hbx zb hlen hz hn ho hr hq h8 h0 hlim
  go_enter Tryz.func143, Tryz.ntmps143
  dsimp only [obV]
  go_wp2_with (first
    | (go_at_call 165; refine (CP.out _ HB.out.1).mono ?_; rintro e w2 ⟨p2, bv2, sv2, rfl, hb2, H2⟩)
    | (go_at_call 42; refine (TL.out _ _ _ _ _ H2).mono ?_; rintro e w3 ⟨rfl, rfl⟩)
    | (go_at_call 104; refine (ST.out _ _ _ _ _ H2).mono ?_; rintro e w3 ⟨rfl, hc3, bv3, sv3, H3⟩; have hb3 := HN.out _ _ _ _ HB.out.1 (fun j hj => hj.1) hb2 hc3; have hw3 := HB.out.1.trans (hb3.mono HB.out.1.size); have zz := HB.out.2.below hb3 HB.out.2.lt; have z0 := zz.cell 0; have z1 := zz.cell 1; have z2 := zz.cell 2; have z3 := zz.cell 3)
    | (go_at_call 67; refine (PT.out _ _ _ _ _ H3 hw3).mono ?_; rintro e w4 ⟨x4, rfl, hc4⟩))
  all_goals
    have hE : Below w.heap.size w w4 := hw3.trans (hc4.below hw3.size (fun j _ hj => by
      rcases hj with hj | hj
      · have := hj.1; have := HB.out.1.size; omega
      · have := hb2.size; have := HB.out.1.size; omega))
    rcases hu2 with rfl | rfl
    all_goals first
      | (refine bodyPost_ret (results_tmp rfl _ _ _) rfl ?_; exact ⟨rfl, hE⟩)
      | (exfalso; simp_all; done)
      | (exfalso; omega)

set_option maxHeartbeats 4000000 in
theorem cput_any {L : Nat} (q : Nat) (A1 : Option Addr) (n1 c1 : Nat) (ws : List Int) (A3 : Option Addr) (n3 c3 : Nat) (is : List Int) (w : World) (ho : ObR w L A1 n1 c1 ws none 0 0 [] A3 n3 c3 is) (hL : L ≤ w.heap.size) (hr : rightN 4 n1 0 n3 = true)
    (H : IX w base S p i k d f h m bv sv) (hb : AreB m.b) (hd : 1 ≤ d ∧ d ≤ 256) (hf : 1 ≤ f ∧ f ≤ 256) (hl : m.b.length ≤ 1099511627776) (hlim : m.lim ≤ 1048576) (hN : m.words.length ≤ 1000000000) (hwl : m.was.length ≤ 1099511627776) (hq : q + 8 ≤ m.b.length) (h8 : q % 8 = 0) (h0 : 192 ≤ q) (hz : m.word q = 0) :
    Calls Tryz.prog 109 #[.pointer (some ⟨p, 0, none⟩), .int .i64 q, obV 4 A1 n1 c1 none 0 0 A3 n3 c3] w fun e w' =>
      (m.lim < m.b.length + (encO 4 ws [] is).length ∧ e = .returned (.int .i64 21) ∧ Below w.heap.size w w') ∨
      (m.b.length + (encO 4 ws [] is).length ≤ m.lim ∧ e = .returned (.int .i64 0) ∧ IXT base S p i k d f h ((m.add (encO 4 ws [] is)).put8 q (m.b.length : Nat)) w w') := by
  have FR := Lib.hid (fun w1 (hb1 : Below w.heap.size w w1) => isfree_any q w1 (H.below hb1) hb hd hf hl hq h8 hz)
  have RF := Lib.hid (fun w1 (hb1 : Below w.heap.size w w1) => refusal_any (L := L) q A1 n1 c1 ws A3 n3 c3 is w1 (ho.below hb1 hL) (Nat.le_trans hL hb1.size) hr (H.below hb1) hb hl hlim hq h8 h0 hz)
  have hbx : Below w.heap.size w (w.alloc (.cells #[.int .i64 4, .slice A1 n1 c1, .slice none 0 0, .slice A3 n3 c3] 44)) := boxed _ _
  have zb : Blk (w.alloc (.cells #[.int .i64 4, .slice A1 n1 c1, .slice none 0 0, .slice A3 n3 c3] 44)) w.heap.size 44 #[.int .i64 4, .slice A1 n1 c1, .slice none 0 0, .slice A3 n3 c3] := Blk.new _ _ _
  have HB := Lib.hid (And.intro hbx zb)
  by_cases hx : m.lim < m.b.length + (encO 4 ws [] is).length
  · have PT := Lib.hid (fun w3 (hb3 : Below w.heap.size w w3) => iput_full 4 A1 n1 c1 ws none 0 0 [] A3 n3 c3 is w3 (ho.below hb3 hL) hr (H.below hb3) hl hlim hx)
    have HX := Lib.hid hx
    have RF2 := Lib.hid (fun w1 hb1 => RF.out w1 hb1 21 (by rw [if_pos hx]))
    clear H hb hl hbx zb hz ho hr hq h8 h0 hlim RF hN hwl hx
    go_enter Tryz.func109, Tryz.ntmps109
    dsimp only [obV]
    go_wp2_with (first
      | (go_at_call 142; refine (FR.out _ HB.out.1).mono ?_; rintro e w2 ⟨bb, rfl, hb2⟩; have hw2 := HB.out.1.trans (hb2.mono HB.out.1.size); have zz := HB.out.2.below hb2 HB.out.2.lt; have z0 := zz.cell 0; have z1 := zz.cell 1; have z2 := zz.cell 2; have z3 := zz.cell 3; cases bb)
      | (go_at_call 143; refine (RF2.out _ hw2).mono ?_; rintro e w3 ⟨rfl, hb3⟩)
      | (go_at_call 67; refine (PT.out _ hw2).mono ?_; rintro e w3 ⟨rfl, hb3⟩))
    all_goals
      refine bodyPost_ret (results_tmp rfl _ _ _) rfl ?_
      exact .inl ⟨HX.out, rfl, hw2.trans (hb3.mono hw2.size)⟩
  · have hx' : m.b.length + (encO 4 ws [] is).length ≤ m.lim := by omega
    have PT := Lib.hid (fun w3 (hb3 : Below w.heap.size w w3) => iput_yes 4 A1 n1 c1 ws none 0 0 [] A3 n3 c3 is w3 (ho.below hb3 hL) (Nat.le_trans hL hb3.size) hr (H.below hb3) hl hlim hx')
    have HX := Lib.hid hx'
    have RF2 := Lib.hid (fun w1 hb1 => RF.out w1 hb1 0 (by rw [if_neg hx]))
    have hq2 : q + 8 ≤ (m.add (encO 4 ws [] is)).b.length := by show _ ≤ (m.b ++ _).length; rw [List.length_append]; omega
    have hz2 : (m.add (encO 4 ws [] is)).word q = 0 := by
      show gnum (m.b ++ _) (q : Nat) 8 = 0
      rw [gnum_add hq]; exact hz
    have hl2 : (m.add (encO 4 ws [] is)).b.length ≤ 1099511627776 := by show (m.b ++ _).length ≤ _; rw [List.length_append]; omega
    have hbe : AreB (m.add (encO 4 ws [] is)).b := hb.append (encO_bytes AreB.nil)
    have ST := Lib.hid (fun (w3 : World) (S3 : Nat → Prop) (bv3 sv3 : Value) (H3 : IX w3 base S3 p i k d f h (m.add (encO 4 ws [] is)) bv3 sv3) => iset_yes q (m.b.length : Nat) w3 H3 hbe hq2 h8 h0 hl2 hN hwl hz2)
    have HF := Lib.hid (And.intro H.foot H.bas)
    obtain ⟨n, hn⟩ : ∃ n, m.b.length = n := ⟨_, rfl⟩
    rw [hn] at PT ST hl HX ⊢
    have hwu : IntKind.u64.wrap (n : Int) = (n : Int) := wrap_u64_of (by omega) (by omega)
    clear H hb hl hbx zb hz ho hr hq h8 h0 hlim RF hN hwl hx hx' hq2 hz2 hl2 hbe
    go_enter Tryz.func109, Tryz.ntmps109
    dsimp only [obV]
    go_wp2_with (first
      | (go_at_call 142; refine (FR.out _ HB.out.1).mono ?_; rintro e w2 ⟨bb, rfl, hb2⟩; have hw2 := HB.out.1.trans (hb2.mono HB.out.1.size); have zz := HB.out.2.below hb2 HB.out.2.lt; have z0 := zz.cell 0; have z1 := zz.cell 1; have z2 := zz.cell 2; have z3 := zz.cell 3; cases bb)
      | (go_at_call 143; refine (RF2.out _ hw2).mono ?_; rintro e w3 ⟨rfl, hb3⟩; have hw2 := hw2.trans (hb3.mono hw2.size); have zz := zz.below hb3 zz.lt; have z0 := zz.cell 0; have z1 := zz.cell 1; have z2 := zz.cell 2; have z3 := zz.cell 3)
      | (go_at_call 67; refine (PT.out _ hw2).mono ?_; rintro e w5 ⟨rfl, hc5, bv5, sv5, H5⟩)
      | (go_at_call 104; refine (ST.out _ _ _ _ H5).mono ?_; rintro e w6 ⟨rfl, hc6, bv6, sv6, H6⟩))
    all_goals
      refine bodyPost_ret (results_tmp rfl _ _ _) rfl ?_
      have hsz := hw2.size
      have t2 := (Chg.of_below hw2 (Nat.le_refl _) S).trans hc5 (fun _ _ h => h)
      have hsz5 := hc5.size
      have t3 := t2.trans hc6 (fun j hj e => e.elim id (fun e => by omega))
      refine .inr ⟨HX.out, rfl, IXT.of (w0 := w) t3 H6 (fun j hj => ?_) HF.out.1 HF.out.2⟩
      rcases hj with (hj | hj) | hj
      · exact .inl hj
      · right; omega
      · right; omega
end

end Go.Proofs.YtobbkhncnokpiaaGreat
