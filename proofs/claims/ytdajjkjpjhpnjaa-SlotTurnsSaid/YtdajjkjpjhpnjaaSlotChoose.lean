/-
  LAYER 11: WHICH SLOT COUNTS: decodeAt and Choose OF PACKAGE slot, and the document's Choose: contracts, for every input.
-/
import Derived.Test.YtdajjkjpjhpnjaaSlotDecR
set_option linter.unusedVariables false
set_option maxRecDepth 100000
set_option linter.unusedSimpArgs false
namespace Go.Proofs.Ytdajjkjpjhpnjaa
open Go.RowKit

/-- What decoding tells, in letters. -/
structure SlotIs (Z : List Int) (a b c d e f : Int) (i : Bool) : Prop where
  dec : decS Z = sV a b c d e f
  is_ : isS Z = i
  bd : 0 ≤ a ∧ a < 18446744073709551616
  yes : i = true → a = wordS Z 0 ∧ 0 < a
  no : i = false → a = 0
theorem slot_is {Z : List Int} (hz : AreB Z) : ∃ a b c d e f i, SlotIs Z a b c d e f i := by
  have b0 := wordS_bd hz 0
  by_cases h : isS Z = true
  · refine ⟨_, _, _, _, _, _, true, by unfold decS; rw [if_pos h], h, b0, fun _ => ⟨rfl, ?_⟩, fun h => by cases h⟩
    have h2 := h
    rw [isS_six] at h2
    simp [rightS] at h2
    have := h2.1.2.1.1
    omega
  · exact ⟨0, 0, 0, 0, 0, 0, false, by unfold decS; rw [if_neg h], by simpa using h, ⟨by omega, by omega⟩, fun h => by (cases h), fun _ => rfl⟩

/-- The slot that counts, and whether there is one. -/
def chV (zs : List Int) : Value := if pickS zs = 2 then decS (zs.drop 128) else decS (zs.drop 64)
def chB (zs : List Int) : Bool := decide (pickS zs ≠ 0)

theorem choose_code {zs : List Int} {a1 b1 c1 d1 e1 f1 a2 b2 c2 d2 e2 f2 : Int} {i1 i2 : Bool} (h1 : SlotIs (zs.drop 64) a1 b1 c1 d1 e1 f1 i1) (h2 : SlotIs (zs.drop 128) a2 b2 c2 d2 e2 f2 i2) :
    (a1 < a2 → chV zs = sV a2 b2 c2 d2 e2 f2 ∧ chB zs = i2) ∧ (¬ a1 < a2 → chV zs = sV a1 b1 c1 d1 e1 f1 ∧ chB zs = i1) := by
  have p1 := h1.bd
  have p2 := h2.bd
  refine ⟨fun h => ?_, fun h => ?_⟩
  · have hi2 : i2 = true := by
      cases i2
      · have := h2.no rfl; omega
      · rfl
    subst hi2
    have hp : pickS zs = 2 := by
      unfold pickS
      rw [h1.is_, h2.is_]
      cases i1
      · rfl
      · rw [← (h1.yes rfl).1, ← (h2.yes rfl).1, decide_eq_true h]; rfl
    unfold chV chB
    rw [hp, if_pos rfl, h2.dec]
    exact ⟨rfl, rfl⟩
  · have hp : pickS zs = if i1 then 1 else 0 := by
      unfold pickS
      rw [h1.is_, h2.is_]
      cases i2
      · rfl
      · have g2 := h2.yes rfl
        cases i1
        · have := h1.no rfl; omega
        · rw [← (h1.yes rfl).1, ← g2.1, decide_eq_false h]; rfl
    unfold chV chB
    rw [hp]
    cases i1
    · exact ⟨by rw [if_neg (by decide), h1.dec], rfl⟩
    · exact ⟨by rw [if_neg (by decide), h1.dec], rfl⟩

theorem choose_ref {zs : List Int} {a1 b1 c1 d1 e1 f1 a2 b2 c2 d2 e2 f2 : Int} {i1 i2 : Bool} (h1 : SlotIs (zs.drop 64) a1 b1 c1 d1 e1 f1 i1) (h2 : SlotIs (zs.drop 128) a2 b2 c2 d2 e2 f2 i2) :
    (i2 = true → (i1 = false ∨ a1 < a2) → chV zs = sV a2 b2 c2 d2 e2 f2 ∧ chB zs = true) ∧ (i2 = false ∨ (i1 = true ∧ ¬ a1 < a2) → chV zs = sV a1 b1 c1 d1 e1 f1 ∧ chB zs = i1) := by
  have p1 := h1.bd
  have p2 := h2.bd
  obtain ⟨g1, g2⟩ := choose_code h1 h2
  refine ⟨fun hi h => ?_, fun h => ?_⟩
  · have hlt : a1 < a2 := by
      rcases h with h | h
      · have := h1.no h; have := (h2.yes hi).2; omega
      · exact h
    have := g1 hlt
    rw [hi] at this
    exact this
  · have hlt : ¬ a1 < a2 := by
      rcases h with h | h
      · have := h2.no h; omega
      · exact h.2
    exact g2 hlt

theorem decAt_short (G : Nat) (A : Option Addr) (n c p : Nat) (w : World) (hn : n < p + 64) (hl : n ≤ c) (hcap : c ≤ 9223372036854775807) (hp : p ≤ 1000) :
    Calls Try.prog 33 #[.pointer (some ⟨G, 0, none⟩), .slice A n c, .int .i64 p] w fun en w' => en = .returned (.tuple #[sZ, .bool false]) ∧ Below w.heap.size w w' := by
  have HB0 := Lib.hid (boxed w (.cells sZC 27))
  have hnc : (n : Int) ≤ (c : Int) := by omega
  obtain ⟨q, hq⟩ : ∃ q, (if n < p then n else p) = q := ⟨_, rfl⟩
  have hqn : q ≤ n := by rw [← hq]; split <;> omega
  have hqi : (q : Int) ≤ (n : Int) := by omega
  have hq2 : (if n < p then (n : Int) else (p : Int)) = (q : Int) := by rw [← hq]; split <;> rfl
  have hqw : IntKind.i64.wrap (q : Int) = (q : Int) := by rw [IntKind.wrap_i64]; omega
  have HQ : Hid (n - q < 64) := by show _ < _; rw [← hq]; split <;> omega
  clear hn hp hq
  go_enter Try.func33, Try.ntmps33
  go_wp2_with (go_at_call 15; refine (sdec_short _ _ (n - q) _ _ HQ.out).mono ?_; rintro en w1 ⟨rfl, hb1⟩; have hb2 := HB0.out.trans (hb1.mono HB0.out.size); have BK : Blk w1 w.heap.size 27 sZC := (Blk.new w 27 sZC).below hb1 (by simp); obtain ⟨x0, x1, x2, x3, x4, x5⟩ := slAt_blk BK; have f0 := BK.frozen 0; have f1 := BK.frozen 1; have f2 := BK.frozen 2; have f3 := BK.frozen 3; have f4 := BK.frozen 4; have f5 := BK.frozen 5)
  all_goals
    refine bodyPost_ret (results_cell2 rfl _ _ w.heap.size 27 _ (0, 0) _ rfl (sl_store BK) Try.underlying27 rfl (by kernel_rfl)) rfl ?_
    exact ⟨rfl, sl_below hb2 (Nat.le_refl _)⟩

theorem decAt_long {B : Nat} (G : Nat) (A : Option Addr) (n c p : Nat) (zs : List Int) (w : World) (hr : Reads w B 1 A n (cellsOf .u8 zs)) (hB : B ≤ w.heap.size) (hz : AreB zs) (hl : n ≤ c) (hcap : c ≤ 9223372036854775807) (hp : p ≤ 1000) (hn : p + 64 ≤ n) (ht : IsTable w G) {a b c0 d e f : Int} {i : Bool} (hs : SlotIs (zs.drop p) a b c0 d e f i) :
    Calls Try.prog 33 #[.pointer (some ⟨G, 0, none⟩), .slice A n c, .int .i64 p] w fun en w' => en = .returned (.tuple #[sV a b c0 d e f, .bool i]) ∧ Below w.heap.size w w' := by
  have HB0 := Lib.hid (boxed w (.cells sZC 27))
  have hpn : p ≤ n := by omega
  have hpi : (p : Int) ≤ (n : Int) := by omega
  have hcp : ¬ c = p := by omega
  have hpw : IntKind.i64.wrap (p : Int) = (p : Int) := by rw [IntKind.wrap_i64]; omega
  obtain ⟨A0, hA0⟩ : ∃ A0, A.map (·.add p) = A0 := ⟨_, rfl⟩
  have hcut := hr.cut (k := p) (cap := c) hpn hl
  rw [Nat.mul_one, cellsOf_drop, if_neg hcp, hA0] at hcut
  have D := Lib.hid (fun wx (hx : Below w.heap.size w wx) => sdec_any (B := B) G A0 (n - p) (c - p) (zs.drop p) wx (hcut.keep (fun b hb => hx.cell (by omega))) (Nat.le_trans hB hx.size) (hz.drop p) (by omega) (by omega) (IsTable.below ht hx ht.lt))
  rw [hs.dec, hs.is_] at D
  clear hs hcut hr hz ht hB hn
  go_enter Try.func33, Try.ntmps33
  go_wp2_with (go_at_call 15; refine (D.out _ HB0.out).mono ?_; rintro en w1 ⟨rfl, hb1⟩; have hb2 := HB0.out.trans (hb1.mono HB0.out.size); have BK : Blk w1 w.heap.size 27 sZC := (Blk.new w 27 sZC).below hb1 (by simp); obtain ⟨x0, x1, x2, x3, x4, x5⟩ := slAt_blk BK; have f0 := BK.frozen 0; have f1 := BK.frozen 1; have f2 := BK.frozen 2; have f3 := BK.frozen 3; have f4 := BK.frozen 4; have f5 := BK.frozen 5)
  refine bodyPost_ret (results_cell2 rfl _ _ w.heap.size 27 _ (0, 0) _ rfl (sl_store BK) Try.underlying27 rfl (by kernel_rfl)) rfl ?_
  exact ⟨rfl, sl_below hb2 (Nat.le_refl _)⟩

theorem decAt_any {B : Nat} (G : Nat) (A : Option Addr) (n c p : Nat) (zs : List Int) (w : World) (hr : Reads w B 1 A n (cellsOf .u8 zs)) (hB : B ≤ w.heap.size) (hz : AreB zs) (hl : n ≤ c) (hcap : c ≤ 9223372036854775807) (hp : p ≤ 1000) (ht : IsTable w G) {a b c0 d e f : Int} {i : Bool} (hs : SlotIs (zs.drop p) a b c0 d e f i) :
    Calls Try.prog 33 #[.pointer (some ⟨G, 0, none⟩), .slice A n c, .int .i64 p] w fun en w' => en = .returned (.tuple #[sV a b c0 d e f, .bool i]) ∧ Below w.heap.size w w' := by
  by_cases hn : p + 64 ≤ n
  · exact decAt_long G A n c p zs w hr hB hz hl hcap hp hn ht hs
  · have h := isS_short (Z := zs.drop p) (by rw [List.length_drop, hr.len]; omega)
    have hd : decS (zs.drop p) = sZ := by unfold decS; rw [h]; rfl
    rw [← hs.dec, ← hs.is_, hd, h]
    exact decAt_short G A n c p w (by omega) hl hcap hp

theorem hslot_0 (w : World) : Calls Try.prog 28 #[.int .i64 0] w fun en w' => en = .returned (.int .i64 ((64 : Nat) : Int)) ∧ w = w' := hslot_any 0 w
theorem hslot_1 (w : World) : Calls Try.prog 28 #[.int .i64 1] w fun en w' => en = .returned (.int .i64 ((128 : Nat) : Int)) ∧ w = w' := hslot_any 1 w

set_option maxHeartbeats 2000000 in
theorem schoose_any {B : Nat} (G : Nat) (A : Option Addr) (n c : Nat) (zs : List Int) (w : World) (hr : Reads w B 1 A n (cellsOf .u8 zs)) (hB : B ≤ w.heap.size) (hz : AreB zs) (hl : n ≤ c) (hcap : c ≤ 9223372036854775807) (ht : IsTable w G) :
    Calls Try.prog 17 #[.pointer (some ⟨G, 0, none⟩), .slice A n c] w fun en w' => en = .returned (.tuple #[chV zs, .bool (chB zs)]) ∧ Below w.heap.size w w' := by
  obtain ⟨a1, b1, c1, d1, e1, f1, i1, S1⟩ := slot_is (hz.drop 64)
  obtain ⟨a2, b2, c2, d2, e2, f2, i2, S2⟩ := slot_is (hz.drop 128)
  have D := Lib.hid (fun wx (hx : Below w.heap.size w wx) (p : Nat) (hp : p ≤ 1000) (a b c0 d e f : Int) (i : Bool) (hs : SlotIs (zs.drop p) a b c0 d e f i) => decAt_any G A n c p zs wx (hr.keep (fun b hb => hx.cell (by omega))) (Nat.le_trans hB hx.size) hz hl hcap hp (IsTable.below ht hx ht.lt) hs)
  have C := choose_code S1 S2
  have HS1 := Lib.hid S1
  have HS2 := Lib.hid S2
  have HB0 := Lib.hid (boxed w (.cells sZC 27))
  have bd1 := S1.bd
  have bd2 := S2.bd
  have C1 := Lib.hid C.1
  have C2 := Lib.hid C.2
  generalize chV zs = cv at *
  generalize chB zs = cb at *
  have m1 : True := trivial
  have m2 : True := trivial
  clear S1 S2 hr hz ht hB C
  by_cases hlt : a1 < a2
  all_goals
    go_enter Try.func17, Try.ntmps17
    go_wp2_with (first
      | (go_at_call 28; clear m1; refine (hslot_0 _).mono ?_; rintro en w1 ⟨rfl, rfl⟩)
      | (go_at_call 28; refine (hslot_1 _).mono ?_; rintro en w1 ⟨rfl, rfl⟩)
      | (go_at_call 33; clear m2; refine (D.out _ HB0.out 64 (by omega) _ _ _ _ _ _ _ HS1.out).mono ?_; rintro en w2 ⟨rfl, hb2⟩; have hb3 := HB0.out.trans (hb2.mono HB0.out.size); have hb4 := hb3.alloc hb3.size (.cells (sC a1 b1 c1 d1 e1 f1) 27))
      | (go_at_call 33; refine (D.out _ hb4 128 (by omega) _ _ _ _ _ _ _ HS2.out).mono ?_; rintro en w3 ⟨rfl, hb5⟩; have hb6 := hb4.trans (hb5.mono hb4.size); have hb7 := hb6.alloc hb6.size (.cells (sC a2 b2 c2 d2 e2 f2) 27);
          have q1 : Below w2.heap.size w2 w3 := (boxed w2 _).trans (hb5.mono (boxed w2 (.cells (sC a1 b1 c1 d1 e1 f1) 27)).size);
          have BK : Blk w3 w.heap.size 27 sZC := ((Blk.new w 27 sZC).below hb2 (by simp)).below q1 (Nat.lt_of_lt_of_le (Blk.new w 27 sZC).lt hb2.size);
          have B1 : Blk w3 w2.heap.size 27 (sC a1 b1 c1 d1 e1 f1) := (Blk.new w2 27 _).below hb5 (by simp);
          have HA : Hid (Blk (w3.alloc (.cells (sC a2 b2 c2 d2 e2 f2) 27)) w.heap.size 27 sZC ∧ SlAt (w3.alloc (.cells (sC a2 b2 c2 d2 e2 f2) 27)) w2.heap.size a1 b1 c1 d1 e1 f1 ∧ SlAt (w3.alloc (.cells (sC a2 b2 c2 d2 e2 f2) 27)) w3.heap.size a2 b2 c2 d2 e2 f2) := ⟨BK.alloc _, slAt_blk (B1.alloc _), slAt_blk (Blk.new w3 _ _)⟩;
          have hw : ∃ w4, w4 = w3.alloc (.cells (sC a2 b2 c2 d2 e2 f2) 27) := ⟨_, rfl⟩;
          obtain ⟨x0, x1, x2, x3, x4, x5⟩ := slAt_blk HA.out.1; obtain ⟨y0, y1, y2, y3, y4, y5⟩ := HA.out.2.1;
          have f0 := HA.out.1.frozen 0; have f1 := HA.out.1.frozen 1; have f2 := HA.out.1.frozen 2; have f3 := HA.out.1.frozen 3; have f4 := HA.out.1.frozen 4; have f5 := HA.out.1.frozen 5))
    refine bodyPost_ret (results_cell2 rfl _ _ w.heap.size 27 _ (0, 0) _ rfl (sl_store HA.out.1) Try.underlying27 rfl (by kernel_rfl)) rfl ?_
    first
      | exact ⟨by rw [(C1.out hlt).1, (C1.out hlt).2]; rfl, sl_below hb7 (Nat.le_refl _)⟩
      | exact ⟨by rw [(C2.out hlt).1, (C2.out hlt).2]; rfl, sl_below hb7 (Nat.le_refl _)⟩

/-- The document's Choose, in one of its ways. -/
theorem rschoose_way {B : Nat} (A : Option Addr) (n c : Nat) (zs : List Int) (w : World) (hr : Reads w B 1 A n (cellsOf .u8 zs)) (hB : B ≤ w.heap.size) (hz : AreB zs) (hl : n ≤ c) (hcap : c ≤ 9223372036854775807) {a1 b1 c1 d1 e1 f1 a2 b2 c2 d2 e2 f2 : Int} {i1 i2 : Bool} (S1 : SlotIs (zs.drop 64) a1 b1 c1 d1 e1 f1 i1) (S2 : SlotIs (zs.drop 128) a2 b2 c2 d2 e2 f2 i2) :
    Calls Try.prog 18 #[.slice A n c] w fun en w' => en = .returned (.tuple #[chV zs, .bool (chB zs)]) ∧ Below w.heap.size w w' := by
  have D := Lib.hid (fun wx (hx : Below w.heap.size w wx) (p : Nat) (hp : p ≤ 1000) => rsdec_any A n c p zs wx (hr.keep (fun b hb => hx.cell (by omega))) (Nat.le_trans hB hx.size) hz hl hcap hp)
  have D1 := Lib.hid (fun wx hx => D.out wx hx 64 (by omega))
  have D2 := Lib.hid (fun wx hx => D.out wx hx 128 (by omega))
  rw [S1.dec, S1.is_] at D1
  rw [S2.dec, S2.is_] at D2
  obtain ⟨C1, C2⟩ := choose_ref S1 S2
  replace C1 := Lib.hid C1
  replace C2 := Lib.hid C2
  have HB0 := Lib.hid (boxed w (.cells sZC 24))
  have bd1 := S1.bd
  have bd2 := S2.bd
  generalize chV zs = cv at *
  generalize chB zs = cb at *
  have m1 : True := trivial
  clear S1 S2 hr hz hB D
  cases i2
  rotate_left
  · cases i1
    rotate_left
    · by_cases hlt : a1 < a2
      · have HF := Lib.hid (C1.out rfl (.inr hlt))
        go_enter Try.func18, Try.ntmps18
        go_wp2_with (first
          | (go_at_call 16; clear m1; refine (D1.out _ HB0.out).mono ?_; rintro en w2 ⟨rfl, hb2⟩; have hb3 := HB0.out.trans (hb2.mono HB0.out.size); have hb4 := hb3.alloc hb3.size (.cells (sC a1 b1 c1 d1 e1 f1) 24))
          | (go_at_call 16; refine (D2.out _ hb4).mono ?_; rintro en w3 ⟨rfl, hb5⟩; have hb6 := hb4.trans (hb5.mono hb4.size); have hb7 := hb6.alloc hb6.size (.cells (sC a2 b2 c2 d2 e2 f2) 24);
              have q1 : Below w2.heap.size w2 w3 := (boxed w2 _).trans (hb5.mono (boxed w2 (.cells (sC a1 b1 c1 d1 e1 f1) 24)).size);
              have BK : Blk w3 w.heap.size 24 sZC := ((Blk.new w 24 sZC).below hb2 (by simp)).below q1 (Nat.lt_of_lt_of_le (Blk.new w 24 sZC).lt hb2.size);
              have B1 : Blk w3 w2.heap.size 24 (sC a1 b1 c1 d1 e1 f1) := (Blk.new w2 24 _).below hb5 (by simp);
              have HA : Hid (Blk (w3.alloc (.cells (sC a2 b2 c2 d2 e2 f2) 24)) w.heap.size 24 sZC ∧ SlAt (w3.alloc (.cells (sC a2 b2 c2 d2 e2 f2) 24)) w2.heap.size a1 b1 c1 d1 e1 f1 ∧ SlAt (w3.alloc (.cells (sC a2 b2 c2 d2 e2 f2) 24)) w3.heap.size a2 b2 c2 d2 e2 f2) := ⟨BK.alloc _, slAt_blk (B1.alloc _), slAt_blk (Blk.new w3 _ _)⟩;
              obtain ⟨x0, x1, x2, x3, x4, x5⟩ := slAt_blk HA.out.1; obtain ⟨y0, y1, y2, y3, y4, y5⟩ := HA.out.2.1;
              have f0 := HA.out.1.frozen 0; have f1 := HA.out.1.frozen 1; have f2 := HA.out.1.frozen 2; have f3 := HA.out.1.frozen 3; have f4 := HA.out.1.frozen 4; have f5 := HA.out.1.frozen 5))
        refine bodyPost_ret (results_cell2 rfl _ _ w.heap.size 24 _ (0, 0) _ rfl (sl_store HA.out.1) Try.underlying24 rfl (by kernel_rfl)) rfl ?_
        exact ⟨by rw [HF.out.1, HF.out.2]; rfl, sl_below hb7 (Nat.le_refl _)⟩
      · have HF := Lib.hid (C2.out (.inr ⟨rfl, hlt⟩))
        go_enter Try.func18, Try.ntmps18
        go_wp2_with (first
          | (go_at_call 16; clear m1; refine (D1.out _ HB0.out).mono ?_; rintro en w2 ⟨rfl, hb2⟩; have hb3 := HB0.out.trans (hb2.mono HB0.out.size); have hb4 := hb3.alloc hb3.size (.cells (sC a1 b1 c1 d1 e1 f1) 24))
          | (go_at_call 16; refine (D2.out _ hb4).mono ?_; rintro en w3 ⟨rfl, hb5⟩; have hb6 := hb4.trans (hb5.mono hb4.size); have hb7 := hb6.alloc hb6.size (.cells (sC a2 b2 c2 d2 e2 f2) 24);
              have q1 : Below w2.heap.size w2 w3 := (boxed w2 _).trans (hb5.mono (boxed w2 (.cells (sC a1 b1 c1 d1 e1 f1) 24)).size);
              have BK : Blk w3 w.heap.size 24 sZC := ((Blk.new w 24 sZC).below hb2 (by simp)).below q1 (Nat.lt_of_lt_of_le (Blk.new w 24 sZC).lt hb2.size);
              have B1 : Blk w3 w2.heap.size 24 (sC a1 b1 c1 d1 e1 f1) := (Blk.new w2 24 _).below hb5 (by simp);
              have HA : Hid (Blk (w3.alloc (.cells (sC a2 b2 c2 d2 e2 f2) 24)) w.heap.size 24 sZC ∧ SlAt (w3.alloc (.cells (sC a2 b2 c2 d2 e2 f2) 24)) w2.heap.size a1 b1 c1 d1 e1 f1 ∧ SlAt (w3.alloc (.cells (sC a2 b2 c2 d2 e2 f2) 24)) w3.heap.size a2 b2 c2 d2 e2 f2) := ⟨BK.alloc _, slAt_blk (B1.alloc _), slAt_blk (Blk.new w3 _ _)⟩;
              obtain ⟨x0, x1, x2, x3, x4, x5⟩ := slAt_blk HA.out.1; obtain ⟨y0, y1, y2, y3, y4, y5⟩ := HA.out.2.1;
              have f0 := HA.out.1.frozen 0; have f1 := HA.out.1.frozen 1; have f2 := HA.out.1.frozen 2; have f3 := HA.out.1.frozen 3; have f4 := HA.out.1.frozen 4; have f5 := HA.out.1.frozen 5))
        refine bodyPost_ret (results_cell2 rfl _ _ w.heap.size 24 _ (0, 0) _ rfl (sl_store HA.out.1) Try.underlying24 rfl (by kernel_rfl)) rfl ?_
        exact ⟨by rw [HF.out.1, HF.out.2]; rfl, sl_below hb7 (Nat.le_refl _)⟩
    · have HF := Lib.hid (C1.out rfl (.inl rfl))
      go_enter Try.func18, Try.ntmps18
      go_wp2_with (first
        | (go_at_call 16; clear m1; refine (D1.out _ HB0.out).mono ?_; rintro en w2 ⟨rfl, hb2⟩; have hb3 := HB0.out.trans (hb2.mono HB0.out.size); have hb4 := hb3.alloc hb3.size (.cells (sC a1 b1 c1 d1 e1 f1) 24))
        | (go_at_call 16; refine (D2.out _ hb4).mono ?_; rintro en w3 ⟨rfl, hb5⟩; have hb6 := hb4.trans (hb5.mono hb4.size); have hb7 := hb6.alloc hb6.size (.cells (sC a2 b2 c2 d2 e2 f2) 24);
            have q1 : Below w2.heap.size w2 w3 := (boxed w2 _).trans (hb5.mono (boxed w2 (.cells (sC a1 b1 c1 d1 e1 f1) 24)).size);
            have BK : Blk w3 w.heap.size 24 sZC := ((Blk.new w 24 sZC).below hb2 (by simp)).below q1 (Nat.lt_of_lt_of_le (Blk.new w 24 sZC).lt hb2.size);
            have B1 : Blk w3 w2.heap.size 24 (sC a1 b1 c1 d1 e1 f1) := (Blk.new w2 24 _).below hb5 (by simp);
            have HA : Hid (Blk (w3.alloc (.cells (sC a2 b2 c2 d2 e2 f2) 24)) w.heap.size 24 sZC ∧ SlAt (w3.alloc (.cells (sC a2 b2 c2 d2 e2 f2) 24)) w2.heap.size a1 b1 c1 d1 e1 f1 ∧ SlAt (w3.alloc (.cells (sC a2 b2 c2 d2 e2 f2) 24)) w3.heap.size a2 b2 c2 d2 e2 f2) := ⟨BK.alloc _, slAt_blk (B1.alloc _), slAt_blk (Blk.new w3 _ _)⟩;
            obtain ⟨x0, x1, x2, x3, x4, x5⟩ := slAt_blk HA.out.1; obtain ⟨y0, y1, y2, y3, y4, y5⟩ := HA.out.2.1;
            have f0 := HA.out.1.frozen 0; have f1 := HA.out.1.frozen 1; have f2 := HA.out.1.frozen 2; have f3 := HA.out.1.frozen 3; have f4 := HA.out.1.frozen 4; have f5 := HA.out.1.frozen 5))
      refine bodyPost_ret (results_cell2 rfl _ _ w.heap.size 24 _ (0, 0) _ rfl (sl_store HA.out.1) Try.underlying24 rfl (by kernel_rfl)) rfl ?_
      exact ⟨by rw [HF.out.1, HF.out.2]; rfl, sl_below hb7 (Nat.le_refl _)⟩
  · have HF := Lib.hid (C2.out (.inl rfl))
    go_enter Try.func18, Try.ntmps18
    go_wp2_with (first
      | (go_at_call 16; clear m1; refine (D1.out _ HB0.out).mono ?_; rintro en w2 ⟨rfl, hb2⟩; have hb3 := HB0.out.trans (hb2.mono HB0.out.size); have hb4 := hb3.alloc hb3.size (.cells (sC a1 b1 c1 d1 e1 f1) 24))
      | (go_at_call 16; refine (D2.out _ hb4).mono ?_; rintro en w3 ⟨rfl, hb5⟩; have hb6 := hb4.trans (hb5.mono hb4.size); have hb7 := hb6.alloc hb6.size (.cells (sC a2 b2 c2 d2 e2 f2) 24);
          have q1 : Below w2.heap.size w2 w3 := (boxed w2 _).trans (hb5.mono (boxed w2 (.cells (sC a1 b1 c1 d1 e1 f1) 24)).size);
          have BK : Blk w3 w.heap.size 24 sZC := ((Blk.new w 24 sZC).below hb2 (by simp)).below q1 (Nat.lt_of_lt_of_le (Blk.new w 24 sZC).lt hb2.size);
          have B1 : Blk w3 w2.heap.size 24 (sC a1 b1 c1 d1 e1 f1) := (Blk.new w2 24 _).below hb5 (by simp);
          have HA : Hid (Blk (w3.alloc (.cells (sC a2 b2 c2 d2 e2 f2) 24)) w.heap.size 24 sZC ∧ SlAt (w3.alloc (.cells (sC a2 b2 c2 d2 e2 f2) 24)) w2.heap.size a1 b1 c1 d1 e1 f1 ∧ SlAt (w3.alloc (.cells (sC a2 b2 c2 d2 e2 f2) 24)) w3.heap.size a2 b2 c2 d2 e2 f2) := ⟨BK.alloc _, slAt_blk (B1.alloc _), slAt_blk (Blk.new w3 _ _)⟩;
          obtain ⟨x0, x1, x2, x3, x4, x5⟩ := slAt_blk HA.out.1; obtain ⟨y0, y1, y2, y3, y4, y5⟩ := HA.out.2.1;
          have f0 := HA.out.1.frozen 0; have f1 := HA.out.1.frozen 1; have f2 := HA.out.1.frozen 2; have f3 := HA.out.1.frozen 3; have f4 := HA.out.1.frozen 4; have f5 := HA.out.1.frozen 5))
    refine bodyPost_ret (results_cell2 rfl _ _ w.heap.size 24 _ (0, 0) _ rfl (sl_store HA.out.1) Try.underlying24 rfl (by kernel_rfl)) rfl ?_
    exact ⟨by rw [HF.out.1, HF.out.2]; rfl, sl_below hb7 (Nat.le_refl _)⟩

theorem rschoose_any {B : Nat} (A : Option Addr) (n c : Nat) (zs : List Int) (w : World) (hr : Reads w B 1 A n (cellsOf .u8 zs)) (hB : B ≤ w.heap.size) (hz : AreB zs) (hl : n ≤ c) (hcap : c ≤ 9223372036854775807) :
    Calls Try.prog 18 #[.slice A n c] w fun en w' => en = .returned (.tuple #[chV zs, .bool (chB zs)]) ∧ Below w.heap.size w w' := by
  obtain ⟨a1, b1, c1, d1, e1, f1, i1, S1⟩ := slot_is (hz.drop 64)
  obtain ⟨a2, b2, c2, d2, e2, f2, i2, S2⟩ := slot_is (hz.drop 128)
  exact rschoose_way A n c zs w hr hB hz hl hcap S1 S2

end Go.Proofs.Ytdajjkjpjhpnjaa
