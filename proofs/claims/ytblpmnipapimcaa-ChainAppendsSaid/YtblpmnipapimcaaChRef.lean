/-
  LAYER 14: the document's list: Room, and its Append.
-/
import Derived.Test.YtblpmnipapimcaaChTells1
set_option linter.unusedVariables false
set_option maxRecDepth 100000
set_option linter.unusedSimpArgs false
namespace Go.Proofs.Ytblpmnipapimcaa
open Go.RowKit Go.Shelf

theorem roomC_le : ∀ n, roomC n ≤ 1024 * n
  | 0 => Nat.le_refl _
  | n + 1 => by
    have := roomC_le n
    have := (sizeC_bd n).2
    show roomC n + sizeC n ≤ _
    omega

/-- A document's list in memory. -/
structure RL (w : World) (base g : Nat) (v : Value) (L : List Int) (A : Nat) : Prop where
  blk : Blk w g 31 #[v, .int .i64 A]
  row : w.ownsRow base 36 1 v L.length (cellsOf .u64 L)
theorem RL.chg {w w' : World} {base g : Nat} {v : Value} {L : List Int} {A : Nat} {T : Nat → Prop} (h : RL w base g v L A) (hc : Chg T w w') (hg : ¬ T g) (hv : ∀ j, v.ownBlock = some j → ¬ T j) : RL w' base g v L A :=
  ⟨(hc.block g h.blk.lt hg).trans h.blk, own_chg h.row hc hv⟩
theorem RL.below {w w' : World} {base g : Nat} {v : Value} {L : List Int} {A : Nat} (h : RL w base g v L A) (hb : Below w.heap.size w w') : RL w' base g v L A := h.chg (Chg.of_below hb (Nat.le_refl _) (fun _ => False)) id (fun _ _ e => e)

theorem rroom_any (g A : Nat) (w : World) (hA : A ≤ 1000) (hc : w.cell? ⟨g, 1, none⟩ = some (.int .i64 A)) :
    Calls Try.prog 32 #[.pointer (some ⟨g, 0, none⟩)] w fun e w' => e = .returned (.int .i64 (roomC A : Nat)) ∧ w = w' := by
  go_enter Try.func32, Try.ntmps32
  go_wp2
  go_loopw [3, 4] (fun s i wr => ∃ k : Nat, k ≤ A ∧ s = .int .i64 (roomC k : Nat) ∧ i = .int .i64 k ∧ wr = w) (fun _ i _ => A - (intOf i).toNat)
  case atStart => exact ⟨0, Nat.zero_le _, rfl, rfl, rfl⟩
  case round =>
    obtain ⟨k, hk, rfl, rfl, rfl⟩ := hrel
    by_cases hlt : k < A
    · have i1 : (k : Int) < (A : Int) := by omega
      have SZ : Hid (∀ w5, Calls Try.prog 15 #[.int .i64 k] w5 fun e w' => e = .returned (.int .i64 (sizeC k : Nat)) ∧ w5 = w') := Lib.hid (fun w5 => by
        have h := rcsize_any (k : Int) w5 (by omega) (by omega)
        have e : sizeI (k : Int) = (sizeC k : Nat) := by unfold sizeI; rw [if_neg (by omega), Int.toNat_natCast]
        rw [e] at h; exact h)
      have h1 := roomC_le k
      have h2 := (sizeC_bd k).2
      obtain ⟨r, hr⟩ : ∃ r, roomC k = r := ⟨_, rfl⟩
      obtain ⟨s, hs⟩ : ∃ s, sizeC k = s := ⟨_, rfl⟩
      have HR : Hid (roomC (k + 1) = r + s) := Lib.hid (by rw [← hr, ← hs]; rfl)
      rw [hs] at SZ h2
      rw [hr] at h1 ⊢
      have hw : IntKind.i64.wrap ((r : Int) + (s : Int)) = (r : Int) + (s : Int) := wrap_i64_of (by omega) (by omega)
      clear hr hs
      go_wp2_with (go_at_call 15; refine (SZ.out _).mono ?_; rintro e w5 ⟨rfl, rfl⟩)
      go_roundw
      case rel => exact ⟨k + 1, by omega, by rw [HR.out]; go_num, by go_num, by first | rfl | trivial⟩
      case measure => simp [intOf]; omega
    · have e : k = A := by omega
      have i1 : ¬ (k : Int) < (A : Int) := by omega
      go_wp2
      go_ret
      first
        | exact ⟨rfl, rfl⟩
        | exact ⟨congrArg (fun z : Nat => Ending.returned (.int .i64 (roomC z : Nat))) e, rfl⟩

/-- What the document's Append tells, and leaves. -/
structure RLnew (w w' : World) (base g : Nat) (v : Value) (L : List Int) (A : Nat) : Prop where
  ex : ∃ v', RL w' base g v' L A ∧ (v'.ownBlock = v.ownBlock ∨ ∀ j, v'.ownBlock = some j → w.heap.size ≤ j)
  chg : Chg (fun j => j = g ∨ v.ownBlock = some j) w w'
def RLTold (base g : Nat) (v : Value) (L : List Int) (A : Nat) (x left : Int) (w : World) (e : Ending) (w' : World) : Prop :=
  (L.length < roomC A ∧ e = .returned (.int .i64 0) ∧ RLnew w w' base g v (L ++ [x]) A) ∨
  (roomC A ≤ L.length ∧ left < (alen (sizeC A) : Nat) ∧ e = .returned (.int .i64 (-1)) ∧ Below w.heap.size w w') ∨
  (roomC A ≤ L.length ∧ (alen (sizeC A) : Nat) ≤ left ∧ e = .returned (.int .i64 (alen (sizeC A) : Nat)) ∧ RLnew w w' base g v (L ++ [x]) (A + 1))

/-- The row has grown, and is stored into its list. -/
theorem rl_store {w w1 : World} {base g : Nat} {v v' : Value} {L : List Int} {A : Nat} {x : Int} {tmp : Obj} (h : RL w base g v L A) (hb : base ≤ w.heap.size) (hown : w1.ownsRow base 36 1 v' (L.length + 1) (cellsOf .u64 L ++ [.int .u64 x])) (hg : (w.alloc tmp).grownBy w1 v.ownBlock)
    (hat : v'.ownBlock = v.ownBlock ∨ v'.ownBlock = some (w.alloc tmp).heap.size) : Blk w1 g 31 #[v, .int .i64 A] ∧ RL (w1.setCell ⟨g, 0, none⟩ v') base g v' (L ++ [x]) A ∧ Chg (fun j => j = g ∨ v.ownBlock = some j) w (w1.setCell ⟨g, 0, none⟩ v') ∧
    (v'.ownBlock = v.ownBlock ∨ ∀ j, v'.ownBlock = some j → w.heap.size ≤ j) := by
  have hs : (w.alloc tmp).heap.size = w.heap.size + 1 := World.size_alloc _ _
  have hc1 : Chg (fun j => v.ownBlock = some j) w (w.alloc tmp) := Chg.of_below (boxed _ _) (Nat.le_refl _) _
  have hc := hc1.trans (chg_grown hg) (fun _ _ h => h)
  have hne := own_blk_ne h.row h.blk (by decide)
  have hb1 : Blk w1 g 31 #[v, .int .i64 A] := (hc.block g h.blk.lt hne).trans h.blk
  have hne2 := own_blk_ne hown hb1 (by decide)
  refine ⟨hb1, ⟨hb1.set_ 0 v', ?_⟩, chg_set1 (T := fun j => j = g ∨ v.ownBlock = some j) (hc.mono (fun _ _ e => .inr e)) (.inl rfl) _, ?_⟩
  · have hc3 : Chg (fun j => j = g) w1 (w1.setCell ⟨g, 0, none⟩ v') := chg_set1 (T := fun j => j = g) (Chg.refl _ _) rfl _
    have := own_chg hown hc3 (fun j hj e => hne2 (by rw [← e]; exact hj))
    rw [List.length_append, cellsOf_append]
    exact this
  · rcases hat with e | e
    · exact .inl e
    · exact .inr (fun j hj => by rw [e] at hj; injection hj with hj; omega)

set_option maxHeartbeats 4000000 in
theorem rlappend_any {base g : Nat} {v : Value} {L : List Int} {A : Nat} (x left : Int) (w : World) (h : RL w base g v L A) (hb : base ≤ w.heap.size) (hA : A ≤ 900) (hL : L.length ≤ 900000) (hleft : -9000000000000 ≤ left ∧ left ≤ 1000000) :
    Calls Try.prog 10 #[.pointer (some ⟨g, 0, none⟩), .int .u64 x, .int .i64 left] w (RLTold base g v L A x left w) := by
  obtain ⟨i0, hi0, hz0, hz1, hz2⟩ := info_parts tabWordInfo
  have k0 := h.blk.cell 0
  have k1 := h.blk.cell 1
  have f0 := h.blk.frozen 0
  have f1 := h.blk.frozen 1
  obtain ⟨Av, cv, rfl, hcv, hcm⟩ := own_form h.row
  have RM := Lib.hid (fun d => rroom_any g A (w.drewN d) (by omega) k1)
  have SZ : Hid (∀ w5, Calls Try.prog 15 #[.int .i64 A] w5 fun e w' => e = .returned (.int .i64 (sizeC A : Nat)) ∧ w5 = w') := Lib.hid (fun w5 => by
    have h := rcsize_any (A : Int) w5 (by omega) (by omega)
    have e : sizeI (A : Int) = (sizeC A : Nat) := by unfold sizeI; rw [if_neg (by omega), Int.toNat_natCast]
    rw [e] at h; exact h)
  obtain ⟨n, hn⟩ : ∃ n, L.length = n := ⟨_, rfl⟩
  obtain ⟨r, hr⟩ : ∃ r, roomC A = r := ⟨_, rfl⟩
  obtain ⟨s, hs⟩ : ∃ s, sizeC A = s := ⟨_, rfl⟩
  have hsb := sizeC_bd A
  rw [hr] at RM
  rw [hs] at SZ hsb
  have hrow := h.row
  rw [hn] at k0 hL h hrow ⊢
  have HH := Lib.hid h
  have HN := Lib.hid (And.intro hn (And.intro hr hs))
  clear h hn hr hs
  by_cases hlt : n < r
  · have i1 : (n : Int) < (r : Int) := by omega
    go_enter Try.func10, Try.ntmps10
    go_wp2
    go_quiet ((refine (RM.out _).mono ?_; rintro e w1 ⟨rfl, rfl⟩; exact ⟨rfl, _, rfl⟩))
    have hbq : Below w.heap.size w (w.drewN nq) := below_drewn (Below.refl _ _) nq
    have hrq := own_below hrow hbq
    have ST := Lib.hid (fun (v' : Value) (w1 : World) (tmp : Obj) (ho : w1.ownsRow base 36 1 v' (n + 1) (cellsOf .u64 L ++ [.int .u64 x])) => rl_store (x := x) (tmp := tmp) (HH.out.below hbq) (by simpa using hb) (by rw [HN.out.1]; exact ho))
    have hbs : base ≤ (w.drewN nq).heap.size := by simpa using hb
    go_wp2_with (first | (at_builtin; go_loud (refine wpList_append_any _ rfl _ _ 22 rfl base 36 i0 (.int .u64 0) 1 8 Try.underlying22 hi0 hz0 hz1 hz2 rfl (by decide) _ n _ rfl (hrq.alloc _) _ _ 1 1 [.int .u64 x] rfl (Reads.new1 _ _ _) (fun u hu => by rw [List.mem_singleton.1 hu]; rfl) (by unfold maxLen; omega) (by omega) (by simp; omega) ?_; intro v' w3 hown' hg' hat'; obtain ⟨g9, c9, rfl⟩ := ownsRow_succ hown'; obtain ⟨g1, g2, g3, g4⟩ := ST.out _ w3 _ hown' hg' hat'; have c0 := g1.cell 0; have c1 := g1.cell 1; have d0 := g1.frozen 0; have d1 := g1.frozen 1; have HG := Lib.hid (And.intro g1 (And.intro g2 (And.intro g3 g4))); clear hown' hg' hat' g1 g2 g3 g4)))
    refine bodyPost_ret (results_tmp rfl _ _ _) rfl ?_
    obtain ⟨g1, g2, g3, g4⟩ := HG.out
    refine .inl ⟨by rw [HN.out.1, HN.out.2.1]; exact hlt, rfl, ⟨⟨_, g2, g4.imp id (fun h j hj => by have := h j hj; simpa using this)⟩, (Chg.of_below hbq (Nat.le_refl _) _).trans g3 (fun _ _ h => h)⟩⟩
  · have i1 : ¬ (n : Int) < (r : Int) := by omega
    have hw1 : IntKind.i64.wrap (8 * (s : Int)) = 8 * (s : Int) := wrap_i64_of (by omega) (by omega)
    have hw2 : IntKind.i64.wrap (24 + 8 * (s : Int)) = 24 + 8 * (s : Int) := wrap_i64_of (by omega) (by omega)
    have hal : ((alen s : Nat) : Int) = 24 + 8 * (s : Int) := by unfold alen; omega
    have HAL := Lib.hid hal
    clear hal
    by_cases hgt : left < 24 + 8 * (s : Int)
    · go_enter Try.func10, Try.ntmps10
      go_wp2
      go_quiet ((refine (RM.out _).mono ?_; rintro e w1 ⟨rfl, rfl⟩; exact ⟨rfl, _, rfl⟩))
      have hbq : Below w.heap.size w (w.drewN nq) := below_drewn (Below.refl _ _) nq
      go_wp2_with (go_at_call 15; refine (SZ.out _).mono ?_; rintro e w5 ⟨rfl, rfl⟩)
      refine bodyPost_ret (results_tmp rfl _ _ _) rfl ?_
      refine .inr (.inl ⟨by rw [HN.out.1, HN.out.2.1]; omega, by rw [HN.out.2.2, HAL.out]; exact hgt, rfl, hbq⟩)
    · have hA1 : IntKind.i64.wrap ((A : Int) + 1) = (A : Int) + 1 := wrap_i64_of (by omega) (by omega)
      go_enter Try.func10, Try.ntmps10
      go_wp2
      go_quiet ((refine (RM.out _).mono ?_; rintro e w1 ⟨rfl, rfl⟩; exact ⟨rfl, _, rfl⟩))
      have hbq : Below w.heap.size w (w.drewN nq) := below_drewn (Below.refl _ _) nq
      have hrq := own_below hrow hbq
      have ST := Lib.hid (fun (v' : Value) (w1 : World) (tmp : Obj) (ho : w1.ownsRow base 36 1 v' (n + 1) (cellsOf .u64 L ++ [.int .u64 x])) => rl_store (x := x) (tmp := tmp) (HH.out.below hbq) (by simpa using hb) (by rw [HN.out.1]; exact ho))
      have hbs : base ≤ (w.drewN nq).heap.size := by simpa using hb
      go_wp2_with (first
        | (go_at_call 15; refine (SZ.out _).mono ?_; rintro e w5 ⟨rfl, rfl⟩)
        | (at_builtin; go_loud (refine wpList_append_any _ rfl _ _ 22 rfl base 36 i0 (.int .u64 0) 1 8 Try.underlying22 hi0 hz0 hz1 hz2 rfl (by decide) _ n _ rfl (hrq.alloc _) _ _ 1 1 [.int .u64 x] rfl (Reads.new1 _ _ _) (fun u hu => by rw [List.mem_singleton.1 hu]; rfl) (by unfold maxLen; omega) (by omega) (by simp; omega) ?_; intro v' w3 hown' hg' hat'; obtain ⟨g9, c9, rfl⟩ := ownsRow_succ hown'; obtain ⟨g1, g2, g3, g4⟩ := ST.out _ w3 _ hown' hg' hat'; have c0 := g1.cell 0; have c1 := g1.cell 1; have d0 := g1.frozen 0; have d1 := g1.frozen 1; have HG := Lib.hid (And.intro g1 (And.intro g2 (And.intro g3 g4))); clear hown' hg' hat' g1 g2 g3 g4)))
      refine bodyPost_ret (results_tmp rfl _ _ _) rfl ?_
      obtain ⟨g1, g2, g3, g4⟩ := HG.out
      refine .inr (.inr ⟨by rw [HN.out.1, HN.out.2.1]; omega, by rw [HN.out.2.2, HAL.out]; omega, by rw [HN.out.2.2, HAL.out]; rfl, ?_⟩)
      have hc3 : Chg (fun j => j = g) (w3.setCell ⟨g, 0, none⟩ (.slice (some ⟨g9, 0, none⟩) (n + 1) c9)) ((w3.setCell ⟨g, 0, none⟩ (.slice (some ⟨g9, 0, none⟩) (n + 1) c9)).setCell ⟨g, 1, none⟩ (.int .i64 ((A : Int) + 1))) := chg_set1 (T := fun j => j = g) (Chg.refl _ _) rfl _
      have hne := own_blk_ne g2.row g2.blk (by decide)
      refine ⟨⟨_, ⟨?_, own_chg g2.row hc3 (fun j hj e => hne (by rw [← e]; exact hj))⟩, g4.imp id (fun h j hj => by have := h j hj; simpa using this)⟩, ((Chg.of_below hbq (Nat.le_refl _) _).trans g3 (fun _ _ h => h)).trans hc3 (fun _ _ h => .inl h)⟩
      have := g2.blk.set_ 1 (.int .i64 ((A : Int) + 1))
      exact this

end Go.Proofs.Ytblpmnipapimcaa
