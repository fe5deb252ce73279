/-
  MERGED BY PROGRAM out of the texts FileRef FileRef2 FileRef3 FileRef4 FileRef5 FileRef6 FileRef7.
-/
import Derived.Test.YtclglbddibjenaaGreatGrF
import Derived.Test.YtclglbddibjenaaGreatGrB
import Derived.Test.YtclglbddibjenaaGreatGrS
import Derived.Deep.RegionLaw

/-
  LAYER 6: WHAT THE DOCUMENT'S OWN Truncate, Sync AND Read DO: contracts.
-/
set_option linter.unusedVariables false
set_option maxRecDepth 100000
set_option linter.unusedSimpArgs false
namespace Go.Proofs.YtclglbddibjenaaGreat
open Go.RowKit

/-- The document's file has turned: of the blocks that were there its own alone have. -/
def RFT (base : Nat) (S : Nat → Prop) (p : Nat) (s' : FS) (w w' : World) : Prop := Chg S w w' ∧ ∃ nv sv ov xs, RF w' base (grow S w w') p s' nv sv ov xs
/-- A function has told a file of its own; what was there has not turned. -/
def RFnew (base : Nat) (s : FS) (w : World) (e : Ending) (w' : World) : Prop :=
  ∃ p nv sv ov xs, e = .returned (.pointer (some ⟨p, 0, none⟩)) ∧ Below w.heap.size w w' ∧ RF w' base (fun k => w.heap.size ≤ k ∧ k < w'.heap.size) p s nv sv ov xs

theorem RFT.of {base p : Nat} {S S' : Nat → Prop} {s : FS} {w w' : World} {nv sv ov : Value} {xs : List Value} (hc : Chg S w w') (h : RF w' base S' p s nv sv ov xs) (hS : ∀ k, S' k → S k ∨ w.heap.size ≤ k) (hf : ∀ k, S k → base ≤ k ∧ k < w.heap.size) (hb : base ≤ w.heap.size) : RFT base S p s w w' :=
  ⟨hc, nv, sv, ov, xs, h.mono (fun k hk => by
    have := (h.foot k hk).2
    rcases hS k hk with h1 | h1
    · exact .inl h1
    · exact .inr ⟨h1, this⟩) (chg_lt hf hc hb)⟩
theorem RFT.same {base p : Nat} {S : Nat → Prop} {s : FS} {w : World} {nv sv ov : Value} {xs : List Value} (h : RF w base S p s nv sv ov xs) : RFT base S p s w w := RFT.of (Chg.refl _ _) h (fun _ h => .inl h) h.foot h.bas

theorem ropInfo : (Tryz.prog.info? 146).map (fun i => (i.zero, i.size, i.bytes)) = some (some (.agg #[.bool false, .int .i64 0, .slice none 0 0]), 3, 40) := by kernel_rfl

section
variable {w w1 w2 w4 : World} {base p : Nat} {S S2 : Nat → Prop} {s : FS} {nv sv ov v' : Value} {xs : List Value}

theorem RF.cells3 (h : RF w base S p s nv sv ov xs) (hb : Below w.heap.size w w1) : w1.cell? ⟨p, 0, none⟩ = some nv ∧ w1.cell? ⟨p, 1, none⟩ = some sv ∧ w1.cell? ⟨p, 2, none⟩ = some ov ∧ w1.frozen? ⟨p, 0, none⟩ = false ∧ w1.frozen? ⟨p, 1, none⟩ = false ∧ w1.frozen? ⟨p, 2, none⟩ = false := by
  have hb : Blk w1 p 64 #[nv, sv, ov] := (h.below hb).blk
  exact ⟨hb.cell 0, hb.cell 1, hb.cell 2, hb.frozen 0, hb.frozen 1, hb.frozen 2⟩
theorem RF.pcells (h : RF w base S p s nv sv ov xs) {o : Obj} (hg : (w.alloc o).grownBy w1 ov.ownBlock) : w1.cell? ⟨p, 2, none⟩ = some ov ∧ w1.frozen? ⟨p, 2, none⟩ = false := by
  have hb : Blk w1 p 64 #[nv, sv, ov] := (h.blk.alloc o).chg (Chg.of_grown hg) (fun e => h.pp e)
  exact ⟨hb.cell 2, hb.frozen 2⟩
theorem RF.pend_ (h : RF w base S p s nv sv ov xs) {q : Nat} (hq : q = s.ops.length) : w.ownsRow base 146 3 ov q xs := hq ▸ h.pend
theorem RF.nowR {A : Option Addr} {m c : Nat} (h : RF w base S p s (.slice A m c) sv ov xs) (hm : m = s.now.length) : Reads w w.heap.size 1 A m (cellsOf .u8 s.now) ∧ m ≤ c ∧ c ≤ 9223372036854775807 := by
  subst hm
  obtain ⟨A', c', e, h1, h2⟩ := own_form h.now
  injection e with e1 _ e3
  subst e1; subst e3
  exact ⟨Reads.of_own h.now, h1, by unfold maxLen at h2; omega⟩
theorem RF.safeR {A : Option Addr} {m c : Nat} (h : RF w base S p s nv (.slice A m c) ov xs) (hm : m = s.safe.length) : Reads w w.heap.size 1 A m (cellsOf .u8 s.safe) ∧ m ≤ c ∧ c ≤ 9223372036854775807 := by
  subst hm
  obtain ⟨A', c', e, h1, h2⟩ := own_form h.safe
  injection e with e1 _ e3
  subst e1; subst e3
  exact ⟨Reads.of_own h.safe, h1, by unfold maxLen at h2; omega⟩

theorem RF.pushed (h : RF w2 base S2 p s nv sv ov xs) {ob : Obj} {o : OpV} {q m c : Nat} {A : Option Addr} (hq : q = s.ops.length) (hg : (w2.alloc ob).grownBy w4 ov.ownBlock) (hown : w4.ownsRow base 146 3 v' (q + 1) (xs ++ [.bool o.sz, .int .i64 o.n, .slice A m c])) (hat : v'.ownBlock = ov.ownBlock ∨ v'.ownBlock = some (w2.alloc ob).heap.size)
    (hd : Reads w2 w2.heap.size 1 A m (cellsOf .u8 o.data)) (hmc : m ≤ c) (hcm : c ≤ maxLen) (ha : ∀ ad, A = some ad → S2 ad.block ∧ nv.ownBlock ≠ some ad.block ∧ ∃ cs, Blk w2 ad.block 5 cs) :
    Chg S2 w2 (w4.setCell ⟨p, 2, none⟩ v') ∧ RF (w4.setCell ⟨p, 2, none⟩ v') base (grow S2 w2 w4) p ⟨s.now, s.safe, s.ops ++ [o]⟩ nv sv v' (xs ++ [.bool o.sz, .int .i64 o.n, .slice A m c]) := by
  have hc : Chg (fun k => ov.ownBlock = some k) w2 w4 := ((Chg.refl (fun k => ov.ownBlock = some k) w2).alloc ob).trans (Chg.of_grown hg) (fun _ _ e => e)
  subst hq
  have hne : ∀ g cs, Blk w2 g 5 cs → ov.ownBlock ≠ some g := fun g cs hb e => by
    obtain ⟨cs', hb'⟩ := own_isblk h.pend e
    exact blk_one hb hb' (by decide)
  refine ⟨(hc.mono (fun k _ e => h.ino k e)).setCell (.inr h.inp) _, h.push hown hc ?_ ((hd.chg hc (Nat.le_refl _) ?_).more hc.size) hmc hcm ?_⟩
  · rcases hat with e | e
    · exact .inl e
    · exact .inr ⟨_, e, by simp⟩
  · intro _ ad e
    obtain ⟨_, _, cs, hb⟩ := ha ad e
    exact hne _ cs hb
  · intro ad e
    obtain ⟨a1, a2, cs, hb⟩ := ha ad e
    exact ⟨.inl a1, a2, cs, hb.chg hc (hne _ cs hb)⟩

theorem RFT.step {s' : FS} {w5 : World} {nv' sv' ov' : Value} {xs' : List Value} (h : RF w base S p s nv sv ov xs) (hc1 : Chg S w w2) (hg : ∀ k, S2 k → S k ∨ w.heap.size ≤ k) (hc2 : Chg S2 w2 w5) (h5 : RF w5 base (grow S2 w2 w4) p s' nv' sv' ov' xs') : RFT base S p s' w w5 :=
  RFT.of (hc1.trans hc2 (fun k hk hs => by
    rcases hg k hs with h | h
    · exact h
    · omega)) h5 (fun k hk => by
    have := hc1.size
    rcases hk with h | ⟨h, _⟩
    · exact hg k h
    · exact .inr (by omega)) h.foot h.bas
theorem RF.renowed (h : RF w base S p s nv sv ov xs) (hc : Below w.heap.size w w1) (v' : Value) : Chg S w (w1.setCell ⟨p, 0, none⟩ v') := (Chg.of_below hc (Nat.le_refl _) S).setCell (.inr h.inp) _
end

theorem lit3b (w : World) (t : TypeId) (a b c : Value) : Reads (w.alloc (.cells #[a, b, c] t)) (w.heap.size + 1) 3 (some ⟨w.heap.size, 0, none⟩) 1 [a, b, c] := by
  refine ⟨rfl, fun _ => ⟨_, rfl, Nat.lt_succ_self _, fun j u hu => ?_⟩⟩
  have h := (Blk.new w t #[a, b, c]).cell j
  have e : (⟨w.heap.size, 0, none⟩ : Addr).add j = ⟨w.heap.size, j, none⟩ := by unfold Addr.add; split <;> simp_all
  rw [e, h]; simpa using hu
theorem op_one (b : Bool) (n : Int) (A : Option Addr) (m c : Nat) : ∀ u ∈ [Value.bool b, Value.int .i64 n, Value.slice A m c], u.oneCell' = true := fun u hu => by
  simp at hu
  rcases hu with rfl | rfl | rfl <;> rfl

set_option maxHeartbeats 1000000 in
theorem rsync_any (p : Nat) (base : Nat) (S : Nat → Prop) (s : FS) (nv sv ov : Value) (xs : List Value) (w : World) (h : RF w base S p s nv sv ov xs) (hl : s.now.length ≤ 1048576) :
    Calls Tryz.prog 77 #[.pointer (some ⟨p, 0, none⟩)] w fun e w' => e = .returned (.tuple #[]) ∧ RFT base S p s.sync w w' := by
  obtain ⟨i0, hi, hz0, hz1, hz2⟩ := info_parts byteInfo
  obtain ⟨A, c, rfl, hc1, hc2⟩ := own_form h.now
  obtain ⟨d0, -⟩ := h.cells3 ((Below.refl _ _).alloc (Nat.le_refl _) (.cells #[] 5))
  obtain ⟨m, hm⟩ : ∃ m, m = s.now.length := ⟨_, rfl⟩
  rw [← hm] at d0 hl h
  have H := Lib.hid h
  have HM := Lib.hid hm
  have HR := Lib.hid (h.nowR hm).1
  have k2 : 0 + m ≤ maxLen := by unfold maxLen; omega
  have k3 : (0 + m) * 1 ≤ 140737488355328 := by omega
  clear h hm hc1
  go_enter Tryz.func77, Tryz.ntmps77
  go_wp2_with (at_builtin; go_loud (refine wpList_append_any _ rfl _ _ _ rfl w.heap.size 5 i0 (.int .u8 0) 1 1 Tryz.underlying29 hi hz0 hz1 hz2 rfl (Nat.lt_succ_self 0) _ 0 [] rfl (World.ownsRow_lit w #[] 0 (Nat.le_refl _) (Nat.zero_le _) rfl) w.heap.size A m c (cellsOf .u8 s.now) rfl (HR.out.alloc (Nat.le_refl _) _) (cellsOf_one _ _) k2 k3 (by simp) ?_; intro v1 w1 hown1 hg1 hat1; rw [Nat.zero_add, List.nil_append] at hown1; obtain ⟨A1, c1, rfl, hc1, hc2⟩ := own_form hown1; have hb1 := below_lit hg1; obtain ⟨e0, e1, e2, f0, f1, f2⟩ := H.out.cells3 hb1; have HO := Lib.hid hown1; clear hown1 hg1 hat1))
  go_end0
  refine ⟨rfl, RFT.of ?_ (H.out.setSync (HM.out ▸ HO.out) hb1) (fun k hk => hk.imp id (fun x => x.1)) H.out.foot H.out.bas⟩
  exact ((Chg.of_below hb1 (Nat.le_refl _) S).setCell (.inr H.out.inp) _).setCell (.inr H.out.inp) _

end Go.Proofs.YtclglbddibjenaaGreat

/-
  LAYER 6: WHAT THE DOCUMENT'S OWN Truncate AND Read DO: contracts.
-/
set_option linter.unusedVariables false
set_option maxRecDepth 100000
set_option linter.unusedSimpArgs false
namespace Go.Proofs.YtclglbddibjenaaGreat
open Go.RowKit

set_option maxHeartbeats 1000000 in
theorem rtrunc_nat (p n : Nat) (base : Nat) (S : Nat → Prop) (s : FS) (nv sv ov : Value) (xs : List Value) (w : World) (h : RF w base S p s nv sv ov xs) (hn : n ≤ 1048576) (hl : s.now.length ≤ 1048576) (ho : s.ops.length ≤ 1000000) (hne : n ≠ s.now.length) :
    Calls Tryz.prog 75 #[.pointer (some ⟨p, 0, none⟩), .int .i64 n] w fun e w' => e = .returned (.int .i64 0) ∧ RFT base S p ⟨sizeL s.now n, s.safe, s.ops ++ [⟨true, n, []⟩]⟩ w w' := by
  obtain ⟨i0, hi, hz0, hz1, hz2⟩ := info_parts ropInfo
  obtain ⟨A, c, rfl, hc1, hc2⟩ := own_form h.now
  obtain ⟨Ao, co, rfl, ho1, ho2⟩ := own_form h.pend
  obtain ⟨d0, -, d2, -⟩ := h.cells3 (Below.refl _ _)
  obtain ⟨m, hm⟩ : ∃ m, m = s.now.length := ⟨_, rfl⟩
  obtain ⟨q, hq⟩ : ∃ q, q = s.ops.length := ⟨_, rfl⟩
  rw [← hm, ← hq] at h
  rw [← hm] at hl d0 hne
  rw [← hq] at d2 ho
  have H := Lib.hid h
  have HM := Lib.hid hm
  have HQ := Lib.hid hq
  have RS := Lib.hid (rsize_any A m c n s.now w.heap.size w (h.nowR hm).1 (Nat.le_refl _) (by omega) (h.nowR hm).2.1 (h.nowR hm).2.2)
  have s2 : q + 1 ≤ maxLen := by unfold maxLen; omega
  have s3 : (q + 1) * 40 ≤ 140737488355328 := by omega
  have x1 : (((n : Int) == ((m : Nat) : Int))) = false := by simp; omega
  have x2 : ((n : Int) != ((m : Nat) : Int)) = true := by simp; omega
  clear h hm hq hc1 ho1 hne
  go_enter Tryz.func75, Tryz.ntmps75
  go_wp2_with (first
    | (go_at_call 106; go_loud (refine RS.out.mono ?_; rintro e w1 ⟨A1, c1, rfl, hown1, hb1⟩; obtain ⟨e0, e1, e2, f0, f1, f2⟩ := H.out.cells3 hb1; have H1 := Lib.hid (H.out.setNow hown1 hb1); have HC1 := Lib.hid (H.out.renowed hb1 (.slice A1 (sizeL s.now (n : Int).toNat).length c1)); clear hown1))
    | (at_builtin; go_loud (refine wpList_append_any _ rfl _ _ _ rfl base 146 i0 _ 3 40 Tryz.underlying62 hi hz0 hz1 hz2 rfl (Nat.zero_lt_succ 2) (.slice Ao q co) q xs rfl ((H1.out.pend_ HQ.out).alloc _) _ _ 1 1 [.bool true, .int .i64 n, .slice none 0 0] rfl (newAt _ _ _ 3 _ rfl (by simp)) (op_one _ _ _ _ _) s2 s3 (by have := H1.out.bas; simp at this ⊢; omega) ?_; intro v4 w4 hown4 hg4 hat4; obtain ⟨A4, c4, rfl, -, -⟩ := own_form hown4; obtain ⟨g2, gf2⟩ := H1.out.pcells hg4; have HP := Lib.hid (H1.out.pushed (o := ⟨true, n, []⟩) HQ.out hg4 hown4 (by simpa using hat4) Reads.none_ (Nat.le_refl _) (Nat.zero_le _) (fun ad e => by cases e)); clear hown4 hg4 hat4)))
  go_ret
  exact ⟨rfl, RFT.step H.out HC1.out (fun k hk => hk.imp id (fun x => x.1)) HP.out.1 HP.out.2⟩

theorem rtrunc_any (p : Nat) (n : Int) (base : Nat) (S : Nat → Prop) (s : FS) (nv sv ov : Value) (xs : List Value) (w : World) (h : RF w base S p s nv sv ov xs) (h0 : -9223372036854775808 ≤ n) (h1 : n ≤ 9223372036854775807) (hl : s.now.length ≤ 1048576) (ho : s.ops.length ≤ 1000000) :
    Calls Tryz.prog 75 #[.pointer (some ⟨p, 0, none⟩), .int .i64 n] w fun e w' => e = .returned (.int .i64 (truncE n)) ∧ RFT base S p (s.truncI n) w w' := by
  have HC := Lib.hid (RFT.same h)
  by_cases hn : n < 0
  · have e1 : truncE n = 1 := by unfold truncE; rw [if_pos (.inl hn)]
    have e2 : s.truncI n = s := by unfold FS.truncI; rw [if_pos (.inl hn)]
    rw [e1, e2]
    clear h e1 e2
    go_enter Tryz.func75, Tryz.ntmps75
    go_wp2
    go_ret
    exact ⟨rfl, HC.out⟩
  · by_cases hm : 1048576 < n
    · have e1 : truncE n = 1 := by unfold truncE; rw [if_pos (.inr hm)]
      have e2 : s.truncI n = s := by unfold FS.truncI; rw [if_pos (.inr hm)]
      rw [e1, e2]
      clear h e1 e2
      go_enter Tryz.func75, Tryz.ntmps75
      go_wp2
      go_ret
      exact ⟨rfl, HC.out⟩
    · obtain ⟨k, rfl⟩ : ∃ k : Nat, n = k := ⟨n.toNat, by omega⟩
      have e1 : truncE k = 0 := by unfold truncE; rw [if_neg (by omega)]
      have e2 : s.truncI k = s.trunc k := by unfold FS.truncI; rw [if_neg (by omega)]; rfl
      rw [e1, e2]
      by_cases hne : k = s.now.length
      · have ht : s.trunc k = s := by unfold FS.trunc; rw [if_pos hne]
        rw [ht]
        obtain ⟨A, c, rfl, -, -⟩ := own_form h.now
        obtain ⟨d0, -⟩ := h.cells3 (Below.refl _ _)
        obtain ⟨m, hm⟩ : ∃ m, m = s.now.length := ⟨_, rfl⟩
        rw [← hm] at d0 hne
        subst hne
        clear h e1 e2 ht hm
        go_enter Tryz.func75, Tryz.ntmps75
        go_wp2
        go_ret
        exact ⟨rfl, HC.out⟩
      · rw [show s.trunc k = ⟨sizeL s.now k, s.safe, s.ops ++ [⟨true, k, []⟩]⟩ by unfold FS.trunc; rw [if_neg hne]]
        exact rtrunc_nat p k base S s nv sv ov xs w h (by omega) hl ho hne

end Go.Proofs.YtclglbddibjenaaGreat

/-
  LAYER 6: WHAT THE DOCUMENT'S OWN Write DOES: its contract.
-/
set_option linter.unusedVariables false
set_option maxRecDepth 100000
set_option linter.unusedSimpArgs false
namespace Go.Proofs.YtclglbddibjenaaGreat
open Go.RowKit

/-- In the midst of a write: i bytes have been put down, j sectors kept. -/
structure WrR (w wr : World) (base : Nat) (S : Nat → Prop) (p : Nat) (s : FS) (g M c : Nat) (sv : Value) (L1 : List Int) (a : Nat) (bs : List Int) (O W : List OpV) (i j : Nat) : Prop where
  ex : ∃ Sk ov xs, RF wr base Sk p ⟨wrL L1 a (bs.take i), s.safe, O ++ W.take j⟩ (.slice (some ⟨g, 0, none⟩) M c) sv ov xs ∧ (∀ k, Sk k → S k ∨ w.heap.size ≤ k)
  chg : Chg S w wr

section
variable {w wr w1 w2 w4 : World} {base p g M c a i j q : Nat} {S Sk : Nat → Prop} {s : FS} {sv ov v' : Value} {xs : List Value} {L1 bs : List Int} {O W : List OpV}

theorem chg_in {w w1 w2 : World} {S T : Nat → Prop} (h1 : Chg S w w1) (h2 : Chg T w1 w2) (hT : ∀ k, T k → S k ∨ w.heap.size ≤ k) : Chg S w w2 := h1.trans h2 (fun k hk ht => by
  rcases hT k ht with h | h
  · exact h
  · omega)

theorem WrR.drew (h : WrR w wr base S p s g M c sv L1 a bs O W i j) : WrR w wr.drew base S p s g M c sv L1 a bs O W i j := by
  obtain ⟨⟨Sk, ov, xs, h1, h2⟩, h3⟩ := h
  exact ⟨⟨Sk, ov, xs, h1.drew, h2⟩, h3.drew⟩

/-- One byte more. -/
theorem WrR.byte (h : WrR w wr base S p s g M c sv L1 a bs O W i j) (hx : a + bs.length ≤ L1.length) (hi : i < bs.length) : WrR w (wr.setCell ⟨g, a + i, none⟩ (.int .u8 (nz bs i))) base S p s g M c sv L1 a bs O W (i + 1) j := by
  obtain ⟨⟨Sk, ov, xs, h1, h2⟩, h3⟩ := h
  have hg : Sk g := h1.inn g rfl
  refine ⟨⟨Sk, ov, xs, ?_, h2⟩, chg_in h3 (chg_set wr ⟨g, a + i, none⟩ _) (fun k hk => by subst hk; exact h2 _ hg)⟩
  have := h1.store (i := a + i) rfl (nz bs i)
  rw [wrL_set hx hi] at this
  exact this

theorem WrR.cells (h : WrR w wr base S p s g M c sv L1 a bs O W i j) (hM : L1.length = M) (hx : a + bs.length ≤ M) (k : Nat) (hk : k < M) : wr.cell? ⟨p, 0, none⟩ = some (.slice (some ⟨g, 0, none⟩) M c) ∧ M ≤ c ∧ (∃ u, wr.cell? ⟨g, k, none⟩ = some u) ∧ wr.frozen? ⟨g, k, none⟩ = false := by
  obtain ⟨⟨Sk, ov, xs, h1, h2⟩, h3⟩ := h
  have hl : (wrL L1 a (bs.take i)).length = M := by rw [wrL_length (by rw [List.length_take]; omega), hM]
  have hn := h1.now
  rw [show (⟨wrL L1 a (bs.take i), s.safe, O ++ W.take j⟩ : FS).now.length = M from hl] at hn
  obtain ⟨A', c', e, q1, q2⟩ := own_form hn
  injection e with _ _ e3
  subst e3
  have c0 := h1.blk.cell 0
  simp at c0
  have hu : wr.cell? ⟨g, k, none⟩ = some (.int .u8 ((wrL L1 a (bs.take i)).getD k 0)) := by
    rw [hn.cellAt _ (by omega)]
    exact cellsOf_get (by show k < (wrL L1 a (bs.take i)).length; omega)
  exact ⟨c0, q1, ⟨_, hu⟩, hn.frozenAt k⟩

/-- One sector more. -/
theorem WrR.sector {o : OpV} {ob : Obj} {gd m : Nat} (h : RF wr base Sk p ⟨wrL L1 a (bs.take i), s.safe, O ++ W.take j⟩ (.slice (some ⟨g, 0, none⟩) M c) sv ov xs) (h2 : ∀ k, Sk k → S k ∨ w.heap.size ≤ k) (h3 : Chg S w wr) (ho : W[j]? = some o)
    (hb : Below wr.heap.size wr w1) (hgd : wr.heap.size ≤ gd) (hd : Blk w1 gd 5 (cellsOf .u8 o.data).toArray) (hdl : o.data.length = m) (hmm : m ≤ maxLen) (hq : q = (O ++ W.take j).length) (hgr : (w1.alloc ob).grownBy w4 ov.ownBlock)
    (hown : w4.ownsRow base 146 3 v' (q + 1) (xs ++ [.bool o.sz, .int .i64 o.n, .slice (some ⟨gd, 0, none⟩) m m])) (hat : v'.ownBlock = ov.ownBlock ∨ v'.ownBlock = some (w1.alloc ob).heap.size) :
    WrR w (w4.setCell ⟨p, 2, none⟩ v') base S p s g M c sv L1 a bs O W i (j + 1) := by
  have hW : W.take (j + 1) = W.take j ++ [o] := by
    obtain ⟨hlt, he⟩ := List.getElem?_eq_some_iff.1 ho
    rw [List.take_succ_eq_append_getElem hlt, he]
  have hs0 := h3.size
  have hs1 := hb.size
  have hgl := hd.lt
  have h1 := (h.below hb).mono (T := grow Sk wr w1) (fun k hk => .inl hk) (chg_lt h.foot (Chg.of_below hb (Nat.le_refl _) (fun _ => False)) h.bas)
  obtain ⟨hc, hrf⟩ := h1.pushed (o := o) (A := some ⟨gd, 0, none⟩) (m := m) (c := m) hq hgr hown hat (hd.reads (by rw [cellsOf_length, hdl])) (Nat.le_refl _) hmm (fun ad e => by
    injection e with e; subst e
    refine ⟨.inr ⟨hgd, hgl⟩, ?_, _, hd⟩
    intro e
    have := (h.now.lt gd e).2
    omega)
  have hgrow : ∀ k, grow Sk wr w1 k → S k ∨ w.heap.size ≤ k := fun k hk => by
    rcases hk with hk | ⟨hk, _⟩
    · exact h2 k hk
    · exact .inr (by omega)
  refine ⟨⟨_, v', _, by rw [hW, ← List.append_assoc]; exact hrf, ?_⟩, chg_in (h3.trans (Chg.of_below hb (Nat.le_refl _) S) (fun _ _ h => h)) hc hgrow⟩
  intro k hk
  rcases hk with hk | ⟨hk, _⟩
  · exact hgrow k hk
  · exact .inr (by omega)

theorem WrR.done_ (h : WrR w wr base S p s g M c sv L1 a bs O W i j) (hi : bs.length ≤ i) (hj : W.length ≤ j) (hf : ∀ k, S k → base ≤ k ∧ k < w.heap.size) (hb : base ≤ w.heap.size) : RFT base S p ⟨wrL L1 a bs, s.safe, O ++ W⟩ w wr := by
  obtain ⟨⟨Sk, ov, xs, h1, h2⟩, h3⟩ := h
  rw [List.take_of_length_le hi, List.take_of_length_le hj] at h1
  exact RFT.of h3 h1 h2 hf hb
end

end Go.Proofs.YtclglbddibjenaaGreat

/-
  LAYER 6: WHAT THE DOCUMENT'S OWN Write DOES: its walk.
-/
set_option linter.unusedVariables false
set_option maxRecDepth 100000
set_option linter.unusedSimpArgs false
namespace Go.Proofs.YtclglbddibjenaaGreat
open Go.RowKit

theorem own_some {w : World} {b n c size : Nat} {e : TypeId} {A : Option Addr} {xs : List Value} (h : w.ownsRow b e size (.slice A n c) n xs) (h0 : 0 < n) : ∃ g, A = some ⟨g, 0, none⟩ := by
  obtain ⟨g, c', hv, _, _⟩ := h.form h0
  injection hv with h1
  exact ⟨g, h1⟩

theorem RF.as {w : World} {base p : Nat} {S : Nat → Prop} {s s' : FS} {nv sv ov : Value} {xs : List Value} (h : RF w base S p s nv sv ov xs) (e : s = s') : RF w base S p s' nv sv ov xs := e ▸ h

set_option maxHeartbeats 4000000 in
theorem rwrite_nat (p a : Nat) (Ab : Option Addr) (m cb : Nat) (bs : List Int) (B base : Nat) (S : Nat → Prop) (s : FS) (nv sv ov : Value) (xs : List Value) (w : World) (h : RF w base S p s nv sv ov xs) (hr : Reads w B 1 Ab m (cellsOf .u8 bs)) (hB : B ≤ base) (hmc : m ≤ cb) (hcb : cb ≤ 9223372036854775807)
    (hm0 : 0 < m) (ham : a + m ≤ 1048576) (hl : s.now.length ≤ 1048576) (ho : s.ops.length ≤ 900000) :
    Calls Tryz.prog 74 #[.pointer (some ⟨p, 0, none⟩), .int .i64 a, .slice Ab m cb] w fun e w' => e = .returned (.int .i64 0) ∧ RFT base S p (s.write a bs) w w' := by
  obtain ⟨i0, hi, hz0, hz1, hz2⟩ := info_parts ropInfo
  obtain ⟨A, c0, rfl, hc1, hc2⟩ := own_form h.now
  have hbm := hr.len
  obtain ⟨L1, hL1⟩ : ∃ L1, L1 = growL s.now (a + m) := ⟨_, rfl⟩
  obtain ⟨O, hO⟩ : ∃ O, O = s.ops ++ growO s.now (a + m) := ⟨_, rfl⟩
  obtain ⟨L, hL⟩ : ∃ L, L = wrL L1 a bs := ⟨_, rfl⟩
  obtain ⟨W, hW⟩ : ∃ W, W = wrO a bs L := ⟨_, rfl⟩
  obtain ⟨M, hM⟩ : ∃ M, M = max s.now.length (a + m) := ⟨_, rfl⟩
  obtain ⟨f, hf⟩ : ∃ f, f = a % 64 := ⟨_, rfl⟩
  obtain ⟨K, hK⟩ : ∃ K, K = pcN f m := ⟨_, rfl⟩
  obtain ⟨Sa, hSa⟩ : ∃ Sa, Sa = a / 64 := ⟨_, rfl⟩
  have hf6 : f < 64 := by omega
  have hL1l : L1.length = M := by rw [hL1, growL_length, hM]
  have hWl : W.length = K := by rw [hW, wrO_length, hK, hbm, hf]
  have hWk : ∀ k, k < K → W[k]? = some ⟨false, Sa + k, secL L ((Sa + k : Nat) : Int)⟩ := fun k hk => by
    rw [hW, hSa]; unfold wrO
    simp [hbm, ← hf, ← hK, hk]
  have hst : s.write a bs = ⟨L, s.safe, O ++ W⟩ := by
    unfold FS.write
    rw [if_neg (by intro e; rw [e] at hbm; simp at hbm; omega), hbm, ← hL1, ← hL, ← hO, ← hW]
  have hsec : ∀ k, k < K → secL (wrL L1 a (bs.take (min (64 * (k + 1) - f) m))) ((Sa + k : Nat) : Int) = secL L ((Sa + k : Nat) : Int) := fun k hk => by
    have := secL_later (z := L1) (xs := bs) (a := a) (i := k) (by rw [hL1l, hbm]; omega) (by rw [hbm, ← hf, ← hK]; exact hk)
    rw [← hf, ← hSa, ← hL] at this
    rw [← this]
    congr 2
    rcases Nat.le_total (64 * (k + 1) - f) m with hh | hh
    · rw [Nat.min_eq_left hh]
    · rw [Nat.min_eq_right hh, List.take_of_length_le (by omega), List.take_of_length_le (by omega)]
  rw [hst, hL]
  have HLT := Lib.hid (show ∀ j, j < K ↔ 64 * j - f < m from fun j => by rw [hK]; exact pcN_lt hf6)
  have HAF := Lib.hid (show a = 64 * Sa + f by omega)
  have hSa6 : Sa ≤ 16384 := by omega
  have hK2 : K ≤ 16400 := by have := pcN_le f m hf6; omega
  have hOl : O.length ≤ 900001 := by
    rw [hO, List.length_append]
    have : (growO s.now (a + m)).length ≤ 1 := by unfold growO; split <;> simp
    omega
  have HRB := Lib.hid (fun (w' : World) (hc : Chg S w w') => hr.chg hc (by have := h.bas; omega) (fun _ ad e hs => by
    have := (h.foot _ hs).1
    obtain ⟨ad', e', hb', _⟩ := hr.2 hm0
    rw [e] at e'; injection e' with e'; subst e'; omega))
  obtain ⟨d0, -, d2, -⟩ := h.cells3 (Below.refl _ _)
  obtain ⟨m0, hm0'⟩ : ∃ m0, m0 = s.now.length := ⟨_, rfl⟩
  rw [← hm0'] at d0 hM hl h
  have x1 : ¬ 1048576 < (a : Int) := by omega
  have x2 : ¬ 1048576 - (a : Int) < (m : Int) := by omega
  have x3 : 0 < (m : Int) := by omega
  have hM6 : M ≤ 1048576 := by omega
  have HML := Lib.hid hL1l
  have HWL := Lib.hid hWl
  have HWK := Lib.hid hWk
  have HSEC := Lib.hid hsec
  have HBM := Lib.hid hbm
  have HBA := Lib.hid (And.intro h.foot h.bas)
  have HMX := Lib.hid (show a + bs.length ≤ M by omega)
  have HMX2 : a + m ≤ M := by omega
  obtain ⟨Ao, co, rfl, ho1, ho2⟩ := own_form h.pend
  by_cases hg : m0 < a + m
  · have hME : M = a + m := by omega
    have e1 : L1 = sizeL s.now M := by rw [hL1, hME]; unfold growL; rw [if_pos (by rw [← hm0']; exact hg)]
    have e2 : O = s.ops ++ [⟨true, M, []⟩] := by rw [hO, hME]; unfold growO; rw [if_pos (by rw [← hm0']; exact hg)]
    have RS := rsize_any A m0 c0 ((M : Nat) : Int) s.now w.heap.size w (h.nowR hm0').1 (Nat.le_refl _) (by omega) (h.nowR hm0').2.1 (h.nowR hm0').2.2
    rw [Int.toNat_natCast, ← e1] at RS
    unfold Gives at RS
    rw [hL1l] at RS
    obtain ⟨n0, hn0⟩ : ∃ n0, n0 = s.ops.length := ⟨_, rfl⟩
    rw [← hn0] at ho h d2
    have H := Lib.hid h
    have HN0 := Lib.hid hn0
    have RSH := Lib.hid RS
    have E2 := Lib.hid e2
    have x4 : (m0 : Int) < (a : Int) + (m : Int) := by omega
    have hMi : (a : Int) + (m : Int) = (M : Int) := by omega
    have s2 : n0 + 1 ≤ maxLen := by unfold maxLen; omega
    have s3 : (n0 + 1) * 40 ≤ 140737488355328 := by omega
    clear h RS e1 e2 hn0 hm0' hst hL1 hL hO hW hM hf hK hSa hL1l hWl hWk hsec hr hbm hc1 ho1 hME
    go_enter Tryz.func74, Tryz.ntmps74
    go_wp2_with (first
      | (go_at_call 106; go_loud (refine RSH.out.mono ?_; rintro e w1 ⟨A1, c, rfl, hown1, hb1⟩; obtain ⟨g, rfl⟩ := own_some hown1 (by omega); obtain ⟨z0, z1, z2, f0, f1, f2⟩ := H.out.cells3 hb1; have H1 := Lib.hid (H.out.setNow (zs := L1) (by rw [HML.out]; exact hown1) hb1); have HC1 := Lib.hid (H.out.renowed hb1 (.slice (some ⟨g, 0, none⟩) M c)); clear hown1))
      | (at_builtin; go_loud (refine wpList_append_any _ rfl _ _ _ rfl base 146 i0 _ 3 40 Tryz.underlying62 hi hz0 hz1 hz2 rfl (Nat.zero_lt_succ 2) (.slice Ao n0 co) n0 xs rfl ((H1.out.pend_ HN0.out).alloc _) _ _ 1 1 [.bool true, .int .i64 M, .slice none 0 0] rfl (newAt _ _ _ 3 _ rfl (by simp)) (op_one _ _ _ _ _) s2 s3 (by have := H1.out.bas; simp at this ⊢; omega) ?_; intro v4 w4 hown4 hg4 hat4; obtain ⟨A4, c4, rfl, -, -⟩ := own_form hown4; obtain ⟨g2, gf2⟩ := H1.out.pcells hg4; have HP := Lib.hid (H1.out.pushed (o := ⟨true, M, []⟩) HN0.out hg4 hown4 (by simpa using hat4) Reads.none_ (Nat.le_refl _) (Nat.zero_le _) (fun ad e => by cases e)); clear hown4 hg4 hat4)))
    have H0 : Hid (WrR w (w4.setCell ⟨p, 2, none⟩ (.slice A4 (n0 + 1) c4)) base S p s g M c sv L1 a bs O W 0 0) := by
      refine Lib.hid ⟨⟨_, _, _, HP.out.2.as (by rw [List.take_zero, List.take_zero, wrL_none, List.append_nil, E2.out]), ?_⟩, chg_in HC1.out HP.out.1 (fun k hk => hk.imp id (fun x => x.1))⟩
      intro k hk
      have h1 := HC1.out.size
      rcases hk with hk | ⟨hk, _⟩
      · exact hk.imp id (fun x => x.1)
      · exact .inr (by simp at hk h1; omega)
    clear HP HC1 H1 hMi x4 s2 s3 d0 d2 z0 z1 z2 f0 f1 f2 g2 gf2 hb1
    go_loopw [7] (fun i wr => ∃ j q : Nat, j ≤ K ∧ Hid (q = min (64 * j - f) m) ∧ q ≤ m ∧ i = .int .i64 q ∧ Hid (WrR w wr base S p s g M c sv L1 a bs O W q j)) (fun i _ => m - (intOf i).toNat)
    case atStart => exact ⟨0, 0, Nat.zero_le _, Lib.hid (by omega), Nat.zero_le _, rfl, H0⟩
    case round =>
      clear H0
      obtain ⟨j, q, hj, hq, hqm, rfl, H⟩ := hrel
      by_cases hlt : q < m
      · have hq1 : q = 64 * j - f := by have := hq.out; omega
        have hjK : j < K := (HLT.out j).2 (by omega)
        obtain ⟨x, hx⟩ : ∃ x, x = Sa + j := ⟨_, rfl⟩
        obtain ⟨en, hen⟩ : ∃ en, en = min (64 * (j + 1) - f) m := ⟨_, rfl⟩
        have hqe : q < en := by omega
        have hem : en ≤ m := by omega
        have hx6 : x ≤ 40000 := by omega
        have hdiv : ∀ r, q ≤ r → r < en → (a + r) / 64 = x := fun r h1 h2 => by have := HAF.out; omega
        have hdiv2 : en < m → (a + en) / 64 = x + 1 := fun h2 => by have := HAF.out; omega
        have hdq : (a + q) / 64 = x := by have := HAF.out; omega
        have t1 : ((a : Int) + (q : Int)).tdiv 64 = (x : Int) := by rw [Int.tdiv_eq_ediv_of_nonneg (by omega)]; omega
        have t2 : ((a : Int) + (q : Int)) / 64 = (x : Int) := by omega
        have hqi : (q : Int) < (m : Int) := by omega
        have HEN := Lib.hid hen
        have HDV := Lib.hid hdiv
        have HDV2 := Lib.hid hdiv2
        have HWJ := Lib.hid (HWK.out j hjK)
        rw [← hx] at HWJ
        have HSC := Lib.hid (HSEC.out j hjK)
        rw [← hx, ← hen] at HSC
        have HQE := Lib.hid hq1
        have HX := Lib.hid hx
        obtain ⟨wo, rfl⟩ : ∃ wo : World, wo = wr := ⟨_, rfl⟩
        clear hen hdiv hdiv2 hx hdq hq hq1
        go_wp2
        clear t1 t2
        go_loopw [7] (fun i wr => ∃ r : Nat, q ≤ r ∧ r ≤ en ∧ i = .int .i64 r ∧ Hid (WrR w wr base S p s g M c sv L1 a bs O W r j)) (fun i _ => m - (intOf i).toNat)
        case atStart => exact ⟨q, Nat.le_refl _, Nat.le_of_lt hqe, rfl, H⟩
        case round =>
          clear H
          obtain ⟨r, hqr, hre, rfl, H⟩ := hrel
          by_cases hr : r < en
          · have hrd := HDV.out r hqr hr
            have t1 : ((a : Int) + (r : Int)).tdiv 64 = (x : Int) := by rw [Int.tdiv_eq_ediv_of_nonneg (by omega)]; omega
            have t2 : ((a : Int) + (r : Int)) / 64 = (x : Int) := by omega
            have t3 : (r : Int) < (m : Int) := by omega
            have t4 : IntKind.i64.wrap ((a : Int) + (r : Int)) = (a : Int) + (r : Int) := by rw [IntKind.wrap_i64]; omega
            have t5 : 0 ≤ (a : Int) + (r : Int) := by omega
            have t6 : (a : Int) + (r : Int) < (M : Int) := by omega
            have t7 : ((a : Int) + (r : Int)).toNat = a + r := by omega
            have t8 : a + r < M := by omega
            have t9 : r < m := by omega
            have hrb := HRB.out wr H.out.chg
            obtain ⟨b, off, rfl, hbB, hc⟩ := hrb.plain (by omega)
            obtain ⟨y, hy⟩ : ∃ y, y = nz bs r := ⟨_, rfl⟩
            have cb : wr.cell? ⟨b, off + r, none⟩ = some (.int .u8 y) := by rw [hy]; exact hc r (by omega)
            obtain ⟨cn, cM, ⟨u, cu⟩, fu⟩ := H.out.cells HML.out HMX.out (a + r) t8
            have HN := Lib.hid (H.out.byte (by rw [HML.out]; exact HMX.out) (by rw [HBM.out]; exact t9))
            rw [← hy] at HN
            clear hrb hc hy hrd
            go_wp2
            go_region
            all_goals
              go_wp2
              go_roundw
              case rel => exact ⟨r + 1, by omega, by omega, by go_num, Lib.hid HN.out.drew⟩
              case measure => simp [intOf]; omega
          · obtain rfl : r = en := by omega
            obtain ⟨⟨Sk, ov, xs2, hrf, hgr⟩, hchg⟩ := H.out
            obtain ⟨Ao, co, rfl, ho1, ho2⟩ := own_form hrf.pend
            obtain ⟨u0, -, u2, -⟩ := hrf.cells3 (Below.refl _ _)
            obtain ⟨n, hn⟩ : ∃ n, n = (O ++ W.take j).length := ⟨_, rfl⟩
            have hn6 : n ≤ 1000000 := by rw [hn, List.length_append, List.length_take]; omega
            have s2 : n + 1 ≤ maxLen := by unfold maxLen; omega
            have s3 : (n + 1) * 40 ≤ 140737488355328 := by omega
            have hnr := hrf.nowR (show M = _ by show M = (wrL L1 a (bs.take r)).length; rw [wrL_length (by rw [List.length_take, HML.out]; have := HMX.out; have := HBM.out; omega)]; exact HML.out.symm)
            have AT := Lib.hid (rat_any (some ⟨g, 0, none⟩) M c x (wrL L1 a (bs.take r)) wr.heap.size wr.drew hnr.1.drew (Nat.le_refl _) hnr.2.1 hnr.2.2 (by omega))
            have HRF := Lib.hid hrf
            rw [show (⟨wrL L1 a (bs.take r), s.safe, O ++ W.take j⟩ : FS).ops.length = n from hn.symm] at u2 HRF
            have HN := Lib.hid hn
            have HGR := Lib.hid hgr
            have HCH := Lib.hid hchg
            rw [HSC.out] at AT
            clear hrf hgr hchg hnr hn ho1 H
            by_cases hrm : r < m
            · have hd2 := HDV2.out hrm
              have t3 : (r : Int) < (m : Int) := by omega
              have t1 : (((a : Int) + (r : Int)).tdiv 64 == (x : Int)) = false := by rw [Int.tdiv_eq_ediv_of_nonneg (by omega)]; simp; omega
              have t2 : (((a : Int) + (r : Int)) / 64 == (x : Int)) = false := by simp; omega
              clear hd2
              go_wp2
              go_region_law ((first
                | (go_simp; go_at_call 107; refine AT.out.mono ?_; rintro e w2 ⟨gd, hgd, rfl, hbd, hw2⟩; rw [secL_length]; have hwb := below_drew0 (w := wr) hw2; obtain ⟨z0, -, z2, zf0, -, zf2⟩ := HRF.out.cells3 hwb; have H2 := Lib.hid (HRF.out.below hwb); have za : ∀ o, (w2.alloc o).cell? ⟨p, 2, none⟩ = some (.slice Ao n co) := fun o => (H2.out.cells3 ((Below.refl _ _).alloc (Nat.le_refl _) o)).2.2.1)
                | (go_loud (refine step_append_any _ rfl _ _ _ rfl base 146 i0 _ 3 40 Tryz.underlying62 hi hz0 hz1 hz2 rfl (Nat.zero_lt_succ 2) (.slice Ao n co) n xs2 rfl ((H2.out.pend_ HN.out).alloc _) _ _ 1 1 [.bool false, .int .i64 x, .slice (some ⟨gd, 0, none⟩) 64 64] rfl (newAt _ _ _ 3 _ rfl (by simp)) (op_one _ _ _ _ _) s2 s3 (by have := H2.out.bas; simp at this ⊢; omega) ?_; intro v4 w4 hown4 hg4 hat4; obtain ⟨A4, c4, rfl, -, -⟩ := own_form hown4; obtain ⟨y2, yf2⟩ := H2.out.pcells hg4; have HP := Lib.hid (WrR.sector (o := ⟨false, x, secL L x⟩) HRF.out HGR.out HCH.out HWJ.out hwb hgd hbd (secL_length _ _) (by decide) HN.out hg4 hown4 (by simpa using hat4)); clear hown4 hg4 hat4))))
              all_goals
                go_wp2
                go_roundw
                case rel => exact ⟨j + 1, r, by omega, Lib.hid HEN.out, by omega, rfl, Lib.hid HP.out⟩
                case measure => simp [intOf]; omega
            · have t3 : ¬ (r : Int) < (m : Int) := by omega
              go_wp2
              go_region_law ((first
                | (go_simp; go_at_call 107; refine AT.out.mono ?_; rintro e w2 ⟨gd, hgd, rfl, hbd, hw2⟩; rw [secL_length]; have hwb := below_drew0 (w := wr) hw2; obtain ⟨z0, -, z2, zf0, -, zf2⟩ := HRF.out.cells3 hwb; have H2 := Lib.hid (HRF.out.below hwb); have za : ∀ o, (w2.alloc o).cell? ⟨p, 2, none⟩ = some (.slice Ao n co) := fun o => (H2.out.cells3 ((Below.refl _ _).alloc (Nat.le_refl _) o)).2.2.1)
                | (go_loud (refine step_append_any _ rfl _ _ _ rfl base 146 i0 _ 3 40 Tryz.underlying62 hi hz0 hz1 hz2 rfl (Nat.zero_lt_succ 2) (.slice Ao n co) n xs2 rfl ((H2.out.pend_ HN.out).alloc _) _ _ 1 1 [.bool false, .int .i64 x, .slice (some ⟨gd, 0, none⟩) 64 64] rfl (newAt _ _ _ 3 _ rfl (by simp)) (op_one _ _ _ _ _) s2 s3 (by have := H2.out.bas; simp at this ⊢; omega) ?_; intro v4 w4 hown4 hg4 hat4; obtain ⟨A4, c4, rfl, -, -⟩ := own_form hown4; obtain ⟨y2, yf2⟩ := H2.out.pcells hg4; have HP := Lib.hid (WrR.sector (o := ⟨false, x, secL L x⟩) HRF.out HGR.out HCH.out HWJ.out hwb hgd hbd (secL_length _ _) (by decide) HN.out hg4 hown4 (by simpa using hat4)); clear hown4 hg4 hat4))))
              all_goals
                go_wp2
                go_roundw
                case rel => exact ⟨j + 1, r, by omega, Lib.hid HEN.out, by omega, rfl, Lib.hid HP.out⟩
                case measure => simp [intOf]; omega
      · obtain rfl : q = m := by omega
        have hjK : j = K := by
          rcases Nat.lt_or_ge j K with h | h
          · have := (HLT.out j).1 h; have := hq.out; omega
          · omega
        subst hjK
        have HR := Lib.hid (H.out.done_ (by rw [HBM.out]; exact Nat.le_refl _) (by rw [HWL.out]; exact Nat.le_refl _) HBA.out.1 HBA.out.2)
        clear H hq
        go_wp2
        go_ret
        exact ⟨rfl, HR.out⟩
  · have hME : M = m0 := by omega
    have e1 : L1 = s.now := by rw [hL1]; unfold growL; rw [if_neg (by rw [← hm0']; exact hg)]
    have e2 : O = s.ops := by rw [hO]; unfold growO; rw [if_neg (by rw [← hm0']; exact hg), List.append_nil]
    subst hME
    obtain ⟨g, rfl⟩ := own_some (show w.ownsRow base 5 1 (.slice A M c0) M (cellsOf .u8 s.now) by have := h.now; rw [← hm0'] at this; exact this) (by omega)
    obtain ⟨c, hcc⟩ : ∃ c, c = c0 := ⟨_, rfl⟩
    subst hcc
    have H0 : Hid (WrR w w base S p s g M c sv L1 a bs O W 0 0) := by
      exact Lib.hid ⟨⟨S, _, xs, h.as (by rw [List.take_zero, List.take_zero, wrL_none, List.append_nil, e1, e2]), fun k hk => .inl hk⟩, Chg.refl _ _⟩
    have x4 : ¬ (M : Int) < (a : Int) + (m : Int) := by omega
    clear h e1 e2 hm0' hst hL1 hL hO hW hM hf hK hSa hL1l hWl hWk hsec hr hbm hc1 ho1
    go_enter Tryz.func74, Tryz.ntmps74
    go_wp2
    clear d0 d2 x4
    go_loopw [7] (fun i wr => ∃ j q : Nat, j ≤ K ∧ Hid (q = min (64 * j - f) m) ∧ q ≤ m ∧ i = .int .i64 q ∧ Hid (WrR w wr base S p s g M c sv L1 a bs O W q j)) (fun i _ => m - (intOf i).toNat)
    case atStart => exact ⟨0, 0, Nat.zero_le _, Lib.hid (by omega), Nat.zero_le _, rfl, H0⟩
    case round =>
      clear H0
      obtain ⟨j, q, hj, hq, hqm, rfl, H⟩ := hrel
      by_cases hlt : q < m
      · have hq1 : q = 64 * j - f := by have := hq.out; omega
        have hjK : j < K := (HLT.out j).2 (by omega)
        obtain ⟨x, hx⟩ : ∃ x, x = Sa + j := ⟨_, rfl⟩
        obtain ⟨en, hen⟩ : ∃ en, en = min (64 * (j + 1) - f) m := ⟨_, rfl⟩
        have hqe : q < en := by omega
        have hem : en ≤ m := by omega
        have hx6 : x ≤ 40000 := by omega
        have hdiv : ∀ r, q ≤ r → r < en → (a + r) / 64 = x := fun r h1 h2 => by have := HAF.out; omega
        have hdiv2 : en < m → (a + en) / 64 = x + 1 := fun h2 => by have := HAF.out; omega
        have hdq : (a + q) / 64 = x := by have := HAF.out; omega
        have t1 : ((a : Int) + (q : Int)).tdiv 64 = (x : Int) := by rw [Int.tdiv_eq_ediv_of_nonneg (by omega)]; omega
        have t2 : ((a : Int) + (q : Int)) / 64 = (x : Int) := by omega
        have hqi : (q : Int) < (m : Int) := by omega
        have HEN := Lib.hid hen
        have HDV := Lib.hid hdiv
        have HDV2 := Lib.hid hdiv2
        have HWJ := Lib.hid (HWK.out j hjK)
        rw [← hx] at HWJ
        have HSC := Lib.hid (HSEC.out j hjK)
        rw [← hx, ← hen] at HSC
        have HQE := Lib.hid hq1
        have HX := Lib.hid hx
        obtain ⟨wo, rfl⟩ : ∃ wo : World, wo = wr := ⟨_, rfl⟩
        clear hen hdiv hdiv2 hx hdq hq hq1
        go_wp2
        clear t1 t2
        go_loopw [7] (fun i wr => ∃ r : Nat, q ≤ r ∧ r ≤ en ∧ i = .int .i64 r ∧ Hid (WrR w wr base S p s g M c sv L1 a bs O W r j)) (fun i _ => m - (intOf i).toNat)
        case atStart => exact ⟨q, Nat.le_refl _, Nat.le_of_lt hqe, rfl, H⟩
        case round =>
          clear H
          obtain ⟨r, hqr, hre, rfl, H⟩ := hrel
          by_cases hr : r < en
          · have hrd := HDV.out r hqr hr
            have t1 : ((a : Int) + (r : Int)).tdiv 64 = (x : Int) := by rw [Int.tdiv_eq_ediv_of_nonneg (by omega)]; omega
            have t2 : ((a : Int) + (r : Int)) / 64 = (x : Int) := by omega
            have t3 : (r : Int) < (m : Int) := by omega
            have t4 : IntKind.i64.wrap ((a : Int) + (r : Int)) = (a : Int) + (r : Int) := by rw [IntKind.wrap_i64]; omega
            have t5 : 0 ≤ (a : Int) + (r : Int) := by omega
            have t6 : (a : Int) + (r : Int) < (M : Int) := by omega
            have t7 : ((a : Int) + (r : Int)).toNat = a + r := by omega
            have t8 : a + r < M := by omega
            have t9 : r < m := by omega
            have hrb := HRB.out wr H.out.chg
            obtain ⟨b, off, rfl, hbB, hc⟩ := hrb.plain (by omega)
            obtain ⟨y, hy⟩ : ∃ y, y = nz bs r := ⟨_, rfl⟩
            have cb : wr.cell? ⟨b, off + r, none⟩ = some (.int .u8 y) := by rw [hy]; exact hc r (by omega)
            obtain ⟨cn, cM, ⟨u, cu⟩, fu⟩ := H.out.cells HML.out HMX.out (a + r) t8
            have HN := Lib.hid (H.out.byte (by rw [HML.out]; exact HMX.out) (by rw [HBM.out]; exact t9))
            rw [← hy] at HN
            clear hrb hc hy hrd
            go_wp2
            go_region
            all_goals
              go_wp2
              go_roundw
              case rel => exact ⟨r + 1, by omega, by omega, by go_num, Lib.hid HN.out.drew⟩
              case measure => simp [intOf]; omega
          · obtain rfl : r = en := by omega
            obtain ⟨⟨Sk, ov, xs2, hrf, hgr⟩, hchg⟩ := H.out
            obtain ⟨Ao, co, rfl, ho1, ho2⟩ := own_form hrf.pend
            obtain ⟨u0, -, u2, -⟩ := hrf.cells3 (Below.refl _ _)
            obtain ⟨n, hn⟩ : ∃ n, n = (O ++ W.take j).length := ⟨_, rfl⟩
            have hn6 : n ≤ 1000000 := by rw [hn, List.length_append, List.length_take]; omega
            have s2 : n + 1 ≤ maxLen := by unfold maxLen; omega
            have s3 : (n + 1) * 40 ≤ 140737488355328 := by omega
            have hnr := hrf.nowR (show M = _ by show M = (wrL L1 a (bs.take r)).length; rw [wrL_length (by rw [List.length_take, HML.out]; have := HMX.out; have := HBM.out; omega)]; exact HML.out.symm)
            have AT := Lib.hid (rat_any (some ⟨g, 0, none⟩) M c x (wrL L1 a (bs.take r)) wr.heap.size wr.drew hnr.1.drew (Nat.le_refl _) hnr.2.1 hnr.2.2 (by omega))
            have HRF := Lib.hid hrf
            rw [show (⟨wrL L1 a (bs.take r), s.safe, O ++ W.take j⟩ : FS).ops.length = n from hn.symm] at u2 HRF
            have HN := Lib.hid hn
            have HGR := Lib.hid hgr
            have HCH := Lib.hid hchg
            rw [HSC.out] at AT
            clear hrf hgr hchg hnr hn ho1 H
            by_cases hrm : r < m
            · have hd2 := HDV2.out hrm
              have t3 : (r : Int) < (m : Int) := by omega
              have t1 : (((a : Int) + (r : Int)).tdiv 64 == (x : Int)) = false := by rw [Int.tdiv_eq_ediv_of_nonneg (by omega)]; simp; omega
              have t2 : (((a : Int) + (r : Int)) / 64 == (x : Int)) = false := by simp; omega
              clear hd2
              go_wp2
              go_region_law ((first
                | (go_simp; go_at_call 107; refine AT.out.mono ?_; rintro e w2 ⟨gd, hgd, rfl, hbd, hw2⟩; rw [secL_length]; have hwb := below_drew0 (w := wr) hw2; obtain ⟨z0, -, z2, zf0, -, zf2⟩ := HRF.out.cells3 hwb; have H2 := Lib.hid (HRF.out.below hwb); have za : ∀ o, (w2.alloc o).cell? ⟨p, 2, none⟩ = some (.slice Ao n co) := fun o => (H2.out.cells3 ((Below.refl _ _).alloc (Nat.le_refl _) o)).2.2.1)
                | (go_loud (refine step_append_any _ rfl _ _ _ rfl base 146 i0 _ 3 40 Tryz.underlying62 hi hz0 hz1 hz2 rfl (Nat.zero_lt_succ 2) (.slice Ao n co) n xs2 rfl ((H2.out.pend_ HN.out).alloc _) _ _ 1 1 [.bool false, .int .i64 x, .slice (some ⟨gd, 0, none⟩) 64 64] rfl (newAt _ _ _ 3 _ rfl (by simp)) (op_one _ _ _ _ _) s2 s3 (by have := H2.out.bas; simp at this ⊢; omega) ?_; intro v4 w4 hown4 hg4 hat4; obtain ⟨A4, c4, rfl, -, -⟩ := own_form hown4; obtain ⟨y2, yf2⟩ := H2.out.pcells hg4; have HP := Lib.hid (WrR.sector (o := ⟨false, x, secL L x⟩) HRF.out HGR.out HCH.out HWJ.out hwb hgd hbd (secL_length _ _) (by decide) HN.out hg4 hown4 (by simpa using hat4)); clear hown4 hg4 hat4))))
              all_goals
                go_wp2
                go_roundw
                case rel => exact ⟨j + 1, r, by omega, Lib.hid HEN.out, by omega, rfl, Lib.hid HP.out⟩
                case measure => simp [intOf]; omega
            · have t3 : ¬ (r : Int) < (m : Int) := by omega
              go_wp2
              go_region_law ((first
                | (go_simp; go_at_call 107; refine AT.out.mono ?_; rintro e w2 ⟨gd, hgd, rfl, hbd, hw2⟩; rw [secL_length]; have hwb := below_drew0 (w := wr) hw2; obtain ⟨z0, -, z2, zf0, -, zf2⟩ := HRF.out.cells3 hwb; have H2 := Lib.hid (HRF.out.below hwb); have za : ∀ o, (w2.alloc o).cell? ⟨p, 2, none⟩ = some (.slice Ao n co) := fun o => (H2.out.cells3 ((Below.refl _ _).alloc (Nat.le_refl _) o)).2.2.1)
                | (go_loud (refine step_append_any _ rfl _ _ _ rfl base 146 i0 _ 3 40 Tryz.underlying62 hi hz0 hz1 hz2 rfl (Nat.zero_lt_succ 2) (.slice Ao n co) n xs2 rfl ((H2.out.pend_ HN.out).alloc _) _ _ 1 1 [.bool false, .int .i64 x, .slice (some ⟨gd, 0, none⟩) 64 64] rfl (newAt _ _ _ 3 _ rfl (by simp)) (op_one _ _ _ _ _) s2 s3 (by have := H2.out.bas; simp at this ⊢; omega) ?_; intro v4 w4 hown4 hg4 hat4; obtain ⟨A4, c4, rfl, -, -⟩ := own_form hown4; obtain ⟨y2, yf2⟩ := H2.out.pcells hg4; have HP := Lib.hid (WrR.sector (o := ⟨false, x, secL L x⟩) HRF.out HGR.out HCH.out HWJ.out hwb hgd hbd (secL_length _ _) (by decide) HN.out hg4 hown4 (by simpa using hat4)); clear hown4 hg4 hat4))))
              all_goals
                go_wp2
                go_roundw
                case rel => exact ⟨j + 1, r, by omega, Lib.hid HEN.out, by omega, rfl, Lib.hid HP.out⟩
                case measure => simp [intOf]; omega
      · obtain rfl : q = m := by omega
        have hjK : j = K := by
          rcases Nat.lt_or_ge j K with h | h
          · have := (HLT.out j).1 h; have := hq.out; omega
          · omega
        subst hjK
        have HR := Lib.hid (H.out.done_ (by rw [HBM.out]; exact Nat.le_refl _) (by rw [HWL.out]; exact Nat.le_refl _) HBA.out.1 HBA.out.2)
        clear H hq
        go_wp2
        go_ret
        exact ⟨rfl, HR.out⟩

end Go.Proofs.YtclglbddibjenaaGreat

/-
  LAYER 6: WHAT THE DOCUMENT'S OWN Crash DOES: its contract.
-/
set_option linter.unusedVariables false
set_option maxRecDepth 100000
set_option linter.unusedSimpArgs false
namespace Go.Proofs.YtclglbddibjenaaGreat
open Go.RowKit

/-- At the head of each round: what the first k have left. -/
structure CrR (w wr : World) (s : FS) (ks : List Bool) (k : Nat) (A : Option Addr) (n c : Nat) (L : List Int) : Prop where
  is_ : L = crashL s.safe (s.ops.take k) ks
  len : L.length = n
  own : wr.ownsRow w.heap.size 5 1 (.slice A n c) n (cellsOf .u8 L)
  below : Below w.heap.size w wr

section
variable {w wr w' : World} {s : FS} {ks : List Bool} {k n c N : Nat} {A : Option Addr} {L : List Int}
theorem CrR.stay (h : CrR w wr s ks k A n c L) (hk : k < s.ops.length) (hb : keepAt ks k = false) : CrR w wr s ks (k + 1) A n c L :=
  ⟨by rw [crashL_next hk, hb, h.is_]; rfl, h.len, h.own, h.below⟩
theorem CrR.step {o : OpV} {e : Ending} (h : CrR w wr s ks k A n c L) (ho : s.ops[k]? = some o) (hb : keepAt ks k = true) (hr : Gives (opDo L o) wr e w') :
    ∃ A' n' c', e = .returned (.slice A' n' c') ∧ CrR w w' s ks (k + 1) A' n' c' (opDo L o) := by
  obtain ⟨A', c', rfl, hown, hbx⟩ := hr
  obtain ⟨hlt, he⟩ := List.getElem?_eq_some_iff.1 ho
  exact ⟨A', _, c', rfl, by rw [crashL_next hlt, hb, if_pos rfl, ← h.is_, he], rfl, own_base hown h.below.size, h.below.trans (hbx.mono h.below.size)⟩
theorem CrR.size (h : CrR w wr s ks k A n c L) (hs : s.Good N) : n ≤ 1048576 := by
  have := (crashL_ok (s.ops.take k) s.safe ks hs.ok.safe hs.ok.sizeS (fun o ho => hs.ok.data o (List.mem_of_mem_take ho)) (fun o ho => hs.ok.n o (List.mem_of_mem_take ho))).2
  rw [← h.is_, h.len] at this
  exact this
theorem CrR.reads (h : CrR w wr s ks k A n c L) : Reads wr wr.heap.size 1 A n (cellsOf .u8 L) ∧ n ≤ c ∧ c ≤ 9223372036854775807 := by
  obtain ⟨A', c', e, h1, h2⟩ := own_form h.own
  injection e with e1 _ e3
  subst e1; subst e3
  exact ⟨Reads.of_own h.own, h1, by unfold maxLen at h2; omega⟩
end

/-- The cells of an op. -/
theorem RF.opCells {w w1 : World} {base p : Nat} {S : Nat → Prop} {s : FS} {nv sv : Value} {xs : List Value} {A : Option Addr} {q c j : Nat} {o : OpV} (h : RF w base S p s nv sv (.slice A q c) xs) (hq : q = s.ops.length) (hb : Below w.heap.size w w1) (ho : s.ops[j]? = some o) :
    ∃ g A' m c', A = some ⟨g, 0, none⟩ ∧ q ≤ c ∧ w1.cell? ⟨g, j * 3, none⟩ = some (.bool o.sz) ∧ w1.cell? ⟨g, j * 3 + 1, none⟩ = some (.int .i64 o.n) ∧ w1.cell? ⟨g, j * 3 + 2, none⟩ = some (.slice A' m c') ∧ Reads w1 w.heap.size 1 A' m (cellsOf .u8 o.data) ∧ m ≤ c' ∧ c' ≤ maxLen := by
  have hlt := (List.getElem?_eq_some_iff.1 ho).1
  have hp := h.pend_ hq
  obtain ⟨g, c2, hv, _, _⟩ := hp.form (by omega)
  obtain ⟨_, _, e, h1, _⟩ := own_form hp
  injection hv with hA _ hc
  injection e with _ _ e3
  subst hA; subst hc; subst e3
  obtain ⟨A', m, c', a1, a2, a3, a4, a5, a6, _⟩ := h.ops j o ho
  have hxl := hp.1
  have hp1 := (h.below hb).pend_ hq
  refine ⟨g, A', m, c', rfl, h1, ?_, ?_, ?_, a4.below hb, a5, a6⟩
  · rw [hp1.cellAt _ (by omega)]; exact a1
  · rw [hp1.cellAt _ (by omega)]; exact a2
  · rw [hp1.cellAt _ (by omega)]; exact a3

theorem CrR.out {w wr w2 : World} {base : Nat} {s : FS} {ks : List Bool} {k n c : Nat} {A A2 : Option Addr} {c2 : Nat} {L : List Int} (h : CrR w wr s ks k A n c L) (hk : ks.length ≤ k ∨ s.ops.length ≤ k) (hb : base ≤ w.heap.size)
    (hown : w2.ownsRow wr.heap.size 5 1 (.slice A2 n c2) n (cellsOf .u8 L)) (hbx : Below wr.heap.size wr w2) :
    RFnew base (s.crash ks) w (.returned (.pointer (some ⟨w2.heap.size, 0, none⟩))) (w2.alloc (.cells #[.slice A n c, .slice A2 n c2, .slice none 0 0] 64)) := by
  have hL : L = crashL s.safe s.ops ks := by rw [h.is_, crashL_take _ _ _ _ hk]
  have hs : s.crash ks = ⟨L, L, []⟩ := by rw [hL]; rfl
  have hsz : (w2.alloc (.cells #[.slice A n c, .slice A2 n c2, .slice none 0 0] 64)).heap.size = w2.heap.size + 1 := by simp
  have h1 := h.below.size
  have h2 := hbx.size
  have o1 := own_below h.own hbx
  refine ⟨w2.heap.size, .slice A n c, .slice A2 n c2, .slice none 0 0, [], rfl, (h.below.trans (hbx.mono h1)).alloc (by omega) _, ?_⟩
  rw [hs]
  refine ⟨fun k hk => ⟨by omega, hk.2⟩, by rw [hsz]; omega, ⟨by omega, by rw [hsz]; omega⟩, Blk.new _ _ _, ?_, ?_, World.ownsRow_nil _ _ _ _, fun j o ho => by simp at ho, ?_, ?_, fun g hg => by simp [Value.ownBlock] at hg, ?_⟩
  · show World.ownsRow _ base _ 1 _ L.length _
    rw [h.len]; exact own_base (o1.alloc _) hb
  · show World.ownsRow _ base _ 1 _ L.length _
    rw [h.len]; exact own_base (hown.alloc _) (by omega)
  · intro g hg; have := o1.lt g hg; rw [hsz]; omega
  · intro g hg; have := hown.lt g hg; rw [hsz]; omega
  · intro g hg hg2
    have := h.own.lt g hg
    have := hown.lt g hg2
    omega

end Go.Proofs.YtclglbddibjenaaGreat

/-
  LAYER 6: WHAT THE DOCUMENT'S OWN Crash DOES: its walk.
-/
set_option linter.unusedVariables false
set_option maxRecDepth 100000
set_option linter.unusedSimpArgs false
namespace Go.Proofs.YtclglbddibjenaaGreat
open Go.RowKit

set_option maxHeartbeats 2000000 in
theorem rcrash_any (p : Nat) (K : Option Addr) (m d : Nat) (ks : List Bool) (Bk base N : Nat) (S : Nat → Prop) (s : FS) (nv sv ov : Value) (xs : List Value) (w : World) (h : RF w base S p s nv sv ov xs) (hr : Reads w Bk 1 K m (cellsB ks)) (hB : Bk ≤ w.heap.size) (hmd : m ≤ d) (hdc : d ≤ 9223372036854775807) (hgd : s.Good N) (hN : N ≤ 1000000) :
    Calls Tryz.prog 79 #[.pointer (some ⟨p, 0, none⟩), .slice K m d, .int .i64 0] w (RFnew base (s.crash ks) w) := by
  obtain ⟨i0, hi, hz0, hz1, hz2⟩ := info_parts byteInfo
  obtain ⟨As, cs, rfl, hs1, hs2⟩ := own_form h.safe
  obtain ⟨Ap, cp, rfl, hp1, hp2⟩ := own_form h.pend
  have hlk : ks.length = m := by have := hr.1; rw [cellsB_length] at this; omega
  obtain ⟨m2, hm2⟩ : ∃ m2, m2 = s.safe.length := ⟨_, rfl⟩
  obtain ⟨q, hq⟩ : ∃ q, q = s.ops.length := ⟨_, rfl⟩
  have hq1 : q ≤ 1000000 := by have := hgd.few; omega
  rw [← hm2, ← hq] at h
  have hl2 : m2 ≤ 1048576 := by rw [hm2]; exact hgd.ok.sizeS
  have HSR := Lib.hid (h.safeR hm2)
  have H := Lib.hid h
  obtain ⟨-, d1, -⟩ := h.cells3 ((Below.refl _ _).alloc (Nat.le_refl _) (.cells #[] 5))
  have k2 : 0 + m2 ≤ maxLen := by unfold maxLen; omega
  have k3 : (0 + m2) * 1 ≤ 140737488355328 := by omega
  have HM2 := Lib.hid hm2
  have HQ := Lib.hid hq
  have HLK := Lib.hid hlk
  have HR := Lib.hid hr
  have HG := Lib.hid hgd
  clear h hm2 hq hlk hs1 hp1 hr hgd
  go_enter Tryz.func79, Tryz.ntmps79
  go_wp2_with (at_builtin; go_loud (refine wpList_append_any _ rfl (.tmp 9) (.tmp 13) _ rfl w.heap.size 5 i0 (.int .u8 0) 1 1 Tryz.underlying29 hi hz0 hz1 hz2 rfl (Nat.lt_succ_self 0) _ 0 [] rfl (World.ownsRow_lit w #[] 0 (Nat.le_refl _) (Nat.zero_le _) rfl) w.heap.size As m2 cs (cellsOf .u8 s.safe) rfl (HSR.out.1.alloc (Nat.le_refl _) _) (cellsOf_one _ _) k2 k3 (by simp) ?_; intro v1 w1 hown1 hg1 hat1; rw [Nat.zero_add, List.nil_append] at hown1; obtain ⟨A1, c1, rfl, hc1, hc2⟩ := own_form hown1; have hb1 := below_lit hg1; have HC0 := Lib.hid (show CrR w w1 s ks 0 A1 m2 c1 s.safe from ⟨by rw [List.take_zero]; rfl, HM2.out.symm, hown1, hb1⟩); clear hown1 hg1 hat1 hb1))
  clear d1 k2 k3
  go_loopw [7, 8] (fun l i wr => ∃ (k : Nat) (A : Option Addr) (n c : Nat) (L : List Int), k ≤ q ∧ i = .int .i64 k ∧ l = .slice A n c ∧ Hid (CrR w wr s ks k A n c L)) (fun _ i _ => q - (intOf i).toNat)
  case atStart => exact ⟨0, _, _, _, _, Nat.zero_le _, rfl, rfl, HC0⟩
  case round =>
    clear HC0
    obtain ⟨k, A, n, c, L, hk, rfl, rfl, C⟩ := hrel
    have hn6 := C.out.size HG.out
    obtain ⟨-, -, e2, -⟩ := H.out.cells3 C.out.below
    by_cases hlt : k < q
    · obtain ⟨o, ho⟩ : ∃ o, s.ops[k]? = some o := ⟨_, List.getElem?_eq_getElem (by rw [← HQ.out]; omega)⟩
      have kq : (k : Int) < (q : Int) := by omega
      have k0 : (0 : Int) ≤ (k : Int) := by omega
      have HO := Lib.hid ho
      by_cases hkm : k < m
      · obtain ⟨b, off, rfl, hbB, hc⟩ := HR.out.bools (by omega)
        obtain ⟨bt, hbt⟩ : ∃ bt, bt = keepAt ks k := ⟨_, rfl⟩
        have ck : wr.cell? ⟨b, off + k, none⟩ = some (.bool bt) := by rw [hbt]; exact (C.out.below.cell (p := ⟨b, off + k, none⟩) (by show b < _; omega)).trans (hc k hkm)
        have kmi : (k : Int) < (m : Int) := by omega
        cases bt with
        | false =>
          have HN := Lib.hid (C.out.stay (by rw [← HQ.out]; omega) hbt.symm)
          clear hbt ho hc
          go_wp2
          go_roundw
          case rel => exact ⟨k + 1, A, n, c, L, by omega, by go_num, rfl, HN⟩
          case measure => simp [intOf]; omega
        | true =>
          obtain ⟨gp, Ad, md, cd, rfl, hqc, y0, y1, y2, hrd, hmd2, hcd2⟩ := H.out.opCells HQ.out C.out.below ho
          have hon : o.n ≤ 1048576 := HG.out.ok.n o (List.mem_of_getElem? ho)
          have HBT := Lib.hid hbt.symm
          obtain ⟨on, hon2⟩ : ∃ on, on = o.n := ⟨_, rfl⟩
          rw [← hon2] at y1 hon
          have hcd3 : cd ≤ 9223372036854775807 := by unfold maxLen at hcd2; omega
          cases hsz : o.sz with
          | true =>
            rw [hsz] at y0
            have SZ := rsize_any A n c ((on : Nat) : Int) L wr.heap.size wr C.out.reads.1 (Nat.le_refl _) (by omega) C.out.reads.2.1 C.out.reads.2.2
            rw [Int.toNat_natCast, hon2, ← opDo_size' L o hsz, ← hon2] at SZ
            have SZH := Lib.hid SZ
            clear hbt ho hc SZ hsz hon2 hrd
            go_wp2_with (go_at_call 106; go_loud (refine SZH.out.mono ?_; rintro e w3 hg; obtain ⟨A3, n3, c3, rfl, hC3⟩ := C.out.step HO.out HBT.out hg; have HC3 := Lib.hid hC3; clear hg hC3))
            go_roundw
            case rel => exact ⟨k + 1, A3, n3, c3, _, by omega, by go_num, rfl, HC3⟩
            case measure => simp [intOf]; omega
          | false =>
            rw [hsz] at y0
            have ST := rset_any A n c ((on : Nat) : Int) L Ad md cd o.data wr.heap.size wr.drew C.out.reads.1.drew (hrd.more C.out.below.size).drew (Nat.le_refl _) C.out.reads.2.1 C.out.reads.2.2 (by omega) hmd2 hcd3
            rw [hon2, ← opDo_sec L o hsz, ← hon2] at ST
            have STH := Lib.hid ST
            clear hbt ho hc ST hsz hon2 hrd
            go_wp2
            go_region_law ((go_simp; go_at_call 108; go_loud (refine STH.out.mono ?_; rintro e w3 hg; obtain ⟨A3, n3, c3, rfl, hC3⟩ := CrR.step (wr := wr) C.out HO.out HBT.out (show Gives _ wr _ _ from ⟨_, _, hg.choose_spec.choose_spec.1, hg.choose_spec.choose_spec.2.1, below_drew0 (w := wr) hg.choose_spec.choose_spec.2.2⟩); have HC3 := Lib.hid hC3; clear hg hC3)))
            all_goals
              go_wp2
              go_roundw
              case rel => exact ⟨k + 1, A3, n3, c3, _, by omega, by go_num, rfl, HC3⟩
              case measure => simp [intOf]; omega
      · have HN := Lib.hid (C.out.stay (by rw [← HQ.out]; omega) (keepAt_out (by rw [HLK.out]; omega)))
        have kmi : ¬ (k : Int) < (m : Int) := by omega
        have kmi2 : (m : Int) ≤ (k : Int) := by omega
        clear ho
        go_wp2
        go_roundw
        case rel => exact ⟨k + 1, A, n, c, L, by omega, by go_num, rfl, HN⟩
        case measure => simp [intOf]; omega
    · obtain rfl : k = q := by omega
      have HKK := Lib.hid (show ks.length ≤ k ∨ s.ops.length ≤ k by have := HQ.out; omega)
      have s2 : 0 + n ≤ maxLen := by unfold maxLen; omega
      have s3 : (0 + n) * 1 ≤ 140737488355328 := by omega
      have CR := Lib.hid C.out.reads
      go_wp2_with (at_builtin; go_loud (refine wpList_append_any _ rfl (.tmp 76) (.tmp 77) _ rfl wr.heap.size 5 i0 (.int .u8 0) 1 1 Tryz.underlying29 hi hz0 hz1 hz2 rfl (Nat.lt_succ_self 0) _ 0 [] rfl (World.ownsRow_lit wr #[] 0 (Nat.le_refl _) (Nat.zero_le _) rfl) wr.heap.size A n c (cellsOf .u8 L) rfl (CR.out.1.alloc (Nat.le_refl _) _) (cellsOf_one _ _) s2 s3 (by simp) ?_; intro v1 w2 hown1 hg1 hat1; rw [Nat.zero_add, List.nil_append] at hown1; obtain ⟨A2, c2, rfl, hc1, hc2⟩ := own_form hown1; have hb1 := below_lit hg1; have HX := Lib.hid (C.out.out HKK.out H.out.bas hown1 hb1); clear hown1 hg1 hat1 hb1))
      go_ret
      exact HX.out

end Go.Proofs.YtclglbddibjenaaGreat

/-
  LAYER 6: WHAT THE DOCUMENT'S OWN Crash DOES: its walk.
-/
set_option linter.unusedVariables false
set_option maxRecDepth 100000
set_option linter.unusedSimpArgs false
namespace Go.Proofs.YtclglbddibjenaaGreat
open Go.RowKit

theorem keepAt_drop (ks : List Bool) (F k : Nat) : keepAt (ks.drop F) k = ks.getD (F + k) false := by
  unfold keepAt
  rw [List.getD_eq_getElem?_getD, List.getElem?_drop, ← List.getD_eq_getElem?_getD]

set_option maxHeartbeats 2000000 in
theorem rcrashF_any (p F : Nat) (hF : F ≤ 1000000000) (K : Option Addr) (m d : Nat) (ks : List Bool) (Bk base N : Nat) (S : Nat → Prop) (s : FS) (nv sv ov : Value) (xs : List Value) (w : World) (h : RF w base S p s nv sv ov xs) (hr : Reads w Bk 1 K m (cellsB ks)) (hB : Bk ≤ w.heap.size) (hmd : m ≤ d) (hdc : d ≤ 9223372036854775807) (hgd : s.Good N) (hN : N ≤ 1000000) :
    Calls Tryz.prog 79 #[.pointer (some ⟨p, 0, none⟩), .slice K m d, .int .i64 F] w (RFnew base (s.crash (ks.drop F)) w) := by
  obtain ⟨i0, hi, hz0, hz1, hz2⟩ := info_parts byteInfo
  obtain ⟨As, cs, rfl, hs1, hs2⟩ := own_form h.safe
  obtain ⟨Ap, cp, rfl, hp1, hp2⟩ := own_form h.pend
  have hlk : ks.length = m := by have := hr.1; rw [cellsB_length] at this; omega
  obtain ⟨m2, hm2⟩ : ∃ m2, m2 = s.safe.length := ⟨_, rfl⟩
  obtain ⟨q, hq⟩ : ∃ q, q = s.ops.length := ⟨_, rfl⟩
  have hq1 : q ≤ 1000000 := by have := hgd.few; omega
  rw [← hm2, ← hq] at h
  have hl2 : m2 ≤ 1048576 := by rw [hm2]; exact hgd.ok.sizeS
  have HSR := Lib.hid (h.safeR hm2)
  have H := Lib.hid h
  obtain ⟨-, d1, -⟩ := h.cells3 ((Below.refl _ _).alloc (Nat.le_refl _) (.cells #[] 5))
  have k2 : 0 + m2 ≤ maxLen := by unfold maxLen; omega
  have k3 : (0 + m2) * 1 ≤ 140737488355328 := by omega
  have HM2 := Lib.hid hm2
  have HQ := Lib.hid hq
  have HLK := Lib.hid hlk
  have HR := Lib.hid hr
  have HG := Lib.hid hgd
  clear h hm2 hq hlk hs1 hp1 hr hgd
  go_enter Tryz.func79, Tryz.ntmps79
  go_wp2_with (at_builtin; go_loud (refine wpList_append_any _ rfl (.tmp 9) (.tmp 13) _ rfl w.heap.size 5 i0 (.int .u8 0) 1 1 Tryz.underlying29 hi hz0 hz1 hz2 rfl (Nat.lt_succ_self 0) _ 0 [] rfl (World.ownsRow_lit w #[] 0 (Nat.le_refl _) (Nat.zero_le _) rfl) w.heap.size As m2 cs (cellsOf .u8 s.safe) rfl (HSR.out.1.alloc (Nat.le_refl _) _) (cellsOf_one _ _) k2 k3 (by simp) ?_; intro v1 w1 hown1 hg1 hat1; rw [Nat.zero_add, List.nil_append] at hown1; obtain ⟨A1, c1, rfl, hc1, hc2⟩ := own_form hown1; have hb1 := below_lit hg1; have HC0 := Lib.hid (show CrR w w1 s (ks.drop F) 0 A1 m2 c1 s.safe from ⟨by rw [List.take_zero]; rfl, HM2.out.symm, hown1, hb1⟩); clear hown1 hg1 hat1 hb1))
  clear d1 k2 k3
  go_loopw [7, 8] (fun l i wr => ∃ (k : Nat) (A : Option Addr) (n c : Nat) (L : List Int), k ≤ q ∧ i = .int .i64 k ∧ l = .slice A n c ∧ Hid (CrR w wr s (ks.drop F) k A n c L)) (fun _ i _ => q - (intOf i).toNat)
  case atStart => exact ⟨0, _, _, _, _, Nat.zero_le _, rfl, rfl, HC0⟩
  case round =>
    clear HC0
    obtain ⟨k, A, n, c, L, hk, rfl, rfl, C⟩ := hrel
    have hn6 := C.out.size HG.out
    obtain ⟨-, -, e2, -⟩ := H.out.cells3 C.out.below
    by_cases hlt : k < q
    · obtain ⟨o, ho⟩ : ∃ o, s.ops[k]? = some o := ⟨_, List.getElem?_eq_getElem (by rw [← HQ.out]; omega)⟩
      have kq : (k : Int) < (q : Int) := by omega
      have k0 : (0 : Int) ≤ (k : Int) := by omega
      have HO := Lib.hid ho
      by_cases hkm : F + k < m
      · obtain ⟨b, off, rfl, hbB, hc⟩ := HR.out.bools (by omega)
        obtain ⟨bt, hbt⟩ : ∃ bt, bt = keepAt (ks.drop F) k := ⟨_, rfl⟩
        have ck : wr.cell? ⟨b, off + (F + k), none⟩ = some (.bool bt) := by rw [hbt, keepAt_drop]; exact (C.out.below.cell (p := ⟨b, off + (F + k), none⟩) (by show b < _; omega)).trans (hc (F + k) hkm)
        have kmi : (F : Int) + (k : Int) < (m : Int) := by omega
        have kmn : F + k < m := hkm
        have kmj : ¬ (m : Int) ≤ (F : Int) + (k : Int) := by omega
        cases bt with
        | false =>
          have HN := Lib.hid (C.out.stay (by rw [← HQ.out]; omega) hbt.symm)
          clear hbt ho hc
          go_wp2
          go_roundw
          case rel => exact ⟨k + 1, A, n, c, L, by omega, by go_num, rfl, HN⟩
          case measure => simp [intOf]; omega
        | true =>
          obtain ⟨gp, Ad, md, cd, rfl, hqc, y0, y1, y2, hrd, hmd2, hcd2⟩ := H.out.opCells HQ.out C.out.below ho
          have hon : o.n ≤ 1048576 := HG.out.ok.n o (List.mem_of_getElem? ho)
          have HBT := Lib.hid hbt.symm
          obtain ⟨on, hon2⟩ : ∃ on, on = o.n := ⟨_, rfl⟩
          rw [← hon2] at y1 hon
          have hcd3 : cd ≤ 9223372036854775807 := by unfold maxLen at hcd2; omega
          cases hsz : o.sz with
          | true =>
            rw [hsz] at y0
            have SZ := rsize_any A n c ((on : Nat) : Int) L wr.heap.size wr C.out.reads.1 (Nat.le_refl _) (by omega) C.out.reads.2.1 C.out.reads.2.2
            rw [Int.toNat_natCast, hon2, ← opDo_size' L o hsz, ← hon2] at SZ
            have SZH := Lib.hid SZ
            clear hbt ho hc SZ hsz hon2 hrd
            go_wp2_with (go_at_call 106; go_loud (refine SZH.out.mono ?_; rintro e w3 hg; obtain ⟨A3, n3, c3, rfl, hC3⟩ := C.out.step HO.out HBT.out hg; have HC3 := Lib.hid hC3; clear hg hC3))
            go_roundw
            case rel => exact ⟨k + 1, A3, n3, c3, _, by omega, by go_num, rfl, HC3⟩
            case measure => simp [intOf]; omega
          | false =>
            rw [hsz] at y0
            have ST := rset_any A n c ((on : Nat) : Int) L Ad md cd o.data wr.heap.size wr.drew C.out.reads.1.drew (hrd.more C.out.below.size).drew (Nat.le_refl _) C.out.reads.2.1 C.out.reads.2.2 (by omega) hmd2 hcd3
            rw [hon2, ← opDo_sec L o hsz, ← hon2] at ST
            have STH := Lib.hid ST
            clear hbt ho hc ST hsz hon2 hrd
            go_wp2
            go_region_law ((go_simp; go_at_call 108; go_loud (refine STH.out.mono ?_; rintro e w3 hg; obtain ⟨A3, n3, c3, rfl, hC3⟩ := CrR.step (wr := wr) C.out HO.out HBT.out (show Gives _ wr _ _ from ⟨_, _, hg.choose_spec.choose_spec.1, hg.choose_spec.choose_spec.2.1, below_drew0 (w := wr) hg.choose_spec.choose_spec.2.2⟩); have HC3 := Lib.hid hC3; clear hg hC3)))
            all_goals
              go_wp2
              go_roundw
              case rel => exact ⟨k + 1, A3, n3, c3, _, by omega, by go_num, rfl, HC3⟩
              case measure => simp [intOf]; omega
      · have HN := Lib.hid (C.out.stay (by rw [← HQ.out]; omega) (keepAt_out (by rw [List.length_drop, HLK.out]; omega)))
        have kmi : ¬ (F : Int) + (k : Int) < (m : Int) := by omega
        have kmi2 : (m : Int) ≤ (F : Int) + (k : Int) := by omega
        clear ho
        go_wp2
        go_roundw
        case rel => exact ⟨k + 1, A, n, c, L, by omega, by go_num, rfl, HN⟩
        case measure => simp [intOf]; omega
    · obtain rfl : k = q := by omega
      have HKK := Lib.hid (show (ks.drop F).length ≤ k ∨ s.ops.length ≤ k by have := HQ.out; omega)
      have s2 : 0 + n ≤ maxLen := by unfold maxLen; omega
      have s3 : (0 + n) * 1 ≤ 140737488355328 := by omega
      have CR := Lib.hid C.out.reads
      go_wp2_with (at_builtin; go_loud (refine wpList_append_any _ rfl (.tmp 76) (.tmp 77) _ rfl wr.heap.size 5 i0 (.int .u8 0) 1 1 Tryz.underlying29 hi hz0 hz1 hz2 rfl (Nat.lt_succ_self 0) _ 0 [] rfl (World.ownsRow_lit wr #[] 0 (Nat.le_refl _) (Nat.zero_le _) rfl) wr.heap.size A n c (cellsOf .u8 L) rfl (CR.out.1.alloc (Nat.le_refl _) _) (cellsOf_one _ _) s2 s3 (by simp) ?_; intro v1 w2 hown1 hg1 hat1; rw [Nat.zero_add, List.nil_append] at hown1; obtain ⟨A2, c2, rfl, hc1, hc2⟩ := own_form hown1; have hb1 := below_lit hg1; have HX := Lib.hid (C.out.out HKK.out H.out.bas hown1 hb1); clear hown1 hg1 hat1 hb1))
      go_ret
      exact HX.out

end Go.Proofs.YtclglbddibjenaaGreat
