/-
  WHAT Add OF A SUM IN THE MAKING DOES: it takes all bytes in, one behind the other.
-/
import Derived.Test.YtoghmjnnbmeboaaMixSum
import Derived.Deep.RegionLaw
import Derived.StillTailTactics
set_option linter.unusedVariables false
set_option linter.unusedSimpArgs false
namespace Go.Proofs.Ytoghmjnnbmeboaa
open Go.RowKit

/-- copy into a block that is known whole, as a step of a region that draws its order: that block alone turns. -/
theorem step_copy_blk {P : Program} {ops : Array Oper} {o : Oper} {a : Act} {w : World} {K : Act → World → Prop} {Q : Exit → Act → World → Prop} {E : Prop} (hgd : o.guard = none) (d s : Operand) (dT sT : TypeId)
    (ho : o.op = .call { callee := .builtin .copy, args := #[d, s], argTypes := #[dT, sT] }) (elem : TypeId) (hu : P.underlying dT = some (.slice elem)) (hsz : (P.info? elem).map (·.size) = some 1)
    (dp sp : Option Addr) (dLen dCap sLen sCap : Nat) (hd : a.eval d = .slice dp dLen dCap) (hs : a.eval s = .slice sp sLen sCap)
    (g off q : Nat) (cur : List Value) (t : TypeId) (hg : Blk w g t cur.toArray) (cs : List Value) (hq : cs.length = q) (hn : q = Nat.min sLen dLen)
    (hpos : 0 < q → dp = some ⟨g, off, none⟩ ∧ ∃ ad, sp = some ad ∧ ∀ j v, cs[j]? = some v → w.cell? (ad.add j) = some v)
    (hfit : off + q ≤ cur.length) (h1 : ∀ v ∈ cs, v.oneCell' = true)
    (h : ∀ w', Hid (Blk w' g t (splice cur off cs).toArray) → Chg (fun k => k = g) w w' → K (a.put o.dst (.int .i64 q)) w') :
    if Region.wanted o (yielded ops a.tmps) = true then Oper.wp P o a w K Q else E := by
  subst hq
  have hw : Region.wanted o (yielded ops a.tmps) = true := by simp [Region.wanted, hgd]
  rw [if_pos hw]
  by_cases h0 : cs.length = 0
  · obtain rfl : cs = [] := List.eq_nil_of_length_eq_zero h0
    have hrun := run_copy_none (P := P) w dT sT o.type elem dp sp dLen dCap sLen sCap hu hsz (by simpa using hn.symm)
    unfold Oper.wp
    simp [execOp, ho, resolve, invoke, builtin, hd, hs, hrun, Result.andThen]
    exact h w (show Blk _ _ _ _ by rw [show splice cur off [] = cur by simp [splice]]; exact hg) (Chg.refl _ _)
  · obtain ⟨rfl, ad, rfl, hsrc⟩ := hpos (by omega)
    have hrun := run_copy_row (P := P) w dT sT o.type elem g off dLen dCap ad sLen sCap cur.toArray t cs hu hsz hg hn hsrc (by simpa using hfit) h1
    unfold Oper.wp
    simp [execOp, ho, resolve, invoke, builtin, hd, hs, hrun, Result.andThen]
    refine h _ (show _ = _ by simpa [splice] using setRow_heap w g _ _ t _ hg) ⟨rfl, rfl, rfl, by simp [World.setRow], fun k hk hne => setRow_other w g k _ hne⟩

/-- A whole array (or struct) stored into the midst of a block that is known whole: that block alone turns. -/
theorem wpList_store_blk {P : Program} {ops : Array Oper} {rest : List Oper} {op : Oper} {a : Act} {w : World} {Q : Exit → Act → World → Prop} (hgd : op.guard = none) (ty : TypeId) (x y : Operand) (ho : op.op = .store ty x y)
    (g off : Nat) (hx : a.eval x = .pointer (some ⟨g, off, none⟩)) (cs : List Value) (hy : a.eval y = .agg cs.toArray) (cur : List Value) (t : TypeId) (hg : Blk w g t cur.toArray)
    (hi : (P.info? ty).map (·.size) = some cs.length) (hfit : off + cs.length ≤ cur.length) (h1 : ∀ v ∈ cs, v.oneCell' = true)
    (h : ∀ w', Hid (Blk w' g t (splice cur off cs).toArray) → Chg (fun k => k = g) w w' → wpList P ops Q rest a w') (hdst : op.dst = none) : wpList P ops Q (op :: rest) a w := by
  have hst := run_storeCells_at P g off t cs 0 cur.toArray w hg (by simpa using hfit) h1
  have hrun : (storeVar ty ⟨g, off, none⟩ (.agg cs.toArray)).run P w = .ok () (w.setRow g (splice cur off cs).toArray) := by
    cases hq : P.info? ty with
    | none => simp [hq] at hi
    | some i =>
      have hs : cs.length = i.size := by simp [hq] at hi; omega
      simp only [Nat.add_zero] at hst
      simp [storeVar, sizeOf, typeInfo, hq, Value.cells, hs, hst, splice]
  refine wpList_plain hgd fun K hK => ?_
  unfold Oper.wp execOp
  simp only [ho, hx, hy, Instr.storeAt, Instr.sureAddr, Sem.run_bind, Sem.run_pure, Result.andThen_ok, hrun]
  have hp : a.put op.dst undef = a := by rw [hdst]; rfl
  show K (a.put op.dst undef) _
  rw [hp]
  exact hK _ _ (h _ (show _ = _ from setRow_heap w g _ _ t _ hg) ⟨rfl, rfl, rfl, by simp [World.setRow], fun k hk hne => setRow_other w g k _ hne⟩)

/-- What holds at the head of each round: xs has been taken in, ys is left. -/
structure AddAt (w0 w : World) (B g : Nat) (key : Int) (A : Option Addr) (m c : Nat) (xs ys : List Int) : Prop where
  sm : Sm w g key xs
  reads : Reads w B 1 A m (cellsOf .u8 ys)
  ne : 0 < m → ∀ ad, A = some ad → ad.block ≠ g
  bytes : AreB ys
  le : m ≤ c
  cap : c ≤ 9223372036854775807
  small : xs.length + m ≤ 4611686018427387904
  low : B ≤ w.heap.size
  chg : Chg (fun k => k = g) w0 w

theorem splice_all (l z : List Int) (h : l.length ≤ z.length) : splice l 0 z = z := by
  unfold splice
  rw [List.drop_eq_nil_of_le (by omega)]
  simp

theorem splice_rest {xs ys : List Int} (h : xs.length % 8 + ys.length ≤ 8) :
    splice (rest8 xs ++ List.replicate (8 - xs.length % 8) 0) (xs.length % 8) ys = rest8 xs ++ ys ++ List.replicate (8 - xs.length % 8 - ys.length) 0 := by
  have hr := rest8_length xs
  unfold splice
  rw [List.take_append_of_le_length (by omega), List.take_of_length_le (by omega), List.drop_append, List.drop_eq_nil_of_le (by omega), List.drop_replicate, hr]
  simp only [List.nil_append, List.append_assoc]
  congr 3
  omega

/-- What does not fill the word. -/
theorem sm_less {w : World} {g : Nat} {key : Int} {xs ys : List Int} (h : xs.length % 8 + ys.length < 8) (hx : AreB xs) (hy : AreB ys)
    (hb : Blk w g 40 (smc (hst key xs (xs.length / 8)) (splice (rest8 xs ++ List.replicate (8 - xs.length % 8) 0) (xs.length % 8) ys) ((xs.length : Int) + (ys.length : Int))).toArray) : Sm w g key (xs ++ ys) := by
  obtain ⟨h1, h2⟩ := rest8_less h
  refine ⟨?_, hx.append hy⟩
  rw [splice_rest (by omega)] at hb
  rw [h1, h2, hst_append _ _ _ _ (by omega), List.length_append, show 8 - (xs.length + ys.length) % 8 = 8 - xs.length % 8 - ys.length by omega, Int.natCast_add]
  exact hb

/-- What fills the word. -/
theorem sm_full {w : World} {g : Nat} {key : Int} {xs ys : List Int} (h : xs.length % 8 + ys.length = 8) (hx : AreB xs) (hy : AreB ys)
    (hb : Blk w g 40 (smc (stir (hst key xs (xs.length / 8)) (lev (rest8 xs ++ ys))) (List.replicate 8 0) ((xs.length : Int) + (ys.length : Int))).toArray) : Sm w g key (xs ++ ys) := by
  obtain ⟨h1, h2, h3⟩ := rest8_full h key
  refine ⟨?_, hx.append hy⟩
  rw [h1, h2, h3, List.length_append, show 8 - (xs.length + ys.length) % 8 = 8 by omega, Int.natCast_add]
  exact hb

theorem AddAt.next {w0 w w' : World} {B g : Nat} {key : Int} {A : Option Addr} {m c q : Nat} {xs ys : List Int} (h : AddAt w0 w B g key A m c xs ys) (hq : q ≤ m) (hc : Chg (fun k => k = g) w w') (hs : Sm w' g key (xs ++ ys.take q)) :
    AddAt w0 w' B g key (if c = q then A else A.map (·.add q)) (m - q) (c - q) (xs ++ ys.take q) (ys.drop q) := by
  have hl := h.le
  have hyl := h.reads.len
  have hcut := h.reads.cut (k := q) (cap := c) hq hl
  rw [Nat.mul_one, cellsOf_drop] at hcut
  have hne : 0 < m - q → ∀ ad, (if c = q then A else A.map (·.add q)) = some ad → ad.block ≠ g := fun h0 ad e => by
    rw [if_neg (by omega)] at e
    obtain ⟨ad0, e0, _⟩ := h.reads.2 (by omega)
    rw [e0] at e
    simp at e
    rw [← e, block_of_add]
    exact h.ne (by omega) ad0 e0
  refine ⟨hs, hcut.chg hc h.low hne, hne, h.bytes.drop q, by omega, by have := h.cap; omega, ?_, Nat.le_trans h.low hc.size, h.chg.trans hc (fun _ _ e => e)⟩
  have := h.small
  rw [List.length_append, List.length_take]
  omega

/-- A slice's length. -/
def slen : Value → Nat
  | .slice _ n _ => n
  | _ => 0

theorem arrSize : (Try.prog.info? 38).map (·.size) = some (cellsOf .u8 (List.replicate 8 0)).length := by kernel_rfl
theorem byteOne : (Try.prog.info? 5).map (·.size) = some 1 := by kernel_rfl

set_option maxHeartbeats 1000000 in
theorem add_any {B : Nat} (g : Nat) (key : Int) (zs : List Int) (A : Option Addr) (len cap : Nat) (bs : List Int) (w : World) (h : Sm w g key zs) (hr : Reads w B 1 A len (cellsOf .u8 bs)) (hB : B ≤ w.heap.size)
    (hne : 0 < len → ∀ ad, A = some ad → ad.block ≠ g) (hz : AreB bs) (hl : len ≤ cap) (hcap : cap ≤ 9223372036854775807) (hn : zs.length + len ≤ 4611686018427387904) :
    Calls Try.prog 10 #[.pointer (some ⟨g, 0, none⟩), .slice A len cap] w fun e w' => e = .returned (.tuple #[]) ∧ Sm w' g key (zs ++ bs) ∧ Chg (fun k => k = g) w w' := by
  have H0 : AddAt w w B g key A len cap zs bs := ⟨h, hr, hne, hz, hl, hcap, hn, hB, Chg.refl _ _⟩
  clear h hr hne hz hB
  go_enter Try.func10, Try.ntmps10
  go_wp2
  go_loopw [1, 4] (fun b _ wr => ∃ (m c : Nat) (A' : Option Addr) (xs ys : List Int), Hid (xs ++ ys = zs ++ bs) ∧ b = .slice A' m c ∧ AddAt w wr B g key A' m c xs ys)
    (fun b _ _ => slen b)
  case atStart => exact ⟨len, cap, A, zs, bs, rfl, rfl, H0⟩
  case round =>
    obtain ⟨m, c, A', xs, ys, hxy, rfl, H⟩ := hrel
    clear H0
    have hyl := H.reads.len
    by_cases hlt : 0 < m
    · obtain ⟨k, hk⟩ : ∃ k, k = xs.length % 8 := ⟨_, rfl⟩
      obtain ⟨q, hq⟩ : ∃ q, q = min m (8 - k) := ⟨_, rfl⟩
      obtain ⟨n, hnn⟩ : ∃ n, n = xs.length := ⟨_, rfl⟩
      obtain ⟨news, hnews⟩ : ∃ news, news = cellsOf .u8 (ys.take q) := ⟨_, rfl⟩
      obtain ⟨left, hleft⟩ : ∃ left, left = rest8 xs ++ List.replicate (8 - xs.length % 8) 0 := ⟨_, rfl⟩
      obtain ⟨s, hs⟩ : ∃ s, s = hst key xs (xs.length / 8) := ⟨_, rfl⟩
      have hbl : Blk wr g 40 (smc s left n).toArray := by rw [hs, hleft, hnn]; exact H.sm.blk
      have h8 : left.length = 8 := hleft ▸ left_length xs
      have htl : (ys.take q).length = q := by rw [List.length_take]; omega
      have hnl : news.length = q := by rw [hnews, cellsOf_length, htl]
      have hone : ∀ v ∈ news, v.oneCell' = true := hnews ▸ cellsOf_one _ _
      have hsp : splice (smc s left n) (1 + k) news = smc s (splice left k (ys.take q)) n := by rw [hnews]; exact smc_splice _ _ _ _ _ h8 (by omega)
      have h8' : (splice left k (ys.take q)).length = 8 := by rw [length_splice _ _ _ (by omega)]; exact h8
      have hk8 : k < 8 := by omega
      have hl2 : AreB (splice left k (ys.take q)) := by
        rw [hleft, hk, splice_rest (by omega)]
        exact ((rest8_bytes H.sm.bytes).append (H.bytes.take q)).append (AreB.zeros _)
      have hLess : k + q < 8 → ∀ w', Blk w' g 40 (smc s (splice left k (ys.take q)) ((n : Int) + q)).toArray → Sm w' g key (xs ++ ys.take q) := fun hlt w' hb => by
        refine sm_less (by omega) H.sm.bytes (H.bytes.take q) ?_
        rw [hs, hleft, hk, hnn] at hb
        rw [htl]
        exact hb
      have hFull : k + q = 8 → ∀ w', Blk w' g 40 (smc (stir s (lev (splice left k (ys.take q)))) (List.replicate 8 0) ((n : Int) + q)).toArray → Sm w' g key (xs ++ ys.take q) := fun hlt w' hb => by
        refine sm_full (by omega) H.sm.bytes (H.bytes.take q) ?_
        rw [hs, hleft, hk, hnn, splice_rest (by omega), lev_pad] at hb
        rw [htl]
        exact hb
      have hu1 : IsU s := hs ▸ hst_isU _ _ _
      have hq1 : 0 < q := by omega
      have hfit : 1 + k + q ≤ (smc s left n).length := by rw [smc_length]; omega
      have hmin : q = Nat.min m (8 - k) := hq
      have c9 : wr.cell? ⟨g, 9, none⟩ = some (.int .i64 n) := by rw [hbl.cell, List.getElem?_toArray]; exact smc_9 _ _ _ h8
      have hsrc : 0 < q → ∃ ad, A' = some ad ∧ ∀ j v, news[j]? = some v → wr.cell? (ad.add j) = some v := fun _ => by
        obtain ⟨ad, e, _, hc⟩ := H.reads.2 (by omega)
        refine ⟨ad, e, fun j v hj => hc j v ?_⟩
        rw [hnews] at hj
        simp only [cellsOf, List.map_take, List.getElem?_take] at hj
        split at hj
        · exact hj
        · cases hj
      have ht : (n : Int).tmod 8 = (k : Int) := by rw [Int.tmod_eq_emod_of_nonneg (by omega)]; omega
      have hsm := H.small
      have hle := H.le
      have hcc := H.cap
      have i1 : (0 : Int) ≤ (k : Int) := by omega
      have i2 : (k : Int) ≤ 8 := by omega
      have i3 : (q : Int) ≤ (m : Int) := by omega
      have i5 : ¬ (8 = k) := by omega
      have i4 : n + q ≤ 4611686018427387904 := by omega
      obtain ⟨A2, hA2⟩ : ∃ A2, (if c = q then A' else A'.map (·.add q)) = A2 := ⟨_, rfl⟩
      have HK := Lib.hid hk
      have HQ := Lib.hid hq
      have HN := Lib.hid hnn
      have HW := Lib.hid hnews
      have HLF := Lib.hid hleft
      have HSS := Lib.hid hs
      have H8 := Lib.hid h8
      have HTL := Lib.hid htl
      have HNL := Lib.hid hnl
      have HSP := Lib.hid hsp
      have H8' := Lib.hid h8'
      have HON := Lib.hid hone
      have HSRC := Lib.hid hsrc
      have HYL := Lib.hid hyl
      have HMIN := Lib.hid hmin
      have HLESS := Lib.hid hLess
      have HFULL := Lib.hid hFull
      clear hLess hFull
      clear hk hq hnn hnews hleft hs h8 htl hnl hsp h8' hone hsrc hyl hmin
      go_wp2
      go_region_law (refine step_copy_blk rfl _ _ _ _ rfl 5 Try.underlying23 byteOne _ _ _ _ _ _ rfl rfl g (1 + k) q (smc s left n) 40 hbl.drew news HNL.out HMIN.out (fun h0 => ⟨rfl, HSRC.out h0⟩) hfit HON.out ?_; intro w1 HG1 hc1; have hb1 : Blk w1 g 40 (smc s (splice left k (ys.take q)) n).toArray := (by rw [← HSP.out]; exact HG1.out); have c91 : w1.cell? ⟨g, 9, none⟩ = some (.int .i64 n) := (by rw [hb1.cell, List.getElem?_toArray]; exact smc_9 _ _ _ H8'.out); have f91 := hb1.frozen 9)
      have hb2 : Blk (w1.setCell ⟨g, 9, none⟩ (.int .i64 (n + q))) g 40 (smc s (splice left k (ys.take q)) (n + q)).toArray := by
        have := hb1.set_ 9 (.int .i64 (n + q))
        rwa [smc_set9 _ _ _ _ H8'.out] at this
      have hc2 : Chg (fun k => k = g) wr (w1.setCell ⟨g, 9, none⟩ (.int .i64 (n + q))) := hc1.drew0.setCell (.inr rfl) _
      by_cases hf : k + q = 8
      · have hT : (((n : Int) + q) % 8 == 0) = true := by
          have e1 := HK.out
          have e2 := HN.out
          have e3 : (n + q) % 8 = 0 := by omega
          simp
          omega
        go_wp2_with (fail)
        generalize w1.setCell ⟨g, 9, none⟩ (.int .i64 (n + q)) = w2 at hb2 hc2 ⊢
        have c02 : w2.cell? ⟨g, 0, none⟩ = some (.int .u64 s) := by rw [hb2.cell, List.getElem?_toArray]; rfl
        have f02 := hb2.frozen 0
        have hu2 := lev_isU hl2 (by rw [H8'.out]; omega)
        go_region_law ((first
          | (go_simp; go_at_call 16; refine (word_any g s (n + q) (splice left k (ys.take q)) _ hb2.drew hl2 H8'.out).mono ?_; rintro e w3 ⟨rfl, rfl⟩)
          | (go_simp; go_at_call 15; refine (stir_any s (lev (splice left k (ys.take q))) _ hu1 hu2).mono ?_; rintro e w3 ⟨rfl, rfl⟩)))
        all_goals
          have hb3 : Blk (w2.setCell ⟨g, 0, none⟩ (.int .u64 (stir s (lev (splice left k (ys.take q)))))).drew g 40 (smc (stir s (lev (splice left k (ys.take q)))) (splice left k (ys.take q)) (n + q)).toArray := by
            have := hb2.set_ 0 (.int .u64 (stir s (lev (splice left k (ys.take q)))))
            rw [smc_set0] at this
            exact this.drew
          have hc3 : Chg (fun k => k = g) wr (w2.setCell ⟨g, 0, none⟩ (.int .u64 (stir s (lev (splice left k (ys.take q)))))).drew := (hc2.setCell (.inr rfl) _).drew
          generalize (w2.setCell ⟨g, 0, none⟩ (.int .u64 (stir s (lev (splice left k (ys.take q)))))).drew = w3 at hb3 hc3 ⊢
          have hsf : 1 + (cellsOf .u8 (List.replicate 8 0)).length ≤ (smc (stir s (lev (splice left k (ys.take q)))) (splice left k (ys.take q)) (n + q)).length := by rw [smc_length, H8'.out]; decide
          go_wp2_with (refine wpList_store_blk (op := ⟨none, .store 38 (.tmp 49) (.tmp 47), _, _, _, _⟩) rfl 38 _ _ rfl g 1 rfl (cellsOf .u8 (List.replicate 8 0)) rfl (smc (stir s (lev (splice left k (ys.take q)))) (splice left k (ys.take q)) (n + q)) 40 hb3 arrSize hsf (cellsOf_one _ _) ?_ rfl; intro w4 hb4 hc4)
          have hb5 : Blk w4 g 40 (smc (stir s (lev (splice left k (ys.take q)))) (List.replicate 8 0) (n + q)).toArray := by
            have := hb4.out
            rwa [smc_splice _ _ _ _ 0 H8'.out (by decide), splice_all _ _ (by rw [H8'.out]; decide)] at this
          have hnx := H.next (q := q) (by omega) (hc3.trans hc4 (fun _ _ e => e)) (HFULL.out hf _ hb5)
          rw [hA2] at hnx
          go_roundw
          case rel => exact ⟨m - q, c - q, A2, _, _, by show _ = _; rw [List.append_assoc, List.take_append_drop]; exact hxy.out, rfl, hnx⟩
          case measure => simp [slen]; omega
      · have hT : (((n : Int) + q) % 8 == 0) = false := by
          have e1 := HK.out
          have e2 := HN.out
          have e4 := HQ.out
          have e3 : (n + q) % 8 ≠ 0 := by omega
          simp
          omega
        go_wp2_with (fail)
        go_roundw
        case rel =>
          have hnx := H.next (q := q) (by omega) hc2 (HLESS.out (by have := HQ.out; omega) _ hb2)
          rw [hA2] at hnx
          exact ⟨m - q, c - q, A2, _, _, by show _ = _; rw [List.append_assoc, List.take_append_drop]; exact hxy.out, rfl, hnx⟩
        case measure => simp [slen]; omega
    · obtain rfl : m = 0 := by omega
      have hys : ys = [] := List.eq_nil_of_length_eq_zero hyl
      subst hys
      go_wp2
      go_end0
      have := H.sm
      rw [← List.append_nil xs, hxy.out] at this
      exact ⟨rfl, this, H.chg⟩

end Go.Proofs.Ytoghmjnnbmeboaa
