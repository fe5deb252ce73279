/-
  WHAT Pieces OF PACKAGE sector DOES: its contract.
-/
import Derived.Test.YtdpoffedmafmhaaSecFn
import Derived.Test.YtdpoffedmafmhaaCopyBlk
set_option linter.unusedVariables false
set_option linter.unusedSimpArgs false
namespace Go.Proofs.Ytdpoffedmafmhaa
open Go.RowKit

/-- What a reader is told of cells that hold pieces: the first k of them; S is the first sector, f the place in it. -/
structure PcR (w : World) (xs : List Value) (S f : Nat) (bs : List Int) (k : Nat) : Prop where
  at_ : ∀ j, j < k → ∃ A n c, xs[j * 3]? = some (.int .i64 ((S : Int) + (j : Int))) ∧ xs[j * 3 + 1]? = some (.int .i64 (f - 64 * j : Nat)) ∧ xs[j * 3 + 2]? = some (.slice A n c) ∧
    Reads w w.heap.size 1 A n (cellsOf .u8 (pcD f bs j)) ∧ n ≤ c ∧ c ≤ maxLen

/-- A function has told pieces. -/
def GivesP (t : TypeId) (S f : Nat) (bs : List Int) (k : Nat) (w : World) (e : Ending) (w' : World) : Prop :=
  ∃ A c xs, e = .returned (.slice A k c) ∧ w'.ownsRow w.heap.size t 3 (.slice A k c) k xs ∧ PcR w' xs S f bs k ∧ Below w.heap.size w w'

theorem GivesP.none_ (t : TypeId) (S f : Nat) (bs : List Int) (w : World) : GivesP t S f bs 0 w (.returned (.slice none 0 0)) w :=
  ⟨none, 0, [], rfl, World.ownsRow_nil _ _ _ _, ⟨fun j hj => by omega⟩, Below.refl _ _⟩

theorem pieceInfo : (Try.prog.info? 64).map (fun i => (i.zero, i.size, i.bytes)) = some (some (.agg #[.int .i64 0, .int .i64 0, .slice none 0 0]), 3, 40) := by kernel_rfl
theorem pieceSize : (Try.prog.info? 64).map (·.size) = some 3 := by kernel_rfl

theorem blk_of_full3 {w : World} {base g n : Nat} {e : TypeId} {xs : List Value} (h : w.ownsRow base e 3 (.slice (some ⟨g, 0, none⟩) n n) n xs) : Blk w g e xs.toArray := by
  rcases h.2 with ⟨hv, _⟩ | ⟨g', cap, cur, hv, _, hg, _, _, hs, ht⟩
  · injection hv with h1; cases h1
  · injection hv with h1 _ h3
    injection h1 with h1
    injection h1 with h1
    subst h1; subst h3
    rw [List.take_of_length_le (by simp; omega)] at ht
    subst ht
    exact hg
theorem own_of_blk3 {w : World} {base g n : Nat} {e : TypeId} {xs : List Value} (h : Blk w g e xs.toArray) (hl : xs.length = 3 * n) (hb : base ≤ g) (hn : n ≤ maxLen) : w.ownsRow base e 3 (.slice (some ⟨g, 0, none⟩) n n) n xs :=
  ⟨by omega, .inr ⟨g, n, _, rfl, hb, h, Nat.le_refl _, hn, by rw [List.size_toArray]; omega, List.take_of_length_le (by show xs.length ≤ n * 3; omega)⟩⟩

/-- At the head of each round: the first k pieces stand. -/
structure PcAt (w0 wr : World) (g : Nat) (S f : Nat) (bs : List Int) (n k : Nat) (cur : List Value) : Prop where
  blk : Blk wr g 64 cur.toArray
  len : cur.length = 3 * n
  at_ : ∀ j, j < k → ∃ h, w0.heap.size ≤ h ∧ cur[j * 3]? = some (.int .i64 ((S : Int) + (j : Int))) ∧ cur[j * 3 + 1]? = some (.int .i64 (f - 64 * j : Nat)) ∧
    cur[j * 3 + 2]? = some (.slice (some ⟨h, 0, none⟩) (pcD f bs j).length (pcD f bs j).length) ∧ Blk wr h 5 (cellsOf .u8 (pcD f bs j)).toArray
  below : Below w0.heap.size w0 wr
  le : w0.heap.size ≤ g

theorem get_splice3 {l : List Value} {off j : Nat} {a b c : Value} (h : off + 3 ≤ l.length) : (splice l off [a, b, c])[j]? = if j = off then some a else if j = off + 1 then some b else if j = off + 2 then some c else l[j]? := by
  unfold splice
  rw [List.getElem?_append, List.getElem?_append, List.length_take]
  by_cases h0 : j < off
  · rw [if_pos (by omega), if_neg (by omega), if_neg (by omega), if_neg (by omega), List.getElem?_take, if_pos h0]
  · rw [if_neg (by omega)]
    have e : min off l.length = off := by omega
    rw [e]
    by_cases h1 : j < off + 3
    · rw [if_pos (by simp; omega)]
      obtain h2 | h2 | h2 : j = off ∨ j = off + 1 ∨ j = off + 2 := by omega
      · rw [if_pos h2, h2]; simp
      · rw [if_neg (by omega), if_pos h2, h2]
        rw [show off + 1 - off = 1 by omega]; rfl
      · rw [if_neg (by omega), if_neg (by omega), if_pos h2, h2]
        rw [show off + 2 - off = 2 by omega]; rfl
    · rw [if_neg (by simp; omega), if_neg (by omega), if_neg (by omega), if_neg (by omega), List.getElem?_drop]
      congr 1
      simp
      omega

/-- The next piece is laid. -/
theorem PcAt.next {w0 wr w1 w2 : World} {g S f n k h : Nat} {bs : List Int} {cur : List Value} (H : PcAt w0 wr g S f bs n k cur) (hk : k < n) (hB : Below wr.heap.size wr w1) (hg : wr.heap.size ≤ h)
    (hb : Blk w1 h 5 (cellsOf .u8 (pcD f bs k)).toArray) (hb2 : Blk w2 g 64 (splice cur (k * 3) [.int .i64 ((S : Int) + (k : Int)), .int .i64 (f - 64 * k : Nat), .slice (some ⟨h, 0, none⟩) (pcD f bs k).length (pcD f bs k).length]).toArray)
    (hc : Chg (fun j => j = g) w1 w2) : PcAt w0 w2 g S f bs n (k + 1) (splice cur (k * 3) [.int .i64 ((S : Int) + (k : Int)), .int .i64 (f - 64 * k : Nat), .slice (some ⟨h, 0, none⟩) (pcD f bs k).length (pcD f bs k).length]) := by
  have hl := H.len
  have hgl := H.blk.lt
  have hs := H.below.size
  refine ⟨hb2, by rw [length_splice _ _ _ (by simp; omega), hl], fun j hj => ?_, chg_below2 (H.below.trans (hB.mono hs)) hc H.le (Nat.le_trans hs hB.size), H.le⟩
  by_cases hjk : j = k
  · subst hjk
    refine ⟨h, by omega, ?_, ?_, ?_, hb.chg hc (fun e => by omega)⟩
    · rw [get_splice3 (by omega), if_pos rfl]
    · rw [get_splice3 (by omega), if_neg (by omega), if_pos rfl]
    · rw [get_splice3 (by omega), if_neg (by omega), if_neg (by omega), if_pos rfl]
  · obtain ⟨h', h1, h2, h3, h4, h5⟩ := H.at_ j (by omega)
    refine ⟨h', h1, ?_, ?_, ?_, (h5.below hB h5.lt).chg hc (fun e => ?_)⟩
    · rw [get_splice3 (by omega), if_neg (by omega), if_neg (by omega), if_neg (by omega)]; exact h2
    · rw [get_splice3 (by omega), if_neg (by omega), if_neg (by omega), if_neg (by omega)]; exact h3
    · rw [get_splice3 (by omega), if_neg (by omega), if_neg (by omega), if_neg (by omega)]; exact h4
    · subst e
      exact Blk.ne_ h5 H.blk (by decide) rfl

theorem PcAt.gives {w0 wr : World} {g S f n : Nat} {bs : List Int} {cur : List Value} (H : PcAt w0 wr g S f bs n n cur) (hn : n ≤ maxLen) (hl : bs.length ≤ maxLen) : GivesP 64 S f bs n w0 (.returned (.slice (some ⟨g, 0, none⟩) n n)) wr := by
  refine ⟨_, _, cur, rfl, own_of_blk3 H.blk H.len H.le hn, ⟨fun j hj => ?_⟩, H.below⟩
  obtain ⟨h', h1, h2, h3, h4, h5⟩ := H.at_ j hj
  exact ⟨_, _, _, h2, h3, h4, h5.reads (cellsOf_length _ _), Nat.le_refl _, by rw [pcD_length]; omega⟩

theorem drop_min (l : List Int) (n : Nat) : l.drop (min n l.length) = l.drop n := by
  rcases Nat.le_total n l.length with h | h
  · rw [Nat.min_eq_left h]
  · rw [Nat.min_eq_right h, List.drop_of_length_le (Nat.le_refl _), List.drop_of_length_le h]

theorem pc_one (a b : Int) (v : Value) (hv : v.oneCell' = true := by rfl) : ∀ u ∈ [Value.int .i64 a, Value.int .i64 b, v], u.oneCell' = true := fun u hu => by
  simp at hu
  rcases hu with rfl | rfl | rfl
  · rfl
  · rfl
  · exact hv

theorem ret0 {k : IntKind} {n : Nat} (h : n = 0) : Value.int k 0 = .int k (n : Nat) := by rw [h]; rfl

theorem pieces_neg (at_ : Int) (A : Option Addr) (len cap : Nat) (w : World) (h : at_ < 0) : Calls Try.prog 30 #[.int .i64 at_, .slice A len cap] w fun e w' => e = .returned (.slice none 0 0) ∧ w = w' := by
  go_enter Try.func30, Try.ntmps30
  go_wp2
  go_ret
  exact ⟨rfl, rfl⟩

set_option maxHeartbeats 1000000 in
theorem pieces_nat (at_ : Nat) (A : Option Addr) (len cap : Nat) (bs : List Int) (B : Nat) (w : World) (hr : Reads w B 1 A len (cellsOf .u8 bs)) (hB : B ≤ w.heap.size) (hl : len ≤ cap) (hcap : cap ≤ 9223372036854775807) (hn : len ≤ 1073741824) (hat : at_ ≤ 4611686018427387904) :
    Calls Try.prog 30 #[.int .i64 at_, .slice A len cap] w (GivesP 64 (at_ / 64) (at_ % 64) bs (pcN (at_ % 64) len) w) := by
  obtain ⟨i0, hi, hz0, hz1, hz2⟩ := info_parts pieceInfo
  have hlen := hr.len
  have ha0 : ¬ (at_ : Int) < 0 := by omega
  by_cases h0 : len = 0
  · subst h0
    have HR := Lib.hid hr
    have hK : pcN (at_ % 64) 0 = 0 := rfl
    clear hr
    go_enter Try.func30, Try.ntmps30
    go_wp2
    go_ret
    exact GivesP.none_ _ _ _ _ _
  obtain ⟨S, hS⟩ : ∃ S, S = at_ / 64 := ⟨_, rfl⟩
  obtain ⟨f, hf⟩ : ∃ f, f = at_ % 64 := ⟨_, rfl⟩
  obtain ⟨K, hK⟩ : ∃ K, K = pcN f len := ⟨_, rfl⟩
  rw [← hS, ← hf, ← hK]
  have hf6 : f < 64 := by omega
  have hS6 : S ≤ 72057594037927936 := by omega
  have t1 : (at_ : Int).tdiv 64 = (S : Int) := by rw [Int.tdiv_eq_ediv_of_nonneg (by omega)]; omega
  have t2 : (at_ : Int).tmod 64 = (f : Int) := by rw [Int.tmod_eq_emod_of_nonneg (by omega)]; omega
  have hK2 : K ≤ 16777300 := by have := pcN_le f len hf6; omega
  have hKn : cntI ((f : Int) + (len : Int)) = (K : Int) := by
    rw [← Int.natCast_add, cntI_nat, hK]; unfold pcN; rw [if_neg h0]
  have hlt : ∀ i, i < K ↔ 64 * i - f < len := fun i => by rw [hK]; exact pcN_lt hf6
  have HCNT := Lib.hid (fun w1 : World => by have := count_any ((f : Int) + (len : Int)) w1 (by omega) (by omega); rw [hKn] at this; exact this)
  have h0' : ¬ (len : Int) = 0 := by omega
  clear hS hf hK hKn
  go_enter Try.func30, Try.ntmps30
  go_wp2_with (first
    | (go_at_call 36; refine (HCNT.out _).mono ?_; rintro e w1 ⟨rfl, rfl⟩)
    | (at_make; go_loud (refine wpList_make_full _ rfl _ _ 61 rfl w.heap.size 64 i0 _ 3 Try.underlying61 hi hz0 hz1 _ _ _ _ K rfl rfl rfl rfl (by rw [hz2]; omega) (by unfold maxLen; omega) (Nat.le_refl _) ?_; intro w1 hown hgr; have hb1 : Below w.heap.size w w1 := (Below.refl _ _).grown hgr (Nat.le_refl _) (by simp); have hbk := blk_of_full3 hown; have hcl := hown.1; clear hown hgr)))
  go_loopw [1, 6, 30] (fun b fr i wr => ∃ (k m c : Nat) (A' : Option Addr) (cur : List Value), k ≤ K ∧ i = .int .i64 k ∧ fr = .int .i64 (f - 64 * k : Nat) ∧ b = .slice A' m c ∧ Hid (m = len - (64 * k - f)) ∧ m ≤ c ∧ c ≤ 9223372036854775807 ∧
      Hid (Reads w w.heap.size 1 A' m (cellsOf .u8 (bs.drop (64 * k - f)))) ∧ PcAt w wr w.heap.size S f bs K k cur) (fun _ _ i _ => K - (intOf i).toNat)
  case atStart =>
    refine ⟨0, len, cap, A, _, Nat.zero_le _, rfl, rfl, rfl, Lib.hid (by omega), hl, hcap, Lib.hid ?_, hbk, by omega, fun j hj => by omega, hb1, Nat.le_refl _⟩
    rw [show 64 * 0 - f = 0 by omega]; exact hr.more hB
  case round =>
    clear hbk hcl hb1 hr
    obtain ⟨k, m, c, A', cur, hk, rfl, rfl, rfl, hm, hmc, hcc, hrd, H⟩ := hrel
    obtain ⟨fr, hfr⟩ : ∃ fr, fr = f - 64 * k := ⟨_, rfl⟩
    rw [← hfr]
    by_cases hlk : k < K
    · have hm0 := (hlt k).1 hlk
      have hmm := hm.out
      obtain ⟨q, hq⟩ : ∃ q, q = min (64 - fr) m := ⟨_, rfl⟩
      have hpl : (pcD f bs k).length = q := by rw [pcD_length]; omega
      have hsz : sizeL (bs.drop (64 * k - f)) q = pcD f bs k := by
        rw [← pcD_front hf6, ← hfr]
        unfold sizeL
        rw [List.length_drop, show q - (bs.length - (64 * k - f)) = 0 by omega]
        simp only [List.replicate_zero, List.append_nil]
        rcases Nat.le_total (64 - fr) m with h | h
        · rw [show q = 64 - fr by omega]
        · rw [List.take_of_length_le (by rw [List.length_drop]; omega), List.take_of_length_le (by rw [List.length_drop]; omega)]
      have HSZ := Lib.hid (fun (w1 : World) (hb : Below w.heap.size w w1) => by
        have := size_any A' m c q (bs.drop (64 * k - f)) w.heap.size w1 (hrd.out.below hb) hb.size (by omega) hmc
        rw [hsz] at this
        exact this)
      obtain ⟨A2, hA2⟩ : ∃ A2, (if c = q then A' else A'.map (·.add q)) = A2 := ⟨_, rfl⟩
      have hcut := hrd.out.cut (k := q) (cap := c) (by omega) hmc
      rw [Nat.mul_one, hA2, cellsOf_drop, List.drop_drop, show 64 * k - f + q = min (64 * (k + 1) - f) bs.length by omega, drop_min] at hcut
      have n7 : (if (m : Int) < 64 - (fr : Int) then (m : Int) else 64 - (fr : Int)) = (q : Int) := by split <;> omega
      have n8 : (q : Int) ≤ (c : Int) := by omega
      have n9 : (q : Int) ≤ (m : Int) := by omega
      have hql : q ≤ m := by omega
      have HPL := Lib.hid hpl
      have HH := Lib.hid H
      have HFR := Lib.hid hfr
      have HCUT := Lib.hid hcut
      have HQ := Lib.hid hq
      have HM := Lib.hid hmm
      have hblk := H.blk
      clear hpl hsz hcut hq hmm hfr hm0 hlt H hm hrd
      have hfit : k * 3 + 3 ≤ cur.length := by rw [HH.out.len]; omega
      go_wp2_with (first
        | (go_at_call 27; refine (HSZ.out _ HH.out.below).mono ?_; rintro e w2 ⟨gd, hh, rfl, hb, hw⟩; rw [HPL.out]; have hblk2 := hblk.below hw hblk.lt)
        | (show wpList _ _ _ (Oper.mk none (.store 64 (.tmp 48) (.tmp 47)) _ _ _ _ :: _) _ _; refine wpList_store_blk (op := ⟨none, .store 64 (.tmp 48) (.tmp 47), _, _, _, _⟩) rfl 64 _ _ rfl w.heap.size (k * 3) rfl [.int .i64 ((S : Int) + (k : Int)), .int .i64 (fr : Int), .slice (some ⟨gd, 0, none⟩) q q] rfl cur 64 hblk2 pieceSize hfit (pc_one _ _ _) ?_ rfl; intro w4 hb4 hc4))
      have hnx := HH.out.next hlk hw hh hb (by rw [HPL.out, ← HFR.out]; exact hb4.out) hc4
      have HNX := Lib.hid hnx
      clear hnx hb4 hc4 hb hblk2
      go_roundw
      case rel =>
        exact ⟨k + 1, m - q, c - q, A2, _, by omega, by go_num, ret0 (by omega), rfl, Lib.hid (by have := HM.out; have := HQ.out; have := HFR.out; omega), by omega, by omega, HCUT, HNX.out⟩
      case measure => simp [intOf]; omega
    · obtain rfl : k = K := by omega
      have HG := Lib.hid (H.gives (by unfold maxLen; omega) (by unfold maxLen; omega))
      clear H hrd hm
      go_wp2
      go_ret
      exact HG.out

end Go.Proofs.Ytdpoffedmafmhaa
