/-
  WHAT Count, has AND Size OF PACKAGE sector DO, AND THE DOCUMENT'S OWN Count AND Size: contracts.
-/
import Derived.Test.YtdpoffedmafmhaaChecked
import Derived.Test.YtdpoffedmafmhaaChg
import Derived.Test.YtdpoffedmafmhaaInfo
import Derived.Test.YtdpoffedmafmhaaSecMath
import Derived.Laws.CopyOwn
import Derived.WalkKit
import Derived.Lib.Hide
set_option linter.unusedVariables false
set_option linter.unusedSimpArgs false
namespace Go.Proofs.Ytdpoffedmafmhaa
open Go.RowKit

/-- A function has told bytes: in a row of the call's own; below the call's own blocks nothing has turned. -/
def Gives (zs : List Int) (w : World) (e : Ending) (w' : World) : Prop :=
  ∃ A c, e = .returned (.slice A zs.length c) ∧ w'.ownsRow w.heap.size 5 1 (.slice A zs.length c) zs.length (cellsOf .u8 zs) ∧ Below w.heap.size w w'

theorem count_any (n : Int) (w : World) (h0 : -9223372036854775808 ≤ n) (h1 : n ≤ 9223372036854775807) :
    Calls Try.prog 36 #[.int .i64 n] w fun e w' => e = .returned (.int .i64 (cntI n)) ∧ w = w' := by
  by_cases h : n < 1
  · go_enter Try.func36, Try.ntmps36
    go_wp2
    go_ret
    exact ⟨ret_int (by unfold cntI; rw [if_pos h]), rfl⟩
  · have ht : (n - 1).tdiv 64 = (n - 1) / 64 := Int.tdiv_eq_ediv_of_nonneg (by omega)
    go_enter Try.func36, Try.ntmps36
    go_wp2
    go_ret
    exact ⟨ret_int (by unfold cntI; rw [if_neg (by omega)]; omega), rfl⟩

theorem rcount_any (n : Int) (w : World) (h0 : -9223372036854775808 ≤ n) (h1 : n ≤ 9223372036854775807) :
    Calls Try.prog 38 #[.int .i64 n] w fun e w' => e = .returned (.int .i64 (cntI n)) ∧ w = w' := by
  by_cases h : n < 1
  · go_enter Try.func38, Try.ntmps38
    go_wp2
    go_ret
    exact ⟨ret_int (by unfold cntI; rw [if_pos h]), rfl⟩
  · have ht : n.tdiv 64 = n / 64 := Int.tdiv_eq_ediv_of_nonneg (by omega)
    have ht2 : n.tmod 64 = n % 64 := Int.tmod_eq_emod_of_nonneg (by omega)
    by_cases hm : 0 < n % 64
    · go_enter Try.func38, Try.ntmps38
      go_wp2
      go_ret
      exact ⟨ret_int (by unfold cntI; rw [if_neg (by omega)]; omega), rfl⟩
    · go_enter Try.func38, Try.ntmps38
      go_wp2
      go_ret
      exact ⟨ret_int (by unfold cntI; rw [if_neg (by omega)]; omega), rfl⟩

theorem has_any (A : Option Addr) (len cap : Nat) (zs : List Int) (k : Int) (w : World) (hl : zs.length = len) (h1 : len ≤ 4611686018427387904) (hc : len ≤ cap) :
    Calls Try.prog 39 #[.slice A len cap, .int .i64 k] w fun e w' => e = .returned (.bool (hasL zs k)) ∧ w = w' := by
  have hcn : cntI len = cntN len := cntI_nat _
  have HV := Lib.hid (show hasL zs k = (decide (0 ≤ k) && decide (k < cntN len)) by unfold hasL; rw [hl])
  by_cases h : 0 ≤ k
  · go_enter Try.func39, Try.ntmps39
    go_wp2_with (go_at_call 36; refine (count_any len w (by omega) (by omega)).mono ?_; rintro e w1 ⟨rfl, rfl⟩)
    go_ret
    exact ⟨ret_bool (by rw [HV.out]; simp [h]), rfl⟩
  · go_enter Try.func39, Try.ntmps39
    go_wp2
    go_ret
    exact ⟨ret_bool (by rw [HV.out, decide_eq_false (by omega)]; rfl), rfl⟩

/-! ### rows that are known whole -/
theorem zerosMade (n : Nat) : (madeCells #[Value.int IntKind.u8 0] n).toList = cellsOf .u8 (List.replicate n 0) := by
  rw [toList_madeCells_one]; simp [cellsOf]
theorem blk_of_full {w : World} {base g n : Nat} {e : TypeId} {xs : List Value} (h : w.ownsRow base e 1 (.slice (some ⟨g, 0, none⟩) n n) n xs) : Blk w g e xs.toArray := by
  rcases h.2 with ⟨hv, _⟩ | ⟨g', cap, cur, hv, _, hg, _, _, hs, ht⟩
  · injection hv with h1; cases h1
  · injection hv with h1 _ h3
    injection h1 with h1
    injection h1 with h1
    subst h1; subst h3
    rw [List.take_of_length_le (by simp; omega)] at ht
    subst ht
    exact hg
theorem made_blk {w : World} {base g n : Nat} {e : TypeId} (h : w.ownsRow base e 1 (.slice (some ⟨g, 0, none⟩) n n) n (madeCells (Value.int .u8 0).cells (n * 1)).toList) : Blk w g e (cellsOf .u8 (List.replicate n 0)).toArray := by
  rw [Nat.mul_one] at h
  rw [← zerosMade]
  exact blk_of_full h
theorem own_of_blk {w : World} {base g n : Nat} {e : TypeId} {xs : List Value} (h : Blk w g e xs.toArray) (hl : xs.length = n) (hb : base ≤ g) (hn : n ≤ maxLen) : w.ownsRow base e 1 (.slice (some ⟨g, 0, none⟩) n n) n xs :=
  ⟨by omega, .inr ⟨g, n, _, rfl, hb, h, Nat.le_refl _, hn, by rw [List.size_toArray]; omega, List.take_of_length_le (by show xs.length ≤ n * 1; omega)⟩⟩
theorem Blk.reads {w : World} {g n : Nat} {e : TypeId} {xs : List Value} (h : Blk w g e xs.toArray) (hl : xs.length = n) : Reads w w.heap.size 1 (some ⟨g, 0, none⟩) n xs := by
  refine ⟨by omega, fun _ => ⟨_, rfl, h.lt, fun j u hu => ?_⟩⟩
  have e : (⟨g, 0, none⟩ : Addr).add j = ⟨g, j, none⟩ := by unfold Addr.add; split <;> simp_all
  rw [e, h.cell j]
  simpa using hu

theorem byteOne : (Try.prog.info? 5).map (·.size) = some 1 := by kernel_rfl

/-- A function has told bytes: in a block of its own that is known whole; what was there has not turned. -/
def Lays (zs : List Int) (w : World) (e : Ending) (w' : World) : Prop :=
  ∃ g, w.heap.size ≤ g ∧ e = .returned (.slice (some ⟨g, 0, none⟩) zs.length zs.length) ∧ Blk w' g 5 (cellsOf .u8 zs).toArray ∧ Below w.heap.size w w'

theorem Lays.gives {zs : List Int} {w w' : World} {e : Ending} (h : Lays zs w e w') (hn : zs.length ≤ maxLen) : Gives zs w e w' := by
  obtain ⟨g, hg, rfl, hb, hw⟩ := h
  exact ⟨_, _, rfl, own_of_blk hb (cellsOf_length _ _) hg hn, hw⟩

theorem size_any (A : Option Addr) (len cap n : Nat) (zs : List Int) (B : Nat) (w : World) (hr : Reads w B 1 A len (cellsOf .u8 zs)) (hB : B ≤ w.heap.size) (hn : n ≤ 2147483647) (hl : len ≤ cap) :
    Calls Try.prog 27 #[.slice A len cap, .int .i64 n] w (Lays (sizeL zs n) w) := by
  obtain ⟨i0, hi, hz0, hz1, hz2⟩ := info_parts byteInfo
  have hlen := hr.len
  obtain ⟨news, hnews⟩ : ∃ news, news = cellsOf .u8 (zs.take n) := ⟨_, rfl⟩
  have hnl : news.length = min n len := by rw [hnews, cellsOf_length, List.length_take]; omega
  have hone : ∀ v ∈ news, v.oneCell' = true := hnews ▸ cellsOf_one _ _
  have hmin : news.length = Nat.min len n := by rw [hnl]; exact Nat.min_comm _ _
  have hsrc : ∀ w1, Below w.heap.size w w1 → 0 < news.length → some (⟨w.heap.size, 0, none⟩ : Addr) = some ⟨w.heap.size, 0, none⟩ ∧ ∃ ad, A = some ad ∧ ∀ j v, news[j]? = some v → w1.cell? (ad.add j) = some v := fun w1 hb h0 => by
    obtain ⟨ad, e, _, hc⟩ := ((hr.more hB).below hb).2 (by omega)
    refine ⟨rfl, ad, e, fun j v hj => hc j v ?_⟩
    rw [hnews] at hj
    simp only [cellsOf, List.map_take, List.getElem?_take] at hj
    split at hj
    · exact hj
    · cases hj
  have HNL := Lib.hid hnl
  have HON := Lib.hid hone
  have HMIN := Lib.hid hmin
  have HSRC := Lib.hid hsrc
  have HNEWS := Lib.hid hnews
  have HR := Lib.hid hr
  clear hnl hone hmin hsrc hnews hr
  go_enter Try.func27, Try.ntmps27
  go_wp2_with (first
    | (at_make; refine wpList_make_full _ rfl _ _ 26 rfl w.heap.size 5 i0 (.int .u8 0) 1 Try.underlying26 hi hz0 hz1 _ _ _ _ n rfl rfl rfl rfl (by rw [hz2]; omega) (by unfold maxLen; omega) (Nat.le_refl _) ?_; intro w1 hown hgr; have hb1 : Below w.heap.size w w1 := (Below.refl _ _).grown hgr (Nat.le_refl _) (by simp); have hb : Blk w1 w.heap.size 5 (cellsOf .u8 (List.replicate n 0)).toArray := made_blk hown; clear hown hgr)
    | (refine wpList_copy_splice rfl (.tmp 14) (.tmp 15) _ _ rfl 5 Try.underlying26 byteOne _ _ _ _ _ _ rfl rfl w.heap.size 0 (cellsOf .u8 (List.replicate n 0)) 5 hb news HMIN.out (HSRC.out _ hb1) (by rw [cellsOf_length, List.length_replicate, HNL.out]; omega) HON.out w.heap.size w hb1 (Nat.le_refl _) ?_; intro w2 HG2 hb2))
  go_ret
  refine ⟨w.heap.size, Nat.le_refl _, by rw [sizeL_length]; rfl, ?_, hb2⟩
  have := HG2.out
  rw [HNEWS.out] at this
  rw [← sizeL_splice]
  unfold splice at this ⊢
  unfold Blk
  rw [this]
  simp [cellsOf]

theorem size_neg (A : Option Addr) (len cap : Nat) (n : Int) (w : World) (hn : n < 0) :
    Calls Try.prog 27 #[.slice A len cap, .int .i64 n] w fun e w' => e = .returned (.slice none 0 0) ∧ w = w' := by
  go_enter Try.func27, Try.ntmps27
  go_wp2
  go_ret
  exact ⟨rfl, rfl⟩

/-! ### the document's Size -/
theorem rsize_in (A : Option Addr) (len cap n : Nat) (v : Int) (zs : List Int) (B : Nat) (w : World) (hr : Reads w B 1 A len (cellsOf .u8 zs)) (hB : B ≤ w.heap.size) (hm1 : (n : Int) = max v 0) (hn : n ≤ 4611686018427) (hl : len ≤ cap) (hcap : cap ≤ 9223372036854775807) :
    Calls Try.prog 32 #[.slice A len cap, .int .i64 v] w fun e w' => ∃ x, e = .returned x ∧ w'.ownsRow w.heap.size 5 1 x n (cellsOf .u8 (sizeL zs n)) ∧ Below w.heap.size w w' := by
  obtain ⟨i0, hi, hz0, hz1, hz2⟩ := info_parts byteInfo
  have hlen := hr.len
  have h1 : (n : Int) ≤ 0 ∨ (n : Int) ≤ v := by omega
  have h2 : v ≤ n := by omega
  clear hm1
  go_enter Try.func32, Try.ntmps32
  go_wp2
  go_loopw [5, 6] (fun b i wr => ∃ k : Nat, k ≤ n ∧ i = .int .i64 k ∧ wr.ownsRow w.heap.size 5 1 b k (cellsOf .u8 (sizeL zs k)) ∧ Below w.heap.size w wr)
    (fun _ i _ => n - (intOf i).toNat)
  case atStart => exact ⟨0, Nat.zero_le _, rfl, by rw [sizeL_zero]; exact World.ownsRow_nil _ _ _ _, Below.refl _ _⟩
  case round =>
    obtain ⟨k, hk, rfl, hown, hb⟩ := hrel
    have HS := Lib.hid (sizeL_snoc zs k)
    by_cases hlt : k < n
    · have h3 : (k : Int) < v := by omega
      obtain ⟨A1, c1, rfl, _, _⟩ := own_form hown
      have s2 : k + 1 ≤ maxLen := by unfold maxLen; omega
      have s3 : (k + 1) * 1 ≤ 140737488355328 := by omega
      have s4 : ∀ o, w.heap.size ≤ (wr.alloc o).heap.size := fun o => by have := hb.size; simp; omega
      obtain ⟨x, hx⟩ : ∃ x, x = nz zs k := ⟨_, rfl⟩
      by_cases hin : k < len
      · obtain ⟨b, off, rfl, hbB, hc⟩ := hr.plain (by omega)
        have c0 : wr.cell? ⟨b, off + k, none⟩ = some (.int .u8 x) := by rw [hx]; exact ((hb.cell (p := ⟨b, off + k, none⟩) (by show b < _; omega)).trans (hc k hin))
        have HX := Lib.hid hx
        have HR := Lib.hid hr
        have h4 : (k : Int) < len := by omega
        clear hx hr hc
        go_wp2_with (at_builtin; refine wpList_append_any _ rfl _ _ _ rfl w.heap.size 5 i0 (.int .u8 0) 1 1 Try.underlying26 hi hz0 hz1 hz2 rfl (Nat.lt_succ_self 0) (.slice A1 k c1) k (cellsOf .u8 (sizeL zs k)) rfl (hown.alloc _) (wr.heap.size + 1) _ 1 1 [.int .u8 x] rfl (Reads.new1 _ _ _) (one_oneCell _ _) s2 s3 (s4 _) ?_; intro v1 w1 hown1 hg1 hat1)
        go_roundw
        case rel =>
          refine ⟨k + 1, by omega, by go_num, ?_, (hb.alloc hb.size _).grown hg1 (s4 _) (fun g hg => (hown.lt g hg).1)⟩
          rw [HS.out, ← HX.out, cellsOf_append]
          exact hown1
        case measure => simp [intOf]; omega
      · have hx0 : x = 0 := by rw [hx]; exact nz_out (by omega)
        subst hx0
        have HX := Lib.hid hx
        have HR := Lib.hid hr
        have h4 : ¬ (k : Int) < len := by omega
        clear hx hr
        go_wp2_with (at_builtin; refine wpList_append_any _ rfl _ _ _ rfl w.heap.size 5 i0 (.int .u8 0) 1 1 Try.underlying26 hi hz0 hz1 hz2 rfl (Nat.lt_succ_self 0) (.slice A1 k c1) k (cellsOf .u8 (sizeL zs k)) rfl (hown.alloc _) (wr.heap.size + 1) _ 1 1 [.int .u8 0] rfl (Reads.new1 _ _ _) (one_oneCell _ _) s2 s3 (s4 _) ?_; intro v1 w1 hown1 hg1 hat1)
        go_roundw
        case rel =>
          refine ⟨k + 1, by omega, by go_num, ?_, (hb.alloc hb.size _).grown hg1 (s4 _) (fun g hg => (hown.lt g hg).1)⟩
          rw [HS.out, ← HX.out, cellsOf_append]
          exact hown1
        case measure => simp [intOf]; omega
    · obtain rfl : k = n := by omega
      have h3 : ¬ (k : Int) < v := by omega
      go_wp2
      go_ret
      exact ⟨_, rfl, hown, hb⟩

theorem rsize_any (A : Option Addr) (len cap : Nat) (v : Int) (zs : List Int) (B : Nat) (w : World) (hr : Reads w B 1 A len (cellsOf .u8 zs)) (hB : B ≤ w.heap.size) (hn : v ≤ 4611686018427) (hl : len ≤ cap) (hcap : cap ≤ 9223372036854775807) :
    Calls Try.prog 32 #[.slice A len cap, .int .i64 v] w (Gives (sizeL zs v.toNat) w) :=
  (rsize_in A len cap v.toNat v zs B w hr hB (by omega) (by omega) hl hcap).mono fun e w' ⟨x, he, hown, hb⟩ => by
    obtain ⟨A1, c1, rfl, _, _⟩ := own_form hown
    refine ⟨A1, c1, by rw [he, sizeL_length], by rw [sizeL_length]; exact hown, hb⟩

/-- A piece that a call has boxed stays as it is. -/
theorem box_cells {w w1 : World} {g : Nat} {t : TypeId} {u0 u1 u2 : Value} (hw : Below (w.alloc (.cells #[u0, u1, u2] t)).heap.size (w.alloc (.cells #[u0, u1, u2] t)) w1) (hg : (w.alloc (.cells #[u0, u1, u2] t)).heap.size ≤ g) :
    w1.cell? ⟨w.heap.size, 1, none⟩ = some u1 ∧ w1.cell? ⟨w.heap.size, 2, none⟩ = some u2 ∧ w.heap.size ≤ g := by
  have hp : Blk w1 w.heap.size t #[u0, u1, u2] := (Blk.new w t _).below hw (by simp)
  exact ⟨by rw [hp.cell]; rfl, by rw [hp.cell]; rfl, by simp at hg; omega⟩
theorem below_box {w w1 : World} {o : Obj} (hw : Below (w.alloc o).heap.size (w.alloc o) w1) : Below w.heap.size w w1 :=
  ((Below.refl _ _).alloc (Nat.le_refl _) o).trans (hw.mono (by simp))

/-- What a call has turned of its own blocks alone. -/
theorem chg_below2 {w0 w w' : World} {g B : Nat} (h : Below B w0 w) (hc : Chg (fun k => k = g) w w') (hg : B ≤ g) (hB : B ≤ w.heap.size) : Below B w0 w' :=
  h.trans (hc.below hB (fun k _ e => by omega))

end Go.Proofs.Ytdpoffedmafmhaa
