import Derived.Test.YtgcmbgniaffdlaaGreatLGa
import Derived.Outline
import Derived.WalkSpells
import Derived.BigQuiet
import Derived.Deep.QuietTactic
set_option linter.unusedVariables false
set_option maxRecDepth 100000
namespace Go.Proofs.YtgcmbgniaffdlaaGreat
open Go.RowKit
def isw (w : Int) : Bool := w == 1 || w == 2 || w == 4 || w == 8
theorem isw_cases {w : Int} (h : isw w = true) : w = 1 ∨ w = 2 ∨ w = 4 ∨ w = 8 := by simp [isw] at h; omega
theorem gok_isw (len : Nat) (i w : Int) : gok len i w = (isw w && decide (0 <= i) && decide (i <= (len : Int) - w)) := rfl
theorem isw_any (v : Int) (w : World) : Calls Tryz.prog 101 #[.int .i64 v] w fun e w' => e = .returned (.bool (isw v)) /\ w = w' := by
 by_cases h1 : v = 1
 · subst h1; go_enter Tryz.func101, Tryz.ntmps101
   go_wp2
   go_ret
   exact ⟨rfl, rfl⟩
 by_cases h2 : v = 2
 · subst h2; go_enter Tryz.func101, Tryz.ntmps101
   go_wp2
   go_ret
   exact ⟨rfl, rfl⟩
 by_cases h4 : v = 4
 · subst h4; go_enter Tryz.func101, Tryz.ntmps101
   go_wp2
   go_ret
   exact ⟨rfl, rfl⟩
 by_cases h8 : v = 8
 · subst h8; go_enter Tryz.func101, Tryz.ntmps101
   go_wp2
   go_ret
   exact ⟨rfl, rfl⟩
 go_enter Tryz.func101, Tryz.ntmps101
 go_wp2
 go_ret
 exact ⟨by simp [isw, h1, h2, h4, h8], rfl⟩
theorem get_no (A : Option Addr) (len cap : Nat) (i v : Int) (w : World) (h : gok len i v = false) (hl : len <= 9223372036854775807) (hi : -9223372036854775808 <= i) (hi' : i <= 9223372036854775807) (hv : -9223372036854775808 <= v) (hv' : v <= 9223372036854775807) :
 Calls Tryz.prog 52 #[.slice A len cap, .int .i64 i, .int .i64 v] w fun e w' => e = .returned (.tuple #[.int .u64 0, .bool false]) /\ w = w' := by
 rw [gok_isw] at h
 by_cases hw : isw v = true
 · have hc := isw_cases hw
   rw [hw] at h
   simp at h
   by_cases h0 : i < 0
   · clear h
     go_enter Tryz.func52, Tryz.ntmps52
     go_wp2_with (go_at_call 101; refine (isw_any _ _).mono ?_; rintro e w' ⟨rfl, rfl⟩)
     go_ret2
     exact ⟨rfl, rfl⟩
   · have h1 := h (by omega)
     clear h
     go_enter Tryz.func52, Tryz.ntmps52
     go_wp2_with (go_at_call 101; refine (isw_any _ _).mono ?_; rintro e w' ⟨rfl, rfl⟩)
     go_ret2
     exact ⟨rfl, rfl⟩
 · have hw : isw v = false := by simpa using hw
   clear h
   go_enter Tryz.func52, Tryz.ntmps52
   go_wp2_with (go_at_call 101; refine (isw_any _ _).mono ?_; rintro e w' ⟨rfl, rfl⟩)
   go_ret2
   exact ⟨rfl, rfl⟩
theorem get_yes (b off len cap j m : Nat) (zs : List Int) (w : World) (hw : isw (m : Int) = true) (hz : AreB zs) (hlen : zs.length = len) (hl : len <= cap) (hcap : cap <= 9223372036854775807) (hj : j + m <= len)
 (hc : ∀ i, i < len -> w.cell? ⟨b, off + i, none⟩ = some (.int .u8 (zs.getD i 0))) :
 Calls Tryz.prog 52 #[.slice (some ⟨b, off, none⟩) len cap, .int .i64 j, .int .i64 m] w fun e w' => e = .returned (.tuple #[.int .u64 (lev ((zs.drop j).take m)), .bool true]) /\ w = w' := by
 have hm : 1 <= m /\ m <= 8 := by have := isw_cases hw; omega
 have h1 : (j : Int) <= (len : Int) - m := by omega
 have h2 : (j : Int) <= (j : Int) + m := by omega
 have h3 : (j : Int) + m <= cap := by omega
 have h4 : j ≠ cap := by omega
 go_enter Tryz.func52, Tryz.ntmps52
 go_wp2_with (go_at_call 101; refine (isw_any _ _).mono ?_; rintro e w' ⟨rfl, rfl⟩)
 go_loop [8, 33] (fun n i => ∃ k : Nat, k <= m /\ i = .int .i64 k /\ n = .int .u64 (lev ((zs.drop j).take k))) (fun _ i => m - (intOf i).toNat)
 case atStart => exact ⟨0, Nat.zero_le _, rfl, rfl⟩
 case round =>
   obtain ⟨k, hk, rfl, rfl⟩ := hrel
   by_cases hlt : k < m
   · have hcell : w.cell? ⟨b, off + j + k, none⟩ = some (.int .u8 (zs.getD (j + k) 0)) := by rw [Nat.add_assoc]; exact hc (j + k) (by omega)
     have hx := hz.get (j + k)
     have hlev := lev_bound _ ((hz.drop j).take k)
     generalize hxe : zs.getD (j + k) 0 = x at hcell hx
     generalize hne : lev ((zs.drop j).take k) = n at hlev ⊢
     have HX := Lib.hid hxe
     have HN := Lib.hid hne
     have HL := Lib.hid hlev
     clear hxe hne hlev hc
     go_wp2
     go_round
     case rel =>
       refine ⟨k + 1, by omega, by go_num, ?_⟩
       have hl := HL.out
       rw [List.length_take, List.length_drop, Nat.min_eq_left (by omega)] at hl
       rw [or_step (by omega) hl hx, lev_step (by omega), HN.out, HX.out]
     case measure => simp [intOf]; omega
   · have e : k = m := by omega
     subst e
     go_wp2
     go_ret2
     exact ⟨rfl, rfl⟩
theorem gok_nat {len : Nat} {i v : Int} (h : gok len i v = true) : ∃ j m : Nat, i = j /\ v = m /\ isw (m : Int) = true /\ j + m <= len := by
 rw [gok_isw] at h
 simp at h
 have hc := isw_cases h.1.1
 refine ⟨i.toNat, v.toNat, by omega, by omega, ?_, by omega⟩
 rw [show ((v.toNat : Nat) : Int) = v by omega]
 exact h.1.1
theorem get_any {B : Nat} (A : Option Addr) (len cap : Nat) (i v : Int) (zs : List Int) (w : World) (hr : Reads w B 1 A len (cellsOf .u8 zs)) (hz : AreB zs) (hl : len <= cap) (hcap : cap <= 9223372036854775807)
 (hi : -9223372036854775808 <= i) (hi' : i <= 9223372036854775807) (hv : -9223372036854775808 <= v) (hv' : v <= 9223372036854775807) :
 Calls Tryz.prog 52 #[.slice A len cap, .int .i64 i, .int .i64 v] w fun e w' => e = .returned (.tuple #[.int .u64 (gnum zs i v), .bool (gok len i v)]) /\ w = w' := by
 have hlen := hr.len
 by_cases h : gok len i v = true
 · obtain ⟨j, m, rfl, rfl, hw, hjm⟩ := gok_nat h
   have hm := isw_cases hw
   obtain ⟨b, off, rfl, _, hc⟩ := hr.plain (by omega)
   have e : gnum zs j m = lev ((zs.drop j).take m) := by unfold gnum; rw [hlen, h]; simp
   rw [e, h]
   exact get_yes b off len cap j m zs w hw hz hlen hl hcap hjm hc
 · have h : gok len i v = false := by simpa using h
   have e : gnum zs i v = 0 := by unfold gnum; rw [hlen, h]; simp
   rw [e, h]
   exact get_no A len cap i v w h (by omega) hi hi' hv hv'
theorem bytes_in (n v : Int) (m : Nat) (w : World) (hm : (m : Int) = min (max v 0) 8) :
 Calls Tryz.prog 129 #[.int .u64 n, .int .i64 v] w fun e w' => e = .returned (.slice (some ⟨w.heap.size, 0, none⟩) m m) /\ w'.ownsRow w.heap.size 5 1 (.slice (some ⟨w.heap.size, 0, none⟩) m m) m (cellsOf .u8 (enb m n)) /\ Below w.heap.size w w' := by
 obtain ⟨i0, hi, hz0, hz1, hz2⟩ := info_parts byteInfo
 have hm8 : m <= 8 := by omega
 have HM := Lib.hid hm
 clear hm
 have hbw : Below w.heap.size w w := Below.refl _ _
 go_enter Tryz.func129, Tryz.ntmps129
 go_wp2_with (at_make; refine wpList_make_full _ rfl _ _ 24 rfl w.heap.size 5 i0 (.int .u8 0) 1 Tryz.underlying24 hi hz0 hz1 _ _ _ _ m rfl rfl ?_ ?_ ?_ ?_ (Nat.le_refl _) ?_)
 all_goals try (have h := HM.out; omega)
 all_goals try (rw [hz2]; omega)
 all_goals try (unfold maxLen; omega)
 all_goals
   intro w1 hown hgr
   have hb1 : Below w.heap.size w w1 := hbw.grown hgr (Nat.le_refl _) (by simp)
   have hst : (madeCells #[Value.int IntKind.u8 0] m).toList = cellsOf .u8 (List.replicate m 0) := by
     rw [toList_madeCells_one]; simp [cellsOf]
   rw [hst] at hown
   clear hst hgr
   go_wp2
   go_loopw [6, 13] (fun _ i wr => ∃ k : Nat, k <= m /\ i = .int .i64 k /\ wr.ownsRow w.heap.size 5 1 (.slice (some ⟨w.heap.size, 0, none⟩) m m) m (cellsOf .u8 (enb k n ++ List.replicate (m - k) 0)) /\ Below w.heap.size w wr)
     (fun _ i _ => m - (intOf i).toNat)
   case atStart => exact ⟨0, Nat.zero_le _, rfl, by simpa [enb] using hown, hb1⟩
   case round =>
     obtain ⟨k, hk, rfl, hown, hb⟩ := hrel
     by_cases hlt : k < m
     · have hlen : (enb k n ++ List.replicate (m - k) 0).length = m := by rw [List.length_append, enb_length, List.length_replicate]; omega
       have hcell : _ := hown.cellAt k (by omega)
       rw [cellsOf_get (by omega)] at hcell
       have hfr := hown.frozenAt k
       go_wp2
       go_roundw
       case rel =>
         have hs := (hown.stored k (.int .u8 (n / 2 ^ (8 * k) % 256))).1
         rw [cellsOf_set, enb_fill hlt] at hs
         exact ⟨k + 1, by omega, by go_num, hs, hb.setCell (Nat.le_refl _) _⟩
       case measure => simp [intOf]; omega
     · have e : k = m := by omega
       subst e
       go_wp2
       go_ret
       exact ⟨rfl, by simpa using hown, hb⟩
theorem bytes_any (n v : Int) (w : World) : Calls Tryz.prog 129 #[.int .u64 n, .int .i64 v] w fun e w' =>
   ∃ A c, e = .returned (.slice A (bts n v).length c) /\ w'.ownsRow w.heap.size 5 1 (.slice A (bts n v).length c) (bts n v).length (cellsOf .u8 (bts n v)) /\ Below w.heap.size w w' := by
 refine (bytes_in n v (min v.toNat 8) w (by omega)).mono fun e w' ⟨he, hown, hb⟩ => ?_
 rw [bts_length]; exact ⟨_, _, he, hown, hb⟩
theorem rbytes_in (n v : Int) (m : Nat) (w : World) (h0 : Hid (0 <= n /\ n < 18446744073709551616)) (hm : (m : Int) = min (max v 0) 8) :
 Calls Tryz.prog 104 #[.int .u64 n, .int .i64 v] w fun e w' => ∃ x, e = .returned x /\ w'.ownsRow w.heap.size 5 1 x m (cellsOf .u8 (enb m n)) /\ Below w.heap.size w w' := by
 obtain ⟨i0, hi, hz0, hz1, hz2⟩ := info_parts byteInfo
 have hm8 : m <= 8 := by omega
 have hm1 : (m : Int) <= 0 ∨ (m : Int) <= v := by omega
 have hm2 : 8 <= m ∨ v <= m := by omega
 clear hm
 go_enter Tryz.func104, Tryz.ntmps104
 go_wp2
 go_loopw [0, 5, 6] (fun q b i wr => ∃ k : Nat, k <= m /\ i = .int .i64 k /\ q = .int .u64 (n / 256 ^ k) /\ wr.ownsRow w.heap.size 5 1 b k (cellsOf .u8 (enb k n)) /\ Below w.heap.size w wr)
   (fun _ _ i _ => m - (intOf i).toNat)
 case atStart => exact ⟨0, Nat.zero_le _, rfl, by simp, World.ownsRow_nil _ _ _ _, Below.refl _ _⟩
 case round =>
   obtain ⟨k, hk, rfl, rfl, hown, hb⟩ := hrel
   have hqq := div_pow h0.out k
   have hq := hqq.1
   have hqs : n / 256 ^ k / 256 = n / 256 ^ (k + 1) := by rw [Int.pow_succ, Int.ediv_ediv_of_nonneg (Int.le_of_lt (Int.pow_pos (by omega)))]
   have hsn := enb_snoc k n
   generalize n / 256 ^ k = q at hq hqs hsn hqq ⊢
   have HQQ := Lib.hid hqq
   have HQ := Lib.hid hqs
   have HS := Lib.hid hsn
   clear hqs hsn hqq
   by_cases hlt : k < m
   · have h1 : (k : Int) < v := by omega
     have h2 : (k : Int) < 8 := by omega
     obtain ⟨A, c, rfl, _, _⟩ := own_form hown
     have s2 : k + 1 <= maxLen := by unfold maxLen; omega
     have s3 : (k + 1) * 1 <= 140737488355328 := by omega
     have s4 : w.heap.size <= (wr.alloc (.cells #[Value.int IntKind.u8 (q % 256)] 5)).heap.size := by have := hb.size; simp; omega
     go_wp2_with (at_builtin; refine wpList_append_any _ rfl _ _ _ rfl w.heap.size 5 i0 (.int .u8 0) 1 1 Tryz.underlying24 hi hz0 hz1 hz2 rfl (Nat.lt_succ_self 0) (.slice A k c) k (cellsOf .u8 (enb k n)) rfl (hown.alloc _) (wr.heap.size + 1) _ 1 1 [.int .u8 (q % 256)] rfl (Reads.new1 _ _ _) (one_oneCell _ _) s2 s3 s4 ?_; intro v1 w1 hown1 hg1 hat1)
     go_roundw
     case rel =>
       rw [show cellsOf .u8 (enb k n) ++ [Value.int IntKind.u8 (q % 256)] = cellsOf .u8 (enb (k + 1) n) by rw [HS.out]; simp [cellsOf]] at hown1
       refine ⟨k + 1, by omega, by go_num, by rw [div_256 HQQ.out, HQ.out], hown1, (hb.alloc hb.size _).grown hg1 s4 (fun g hg => ?_)⟩
       exact (hown.lt g hg).1
     case measure => simp [intOf]; omega
   · have e : k = m := by omega
     subst e
     by_cases h8 : k < 8
     · have h1 : ¬ (k : Int) < v := by omega
       go_wp2
       all_goals
         go_ret
         exact ⟨_, rfl, hown, hb⟩
     · go_wp2
       all_goals
         go_ret
         exact ⟨_, rfl, hown, hb⟩
theorem rbytes_any (n v : Int) (w : World) (h0 : Hid (0 <= n /\ n < 18446744073709551616)) : Calls Tryz.prog 104 #[.int .u64 n, .int .i64 v] w fun e w' =>
   ∃ A c, e = .returned (.slice A (bts n v).length c) /\ w'.ownsRow w.heap.size 5 1 (.slice A (bts n v).length c) (bts n v).length (cellsOf .u8 (bts n v)) /\ Below w.heap.size w w' := by
 refine (rbytes_in n v (min v.toNat 8) w h0 (by omega)).mono fun e w' ⟨x, he, hown, hb⟩ => ?_
 obtain ⟨A, c, rfl, _, _⟩ := own_form hown
 rw [bts_length]; exact ⟨_, _, he, hown, hb⟩
theorem align_any (n : Int) (w : World) (h : n <= 4611686018427387904) (h0 : -9223372036854775808 <= n) : Calls Tryz.prog 147 #[.int .i64 n] w fun e w' => e = .returned (.int .i64 (algn n)) /\ w = w' := by
 by_cases hn : n < 0
 · go_enter Tryz.func147, Tryz.ntmps147
   go_wp2
   go_ret
   exact ⟨ret_int (by rw [andNot_seven _ (by omega) (by omega)]; unfold algn; rw [if_pos (by omega)]; rfl), rfl⟩
 · go_enter Tryz.func147, Tryz.ntmps147
   go_wp2
   go_ret
   exact ⟨ret_int (by rw [andNot_seven _ (by omega) (by omega)]; unfold algn; rw [if_neg (by omega)]), rfl⟩
theorem same_any {B B' : Nat} (A A' : Option Addr) (n n' c c' : Nat) (xs ys : List Int) (w : World) (hx : Reads w B 1 A n (cellsOf .u8 xs)) (hy : Reads w B' 1 A' n' (cellsOf .u8 ys)) (bx : AreB xs) (byy : AreB ys) :
 Calls Tryz.prog 19 #[.slice A n c, .slice A' n' c'] w fun e w' => e = .returned (.bool (decide (xs = ys))) /\ w = w' := by
 have h1 := run_text (P := Tryz.prog) 24 5 9 Tryz.underlying24 Tryz.underlying5 Tryz.underlying9 hx c
 have h2 := run_text (P := Tryz.prog) 24 5 9 Tryz.underlying24 Tryz.underlying5 Tryz.underlying9 hy c'
 clear hx hy
 go_enter Tryz.func19, Tryz.ntmps19
 go_wp2
 go_ret
 exact ⟨ret_bool (strOfNums_beq bx byy), rfl⟩
theorem same_yes {B B' : Nat} (A A' : Option Addr) (n n' c c' : Nat) (xs ys : List Int) (w : World) (hx : Reads w B 1 A n (cellsOf .u8 xs)) (hy : Reads w B' 1 A' n' (cellsOf .u8 ys)) (bx : AreB xs) (h : Hid (xs = ys)) :
 Calls Tryz.prog 19 #[.slice A n c, .slice A' n' c'] w fun e w' => e = .returned (.bool true) /\ w = w' :=
 (same_any A A' n n' c c' xs ys w hx hy bx (h.out ▸ bx)).mono fun _ _ ⟨he, hw⟩ => ⟨by rw [he, decide_eq_true h.out], hw⟩
end Go.Proofs.YtgcmbgniaffdlaaGreat
set_option linter.unusedSimpArgs false
namespace Go.Proofs.YtgcmbgniaffdlaaGreat
open Go.RowKit
structure Wr (w : World) (g : Nat) (v : Value) (zs : List Int) : Prop where
 blk : Blk w g 143 #[v]
 own : w.ownsRow 0 5 1 v zs.length (cellsOf .u8 zs)
def WrPost (w : World) (g : Nat) (v : Value) (zs' : List Int) (w' : World) : Prop :=
 ∃ v', Wr w' g v' zs' /\ Chg (fun k => k = g ∨ v.ownBlock = some k) w w' /\ Moved w v v'
theorem Wr.ne {w : World} {g : Nat} {v : Value} {zs : List Int} (h : Wr w g v zs) : v.ownBlock ≠ some g := own_blk_ne h.own h.blk (by decide)
theorem Wr.cell {w : World} {g : Nat} {v : Value} {zs : List Int} (h : Wr w g v zs) : w.cell? ⟨g, 0, none⟩ = some v := h.blk.cell 0
theorem Wr.fr {w : World} {g : Nat} {v : Value} {zs : List Int} (h : Wr w g v zs) : w.frozen? ⟨g, 0, none⟩ = false := h.blk.frozen 0
theorem Wr.chg {S : Nat -> Prop} {w w' : World} {g : Nat} {v : Value} {zs : List Int} (h : Wr w g v zs) (hc : Chg S w w') (hg : ¬ S g) (hv : ∀ k, v.ownBlock = some k -> ¬ S k) : Wr w' g v zs :=
 ⟨h.blk.chg hc hg, own_chg h.own hc hv⟩
theorem wr_end {w w1 w2 : World} {g : Nat} {v v2 : Value} {zs zs' : List Int} (h : Wr w g v zs) (h1 : Below w.heap.size w w1) (hg2 : w1.grownBy w2 v.ownBlock) (hown : w2.ownsRow 0 5 1 v2 zs'.length (cellsOf .u8 zs'))
 (hat : v2.ownBlock = v.ownBlock ∨ v2.ownBlock = some w1.heap.size) : WrPost w g v zs' (w2.setCell ⟨g, 0, none⟩ v2) := by
 have hgl := h.blk.lt
 have hne := h.ne
 have b1 : Blk w1 g 143 #[v] := h.blk.below h1 hgl
 have b2 : Blk w2 g 143 #[v] := b1.grown hg2 (fun e => hne e.symm)
 have hs := h1.size
 refine ⟨v2, ⟨?_, ?_⟩, ?_, ?_⟩
 · have := b2.set_ 0 v2
   simpa using this
 · refine own_chg hown (S := fun k => k = g) ((Chg.refl (fun k => k = g) _).setCell (p := ⟨g, 0, none⟩) (.inr rfl) _) (fun k hk e => ?_)
   subst e
   rcases hat with e | e <;> rw [e] at hk
   · exact hne hk
   · injection hk with hk; omega
 · refine ((Chg.of_below h1 (Nat.le_refl _) (fun k => k = g ∨ v.ownBlock = some k)).trans (Chg.of_grown hg2) (fun k _ hk => .inr hk)).setCell (.inr (.inl rfl)) _
 · rcases hat with e | e
   · exact .inl e
   · exact .inr ⟨_, e, hs⟩
theorem clone_any {B : Nat} (A : Option Addr) (n c : Nat) (zs : List Int) (w : World) (hr : Reads w B 1 A n (cellsOf .u8 zs)) (hB : B <= w.heap.size) (hn : n <= 140737488355328) :
 Calls Tryz.prog 49 #[.slice A n c] w fun e w' => ∃ A' c', e = .returned (.slice A' n c') /\ w'.ownsRow w.heap.size 5 1 (.slice A' n c') n (cellsOf .u8 zs) /\ Below w.heap.size w w' /\ n <= c' /\ c' <= maxLen := by
 obtain ⟨i0, hi, hz0, hz1, hz2⟩ := info_parts byteInfo
 have hnil := Lib.run_eql_slice_nil (P := Tryz.prog) w 24 5 A n c 0 0 Tryz.underlying24
 rcases A with _ | ad
 · have hn0 : n = 0 := by
     rcases Nat.eq_zero_or_pos n with h | h
     · exact h
     · obtain ⟨ad, e, _⟩ := hr.2 h
       cases e
   subst hn0
   have hz : zs = [] := List.eq_nil_of_length_eq_zero hr.len
   subst hz
   go_enter Tryz.func49, Tryz.ntmps49
   go_wp2
   go_ret
   exact ⟨none, 0, rfl, World.ownsRow_nil _ _ _ _, Below.refl _ _, Nat.le_refl _, by unfold maxLen; omega⟩
 · go_enter Tryz.func49, Tryz.ntmps49
   have hown0 : (w.alloc (.cells #[] 5)).ownsRow w.heap.size 5 1 (.slice (some ⟨w.heap.size, 0, none⟩) 0 0) 0 [] := World.ownsRow_made w #[] 0 (Nat.le_refl _) (Nat.zero_le _) rfl
   have hr0 := hr.alloc hB (.cells #[] 5)
   have s2 : 0 + n <= maxLen := by unfold maxLen; omega
   have s3 : (0 + n) * 1 <= 140737488355328 := by omega
   have s4 : w.heap.size <= (w.alloc (.cells #[] 5)).heap.size := by simp
   go_wp2_with (at_builtin; refine wpList_append_any _ rfl _ _ _ rfl w.heap.size 5 i0 (.int .u8 0) 1 1 Tryz.underlying24 hi hz0 hz1 hz2 rfl (Nat.lt_succ_self 0) (.slice (some ⟨w.heap.size, 0, none⟩) 0 0) 0 [] rfl hown0 B (some ad) n c (cellsOf .u8 zs) rfl hr0 (cellsOf_one _ _) s2 s3 s4 ?_; intro v1 w1 hown1 hg1 hat1)
   rw [Nat.zero_add, List.nil_append] at hown1
   obtain ⟨A1, c1, rfl, hc1, hc2⟩ := own_form hown1
   go_ret
   exact ⟨A1, c1, rfl, hown1, ((Below.refl _ _).alloc (Nat.le_refl _) _).grown hg1 s4 (fun k hk => by simp [Value.ownBlock] at hk; omega), hc1, hc2⟩
theorem raw_any {B : Nat} (g : Nat) (v : Value) (zs : List Int) (A : Option Addr) (n c : Nat) (ys : List Int) (w : World) (h : Wr w g v zs) (hr : Reads w B 1 A n (cellsOf .u8 ys)) (hn : zs.length + n <= 140737488355328) :
 Calls Tryz.prog 78 #[.pointer (some ⟨g, 0, none⟩), .slice A n c] w fun e w' => e = .returned (.tuple #[]) /\ WrPost w g v (zs ++ ys) w' := by
 obtain ⟨i0, hi, hz0, hz1, hz2⟩ := info_parts byteInfo
 have hcell := h.cell
 have hfr := h.fr
 have hown := h.own
 have hyl := hr.len
 obtain ⟨A0, c0, rfl, _, _⟩ := own_form hown
 have s2 : zs.length + n <= maxLen := by unfold maxLen; omega
 have s3 : (zs.length + n) * 1 <= 140737488355328 := by omega
 go_enter Tryz.func78, Tryz.ntmps78
 go_wp2_with (at_builtin; refine wpList_append_any _ rfl _ _ _ rfl 0 5 i0 (.int .u8 0) 1 1 Tryz.underlying24 hi hz0 hz1 hz2 rfl (Nat.lt_succ_self 0) (.slice A0 zs.length c0) zs.length (cellsOf .u8 zs) rfl hown B A n c (cellsOf .u8 ys) rfl hr (cellsOf_one _ _) s2 s3 (Nat.zero_le _) ?_; intro v1 w1 hown1 hg1 hat1; have b1 : Blk w1 g 143 #[.slice A0 zs.length c0] := h.blk.grown hg1 (fun e => h.ne e.symm); have hc1 : w1.cell? ⟨g, 0, none⟩ = some (.slice A0 zs.length c0) := b1.cell 0; have hf1 : w1.frozen? ⟨g, 0, none⟩ = false := b1.frozen 0; obtain ⟨A1, c1, rfl, _, _⟩ := own_form hown1)
 go_end0
 refine ⟨rfl, ?_⟩
 have e : zs.length + n = (zs ++ ys).length := by rw [List.length_append]; omega
 exact wr_end h (Below.refl _ _) hg1 (by rw [cellsOf_append, <- e]; exact hown1) hat1
theorem wdone_any (g : Nat) (v : Value) (zs : List Int) (w : World) (h : Wr w g v zs) (hn : zs.length <= 140737488355328) :
 Calls Tryz.prog 82 #[.pointer (some ⟨g, 0, none⟩)] w fun e w' => ∃ A' c', e = .returned (.slice A' zs.length c') /\ w'.ownsRow w.heap.size 5 1 (.slice A' zs.length c') zs.length (cellsOf .u8 zs) /\ Below w.heap.size w w' /\ zs.length <= c' /\ c' <= maxLen := by
 have hcell := h.cell
 obtain ⟨A0, c0, rfl, _, _⟩ := own_form h.own
 have hr := Reads.of_own h.own
 go_enter Tryz.func82, Tryz.ntmps82
 go_wp2_with (go_at_call 49; refine (clone_any A0 zs.length c0 zs w hr (Nat.le_refl _) hn).mono ?_; rintro e w1 ⟨A1, c1, rfl, hown1, hb1, hl1, hl2⟩)
 go_ret
 exact ⟨A1, c1, rfl, hown1, hb1, hl1, hl2⟩
theorem num_end {w w1 w2 : World} {g : Nat} {v v2 : Value} {zs ys : List Int} {n : Nat} (h : Wr w g v zs) (h1 : Below w.heap.size w w1) (hg2 : w1.grownBy w2 v.ownBlock) (hn : n = ys.length) (hown : w2.ownsRow 0 5 1 v2 (zs.length + n) (cellsOf .u8 zs ++ cellsOf .u8 ys))
 (hat : v2.ownBlock = v.ownBlock ∨ v2.ownBlock = some w1.heap.size) : WrPost w g v (zs ++ ys) (w2.setCell ⟨g, 0, none⟩ v2) := by
 subst hn
 exact wr_end h h1 hg2 (by rw [cellsOf_append, List.length_append]; exact hown) hat
set_option maxHeartbeats 1000000 in
theorem num_any (g : Nat) (v : Value) (zs : List Int) (n k : Int) (w : World) (h : Wr w g v zs) (hn : zs.length <= 100000000000) :
 Calls Tryz.prog 80 #[.pointer (some ⟨g, 0, none⟩), .int .u64 n, .int .i64 k] w fun e w' => e = .returned (.tuple #[]) /\ WrPost w g v (zs ++ bts n k) w' := by
 obtain ⟨i0, hi, hz0, hz1, hz2⟩ := info_parts byteInfo
 have hcell := h.cell
 have hfr := h.fr
 have hown := h.own
 have hgl := h.blk.lt
 have hbl := bts_le n k
 obtain ⟨A0, c0, rfl, _, _⟩ := own_form hown
 have s2 : zs.length + (bts n k).length <= maxLen := by unfold maxLen; omega
 have s3 : (zs.length + (bts n k).length) * 1 <= 140737488355328 := by omega
 go_enter Tryz.func80, Tryz.ntmps80
 go_wp2_with fail
 refine wp_region_any (by kernel_rfl) ?_
 try (change wpAny _ _ _ _ _ _ _ (World.drew _))
 refine take_yes (i := 0) (v := ?_) rfl (by kernel_rfl) (by kernel_rfl) (by kernel_rfl) (fun _ _ _ h => h) (by kernel_rfl) ?_ ?_
 rotate_left
 · intro wz; go_simp; try with_reducible rfl
 simp only [Act.put, lS, lZ, lC]
 refine take_yes (i := 1) (v := ?_) rfl (by kernel_rfl) (by kernel_rfl) (by kernel_rfl) (fun _ _ _ h => h) (by kernel_rfl) ?_ ?_
 rotate_left
 · intro wz; go_simp; try with_reducible rfl
 simp only [Act.put, lS, lZ, lC]
 refine take_yes (i := 2) (v := ?_) rfl (by kernel_rfl) (by kernel_rfl) (by kernel_rfl) (fun _ _ _ h => h) (by kernel_rfl) ?_ ?_
 rotate_left
 · intro wz; go_simp; try with_reducible rfl
 simp only [Act.put, lS, lZ, lC]
 refine take_yes (i := 3) (v := ?_) rfl (by kernel_rfl) (by kernel_rfl) (by kernel_rfl) (fun _ _ _ h => h) (by kernel_rfl) ?_ ?_
 rotate_left
 · intro wz; go_simp; try with_reducible rfl
 simp only [Act.put, lS, lZ, lC]
 refine take_yes (i := 5) (v := ?_) rfl (by kernel_rfl) (by kernel_rfl) (by kernel_rfl) (fun _ _ _ h => h) (by kernel_rfl) ?_ ?_
 rotate_left
 · intro wz; go_simp; try with_reducible rfl
 simp only [Act.put, lS, lZ, lC]
 refine take_yes (i := 6) (v := ?_) rfl (by kernel_rfl) (by kernel_rfl) (by kernel_rfl) (fun _ _ _ h => h) (by kernel_rfl) ?_ ?_
 rotate_left
 · intro wz; go_simp; try with_reducible rfl
 simp only [Act.put, lS, lZ, lC]
 refine wpAny_ready (rs := [4, 7]) (by kernel_rfl) (by simp) (AllReady.cons rfl (fun K hK => ?_) (AllReady.cons rfl (fun K hK => ?_) AllReady.nil))
 · go_simp
   refine hK _ _ ?_
   clear hK K
   refine wpAny_ready (rs := [7]) (by kernel_rfl) (by simp) (AllReady.cons rfl (fun K hK => ?_) AllReady.nil)
   go_simp
   go_wp2_with (go_at_call 129; refine (bytes_any _ _ _).mono ?_; rintro e w1 ⟨A1, c1, rfl, hown1, hb1⟩; have hR1 := Reads.of_own hown1; have hb : Below w.heap.size w w1 := below_drew0 (w := w) hb1; have hownW := own_chg hown (Chg.of_below hb (Nat.le_refl _) (fun _ => False)) (fun _ _ h => h))
   refine wpAny_ready (rs := [8]) (by kernel_rfl) (by simp) (AllReady.cons rfl (fun K hK => ?_) AllReady.nil)
   refine step_append_any _ rfl _ _ _ rfl 0 5 i0 (.int .u8 0) 1 1 Tryz.underlying24 hi hz0 hz1 hz2 rfl (Nat.lt_succ_self 0) (.slice A0 zs.length c0) zs.length (cellsOf .u8 zs) rfl hownW w1.heap.size A1 (bts n k).length c1 (cellsOf .u8 (bts n k)) rfl hR1 (cellsOf_one _ _) s2 s3 (Nat.zero_le _) ?_
   intro v2 w2 hown2 hg2 hat2
   refine hK _ _ ?_
   clear hK K
   simp only [Act.put, lS, lZ, lC]
   have b2 : Blk w2 g 143 #[.slice A0 zs.length c0] := (h.blk.below hb hgl).grown hg2 (fun e => h.ne e.symm)
   have hc2 : w2.cell? ⟨g, 0, none⟩ = some (.slice A0 zs.length c0) := b2.cell 0
   have hf2 : w2.frozen? ⟨g, 0, none⟩ = false := b2.frozen 0
   obtain ⟨A2, c2, rfl, _, _⟩ := own_form hown2
   refine take_yes (i := 9) (v := ?_) rfl (by kernel_rfl) (by kernel_rfl) (by kernel_rfl) (fun _ _ _ h => h) (by kernel_rfl) ?_ ?_
   rotate_left
   · intro wz; go_simp; try with_reducible rfl
   simp only [Act.put, lS, lZ, lC]
   refine take_yes (i := 10) (v := ?_) rfl (by kernel_rfl) (by kernel_rfl) (by kernel_rfl) (fun _ _ _ h => h) (by kernel_rfl) ?_ ?_
   rotate_left
   · intro wz; go_simp; try with_reducible rfl
   simp only [Act.put, lS, lZ, lC]
   refine wpAny_ready (rs := [11]) (by kernel_rfl) (by simp) (AllReady.cons rfl (fun K hK => ?_) AllReady.nil)
   go_simp
   refine hK _ _ ?_
   clear hK K
   refine wpAny_done (by kernel_rfl) ?_ _
   go_wp2
   go_end0
   exact ⟨rfl, num_end h hb hg2 rfl hown2 hat2⟩
 · go_simp
   go_wp2_with (go_at_call 129; refine (bytes_any _ _ _).mono ?_; rintro e w1 ⟨A1, c1, rfl, hown1, hb1⟩; have hR1 := Reads.of_own hown1; have hb : Below w.heap.size w w1 := below_drew0 (w := w) hb1; have hownW := own_chg hown (Chg.of_below hb (Nat.le_refl _) (fun _ => False)) (fun _ _ h => h); have hc1 : w1.cell? ⟨g, 0, none⟩ = some (.slice A0 zs.length c0) := (h.blk.below hb hgl).cell 0)
   refine wpAny_ready (rs := [4]) (by kernel_rfl) (by simp) (AllReady.cons rfl (fun K hK => ?_) AllReady.nil)
   go_simp
   refine hK _ _ ?_
   clear hK K
   refine wpAny_ready (rs := [8]) (by kernel_rfl) (by simp) (AllReady.cons rfl (fun K hK => ?_) AllReady.nil)
   refine step_append_any _ rfl _ _ _ rfl 0 5 i0 (.int .u8 0) 1 1 Tryz.underlying24 hi hz0 hz1 hz2 rfl (Nat.lt_succ_self 0) (.slice A0 zs.length c0) zs.length (cellsOf .u8 zs) rfl hownW w1.heap.size A1 (bts n k).length c1 (cellsOf .u8 (bts n k)) rfl hR1 (cellsOf_one _ _) s2 s3 (Nat.zero_le _) ?_
   intro v2 w2 hown2 hg2 hat2
   refine hK _ _ ?_
   clear hK K
   simp only [Act.put, lS, lZ, lC]
   have b2 : Blk w2 g 143 #[.slice A0 zs.length c0] := (h.blk.below hb hgl).grown hg2 (fun e => h.ne e.symm)
   have hc2 : w2.cell? ⟨g, 0, none⟩ = some (.slice A0 zs.length c0) := b2.cell 0
   have hf2 : w2.frozen? ⟨g, 0, none⟩ = false := b2.frozen 0
   obtain ⟨A2, c2, rfl, _, _⟩ := own_form hown2
   refine take_yes (i := 9) (v := ?_) rfl (by kernel_rfl) (by kernel_rfl) (by kernel_rfl) (fun _ _ _ h => h) (by kernel_rfl) ?_ ?_
   rotate_left
   · intro wz; go_simp; try with_reducible rfl
   simp only [Act.put, lS, lZ, lC]
   refine take_yes (i := 10) (v := ?_) rfl (by kernel_rfl) (by kernel_rfl) (by kernel_rfl) (fun _ _ _ h => h) (by kernel_rfl) ?_ ?_
   rotate_left
   · intro wz; go_simp; try with_reducible rfl
   simp only [Act.put, lS, lZ, lC]
   refine wpAny_ready (rs := [11]) (by kernel_rfl) (by simp) (AllReady.cons rfl (fun K hK => ?_) AllReady.nil)
   go_simp
   refine hK _ _ ?_
   clear hK K
   refine wpAny_done (by kernel_rfl) ?_ _
   go_wp2
   go_end0
   exact ⟨rfl, num_end h hb hg2 rfl hown2 hat2⟩
def wordsB (l : List Int) : List Int := l.flatMap fun n => bts n 8
theorem wordsB_length : ∀ l : List Int, (wordsB l).length = 8 * l.length
 | [] => rfl
 | n :: r => by
   have h := wordsB_length r
   unfold wordsB at h ⊢
   rw [List.flatMap_cons, List.length_append, bts_length, h, List.length_cons]
   omega
theorem wordsB_bytes (l : List Int) : AreB (wordsB l) := fun z hz => by
 obtain ⟨n, _, h⟩ := List.mem_flatMap.1 hz
 exact bts_bytes n 8 z h
theorem wordsB_take {l : List Int} {k : Nat} (h : k < l.length) : wordsB (l.take (k + 1)) = wordsB (l.take k) ++ bts (l.getD k 0) 8 := by
 unfold wordsB
 rw [List.take_succ_eq_append_getElem h, List.flatMap_append]
 congr 1
 simp [List.getD_eq_getElem?_getD, List.getElem?_eq_getElem h]
theorem WrPost.start {w : World} {g : Nat} {v : Value} {zs : List Int} (h : Wr w g v zs) : WrPost w g v zs w := ⟨v, h, Chg.refl _ _, Moved.refl _ _⟩
theorem WrPost.step {w w1 w2 : World} {g : Nat} {v v1 : Value} {zs2 : List Int} (hc : Chg (fun k => k = g ∨ v.ownBlock = some k) w w1) (hm : Moved w v v1) (h : WrPost w1 g v1 zs2 w2) : WrPost w g v zs2 w2 := by
 obtain ⟨v2, hw, hc2, hm2⟩ := h
 refine ⟨v2, hw, hc.trans hc2 (fun k hk hT => ?_), hm.trans hm2 hc.size⟩
 rcases hT with e | e
 · exact .inl e
 · rcases hm with e2 | ⟨j, e2, hj⟩
   · exact .inr (e2 ▸ e)
   · rw [e2] at e; injection e with e; omega
set_option maxHeartbeats 1000000 in
theorem words_any {B : Nat} (g : Nat) (v : Value) (zs : List Int) (A : Option Addr) (m c : Nat) (l : List Int) (w : World) (h : Wr w g v zs) (hr : Reads w B 1 A m (cellsOf .u64 l)) (hB : B <= w.heap.size)
 (hdis : 0 < m -> ∀ ad, A = some ad -> ¬ (ad.block = g ∨ v.ownBlock = some ad.block)) (hn : zs.length + 8 * m <= 100000000000) :
 Calls Tryz.prog 79 #[.pointer (some ⟨g, 0, none⟩), .slice A m c] w fun e w' => e = .returned (.tuple #[]) /\ WrPost w g v (zs ++ wordsB l) w' := by
 have hl := hr.len
 have hm : m <= 100000000000 := by omega
 go_enter Tryz.func79, Tryz.ntmps79
 go_wp2_with fail
 go_loopw [8] (fun i wr => ∃ k : Nat, k <= m /\ i = .int .i64 k /\ WrPost w g v (zs ++ wordsB (l.take k)) wr) (fun i _ => m - (intOf i).toNat)
 case atStart => exact ⟨0, Nat.zero_le _, rfl, by simpa [wordsB] using WrPost.start h⟩
 case round =>
   obtain ⟨k, hk, rfl, hp⟩ := hrel
   by_cases hlt : k < m
   · obtain ⟨v1, hw1, hc1, hm1⟩ := hp
     have hrr := hr.chg hc1 hB hdis
     obtain ⟨b, off, rfl, _, hcc⟩ := hrr.plain (by omega)
     have hcell := hcc k hlt
     have hs : (zs ++ wordsB (l.take k)).length <= 100000000000 := by rw [List.length_append, wordsB_length, List.length_take]; omega
     generalize hxe : l.getD k 0 = x at hcell
     have HX := Lib.hid hxe
     clear hxe hcc hrr hr hdis
     go_wp2_with (go_at_call 80; refine (num_any g v1 _ x 8 wr hw1 hs).mono ?_; rintro e w2 ⟨rfl, hp2⟩)
     go_roundw
     case rel =>
       have hp3 := WrPost.step hc1 hm1 hp2
       rw [List.append_assoc, <- HX.out, <- wordsB_take (by omega)] at hp3
       exact ⟨k + 1, by omega, by go_num, hp3⟩
     case measure => simp [intOf]; omega
   · have e : k = m := by omega
     subst e
     rw [List.take_of_length_le (by omega)] at hp
     go_wp2
     go_end0
     exact ⟨rfl, hp⟩
def padn (len : Nat) (to : Int) : Nat := if to < 1 then 0 else if (len : Int) % to = 0 then 0 else (to - (len : Int) % to).toNat
theorem padn_lt (len : Nat) {to : Int} (h : to <= 4096) : padn len to <= 4096 := by
 unfold padn
 split
 · omega
 · split
   · omega
   · have := Int.emod_nonneg (len : Int) (show to ≠ 0 by omega)
     omega
set_option maxHeartbeats 1000000 in
theorem pad_any (g : Nat) (v : Value) (zs : List Int) (to : Int) (w : World) (h : Wr w g v zs) (ht : to <= 4096) (ht0 : -9223372036854775808 <= to) (hn : zs.length <= 1000000000) :
 Calls Tryz.prog 83 #[.pointer (some ⟨g, 0, none⟩), .int .i64 to] w fun e w' => e = .returned (.tuple #[]) /\ WrPost w g v (zs ++ List.replicate (padn zs.length to) 0) w' := by
 obtain ⟨i0, hi, hz0, hz1, hz2⟩ := info_parts byteInfo
 have hcell := h.cell
 have hfr := h.fr
 have hown := h.own
 obtain ⟨A0, c0, rfl, _, _⟩ := own_form hown
 by_cases h1 : to < 1
 · have e : padn zs.length to = 0 := by unfold padn; rw [if_pos h1]
   rw [e]
   go_enter Tryz.func83, Tryz.ntmps83
   go_wp2
   refine bodyPost_ret (results_none rfl _ _ _) rfl ?_
   exact ⟨rfl, by simpa using WrPost.start h⟩
 · by_cases h2 : (zs.length : Int) % to = 0
   · have e : padn zs.length to = 0 := by unfold padn; rw [if_neg h1, if_pos h2]
     rw [e]
     have h3 : (((zs.length : Int) % to) == 0) = true := by simpa using h2
     clear h2
     go_enter Tryz.func83, Tryz.ntmps83
     go_wp2
     refine bodyPost_ret (results_none rfl _ _ _) rfl ?_
     exact ⟨rfl, by simpa using WrPost.start h⟩
   · have hp0 := Int.emod_nonneg (zs.length : Int) (show to ≠ 0 by omega)
     have hp1 := Int.emod_lt_of_pos (zs.length : Int) (show 0 < to by omega)
     obtain ⟨k, hk⟩ : ∃ k : Nat, (k : Int) = to - (zs.length : Int) % to := ⟨(to - (zs.length : Int) % to).toNat, by omega⟩
     have e : padn zs.length to = k := by unfold padn; rw [if_neg h1, if_neg h2]; omega
     rw [e]
     obtain ⟨v2, w2, hr, hown2, hg2, hat2⟩ := run_append_zeros_own (P := Tryz.prog) w 0 24 3 24 5 i0 (.int .u8 0) .i64 .i64 Tryz.underlying24 Tryz.underlying3 hi hz0 hz1 hz2 rfl rfl (.slice A0 zs.length c0) zs.length _ hown k (by omega) (by omega) (Nat.zero_le _)
     rw [hk] at hr
     have HR := Lib.hid hr
     have h3 : (((zs.length : Int) % to) == 0) = false := by simpa using h2
     have h4 : to - (zs.length : Int) % to <= 2147483647 - (zs.length : Int) := by omega
     clear hr e h2 hk
     have b2 : Blk w2 g 143 #[.slice A0 zs.length c0] := h.blk.grown hg2 (fun e => h.ne e.symm)
     have hc2 : w2.cell? ⟨g, 0, none⟩ = some (.slice A0 zs.length c0) := b2.cell 0
     have hf2 : w2.frozen? ⟨g, 0, none⟩ = false := b2.frozen 0
     obtain ⟨A2, c2, rfl, _, _⟩ := own_form hown2
     go_enter Tryz.func83, Tryz.ntmps83
     go_wp2_with (at_builtin; refine Lib.wpList_append_run _ rfl _ _ _ _ rfl _ _ rfl rfl _ _ HR.out ?_)
     go_end0
     refine ⟨rfl, ?_⟩
     have hx : cellsOf .u8 zs ++ List.replicate k (Value.int .u8 0) = cellsOf .u8 (zs ++ List.replicate k 0) := by rw [cellsOf_append]; simp [cellsOf]
     rw [hx] at hown2
     exact wr_end h (Below.refl _ _) hg2 (by rw [List.length_append, List.length_replicate]; exact hown2) hat2
structure Rd (w : World) (B g : Nat) (p : Int) (A : Option Addr) (n c : Nat) (zs : List Int) (bad : Bool) : Prop where
 blk : Blk w g 179 #[.int .i64 p, .slice A n c, .bool bad]
 reads : Reads w B 1 A n (cellsOf .u8 zs)
 low : B <= w.heap.size
 le : n <= c
 cap : c <= 9223372036854775807
 ne : 0 < n -> ∀ ad, A = some ad -> ad.block ≠ g
def RdPost (w : World) (B g : Nat) (p : Int) (zs : List Int) (bad : Bool) (w' : World) : Prop := ∃ A n c, Rd w' B g p A n c zs bad /\ Chg (fun k => k = g) w w'
theorem Rd.below {w w' : World} {B g n c : Nat} {p : Int} {A : Option Addr} {zs : List Int} {bad : Bool} (h : Rd w B g p A n c zs bad) (hb : Below w.heap.size w w') : Rd w' B g p A n c zs bad :=
 ⟨h.blk.below hb h.blk.lt, h.reads.keep (fun p hp => hb.cell (by have := h.low; omega)), by have := h.low; have := hb.size; omega, h.le, h.cap, h.ne⟩
theorem spoil_any (B g n c : Nat) (p : Int) (A : Option Addr) (zs : List Int) (bad : Bool) (w : World) (h : Rd w B g p A n c zs bad) :
 Calls Tryz.prog 119 #[.pointer (some ⟨g, 0, none⟩)] w fun e w' => e = .returned (.tuple #[]) /\ RdPost w B g p [] true w' := by
 have c1 : w.cell? ⟨g, 1, none⟩ = some (.slice A n c) := h.blk.cell 1
 have c2 : w.cell? ⟨g, 2, none⟩ = some (.bool bad) := h.blk.cell 2
 have f1 := h.blk.frozen 1
 have f2 := h.blk.frozen 2
 go_enter Tryz.func119, Tryz.ntmps119
 go_wp2
 go_end0
 refine ⟨rfl, none, 0, 0, ⟨?_, Reads.none_, by simpa using h.low, Nat.le_refl _, by omega, fun h => absurd h (by omega)⟩, ?_⟩
 · have := (h.blk.set_ 2 (.bool true)).set_ 1 (.slice none 0 0)
   simpa using this
 · exact ((Chg.refl (fun k => k = g) w).setCell (p := ⟨g, 2, none⟩) (.inr rfl) _).setCell (p := ⟨g, 1, none⟩) (.inr rfl) _
theorem skip_any (B g n c m : Nat) (p : Int) (A : Option Addr) (zs : List Int) (bad : Bool) (w : World) (h : Rd w B g p A n c zs bad) (hm : m <= n) (hp : 0 <= p) (hp' : p + m <= 4611686018427387904) :
 Calls Tryz.prog 120 #[.pointer (some ⟨g, 0, none⟩), .int .i64 m] w fun e w' => e = .returned (.tuple #[]) /\ RdPost w B g (p + m) (zs.drop m) bad w' := by
 have c0 : w.cell? ⟨g, 0, none⟩ = some (.int .i64 p) := h.blk.cell 0
 have c1 : w.cell? ⟨g, 1, none⟩ = some (.slice A n c) := h.blk.cell 1
 have f0 := h.blk.frozen 0
 have f1 := h.blk.frozen 1
 have hle := h.le
 have hcap := h.cap
 obtain ⟨A', hA'⟩ : ∃ A', (if c = m then A else A.map (·.add m)) = A' := ⟨_, rfl⟩
 have hcut := h.reads.cut (k := m) (cap := c) hm hle
 rw [Nat.mul_one, hA', cellsOf_drop] at hcut
 have i1 : (m : Int) <= n := by omega
 go_enter Tryz.func120, Tryz.ntmps120
 go_wp2
 go_end0
 have hne : 0 < n - m -> ∀ ad, A' = some ad -> ¬ (ad.block = g) := fun hn ad e => by
   rw [if_neg (by omega)] at hA'
   obtain ⟨ad0, e0, _⟩ := h.reads.2 (by omega)
   rw [<- hA', e0] at e
   simp at e
   rw [<- e, block_of_add]
   exact h.ne (by omega) ad0 e0
 have hch : Chg (fun k => k = g) w ((w.setCell ⟨g, 0, none⟩ (.int .i64 (p + m))).setCell ⟨g, 1, none⟩ (.slice A' (n - m) (c - m))) :=
   ((Chg.refl (fun k => k = g) w).setCell (p := ⟨g, 0, none⟩) (.inr rfl) _).setCell (p := ⟨g, 1, none⟩) (.inr rfl) _
 refine ⟨rfl, A', n - m, c - m, ⟨?_, hcut.chg hch h.low hne, Nat.le_trans h.low hch.size, by omega, by omega, hne⟩, hch⟩
 have := (h.blk.set_ 0 (.int .i64 (p + m))).set_ 1 (.slice A' (n - m) (c - m))
 simpa using this
theorem num_yes (B g n c m : Nat) (p : Int) (A : Option Addr) (zs : List Int) (bad : Bool) (w : World) (h : Rd w B g p A n c zs bad) (hz : AreB zs) (hw : isw (m : Int) = true) (hm : m <= n) (hp : 0 <= p) (hp' : p + m <= 4611686018427387904) :
 Calls Tryz.prog 62 #[.pointer (some ⟨g, 0, none⟩), .int .i64 m] w fun e w' => e = .returned (.int .u64 (lev (zs.take m))) /\ RdPost w B g (p + m) (zs.drop m) bad w' := by
 have c1 : w.cell? ⟨g, 1, none⟩ = some (.slice A n c) := h.blk.cell 1
 have hle := h.le
 have hcap := h.cap
 have hm1 := isw_cases hw
 have hok : gok n 0 (m : Int) = true := by rw [gok_isw, hw]; simp; omega
 have hnum : gnum zs 0 (m : Int) = lev (zs.take m) := by unfold gnum; rw [h.reads.len, hok]; simp
 have G := Lib.hid (get_any A n c 0 (m : Int) zs w h.reads hz hle hcap (by omega) (by omega) (by omega) (by omega))
 rw [hok, hnum] at G
 clear hok hnum hw hm1
 go_enter Tryz.func62, Tryz.ntmps62
 go_wp2_with (first
   | (go_at_call 52; refine G.out.mono ?_; rintro e w1 ⟨rfl, rfl⟩)
   | (go_at_call 120; refine (skip_any B g n c m p A zs bad w h hm hp hp').mono ?_; rintro e w1 ⟨rfl, hp1⟩))
 go_ret
 exact ⟨rfl, hp1⟩
theorem rraw_yes (B g n c m : Nat) (p : Int) (A : Option Addr) (zs : List Int) (bad : Bool) (w : World) (h : Rd w B g p A n c zs bad) (hm : m <= n) (hp : 0 <= p) (hp' : p + m <= 4611686018427387904) (hn : n <= 140737488355328) :
 Calls Tryz.prog 167 #[.pointer (some ⟨g, 0, none⟩), .int .i64 m] w fun e w' => ∃ A1 c1, e = .returned (.slice A1 m c1) /\ (∃ w1, w1.ownsRow w.heap.size 5 1 (.slice A1 m c1) m (cellsOf .u8 (zs.take m)) /\ Below w.heap.size w w1 /\ RdPost w1 B g (p + m) (zs.drop m) bad w') := by
 have c1 : w.cell? ⟨g, 1, none⟩ = some (.slice A n c) := h.blk.cell 1
 have hle := h.le
 have hcap := h.cap
 have i1 : (m : Int) <= n := by omega
 have i2 : (m : Int) <= c := by omega
 have hr : Reads w B 1 A m (cellsOf .u8 (zs.take m)) := by
   refine ⟨by rw [cellsOf_length, List.length_take, h.reads.len]; omega, fun h0 => ?_⟩
   obtain ⟨ad, e, hb, hc⟩ := h.reads.2 (by omega)
   refine ⟨ad, e, hb, fun j u hu => hc j u ?_⟩
   simp only [cellsOf, List.map_take, List.getElem?_take] at hu
   split at hu
   · exact hu
   · cases hu
 go_enter Tryz.func167, Tryz.ntmps167
 go_wp2_with (first
   | (go_at_call 49; refine (clone_any A m _ (zs.take m) w hr h.low (by omega)).mono ?_; rintro e w1 ⟨A1, c1, rfl, hown1, hb1, _, _⟩)
   | (go_at_call 120; refine (skip_any B g n c m p A zs bad _ (h.below hb1) hm hp hp').mono ?_; rintro e w2 ⟨rfl, hp1⟩))
 go_ret
 exact ⟨A1, c1, rfl, w1, hown1, hb1, hp1⟩
theorem read_yes {B : Nat} (A : Option Addr) (n c m : Nat) (zs : List Int) (w : World) (hr : Reads w B 1 A n (cellsOf .u8 zs)) (hB : B <= w.heap.size) (hl : n <= c) (hcap : c <= 9223372036854775807) (hm : m <= n) (hn : n <= 140737488355328) :
 Calls Tryz.prog 61 #[.slice A n c, .int .i64 m] w fun e w' => ∃ g B' A' c', e = .returned (.pointer (some ⟨g, 0, none⟩)) /\ Rd w' B' g m A' (n - m) c' (zs.drop m) false /\ Below w.heap.size w w' /\ w.heap.size <= g := by
 have i1 : (m : Int) <= n := by omega
 obtain ⟨A0, hA0⟩ : ∃ A0, (if c = m then A else A.map (·.add m)) = A0 := ⟨_, rfl⟩
 have hcut := hr.cut (k := m) (cap := c) hm hl
 rw [Nat.mul_one, hA0, cellsOf_drop] at hcut
 go_enter Tryz.func61, Tryz.ntmps61
 go_wp2_with (go_at_call 49; refine (clone_any A0 (n - m) _ (zs.drop m) w hcut hB (by omega)).mono ?_; rintro e w1 ⟨A1, c1, rfl, hown1, hb1, hc1, hc2⟩)
 go_ret
 refine ⟨w1.heap.size, w1.heap.size, A1, c1, rfl, ⟨Blk.new _ _ _, (Reads.of_own hown1).alloc (Nat.le_refl _) _, by simp, hc1, by unfold maxLen at hc2; omega, fun hn0 ad e => ?_⟩, hb1.alloc hb1.size _, hb1.size⟩
 obtain ⟨ad', e', hb', _⟩ := (Reads.of_own hown1).2 hn0
 rw [e] at e'; injection e' with e'
 subst e'
 omega
theorem wordInfo : (Tryz.prog.info? 27).map (fun i => (i.zero, i.size, i.bytes)) = some (some (.int .u64 0), 1, 8) := by kernel_rfl
def wrds : Nat -> List Int -> List Int
 | 0, _ => []
 | k + 1, zs => lev (zs.take 8) :: wrds k (zs.drop 8)
theorem wrds_length : ∀ (k : Nat) (zs : List Int), (wrds k zs).length = k
 | 0, _ => rfl
 | k + 1, zs => by simp [wrds, wrds_length k]
theorem wrds_snoc : ∀ (k : Nat) (zs : List Int), wrds (k + 1) zs = wrds k zs ++ [lev ((zs.drop (8 * k)).take 8)]
 | 0, zs => by simp [wrds]
 | k + 1, zs => by
   rw [wrds, wrds_snoc k (zs.drop 8), wrds, List.cons_append, List.drop_drop, show 8 + 8 * k = 8 * (k + 1) by omega]
theorem wrds_fill {k m : Nat} (h : k < m) (zs : List Int) : (wrds k zs ++ List.replicate (m - k) 0).set k (lev ((zs.drop (8 * k)).take 8)) = wrds (k + 1) zs ++ List.replicate (m - (k + 1)) 0 := by
 rw [List.set_append_right _ _ (by rw [wrds_length]; omega), wrds_length, Nat.sub_self, wrds_snoc, List.append_assoc]
 congr 1
 obtain ⟨j, hj⟩ : ∃ j, m - k = j + 1 := ⟨m - k - 1, by omega⟩
 rw [hj, List.replicate_succ, List.set_cons_zero, show m - (k + 1) = j by omega]
 rfl
def RWordsPost (w : World) (B g m : Nat) (p : Int) (zs : List Int) (bad : Bool) (A1 : Option Addr) (c1 : Nat) (w' : World) : Prop :=
 w'.ownsRow w.heap.size 27 1 (.slice A1 m c1) m (cellsOf .u64 (wrds m zs)) /\ RdPost w B g (p + 8 * m) (zs.drop (8 * m)) bad w'
set_option maxHeartbeats 1000000 in
theorem rwords_yes (B g n c m : Nat) (p : Int) (A : Option Addr) (zs : List Int) (bad : Bool) (w : World) (h : Rd w B g p A n c zs bad) (hz : AreB zs) (hm : 8 * m <= n) (hp : 0 <= p) (hp' : p + n <= 4611686018427387904) (hn : n <= 140737488355328) :
 Calls Tryz.prog 164 #[.pointer (some ⟨g, 0, none⟩), .int .i64 m] w fun e w' => ∃ A1 c1, e = .returned (.slice A1 m c1) /\ RWordsPost w B g m p zs bad A1 c1 w' := by
 obtain ⟨i0, hi, hz0, hz1, hz2⟩ := info_parts wordInfo
 have c1 : w.cell? ⟨g, 1, none⟩ = some (.slice A n c) := h.blk.cell 1
 have hle := h.le
 have hcap := h.cap
 have hgl := h.blk.lt
 have hlen := h.reads.len
 have i1 : (m : Int) <= (n : Int) / 8 := by omega
 have hb2 : i0.bytes * m <= 281474976710656 := by rw [hz2]; omega
 have hm3 : m <= maxLen := by unfold maxLen; omega
 have hlow := h.low
 have HLEN := Lib.hid hlen
 clear hlen
 go_enter Tryz.func164, Tryz.ntmps164
 go_wp2_with (at_make; refine wpList_make_full _ rfl _ _ 114 rfl w.heap.size 27 i0 (.int .u64 0) 1 Tryz.underlying114 hi hz0 hz1 _ _ _ _ m rfl rfl rfl rfl hb2 hm3 (Nat.le_refl _) ?_; intro w1 hown1 hg1)
 have hst : (madeCells (Value.int IntKind.u64 0).cells m).toList = cellsOf .u64 (List.replicate m 0) := by
   show (madeCells #[Value.int IntKind.u64 0] m).toList = _
   rw [toList_madeCells_one]; simp [cellsOf]
 have hb1 : Below w.heap.size w w1 := (Below.refl _ _).grown hg1 (Nat.le_refl _) (by simp)
 have hown2 : w1.ownsRow w.heap.size 27 1 (.slice (some ⟨w.heap.size, 0, none⟩) m m) m (cellsOf .u64 (List.replicate m 0)) := by
   rw [<- hst]
   simpa using hown1
 have h1 := h.below hb1
 clear hst hown1 hg1
 go_loopw [6, 25] (fun _ i wr => ∃ k : Nat, k <= m /\ i = .int .i64 k /\ wr.ownsRow w.heap.size 27 1 (.slice (some ⟨w.heap.size, 0, none⟩) m m) m (cellsOf .u64 (wrds k zs ++ List.replicate (m - k) 0)) /\ RdPost w B g (p + 8 * k) (zs.drop (8 * k)) bad wr)
   (fun _ i _ => m - (intOf i).toNat)
 case atStart =>
   exact ⟨0, Nat.zero_le _, rfl, by simpa [wrds] using hown2, A, n, c, by simpa using h1, Chg.of_below hb1 (Nat.le_refl _) _⟩
 case round =>
   obtain ⟨k, hk, rfl, hown, A2, n2, c2, hrd, hch⟩ := hrel
   by_cases hlt : k < m
   · have hn2 : n2 = n - 8 * k := by have := hrd.reads.len; rw [List.length_drop, HLEN.out] at this; omega
     have hn3 : 8 <= n2 := by omega
     have hp2 : 0 <= p + 8 * (k : Int) := by omega
     have hp3 : p + 8 * (k : Int) + (8 : Nat) <= 4611686018427387904 := by omega
     have hs := hch.size
     have hwn : (wrds k zs ++ List.replicate (m - k) (0 : Int)).length = m := by rw [List.length_append, wrds_length, List.length_replicate]; omega
     have HWN := Lib.hid hwn
     clear hn2 hwn
     go_wp2_with (go_at_call 62; refine (num_yes B g n2 c2 8 _ A2 _ bad wr hrd (hz.drop _) rfl hn3 hp2 hp3).mono ?_; rintro e w2 ⟨rfl, A3, n3, c3, hrd3, hch3⟩; have hown3 := own_chg hown hch3 (fun j e1 e2 => by rw [e2] at e1; simp [Value.ownBlock] at e1; omega); have q1 : w2.cell? ⟨w.heap.size, k, none⟩ = _ := hown3.cellAt k (by omega); rw [cellsOf_get (by rw [HWN.out]; exact hlt)] at q1; have q2 := hown3.frozenAt k)
     go_roundw
     case rel =>
       have hs3 := hch3.size
       have hst := (hown3.stored k (.int .u64 (lev ((zs.drop (8 * k)).take 8)))).1
       rw [cellsOf_set, wrds_fill hlt] at hst
       refine ⟨k + 1, by omega, by go_num, hst, A3, n3, c3, ⟨?_, ?_, ?_, hrd3.le, hrd3.cap, hrd3.ne⟩, ?_⟩
       · have hb3 := hrd3.blk.far (p := ⟨w.heap.size, k, none⟩) (by simp; omega) (.int .u64 (lev ((zs.drop (8 * k)).take 8)))
         have e : p + 8 * ((k + 1 : Nat) : Int) = p + 8 * (k : Int) + ((8 : Nat) : Int) := by omega
         rw [e]
         exact hb3
       · have hr3 := hrd3.reads
         rw [List.drop_drop, show 8 * k + 8 = 8 * (k + 1) by omega] at hr3
         exact hr3.setCell (p := ⟨w.heap.size, k, none⟩) hlow _
       · simpa using hrd3.low
       · exact (hch.trans hch3 (fun _ _ e => e)).setCell (.inl (Nat.le_refl _)) _
     case measure => simp [intOf]; omega
   · have e : k = m := by omega
     subst e
     go_wp2
     go_ret
     exact ⟨_, _, rfl, by simpa using hown, A2, n2, c2, hrd, hch⟩
structure WB (w0 : World) (g : Nat) (v : Value) (zs : List Int) (wx : World) : Prop where
 wr : Wr wx g v zs
 bel : Below w0.heap.size w0 wx
 low : ∀ j, v.ownBlock = some j -> w0.heap.size <= j
theorem WB.step {w0 wx wy : World} {g : Nat} {v : Value} {zs zs' : List Int} (hg : w0.heap.size <= g) (h : WB w0 g v zs wx) (hp : WrPost wx g v zs' wy) : ∃ v', WB w0 g v' zs' wy := by
 obtain ⟨v', hw, hc, hm⟩ := hp
 have hs := h.bel.size
 refine ⟨v', hw, h.bel.trans (hc.below hs (fun j _ hj => ?_)), fun j hj => ?_⟩
 · rcases hj with e | e
   · omega
   · exact h.low j e
 · rcases hm with e | ⟨k, e, hk⟩
   · exact h.low j (e ▸ hj)
   · rw [e] at hj; injection hj with hj; omega
theorem wdone_n (g n : Nat) (v : Value) (zs : List Int) (w : World) (h : Wr w g v zs) (hz : zs.length = n) (hn : n <= 140737488355328) :
 Calls Tryz.prog 82 #[.pointer (some ⟨g, 0, none⟩)] w fun e w' => ∃ A' c', e = .returned (.slice A' n c') /\ Reads w' w'.heap.size 1 A' n (cellsOf .u8 zs) /\ Below w.heap.size w w' /\ n <= c' /\ c' <= 9223372036854775807 := by
 subst hz
 exact (wdone_any g v zs w h hn).mono fun e w' ⟨A', c', he, hown, hb, h1, h2⟩ => ⟨A', c', he, Reads.of_own hown, hb, h1, by unfold maxLen at h2; omega⟩
theorem wrds_wordsB : ∀ (l : List Int) (r : List Int), (∀ z ∈ l, 0 <= z /\ z < 18446744073709551616) -> wrds l.length (wordsB l ++ r) = l
 | [], _, _ => rfl
 | x :: l, r, h => by
   have hx := h x (by simp)
   have h8 : (bts x 8).length = 8 := by rw [bts_length]; rfl
   have e : wordsB (x :: l) ++ r = bts x 8 ++ (wordsB l ++ r) := by simp [wordsB]
   rw [List.length_cons, wrds, e, List.take_left' h8, List.drop_left' h8, wrds_wordsB l r (fun z hz => h z (by simp [hz]))]
   congr 1
   exact lev_enb 8 x hx.1 (by have := hx.2; omega)
theorem padn_eight (n : Nat) : padn n 8 = (8 - n % 8) % 8 := by
 unfold padn
 rw [if_neg (by omega)]
 split <;> omega
def Told (zs : List Int) (w : World) (e : Ending) (w' : World) : Prop :=
 ∃ A N c, e = .returned (.slice A N c) /\ N = zs.length /\ w'.ownsRow w.heap.size 5 1 (.slice A N c) N (cellsOf .u8 zs) /\ Below w.heap.size w w' /\ N <= c /\ c <= 9223372036854775807
theorem Told.nil (w w' : World) (h : Below w.heap.size w w') : Told [] w (.returned (.slice none 0 0)) w' := ⟨none, 0, 0, rfl, rfl, World.ownsRow_nil _ _ _ _, h, Nat.le_refl _, by omega⟩
theorem WB.below {w0 wx wy : World} {g : Nat} {v : Value} {zs : List Int} (h : WB w0 g v zs wx) (hb : Below wx.heap.size wx wy) : WB w0 g v zs wy :=
 ⟨h.wr.chg (Chg.of_below hb (Nat.le_refl _) (fun _ => False)) (fun h => h) (fun _ _ h => h), h.bel.trans (hb.mono h.bel.size), h.low⟩
theorem WB.dis {w0 wx wy : World} {g : Nat} {v : Value} {zs : List Int} {L n : Nat} {A : Option Addr} {xs : List Value} (h : WB w0 g v zs wx) (hg : w0.heap.size <= g) (hr : Reads wy L 1 A n xs) (hL : L <= w0.heap.size) :
 0 < n -> ∀ ad, A = some ad -> ¬ (ad.block = g ∨ v.ownBlock = some ad.block) := fun hn ad e => by
 obtain ⟨ad', e', hb', _⟩ := hr.2 hn
 rw [e] at e'; injection e' with e'
 subst e'
 rintro (e2 | e2)
 · omega
 · have := h.low _ e2; omega
theorem nob (w : World) : WB w w.heap.size (.slice none 0 0) [] (w.alloc (.cells #[.slice none 0 0] 143)) :=
 ⟨⟨Blk.new _ _ _, World.ownsRow_nil _ _ _ _⟩, (Below.refl _ _).alloc (Nat.le_refl _) _, fun j hj => by simp [Value.ownBlock] at hj⟩
structure OutB (w0 : World) (v : Value) (N : Nat) (zs : List Int) (wx : World) : Prop where
 own : wx.ownsRow w0.heap.size 5 1 v N (cellsOf .u8 zs)
 bel : Below w0.heap.size w0 wx
theorem OutB.below {w0 wx wy : World} {v : Value} {N : Nat} {zs : List Int} (h : OutB w0 v N zs wx) (hb : Below wx.heap.size wx wy) : OutB w0 v N zs wy :=
 ⟨own_below h.own hb, h.bel.trans (hb.mono h.bel.size)⟩
theorem OutB.app {w0 wx wy : World} {v v' : Value} {N M : Nat} {zs ys : List Int} (h : OutB w0 v N zs wx) (ho : wy.ownsRow w0.heap.size 5 1 v' (N + M) (cellsOf .u8 zs ++ cellsOf .u8 ys)) (hg : wx.grownBy wy v.ownBlock) : OutB w0 v' (N + M) (zs ++ ys) wy :=
 ⟨by rw [cellsOf_append]; exact ho, own_grown h.bel h.own (Nat.le_refl _) h.bel.size hg⟩
theorem rbytes8 (x : Int) (w : World) (h0 : Hid (0 <= x /\ x < 18446744073709551616)) : Calls Tryz.prog 104 #[.int .u64 x, .int .i64 8] w fun e w' =>
   ∃ A c, e = .returned (.slice A 8 c) /\ w'.ownsRow w.heap.size 5 1 (.slice A 8 c) 8 (cellsOf .u8 (bts x 8)) /\ Below w.heap.size w w' :=
 rbytes_any x 8 w h0
def vlen : Value -> Nat
 | .slice _ n _ => n
 | _ => 0
theorem lev8_lt {l : List Int} (h : AreB l) (h8 : l.length <= 8) : 0 <= lev l /\ lev l < 18446744073709551616 := by
 have h1 := lev_bound l h
 have h2 := pow256_le l.length h8
 omega
theorem beq_any {L L' : Nat} (A A' : Option Addr) (n n' c c' : Nat) (xs ys : List Int) (w : World) (hx : Reads w L 1 A n (cellsOf .u8 xs)) (hy : Reads w L' 1 A' n' (cellsOf .u8 ys)) (bx : AreB xs) (byy : AreB ys) :
 Calls Tryz.prog 63 #[.slice A n c, .slice A' n' c'] w fun e w' => e = .returned (.bool (decide (xs = ys))) /\ w = w' := by
 have h1 := run_text (P := Tryz.prog) 24 5 9 Tryz.underlying24 Tryz.underlying5 Tryz.underlying9 hx c
 have h2 := run_text (P := Tryz.prog) 24 5 9 Tryz.underlying24 Tryz.underlying5 Tryz.underlying9 hy c'
 clear hx hy
 go_enter Tryz.func63, Tryz.ntmps63
 go_wp2
 go_ret
 exact ⟨ret_bool (strOfNums_beq bx byy), rfl⟩
theorem Reads.sub {w : World} {B n cap lo hi : Nat} {A : Option Addr} {k : IntKind} {zs : List Int} (h : Reads w B 1 A n (cellsOf k zs)) (h1 : lo <= hi) (h2 : hi <= n) (hc : n <= cap) :
 Reads w B 1 (if cap = lo then A else A.map (·.add lo)) (hi - lo) (cellsOf k ((zs.drop lo).take (hi - lo))) := by
 have hl := h.len
 have hcut := h.cut (k := lo) (cap := cap) (by omega) hc
 rw [Nat.mul_one, cellsOf_drop] at hcut
 refine ⟨by rw [cellsOf_length, List.length_take, List.length_drop]; omega, fun h0 => ?_⟩
 obtain ⟨ad, e, hb, hcc⟩ := hcut.2 (by omega)
 refine ⟨ad, e, hb, fun j u hu => hcc j u ?_⟩
 simp only [cellsOf, List.map_take, List.getElem?_take] at hu ⊢
 split at hu
 · exact hu
 · cases hu
theorem get8 {B : Nat} (A : Option Addr) (n c j : Nat) (v : Int) (zs : List Int) (w : World) (hr : Reads w B 1 A n (cellsOf .u8 zs)) (hz : AreB zs) (hl : n <= c) (hcap : c <= 9223372036854775807) (hv : v = j) (hj : j + 8 <= n) :
 Calls Tryz.prog 52 #[.slice A n c, .int .i64 v, .int .i64 8] w fun e w' => e = .returned (.tuple #[.int .u64 (lev ((zs.drop j).take 8)), .bool true]) /\ w = w' := by
 subst hv
 have hlen := hr.len
 have h := get_any A n c j 8 zs w hr hz hl hcap (by omega) (by omega) (by omega) (by omega)
 have hok : gok n (j : Int) 8 = true := by rw [gok_isw]; simp [isw]; omega
 have hnum : gnum zs (j : Int) 8 = lev ((zs.drop j).take 8) := by unfold gnum; rw [hlen, hok]; rfl
 rw [hok, hnum] at h
 exact h
theorem results_cell3 {P : Program} {fn : Func} {p u v : Tmp} {ty : TypeId} (h : fn.results = #[.cell p ty, .tmp u, .tmp v]) (tmps : Array Value) (w : World) (g : Nat) (t : TypeId) (cs : Array Value) (fr : Nat × Nat) (d : TypeDesc)
 (hp : tmps.getD p undef = .pointer (some ⟨g, 0, none⟩)) (hg : w.heap[g]? = some (.cells cs t fr))
 (hu : P.underlying ty = some d) (hd : (match d with | .struct _ | .array _ _ => true | _ => false) = true) (hi : (P.info? ty).map (·.size) = some cs.size) :
 (results fn tmps).run P w = .ok (.tuple #[.agg cs, tmps.getD u undef, tmps.getD v undef]) w := by
 have hp' : tmps[p]?.getD undef = .pointer (some ⟨g, 0, none⟩) := by simpa using hp
 simp [results, h, hp', asAddr, run_loadVar_row w g t ty cs fr d hg hu hd hi]
theorem results_cell2 {P : Program} {fn : Func} {p u : Tmp} {ty : TypeId} (h : fn.results = #[.cell p ty, .tmp u]) (tmps : Array Value) (w : World) (g : Nat) (t : TypeId) (cs : Array Value) (fr : Nat × Nat) (d : TypeDesc)
 (hp : tmps.getD p undef = .pointer (some ⟨g, 0, none⟩)) (hg : w.heap[g]? = some (.cells cs t fr))
 (hu : P.underlying ty = some d) (hd : (match d with | .struct _ | .array _ _ => true | _ => false) = true) (hi : (P.info? ty).map (·.size) = some cs.size) :
 (results fn tmps).run P w = .ok (.tuple #[.agg cs, tmps.getD u undef]) w := by
 have hp' : tmps[p]?.getD undef = .pointer (some ⟨g, 0, none⟩) := by simpa using hp
 simp [results, h, hp', asAddr, run_loadVar_row w g t ty cs fr d hg hu hd hi]
theorem Reads.pre {w : World} {B n m : Nat} {A : Option Addr} {k : IntKind} {zs : List Int} (h : Reads w B 1 A n (cellsOf k zs)) (hm : m <= n) : Reads w B 1 A m (cellsOf k (zs.take m)) := by
 refine ⟨by rw [cellsOf_length, List.length_take, h.len]; omega, fun h0 => ?_⟩
 obtain ⟨ad, e, hb, hc⟩ := h.2 (by omega)
 refine ⟨ad, e, hb, fun j u hu => hc j u ?_⟩
 simp only [cellsOf, List.map_take, List.getElem?_take] at hu
 split at hu
 · exact hu
 · cases hu
def RdAt (w0 : World) (B g : Nat) (q : Int) (Z : List Int) (p : Nat) (wx : World) : Prop :=
 ∃ A n c, Rd wx B g (q + p) A n c (Z.drop p) false /\ n = Z.length - p /\ Below w0.heap.size w0 wx
theorem RdAt.bel {w0 wx : World} {B g : Nat} {q : Int} {Z : List Int} {p : Nat} (h : RdAt w0 B g q Z p wx) : Below w0.heap.size w0 wx := by
 obtain ⟨A, n, c, hr, hn, hB⟩ := h
 exact hB
theorem read_at {B : Nat} (A : Option Addr) (n c m : Nat) (zs : List Int) (w : World) (hr : Reads w B 1 A n (cellsOf .u8 zs)) (hB : B <= w.heap.size) (hl : n <= c) (hcap : c <= 9223372036854775807) (hm : m <= n) (hn : n <= 140737488355328) :
 Calls Tryz.prog 61 #[.slice A n c, .int .i64 m] w fun e w' => ∃ g B', e = .returned (.pointer (some ⟨g, 0, none⟩)) /\ RdAt w B' g m (zs.drop m) 0 w' /\ w.heap.size <= g :=
 (read_yes A n c m zs w hr hB hl hcap hm hn).mono fun e w' ⟨g, B', A', c', he, h1, h2, h3⟩ =>
   ⟨g, B', he, ⟨A', n - m, c', by simpa using h1, by rw [List.length_drop, hr.len]; omega, h2⟩, h3⟩
theorem num8 {w0 : World} {B g : Nat} {q : Int} {Z : List Int} {p : Nat} {w : World} (h : RdAt w0 B g q Z p w) (hg : w0.heap.size <= g) (hz : AreB Z) (hp : p + 8 <= Z.length) (hl : Z.length <= 140737488355328) (hq : 0 <= q /\ q <= 1000000) :
 Calls Tryz.prog 62 #[.pointer (some ⟨g, 0, none⟩), .int .i64 8] w fun e w' => e = .returned (.int .u64 (lev ((Z.drop p).take 8))) /\ RdAt w0 B g q Z (p + 8) w' := by
 obtain ⟨A, n, c, hr, hn, hB⟩ := h
 refine (num_yes B g n c 8 (q + p) A (Z.drop p) false w hr (hz.drop p) rfl (by omega) (by omega) (by omega)).mono fun e w' ⟨he, A', n', c', hr', hc'⟩ => ⟨he, A', n', c', ?_, ?_, ?_⟩
 · have e1 : q + p + ((8 : Nat) : Int) = q + ((p + 8 : Nat) : Int) := by omega
   rw [e1, List.drop_drop] at hr'
   exact hr'
 · have := hr'.reads.len; rw [List.length_drop, List.length_drop] at this; omega
 · exact hB.trans (hc'.below hB.size (fun j _ hj => by omega))
end Go.Proofs.YtgcmbgniaffdlaaGreat
