/-
  LAYER 4: the document's Put: a text among others that rise: its contract.
-/
import Derived.Test.YtggjimpnimlmmaaItemList
set_option linter.unusedVariables false
set_option linter.unusedSimpArgs false
namespace Go.Proofs.Ytggjimpnimlmmaa
open Go.RowKit

theorem strInfo : (Try.prog.info? 9).map (fun i => (i.zero, i.size, i.bytes)) = some (some (.string ⟨#[]⟩), 1, 16) := by kernel_rfl

/-- A row of the call's own that holds texts; below the call's own blocks nothing has turned. -/
structure OwnT (w wr : World) (v : Value) (xs : List ByteArray) : Prop where
  own : wr.ownsRow w.heap.size 9 1 v xs.length (cellsT xs)
  below : Below w.heap.size w wr

theorem OwnT.nil_ (w : World) : OwnT w w (.slice none 0 0) [] := ⟨World.ownsRow_nil _ _ _ _, Below.refl _ _⟩
theorem OwnT.push {w wr w1 : World} {v v1 : Value} {xs : List ByteArray} {s : ByteArray} {o : Obj} (h : OwnT w wr v xs) (hown : w1.ownsRow w.heap.size 9 1 v1 (xs.length + 1) (cellsT xs ++ [.string s])) (hg : (wr.alloc o).grownBy w1 v.ownBlock) : OwnT w w1 v1 (xs ++ [s]) := by
  refine ⟨by rw [List.length_append, cellsT_append]; exact hown, ?_⟩
  exact (h.below.alloc h.below.size o).grown hg (by have := h.below.size; simp; omega) (fun k hk => (h.own.lt k hk).1)
theorem OwnT.drewN {w wr : World} {v : Value} {xs : List ByteArray} (h : OwnT w wr v xs) (n : Nat) : OwnT w (wr.drewN n) v xs := ⟨h.own, below_drewn h.below n⟩

/-- What a call hands back that tells a list of texts. -/
def Tells (xs : List ByteArray) (w : World) (e : Ending) (w' : World) : Prop := ∃ A c, e = .returned (.slice A xs.length c) ∧ Txt w' w'.heap.size A xs.length c xs ∧ Below w.heap.size w w'

theorem OwnT.tells {w wr : World} {v : Value} {xs : List ByteArray} (h : OwnT w wr v xs) (hs : ∀ s ∈ xs, s.size ≤ maxLen) : Tells xs w (.returned v) wr := by
  obtain ⟨A, c, rfl, h1, h2⟩ := own_form h.own
  exact ⟨A, c, rfl, Txt.of_own h.own h1 h2 hs, h.below⟩

def putAt (zs : List ByteArray) (s : ByteArray) (k : Nat) : List ByteArray × Bool := putRun cfT s (zs.take k)

theorem putAt_len (zs : List ByteArray) (s : ByteArray) (k : Nat) : (putAt zs s k).1.length ≤ zs.length + 1 := by
  have run : ∀ (l : List ByteArray) (st : List ByteArray × Bool), (l.foldl (putStep cfT s) st).1.length + (if (l.foldl (putStep cfT s) st).2 then 0 else 1) ≤ st.1.length + l.length + (if st.2 then 0 else 1) := by
    intro l
    induction l with
    | nil => intro st; exact Nat.le_refl _
    | cons x l ih =>
      intro st
      rw [List.foldl_cons]
      refine Nat.le_trans (ih _) ?_
      unfold putStep
      by_cases hc : cfT s x < 0 ∧ st.2 = false
      · rw [if_pos hc, hc.2]; simp; omega
      · rw [if_neg hc]; simp; omega
  have := run (zs.take k) ([], false)
  have hl : (zs.take k).length ≤ zs.length := List.length_take_le' _ _
  unfold putAt putRun
  simp at this
  omega

theorem putAt_succ {zs : List ByteArray} {s : ByteArray} {k : Nat} (h : k < zs.length) : putAt zs s (k + 1) = putStep cfT s (putAt zs s k) (nthT zs k) := by
  unfold putAt; rw [take_nthT h, putRun_snoc]
theorem putAt_lay {zs : List ByteArray} {s : ByteArray} {k : Nat} (h : k < zs.length) (h1 : cfT s (nthT zs k) < 0) (h2 : (putAt zs s k).2 = false) : putAt zs s (k + 1) = ((putAt zs s k).1 ++ [s] ++ [nthT zs k], true) := by
  rw [putAt_succ h]; unfold putStep; rw [if_pos ⟨h1, h2⟩]
theorem putAt_go {zs : List ByteArray} {s : ByteArray} {k : Nat} (h : k < zs.length) (h1 : cfT s (nthT zs k) < 0 → (putAt zs s k).2 = true) : putAt zs s (k + 1) = ((putAt zs s k).1 ++ [nthT zs k], (putAt zs s k).2) := by
  rw [putAt_succ h]; unfold putStep; rw [if_neg (fun hh => by rw [h1 hh.1] at hh; cases hh.2)]

theorem newT (w : World) (t : TypeId) (s : ByteArray) : Reads (w.alloc (.cells #[.string s] t)) (w.heap.size + 1) 1 (some ⟨w.heap.size, 0, none⟩) 1 [.string s] := Reads.newN w t #[.string s]
theorem strOne (s : ByteArray) : ∀ u ∈ [Value.string s], u.oneCell' = true := fun u hu => by
  rw [List.mem_singleton] at hu
  subst hu
  rfl
theorem allocLe {w wr : World} {v : Value} {xs : List ByteArray} (h : OwnT w wr v xs) (o : Obj) : w.heap.size ≤ (wr.alloc o).heap.size := by have := h.below.size; simp; omega

theorem put_end {w w' : World} {zs : List ByteArray} {s : ByteArray} {v : Value} (h : OwnT w w' v (putL cfT zs s)) (hz : ∀ x ∈ zs, x.size ≤ maxLen) (hs : s.size ≤ maxLen) : Tells (putL cfT zs s) w (.returned v) w' :=
  h.tells fun x hx => by
    rcases (putL_mem zs s x).1 hx with e | e
    · exact hz x e
    · subst e; exact hs

theorem sm1 {m : Nat} (h : m ≤ 1001) : m + 1 ≤ maxLen := by unfold maxLen; omega
theorem sm2 {m : Nat} (h : m ≤ 1001) : (m + 1) * 16 ≤ 140737488355328 := by omega
theorem sm3 {m : Nat} (h : m ≤ 1001) : m + 1 + 1 ≤ maxLen := by unfold maxLen; omega
theorem sm4 {m : Nat} (h : m ≤ 1001) : (m + 1 + 1) * 16 ≤ 140737488355328 := by omega

set_option maxHeartbeats 1000000 in
theorem put_any (A : Option Addr) (n c : Nat) (zs : List ByteArray) (s : ByteArray) (B : Nat) (w : World) (h : Txt w B A n c zs) (hB : B ≤ w.heap.size) (hs : s.size ≤ maxLen) (hn : n ≤ 1000) :
    Calls Try.prog 32 #[.slice A n c, .string s] w (Tells (putL cfT zs s) w) := by
  obtain ⟨i0, hi, hz0, hz1, hz2⟩ := info_parts strInfo
  have hl := h.len
  have hle := h.le
  have hcap := h.cap
  go_enter Try.func32, Try.ntmps32
  go_wp2
  go_loopw [5, 6, 7] (fun v d i wr => ∃ (k : Nat) (q : Bool), k ≤ n ∧ Hid (s ∉ zs.take k) ∧ d = .bool q ∧ Hid (q = (putAt zs s k).2) ∧ OwnT w wr v (putAt zs s k).1 ∧ i = .int .i64 k) (fun _ _ i _ => n - (intOf i).toNat)
  case atStart => exact ⟨0, false, Nat.zero_le _, Lib.hid (by simp), rfl, Lib.hid rfl, OwnT.nil_ w, rfl⟩
  case round =>
    obtain ⟨k, q, hk, hin, rfl, hq, H, rfl⟩ := hrel
    have hpl := putAt_len zs s k
    have HO := Lib.hid H
    have HH := Lib.hid h
    have HL := Lib.hid hl
    obtain ⟨A1, c1, rfl, hc1, hc2⟩ := own_form H.own
    have hxl : (putAt zs s k).1.length ≤ 1001 := by omega
    have HX := Lib.hid (show (putAt zs s k).1 = (putAt zs s k).1 from rfl)
    by_cases hlt : k < n
    · obtain ⟨b, off, rfl, hb0, hcell⟩ := h.at_ (by omega)
      have hb : b < w.heap.size := by omega
      have c0 := hcell k hlt
      have cr : _ = some _ := (H.below.cell (p := ⟨b, off + k, none⟩) hb).trans c0
      have hgo := fun hh => putAt_go (zs := zs) (s := s) (k := k) (by omega) hh
      have hlay := fun h1 h2 => putAt_lay (zs := zs) (s := s) (k := k) (by omega) h1 h2
      have hmem : nthT zs k ∈ zs := nthT_mem (by omega)
      have hstep : nthT zs k ≠ s → s ∉ zs.take (k + 1) := fun hne => by
        rw [take_nthT (by omega), List.mem_append, List.mem_singleton]
        rintro (e | e)
        · exact hin.out e
        · exact hne e.symm
      by_cases hx : nthT zs k = s
      · have d1 : ((nthT zs k).toList == s.toList) = true := by rw [beq_text]; exact decide_eq_true hx
        have hp : putL cfT zs s = zs := by unfold putL; rw [if_pos (hx ▸ hmem)]
        have HE : Hid (Tells (putL cfT zs s) w (.returned (.slice (some ⟨b, off, none⟩) n c)) wr) := by
          rw [hp]
          exact Lib.hid ⟨_, c, by rw [hl], by rw [hl]; exact (h.more hB).below H.below |>.more H.below.size, H.below⟩
        generalize nthT zs k = x at *
        clear hcell hgo hlay hmem hstep hp hx H h hl c0
        go_wp2
        go_ret
        exact HE.out
      · have d1 : ((nthT zs k).toList == s.toList) = false := by rw [beq_text]; exact decide_eq_false hx
        have HS := Lib.hid (hstep hx)
        by_cases hg : cfT s (nthT zs k) < 0
        · have d2 : Op.bytesLess (nthT zs k).toList s.toList = false := by
            rw [less_cfT]; exact decide_eq_false (cfT_tot.asym hg)
          cases q with
          | true =>
            have HP := Lib.hid (hgo (fun _ => hq.out.symm))
            generalize (putAt zs s k).1 = xs at *
            generalize nthT zs k = x at *
            have s2 := sm1 hxl
            have s3 := sm2 hxl
            clear hcell hgo hlay hmem hstep hx hg H h hl c0
            go_wp2_with ((at_builtin; refine wpList_append_any _ rfl (.tmp 35) (.tmp 40) 27 rfl w.heap.size 9 i0 (.string ⟨#[]⟩) 1 16 Try.underlying27 hi hz0 hz1 hz2 rfl (Nat.lt_succ_self 0) (.slice A1 xs.length c1) xs.length (cellsT xs) rfl (HO.out.own.alloc _) _ _ 1 1 [.string x] rfl (newT wr _ x) (strOne x) s2 s3 (allocLe HO.out _) ?_; intro v1 w1 hown1 hg1 hat1; have H1 := Lib.hid (HO.out.push hown1 hg1); clear hown1 hg1 hat1))
            go_roundw
            case rel => exact ⟨k + 1, true, by omega, HS, rfl, Lib.hid (by rw [HP.out]; exact hq.out), by rw [HP.out]; exact H1.out, by go_num⟩
            case measure => simp [intOf]; omega
          | false =>
            have HP := Lib.hid (hlay hg hq.out.symm)
            generalize (putAt zs s k).1 = xs at *
            generalize nthT zs k = x at *
            have s2 := sm1 hxl
            have s3 := sm2 hxl
            have s5 := sm3 hxl
            have s6 := sm4 hxl
            clear hcell hgo hlay hmem hstep hx hg H h hl
            have m1 : True := trivial
            go_wp2_with (first | (at_builtin; clear m1; refine wpList_append_any _ rfl (.tmp 31) (.tmp 33) 27 rfl w.heap.size 9 i0 (.string ⟨#[]⟩) 1 16 Try.underlying27 hi hz0 hz1 hz2 rfl (Nat.lt_succ_self 0) (.slice A1 xs.length c1) xs.length (cellsT xs) rfl (HO.out.own.alloc _) _ _ 1 1 [.string s] rfl (newT wr _ s) (strOne s) s2 s3 (allocLe HO.out _) ?_; intro v1 w1 hown1 hg1 hat1; have H1 := Lib.hid (HO.out.push hown1 hg1); obtain ⟨A2, c2, rfl, hc21, hc22⟩ := own_form hown1; have HW1 := Lib.hid hown1; have cr1 : w1.cell? ⟨b, off + k, none⟩ = some (.string x) := (H1.out.below.cell (p := ⟨b, off + k, none⟩) hb).trans c0; clear hown1 hg1 hat1) | (at_builtin; refine wpList_append_any _ rfl (.tmp 35) (.tmp 40) 27 rfl w.heap.size 9 i0 (.string ⟨#[]⟩) 1 16 Try.underlying27 hi hz0 hz1 hz2 rfl (Nat.lt_succ_self 0) (.slice A2 (xs.length + 1) c2) (xs.length + 1) (cellsT xs ++ [.string s]) rfl (HW1.out.alloc _) _ _ 1 1 [.string x] rfl (newT w1 _ x) (strOne x) s5 s6 (allocLe H1.out _) ?_; intro v2 w2 hown2 hg2 hat2; have H2 := Lib.hid (H1.out.push (s := x) (by rw [List.length_append, cellsT_append]; exact hown2) hg2); clear hown2 hg2 hat2))
            go_roundw
            case rel => exact ⟨k + 1, true, by omega, HS, rfl, Lib.hid (by rw [HP.out]), by rw [HP.out]; exact H2.out, by go_num⟩
            case measure => simp [intOf]; omega
        · have d2 : Op.bytesLess (nthT zs k).toList s.toList = true := by
            rw [less_cfT]
            refine decide_eq_true ?_
            rcases cfT_tot.tri s (nthT zs k) with e | e | e
            · exact absurd e hg
            · exact absurd e.symm hx
            · exact e
          have HP := Lib.hid (hgo (fun hh => absurd hh hg))
          generalize (putAt zs s k).1 = xs at *
          generalize nthT zs k = x at *
          have s2 := sm1 hxl
          have s3 := sm2 hxl
          clear hcell hgo hlay hmem hstep hx hg H h hl c0
          go_wp2_with ((at_builtin; refine wpList_append_any _ rfl (.tmp 35) (.tmp 40) 27 rfl w.heap.size 9 i0 (.string ⟨#[]⟩) 1 16 Try.underlying27 hi hz0 hz1 hz2 rfl (Nat.lt_succ_self 0) (.slice A1 xs.length c1) xs.length (cellsT xs) rfl (HO.out.own.alloc _) _ _ 1 1 [.string x] rfl (newT wr _ x) (strOne x) s2 s3 (allocLe HO.out _) ?_; intro v1 w1 hown1 hg1 hat1; have H1 := Lib.hid (HO.out.push hown1 hg1); clear hown1 hg1 hat1))
          go_roundw
          case rel => exact ⟨k + 1, q, by omega, HS, rfl, Lib.hid (by rw [HP.out]; exact hq.out), by rw [HP.out]; exact H1.out, by go_num⟩
          case measure => simp [intOf]; omega
    · obtain rfl : k = n := by omega
      have htk : zs.take k = zs := List.take_of_length_le (by omega)
      have hns := hin.out
      rw [htk] at hns
      have hpe : putL cfT zs s = putEnd cfT s zs := by unfold putL; rw [if_neg hns]
      have hpa : putAt zs s k = putRun cfT s zs := by unfold putAt; rw [htk]
      cases q with
      | true =>
        have hp : putL cfT zs s = (putAt zs s k).1 := by
          rw [hpe]; unfold putEnd
          rw [← hpa, ← hq.out]; exact if_pos rfl
        have HE := Lib.hid (put_end (w := w) (by rw [hp]; exact H) h.sz hs)
        generalize (putAt zs s k).1 = xs at *
        clear hp hpe hns htk H h hl
        go_wp2
        go_ret
        exact HE.out
      | false =>
        have hp : putL cfT zs s = (putAt zs s k).1 ++ [s] := by
          rw [hpe]; unfold putEnd
          rw [← hpa, ← hq.out]; exact if_neg (by decide)
        have HP := Lib.hid hp
        have HZ := Lib.hid h.sz
        have s2 := sm1 hxl
        have s3 := sm2 hxl
        clear hpa
        generalize (putAt zs s k).1 = xs at *
        clear hp hpe hns htk H h hl
        go_wp2_with ((at_builtin; refine wpList_append_any _ rfl (.tmp 44) (.tmp 46) 27 rfl w.heap.size 9 i0 (.string ⟨#[]⟩) 1 16 Try.underlying27 hi hz0 hz1 hz2 rfl (Nat.lt_succ_self 0) (.slice A1 xs.length c1) xs.length (cellsT xs) rfl (HO.out.own.alloc _) _ _ 1 1 [.string s] rfl (newT wr _ s) (strOne s) s2 s3 (allocLe HO.out _) ?_; intro v1 w1 hown1 hg1 hat1; have H1 := Lib.hid (HO.out.push hown1 hg1); obtain ⟨A2, c2, rfl, hc21, hc22⟩ := own_form hown1; clear hown1 hg1 hat1))
        go_ret
        exact put_end (by rw [HP.out]; exact H1.out) HZ.out hs

end Go.Proofs.Ytggjimpnimlmmaa
