/-
  WHAT Words OF A Reader DOES, AND THE DOCUMENT'S OWN COMPARISON OF TWO LISTS OF NUMBERS: contracts.
-/
import Derived.Test.YtbgdaiecmpjcbaaLeR
set_option linter.unusedVariables false
set_option linter.unusedSimpArgs false
namespace Go.Proofs.Ytbgdaiecmpjcbaa
open Go.RowKit

theorem wordInfo : (Try.prog.info? 48).map (fun i => (i.zero, i.size, i.bytes)) = some (some (.int .u64 0), 1, 8) := by kernel_rfl

/-- The first k numbers of eight bytes. -/
def wrds : Nat → List Int → List Int
  | 0, _ => []
  | k + 1, zs => lev (zs.take 8) :: wrds k (zs.drop 8)

theorem wrds_length : ∀ (k : Nat) (zs : List Int), (wrds k zs).length = k
  | 0, _ => rfl
  | k + 1, zs => by simp [wrds, wrds_length k]
theorem wrds_snoc : ∀ (k : Nat) (zs : List Int), wrds (k + 1) zs = wrds k zs ++ [lev ((zs.drop (8 * k)).take 8)]
  | 0, zs => by simp [wrds]
  | k + 1, zs => by
    rw [wrds, wrds_snoc k (zs.drop 8), wrds, List.cons_append, List.drop_drop, show 8 + 8 * k = 8 * (k + 1) by omega]
theorem wrds_fill {k m : Nat} (h : k < m) (zs : List Int) : (wrds k zs ++ List.replicate (m - k) 0).set k (lev ((zs.drop (8 * k)).take 8)) = wrds (k + 1) zs ++ List.replicate (m - (k + 1)) 0 := by
  rw [List.set_append_right _ _ (by rw [wrds_length]; omega), wrds_length, Nat.sub_self, wrds_snoc, List.append_assoc]
  congr 1
  obtain ⟨j, hj⟩ : ∃ j, m - k = j + 1 := ⟨m - k - 1, by omega⟩
  rw [hj, List.replicate_succ, List.set_cons_zero, show m - (k + 1) = j by omega]
  rfl

theorem rwords_no (B g n c : Nat) (p v : Int) (A : Option Addr) (zs : List Int) (bad : Bool) (w : World) (h : Rd w B g p A n c zs bad) (hg : v < 0 ∨ (n : Int) / 8 < v) :
    Calls Try.prog 38 #[.pointer (some ⟨g, 0, none⟩), .int .i64 v] w fun e w' => e = .returned (.slice none 0 0) ∧ RdPost w B g p [] true w' := by
  have c1 : w.cell? ⟨g, 1, none⟩ = some (.slice A n c) := h.blk.cell 1
  have hle := h.le
  have hcap := h.cap
  rcases hg with hg | hg
  all_goals
    go_enter Try.func38, Try.ntmps38
    go_wp2_with (go_at_call 48; refine (spoil_any B g n c p A zs bad w h).mono ?_; rintro e w1 ⟨rfl, hp1⟩)
  all_goals
    go_ret
    exact ⟨rfl, hp1⟩

/-- Words: so many numbers, in a new row. -/
def RWordsPost (w : World) (B g m : Nat) (p : Int) (zs : List Int) (bad : Bool) (A1 : Option Addr) (c1 : Nat) (w' : World) : Prop :=
  w'.ownsRow w.heap.size 48 1 (.slice A1 m c1) m (cellsOf .u64 (wrds m zs)) ∧ RdPost w B g (p + 8 * m) (zs.drop (8 * m)) bad w'

set_option maxHeartbeats 1000000 in
theorem rwords_yes (B g n c m : Nat) (p : Int) (A : Option Addr) (zs : List Int) (bad : Bool) (w : World) (h : Rd w B g p A n c zs bad) (hz : AreB zs) (hm : 8 * m ≤ n) (hp : 0 ≤ p) (hp' : p + n ≤ 4611686018427387904) (hn : n ≤ 140737488355328) :
    Calls Try.prog 38 #[.pointer (some ⟨g, 0, none⟩), .int .i64 m] w fun e w' => ∃ A1 c1, e = .returned (.slice A1 m c1) ∧ RWordsPost w B g m p zs bad A1 c1 w' := by
  obtain ⟨i0, hi, hz0, hz1, hz2⟩ := info_parts wordInfo
  have c1 : w.cell? ⟨g, 1, none⟩ = some (.slice A n c) := h.blk.cell 1
  have hle := h.le
  have hcap := h.cap
  have hgl := h.blk.lt
  have hlen := h.reads.len
  have i1 : (m : Int) ≤ (n : Int) / 8 := by omega
  have hb2 : i0.bytes * m ≤ 281474976710656 := by rw [hz2]; omega
  have hm3 : m ≤ maxLen := by unfold maxLen; omega
  have hlow := h.low
  have HLEN := Lib.hid hlen
  clear hlen
  go_enter Try.func38, Try.ntmps38
  go_wp2_with (at_make; refine wpList_make_full _ rfl _ _ 22 rfl w.heap.size 48 i0 (.int .u64 0) 1 Try.underlying22 hi hz0 hz1 _ _ _ _ m rfl rfl rfl rfl hb2 hm3 (Nat.le_refl _) ?_; intro w1 hown1 hg1)
  have hst : (madeCells (Value.int IntKind.u64 0).cells m).toList = cellsOf .u64 (List.replicate m 0) := by
    show (madeCells #[Value.int IntKind.u64 0] m).toList = _
    rw [toList_madeCells_one]; simp [cellsOf]
  have hb1 : Below w.heap.size w w1 := (Below.refl _ _).grown hg1 (Nat.le_refl _) (by simp)
  have hown2 : w1.ownsRow w.heap.size 48 1 (.slice (some ⟨w.heap.size, 0, none⟩) m m) m (cellsOf .u64 (List.replicate m 0)) := by
    rw [← hst]
    simpa using hown1
  have h1 := h.below hb1
  clear hst hown1 hg1
  go_loopw [6, 25] (fun _ i wr => ∃ k : Nat, k ≤ m ∧ i = .int .i64 k ∧ wr.ownsRow w.heap.size 48 1 (.slice (some ⟨w.heap.size, 0, none⟩) m m) m (cellsOf .u64 (wrds k zs ++ List.replicate (m - k) 0)) ∧ RdPost w B g (p + 8 * k) (zs.drop (8 * k)) bad wr)
    (fun _ i _ => m - (intOf i).toNat)
  case atStart =>
    exact ⟨0, Nat.zero_le _, rfl, by simpa [wrds] using hown2, A, n, c, by simpa using h1, Chg.of_below hb1 (Nat.le_refl _) _⟩
  case round =>
    obtain ⟨k, hk, rfl, hown, A2, n2, c2, hrd, hch⟩ := hrel
    by_cases hlt : k < m
    · have hn2 : n2 = n - 8 * k := by have := hrd.reads.len; rw [List.length_drop, HLEN.out] at this; omega
      have hn3 : 8 ≤ n2 := by omega
      have hp2 : 0 ≤ p + 8 * (k : Int) := by omega
      have hp3 : p + 8 * (k : Int) + (8 : Nat) ≤ 4611686018427387904 := by omega
      have hs := hch.size
      have hwn : (wrds k zs ++ List.replicate (m - k) (0 : Int)).length = m := by rw [List.length_append, wrds_length, List.length_replicate]; omega
      have HWN := Lib.hid hwn
      clear hn2 hwn
      go_wp2_with (go_at_call 49; refine (num_yes B g n2 c2 8 _ A2 _ bad wr hrd (hz.drop _) rfl hn3 hp2 hp3).mono ?_; rintro e w2 ⟨rfl, A3, n3, c3, hrd3, hch3⟩; have hown3 := own_chg hown hch3 (fun j e1 e2 => by rw [e2] at e1; simp [Value.ownBlock] at e1; omega); have q1 : w2.cell? ⟨w.heap.size, k, none⟩ = _ := hown3.cellAt k (by omega); rw [cellsOf_get (by rw [HWN.out]; exact hlt)] at q1; have q2 := hown3.frozenAt k)
      go_roundw
      case rel =>
        have hs3 := hch3.size
        have hst := (hown3.stored k (.int .u64 (lev ((zs.drop (8 * k)).take 8)))).1
        rw [cellsOf_set, wrds_fill hlt] at hst
        refine ⟨k + 1, by omega, by go_num, hst, A3, n3, c3, ⟨?_, ?_, ?_, hrd3.le, hrd3.cap, hrd3.ne⟩, ?_⟩
        · have hb3 := hrd3.blk.far (p := ⟨w.heap.size, k, none⟩) (by simp; omega) (.int .u64 (lev ((zs.drop (8 * k)).take 8)))
          have e : p + 8 * ((k + 1 : Nat) : Int) = p + 8 * (k : Int) + ((8 : Nat) : Int) := by omega
          rw [e]
          exact hb3
        · have hr3 := hrd3.reads
          rw [List.drop_drop, show 8 * k + 8 = 8 * (k + 1) by omega] at hr3
          exact hr3.setCell (p := ⟨w.heap.size, k, none⟩) hlow _
        · simpa using hrd3.low
        · exact (hch.trans hch3 (fun _ _ e => e)).setCell (.inl (Nat.le_refl _)) _
      case measure => simp [intOf]; omega
    · have e : k = m := by omega
      subst e
      go_wp2
      go_ret
      exact ⟨_, _, rfl, by simpa using hown, A2, n2, c2, hrd, hch⟩

set_option maxHeartbeats 1000000 in
/-- The comparison: two lists that are alike. -/
theorem rwsame_any {B B' : Nat} (A A' : Option Addr) (n c c' : Nat) (xs : List Int) (w : World) (hx : Reads w B 1 A n (cellsOf .u64 xs)) (hy : Reads w B' 1 A' n (cellsOf .u64 xs)) (hn : n ≤ 1000000000) :
    Calls Try.prog 41 #[.slice A n c, .slice A' n c'] w fun e w' => e = .returned (.bool true) ∧ Below w.heap.size w w' := by
  go_enter Try.func41, Try.ntmps41
  go_wp2
  go_loopw [5] (fun i wr => ∃ k : Nat, k ≤ n ∧ i = .int .i64 k ∧ Below w.heap.size w wr ∧ Reads wr B 1 A n (cellsOf .u64 xs) ∧ Reads wr B' 1 A' n (cellsOf .u64 xs)) (fun i _ => n - (intOf i).toNat)
  case atStart => exact ⟨0, Nat.zero_le _, rfl, Below.refl _ _, hx, hy⟩
  case round =>
    obtain ⟨k, hk, rfl, hb, hx, hy⟩ := hrel
    by_cases hlt : k < n
    · have hx0 := hx
      have hy0 := hy
      obtain ⟨b1, o1, rfl, _, h1⟩ := hx.plain (by omega)
      obtain ⟨b2, o2, rfl, _, h2⟩ := hy.plain (by omega)
      have q1 := h1 k hlt
      have q2 := h2 k hlt
      generalize xs.getD k 0 = x at q1 q2
      have i1 : (k : Int) < (n : Int) := by omega
      clear h1 h2 hx hy
      go_wp2
      go_quiet (fail)
      go_wp2
      go_roundw
      case rel => exact ⟨k + 1, by omega, by go_num, below_drewN' hb _, hx0.drewN _, hy0.drewN _⟩
      case measure => simp [intOf]; omega
    · have e : k = n := by omega
      subst e
      go_wp2
      go_ret
      exact ⟨rfl, hb⟩

end Go.Proofs.Ytbgdaiecmpjcbaa
