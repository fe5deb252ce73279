/-
  LAYER 14: WHAT Size, Arrays, slices.Index, rows AND All OF PACKAGE chain DO AT FIRST: contracts.
-/
import Derived.Test.YtblpmnipapimcaaCollF
import Derived.Test.YtblpmnipapimcaaRowsMath
import Derived.Test.YtblpmnipapimcaaRangeA
set_option linter.unusedVariables false
set_option maxRecDepth 100000
set_option linter.unusedSimpArgs false
namespace Go.Proofs.Ytblpmnipapimcaa
open Go.RowKit Go.Shelf
attribute [local go_sem] Oper.semAt_some

theorem len64_most (w : World) : Calls Try.prog 56 #[.int .u64 1024] w fun e w' => e = .returned (.int .i64 11) ∧ w = w' := by
  go_enter Try.func56, Try.ntmps56
  go_wp2
  go_ret
  exact ⟨by kernel_rfl, rfl⟩
theorem len_most (w : World) : Calls Try.prog 35 #[.int .u64 1024] w fun e w' => e = .returned (.int .i64 11) ∧ w = w' := by
  go_enter Try.func35, Try.ntmps35
  go_wp2_with (go_at_call 56; refine (len64_most _).mono ?_; rintro e w1 ⟨rfl, rfl⟩)
  go_ret
  exact ⟨rfl, rfl⟩

/-- Size, as the document says: of n below 0, too. -/
def sizeI (n : Int) : Int := if n < 0 then 0 else (sizeC n.toNat : Nat)
theorem sizeC_ge {n : Nat} (h : 8 ≤ n) : sizeC n = 1024 := sizeC_big (n := 8) (by decide) h
theorem csize_any (n : Int) (w : World) (h0 : -9223372036854775808 ≤ n) (h1 : n ≤ 9223372036854775807) :
    Calls Try.prog 16 #[.int .i64 n] w fun e w' => e = .returned (.int .i64 (sizeI n)) ∧ w = w' := by
  by_cases hn : n < 0
  · have e : sizeI n = 0 := by unfold sizeI; rw [if_pos hn]
    rw [e]
    go_enter Try.func16, Try.ntmps16
    go_wp2
    go_ret
    exact ⟨rfl, rfl⟩
  · by_cases hb : 11 < n
    · have e : sizeI n = 1024 := by unfold sizeI; rw [if_neg hn, sizeC_ge (by omega)]; rfl
      rw [e]
      go_enter Try.func16, Try.ntmps16
      go_wp2_with (go_at_call 35; refine (len_most _).mono ?_; rintro e w1 ⟨rfl, rfl⟩)
      all_goals first
        | (exfalso; have hw : wrap64 8192 = 8192 := by decide
           omega)
        | (go_ret; exact ⟨rfl, rfl⟩)
    · clear h0 h1
      have hc : n = 0 ∨ n = 1 ∨ n = 2 ∨ n = 3 ∨ n = 4 ∨ n = 5 ∨ n = 6 ∨ n = 7 ∨ n = 8 ∨ n = 9 ∨ n = 10 ∨ n = 11 := by omega
      clear hn hb
      rcases hc with rfl | rfl | rfl | rfl | rfl | rfl | rfl | rfl | rfl | rfl | rfl | rfl
      all_goals
        go_enter Try.func16, Try.ntmps16
        go_wp2_with (go_at_call 35; refine (len_most _).mono ?_; rintro e w1 ⟨rfl, rfl⟩)
        go_ret
        exact ⟨by kernel_rfl, rfl⟩

/-- The document's Size. -/
theorem rcsize_any (n : Int) (w : World) (h0 : -9223372036854775808 ≤ n) (h1 : n ≤ 9223372036854775807) :
    Calls Try.prog 15 #[.int .i64 n] w fun e w' => e = .returned (.int .i64 (sizeI n)) ∧ w = w' := by
  by_cases hn : n < 0
  · have e : sizeI n = 0 := by unfold sizeI; rw [if_pos hn]
    rw [e]
    go_enter Try.func15, Try.ntmps15
    go_wp2
    go_ret
    exact ⟨rfl, rfl⟩
  · have hs : sizeI n = (sizeC n.toNat : Nat) := by unfold sizeI; rw [if_neg hn]
    rw [hs]
    go_enter Try.func15, Try.ntmps15
    go_wp2
    go_loopw [3, 4] (fun s i wr => ∃ k : Nat, (k : Int) ≤ n ∧ s = .int .i64 (sizeC k : Nat) ∧ i = .int .i64 k ∧ wr = w) (fun _ i _ => n.toNat - (intOf i).toNat)
    case atStart => exact ⟨0, by omega, rfl, rfl, rfl⟩
    case round =>
      obtain ⟨k, hk, rfl, rfl, rfl⟩ := hrel
      have hbd := sizeC_bd k
      by_cases hlt : (k : Int) < n
      · by_cases hs2 : sizeC k < 1024
        · have hnx := sizeC_next hs2
          have i1 : ((sizeC k : Nat) : Int) < 1024 := by omega
          go_wp2
          go_roundw
          case rel => exact ⟨k + 1, by omega, by rw [hnx]; go_num, by go_num, by first | rfl | trivial⟩
          case measure => simp [intOf]; omega
        · have e : sizeC n.toNat = 1024 := sizeC_big (n := k) (by omega) (by omega)
          have i1 : ¬ ((sizeC k : Nat) : Int) < 1024 := by omega
          have e2 : sizeC k = sizeC n.toNat := by omega
          go_wp2
          go_ret
          exact ⟨rfl, rfl⟩
      · have e : k = n.toNat := by omega
        go_wp2
        go_ret
        exact ⟨rfl, rfl⟩

/-- The index of the first 0. -/
theorem sindex_any {B : Nat} (A : Option Addr) (n c : Nat) (zs : List Int) (w : World) (hr : Reads w B 1 A n (cellsOf .u64 zs)) (hn : n ≤ 140737488355328) :
    Calls Try.prog 27 #[.slice A n c, .int .u64 0] w fun e w' => e = .returned (.int .i64 (idx0 zs)) ∧ w = w' := by
  have hl := hr.len
  go_enter Try.func27, Try.ntmps27
  go_wp2
  go_loopw [8] (fun i wr => ∃ k : Nat, k ≤ n ∧ i = .int .i64 k ∧ wr = w ∧ Hid ((placesA (zs.take k)).length = k)) (fun i _ => n - (intOf i).toNat)
  case atStart => exact ⟨0, Nat.zero_le _, rfl, rfl, rfl⟩
  case round =>
    obtain ⟨k, hk, rfl, rfl, hpl⟩ := hrel
    by_cases hlt : k < n
    · obtain ⟨b1, o1, rfl, _, h1⟩ := hr.plain (by omega)
      have q1 := h1 k hlt
      have hs := placesA_snoc (zs := zs) (k := k) (by omega) hpl.out
      generalize hxe : zs.getD k 0 = x at q1 hs
      have i1 : (k : Int) < (n : Int) := by omega
      have HS := Lib.hid hs
      have HL := Lib.hid hl
      clear h1 hr hs hl hxe
      by_cases hx : x = 0
      · subst hx
        go_wp2
        go_ret
        have e : (placesA zs).length = k := HS.out.2 (by first | rfl | trivial)
        have e2 : (k : Int) = idx0 zs := by unfold idx0; rw [e, if_neg (by rw [HL.out]; omega)]
        exact ⟨congrArg (fun z : Int => Ending.returned (.int .i64 z)) e2, rfl⟩
      · have t1 : ((0 : Int) == x) = false := by simpa using fun h => hx h.symm
        have HX := Lib.hid hx
        clear hx
        go_wp2
        go_roundw
        case rel => exact ⟨k + 1, by omega, by go_num, by first | rfl | trivial, Lib.hid (by rw [HS.out.1, if_neg HX.out])⟩
        case measure => simp [intOf]; omega
    · have e : k = n := by omega
      subst e
      have e2 : idx0 zs = -1 := by
        unfold idx0
        have := hpl.out
        rw [← hl, List.take_length] at this
        rw [if_pos this]
      clear hr hl
      go_wp2
      go_ret
      exact ⟨congrArg (fun z : Int => Ending.returned (.int .i64 z)) e2.symm, rfl⟩

/-- The arrays of a list: Follow's iterator, of the root's word. -/
theorem carrays_any {base p : Nat} {S : Nat → Prop} {i k d f h : Int} {m : IM} {bv sv : Value} (root : Int) (w : World) (H : IX w base S p i k d f h m bv sv) (hb : AreB m.b) (h0 : -9223372036854775808 ≤ root) (h1 : root ≤ 9223372036854775807) :
    Calls Try.prog 26 #[.pointer (some ⟨p, 0, none⟩), .int .i64 root] w fun e w' => e = .returned (flV w.heap.size) ∧ Below w.heap.size w w' ∧ FlAt w' w.heap.size p (m.word root) 4 0 := by
  have WW := Lib.hid (iword_any root w H hb h0 h1)
  have FF := Lib.hid (tfollow_any p (m.word root) 4 0 w)
  obtain ⟨pl, hpl⟩ : ∃ pl, m.word root = pl := ⟨_, rfl⟩
  rw [hpl] at WW FF ⊢
  clear H hpl
  go_enter Try.func26, Try.ntmps26
  go_wp2_with (first
    | (go_at_call 49; refine (WW.out).mono ?_; rintro e w2 ⟨rfl, rfl⟩)
    | (go_at_call 48; refine FF.out.mono ?_; rintro e w2 ⟨rfl, hb2, hfl⟩))
  go_ret
  exact ⟨rfl, hb2, hfl⟩

/-- An iterator's two boxes. -/
structure RwAt (w : World) (g p : Nat) (root : Int) : Prop where
  lo : g + 2 ≤ w.heap.size
  cm : w.cell? ⟨g, 0, none⟩ = some (.pointer (some ⟨p, 0, none⟩))
  cr : w.cell? ⟨g + 1, 0, none⟩ = some (.int .i64 root)
abbrev rwB (g : Nat) : Array Value := #[.pointer (some ⟨g, 0, none⟩), .pointer (some ⟨g + 1, 0, none⟩)]
abbrev rwV (g : Nat) : Value := .func (.func 54) #[] (rwB g)
abbrev alV (g : Nat) : Value := .func (.func 53) #[] (rwB g)
theorem RwAt.below {w w' : World} {g p : Nat} {root : Int} (h : RwAt w g p root) (hb : Below w.heap.size w w') : RwAt w' g p root :=
  ⟨Nat.le_trans h.lo hb.size, (hb.cell (p := ⟨g, 0, none⟩) (by have := h.lo; show g < _; omega)).trans h.cm, (hb.cell (p := ⟨g + 1, 0, none⟩) (by have := h.lo; show g + 1 < _; omega)).trans h.cr⟩
theorem RwAt.two (w : World) (p : Nat) (root : Int) : RwAt ((w.alloc (.cells #[.pointer (some ⟨p, 0, none⟩)] 26)).alloc (.cells #[.int .i64 root] 3)) w.heap.size p root := by
  have c0 := (Blk.new w 26 #[.pointer (some ⟨p, 0, none⟩)]).cell 0
  have c1 := (Blk.new (w.alloc (.cells #[.pointer (some ⟨p, 0, none⟩)] 26)) 3 #[.int .i64 root]).cell 0
  simp only [World.size_alloc] at c1
  exact ⟨by simp, cell_kept1 c0, c1⟩
theorem crows_any (p : Nat) (root : Int) (w : World) :
    Calls Try.prog 34 #[.pointer (some ⟨p, 0, none⟩), .int .i64 root] w fun e w' => e = .returned (rwV w.heap.size) ∧ Below w.heap.size w w' ∧ RwAt w' w.heap.size p root := by
  go_enter Try.func34, Try.ntmps34
  go_wp2
  go_ret
  exact ⟨rfl, (boxed _ _).alloc (boxed _ _).size _, RwAt.two w p root⟩
theorem call_any (p : Nat) (root : Int) (w : World) :
    Calls Try.prog 33 #[.pointer (some ⟨p, 0, none⟩), .int .i64 root] w fun e w' => e = .returned (alV w.heap.size) ∧ Below w.heap.size w w' ∧ RwAt w' w.heap.size p root := by
  go_enter Try.func33, Try.ntmps33
  go_wp2
  go_ret
  exact ⟨rfl, (boxed _ _).alloc (boxed _ _).size _, RwAt.two w p root⟩

end Go.Proofs.Ytblpmnipapimcaa
