/-
  MERGED BY PROGRAM out of the texts ChFn ChRows ChAll.
-/
import Derived.Test.YtjpfbkhjhainpaaGreatLRf
import Derived.Test.YtjpfbkhjhainpaaGreatLCm
/-
  LAYER 14: WHAT Size, Arrays, slices.Index, rows AND All OF PACKAGE chain DO AT FIRST: contracts.
-/
set_option linter.unusedVariables false
set_option maxRecDepth 100000
set_option linter.unusedSimpArgs false
namespace Go.Proofs.YtjpfbkhjhainpaaGreat
open Go.RowKit Go.Shelf
attribute [local go_sem] Oper.semAt_some

theorem len64_most (w : World) : Calls Tryz.prog 121 #[.int .u64 1024] w fun e w' => e = .returned (.int .i64 11) ∧ w = w' := by
  go_enter Tryz.func121, Tryz.ntmps121
  go_wp2
  go_ret
  exact ⟨by kernel_rfl, rfl⟩
theorem len_most (w : World) : Calls Tryz.prog 93 #[.int .u64 1024] w fun e w' => e = .returned (.int .i64 11) ∧ w = w' := by
  go_enter Tryz.func93, Tryz.ntmps93
  go_wp2_with (go_at_call 121; refine (len64_most _).mono ?_; rintro e w1 ⟨rfl, rfl⟩)
  go_ret
  exact ⟨rfl, rfl⟩

/-- Size, as the document says: of n below 0, too. -/
def sizeI (n : Int) : Int := if n < 0 then 0 else (sizeC n.toNat : Nat)
theorem sizeC_ge {n : Nat} (h : 8 ≤ n) : sizeC n = 1024 := sizeC_big (n := 8) (by decide) h
theorem csize_any (n : Int) (w : World) (h0 : -9223372036854775808 ≤ n) (h1 : n ≤ 9223372036854775807) :
    Calls Tryz.prog 81 #[.int .i64 n] w fun e w' => e = .returned (.int .i64 (sizeI n)) ∧ w = w' := by
  by_cases hn : n < 0
  · have e : sizeI n = 0 := by unfold sizeI; rw [if_pos hn]
    rw [e]
    go_enter Tryz.func81, Tryz.ntmps81
    go_wp2
    go_ret
    exact ⟨rfl, rfl⟩
  · by_cases hb : 11 < n
    · have e : sizeI n = 1024 := by unfold sizeI; rw [if_neg hn, sizeC_ge (by omega)]; rfl
      rw [e]
      go_enter Tryz.func81, Tryz.ntmps81
      go_wp2_with (go_at_call 93; refine (len_most _).mono ?_; rintro e w1 ⟨rfl, rfl⟩)
      all_goals first
        | (exfalso; have hw : wrap64 8192 = 8192 := by decide
           omega)
        | (go_ret; exact ⟨rfl, rfl⟩)
        | (go_ret; have e1 : min n 11 = 11 := by omega
           exact ⟨by rw [e1]; kernel_rfl, rfl⟩)
    · clear h0 h1
      have hc : n = 0 ∨ n = 1 ∨ n = 2 ∨ n = 3 ∨ n = 4 ∨ n = 5 ∨ n = 6 ∨ n = 7 ∨ n = 8 ∨ n = 9 ∨ n = 10 ∨ n = 11 := by omega
      clear hn hb
      rcases hc with rfl | rfl | rfl | rfl | rfl | rfl | rfl | rfl | rfl | rfl | rfl | rfl
      all_goals
        go_enter Tryz.func81, Tryz.ntmps81
        go_wp2_with (go_at_call 93; refine (len_most _).mono ?_; rintro e w1 ⟨rfl, rfl⟩)
        go_ret
        exact ⟨by kernel_rfl, rfl⟩

/-- The index of the first 0. -/
theorem sindex_any {B : Nat} (A : Option Addr) (n c : Nat) (zs : List Int) (w : World) (hr : Reads w B 1 A n (cellsOf .u64 zs)) (hn : n ≤ 140737488355328) :
    Calls Tryz.prog 80 #[.slice A n c, .int .u64 0] w fun e w' => e = .returned (.int .i64 (idx0 zs)) ∧ w = w' := by
  have hl := hr.len
  go_enter Tryz.func80, Tryz.ntmps80
  go_wp2
  go_loopw [8] (fun i wr => ∃ k : Nat, k ≤ n ∧ i = .int .i64 k ∧ wr = w ∧ Hid ((placesA (zs.take k)).length = k)) (fun i _ => n - (intOf i).toNat)
  case atStart => exact ⟨0, Nat.zero_le _, rfl, rfl, rfl⟩
  case round =>
    obtain ⟨k, hk, rfl, rfl, hpl⟩ := hrel
    by_cases hlt : k < n
    · obtain ⟨b1, o1, rfl, _, h1⟩ := hr.plain (by omega)
      have q1 := h1 k hlt
      have hs := placesA_snoc (zs := zs) (k := k) (by omega) hpl.out
      generalize hxe : zs.getD k 0 = x at q1 hs
      have i1 : (k : Int) < (n : Int) := by omega
      have HS := Lib.hid hs
      have HL := Lib.hid hl
      clear h1 hr hs hl hxe
      by_cases hx : x = 0
      · subst hx
        go_wp2
        go_ret
        have e : (placesA zs).length = k := HS.out.2 (by first | rfl | trivial)
        have e2 : (k : Int) = idx0 zs := by unfold idx0; rw [e, if_neg (by rw [HL.out]; omega)]
        exact ⟨congrArg (fun z : Int => Ending.returned (.int .i64 z)) e2, rfl⟩
      · have t1 : ((0 : Int) == x) = false := by simpa using fun h => hx h.symm
        have HX := Lib.hid hx
        clear hx
        go_wp2
        go_roundw
        case rel => exact ⟨k + 1, by omega, by go_num, by first | rfl | trivial, Lib.hid (by rw [HS.out.1, if_neg HX.out])⟩
        case measure => simp [intOf]; omega
    · have e : k = n := by omega
      subst e
      have e2 : idx0 zs = -1 := by
        unfold idx0
        have := hpl.out
        rw [← hl, List.take_length] at this
        rw [if_pos this]
      clear hr hl
      go_wp2
      go_ret
      exact ⟨congrArg (fun z : Int => Ending.returned (.int .i64 z)) e2.symm, rfl⟩

/-- The arrays of a list: Follow's iterator, of the root's word. -/
theorem carrays_any {base p : Nat} {S : Nat → Prop} {i k d f h : Int} {m : IM} {bv sv : Value} (root : Int) (w : World) (H : IX w base S p i k d f h m bv sv) (hb : AreB m.b) (h0 : -9223372036854775808 ≤ root) (h1 : root ≤ 9223372036854775807) :
    Calls Tryz.prog 79 #[.pointer (some ⟨p, 0, none⟩), .int .i64 root] w fun e w' => e = .returned (flV w.heap.size) ∧ Below w.heap.size w w' ∧ FlAt w' w.heap.size p (m.word root) 4 0 := by
  have WW := Lib.hid (iword_any root w H hb h0 h1)
  have FF := Lib.hid (tfollow_any p (m.word root) 4 0 w)
  obtain ⟨pl, hpl⟩ : ∃ pl, m.word root = pl := ⟨_, rfl⟩
  rw [hpl] at WW FF ⊢
  clear H hpl
  go_enter Tryz.func79, Tryz.ntmps79
  go_wp2_with (first
    | (go_at_call 76; refine (WW.out).mono ?_; rintro e w2 ⟨rfl, rfl⟩)
    | (go_at_call 103; refine FF.out.mono ?_; rintro e w2 ⟨rfl, hb2, hfl⟩))
  go_ret
  exact ⟨rfl, hb2, hfl⟩

/-- An iterator's two boxes. -/
structure RwAt (w : World) (g p : Nat) (root : Int) : Prop where
  lo : g + 2 ≤ w.heap.size
  cm : w.cell? ⟨g, 0, none⟩ = some (.pointer (some ⟨p, 0, none⟩))
  cr : w.cell? ⟨g + 1, 0, none⟩ = some (.int .i64 root)
theorem RwAt.below {w w' : World} {g p : Nat} {root : Int} (h : RwAt w g p root) (hb : Below w.heap.size w w') : RwAt w' g p root :=
  ⟨Nat.le_trans h.lo hb.size, (hb.cell (p := ⟨g, 0, none⟩) (by have := h.lo; show g < _; omega)).trans h.cm, (hb.cell (p := ⟨g + 1, 0, none⟩) (by have := h.lo; show g + 1 < _; omega)).trans h.cr⟩
theorem RwAt.two (w : World) (p : Nat) (root : Int) : RwAt ((w.alloc (.cells #[.pointer (some ⟨p, 0, none⟩)] 30)).alloc (.cells #[.int .i64 root] 3)) w.heap.size p root := by
  have c0 := (Blk.new w 30 #[.pointer (some ⟨p, 0, none⟩)]).cell 0
  have c1 := (Blk.new (w.alloc (.cells #[.pointer (some ⟨p, 0, none⟩)] 30)) 3 #[.int .i64 root]).cell 0
  simp only [World.size_alloc] at c1
  exact ⟨by simp, cell_kept1 c0, c1⟩
end Go.Proofs.YtjpfbkhjhainpaaGreat

/-
  LAYER 14: WHAT rows' ITERATOR TELLS: the arrays of a list, and of the one with a 0 what is ahead of it.
-/
set_option linter.unusedVariables false
set_option maxRecDepth 100000
set_option linter.unusedSimpArgs false
namespace Go.Proofs.YtjpfbkhjhainpaaGreat
open Go.RowKit Go.Shelf
attribute [local go_sem] Oper.semAt_some

/-- A row that is told. -/
structure Rw where
  A : Option Addr
  n : Nat
  c : Nat
  zs : List Int
def Rw.v (x : Rw) : Value := .slice x.A x.n x.c
def Rw.encs (x : Rw) : Array Value := #[x.v]
structure Rw.Lies (x : Rw) (W : World) : Prop where
  rd : Reads W W.heap.size 1 x.A x.n (cellsOf .u64 x.zs)
  cap : x.n ≤ x.c ∧ x.c ≤ 9223372036854775807
def Rw.free (x : Rw) (fp : Nat → Prop) : Prop := ∀ ad, x.A = some ad → ¬ fp ad.block
theorem Rw.Lies.upto {x : Rw} {W : World} {B : Nat} (h : Reads W B 1 x.A x.n (cellsOf .u64 x.zs)) (hB : B ≤ W.heap.size) (hc : x.n ≤ x.c ∧ x.c ≤ 9223372036854775807) : x.Lies W := ⟨h.upto hB, hc⟩
theorem Rw.Lies.below {x : Rw} {W W' : World} (h : x.Lies W) (hb : Below W.heap.size W W') : x.Lies W' := ⟨(h.rd.below hb).upto hb.size, h.cap⟩
theorem Reads.take {w : World} {B n q : Nat} {A : Option Addr} {xs : List Value} (h : Reads w B 1 A n xs) (hq : q ≤ n) : Reads w B 1 A q (xs.take q) := by
  refine ⟨by rw [List.length_take, h.1]; omega, fun h0 => ?_⟩
  obtain ⟨ad, e, hb, hc⟩ := h.2 (by omega)
  refine ⟨ad, e, hb, fun k u hu => ?_⟩
  rw [List.getElem?_take] at hu
  split at hu
  · exact hc k u hu
  · cases hu
section
variable {base p : Nat} {S : Nat → Prop} {i k d f h : Int} {m : IM} {bv sv : Value}

end

end Go.Proofs.YtjpfbkhjhainpaaGreat

/-
  LAYER 14: WHAT All's ITERATOR TELLS: the places of a list.
-/
set_option linter.unusedVariables false
set_option maxRecDepth 100000
set_option linter.unusedSimpArgs false
namespace Go.Proofs.YtjpfbkhjhainpaaGreat
open Go.RowKit Go.Shelf
attribute [local go_sem] Oper.semAt_some

section
variable {base p : Nat} {S : Nat → Prop} {i k d f h : Int} {m : IM} {bv sv : Value}

end

end Go.Proofs.YtjpfbkhjhainpaaGreat
