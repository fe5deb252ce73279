import Derived.Test.YtaeegcohimflbaaGreatLRf
import Derived.Test.YtaeegcohimflbaaGreatLCm
set_option linter.unusedVariables false
set_option maxRecDepth 100000
set_option linter.unusedSimpArgs false
namespace Go.Proofs.YtaeegcohimflbaaGreat
open Go.RowKit Go.Shelf
attribute [local go_sem] Oper.semAt_some
theorem len64_most (w : World) : Calls Tryz.prog 171 #[.int .u64 1024] w fun e w' => e = .returned (.int .i64 11) /\ w = w' := by
 go_enter Tryz.func171, Tryz.ntmps171
 go_wp2
 go_ret
 exact ⟨by kernel_rfl, rfl⟩
theorem len_most (w : World) : Calls Tryz.prog 147 #[.int .u64 1024] w fun e w' => e = .returned (.int .i64 11) /\ w = w' := by
 go_enter Tryz.func147, Tryz.ntmps147
 go_wp2_with (go_at_call 171; refine (len64_most _).mono ?_; rintro e w1 ⟨rfl, rfl⟩)
 go_ret
 exact ⟨rfl, rfl⟩
def sizeI (n : Int) : Int := if n < 0 then 0 else (sizeC n.toNat : Nat)
theorem sizeC_ge {n : Nat} (h : 8 <= n) : sizeC n = 1024 := sizeC_big (n := 8) (by decide) h
theorem csize_any (n : Int) (w : World) (h0 : -9223372036854775808 <= n) (h1 : n <= 9223372036854775807) :
 Calls Tryz.prog 129 #[.int .i64 n] w fun e w' => e = .returned (.int .i64 (sizeI n)) /\ w = w' := by
 by_cases hn : n < 0
 · have e : sizeI n = 0 := by unfold sizeI; rw [if_pos hn]
   rw [e]
   go_enter Tryz.func129, Tryz.ntmps129
   go_wp2
   go_ret
   exact ⟨rfl, rfl⟩
 · by_cases hb : 11 < n
   · have e : sizeI n = 1024 := by unfold sizeI; rw [if_neg hn, sizeC_ge (by omega)]; rfl
     rw [e]
     go_enter Tryz.func129, Tryz.ntmps129
     go_wp2_with (go_at_call 147; refine (len_most _).mono ?_; rintro e w1 ⟨rfl, rfl⟩)
     all_goals first
       | (exfalso; have hw : wrap64 8192 = 8192 := by decide
          omega)
       | (go_ret; exact ⟨rfl, rfl⟩)
       | (go_ret; have e1 : min n 11 = 11 := by omega
          exact ⟨by rw [e1]; kernel_rfl, rfl⟩)
   · clear h0 h1
     have hc : n = 0 ∨ n = 1 ∨ n = 2 ∨ n = 3 ∨ n = 4 ∨ n = 5 ∨ n = 6 ∨ n = 7 ∨ n = 8 ∨ n = 9 ∨ n = 10 ∨ n = 11 := by omega
     clear hn hb
     rcases hc with rfl | rfl | rfl | rfl | rfl | rfl | rfl | rfl | rfl | rfl | rfl | rfl
     all_goals
       go_enter Tryz.func129, Tryz.ntmps129
       go_wp2_with (go_at_call 147; refine (len_most _).mono ?_; rintro e w1 ⟨rfl, rfl⟩)
       go_ret
       exact ⟨by kernel_rfl, rfl⟩
theorem sindex_any {B : Nat} (A : Option Addr) (n c : Nat) (zs : List Int) (w : World) (hr : Reads w B 1 A n (cellsOf .u64 zs)) (hn : n <= 140737488355328) :
 Calls Tryz.prog 128 #[.slice A n c, .int .u64 0] w fun e w' => e = .returned (.int .i64 (idx0 zs)) /\ w = w' := by
 have hl := hr.len
 go_enter Tryz.func128, Tryz.ntmps128
 go_wp2
 go_loopw [8] (fun i wr => ∃ k : Nat, k <= n /\ i = .int .i64 k /\ wr = w /\ Hid ((placesA (zs.take k)).length = k)) (fun i _ => n - (intOf i).toNat)
 case atStart => exact ⟨0, Nat.zero_le _, rfl, rfl, rfl⟩
 case round =>
   obtain ⟨k, hk, rfl, rfl, hpl⟩ := hrel
   by_cases hlt : k < n
   · obtain ⟨b1, o1, rfl, _, h1⟩ := hr.plain (by omega)
     have q1 := h1 k hlt
     have hs := placesA_snoc (zs := zs) (k := k) (by omega) hpl.out
     generalize hxe : zs.getD k 0 = x at q1 hs
     have i1 : (k : Int) < (n : Int) := by omega
     have HS := Lib.hid hs
     have HL := Lib.hid hl
     clear h1 hr hs hl hxe
     by_cases hx : x = 0
     · subst hx
       go_wp2
       go_ret
       have e : (placesA zs).length = k := HS.out.2 (by first | rfl | trivial)
       have e2 : (k : Int) = idx0 zs := by unfold idx0; rw [e, if_neg (by rw [HL.out]; omega)]
       exact ⟨congrArg (fun z : Int => Ending.returned (.int .i64 z)) e2, rfl⟩
     · have t1 : ((0 : Int) == x) = false := by simpa using fun h => hx h.symm
       have HX := Lib.hid hx
       clear hx
       go_wp2
       go_roundw
       case rel => exact ⟨k + 1, by omega, by go_num, by first | rfl | trivial, Lib.hid (by rw [HS.out.1, if_neg HX.out])⟩
       case measure => simp [intOf]; omega
   · have e : k = n := by omega
     subst e
     have e2 : idx0 zs = -1 := by
       unfold idx0
       have := hpl.out
       rw [<- hl, List.take_length] at this
       rw [if_pos this]
     clear hr hl
     go_wp2
     go_ret
     exact ⟨congrArg (fun z : Int => Ending.returned (.int .i64 z)) e2.symm, rfl⟩
theorem carrays_any {base p : Nat} {S : Nat -> Prop} {i k d f h : Int} {m : IM} {bv sv : Value} (root : Int) (w : World) (H : IX w base S p i k d f h m bv sv) (hb : AreB m.b) (h0 : -9223372036854775808 <= root) (h1 : root <= 9223372036854775807) :
 Calls Tryz.prog 127 #[.pointer (some ⟨p, 0, none⟩), .int .i64 root] w fun e w' => e = .returned (flV w.heap.size) /\ Below w.heap.size w w' /\ FlAt w' w.heap.size p (m.word root) 4 0 := by
 have WW := Lib.hid (iword_any root w H hb h0 h1)
 have FF := Lib.hid (tfollow_any p (m.word root) 4 0 w)
 obtain ⟨pl, hpl⟩ : ∃ pl, m.word root = pl := ⟨_, rfl⟩
 rw [hpl] at WW FF ⊢
 clear H hpl
 go_enter Tryz.func127, Tryz.ntmps127
 go_wp2_with (first
   | (go_at_call 124; refine (WW.out).mono ?_; rintro e w2 ⟨rfl, rfl⟩)
   | (go_at_call 156; refine FF.out.mono ?_; rintro e w2 ⟨rfl, hb2, hfl⟩))
 go_ret
 exact ⟨rfl, hb2, hfl⟩
attribute [local go_sem] Oper.semAt_some
def SeqEnd {α : Type} (S Sp : List α -> Prop) (J : (Nat -> Prop) -> List α -> World -> Prop) (Jx : List α -> World -> Prop) (W : World) : Prop := (∃ xs fp', S xs /\ J fp' xs W) ∨ (∃ pre, Sp pre /\ Jx pre W)
theorem seqEnd_own {α : Type} {S Sp : List α -> Prop} {J : (Nat -> Prop) -> List α -> World -> Prop} {Jx : List α -> World -> Prop} {B C : Nat} (hJ : ∀ fp, OwnFrom B (J fp)) (hJx : OwnFrom B Jx) (hC : B <= C) : OwnFrom C (fun (_ : Unit) W => SeqEnd S Sp J Jx W) := by
 rintro _ A D row hs hg hr
 have hr' : ∀ r, row = some r -> B <= r /\ ∃ o : Obj, A.heap[r]? = some o /\ o.isCells = false := fun r e => ⟨Nat.le_trans hC (hr r e).1, (hr r e).2⟩
 rcases hs with ⟨xs, fp', h1, h2⟩ | ⟨pre', h1, h2⟩
 · exact .inl ⟨xs, fp', h1, hJ fp' _ A D row h2 hg hr'⟩
 · exact .inr ⟨pre', h1, hJx _ A D row h2 hg hr'⟩
theorem YieldAt.deep {m : Nat} (m' l' : Nat) {P : Program} {l : Nat} {args : Array Value} {W : World} {R : Ending -> World -> Prop} (h : YieldAt Fence.wide m P l args W R) : YieldAt (Fence.wide.inRound l') m' P l args W R := by
 obtain ⟨fn, tmps, assign, body, hy, hR⟩ := h
 exact ⟨fn, tmps, assign, body, hy, hR.1, fun c cs _ => hR.2 c cs (fun d h => by cases h)⟩
section
variable {base p : Nat} {S : Nat -> Prop} {i k d f h : Int} {m : IM} {bv sv : Value}
end
attribute [local go_sem] Oper.semAt_some
def TellsP (L : List Int) (fp : Nat -> Prop) (pre : List Int) (x : Int) (W : World) : Prop := ∃ rest, pre ++ x :: rest = L
def IsL (L : List Int) (xs : List Int) : Prop := xs = L
def PreL (L : List Int) (pre : List Int) : Prop := ∃ rest, pre ++ rest = L
section
variable {base p : Nat} {S : Nat -> Prop} {i k d f h : Int} {m : IM} {bv sv : Value}
end
end Go.Proofs.YtaeegcohimflbaaGreat
