import Derived.Test.YtgcmbgniaffdlaaGreatLRf
import Derived.Test.YtgcmbgniaffdlaaGreatLCm
set_option linter.unusedVariables false
set_option maxRecDepth 100000
set_option linter.unusedSimpArgs false
namespace Go.Proofs.YtgcmbgniaffdlaaGreat
open Go.RowKit Go.Shelf
attribute [local go_sem] Oper.semAt_some
theorem len64_most (w : World) : Calls Tryz.prog 210 #[.int .u64 1024] w fun e w' => e = .returned (.int .i64 11) /\ w = w' := by
 go_enter Tryz.func210, Tryz.ntmps210
 go_wp2
 go_ret
 exact ⟨by kernel_rfl, rfl⟩
theorem len_most (w : World) : Calls Tryz.prog 181 #[.int .u64 1024] w fun e w' => e = .returned (.int .i64 11) /\ w = w' := by
 go_enter Tryz.func181, Tryz.ntmps181
 go_wp2_with (go_at_call 210; refine (len64_most _).mono ?_; rintro e w1 ⟨rfl, rfl⟩)
 go_ret
 exact ⟨rfl, rfl⟩
def sizeI (n : Int) : Int := if n < 0 then 0 else (sizeC n.toNat : Nat)
theorem sizeC_ge {n : Nat} (h : 8 <= n) : sizeC n = 1024 := sizeC_big (n := 8) (by decide) h
theorem csize_any (n : Int) (w : World) (h0 : -9223372036854775808 <= n) (h1 : n <= 9223372036854775807) :
 Calls Tryz.prog 145 #[.int .i64 n] w fun e w' => e = .returned (.int .i64 (sizeI n)) /\ w = w' := by
 by_cases hn : n < 0
 · have e : sizeI n = 0 := by unfold sizeI; rw [if_pos hn]
   rw [e]
   go_enter Tryz.func145, Tryz.ntmps145
   go_wp2
   go_ret
   exact ⟨rfl, rfl⟩
 · by_cases hb : 11 < n
   · have e : sizeI n = 1024 := by unfold sizeI; rw [if_neg hn, sizeC_ge (by omega)]; rfl
     rw [e]
     go_enter Tryz.func145, Tryz.ntmps145
     go_wp2_with (go_at_call 181; refine (len_most _).mono ?_; rintro e w1 ⟨rfl, rfl⟩)
     all_goals first
       | (exfalso; have hw : wrap64 8192 = 8192 := by decide
          omega)
       | (go_ret; exact ⟨rfl, rfl⟩)
       | (go_ret; have e1 : min n 11 = 11 := by omega
          exact ⟨by rw [e1]; kernel_rfl, rfl⟩)
   · clear h0 h1
     have hc : n = 0 ∨ n = 1 ∨ n = 2 ∨ n = 3 ∨ n = 4 ∨ n = 5 ∨ n = 6 ∨ n = 7 ∨ n = 8 ∨ n = 9 ∨ n = 10 ∨ n = 11 := by omega
     clear hn hb
     rcases hc with rfl | rfl | rfl | rfl | rfl | rfl | rfl | rfl | rfl | rfl | rfl | rfl
     all_goals
       go_enter Tryz.func145, Tryz.ntmps145
       go_wp2_with (go_at_call 181; refine (len_most _).mono ?_; rintro e w1 ⟨rfl, rfl⟩)
       go_ret
       exact ⟨by kernel_rfl, rfl⟩
theorem sindex_any {B : Nat} (A : Option Addr) (n c : Nat) (zs : List Int) (w : World) (hr : Reads w B 1 A n (cellsOf .u64 zs)) (hn : n <= 140737488355328) :
 Calls Tryz.prog 143 #[.slice A n c, .int .u64 0] w fun e w' => e = .returned (.int .i64 (idx0 zs)) /\ w = w' := by
 have hl := hr.len
 go_enter Tryz.func143, Tryz.ntmps143
 go_wp2
 go_loopw [8] (fun i wr => ∃ k : Nat, k <= n /\ i = .int .i64 k /\ wr = w /\ Hid ((placesA (zs.take k)).length = k)) (fun i _ => n - (intOf i).toNat)
 case atStart => exact ⟨0, Nat.zero_le _, rfl, rfl, rfl⟩
 case round =>
   obtain ⟨k, hk, rfl, rfl, hpl⟩ := hrel
   by_cases hlt : k < n
   · obtain ⟨b1, o1, rfl, _, h1⟩ := hr.plain (by omega)
     have q1 := h1 k hlt
     have hs := placesA_snoc (zs := zs) (k := k) (by omega) hpl.out
     generalize hxe : zs.getD k 0 = x at q1 hs
     have i1 : (k : Int) < (n : Int) := by omega
     have HS := Lib.hid hs
     have HL := Lib.hid hl
     clear h1 hr hs hl hxe
     by_cases hx : x = 0
     · subst hx
       go_wp2
       go_ret
       have e : (placesA zs).length = k := HS.out.2 (by first | rfl | trivial)
       have e2 : (k : Int) = idx0 zs := by unfold idx0; rw [e, if_neg (by rw [HL.out]; omega)]
       exact ⟨congrArg (fun z : Int => Ending.returned (.int .i64 z)) e2, rfl⟩
     · have t1 : ((0 : Int) == x) = false := by simpa using fun h => hx h.symm
       have HX := Lib.hid hx
       clear hx
       go_wp2
       go_roundw
       case rel => exact ⟨k + 1, by omega, by go_num, by first | rfl | trivial, Lib.hid (by rw [HS.out.1, if_neg HX.out])⟩
       case measure => simp [intOf]; omega
   · have e : k = n := by omega
     subst e
     have e2 : idx0 zs = -1 := by
       unfold idx0
       have := hpl.out
       rw [<- hl, List.take_length] at this
       rw [if_pos this]
     clear hr hl
     go_wp2
     go_ret
     exact ⟨congrArg (fun z : Int => Ending.returned (.int .i64 z)) e2.symm, rfl⟩
theorem carrays_any {base p : Nat} {S : Nat -> Prop} {i k d f h : Int} {m : IM} {bv sv : Value} (root : Int) (w : World) (H : IX w base S p i k d f h m bv sv) (hb : AreB m.b) (h0 : -9223372036854775808 <= root) (h1 : root <= 9223372036854775807) :
 Calls Tryz.prog 142 #[.pointer (some ⟨p, 0, none⟩), .int .i64 root] w fun e w' => e = .returned (flV w.heap.size) /\ Below w.heap.size w w' /\ FlAt w' w.heap.size p (m.word root) 4 0 := by
 have WW := Lib.hid (iword_any root w H hb h0 h1)
 have FF := Lib.hid (tfollow_any p (m.word root) 4 0 w)
 obtain ⟨pl, hpl⟩ : ∃ pl, m.word root = pl := ⟨_, rfl⟩
 rw [hpl] at WW FF ⊢
 clear H hpl
 go_enter Tryz.func142, Tryz.ntmps142
 go_wp2_with (first
   | (go_at_call 127; refine (WW.out).mono ?_; rintro e w2 ⟨rfl, rfl⟩)
   | (go_at_call 172; refine FF.out.mono ?_; rintro e w2 ⟨rfl, hb2, hfl⟩))
 go_ret
 exact ⟨rfl, hb2, hfl⟩
structure RwAt (w : World) (g p : Nat) (root : Int) : Prop where
 lo : g + 2 <= w.heap.size
 cm : w.cell? ⟨g, 0, none⟩ = some (.pointer (some ⟨p, 0, none⟩))
 cr : w.cell? ⟨g + 1, 0, none⟩ = some (.int .i64 root)
abbrev rwB (g : Nat) : Array Value := #[.pointer (some ⟨g, 0, none⟩), .pointer (some ⟨g + 1, 0, none⟩)]
abbrev rwV (g : Nat) : Value := .func (.func 151) #[] (rwB g)
abbrev alV (g : Nat) : Value := .func (.func 107) #[] (rwB g)
theorem RwAt.below {w w' : World} {g p : Nat} {root : Int} (h : RwAt w g p root) (hb : Below w.heap.size w w') : RwAt w' g p root :=
 ⟨Nat.le_trans h.lo hb.size, (hb.cell (p := ⟨g, 0, none⟩) (by have := h.lo; show g < _; omega)).trans h.cm, (hb.cell (p := ⟨g + 1, 0, none⟩) (by have := h.lo; show g + 1 < _; omega)).trans h.cr⟩
theorem RwAt.two (w : World) (p : Nat) (root : Int) : RwAt ((w.alloc (.cells #[.pointer (some ⟨p, 0, none⟩)] 33)).alloc (.cells #[.int .i64 root] 3)) w.heap.size p root := by
 have c0 := (Blk.new w 33 #[.pointer (some ⟨p, 0, none⟩)]).cell 0
 have c1 := (Blk.new (w.alloc (.cells #[.pointer (some ⟨p, 0, none⟩)] 33)) 3 #[.int .i64 root]).cell 0
 simp only [World.size_alloc] at c1
 exact ⟨by simp, cell_kept1 c0, c1⟩
theorem crows_any (p : Nat) (root : Int) (w : World) :
 Calls Tryz.prog 108 #[.pointer (some ⟨p, 0, none⟩), .int .i64 root] w fun e w' => e = .returned (rwV w.heap.size) /\ Below w.heap.size w w' /\ RwAt w' w.heap.size p root := by
 go_enter Tryz.func108, Tryz.ntmps108
 go_wp2
 go_ret
 exact ⟨rfl, (boxed _ _).alloc (boxed _ _).size _, RwAt.two w p root⟩
theorem call_any (p : Nat) (root : Int) (w : World) :
 Calls Tryz.prog 56 #[.pointer (some ⟨p, 0, none⟩), .int .i64 root] w fun e w' => e = .returned (alV w.heap.size) /\ Below w.heap.size w w' /\ RwAt w' w.heap.size p root := by
 go_enter Tryz.func56, Tryz.ntmps56
 go_wp2
 go_ret
 exact ⟨rfl, (boxed _ _).alloc (boxed _ _).size _, RwAt.two w p root⟩
attribute [local go_sem] Oper.semAt_some
structure Rw where
 A : Option Addr
 n : Nat
 c : Nat
 zs : List Int
def Rw.v (x : Rw) : Value := .slice x.A x.n x.c
def Rw.encs (x : Rw) : Array Value := #[x.v]
structure Rw.Lies (x : Rw) (W : World) : Prop where
 rd : Reads W W.heap.size 1 x.A x.n (cellsOf .u64 x.zs)
 cap : x.n <= x.c /\ x.c <= 9223372036854775807
def Rw.free (x : Rw) (fp : Nat -> Prop) : Prop := ∀ ad, x.A = some ad -> ¬ fp ad.block
def TellsR (rs : List (List Int)) (fp : Nat -> Prop) (pre : List Rw) (x : Rw) (W : World) : Prop := (∃ rest, pre.map (·.zs) ++ x.zs :: rest = rs) /\ x.Lies W /\ x.free fp
theorem Rw.Lies.below {x : Rw} {W W' : World} (h : x.Lies W) (hb : Below W.heap.size W W') : x.Lies W' := ⟨(h.rd.below hb).upto hb.size, h.cap⟩
theorem tellsR_own (rs : List (List Int)) (B : Nat) (fp : Nat -> Prop) (pre : List Rw) (x : Rw) : OwnFrom B (fun (_ : Unit) W => TellsR rs fp pre x W) :=
 fun _ W W' row hs hg hr => ⟨hs.1, ⟨(hs.2.1.rd.grownF hg (fun r e => (hr r e).2)).upto hg.size, hs.2.1.cap⟩, hs.2.2⟩
def rwOf (x : Ob) : Rw := ⟨x.C, x.p, x.q, x.t.is⟩
def rwCut (x : Ob) : Rw := ⟨x.C, (placesA x.t.is).length, x.q, placesA x.t.is⟩
theorem rwOf_lies {x : Ob} {W : World} (h : x.lies W) : (rwOf x).Lies W := ⟨h.ir, h.ic⟩
theorem cellsOf_take (k : IntKind) (zs : List Int) (n : Nat) : cellsOf k (zs.take n) = (cellsOf k zs).take n := by simp [cellsOf, List.map_take]
theorem yield_bool {P Q : Prop} {e : Ending} (h : (e = .returned (.bool true) /\ P) ∨ (e = .returned (.bool false) /\ Q)) : ∃ b, e = .returned (.bool b) /\ (P ∨ Q) := by
 rcases h with ⟨h1, h2⟩ | ⟨h1, h2⟩
 · exact ⟨true, h1, .inl h2⟩
 · exact ⟨false, h1, .inr h2⟩
theorem Reads.take {w : World} {B n q : Nat} {A : Option Addr} {xs : List Value} (h : Reads w B 1 A n xs) (hq : q <= n) : Reads w B 1 A q (xs.take q) := by
 refine ⟨by rw [List.length_take, h.1]; omega, fun h0 => ?_⟩
 obtain ⟨ad, e, hb, hc⟩ := h.2 (by omega)
 refine ⟨ad, e, hb, fun k u hu => ?_⟩
 rw [List.getElem?_take] at hu
 split at hu
 · exact hc k u hu
 · cases hu
def SeqEnd {α : Type} (S Sp : List α -> Prop) (J : (Nat -> Prop) -> List α -> World -> Prop) (Jx : List α -> World -> Prop) (W : World) : Prop := (∃ xs fp', S xs /\ J fp' xs W) ∨ (∃ pre, Sp pre /\ Jx pre W)
theorem seqEnd_own {α : Type} {S Sp : List α -> Prop} {J : (Nat -> Prop) -> List α -> World -> Prop} {Jx : List α -> World -> Prop} {B C : Nat} (hJ : ∀ fp, OwnFrom B (J fp)) (hJx : OwnFrom B Jx) (hC : B <= C) : OwnFrom C (fun (_ : Unit) W => SeqEnd S Sp J Jx W) := by
 rintro _ A D row hs hg hr
 have hr' : ∀ r, row = some r -> B <= r /\ ∃ o : Obj, A.heap[r]? = some o /\ o.isCells = false := fun r e => ⟨Nat.le_trans hC (hr r e).1, (hr r e).2⟩
 rcases hs with ⟨xs, fp', h1, h2⟩ | ⟨pre', h1, h2⟩
 · exact .inl ⟨xs, fp', h1, hJ fp' _ A D row h2 hg hr'⟩
 · exact .inr ⟨pre', h1, hJx _ A D row h2 hg hr'⟩
theorem YieldAt.deep {m : Nat} (m' l' : Nat) {P : Program} {l : Nat} {args : Array Value} {W : World} {R : Ending -> World -> Prop} (h : YieldAt Fence.wide m P l args W R) : YieldAt (Fence.wide.inRound l') m' P l args W R := by
 obtain ⟨fn, tmps, assign, body, hy, hR⟩ := h
 exact ⟨fn, tmps, assign, body, hy, hR.1, fun c cs _ => hR.2 c cs (fun d h => by cases h)⟩
section
variable {base p : Nat} {S : Nat -> Prop} {i k d f h : Int} {m : IM} {bv sv : Value}
set_option maxHeartbeats 4000000 in
theorem rows_F (n : Nat) (hn : 2 <= n) (fp₀ : Nat -> Prop) (g : Nat) (root : Int) (its : List It) (w : World) (H : IX w base S p i k d f h m bv sv) (hbm : AreB m.b) (hl : m.b.length <= 1099511627776)
 (hd : 1 <= d /\ d <= 256) (hf : 1 <= f /\ f <= 256) (hS : ∀ j, S j -> j < w.heap.size /\ ¬ fp₀ j) (hB : RwAt w g p root) (hT : ¬ fp₀ g /\ ¬ fp₀ (g + 1)) (h0 : -9223372036854775808 <= root) (h1 : root <= 9223372036854775807)
 (hits : ∀ t ∈ its, t.is.length <= 140737488355328) (hU : IsU (m.word root)) (hch : chainAt m d f 4 0 0 (m.word root) its) :
 SeqF Fence.wide n Tryz.prog 151 (rwB g) Rw.encs (TellsR (rowsL (its.map (·.is)))) fp₀
 (fun xs => xs.map (·.zs) = rowsL (its.map (·.is))) (fun pre => ∃ rest, pre.map (·.zs) ++ rest = rowsL (its.map (·.is))) (rowsL (its.map (·.is))).length w := by
 intro l J Jx W f1 hb hJ hJx hf1 hfok hY hst
 have hbox : Below W.heap.size W (W.alloc (.cells #[.func (.yield l) #[] #[]] 202)) := boxed _ _
 obtain ⟨W0, hW0⟩ : ∃ W0, W.alloc (.cells #[.func (.yield l) #[] #[]] 202) = W0 := ⟨_, rfl⟩
 have yb : Blk W0 W.heap.size 202 #[.func (.yield l) #[] #[]] := by rw [<- hW0]; exact Blk.new _ _ _
 have hs0 : W0.heap.size = W.heap.size + 1 := by rw [<- hW0]; simp
 rw [hW0] at hbox
 have hsW := hb.size
 have H0 : IX W0 base S p i k d f h m bv sv := (H.below hb).below hbox
 have AR := Lib.hid (carrays_any root W0 H0 hbm h0 h1)
 have c1 := ((hB.below hb).below hbox).cm
 have c2 := ((hB.below hb).below hbox).cr
 have hgw : g + 1 < W0.heap.size := by have := hB.lo; omega
 obtain ⟨gb, hgb⟩ : ∃ gb, W0.heap.size = gb := ⟨_, rfl⟩
 rw [hgb] at AR
 have HG := Lib.hid (And.intro hgb hs0)
 clear hgb hs0
 refine callsIn_of_wp_marks Tryz.func151 rfl trivial ?_ rfl
 simp only [Tryz.ntmps151, List.size_toArray, List.length_cons, List.length_nil, Nat.reduceAdd, Nat.reduceSub, Array.replicate_succ, Array.replicate_zero, List.push_toArray, List.append_toArray, List.nil_append, List.cons_append]
 gi_wp2_with (refine ⟨trivial, fun _ => by omega, ?_⟩; gi_at_call 142; refine (callsIn_wide.2 AR.out).mono ?_; rintro e w2 ⟨rfl, hb2, hfl⟩)
 obtain ⟨hgb, hs0⟩ := HG.out
 rw [<- hgb] at hb2
 have hs2 := hb2.size
 have hlo := hfl.lo
 have H2 := H0.below hb2
 have hbW2 : Below W.heap.size W w2 := hbox.trans (hb2.mono hbox.size)
 have yb2 := yb.below hb2 (by omega)
 have hf1' : ∀ k, W.heap.size <= k -> ¬ f1 k := fun k hk e => by have := hfok k e; omega
 have hSw : ∀ j, S j -> j < w2.heap.size /\ ¬ f1 j := fun j hj => by
   have := hS j hj
   exact ⟨by omega, fun e => by rcases hf1 j e with e | e; · exact this.2 e
                                · omega⟩
 have hseq := follow_F (n - 1) (by omega) f1 (gb + 3) (gb + 2) (gb + 1) gb 4 0 (m.word root) its w2 H2 hbm hl hd hf hSw (by omega) ⟨hf1' _ (by omega), hf1' _ (by omega), hf1' _ (by omega), hf1' _ (by omega)⟩ hfl.cw hfl.ck hfl.cp hfl.cm (by decide) hU hch
 obtain ⟨full, hfull⟩ : ∃ full : Ob -> Prop, full = fun y => (placesA y.t.is).length = y.t.is.length := ⟨_, rfl⟩
 refine wp_range_F (F := Fence.wide) (n := n) rfl (by omega) (gf := 195) (lb := #[.pointer (some ⟨gb + 3, 0, none⟩), .pointer (some ⟨gb + 2, 0, none⟩), .pointer (some ⟨gb + 1, 0, none⟩), .pointer (some ⟨gb, 0, none⟩)]) rfl trivial (enters_of Tryz.func195 (by kernel_rfl) rfl) hseq
     (fun k hk => by have := hfok k hk; omega)
     (fun fp pre x => tellsF_own its _ fp pre x) (fun _ => rfl)
     (fun fq pre W' => J fq (pre.map rwOf) W' /\ (∀ y ∈ pre, full y) /\ Blk W' W.heap.size 202 #[.func (.yield l) #[] #[]] /\ ¬ fq W.heap.size)
     (fun c pre W' => c = .ret /\ SeqEnd (fun xs : List Rw => xs.map (·.zs) = rowsL (its.map (·.is))) (fun pre => ∃ rest, pre.map (·.zs) ++ rest = rowsL (its.map (·.is))) J Jx W')
     (fun fq s A C row hs hg hr => ⟨hJ fq _ A C row hs.1 hg (fun r e => ⟨by have := (hr r e).1; omega, (hr r e).2⟩), hs.2.1, own_blkOf (β := Unit) (B := w2.heap.size) (by omega) (fun _ => #[.func (.yield l) #[] #[]]) () A C row hs.2.2.1 hg hr, hs.2.2.2⟩)
     (fun c s A C row hs hg hr => ⟨hs.1, seqEnd_own hJ hJx (by omega) () A C row hs.2 hg hr⟩)
     ⟨ownFrom_below' (hJ f1) hst hbW2, (fun y hy => by cases hy), yb2, hf1' _ (Nat.le_refl _)⟩
     (fun x a' W' => ∃ b, Blk W' b 128 #[.int .i64 4, .slice x.A x.n x.c, .slice x.B x.m x.d, .slice x.C x.p x.q] /\ a' = { tmps := #[.func (.yield l) #[] #[], .pointer (some ⟨g, 0, none⟩), .pointer (some ⟨g + 1, 0, none⟩), .pointer (some ⟨W.heap.size, 0, none⟩), undef, .pointer (some ⟨b, 0, none⟩), undef, .pointer (some ⟨p, 0, none⟩), .int .i64 root, flV gb, .int .i64 x.t.j, x.v 4, undef, undef, undef, undef, undef, undef, undef, undef, undef, undef, undef, undef, undef, undef, undef, undef], defers := [] })
     (fun x a' _ A C row hs hg hr => by
       obtain ⟨b, h1, h2⟩ := hs
       exact ⟨b, h1.grown hg (fun e => by obtain ⟨-, o, ho, hc⟩ := hr b e.symm; rw [show A.heap[b]? = _ from h1] at ho; cases ho; cases hc), h2⟩)
     ?assign ?body ?done ?stop
 case assign =>
   intro l2 x W3 K hW hK
   dsimp only [Ob.encs, Ob.v, obV]
   gi_wp2
   exact hK _ _ (boxed _ _) ⟨W3.heap.size, Blk.new _ _ _, rfl⟩
 case body =>
   rintro l2 fp fq pre x W3 ⟨hJs, hpre, yb3, hny⟩ hok hsub hlen ⟨⟨⟨rest, hrest⟩, hlies⟩, hfree⟩ - a' ⟨b, hbx, rfl⟩
   have b3 := hbx.cell 3
   have y3 := yb3.cell 0
   have hmem : x.t ∈ its := by rw [<- hrest]; simp
   have SI := Lib.hid (sindex_any x.C x.p x.q x.t.is W3 hlies.ir (by rw [<- hlies.ir.len]; exact hits _ hmem))
   have hrows : ∀ z : List (List Int), rowsL (its.map (·.is)) = pre.map (·.t.is) ++ rowsL (x.t.is :: rest.map (·.is)) := fun z => by
     rw [<- hrest, List.map_append, List.map_map, List.map_cons]
     exact rowsL_full (fun a ha => by
       obtain ⟨y, hy, rfl⟩ := List.mem_map.1 ha
       have := hpre y hy
       rw [hfull] at this
       exact this)
   have hpz : (pre.map rwOf).map (·.zs) = pre.map (·.t.is) := by rw [List.map_map]; rfl
   by_cases hfx : (placesA x.t.is).length = x.t.is.length
   · have hr2 : rowsL (its.map (·.is)) = pre.map (·.t.is) ++ x.t.is :: rowsL (rest.map (·.is)) := by rw [hrows [], rowsL_cons_full hfx]
     have e0 : idx0 x.t.is = -1 := by unfold idx0; rw [if_pos hfx]
     rw [e0] at SI
     have htl : TellsR (rowsL (its.map (·.is))) fq (pre.map rwOf) (rwOf x) W3 := ⟨⟨_, by rw [hpz, hr2]; rfl⟩, rwOf_lies hlies, fun ad e => fun hq => hfree.2.2 ad e (hsub _ hq)⟩
     obtain ⟨fn, tmps, assign, body, hy, hR⟩ := YieldAt.deep (n - 1 - 1 - 1) l2 (hY fq (pre.map rwOf) (rwOf x) W3 hJs (by rw [hr2, List.length_map, List.length_append, List.length_map]; simp) hok htl)
     dsimp only [Rw.encs, Rw.v, rwOf] at hy
     gi_wp2_with (refine ⟨trivial, (fun h => by cases h), ?_⟩; gi_at_call 143; refine (CallsIn.inRound l2 (callsIn_wide.2 SI.out)).mono ?_; rintro e w5 ⟨rfl, rfl⟩)
     refine ⟨(fun h => by cases h), hR.mono ?_⟩
     rintro e W5 (⟨rfl, fp', hJ5, hg5⟩ | ⟨rfl, hJx5, hc5⟩)
     · gi_wp2
       refine ⟨fp', ⟨?_, ?_, ?_, ?_⟩, hg5⟩
       · rw [List.map_append]; exact hJ5
       · intro y hy
         rcases List.mem_append.1 hy with hy | hy
         · exact hpre y hy
         · rw [List.mem_singleton.1 hy, hfull]; exact hfx
       · exact (hg5.keep yb3.lt hny).1.trans yb3
       · exact (hg5.keep yb3.lt hny).2
     · gi_wp2
       exact ⟨hc5, rfl, .inr ⟨_, ⟨rowsL (rest.map (·.is)), by rw [List.map_append, hpz, hr2]; simp [rwOf]⟩, hJx5⟩⟩
   · have hr2 : rowsL (its.map (·.is)) = pre.map (·.t.is) ++ [placesA x.t.is] := by rw [hrows [], rowsL_cons_cut hfx]
     have e0 : idx0 x.t.is = ((placesA x.t.is).length : Nat) := by unfold idx0; rw [if_neg hfx]
     have hple := placesA_le x.t.is
     have hpl := hlies.ir.len
     obtain ⟨q, hq⟩ : ∃ q, (placesA x.t.is).length = q := ⟨_, rfl⟩
     rw [e0, hq] at SI
     have hqx : q <= x.p := by omega
     have hble : Below W3.heap.size W3 W3.drew := below_drewn (Below.refl _ _) 1
     have htl : TellsR (rowsL (its.map (·.is))) fq (pre.map rwOf) (rwCut x) W3.drew := by
       refine ⟨⟨[], by rw [hpz, hr2]; rfl⟩, Rw.Lies.below ⟨?_, ?_⟩ hble, fun ad e => fun hq => hfree.2.2 ad e (hsub _ hq)⟩
       · show Reads W3 W3.heap.size 1 x.C (placesA x.t.is).length (cellsOf .u64 (placesA x.t.is))
         have ht := Reads.take hlies.ir (q := q) hqx
         rw [<- hq] at ht
         have h2 : cellsOf .u64 (placesA x.t.is) = (cellsOf .u64 x.t.is).take (placesA x.t.is).length := by rw [<- cellsOf_take, <- placesA_take]
         rw [h2]
         exact ht
       · show (placesA x.t.is).length <= x.q /\ x.q <= _
         have := hlies.ic
         omega
     obtain ⟨fn, tmps, assign, body, hy, hR⟩ := YieldAt.deep (n - 1 - 1 - 1) l2 (hY fq (pre.map rwOf) (rwCut x) W3.drew (ownFrom_below' (hJ fq) hJs (below_drewn (Below.refl _ _) 1)) (by rw [hr2, List.length_map, List.length_append, List.length_map]; simp) hok htl)
     dsimp only [Rw.encs, Rw.v, rwCut] at hy
     rw [hq] at hy
     have hmo : Tryz.prog.follows .mixedOrders = true := by kernel_rfl
     gi_wp2_with (refine ⟨trivial, (fun h => by cases h), ?_⟩; gi_at_call 143; refine (CallsIn.inRound l2 (callsIn_wide.2 SI.out)).mono ?_; rintro e w5 ⟨rfl, rfl⟩)
     have hqc : q <= x.q := Nat.le_trans hqx hlies.ic.1
     have hqc2 : (q : Int) <= (x.q : Int) := by omega
     have hqc3 : ¬ (x.q : Int) < (q : Int) := by omega
     have hq0 : ¬ (q : Int) < 0 := by omega
     have FIN : Hid (∀ W5 : World, ((∃ fp', J fp' (pre.map rwOf ++ [rwCut x]) W5 /\ GrowF fq W3.drew fp' W5) ∨ (Jx (pre.map rwOf ++ [rwCut x]) W5 /\ Chg fq W3.drew W5)) -> Chg fq W3 W5 /\ SeqEnd (fun xs : List Rw => xs.map (·.zs) = rowsL (its.map (·.is))) (fun pre => ∃ rest, pre.map (·.zs) ++ rest = rowsL (its.map (·.is))) J Jx W5) := Lib.hid (fun W5 hp => by
       have hd : Chg fq W3 W3.drew := Chg.of_below (below_drewn (Below.refl _ _) 1) (Nat.le_refl _) _
       have hz : (pre.map rwOf ++ [rwCut x]).map (·.zs) = rowsL (its.map (·.is)) := by rw [List.map_append, hpz, hr2]; rfl
       rcases hp with ⟨fp', e1, e2⟩ | ⟨e1, e2⟩
       · exact ⟨hd.trans e2.1 (fun _ _ h => h), .inl ⟨_, fp', hz, e1⟩⟩
       · exact ⟨hd.trans e2 (fun _ _ h => h), .inr ⟨_, ⟨[], by rw [List.append_nil]; exact hz⟩, e1⟩⟩)
     clear hr2 hrows hpz hble hple hpl htl SI hrest hpre hfx e0
     clear hseq hSw hf1' yb2 hbW2 H2 hlo hs2 hfl hb2 AR c1 c2 hgw H0 yb hbox hst hY hfok hf1 hch hU hits hT hB hS hl hbm H hJs hlies hfree hmem yb3 hny hok hsub hlen hbx
     refine wpIn_region_any hmo ?_
     try (change wpAnyIn _ _ _ _ _ _ _ _ _ (World.drew _))
     refine wpAnyIn_ready (rs := [0, 1, 3]) (by kernel_rfl) (by simp) (AllReadyIn.cons rfl (fun K hK => ?_) (AllReadyIn.cons rfl (fun K hK => ?_) (AllReadyIn.cons rfl (fun K hK => ?_) AllReadyIn.nil)))
     · go_simp
       refine hK _ _ ?_
       clear hK K
       refine wpAnyIn_ready (rs := [1, 3]) (by kernel_rfl) (by simp) (AllReadyIn.cons rfl (fun K hK => ?_) (AllReadyIn.cons rfl (fun K hK => ?_) AllReadyIn.nil))
       · go_simp
         refine hK _ _ ?_
         clear hK K
         refine wpAnyIn_ready (rs := [2, 3]) (by kernel_rfl) (by simp) (AllReadyIn.cons rfl (fun K hK => ?_) (AllReadyIn.cons rfl (fun K hK => ?_) AllReadyIn.nil))
         · go_simp
           refine hK _ _ ?_
           clear hK K
           refine wpAnyIn_ready (rs := [3]) (by kernel_rfl) (by simp) (AllReadyIn.cons rfl (fun K hK => ?_) AllReadyIn.nil)
           go_simp
           refine hK _ _ ?_
           clear hK K
           refine wpAnyIn_ready (rs := [4]) (by kernel_rfl) (by simp) (AllReadyIn.cons rfl (fun K hK => ?_) AllReadyIn.nil)
           go_simp
           refine hK _ _ ?_
           clear hK K
           refine wpAnyIn_ready (rs := [5]) (by kernel_rfl) (by simp) (AllReadyIn.cons rfl (fun K hK => ?_) AllReadyIn.nil)
           go_simp
           refine ⟨(fun h => by cases h), hR.mono ?_⟩
           rintro e W5 hpost
           obtain ⟨bb, rfl, hp⟩ := yield_bool hpost
           refine hK _ _ ?_
           clear hK K
           refine wpAnyIn_done (by kernel_rfl) ?_ _
           gi_wp2
           exact ⟨(FIN.out _ hp).1, rfl, (FIN.out _ hp).2⟩
         · go_simp
           refine hK _ _ ?_
           clear hK K
           refine wpAnyIn_ready (rs := [2]) (by kernel_rfl) (by simp) (AllReadyIn.cons rfl (fun K hK => ?_) AllReadyIn.nil)
           go_simp
           refine hK _ _ ?_
           clear hK K
           refine wpAnyIn_ready (rs := [4]) (by kernel_rfl) (by simp) (AllReadyIn.cons rfl (fun K hK => ?_) AllReadyIn.nil)
           go_simp
           refine hK _ _ ?_
           clear hK K
           refine wpAnyIn_ready (rs := [5]) (by kernel_rfl) (by simp) (AllReadyIn.cons rfl (fun K hK => ?_) AllReadyIn.nil)
           go_simp
           refine ⟨(fun h => by cases h), hR.mono ?_⟩
           rintro e W5 hpost
           obtain ⟨bb, rfl, hp⟩ := yield_bool hpost
           refine hK _ _ ?_
           clear hK K
           refine wpAnyIn_done (by kernel_rfl) ?_ _
           gi_wp2
           exact ⟨(FIN.out _ hp).1, rfl, (FIN.out _ hp).2⟩
       · go_simp
         refine hK _ _ ?_
         clear hK K
         refine wpAnyIn_ready (rs := [1]) (by kernel_rfl) (by simp) (AllReadyIn.cons rfl (fun K hK => ?_) AllReadyIn.nil)
         go_simp
         refine hK _ _ ?_
         clear hK K
         refine wpAnyIn_ready (rs := [2]) (by kernel_rfl) (by simp) (AllReadyIn.cons rfl (fun K hK => ?_) AllReadyIn.nil)
         go_simp
         refine hK _ _ ?_
         clear hK K
         refine wpAnyIn_ready (rs := [4]) (by kernel_rfl) (by simp) (AllReadyIn.cons rfl (fun K hK => ?_) AllReadyIn.nil)
         go_simp
         refine hK _ _ ?_
         clear hK K
         refine wpAnyIn_ready (rs := [5]) (by kernel_rfl) (by simp) (AllReadyIn.cons rfl (fun K hK => ?_) AllReadyIn.nil)
         go_simp
         refine ⟨(fun h => by cases h), hR.mono ?_⟩
         rintro e W5 hpost
         obtain ⟨bb, rfl, hp⟩ := yield_bool hpost
         refine hK _ _ ?_
         clear hK K
         refine wpAnyIn_done (by kernel_rfl) ?_ _
         gi_wp2
         exact ⟨(FIN.out _ hp).1, rfl, (FIN.out _ hp).2⟩
     · go_simp
       refine hK _ _ ?_
       clear hK K
       refine wpAnyIn_ready (rs := [0, 2, 3]) (by kernel_rfl) (by simp) (AllReadyIn.cons rfl (fun K hK => ?_) (AllReadyIn.cons rfl (fun K hK => ?_) (AllReadyIn.cons rfl (fun K hK => ?_) AllReadyIn.nil)))
       · go_simp
         refine hK _ _ ?_
         clear hK K
         refine wpAnyIn_ready (rs := [2, 3]) (by kernel_rfl) (by simp) (AllReadyIn.cons rfl (fun K hK => ?_) (AllReadyIn.cons rfl (fun K hK => ?_) AllReadyIn.nil))
         · go_simp
           refine hK _ _ ?_
           clear hK K
           refine wpAnyIn_ready (rs := [3]) (by kernel_rfl) (by simp) (AllReadyIn.cons rfl (fun K hK => ?_) AllReadyIn.nil)
           go_simp
           refine hK _ _ ?_
           clear hK K
           refine wpAnyIn_ready (rs := [4]) (by kernel_rfl) (by simp) (AllReadyIn.cons rfl (fun K hK => ?_) AllReadyIn.nil)
           go_simp
           refine hK _ _ ?_
           clear hK K
           refine wpAnyIn_ready (rs := [5]) (by kernel_rfl) (by simp) (AllReadyIn.cons rfl (fun K hK => ?_) AllReadyIn.nil)
           go_simp
           refine ⟨(fun h => by cases h), hR.mono ?_⟩
           rintro e W5 hpost
           obtain ⟨bb, rfl, hp⟩ := yield_bool hpost
           refine hK _ _ ?_
           clear hK K
           refine wpAnyIn_done (by kernel_rfl) ?_ _
           gi_wp2
           exact ⟨(FIN.out _ hp).1, rfl, (FIN.out _ hp).2⟩
         · go_simp
           refine hK _ _ ?_
           clear hK K
           refine wpAnyIn_ready (rs := [2]) (by kernel_rfl) (by simp) (AllReadyIn.cons rfl (fun K hK => ?_) AllReadyIn.nil)
           go_simp
           refine hK _ _ ?_
           clear hK K
           refine wpAnyIn_ready (rs := [4]) (by kernel_rfl) (by simp) (AllReadyIn.cons rfl (fun K hK => ?_) AllReadyIn.nil)
           go_simp
           refine hK _ _ ?_
           clear hK K
           refine wpAnyIn_ready (rs := [5]) (by kernel_rfl) (by simp) (AllReadyIn.cons rfl (fun K hK => ?_) AllReadyIn.nil)
           go_simp
           refine ⟨(fun h => by cases h), hR.mono ?_⟩
           rintro e W5 hpost
           obtain ⟨bb, rfl, hp⟩ := yield_bool hpost
           refine hK _ _ ?_
           clear hK K
           refine wpAnyIn_done (by kernel_rfl) ?_ _
           gi_wp2
           exact ⟨(FIN.out _ hp).1, rfl, (FIN.out _ hp).2⟩
       · go_simp
         refine hK _ _ ?_
         clear hK K
         refine wpAnyIn_ready (rs := [0, 3]) (by kernel_rfl) (by simp) (AllReadyIn.cons rfl (fun K hK => ?_) (AllReadyIn.cons rfl (fun K hK => ?_) AllReadyIn.nil))
         · go_simp
           refine hK _ _ ?_
           clear hK K
           refine wpAnyIn_ready (rs := [3]) (by kernel_rfl) (by simp) (AllReadyIn.cons rfl (fun K hK => ?_) AllReadyIn.nil)
           go_simp
           refine hK _ _ ?_
           clear hK K
           refine wpAnyIn_ready (rs := [4]) (by kernel_rfl) (by simp) (AllReadyIn.cons rfl (fun K hK => ?_) AllReadyIn.nil)
           go_simp
           refine hK _ _ ?_
           clear hK K
           refine wpAnyIn_ready (rs := [5]) (by kernel_rfl) (by simp) (AllReadyIn.cons rfl (fun K hK => ?_) AllReadyIn.nil)
           go_simp
           refine ⟨(fun h => by cases h), hR.mono ?_⟩
           rintro e W5 hpost
           obtain ⟨bb, rfl, hp⟩ := yield_bool hpost
           refine hK _ _ ?_
           clear hK K
           refine wpAnyIn_done (by kernel_rfl) ?_ _
           gi_wp2
           exact ⟨(FIN.out _ hp).1, rfl, (FIN.out _ hp).2⟩
         · go_simp
           refine hK _ _ ?_
           clear hK K
           refine wpAnyIn_ready (rs := [0, 4]) (by kernel_rfl) (by simp) (AllReadyIn.cons rfl (fun K hK => ?_) (AllReadyIn.cons rfl (fun K hK => ?_) AllReadyIn.nil))
           · go_simp
             refine hK _ _ ?_
             clear hK K
             refine wpAnyIn_ready (rs := [4]) (by kernel_rfl) (by simp) (AllReadyIn.cons rfl (fun K hK => ?_) AllReadyIn.nil)
             go_simp
             refine hK _ _ ?_
             clear hK K
             refine wpAnyIn_ready (rs := [5]) (by kernel_rfl) (by simp) (AllReadyIn.cons rfl (fun K hK => ?_) AllReadyIn.nil)
             go_simp
             refine ⟨(fun h => by cases h), hR.mono ?_⟩
             rintro e W5 hpost
             obtain ⟨bb, rfl, hp⟩ := yield_bool hpost
             refine hK _ _ ?_
             clear hK K
             refine wpAnyIn_done (by kernel_rfl) ?_ _
             gi_wp2
             exact ⟨(FIN.out _ hp).1, rfl, (FIN.out _ hp).2⟩
           · go_simp
             refine hK _ _ ?_
             clear hK K
             refine wpAnyIn_ready (rs := [0]) (by kernel_rfl) (by simp) (AllReadyIn.cons rfl (fun K hK => ?_) AllReadyIn.nil)
             go_simp
             refine hK _ _ ?_
             clear hK K
             refine wpAnyIn_ready (rs := [5]) (by kernel_rfl) (by simp) (AllReadyIn.cons rfl (fun K hK => ?_) AllReadyIn.nil)
             go_simp
             refine ⟨(fun h => by cases h), hR.mono ?_⟩
             rintro e W5 hpost
             obtain ⟨bb, rfl, hp⟩ := yield_bool hpost
             refine hK _ _ ?_
             clear hK K
             refine wpAnyIn_done (by kernel_rfl) ?_ _
             gi_wp2
             exact ⟨(FIN.out _ hp).1, rfl, (FIN.out _ hp).2⟩
       · go_simp
         refine hK _ _ ?_
         clear hK K
         refine wpAnyIn_ready (rs := [0, 2]) (by kernel_rfl) (by simp) (AllReadyIn.cons rfl (fun K hK => ?_) (AllReadyIn.cons rfl (fun K hK => ?_) AllReadyIn.nil))
         · go_simp
           refine hK _ _ ?_
           clear hK K
           refine wpAnyIn_ready (rs := [2]) (by kernel_rfl) (by simp) (AllReadyIn.cons rfl (fun K hK => ?_) AllReadyIn.nil)
           go_simp
           refine hK _ _ ?_
           clear hK K
           refine wpAnyIn_ready (rs := [4]) (by kernel_rfl) (by simp) (AllReadyIn.cons rfl (fun K hK => ?_) AllReadyIn.nil)
           go_simp
           refine hK _ _ ?_
           clear hK K
           refine wpAnyIn_ready (rs := [5]) (by kernel_rfl) (by simp) (AllReadyIn.cons rfl (fun K hK => ?_) AllReadyIn.nil)
           go_simp
           refine ⟨(fun h => by cases h), hR.mono ?_⟩
           rintro e W5 hpost
           obtain ⟨bb, rfl, hp⟩ := yield_bool hpost
           refine hK _ _ ?_
           clear hK K
           refine wpAnyIn_done (by kernel_rfl) ?_ _
           gi_wp2
           exact ⟨(FIN.out _ hp).1, rfl, (FIN.out _ hp).2⟩
         · go_simp
           refine hK _ _ ?_
           clear hK K
           refine wpAnyIn_ready (rs := [0, 4]) (by kernel_rfl) (by simp) (AllReadyIn.cons rfl (fun K hK => ?_) (AllReadyIn.cons rfl (fun K hK => ?_) AllReadyIn.nil))
           · go_simp
             refine hK _ _ ?_
             clear hK K
             refine wpAnyIn_ready (rs := [4]) (by kernel_rfl) (by simp) (AllReadyIn.cons rfl (fun K hK => ?_) AllReadyIn.nil)
             go_simp
             refine hK _ _ ?_
             clear hK K
             refine wpAnyIn_ready (rs := [5]) (by kernel_rfl) (by simp) (AllReadyIn.cons rfl (fun K hK => ?_) AllReadyIn.nil)
             go_simp
             refine ⟨(fun h => by cases h), hR.mono ?_⟩
             rintro e W5 hpost
             obtain ⟨bb, rfl, hp⟩ := yield_bool hpost
             refine hK _ _ ?_
             clear hK K
             refine wpAnyIn_done (by kernel_rfl) ?_ _
             gi_wp2
             exact ⟨(FIN.out _ hp).1, rfl, (FIN.out _ hp).2⟩
           · go_simp
             refine hK _ _ ?_
             clear hK K
             refine wpAnyIn_ready (rs := [0]) (by kernel_rfl) (by simp) (AllReadyIn.cons rfl (fun K hK => ?_) AllReadyIn.nil)
             go_simp
             refine hK _ _ ?_
             clear hK K
             refine wpAnyIn_ready (rs := [5]) (by kernel_rfl) (by simp) (AllReadyIn.cons rfl (fun K hK => ?_) AllReadyIn.nil)
             go_simp
             refine ⟨(fun h => by cases h), hR.mono ?_⟩
             rintro e W5 hpost
             obtain ⟨bb, rfl, hp⟩ := yield_bool hpost
             refine hK _ _ ?_
             clear hK K
             refine wpAnyIn_done (by kernel_rfl) ?_ _
             gi_wp2
             exact ⟨(FIN.out _ hp).1, rfl, (FIN.out _ hp).2⟩
     · go_simp
       refine hK _ _ ?_
       clear hK K
       refine wpAnyIn_ready (rs := [0, 1]) (by kernel_rfl) (by simp) (AllReadyIn.cons rfl (fun K hK => ?_) (AllReadyIn.cons rfl (fun K hK => ?_) AllReadyIn.nil))
       · go_simp
         refine hK _ _ ?_
         clear hK K
         refine wpAnyIn_ready (rs := [1]) (by kernel_rfl) (by simp) (AllReadyIn.cons rfl (fun K hK => ?_) AllReadyIn.nil)
         go_simp
         refine hK _ _ ?_
         clear hK K
         refine wpAnyIn_ready (rs := [2]) (by kernel_rfl) (by simp) (AllReadyIn.cons rfl (fun K hK => ?_) AllReadyIn.nil)
         go_simp
         refine hK _ _ ?_
         clear hK K
         refine wpAnyIn_ready (rs := [4]) (by kernel_rfl) (by simp) (AllReadyIn.cons rfl (fun K hK => ?_) AllReadyIn.nil)
         go_simp
         refine hK _ _ ?_
         clear hK K
         refine wpAnyIn_ready (rs := [5]) (by kernel_rfl) (by simp) (AllReadyIn.cons rfl (fun K hK => ?_) AllReadyIn.nil)
         go_simp
         refine ⟨(fun h => by cases h), hR.mono ?_⟩
         rintro e W5 hpost
         obtain ⟨bb, rfl, hp⟩ := yield_bool hpost
         refine hK _ _ ?_
         clear hK K
         refine wpAnyIn_done (by kernel_rfl) ?_ _
         gi_wp2
         exact ⟨(FIN.out _ hp).1, rfl, (FIN.out _ hp).2⟩
       · go_simp
         refine hK _ _ ?_
         clear hK K
         refine wpAnyIn_ready (rs := [0, 2]) (by kernel_rfl) (by simp) (AllReadyIn.cons rfl (fun K hK => ?_) (AllReadyIn.cons rfl (fun K hK => ?_) AllReadyIn.nil))
         · go_simp
           refine hK _ _ ?_
           clear hK K
           refine wpAnyIn_ready (rs := [2]) (by kernel_rfl) (by simp) (AllReadyIn.cons rfl (fun K hK => ?_) AllReadyIn.nil)
           go_simp
           refine hK _ _ ?_
           clear hK K
           refine wpAnyIn_ready (rs := [4]) (by kernel_rfl) (by simp) (AllReadyIn.cons rfl (fun K hK => ?_) AllReadyIn.nil)
           go_simp
           refine hK _ _ ?_
           clear hK K
           refine wpAnyIn_ready (rs := [5]) (by kernel_rfl) (by simp) (AllReadyIn.cons rfl (fun K hK => ?_) AllReadyIn.nil)
           go_simp
           refine ⟨(fun h => by cases h), hR.mono ?_⟩
           rintro e W5 hpost
           obtain ⟨bb, rfl, hp⟩ := yield_bool hpost
           refine hK _ _ ?_
           clear hK K
           refine wpAnyIn_done (by kernel_rfl) ?_ _
           gi_wp2
           exact ⟨(FIN.out _ hp).1, rfl, (FIN.out _ hp).2⟩
         · go_simp
           refine hK _ _ ?_
           clear hK K
           refine wpAnyIn_ready (rs := [0, 4]) (by kernel_rfl) (by simp) (AllReadyIn.cons rfl (fun K hK => ?_) (AllReadyIn.cons rfl (fun K hK => ?_) AllReadyIn.nil))
           · go_simp
             refine hK _ _ ?_
             clear hK K
             refine wpAnyIn_ready (rs := [4]) (by kernel_rfl) (by simp) (AllReadyIn.cons rfl (fun K hK => ?_) AllReadyIn.nil)
             go_simp
             refine hK _ _ ?_
             clear hK K
             refine wpAnyIn_ready (rs := [5]) (by kernel_rfl) (by simp) (AllReadyIn.cons rfl (fun K hK => ?_) AllReadyIn.nil)
             go_simp
             refine ⟨(fun h => by cases h), hR.mono ?_⟩
             rintro e W5 hpost
             obtain ⟨bb, rfl, hp⟩ := yield_bool hpost
             refine hK _ _ ?_
             clear hK K
             refine wpAnyIn_done (by kernel_rfl) ?_ _
             gi_wp2
             exact ⟨(FIN.out _ hp).1, rfl, (FIN.out _ hp).2⟩
           · go_simp
             refine hK _ _ ?_
             clear hK K
             refine wpAnyIn_ready (rs := [0]) (by kernel_rfl) (by simp) (AllReadyIn.cons rfl (fun K hK => ?_) AllReadyIn.nil)
             go_simp
             refine hK _ _ ?_
             clear hK K
             refine wpAnyIn_ready (rs := [5]) (by kernel_rfl) (by simp) (AllReadyIn.cons rfl (fun K hK => ?_) AllReadyIn.nil)
             go_simp
             refine ⟨(fun h => by cases h), hR.mono ?_⟩
             rintro e W5 hpost
             obtain ⟨bb, rfl, hp⟩ := yield_bool hpost
             refine hK _ _ ?_
             clear hK K
             refine wpAnyIn_done (by kernel_rfl) ?_ _
             gi_wp2
             exact ⟨(FIN.out _ hp).1, rfl, (FIN.out _ hp).2⟩
 case done =>
   rintro D fq xs W3 hD hxs ⟨hJs, hpre, -, -⟩ hK
   gi_wp2
   refine ⟨by simp, .inl ⟨_, _, rfl, run_takeDeferred hK, ?_⟩⟩
   refine ⟨_, results_none rfl _ _ _, ⟨_, rfl⟩, .inl ⟨xs.map rwOf, ?_, fq, (hJ fq).putObj _ hJs (by omega) hK rfl⟩⟩
   rw [List.map_map]
   have := rowsL_full (pre := xs.map (·.t.is)) (rest := []) (fun a ha => by
     obtain ⟨y, hy, rfl⟩ := List.mem_map.1 ha
     have := hpre y hy
     rw [hfull] at this
     exact this)
   rw [<- hxs, List.map_map]
   rw [List.append_nil, show rowsL [] = [] from rfl, List.append_nil] at this
   exact this.symm
 case stop =>
   rintro D cc pre W3 hD hp ⟨rfl, hf⟩ hK
   gi_wp2
   refine ⟨by simp, .inl ⟨_, _, rfl, run_takeDeferred hK, ?_⟩⟩
   refine ⟨_, results_none rfl _ _ _, ⟨_, rfl⟩, ?_⟩
   rcases hf with ⟨xs, fp', e1, e2⟩ | ⟨pre', e1, e2⟩
   · exact .inl ⟨xs, e1, fp', (hJ fp').putObj _ e2 (by omega) hK rfl⟩
   · exact .inr ⟨pre', e1, hJx.putObj _ e2 (by omega) hK rfl⟩
end
attribute [local go_sem] Oper.semAt_some
def placeE (x : Int) : Array Value := #[.int .u64 x]
def TellsP (L : List Int) (fp : Nat -> Prop) (pre : List Int) (x : Int) (W : World) : Prop := ∃ rest, pre ++ x :: rest = L
def IsL (L : List Int) (xs : List Int) : Prop := xs = L
def PreL (L : List Int) (pre : List Int) : Prop := ∃ rest, pre ++ rest = L
def flatR (pre : List Rw) : List Int := (pre.map (·.zs)).flatten
theorem flatR_snoc (pre : List Rw) (x : Rw) : flatR (pre ++ [x]) = flatR pre ++ x.zs := by simp [flatR]
theorem tellsP_own (L : List Int) (B : Nat) (fp : Nat -> Prop) (pre : List Int) (x : Int) : OwnFrom B (fun (_ : Unit) W => TellsP L fp pre x W) := fun _ W W' row hs hg hr => hs
section
variable {base p : Nat} {S : Nat -> Prop} {i k d f h : Int} {m : IM} {bv sv : Value}
set_option maxHeartbeats 4000000 in
theorem all_F (n : Nat) (hn : 3 <= n) (fp₀ : Nat -> Prop) (g : Nat) (root : Int) (its : List It) (w : World) (H : IX w base S p i k d f h m bv sv) (hbm : AreB m.b) (hl : m.b.length <= 1099511627776)
 (hd : 1 <= d /\ d <= 256) (hf : 1 <= f /\ f <= 256) (hS : ∀ j, S j -> j < w.heap.size /\ ¬ fp₀ j) (hB : RwAt w g p root) (hT : ¬ fp₀ g /\ ¬ fp₀ (g + 1)) (h0 : -9223372036854775808 <= root) (h1 : root <= 9223372036854775807)
 (hits : ∀ t ∈ its, t.is.length <= 140737488355328) (hU : IsU (m.word root)) (hch : chainAt m d f 4 0 0 (m.word root) its) (L : List Int) (hL : L = placesA (its.map (·.is)).flatten) :
 SeqF Fence.wide n Tryz.prog 107 (rwB g) placeE (TellsP L) fp₀ (IsL L) (PreL L) L.length w := by
 intro l J Jx W f1 hb hJ hJx hf1 hfok hY hst
 have hbox : Below W.heap.size W (W.alloc (.cells #[.func (.yield l) #[] #[]] 169)) := boxed _ _
 obtain ⟨W0, hW0⟩ : ∃ W0, W.alloc (.cells #[.func (.yield l) #[] #[]] 169) = W0 := ⟨_, rfl⟩
 have yb : Blk W0 W.heap.size 169 #[.func (.yield l) #[] #[]] := by rw [<- hW0]; exact Blk.new _ _ _
 have hs0 : W0.heap.size = W.heap.size + 1 := by rw [<- hW0]; simp
 rw [hW0] at hbox
 have hsW := hb.size
 have H0 : IX W0 base S p i k d f h m bv sv := (H.below hb).below hbox
 have AR := Lib.hid (crows_any p root W0)
 have c1 := ((hB.below hb).below hbox).cm
 have c2 := ((hB.below hb).below hbox).cr
 have hgw : g + 1 < W0.heap.size := by have := hB.lo; omega
 obtain ⟨gb, hgb⟩ : ∃ gb, W0.heap.size = gb := ⟨_, rfl⟩
 rw [hgb] at AR
 have HG := Lib.hid (And.intro hgb hs0)
 clear hgb hs0
 have HRS : Hid ((rowsL (its.map (·.is))).flatten = L) := Lib.hid (by rw [rowsL_flatten, hL])
 clear hL
 obtain ⟨rs, hrs⟩ : ∃ rs, rowsL (its.map (·.is)) = rs := ⟨_, rfl⟩
 refine callsIn_of_wp_marks Tryz.func107 rfl trivial ?_ rfl
 simp only [Tryz.ntmps107, List.size_toArray, List.length_cons, List.length_nil, Nat.reduceAdd, Nat.reduceSub, Array.replicate_succ, Array.replicate_zero, List.push_toArray, List.append_toArray, List.nil_append, List.cons_append]
 gi_wp2_with (refine ⟨trivial, (fun h => by cases h), ?_⟩; gi_at_call 108; refine (callsIn_wide.2 AR.out).mono ?_; rintro e w2 ⟨rfl, hb2, hfl⟩)
 obtain ⟨hgb, hs0⟩ := HG.out
 rw [<- hgb] at hb2
 have hs2 := hb2.size
 have hlo := hfl.lo
 have H2 := H0.below hb2
 have hbW2 : Below W.heap.size W w2 := hbox.trans (hb2.mono hbox.size)
 have yb2 := yb.below hb2 (by omega)
 have hf1' : ∀ k, W.heap.size <= k -> ¬ f1 k := fun k hk e => by have := hfok k e; omega
 have hSw : ∀ j, S j -> j < w2.heap.size /\ ¬ f1 j := fun j hj => by
   have := hS j hj
   exact ⟨by omega, fun e => by rcases hf1 j e with e | e; · exact this.2 e
                                · omega⟩
 have hseq := rows_F (n - 1) (by omega) f1 gb root its w2 H2 hbm hl hd hf hSw hfl ⟨hf1' _ (by omega), hf1' _ (by omega)⟩ h0 h1 hits hU hch
 rw [hrs] at hseq HRS
 refine wp_range_F (F := Fence.wide) (n := n) rfl (by omega) (gf := 151) (lb := rwB gb) rfl trivial (enters_of Tryz.func151 (by kernel_rfl) rfl) hseq
     (fun k hk => by have := hfok k hk; omega)
     (fun fp pre x => tellsR_own rs _ fp pre x) (fun _ => rfl)
     (fun fq pre W' => J fq (flatR pre) W' /\ Blk W' W.heap.size 169 #[.func (.yield l) #[] #[]] /\ ¬ fq W.heap.size)
     (fun c pre W' => c = .ret /\ SeqEnd (IsL L) (PreL L) J Jx W')
     (fun fq s A C row hs hg hr => ⟨hJ fq _ A C row hs.1 hg (fun r e => ⟨by have := (hr r e).1; omega, (hr r e).2⟩), own_blkOf (β := Unit) (B := w2.heap.size) (by omega) (fun _ => #[.func (.yield l) #[] #[]]) () A C row hs.2.1 hg hr, hs.2.2⟩)
     (fun c s A C row hs hg hr => ⟨hs.1, seqEnd_own hJ hJx (by omega) () A C row hs.2 hg hr⟩)
     ⟨ownFrom_below' (hJ f1) hst hbW2, yb2, hf1' _ (Nat.le_refl _)⟩
     (fun x a' W' => a' = { tmps := #[.func (.yield l) #[] #[], .pointer (some ⟨g, 0, none⟩), .pointer (some ⟨g + 1, 0, none⟩), .pointer (some ⟨W.heap.size, 0, none⟩), x.v, undef, undef, .pointer (some ⟨p, 0, none⟩), .int .i64 root, rwV gb, x.v, undef, undef, undef, undef, undef, undef, undef, undef, undef, undef, undef], defers := [] })
     (fun x a' _ A C row hs hg hr => hs)
     ?assign ?body ?done ?stop
 case assign =>
   intro l2 x W3 K hW hK
   dsimp only [Rw.encs]
   gi_wp2
   exact hK _ _ (Below.refl _ _) rfl
 case body =>
   rintro l2 fp fq pre x W3 ⟨hJs, yb3, hny⟩ hok hsub hlen ⟨⟨rest, hrest⟩, hlies, hfree⟩ - a' rfl
   have y3 := yb3.cell 0
   have hxl := hlies.rd.len
   dsimp only [Rw.v]
   gi_wp2
   gi_loopw [13] (fun s13 wr => ∃ (k : Nat) (fp' : Nat -> Prop), s13 = .int .i64 k /\ k <= x.n /\ J fp' (flatR pre ++ x.zs.take k) wr /\ GrowF fq W3 fp' wr) (fun s13 _ => x.n - (intOf s13).toNat)
   case atStart => exact ⟨0, fq, rfl, Nat.zero_le _, by rw [List.take_zero, List.append_nil]; exact hJs, GrowF.refl hok⟩
   case round =>
     obtain ⟨k, fp', rfl, hk, hJr, hgr⟩ := hrel
     have yr := (hgr.keep yb3.lt hny).1.trans yb3
     have y3r := Blk.cell yr 0
     by_cases hlt : k < x.n
     · have hrd : Reads wr W3.heap.size 1 x.A x.n (cellsOf .u64 x.zs) := hlies.rd.chg hgr.1 (Nat.le_refl _) (fun _ ad e hq => hfree ad e (hsub _ hq))
       obtain ⟨bl, off, hA, _, h1c⟩ := hrd.plain (by omega)
       have q1 := h1c k hlt
       obtain ⟨z, hz⟩ : ∃ z, x.zs.getD k 0 = z := ⟨_, rfl⟩
       rw [hz] at q1
       have htk : x.zs.take (k + 1) = x.zs.take k ++ [z] := by
         rw [List.take_succ_eq_append_getElem (by omega), <- hz, List.getD_eq_getElem?_getD, List.getElem?_eq_getElem (by omega)]; rfl
       have hLe : L = (flatR pre ++ x.zs.take k) ++ z :: (x.zs.drop (k + 1) ++ rest.flatten) := by
         have h1 : x.zs = x.zs.take (k + 1) ++ x.zs.drop (k + 1) := (List.take_append_drop _ _).symm
         rw [<- HRS.out, <- hrest, List.flatten_append, List.flatten_cons]
         conv => lhs; rw [h1, htk]
         simp [flatR]
       obtain ⟨fn, tmps, assign, body, hy, hR⟩ := YieldAt.deep (n - 1 - 1 - 1) l2 (hY fp' (flatR pre ++ x.zs.take k) z wr hJr (by rw [hLe]; simp) hgr.ok ⟨_, hLe.symm⟩)
       dsimp only [placeE] at hy
       have i1 : (k : Int) < (x.n : Int) := by omega
       have hnx : x.n <= 9223372036854775807 := Nat.le_trans hlies.cap.1 hlies.cap.2
       rw [hA]
       have HF : Hid (flatR pre ++ x.zs.take k ++ [z] = flatR pre ++ x.zs.take (k + 1)) := Lib.hid (by rw [htk, List.append_assoc])
       have HP : Hid (PreL L (flatR pre ++ x.zs.take k ++ [z])) := Lib.hid ⟨x.zs.drop (k + 1) ++ rest.flatten, by rw [hLe]; simp⟩
       clear h1c hrd htk hLe hz
       gi_wp2
       refine ⟨(fun h => by cases h), hR.mono ?_⟩
       rintro e W5 (⟨rfl, fp5, hJ5, hg5⟩ | ⟨rfl, hJx5, hc5⟩)
       · gi_wp2
         go_roundw
         case rel => exact ⟨k + 1, fp5, by go_num, by omega, by rw [<- HF.out]; exact hJ5, hgr.trans hg5⟩
         case measure => simp [intOf]; omega
       · gi_wp2
         exact ⟨hgr.1.trans hc5 (fun j hj e => (hgr.2 j e).1.elim id (fun e2 => by omega)), rfl, .inr ⟨_, HP.out, hJx5⟩⟩
     · have e : k = x.n := by omega
       subst e
       gi_wp2
       refine ⟨fp', ⟨?_, yr, (hgr.keep yb3.lt hny).2⟩, hgr⟩
       rw [flatR_snoc]
       rw [List.take_of_length_le (Nat.le_of_eq hxl)] at hJr
       exact hJr
 case done =>
   rintro D fq xs W3 hD hxs ⟨hJs, -, -⟩ hK
   gi_wp2
   refine ⟨by simp, .inl ⟨_, _, rfl, run_takeDeferred hK, ?_⟩⟩
   refine ⟨_, results_none rfl _ _ _, ⟨_, rfl⟩, .inl ⟨flatR xs, ?_, fq, (hJ fq).putObj _ hJs (by omega) hK rfl⟩⟩
   unfold IsL flatR; rw [hxs]; exact HRS.out
 case stop =>
   rintro D cc pre W3 hD hp ⟨rfl, hf⟩ hK
   gi_wp2
   refine ⟨by simp, .inl ⟨_, _, rfl, run_takeDeferred hK, ?_⟩⟩
   refine ⟨_, results_none rfl _ _ _, ⟨_, rfl⟩, ?_⟩
   rcases hf with ⟨xs, fp', e1, e2⟩ | ⟨pre', e1, e2⟩
   · exact .inl ⟨xs, e1, fp', (hJ fp').putObj _ e2 (by omega) hK rfl⟩
   · exact .inr ⟨pre', e1, hJx.putObj _ e2 (by omega) hK rfl⟩
end
end Go.Proofs.YtgcmbgniaffdlaaGreat
