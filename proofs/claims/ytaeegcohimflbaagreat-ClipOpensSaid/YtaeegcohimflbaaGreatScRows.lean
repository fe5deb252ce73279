import Derived.Test.YtaeegcohimflbaaGreatScPl
import Derived.Test.YtaeegcohimflbaaGreatRegionR
set_option linter.unusedVariables false
set_option maxRecDepth 100000
set_option linter.unusedSimpArgs false
namespace Go.Proofs.YtaeegcohimflbaaGreat
open Go.RowKit Go.Shelf
attribute [local go_sem] Oper.semAt_some
set_option maxHeartbeats 2000000 in
theorem scAll_any {B : Nat} (A : Option Addr) (n c : Nat) (zs : List Int) (pl to : Int) (L : List SR) (w : World) (hr : Reads w B 1 A n (cellsOf .u8 zs)) (hB : B <= w.heap.size) (hz : AreB zs) (hl : n <= c) (hcap : c <= 9223372036854775807) (hm : n <= 1099511627776)
 (h0 : -9223372036854775808 <= pl) (h1 : pl <= 9223372036854775807) (t0 : -9223372036854775808 <= to) (t1 : to <= 9223372036854775807) (hL : scanAt (zs.take (cutN n to)) pl L) :
 Calls Tryz.prog 62 #[.slice A n c, .int .i64 pl, .int .i64 to] w fun e w' => ∃ g, e = .returned (.func (.func 99) #[] (scB g)) /\ Below w.heap.size w w' /\ ∀ fp₀ : Nat -> Prop, (∀ k, fp₀ k -> k < w.heap.size) ->
 SeqF Fence.wide 8 Tryz.prog 99 (scB g) So.encs (TellsS (zs.take (cutN n to)) L) fp₀ (fun xs => xs.map (·.r) = L) (fun pre => ∃ rest, pre.map (·.r) ++ rest = L) L.length w' := by
 have hn : (zs.take (cutN n to)).length = cutN n to := by
   have := hr.len
   rw [List.length_take, this]; unfold cutN; omega
 obtain ⟨T, hT⟩ : ∃ T, cutN n to = T := ⟨_, rfl⟩
 have hTn : T <= n := by rw [<- hT]; exact cutN_le _ _
 rw [hT] at hL hn ⊢
 have AH := Lib.hid (fun wx => ahead_any A n c to wx hl hcap t0 t1)
 rw [hT] at AH
 have CL := Lib.hid (bclone_any A T c (zs.take T) B w (hr.pre hTn) hB (by omega))
 have OB := Lib.hid (fun (A2 : Option Addr) (N2 c2 : Nat) wx => objects_any A2 N2 c2 pl wx)
 have HZ := Lib.hid (And.intro hz (And.intro hL hn))
 clear hT hL hn hz hr
 go_enter Tryz.func62, Tryz.ntmps62
 go_wp2_with (first
   | (go_at_call 58; refine (AH.out _).mono ?_; rintro e w1 ⟨rfl, rfl⟩)
   | (go_at_call 30; refine CL.out.mono ?_; rintro e w1 ⟨A2, N2, c2, rfl, hN2, how, hb1, hle, hcp⟩; have HOW := Lib.hid (And.intro hN2 (And.intro how (And.intro hb1 (And.intro hle hcp)))); clear hN2 how hb1 hle hcp)
   | (go_at_call 57; refine (OB.out _ _ _ _).mono ?_; rintro e w2 ⟨rfl, rfl⟩))
 go_ret
 obtain ⟨hN2, how, hb1, hle, hcp⟩ := HOW.out
 obtain ⟨hz, hL, hn⟩ := HZ.out
 have hs1 := hb1.size
 refine ⟨w1.heap.size, rfl, hb1.trans (((boxed w1 _).alloc (boxed w1 _).size _).mono hs1), fun fp₀ hfp => ?_⟩
 have hsq := objects_seq fp₀ w1.heap.size A2 N2 c2 (zs.take T) pl L w1 (Reads.of_own how) (Nat.le_refl _) (fun hn ad ha e => by
   subst ha
   have := (how.lt ad.block rfl).1
   have := hfp _ e
   omega) (hz.take _) hle hcp (by omega) (fun k hk => by have := hfp _ hk; omega) h0 h1 hL
 have hb : Below w1.heap.size w1 ((w1.alloc (.cells #[.slice A2 N2 c2] 22)).alloc (.cells #[.int .i64 pl] 3)) := (boxed w1 _).alloc (boxed w1 _).size _
 have b1 := (Blk.new w1 22 #[.slice A2 N2 c2]).alloc (.cells #[.int .i64 pl] 3)
 have b2 := Blk.new (w1.alloc (.cells #[.slice A2 N2 c2] 22)) 3 #[.int .i64 pl]
 rw [World.size_alloc] at b2
 exact objects_F 8 (by omega) fp₀ w1.heap.size w1.heap.size A2 N2 c2 (zs.take T) pl L _ ((Reads.of_own how).below hb) hb.size (fun hn ad ha e => by
   subst ha
   have := (how.lt ad.block rfl).1
   have := hfp _ e
   omega) (hz.take _) hle hcp (by omega) (by simp)
   ⟨fun e => by have := hfp _ e; omega, fun e => by have := hfp _ e; omega⟩ (b2.cell 0) (b1.cell 0) h0 h1 hL
theorem rowInfo17 : (Tryz.prog.info? 85).map (fun i => (i.zero, i.size, i.bytes)) = some (some (.agg #[.int .i64 0, .int .i64 0, .int .i64 0, .slice none 0 0, .slice none 0 0, .slice none 0 0]), 6, 96) := by kernel_rfl
def So.cs (x : So) : List Value := [.int .i64 x.r.j, .int .i64 x.r.fin, .int .i64 x.r.k, .slice x.A x.n x.c, .slice x.B x.m x.d, .slice x.C x.p x.q]
def cellsS (l : List So) : List Value := (l.map So.cs).flatten
theorem cellsS_snoc (l : List So) (r : So) : cellsS (l ++ [r]) = cellsS l ++ r.cs := by unfold cellsS; rw [List.map_append, List.flatten_append]; simp
theorem row6At {w : World} {g : Nat} (hg : w.heap.size = g) (t : TypeId) (cs : Array Value) (h : cs.size = 6) : Reads (w.alloc (.cells cs t)) (g + 1) 6 (some ⟨g, 0, none⟩) 1 cs.toList := by
 subst hg
 refine ⟨by simp [h], fun _ => ⟨_, rfl, by simp, fun j u hj => ?_⟩⟩
 have e1 : (⟨w.heap.size, 0, none⟩ : Addr).add j = ⟨w.heap.size, j, none⟩ := by unfold Addr.add; split <;> simp_all
 rw [e1, (Blk.new w t cs).cell]
 simpa using hj
theorem row6One (a b c : Int) (A : Option Addr) (n m : Nat) (B : Option Addr) (p q : Nat) (C : Option Addr) (r s : Nat) : ∀ u ∈ [Value.int .i64 a, .int .i64 b, .int .i64 c, .slice A n m, .slice B p q, .slice C r s], u.oneCell' = true := fun u hu => by
 simp at hu
 rcases hu with rfl | rfl | rfl | rfl | rfl | rfl <;> rfl
theorem sq1 {m : Nat} (h : m <= 1099511627776) : m + 1 <= maxLen := by unfold maxLen; omega
theorem sq2 {m : Nat} (h : m <= 1099511627776) : (m + 1) * 96 <= 140737488355328 := by omega
def So.apart (x : So) (fp : Nat -> Prop) : Prop := (0 < x.n -> ∀ ad, x.A = some ad -> ¬ fp ad.block) /\ (0 < x.m -> ∀ ad, x.B = some ad -> ¬ fp ad.block) /\ (0 < x.p -> ∀ ad, x.C = some ad -> ¬ fp ad.block)
theorem So.apart.grow {x : So} {fp fp' : Nat -> Prop} {W W' : World} {zs : List Int} (h : x.apart fp) (hx : x.lies zs W) (hG : GrowF fp W fp' W') : x.apart fp' /\ x.lies zs W' := by
 refine ⟨⟨fun hn ad ha e => ?_, fun hn ad ha e => ?_, fun hn ad ha e => ?_⟩, ⟨?_, ?_, ?_, hx.wc, hx.rc, hx.ic⟩⟩
 · obtain ⟨ad2, ea, hb, -⟩ := hx.wr.2 hn
   rw [ha] at ea; injection ea with ea; subst ea
   exact (hG.2 _ e).1.elim (h.1 hn ad ha) (fun e => by omega)
 · obtain ⟨ad2, ea, hb, -⟩ := hx.rr.2 hn
   rw [ha] at ea; injection ea with ea; subst ea
   exact (hG.2 _ e).1.elim (h.2.1 hn ad ha) (fun e => by omega)
 · obtain ⟨ad2, ea, hb, -⟩ := hx.ir.2 hn
   rw [ha] at ea; injection ea with ea; subst ea
   exact (hG.2 _ e).1.elim (h.2.2 hn ad ha) (fun e => by omega)
 · exact (hx.wr.chg hG.1 (Nat.le_refl _) h.1).more hG.1.size
 · exact (hx.rr.chg hG.1 (Nat.le_refl _) h.2.1).more hG.1.size
 · exact (hx.ir.chg hG.1 (Nat.le_refl _) h.2.2).more hG.1.size
structure RowsS (zs : List Int) (W : World) (base : Nat) (v : Value) (l : List So) : Prop where
 own : W.ownsRow base 85 6 v l.length (cellsS l)
 lies : ∀ x ∈ l, x.lies zs W
end Go.Proofs.YtaeegcohimflbaaGreat
