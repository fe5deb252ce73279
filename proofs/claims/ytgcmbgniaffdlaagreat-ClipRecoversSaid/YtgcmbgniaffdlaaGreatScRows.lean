import Derived.Test.YtgcmbgniaffdlaaGreatScPl
import Derived.Test.YtgcmbgniaffdlaaGreatRegionR
set_option linter.unusedVariables false
set_option maxRecDepth 100000
set_option linter.unusedSimpArgs false
namespace Go.Proofs.YtgcmbgniaffdlaaGreat
open Go.RowKit Go.Shelf
attribute [local go_sem] Oper.semAt_some
set_option maxHeartbeats 2000000 in
theorem scAll_any {B : Nat} (A : Option Addr) (n c : Nat) (zs : List Int) (pl to : Int) (L : List SR) (w : World) (hr : Reads w B 1 A n (cellsOf .u8 zs)) (hB : B <= w.heap.size) (hz : AreB zs) (hl : n <= c) (hcap : c <= 9223372036854775807) (hm : n <= 1099511627776)
 (h0 : -9223372036854775808 <= pl) (h1 : pl <= 9223372036854775807) (t0 : -9223372036854775808 <= to) (t1 : to <= 9223372036854775807) (hL : scanAt (zs.take (cutN n to)) pl L) :
 Calls Tryz.prog 99 #[.slice A n c, .int .i64 pl, .int .i64 to] w fun e w' => ∃ g, e = .returned (.func (.func 121) #[] (scB g)) /\ Below w.heap.size w w' /\ ∀ fp₀ : Nat -> Prop, (∀ k, fp₀ k -> k < w.heap.size) ->
 SeqF Fence.wide 8 Tryz.prog 121 (scB g) So.encs (TellsS (zs.take (cutN n to)) L) fp₀ (fun xs => xs.map (·.r) = L) (fun pre => ∃ rest, pre.map (·.r) ++ rest = L) L.length w' := by
 have hn : (zs.take (cutN n to)).length = cutN n to := by
   have := hr.len
   rw [List.length_take, this]; unfold cutN; omega
 obtain ⟨T, hT⟩ : ∃ T, cutN n to = T := ⟨_, rfl⟩
 have hTn : T <= n := by rw [<- hT]; exact cutN_le _ _
 rw [hT] at hL hn ⊢
 have AH := Lib.hid (fun wx => ahead_any A n c to wx hl hcap t0 t1)
 rw [hT] at AH
 have CL := Lib.hid (bclone_any A T c (zs.take T) B w (hr.pre hTn) hB (by omega))
 have OB := Lib.hid (fun (A2 : Option Addr) (N2 c2 : Nat) wx => objects_any A2 N2 c2 pl wx)
 have HZ := Lib.hid (And.intro hz (And.intro hL hn))
 clear hT hL hn hz hr
 go_enter Tryz.func99, Tryz.ntmps99
 go_wp2_with (first
   | (go_at_call 65; refine (AH.out _).mono ?_; rintro e w1 ⟨rfl, rfl⟩)
   | (go_at_call 49; refine CL.out.mono ?_; rintro e w1 ⟨A2, N2, c2, rfl, hN2, how, hb1, hle, hcp⟩; have HOW := Lib.hid (And.intro hN2 (And.intro how (And.intro hb1 (And.intro hle hcp)))); clear hN2 how hb1 hle hcp)
   | (go_at_call 64; refine (OB.out _ _ _ _).mono ?_; rintro e w2 ⟨rfl, rfl⟩))
 go_ret
 obtain ⟨hN2, how, hb1, hle, hcp⟩ := HOW.out
 obtain ⟨hz, hL, hn⟩ := HZ.out
 have hs1 := hb1.size
 refine ⟨w1.heap.size, rfl, hb1.trans (((boxed w1 _).alloc (boxed w1 _).size _).mono hs1), fun fp₀ hfp => ?_⟩
 have hsq := objects_seq fp₀ w1.heap.size A2 N2 c2 (zs.take T) pl L w1 (Reads.of_own how) (Nat.le_refl _) (fun hn ad ha e => by
   subst ha
   have := (how.lt ad.block rfl).1
   have := hfp _ e
   omega) (hz.take _) hle hcp (by omega) (fun k hk => by have := hfp _ hk; omega) h0 h1 hL
 have hb : Below w1.heap.size w1 ((w1.alloc (.cells #[.slice A2 N2 c2] 24)).alloc (.cells #[.int .i64 pl] 3)) := (boxed w1 _).alloc (boxed w1 _).size _
 have b1 := (Blk.new w1 24 #[.slice A2 N2 c2]).alloc (.cells #[.int .i64 pl] 3)
 have b2 := Blk.new (w1.alloc (.cells #[.slice A2 N2 c2] 24)) 3 #[.int .i64 pl]
 rw [World.size_alloc] at b2
 exact objects_F 8 (by omega) fp₀ w1.heap.size w1.heap.size A2 N2 c2 (zs.take T) pl L _ ((Reads.of_own how).below hb) hb.size (fun hn ad ha e => by
   subst ha
   have := (how.lt ad.block rfl).1
   have := hfp _ e
   omega) (hz.take _) hle hcp (by omega) (by simp)
   ⟨fun e => by have := hfp _ e; omega, fun e => by have := hfp _ e; omega⟩ (b2.cell 0) (b1.cell 0) h0 h1 hL
end Go.Proofs.YtgcmbgniaffdlaaGreat
