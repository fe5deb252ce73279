import Derived.Test.YtgcmbgniaffdlaaGreatCaB
import Derived.Test.YtgcmbgniaffdlaaGreatScRef
import Derived.Lib.OwnKind
set_option linter.unusedVariables false
set_option maxRecDepth 100000
set_option linter.unusedSimpArgs false
namespace Go.Proofs.YtgcmbgniaffdlaaGreat
open Go.RowKit Go.Shelf
attribute [local go_sem] Oper.semAt_some
attribute [local go_sem] Oper.semAt_some
def cuts (T : Nat) (C0 : List Int) (pre : List Int) : List Int × List Nat := cutF T (pre.map Int.toNat) (C0, [])
theorem nI_nat (l : List Nat) : (nI l).map Int.toNat = l := by unfold nI; rw [List.map_map]; exact (List.map_congr_left (fun a _ => by simp)).trans (List.map_id l)
theorem cuts_all (T : Nat) (C0 : List Int) (ws : List Nat) : cuts T C0 (nI ws) = cutF T ws (C0, []) := by unfold cuts; rw [nI_nat]
theorem cuts_no {T q : Nat} {C0 pre : List Int} (h : ¬ (T : Int) <= gnum (cuts T C0 pre).1 (q : Nat) 8) : cuts T C0 (pre ++ [(q : Int)]) = cuts T C0 pre := by
 unfold cuts at h ⊢
 rw [List.map_append, List.map_cons, List.map_nil, Int.toNat_natCast, cutF_snoc, if_neg h]
theorem cuts_yes {T q : Nat} {C0 pre : List Int} (h : (T : Int) <= gnum (cuts T C0 pre).1 (q : Nat) 8) : cuts T C0 (pre ++ [(q : Int)]) = (splice (cuts T C0 pre).1 q (List.replicate 8 0), (cuts T C0 pre).2 ++ [q]) := by
 unfold cuts at h ⊢
 rw [List.map_append, List.map_cons, List.map_nil, Int.toNat_natCast, cutF_snoc, if_pos h]
theorem cuts_ok {T : Nat} {C0 : List Int} {ws : List Nat} (hb : AreB C0) (hl : C0.length = T) (hw : ∀ q ∈ ws, q + 8 <= T) {pre rest : List Int} (h : pre ++ rest = nI ws) :
 (cuts T C0 pre).1.length = T /\ AreB (cuts T C0 pre).1 /\ (cuts T C0 pre).2.length <= pre.length /\ ∀ q ∈ (cuts T C0 pre).2, q + 8 <= T := by
 have hp : ∀ q ∈ pre.map Int.toNat, q + 8 <= T := fun q hq => by
   obtain ⟨x, hx, rfl⟩ := List.mem_map.1 hq
   have : x ∈ nI ws := by rw [<- h]; exact List.mem_append_left _ hx
   obtain ⟨y, hy, rfl⟩ := List.mem_map.1 this
   rw [Int.toNat_natCast]
   exact hw y hy
 obtain ⟨h1, h2, h3, h4⟩ := cutF_ok T (pre.map Int.toNat) (C0, []) hb (fun q hq => by show q + 8 <= C0.length; rw [hl]; exact hp q hq)
 refine ⟨h1.trans hl, h2, ?_, fun q hq => ?_⟩
 · rw [List.length_map] at h3
   exact Nat.le_trans h3 (by simp)
 · rcases h4 q hq with h5 | h5
   · cases h5
   · exact hp q h5
def CuI (w : World) (gC bc bt T cC : Nat) (C0 : List Int) (hd : Array Value) (tl : Int) (fq : Nat -> Prop) (pre : List Int) (W : World) : Prop :=
 ∃ (v : Value) (cur : List Value), fq = (fun k => fpR bt v k ∨ k = gC) /\ Blk W gC 5 cur.toArray /\ cur.length = cC /\ cur.take T = cellsOf .u8 (cuts T C0 pre).1 /\ Boxed W bt 48 v /\ W.ownsRow (bt + 1) 3 1 v (cuts T C0 pre).2.length (cellsOf .i64 (nI (cuts T C0 pre).2)) /\ Blk W bc 24 #[.slice (some ⟨gC, 0, none⟩) T cC] /\ Blk W w.heap.size 29 hd /\ Blk W (w.heap.size + 1) 3 #[.int .i64 tl] /\ Below w.heap.size w W
theorem cuI_own (w : World) (gC bc bt T cC : Nat) (C0 : List Int) (hd : Array Value) (tl : Int) (C : Nat) (hC : bt + 1 <= C) (hw : w.heap.size <= C) (fq : Nat -> Prop) : OwnFrom C (CuI w gC bc bt T cC C0 hd tl fq) := by
 rintro pre W W' row ⟨v, cur, e1, hg, hcl, hct, hv, hr, hbc, hh, ht, hbw⟩ hgr hrow
 obtain ⟨v2, h2, h3, h4⟩ := own_row (bt + 1) bt C 48 3 1 (fun s : List Int => (cuts T C0 s).2.length) (fun s => cellsOf .i64 (nI (cuts T C0 s).2)) pre W W' row ⟨v, hv, hr, trivial⟩ hgr hrow
 have e2 := box_same hv hgr (fun r e => (hrow r e).2) h2
 subst e2
 exact ⟨v2, cur, e1, own_blkAny (B := C) gC 5 (fun _ : Unit => _) () W W' row hg hgr hrow, hcl, hct, h2, h3, own_blkAny (B := C) bc 24 (fun _ : Unit => _) () W W' row hbc hgr hrow, own_blkAny (B := C) w.heap.size 29 (fun _ : Unit => _) () W W' row hh hgr hrow, own_blkAny (B := C) (w.heap.size + 1) 3 (fun _ : Unit => _) () W W' row ht hgr hrow, hbw.grown hgr (by have := hbw.size; omega) (fun k e => by have := (hrow k e).1; omega)⟩
def cutW (d f : Int) (L : List SR) (zs : List Int) (T : Nat) : List Int × List Nat := cutF T (wordsS (newK d f) L) (zs.take T, [])
theorem splice_lenV (cur ys : List Value) (q : Nat) (h : q + ys.length <= cur.length) : (splice cur q ys).length = cur.length := by
 unfold splice
 rw [List.length_append, List.length_append, List.length_take, List.length_drop]; omega
theorem zero_u8 (w : World) : (zeroValue 5).run Tryz.prog w = .ok (.int .u8 0) w := by kernel_rfl
theorem cells_zero (n : Nat) : cellsOf .u8 (List.replicate n 0) = List.replicate n (.int .u8 0) := by unfold cellsOf; rw [List.map_replicate]
theorem clone_blk {B : Nat} (A : Option Addr) (T c : Nat) (zt : List Int) (w : World) (hr : Reads w B 1 A T (cellsOf .u8 zt)) (hB : B <= w.heap.size) (hT : 0 < T) (hm : T <= 1099511627776) :
 Calls Tryz.prog 49 #[.slice A T c] w fun e w' => ∃ (gC cC : Nat) (cur : List Value), e = .returned (.slice (some ⟨gC, 0, none⟩) T cC) /\ Blk w' gC 5 cur.toArray /\ w.heap.size <= gC /\ cur.length = cC /\ cur.take T = cellsOf .u8 zt /\ T <= cC /\ cC <= maxLen /\ Below w.heap.size w w' := by
 have hlt : zt.length = T := hr.len
 refine (bclone_any A T c zt B w hr hB (by omega)).mono ?_
 rintro e w' ⟨A2, N2, c2, rfl, hN2, how, hb, hle, hcp⟩
 rw [hlt] at hN2
 rw [hN2] at how hle ⊢
 obtain ⟨g, cur, rfl, hg, hbk, h1, h2, h3, h4⟩ := row_open how hT
 exact ⟨g, c2, cur, rfl, hbk, hg, by omega, by rw [Nat.mul_one] at h4; exact h4, h1, h2, hb⟩
structure TwoBox (w5 W6 : World) (gC T cC : Nat) : Prop where
 below : Below w5.heap.size w5 W6
 size : W6.heap.size = w5.heap.size + 2
 bc : Blk W6 w5.heap.size 24 #[.slice (some ⟨gC, 0, none⟩) T cC]
 bt : Boxed W6 (w5.heap.size + 1) 48 (.slice none 0 0)
theorem twoBox (w5 : World) (gC T cC : Nat) : TwoBox w5 ((w5.alloc (.cells #[.slice (some ⟨gC, 0, none⟩) T cC] 24)).alloc (.cells #[.slice none 0 0] 48)) gC T cC := by
 refine ⟨(boxed w5 _).alloc (boxed w5 _).size _, by simp, (Blk.new w5 24 #[.slice (some ⟨gC, 0, none⟩) T cC]).alloc _, ?_⟩
 have := Boxed.new (w5.alloc (.cells #[.slice (some ⟨gC, 0, none⟩) T cC] 24)) 48 (.slice none 0 0)
 rw [World.size_alloc] at this
 exact this
set_option maxHeartbeats 4000000 in
theorem cut_yes {B : Nat} (i k d f m : Int) (A : Option Addr) (n c : Nat) (zs : List Int) (T : Nat) (L : List SR) (w : World) (hr : Reads w B 1 A n (cellsOf .u8 zs)) (hB : B <= w.heap.size) (hz : AreB zs) (hl : n <= c) (hcap : c <= 9223372036854775807) (hm : n <= 549755813888)
 (hR : rightH d f = true) (hT : newK d f <= T) (hTn : T <= n) (hL : scanAt (zs.take T) (newK d f : Nat) L) (hE : lastE (newK d f : Nat) L = T) :
 Calls Tryz.prog 16 #[hdV i k d f m, .slice A n c, .int .i64 T] w fun e w' => ∃ A1 c1 v, e = .returned (.tuple #[.slice A1 T c1, v, .bool true]) /\ w'.ownsRow w.heap.size 5 1 (.slice A1 T c1) T (cellsOf .u8 (cutW d f L zs T).1) /\ w'.ownsRow w.heap.size 3 1 v (cutW d f L zs T).2.length (cellsOf .i64 (nI (cutW d f L zs T).2)) /\ T <= c1 /\ c1 <= 9223372036854775807 /\ Below w.heap.size w w' := by
 obtain ⟨d1, d2, d3, d4⟩ := rightH_bd hR
 have hnk := newK_val ⟨d1, d2⟩ ⟨d3, d4⟩
 have hnk2 : 256 + 8 * (d + f) = ((newK d f : Nat) : Int) := by omega
 have hlz : zs.length = n := hr.len
 have hzt : (zs.take T).length = T := by rw [List.length_take]; omega
 have hcN : cutN n T = T := by unfold cutN; omega
 have hwl : ∀ q ∈ wordsS (newK d f) L, q + 8 <= T := fun q hq => by
   have h := wordsS_fit (by omega) (by omega) (by omega) hL q hq
   omega
 have hml := words_most hR hL
 have hb0 : Below w.heap.size w ((w.alloc (.cells #[.int .u64 i, .int .u64 k, .int .i64 d, .int .i64 f, .int .u64 m] 29)).alloc (.cells #[.int .i64 T] 3)) := (boxed w _).alloc (boxed w _).size _
 have x0 := (Blk.new w 29 #[.int .u64 i, .int .u64 k, .int .i64 d, .int .i64 f, .int .u64 m]).alloc (.cells #[.int .i64 T] 3)
 have x1 := Blk.new (w.alloc (.cells #[.int .u64 i, .int .u64 k, .int .i64 d, .int .i64 f, .int .u64 m] 29)) 3 #[.int .i64 T]
 rw [World.size_alloc] at x1
 obtain ⟨W0, hW0⟩ : ∃ W0, (w.alloc (.cells #[.int .u64 i, .int .u64 k, .int .i64 d, .int .i64 f, .int .u64 m] 29)).alloc (.cells #[.int .i64 T] 3) = W0 := ⟨_, rfl⟩
 rw [hW0] at hb0 x0 x1
 have HC : Hid (∀ wx, Below W0.heap.size W0 wx -> Blk wx w.heap.size 29 #[.int .u64 i, .int .u64 k, .int .i64 d, .int .i64 f, .int .u64 m] /\ Blk wx (w.heap.size + 1) 3 #[.int .i64 T]) := Lib.hid (fun wx hx => ⟨x0.below hx x0.lt, x1.below hx x1.lt⟩)
 have HS : Hid (∀ wx, Below W0.heap.size W0 wx -> (wx.cell? ⟨w.heap.size, 0, none⟩ = some (.int .u64 i) /\ wx.cell? ⟨w.heap.size, 1, none⟩ = some (.int .u64 k) /\ wx.cell? ⟨w.heap.size, 2, none⟩ = some (.int .i64 d) /\ wx.cell? ⟨w.heap.size, 3, none⟩ = some (.int .i64 f) /\ wx.cell? ⟨w.heap.size, 4, none⟩ = some (.int .u64 m) /\ wx.cell? ⟨w.heap.size + 1, 0, none⟩ = some (.int .i64 T))) := Lib.hid (fun wx hx => by
   obtain ⟨h0, h1⟩ := HC.out wx hx
   exact ⟨h0.cell 0, h0.cell 1, h0.cell 2, h0.cell 3, h0.cell 4, h1.cell 0⟩)
 have RI := Lib.hid (fun wx => hright_any i k d f m wx)
 rw [hR] at RI
 have OB := Lib.hid (fun wx => hobjects_any i k d f m wx (by omega) d2 (by omega) d4)
 rw [hnk2] at OB
 have WH := Lib.hid (fun wx (hx : Below w.heap.size w wx) => scWhole_any A n c zs (newK d f : Nat) T L wx (hr.below (hx.mono hB)) (Nat.le_trans hB hx.size) hz hl hcap (by omega) (by omega) (by omega) (by omega) (by omega) (by rw [hcN]; exact hL))
 have hwb : wholeB n (newK d f : Nat) T L = true := by unfold wholeB; exact decide_eq_true ⟨by omega, by omega, hE⟩
 rw [hwb] at WH
 have HB0 := Lib.hid hb0
 have HKN := Lib.hid hT
 have hlt : decide (T < newK d f) = false := decide_eq_false (by omega)
 have hTc : (T : Int) <= (c : Int) := by omega
 have CL := Lib.hid (fun wx (hx : Below w.heap.size w wx) => clone_blk A T c (zs.take T) wx ((hr.pre hTn).below (hx.mono hB)) (Nat.le_trans hB hx.size) (by omega) (by omega))
 have WD := Lib.hid (fun wx => cwmake_any i k d f m A n c T wx)
 have WF := Lib.hid (fun (fp₀ : Nat -> Prop) (g : Nat) (wx : World) (hx : Below w.heap.size w wx) (hfp : ∀ k, fp₀ k -> w.heap.size <= k) (hW : WcAt wx g i k d f m A n c T) (hT : ¬ fp₀ g /\ ¬ fp₀ (g + 1) /\ ¬ fp₀ (g + 2)) =>
   words_F fp₀ g B i k d f m A n c zs T L wx (hr.below (hx.mono hB)) (Nat.le_trans hB hx.size) (fun hn ad ha e => by
     obtain ⟨ad2, ea, hb2, -⟩ := hr.2 hn
     rw [ha] at ea; injection ea with ea; subst ea
     have := hfp _ e
     omega) hz hl hcap (by omega) hW hT hR (by omega) (by omega) (by rw [hcN]; exact hL) _ rfl)
 have HOK := Lib.hid (fun (pre rest : List Int) (h : pre ++ rest = nI (wordsS (newK d f) L)) => cuts_ok (T := T) (hz.take T) hzt hwl h)
 have HWL := Lib.hid hwl
 have HML := Lib.hid (And.intro hml hzt)
 have hTpos : 0 < T := by omega
 clear hL hE hr hz hlz hwb hb0 x0 x1 hwl hnk hnk2 hcN hzt hml
 refine (callsIn_wide (n := 10)).1 ?_
 refine callsIn_of_wp_marks Tryz.func16 rfl trivial ?_ rfl
 simp only [Tryz.ntmps16, List.size_toArray, List.length_cons, List.length_nil, Nat.reduceAdd, Nat.reduceSub, Array.replicate_succ, Array.replicate_zero, List.push_toArray, List.append_toArray, List.nil_append, List.cons_append]
 gi_wp2
 have hb : Below W0.heap.size W0 W0.drew := below_drewn (Below.refl _ _) 1
 refine region_wide (S := fun w' => w'.cell? ⟨w.heap.size, 0, none⟩ = some (.int .u64 i) /\ w'.cell? ⟨w.heap.size, 1, none⟩ = some (.int .u64 k) /\ w'.cell? ⟨w.heap.size, 2, none⟩ = some (.int .i64 d) /\ w'.cell? ⟨w.heap.size, 3, none⟩ = some (.int .i64 f) /\ w'.cell? ⟨w.heap.size, 4, none⟩ = some (.int .u64 m) /\ w'.cell? ⟨w.heap.size + 1, 0, none⟩ = some (.int .i64 T)) 16 (by kernel_rfl) (by kernel_rfl) (HS.out _ hb) (fun hHeld => ?_)
 refine takeZ_yes (i := 0) (v := ?_) rfl (by kernel_rfl) (by kernel_rfl) (by kernel_rfl) (by kernel_rfl) (fun _ _ _ h => h) (by kernel_rfl) ?_ (by assumption) ?_
 rotate_left
 · intro wz hSw; (try dsimp only at hSw); go_simp; try with_reducible rfl
 simp only [Act.put, lS, lZ, lC]
 refine wpAnyZ_ready (rs := [1]) (by kernel_rfl) (by simp) (AllReadyZ.cons rfl (fun K hK => ?_) AllReadyZ.nil)
 go_simp
 go_at_call 41
 refine (RI.out _).mono ?_
 rintro e w1 ⟨rfl, hb1⟩
 have hb := hb.trans (hb1.mono hb.size)
 refine hK.out _ _ (HS.out _ hb) (fun hHeld => ?_)
 clear hK K
 try simp only [Act.put, lS, lZ, lC]
 refine takeZ_yes (i := 2) (v := ?_) rfl (by kernel_rfl) (by kernel_rfl) (by kernel_rfl) (by kernel_rfl) (fun _ _ _ h => h) (by kernel_rfl) ?_ (by assumption) ?_
 rotate_left
 · intro wz hSw; (try dsimp only at hSw); go_simp; try with_reducible rfl
 simp only [Act.put, lS, lZ, lC]
 refine takeZ_yes (i := 3) (v := ?_) rfl (by kernel_rfl) (by kernel_rfl) (by kernel_rfl) (by kernel_rfl) (fun _ _ _ h => h) (by kernel_rfl) ?_ (by assumption) ?_
 rotate_left
 · intro wz hSw; (try dsimp only at hSw); go_simp; try with_reducible rfl
 simp only [Act.put, lS, lZ, lC]
 refine takeZ_yes (i := 4) (v := ?_) rfl (by kernel_rfl) (by kernel_rfl) (by kernel_rfl) (by kernel_rfl) (fun _ _ _ h => h) (by kernel_rfl) ?_ (by assumption) ?_
 rotate_left
 · intro wz hSw; (try dsimp only at hSw); go_simp; try with_reducible rfl
 simp only [Act.put, lS, lZ, lC]
 refine takeZ_yes (i := 5) (v := ?_) rfl (by kernel_rfl) (by kernel_rfl) (by kernel_rfl) (by kernel_rfl) (fun _ _ _ h => h) (by kernel_rfl) ?_ (by assumption) ?_
 rotate_left
 · intro wz hSw; (try dsimp only at hSw); go_simp; try with_reducible rfl
 simp only [Act.put, lS, lZ, lC]
 refine wpAnyZ_ready (rs := [6]) (by kernel_rfl) (by simp) (AllReadyZ.cons rfl (fun K hK => ?_) AllReadyZ.nil)
 go_simp
 go_at_call 33
 refine (OB.out _).mono ?_
 rintro e w2 ⟨rfl, hb2⟩
 have hb := hb.trans (hb2.mono hb.size)
 refine hK.out _ _ (HS.out _ hb) (fun hHeld => ?_)
 clear hK K
 try simp only [Act.put, lS, lZ, lC]
 refine takeZ_yes (i := 7) (v := ?_) rfl (by kernel_rfl) (by kernel_rfl) (by kernel_rfl) (by kernel_rfl) (fun _ _ _ h => h) (by kernel_rfl) ?_ (by assumption) ?_
 rotate_left
 · intro wz hSw; (try dsimp only at hSw); go_simp; try with_reducible rfl
 simp only [Act.put, lS, lZ, lC]
 refine takeZ_yes (i := 8) (v := ?_) rfl (by kernel_rfl) (by kernel_rfl) (by kernel_rfl) (by kernel_rfl) (fun _ _ _ h => h) (by kernel_rfl) ?_ (by assumption) ?_
 rotate_left
 · intro wz hSw; (try dsimp only at hSw); go_simp; try with_reducible rfl
 simp only [Act.put, lS, lZ, lC]
 refine takeZ_yes (i := 9) (v := ?_) rfl (by kernel_rfl) (by kernel_rfl) (by kernel_rfl) (by kernel_rfl) (fun _ _ _ h => h) (by kernel_rfl) ?_ (by assumption) ?_
 rotate_left
 · intro wz hSw; (try dsimp only at hSw); go_simp; try with_reducible rfl
 simp only [Act.put, lS, lZ, lC]
 refine takeZ_yes (i := 10) (v := ?_) rfl (by kernel_rfl) (by kernel_rfl) (by kernel_rfl) (by kernel_rfl) (fun _ _ _ h => h) (by kernel_rfl) ?_ (by assumption) ?_
 rotate_left
 · intro wz hSw; (try dsimp only at hSw); go_simp; try with_reducible rfl
 simp only [Act.put, lS, lZ, lC]
 refine takeZ_yes (i := 11) (v := ?_) rfl (by kernel_rfl) (by kernel_rfl) (by kernel_rfl) (by kernel_rfl) (fun _ _ _ h => h) (by kernel_rfl) ?_ (by assumption) ?_
 rotate_left
 · intro wz hSw; (try dsimp only at hSw); go_simp; try with_reducible rfl
 simp only [Act.put, lS, lZ, lC]
 refine takeZ_yes (i := 13) (v := ?_) rfl (by kernel_rfl) (by kernel_rfl) (by kernel_rfl) (by kernel_rfl) (fun _ _ _ h => h) (by kernel_rfl) ?_ (by assumption) ?_
 rotate_left
 · intro wz hSw; (try dsimp only at hSw); go_simp; try with_reducible rfl
 simp only [Act.put, lS, lZ, lC]
 refine wpAnyZ_ready (rs := [12]) (by kernel_rfl) (by simp) (AllReadyZ.cons rfl (fun K hK => ?_) AllReadyZ.nil)
 go_simp
 go_at_call 33
 refine (OB.out _).mono ?_
 rintro e w3 ⟨rfl, hb3⟩
 have hb := hb.trans (hb3.mono hb.size)
 refine hK.out _ _ (HS.out _ hb) (fun hHeld => ?_)
 clear hK K
 try simp only [Act.put, lS, lZ, lC]
 refine wpAnyZ_ready (rs := [14]) (by kernel_rfl) (by simp) (AllReadyZ.cons rfl (fun K hK => ?_) AllReadyZ.nil)
 go_simp
 go_at_call 50
 refine (WH.out _ (HB0.out.trans (hb.mono HB0.out.size))).mono ?_
 rintro e w4 ⟨rfl, hb4⟩
 have hb := hb.trans (hb4.mono hb.size)
 refine hK.out _ _ (HS.out _ hb) (fun hHeld => ?_)
 clear hK K
 try simp only [Act.put, lS, lZ, lC]
 refine takeZ_yes (i := 15) (v := ?_) rfl (by kernel_rfl) (by kernel_rfl) (by kernel_rfl) (by kernel_rfl) (fun _ _ _ h => h) (by kernel_rfl) ?_ (by assumption) ?_
 rotate_left
 · intro wz hSw; (try dsimp only at hSw); go_simp; try with_reducible rfl
 simp only [Act.put, lS, lZ, lC]
 refine wpAnyZ_ready (rs := [16]) (by kernel_rfl) (by simp) (AllReadyZ.last rfl (fun K hK => ?_))
 go_simp
 refine hK.out _ _ ?_
 clear hK K
 refine wpAnyZ_done (by kernel_rfl) ?_ _
 dsimp only [OnNormal, Exit.then]
 clear hHeld
 obtain ⟨y0, y1, y2, y3, y4, y5⟩ := HS.out _ hb
 gi_wp2_with (first
   | (refine ⟨trivial, ?_⟩; gi_at_call 49; refine (callsIn_wide.2 (CL.out _ (HB0.out.trans (hb.mono HB0.out.size)))).mono ?_; rintro e w5 ⟨gC, cC, cur, rfl, hgC, hgl, hcl, hct, hTc2, hcm, hb5⟩; have hb5' := hb.trans (hb5.mono hb.size); obtain ⟨W6, hW6, X6⟩ : ∃ W6, (w5.alloc (.cells #[.slice (some ⟨gC, 0, none⟩) T cC] 24)).alloc (.cells #[.slice none 0 0] 48) = W6 /\ Hid (TwoBox w5 W6 gC T cC) := ⟨_, rfl, Lib.hid (twoBox _ _ _ _)⟩; obtain ⟨z0, z1, z2, z3, z4, z5⟩ := HS.out _ (hb5'.trans (X6.out.below.mono hb5'.size)); clear y0 y1 y2 y3 y4 y5)
   | (refine ⟨trivial, ?_⟩; gi_at_call 51; refine (callsIn_wide.2 (WD.out _)).mono ?_; rintro e w8 ⟨rfl, hb8, hs8, hwc⟩))
 have hs6 := X6.out.size
 have hs5 := hb5.size
 have hs5w := hb5'.size
 have hs0 := HB0.out.size
 have hs8' := hb8.size
 have hb6 : Below W0.heap.size W0 W6 := hb5'.trans (X6.out.below.mono hb5'.size)
 have hb8' : Below W0.heap.size W0 w8 := hb6.trans (hb8.mono hb6.size)
 have hbw8 : Below w.heap.size w w8 := HB0.out.trans (hb8'.mono hs0)
 have hgC8 : Blk w8 gC 5 cur.toArray := ((hgC.below X6.out.below hgC.lt)).below hb8 (by have := hgC.lt; omega)
 have hbc8 : Blk w8 w5.heap.size 24 #[.slice (some ⟨gC, 0, none⟩) T cC] := X6.out.bc.below hb8 X6.out.bc.lt
 have hbt8 : Boxed w8 (w5.heap.size + 1) 48 (.slice none 0 0) := Blk.below (t := 48) (cs := #[.slice none 0 0]) X6.out.bt hb8 X6.out.bt.lt
 obtain ⟨hh8, ht8⟩ := HC.out _ hb8'
 have hgl5 := hgC.lt
 have hgw : w.heap.size + 2 <= gC := by
   have := HB0.out.size
   have h1 : w.heap.size + 1 < W0.heap.size := (HC.out _ (Below.refl _ _)).2.lt
   have h2 := hb.size
   omega
 obtain ⟨bt, hbt⟩ : ∃ bt, w5.heap.size + 1 = bt := ⟨_, rfl⟩
 obtain ⟨g8, hg8⟩ : ∃ g8, W6.heap.size = g8 := ⟨_, rfl⟩
 have hseq := WF.out (fun k => fpR bt (.slice none 0 0) k ∨ k = gC) g8 w8 hbw8 (fun k hk => by
   rcases hk with (rfl | hk) | rfl
   · omega
   · cases hk
   · omega) (by rw [<- hg8]; exact hwc) ⟨fun e => by
   rcases e with (e | e) | e
   · omega
   · cases e
   · omega, fun e => by
   rcases e with (e | e) | e
   · omega
   · cases e
   · omega, fun e => by
   rcases e with (e | e) | e
   · omega
   · cases e
   · omega⟩
 rw [hbt] at hbt8
 clear hwc z0 z1 z2 z3 z4 z5 hgC hb1 hb2 hb3 hb4 hW6 WF
 rw [hbt, hg8]
 refine wp_range_F (F := Fence.wide) (n := 10) rfl (by omega) (gf := 97) (lb := wcB g8) rfl trivial (enters_of Tryz.func97 (by kernel_rfl) rfl) hseq
     (fun k hk => by
       rcases hk with (rfl | hk) | rfl
       · omega
       · cases hk
       · omega)
     (fun fp pre x => (fun _ W W' row hs hg hr => hs)) (fun _ => rfl)
     (fun fq pre W => CuI w gC w5.heap.size bt T cC (zs.take T) #[.int .u64 i, .int .u64 k, .int .i64 d, .int .i64 f, .int .u64 m] T fq pre W)
     (fun c pre W => False)
     (fun fq => cuI_own _ _ _ _ _ _ _ _ _ _ (by omega) (by omega) fq)
     (fun c => own_never)
     ⟨_, cur, rfl, hgC8, hcl, hct, hbt8, World.ownsRow_nil _ _ _ _, hbc8, hh8, ht8, hbw8⟩
     (fun x a' W => a' = { tmps := #[hdV i k d f m, .slice A n c, .int .i64 T, .pointer (some ⟨w.heap.size, 0, none⟩), undef, .pointer (some ⟨w.heap.size + 1, 0, none⟩), .slice none 0 0, .slice none 0 0, .bool false, .pointer (some ⟨w5.heap.size, 0, none⟩), .pointer (some ⟨bt, 0, none⟩), .int .i64 x, undef, undef,
       hdV i k d f m, .bool true, .bool false, .bool false, .int .i64 T, hdV i k d f m, .int .i64 (newK d f : Nat), .bool false, .bool false, .bool false, .slice A n c, hdV i k d f m, .int .i64 (newK d f : Nat), .int .i64 T, .bool true, .bool false, .bool false, .slice A n c, .int .i64 T, .slice A T c, .slice (some ⟨gC, 0, none⟩) T cC, hdV i k d f m, .slice A n c, .int .i64 T, wcV g8, .int .i64 x,
       undef, undef, undef, undef, undef, undef, undef, undef, undef, undef, undef, undef, undef, undef, undef, undef, undef, undef, undef, undef, undef], defers := [] })
     (fun x a' _ A C row hs hg hr => hs)
     ?assign ?body ?done ?stop
 case assign =>
   intro l2 x W3 K hW hK
   dsimp only [placeI]
   gi_wp2
   exact hK _ _ (Below.refl _ _) rfl
 case body =>
   rintro l2 fp fq pre x W3 ⟨v, cur', rfl, hg, hcl', hct', hv, hrow, hbc, hh, ht, hbW⟩ hok hsub hlen ⟨rest, hrest⟩ - a' rfl
   obtain ⟨qn, rfl, hq8⟩ : ∃ qn : Nat, x = qn /\ qn + 8 <= T := by
     have h1 : x ∈ nI (wordsS (newK d f) L) := by rw [<- hrest]; simp
     obtain ⟨y, hy, rfl⟩ := List.mem_map.1 h1
     exact ⟨y, rfl, HWL.out y hy⟩
   obtain ⟨k1, k2, k3, k4⟩ := HOK.out pre _ hrest
   have hown0 : W3.ownsRow 0 5 1 (.slice (some ⟨gC, 0, none⟩) T cC) T (cellsOf .u8 (cuts T (zs.take T) pre).1) := row_shut (Nat.zero_le _) hg hTc2 hcm (by omega) (by rw [Nat.mul_one]; exact hct') (by simp [cellsOf, k1])
   have hcm2 : cC <= 9223372036854775807 := by unfold maxLen at hcm; omega
   have GE := Lib.hid (get_any (some ⟨gC, 0, none⟩) T cC (qn : Int) 8 (cuts T (zs.take T) pre).1 W3 (Reads.of_own hown0) k2 hTc2 hcm2 (by omega) (by omega) (by omega) (by omega))
   obtain ⟨u, hu⟩ : ∃ u, gnum (cuts T (zs.take T) pre).1 (qn : Nat) 8 = u := ⟨_, rfl⟩
   rw [hu] at GE
   have hTw : IntKind.u64.wrap (T : Int) = T := by rw [IntKind.wrap_u64]; omega
   have cb := hbc.cell 0
   have ct := ht.cell 0
   have cv := hv.cell
   obtain ⟨A2, c2, rfl, -, -⟩ := own_form hrow
   by_cases hge : (T : Int) <= u
   · have hd : decide ((T : Int) <= u) = true := decide_eq_true hge
     have HY := Lib.hid (cuts_yes (C0 := zs.take T) (pre := pre) (q := qn) (T := T) (by rw [hu]; exact hge))
     have X3 := Lib.hid (And.intro hg (And.intro hct' (And.intro hrow hown0)))
     have hvl : bt < W3.heap.size := hv.lt
     obtain ⟨i0, hi, hz0, hz1, hz2⟩ := info_parts intInfo17
     have hlc : (cuts T (zs.take T) pre).2.length <= 1099511627776 := by
       have h1 := congrArg List.length hrest
       rw [List.length_append, nI_len] at h1
       have := HML.out.1
       have := HML.out.2
       omega
     have s1 := si1 hlc
     have s2 := si2 hlc
     have hqc : (qn : Int) + 8 <= (cC : Int) := by omega
     have hq9 : qn + 8 <= cur'.length := by omega
     have gne : gC ≠ bt := by omega
     have HRW := Lib.hid (And.intro hge hu)
     clear hu hge hg hct' hrow hown0 k1 k2 k3 k4
     gi_wp2_with (first
       | (refine ⟨trivial, ?_⟩; gi_at_call 52; refine (CallsIn.inRound l2 (callsIn_wide.2 GE.out)).mono ?_; rintro e w4 ⟨rfl, rfl⟩)
       | (show wpListIn _ _ _ _ _ ({ dst := none, op := Op.call { callee := Callee.builtin Builtin.clear, args := _, argTypes := _ }, type := _, pos := _, after := _, guard := none } :: _) _ _; go_loud (refine wpListIn_clear _ rfl (.tmp 54) 24 rfl rfl 5 (.int .u8 0) Tryz.underlying24 zero_u8 rfl rfl gC qn (qn + 8 - qn) (cC - qn) rfl cur' 5 X3.out.1 (by omega) (by omega) ?_; intro w5' hbk hc5'; have e8 : qn + 8 - qn = 8 := (by omega); rw [e8] at hbk; clear e8; have hv5 : Boxed w5' bt 48 (.slice A2 (cuts T (zs.take T) pre).2.length c2) := Blk.chg (t := 48) (cs := #[.slice A2 (cuts T (zs.take T) pre).2.length c2]) hv hc5' (fun e => gne e.symm); have cv5 := hv5.cell))
       | (gi_at_builtin; go_loud (refine wpListIn_append_at _ rfl _ _ 48 rfl (bt + 1) 3 i0 (.int .i64 0) 1 8 Tryz.underlying48 hi hz0 hz1 hz2 rfl (by decide) _ _ _ rfl ((own_chg X3.out.2.2.1 hc5' (fun j e => (by have := (X3.out.2.2.1.lt _ e).1; omega))).alloc _) _ _ 1 1 [.int .i64 (qn : Int)] rfl (new1At rfl _ _) (intOne _) s1 s2 (by have := hv5.lt; simp; omega) ?_; intro v' w6' hown' hgrow hat; obtain ⟨g', cap', rfl⟩ := ownsRow_succ hown'; obtain ⟨hv1, hv2, hr2, hg2⟩ := appendedF hv5 (by decide) (own_chg X3.out.2.2.1 hc5' (fun j e => (by have := (X3.out.2.2.1.lt _ e).1; omega))) hown' hgrow hat; have hc1 := hv1.cell; have hf1 := hv1.frozen)))
     obtain ⟨hg, hct', hrow, -⟩ := X3.out
     have hrl : ∀ q, (Value.slice A2 (cuts T (zs.take T) pre).2.length c2).ownBlock = some q -> bt + 1 <= q := fun q e => (hrow.lt q e).1
     have hgb : gC < W3.heap.size := hg.lt
     have G1 : GrowF (fun k => fpR bt (.slice A2 (cuts T (zs.take T) pre).2.length c2) k ∨ k = gC) W3 (fun k => fpR bt (.slice A2 (cuts T (zs.take T) pre).2.length c2) k ∨ k = gC) w5' := ⟨hc5'.mono (fun k _ e => .inr e), fun k hk => ⟨.inl hk, Nat.lt_of_lt_of_le (hok k hk) hc5'.size⟩⟩
     have hs5' := hc5'.size
     have G := G1.trans (hg2.plus (b := gC) (by omega))
     have hnf : ∀ q, q < bt -> q ≠ gC -> ¬ (fpR bt (.slice A2 (cuts T (zs.take T) pre).2.length c2) q ∨ q = gC) := fun q h1 h2 e => by
       rcases e with (e | e) | e
       · omega
       · have := hrl q e; omega
       · exact h2 e
     refine ⟨_, ⟨_, splice cur' qn (List.replicate 8 (.int .u8 0)), rfl, Blk.chg hbk.out hg2.1 (fun e => by
       rcases e with e | e
       · omega
       · have := hrl _ e; omega), by rw [splice_lenV _ _ _ (by rw [List.length_replicate]; omega)]; exact hcl', ?_, hv2, ?_, hbc.chg G.1 (hnf _ (by omega) (by omega)), hh.chg G.1 (hnf _ (by omega) (by omega)), ht.chg G.1 (hnf _ (by omega) (by omega)), hbW.trans (G.1.below hbW.size (fun q _ e => by
       rcases e with (e | e) | e
       · omega
       · have := hrl q e; omega
       · omega))⟩, G⟩
     · rw [HY.out, take_splice hct' (by omega) (by rw [List.length_replicate]; omega), <- cells_zero, splice_cells]
     · rw [HY.out]
       show World.ownsRow _ _ _ _ _ ((cuts T (zs.take T) pre).2 ++ [qn]).length (cellsOf .i64 (nI ((cuts T (zs.take T) pre).2 ++ [qn])))
       rw [List.length_append, nI_app, cellsOf_append]
       exact hr2
   · have hd : decide ((T : Int) <= u) = false := decide_eq_false hge
     have HN := Lib.hid (cuts_no (C0 := zs.take T) (pre := pre) (q := qn) (T := T) (by rw [hu]; exact hge))
     have X3 := Lib.hid (And.intro hg (And.intro hct' (And.intro hrow hown0)))
     clear hu hge hg hct' hrow hown0 k1 k2 k3 k4
     gi_wp2_with (refine ⟨trivial, ?_⟩; gi_at_call 52; refine (CallsIn.inRound l2 (callsIn_wide.2 GE.out)).mono ?_; rintro e w4 ⟨rfl, rfl⟩)
     obtain ⟨hg, hct', hrow, -⟩ := X3.out
     refine ⟨_, ⟨_, cur', rfl, hg, hcl', ?_, hv, ?_, hbc, hh, ht, hbW⟩, GrowF.refl hok⟩
     · rw [HN.out]; exact hct'
     · rw [HN.out]; exact hrow
 case done =>
   rintro D fq xs W hD hxs ⟨v, cur', rfl, hg, hcl', hct', hv, hrow, hbc, hh, ht, hbW⟩ hKd
   have cv := hv.cell
   have cb := hbc.cell 0
   gi_wp2
   obtain ⟨A2, c2, rfl, -, -⟩ := own_form hrow
   refine region_wide (S := fun w' => w'.cell? ⟨w5.heap.size, 0, none⟩ = some (.slice (some ⟨gC, 0, none⟩) T cC) /\ w'.cell? ⟨bt, 0, none⟩ = some (.slice A2 (cuts T (zs.take T) xs).2.length c2)) 4 (by kernel_rfl) (by kernel_rfl) ⟨cb, cv⟩ (fun hHeld => ?_)
   refine takeZ_yes (i := 0) (v := ?_) rfl (by kernel_rfl) (by kernel_rfl) (by kernel_rfl) (by kernel_rfl) (fun _ _ _ h => h) (by kernel_rfl) ?_ (by assumption) ?_
   rotate_left
   · intro wz hSw; (try dsimp only at hSw); go_simp; try with_reducible rfl
   simp only [Act.put, lS, lZ, lC]
   refine takeZ_yes (i := 1) (v := ?_) rfl (by kernel_rfl) (by kernel_rfl) (by kernel_rfl) (by kernel_rfl) (fun _ _ _ h => h) (by kernel_rfl) ?_ (by assumption) ?_
   rotate_left
   · intro wz hSw; (try dsimp only at hSw); go_simp; try with_reducible rfl
   simp only [Act.put, lS, lZ, lC]
   refine takeZ_yes (i := 2) (v := ?_) rfl (by kernel_rfl) (by kernel_rfl) (by kernel_rfl) (by kernel_rfl) (fun _ _ _ h => h) (by kernel_rfl) ?_ (by assumption) ?_
   rotate_left
   · intro wz hSw; (try dsimp only at hSw); go_simp; try with_reducible rfl
   simp only [Act.put, lS, lZ, lC]
   refine takeZ_yes (i := 3) (v := ?_) rfl (by kernel_rfl) (by kernel_rfl) (by kernel_rfl) (by kernel_rfl) (fun _ _ _ h => h) (by kernel_rfl) ?_ (by assumption) ?_
   rotate_left
   · intro wz hSw; (try dsimp only at hSw); go_simp; try with_reducible rfl
   simp only [Act.put, lS, lZ, lC]
   refine wpAnyZ_ready (rs := [4]) (by kernel_rfl) (by simp) (AllReadyZ.last rfl (fun K hK => ?_))
   go_simp
   refine hK.out _ _ ?_
   clear hK K
   refine wpAnyZ_done (by kernel_rfl) ?_ _
   dsimp only [OnNormal, Exit.then]
   gi_wp2
   refine ⟨by simp, .inl ⟨_, _, rfl, run_takeDeferred (w := W.drew) hKd, ?_⟩⟩
   refine ⟨_, results_tmp3 rfl _ _ _, some ⟨gC, 0, none⟩, cC, .slice A2 (cuts T (zs.take T) xs).2.length c2, rfl, ?_, ?_, hTc2, by unfold maxLen at hcm; omega, below_put1 (below_drewn hbW 1) (by omega) _⟩
   · have hxs' : xs = nI (wordsS (newK d f) L) := hxs
     have h1 : W.ownsRow w.heap.size 5 1 (.slice (some ⟨gC, 0, none⟩) T cC) T (cellsOf .u8 (cuts T (zs.take T) xs).1) := row_shut (by omega) hg hTc2 hcm (by omega) (by rw [Nat.mul_one]; exact hct') (by obtain ⟨k1, -⟩ := HOK.out xs [] (by rw [List.append_nil]; exact hxs'); simp [cellsOf, k1])
     have h2 := ownsRow_putObj (W := W.drew) h1 (.deferred none) hKd rfl
     rw [hxs', cuts_all] at h2
     exact h2
   · have hxs' : xs = nI (wordsS (newK d f) L) := hxs
     have h2 := own_base (ownsRow_putObj (W := W.drew) hrow (.deferred none) hKd rfl) (show w.heap.size <= bt + 1 by omega)
     rw [hxs', cuts_all] at h2 ⊢
     exact h2
 case stop =>
   rintro D cc pre W hD hp hf hK
   exact hf.elim
end Go.Proofs.YtgcmbgniaffdlaaGreat
