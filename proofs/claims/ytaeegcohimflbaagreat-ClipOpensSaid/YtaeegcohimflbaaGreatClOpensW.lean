import Derived.Test.YtaeegcohimflbaaGreatCaE
import Derived.Test.YtaeegcohimflbaaGreatClOpR
set_option linter.unusedVariables false
set_option maxRecDepth 100000
set_option linter.unusedSimpArgs false
namespace Go.Proofs.YtaeegcohimflbaaGreat
open Go.RowKit Go.Shelf
theorem file_or {zs : List Int} {n : Nat} {i k d f m a t cn fi la st : Int} (H : OpHd zs i k d f m a t cn fi la st) :
 (∃ (T : Nat) (L : List SR), isH zs = true /\ chB zs = true /\ t = T /\ T <= n /\ newK d f <= T /\ scanAt (zs.take T) (newK d f : Nat) L /\ lastE (newK d f : Nat) L = T) ∨
 (isH zs = false ∨ chB zs = false ∨ (n : Int) < t ∨ ∃ (T : Nat) (L : List SR), isH zs = true /\ t = T /\ T <= n /\ scanAt (zs.take T) (newK d f : Nat) L /\ (((T : Nat) : Int) < ((newK d f : Nat) : Int) ∨ wholeB n (newK d f : Nat) T L = false)) := by
 have tb := H.tb
 cases h1 : isH zs with
 | false => exact .inr (.inl rfl)
 | true =>
   cases h2 : chB zs with
   | false => exact .inr (.inr (.inl rfl))
   | true =>
     by_cases h3 : (n : Int) < t
     · exact .inr (.inr (.inr (.inl h3)))
     · obtain ⟨T, rfl⟩ : ∃ T : Nat, t = T := ⟨t.toNat, by omega⟩
       obtain ⟨L, hL⟩ := scan_ex (zs.take T) ((newK d f : Nat) : Int)
       by_cases h4 : newK d f <= T /\ wholeB n (newK d f : Nat) T L = true
       · have h5 := h4.2
         unfold wholeB at h5
         obtain ⟨-, -, h6⟩ := of_decide_eq_true h5
         exact .inl ⟨T, L, rfl, rfl, rfl, by omega, h4.1, hL, h6⟩
       · refine .inr (.inr (.inr (.inr ⟨T, L, rfl, rfl, by omega, hL, ?_⟩)))
         by_cases h7 : newK d f <= T
         · right
           cases h8 : wholeB n (newK d f : Nat) T L with
           | false => rfl
           | true => exact absurd ⟨h7, h8⟩ h4
         · left; omega
structure OFour (W : World) (g4 g8 g9 g12 : Nat) (i k d f m a t cn fi la st : Int) : Prop where
 s4 : Blk W g4 41 (sC a t cn fi la st)
 h8 : Blk W g8 27 #[.int .u64 i, .int .u64 k, .int .i64 d, .int .i64 f, .int .u64 m]
 s9 : Blk W g9 47 (sC a t cn fi la st)
 h12 : Blk W g12 26 #[.int .u64 i, .int .u64 k, .int .i64 d, .int .i64 f, .int .u64 m]
theorem OFour.bel {W W' : World} {g4 g8 g9 g12 : Nat} {i k d f m a t cn fi la st : Int} (h : OFour W g4 g8 g9 g12 i k d f m a t cn fi la st) (hb : Below W.heap.size W W') : OFour W' g4 g8 g9 g12 i k d f m a t cn fi la st :=
 ⟨h.s4.below hb h.s4.lt, h.h8.below hb h.h8.lt, h.s9.below hb h.s9.lt, h.h12.below hb h.h12.lt⟩
theorem OFour.cells {W : World} {g4 g8 g9 g12 : Nat} {i k d f m a t cn fi la st : Int} (h : OFour W g4 g8 g9 g12 i k d f m a t cn fi la st) :
 (W.cell? ⟨g4, 0, none⟩ = some (.int .u64 a) /\ W.cell? ⟨g4, 1, none⟩ = some (.int .u64 t) /\ W.cell? ⟨g4, 2, none⟩ = some (.int .u64 cn) /\ W.cell? ⟨g4, 3, none⟩ = some (.int .u64 fi) /\ W.cell? ⟨g4, 4, none⟩ = some (.int .u64 la) /\ W.cell? ⟨g4, 5, none⟩ = some (.int .u64 st)) /\ (W.cell? ⟨g8, 0, none⟩ = some (.int .u64 i) /\ W.cell? ⟨g8, 1, none⟩ = some (.int .u64 k) /\ W.cell? ⟨g8, 2, none⟩ = some (.int .i64 d) /\ W.cell? ⟨g8, 3, none⟩ = some (.int .i64 f) /\ W.cell? ⟨g8, 4, none⟩ = some (.int .u64 m)) /\ (W.cell? ⟨g9, 0, none⟩ = some (.int .u64 a) /\ W.cell? ⟨g9, 1, none⟩ = some (.int .u64 t) /\ W.cell? ⟨g9, 2, none⟩ = some (.int .u64 cn) /\ W.cell? ⟨g9, 3, none⟩ = some (.int .u64 fi) /\ W.cell? ⟨g9, 4, none⟩ = some (.int .u64 la) /\ W.cell? ⟨g9, 5, none⟩ = some (.int .u64 st)) /\ (W.cell? ⟨g12, 0, none⟩ = some (.int .u64 i) /\ W.cell? ⟨g12, 1, none⟩ = some (.int .u64 k) /\ W.cell? ⟨g12, 2, none⟩ = some (.int .i64 d) /\ W.cell? ⟨g12, 3, none⟩ = some (.int .i64 f) /\ W.cell? ⟨g12, 4, none⟩ = some (.int .u64 m)) :=
 ⟨slAt_blk h.s4, hdAt_blk h.h8, slAt_blk h.s9, hdAt_blk h.h12⟩
set_option maxHeartbeats 8000000 in
theorem opens_law (A : Option Addr) (n c : Nat) (zs : List Int) (w : World) (hin : InInts w .u8 A n c zs) :
 Calls Tryz.prog 4 #[.slice A n c] w fun e w' => e = .returned (.bool true) /\ Below w.heap.size w w' := by
 have AW := Lib.hid clawake_any
 have hz : AreB zs := fun z hz => wf_u8_bd (hin.wf z hz)
 have hl := hin.le
 have hcap := hin.cap
 have RD := Lib.hid (fun wx (hx : Below w.heap.size w wx) => hin.reads.below hx)
 have hb : Below w.heap.size w w := Below.refl _ _
 by_cases hq : 4000 < n
 · have t1 : (4000 : Int) < (n : Int) := by omega
   go_enter Tryz.func4, Tryz.ntmps4
   go_wp2_with (go_at_call 6; refine (AW.out _).mono ?_; rintro e wx ⟨rfl, hbx⟩; have hb := hb.trans (hbx.mono hb.size); clear hbx)
   go_ret
   exact ⟨rfl, hb⟩
 have t1 : ¬ (4000 : Int) < (n : Int) := by omega
 have t2 : (n : Int) <= 4000 := by omega
 have hB := hin.reads
 obtain ⟨i, k, d, f, m, a, t, cn, fi, la, st, H⟩ := ophd zs hz
 rcases file_or (n := n) H with ⟨T, L, h1, h2, hT, hTn, hnT, hL, hE⟩ | hno
 · have OK := Lib.hid (fun wx (hx : Below w.heap.size w wx) (G : Nat) (ht : IsTable wx G) => open_ok (G := G) (lm := 1048576) (hin.reads.below hx) hx.size hz hl hcap (by omega) ht H h1 h2 hT hTn hnT hL hE)
   have RK := Lib.hid (fun wx (hx : Below w.heap.size w wx) => ropen_ok (hin.reads.below hx) hx.size hz hl hcap (by omega) H h1 h2 hT hTn hnT hL hE)
   subst hT
   have hlz : zs.length = n := hin.reads.len
   have hR := H.right h1
   have hnk := newK_eq hR
   have hwl : ∀ q ∈ wordsS (newK d f) L, q + 8 <= (zs.take T).length := fun q hq => (wordsS_fit (by omega) (by omega) (by rw [List.length_take]; omega) hL q hq).2.1
   obtain ⟨o1, o2, o3, -⟩ := cutF_ok (T : Nat) (wordsS (newK d f) L) (zs.take T, []) (hz.take T) hwl
   have hml := words_most hR hL
   have hzt : (zs.take T).length = T := by rw [List.length_take]; omega
   obtain ⟨xz, hx1⟩ : ∃ x, (cutW d f L zs T).1 = x := ⟨_, rfl⟩
   obtain ⟨cw, hx2⟩ : ∃ x, (cutW d f L zs T).2 = x := ⟨_, rfl⟩
   have hb1 : AreB xz := by rw [<- hx1]; exact o2
   have hxl : xz.length = T := by
     rw [<- hx1]
     have h9 : (cutW d f L zs T).1.length = (zs.take T).length := o1
     rw [h9, List.length_take]; omega
   have hl2 : cw.length <= 1000000 := by
     rw [<- hx2]
     have h9 : (cutW d f L zs T).2.length <= 0 + (wordsS (newK d f) L).length := o3
     omega
   rw [hx1, hx2] at OK RK
   clear hzt hx1 hx2 o1 o2 o3 hml hwl hnk hR h1 h2 hnT hL hE H hin hB RD hz hlz
   go_enter Tryz.func4, Tryz.ntmps4
   go_upto_region 9 with (first
     | (go_at_call 6; refine (AW.out _).mono ?_; rintro e wx ⟨rfl, hbx⟩; have hb := hb.trans (hbx.mono hb.size); clear hbx)
     | (go_at_call 15; refine (crcMake_any _).mono ?_; rintro e w3 ⟨rfl, ht, hb3⟩; have HT := Lib.hid ht; have hb := hb.trans (hb3.mono hb.size); clear ht hb3)
     | (go_at_call 14; refine (OK.out _ hb _ HT.out).mono ?_; rintro e w4 ⟨p, v, bv, sv, rfl, hov, hix, hbx⟩; obtain ⟨Av, cv, rfl, -, -⟩ := own_form hov; have H4 := Lib.hid (And.intro hov hix); have hb := hb.trans (hbx.mono hb.size); clear hbx hov hix; have hb4 := Lib.hid hb; have hb := hb.alloc hb.size (.cells (sC a T cn fi la st) 41))
     | (go_at_call 16; refine (RK.out _ hb).mono ?_; rintro e w5 ⟨A1, c1, v, rfl, hox, hov, hc1, hc2, hbx⟩; obtain ⟨Au, cu, rfl, -, -⟩ := own_form hov; have H5 := Lib.hid (And.intro hox (And.intro hov (And.intro hc1 hc2))); clear hox hov hc1 hc2))
   have S4 := (((Blk.new w4 41 (sC a T cn fi la st)).below hbx (by simp)).alloc (.cells #[.int .u64 i, .int .u64 k, .int .i64 d, .int .i64 f, .int .u64 m] 27)).alloc (.cells (sC a T cn fi la st) 47)
   have S8 := (Blk.new w5 27 #[.int .u64 i, .int .u64 k, .int .i64 d, .int .i64 f, .int .u64 m]).alloc (.cells (sC a T cn fi la st) 47)
   have S9 := Blk.new (w5.alloc (.cells #[.int .u64 i, .int .u64 k, .int .i64 d, .int .i64 f, .int .u64 m] 27)) 47 (sC a T cn fi la st)
   rw [World.size_alloc] at S9
   have hb45 : Below w4.heap.size w4 w5 := (boxed w4 (.cells (sC a T cn fi la st) 41)).trans (hbx.mono (boxed w4 (.cells (sC a T cn fi la st) 41)).size)
   have hb5 : Below w5.heap.size w5 ((w5.alloc (.cells #[.int .u64 i, .int .u64 k, .int .i64 d, .int .i64 f, .int .u64 m] 27)).alloc (.cells (sC a T cn fi la st) 47)) := (boxed w5 _).alloc (boxed w5 _).size _
   unfold sC at S4 S8 S9 hb5
   obtain ⟨W, hW⟩ : ∃ W, ((w5.alloc (.cells #[.int .u64 i, .int .u64 k, .int .i64 d, .int .i64 f, .int .u64 m] 27)).alloc (.cells #[.int .u64 a, .int .u64 T, .int .u64 cn, .int .u64 fi, .int .u64 la, .int .u64 st] 47)) = W := ⟨_, rfl⟩
   rw [hW] at S4 S8 S9 hb5 ⊢
   clear hW
   have hb4W : Below w4.heap.size w4 W := hb45.trans (hb5.mono hb45.size)
   have HW := Lib.hid (hb4.out.trans (hb4W.mono hb4.out.size))
   have HIX := Lib.hid (H4.out.2.below hb4W)
   have R4 := Lib.hid ((Reads.of_own H4.out.1).below hb4W)
   have R5 := Lib.hid (And.intro ((Reads.of_own H5.out.1).below hb5) ((Reads.of_own H5.out.2.1).below hb5))
   have Q3 := Lib.hid (And.intro S4 (And.intro S8 S9))
   have HZ := Lib.hid (And.intro hb4W.size hb5.size)
   clear S4 S8 S9 hb45 hb5 hb4W hbx hb hb4 H4 H5 HT OK RK
   generalize w4.heap.size = g4 at *
   generalize w5.heap.size = g8 at *
   have HB1 := Lib.hid hb1
   clear hb1
   have hb : Below W.heap.size W W := Below.refl _ _
   go_wp2_with (first
     | (go_at_call 17; refine (ihead_any _ HIX.out).mono ?_; rintro e w6 ⟨rfl, hb6⟩; have hb := (hb.trans (hb6.mono hb.size)).alloc (by exact hb6.size) (.cells #[.int .u64 i, .int .u64 k, .int .i64 d, .int .i64 f, .int .u64 m] 26); have Q4 : Hid (OFour (w6.alloc (.cells #[.int .u64 i, .int .u64 k, .int .i64 d, .int .i64 f, .int .u64 m] 26)) g4 g8 (g8 + 1) w6.heap.size i k d f m a T cn fi la st) := Lib.hid ⟨(Q3.out.1.below hb6 Q3.out.1.lt).alloc _, (Q3.out.2.1.below hb6 Q3.out.2.1.lt).alloc _, (Q3.out.2.2.below hb6 Q3.out.2.2.lt).alloc _, Blk.new w6 _ _⟩; clear hb6)
     | (go_at_call 18; refine (ibytes_any _ (HIX.out.below hb) (by show xz.length <= _; omega)).mono ?_; rintro e w7 ⟨A7, N7, c7, rfl, hN7, ho7, hb7, hl7, hc7⟩; have hN : T = N7 := (hN7.trans hxl).symm; subst hN; have hb := hb.trans (hb7.mono hb.size); have Q5 := Lib.hid (Q4.out.bel hb7); have H7 := Lib.hid ho7; clear ho7 hb7 hl7 hc7 hN7)
     | (go_at_call 10; refine (same_yes _ _ _ _ _ _ xz xz _ (Reads.of_own H7.out) (R5.out.1.below (hb.mono HZ.out.2)) HB1.out (Lib.hid rfl)).mono ?_; rintro e w8 ⟨rfl, rfl⟩)
     | (go_at_call 11; refine (ints_yes _ _ _ _ _ _ (nI cw) _ (R4.out.below (hb.mono HZ.out.1)) (R5.out.2.below (hb.mono HZ.out.2)) (by omega)).mono ?_; rintro e w9 ⟨rfl, hb9⟩; have hb := hb.trans (hb9.mono hb.size); obtain ⟨⟨x0, x1, x2, x3, x4, x5⟩, ⟨y0, y1, y2, y3, y4⟩, ⟨u0, u1, u2, u3, u4, u5⟩, z0, z1, z2, z3, z4⟩ := (Q5.out.bel hb9).cells; clear hb9)
     | (go_at_call 6; refine (AW.out _).mono ?_; rintro e wx ⟨rfl, hbx⟩; have hb := hb.trans (hbx.mono hb.size); clear hbx))
   go_ret
   exact ⟨rfl, HW.out.trans (hb.mono HW.out.size)⟩
 · have OK := Lib.hid (fun wx (hx : Below w.heap.size w wx) (G : Nat) (ht : IsTable wx G) => open_bad (G := G) (lm := 1048576) (hin.reads.below hx) hx.size hz hl hcap (by omega) ht H hno)
   have RK := Lib.hid (fun wx (hx : Below w.heap.size w wx) => ropen_bad (hin.reads.below hx) hx.size hz hl hcap (by omega) H hno)
   clear hno H hin hB RD hz
   go_enter Tryz.func4, Tryz.ntmps4
   go_upto_region 8 with (first
     | (go_at_call 6; refine (AW.out _).mono ?_; rintro e wx ⟨rfl, hbx⟩; have hb := hb.trans (hbx.mono hb.size); clear hbx)
     | (go_at_call 15; refine (crcMake_any _).mono ?_; rintro e w3 ⟨rfl, ht, hb3⟩; have HT := Lib.hid ht; have hb := hb.trans (hb3.mono hb.size); clear ht hb3)
     | (go_at_call 14; refine (OK.out _ hb _ HT.out).mono ?_; rintro e w4 ⟨rfl, hbx⟩; have hb := hb.trans (hbx.mono hb.size); clear hbx; have hb4 := Lib.hid hb; have hb := hb.alloc hb.size (.cells sZC 41))
     | (go_at_call 16; refine (RK.out _ hb).mono ?_; rintro e w5 ⟨rfl, hbx⟩))
   have S4 := (((Blk.new w4 41 sZC).below hbx (by simp)).alloc (.cells hZC 27)).alloc (.cells sZC 47)
   have hb5 : Below w5.heap.size w5 ((w5.alloc (.cells hZC 27)).alloc (.cells sZC 47)) := (boxed w5 _).alloc (boxed w5 _).size _
   have hb := hb.trans (hbx.mono hb.size)
   have hb := hb.trans (hb5.mono hb.size)
   clear hb5 hbx hb4
   obtain ⟨W, hW⟩ : ∃ W, ((w5.alloc (.cells hZC 27)).alloc (.cells sZC 47)) = W := ⟨_, rfl⟩
   rw [hW] at S4 hb
   change Code.wp _ _ _ _ ((w5.alloc (.cells hZC 27)).alloc (.cells sZC 47))
   rw [hW]
   clear hW
   obtain ⟨x0, x1, x2, x3, x4, x5⟩ := slAt_blk S4
   go_wp2_with (go_at_call 6; refine (AW.out _).mono ?_; rintro e wy ⟨rfl, hby⟩; have hb := hb.trans (hby.mono hb.size); clear hby)
   go_ret
   exact ⟨rfl, hb⟩
end Go.Proofs.YtaeegcohimflbaaGreat
