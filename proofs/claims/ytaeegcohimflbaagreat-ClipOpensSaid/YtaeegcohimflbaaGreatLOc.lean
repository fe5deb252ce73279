import Derived.Test.YtaeegcohimflbaaGreatLOb
import Derived.Deep.Cut
set_option linter.unusedVariables false
set_option linter.unusedSimpArgs false
set_option maxRecDepth 100000
namespace Go.Proofs.YtaeegcohimflbaaGreat
open Go.RowKit
theorem rget_not {B : Nat} (A : Option Addr) (n c : Nat) (v : Int) (zs : List Int) (w : World) (hr : Reads w B 1 A n (cellsOf .u8 zs)) (hz : AreB zs) (hl : n <= c) (hcap : c <= 9223372036854775807) (h0 : -9223372036854775808 <= v) (h1 : v <= 9223372036854775807) (hn : v < 0 ∨ (n : Int) < v + 8) :
 Calls Tryz.prog 36 #[.slice A n c, .int .i64 v, .int .i64 8] w fun e w' => e = .returned (.tuple #[.int .u64 0, .bool false]) /\ w = w' := by
 have hlen := hr.len
 have h := rget_any A n c v 8 zs w hr hz hl hcap h0 h1 (by omega) (by omega)
 have hok : gok n v 8 = false := by rw [gok_isw]; simp [isw]; omega
 have hnum : gnum zs v 8 = 0 := by unfold gnum; rw [hlen, hok]; rfl
 rw [hok, hnum] at h
 exact h
set_option maxHeartbeats 1000000 in
theorem rodec_no1 {B : Nat} (A : Option Addr) (n c : Nat) (at_ : Int) (zs : List Int) (w : World) (hr : Reads w B 1 A n (cellsOf .u8 zs)) (hB : B <= w.heap.size) (hz : AreB zs) (hl : n <= c) (hcap : c <= 9223372036854775807) (hn : n <= 140737488355328) (h0 : -9223372036854775808 <= at_) (h1 : at_ <= 9223372036854775807)
 (hno : ∀ j k s, at_ = (j : Nat) -> DecAt zs j k s -> k < 1) :
 Calls Tryz.prog 66 #[.slice A n c, .int .i64 at_] w fun e w' => e = .returned (.tuple #[obZ, .int .i64 0, .bool false]) /\ Below w.heap.size w w' := by
 have hb1 : Below w.heap.size w (w.alloc (.cells #[.int .i64 0, .slice none 0 0, .slice none 0 0, .slice none 0 0] 83)) := (Below.refl _ _).alloc (Nat.le_refl _) _
 have hr1 : Reads (w.alloc (.cells #[.int .i64 0, .slice none 0 0, .slice none 0 0, .slice none 0 0] 83)) B 1 A n (cellsOf .u8 zs) := hr.keep fun p hp => hb1.cell (by omega)
 have hlen := hr.len
 clear hr
 by_cases hbig : 4611686018427387904 < at_
 · have G1 := Lib.hid (rget_not A n c at_ zs _ hr1 hz hl hcap h0 (by omega) (.inr (by omega)))
   obtain ⟨y, hy⟩ : ∃ y, IntKind.i64.wrap (at_ + 8) = y := ⟨_, rfl⟩
   have hyb : -9223372036854775808 <= y /\ y <= 9223372036854775807 := by rw [<- hy, IntKind.wrap_i64]; omega
   obtain ⟨u, b, G2⟩ : ∃ u b, Hid (Calls Tryz.prog 36 #[.slice A n c, .int .i64 y, .int .i64 8] (w.alloc (.cells #[.int .i64 0, .slice none 0 0, .slice none 0 0, .slice none 0 0] 83)) fun e w' => e = .returned (.tuple #[.int .u64 u, .bool b]) /\ (w.alloc (.cells #[.int .i64 0, .slice none 0 0, .slice none 0 0, .slice none 0 0] 83)) = w') := ⟨_, _, rget_any A n c y 8 zs _ hr1 hz hl hcap hyb.1 hyb.2 (by omega) (by omega)⟩
   clear hno hr1
   go_enter Tryz.func66, Tryz.ntmps66
   have m1 : True := trivial
   go_wp2_with (first
     | (go_at_call 36; clear m1; refine G1.out.mono ?_; rintro e w1 ⟨rfl, rfl⟩)
     | (go_at_call 36; refine G2.out.mono ?_; rintro e w1 ⟨rfl, rfl⟩))
   refine bodyPost_ret (results_cell3 rfl _ _ w.heap.size 83 _ (0, 0) _ rfl (Blk.new _ _ _) Tryz.underlying83 rfl (by kernel_rfl)) rfl ?_
   exact ⟨rfl, hb1⟩
 have hsm : at_ <= 4611686018427387904 := by omega
 clear hbig h1
 by_cases ha : at_ < 0 ∨ (n : Int) < at_ + 8
 · have G1 := Lib.hid (rget_not A n c at_ zs _ hr1 hz hl hcap h0 (by omega) ha)
   obtain ⟨u, b, G2⟩ : ∃ u b, Hid (Calls Tryz.prog 36 #[.slice A n c, .int .i64 (at_ + 8), .int .i64 8] (w.alloc (.cells #[.int .i64 0, .slice none 0 0, .slice none 0 0, .slice none 0 0] 83)) fun e w' => e = .returned (.tuple #[.int .u64 u, .bool b]) /\ (w.alloc (.cells #[.int .i64 0, .slice none 0 0, .slice none 0 0, .slice none 0 0] 83)) = w') := ⟨_, _, rget_any A n c (at_ + 8) 8 zs _ hr1 hz hl hcap (by omega) (by omega) (by omega) (by omega)⟩
   clear hno ha hr1
   go_enter Tryz.func66, Tryz.ntmps66
   have m1 : True := trivial
   go_wp2_with (first
     | (go_at_call 36; clear m1; refine G1.out.mono ?_; rintro e w1 ⟨rfl, rfl⟩)
     | (go_at_call 36; refine G2.out.mono ?_; rintro e w1 ⟨rfl, rfl⟩))
   refine bodyPost_ret (results_cell3 rfl _ _ w.heap.size 83 _ (0, 0) _ rfl (Blk.new _ _ _) Tryz.underlying83 rfl (by kernel_rfl)) rfl ?_
   exact ⟨rfl, hb1⟩
 obtain ⟨j, rfl⟩ := Int.eq_ofNat_of_zero_le (show 0 <= at_ by omega)
 obtain ⟨k, hk, hkb⟩ := lev8_nat hz j
 obtain ⟨s, hs, hsb⟩ := lev8_nat hz (j + 8)
 have G1 := Lib.hid (rget8 A n c j j zs _ hr1 hz hl hcap rfl (by omega))
 rw [hk] at G1
 by_cases hd : (n : Int) < (j : Int) + 8 + 8
 · have G2 := Lib.hid (rget_not A n c ((j : Int) + 8) zs _ hr1 hz hl hcap (by omega) (by omega) (.inr hd))
   clear hno ha hr1 hk hs hd
   go_enter Tryz.func66, Tryz.ntmps66
   have m1 : True := trivial
   go_wp2_with (first
     | (go_at_call 36; clear m1; refine G1.out.mono ?_; rintro e w1 ⟨rfl, rfl⟩)
     | (go_at_call 36; refine G2.out.mono ?_; rintro e w1 ⟨rfl, rfl⟩))
   refine bodyPost_ret (results_cell3 rfl _ _ w.heap.size 83 _ (0, 0) _ rfl (Blk.new _ _ _) Tryz.underlying83 rfl (by kernel_rfl)) rfl ?_
   exact ⟨rfl, hb1⟩
 have G2 := Lib.hid (rget8 A n c (j + 8) ((j : Int) + 8) zs _ hr1 hz hl hcap (by omega) (by omega))
 rw [hs] at G2
 have hwn : IntKind.u64.wrap ((n : Int) - j) = (n : Int) - j := by rw [IntKind.wrap_u64]; omega
 have fin : (j % 8 ≠ 0) ∨ (j % 8 = 0 /\ k < 1) ∨ (j % 8 = 0 /\ 1 <= k /\ 4 < k) ∨ (j % 8 = 0 /\ 1 <= k /\ k <= 4 /\ n < j + s) := by
   by_cases q1 : j % 8 = 0
   · by_cases q2 : k < 1
     · exact .inr (.inl ⟨q1, q2⟩)
     · by_cases q3 : 4 < k
       · exact .inr (.inr (.inl ⟨q1, by omega, q3⟩))
       · by_cases q4 : n < j + s
         · exact .inr (.inr (.inr ⟨q1, by omega, by omega, q4⟩))
         · exact absurd (hno j k s rfl ⟨q1, by omega, hk, hs, by omega, by omega⟩) q2
   · exact .inl q1
 clear hno ha hk hs hr1 hd
 rcases fin with q1 | ⟨q1, q2⟩ | ⟨q1, q2, q3⟩ | ⟨q1, q2, q3, q4⟩
 · have t1 : ((j : Int) % 8 == 0) = false := by simp; omega
   have t2 : ¬ (j : Int) % 8 = 0 := by omega
   clear q1
   go_enter Tryz.func66, Tryz.ntmps66
   have m1 : True := trivial
   go_wp2_with (first
     | (go_at_call 36; clear m1; refine G1.out.mono ?_; rintro e w1 ⟨rfl, rfl⟩)
     | (go_at_call 36; refine G2.out.mono ?_; rintro e w1 ⟨rfl, rfl⟩))
   refine bodyPost_ret (results_cell3 rfl _ _ w.heap.size 83 _ (0, 0) _ rfl (Blk.new _ _ _) Tryz.underlying83 rfl (by kernel_rfl)) rfl ?_
   exact ⟨rfl, hb1⟩
 all_goals
   have t1 : ((j : Int) % 8 == 0) = true := by simp; omega
   have t2 : (j : Int) % 8 = 0 := by omega
   clear q1
 · have t3 : (k : Int) < 1 := by omega
   go_enter Tryz.func66, Tryz.ntmps66
   have m1 : True := trivial
   go_wp2_with (first
     | (go_at_call 36; clear m1; refine G1.out.mono ?_; rintro e w1 ⟨rfl, rfl⟩)
     | (go_at_call 36; refine G2.out.mono ?_; rintro e w1 ⟨rfl, rfl⟩))
   refine bodyPost_ret (results_cell3 rfl _ _ w.heap.size 83 _ (0, 0) _ rfl (Blk.new _ _ _) Tryz.underlying83 rfl (by kernel_rfl)) rfl ?_
   exact ⟨rfl, hb1⟩
 · have t3 : ¬ (k : Int) < 1 := by omega
   have t4 : (4 : Int) < k := by omega
   go_enter Tryz.func66, Tryz.ntmps66
   have m1 : True := trivial
   go_wp2_with (first
     | (go_at_call 36; clear m1; refine G1.out.mono ?_; rintro e w1 ⟨rfl, rfl⟩)
     | (go_at_call 36; refine G2.out.mono ?_; rintro e w1 ⟨rfl, rfl⟩))
   refine bodyPost_ret (results_cell3 rfl _ _ w.heap.size 83 _ (0, 0) _ rfl (Blk.new _ _ _) Tryz.underlying83 rfl (by kernel_rfl)) rfl ?_
   exact ⟨rfl, hb1⟩
 · have t3 : ¬ (k : Int) < 1 := by omega
   have t4 : ¬ (4 : Int) < k := by omega
   have t5 : (n : Int) - j < s := by omega
   go_enter Tryz.func66, Tryz.ntmps66
   have m1 : True := trivial
   go_wp2_with (first
     | (go_at_call 36; clear m1; refine G1.out.mono ?_; rintro e w1 ⟨rfl, rfl⟩)
     | (go_at_call 36; refine G2.out.mono ?_; rintro e w1 ⟨rfl, rfl⟩))
   refine bodyPost_ret (results_cell3 rfl _ _ w.heap.size 83 _ (0, 0) _ rfl (Blk.new _ _ _) Tryz.underlying83 rfl (by kernel_rfl)) rfl ?_
   exact ⟨rfl, hb1⟩
set_option maxHeartbeats 1000000 in
theorem rodec_short {B : Nat} (A : Option Addr) (n c j k s : Nat) (zs : List Int) (w : World) (hr : Reads w B 1 A n (cellsOf .u8 zs)) (hB : B <= w.heap.size) (hz : AreB zs) (hl : n <= c) (hcap : c <= 9223372036854775807) (hn : n <= 140737488355328)
 (h : DecAt zs j k s) (hk1 : 1 <= k) (hs : s < frontN k) :
 Calls Tryz.prog 66 #[.slice A n c, .int .i64 j] w fun e w' => e = .returned (.tuple #[obZ, .int .i64 0, .bool false]) /\ Below w.heap.size w w' := by
 have hb1 : Below w.heap.size w (w.alloc (.cells #[.int .i64 0, .slice none 0 0, .slice none 0 0, .slice none 0 0] 83)) := (Below.refl _ _).alloc (Nat.le_refl _) _
 have hr1 : Reads (w.alloc (.cells #[.int .i64 0, .slice none 0 0, .slice none 0 0, .slice none 0 0] 83)) B 1 A n (cellsOf .u8 zs) := hr.keep fun p hp => hb1.cell (by omega)
 have hlen := hr.len
 have hb := h.al
 have hroom := h.room
 have hfit := h.fit
 have hk4 := h.kk
 rw [hlen] at hroom hfit
 have G1 := Lib.hid (rget8 A n c j j zs _ hr1 hz hl hcap rfl (by omega))
 have G2 := Lib.hid (rget8 A n c (j + 8) ((j : Int) + 8) zs _ hr1 hz hl hcap (by omega) (by omega))
 rw [h.kd] at G1
 rw [h.sd] at G2
 have HW := Lib.hid (rwordsk_any (k : Int))
 have hF : frontN k = 16 + 8 * kwN k := rfl
 rw [hF] at hs
 have hM5 := kwN_le (k : Int)
 generalize kwN (k : Int) = M at *
 have hwn : IntKind.u64.wrap ((n : Int) - j) = (n : Int) - j := by rw [IntKind.wrap_u64]; omega
 have t1 : ((j : Int) % 8 == 0) = true := by simp; omega
 have t2 : (j : Int) % 8 = 0 := by omega
 have t3 : ¬ (k : Int) < 1 := by omega
 have t4 : ¬ (4 : Int) < k := by omega
 have t5 : ¬ (n : Int) - j < s := by omega
 have t6 : (s : Int) < 16 + 8 * (M : Int) := by omega
 clear hr hr1 h hlen hb
 go_enter Tryz.func66, Tryz.ntmps66
 have m1 : True := trivial
 go_wp2_with (first
   | (go_at_call 36; clear m1; refine G1.out.mono ?_; rintro e w1 ⟨rfl, rfl⟩)
   | (go_at_call 36; refine G2.out.mono ?_; rintro e w1 ⟨rfl, rfl⟩)
   | (go_at_call 105; refine (HW.out _).mono ?_; rintro e w1 ⟨rfl, rfl⟩))
 refine bodyPost_ret (results_cell3 rfl _ _ w.heap.size 83 _ (0, 0) _ rfl ((Blk.new _ _ _).alloc _) Tryz.underlying83 rfl (by kernel_rfl)) rfl ?_
 exact ⟨rfl, hb1.alloc (by simp) _⟩
theorem fld_app {w0 wr wa w3 : World} {X R i : Nat} {T e : TypeId} {cs zs : Array Value} {v v' : Value} {N N' : Nat} {xs xs' : List Value} (hbel : Below w0.heap.size w0 wr) (hX : Blk wr X T cs) (hR : Blk wr R T zs) (hXR : R ≠ X) (hXl : w0.heap.size <= X)
 (ha : Below wr.heap.size wr wa) (ho : wr.ownsRow w0.heap.size e 1 v N xs) (hg : wa.grownBy w3 v.ownBlock) (ho3 : w3.ownsRow w0.heap.size e 1 v' N' xs') (hne : e ≠ T) :
 Below w0.heap.size w0 (w3.setCell ⟨X, i, none⟩ v') /\ Blk (w3.setCell ⟨X, i, none⟩ v') X T (cs.setIfInBounds i v') /\ Blk (w3.setCell ⟨X, i, none⟩ v') R T zs /\ (w3.setCell ⟨X, i, none⟩ v').ownsRow w0.heap.size e 1 v' N' xs' /\
 Chg (fun b => b = X ∨ v.ownBlock = some b) wr (w3.setCell ⟨X, i, none⟩ v') /\ v.ownBlock ≠ some X := by
 have hvX := own_blk_ne ho hX hne
 have hvR := own_blk_ne ho hR hne
 have c13 : Chg (fun b => v.ownBlock = some b) wr w3 := (Chg.of_below ha (Nat.le_refl _) _).trans (Chg.of_grown hg) (fun _ _ e => e)
 have hX3 := hX.chg c13 hvX
 have hR3 := hR.chg c13 hvR
 have hs := hbel.size
 have hs2 := ha.size
 refine ⟨((hbel.trans (ha.mono hs)).grown hg (by omega) (fun g e => (ho.lt g e).1)).setCell hXl _, hX3.set_ i v', hR3.far hXR v', own_chg ho3 ((Chg.refl (fun b => b = X) w3).setCell (p := ⟨X, i, none⟩) (.inr rfl) _) (fun g e1 e2 => ?_), ?_, hvX⟩
 · subst e2; exact own_blk_ne ho3 hX3 hne e1
 · exact (c13.mono (fun _ _ e => .inr e)).setCell (.inr (.inl rfl)) _
theorem dec_cases {zs : List Int} {j k s n : Nat} (hz : AreB zs) (hlen : zs.length = n) (h : DecAt zs j k s) (hs : n <= 140737488355328) (hf : frontN k <= s) (x : List Int) (hx : encR k (dW (objB zs j s) k) (dR (objB zs j s) k) (dI (objB zs j s) k) = x) :
 (decB zs j k s = true /\ 0 < x.length /\ x.length = s + padn s 8 /\ j + x.length <= n /\ x = (zs.drop j).take x.length) ∨
 (decB zs j k s = false /\ (x.length = 0 ∨ (0 < x.length /\ n < j + x.length) ∨ (0 < x.length /\ j + x.length <= n /\ x ≠ (zs.drop j).take x.length))) := by
 by_cases hd : decB zs j k s = true
 · obtain ⟨h1, h2⟩ := enc_of_dec hz h hd
   rw [hx] at h2
   have hl : x.length = s + padn s 8 := by rw [h2, List.length_take, List.length_drop]; omega
   have hp : 0 < s := by unfold frontN at hf; omega
   exact .inl ⟨hd, by omega, hl, by omega, by rw [hl]; exact h2⟩
 · have hd' : decB zs j k s = false := by simpa using hd
   refine .inr ⟨hd', ?_⟩
   by_cases h0 : x.length = 0
   · exact .inl h0
   by_cases h1 : n < j + x.length
   · exact .inr (.inl ⟨by omega, h1⟩)
   refine .inr (.inr ⟨by omega, by omega, fun e => hd ?_⟩)
   exact (dec_of_enc hz h (by omega) hf x hx.symm (fun e => h0 (by rw [e]; rfl)) (by omega) e).1
def RDec (zs : List Int) (j k s : Nat) (w : World) (e : Ending) (w' : World) : Prop :=
 Below w.heap.size w w' /\ ((decB zs j k s = true /\ ∃ A1 n1 c1 A2 n2 c2 A3 n3 c3, e = .returned (.tuple #[obV k A1 n1 c1 A2 n2 c2 A3 n3 c3, .int .i64 (j + (s + padn s 8) : Nat), .bool true]) /\
     ObOwn w' w.heap.size A1 n1 c1 (dW (objB zs j s) k) A2 n2 c2 (dR (objB zs j s) k) A3 n3 c3 (dI (objB zs j s) k)) ∨
   (decB zs j k s = false /\ e = .returned (.tuple #[obZ, .int .i64 0, .bool false])))
theorem put4 {w7 : World} {R : Nat} {T : TypeId} {a0 a1 a2 a3 z0 z1 z2 z3 : Value} (hR : Blk w7 R T #[z0, z1, z2, z3]) :
 Blk ((((w7.setCell ⟨R, 0, none⟩ a0).setCell ⟨R, 1, none⟩ a1).setCell ⟨R, 2, none⟩ a2).setCell ⟨R, 3, none⟩ a3) R T #[a0, a1, a2, a3] /\
 Chg (fun b => b = R) w7 ((((w7.setCell ⟨R, 0, none⟩ a0).setCell ⟨R, 1, none⟩ a1).setCell ⟨R, 2, none⟩ a2).setCell ⟨R, 3, none⟩ a3) := by
 refine ⟨?_, ?_⟩
 · have h := (((hR.set_ 0 a0).set_ 1 a1).set_ 2 a2).set_ 3 a3
   simpa using h
 · exact ((((Chg.refl (fun b => b = R) w7).setCell (p := ⟨R, 0, none⟩) (.inr rfl) _).setCell (p := ⟨R, 1, none⟩) (.inr rfl) _).setCell (p := ⟨R, 2, none⟩) (.inr rfl) _).setCell (p := ⟨R, 3, none⟩) (.inr rfl) _
set_option maxHeartbeats 2000000 in
theorem rodec_raw {B : Nat} (A : Option Addr) (n c j k s : Nat) (zs : List Int) (w : World) (hr : Reads w B 1 A n (cellsOf .u8 zs)) (hB : B <= w.heap.size) (hz : AreB zs) (hl : n <= c) (hcap : c <= 9223372036854775807) (hn : n <= 140737488355328)
 (h : DecAt zs j k s) (hk1 : 1 <= k /\ k <= 2) (hs : frontN k <= s) :
 Calls Tryz.prog 66 #[.slice A n c, .int .i64 j] w (RDec zs j k s w) := by
 obtain ⟨i0, hi, hz0, hz1, hz2⟩ := info_parts byteInfo
 obtain ⟨i8, hi8, hz80, hz81, hz82⟩ := info_parts wordInfo
 have hlen := hr.len
 have hb := h.al
 have hroom := h.room
 have hfit := h.fit
 have hk4 := h.kk
 rw [hlen] at hroom hfit
 have hb0 : Below w.heap.size w (w.alloc (.cells #[.int .i64 0, .slice none 0 0, .slice none 0 0, .slice none 0 0] 83)) := (Below.refl _ _).alloc (Nat.le_refl _) _
 have hb1 : Below w.heap.size w ((w.alloc (.cells #[.int .i64 0, .slice none 0 0, .slice none 0 0, .slice none 0 0] 83)).alloc (.cells #[.int .i64 k, .slice none 0 0, .slice none 0 0, .slice none 0 0] 83)) := hb0.alloc hb0.size _
 have RD := Lib.hid (fun wx (hx : Below w.heap.size w wx) => (hr.keep fun p hp => hx.cell (by omega) : Reads wx B 1 A n (cellsOf .u8 zs)))
 have G1 := Lib.hid (rget8 A n c j j zs _ (RD.out _ hb0) hz hl hcap rfl (by omega))
 have G2 := Lib.hid (rget8 A n c (j + 8) ((j : Int) + 8) zs _ (RD.out _ hb0) hz hl hcap (by omega) (by omega))
 rw [h.kd] at G1
 rw [h.sd] at G2
 have HW := Lib.hid (rwordsk_any (k : Int))
 have hfk : frontN k = 16 + 8 * kwN k := rfl
 have hM5 := kwN_le (k : Int)
 obtain ⟨x, hx⟩ : ∃ x, encR k (dW (objB zs j s) k) (dR (objB zs j s) k) (dI (objB zs j s) k) = x := ⟨_, rfl⟩
 have HC := Lib.hid (dec_cases hz hlen h hn hs x hx)
 have HOB := Lib.hid (objB_bytes hz j s)
 have HOL := Lib.hid (objB_length h.fit)
 have HX := Lib.hid hx
 have HZB := Lib.hid hz
 have hii : hasI k = false := by obtain ⟨h1, h2⟩ := hk1; rcases (show k = 1 ∨ k = 2 by omega) with rfl | rfl <;> rfl
 obtain ⟨M, hM⟩ : ∃ M, kwN k = M := ⟨_, rfl⟩
 obtain ⟨F, hF⟩ : ∃ F, frontN k = F := ⟨_, rfl⟩
 rw [hM] at hM5 HW
 rw [hF] at hs
 have hF2 : F = 16 + 8 * M := by rw [<- hF, <- hM]; exact hfk
 have HF2 := Lib.hid hF2
 have GW := Lib.hid (fun wx (hx : Below w.heap.size w wx) (t : Nat) (v : Int) (ht : 16 + 8 * t + 8 <= s) (hv : v = (j + 16 + 8 * t : Nat)) => rget8 A n c (j + 16 + 8 * t) v zs wx (RD.out wx hx) hz hl hcap hv (by omega))
 have GE : Hid (∀ t, 16 + 8 * t + 8 <= s -> lev ((zs.drop (j + 16 + 8 * t)).take 8) = lev (((objB zs j s).drop (16 + 8 * t)).take 8)) := fun t ht => by
   unfold objB
   rw [List.drop_take, List.take_take, List.drop_drop, Nat.min_eq_left (by omega), Nat.add_assoc]
 have HDW : Hid (dW (objB zs j s) k = wrds M ((objB zs j s).drop 16)) := by show _ = _; unfold dW; rw [hM]
 have HDR : Hid (dR (objB zs j s) k = (objB zs j s).drop F) := by show _ = _; unfold dR; rw [hii]; rw [if_neg (by decide), hF]
 have HDI : Hid (dI (objB zs j s) k = []) := by show _ = _; unfold dI; rw [hii]; rfl
 have hwn : IntKind.u64.wrap ((n : Int) - j) = (n : Int) - j := by rw [IntKind.wrap_u64]; omega
 have t1 : ((j : Int) % 8 == 0) = true := by simp; omega
 have t2 : (j : Int) % 8 = 0 := by omega
 have t3 : ¬ (k : Int) < 1 := by omega
 have t4 : ¬ (4 : Int) < k := by omega
 have t5 : ¬ (n : Int) - j < s := by omega
 have t6 : ¬ (s : Int) < 16 + 8 * (M : Int) := by omega
 have hcj : ¬ c = j := by omega
 obtain ⟨A3, hA3⟩ : ∃ A3, A.map (·.add j) = A3 := ⟨_, rfl⟩
 have RS := Lib.hid (fun wx (hx : Below w.heap.size w wx) (N : Nat) (hN : j + N <= n) => (RD.out wx hx).sub (lo := j) (hi := j + N) (cap := c) (by omega) (by omega) hl)
 rw [if_neg hcj, hA3] at RS
 have hne1 : (24 : TypeId) ≠ 83 := by decide
 have hne2 : (5 : TypeId) ≠ 83 := by decide
 have B0 : Blk ((w.alloc (.cells #[.int .i64 0, .slice none 0 0, .slice none 0 0, .slice none 0 0] 83)).alloc (.cells #[.int .i64 k, .slice none 0 0, .slice none 0 0, .slice none 0 0] 83)) (w.heap.size + 1) 83 #[.int .i64 k, .slice none 0 0, .slice none 0 0, .slice none 0 0] := by
   have h := Blk.new (w.alloc (.cells #[.int .i64 0, .slice none 0 0, .slice none 0 0, .slice none 0 0] 83)) 83 #[.int .i64 k, .slice none 0 0, .slice none 0 0, .slice none 0 0]
   simpa using h
 have B1 : Blk ((w.alloc (.cells #[.int .i64 0, .slice none 0 0, .slice none 0 0, .slice none 0 0] 83)).alloc (.cells #[.int .i64 k, .slice none 0 0, .slice none 0 0, .slice none 0 0] 83)) w.heap.size 83 #[.int .i64 0, .slice none 0 0, .slice none 0 0, .slice none 0 0] := (Blk.new w _ _).alloc _
 clear hr h hlen hb hz hF hF2 hM hfk hx hii hb0
 generalize hbs : objB zs j s = bs at *
 have HBS := Lib.hid hbs
 clear hbs
 generalize hdb : decB zs j k s = db at HC
 have HDB := Lib.hid hdb
 clear hdb
 go_enter Tryz.func66, Tryz.ntmps66
 have m1 : True := trivial
 go_wp2_with (first
   | (go_at_call 36; clear m1; refine G1.out.mono ?_; rintro e w1 ⟨rfl, rfl⟩)
   | (go_at_call 36; refine G2.out.mono ?_; rintro e w1 ⟨rfl, rfl⟩)
   | (go_at_call 105; refine (HW.out _).mono ?_; rintro e w1 ⟨rfl, rfl⟩))
 go_loopw [13, 14, 15] (fun i _ _ wr => ∃ (t : Nat) (v : Value), t <= M /\ i = .int .i64 t /\ Below w.heap.size w wr /\ Blk wr (w.heap.size + 1) 83 #[.int .i64 k, v, .slice none 0 0, .slice none 0 0] /\ Blk wr w.heap.size 83 #[.int .i64 0, .slice none 0 0, .slice none 0 0, .slice none 0 0] /\ wr.ownsRow w.heap.size 24 1 v t (cellsOf .u64 (wrds t (bs.drop 16)))) (fun i _ _ _ => M - (intOf i).toNat)
 case atStart => exact ⟨0, _, Nat.zero_le _, rfl, hb1, B0, B1, World.ownsRow_nil _ _ _ _⟩
 case round =>
   clear B0 B1 hb1
   obtain ⟨t, v, ht, rfl, hbel, hX, hR, ho⟩ := hrel
   by_cases hlt : t < M
   · have x1 := hX.cell 1
     have xf := hX.frozen 1
     obtain ⟨A1, c1, rfl, _, _⟩ := own_form ho
     have s3 : t + 1 <= maxLen := by unfold maxLen; omega
     have s4 : w.heap.size <= (wr.alloc (.cells #[Value.int IntKind.u64 (lev ((bs.drop (16 + 8 * t)).take 8))] 24)).heap.size := by have := hbel.size; simp; omega
     have ha : Below wr.heap.size wr (wr.alloc (.cells #[Value.int IntKind.u64 (lev ((bs.drop (16 + 8 * t)).take 8))] 24)) := (Below.refl _ _).alloc (Nat.le_refl _) _
     have hoa := own_below ho ha
     go_wp2_with (first
       | (go_at_call 36; refine (GW.out wr hbel t _ (by have h := HF2.out; omega) (by omega)).mono ?_; rintro e w1 ⟨rfl, rfl⟩; rw [GE.out t (by have h := HF2.out; omega)])
       | (at_builtin; refine wpList_append_any _ rfl _ _ _ rfl w.heap.size 24 i8 (.int .u64 0) 1 8 Tryz.underlying81 hi8 hz80 hz81 hz82 rfl (Nat.lt_succ_self 0) (.slice A1 t c1) t (cellsOf .u64 (wrds t (bs.drop 16))) rfl hoa (wr.heap.size + 1) _ 1 1 (cellsOf .u64 [lev ((bs.drop (16 + 8 * t)).take 8)]) rfl (Reads.new1 _ _ _) (one_oneCell _ _) s3 (by omega) s4 ?_; intro v3 w3 ho3 hg3 hat3; obtain ⟨A5, c5, rfl, -, -⟩ := own_form ho3; obtain ⟨y1, y2, y3, y4, y5, y6⟩ := fld_app (i := 1) hbel hX hR (by omega) (by omega) ha ho hg3 ho3 hne1; have F1 := Lib.hid y1; have F2 := Lib.hid y2; have F3 := Lib.hid y3; have F4 := Lib.hid y4; have xx : w3.frozen? ⟨w.heap.size + 1, 1, none⟩ = false := (by have c13 := hX.chg ((Chg.of_below ha (Nat.le_refl _) (fun b => Value.ownBlock (.slice A1 t c1) = some b)).trans (Chg.of_grown hg3) (fun _ _ e => e)) y6; exact c13.frozen 1); have xc : w3.cell? ⟨w.heap.size + 1, 1, none⟩ = some (.slice A1 t c1) := (by have c13 := hX.chg ((Chg.of_below ha (Nat.le_refl _) (fun b => Value.ownBlock (.slice A1 t c1) = some b)).trans (Chg.of_grown hg3) (fun _ _ e => e)) y6; rw [c13.cell 1]; rfl); clear y1 y2 y3 y4 y5 y6 ho3 hg3 hat3 hX hR ho hoa ha))
     go_roundw
     case rel =>
       refine ⟨t + 1, _, by omega, by go_num, F1.out, by simpa using F2.out, F3.out, ?_⟩
       have h := F4.out
       rw [<- cellsOf_append, <- List.drop_drop, <- wrds_snoc] at h
       exact h
     case measure => simp [intOf]; omega
   · have e : t = M := by omega
     subst e
     rw [<- HDW.out] at ho
     obtain ⟨A1, c1, rfl, hc1, hc2⟩ := own_form ho
     have u1 : (k : Int) < 3 := by omega
     have u2 : ¬ (2 : Int) < k := by omega
     obtain ⟨Fr, hFr⟩ : ∃ Fr : Nat, (j : Int) + 16 + 8 * (t : Int) = (Fr : Int) := ⟨j + 16 + 8 * t, by omega⟩
     obtain ⟨En, hEn⟩ : ∃ En : Nat, (j : Int) + (s : Int) = (En : Int) := ⟨j + s, by omega⟩
     have hFF : Fr = j + F := by have h := HF2.out; omega
     have v1 : (Fr : Int) <= (En : Int) := by omega
     have v2 : (En : Int) <= (c : Int) := by omega
     have hrr := (RD.out wr hbel).sub (lo := Fr) (hi := En) (cap := c) (by omega) (by omega) hl
     have HRAW : Hid ((zs.drop Fr).take (En - Fr) = dR bs k) := by
       show _ = _
       rw [HDR.out, <- HBS.out, hFF]
       unfold objB
       rw [List.drop_take, List.drop_drop]
       congr 1
       omega
     rw [HRAW.out] at hrr
     have x2 := hX.cell 2
     have xf2 := hX.frozen 2
     have s2 : 0 + (En - Fr) <= maxLen := by unfold maxLen; omega
     have s3 : (0 + (En - Fr)) * 1 <= 140737488355328 := by omega
     have hb0d : Below wr.heap.size wr wr.drew := below_drewn (Below.refl _ _) 1
     have hrd := hrr.drew
     obtain ⟨A0, hA0⟩ : ∃ A0, (if c = Fr then A else A.map (·.add Fr)) = A0 := ⟨_, rfl⟩
     rw [hA0] at hrd
     have APP := Lib.hid (fun (v3 : Value) (w3 : World) (ho3 : w3.ownsRow w.heap.size 5 1 v3 (En - Fr) (cellsOf .u8 (dR bs k))) (hg3 : wr.drew.grownBy w3 (Value.ownBlock (.slice none 0 0))) => fld_app (i := 2) hbel hX hR (by omega) (by omega) hb0d (World.ownsRow_nil wr w.heap.size 5 1) hg3 ho3 hne2)
     have HX3 := Lib.hid (fun (w3 : World) (hg3 : wr.drew.grownBy w3 (Value.ownBlock (.slice none 0 0))) => hX.chg ((Chg.of_below hb0d (Nat.le_refl _) (fun b => Value.ownBlock (.slice none 0 0) = some b)).trans (Chg.of_grown hg3) (fun _ _ e => e)) (by simp [Value.ownBlock]))
     have HOW := Lib.hid ho
     have hs7 : w.heap.size <= wr.drew.heap.size := hbel.size
     have hEF0 : c = Fr -> En = Fr := fun h => by omega
     have HFF := Lib.hid hFF
     clear hFF
     have HS2 := Lib.hid x2
     have HOX := Lib.hid (own_blk_ne ho hX hne1)
     clear hrr hbel hX hR ho hb0d
     by_cases hcf : c = Fr
     · rw [if_pos hcf] at hA0
       subst hA0
       have hEF : En = Fr := hEF0 hcf
       clear hEF0
       subst hEF
       subst hcf
       rw [Nat.sub_self] at hrd s2 s3 APP
       go_wp2
       refine wp_region_any (by kernel_rfl) ?_
       try (change wpAny _ _ _ _ _ _ _ (World.drew _))
       refine take_yes (i := 0) (v := ?_) rfl (by kernel_rfl) (by kernel_rfl) (by kernel_rfl) (fun _ _ _ h => h) (by kernel_rfl) ?_ ?_
       rotate_left
       · intro wz; go_simp; try with_reducible rfl
       simp only [Act.put, lS, lZ, lC]
       refine take_yes (i := 2) (v := ?_) rfl (by kernel_rfl) (by kernel_rfl) (by kernel_rfl) (fun _ _ _ h => h) (by kernel_rfl) ?_ ?_
       rotate_left
       · intro wz; go_simp; try with_reducible rfl
       simp only [Act.put, lS, lZ, lC]
       refine take_yes (i := 3) (v := ?_) rfl (by kernel_rfl) (by kernel_rfl) (by kernel_rfl) (fun _ _ _ h => h) (by kernel_rfl) ?_ ?_
       rotate_left
       · intro wz; go_simp; try with_reducible rfl
       simp only [Act.put, lS, lZ, lC]
       refine take_yes (i := 4) (v := ?_) rfl (by kernel_rfl) (by kernel_rfl) (by kernel_rfl) (fun _ _ _ h => h) (by kernel_rfl) ?_ ?_
       rotate_left
       · intro wz; go_simp; try with_reducible rfl
       simp only [Act.put, lS, lZ, lC]
       refine take_yes (i := 5) (v := ?_) rfl (by kernel_rfl) (by kernel_rfl) (by kernel_rfl) (fun _ _ _ h => h) (by kernel_rfl) ?_ ?_
       rotate_left
       · intro wz; go_simp; try with_reducible rfl
       simp only [Act.put, lS, lZ, lC]
       refine wpAny_ready (rs := [1]) (by kernel_rfl) (by simp) (AllReady.cons rfl (fun K hK => ?_) AllReady.nil)
       go_simp
       refine hK _ _ ?_
       clear hK K
       try simp only [Act.put, lS, lZ, lC]
       refine wpAny_ready (rs := [6]) (by kernel_rfl) (by simp) (AllReady.cons rfl (fun K hK => ?_) AllReady.nil)
       refine step_append_any _ rfl _ _ _ rfl w.heap.size 5 i0 (.int .u8 0) 1 1 Tryz.underlying22 hi hz0 hz1 hz2 rfl (Nat.lt_succ_self 0) (.slice none 0 0) 0 [] rfl (World.ownsRow_nil _ _ _ _) B A (0) _ (cellsOf .u8 (dR bs k)) rfl hrd (cellsOf_one _ _) s2 s3 hs7 ?_
       intro v3 w3 ho3 hg3 hat3
       refine hK _ _ ?_
       clear hK K
       try simp only [Act.put, lS, lZ, lC]
       rw [Nat.zero_add, List.nil_append] at ho3
       obtain ⟨A2, c2, rfl, -, -⟩ := own_form ho3
       have xa := (HX3.out w3 hg3).cell 2
       have xb := (HX3.out w3 hg3).frozen 2
       have AP := Lib.hid (APP.out _ _ ho3 hg3)
       clear hat3 ho3 hg3
       refine take_yes (i := 7) (v := ?_) rfl (by kernel_rfl) (by kernel_rfl) (by kernel_rfl) (fun _ _ _ h => h) (by kernel_rfl) ?_ ?_
       rotate_left
       · intro wz; go_simp; try with_reducible rfl
       simp only [Act.put, lS, lZ, lC]
       refine wpAny_ready (rs := [8]) (by kernel_rfl) (by simp) (AllReady.cons rfl (fun K hK => ?_) AllReady.nil)
       go_simp
       refine hK _ _ ?_
       clear hK K
       refine wpAny_done (by kernel_rfl) ?_ _
       obtain ⟨y1, y2, y3, y4, y5, -⟩ := AP.out
       have ho := own_chg HOW.out y5 (fun g' e1 e2 => by
         rcases e2 with e2 | e2
         · subst e2; exact HOX.out e1
         · cases e2)
       simp only [List.setIfInBounds_toArray, List.set_cons_succ, List.set_cons_zero] at y2
       have hX := y2
       have hR := y3
       have hbel := y1
       have ho2 := y4
       clear y1 y2 y3 y4 y5 AP APP HX3 xa xb x2 xf2 HS2 HOX HOW hrd
       generalize (w3.setCell ⟨w.heap.size + 1, 2, none⟩ _) = wE at *
       go_wp2
       go_loopw [16, 18, 19] (fun fr _ _ wr2 => fr = .int .i64 c /\ wE = wr2) (fun _ _ _ _ => 0)
       case atStart => exact ⟨rfl, rfl⟩
       case round =>
         obtain ⟨rfl, hwE⟩ := hrel
         subst hwE
         have ho4 := World.ownsRow_nil wE w.heap.size 24 1
         rw [show ([] : List Value) = cellsOf .u64 (dI bs k) by rw [HDI.out]; rfl] at ho4
         have HEN := Lib.hid (HX.out ▸ roenc_any (k : Int) A1 t c1 (dW bs k) A2 0 c2 (dR bs k) none 0 0 (dI bs k) wE ⟨Reads.of_own ho, Reads.of_own ho2, Reads.of_own ho4, own_caps ho, own_caps ho2, own_caps ho4⟩ (Nat.le_refl _) (dW_bd HOB.out k) (dI_bd HOB.out k))
         have HxB : Hid (AreB x) := HX.out ▸ encR_bytes (dR_bytes HOB.out)
         have x0 := hX.cell 0
         have x1 := hX.cell 1
         have x2 := hX.cell 2
         have x3 := hX.cell 3
         have HBE := Lib.hid hbel
         have HXE := Lib.hid hX
         have HRE := Lib.hid hR
         have HO1 := Lib.hid ho
         have HO2 := Lib.hid ho2
         have HO4 := Lib.hid ho4
         obtain ⟨N, hN⟩ : ∃ N, N = x.length := ⟨_, rfl⟩
         have HN := Lib.hid hN
         rw [<- hN] at HC
         clear hN hbel hX hR ho ho2 ho4
         go_upto_region 22 with (go_at_call 106; refine HEN.out.mono ?_; rintro e w9 ⟨A9, N9, c9, rfl, hN9, ho9, hb9, hnc9, hcc9⟩; rw [<- HN.out] at hN9; replace hN9 := hN9.symm; subst hN9; have HB9 := Lib.hid (HBE.out.trans (hb9.mono HBE.out.size)); have HR9 := Lib.hid (Reads.of_own ho9); have HRR := HRE.out.below hb9 (by have := HBE.out.size; have := HRE.out.lt; omega); have HXX := HXE.out.below hb9 HXE.out.lt; have HBQ := Lib.hid hb9; clear ho9 hb9)
         have z0 := HXX.cell 0
         have z1 := HXX.cell 1
         have z2 := HXX.cell 2
         have z3 := HXX.cell 3
         have q0 := HRR.cell 0
         have q1 := HRR.cell 1
         have q2 := HRR.cell 2
         have q3 := HRR.cell 3
         have qf0 := HRR.frozen 0
         have qf1 := HRR.frozen 1
         have qf2 := HRR.frozen 2
         have qf3 := HRR.frozen 3
         have HRB := Lib.hid HRR
         clear HRR HXX
         rcases HC.out with ⟨hdt, f0, fN, f1, fx⟩ | ⟨hdt, f0 | ⟨f0, f1⟩ | ⟨f0, f1, fx⟩⟩
         · have g1 : ((N : Int) == 0) = false := by simp; omega
           have g2 : ¬ (N : Int) = 0 := by omega
           have g3 : ¬ (n : Int) - j < N := by omega
           have g4 : (j : Int) <= (j : Int) + N := by omega
           have g5 : (j : Int) + N <= c := by omega
           have HFN := Lib.hid fN
           have hsb := RS.out w9 HB9.out N f1
           rw [Nat.add_sub_cancel_left] at hsb
           have HSUB := Lib.hid hsb
           clear hsb
           have HFX := Lib.hid fx
           have HDT := Lib.hid hdt
           clear f0 fN f1 fx hdt
           go_wp2_with (go_at_call 10; refine (same_any A9 A3 N N c9 _ x ((zs.drop j).take N) _ HR9.out HSUB.out HxB.out ((HZB.out.drop j).take _)).mono ?_; rintro e w10 ⟨rfl, rfl⟩; rw [decide_eq_true HFX.out])
           obtain ⟨p1, p2⟩ := put4 (a0 := .int .i64 k) (a1 := .slice A1 t c1) (a2 := .slice A2 0 c2) (a3 := .slice none 0 0) HRB.out
           refine bodyPost_ret (results_cell3 rfl _ _ w.heap.size 83 _ (0, 0) _ rfl p1 Tryz.underlying83 rfl (by kernel_rfl)) rfl ?_
           have hs9 := HB9.out.size
           refine ⟨HB9.out.trans (p2.below hs9 (fun b _ e => by omega)), .inl ⟨HDB.out.trans HDT.out, A1, t, c1, A2, 0, c2, none, 0, 0, by rw [HFN.out]; rfl, ?_⟩⟩
           have r1 := own_below HO1.out HBQ.out
           have r2 := own_below HO2.out HBQ.out
           have r4 := own_below HO4.out HBQ.out
           have o1 := own_chg r1 p2 (fun g e1 e2 => by subst e2; exact own_blk_ne r1 HRB.out hne1 e1)
           have o2 := own_chg r2 p2 (fun g e1 e2 => by subst e2; exact own_blk_ne r2 HRB.out hne2 e1)
           have o4 := own_chg r4 p2 (fun g e1 e2 => by subst e2; exact own_blk_ne r4 HRB.out hne1 e1)
           rw [HBS.out]
           exact ⟨o1, o2, o4⟩
         · have g1 : ((N : Int) == 0) = true := by simp; omega
           have HDT := Lib.hid hdt
           subst f0
           clear hdt
           go_wp2
           obtain ⟨p1, p2⟩ := put4 (a0 := .int .i64 0) (a1 := .slice none 0 0) (a2 := .slice none 0 0) (a3 := .slice none 0 0) HRB.out
           refine bodyPost_ret (results_cell3 rfl _ _ w.heap.size 83 _ (0, 0) _ rfl p1 Tryz.underlying83 rfl (by kernel_rfl)) rfl ?_
           have hs9 := HB9.out.size
           exact ⟨HB9.out.trans (p2.below hs9 (fun b _ e => by omega)), .inr ⟨HDB.out.trans HDT.out, rfl⟩⟩
         · have g1 : ((N : Int) == 0) = false := by simp; omega
           have g2 : ¬ (N : Int) = 0 := by omega
           have g3 : (n : Int) - j < N := by omega
           have HDT := Lib.hid hdt
           clear hdt f0 f1
           go_wp2
           obtain ⟨p1, p2⟩ := put4 (a0 := .int .i64 0) (a1 := .slice none 0 0) (a2 := .slice none 0 0) (a3 := .slice none 0 0) HRB.out
           refine bodyPost_ret (results_cell3 rfl _ _ w.heap.size 83 _ (0, 0) _ rfl p1 Tryz.underlying83 rfl (by kernel_rfl)) rfl ?_
           have hs9 := HB9.out.size
           exact ⟨HB9.out.trans (p2.below hs9 (fun b _ e => by omega)), .inr ⟨HDB.out.trans HDT.out, rfl⟩⟩
         · have g1 : ((N : Int) == 0) = false := by simp; omega
           have g2 : ¬ (N : Int) = 0 := by omega
           have g3 : ¬ (n : Int) - j < N := by omega
           have g4 : (j : Int) <= (j : Int) + N := by omega
           have g5 : (j : Int) + N <= c := by omega
           have hsb := RS.out w9 HB9.out N f1
           rw [Nat.add_sub_cancel_left] at hsb
           have HSUB := Lib.hid hsb
           clear hsb
           have HFX := Lib.hid fx
           have HDT := Lib.hid hdt
           clear f0 f1 fx hdt
           go_wp2_with (go_at_call 10; refine (same_any A9 A3 N N c9 _ x ((zs.drop j).take N) _ HR9.out HSUB.out HxB.out ((HZB.out.drop j).take _)).mono ?_; rintro e w10 ⟨rfl, rfl⟩; rw [decide_eq_false HFX.out])
           obtain ⟨p1, p2⟩ := put4 (a0 := .int .i64 0) (a1 := .slice none 0 0) (a2 := .slice none 0 0) (a3 := .slice none 0 0) HRB.out
           refine bodyPost_ret (results_cell3 rfl _ _ w.heap.size 83 _ (0, 0) _ rfl p1 Tryz.underlying83 rfl (by kernel_rfl)) rfl ?_
           have hs9 := HB9.out.size
           exact ⟨HB9.out.trans (p2.below hs9 (fun b _ e => by omega)), .inr ⟨HDB.out.trans HDT.out, rfl⟩⟩
     · rw [if_neg hcf] at hA0
       clear hEF0
       go_wp2
       refine wp_region_any (by kernel_rfl) ?_
       try (change wpAny _ _ _ _ _ _ _ (World.drew _))
       refine take_yes (i := 0) (v := ?_) rfl (by kernel_rfl) (by kernel_rfl) (by kernel_rfl) (fun _ _ _ h => h) (by kernel_rfl) ?_ ?_
       rotate_left
       · intro wz; go_simp; try with_reducible rfl
       simp only [Act.put, lS, lZ, lC]
       refine take_yes (i := 2) (v := ?_) rfl (by kernel_rfl) (by kernel_rfl) (by kernel_rfl) (fun _ _ _ h => h) (by kernel_rfl) ?_ ?_
       rotate_left
       · intro wz; go_simp; try with_reducible rfl
       simp only [Act.put, lS, lZ, lC]
       refine take_yes (i := 3) (v := ?_) rfl (by kernel_rfl) (by kernel_rfl) (by kernel_rfl) (fun _ _ _ h => h) (by kernel_rfl) ?_ ?_
       rotate_left
       · intro wz; go_simp; try with_reducible rfl
       simp only [Act.put, lS, lZ, lC]
       refine take_yes (i := 4) (v := ?_) rfl (by kernel_rfl) (by kernel_rfl) (by kernel_rfl) (fun _ _ _ h => h) (by kernel_rfl) ?_ ?_
       rotate_left
       · intro wz; go_simp; try with_reducible rfl
       simp only [Act.put, lS, lZ, lC]
       refine take_yes (i := 5) (v := ?_) rfl (by kernel_rfl) (by kernel_rfl) (by kernel_rfl) (fun _ _ _ h => h) (by kernel_rfl) ?_ ?_
       rotate_left
       · intro wz; go_simp; try with_reducible rfl
       simp only [Act.put, lS, lZ, lC]
       refine wpAny_ready (rs := [1]) (by kernel_rfl) (by simp) (AllReady.cons rfl (fun K hK => ?_) AllReady.nil)
       go_simp
       refine hK _ _ ?_
       clear hK K
       try simp only [Act.put, lS, lZ, lC]
       refine wpAny_ready (rs := [6]) (by kernel_rfl) (by simp) (AllReady.cons rfl (fun K hK => ?_) AllReady.nil)
       refine step_append_any _ rfl _ _ _ rfl w.heap.size 5 i0 (.int .u8 0) 1 1 Tryz.underlying22 hi hz0 hz1 hz2 rfl (Nat.lt_succ_self 0) (.slice none 0 0) 0 [] rfl (World.ownsRow_nil _ _ _ _) B A0 (En - Fr) _ (cellsOf .u8 (dR bs k)) rfl hrd (cellsOf_one _ _) s2 s3 hs7 ?_
       intro v3 w3 ho3 hg3 hat3
       refine hK _ _ ?_
       clear hK K
       try simp only [Act.put, lS, lZ, lC]
       rw [Nat.zero_add, List.nil_append] at ho3
       obtain ⟨A2, c2, rfl, -, -⟩ := own_form ho3
       have xa := (HX3.out w3 hg3).cell 2
       have xb := (HX3.out w3 hg3).frozen 2
       have AP := Lib.hid (APP.out _ _ ho3 hg3)
       clear hat3 ho3 hg3
       refine take_yes (i := 7) (v := ?_) rfl (by kernel_rfl) (by kernel_rfl) (by kernel_rfl) (fun _ _ _ h => h) (by kernel_rfl) ?_ ?_
       rotate_left
       · intro wz; go_simp; try with_reducible rfl
       simp only [Act.put, lS, lZ, lC]
       refine wpAny_ready (rs := [8]) (by kernel_rfl) (by simp) (AllReady.cons rfl (fun K hK => ?_) AllReady.nil)
       go_simp
       refine hK _ _ ?_
       clear hK K
       refine wpAny_done (by kernel_rfl) ?_ _
       obtain ⟨y1, y2, y3, y4, y5, -⟩ := AP.out
       have ho := own_chg HOW.out y5 (fun g' e1 e2 => by
         rcases e2 with e2 | e2
         · subst e2; exact HOX.out e1
         · cases e2)
       simp only [List.setIfInBounds_toArray, List.set_cons_succ, List.set_cons_zero] at y2
       have hX := y2
       have hR := y3
       have hbel := y1
       have ho2 := y4
       clear y1 y2 y3 y4 y5 AP APP HX3 xa xb x2 xf2 HS2 HOX HOW hrd
       generalize (w3.setCell ⟨w.heap.size + 1, 2, none⟩ _) = wE at *
       go_wp2
       go_loopw [16, 18, 19] (fun fr _ _ wr2 => fr = .int .i64 Fr /\ wE = wr2) (fun _ _ _ _ => 0)
       case atStart => exact ⟨rfl, rfl⟩
       case round =>
         obtain ⟨rfl, hwE⟩ := hrel
         subst hwE
         have ho4 := World.ownsRow_nil wE w.heap.size 24 1
         rw [show ([] : List Value) = cellsOf .u64 (dI bs k) by rw [HDI.out]; rfl] at ho4
         have HEN := Lib.hid (HX.out ▸ roenc_any (k : Int) A1 t c1 (dW bs k) A2 (En - Fr) c2 (dR bs k) none 0 0 (dI bs k) wE ⟨Reads.of_own ho, Reads.of_own ho2, Reads.of_own ho4, own_caps ho, own_caps ho2, own_caps ho4⟩ (Nat.le_refl _) (dW_bd HOB.out k) (dI_bd HOB.out k))
         have HxB : Hid (AreB x) := HX.out ▸ encR_bytes (dR_bytes HOB.out)
         have x0 := hX.cell 0
         have x1 := hX.cell 1
         have x2 := hX.cell 2
         have x3 := hX.cell 3
         have HBE := Lib.hid hbel
         have HXE := Lib.hid hX
         have HRE := Lib.hid hR
         have HO1 := Lib.hid ho
         have HO2 := Lib.hid ho2
         have HO4 := Lib.hid ho4
         obtain ⟨N, hN⟩ : ∃ N, N = x.length := ⟨_, rfl⟩
         have HN := Lib.hid hN
         rw [<- hN] at HC
         clear hN hbel hX hR ho ho2 ho4
         go_upto_region 22 with (go_at_call 106; refine HEN.out.mono ?_; rintro e w9 ⟨A9, N9, c9, rfl, hN9, ho9, hb9, hnc9, hcc9⟩; rw [<- HN.out] at hN9; replace hN9 := hN9.symm; subst hN9; have HB9 := Lib.hid (HBE.out.trans (hb9.mono HBE.out.size)); have HR9 := Lib.hid (Reads.of_own ho9); have HRR := HRE.out.below hb9 (by have := HBE.out.size; have := HRE.out.lt; omega); have HXX := HXE.out.below hb9 HXE.out.lt; have HBQ := Lib.hid hb9; clear ho9 hb9)
         have z0 := HXX.cell 0
         have z1 := HXX.cell 1
         have z2 := HXX.cell 2
         have z3 := HXX.cell 3
         have q0 := HRR.cell 0
         have q1 := HRR.cell 1
         have q2 := HRR.cell 2
         have q3 := HRR.cell 3
         have qf0 := HRR.frozen 0
         have qf1 := HRR.frozen 1
         have qf2 := HRR.frozen 2
         have qf3 := HRR.frozen 3
         have HRB := Lib.hid HRR
         clear HRR HXX
         rcases HC.out with ⟨hdt, f0, fN, f1, fx⟩ | ⟨hdt, f0 | ⟨f0, f1⟩ | ⟨f0, f1, fx⟩⟩
         · have g1 : ((N : Int) == 0) = false := by simp; omega
           have g2 : ¬ (N : Int) = 0 := by omega
           have g3 : ¬ (n : Int) - j < N := by omega
           have g4 : (j : Int) <= (j : Int) + N := by omega
           have g5 : (j : Int) + N <= c := by omega
           have HFN := Lib.hid fN
           have hsb := RS.out w9 HB9.out N f1
           rw [Nat.add_sub_cancel_left] at hsb
           have HSUB := Lib.hid hsb
           clear hsb
           have HFX := Lib.hid fx
           have HDT := Lib.hid hdt
           clear f0 fN f1 fx hdt
           go_wp2_with (go_at_call 10; refine (same_any A9 A3 N N c9 _ x ((zs.drop j).take N) _ HR9.out HSUB.out HxB.out ((HZB.out.drop j).take _)).mono ?_; rintro e w10 ⟨rfl, rfl⟩; rw [decide_eq_true HFX.out])
           obtain ⟨p1, p2⟩ := put4 (a0 := .int .i64 k) (a1 := .slice A1 t c1) (a2 := .slice A2 (En - Fr) c2) (a3 := .slice none 0 0) HRB.out
           refine bodyPost_ret (results_cell3 rfl _ _ w.heap.size 83 _ (0, 0) _ rfl p1 Tryz.underlying83 rfl (by kernel_rfl)) rfl ?_
           have hs9 := HB9.out.size
           refine ⟨HB9.out.trans (p2.below hs9 (fun b _ e => by omega)), .inl ⟨HDB.out.trans HDT.out, A1, t, c1, A2, (En - Fr), c2, none, 0, 0, by rw [HFN.out]; rfl, ?_⟩⟩
           have r1 := own_below HO1.out HBQ.out
           have r2 := own_below HO2.out HBQ.out
           have r4 := own_below HO4.out HBQ.out
           have o1 := own_chg r1 p2 (fun g e1 e2 => by subst e2; exact own_blk_ne r1 HRB.out hne1 e1)
           have o2 := own_chg r2 p2 (fun g e1 e2 => by subst e2; exact own_blk_ne r2 HRB.out hne2 e1)
           have o4 := own_chg r4 p2 (fun g e1 e2 => by subst e2; exact own_blk_ne r4 HRB.out hne1 e1)
           rw [HBS.out]
           exact ⟨o1, o2, o4⟩
         · have g1 : ((N : Int) == 0) = true := by simp; omega
           have HDT := Lib.hid hdt
           subst f0
           clear hdt
           go_wp2
           obtain ⟨p1, p2⟩ := put4 (a0 := .int .i64 0) (a1 := .slice none 0 0) (a2 := .slice none 0 0) (a3 := .slice none 0 0) HRB.out
           refine bodyPost_ret (results_cell3 rfl _ _ w.heap.size 83 _ (0, 0) _ rfl p1 Tryz.underlying83 rfl (by kernel_rfl)) rfl ?_
           have hs9 := HB9.out.size
           exact ⟨HB9.out.trans (p2.below hs9 (fun b _ e => by omega)), .inr ⟨HDB.out.trans HDT.out, rfl⟩⟩
         · have g1 : ((N : Int) == 0) = false := by simp; omega
           have g2 : ¬ (N : Int) = 0 := by omega
           have g3 : (n : Int) - j < N := by omega
           have HDT := Lib.hid hdt
           clear hdt f0 f1
           go_wp2
           obtain ⟨p1, p2⟩ := put4 (a0 := .int .i64 0) (a1 := .slice none 0 0) (a2 := .slice none 0 0) (a3 := .slice none 0 0) HRB.out
           refine bodyPost_ret (results_cell3 rfl _ _ w.heap.size 83 _ (0, 0) _ rfl p1 Tryz.underlying83 rfl (by kernel_rfl)) rfl ?_
           have hs9 := HB9.out.size
           exact ⟨HB9.out.trans (p2.below hs9 (fun b _ e => by omega)), .inr ⟨HDB.out.trans HDT.out, rfl⟩⟩
         · have g1 : ((N : Int) == 0) = false := by simp; omega
           have g2 : ¬ (N : Int) = 0 := by omega
           have g3 : ¬ (n : Int) - j < N := by omega
           have g4 : (j : Int) <= (j : Int) + N := by omega
           have g5 : (j : Int) + N <= c := by omega
           have hsb := RS.out w9 HB9.out N f1
           rw [Nat.add_sub_cancel_left] at hsb
           have HSUB := Lib.hid hsb
           clear hsb
           have HFX := Lib.hid fx
           have HDT := Lib.hid hdt
           clear f0 f1 fx hdt
           go_wp2_with (go_at_call 10; refine (same_any A9 A3 N N c9 _ x ((zs.drop j).take N) _ HR9.out HSUB.out HxB.out ((HZB.out.drop j).take _)).mono ?_; rintro e w10 ⟨rfl, rfl⟩; rw [decide_eq_false HFX.out])
           obtain ⟨p1, p2⟩ := put4 (a0 := .int .i64 0) (a1 := .slice none 0 0) (a2 := .slice none 0 0) (a3 := .slice none 0 0) HRB.out
           refine bodyPost_ret (results_cell3 rfl _ _ w.heap.size 83 _ (0, 0) _ rfl p1 Tryz.underlying83 rfl (by kernel_rfl)) rfl ?_
           have hs9 := HB9.out.size
           exact ⟨HB9.out.trans (p2.below hs9 (fun b _ e => by omega)), .inr ⟨HDB.out.trans HDT.out, rfl⟩⟩
set_option maxHeartbeats 2000000 in
theorem rodec_items {B : Nat} (A : Option Addr) (n c j k s : Nat) (zs : List Int) (w : World) (hr : Reads w B 1 A n (cellsOf .u8 zs)) (hB : B <= w.heap.size) (hz : AreB zs) (hl : n <= c) (hcap : c <= 9223372036854775807) (hn : n <= 140737488355328)
 (h : DecAt zs j k s) (hk1 : 3 <= k /\ k <= 4) (hs : frontN k <= s) :
 Calls Tryz.prog 66 #[.slice A n c, .int .i64 j] w (RDec zs j k s w) := by
 obtain ⟨i0, hi, hz0, hz1, hz2⟩ := info_parts byteInfo
 obtain ⟨i8, hi8, hz80, hz81, hz82⟩ := info_parts wordInfo
 have hlen := hr.len
 have hb := h.al
 have hroom := h.room
 have hfit := h.fit
 have hk4 := h.kk
 rw [hlen] at hroom hfit
 have hb0 : Below w.heap.size w (w.alloc (.cells #[.int .i64 0, .slice none 0 0, .slice none 0 0, .slice none 0 0] 83)) := (Below.refl _ _).alloc (Nat.le_refl _) _
 have hb1 : Below w.heap.size w ((w.alloc (.cells #[.int .i64 0, .slice none 0 0, .slice none 0 0, .slice none 0 0] 83)).alloc (.cells #[.int .i64 k, .slice none 0 0, .slice none 0 0, .slice none 0 0] 83)) := hb0.alloc hb0.size _
 have RD := Lib.hid (fun wx (hx : Below w.heap.size w wx) => (hr.keep fun p hp => hx.cell (by omega) : Reads wx B 1 A n (cellsOf .u8 zs)))
 have G1 := Lib.hid (rget8 A n c j j zs _ (RD.out _ hb0) hz hl hcap rfl (by omega))
 have G2 := Lib.hid (rget8 A n c (j + 8) ((j : Int) + 8) zs _ (RD.out _ hb0) hz hl hcap (by omega) (by omega))
 rw [h.kd] at G1
 rw [h.sd] at G2
 have HW := Lib.hid (rwordsk_any (k : Int))
 have hfk : frontN k = 16 + 8 * kwN k := rfl
 have hM5 := kwN_le (k : Int)
 obtain ⟨x, hx⟩ : ∃ x, encR k (dW (objB zs j s) k) (dR (objB zs j s) k) (dI (objB zs j s) k) = x := ⟨_, rfl⟩
 have HC := Lib.hid (dec_cases hz hlen h hn hs x hx)
 have HOB := Lib.hid (objB_bytes hz j s)
 have HOL := Lib.hid (objB_length h.fit)
 have HX := Lib.hid hx
 have HZB := Lib.hid hz
 have hii : hasI k = true := by obtain ⟨h1, h2⟩ := hk1; rcases (show k = 3 ∨ k = 4 by omega) with rfl | rfl <;> rfl
 obtain ⟨M, hM⟩ : ∃ M, kwN k = M := ⟨_, rfl⟩
 obtain ⟨F, hF⟩ : ∃ F, frontN k = F := ⟨_, rfl⟩
 rw [hM] at hM5 HW
 rw [hF] at hs
 have hF2 : F = 16 + 8 * M := by rw [<- hF, <- hM]; exact hfk
 have HF2 := Lib.hid hF2
 have GW := Lib.hid (fun wx (hx : Below w.heap.size w wx) (t : Nat) (v : Int) (ht : 16 + 8 * t + 8 <= s) (hv : v = (j + 16 + 8 * t : Nat)) => rget8 A n c (j + 16 + 8 * t) v zs wx (RD.out wx hx) hz hl hcap hv (by omega))
 have GE : Hid (∀ t, 16 + 8 * t + 8 <= s -> lev ((zs.drop (j + 16 + 8 * t)).take 8) = lev (((objB zs j s).drop (16 + 8 * t)).take 8)) := fun t ht => by
   unfold objB
   rw [List.drop_take, List.take_take, List.drop_drop, Nat.min_eq_left (by omega), Nat.add_assoc]
 have HDW : Hid (dW (objB zs j s) k = wrds M ((objB zs j s).drop 16)) := by show _ = _; unfold dW; rw [hM]
 have HDR : Hid (dR (objB zs j s) k = []) := by show _ = _; unfold dR; rw [hii]; rfl
 have HDI : Hid (dI (objB zs j s) k = wrds ((s - F) / 8) ((objB zs j s).drop F)) := by show _ = _; unfold dI; rw [hii]; rw [if_pos rfl, objB_length h.fit, hF]
 have hwn : IntKind.u64.wrap ((n : Int) - j) = (n : Int) - j := by rw [IntKind.wrap_u64]; omega
 have t1 : ((j : Int) % 8 == 0) = true := by simp; omega
 have t2 : (j : Int) % 8 = 0 := by omega
 have t3 : ¬ (k : Int) < 1 := by omega
 have t4 : ¬ (4 : Int) < k := by omega
 have t5 : ¬ (n : Int) - j < s := by omega
 have t6 : ¬ (s : Int) < 16 + 8 * (M : Int) := by omega
 have hcj : ¬ c = j := by omega
 obtain ⟨A3, hA3⟩ : ∃ A3, A.map (·.add j) = A3 := ⟨_, rfl⟩
 have RS := Lib.hid (fun wx (hx : Below w.heap.size w wx) (N : Nat) (hN : j + N <= n) => (RD.out wx hx).sub (lo := j) (hi := j + N) (cap := c) (by omega) (by omega) hl)
 rw [if_neg hcj, hA3] at RS
 have hne1 : (24 : TypeId) ≠ 83 := by decide
 have hne2 : (5 : TypeId) ≠ 83 := by decide
 have B0 : Blk ((w.alloc (.cells #[.int .i64 0, .slice none 0 0, .slice none 0 0, .slice none 0 0] 83)).alloc (.cells #[.int .i64 k, .slice none 0 0, .slice none 0 0, .slice none 0 0] 83)) (w.heap.size + 1) 83 #[.int .i64 k, .slice none 0 0, .slice none 0 0, .slice none 0 0] := by
   have h := Blk.new (w.alloc (.cells #[.int .i64 0, .slice none 0 0, .slice none 0 0, .slice none 0 0] 83)) 83 #[.int .i64 k, .slice none 0 0, .slice none 0 0, .slice none 0 0]
   simpa using h
 have B1 : Blk ((w.alloc (.cells #[.int .i64 0, .slice none 0 0, .slice none 0 0, .slice none 0 0] 83)).alloc (.cells #[.int .i64 k, .slice none 0 0, .slice none 0 0, .slice none 0 0] 83)) w.heap.size 83 #[.int .i64 0, .slice none 0 0, .slice none 0 0, .slice none 0 0] := (Blk.new w _ _).alloc _
 clear hr h hlen hb hz hF hF2 hM hfk hx hii hb0
 generalize hbs : objB zs j s = bs at *
 have HBS := Lib.hid hbs
 clear hbs
 generalize hdb : decB zs j k s = db at HC
 have HDB := Lib.hid hdb
 clear hdb
 go_enter Tryz.func66, Tryz.ntmps66
 have m1 : True := trivial
 go_wp2_with (first
   | (go_at_call 36; clear m1; refine G1.out.mono ?_; rintro e w1 ⟨rfl, rfl⟩)
   | (go_at_call 36; refine G2.out.mono ?_; rintro e w1 ⟨rfl, rfl⟩)
   | (go_at_call 105; refine (HW.out _).mono ?_; rintro e w1 ⟨rfl, rfl⟩))
 go_loopw [13, 14, 15] (fun i _ _ wr => ∃ (t : Nat) (v : Value), t <= M /\ i = .int .i64 t /\ Below w.heap.size w wr /\ Blk wr (w.heap.size + 1) 83 #[.int .i64 k, v, .slice none 0 0, .slice none 0 0] /\ Blk wr w.heap.size 83 #[.int .i64 0, .slice none 0 0, .slice none 0 0, .slice none 0 0] /\ wr.ownsRow w.heap.size 24 1 v t (cellsOf .u64 (wrds t (bs.drop 16)))) (fun i _ _ _ => M - (intOf i).toNat)
 case atStart => exact ⟨0, _, Nat.zero_le _, rfl, hb1, B0, B1, World.ownsRow_nil _ _ _ _⟩
 case round =>
   clear B0 B1 hb1
   obtain ⟨t, v, ht, rfl, hbel, hX, hR, ho⟩ := hrel
   by_cases hlt : t < M
   · have x1 := hX.cell 1
     have xf := hX.frozen 1
     obtain ⟨A1, c1, rfl, _, _⟩ := own_form ho
     have s3 : t + 1 <= maxLen := by unfold maxLen; omega
     have s4 : w.heap.size <= (wr.alloc (.cells #[Value.int IntKind.u64 (lev ((bs.drop (16 + 8 * t)).take 8))] 24)).heap.size := by have := hbel.size; simp; omega
     have ha : Below wr.heap.size wr (wr.alloc (.cells #[Value.int IntKind.u64 (lev ((bs.drop (16 + 8 * t)).take 8))] 24)) := (Below.refl _ _).alloc (Nat.le_refl _) _
     have hoa := own_below ho ha
     go_wp2_with (first
       | (go_at_call 36; refine (GW.out wr hbel t _ (by have h := HF2.out; omega) (by omega)).mono ?_; rintro e w1 ⟨rfl, rfl⟩; rw [GE.out t (by have h := HF2.out; omega)])
       | (at_builtin; refine wpList_append_any _ rfl _ _ _ rfl w.heap.size 24 i8 (.int .u64 0) 1 8 Tryz.underlying81 hi8 hz80 hz81 hz82 rfl (Nat.lt_succ_self 0) (.slice A1 t c1) t (cellsOf .u64 (wrds t (bs.drop 16))) rfl hoa (wr.heap.size + 1) _ 1 1 (cellsOf .u64 [lev ((bs.drop (16 + 8 * t)).take 8)]) rfl (Reads.new1 _ _ _) (one_oneCell _ _) s3 (by omega) s4 ?_; intro v3 w3 ho3 hg3 hat3; obtain ⟨A5, c5, rfl, -, -⟩ := own_form ho3; obtain ⟨y1, y2, y3, y4, y5, y6⟩ := fld_app (i := 1) hbel hX hR (by omega) (by omega) ha ho hg3 ho3 hne1; have F1 := Lib.hid y1; have F2 := Lib.hid y2; have F3 := Lib.hid y3; have F4 := Lib.hid y4; have xx : w3.frozen? ⟨w.heap.size + 1, 1, none⟩ = false := (by have c13 := hX.chg ((Chg.of_below ha (Nat.le_refl _) (fun b => Value.ownBlock (.slice A1 t c1) = some b)).trans (Chg.of_grown hg3) (fun _ _ e => e)) y6; exact c13.frozen 1); have xc : w3.cell? ⟨w.heap.size + 1, 1, none⟩ = some (.slice A1 t c1) := (by have c13 := hX.chg ((Chg.of_below ha (Nat.le_refl _) (fun b => Value.ownBlock (.slice A1 t c1) = some b)).trans (Chg.of_grown hg3) (fun _ _ e => e)) y6; rw [c13.cell 1]; rfl); clear y1 y2 y3 y4 y5 y6 ho3 hg3 hat3 hX hR ho hoa ha))
     go_roundw
     case rel =>
       refine ⟨t + 1, _, by omega, by go_num, F1.out, by simpa using F2.out, F3.out, ?_⟩
       have h := F4.out
       rw [<- cellsOf_append, <- List.drop_drop, <- wrds_snoc] at h
       exact h
     case measure => simp [intOf]; omega
   · have e : t = M := by omega
     subst e
     rw [<- HDW.out] at ho
     obtain ⟨A1, c1, rfl, hc1, hc2⟩ := own_form ho
     have u1 : ¬ (k : Int) < 3 := by omega
     have u2 : (2 : Int) < k := by omega
     obtain ⟨F0, hF0⟩ : ∃ F0 : Nat, (j : Int) + 16 + 8 * (t : Int) = (F0 : Int) := ⟨j + 16 + 8 * t, by omega⟩
     obtain ⟨En, hEn⟩ : ∃ En : Nat, (j : Int) + (s : Int) = (En : Int) := ⟨j + s, by omega⟩
     have HF0 : Hid (F0 = j + F /\ En = j + s) := by show _ /\ _; have h := HF2.out; omega
     have HTM : Hid (F = 16 + 8 * t) := HF2.out
     go_wp2
     go_loopw [16, 18, 19] (fun fr _ _ wr => ∃ (u Fr : Nat) (v : Value), fr = .int .i64 Fr /\ Hid (Fr = j + F + 8 * u /\ 8 * u <= s - F) /\ Below w.heap.size w wr /\ Blk wr (w.heap.size + 1) 83 #[.int .i64 k, .slice A1 t c1, .slice none 0 0, v] /\ Blk wr w.heap.size 83 #[.int .i64 0, .slice none 0 0, .slice none 0 0, .slice none 0 0] /\
       wr.ownsRow w.heap.size 24 1 (.slice A1 t c1) t (cellsOf .u64 (dW bs k)) /\ wr.ownsRow w.heap.size 24 1 v u (cellsOf .u64 (wrds u (bs.drop F))) /\ Hid (∀ g, Value.ownBlock (.slice A1 t c1) = some g -> v.ownBlock ≠ some g)) (fun fr _ _ _ => En - (intOf fr).toNat)
     case atStart => exact ⟨0, F0, _, rfl, by show _ /\ _; have h := HF0.out; omega, hbel, hX, hR, ho, World.ownsRow_nil _ _ _ _, fun g e1 e2 => by cases e2⟩
     case round =>
       clear hbel hX hR ho
       obtain ⟨u, Fr, v, rfl, hu, hbel, hX, hR, ho, hoi, hdis⟩ := hrel
       by_cases hlt : (8 : Int) <= (En : Int) - (Fr : Int)
       · have x3 := hX.cell 3
         have hu8 : 8 * u + 8 <= s - F := by have h := hu.out; have h2 := HF0.out; omega
         have HU8 := Lib.hid hu8
         have hub : u + 1 <= 1000000000000000 := by omega
         obtain ⟨A5, c5, rfl, -, -⟩ := own_form hoi
         have s3 : u + 1 <= maxLen := by unfold maxLen; omega
         have hub8 : (u + 1) * 8 <= 140737488355328 := by omega
         have s4 : w.heap.size <= (wr.alloc (.cells #[Value.int IntKind.u64 (lev ((bs.drop (16 + 8 * (t + u))).take 8))] 24)).heap.size := by have := hbel.size; simp; omega
         have ha : Below wr.heap.size wr (wr.alloc (.cells #[Value.int IntKind.u64 (lev ((bs.drop (16 + 8 * (t + u))).take 8))] 24)) := (Below.refl _ _).alloc (Nat.le_refl _) _
         have hoa := own_below hoi ha
         have HOW := Lib.hid ho
         have HOX := Lib.hid (own_blk_ne ho hX hne1)
         have HGT := Lib.hid (GW.out wr hbel (t + u) (Fr : Int) (by have h := HTM.out; omega) (by have h := HTM.out; have h2 := hu.out; omega))
         have HGE := Lib.hid (GE.out (t + u) (by have h := HTM.out; omega))
         clear hu8 ho
         go_wp2_with (first
           | (go_at_call 36; refine HGT.out.mono ?_; rintro e w1 ⟨rfl, rfl⟩; rw [HGE.out])
           | (at_builtin; refine wpList_append_any _ rfl _ _ _ rfl w.heap.size 24 i8 (.int .u64 0) 1 8 Tryz.underlying81 hi8 hz80 hz81 hz82 rfl (Nat.lt_succ_self 0) (.slice A5 u c5) u (cellsOf .u64 (wrds u (bs.drop F))) rfl hoa (wr.heap.size + 1) _ 1 1 (cellsOf .u64 [lev ((bs.drop (16 + 8 * (t + u))).take 8)]) rfl (Reads.new1 _ _ _) (one_oneCell _ _) s3 hub8 s4 ?_; intro v3 w3 ho3 hg3 hat3; obtain ⟨A6, c6, rfl, -, -⟩ := own_form ho3; obtain ⟨y1, y2, y3, y4, y5, y6⟩ := fld_app (i := 3) hbel hX hR (by omega) (by omega) ha hoi hg3 ho3 hne1; have F1 := Lib.hid y1; have F2 := Lib.hid y2; have F3 := Lib.hid y3; have F4 := Lib.hid y4; have F5 := Lib.hid y5; have F7 := Lib.hid hat3; have c13 := hX.chg ((Chg.of_below ha (Nat.le_refl _) (fun b => Value.ownBlock (.slice A5 u c5) = some b)).trans (Chg.of_grown hg3) (fun _ _ e => e)) y6; have xx := c13.frozen 3; have xc := c13.cell 3; clear c13 y1 y2 y3 y4 y5 y6 ho3 hg3 hat3 hX hR hoi hoa ha))
         go_roundw
         case rel =>
           refine ⟨u + 1, Fr + 8, _, by go_num, by show _ /\ _; have h := hu.out; have h2 := HU8.out; omega, F1.out, by simpa using F2.out, F3.out, ?_, ?_, ?_⟩
           · exact own_chg HOW.out F5.out (fun g e1 e2 => by
               rcases e2 with e2 | e2
               · subst e2; exact HOX.out e1
               · exact hdis.out g e1 e2)
           · have h := F4.out
             rw [<- cellsOf_append, show 16 + 8 * (t + u) = F + 8 * u by have h := HTM.out; omega, <- List.drop_drop, <- wrds_snoc] at h
             exact h
           · intro g e1 e2
             rcases F7.out with e | e
             · exact hdis.out g e1 (e ▸ e2)
             · rw [e] at e2; injection e2 with e2
               have := (HOW.out.lt g e1).2
               simp at e2
               omega
         case measure => have h := HU8.out; have h2 := hu.out; have h3 := HF0.out; simp [intOf]; omega
       · have fr1 : (Fr : Int) <= (En : Int) := by have h := hu.out; have h2 := HF0.out; omega
         have t8 : ¬ (8 : Int) <= (En : Int) - (Fr : Int) := hlt
         have t7 : decide ((8 : Int) <= (En : Int) - (Fr : Int)) = false := by simpa using hlt
         have eq : u = (s - F) / 8 := by have h := hu.out; have h2 := HF0.out; omega
         rw [eq, <- HDI.out] at hoi
         rw [<- eq] at hoi
         have HEQ := Lib.hid eq
         have HLT := Lib.hid hlt
         clear eq hlt hdis
         obtain ⟨A5, c5, rfl, -, -⟩ := own_form hoi
         have ho2 := World.ownsRow_nil wr w.heap.size 5 1
         rw [show ([] : List Value) = cellsOf .u8 (dR bs k) by rw [HDR.out]; rfl] at ho2
         have ho4 := hoi
         clear hoi
         have HEN := Lib.hid (HX.out ▸ roenc_any (k : Int) A1 t c1 (dW bs k) none 0 0 (dR bs k) A5 u c5 (dI bs k) wr ⟨Reads.of_own ho, Reads.of_own ho2, Reads.of_own ho4, own_caps ho, own_caps ho2, own_caps ho4⟩ (Nat.le_refl _) (dW_bd HOB.out k) (dI_bd HOB.out k))
         have HxB : Hid (AreB x) := HX.out ▸ encR_bytes (dR_bytes HOB.out)
         have x0 := hX.cell 0
         have x1 := hX.cell 1
         have x2 := hX.cell 2
         have x3 := hX.cell 3
         have HBE := Lib.hid hbel
         have HXE := Lib.hid hX
         have HRE := Lib.hid hR
         have HO1 := Lib.hid ho
         have HO2 := Lib.hid ho2
         have HO4 := Lib.hid ho4
         obtain ⟨N, hN⟩ : ∃ N, N = x.length := ⟨_, rfl⟩
         have HN := Lib.hid hN
         rw [<- hN] at HC
         clear hN hbel hX hR ho ho2 ho4
         go_upto_region 22 with (go_at_call 106; refine HEN.out.mono ?_; rintro e w9 ⟨A9, N9, c9, rfl, hN9, ho9, hb9, hnc9, hcc9⟩; rw [<- HN.out] at hN9; replace hN9 := hN9.symm; subst hN9; have HB9 := Lib.hid (HBE.out.trans (hb9.mono HBE.out.size)); have HR9 := Lib.hid (Reads.of_own ho9); have HRR := HRE.out.below hb9 (by have := HBE.out.size; have := HRE.out.lt; omega); have HXX := HXE.out.below hb9 HXE.out.lt; have HBQ := Lib.hid hb9; clear ho9 hb9)
         have z0 := HXX.cell 0
         have z1 := HXX.cell 1
         have z2 := HXX.cell 2
         have z3 := HXX.cell 3
         have q0 := HRR.cell 0
         have q1 := HRR.cell 1
         have q2 := HRR.cell 2
         have q3 := HRR.cell 3
         have qf0 := HRR.frozen 0
         have qf1 := HRR.frozen 1
         have qf2 := HRR.frozen 2
         have qf3 := HRR.frozen 3
         have HRB := Lib.hid HRR
         clear HRR HXX
         rcases HC.out with ⟨hdt, f0, fN, f1, fx⟩ | ⟨hdt, f0 | ⟨f0, f1⟩ | ⟨f0, f1, fx⟩⟩
         · have g1 : ((N : Int) == 0) = false := by simp; omega
           have g2 : ¬ (N : Int) = 0 := by omega
           have g3 : ¬ (n : Int) - j < N := by omega
           have g4 : (j : Int) <= (j : Int) + N := by omega
           have g5 : (j : Int) + N <= c := by omega
           have HFN := Lib.hid fN
           have hsb := RS.out w9 HB9.out N f1
           rw [Nat.add_sub_cancel_left] at hsb
           have HSUB := Lib.hid hsb
           clear hsb
           have HFX := Lib.hid fx
           have HDT := Lib.hid hdt
           clear f0 fN f1 fx hdt
           go_wp2_with (go_at_call 10; refine (same_any A9 A3 N N c9 _ x ((zs.drop j).take N) _ HR9.out HSUB.out HxB.out ((HZB.out.drop j).take _)).mono ?_; rintro e w10 ⟨rfl, rfl⟩; rw [decide_eq_true HFX.out])
           obtain ⟨p1, p2⟩ := put4 (a0 := .int .i64 k) (a1 := .slice A1 t c1) (a2 := .slice none 0 0) (a3 := .slice A5 u c5) HRB.out
           refine bodyPost_ret (results_cell3 rfl _ _ w.heap.size 83 _ (0, 0) _ rfl p1 Tryz.underlying83 rfl (by kernel_rfl)) rfl ?_
           have hs9 := HB9.out.size
           refine ⟨HB9.out.trans (p2.below hs9 (fun b _ e => by omega)), .inl ⟨HDB.out.trans HDT.out, A1, t, c1, none, 0, 0, A5, u, c5, by rw [HFN.out]; rfl, ?_⟩⟩
           have r1 := own_below HO1.out HBQ.out
           have r2 := own_below HO2.out HBQ.out
           have r4 := own_below HO4.out HBQ.out
           have o1 := own_chg r1 p2 (fun g e1 e2 => by subst e2; exact own_blk_ne r1 HRB.out hne1 e1)
           have o2 := own_chg r2 p2 (fun g e1 e2 => by subst e2; exact own_blk_ne r2 HRB.out hne2 e1)
           have o4 := own_chg r4 p2 (fun g e1 e2 => by subst e2; exact own_blk_ne r4 HRB.out hne1 e1)
           rw [HBS.out]
           exact ⟨o1, o2, o4⟩
         · have g1 : ((N : Int) == 0) = true := by simp; omega
           have HDT := Lib.hid hdt
           subst f0
           clear hdt
           go_wp2
           obtain ⟨p1, p2⟩ := put4 (a0 := .int .i64 0) (a1 := .slice none 0 0) (a2 := .slice none 0 0) (a3 := .slice none 0 0) HRB.out
           refine bodyPost_ret (results_cell3 rfl _ _ w.heap.size 83 _ (0, 0) _ rfl p1 Tryz.underlying83 rfl (by kernel_rfl)) rfl ?_
           have hs9 := HB9.out.size
           exact ⟨HB9.out.trans (p2.below hs9 (fun b _ e => by omega)), .inr ⟨HDB.out.trans HDT.out, rfl⟩⟩
         · have g1 : ((N : Int) == 0) = false := by simp; omega
           have g2 : ¬ (N : Int) = 0 := by omega
           have g3 : (n : Int) - j < N := by omega
           have HDT := Lib.hid hdt
           clear hdt f0 f1
           go_wp2
           obtain ⟨p1, p2⟩ := put4 (a0 := .int .i64 0) (a1 := .slice none 0 0) (a2 := .slice none 0 0) (a3 := .slice none 0 0) HRB.out
           refine bodyPost_ret (results_cell3 rfl _ _ w.heap.size 83 _ (0, 0) _ rfl p1 Tryz.underlying83 rfl (by kernel_rfl)) rfl ?_
           have hs9 := HB9.out.size
           exact ⟨HB9.out.trans (p2.below hs9 (fun b _ e => by omega)), .inr ⟨HDB.out.trans HDT.out, rfl⟩⟩
         · have g1 : ((N : Int) == 0) = false := by simp; omega
           have g2 : ¬ (N : Int) = 0 := by omega
           have g3 : ¬ (n : Int) - j < N := by omega
           have g4 : (j : Int) <= (j : Int) + N := by omega
           have g5 : (j : Int) + N <= c := by omega
           have hsb := RS.out w9 HB9.out N f1
           rw [Nat.add_sub_cancel_left] at hsb
           have HSUB := Lib.hid hsb
           clear hsb
           have HFX := Lib.hid fx
           have HDT := Lib.hid hdt
           clear f0 f1 fx hdt
           go_wp2_with (go_at_call 10; refine (same_any A9 A3 N N c9 _ x ((zs.drop j).take N) _ HR9.out HSUB.out HxB.out ((HZB.out.drop j).take _)).mono ?_; rintro e w10 ⟨rfl, rfl⟩; rw [decide_eq_false HFX.out])
           obtain ⟨p1, p2⟩ := put4 (a0 := .int .i64 0) (a1 := .slice none 0 0) (a2 := .slice none 0 0) (a3 := .slice none 0 0) HRB.out
           refine bodyPost_ret (results_cell3 rfl _ _ w.heap.size 83 _ (0, 0) _ rfl p1 Tryz.underlying83 rfl (by kernel_rfl)) rfl ?_
           have hs9 := HB9.out.size
           exact ⟨HB9.out.trans (p2.below hs9 (fun b _ e => by omega)), .inr ⟨HDB.out.trans HDT.out, rfl⟩⟩
theorem may_one {k s : Nat} (h : mayB k s = true) : 1 <= k := by
 rcases Nat.eq_zero_or_pos k with h0 | h0
 · subst h0
   have e1 : hasI ((0 : Nat) : Int) = false := rfl
   have e2 : mostN ((0 : Nat) : Int) = 0 := rfl
   unfold mayB at h
   rw [e1, e2] at h
   simp at h
   omega
 · exact h0
theorem rodec_main {B : Nat} (A : Option Addr) (n c j k s : Nat) (zs : List Int) (w : World) (hr : Reads w B 1 A n (cellsOf .u8 zs)) (hB : B <= w.heap.size) (hz : AreB zs) (hl : n <= c) (hcap : c <= 9223372036854775807) (hn : n <= 140737488355328)
 (h : DecAt zs j k s) (hk1 : 1 <= k) (hs : frontN k <= s) :
 Calls Tryz.prog 66 #[.slice A n c, .int .i64 j] w (RDec zs j k s w) := by
 have h4 := h.kk
 by_cases hk : k <= 2
 · exact rodec_raw A n c j k s zs w hr hB hz hl hcap hn h ⟨hk1, hk⟩ hs
 · exact rodec_items A n c j k s zs w hr hB hz hl hcap hn h ⟨by omega, h4⟩ hs
theorem rodec_own {B : Nat} (A : Option Addr) (n c j k s : Nat) (zs : List Int) (w : World) (hr : Reads w B 1 A n (cellsOf .u8 zs)) (hB : B <= w.heap.size) (hz : AreB zs) (hl : n <= c) (hcap : c <= 9223372036854775807) (hn : n <= 140737488355328)
 (h : DecAt zs j k s) (hd : decB zs j k s = true) :
 Calls Tryz.prog 66 #[.slice A n c, .int .i64 j] w fun e w' => ∃ A1 n1 c1 A2 n2 c2 A3 n3 c3, e = .returned (.tuple #[obV k A1 n1 c1 A2 n2 c2 A3 n3 c3, .int .i64 (j + (s + padn s 8) : Nat), .bool true]) /\ Below w.heap.size w w' /\
 ObOwn w' w.heap.size A1 n1 c1 (dW (objB zs j s) k) A2 n2 c2 (dR (objB zs j s) k) A3 n3 c3 (dI (objB zs j s) k) := by
 have hm : mayB k s = true := by unfold decB at hd; simp only [Bool.and_eq_true] at hd; exact hd.1.1
 refine (rodec_main A n c j k s zs w hr hB hz hl hcap hn h (may_one hm) (right_may h hm).2.1).mono fun e w' ⟨hb, hh⟩ => ?_
 rcases hh with ⟨_, A1, n1, c1, A2, n2, c2, A3, n3, c3, h1, h2⟩ | ⟨h1, _⟩
 · exact ⟨A1, n1, c1, A2, n2, c2, A3, n3, c3, h1, hb, h2⟩
 · rw [hd] at h1; cases h1
theorem rodec_yes {B : Nat} (A : Option Addr) (n c j k s : Nat) (zs : List Int) (w : World) (hr : Reads w B 1 A n (cellsOf .u8 zs)) (hB : B <= w.heap.size) (hz : AreB zs) (hl : n <= c) (hcap : c <= 9223372036854775807) (hn : n <= 140737488355328)
 (h : DecAt zs j k s) (hd : decB zs j k s = true) :
 Calls Tryz.prog 66 #[.slice A n c, .int .i64 j] w fun e w' => ∃ A1 n1 c1 A2 n2 c2 A3 n3 c3, e = .returned (.tuple #[obV k A1 n1 c1 A2 n2 c2 A3 n3 c3, .int .i64 (j + (s + padn s 8) : Nat), .bool true]) /\ Below w.heap.size w w' /\
 ObR w' w'.heap.size A1 n1 c1 (dW (objB zs j s) k) A2 n2 c2 (dR (objB zs j s) k) A3 n3 c3 (dI (objB zs j s) k) := (rodec_own A n c j k s zs w hr hB hz hl hcap hn h hd).mono fun e w' ⟨A1, n1, c1, A2, n2, c2, A3, n3, c3, h1, hb, h2⟩ => ⟨A1, n1, c1, A2, n2, c2, A3, n3, c3, h1, hb, h2.reads⟩
theorem rodec_no {B : Nat} (A : Option Addr) (n c : Nat) (at_ : Int) (zs : List Int) (w : World) (hr : Reads w B 1 A n (cellsOf .u8 zs)) (hB : B <= w.heap.size) (hz : AreB zs) (hl : n <= c) (hcap : c <= 9223372036854775807) (hn : n <= 140737488355328) (h0 : -9223372036854775808 <= at_) (h1 : at_ <= 9223372036854775807)
 (hno : ∀ j k s, at_ = (j : Nat) -> DecAt zs j k s -> decB zs j k s = false) :
 Calls Tryz.prog 66 #[.slice A n c, .int .i64 at_] w fun e w' => e = .returned (.tuple #[obZ, .int .i64 0, .bool false]) /\ Below w.heap.size w w' := by
 by_cases h : ∃ j k s, at_ = (j : Nat) /\ DecAt zs j k s /\ 1 <= k
 · obtain ⟨j, k, s, rfl, h, hk⟩ := h
   by_cases hs : s < frontN k
   · exact rodec_short A n c j k s zs w hr hB hz hl hcap hn h hk hs
   · refine (rodec_main A n c j k s zs w hr hB hz hl hcap hn h hk (by omega)).mono fun e w' ⟨hb, hh⟩ => ?_
     rcases hh with ⟨hd, _⟩ | ⟨_, he⟩
     · rw [hno j k s rfl h] at hd; cases hd
     · exact ⟨he, hb⟩
 · refine rodec_no1 A n c at_ zs w hr hB hz hl hcap hn h0 h1 (fun j k s e hd => ?_)
   rcases Nat.lt_or_ge k 1 with hk | hk
   · exact hk
   · exact absurd ⟨j, k, s, e, hd, hk⟩ h
end Go.Proofs.YtaeegcohimflbaaGreat
