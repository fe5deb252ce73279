import Derived.Test.YtgcmbgniaffdlaaGreatLLe
import Derived.Test.YtgcmbgniaffdlaaGreatLCr
import Derived.Lib.SmallJoins
set_option linter.unusedVariables false
set_option maxRecDepth 100000
set_option linter.unusedSimpArgs false
namespace Go.Proofs.YtgcmbgniaffdlaaGreat
def magicB : List Int := [76, 79, 71, 66, 79, 79, 75, 49]
def rightH (d f : Int) : Bool := decide (1 <= d) && decide (d <= 256) && decide (1 <= f) && decide (f <= 256)
def wordsH (i k d f m : Int) : List Int := magicB ++ wordsB [i, k, d, f, m]
def encH (i k d f m : Int) : List Int := wordsH i k d f m ++ bts (crcAdd 0 (wordsH i k d f m) : Nat) 4 ++ List.replicate 12 0
theorem magicB_bytes : AreB magicB := fun z hz => by simp [magicB] at hz; omega
theorem wordsH_length (i k d f m : Int) : (wordsH i k d f m).length = 48 := by unfold wordsH; rw [List.length_append, wordsB_length]; rfl
theorem wordsH_bytes (i k d f m : Int) : AreB (wordsH i k d f m) := magicB_bytes.append (wordsB_bytes _)
theorem encH_length (i k d f m : Int) : (encH i k d f m).length = 64 := by
 unfold encH; rw [List.length_append, List.length_append, wordsH_length, bts_length, List.length_replicate]; rfl
theorem encH_bytes (i k d f m : Int) : AreB (encH i k d f m) := ((wordsH_bytes _ _ _ _ _).append (bts_bytes _ _)).append (AreB.zeros _)
theorem lev8_bts {n : Int} (h : 0 <= n /\ n < 18446744073709551616) : lev (bts n 8) = n := lev_enb 8 n h.1 (by
 have : (256 : Int) ^ 8 = 18446744073709551616 := by decide
 omega)
theorem encH_word (i k d f m : Int) (r : List Int) (j : Nat) (hj : j < 5) : (((encH i k d f m ++ r).drop (8 + 8 * j)).take 8) = bts ([i, k, d, f, m].getD j 0) 8 := by
 have l8 : ∀ n : Int, (bts n 8).length = 8 := fun n => by rw [bts_length]; rfl
 have e : encH i k d f m ++ r = magicB ++ (bts i 8 ++ (bts k 8 ++ (bts d 8 ++ (bts f 8 ++ (bts m 8 ++ (bts (crcAdd 0 (wordsH i k d f m) : Nat) 4 ++ (List.replicate 12 0 ++ r))))))) := by
   unfold encH wordsH
   simp [wordsB, List.append_assoc]
 rw [e, <- List.drop_drop, List.drop_left' (show magicB.length = 8 from rfl)]
 match j, hj with
 | 0, _ => exact List.take_left' (l8 _)
 | 1, _ => rw [show 8 * 1 = 8 from rfl, List.drop_left' (l8 _)]; exact List.take_left' (l8 _)
 | 2, _ => rw [show 8 * 2 = 8 + 8 from rfl, <- List.drop_drop, List.drop_left' (l8 _), List.drop_left' (l8 _)]; exact List.take_left' (l8 _)
 | 3, _ => rw [show 8 * 3 = 8 + 8 + 8 from rfl, <- List.drop_drop, <- List.drop_drop, List.drop_left' (l8 _), List.drop_left' (l8 _), List.drop_left' (l8 _)]; exact List.take_left' (l8 _)
 | 4, _ => rw [show 8 * 4 = 8 + 8 + 8 + 8 from rfl, <- List.drop_drop, <- List.drop_drop, <- List.drop_drop, List.drop_left' (l8 _), List.drop_left' (l8 _), List.drop_left' (l8 _), List.drop_left' (l8 _)]; exact List.take_left' (l8 _)
 | n + 5, h => omega
def wordAt (zs : List Int) (j : Nat) : Int := lev ((zs.drop (8 + 8 * j)).take 8)
def isH (zs : List Int) : Bool :=
 decide (64 <= zs.length) && rightH (wordAt zs 2) (wordAt zs 3) && decide (encH (wordAt zs 0) (wordAt zs 1) (wordAt zs 2) (wordAt zs 3) (wordAt zs 4) = zs.take 64)
theorem isH_enc {i k d f m : Int} (hi : 0 <= i /\ i < 18446744073709551616) (hk : 0 <= k /\ k < 18446744073709551616) (hm : 0 <= m /\ m < 18446744073709551616) (hr : rightH d f = true) (r : List Int) :
 isH (encH i k d f m ++ r) = true /\ wordAt (encH i k d f m ++ r) 0 = i /\ wordAt (encH i k d f m ++ r) 1 = k /\ wordAt (encH i k d f m ++ r) 2 = d /\ wordAt (encH i k d f m ++ r) 3 = f /\ wordAt (encH i k d f m ++ r) 4 = m := by
 have hr2 : 1 <= d /\ d <= 256 /\ 1 <= f /\ f <= 256 := by simp [rightH] at hr; omega
 have w : ∀ j, j < 5 -> wordAt (encH i k d f m ++ r) j = lev (bts ([i, k, d, f, m].getD j 0) 8) := fun j hj => by unfold wordAt; rw [encH_word i k d f m r j hj]
 have w0 : wordAt (encH i k d f m ++ r) 0 = i := (w 0 (by omega)).trans (lev8_bts hi)
 have w1 : wordAt (encH i k d f m ++ r) 1 = k := (w 1 (by omega)).trans (lev8_bts hk)
 have w2 : wordAt (encH i k d f m ++ r) 2 = d := (w 2 (by omega)).trans (lev8_bts (n := d) ⟨by omega, by omega⟩)
 have w3 : wordAt (encH i k d f m ++ r) 3 = f := (w 3 (by omega)).trans (lev8_bts (n := f) ⟨by omega, by omega⟩)
 have w4 : wordAt (encH i k d f m ++ r) 4 = m := (w 4 (by omega)).trans (lev8_bts hm)
 refine ⟨?_, w0, w1, w2, w3, w4⟩
 unfold isH
 rw [w0, w1, w2, w3, w4, hr, List.take_left' (encH_length _ _ _ _ _)]
 simp [encH_length]
open Go.RowKit
abbrev hdV (i k d f m : Int) : Value := .agg #[.int .u64 i, .int .u64 k, .int .i64 d, .int .i64 f, .int .u64 m]
abbrev HdAt (w : World) (g : Nat) (i k d f m : Int) : Prop :=
 w.cell? ⟨g, 0, none⟩ = some (.int .u64 i) /\ w.cell? ⟨g, 1, none⟩ = some (.int .u64 k) /\ w.cell? ⟨g, 2, none⟩ = some (.int .i64 d) /\ w.cell? ⟨g, 3, none⟩ = some (.int .i64 f) /\ w.cell? ⟨g, 4, none⟩ = some (.int .u64 m)
theorem hdAt_blk {w : World} {g : Nat} {t : TypeId} {i k d f m : Int} (h : Blk w g t #[.int .u64 i, .int .u64 k, .int .i64 d, .int .i64 f, .int .u64 m]) : HdAt w g i k d f m :=
 ⟨by rw [h.cell]; rfl, by rw [h.cell]; rfl, by rw [h.cell]; rfl, by rw [h.cell]; rfl, by rw [h.cell]; rfl⟩
theorem hdAt_of {w w' : World} {t : TypeId} {i k d f m : Int}
 (h : Below (w.alloc (.cells #[.int .u64 i, .int .u64 k, .int .i64 d, .int .i64 f, .int .u64 m] t)).heap.size (w.alloc (.cells #[.int .u64 i, .int .u64 k, .int .i64 d, .int .i64 f, .int .u64 m] t)) w') : HdAt w' w.heap.size i k d f m :=
 hdAt_blk ((Blk.new w t _).below h (by simp))
theorem boxed (w : World) (o : Obj) : Below w.heap.size w (w.alloc o) := (Below.refl _ _).alloc (Nat.le_refl _) _
theorem hmay_any (v : Int) (w : World) : Calls Tryz.prog 77 #[.int .i64 v] w fun e w' => e = .returned (.bool (decide (1 <= v) && decide (v <= 256))) /\ w = w' := by
 by_cases h1 : 1 <= v
 · by_cases h2 : v <= 256
   · have HF : Hid (true = (decide (1 <= v) && decide (v <= 256))) := by show _ = _; simp [h1, h2]
     go_enter Tryz.func77, Tryz.ntmps77
     go_wp2
     go_ret
     exact ⟨ret_bool HF.out, rfl⟩
   · have HF : Hid (false = (decide (1 <= v) && decide (v <= 256))) := by show _ = _; simp [h1, h2]
     have t2 : decide (v <= 256) = false := by simp; omega
     clear h2
     go_enter Tryz.func77, Tryz.ntmps77
     go_wp2
     go_ret
     exact ⟨ret_bool HF.out, rfl⟩
 · have HF : Hid (false = (decide (1 <= v) && decide (v <= 256))) := by show _ = _; simp [h1]
   have t2 : decide (1 <= v) = false := by simp; omega
   clear h1
   go_enter Tryz.func77, Tryz.ntmps77
   go_wp2
   go_ret
   exact ⟨ret_bool HF.out, rfl⟩
theorem rightH_two (d f : Int) : rightH d f = ((decide (1 <= d) && decide (d <= 256)) && (decide (1 <= f) && decide (f <= 256))) := by unfold rightH; simp only [Bool.and_assoc]
theorem rightH_bd {d f : Int} (h : rightH d f = true) : 1 <= d /\ d <= 256 /\ 1 <= f /\ f <= 256 := by simp [rightH] at h; omega
theorem hright_any (i k d f m : Int) (w : World) : Calls Tryz.prog 41 #[hdV i k d f m] w fun e w' => e = .returned (.bool (rightH d f)) /\ Below w.heap.size w w' := by
 have M1 := Lib.hid (hmay_any d)
 have M2 := Lib.hid (hmay_any f)
 rw [rightH_two]
 generalize (decide (1 <= d) && decide (d <= 256)) = a at *
 generalize (decide (1 <= f) && decide (f <= 256)) = b at *
 have m1 : True := trivial
 cases a
 · go_enter Tryz.func41, Tryz.ntmps41
   go_wp2_with (go_at_call 77; refine (M1.out _).mono ?_; rintro e w1 ⟨rfl, rfl⟩)
   go_ret
   exact ⟨rfl, boxed _ _⟩
 · go_enter Tryz.func41, Tryz.ntmps41
   go_wp2_with (first
     | (go_at_call 77; clear m1; refine (M1.out _).mono ?_; rintro e w1 ⟨rfl, rfl⟩)
     | (go_at_call 77; refine (M2.out _).mono ?_; rintro e w1 ⟨rfl, rfl⟩))
   go_ret
   exact ⟨rfl, boxed _ _⟩
theorem hdata_any (i k d f m : Int) (w : World) : Calls Tryz.prog 98 #[hdV i k d f m] w fun e w' => e = .returned (.int .i64 256) /\ Below w.heap.size w w' := by
 go_enter Tryz.func98, Tryz.ntmps98
 go_wp2
 go_ret
 exact ⟨rfl, boxed _ _⟩
theorem hfield_any (i k d f m : Int) (w : World) (h0 : 0 <= d) (h1 : d <= 256) : Calls Tryz.prog 67 #[hdV i k d f m] w fun e w' => e = .returned (.int .i64 (256 + 8 * d)) /\ Below w.heap.size w w' := by
 have HB := Lib.hid (boxed w (.cells #[.int .u64 i, .int .u64 k, .int .i64 d, .int .i64 f, .int .u64 m] 29))
 have HA := Lib.hid (fun wx (hx : Below (w.alloc (.cells #[.int .u64 i, .int .u64 k, .int .i64 d, .int .i64 f, .int .u64 m] 29)).heap.size (w.alloc (.cells #[.int .u64 i, .int .u64 k, .int .i64 d, .int .i64 f, .int .u64 m] 29)) wx) => (hdAt_of hx : HdAt wx w.heap.size i k d f m))
 go_enter Tryz.func67, Tryz.ntmps67
 go_wp2_with fail
 have hb : Below (w.alloc (.cells #[.int .u64 i, .int .u64 k, .int .i64 d, .int .i64 f, .int .u64 m] 29)).heap.size (w.alloc (.cells #[.int .u64 i, .int .u64 k, .int .i64 d, .int .i64 f, .int .u64 m] 29)) (w.alloc (.cells #[.int .u64 i, .int .u64 k, .int .i64 d, .int .i64 f, .int .u64 m] 29)).drew := below_drewn (Below.refl _ _) 1
 have HK := Lib.hid (HA.out _ hb)
 go_region_held3 (fun w' => HdAt w' w.heap.size i k d f m)
   (first | assumption | exact HK.out | exact HA.out _ hb)
   ((go_at_call 98; refine (hdata_any _ _ _ _ _ _).mono ?_; rintro e wx ⟨rfl, hbx⟩; have hb := hb.trans (hbx.mono hb.size); clear hbx))
 go_wp2
 go_ret
 exact ⟨ret_int (by simp only [IntKind.wrap_i64]; omega), HB.out.trans (hb.mono HB.out.size)⟩
theorem hobjects_any (i k d f m : Int) (w : World) (h0 : 0 <= d) (h1 : d <= 256) (h2 : 0 <= f) (h3 : f <= 256) : Calls Tryz.prog 33 #[hdV i k d f m] w fun e w' => e = .returned (.int .i64 (256 + 8 * (d + f))) /\ Below w.heap.size w w' := by
 have HB := Lib.hid (boxed w (.cells #[.int .u64 i, .int .u64 k, .int .i64 d, .int .i64 f, .int .u64 m] 29))
 have HA := Lib.hid (fun wx (hx : Below (w.alloc (.cells #[.int .u64 i, .int .u64 k, .int .i64 d, .int .i64 f, .int .u64 m] 29)).heap.size (w.alloc (.cells #[.int .u64 i, .int .u64 k, .int .i64 d, .int .i64 f, .int .u64 m] 29)) wx) => (hdAt_of hx : HdAt wx w.heap.size i k d f m))
 go_enter Tryz.func33, Tryz.ntmps33
 go_wp2_with fail
 have hb : Below (w.alloc (.cells #[.int .u64 i, .int .u64 k, .int .i64 d, .int .i64 f, .int .u64 m] 29)).heap.size (w.alloc (.cells #[.int .u64 i, .int .u64 k, .int .i64 d, .int .i64 f, .int .u64 m] 29)) (w.alloc (.cells #[.int .u64 i, .int .u64 k, .int .i64 d, .int .i64 f, .int .u64 m] 29)).drew := below_drewn (Below.refl _ _) 1
 have HK := Lib.hid (HA.out _ hb)
 go_region_held3 (fun w' => HdAt w' w.heap.size i k d f m)
   (first | assumption | exact HK.out | exact HA.out _ hb)
   ((go_at_call 67; refine (hfield_any _ _ _ _ _ _ h0 h1).mono ?_; rintro e wx ⟨rfl, hbx⟩; have hb := hb.trans (hbx.mono hb.size); clear hbx))
 go_wp2
 go_ret
 exact ⟨ret_int (by simp only [IntKind.wrap_i64]; omega), HB.out.trans (hb.mono HB.out.size)⟩
theorem i64_and1 (n : Int) : bits .and .i64 n 1 = n % 2 := by
 have h1 : (BitVec.ofInt 64 1).toNat = 2 ^ 1 - 1 := by decide
 have key : (BitVec.ofInt 64 n &&& BitVec.ofInt 64 1).toNat = (n % ((2 ^ 64 : Nat) : Int)).toNat % 2 ^ 1 := by
   rw [BitVec.toNat_and, BitVec.toNat_ofInt, h1, Nat.and_two_pow_sub_one_eq_mod]
 show IntKind.i64.wrap ((BitVec.ofInt 64 n &&& BitVec.ofInt 64 1).toNat : Nat) = n % 2
 rw [key, IntKind.wrap_i64]
 omega
theorem hslot_any (n : Int) (w : World) : Calls Tryz.prog 76 #[.int .i64 n] w fun e w' => e = .returned (.int .i64 (64 * (1 + n % 2))) /\ w = w' := by
 by_cases h : n % 2 = 0
 · have t : bits .and .i64 n 1 = 0 := by rw [i64_and1, h]
   have HF : Hid ((64 : Int) = 64 * (1 + n % 2)) := by show _ = _; omega
   clear h
   go_enter Tryz.func76, Tryz.ntmps76
   go_wp2
   go_ret
   exact ⟨ret_int HF.out, rfl⟩
 · have t : bits .and .i64 n 1 = 1 := by rw [i64_and1]; omega
   have HF : Hid ((128 : Int) = 64 * (1 + n % 2)) := by show _ = _; omega
   clear h
   go_enter Tryz.func76, Tryz.ntmps76
   go_wp2
   go_ret
   exact ⟨ret_int HF.out, rfl⟩
def encHR (i k d f m : Int) : List Int := if rightH d f then encH i k d f m else []
theorem encHR_bytes (i k d f m : Int) : AreB (encHR i k d f m) := by
 unfold encHR
 split
 · exact encH_bytes _ _ _ _ _
 · exact AreB.nil
theorem words5 (w : World) (t : TypeId) (a b c d e : Int) : Reads (w.alloc (.cells #[.int .u64 a, .int .u64 b, .int .u64 c, .int .u64 d, .int .u64 e] t)) (w.heap.size + 1) 1 (some ⟨w.heap.size, 0, none⟩) 5 (cellsOf .u64 [a, b, c, d, e]) := Reads.newN _ _ _
theorem Reads.newF (w : World) (t : TypeId) (cs : Array Value) (fr : Nat × Nat) : Reads (w.alloc (.cells cs t fr)) (w.heap.size + 1) 1 (some ⟨w.heap.size, 0, none⟩) cs.size cs.toList := by
 refine ⟨by simp, fun _ => ⟨_, rfl, Nat.lt_succ_self _, fun j v hj => ?_⟩⟩
 have h := World.cell?_alloc_mark w cs t fr j
 have e : (⟨w.heap.size, 0, none⟩ : Addr).add j = ⟨w.heap.size, j, none⟩ := by unfold Addr.add; split <;> simp_all
 rw [e, h]; simpa using hj
abbrev magicC : Array Value := #[.int .u8 76, .int .u8 79, .int .u8 71, .int .u8 66, .int .u8 79, .int .u8 79, .int .u8 75, .int .u8 49]
theorem magicReads (w : World) (t : TypeId) (fr : Nat × Nat) : Reads (w.alloc (.cells magicC t fr)) (w.heap.size + 1) 1 (some ⟨w.heap.size, 0, none⟩) 8 (cellsOf .u8 magicB) := Reads.newF w t magicC fr
theorem WB.apart {w0 wx : World} {g : Nat} {v : Value} {zs : List Int} (h : WB w0 g v zs wx) : ¬ (wx.heap.size = g ∨ v.ownBlock = some wx.heap.size) := by
 rintro (e | e)
 · have := h.wr.blk.lt; omega
 · have := (h.wr.own.lt _ e).2; omega
set_option maxRecDepth 100000 in
set_option maxHeartbeats 2000000 in
theorem henc_yes (G : Nat) (i k d f m : Int) (w : World) (hr : rightH d f = true) (ht : IsTable w G) :
 Calls Tryz.prog 42 #[hdV i k d f m, .pointer (some ⟨G, 0, none⟩)] w (Told (encH i k d f m) w) := by
 have hbd := rightH_bd hr
 have R1 := Lib.hid (hright_any i k d f m)
 rw [hr] at R1
 have hwd : IntKind.u64.wrap d = d := by rw [IntKind.wrap_u64]; omega
 have hwf : IntKind.u64.wrap f = f := by rw [IntKind.wrap_u64]; omega
 have L1 : Hid (([] ++ magicB).length = 8) := rfl
 have L2 : Hid ([] ++ magicB ++ wordsB [i, k, d, f, m] = wordsH i k d f m) := rfl
 have L3 := Lib.hid (wordsH_length i k d f m)
 have LB := Lib.hid (wordsH_bytes i k d f m)
 have HZ : Hid (∀ s : Nat, s = crcAdd 0 (wordsH i k d f m) -> wordsH i k d f m ++ bts (s : Int) 4 ++ List.replicate (padn (wordsH i k d f m ++ bts (s : Int) 4).length 64) 0 = encH i k d f m) := fun s hs => by
   subst hs
   rw [List.length_append, wordsH_length, bts_length]
   rfl
 have HL : Hid (∀ s : Int, (wordsH i k d f m ++ bts s 4).length = 52) := fun s => by rw [List.length_append, wordsH_length, bts_length]; rfl
 have HE := Lib.hid (encH_length i k d f m)
 have HS := Lib.hid (crcAdd_lt (s := 0) (zs := wordsH i k d f m) (by omega) (wordsH_bytes i k d f m))
 obtain ⟨s, hs⟩ : ∃ s, Hid (s = crcAdd 0 (wordsH i k d f m)) := ⟨_, rfl⟩
 rw [<- hs.out] at HS
 have hs32 := HS.out
 have hws : IntKind.u64.wrap (s : Int) = s := by rw [IntKind.wrap_u64]; omega
 have T4 : (64 : Int) <= 4096 := by omega
 have HTB := Lib.hid (fun wx (hx : Below w.heap.size w wx) => (IsTable.below ht hx ht.lt : IsTable wx G))
 have m1 : True := trivial
 clear ht hr
 go_enter Tryz.func42, Tryz.ntmps42
 go_wp2_with (first
   | (go_at_call 41; refine (R1.out _).mono ?_; rintro e wR ⟨rfl, hbR⟩; have HbR : Below w.heap.size w wR := (boxed _ _).trans (hbR.mono (by simp)); have HO := Lib.hid (fun wx (hx : Below wR.heap.size wR wx) => hdAt_of (hbR.trans (hx.mono hbR.size))); have hg : wR.heap.size <= wR.heap.size := Nat.le_refl _; have kc := Joins.run_convert_bytes_const_at (P := Tryz.prog) (wR.alloc (.cells #[.slice none 0 0] 143)) 24 5 magicC 8 8 (wR.heap.size + 1) (by simp) Tryz.underlying24 Tryz.underlying5; have W0 := (nob wR).below (boxed _ (.cells magicC 5 (8, 9))); have q0 := magicReads (wR.alloc (.cells #[.slice none 0 0] 143)) 5 (8, 9); rw [World.size_alloc] at q0; clear hbR)
   | (go_at_call 78; refine (raw_any _ _ _ _ 8 8 magicB _ W0.wr q0 (by simp)).mono ?_; rintro e w1 ⟨rfl, hp1⟩; obtain ⟨v1, W1⟩ := W0.step hg hp1; obtain ⟨k10, k11, k12, k13, k14⟩ := HO.out _ W1.bel; have W2 := W1.below (boxed _ (.cells #[.int .u64 i, .int .u64 k, .int .u64 d, .int .u64 f, .int .u64 m] 27)); have hap := W1.apart; clear hp1)
   | (go_at_call 79; refine (words_any _ v1 _ _ 5 5 [i, k, d, f, m] _ W2.wr (words5 w1 27 i k d f m) (by simp) (fun _ ad e => by (injection e with e); subst e; exact hap) (by rw [L1.out]; omega)).mono ?_; rintro e w3 ⟨rfl, hp3⟩; rw [L2.out] at hp3; obtain ⟨v3, W3⟩ := W2.step hg hp3; clear hp3 hap)
   | (go_at_call 82; clear m1; refine (wdone_n _ 48 v3 _ _ W3.wr L3.out (by omega)).mono ?_; rintro e w4 ⟨A4, c4, rfl, hr4, hb4, hc41, hc42⟩; have W4 := W3.below hb4; have ht4 := HTB.out w4 (HbR.trans (W4.bel.mono HbR.size)))
   | (go_at_call 81; refine (crcSum_any G A4 48 c4 _ w4 ht4 hr4 LB.out hc41 hc42).mono ?_; rintro e w5 ⟨rfl, rfl⟩; rw [<- hs.out])
   | (go_at_call 80; refine (num_any _ v3 _ s 4 _ W4.wr (by rw [L3.out]; omega)).mono ?_; rintro e w6 ⟨rfl, hp6⟩; obtain ⟨v6, W6⟩ := W4.step hg hp6; clear hp6)
   | (go_at_call 83; refine (pad_any _ v6 _ 64 _ W6.wr T4 (by omega) (by rw [HL.out]; omega)).mono ?_; rintro e w7 ⟨rfl, hp7⟩; rw [HZ.out s hs.out] at hp7; obtain ⟨v7, W7⟩ := W6.step hg hp7; clear hp7)
   | (go_at_call 82; refine (wdone_any _ v7 _ _ W7.wr (by rw [HE.out]; omega)).mono ?_; rintro e w8 ⟨A', c', rfl, ho, hb, h1, h2⟩))
 go_ret
 have hb9 := HbR.trans (W7.bel.mono HbR.size)
 exact ⟨A', _, c', rfl, rfl, own_base ho hb9.size, hb9.trans (hb.mono hb9.size), h1, by unfold maxLen at h2; omega⟩
theorem henc_no (v : Value) (i k d f m : Int) (w : World) (hr : rightH d f = false) :
 Calls Tryz.prog 42 #[hdV i k d f m, v] w (Told [] w) := by
 have R1 := Lib.hid (hright_any i k d f m)
 rw [hr] at R1
 clear hr
 go_enter Tryz.func42, Tryz.ntmps42
 go_wp2_with (go_at_call 41; refine (R1.out _).mono ?_; rintro e wR ⟨rfl, hbR⟩)
 go_ret
 exact Told.nil _ _ ((boxed _ _).trans (hbR.mono (by simp)))
theorem henc_any (G : Nat) (i k d f m : Int) (w : World) (ht : IsTable w G) :
 Calls Tryz.prog 42 #[hdV i k d f m, .pointer (some ⟨G, 0, none⟩)] w (Told (encHR i k d f m) w) := by
 unfold encHR
 by_cases hr : rightH d f = true
 · rw [if_pos hr]; exact henc_yes G i k d f m w hr ht
 · rw [if_neg hr]; exact henc_no _ i k d f m w (by simpa using hr)
end Go.Proofs.YtgcmbgniaffdlaaGreat
