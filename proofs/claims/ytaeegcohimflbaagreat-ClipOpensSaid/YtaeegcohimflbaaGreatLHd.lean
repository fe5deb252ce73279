import Derived.Test.YtaeegcohimflbaaGreatLLe
import Derived.Test.YtaeegcohimflbaaGreatLCr
import Derived.Lib.SmallJoins
set_option linter.unusedVariables false
set_option maxRecDepth 100000
set_option linter.unusedSimpArgs false
namespace Go.Proofs.YtaeegcohimflbaaGreat
def magicB : List Int := [76, 79, 71, 66, 79, 79, 75, 49]
def rightH (d f : Int) : Bool := decide (1 <= d) && decide (d <= 256) && decide (1 <= f) && decide (f <= 256)
def wordsH (i k d f m : Int) : List Int := magicB ++ wordsB [i, k, d, f, m]
def encH (i k d f m : Int) : List Int := wordsH i k d f m ++ bts (crcAdd 0 (wordsH i k d f m) : Nat) 4 ++ List.replicate 12 0
theorem magicB_bytes : AreB magicB := fun z hz => by simp [magicB] at hz; omega
theorem wordsH_length (i k d f m : Int) : (wordsH i k d f m).length = 48 := by unfold wordsH; rw [List.length_append, wordsB_length]; rfl
theorem wordsH_bytes (i k d f m : Int) : AreB (wordsH i k d f m) := magicB_bytes.append (wordsB_bytes _)
theorem encH_length (i k d f m : Int) : (encH i k d f m).length = 64 := by
 unfold encH; rw [List.length_append, List.length_append, wordsH_length, bts_length, List.length_replicate]; rfl
theorem encH_bytes (i k d f m : Int) : AreB (encH i k d f m) := ((wordsH_bytes _ _ _ _ _).append (bts_bytes _ _)).append (AreB.zeros _)
theorem encH_word (i k d f m : Int) (r : List Int) (j : Nat) (hj : j < 5) : (((encH i k d f m ++ r).drop (8 + 8 * j)).take 8) = bts ([i, k, d, f, m].getD j 0) 8 := by
 have l8 : ∀ n : Int, (bts n 8).length = 8 := fun n => by rw [bts_length]; rfl
 have e : encH i k d f m ++ r = magicB ++ (bts i 8 ++ (bts k 8 ++ (bts d 8 ++ (bts f 8 ++ (bts m 8 ++ (bts (crcAdd 0 (wordsH i k d f m) : Nat) 4 ++ (List.replicate 12 0 ++ r))))))) := by
   unfold encH wordsH
   simp [wordsB, List.append_assoc]
 rw [e, <- List.drop_drop, List.drop_left' (show magicB.length = 8 from rfl)]
 match j, hj with
 | 0, _ => exact List.take_left' (l8 _)
 | 1, _ => rw [show 8 * 1 = 8 from rfl, List.drop_left' (l8 _)]; exact List.take_left' (l8 _)
 | 2, _ => rw [show 8 * 2 = 8 + 8 from rfl, <- List.drop_drop, List.drop_left' (l8 _), List.drop_left' (l8 _)]; exact List.take_left' (l8 _)
 | 3, _ => rw [show 8 * 3 = 8 + 8 + 8 from rfl, <- List.drop_drop, <- List.drop_drop, List.drop_left' (l8 _), List.drop_left' (l8 _), List.drop_left' (l8 _)]; exact List.take_left' (l8 _)
 | 4, _ => rw [show 8 * 4 = 8 + 8 + 8 + 8 from rfl, <- List.drop_drop, <- List.drop_drop, <- List.drop_drop, List.drop_left' (l8 _), List.drop_left' (l8 _), List.drop_left' (l8 _), List.drop_left' (l8 _)]; exact List.take_left' (l8 _)
 | n + 5, h => omega
def wordAt (zs : List Int) (j : Nat) : Int := lev ((zs.drop (8 + 8 * j)).take 8)
def isH (zs : List Int) : Bool :=
 decide (64 <= zs.length) && rightH (wordAt zs 2) (wordAt zs 3) && decide (encH (wordAt zs 0) (wordAt zs 1) (wordAt zs 2) (wordAt zs 3) (wordAt zs 4) = zs.take 64)
open Go.RowKit
abbrev hdV (i k d f m : Int) : Value := .agg #[.int .u64 i, .int .u64 k, .int .i64 d, .int .i64 f, .int .u64 m]
abbrev HdAt (w : World) (g : Nat) (i k d f m : Int) : Prop :=
 w.cell? ⟨g, 0, none⟩ = some (.int .u64 i) /\ w.cell? ⟨g, 1, none⟩ = some (.int .u64 k) /\ w.cell? ⟨g, 2, none⟩ = some (.int .i64 d) /\ w.cell? ⟨g, 3, none⟩ = some (.int .i64 f) /\ w.cell? ⟨g, 4, none⟩ = some (.int .u64 m)
theorem hdAt_blk {w : World} {g : Nat} {t : TypeId} {i k d f m : Int} (h : Blk w g t #[.int .u64 i, .int .u64 k, .int .i64 d, .int .i64 f, .int .u64 m]) : HdAt w g i k d f m :=
 ⟨by rw [h.cell]; rfl, by rw [h.cell]; rfl, by rw [h.cell]; rfl, by rw [h.cell]; rfl, by rw [h.cell]; rfl⟩
theorem hdAt_of {w w' : World} {t : TypeId} {i k d f m : Int}
 (h : Below (w.alloc (.cells #[.int .u64 i, .int .u64 k, .int .i64 d, .int .i64 f, .int .u64 m] t)).heap.size (w.alloc (.cells #[.int .u64 i, .int .u64 k, .int .i64 d, .int .i64 f, .int .u64 m] t)) w') : HdAt w' w.heap.size i k d f m :=
 hdAt_blk ((Blk.new w t _).below h (by simp))
theorem boxed (w : World) (o : Obj) : Below w.heap.size w (w.alloc o) := (Below.refl _ _).alloc (Nat.le_refl _) _
theorem hmay_any (v : Int) (w : World) : Calls Tryz.prog 55 #[.int .i64 v] w fun e w' => e = .returned (.bool (decide (1 <= v) && decide (v <= 256))) /\ w = w' := by
 by_cases h1 : 1 <= v
 · by_cases h2 : v <= 256
   · have HF : Hid (true = (decide (1 <= v) && decide (v <= 256))) := by show _ = _; simp [h1, h2]
     go_enter Tryz.func55, Tryz.ntmps55
     go_wp2
     go_ret
     exact ⟨ret_bool HF.out, rfl⟩
   · have HF : Hid (false = (decide (1 <= v) && decide (v <= 256))) := by show _ = _; simp [h1, h2]
     have t2 : decide (v <= 256) = false := by simp; omega
     clear h2
     go_enter Tryz.func55, Tryz.ntmps55
     go_wp2
     go_ret
     exact ⟨ret_bool HF.out, rfl⟩
 · have HF : Hid (false = (decide (1 <= v) && decide (v <= 256))) := by show _ = _; simp [h1]
   have t2 : decide (1 <= v) = false := by simp; omega
   clear h1
   go_enter Tryz.func55, Tryz.ntmps55
   go_wp2
   go_ret
   exact ⟨ret_bool HF.out, rfl⟩
theorem rightH_two (d f : Int) : rightH d f = ((decide (1 <= d) && decide (d <= 256)) && (decide (1 <= f) && decide (f <= 256))) := by unfold rightH; simp only [Bool.and_assoc]
theorem rightH_bd {d f : Int} (h : rightH d f = true) : 1 <= d /\ d <= 256 /\ 1 <= f /\ f <= 256 := by simp [rightH] at h; omega
theorem hright_any (i k d f m : Int) (w : World) : Calls Tryz.prog 27 #[hdV i k d f m] w fun e w' => e = .returned (.bool (rightH d f)) /\ Below w.heap.size w w' := by
 have M1 := Lib.hid (hmay_any d)
 have M2 := Lib.hid (hmay_any f)
 rw [rightH_two]
 generalize (decide (1 <= d) && decide (d <= 256)) = a at *
 generalize (decide (1 <= f) && decide (f <= 256)) = b at *
 have m1 : True := trivial
 cases a
 · go_enter Tryz.func27, Tryz.ntmps27
   go_wp2_with (go_at_call 55; refine (M1.out _).mono ?_; rintro e w1 ⟨rfl, rfl⟩)
   go_ret
   exact ⟨rfl, boxed _ _⟩
 · go_enter Tryz.func27, Tryz.ntmps27
   go_wp2_with (first
     | (go_at_call 55; clear m1; refine (M1.out _).mono ?_; rintro e w1 ⟨rfl, rfl⟩)
     | (go_at_call 55; refine (M2.out _).mono ?_; rintro e w1 ⟨rfl, rfl⟩))
   go_ret
   exact ⟨rfl, boxed _ _⟩
theorem rhright_any (i k d f m : Int) (w : World) : Calls Tryz.prog 33 #[hdV i k d f m] w fun e w' => e = .returned (.bool (rightH d f)) /\ Below w.heap.size w w' := by
 by_cases h1 : 1 <= d
 · by_cases h2 : d <= 256
   · by_cases h3 : 1 <= f
     · by_cases h4 : f <= 256
       · have HF : Hid (true = rightH d f) := by show _ = _; simp [rightH, h1, h2, h3, h4]
         go_enter Tryz.func33, Tryz.ntmps33
         go_wp2
         go_ret
         exact ⟨ret_bool HF.out, boxed _ _⟩
       · have HF : Hid (false = rightH d f) := by show _ = _; simp [rightH, h4]
         have t2 : decide (f <= 256) = false := by simp; omega
         clear h4
         go_enter Tryz.func33, Tryz.ntmps33
         go_wp2
         go_ret
         exact ⟨ret_bool HF.out, boxed _ _⟩
     · have HF : Hid (false = rightH d f) := by show _ = _; simp [rightH, h3]
       have t2 : decide (1 <= f) = false := by simp; omega
       clear h3
       go_enter Tryz.func33, Tryz.ntmps33
       go_wp2
       go_ret
       exact ⟨ret_bool HF.out, boxed _ _⟩
   · have HF : Hid (false = rightH d f) := by show _ = _; simp [rightH, h2]
     have t2 : decide (d <= 256) = false := by simp; omega
     clear h2
     go_enter Tryz.func33, Tryz.ntmps33
     go_wp2
     go_ret
     exact ⟨ret_bool HF.out, boxed _ _⟩
 · have HF : Hid (false = rightH d f) := by show _ = _; simp [rightH, h1]
   have t2 : decide (1 <= d) = false := by simp; omega
   clear h1
   go_enter Tryz.func33, Tryz.ntmps33
   go_wp2
   go_ret
   exact ⟨ret_bool HF.out, boxed _ _⟩
theorem hdata_any (i k d f m : Int) (w : World) : Calls Tryz.prog 61 #[hdV i k d f m] w fun e w' => e = .returned (.int .i64 256) /\ Below w.heap.size w w' := by
 go_enter Tryz.func61, Tryz.ntmps61
 go_wp2
 go_ret
 exact ⟨rfl, boxed _ _⟩
theorem hfield_any (i k d f m : Int) (w : World) (h0 : 0 <= d) (h1 : d <= 256) : Calls Tryz.prog 56 #[hdV i k d f m] w fun e w' => e = .returned (.int .i64 (256 + 8 * d)) /\ Below w.heap.size w w' := by
 have HB := Lib.hid (boxed w (.cells #[.int .u64 i, .int .u64 k, .int .i64 d, .int .i64 f, .int .u64 m] 26))
 have HA := Lib.hid (fun wx (hx : Below (w.alloc (.cells #[.int .u64 i, .int .u64 k, .int .i64 d, .int .i64 f, .int .u64 m] 26)).heap.size (w.alloc (.cells #[.int .u64 i, .int .u64 k, .int .i64 d, .int .i64 f, .int .u64 m] 26)) wx) => (hdAt_of hx : HdAt wx w.heap.size i k d f m))
 go_enter Tryz.func56, Tryz.ntmps56
 go_wp2_with fail
 have hb : Below (w.alloc (.cells #[.int .u64 i, .int .u64 k, .int .i64 d, .int .i64 f, .int .u64 m] 26)).heap.size (w.alloc (.cells #[.int .u64 i, .int .u64 k, .int .i64 d, .int .i64 f, .int .u64 m] 26)) (w.alloc (.cells #[.int .u64 i, .int .u64 k, .int .i64 d, .int .i64 f, .int .u64 m] 26)).drew := below_drewn (Below.refl _ _) 1
 have HK := Lib.hid (HA.out _ hb)
 go_region_held3 (fun w' => HdAt w' w.heap.size i k d f m)
   (first | assumption | exact HK.out | exact HA.out _ hb)
   ((go_at_call 61; refine (hdata_any _ _ _ _ _ _).mono ?_; rintro e wx ⟨rfl, hbx⟩; have hb := hb.trans (hbx.mono hb.size); clear hbx))
 go_wp2
 go_ret
 exact ⟨ret_int (by simp only [IntKind.wrap_i64]; omega), HB.out.trans (hb.mono HB.out.size)⟩
theorem hobjects_any (i k d f m : Int) (w : World) (h0 : 0 <= d) (h1 : d <= 256) (h2 : 0 <= f) (h3 : f <= 256) : Calls Tryz.prog 28 #[hdV i k d f m] w fun e w' => e = .returned (.int .i64 (256 + 8 * (d + f))) /\ Below w.heap.size w w' := by
 have HB := Lib.hid (boxed w (.cells #[.int .u64 i, .int .u64 k, .int .i64 d, .int .i64 f, .int .u64 m] 26))
 have HA := Lib.hid (fun wx (hx : Below (w.alloc (.cells #[.int .u64 i, .int .u64 k, .int .i64 d, .int .i64 f, .int .u64 m] 26)).heap.size (w.alloc (.cells #[.int .u64 i, .int .u64 k, .int .i64 d, .int .i64 f, .int .u64 m] 26)) wx) => (hdAt_of hx : HdAt wx w.heap.size i k d f m))
 go_enter Tryz.func28, Tryz.ntmps28
 go_wp2_with fail
 have hb : Below (w.alloc (.cells #[.int .u64 i, .int .u64 k, .int .i64 d, .int .i64 f, .int .u64 m] 26)).heap.size (w.alloc (.cells #[.int .u64 i, .int .u64 k, .int .i64 d, .int .i64 f, .int .u64 m] 26)) (w.alloc (.cells #[.int .u64 i, .int .u64 k, .int .i64 d, .int .i64 f, .int .u64 m] 26)).drew := below_drewn (Below.refl _ _) 1
 have HK := Lib.hid (HA.out _ hb)
 go_region_held3 (fun w' => HdAt w' w.heap.size i k d f m)
   (first | assumption | exact HK.out | exact HA.out _ hb)
   ((go_at_call 56; refine (hfield_any _ _ _ _ _ _ h0 h1).mono ?_; rintro e wx ⟨rfl, hbx⟩; have hb := hb.trans (hbx.mono hb.size); clear hbx))
 go_wp2
 go_ret
 exact ⟨ret_int (by simp only [IntKind.wrap_i64]; omega), HB.out.trans (hb.mono HB.out.size)⟩
theorem rhobjects_any (i k d f m : Int) (w : World) (h0 : 0 <= d) (h1 : d <= 256) (h2 : 0 <= f) (h3 : f <= 256) : Calls Tryz.prog 34 #[hdV i k d f m] w fun e w' => e = .returned (.int .i64 (256 + 8 * (d + f))) /\ Below w.heap.size w w' := by
 go_enter Tryz.func34, Tryz.ntmps34
 go_wp2
 go_ret
 exact ⟨ret_int (by omega), boxed _ _⟩
theorem i64_and1 (n : Int) : bits .and .i64 n 1 = n % 2 := by
 have h1 : (BitVec.ofInt 64 1).toNat = 2 ^ 1 - 1 := by decide
 have key : (BitVec.ofInt 64 n &&& BitVec.ofInt 64 1).toNat = (n % ((2 ^ 64 : Nat) : Int)).toNat % 2 ^ 1 := by
   rw [BitVec.toNat_and, BitVec.toNat_ofInt, h1, Nat.and_two_pow_sub_one_eq_mod]
 show IntKind.i64.wrap ((BitVec.ofInt 64 n &&& BitVec.ofInt 64 1).toNat : Nat) = n % 2
 rw [key, IntKind.wrap_i64]
 omega
theorem hslot_any (n : Int) (w : World) : Calls Tryz.prog 71 #[.int .i64 n] w fun e w' => e = .returned (.int .i64 (64 * (1 + n % 2))) /\ w = w' := by
 by_cases h : n % 2 = 0
 · have t : bits .and .i64 n 1 = 0 := by rw [i64_and1, h]
   have HF : Hid ((64 : Int) = 64 * (1 + n % 2)) := by show _ = _; omega
   clear h
   go_enter Tryz.func71, Tryz.ntmps71
   go_wp2
   go_ret
   exact ⟨ret_int HF.out, rfl⟩
 · have t : bits .and .i64 n 1 = 1 := by rw [i64_and1]; omega
   have HF : Hid ((128 : Int) = 64 * (1 + n % 2)) := by show _ = _; omega
   clear h
   go_enter Tryz.func71, Tryz.ntmps71
   go_wp2
   go_ret
   exact ⟨ret_int HF.out, rfl⟩
def encHR (i k d f m : Int) : List Int := if rightH d f then encH i k d f m else []
theorem encHR_bytes (i k d f m : Int) : AreB (encHR i k d f m) := by
 unfold encHR
 split
 · exact encH_bytes _ _ _ _ _
 · exact AreB.nil
theorem words5 (w : World) (t : TypeId) (a b c d e : Int) : Reads (w.alloc (.cells #[.int .u64 a, .int .u64 b, .int .u64 c, .int .u64 d, .int .u64 e] t)) (w.heap.size + 1) 1 (some ⟨w.heap.size, 0, none⟩) 5 (cellsOf .u64 [a, b, c, d, e]) := Reads.newN _ _ _
theorem Reads.newF (w : World) (t : TypeId) (cs : Array Value) (fr : Nat × Nat) : Reads (w.alloc (.cells cs t fr)) (w.heap.size + 1) 1 (some ⟨w.heap.size, 0, none⟩) cs.size cs.toList := by
 refine ⟨by simp, fun _ => ⟨_, rfl, Nat.lt_succ_self _, fun j v hj => ?_⟩⟩
 have h := World.cell?_alloc_mark w cs t fr j
 have e : (⟨w.heap.size, 0, none⟩ : Addr).add j = ⟨w.heap.size, j, none⟩ := by unfold Addr.add; split <;> simp_all
 rw [e, h]; simpa using hj
abbrev magicC : Array Value := #[.int .u8 76, .int .u8 79, .int .u8 71, .int .u8 66, .int .u8 79, .int .u8 79, .int .u8 75, .int .u8 49]
theorem magicReads (w : World) (t : TypeId) (fr : Nat × Nat) : Reads (w.alloc (.cells magicC t fr)) (w.heap.size + 1) 1 (some ⟨w.heap.size, 0, none⟩) 8 (cellsOf .u8 magicB) := Reads.newF w t magicC fr
theorem WB.apart {w0 wx : World} {g : Nat} {v : Value} {zs : List Int} (h : WB w0 g v zs wx) : ¬ (wx.heap.size = g ∨ v.ownBlock = some wx.heap.size) := by
 rintro (e | e)
 · have := h.wr.blk.lt; omega
 · have := (h.wr.own.lt _ e).2; omega
set_option maxRecDepth 100000 in
set_option maxHeartbeats 2000000 in
theorem henc_yes (G : Nat) (i k d f m : Int) (w : World) (hr : rightH d f = true) (ht : IsTable w G) :
 Calls Tryz.prog 45 #[hdV i k d f m, .pointer (some ⟨G, 0, none⟩)] w (Told (encH i k d f m) w) := by
 have hbd := rightH_bd hr
 have R1 := Lib.hid (hright_any i k d f m)
 rw [hr] at R1
 have hwd : IntKind.u64.wrap d = d := by rw [IntKind.wrap_u64]; omega
 have hwf : IntKind.u64.wrap f = f := by rw [IntKind.wrap_u64]; omega
 have L1 : Hid (([] ++ magicB).length = 8) := rfl
 have L2 : Hid ([] ++ magicB ++ wordsB [i, k, d, f, m] = wordsH i k d f m) := rfl
 have L3 := Lib.hid (wordsH_length i k d f m)
 have LB := Lib.hid (wordsH_bytes i k d f m)
 have HZ : Hid (∀ s : Nat, s = crcAdd 0 (wordsH i k d f m) -> wordsH i k d f m ++ bts (s : Int) 4 ++ List.replicate (padn (wordsH i k d f m ++ bts (s : Int) 4).length 64) 0 = encH i k d f m) := fun s hs => by
   subst hs
   rw [List.length_append, wordsH_length, bts_length]
   rfl
 have HL : Hid (∀ s : Int, (wordsH i k d f m ++ bts s 4).length = 52) := fun s => by rw [List.length_append, wordsH_length, bts_length]; rfl
 have HE := Lib.hid (encH_length i k d f m)
 have HS := Lib.hid (crcAdd_lt (s := 0) (zs := wordsH i k d f m) (by omega) (wordsH_bytes i k d f m))
 obtain ⟨s, hs⟩ : ∃ s, Hid (s = crcAdd 0 (wordsH i k d f m)) := ⟨_, rfl⟩
 rw [<- hs.out] at HS
 have hs32 := HS.out
 have hws : IntKind.u64.wrap (s : Int) = s := by rw [IntKind.wrap_u64]; omega
 have T4 : (64 : Int) <= 4096 := by omega
 have HTB := Lib.hid (fun wx (hx : Below w.heap.size w wx) => (IsTable.below ht hx ht.lt : IsTable wx G))
 have m1 : True := trivial
 clear ht hr
 go_enter Tryz.func45, Tryz.ntmps45
 go_wp2_with (first
   | (go_at_call 27; refine (R1.out _).mono ?_; rintro e wR ⟨rfl, hbR⟩; have HbR : Below w.heap.size w wR := (boxed _ _).trans (hbR.mono (by simp)); have HO := Lib.hid (fun wx (hx : Below wR.heap.size wR wx) => hdAt_of (hbR.trans (hx.mono hbR.size))); have hg : wR.heap.size <= wR.heap.size := Nat.le_refl _; have kc := Joins.run_convert_bytes_const_at (P := Tryz.prog) (wR.alloc (.cells #[.slice none 0 0] 137)) 22 5 magicC 8 8 (wR.heap.size + 1) (by simp) Tryz.underlying22 Tryz.underlying5; have W0 := (nob wR).below (boxed _ (.cells magicC 5 (8, 9))); have q0 := magicReads (wR.alloc (.cells #[.slice none 0 0] 137)) 5 (8, 9); rw [World.size_alloc] at q0; clear hbR)
   | (go_at_call 74; refine (raw_any _ _ _ _ 8 8 magicB _ W0.wr q0 (by simp)).mono ?_; rintro e w1 ⟨rfl, hp1⟩; obtain ⟨v1, W1⟩ := W0.step hg hp1; obtain ⟨k10, k11, k12, k13, k14⟩ := HO.out _ W1.bel; have W2 := W1.below (boxed _ (.cells #[.int .u64 i, .int .u64 k, .int .u64 d, .int .u64 f, .int .u64 m] 24)); have hap := W1.apart; clear hp1)
   | (go_at_call 75; refine (words_any _ v1 _ _ 5 5 [i, k, d, f, m] _ W2.wr (words5 w1 24 i k d f m) (by simp) (fun _ ad e => by (injection e with e); subst e; exact hap) (by rw [L1.out]; omega)).mono ?_; rintro e w3 ⟨rfl, hp3⟩; rw [L2.out] at hp3; obtain ⟨v3, W3⟩ := W2.step hg hp3; clear hp3 hap)
   | (go_at_call 78; clear m1; refine (wdone_n _ 48 v3 _ _ W3.wr L3.out (by omega)).mono ?_; rintro e w4 ⟨A4, c4, rfl, hr4, hb4, hc41, hc42⟩; have W4 := W3.below hb4; have ht4 := HTB.out w4 (HbR.trans (W4.bel.mono HbR.size)))
   | (go_at_call 77; refine (crcSum_any G A4 48 c4 _ w4 ht4 hr4 LB.out hc41 hc42).mono ?_; rintro e w5 ⟨rfl, rfl⟩; rw [<- hs.out])
   | (go_at_call 76; refine (num_any _ v3 _ s 4 _ W4.wr (by rw [L3.out]; omega)).mono ?_; rintro e w6 ⟨rfl, hp6⟩; obtain ⟨v6, W6⟩ := W4.step hg hp6; clear hp6)
   | (go_at_call 79; refine (pad_any _ v6 _ 64 _ W6.wr T4 (by omega) (by rw [HL.out]; omega)).mono ?_; rintro e w7 ⟨rfl, hp7⟩; rw [HZ.out s hs.out] at hp7; obtain ⟨v7, W7⟩ := W6.step hg hp7; clear hp7)
   | (go_at_call 78; refine (wdone_any _ v7 _ _ W7.wr (by rw [HE.out]; omega)).mono ?_; rintro e w8 ⟨A', c', rfl, ho, hb, h1, h2⟩))
 go_ret
 have hb9 := HbR.trans (W7.bel.mono HbR.size)
 exact ⟨A', _, c', rfl, rfl, own_base ho hb9.size, hb9.trans (hb.mono hb9.size), h1, by unfold maxLen at h2; omega⟩
theorem henc_no (v : Value) (i k d f m : Int) (w : World) (hr : rightH d f = false) :
 Calls Tryz.prog 45 #[hdV i k d f m, v] w (Told [] w) := by
 have R1 := Lib.hid (hright_any i k d f m)
 rw [hr] at R1
 clear hr
 go_enter Tryz.func45, Tryz.ntmps45
 go_wp2_with (go_at_call 27; refine (R1.out _).mono ?_; rintro e wR ⟨rfl, hbR⟩)
 go_ret
 exact Told.nil _ _ ((boxed _ _).trans (hbR.mono (by simp)))
theorem henc_any (G : Nat) (i k d f m : Int) (w : World) (ht : IsTable w G) :
 Calls Tryz.prog 45 #[hdV i k d f m, .pointer (some ⟨G, 0, none⟩)] w (Told (encHR i k d f m) w) := by
 unfold encHR
 by_cases hr : rightH d f = true
 · rw [if_pos hr]; exact henc_yes G i k d f m w hr ht
 · rw [if_neg hr]; exact henc_no _ i k d f m w (by simpa using hr)
theorem rbytes4 (x : Int) (w : World) (h0 : Hid (0 <= x /\ x < 18446744073709551616)) : Calls Tryz.prog 93 #[.int .u64 x, .int .i64 4] w fun e w' =>
   ∃ A c, e = .returned (.slice A 4 c) /\ w'.ownsRow w.heap.size 5 1 (.slice A 4 c) 4 (cellsOf .u8 (bts x 4)) /\ Below w.heap.size w w' :=
 rbytes_any x 4 w h0
structure OutW (w0 : World) (g : Nat) (a b c d e : Int) (v : Value) (N : Nat) (zs : List Int) (wx : World) : Prop where
 out : OutB w0 v N zs wx
 wds : Blk wx g 24 #[.int .u64 a, .int .u64 b, .int .u64 c, .int .u64 d, .int .u64 e]
theorem OutW.below {w0 wx wy : World} {g : Nat} {a b c d e : Int} {v : Value} {N : Nat} {zs : List Int} (h : OutW w0 g a b c d e v N zs wx) (hb : Below wx.heap.size wx wy) : OutW w0 g a b c d e v N zs wy :=
 ⟨h.out.below hb, h.wds.below hb h.wds.lt⟩
theorem OutW.app {w0 wx wy : World} {g : Nat} {a b c d e : Int} {v v' : Value} {N M : Nat} {zs ys : List Int} (h : OutW w0 g a b c d e v N zs wx) (ho : wy.ownsRow w0.heap.size 5 1 v' (N + M) (cellsOf .u8 zs ++ cellsOf .u8 ys)) (hg : wx.grownBy wy v.ownBlock) : OutW w0 g a b c d e v' (N + M) (zs ++ ys) wy :=
 ⟨h.out.app ho hg, h.wds.grown hg (fun e2 => own_blk_ne h.out.own h.wds (by decide) e2.symm)⟩
theorem OutW.word {w0 wx : World} {g : Nat} {a b c d e : Int} {v : Value} {N : Nat} {zs : List Int} (h : OutW w0 g a b c d e v N zs wx) {j : Nat} (hj : j < 5) : wx.cell? ⟨g, j, none⟩ = some (.int .u64 ([a, b, c, d, e].getD j 0)) := by
 rw [h.wds.cell]
 match j, hj with
 | 0, _ | 1, _ | 2, _ | 3, _ | 4, _ => rfl
 | n + 5, h => omega
theorem outW_start (w : World) (a b c d e : Int) :
 OutW w (w.heap.size + 1) a b c d e (.slice (some ⟨w.heap.size, 0, none⟩) 8 8) 8 magicB ((w.alloc (.cells magicC 5)).alloc (.cells #[.int .u64 a, .int .u64 b, .int .u64 c, .int .u64 d, .int .u64 e] 24)) := by
 have h0 : OutB w (.slice (some ⟨w.heap.size, 0, none⟩) 8 8) 8 magicB (w.alloc (.cells magicC 5)) :=
   ⟨World.ownsRow_lit w magicC 8 (Nat.le_refl _) (by decide) rfl, boxed _ _⟩
 refine ⟨h0.below (boxed _ _), ?_⟩
 have h := Blk.new (w.alloc (.cells magicC 5)) 24 #[.int .u64 a, .int .u64 b, .int .u64 c, .int .u64 d, .int .u64 e]
 rwa [World.size_alloc] at h
set_option maxRecDepth 100000 in
set_option maxHeartbeats 2000000 in
theorem rhenc_yes (i k d f m : Int) (w : World) (hr : rightH d f = true) (hi : 0 <= i /\ i < 18446744073709551616) (hk : 0 <= k /\ k < 18446744073709551616) (hm : 0 <= m /\ m < 18446744073709551616) :
 Calls Tryz.prog 72 #[hdV i k d f m] w (Told (encH i k d f m) w) := by
 obtain ⟨i0, hi0, hz0, hz1, hz2⟩ := info_parts byteInfo
 have hbd := rightH_bd hr
 have R1 := Lib.hid (rhright_any i k d f m)
 rw [hr] at R1
 have hwd : IntKind.u64.wrap d = d := by rw [IntKind.wrap_u64]; omega
 have hwf : IntKind.u64.wrap f = f := by rw [IntKind.wrap_u64]; omega
 have HB5 : Hid (∀ j, 0 <= [i, k, d, f, m].getD j 0 /\ [i, k, d, f, m].getD j 0 < 18446744073709551616) := fun j => by
   match j with
   | 0 => exact hi
   | 1 => exact hk
   | 2 => exact (⟨by omega, by omega⟩ : 0 <= d /\ d < 18446744073709551616)
   | 3 => exact (⟨by omega, by omega⟩ : 0 <= f /\ f < 18446744073709551616)
   | 4 => exact hm
   | n + 5 => exact (⟨by omega, by omega⟩ : (0 : Int) <= 0 /\ (0 : Int) < 18446744073709551616)
 have HT : Hid (∀ j, j < 5 -> wordsB ([i, k, d, f, m].take (j + 1)) = wordsB ([i, k, d, f, m].take j) ++ bts ([i, k, d, f, m].getD j 0) 8) := fun j hj => wordsB_take (by simpa using hj)
 have HW : Hid (magicB ++ wordsB ([i, k, d, f, m].take 5) = wordsH i k d f m) := rfl
 have LB := Lib.hid (wordsH_bytes i k d f m)
 have HZ : Hid (∀ s : Nat, s = crcAdd 0 (wordsH i k d f m) -> wordsH i k d f m ++ bts (s : Int) 4 ++ List.replicate 12 0 = encH i k d f m) := fun s hs => by subst hs; rfl
 have HS := Lib.hid (crcAdd_lt (s := 0) (zs := wordsH i k d f m) (by omega) (wordsH_bytes i k d f m))
 obtain ⟨s, hs⟩ : ∃ s, Hid (s = crcAdd 0 (wordsH i k d f m)) := ⟨_, rfl⟩
 rw [<- hs.out] at HS
 have hs32 := HS.out
 have hws : IntKind.u64.wrap (s : Int) = s := by rw [IntKind.wrap_u64]; omega
 have HS8 : Hid (0 <= (s : Int) /\ (s : Int) < 18446744073709551616) := ⟨by omega, by omega⟩
 clear hr hi hk hm
 go_enter Tryz.func72, Tryz.ntmps72
 go_wp2_with (first
   | (go_at_call 33; refine (R1.out _).mono ?_; rintro e wR ⟨rfl, hbR⟩; have HbR : Below w.heap.size w wR := (boxed _ _).trans (hbR.mono (by simp)); obtain ⟨x0, x1, x2, x3, x4⟩ := hdAt_of (hbR.trans ((boxed wR (.cells #[.int .u8 76, .int .u8 79, .int .u8 71, .int .u8 66, .int .u8 79, .int .u8 79, .int .u8 75, .int .u8 49] 5)).mono hbR.size)); clear hbR))
 clear x0 x1 x2 x3 x4
 go_loopw [3, 5] (fun v n wr => ∃ j : Nat, j <= 5 /\ n = .int .i64 j /\ OutW wR (wR.heap.size + 1) i k d f m v (8 + 8 * j) (magicB ++ wordsB ([i, k, d, f, m].take j)) wr) (fun _ n _ => 5 - (intOf n).toNat)
 case atStart => exact ⟨0, Nat.zero_le _, rfl, outW_start wR i k d f m⟩
 case round =>
   obtain ⟨j, hj, rfl, hO⟩ := hrel
   by_cases hlt : j < 5
   · have hcell := hO.word hlt
     have hxw : Hid _ := HB5.out j
     have HTj := Lib.hid (HT.out j hlt)
     generalize [i, k, d, f, m].getD j 0 = x at hcell HTj hxw
     obtain ⟨A1, c1, rfl, _, _⟩ := own_form hO.out.own
     have s3 : 8 + 8 * j + 8 <= maxLen := by unfold maxLen; omega
     go_wp2_with (first
       | (go_at_call 93; refine (rbytes8 x _ hxw).mono ?_; rintro e w1 ⟨A2, c2, rfl, ho2, hb2⟩; have O1 := hO.below hb2; have ho1 := O1.out.own; have R2 := Reads.of_own ho2; have hb12 := O1.out.bel)
       | (at_builtin; refine wpList_append_any _ rfl _ _ _ rfl wR.heap.size 5 i0 (.int .u8 0) 1 1 Tryz.underlying22 hi0 hz0 hz1 hz2 rfl (Nat.lt_succ_self 0) (.slice A1 (8 + 8 * j) c1) (8 + 8 * j) (cellsOf .u8 (magicB ++ wordsB ([i, k, d, f, m].take j))) rfl ho1 w1.heap.size A2 8 c2 (cellsOf .u8 (bts x 8)) rfl R2 (cellsOf_one _ _) s3 (by omega) hb12.size ?_; intro v3 w3 ho3 hg3 hat3; have O3 := O1.app ho3 hg3; clear ho3 hg3 hat3 O1 R2 ho1 ho2 hb2 hb12))
     go_roundw
     case rel =>
       rw [List.append_assoc, <- HTj.out] at O3
       exact ⟨j + 1, by omega, by go_num, O3⟩
     case measure => simp [intOf]; omega
   · obtain rfl : j = 5 := by omega
     rw [HW.out] at hO
     obtain ⟨A1, c1, rfl, hc11, hc12⟩ := own_form hO.out.own
     have R1 := Reads.of_own hO.out.own
     have hc13 : c1 <= 9223372036854775807 := by unfold maxLen at hc12; omega
     have s3 : 8 + 8 * 5 + 4 <= maxLen := by decide
     have O0 := hO.out
     go_wp2_with (first
       | (go_at_call 94; refine (rcrcAdd_any 0 A1 (8 + 8 * 5) c1 _ _ (by omega) R1 LB.out hc11 hc13).mono ?_; rintro e w1 ⟨rfl, rfl⟩; rw [<- hs.out])
       | (go_at_call 93; refine (rbytes4 s _ HS8).mono ?_; rintro e w1 ⟨A2, c2, rfl, ho2, hb2⟩; have O1 := O0.below hb2; have ho1 := O1.own; have R2 := Reads.of_own ho2; have hb12 := O1.bel)
       | (at_builtin; refine wpList_append_any _ rfl _ _ _ rfl wR.heap.size 5 i0 (.int .u8 0) 1 1 Tryz.underlying22 hi0 hz0 hz1 hz2 rfl (Nat.lt_succ_self 0) (.slice A1 (8 + 8 * 5) c1) (8 + 8 * 5) (cellsOf .u8 (wordsH i k d f m)) rfl ho1 w1.heap.size A2 4 c2 (cellsOf .u8 (bts s 4)) rfl R2 (cellsOf_one _ _) s3 (by omega) hb12.size ?_; intro v3 w3 ho3 hg3 hat3; have O3 := O1.app ho3 hg3; clear ho3 hg3 hat3 O1 R2 ho1 ho2 hb2 hb12))
     clear hO O0 R1
     go_loopw [3] (fun v wr => ∃ z N : Nat, Hid (N = 52 + z /\ z <= 12) /\ OutB wR v N (wordsH i k d f m ++ bts (s : Int) 4 ++ List.replicate z 0) wr) (fun v _ => 64 - vlen v)
     case atStart => exact ⟨0, 52, ⟨rfl, Nat.zero_le _⟩, by simpa using O3⟩
     case round =>
       clear O3
       obtain ⟨z, N, hN, hO⟩ := hrel
       have hNb : N <= 64 := by have h := hN.out; omega
       obtain ⟨A1, c1, rfl, hc11, hc12⟩ := own_form hO.own
       by_cases hz : N < 64
       · have s3 : N + 1 <= maxLen := by unfold maxLen; omega
         have s4 : wR.heap.size <= (wr.alloc (.cells #[Value.int IntKind.u8 0] 5)).heap.size := by have := hO.bel.size; simp; omega
         have O1 := hO.below (wy := wr.alloc (.cells #[Value.int IntKind.u8 0] 5)) ((Below.refl _ _).alloc (Nat.le_refl _) _)
         go_wp2_with (at_builtin; refine wpList_append_any _ rfl _ _ _ rfl wR.heap.size 5 i0 (.int .u8 0) 1 1 Tryz.underlying22 hi0 hz0 hz1 hz2 rfl (Nat.lt_succ_self 0) (.slice A1 N c1) N (cellsOf .u8 (wordsH i k d f m ++ bts (s : Int) 4 ++ List.replicate z 0)) rfl O1.own (wr.heap.size + 1) _ 1 1 (cellsOf .u8 [0]) rfl (Reads.new1 _ _ _) (one_oneCell _ _) s3 (by omega) s4 ?_; intro v3 w3 ho3 hg3 hat3; have O3 := O1.app ho3 hg3; clear ho3 hg3 hat3)
         obtain ⟨A3, c3, rfl, _, _⟩ := own_form O3.own
         go_roundw
         case rel =>
           rw [List.append_assoc, <- List.replicate_succ'] at O3
           exact ⟨z + 1, N + 1, by show _ /\ _; have h := hN.out; omega, O3⟩
         case measure => simp [vlen]; omega
       · obtain rfl : N = 64 := by omega
         obtain rfl : z = 12 := by have h := hN.out; omega
         go_wp2
         go_ret
         have hO2 := hO.own
         rw [HZ.out s hs.out] at hO2
         exact ⟨A1, 64, c1, rfl, (encH_length i k d f m).symm, own_base hO2 HbR.size, HbR.trans (hO.bel.mono HbR.size), hc11, by unfold maxLen at hc12; omega⟩
theorem rhenc_no (i k d f m : Int) (w : World) (hr : rightH d f = false) :
 Calls Tryz.prog 72 #[hdV i k d f m] w (Told [] w) := by
 have R1 := Lib.hid (rhright_any i k d f m)
 rw [hr] at R1
 clear hr
 go_enter Tryz.func72, Tryz.ntmps72
 go_wp2_with (go_at_call 33; refine (R1.out _).mono ?_; rintro e wR ⟨rfl, hbR⟩)
 go_ret
 exact Told.nil _ _ ((boxed _ _).trans (hbR.mono (by simp)))
theorem rhenc_any (i k d f m : Int) (w : World) (hi : 0 <= i /\ i < 18446744073709551616) (hk : 0 <= k /\ k < 18446744073709551616) (hm : 0 <= m /\ m < 18446744073709551616) :
 Calls Tryz.prog 72 #[hdV i k d f m] w (Told (encHR i k d f m) w) := by
 unfold encHR
 by_cases hr : rightH d f = true
 · rw [if_pos hr]; exact rhenc_yes i k d f m w hr hi hk hm
 · rw [if_neg hr]; exact rhenc_no i k d f m w (by simpa using hr)
end Go.Proofs.YtaeegcohimflbaaGreat
