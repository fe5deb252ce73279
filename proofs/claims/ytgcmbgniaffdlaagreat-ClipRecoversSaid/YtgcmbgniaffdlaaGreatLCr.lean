import Derived.Test.YtgcmbgniaffdlaaGreatLGa
import Derived.Outline
set_option linter.unusedVariables false
set_option maxRecDepth 100000
namespace Go.Proofs.YtgcmbgniaffdlaaGreat
def crcBit (n : Nat) : Nat := if n % 2 = 1 then (n / 2) ^^^ 3988292384 else n / 2
def crcN : Nat -> Nat -> Nat
 | 0, n => n
 | k + 1, n => crcN k (crcBit n)
def crcIn (c : Nat) : List Int -> Nat
 | [] => c
 | x :: xs => crcIn (crcN 8 (c ^^^ x.toNat)) xs
def crcAdd (sum : Nat) (zs : List Int) : Nat := (crcIn (sum ^^^ 4294967295) zs) ^^^ 4294967295
theorem crcBit_lt {n : Nat} (h : n < 4294967296) : crcBit n < 4294967296 := by
 unfold crcBit
 split
 · exact Nat.xor_lt_two_pow (n := 32) (by omega) (by omega)
 · omega
theorem crcN_lt : ∀ (k : Nat) {n : Nat}, n < 4294967296 -> crcN k n < 4294967296
 | 0, _, h => h
 | k + 1, _, h => crcN_lt k (crcBit_lt h)
theorem crcN_succ : ∀ (k n : Nat), crcN (k + 1) n = crcBit (crcN k n)
 | 0, _ => rfl
 | k + 1, n => by rw [crcN, crcN_succ k]; rfl
theorem xor_lt32 {a b : Nat} (ha : a < 4294967296) (hb : b < 4294967296) : a ^^^ b < 4294967296 := Nat.xor_lt_two_pow (n := 32) ha hb
theorem crcIn_lt : ∀ (zs : List Int) {c : Nat}, c < 4294967296 -> (∀ z ∈ zs, 0 <= z /\ z < 256) -> crcIn c zs < 4294967296
 | [], _, h, _ => h
 | x :: xs, c, h, hz => by
   have hx := hz x (by simp)
   exact crcIn_lt xs (crcN_lt 8 (xor_lt32 h (by omega))) (fun z hm => hz z (by simp [hm]))
theorem crcIn_append : ∀ (a b : List Int) (c : Nat), crcIn c (a ++ b) = crcIn (crcIn c a) b
 | [], _, _ => rfl
 | x :: xs, b, c => crcIn_append xs b _
theorem crcIn_step {zs : List Int} {c k : Nat} (hk : k < zs.length) : crcIn c (zs.take (k + 1)) = crcN 8 (crcIn c (zs.take k) ^^^ (zs.getD k 0).toNat) := by
 rw [List.take_succ_eq_append_getElem hk, crcIn_append, List.getD_eq_getElem?_getD, List.getElem?_eq_getElem hk]
 rfl
theorem xor_half (a b : Nat) : (a ^^^ b) / 2 = (a / 2) ^^^ (b / 2) := by
 have h := Nat.shiftRight_xor_distrib (a := a) (b := b) (i := 1)
 simpa [Nat.shiftRight_eq_div_pow] using h
theorem xor_odd (a b : Nat) : (a ^^^ b) % 2 = (a + b) % 2 := by
 have h := Nat.xor_mod_two_pow (a := a) (b := b) (n := 1)
 rw [show (2 : Nat) ^ 1 = 2 by rfl] at h
 rw [h]
 rcases Nat.mod_two_eq_zero_or_one a with ha | ha <;> rcases Nat.mod_two_eq_zero_or_one b with hb | hb <;> rw [ha, hb] <;> simp <;> omega
theorem crcBit_xor (a b : Nat) : crcBit (a ^^^ b) = crcBit a ^^^ crcBit b := by
 have h1 := xor_odd a b
 have h2 := xor_half a b
 have hx : (3988292384 : Nat) ^^^ 3988292384 = 0 := Nat.xor_self _
 unfold crcBit
 rcases Nat.mod_two_eq_zero_or_one a with ha | ha <;> rcases Nat.mod_two_eq_zero_or_one b with hb | hb
 · rw [if_neg (by omega), if_neg (by omega), if_neg (by omega), h2]
 · rw [if_pos (by omega), if_neg (by omega), if_pos (by omega), h2, Nat.xor_assoc]
 · rw [if_pos (by omega), if_pos (by omega), if_neg (by omega), h2, Nat.xor_assoc, Nat.xor_assoc, Nat.xor_comm (b / 2)]
 · rw [if_neg (by omega), if_pos (by omega), if_pos (by omega), h2]
   rw [Nat.xor_assoc, Nat.xor_comm 3988292384 _, Nat.xor_assoc, hx, Nat.xor_zero]
theorem crcN_xor : ∀ (k a b : Nat), crcN k (a ^^^ b) = crcN k a ^^^ crcN k b
 | 0, _, _ => rfl
 | k + 1, a, b => by rw [crcN, crcBit_xor, crcN_xor k]; rfl
theorem crcN_pow : ∀ (k n : Nat), crcN k (2 ^ k * n) = n
 | 0, n => by show 2 ^ 0 * n = n; omega
 | k + 1, n => by
   have e : 2 ^ (k + 1) * n = 2 * (2 ^ k * n) := by rw [Nat.pow_succ, Nat.mul_comm (2 ^ k) 2, Nat.mul_assoc]
   have h : crcBit (2 ^ (k + 1) * n) = 2 ^ k * n := by
     unfold crcBit
     rw [e, if_neg (by omega)]
     omega
   rw [crcN, h, crcN_pow k]
theorem split256 (n : Nat) : n = (n % 256) ^^^ (2 ^ 8 * (n / 256)) := by
 have h : (2 ^ 8 * (n / 256)) ||| (n % 256) = 2 ^ 8 * (n / 256) + n % 256 := (Nat.two_pow_add_eq_or_of_lt (Nat.mod_lt _ (by omega)) (n / 256)).symm
 have h2 : (2 ^ 8 * (n / 256)) &&& (n % 256) = 0 := by
   apply Nat.eq_of_testBit_eq
   intro i
   rw [Nat.testBit_and, Nat.zero_testBit, Nat.testBit_two_pow_mul]
   by_cases hi : 8 <= i
   · have : (n % 256).testBit i = false := Nat.testBit_lt_two_pow (Nat.lt_of_lt_of_le (Nat.mod_lt _ (by omega)) (Nat.pow_le_pow_right (n := 2) (by omega) hi))
     simp [this]
   · simp [hi]
 apply Nat.eq_of_testBit_eq
 intro i
 have h3 := congrArg (fun m => m.testBit i) h
 have h4 := congrArg (fun m => m.testBit i) h2
 simp only [Nat.testBit_or, Nat.testBit_and, Nat.testBit_xor, Nat.zero_testBit] at h3 h4 ⊢
 have e : 2 ^ 8 * (n / 256) + n % 256 = n := by omega
 rw [e] at h3
 revert h3 h4
 cases (2 ^ 8 * (n / 256)).testBit i <;> cases (n % 256).testBit i <;> simp <;> intro h <;> simp [h]
theorem xor_mod256 (c x : Nat) (hx : x < 256) : (c ^^^ x) % 256 = (c % 256) ^^^ x := by
 have := Nat.xor_mod_two_pow (a := c) (b := x) (n := 8)
 rw [show (2 : Nat) ^ 8 = 256 by rfl, Nat.mod_eq_of_lt hx] at this
 exact this
theorem xor_div256 (c x : Nat) (hx : x < 256) : (c ^^^ x) / 256 = c / 256 := by
 have := Nat.shiftRight_xor_distrib (a := c) (b := x) (i := 8)
 rw [Nat.shiftRight_eq_div_pow, Nat.shiftRight_eq_div_pow, Nat.shiftRight_eq_div_pow, show (2 : Nat) ^ 8 = 256 by rfl, Nat.div_eq_of_lt hx, Nat.xor_zero] at this
 exact this
theorem crc_row (c x : Nat) (hx : x < 256) : crcN 8 ((c % 256) ^^^ x) ^^^ (c / 256) = crcN 8 (c ^^^ x) := by
 have h := split256 (c ^^^ x)
 rw [xor_mod256 c x hx, xor_div256 c x hx] at h
 rw [h, crcN_xor 8 (c % 256 ^^^ x), crcN_pow 8]
def crcRows : List Value := (List.range 256).map fun i => .int .u32 (crcN 8 i : Nat)
theorem crcRows_length : crcRows.length = 256 := by simp [crcRows]
theorem crcRows_get {i : Nat} (h : i < 256) : crcRows[i]? = some (.int .u32 (crcN 8 i : Nat)) := by
 simp [crcRows, h]
theorem crcAdd_lt {s : Nat} {zs : List Int} (hs : s < 4294967296) (hz : ∀ z ∈ zs, 0 <= z /\ z < 256) : crcAdd s zs < 4294967296 := xor_lt32 (crcIn_lt zs (xor_lt32 hs (by omega)) hz) (by omega)
end Go.Proofs.YtgcmbgniaffdlaaGreat
set_option linter.unusedSimpArgs false
namespace Go.Proofs.YtgcmbgniaffdlaaGreat
open Go.RowKit
theorem and1 {n : Nat} (h : n < 4294967296) : bits .and .u32 (n : Int) 1 = ((n % 2 : Nat) : Int) := by
 have := u32_and_nat n 1 h (by omega)
 rw [Nat.and_one_is_mod] at this
 exact this
theorem xorPoly {n : Nat} (h : n < 4294967296) : bits .xor .u32 ((n : Int) / 2) 3988292384 = ((n / 2 ^^^ 3988292384 : Nat) : Int) := by
 have := u32_xor_nat (n / 2) 3988292384 (by omega) (by omega)
 rw [<- this]
 rfl
theorem xorAll {n : Nat} (h : n < 4294967296) : bits .xor .u32 (n : Int) 4294967295 = ((n ^^^ 4294967295 : Nat) : Int) := u32_xor_nat n 4294967295 h (by omega)
theorem notAll {n : Nat} (h : n < 4294967296) : bits .xor .u32 IntKind.u32.max (n : Int) = ((n ^^^ 4294967295 : Nat) : Int) := by
 rw [show IntKind.u32.max = 4294967295 by decide]
 have := u32_xor_nat 4294967295 n (by omega) h
 rw [Nat.xor_comm] at this
 exact this
theorem crcEntry_any (c : Nat) (w : World) (hc : c < 4294967296) :
 Calls Tryz.prog 44 #[.int .u32 c] w fun e w' => e = .returned (.int .u32 (crcN 8 c : Nat)) /\ w = w' := by
 go_enter Tryz.func44, Tryz.ntmps44
 go_wp2
 go_loop [0, 3, 4] (fun c' _ i => ∃ k n : Nat, Hid (n = crcN k c) /\ k <= 8 /\ n < 4294967296 /\ i = .int .i64 k /\ c' = .int .u32 n) (fun _ _ i => 8 - (intOf i).toNat)
 case atStart => exact ⟨0, c, rfl, by omega, hc, rfl, rfl⟩
 case round =>
   obtain ⟨k, n, hn, hk, hn32, rfl, rfl⟩ := hrel
   by_cases hlt : k < 8
   · have hlt2 := crcBit_lt hn32
     by_cases ho : n % 2 = 1
     · have hb : crcBit n = n / 2 ^^^ 3988292384 := by unfold crcBit; rw [if_pos ho]
       have ha : bits .and .u32 (n : Int) 1 = 1 := by rw [and1 hn32, ho]; rfl
       have hx := Lib.hid (xorPoly hn32)
       have HB := Lib.hid hb
       have HO := Lib.hid ho
       clear hb ho
       go_wp2
       go_round
       case rel => exact ⟨k + 1, crcBit n, by have := hn.out; show _ = _; rw [crcN_succ, this], by omega, hlt2, by go_num, by rw [HB.out, <- hx.out]⟩
       case measure => simp [intOf]; omega
     · have hb : crcBit n = n / 2 := by unfold crcBit; rw [if_neg ho]
       have ha : bits .and .u32 (n : Int) 1 = 0 := by rw [and1 hn32, show n % 2 = 0 by omega]; rfl
       have HB := Lib.hid hb
       have HO := Lib.hid ho
       clear hb ho
       go_wp2
       go_round
       case rel => exact ⟨k + 1, crcBit n, by have := hn.out; show _ = _; rw [crcN_succ, this], by omega, hlt2, by go_num, by rw [HB.out]; rfl⟩
       case measure => simp [intOf]; omega
   · obtain rfl : k = 8 := by omega
     have HN := hn.out
     subst HN
     go_wp2
     go_ret
     exact ⟨rfl, rfl⟩
theorem rcrcBit_any (n : Nat) (w : World) (hn : n < 4294967296) :
 Calls Tryz.prog 150 #[.int .u32 n] w fun e w' => e = .returned (.int .u32 (crcBit n : Nat)) /\ w = w' := by
 have hq : IntKind.u32.wrap ((n : Int).tdiv 2) = (n : Int) / 2 := by
   rw [IntKind.wrap_u32', Int.tdiv_eq_ediv_of_nonneg (by omega)]; omega
 by_cases ho : n % 2 = 1
 · have hb : crcBit n = n / 2 ^^^ 3988292384 := by unfold crcBit; rw [if_pos ho]
   have ht : (n : Int).tmod 2 = 1 := by rw [Int.tmod_eq_emod_of_nonneg (by omega)]; omega
   have hx := Lib.hid (xorPoly hn)
   have HB := Lib.hid hb
   have HO := Lib.hid ho
   have HQ := Lib.hid hq
   clear hb ho hq
   go_enter Tryz.func150, Tryz.ntmps150
   go_wp2
   go_ret
   exact ⟨ret_int (by rw [HB.out, <- hx.out, <- HQ.out]), rfl⟩
 · have hb : crcBit n = n / 2 := by unfold crcBit; rw [if_neg ho]
   have ht : (n : Int).tmod 2 = 0 := by rw [Int.tmod_eq_emod_of_nonneg (by omega)]; omega
   have HB := Lib.hid hb
   have HO := Lib.hid ho
   have HQ := Lib.hid hq
   clear hb ho hq
   go_enter Tryz.func150, Tryz.ntmps150
   go_wp2
   go_ret
   exact ⟨ret_int (by rw [HB.out]; rfl), rfl⟩
def crcPart (k : Nat) : List Value := crcRows.take k ++ List.replicate (256 - k) (.int .u32 0)
theorem crcPart_set {k : Nat} (hk : k < 256) : (crcPart k).toArray.setIfInBounds k (.int .u32 (crcN 8 k : Nat)) = (crcPart (k + 1)).toArray := by
 have hl := crcRows_length
 have e : (crcRows.take k).length = k := by rw [List.length_take]; omega
 unfold crcPart
 rw [List.setIfInBounds_toArray, List.set_append_right _ _ (by omega), e, Nat.sub_self, show 256 - k = (256 - (k + 1)) + 1 by omega, List.replicate_succ, List.set_cons_zero,
   List.take_succ_eq_append_getElem (by omega), List.append_assoc]
 congr 3
 have := crcRows_get hk
 rw [List.getElem?_eq_getElem (by omega)] at this
 injection this with this
 rw [this]
theorem crcPart0 : crcPart 0 = List.replicate 256 (.int .u32 0) := by unfold crcPart; rw [List.take_zero, List.nil_append, Nat.sub_zero]
theorem crcPart256 : crcPart 256 = crcRows := by
 unfold crcPart
 rw [List.take_of_length_le (Nat.le_of_eq crcRows_length), Nat.sub_self, List.replicate_zero, List.append_nil]
def crcZero : Array Value := Array.replicate 256 (.int .u32 0)
theorem crcZero_part : crcZero = (crcPart 0).toArray := by rw [crcPart0]; rw [List.toArray_replicate]; rfl
theorem run_zeroT (w : World) : Sem.run Tryz.prog (zeroValue 87) w = .ok (.agg crcZero) w := by kernel_rfl
set_option maxRecDepth 20000 in
theorem crcMake_any (w : World) :
 Calls Tryz.prog 11 #[] w fun e w' => e = .returned (.pointer (some ⟨w.heap.size, 0, none⟩)) /\ Blk w' w.heap.size 87 crcRows.toArray /\ Below w.heap.size w w' := by
 go_enter Tryz.func11, Tryz.ntmps11
 go_wp2
 try
   rw [run_zeroT]
   go_wp2
 go_loopw [2, 3] (fun _ i wr => ∃ k : Nat, k <= 256 /\ i = .int .i64 k /\ Blk wr w.heap.size 87 (crcPart k).toArray /\ Below w.heap.size w wr) (fun _ i _ => 256 - (intOf i).toNat)
 case atStart => exact ⟨0, by omega, rfl, by first | (rw [<- crcZero_part]; exact Blk.new _ _ _) | (have h := Blk.new w 87 crcZero; rw [crcZero_part] at h; exact cast (by kernel_rfl) h), (Below.refl _ _).alloc (Nat.le_refl _) _⟩
 case round =>
   obtain ⟨k, hk, rfl, hb, hw⟩ := hrel
   by_cases hlt : k < 256
   · have hf := hb.frozen k
     have hs := Lib.hid (crcPart_set hlt)
     have hsz : (crcPart k).toArray.size = 256 := by rw [List.size_toArray]; unfold crcPart; rw [List.length_append, List.length_take, List.length_replicate, crcRows_length]; omega
     have hcell : ∃ u, wr.cell? ⟨w.heap.size, k, none⟩ = some u := by rw [hb.cell]; exact ⟨_, Array.getElem?_eq_getElem (by omega)⟩
     obtain ⟨u, hcell⟩ := hcell
     have HB := Lib.hid hb
     clear hb hsz
     generalize hg : w.heap.size = g at hf hcell ⊢
     go_wp2_with (go_at_call 44; refine (crcEntry_any k _ (by omega)).mono ?_; rintro e w1 ⟨rfl, rfl⟩)
     go_roundw
     case rel => exact ⟨k + 1, by omega, by go_num, by rw [<- hs.out]; exact (hg ▸ HB.out).set_ k _, (hg ▸ hw : Below g w wr).setCell (Nat.le_refl g) _⟩
     case measure => simp [intOf]; omega
   · obtain rfl : k = 256 := by omega
     rw [crcPart256] at hb
     go_wp2
     go_ret
     exact ⟨rfl, hb, hw⟩
def IsTable (w : World) (g : Nat) : Prop := Blk w g 87 crcRows.toArray
theorem IsTable.at_ {w : World} {g m : Nat} (h : IsTable w g) (hm : m < 256) : w.cell? ⟨g, m, none⟩ = some (.int .u32 (crcN 8 m : Nat)) := by
 have h : Blk w g 87 crcRows.toArray := h
 rw [h.cell, List.getElem?_toArray]; exact crcRows_get hm
theorem IsTable.below {w w' : World} {g B : Nat} (h : IsTable w g) (hb : Below B w w') (hg : g < B) : IsTable w' g := Blk.below h hb hg
theorem crcAdd_def (s : Nat) (zs : List Int) : crcAdd s zs = (crcIn (s ^^^ 4294967295) zs) ^^^ 4294967295 := rfl
set_option maxRecDepth 20000 in
theorem crcAdd_any {B : Nat} (g : Nat) (s : Nat) (A : Option Addr) (len cap : Nat) (zs : List Int) (w : World) (ht : IsTable w g) (hs : s < 4294967296) (hr : Reads w B 1 A len (cellsOf .u8 zs)) (hz : ∀ z ∈ zs, 0 <= z /\ z < 256) (hl : len <= cap) (hcap : cap <= 9223372036854775807) :
 Calls Tryz.prog 130 #[.pointer (some ⟨g, 0, none⟩), .int .u32 s, .slice A len cap] w fun e w' => e = .returned (.int .u32 (crcAdd s zs : Nat)) /\ w = w' := by
 have hll := hr.len
 have hn0 := notAll hs
 have hs0 := xor_lt32 hs (show 4294967295 < 4294967296 by omega)
 have HE := Lib.hid (crcAdd_def s zs)
 generalize s ^^^ 4294967295 = c0 at hn0 hs0 HE
 go_enter Tryz.func130, Tryz.ntmps130
 go_wp2
 go_loop [7, 9, 16] (fun c _ i => ∃ k n : Nat, Hid (n = crcIn c0 (zs.take k)) /\ k <= len /\ n < 4294967296 /\ i = .int .i64 k /\ c = .int .u32 n) (fun _ _ i => len - (intOf i).toNat)
 case atStart => exact ⟨0, c0, rfl, by omega, hs0, rfl, rfl⟩
 case round =>
   obtain ⟨k, n, hn, hk, hn32, rfl, rfl⟩ := hrel
   by_cases hlt : k < len
   · obtain ⟨b, off, rfl, _, hc⟩ := hr.plain (by omega)
     have hcell := hc k hlt
     have hx := hz (zs.getD k 0) (by rw [List.getD_eq_getElem?_getD, List.getElem?_eq_getElem (by omega)]; exact List.getElem_mem _)
     have hst := crcIn_step (zs := zs) (c := c0) (k := k) (by omega)
     rw [<- hn.out] at hst
     obtain ⟨x, hxe⟩ := Int.eq_ofNat_of_zero_le hx.1
     rw [hxe] at hcell hx hst
     rw [Int.toNat_natCast] at hst
     have hx2 : x < 256 := by omega
     have hrow := crc_row n x hx2
     have hi : bits .xor .u8 ((n : Int) % 256) (x : Int) = ((n % 256 ^^^ x : Nat) : Int) := u8_xor_nat (n % 256) x (by omega) hx2
     have hm : n % 256 ^^^ x < 256 := Nat.xor_lt_two_pow (n := 8) (by omega) hx2
     have hn8 : n / 256 < 4294967296 := by omega
     generalize n % 256 ^^^ x = m at hi hm hrow
     have hm32 : crcN 8 m < 4294967296 := crcN_lt 8 (by omega)
     have hxx : bits .xor .u32 (crcN 8 m : Int) ((n : Int) / 256) = ((crcN 8 m ^^^ (n / 256) : Nat) : Int) := by
       have := u32_xor_nat (crcN 8 m) (n / 256) hm32 hn8
       rw [<- this]; rfl
     have hnx := xor_lt32 hm32 hn8
     have htc := ht.at_ hm
     generalize crcN 8 m = row at hm32 hxx hnx htc hrow
     have HX := Lib.hid hxx
     have HN := Lib.hid hnx
     have HR := Lib.hid hrow
     have HS := Lib.hid hst
     have HZ := Lib.hid hz
     clear hxx hnx hrow hst hxe hc hr hz hll
     go_wp2
     go_round
     case rel => exact ⟨k + 1, crcN 8 (n ^^^ x), HS.out.symm, by omega, by have := HR.out; rw [<- this]; exact HN.out, by go_num, by rw [<- HR.out, <- HX.out]⟩
     case measure => simp [intOf]; omega
   · obtain rfl : k = len := by omega
     have hn2 := hn.out
     rw [List.take_of_length_le (by omega)] at hn2
     have hna := notAll hn32
     go_wp2
     go_ret
     exact ⟨ret_int (by rw [HE.out, <- hn2, hna]), rfl⟩
theorem crcSum_any {B : Nat} (g : Nat) (A : Option Addr) (len cap : Nat) (zs : List Int) (w : World) (ht : IsTable w g) (hr : Reads w B 1 A len (cellsOf .u8 zs)) (hz : ∀ z ∈ zs, 0 <= z /\ z < 256) (hl : len <= cap) (hcap : cap <= 9223372036854775807) :
 Calls Tryz.prog 81 #[.pointer (some ⟨g, 0, none⟩), .slice A len cap] w fun e w' => e = .returned (.int .u32 (crcAdd 0 zs : Nat)) /\ w = w' := by
 go_enter Tryz.func81, Tryz.ntmps81
 go_wp2_with (go_at_call 130; refine (crcAdd_any g 0 A len cap zs w ht (by omega) hr hz hl hcap).mono ?_; rintro e w1 ⟨rfl, rfl⟩)
 go_ret
 exact ⟨rfl, rfl⟩
theorem rcrcAdd_any {B : Nat} (s : Nat) (A : Option Addr) (len cap : Nat) (zs : List Int) (w : World) (hs : s < 4294967296) (hr : Reads w B 1 A len (cellsOf .u8 zs)) (hz : ∀ z ∈ zs, 0 <= z /\ z < 256) (hl : len <= cap) (hcap : cap <= 9223372036854775807) :
 Calls Tryz.prog 105 #[.int .u32 s, .slice A len cap] w fun e w' => e = .returned (.int .u32 (crcAdd s zs : Nat)) /\ w = w' := by
 have hll := hr.len
 have hn0 := xorAll hs
 have hs0 := xor_lt32 hs (show 4294967295 < 4294967296 by omega)
 have HE := Lib.hid (crcAdd_def s zs)
 generalize s ^^^ 4294967295 = c0 at hn0 hs0 HE
 go_enter Tryz.func105, Tryz.ntmps105
 go_wp2
 go_loop [5, 6, 7] (fun c i _ => ∃ k n : Nat, Hid (n = crcIn c0 (zs.take k)) /\ k <= len /\ n < 4294967296 /\ i = .int .i64 k /\ c = .int .u32 n) (fun _ i _ => len - (intOf i).toNat)
 case atStart => exact ⟨0, c0, rfl, by omega, hs0, rfl, rfl⟩
 case round =>
   obtain ⟨k, n, hn, hk, hn32, rfl, rfl⟩ := hrel
   by_cases hlt : k < len
   · obtain ⟨b, off, rfl, _, hc⟩ := hr.plain (by omega)
     have hcell := hc k hlt
     have hx := hz (zs.getD k 0) (by rw [List.getD_eq_getElem?_getD, List.getElem?_eq_getElem (by omega)]; exact List.getElem_mem _)
     have hst := crcIn_step (zs := zs) (c := c0) (k := k) (by omega)
     rw [<- hn.out] at hst
     obtain ⟨x, hxe⟩ := Int.eq_ofNat_of_zero_le hx.1
     rw [hxe] at hcell hx hst
     rw [Int.toNat_natCast] at hst
     have hx2 : x < 256 := by omega
     have hi := u32_xor_nat n x hn32 (by omega)
     have hnx := xor_lt32 hn32 (show x < 4294967296 by omega)
     generalize n ^^^ x = m at hi hnx hst
     have HS := Lib.hid hst
     clear hst hxe hc hr hz hll
     go_wp2
     go_loop [5, 7] (fun c j => ∃ q y : Nat, Hid (y = crcN q m) /\ q <= 8 /\ y < 4294967296 /\ j = .int .i64 q /\ c = .int .u32 y) (fun _ j => 8 - (intOf j).toNat)
     case atStart => exact ⟨0, m, rfl, by omega, hnx, rfl, rfl⟩
     case round =>
       obtain ⟨q, y, hy, hq, hy32, rfl, rfl⟩ := hrel
       by_cases hlt2 : q < 8
       · have hy2 := crcBit_lt hy32
         go_wp2_with (go_at_call 150; refine (rcrcBit_any y w hy32).mono ?_; rintro e w1 ⟨rfl, rfl⟩)
         go_round
         case rel => exact ⟨q + 1, crcBit y, by have := hy.out; show _ = _; rw [crcN_succ, this], by omega, hy2, by go_num, rfl⟩
         case measure => simp [intOf]; omega
       · obtain rfl : q = 8 := by omega
         go_wp2
         go_round
         case rel => exact ⟨k + 1, y, by show _ = _; rw [HS.out]; exact hy.out, by omega, hy32, by go_num, rfl⟩
         case measure => simp [intOf]; omega
   · obtain rfl : k = len := by omega
     have hn2 := hn.out
     rw [List.take_of_length_le (by omega)] at hn2
     have hna := xorAll hn32
     go_wp2
     go_ret
     exact ⟨ret_int (by rw [HE.out, <- hn2, hna]), rfl⟩
end Go.Proofs.YtgcmbgniaffdlaaGreat
