import Derived.Test.YtgcmbgniaffdlaaGreatLHd
set_option linter.unusedVariables false
set_option maxRecDepth 100000
set_option linter.unusedSimpArgs false
namespace Go.Proofs.YtgcmbgniaffdlaaGreat
def encW (l : List Int) : List Int := wordsB l ++ bts (crcAdd 0 (wordsB l) : Nat) 4 ++ List.replicate 12 0
def rightS (a t s : Int) : Bool := decide (a ≠ 0) && (decide (s = 1) || decide (s = 2)) && decide (t % 8 = 0)
def rightL (l : List Int) : Bool := rightS (l.getD 0 0) (l.getD 1 0) (l.getD 5 0)
def encSR (l : List Int) : List Int := if rightL l then encW l else []
def wordS (Z : List Int) (j : Nat) : Int := lev ((Z.drop (8 * j)).take 8)
def isS (Z : List Int) : Bool := decide (64 <= Z.length) && rightL (wrds 6 Z) && decide (encW (wrds 6 Z) = Z.take 64)
theorem wrds_six (Z : List Int) : wrds 6 Z = [wordS Z 0, wordS Z 1, wordS Z 2, wordS Z 3, wordS Z 4, wordS Z 5] := by
 simp only [wrds, wordS, List.drop_drop]
 rfl
theorem encW_length {l : List Int} (h : l.length = 6) : (encW l).length = 64 := by
 unfold encW; rw [List.length_append, List.length_append, wordsB_length, bts_length, List.length_replicate, h]; rfl
theorem encW_bytes (l : List Int) : AreB (encW l) := ((wordsB_bytes _).append (bts_bytes _ _)).append (AreB.zeros _)
theorem encSR_bytes (l : List Int) : AreB (encSR l) := by
 unfold encSR; split
 · exact encW_bytes l
 · exact AreB.nil
theorem wrds_enc {l : List Int} (h : l.length = 6) (hl : ∀ z ∈ l, 0 <= z /\ z < 18446744073709551616) (r : List Int) : wrds 6 (encW l ++ r) = l := by
 unfold encW
 rw [List.append_assoc, List.append_assoc, <- h]
 exact wrds_wordsB l _ hl
theorem isS_enc {l : List Int} (h : l.length = 6) (hl : ∀ z ∈ l, 0 <= z /\ z < 18446744073709551616) (hr : rightL l = true) (r : List Int) : isS (encW l ++ r) = true := by
 unfold isS
 rw [wrds_enc h hl r, hr, List.take_left' (encW_length h)]
 simp [encW_length h]
theorem isS_zeros (r : List Int) : isS (List.replicate 64 0 ++ r) = false := by
 have e : wordS (List.replicate 64 0 ++ r) 0 = 0 := by
   unfold wordS
   rw [Nat.mul_zero, List.drop_zero, show List.replicate 64 (0 : Int) = List.replicate 8 0 ++ List.replicate 56 0 from rfl, List.append_assoc, List.take_left' (List.length_replicate ..)]
   rfl
 unfold isS
 rw [wrds_six, e]
 simp [rightL, rightS]
def pickS (zs : List Int) : Nat :=
 if isS (zs.drop 128) && (!isS (zs.drop 64) || decide (wordS (zs.drop 64) 0 < wordS (zs.drop 128) 0)) then 2 else if isS (zs.drop 64) then 1 else 0
theorem isS_short {Z : List Int} (h : Z.length < 64) : isS Z = false := by
 unfold isS; rw [decide_eq_false (by omega)]; rfl
open Go.RowKit
abbrev sV (a b c d e f : Int) : Value := .agg #[.int .u64 a, .int .u64 b, .int .u64 c, .int .u64 d, .int .u64 e, .int .u64 f]
abbrev sC (a b c d e f : Int) : Array Value := #[.int .u64 a, .int .u64 b, .int .u64 c, .int .u64 d, .int .u64 e, .int .u64 f]
abbrev SlAt (w : World) (g : Nat) (a b c d e f : Int) : Prop :=
 w.cell? ⟨g, 0, none⟩ = some (.int .u64 a) /\ w.cell? ⟨g, 1, none⟩ = some (.int .u64 b) /\ w.cell? ⟨g, 2, none⟩ = some (.int .u64 c) /\ w.cell? ⟨g, 3, none⟩ = some (.int .u64 d) /\ w.cell? ⟨g, 4, none⟩ = some (.int .u64 e) /\ w.cell? ⟨g, 5, none⟩ = some (.int .u64 f)
theorem slAt_blk {w : World} {g : Nat} {ty : TypeId} {a b c d e f : Int} (h : Blk w g ty (sC a b c d e f)) : SlAt w g a b c d e f :=
 ⟨by rw [h.cell]; rfl, by rw [h.cell]; rfl, by rw [h.cell]; rfl, by rw [h.cell]; rfl, by rw [h.cell]; rfl, by rw [h.cell]; rfl⟩
theorem slAt_of {w w' : World} {ty : TypeId} {a b c d e f : Int} (h : Below (w.alloc (.cells (sC a b c d e f) ty)).heap.size (w.alloc (.cells (sC a b c d e f) ty)) w') : SlAt w' w.heap.size a b c d e f :=
 slAt_blk ((Blk.new w ty _).below h (by simp))
theorem sright_any (a b c d e f : Int) (w : World) (ha : 0 <= a) (hb : 0 <= b) : Calls Tryz.prog 212 #[sV a b c d e f] w fun en w' => en = .returned (.bool (rightS a b f)) /\ Below w.heap.size w w' := by
 have hq : b.tmod 8 = b % 8 := Int.tmod_eq_emod_of_nonneg hb
 obtain ⟨q, hqq⟩ : ∃ q, b.tmod 8 = q := ⟨_, rfl⟩
 have HQ : Hid (∀ x y : Int, rightS x b y = (decide (x ≠ 0) && (decide (y = 1) || decide (y = 2)) && decide (q = 0))) := fun x y => by unfold rightS; rw [<- hq, hqq]
 clear hq
 by_cases h1 : a = 0
 · have HF : Hid (false = rightS a b f) := by show _ = _; rw [HQ.out, h1]; simp
   have t1 : decide (0 < a) = false := by simp; omega
   clear HQ hqq
   go_enter Tryz.func212, Tryz.ntmps212
   go_wp2
   go_ret
   exact ⟨ret_bool HF.out, boxed _ _⟩
 have h5 : 0 < a := by omega
 by_cases h3 : f = 1
 · subst h3
   by_cases h2 : q = 0
   · have HF : Hid (true = rightS a b 1) := by show _ = _; rw [HQ.out]; simp [h1, h2]
     subst h2
     clear HQ
     go_enter Tryz.func212, Tryz.ntmps212
     go_wp2
     go_ret
     exact ⟨ret_bool HF.out, boxed _ _⟩
   · have HF : Hid (false = rightS a b 1) := by show _ = _; rw [HQ.out]; simp [h1, h2]
     have t2 : (q == 0) = false := by simp; omega
     clear HQ
     go_enter Tryz.func212, Tryz.ntmps212
     go_wp2
     go_ret
     exact ⟨ret_bool HF.out, boxed _ _⟩
 by_cases h4 : f = 2
 · subst h4
   by_cases h2 : q = 0
   · have HF : Hid (true = rightS a b 2) := by show _ = _; rw [HQ.out]; simp [h1, h2]
     subst h2
     clear HQ
     go_enter Tryz.func212, Tryz.ntmps212
     go_wp2
     go_ret
     exact ⟨ret_bool HF.out, boxed _ _⟩
   · have HF : Hid (false = rightS a b 2) := by show _ = _; rw [HQ.out]; simp [h1, h2]
     have t2 : (q == 0) = false := by simp; omega
     clear HQ
     go_enter Tryz.func212, Tryz.ntmps212
     go_wp2
     go_ret
     exact ⟨ret_bool HF.out, boxed _ _⟩
 · have HF : Hid (false = rightS a b f) := by show _ = _; rw [HQ.out]; simp [h3, h4]
   have t3 : decide (f = 1) = false := by simp; omega
   have t4 : decide (f = 2) = false := by simp; omega
   clear HQ hqq
   go_enter Tryz.func212, Tryz.ntmps212
   go_wp2
   go_ret
   exact ⟨ret_bool HF.out, boxed _ _⟩
theorem rsright_any (a b c d e f : Int) (w : World) (ha : 0 <= a) (hb : 0 <= b) : Calls Tryz.prog 103 #[sV a b c d e f] w fun en w' => en = .returned (.bool (rightS a b f)) /\ Below w.heap.size w w' := by
 have hq : b.tmod 8 = b % 8 := Int.tmod_eq_emod_of_nonneg hb
 obtain ⟨q, hqq⟩ : ∃ q, b.tmod 8 = q := ⟨_, rfl⟩
 have HQ : Hid (∀ x y : Int, rightS x b y = (decide (x ≠ 0) && (decide (y = 1) || decide (y = 2)) && decide (q = 0))) := fun x y => by unfold rightS; rw [<- hq, hqq]
 clear hq
 by_cases h1 : a = 0
 · have HF : Hid (false = rightS a b f) := by show _ = _; rw [HQ.out, h1]; simp
   subst h1
   clear HQ hqq
   go_enter Tryz.func103, Tryz.ntmps103
   go_wp2
   go_ret
   exact ⟨ret_bool HF.out, boxed _ _⟩
 have h5 : (a != 0) = true := by simp; omega
 by_cases h3 : f = 1
 · subst h3
   by_cases h2 : q = 0
   · have HF : Hid (true = rightS a b 1) := by show _ = _; rw [HQ.out]; simp [h1, h2]
     subst h2
     clear HQ
     go_enter Tryz.func103, Tryz.ntmps103
     go_wp2
     go_ret
     exact ⟨ret_bool HF.out, boxed _ _⟩
   · have HF : Hid (false = rightS a b 1) := by show _ = _; rw [HQ.out]; simp [h1, h2]
     have t2 : (q == 0) = false := by simp; omega
     clear HQ
     go_enter Tryz.func103, Tryz.ntmps103
     go_wp2
     go_ret
     exact ⟨ret_bool HF.out, boxed _ _⟩
 by_cases h4 : f = 2
 · subst h4
   by_cases h2 : q = 0
   · have HF : Hid (true = rightS a b 2) := by show _ = _; rw [HQ.out]; simp [h1, h2]
     subst h2
     clear HQ
     go_enter Tryz.func103, Tryz.ntmps103
     go_wp2
     go_ret
     exact ⟨ret_bool HF.out, boxed _ _⟩
   · have HF : Hid (false = rightS a b 2) := by show _ = _; rw [HQ.out]; simp [h1, h2]
     have t2 : (q == 0) = false := by simp; omega
     clear HQ
     go_enter Tryz.func103, Tryz.ntmps103
     go_wp2
     go_ret
     exact ⟨ret_bool HF.out, boxed _ _⟩
 · have HF : Hid (false = rightS a b f) := by show _ = _; rw [HQ.out]; simp [h3, h4]
   have t3 : decide (f = 1) = false := by simp; omega
   have t4 : decide (f = 2) = false := by simp; omega
   clear HQ hqq
   go_enter Tryz.func103, Tryz.ntmps103
   go_wp2
   go_ret
   exact ⟨ret_bool HF.out, boxed _ _⟩
theorem rows6 (w : World) (ty : TypeId) (a b c d e f : Int) : Reads (w.alloc (.cells (sC a b c d e f) ty)) (w.heap.size + 1) 1 (some ⟨w.heap.size, 0, none⟩) 6 (cellsOf .u64 [a, b, c, d, e, f]) := Reads.newN _ _ _
set_option maxHeartbeats 2000000 in
theorem senc_yes (G : Nat) (a b c d e f : Int) (w : World) (hr : rightS a b f = true) (ht : IsTable w G) (ha : 0 <= a) (hb : 0 <= b) :
 Calls Tryz.prog 188 #[sV a b c d e f, .pointer (some ⟨G, 0, none⟩)] w (Told (encW [a, b, c, d, e, f]) w) := by
 have R1 := Lib.hid (fun wx => sright_any a b c d e f wx ha hb)
 rw [hr] at R1
 have L2 : Hid (([] : List Int) ++ wordsB [a, b, c, d, e, f] = wordsB [a, b, c, d, e, f]) := rfl
 have L3 : Hid ((wordsB [a, b, c, d, e, f]).length = 48) := wordsB_length _
 have LB := Lib.hid (wordsB_bytes [a, b, c, d, e, f])
 have HZ : Hid (∀ s : Nat, s = crcAdd 0 (wordsB [a, b, c, d, e, f]) -> wordsB [a, b, c, d, e, f] ++ bts (s : Int) 4 ++ List.replicate (padn (wordsB [a, b, c, d, e, f] ++ bts (s : Int) 4).length 64) 0 = encW [a, b, c, d, e, f]) := fun s hs => by
   subst hs
   rw [List.length_append, wordsB_length, bts_length]
   rfl
 have HL : Hid (∀ s : Int, (wordsB [a, b, c, d, e, f] ++ bts s 4).length = 52) := fun s => by rw [List.length_append, wordsB_length, bts_length]; rfl
 have HE := Lib.hid (encW_length (l := [a, b, c, d, e, f]) rfl)
 have HS := Lib.hid (crcAdd_lt (s := 0) (zs := wordsB [a, b, c, d, e, f]) (by omega) (wordsB_bytes [a, b, c, d, e, f]))
 generalize encW [a, b, c, d, e, f] = en at *
 obtain ⟨X, hX⟩ : ∃ X, X = wordsB [a, b, c, d, e, f] := ⟨_, rfl⟩
 have HX := Lib.hid hX
 rw [<- hX] at L2 L3 LB HZ HL HS
 obtain ⟨s, hs⟩ : ∃ s, Hid (s = crcAdd 0 X) := ⟨_, rfl⟩
 rw [<- hs.out] at HS
 have hs32 := HS.out
 have hws : IntKind.u64.wrap (s : Int) = s := by rw [IntKind.wrap_u64]; omega
 have T4 : (64 : Int) <= 4096 := by omega
 have HTB := Lib.hid (fun wx (hx : Below w.heap.size w wx) => (IsTable.below ht hx ht.lt : IsTable wx G))
 have m1 : True := trivial
 clear ht hr ha hb hX
 go_enter Tryz.func188, Tryz.ntmps188
 go_wp2_with (first
   | (go_at_call 212; refine (R1.out _).mono ?_; rintro en0 wR ⟨rfl, hbR⟩; have HbR : Below w.heap.size w wR := (boxed _ _).trans (hbR.mono (by simp)); have HO := Lib.hid (fun wx (hx : Below wR.heap.size wR wx) => slAt_of (hbR.trans (hx.mono hbR.size))); have hg : wR.heap.size <= wR.heap.size := Nat.le_refl _; obtain ⟨k10, k11, k12, k13, k14, k15⟩ := HO.out _ (boxed wR (.cells #[.slice none 0 0] 143)); have W2 := (nob wR).below (boxed _ (.cells (sC a b c d e f) 27)); have hap := (nob wR).apart; have q0 := rows6 (wR.alloc (.cells #[.slice none 0 0] 143)) 27 a b c d e f; rw [World.size_alloc] at q0 hap; clear hbR)
   | (go_at_call 79; refine (words_any _ _ _ _ 6 6 [a, b, c, d, e, f] _ W2.wr q0 (by simp) (fun _ ad h0 => by (injection h0 with h0); subst h0; exact hap) (by simp)).mono ?_; rintro en0 w3 ⟨rfl, hp3⟩; rw [<- HX.out, L2.out] at hp3; obtain ⟨v3, W3⟩ := W2.step hg hp3; clear hp3 hap)
   | (go_at_call 82; clear m1; refine (wdone_n _ 48 v3 _ _ W3.wr L3.out (by omega)).mono ?_; rintro en0 w4 ⟨A4, c4, rfl, hr4, hb4, hc41, hc42⟩; have W4 := W3.below hb4; have ht4 := HTB.out w4 (HbR.trans (W4.bel.mono HbR.size)))
   | (go_at_call 81; refine (crcSum_any G A4 48 c4 _ w4 ht4 hr4 LB.out hc41 hc42).mono ?_; rintro en0 w5 ⟨rfl, rfl⟩; rw [<- hs.out])
   | (go_at_call 80; refine (num_any _ v3 _ s 4 _ W4.wr (by rw [L3.out]; omega)).mono ?_; rintro en0 w6 ⟨rfl, hp6⟩; obtain ⟨v6, W6⟩ := W4.step hg hp6; clear hp6)
   | (go_at_call 83; refine (pad_any _ v6 _ 64 _ W6.wr T4 (by omega) (by rw [HL.out]; omega)).mono ?_; rintro en0 w7 ⟨rfl, hp7⟩; rw [HZ.out s hs.out] at hp7; obtain ⟨v7, W7⟩ := W6.step hg hp7; clear hp7)
   | (go_at_call 82; refine (wdone_any _ v7 _ _ W7.wr (by rw [HE.out]; omega)).mono ?_; rintro en0 w8 ⟨A', c', rfl, ho, hb, h1, h2⟩))
 go_ret
 have hb9 := HbR.trans (W7.bel.mono HbR.size)
 exact ⟨A', _, c', rfl, rfl, own_base ho hb9.size, hb9.trans (hb.mono hb9.size), h1, by unfold maxLen at h2; omega⟩
theorem senc_no (v : Value) (a b c d e f : Int) (w : World) (hr : rightS a b f = false) (ha : 0 <= a) (hb : 0 <= b) :
 Calls Tryz.prog 188 #[sV a b c d e f, v] w (Told [] w) := by
 have R1 := Lib.hid (fun wx => sright_any a b c d e f wx ha hb)
 rw [hr] at R1
 clear hr ha hb
 go_enter Tryz.func188, Tryz.ntmps188
 go_wp2_with (go_at_call 212; refine (R1.out _).mono ?_; rintro en0 wR ⟨rfl, hbR⟩)
 go_ret
 exact Told.nil _ _ ((boxed _ _).trans (hbR.mono (by simp)))
def encS (a b c d e f : Int) : List Int := if rightS a b f then encW [a, b, c, d, e, f] else []
theorem encS_bytes (a b c d e f : Int) : AreB (encS a b c d e f) := encSR_bytes [a, b, c, d, e, f]
theorem senc_any (G : Nat) (a b c d e f : Int) (w : World) (ht : IsTable w G) (ha : 0 <= a) (hb : 0 <= b) :
 Calls Tryz.prog 188 #[sV a b c d e f, .pointer (some ⟨G, 0, none⟩)] w (Told (encS a b c d e f) w) := by
 unfold encS
 by_cases hr : rightS a b f = true
 · rw [if_pos hr]; exact senc_yes G a b c d e f w hr ht ha hb
 · rw [if_neg hr]; exact senc_no _ a b c d e f w (by simpa using hr) ha hb
theorem rbytes4s (x : Int) (w : World) (h0 : Hid (0 <= x /\ x < 18446744073709551616)) : Calls Tryz.prog 104 #[.int .u64 x, .int .i64 4] w fun e w' =>
   ∃ A c, e = .returned (.slice A 4 c) /\ w'.ownsRow w.heap.size 5 1 (.slice A 4 c) 4 (cellsOf .u8 (bts x 4)) /\ Below w.heap.size w w' :=
 rbytes_any x 4 w h0
structure OutS (w0 : World) (g : Nat) (a b c d e f : Int) (v : Value) (N : Nat) (zs : List Int) (wx : World) : Prop where
 out : OutB w0 v N zs wx
 wds : Blk wx g 27 (sC a b c d e f)
theorem OutS.below {w0 wx wy : World} {g : Nat} {a b c d e f : Int} {v : Value} {N : Nat} {zs : List Int} (h : OutS w0 g a b c d e f v N zs wx) (hb : Below wx.heap.size wx wy) : OutS w0 g a b c d e f v N zs wy :=
 ⟨h.out.below hb, h.wds.below hb h.wds.lt⟩
theorem OutS.app {w0 wx wy : World} {g : Nat} {a b c d e f : Int} {v v' : Value} {N M : Nat} {zs ys : List Int} (h : OutS w0 g a b c d e f v N zs wx) (ho : wy.ownsRow w0.heap.size 5 1 v' (N + M) (cellsOf .u8 zs ++ cellsOf .u8 ys)) (hg : wx.grownBy wy v.ownBlock) : OutS w0 g a b c d e f v' (N + M) (zs ++ ys) wy :=
 ⟨h.out.app ho hg, h.wds.grown hg (fun e2 => own_blk_ne h.out.own h.wds (by decide) e2.symm)⟩
theorem OutS.word {w0 wx : World} {g : Nat} {a b c d e f : Int} {v : Value} {N : Nat} {zs : List Int} (h : OutS w0 g a b c d e f v N zs wx) {j : Nat} (hj : j < 6) : wx.cell? ⟨g, j, none⟩ = some (.int .u64 ([a, b, c, d, e, f].getD j 0)) := by
 rw [h.wds.cell]
 match j, hj with
 | 0, _ | 1, _ | 2, _ | 3, _ | 4, _ | 5, _ => rfl
 | n + 6, h => omega
theorem outS_start (w : World) (a b c d e f : Int) : OutS w w.heap.size a b c d e f (.slice none 0 0) 0 [] (w.alloc (.cells (sC a b c d e f) 27)) :=
 ⟨⟨World.ownsRow_nil _ _ _ _, boxed _ _⟩, Blk.new w 27 _⟩
set_option maxHeartbeats 2000000 in
theorem rsenc_yes (a b c d e f : Int) (w : World) (hr : rightS a b f = true) (h6 : ∀ j, 0 <= [a, b, c, d, e, f].getD j 0 /\ [a, b, c, d, e, f].getD j 0 < 18446744073709551616) :
 Calls Tryz.prog 54 #[sV a b c d e f] w (Told (encW [a, b, c, d, e, f]) w) := by
 obtain ⟨i0, hi0, hz0, hz1, hz2⟩ := info_parts byteInfo
 have R1 := Lib.hid (fun wx => rsright_any a b c d e f wx (h6 0).1 (h6 1).1)
 rw [hr] at R1
 have HB6 := Lib.hid h6
 have HT : Hid (∀ j, j < 6 -> wordsB ([a, b, c, d, e, f].take (j + 1)) = wordsB ([a, b, c, d, e, f].take j) ++ bts ([a, b, c, d, e, f].getD j 0) 8) := fun j hj => wordsB_take (by simpa using hj)
 have HW : Hid (wordsB ([a, b, c, d, e, f].take 6) = wordsB [a, b, c, d, e, f]) := rfl
 have LB := Lib.hid (wordsB_bytes [a, b, c, d, e, f])
 have HE := Lib.hid (encW_length (l := [a, b, c, d, e, f]) rfl)
 have HZ : Hid (∀ s : Nat, s = crcAdd 0 (wordsB [a, b, c, d, e, f]) -> wordsB [a, b, c, d, e, f] ++ bts (s : Int) 4 ++ List.replicate 12 0 = encW [a, b, c, d, e, f]) := fun s hs => by subst hs; rfl
 have HS := Lib.hid (crcAdd_lt (s := 0) (zs := wordsB [a, b, c, d, e, f]) (by omega) (wordsB_bytes [a, b, c, d, e, f]))
 obtain ⟨s, hs⟩ : ∃ s, Hid (s = crcAdd 0 (wordsB [a, b, c, d, e, f])) := ⟨_, rfl⟩
 rw [<- hs.out] at HS
 have hs32 := HS.out
 have hws : IntKind.u64.wrap (s : Int) = s := by rw [IntKind.wrap_u64]; omega
 have HS8 : Hid (0 <= (s : Int) /\ (s : Int) < 18446744073709551616) := ⟨by omega, by omega⟩
 generalize encW [a, b, c, d, e, f] = en at *
 clear hr h6
 go_enter Tryz.func54, Tryz.ntmps54
 go_wp2_with (first
   | (go_at_call 103; refine (R1.out _).mono ?_; rintro en0 wR ⟨rfl, hbR⟩; have HbR : Below w.heap.size w wR := (boxed _ _).trans (hbR.mono (by simp)); obtain ⟨x0, x1, x2, x3, x4, x5⟩ := slAt_of hbR; clear hbR))
 clear x0 x1 x2 x3 x4 x5
 go_loopw [4, 5] (fun v n wr => ∃ j : Nat, j <= 6 /\ n = .int .i64 j /\ OutS wR wR.heap.size a b c d e f v (8 * j) (wordsB ([a, b, c, d, e, f].take j)) wr) (fun _ n _ => 6 - (intOf n).toNat)
 case atStart => exact ⟨0, Nat.zero_le _, rfl, outS_start wR a b c d e f⟩
 case round =>
   obtain ⟨j, hj, rfl, hO⟩ := hrel
   by_cases hlt : j < 6
   · have hcell := hO.word hlt
     have hxw : Hid _ := HB6.out j
     have HTj := Lib.hid (HT.out j hlt)
     generalize [a, b, c, d, e, f].getD j 0 = x at hcell HTj hxw
     obtain ⟨A1, c1, rfl, _, _⟩ := own_form hO.out.own
     have s3 : 8 * j + 8 <= maxLen := by unfold maxLen; omega
     go_wp2_with (first
       | (go_at_call 104; refine (rbytes8 x _ hxw).mono ?_; rintro en0 w1 ⟨A2, c2, rfl, ho2, hb2⟩; have O1 := hO.below hb2; have ho1 := O1.out.own; have R2 := Reads.of_own ho2; have hb12 := O1.out.bel)
       | (at_builtin; refine wpList_append_any _ rfl _ _ _ rfl wR.heap.size 5 i0 (.int .u8 0) 1 1 Tryz.underlying24 hi0 hz0 hz1 hz2 rfl (Nat.lt_succ_self 0) (.slice A1 (8 * j) c1) (8 * j) (cellsOf .u8 (wordsB ([a, b, c, d, e, f].take j))) rfl ho1 w1.heap.size A2 8 c2 (cellsOf .u8 (bts x 8)) rfl R2 (cellsOf_one _ _) s3 (by omega) hb12.size ?_; intro v3 w3 ho3 hg3 hat3; have O3 := O1.app ho3 hg3; clear ho3 hg3 hat3 O1 R2 ho1 ho2 hb2 hb12))
     go_roundw
     case rel =>
       rw [<- HTj.out] at O3
       exact ⟨j + 1, by omega, by go_num, O3⟩
     case measure => simp [intOf]; omega
   · obtain rfl : j = 6 := by omega
     rw [HW.out] at hO
     obtain ⟨A1, c1, rfl, hc11, hc12⟩ := own_form hO.out.own
     have R1 := Reads.of_own hO.out.own
     have hc13 : c1 <= 9223372036854775807 := by unfold maxLen at hc12; omega
     have s3 : 8 * 6 + 4 <= maxLen := by decide
     have O0 := hO.out
     go_wp2_with (first
       | (go_at_call 105; refine (rcrcAdd_any 0 A1 (8 * 6) c1 _ _ (by omega) R1 LB.out hc11 hc13).mono ?_; rintro en0 w1 ⟨rfl, rfl⟩; rw [<- hs.out])
       | (go_at_call 104; refine (rbytes4s s _ HS8).mono ?_; rintro en0 w1 ⟨A2, c2, rfl, ho2, hb2⟩; have O1 := O0.below hb2; have ho1 := O1.own; have R2 := Reads.of_own ho2; have hb12 := O1.bel)
       | (at_builtin; refine wpList_append_any _ rfl _ _ _ rfl wR.heap.size 5 i0 (.int .u8 0) 1 1 Tryz.underlying24 hi0 hz0 hz1 hz2 rfl (Nat.lt_succ_self 0) (.slice A1 (8 * 6) c1) (8 * 6) (cellsOf .u8 (wordsB [a, b, c, d, e, f])) rfl ho1 w1.heap.size A2 4 c2 (cellsOf .u8 (bts s 4)) rfl R2 (cellsOf_one _ _) s3 (by omega) hb12.size ?_; intro v3 w3 ho3 hg3 hat3; have O3 := O1.app ho3 hg3; clear ho3 hg3 hat3 O1 R2 ho1 ho2 hb2 hb12))
     clear hO O0 R1
     go_loopw [4] (fun v wr => ∃ z N : Nat, Hid (N = 52 + z /\ z <= 12) /\ OutB wR v N (wordsB [a, b, c, d, e, f] ++ bts (s : Int) 4 ++ List.replicate z 0) wr) (fun v _ => 64 - vlen v)
     case atStart => exact ⟨0, 52, ⟨rfl, Nat.zero_le _⟩, by simpa using O3⟩
     case round =>
       clear O3
       obtain ⟨z, N, hN, hO⟩ := hrel
       have hNb : N <= 64 := by have h := hN.out; omega
       obtain ⟨A1, c1, rfl, hc11, hc12⟩ := own_form hO.own
       by_cases hz : N < 64
       · have s3 : N + 1 <= maxLen := by unfold maxLen; omega
         have s4 : wR.heap.size <= (wr.alloc (.cells #[Value.int IntKind.u8 0] 5)).heap.size := by have := hO.bel.size; simp; omega
         have O1 := hO.below (wy := wr.alloc (.cells #[Value.int IntKind.u8 0] 5)) ((Below.refl _ _).alloc (Nat.le_refl _) _)
         go_wp2_with (at_builtin; refine wpList_append_any _ rfl _ _ _ rfl wR.heap.size 5 i0 (.int .u8 0) 1 1 Tryz.underlying24 hi0 hz0 hz1 hz2 rfl (Nat.lt_succ_self 0) (.slice A1 N c1) N (cellsOf .u8 (wordsB [a, b, c, d, e, f] ++ bts (s : Int) 4 ++ List.replicate z 0)) rfl O1.own (wr.heap.size + 1) _ 1 1 (cellsOf .u8 [0]) rfl (Reads.new1 _ _ _) (one_oneCell _ _) s3 (by omega) s4 ?_; intro v3 w3 ho3 hg3 hat3; have O3 := O1.app ho3 hg3; clear ho3 hg3 hat3)
         obtain ⟨A3, c3, rfl, _, _⟩ := own_form O3.own
         go_roundw
         case rel =>
           rw [List.append_assoc, <- List.replicate_succ'] at O3
           exact ⟨z + 1, N + 1, by show _ /\ _; have h := hN.out; omega, O3⟩
         case measure => simp [vlen]; omega
       · obtain rfl : N = 64 := by omega
         obtain rfl : z = 12 := by have h := hN.out; omega
         go_wp2
         go_ret
         have hO2 := hO.own
         rw [HZ.out s hs.out] at hO2
         exact ⟨A1, 64, c1, rfl, HE.out.symm, own_base hO2 HbR.size, HbR.trans (hO.bel.mono HbR.size), hc11, by unfold maxLen at hc12; omega⟩
theorem rsenc_no (a b c d e f : Int) (w : World) (hr : rightS a b f = false) (ha : 0 <= a) (hb : 0 <= b) :
 Calls Tryz.prog 54 #[sV a b c d e f] w (Told [] w) := by
 have R1 := Lib.hid (fun wx => rsright_any a b c d e f wx ha hb)
 rw [hr] at R1
 clear hr ha hb
 go_enter Tryz.func54, Tryz.ntmps54
 go_wp2_with (go_at_call 103; refine (R1.out _).mono ?_; rintro en0 wR ⟨rfl, hbR⟩)
 go_ret
 exact Told.nil _ _ ((boxed _ _).trans (hbR.mono (by simp)))
theorem rsenc_any (a b c d e f : Int) (w : World) (h6 : ∀ j, 0 <= [a, b, c, d, e, f].getD j 0 /\ [a, b, c, d, e, f].getD j 0 < 18446744073709551616) :
 Calls Tryz.prog 54 #[sV a b c d e f] w (Told (encS a b c d e f) w) := by
 unfold encS
 by_cases hr : rightS a b f = true
 · rw [if_pos hr]; exact rsenc_yes a b c d e f w hr h6
 · rw [if_neg hr]; exact rsenc_no a b c d e f w (by simpa using hr) (h6 0).1 (h6 1).1
abbrev sZ : Value := sV 0 0 0 0 0 0
abbrev sZC : Array Value := sC 0 0 0 0 0 0
theorem sdec_short (v : Value) (A : Option Addr) (n c : Nat) (w : World) (hn : n < 64) :
 Calls Tryz.prog 149 #[v, .slice A n c] w fun en w' => en = .returned (.tuple #[sZ, .bool false]) /\ Below w.heap.size w w' := by
 go_enter Tryz.func149, Tryz.ntmps149
 go_wp2
 refine bodyPost_ret (results_cell2 rfl _ _ w.heap.size 51 _ (0, 0) _ rfl (Blk.new _ _ _) Tryz.underlying51 rfl (by kernel_rfl)) rfl ?_
 exact ⟨rfl, boxed _ _⟩
structure Six (zs : List Int) (a b c d e f : Int) : Prop where
 w0 : lev ((((zs.take 64).drop 0).drop 0).take 8) = a
 w1 : lev ((((zs.take 64).drop 0).drop 8).take 8) = b
 w2 : lev ((((zs.take 64).drop 0).drop 16).take 8) = c
 w3 : lev ((((zs.take 64).drop 0).drop 24).take 8) = d
 w4 : lev ((((zs.take 64).drop 0).drop 32).take 8) = e
 w5 : lev ((((zs.take 64).drop 0).drop 40).take 8) = f
theorem wordS_take {zs : List Int} (j : Nat) (hj : j < 6) : lev ((((zs.take 64).drop 0).drop (8 * j)).take 8) = wordS zs j := by
 unfold wordS
 rw [List.drop_zero, List.drop_take, List.take_take, show min 8 (64 - 8 * j) = 8 by omega]
theorem six_of (zs : List Int) : Six zs (wordS zs 0) (wordS zs 1) (wordS zs 2) (wordS zs 3) (wordS zs 4) (wordS zs 5) :=
 ⟨wordS_take 0 (by omega), wordS_take 1 (by omega), wordS_take 2 (by omega), wordS_take 3 (by omega), wordS_take 4 (by omega), wordS_take 5 (by omega)⟩
theorem sl_store {w : World} {g : Nat} {ty : TypeId} {a b c d e f a' b' c' d' e' f' : Value} (h : Blk w g ty #[a, b, c, d, e, f]) :
 Blk ((((((w.setCell ⟨g, 0, none⟩ a').setCell ⟨g, 1, none⟩ b').setCell ⟨g, 2, none⟩ c').setCell ⟨g, 3, none⟩ d').setCell ⟨g, 4, none⟩ e').setCell ⟨g, 5, none⟩ f') g ty #[a', b', c', d', e', f'] := by
 have := (((((h.set_ 0 a').set_ 1 b').set_ 2 c').set_ 3 d').set_ 4 e').set_ 5 f'
 simpa using this
theorem sl_below {B : Nat} {w0 w : World} {g : Nat} {a' b' c' d' e' f' : Value} (h : Below B w0 w) (hg : B <= g) :
 Below B w0 ((((((w.setCell ⟨g, 0, none⟩ a').setCell ⟨g, 1, none⟩ b').setCell ⟨g, 2, none⟩ c').setCell ⟨g, 3, none⟩ d').setCell ⟨g, 4, none⟩ e').setCell ⟨g, 5, none⟩ f') :=
 (((((h.setCell (p := ⟨g, 0, none⟩) hg _).setCell (p := ⟨g, 1, none⟩) hg _).setCell (p := ⟨g, 2, none⟩) hg _).setCell (p := ⟨g, 3, none⟩) hg _).setCell (p := ⟨g, 4, none⟩) hg _).setCell (p := ⟨g, 5, none⟩) hg _
theorem sl_far {w : World} {g h : Nat} {ty : TypeId} {cs : Array Value} {a' b' c' d' e' f' : Value} (hb : Blk w g ty cs) (hn : g ≠ h) :
 Blk ((((((w.setCell ⟨h, 0, none⟩ a').setCell ⟨h, 1, none⟩ b').setCell ⟨h, 2, none⟩ c').setCell ⟨h, 3, none⟩ d').setCell ⟨h, 4, none⟩ e').setCell ⟨h, 5, none⟩ f') g ty cs :=
 (((((hb.far (p := ⟨h, 0, none⟩) hn _).far (p := ⟨h, 1, none⟩) hn _).far (p := ⟨h, 2, none⟩) hn _).far (p := ⟨h, 3, none⟩) hn _).far (p := ⟨h, 4, none⟩) hn _).far (p := ⟨h, 5, none⟩) hn _
set_option maxHeartbeats 2000000 in
theorem sdec_long {B : Nat} (G : Nat) (A : Option Addr) (n c : Nat) (zs : List Int) (u0 u1 u2 u3 u4 u5 : Int) (b : Bool) (w : World) (hr : Reads w B 1 A n (cellsOf .u8 zs)) (hB : B <= w.heap.size) (hz : AreB zs) (hl : n <= c) (hcap : c <= 9223372036854775807) (hn : 64 <= n) (ht : IsTable w G)
 (h6 : Six zs u0 u1 u2 u3 u4 u5) (hu0 : 0 <= u0) (hu1 : 0 <= u1) (hb : decide (encS u0 u1 u2 u3 u4 u5 = zs.take 64) = b) :
 Calls Tryz.prog 149 #[.pointer (some ⟨G, 0, none⟩), .slice A n c] w fun en w' => en = .returned (.tuple #[if b then sV u0 u1 u2 u3 u4 u5 else sZ, .bool b]) /\ Below w.heap.size w w' := by
 have hlen := hr.len
 have HB0 := Lib.hid (boxed w (.cells sZC 51))
 have HR := Lib.hid (fun wx (hx : Below w.heap.size w wx) => (hr.pre hn).keep (w' := wx) (fun p hp => hx.cell (by omega)))
 have HTB := Lib.hid (fun wx (hx : Below w.heap.size w wx) => (IsTable.below ht hx ht.lt : IsTable wx G))
 have HZ4 : Hid (AreB (zs.take 64)) := hz.take 64
 have HZ8 : Hid (AreB ((zs.take 64).drop 0)) := (hz.take 64).drop 0
 have HL8 : Hid (((zs.take 64).drop 0).length = 64) := by show _ = _; rw [List.length_drop, List.length_take]; omega
 have HX := Lib.hid (encS_bytes u0 u1 u2 u3 u4 u5)
 have H6 := Lib.hid h6
 have EN := Lib.hid (fun wx ht => senc_any G u0 u1 u2 u3 u4 u5 wx ht hu0 hu1)
 have BB := Lib.hid hb
 generalize encS u0 u1 u2 u3 u4 u5 = x at *
 have hc64 : (64 : Int) <= c := by omega
 have hc642 : 64 <= c := by omega
 have HSB : Hid (B <= w.heap.size) := hB
 clear hr ht hz h6 hb hlen hB hu0 hu1
 cases b
 all_goals
   go_enter Tryz.func149, Tryz.ntmps149
   go_wp2_with (first
     | (go_at_call 61; refine (read_at (B := B) A 64 _ 0 (zs.take 64) _ (HR.out _ HB0.out) (Nat.le_trans HSB.out HB0.out.size) hc642 (by omega) (by omega) (by omega)).mono ?_; rintro en w1 ⟨g, B', rfl, R0, hg⟩)
     | (go_at_call 62; refine (num8 (p := 0) R0 hg HZ8.out (by rw [HL8.out]; omega) (by rw [HL8.out]; omega) (by omega)).mono ?_; rw [H6.out.w0]; rintro en w2 ⟨rfl, R1⟩; clear R0)
     | (go_at_call 62; refine (num8 (p := 8) R1 hg HZ8.out (by rw [HL8.out]; omega) (by rw [HL8.out]; omega) (by omega)).mono ?_; rw [H6.out.w1]; rintro en w3 ⟨rfl, R2⟩; clear R1)
     | (go_at_call 62; refine (num8 (p := 16) R2 hg HZ8.out (by rw [HL8.out]; omega) (by rw [HL8.out]; omega) (by omega)).mono ?_; rw [H6.out.w2]; rintro en w4 ⟨rfl, R3⟩; clear R2)
     | (go_at_call 62; refine (num8 (p := 24) R3 hg HZ8.out (by rw [HL8.out]; omega) (by rw [HL8.out]; omega) (by omega)).mono ?_; rw [H6.out.w3]; rintro en w5 ⟨rfl, R4⟩; clear R3)
     | (go_at_call 62; refine (num8 (p := 32) R4 hg HZ8.out (by rw [HL8.out]; omega) (by rw [HL8.out]; omega) (by omega)).mono ?_; rw [H6.out.w4]; rintro en w6 ⟨rfl, R5⟩; clear R4)
     | (go_at_call 62; refine (num8 (p := 40) R5 hg HZ8.out (by rw [HL8.out]; omega) (by rw [HL8.out]; omega) (by omega)).mono ?_; rw [H6.out.w5]; rintro en w7 ⟨rfl, R6⟩; have hb6 := (HB0.out.trans (R6.bel.mono HB0.out.size)); clear R5)
     | (go_at_call 188; refine (EN.out _ (HTB.out _ (hb6.alloc hb6.size _))).mono ?_; rintro en w8 ⟨A1, _, c1, rfl, rfl, ho1, hb7, -, -⟩; have hb8 := (hb6.alloc hb6.size (.cells (sC u0 u1 u2 u3 u4 u5) 51)).trans (hb7.mono (hb6.alloc hb6.size _).size); have BK : Blk w8 w.heap.size 51 sZC := (Blk.new w 51 sZC).below (R6.bel.trans (((boxed w7 _).trans (hb7.mono (boxed w7 _).size)).mono R6.bel.size)) (by simp); obtain ⟨y0, y1, y2, y3, y4, y5⟩ := slAt_of hb7; obtain ⟨x0, x1, x2, x3, x4, x5⟩ := slAt_blk BK; have f0 := BK.frozen 0; have f1 := BK.frozen 1; have f2 := BK.frozen 2; have f3 := BK.frozen 3; have f4 := BK.frozen 4; have f5 := BK.frozen 5)
     | (go_at_call 63; refine (beq_any A1 A x.length 64 c1 _ x (zs.take 64) _ (Reads.of_own ho1) (HR.out _ hb8) HX.out HZ4.out).mono ?_; rw [BB.out]; rintro en w9 ⟨rfl, rfl⟩))
 · refine bodyPost_ret (results_cell2 rfl _ _ w.heap.size 51 _ (0, 0) _ rfl (sl_store BK) Tryz.underlying51 rfl (by kernel_rfl)) rfl ?_
   exact ⟨rfl, sl_below hb8 (Nat.le_refl _)⟩
 · refine bodyPost_ret (results_cell2 rfl _ _ w.heap.size 51 _ (0, 0) _ rfl (sl_store BK) Tryz.underlying51 rfl (by kernel_rfl)) rfl ?_
   exact ⟨rfl, sl_below hb8 (Nat.le_refl _)⟩
theorem wordS_bd {zs : List Int} (hz : AreB zs) (j : Nat) : 0 <= wordS zs j /\ wordS zs j < 18446744073709551616 := lev8_lt ((hz.drop _).take 8) (by rw [List.length_take]; omega)
theorem isS_six (zs : List Int) : isS zs = (decide (64 <= zs.length) && rightS (wordS zs 0) (wordS zs 1) (wordS zs 5) && decide (encW [wordS zs 0, wordS zs 1, wordS zs 2, wordS zs 3, wordS zs 4, wordS zs 5] = zs.take 64)) := by
 unfold isS
 rw [wrds_six]
 rfl
theorem isS_dec {zs : List Int} (hn : 64 <= zs.length) : decide (encS (wordS zs 0) (wordS zs 1) (wordS zs 2) (wordS zs 3) (wordS zs 4) (wordS zs 5) = zs.take 64) = isS zs := by
 rw [isS_six]
 unfold encS
 by_cases hr : rightS (wordS zs 0) (wordS zs 1) (wordS zs 5) = true
 · rw [if_pos hr, hr, decide_eq_true hn]; rfl
 · rw [if_neg hr, show rightS (wordS zs 0) (wordS zs 1) (wordS zs 5) = false by simpa using hr]
   simp only [Bool.and_false, Bool.false_and]
   refine decide_eq_false fun h => ?_
   have := congrArg List.length h
   rw [List.length_take] at this
   simp at this
   omega
def decS (zs : List Int) : Value := if isS zs then sV (wordS zs 0) (wordS zs 1) (wordS zs 2) (wordS zs 3) (wordS zs 4) (wordS zs 5) else sZ
theorem sdec_any {B : Nat} (G : Nat) (A : Option Addr) (n c : Nat) (zs : List Int) (w : World) (hr : Reads w B 1 A n (cellsOf .u8 zs)) (hB : B <= w.heap.size) (hz : AreB zs) (hl : n <= c) (hcap : c <= 9223372036854775807) (ht : IsTable w G) :
 Calls Tryz.prog 149 #[.pointer (some ⟨G, 0, none⟩), .slice A n c] w fun en w' => en = .returned (.tuple #[decS zs, .bool (isS zs)]) /\ Below w.heap.size w w' := by
 have hlen := hr.len
 by_cases hn : n < 64
 · have h := sdec_short (.pointer (some ⟨G, 0, none⟩)) A n c w hn
   unfold decS
   rw [isS_short (by omega)]
   exact h
 · exact sdec_long G A n c zs _ _ _ _ _ _ (isS zs) w hr hB hz hl hcap (by omega) ht (six_of zs) (wordS_bd hz 0).1 (wordS_bd hz 1).1 (isS_dec (by omega))
structure SlotIs (Z : List Int) (a b c d e f : Int) (i : Bool) : Prop where
 dec : decS Z = sV a b c d e f
 is_ : isS Z = i
 bd : 0 <= a /\ a < 18446744073709551616
 yes : i = true -> a = wordS Z 0 /\ 0 < a
 no : i = false -> a = 0
theorem slot_is {Z : List Int} (hz : AreB Z) : ∃ a b c d e f i, SlotIs Z a b c d e f i := by
 have b0 := wordS_bd hz 0
 by_cases h : isS Z = true
 · refine ⟨_, _, _, _, _, _, true, by unfold decS; rw [if_pos h], h, b0, fun _ => ⟨rfl, ?_⟩, fun h => by cases h⟩
   have h2 := h
   rw [isS_six] at h2
   simp [rightS] at h2
   have := h2.1.2.1.1
   omega
 · exact ⟨0, 0, 0, 0, 0, 0, false, by unfold decS; rw [if_neg h], by simpa using h, ⟨by omega, by omega⟩, fun h => by (cases h), fun _ => rfl⟩
def chV (zs : List Int) : Value := if pickS zs = 2 then decS (zs.drop 128) else decS (zs.drop 64)
def chB (zs : List Int) : Bool := decide (pickS zs ≠ 0)
theorem choose_code {zs : List Int} {a1 b1 c1 d1 e1 f1 a2 b2 c2 d2 e2 f2 : Int} {i1 i2 : Bool} (h1 : SlotIs (zs.drop 64) a1 b1 c1 d1 e1 f1 i1) (h2 : SlotIs (zs.drop 128) a2 b2 c2 d2 e2 f2 i2) :
 (a1 < a2 -> chV zs = sV a2 b2 c2 d2 e2 f2 /\ chB zs = i2) /\ (¬ a1 < a2 -> chV zs = sV a1 b1 c1 d1 e1 f1 /\ chB zs = i1) := by
 have p1 := h1.bd
 have p2 := h2.bd
 refine ⟨fun h => ?_, fun h => ?_⟩
 · have hi2 : i2 = true := by
     cases i2
     · have := h2.no rfl; omega
     · rfl
   subst hi2
   have hp : pickS zs = 2 := by
     unfold pickS
     rw [h1.is_, h2.is_]
     cases i1
     · rfl
     · rw [<- (h1.yes rfl).1, <- (h2.yes rfl).1, decide_eq_true h]; rfl
   unfold chV chB
   rw [hp, if_pos rfl, h2.dec]
   exact ⟨rfl, rfl⟩
 · have hp : pickS zs = if i1 then 1 else 0 := by
     unfold pickS
     rw [h1.is_, h2.is_]
     cases i2
     · rfl
     · have g2 := h2.yes rfl
       cases i1
       · have := h1.no rfl; omega
       · rw [<- (h1.yes rfl).1, <- g2.1, decide_eq_false h]; rfl
   unfold chV chB
   rw [hp]
   cases i1
   · exact ⟨by rw [if_neg (by decide), h1.dec], rfl⟩
   · exact ⟨by rw [if_neg (by decide), h1.dec], rfl⟩
theorem decAt_short (G : Nat) (A : Option Addr) (n c p : Nat) (w : World) (hn : n < p + 64) (hl : n <= c) (hcap : c <= 9223372036854775807) (hp : p <= 1000) :
 Calls Tryz.prog 102 #[.pointer (some ⟨G, 0, none⟩), .slice A n c, .int .i64 p] w fun en w' => en = .returned (.tuple #[sZ, .bool false]) /\ Below w.heap.size w w' := by
 have HB0 := Lib.hid (boxed w (.cells sZC 51))
 have hnc : (n : Int) <= (c : Int) := by omega
 obtain ⟨q, hq⟩ : ∃ q, (if n < p then n else p) = q := ⟨_, rfl⟩
 have hqn : q <= n := by rw [<- hq]; split <;> omega
 have hqi : (q : Int) <= (n : Int) := by omega
 have hq2 : (if n < p then (n : Int) else (p : Int)) = (q : Int) := by rw [<- hq]; split <;> rfl
 have hqw : IntKind.i64.wrap (q : Int) = (q : Int) := by rw [IntKind.wrap_i64]; omega
 have HQ : Hid (n - q < 64) := by show _ < _; rw [<- hq]; split <;> omega
 clear hn hp hq
 go_enter Tryz.func102, Tryz.ntmps102
 go_wp2_with (go_at_call 149; refine (sdec_short _ _ (n - q) _ _ HQ.out).mono ?_; rintro en w1 ⟨rfl, hb1⟩; have hb2 := HB0.out.trans (hb1.mono HB0.out.size); have BK : Blk w1 w.heap.size 51 sZC := (Blk.new w 51 sZC).below hb1 (by simp); obtain ⟨x0, x1, x2, x3, x4, x5⟩ := slAt_blk BK; have f0 := BK.frozen 0; have f1 := BK.frozen 1; have f2 := BK.frozen 2; have f3 := BK.frozen 3; have f4 := BK.frozen 4; have f5 := BK.frozen 5)
 all_goals
   refine bodyPost_ret (results_cell2 rfl _ _ w.heap.size 51 _ (0, 0) _ rfl (sl_store BK) Tryz.underlying51 rfl (by kernel_rfl)) rfl ?_
   exact ⟨rfl, sl_below hb2 (Nat.le_refl _)⟩
theorem decAt_long {B : Nat} (G : Nat) (A : Option Addr) (n c p : Nat) (zs : List Int) (w : World) (hr : Reads w B 1 A n (cellsOf .u8 zs)) (hB : B <= w.heap.size) (hz : AreB zs) (hl : n <= c) (hcap : c <= 9223372036854775807) (hp : p <= 1000) (hn : p + 64 <= n) (ht : IsTable w G) {a b c0 d e f : Int} {i : Bool} (hs : SlotIs (zs.drop p) a b c0 d e f i) :
 Calls Tryz.prog 102 #[.pointer (some ⟨G, 0, none⟩), .slice A n c, .int .i64 p] w fun en w' => en = .returned (.tuple #[sV a b c0 d e f, .bool i]) /\ Below w.heap.size w w' := by
 have HB0 := Lib.hid (boxed w (.cells sZC 51))
 have hpn : p <= n := by omega
 have hpi : (p : Int) <= (n : Int) := by omega
 have hcp : ¬ c = p := by omega
 have hpw : IntKind.i64.wrap (p : Int) = (p : Int) := by rw [IntKind.wrap_i64]; omega
 obtain ⟨A0, hA0⟩ : ∃ A0, A.map (·.add p) = A0 := ⟨_, rfl⟩
 have hcut := hr.cut (k := p) (cap := c) hpn hl
 rw [Nat.mul_one, cellsOf_drop, if_neg hcp, hA0] at hcut
 have D := Lib.hid (fun wx (hx : Below w.heap.size w wx) => sdec_any (B := B) G A0 (n - p) (c - p) (zs.drop p) wx (hcut.keep (fun b hb => hx.cell (by omega))) (Nat.le_trans hB hx.size) (hz.drop p) (by omega) (by omega) (IsTable.below ht hx ht.lt))
 rw [hs.dec, hs.is_] at D
 clear hs hcut hr hz ht hB hn
 go_enter Tryz.func102, Tryz.ntmps102
 go_wp2_with (go_at_call 149; refine (D.out _ HB0.out).mono ?_; rintro en w1 ⟨rfl, hb1⟩; have hb2 := HB0.out.trans (hb1.mono HB0.out.size); have BK : Blk w1 w.heap.size 51 sZC := (Blk.new w 51 sZC).below hb1 (by simp); obtain ⟨x0, x1, x2, x3, x4, x5⟩ := slAt_blk BK; have f0 := BK.frozen 0; have f1 := BK.frozen 1; have f2 := BK.frozen 2; have f3 := BK.frozen 3; have f4 := BK.frozen 4; have f5 := BK.frozen 5)
 refine bodyPost_ret (results_cell2 rfl _ _ w.heap.size 51 _ (0, 0) _ rfl (sl_store BK) Tryz.underlying51 rfl (by kernel_rfl)) rfl ?_
 exact ⟨rfl, sl_below hb2 (Nat.le_refl _)⟩
theorem decAt_any {B : Nat} (G : Nat) (A : Option Addr) (n c p : Nat) (zs : List Int) (w : World) (hr : Reads w B 1 A n (cellsOf .u8 zs)) (hB : B <= w.heap.size) (hz : AreB zs) (hl : n <= c) (hcap : c <= 9223372036854775807) (hp : p <= 1000) (ht : IsTable w G) {a b c0 d e f : Int} {i : Bool} (hs : SlotIs (zs.drop p) a b c0 d e f i) :
 Calls Tryz.prog 102 #[.pointer (some ⟨G, 0, none⟩), .slice A n c, .int .i64 p] w fun en w' => en = .returned (.tuple #[sV a b c0 d e f, .bool i]) /\ Below w.heap.size w w' := by
 by_cases hn : p + 64 <= n
 · exact decAt_long G A n c p zs w hr hB hz hl hcap hp hn ht hs
 · have h := isS_short (Z := zs.drop p) (by rw [List.length_drop, hr.len]; omega)
   have hd : decS (zs.drop p) = sZ := by unfold decS; rw [h]; rfl
   rw [<- hs.dec, <- hs.is_, hd, h]
   exact decAt_short G A n c p w (by omega) hl hcap hp
theorem hslot_0 (w : World) : Calls Tryz.prog 76 #[.int .i64 0] w fun en w' => en = .returned (.int .i64 ((64 : Nat) : Int)) /\ w = w' := hslot_any 0 w
theorem hslot_1 (w : World) : Calls Tryz.prog 76 #[.int .i64 1] w fun en w' => en = .returned (.int .i64 ((128 : Nat) : Int)) /\ w = w' := hslot_any 1 w
set_option maxHeartbeats 2000000 in
theorem schoose_any {B : Nat} (G : Nat) (A : Option Addr) (n c : Nat) (zs : List Int) (w : World) (hr : Reads w B 1 A n (cellsOf .u8 zs)) (hB : B <= w.heap.size) (hz : AreB zs) (hl : n <= c) (hcap : c <= 9223372036854775807) (ht : IsTable w G) :
 Calls Tryz.prog 53 #[.pointer (some ⟨G, 0, none⟩), .slice A n c] w fun en w' => en = .returned (.tuple #[chV zs, .bool (chB zs)]) /\ Below w.heap.size w w' := by
 obtain ⟨a1, b1, c1, d1, e1, f1, i1, S1⟩ := slot_is (hz.drop 64)
 obtain ⟨a2, b2, c2, d2, e2, f2, i2, S2⟩ := slot_is (hz.drop 128)
 have D := Lib.hid (fun wx (hx : Below w.heap.size w wx) (p : Nat) (hp : p <= 1000) (a b c0 d e f : Int) (i : Bool) (hs : SlotIs (zs.drop p) a b c0 d e f i) => decAt_any G A n c p zs wx (hr.keep (fun b hb => hx.cell (by omega))) (Nat.le_trans hB hx.size) hz hl hcap hp (IsTable.below ht hx ht.lt) hs)
 have C := choose_code S1 S2
 have HS1 := Lib.hid S1
 have HS2 := Lib.hid S2
 have HB0 := Lib.hid (boxed w (.cells sZC 51))
 have bd1 := S1.bd
 have bd2 := S2.bd
 have C1 := Lib.hid C.1
 have C2 := Lib.hid C.2
 generalize chV zs = cv at *
 generalize chB zs = cb at *
 have m1 : True := trivial
 have m2 : True := trivial
 clear S1 S2 hr hz ht hB C
 by_cases hlt : a1 < a2
 all_goals
   go_enter Tryz.func53, Tryz.ntmps53
   go_wp2_with (first
     | (go_at_call 76; clear m1; refine (hslot_0 _).mono ?_; rintro en w1 ⟨rfl, rfl⟩)
     | (go_at_call 76; refine (hslot_1 _).mono ?_; rintro en w1 ⟨rfl, rfl⟩)
     | (go_at_call 102; clear m2; refine (D.out _ HB0.out 64 (by omega) _ _ _ _ _ _ _ HS1.out).mono ?_; rintro en w2 ⟨rfl, hb2⟩; have hb3 := HB0.out.trans (hb2.mono HB0.out.size); have hb4 := hb3.alloc hb3.size (.cells (sC a1 b1 c1 d1 e1 f1) 51))
     | (go_at_call 102; refine (D.out _ hb4 128 (by omega) _ _ _ _ _ _ _ HS2.out).mono ?_; rintro en w3 ⟨rfl, hb5⟩; have hb6 := hb4.trans (hb5.mono hb4.size); have hb7 := hb6.alloc hb6.size (.cells (sC a2 b2 c2 d2 e2 f2) 51);
         have q1 : Below w2.heap.size w2 w3 := (boxed w2 _).trans (hb5.mono (boxed w2 (.cells (sC a1 b1 c1 d1 e1 f1) 51)).size);
         have BK : Blk w3 w.heap.size 51 sZC := ((Blk.new w 51 sZC).below hb2 (by simp)).below q1 (Nat.lt_of_lt_of_le (Blk.new w 51 sZC).lt hb2.size);
         have B1 : Blk w3 w2.heap.size 51 (sC a1 b1 c1 d1 e1 f1) := (Blk.new w2 51 _).below hb5 (by simp);
         have HA : Hid (Blk (w3.alloc (.cells (sC a2 b2 c2 d2 e2 f2) 51)) w.heap.size 51 sZC /\ SlAt (w3.alloc (.cells (sC a2 b2 c2 d2 e2 f2) 51)) w2.heap.size a1 b1 c1 d1 e1 f1 /\ SlAt (w3.alloc (.cells (sC a2 b2 c2 d2 e2 f2) 51)) w3.heap.size a2 b2 c2 d2 e2 f2) := ⟨BK.alloc _, slAt_blk (B1.alloc _), slAt_blk (Blk.new w3 _ _)⟩;
         have hw : ∃ w4, w4 = w3.alloc (.cells (sC a2 b2 c2 d2 e2 f2) 51) := ⟨_, rfl⟩;
         obtain ⟨x0, x1, x2, x3, x4, x5⟩ := slAt_blk HA.out.1; obtain ⟨y0, y1, y2, y3, y4, y5⟩ := HA.out.2.1;
         have f0 := HA.out.1.frozen 0; have f1 := HA.out.1.frozen 1; have f2 := HA.out.1.frozen 2; have f3 := HA.out.1.frozen 3; have f4 := HA.out.1.frozen 4; have f5 := HA.out.1.frozen 5))
   refine bodyPost_ret (results_cell2 rfl _ _ w.heap.size 51 _ (0, 0) _ rfl (sl_store HA.out.1) Tryz.underlying51 rfl (by kernel_rfl)) rfl ?_
   first
     | exact ⟨by rw [(C1.out hlt).1, (C1.out hlt).2]; rfl, sl_below hb7 (Nat.le_refl _)⟩
     | exact ⟨by rw [(C2.out hlt).1, (C2.out hlt).2]; rfl, sl_below hb7 (Nat.le_refl _)⟩
end Go.Proofs.YtgcmbgniaffdlaaGreat
