import Derived.Test.YtgcmbgniaffdlaaGreatLOa
set_option linter.unusedVariables false
set_option maxRecDepth 100000
set_option linter.unusedSimpArgs false
namespace Go.Proofs.YtgcmbgniaffdlaaGreat
open Go.RowKit
def mayB (k s : Int) : Bool :=
 if hasI k then decide ((s - frontN k) % 8 = 0) && decide (8 <= s - frontN k) && decide (s - frontN k <= 8 * mostN k) else decide (1 <= s - frontN k) && decide (s - frontN k <= mostN k)
def zerB (l : List Int) : Bool := decide (l = List.replicate l.length 0)
structure DecAt (zs : List Int) (j k s : Nat) : Prop where
 al : j % 8 = 0
 room : j + 16 <= zs.length
 kd : lev ((zs.drop j).take 8) = (k : Int)
 sd : lev ((zs.drop (j + 8)).take 8) = (s : Int)
 kk : k <= 4
 fit : j + s <= zs.length
def decB (zs : List Int) (j k s : Nat) : Bool := mayB k s && decide (j + s + padn s 8 <= zs.length) && zerB ((zs.drop (j + s)).take (padn s 8))
def objB (zs : List Int) (j s : Nat) : List Int := (zs.drop j).take s
def dW (bs : List Int) (k : Int) : List Int := wrds (kwN k) (bs.drop 16)
def dR (bs : List Int) (k : Int) : List Int := if hasI k then [] else bs.drop (frontN k)
def dI (bs : List Int) (k : Int) : List Int := if hasI k then wrds ((bs.length - frontN k) / 8) (bs.drop (frontN k)) else []
theorem dW_length (bs : List Int) (k : Int) : (dW bs k).length = kwN k := wrds_length _ _
theorem dR_length (bs : List Int) (k : Int) : (dR bs k).length = if hasI k then 0 else bs.length - frontN k := by unfold dR; split <;> simp
theorem dI_length (bs : List Int) (k : Int) : (dI bs k).length = if hasI k then (bs.length - frontN k) / 8 else 0 := by unfold dI; split <;> simp [wrds_length]
theorem dR_bytes {bs : List Int} {k : Int} (h : AreB bs) : AreB (dR bs k) := by
 unfold dR; split
 · exact AreB.nil
 · exact h.drop _
theorem algn_pad (s : Nat) : algn (s : Int) = (s + padn s 8 : Nat) := by
 rw [algn_at (by omega), padn_eight]; omega
theorem objB_length {zs : List Int} {j s : Nat} (h : j + s <= zs.length) : (objB zs j s).length = s := by
 unfold objB; rw [List.length_take, List.length_drop]; omega
theorem objB_bytes {zs : List Int} (h : AreB zs) (j s : Nat) : AreB (objB zs j s) := (h.drop j).take s
theorem bts_lev {l : List Int} (h : AreB l) (h8 : l.length = 8) : bts (lev l) 8 = l := by
 have e := enb_lev _ h
 rw [h8] at e
 exact e
theorem wrds_bd : ∀ (m : Nat) (ys : List Int), AreB ys -> ∀ z ∈ wrds m ys, 0 <= z /\ z < 18446744073709551616
 | 0, _, _ => fun z hz => by cases hz
 | m + 1, ys, h => fun z hz => by
   rcases List.mem_cons.1 hz with rfl | hz
   · exact lev8_lt (h.take 8) (by rw [List.length_take]; omega)
   · exact wrds_bd m _ (h.drop 8) z hz
theorem dW_bd {bs : List Int} (h : AreB bs) (k : Int) : ∀ z ∈ dW bs k, 0 <= z /\ z < 18446744073709551616 := wrds_bd _ _ (h.drop _)
theorem right_may {zs : List Int} {j k s : Nat} (h : DecAt zs j k s) (hm : mayB k s = true) :
 rightN k (dW (objB zs j s) k).length (dR (objB zs j s) k).length (dI (objB zs j s) k).length = true /\ frontN k <= s /\ (hasI k = true -> (s - frontN k) % 8 = 0) := by
 have hl := objB_length h.fit
 rw [dW_length, dR_length, dI_length, hl]
 unfold mayB at hm
 unfold rightN
 by_cases hi : hasI k = true
 · rw [if_pos hi] at hm ⊢
   rw [if_pos hi, if_pos hi]
   simp at hm ⊢
   omega
 · rw [if_neg hi] at hm ⊢
   rw [if_neg hi, if_neg hi]
   simp at hm ⊢
   refine ⟨by omega, by omega, fun h => absurd h hi⟩
theorem lev_bts {n : Nat} (h : n < 18446744073709551616) : lev (bts n 8) = n := lev_enb 8 n (by omega) (by
  have : (256 : Int) ^ 8 = 18446744073709551616 := by decide
  omega)
theorem dec_back {K k : Nat} {ws rs is es : List Int} (hK : K % 8 = 0) (hr : rightN k ws.length rs.length is.length = true) (hw : ∀ z ∈ ws, 0 <= z /\ z < 18446744073709551616) (hi : ∀ z ∈ is, 0 <= z /\ z < 18446744073709551616) (zs : List Int)
 (hz : zs = List.replicate K 0 ++ encO k ws rs is ++ es) :
 ∃ s, DecAt zs K k s /\ decB zs K k s = true /\ s + padn s 8 = (encO k ws rs is).length /\ dW (objB zs K s) k = ws /\ dR (objB zs K s) k = rs /\ dI (objB zs K s) k = is := by
 obtain ⟨h1, h2, h3, h4⟩ := rightN_len hr
 obtain ⟨k1, k4⟩ := rightN_kind hr
 have hk4 : k <= 4 := by omega
 obtain ⟨s, hs⟩ : ∃ s, bareN k rs.length is.length = s := ⟨_, rfl⟩
 have hfk : frontN k = 16 + 8 * kwN k := rfl
 have hsv : s = 16 + 8 * ws.length + rs.length + 8 * is.length := by rw [<- hs]; unfold bareN; omega
 have hhl : (headO k ws rs is).length = s := by rw [headO_length, hsv]
 have hel : (encO k ws rs is).length = s + padn s 8 := by unfold encO; rw [List.length_append, List.length_replicate, hhl]
 have hd : zs.drop K = encO k ws rs is ++ es := by rw [hz, List.append_assoc, List.drop_left' (List.length_replicate ..)]
 have hzl : zs.length = K + (s + padn s 8) + es.length := by rw [hz, List.length_append, List.length_append, List.length_replicate, hel]
 have hde : zs.drop K = headO k ws rs is ++ (List.replicate (padn s 8) 0 ++ es) := by rw [hd]; unfold encO; rw [hhl, List.append_assoc]
 have hob : objB zs K s = headO k ws rs is := by unfold objB; rw [hde, List.take_left' hhl]
 have l8 : (bts (k : Int) 8).length = 8 := by rw [bts_length]; rfl
 have l9 : (bts (s : Int) 8).length = 8 := by rw [bts_length]; rfl
 have hhe : headO k ws rs is = bts k 8 ++ (bts s 8 ++ (wordsB ws ++ (rs ++ wordsB is))) := by
   unfold headO; rw [wordsB_two, hs]; simp only [List.append_assoc]
 have g1 : (zs.drop K).take 8 = bts k 8 := by rw [hde, hhe]; simp only [List.append_assoc]; rw [List.take_left' l8]
 have g2 : (zs.drop (K + 8)).take 8 = bts s 8 := by
   rw [<- List.drop_drop, hde, hhe]; simp only [List.append_assoc]; rw [List.drop_left' l8, List.take_left' l9]
 have hda : DecAt zs K k s := ⟨hK, by omega, by rw [g1, lev_bts (by omega)], by rw [g2, lev_bts (by omega)], hk4, by omega⟩
 have hwl : (wordsB ws).length = 8 * kwN k := by rw [wordsB_length, h1]
 have f16 : (headO k ws rs is).drop 16 = wordsB ws ++ (rs ++ wordsB is) := by
   rw [hhe, <- List.append_assoc, List.drop_left' (by rw [List.length_append, l8, l9])]
 have ffr : (headO k ws rs is).drop (frontN k) = rs ++ wordsB is := by
   rw [hfk, <- List.drop_drop, f16, List.drop_left' hwl]
 have q1 : dW (objB zs K s) k = ws := by
   unfold dW; rw [hob, f16, <- h1]; exact wrds_wordsB ws _ hw
 have hm : mayB k s = true /\ dR (objB zs K s) k = rs /\ dI (objB zs K s) k = is := by
   unfold rightN at hr
   unfold mayB dR dI
   rw [hob, ffr, hhl]
   by_cases hh : hasI k = true
   · rw [if_pos hh] at hr ⊢
     rw [if_pos hh, if_pos hh]
     simp at hr
     have hrs : rs = [] := List.eq_nil_of_length_eq_zero (by simpa using hr.1.1.2)
     have hr0 : rs.length = 0 := by rw [hrs]; rfl
     refine ⟨by simp; omega, hrs.symm, ?_⟩
     rw [hrs, List.nil_append, show (s - frontN k) / 8 = is.length by omega]
     have h := wrds_wordsB is [] hi
     rwa [List.append_nil] at h
   · rw [if_neg hh] at hr ⊢
     rw [if_neg hh, if_neg hh]
     simp at hr
     have his : is = [] := List.eq_nil_of_length_eq_zero (by simpa using hr.1.1.2)
     have hi0 : is.length = 0 := by rw [his]; rfl
     refine ⟨by simp; omega, ?_, his.symm⟩
     rw [his]; simp [wordsB]
 refine ⟨s, hda, ?_, by rw [hel], q1, hm.2.1, hm.2.2⟩
 unfold decB
 rw [hm.1]
 simp only [Bool.true_and, Bool.and_eq_true, decide_eq_true_eq]
 refine ⟨by omega, ?_⟩
 have e : (zs.drop (K + s)).take (padn s 8) = List.replicate (padn s 8) 0 := by
   rw [<- List.drop_drop, hde, List.drop_left' hhl, List.take_left' (List.length_replicate ..)]
 rw [e]
 unfold zerB
 simp
set_option maxHeartbeats 1000000 in
theorem omay_any (k s : Int) (w : World) (h0 : 0 <= s) (hs : s <= 140737488355328) : Calls Tryz.prog 193 #[.int .i64 k, .int .i64 s] w fun e w' => e = .returned (.bool (mayB k s)) /\ w = w' := by
 have F0 := frontN_le k
 have M0 := mostN_le k
 have HF := Lib.hid (ofront_any k)
 have HM := Lib.hid (omost_any k)
 have HH := Lib.hid (ohas_any k)
 have HB : Hid (∀ t : Bool, (t = if hasI k then decide ((s - frontN k) % 8 = 0) && decide (8 <= s - frontN k) && decide (s - frontN k <= 8 * mostN k) else decide (1 <= s - frontN k) && decide (s - frontN k <= mostN k)) -> t = mayB k s) := fun t ht => ht
 generalize frontN k = F at *
 generalize mostN k = M at *
 generalize hasI k = b at *
 obtain ⟨n, hn⟩ : ∃ n : Int, s - F = n := ⟨_, rfl⟩
 rw [hn] at HB
 have n1 : -56 <= n /\ n <= 140737488355328 := by omega
 have ht : (n.tmod 8 = 0 ↔ n % 8 = 0) := by
   rw [<- Int.dvd_iff_tmod_eq_zero, Int.dvd_iff_emod_eq_zero]
 cases b
 · have HB2 : Hid (∀ t : Bool, (t = (decide (1 <= n) && decide (n <= (M : Int)))) -> t = mayB k s) := HB.out
   clear HB ht
   rcases (show n < 1 ∨ (1 <= n /\ (M : Int) < n) ∨ (1 <= n /\ n <= M) by omega) with h | ⟨h1, h⟩ | ⟨h1, h⟩
   · have HA := Lib.hid h
     have t1 : decide (1 <= n) = false := by simp; omega
     go_enter Tryz.func193, Tryz.ntmps193
     go_wp2_with (first
       | (go_at_call 165; refine (HF.out _).mono ?_; rintro e w1 ⟨rfl, rfl⟩)
       | (go_at_call 166; refine (HH.out _).mono ?_; rintro e w1 ⟨rfl, rfl⟩)
       | (go_at_call 185; refine (HM.out _).mono ?_; rintro e w1 ⟨rfl, rfl⟩))
     all_goals
       go_ret
       exact ⟨ret_bool (HB2.out _ (by have := HA.out; simp; omega)), rfl⟩
   · have HA := Lib.hid (And.intro h1 h)
     have t1 : decide (n <= (M : Int)) = false := by simp; omega
     go_enter Tryz.func193, Tryz.ntmps193
     go_wp2_with (first
       | (go_at_call 165; refine (HF.out _).mono ?_; rintro e w1 ⟨rfl, rfl⟩)
       | (go_at_call 166; refine (HH.out _).mono ?_; rintro e w1 ⟨rfl, rfl⟩)
       | (go_at_call 185; refine (HM.out _).mono ?_; rintro e w1 ⟨rfl, rfl⟩))
     all_goals
       go_ret
       exact ⟨ret_bool (HB2.out _ (by have := HA.out; simp; omega)), rfl⟩
   · have HA := Lib.hid (And.intro h1 h)
     go_enter Tryz.func193, Tryz.ntmps193
     go_wp2_with (first
       | (go_at_call 165; refine (HF.out _).mono ?_; rintro e w1 ⟨rfl, rfl⟩)
       | (go_at_call 166; refine (HH.out _).mono ?_; rintro e w1 ⟨rfl, rfl⟩)
       | (go_at_call 185; refine (HM.out _).mono ?_; rintro e w1 ⟨rfl, rfl⟩))
     all_goals
       go_ret
       exact ⟨ret_bool (HB2.out _ (by have := HA.out; simp; omega)), rfl⟩
 · have HB2 : Hid (∀ t : Bool, (t = (decide (n % 8 = 0) && decide (8 <= n) && decide (n <= 8 * (M : Int)))) -> t = mayB k s) := HB.out
   clear HB
   rcases (show n % 8 ≠ 0 ∨ (n % 8 = 0 /\ n < 8) ∨ (n % 8 = 0 /\ 8 <= n /\ (M : Int) * 8 < n) ∨ (n % 8 = 0 /\ 8 <= n /\ n <= (M : Int) * 8) by omega) with h | ⟨h2, h⟩ | ⟨h2, h1, h⟩ | ⟨h2, h1, h⟩
   · have HA := Lib.hid h
     have t1 : (n.tmod 8 == 0) = false := by simp; exact fun e => h (ht.1 e)
     have t2 : ¬ n.tmod 8 = 0 := fun e => h (ht.1 e)
     clear h ht
     go_enter Tryz.func193, Tryz.ntmps193
     go_wp2_with (first
       | (go_at_call 165; refine (HF.out _).mono ?_; rintro e w1 ⟨rfl, rfl⟩)
       | (go_at_call 166; refine (HH.out _).mono ?_; rintro e w1 ⟨rfl, rfl⟩)
       | (go_at_call 185; refine (HM.out _).mono ?_; rintro e w1 ⟨rfl, rfl⟩))
     all_goals
       go_ret
       exact ⟨ret_bool (HB2.out _ (by have := HA.out; simp; omega)), rfl⟩
   · have HA := Lib.hid (And.intro h2 h)
     have t1 : (n.tmod 8 == 0) = true := by simp; exact ht.2 h2
     have t2 : n.tmod 8 = 0 := ht.2 h2
     have t3 : decide (8 <= n) = false := by simp; omega
     clear h h2 ht
     go_enter Tryz.func193, Tryz.ntmps193
     go_wp2_with (first
       | (go_at_call 165; refine (HF.out _).mono ?_; rintro e w1 ⟨rfl, rfl⟩)
       | (go_at_call 166; refine (HH.out _).mono ?_; rintro e w1 ⟨rfl, rfl⟩)
       | (go_at_call 185; refine (HM.out _).mono ?_; rintro e w1 ⟨rfl, rfl⟩))
     all_goals
       go_ret
       exact ⟨ret_bool (HB2.out _ (by have := HA.out; simp; omega)), rfl⟩
   · have HA := Lib.hid (And.intro h2 (And.intro h1 h))
     have t1 : (n.tmod 8 == 0) = true := by simp; exact ht.2 h2
     have t2 : n.tmod 8 = 0 := ht.2 h2
     have t3 : decide (n <= (M : Int) * 8) = false := by simp; omega
     clear h h2 ht
     go_enter Tryz.func193, Tryz.ntmps193
     go_wp2_with (first
       | (go_at_call 165; refine (HF.out _).mono ?_; rintro e w1 ⟨rfl, rfl⟩)
       | (go_at_call 166; refine (HH.out _).mono ?_; rintro e w1 ⟨rfl, rfl⟩)
       | (go_at_call 185; refine (HM.out _).mono ?_; rintro e w1 ⟨rfl, rfl⟩))
     all_goals
       go_ret
       exact ⟨ret_bool (HB2.out _ (by have := HA.out; simp; omega)), rfl⟩
   · have HA := Lib.hid (And.intro h2 (And.intro h1 h))
     have t1 : (n.tmod 8 == 0) = true := by simp; exact ht.2 h2
     have t2 : n.tmod 8 = 0 := ht.2 h2
     clear h2 ht
     go_enter Tryz.func193, Tryz.ntmps193
     go_wp2_with (first
       | (go_at_call 165; refine (HF.out _).mono ?_; rintro e w1 ⟨rfl, rfl⟩)
       | (go_at_call 166; refine (HH.out _).mono ?_; rintro e w1 ⟨rfl, rfl⟩)
       | (go_at_call 185; refine (HM.out _).mono ?_; rintro e w1 ⟨rfl, rfl⟩))
     all_goals
       go_ret
       exact ⟨ret_bool (HB2.out _ (by have := HA.out; simp; omega)), rfl⟩
set_option maxHeartbeats 1000000 in
theorem ofilled_any {B : Nat} (A : Option Addr) (n c : Nat) (zs : List Int) (w : World) (hr : Reads w B 1 A n (cellsOf .u8 zs)) (hn : n <= 140737488355328) :
 Calls Tryz.prog 163 #[.slice A n c] w fun e w' => e = .returned (.bool (zerB zs)) /\ w = w' := by
 have hl := hr.len
 have HL := Lib.hid hl
 clear hl
 go_enter Tryz.func163, Tryz.ntmps163
 go_wp2
 go_loop [4, 7] (fun _ i => ∃ k : Nat, k <= n /\ i = .int .i64 k /\ Hid (∀ j, j < k -> zs.getD j 0 = 0)) (fun _ i => n - (intOf i).toNat)
 case atStart => exact ⟨0, Nat.zero_le _, rfl, fun j hj => absurd hj (Nat.not_lt_zero _)⟩
 case round =>
   obtain ⟨k, hk, rfl, hz⟩ := hrel
   by_cases hlt : k < n
   · obtain ⟨b, off, rfl, _, hc⟩ := hr.plain (by omega)
     have q1 := hc k hlt
     generalize hxe : zs.getD k 0 = x at q1
     have i1 : (k : Int) < (n : Int) := by omega
     have HX := Lib.hid hxe
     clear hc hr hxe
     by_cases hx : x = 0
     · subst hx
       go_wp2
       go_round
       case rel =>
         exact ⟨k + 1, by omega, by go_num, fun j hj => by
           rcases Nat.lt_or_ge j k with h | h
           · exact hz.out j h
           · rw [show j = k by omega]; exact HX.out⟩
       case measure => simp [intOf]; omega
     · have t1 : (x == 0) = false := by simpa using hx
       have HNX := Lib.hid hx
       clear hx
       go_wp2
       go_ret
       refine ⟨ret_bool (decide_eq_false fun e => HNX.out ?_).symm, rfl⟩
       rw [<- HX.out, e, List.getD_eq_getElem?_getD, List.getElem?_replicate]
       split <;> rfl
   · have e : k = n := by omega
     subst e
     clear hr
     go_wp2
     go_ret
     refine ⟨ret_bool (decide_eq_true (List.ext_getElem? fun j => ?_)).symm, rfl⟩
     rw [List.getElem?_replicate, HL.out]
     by_cases hj : j < k
     · rw [if_pos hj]
       have h := hz.out j hj
       rw [List.getD_eq_getElem?_getD, List.getElem?_eq_getElem (by rw [HL.out]; exact hj)] at h
       rw [List.getElem?_eq_getElem (by rw [HL.out]; exact hj)]
       simpa using h
     · rw [if_neg hj, List.getElem?_eq_none (by rw [HL.out]; omega)]
theorem lev8_nat {zs : List Int} (hz : AreB zs) (j : Nat) : ∃ k : Nat, lev ((zs.drop j).take 8) = k /\ k < 18446744073709551616 := by
 have h := lev8_lt ((hz.drop j).take 8) (by rw [List.length_take]; omega)
 exact ⟨(lev ((zs.drop j).take 8)).toNat, by omega, by omega⟩
set_option maxHeartbeats 1000000 in
theorem obegin_no {B : Nat} (A : Option Addr) (n c : Nat) (at_ : Int) (zs : List Int) (w : World) (hr : Reads w B 1 A n (cellsOf .u8 zs)) (hz : AreB zs) (hl : n <= c) (hcap : c <= 9223372036854775807) (hn : n <= 140737488355328) (h0 : -9223372036854775808 <= at_) (h1 : at_ <= 9223372036854775807)
 (hno : ∀ j k s, at_ = (j : Nat) -> ¬ DecAt zs j k s) :
 Calls Tryz.prog 162 #[.slice A n c, .int .i64 at_] w fun e w' => e = .returned (.tuple #[.int .i64 0, .int .i64 0, .bool false]) /\ w = w' := by
 have hlen := hr.len
 by_cases ha : at_ < 0
 · clear hno
   go_enter Tryz.func162, Tryz.ntmps162
   go_wp2
   go_ret3
   exact ⟨rfl, rfl⟩
 obtain ⟨j, rfl⟩ := Int.eq_ofNat_of_zero_le (show 0 <= at_ by omega)
 by_cases hb : j % 8 = 0
 rotate_left
 · clear hno
   have t1 : ((j : Int) % 8 == 0) = false := by simp; omega
   have t2 : ¬ (j : Int) % 8 = 0 := by omega
   clear hb
   go_enter Tryz.func162, Tryz.ntmps162
   go_wp2
   go_ret3
   exact ⟨rfl, rfl⟩
 have t1 : ((j : Int) % 8 == 0) = true := by simp; omega
 have t2 : (j : Int) % 8 = 0 := by omega
 by_cases hd : (n : Int) - 16 < (j : Int)
 · clear hno hb
   go_enter Tryz.func162, Tryz.ntmps162
   go_wp2
   go_ret3
   exact ⟨rfl, rfl⟩
 obtain ⟨k, hk, hkb⟩ := lev8_nat hz j
 obtain ⟨s, hs, hsb⟩ := lev8_nat hz (j + 8)
 have hwn : IntKind.u64.wrap ((n : Int) - j) = (n : Int) - j := by rw [IntKind.wrap_u64]; omega
 have hw8 : (j : Int) + 8 = ((j + 8 : Nat) : Int) := by omega
 have HK := Lib.hid hk
 have HS := Lib.hid hs
 have H8 := Lib.hid hw8
 by_cases hk4 : 4 < k
 · have i4 : (4 : Int) < (k : Int) := by omega
   clear hno hb hk hs hw8
   go_enter Tryz.func162, Tryz.ntmps162
   have m1 : True := trivial
   go_wp2_with (first
     | (go_at_call 52; clear m1; refine (get8 A n c j _ zs _ hr hz hl hcap rfl (by omega)).mono ?_; rintro e w1 ⟨rfl, rfl⟩; rw [HK.out])
     | (go_at_call 52; refine (get8 A n c (j + 8) _ zs _ hr hz hl hcap H8.out (by omega)).mono ?_; rintro e w1 ⟨rfl, rfl⟩; rw [HS.out]))
   go_ret3
   exact ⟨rfl, rfl⟩
 by_cases hsn : n < j + s
 · have i4 : ¬ (4 : Int) < (k : Int) := by omega
   have i5 : (n : Int) - j < (s : Int) := by omega
   clear hno hb hk hs hw8
   go_enter Tryz.func162, Tryz.ntmps162
   have m1 : True := trivial
   go_wp2_with (first
     | (go_at_call 52; clear m1; refine (get8 A n c j _ zs _ hr hz hl hcap rfl (by omega)).mono ?_; rintro e w1 ⟨rfl, rfl⟩; rw [HK.out])
     | (go_at_call 52; refine (get8 A n c (j + 8) _ zs _ hr hz hl hcap H8.out (by omega)).mono ?_; rintro e w1 ⟨rfl, rfl⟩; rw [HS.out]))
   go_ret3
   exact ⟨rfl, rfl⟩
 exact absurd ⟨hb, by omega, hk, hs, by omega, by omega⟩ (hno j k s rfl)
set_option maxHeartbeats 1000000 in
theorem obegin_yes {B : Nat} (A : Option Addr) (n c j k s : Nat) (zs : List Int) (w : World) (hr : Reads w B 1 A n (cellsOf .u8 zs)) (hz : AreB zs) (hl : n <= c) (hcap : c <= 9223372036854775807) (hn : n <= 140737488355328)
 (h : DecAt zs j k s) :
 Calls Tryz.prog 162 #[.slice A n c, .int .i64 j] w fun e w' => e = .returned (.tuple #[.int .i64 k, .int .i64 s, .bool (mayB k s && decide (j + s + padn s 8 <= n))]) /\ w = w' := by
 have hlen := hr.len
 have hb := h.al
 have hroom := h.room
 have hfit := h.fit
 have hk4 := h.kk
 rw [hlen] at hroom hfit
 have HK := Lib.hid h.kd
 have HS := Lib.hid h.sd
 have t1 : ((j : Int) % 8 == 0) = true := by simp; omega
 have t2 : (j : Int) % 8 = 0 := by omega
 have hd : ¬ (n : Int) - 16 < (j : Int) := by omega
 have hwn : IntKind.u64.wrap ((n : Int) - j) = (n : Int) - j := by rw [IntKind.wrap_u64]; omega
 have hw8 : (j : Int) + 8 = ((j + 8 : Nat) : Int) := by omega
 have H8 := Lib.hid hw8
 have i4 : ¬ (4 : Int) < (k : Int) := by omega
 have i5 : ¬ (n : Int) - j < (s : Int) := by omega
 have HM := Lib.hid (fun w => omay_any k s w (by omega) (by omega))
 have HA := Lib.hid (fun w => align_any s w (by omega) (by omega))
 rw [algn_pad] at HA
 obtain ⟨b, hbb⟩ : ∃ b, mayB k s = b := ⟨_, rfl⟩
 rw [hbb] at HM ⊢
 clear h hb hw8 hlen
 cases b
 · go_enter Tryz.func162, Tryz.ntmps162
   have m1 : True := trivial
   go_wp2_with (first
     | (go_at_call 52; clear m1; refine (get8 A n c j _ zs _ hr hz hl hcap rfl (by omega)).mono ?_; rintro e w1 ⟨rfl, rfl⟩; rw [HK.out])
     | (go_at_call 52; refine (get8 A n c (j + 8) _ zs _ hr hz hl hcap H8.out (by omega)).mono ?_; rintro e w1 ⟨rfl, rfl⟩; rw [HS.out])
     | (go_at_call 193; refine (HM.out _).mono ?_; rintro e w1 ⟨rfl, rfl⟩))
   go_ret3
   exact ⟨rfl, rfl⟩
 · obtain ⟨P, hP⟩ : ∃ P, s + padn s 8 = P := ⟨_, rfl⟩
   rw [Nat.add_assoc]
   rw [hP] at HA ⊢
   by_cases hq : j + P <= n
   · have i6 : (P : Int) <= (n : Int) - j := by omega
     rw [decide_eq_true hq]
     clear hP
     go_enter Tryz.func162, Tryz.ntmps162
     have m1 : True := trivial
     go_wp2_with (first
       | (go_at_call 52; clear m1; refine (get8 A n c j _ zs _ hr hz hl hcap rfl (by omega)).mono ?_; rintro e w1 ⟨rfl, rfl⟩; rw [HK.out])
       | (go_at_call 52; refine (get8 A n c (j + 8) _ zs _ hr hz hl hcap H8.out (by omega)).mono ?_; rintro e w1 ⟨rfl, rfl⟩; rw [HS.out])
       | (go_at_call 193; refine (HM.out _).mono ?_; rintro e w1 ⟨rfl, rfl⟩)
       | (go_at_call 147; refine (HA.out _).mono ?_; rintro e w1 ⟨rfl, rfl⟩))
     go_ret3
     exact ⟨rfl, rfl⟩
   · have i6 : decide ((P : Int) <= (n : Int) - j) = false := by simp; omega
     have i7 : ¬ (P : Int) <= (n : Int) - j := by omega
     rw [decide_eq_false hq]
     clear hP
     go_enter Tryz.func162, Tryz.ntmps162
     have m1 : True := trivial
     go_wp2_with (first
       | (go_at_call 52; clear m1; refine (get8 A n c j _ zs _ hr hz hl hcap rfl (by omega)).mono ?_; rintro e w1 ⟨rfl, rfl⟩; rw [HK.out])
       | (go_at_call 52; refine (get8 A n c (j + 8) _ zs _ hr hz hl hcap H8.out (by omega)).mono ?_; rintro e w1 ⟨rfl, rfl⟩; rw [HS.out])
       | (go_at_call 193; refine (HM.out _).mono ?_; rintro e w1 ⟨rfl, rfl⟩)
       | (go_at_call 147; refine (HA.out _).mono ?_; rintro e w1 ⟨rfl, rfl⟩))
     go_ret3
     exact ⟨rfl, rfl⟩
abbrev obZ : Value := .agg #[.int .i64 0, .slice none 0 0, .slice none 0 0, .slice none 0 0]
structure ObOwn (w : World) (base : Nat) (A : Option Addr) (n c : Nat) (ws : List Int) (B : Option Addr) (m d : Nat) (rs : List Int) (C : Option Addr) (p q : Nat) (is : List Int) : Prop where
 wo : w.ownsRow base 27 1 (.slice A n c) n (cellsOf .u64 ws)
 ro : w.ownsRow base 5 1 (.slice B m d) m (cellsOf .u8 rs)
 io : w.ownsRow base 27 1 (.slice C p q) p (cellsOf .u64 is)
theorem own_caps {w : World} {base : Nat} {e : TypeId} {size n c : Nat} {A : Option Addr} {xs : List Value} (h : w.ownsRow base e size (.slice A n c) n xs) : n <= c /\ c <= 9223372036854775807 := by
 obtain ⟨A1, c1, e1, h1, h2⟩ := own_form h
 injection e1 with _ _ e3
 subst e3
 exact ⟨h1, by unfold maxLen at h2; omega⟩
theorem ObOwn.reads {w : World} {base : Nat} {A : Option Addr} {n c : Nat} {ws : List Int} {B : Option Addr} {m d : Nat} {rs : List Int} {C : Option Addr} {p q : Nat} {is : List Int} (h : ObOwn w base A n c ws B m d rs C p q is) : ObR w w.heap.size A n c ws B m d rs C p q is :=
 ⟨Reads.of_own h.wo, Reads.of_own h.ro, Reads.of_own h.io, own_caps h.wo, own_caps h.ro, own_caps h.io⟩
set_option maxHeartbeats 1000000 in
theorem odec_no1 {B : Nat} (A : Option Addr) (n c : Nat) (at_ : Int) (zs : List Int) (w : World) (hr : Reads w B 1 A n (cellsOf .u8 zs)) (hB : B <= w.heap.size) (hz : AreB zs) (hl : n <= c) (hcap : c <= 9223372036854775807) (hn : n <= 140737488355328) (h0 : -9223372036854775808 <= at_) (h1 : at_ <= 9223372036854775807)
 (hno : ∀ j k s, at_ = (j : Nat) -> ¬ DecAt zs j k s) :
 Calls Tryz.prog 122 #[.slice A n c, .int .i64 at_] w fun e w' => e = .returned (.tuple #[obZ, .int .i64 0, .bool false]) /\ Below w.heap.size w w' := by
 have hb1 : Below w.heap.size w (w.alloc (.cells #[.int .i64 0, .slice none 0 0, .slice none 0 0, .slice none 0 0] 128)) := (Below.refl _ _).alloc (Nat.le_refl _) _
 have BG := Lib.hid (obegin_no A n c at_ zs _ (hr.keep fun p hp => hb1.cell (by omega)) hz hl hcap hn h0 h1 hno)
 clear hr hno
 go_enter Tryz.func122, Tryz.ntmps122
 go_wp2_with (go_at_call 162; refine BG.out.mono ?_; rintro e w1 ⟨rfl, rfl⟩)
 refine bodyPost_ret (results_cell3 rfl _ _ w.heap.size 128 _ (0, 0) _ rfl (Blk.new _ _ _) Tryz.underlying128 rfl (by kernel_rfl)) rfl ?_
 exact ⟨rfl, hb1⟩
set_option maxHeartbeats 1000000 in
theorem odec_no2 {B : Nat} (A : Option Addr) (n c j k s : Nat) (zs : List Int) (w : World) (hr : Reads w B 1 A n (cellsOf .u8 zs)) (hB : B <= w.heap.size) (hz : AreB zs) (hl : n <= c) (hcap : c <= 9223372036854775807) (hn : n <= 140737488355328)
 (h : DecAt zs j k s) (hd : decB zs j k s = false) :
 Calls Tryz.prog 122 #[.slice A n c, .int .i64 j] w fun e w' => e = .returned (.tuple #[obZ, .int .i64 0, .bool false]) /\ Below w.heap.size w w' := by
 have hlen := hr.len
 have hfit := h.fit
 rw [hlen] at hfit
 have hb1 : Below w.heap.size w (w.alloc (.cells #[.int .i64 0, .slice none 0 0, .slice none 0 0, .slice none 0 0] 128)) := (Below.refl _ _).alloc (Nat.le_refl _) _
 have hr1 : Reads (w.alloc (.cells #[.int .i64 0, .slice none 0 0, .slice none 0 0, .slice none 0 0] 128)) B 1 A n (cellsOf .u8 zs) := hr.keep fun p hp => hb1.cell (by omega)
 have BG := Lib.hid (obegin_yes A n c j k s zs _ hr1 hz hl hcap hn h)
 unfold decB at hd
 rw [hlen] at hd
 obtain ⟨b, hb⟩ : ∃ b, (mayB k s && decide (j + s + padn s 8 <= n)) = b := ⟨_, rfl⟩
 rw [hb] at hd BG
 cases b
 · clear hr hr1 h hd hb
   go_enter Tryz.func122, Tryz.ntmps122
   go_wp2_with (go_at_call 162; refine BG.out.mono ?_; rintro e w1 ⟨rfl, rfl⟩)
   refine bodyPost_ret (results_cell3 rfl _ _ w.heap.size 128 _ (0, 0) _ rfl (Blk.new _ _ _) Tryz.underlying128 rfl (by kernel_rfl)) rfl ?_
   exact ⟨rfl, hb1⟩
 · rw [Bool.true_and] at hd
   simp only [Bool.and_eq_true, decide_eq_true_eq] at hb
   have hsub := hr1.sub (lo := j + s) (hi := j + (s + padn s 8)) (cap := c) (by omega) (by omega) hl
   have HA := Lib.hid (align_any s (w.alloc (.cells #[.int .i64 0, .slice none 0 0, .slice none 0 0, .slice none 0 0] 128)) (by omega) (by omega))
   rw [algn_pad] at HA
   have hp7 : padn s 8 <= 7 := by have := padn_eight s; omega
   have hb2 := hb.2
   generalize padn s 8 = P at *
   have e : j + (s + P) - (j + s) = P := by omega
   have hP0 : 0 < P := by
     rcases Nat.eq_zero_or_pos P with h0 | h0
     · subst h0; simp [zerB] at hd
     · exact h0
   have hcs : ¬ c = j + s := by omega
   rw [if_neg hcs] at hsub
   obtain ⟨A0, hA0⟩ : ∃ A0, A.map (·.add (j + s)) = A0 := ⟨_, rfl⟩
   rw [hA0] at hsub
   have hd2 : zerB ((zs.drop (j + s)).take (j + (s + P) - (j + s))) = false := by rw [e]; exact hd
   have HF := Lib.hid (fun cc => ofilled_any A0 (j + (s + P) - (j + s)) cc _ _ hsub (by omega))
   rw [hd2] at HF
   have i1 : (j : Int) + s <= (j : Int) + ((s + P : Nat) : Int) := by omega
   have i2 : (j : Int) + ((s + P : Nat) : Int) <= (c : Int) := by omega
   clear hr hr1 h hd hb hsub hlen e hd2
   go_enter Tryz.func122, Tryz.ntmps122
   go_wp2_with (first
     | (go_at_call 162; refine BG.out.mono ?_; rintro e w1 ⟨rfl, rfl⟩)
     | (go_at_call 147; refine HA.out.mono ?_; rintro e w1 ⟨rfl, rfl⟩)
     | (go_at_call 163; refine (HF.out _).mono ?_; rintro e w1 ⟨rfl, rfl⟩))
   refine bodyPost_ret (results_cell3 rfl _ _ w.heap.size 128 _ (0, 0) _ rfl (Blk.new _ _ _) Tryz.underlying128 rfl (by kernel_rfl)) rfl ?_
   exact ⟨rfl, hb1⟩
structure DecMid (w w7 : World) (X : Nat) (k : Int) (A1 : Option Addr) (M c1 : Nat) (ws : List Int) : Prop where
 bel : Below w.heap.size w w7
 own : w7.ownsRow w.heap.size 27 1 (.slice A1 M c1) M (cellsOf .u64 ws)
 hX : Blk w7 X 128 #[.int .i64 k, .slice A1 M c1, .slice none 0 0, .slice none 0 0]
 hR : Blk w7 w.heap.size 128 #[.int .i64 0, .slice none 0 0, .slice none 0 0, .slice none 0 0]
 ne : w.heap.size < X
 lt : X < w7.heap.size
 ow : ∀ g', Value.ownBlock (.slice A1 M c1) = some g' -> w.heap.size < g' /\ g' < X
theorem dec_mid {w w2 w3 w6 w7 : World} {k : Int} {A1 : Option Addr} {M c1 g : Nat} {ws : List Int} (hbe2 : Below (w.alloc (.cells #[.int .i64 0, .slice none 0 0, .slice none 0 0, .slice none 0 0] 128)).heap.size (w.alloc (.cells #[.int .i64 0, .slice none 0 0, .slice none 0 0, .slice none 0 0] 128)) w2) (hch5 : Chg (fun k => k = g) w2 w3) (hg : w.heap.size < g) (hg3 : g < w3.heap.size)
 (ho : w3.ownsRow w2.heap.size 27 1 (.slice A1 M c1) M (cellsOf .u64 ws)) (hg2 : g < w2.heap.size)
 (hb6 : Below (w3.alloc (.cells #[.int .i64 k, .slice A1 M c1, .slice none 0 0, .slice none 0 0] 128)).heap.size (w3.alloc (.cells #[.int .i64 k, .slice A1 M c1, .slice none 0 0, .slice none 0 0] 128)) w6) (hch8 : Chg (fun k => k = g) w6 w7) :
 DecMid w w7 w3.heap.size k A1 M c1 ws := by
 have hb1 : Below w.heap.size w (w.alloc (.cells #[.int .i64 0, .slice none 0 0, .slice none 0 0, .slice none 0 0] 128)) := (Below.refl _ _).alloc (Nat.le_refl _) _
 have s1 : (w.alloc (.cells #[.int .i64 0, .slice none 0 0, .slice none 0 0, .slice none 0 0] 128)).heap.size = w.heap.size + 1 := by simp
 have s2 := hbe2.size
 have s3 := hch5.size
 have s6 := hb6.size
 have s7 := hch8.size
 have sx : (w3.alloc (.cells #[.int .i64 k, .slice A1 M c1, .slice none 0 0, .slice none 0 0] 128)).heap.size = w3.heap.size + 1 := by simp
 have hc : Chg (fun k => k = g) w2 w7 := ((hch5.alloc _).trans (Chg.of_below hb6 (Nat.le_refl _) (fun k => k = g)) (fun _ _ e => e)).trans hch8 (fun _ _ e => e)
 have hc3 : Chg (fun k => k = g) w3 w7 := (((Chg.refl _ w3).alloc _).trans (Chg.of_below hb6 (Nat.le_refl _) (fun k => k = g)) (fun _ _ e => e)).trans hch8 (fun _ _ e => e)
 have hcx := (Chg.of_below hb6 (Nat.le_refl _) (fun k => k = g)).trans hch8 (fun _ _ e => e)
 refine ⟨(hb1.trans (hbe2.mono (by omega))).trans (hc.below (by omega) (fun k _ e => by omega)), own_base (own_chg ho hc3 (fun g' e1 e2 => by have := (ho.lt g' e1).1; omega)) (by omega), ?_, ?_, by omega, by omega, fun g' e1 => ?_⟩
 · exact (Blk.new w3 _ _).chg hcx (by omega)
 · exact ((Blk.new w _ _).below hbe2 (by omega)).chg hc (by omega)
 · have h := ho.lt g' e1; omega
theorem dec_end {w7 : World} {X R i : Nat} {u a v2 v3 z0 z1 z2 z3 : Value} {k : Int} (hX : ¬ R = X) (hR : Blk w7 R 128 #[z0, z1, z2, z3]) :
 Blk (((((w7.setCell ⟨X, i, none⟩ u).setCell ⟨R, 0, none⟩ (.int .i64 k)).setCell ⟨R, 1, none⟩ a).setCell ⟨R, 2, none⟩ v2).setCell ⟨R, 3, none⟩ v3) R 128 #[.int .i64 k, a, v2, v3] /\
 Chg (fun b => b = X ∨ b = R) w7 (((((w7.setCell ⟨X, i, none⟩ u).setCell ⟨R, 0, none⟩ (.int .i64 k)).setCell ⟨R, 1, none⟩ a).setCell ⟨R, 2, none⟩ v2).setCell ⟨R, 3, none⟩ v3) := by
 refine ⟨?_, ?_⟩
 · have h := ((((hR.far (p := ⟨X, i, none⟩) hX u).set_ 0 (.int .i64 k)).set_ 1 a).set_ 2 v2).set_ 3 v3
   simpa using h
 · exact (((((Chg.refl _ w7).setCell (p := ⟨X, i, none⟩) (.inr (.inl rfl)) _).setCell (p := ⟨R, 0, none⟩) (.inr (.inr rfl)) _).setCell (p := ⟨R, 1, none⟩) (.inr (.inr rfl)) _).setCell (p := ⟨R, 2, none⟩) (.inr (.inr rfl)) _).setCell (p := ⟨R, 3, none⟩) (.inr (.inr rfl)) _
set_option maxHeartbeats 1000000 in
theorem odec_raw {B : Nat} (A : Option Addr) (n c j k s : Nat) (zs : List Int) (w : World) (hr : Reads w B 1 A n (cellsOf .u8 zs)) (hB : B <= w.heap.size) (hz : AreB zs) (hl : n <= c) (hcap : c <= 9223372036854775807) (hn : n <= 140737488355328)
 (h : DecAt zs j k s) (hd : decB zs j k s = true) (hi : hasI k = false) :
 Calls Tryz.prog 122 #[.slice A n c, .int .i64 j] w fun e w' => ∃ A1 c1 A2 m c2, e = .returned (.tuple #[obV k A1 (kwN k) c1 A2 m c2 none 0 0, .int .i64 (j + (s + padn s 8) : Nat), .bool true]) /\ Below w.heap.size w w' /\ ObOwn w' w.heap.size A1 (kwN k) c1 (dW (objB zs j s) k) A2 m c2 (dR (objB zs j s) k) none 0 0 (dI (objB zs j s) k) := by
 have hlen := hr.len
 have hfit := h.fit
 have hroom := h.room
 have hk4 := h.kk
 rw [hlen] at hfit hroom
 have hb1 : Below w.heap.size w (w.alloc (.cells #[.int .i64 0, .slice none 0 0, .slice none 0 0, .slice none 0 0] 128)) := (Below.refl _ _).alloc (Nat.le_refl _) _
 have hr1 : Reads (w.alloc (.cells #[.int .i64 0, .slice none 0 0, .slice none 0 0, .slice none 0 0] 128)) B 1 A n (cellsOf .u8 zs) := hr.keep fun p hp => hb1.cell (by omega)
 have BG := Lib.hid (obegin_yes A n c j k s zs _ hr1 hz hl hcap hn h)
 unfold decB at hd
 rw [hlen] at hd
 simp only [Bool.and_eq_true, decide_eq_true_eq] at hd
 obtain ⟨⟨hm, hb2⟩, hzr⟩ := hd
 obtain ⟨-, hf, hmod⟩ := right_may h hm
 rw [hm, decide_eq_true hb2] at BG
 have hsub := hr1.sub (lo := j + s) (hi := j + (s + padn s 8)) (cap := c) (by omega) (by omega) hl
 have hsub2 := hr1.sub (lo := j) (hi := j + s) (cap := c) (by omega) (by omega) hl
 have HA := Lib.hid (align_any s (w.alloc (.cells #[.int .i64 0, .slice none 0 0, .slice none 0 0, .slice none 0 0] 128)) (by omega) (by omega))
 rw [algn_pad] at HA
 have hp7 : padn s 8 <= 7 := by have := padn_eight s; omega
 generalize padn s 8 = P at *
 have e : j + (s + P) - (j + s) = P := by omega
 have e2 : j + s - j = s := by omega
 have hcj : ¬ c = j := by omega
 rw [if_neg hcj] at hsub2
 obtain ⟨A3, hA3⟩ : ∃ A3, A.map (·.add j) = A3 := ⟨_, rfl⟩
 rw [hA3, e2] at hsub2
 have hzr2 : zerB ((zs.drop (j + s)).take (j + (s + P) - (j + s))) = true := by rw [e]; exact hzr
 obtain ⟨A0, hA0⟩ : ∃ A0, (if c = j + s then A else A.map (·.add (j + s))) = A0 := ⟨_, rfl⟩
 rw [hA0] at hsub
 have HF := Lib.hid (fun cc => ofilled_any A0 (j + (s + P) - (j + s)) cc _ _ hsub (by omega))
 rw [hzr2] at HF
 have i1 : (j : Int) + s <= (j : Int) + ((s + P : Nat) : Int) := by omega
 have i2 : (j : Int) + ((s + P : Nat) : Int) <= (c : Int) := by omega
 have hob := objB_bytes hz j s
 have hol := objB_length h.fit
 have hfk : frontN k = 16 + 8 * kwN k := rfl
 have HR := Lib.hid (fun cc (h1 : s <= cc) (h2 : cc <= 9223372036854775807) => read_yes A3 s cc 16 (objB zs j s) _ hsub2 (by have := hb1.size; omega) h1 h2 (by omega) (by omega))
 have HW := Lib.hid (owords_any (k : Int))
 have HFR := Lib.hid (ofront_any (k : Int))
 have HI := Lib.hid (ohas_any (k : Int))
 rw [hi] at HI
 obtain ⟨M, hM⟩ : ∃ M, kwN k = M := ⟨_, rfl⟩
 obtain ⟨F, hF⟩ : ∃ F, frontN k = F := ⟨_, rfl⟩
 obtain ⟨r, hrr⟩ : ∃ r, s - F = r := ⟨_, rfl⟩
 rw [hF] at HFR hf
 rw [hM] at HW
 have hF2 : F = 16 + 8 * M := by rw [<- hF, <- hM]; exact hfk
 have hM5 : M <= 5 := by rw [<- hM]; exact kwN_le _
 have hri : (s : Int) - (F : Int) = (r : Int) := by omega
 have HF2 := Lib.hid hF2
 have HRS : Hid (s = F + r) := show s = F + r by omega
 have HDW : Hid (dW (objB zs j s) k = wrds M ((objB zs j s).drop 16)) := by show _ = _; unfold dW; rw [hM]
 have HDR : Hid (dR (objB zs j s) k = (objB zs j s).drop F) := by show _ = _; unfold dR; rw [hi]; rw [if_neg (by decide), hF]
 have HDI : Hid (dI (objB zs j s) k = []) := by show _ = _; unfold dI; rw [hi]; rfl
 have HK := Lib.hid hM
 have s16 : 16 <= s := by omega
 have s47 : s <= 140737488355328 := by omega
 rw [hM]
 clear hr hr1 h hsub hlen e hzr hzr2 hm hb2 hmod hfk hF hF2 hM hrr hz hsub2
 generalize objB zs j s = bs at *
 have HOL := Lib.hid hol
 have HOB := Lib.hid hob
 clear hol hob
 by_cases hcs : c = j + s
 · rw [if_pos hcs] at hA0
   subst hcs
   subst hA0
   go_enter Tryz.func122, Tryz.ntmps122
   have m1 : True := trivial
   go_wp2_with (first
     | (go_at_call 162; refine BG.out.mono ?_; rintro e w1 ⟨rfl, rfl⟩)
     | (go_at_call 147; refine HA.out.mono ?_; rintro e w1 ⟨rfl, rfl⟩)
     | (go_at_call 163; refine (HF.out _).mono ?_; rintro e w1 ⟨rfl, rfl⟩)
     | (go_at_call 61; (refine (HR.out _ (by omega) (by omega)).mono ?_; rintro e w2 ⟨g, B', A', c', rfl, hrd, hbe2, hgg⟩; have hbe := hb1.trans (hbe2.mono hb1.size); have hgw : w.heap.size < g := (by simp at hgg; omega)))
     | (go_at_call 90; refine (HW.out _).mono ?_; rintro e w3 ⟨rfl, rfl⟩)
     | (go_at_call 164; clear m1; (refine (rwords_yes B' g (s - 16) c' M _ A' _ false _ hrd (HOB.out.drop 16) (by have h := HF2.out; omega) (by simp) (by simp; omega) (by omega)).mono ?_; rintro e w3 ⟨A1, c1, rfl, ho1, A5, n5, c5, hrd5, hch5⟩))
     | (go_at_call 165; refine (HFR.out _).mono ?_; rintro e w4 ⟨rfl, rfl⟩)
     | (go_at_call 166; refine (HI.out _).mono ?_; rintro e w4 ⟨rfl, rfl⟩)
     | (go_at_call 167; (have hn5 := hrd5.reads.len; rw [List.length_drop, List.length_drop, HOL.out] at hn5; have hn6 : n5 = r := (by have h1 := HF2.out; have h2 := HRS.out; omega); have hgl := hrd5.blk.lt; have hgl2 := hrd.blk.lt; refine (rraw_yes B' g n5 c5 r _ A5 _ false _ (hrd5.below ((Below.refl _ _).alloc (Nat.le_refl _) _)) (by omega) (by simp; omega) (by simp; omega) (by omega)).mono ?_; rintro e w7 ⟨A2, c2, rfl, w6, ho2, hb6, A8, n8, c8, hrd8, hch8⟩; have MD := dec_mid hbe2 hch5 hgw hgl ho1 hgl2 hb6 hch8; have ho27 := own_chg ho2 hch8 (fun g' e1 e2 => by have h1 := (ho2.lt g' e1).1; simp at h1; omega); have o1 := (fun g' e1 => (ho2.lt g' e1).1); obtain ⟨bX, oX, hX, hR, neX, ltX, owX⟩ := MD; have x0 := hX.cell 0; have x1 := hX.cell 1; have x2 := hX.cell 2; have x3 := hX.cell 3; have xf := hX.frozen 2; have y0 := hR.cell 0; have y1 := hR.cell 1; have y2 := hR.cell 2; have y3 := hR.cell 3; have yf0 := hR.frozen 0; have yf1 := hR.frozen 1; have yf2 := hR.frozen 2; have yf3 := hR.frozen 3; have hne : ¬ w3.heap.size = w.heap.size := (by omega); have hne2 : ¬ w.heap.size = w3.heap.size := (by omega); have HoX := Lib.hid oX; have HbX := Lib.hid bX; have Ho2 := Lib.hid ho27; have HhX := Lib.hid hX; have HhR := Lib.hid hR; have How := Lib.hid owX; have Ho1 := Lib.hid o1; clear hn5 hrd hrd5 hrd8 hch5 hch8 hb6 hbe hbe2 ho1 ho2 ho27 oX bX hX hR owX o1))
)
   have DE := dec_end (X := w3.heap.size) (i := 2) (u := .slice A2 r c2) (a := .slice A1 M c1) (v2 := .slice A2 r c2) (v3 := .slice none 0 0) (k := k) hne2 HhR.out
   refine bodyPost_ret (results_cell3 rfl _ _ w.heap.size 128 _ (0, 0) _ rfl DE.1 Tryz.underlying128 rfl (by kernel_rfl)) rfl ?_
   have hs7 := HbX.out.size
   refine ⟨A1, c1, A2, r, c2, rfl, HbX.out.trans (DE.2.below hs7 (fun b _ e => by rcases e with e | e <;> omega)), ?_, ?_, by rw [HDI.out]; exact World.ownsRow_nil _ _ _ _⟩
   · rw [HDW.out]
     exact own_chg HoX.out DE.2 (fun g' e1 e2 => by have h := How.out g' e1; rcases e2 with e2 | e2 <;> omega)
   · rw [HDR.out]
     have h := own_chg Ho2.out DE.2 (fun g' e1 e2 => by have h := Ho1.out g' e1; simp at h; rcases e2 with e2 | e2 <;> omega)
     rw [List.drop_drop, <- HF2.out, List.take_of_length_le (by rw [List.length_drop, HOL.out, HRS.out]; omega)] at h
     exact own_base h (by simp; omega)
 · rw [if_neg hcs] at hA0
   go_enter Tryz.func122, Tryz.ntmps122
   have m1 : True := trivial
   go_wp2_with (first
     | (go_at_call 162; refine BG.out.mono ?_; rintro e w1 ⟨rfl, rfl⟩)
     | (go_at_call 147; refine HA.out.mono ?_; rintro e w1 ⟨rfl, rfl⟩)
     | (go_at_call 163; refine (HF.out _).mono ?_; rintro e w1 ⟨rfl, rfl⟩)
     | (go_at_call 61; (refine (HR.out _ (by omega) (by omega)).mono ?_; rintro e w2 ⟨g, B', A', c', rfl, hrd, hbe2, hgg⟩; have hbe := hb1.trans (hbe2.mono hb1.size); have hgw : w.heap.size < g := (by simp at hgg; omega)))
     | (go_at_call 90; refine (HW.out _).mono ?_; rintro e w3 ⟨rfl, rfl⟩)
     | (go_at_call 164; clear m1; (refine (rwords_yes B' g (s - 16) c' M _ A' _ false _ hrd (HOB.out.drop 16) (by have h := HF2.out; omega) (by simp) (by simp; omega) (by omega)).mono ?_; rintro e w3 ⟨A1, c1, rfl, ho1, A5, n5, c5, hrd5, hch5⟩))
     | (go_at_call 165; refine (HFR.out _).mono ?_; rintro e w4 ⟨rfl, rfl⟩)
     | (go_at_call 166; refine (HI.out _).mono ?_; rintro e w4 ⟨rfl, rfl⟩)
     | (go_at_call 167; (have hn5 := hrd5.reads.len; rw [List.length_drop, List.length_drop, HOL.out] at hn5; have hn6 : n5 = r := (by have h1 := HF2.out; have h2 := HRS.out; omega); have hgl := hrd5.blk.lt; have hgl2 := hrd.blk.lt; refine (rraw_yes B' g n5 c5 r _ A5 _ false _ (hrd5.below ((Below.refl _ _).alloc (Nat.le_refl _) _)) (by omega) (by simp; omega) (by simp; omega) (by omega)).mono ?_; rintro e w7 ⟨A2, c2, rfl, w6, ho2, hb6, A8, n8, c8, hrd8, hch8⟩; have MD := dec_mid hbe2 hch5 hgw hgl ho1 hgl2 hb6 hch8; have ho27 := own_chg ho2 hch8 (fun g' e1 e2 => by have h1 := (ho2.lt g' e1).1; simp at h1; omega); have o1 := (fun g' e1 => (ho2.lt g' e1).1); obtain ⟨bX, oX, hX, hR, neX, ltX, owX⟩ := MD; have x0 := hX.cell 0; have x1 := hX.cell 1; have x2 := hX.cell 2; have x3 := hX.cell 3; have xf := hX.frozen 2; have y0 := hR.cell 0; have y1 := hR.cell 1; have y2 := hR.cell 2; have y3 := hR.cell 3; have yf0 := hR.frozen 0; have yf1 := hR.frozen 1; have yf2 := hR.frozen 2; have yf3 := hR.frozen 3; have hne : ¬ w3.heap.size = w.heap.size := (by omega); have hne2 : ¬ w.heap.size = w3.heap.size := (by omega); have HoX := Lib.hid oX; have HbX := Lib.hid bX; have Ho2 := Lib.hid ho27; have HhX := Lib.hid hX; have HhR := Lib.hid hR; have How := Lib.hid owX; have Ho1 := Lib.hid o1; clear hn5 hrd hrd5 hrd8 hch5 hch8 hb6 hbe hbe2 ho1 ho2 ho27 oX bX hX hR owX o1))
)
   have DE := dec_end (X := w3.heap.size) (i := 2) (u := .slice A2 r c2) (a := .slice A1 M c1) (v2 := .slice A2 r c2) (v3 := .slice none 0 0) (k := k) hne2 HhR.out
   refine bodyPost_ret (results_cell3 rfl _ _ w.heap.size 128 _ (0, 0) _ rfl DE.1 Tryz.underlying128 rfl (by kernel_rfl)) rfl ?_
   have hs7 := HbX.out.size
   refine ⟨A1, c1, A2, r, c2, rfl, HbX.out.trans (DE.2.below hs7 (fun b _ e => by rcases e with e | e <;> omega)), ?_, ?_, by rw [HDI.out]; exact World.ownsRow_nil _ _ _ _⟩
   · rw [HDW.out]
     exact own_chg HoX.out DE.2 (fun g' e1 e2 => by have h := How.out g' e1; rcases e2 with e2 | e2 <;> omega)
   · rw [HDR.out]
     have h := own_chg Ho2.out DE.2 (fun g' e1 e2 => by have h := Ho1.out g' e1; simp at h; rcases e2 with e2 | e2 <;> omega)
     rw [List.drop_drop, <- HF2.out, List.take_of_length_le (by rw [List.length_drop, HOL.out, HRS.out]; omega)] at h
     exact own_base h (by simp; omega)
set_option maxHeartbeats 1000000 in
theorem odec_items {B : Nat} (A : Option Addr) (n c j k s : Nat) (zs : List Int) (w : World) (hr : Reads w B 1 A n (cellsOf .u8 zs)) (hB : B <= w.heap.size) (hz : AreB zs) (hl : n <= c) (hcap : c <= 9223372036854775807) (hn : n <= 140737488355328)
 (h : DecAt zs j k s) (hd : decB zs j k s = true) (hi : hasI k = true) :
 Calls Tryz.prog 122 #[.slice A n c, .int .i64 j] w fun e w' => ∃ A1 c1 A2 m c2, e = .returned (.tuple #[obV k A1 (kwN k) c1 none 0 0 A2 m c2, .int .i64 (j + (s + padn s 8) : Nat), .bool true]) /\ Below w.heap.size w w' /\ ObOwn w' w.heap.size A1 (kwN k) c1 (dW (objB zs j s) k) none 0 0 (dR (objB zs j s) k) A2 m c2 (dI (objB zs j s) k) := by
 have hlen := hr.len
 have hfit := h.fit
 have hroom := h.room
 have hk4 := h.kk
 rw [hlen] at hfit hroom
 have hb1 : Below w.heap.size w (w.alloc (.cells #[.int .i64 0, .slice none 0 0, .slice none 0 0, .slice none 0 0] 128)) := (Below.refl _ _).alloc (Nat.le_refl _) _
 have hr1 : Reads (w.alloc (.cells #[.int .i64 0, .slice none 0 0, .slice none 0 0, .slice none 0 0] 128)) B 1 A n (cellsOf .u8 zs) := hr.keep fun p hp => hb1.cell (by omega)
 have BG := Lib.hid (obegin_yes A n c j k s zs _ hr1 hz hl hcap hn h)
 unfold decB at hd
 rw [hlen] at hd
 simp only [Bool.and_eq_true, decide_eq_true_eq] at hd
 obtain ⟨⟨hm, hb2⟩, hzr⟩ := hd
 obtain ⟨-, hf, hmod⟩ := right_may h hm
 rw [hm, decide_eq_true hb2] at BG
 have hsub := hr1.sub (lo := j + s) (hi := j + (s + padn s 8)) (cap := c) (by omega) (by omega) hl
 have hsub2 := hr1.sub (lo := j) (hi := j + s) (cap := c) (by omega) (by omega) hl
 have HA := Lib.hid (align_any s (w.alloc (.cells #[.int .i64 0, .slice none 0 0, .slice none 0 0, .slice none 0 0] 128)) (by omega) (by omega))
 rw [algn_pad] at HA
 have hp7 : padn s 8 <= 7 := by have := padn_eight s; omega
 generalize padn s 8 = P at *
 have e : j + (s + P) - (j + s) = P := by omega
 have e2 : j + s - j = s := by omega
 have hcj : ¬ c = j := by omega
 rw [if_neg hcj] at hsub2
 obtain ⟨A3, hA3⟩ : ∃ A3, A.map (·.add j) = A3 := ⟨_, rfl⟩
 rw [hA3, e2] at hsub2
 have hzr2 : zerB ((zs.drop (j + s)).take (j + (s + P) - (j + s))) = true := by rw [e]; exact hzr
 obtain ⟨A0, hA0⟩ : ∃ A0, (if c = j + s then A else A.map (·.add (j + s))) = A0 := ⟨_, rfl⟩
 rw [hA0] at hsub
 have HF := Lib.hid (fun cc => ofilled_any A0 (j + (s + P) - (j + s)) cc _ _ hsub (by omega))
 rw [hzr2] at HF
 have i1 : (j : Int) + s <= (j : Int) + ((s + P : Nat) : Int) := by omega
 have i2 : (j : Int) + ((s + P : Nat) : Int) <= (c : Int) := by omega
 have hob := objB_bytes hz j s
 have hol := objB_length h.fit
 have hfk : frontN k = 16 + 8 * kwN k := rfl
 have HR := Lib.hid (fun cc (h1 : s <= cc) (h2 : cc <= 9223372036854775807) => read_yes A3 s cc 16 (objB zs j s) _ hsub2 (by have := hb1.size; omega) h1 h2 (by omega) (by omega))
 have HW := Lib.hid (owords_any (k : Int))
 have HFR := Lib.hid (ofront_any (k : Int))
 have HI := Lib.hid (ohas_any (k : Int))
 rw [hi] at HI
 obtain ⟨M, hM⟩ : ∃ M, kwN k = M := ⟨_, rfl⟩
 obtain ⟨F, hF⟩ : ∃ F, frontN k = F := ⟨_, rfl⟩
 obtain ⟨r, hrr⟩ : ∃ r, s - F = r := ⟨_, rfl⟩
 rw [hF] at HFR hf
 rw [hM] at HW
 have hF2 : F = 16 + 8 * M := by rw [<- hF, <- hM]; exact hfk
 have hM5 : M <= 5 := by rw [<- hM]; exact kwN_le _
 have hri : (s : Int) - (F : Int) = (r : Int) := by omega
 have HF2 := Lib.hid hF2
 have hr8 : r % 8 = 0 := by have h := hmod hi; rw [hF] at h; omega
 obtain ⟨q, hq⟩ : ∃ q, r / 8 = q := ⟨_, rfl⟩
 have hq8 : 8 * q = r := by omega
 have hq1 : (r : Int) / 8 = (q : Int) := by omega
 have hq2 : (r : Int).tdiv 8 = (q : Int) := by rw [Int.tdiv_eq_ediv_of_nonneg (by omega)]; exact hq1
 have HRS : Hid (s = F + r) := show s = F + r by omega
 have HDW : Hid (dW (objB zs j s) k = wrds M ((objB zs j s).drop 16)) := by show _ = _; unfold dW; rw [hM]
 have HDR : Hid (dR (objB zs j s) k = []) := by show _ = _; unfold dR; rw [hi]; rfl
 have HDI : Hid (dI (objB zs j s) k = wrds q ((objB zs j s).drop F)) := by show _ = _; unfold dI; rw [hi]; rw [if_pos rfl, hol, hF, hrr, hq]
 have HK := Lib.hid hM
 have s16 : 16 <= s := by omega
 have s47 : s <= 140737488355328 := by omega
 rw [hM]
 clear hr hr1 h hsub hlen e hzr hzr2 hm hb2 hmod hfk hF hF2 hM hrr hz hsub2
 generalize objB zs j s = bs at *
 have HOL := Lib.hid hol
 have HOB := Lib.hid hob
 clear hol hob
 by_cases hcs : c = j + s
 · rw [if_pos hcs] at hA0
   subst hcs
   subst hA0
   go_enter Tryz.func122, Tryz.ntmps122
   have m1 : True := trivial
   go_wp2_with (first
     | (go_at_call 162; refine BG.out.mono ?_; rintro e w1 ⟨rfl, rfl⟩)
     | (go_at_call 147; refine HA.out.mono ?_; rintro e w1 ⟨rfl, rfl⟩)
     | (go_at_call 163; refine (HF.out _).mono ?_; rintro e w1 ⟨rfl, rfl⟩)
     | (go_at_call 61; (refine (HR.out _ (by omega) (by omega)).mono ?_; rintro e w2 ⟨g, B', A', c', rfl, hrd, hbe2, hgg⟩; have hbe := hb1.trans (hbe2.mono hb1.size); have hgw : w.heap.size < g := (by simp at hgg; omega)))
     | (go_at_call 90; refine (HW.out _).mono ?_; rintro e w3 ⟨rfl, rfl⟩)
     | (go_at_call 164; clear m1; (refine (rwords_yes B' g (s - 16) c' M _ A' _ false _ hrd (HOB.out.drop 16) (by have h := HF2.out; omega) (by simp) (by simp; omega) (by omega)).mono ?_; rintro e w3 ⟨A1, c1, rfl, ho1, A5, n5, c5, hrd5, hch5⟩))
     | (go_at_call 165; refine (HFR.out _).mono ?_; rintro e w4 ⟨rfl, rfl⟩)
     | (go_at_call 166; refine (HI.out _).mono ?_; rintro e w4 ⟨rfl, rfl⟩)
     | (go_at_call 164; (have hn5 := hrd5.reads.len; rw [List.length_drop, List.length_drop, HOL.out] at hn5; have hn6 : n5 = r := (by have h1 := HF2.out; have h2 := HRS.out; omega); have hgl := hrd5.blk.lt; have hgl2 := hrd.blk.lt; refine (rwords_yes B' g n5 c5 q _ A5 _ false _ (hrd5.below ((Below.refl _ _).alloc (Nat.le_refl _) _)) ((HOB.out.drop 16).drop (8 * M)) (by omega) (by simp; omega) (by simp; omega) (by omega)).mono ?_; rintro e w7 ⟨A2, c2, rfl, ho2, A8, n8, c8, hrd8, hch8⟩; have MD := dec_mid hbe2 hch5 hgw hgl ho1 hgl2 (Below.refl _ _) hch8; have o1 := (fun g' e1 => (ho2.lt g' e1).1); obtain ⟨bX, oX, hX, hR, neX, ltX, owX⟩ := MD; have x0 := hX.cell 0; have x1 := hX.cell 1; have x2 := hX.cell 2; have x3 := hX.cell 3; have xf := hX.frozen 3; have y0 := hR.cell 0; have y1 := hR.cell 1; have y2 := hR.cell 2; have y3 := hR.cell 3; have yf0 := hR.frozen 0; have yf1 := hR.frozen 1; have yf2 := hR.frozen 2; have yf3 := hR.frozen 3; have hne : ¬ w3.heap.size = w.heap.size := (by omega); have hne2 : ¬ w.heap.size = w3.heap.size := (by omega); have HoX := Lib.hid oX; have HbX := Lib.hid bX; have Ho2 := Lib.hid ho2; have HhX := Lib.hid hX; have HhR := Lib.hid hR; have How := Lib.hid owX; have Ho1 := Lib.hid o1; clear hn5 hrd hrd5 hrd8 hch5 hch8 hbe hbe2 ho1 ho2 oX bX hX hR owX o1))
)
   have DE := dec_end (X := w3.heap.size) (i := 3) (u := .slice A2 q c2) (a := .slice A1 M c1) (v2 := .slice none 0 0) (v3 := .slice A2 q c2) (k := k) hne2 HhR.out
   refine bodyPost_ret (results_cell3 rfl _ _ w.heap.size 128 _ (0, 0) _ rfl DE.1 Tryz.underlying128 rfl (by kernel_rfl)) rfl ?_
   have hs7 := HbX.out.size
   refine ⟨A1, c1, A2, q, c2, rfl, HbX.out.trans (DE.2.below hs7 (fun b _ e => by rcases e with e | e <;> omega)), ?_, by rw [HDR.out]; exact World.ownsRow_nil _ _ _ _, ?_⟩
   · rw [HDW.out]
     exact own_chg HoX.out DE.2 (fun g' e1 e2 => by have h := How.out g' e1; rcases e2 with e2 | e2 <;> omega)
   · rw [HDI.out]
     have h := own_chg Ho2.out DE.2 (fun g' e1 e2 => by have h := Ho1.out g' e1; simp at h; rcases e2 with e2 | e2 <;> omega)
     rw [List.drop_drop, <- HF2.out] at h
     exact own_base h (by simp; omega)
 · rw [if_neg hcs] at hA0
   go_enter Tryz.func122, Tryz.ntmps122
   have m1 : True := trivial
   go_wp2_with (first
     | (go_at_call 162; refine BG.out.mono ?_; rintro e w1 ⟨rfl, rfl⟩)
     | (go_at_call 147; refine HA.out.mono ?_; rintro e w1 ⟨rfl, rfl⟩)
     | (go_at_call 163; refine (HF.out _).mono ?_; rintro e w1 ⟨rfl, rfl⟩)
     | (go_at_call 61; (refine (HR.out _ (by omega) (by omega)).mono ?_; rintro e w2 ⟨g, B', A', c', rfl, hrd, hbe2, hgg⟩; have hbe := hb1.trans (hbe2.mono hb1.size); have hgw : w.heap.size < g := (by simp at hgg; omega)))
     | (go_at_call 90; refine (HW.out _).mono ?_; rintro e w3 ⟨rfl, rfl⟩)
     | (go_at_call 164; clear m1; (refine (rwords_yes B' g (s - 16) c' M _ A' _ false _ hrd (HOB.out.drop 16) (by have h := HF2.out; omega) (by simp) (by simp; omega) (by omega)).mono ?_; rintro e w3 ⟨A1, c1, rfl, ho1, A5, n5, c5, hrd5, hch5⟩))
     | (go_at_call 165; refine (HFR.out _).mono ?_; rintro e w4 ⟨rfl, rfl⟩)
     | (go_at_call 166; refine (HI.out _).mono ?_; rintro e w4 ⟨rfl, rfl⟩)
     | (go_at_call 164; (have hn5 := hrd5.reads.len; rw [List.length_drop, List.length_drop, HOL.out] at hn5; have hn6 : n5 = r := (by have h1 := HF2.out; have h2 := HRS.out; omega); have hgl := hrd5.blk.lt; have hgl2 := hrd.blk.lt; refine (rwords_yes B' g n5 c5 q _ A5 _ false _ (hrd5.below ((Below.refl _ _).alloc (Nat.le_refl _) _)) ((HOB.out.drop 16).drop (8 * M)) (by omega) (by simp; omega) (by simp; omega) (by omega)).mono ?_; rintro e w7 ⟨A2, c2, rfl, ho2, A8, n8, c8, hrd8, hch8⟩; have MD := dec_mid hbe2 hch5 hgw hgl ho1 hgl2 (Below.refl _ _) hch8; have o1 := (fun g' e1 => (ho2.lt g' e1).1); obtain ⟨bX, oX, hX, hR, neX, ltX, owX⟩ := MD; have x0 := hX.cell 0; have x1 := hX.cell 1; have x2 := hX.cell 2; have x3 := hX.cell 3; have xf := hX.frozen 3; have y0 := hR.cell 0; have y1 := hR.cell 1; have y2 := hR.cell 2; have y3 := hR.cell 3; have yf0 := hR.frozen 0; have yf1 := hR.frozen 1; have yf2 := hR.frozen 2; have yf3 := hR.frozen 3; have hne : ¬ w3.heap.size = w.heap.size := (by omega); have hne2 : ¬ w.heap.size = w3.heap.size := (by omega); have HoX := Lib.hid oX; have HbX := Lib.hid bX; have Ho2 := Lib.hid ho2; have HhX := Lib.hid hX; have HhR := Lib.hid hR; have How := Lib.hid owX; have Ho1 := Lib.hid o1; clear hn5 hrd hrd5 hrd8 hch5 hch8 hbe hbe2 ho1 ho2 oX bX hX hR owX o1))
)
   have DE := dec_end (X := w3.heap.size) (i := 3) (u := .slice A2 q c2) (a := .slice A1 M c1) (v2 := .slice none 0 0) (v3 := .slice A2 q c2) (k := k) hne2 HhR.out
   refine bodyPost_ret (results_cell3 rfl _ _ w.heap.size 128 _ (0, 0) _ rfl DE.1 Tryz.underlying128 rfl (by kernel_rfl)) rfl ?_
   have hs7 := HbX.out.size
   refine ⟨A1, c1, A2, q, c2, rfl, HbX.out.trans (DE.2.below hs7 (fun b _ e => by rcases e with e | e <;> omega)), ?_, by rw [HDR.out]; exact World.ownsRow_nil _ _ _ _, ?_⟩
   · rw [HDW.out]
     exact own_chg HoX.out DE.2 (fun g' e1 e2 => by have h := How.out g' e1; rcases e2 with e2 | e2 <;> omega)
   · rw [HDI.out]
     have h := own_chg Ho2.out DE.2 (fun g' e1 e2 => by have h := Ho1.out g' e1; simp at h; rcases e2 with e2 | e2 <;> omega)
     rw [List.drop_drop, <- HF2.out] at h
     exact own_base h (by simp; omega)
theorem odec_yes {B : Nat} (A : Option Addr) (n c j k s : Nat) (zs : List Int) (w : World) (hr : Reads w B 1 A n (cellsOf .u8 zs)) (hB : B <= w.heap.size) (hz : AreB zs) (hl : n <= c) (hcap : c <= 9223372036854775807) (hn : n <= 140737488355328)
 (h : DecAt zs j k s) (hd : decB zs j k s = true) :
 Calls Tryz.prog 122 #[.slice A n c, .int .i64 j] w fun e w' => ∃ A1 n1 c1 A2 n2 c2 A3 n3 c3, e = .returned (.tuple #[obV k A1 n1 c1 A2 n2 c2 A3 n3 c3, .int .i64 (j + (s + padn s 8) : Nat), .bool true]) /\ Below w.heap.size w w' /\
 ObOwn w' w.heap.size A1 n1 c1 (dW (objB zs j s) k) A2 n2 c2 (dR (objB zs j s) k) A3 n3 c3 (dI (objB zs j s) k) := by
 obtain ⟨b, hb⟩ : ∃ b, hasI k = b := ⟨_, rfl⟩
 cases b
 · exact (odec_raw A n c j k s zs w hr hB hz hl hcap hn h hd hb).mono fun e w' ⟨A1, c1, A2, m, c2, h1, h2, h3⟩ => ⟨A1, _, c1, A2, m, c2, none, 0, 0, h1, h2, h3⟩
 · exact (odec_items A n c j k s zs w hr hB hz hl hcap hn h hd hb).mono fun e w' ⟨A1, c1, A2, m, c2, h1, h2, h3⟩ => ⟨A1, _, c1, none, 0, 0, A2, m, c2, h1, h2, h3⟩
theorem odec_no {B : Nat} (A : Option Addr) (n c : Nat) (at_ : Int) (zs : List Int) (w : World) (hr : Reads w B 1 A n (cellsOf .u8 zs)) (hB : B <= w.heap.size) (hz : AreB zs) (hl : n <= c) (hcap : c <= 9223372036854775807) (hn : n <= 140737488355328) (h0 : -9223372036854775808 <= at_) (h1 : at_ <= 9223372036854775807)
 (hno : ∀ j k s, at_ = (j : Nat) -> DecAt zs j k s -> decB zs j k s = false) :
 Calls Tryz.prog 122 #[.slice A n c, .int .i64 at_] w fun e w' => e = .returned (.tuple #[obZ, .int .i64 0, .bool false]) /\ Below w.heap.size w w' := by
 by_cases h : ∃ j k s, at_ = (j : Nat) /\ DecAt zs j k s
 · obtain ⟨j, k, s, rfl, h⟩ := h
   exact odec_no2 A n c j k s zs w hr hB hz hl hcap hn h (hno j k s rfl h)
 · exact odec_no1 A n c at_ zs w hr hB hz hl hcap hn h0 h1 (fun j k s e hd => h ⟨j, k, s, e, hd⟩)
end Go.Proofs.YtgcmbgniaffdlaaGreat
