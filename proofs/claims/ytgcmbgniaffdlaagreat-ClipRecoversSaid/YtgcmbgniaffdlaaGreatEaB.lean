import Derived.Test.YtgcmbgniaffdlaaGreatEaA
import Derived.BigRegion
set_option linter.unusedVariables false
set_option maxRecDepth 100000
set_option linter.unusedSimpArgs false
namespace Go.Proofs.YtgcmbgniaffdlaaGreat
open Go.RowKit Go.Shelf
theorem lists_eq {xs ys : List ByteArray} {n : Nat} (hx : xs.length = n) (hy : ys.length = n) (h : ∀ i, i < n -> nthT xs i = nthT ys i) : xs = ys := by
 refine List.ext_getElem (by omega) fun i h1 h2 => ?_
 have := h i (by omega)
 rwa [nthT_get h1, nthT_get h2] at this
theorem lists_ne {xs ys : List ByteArray} {i : Nat} (h : nthT xs i ≠ nthT ys i) : xs ≠ ys := fun e => h (by rw [e])
theorem lists_len {xs ys : List ByteArray} (h : xs.length ≠ ys.length) : xs ≠ ys := fun e => h (by rw [e])
set_option maxHeartbeats 1000000 in
theorem rtexts_any (A1 A2 : Option Addr) (n1 n2 c1 c2 : Nat) (xs ys : List ByteArray) (B1 B2 : Nat) (w : World) (h1 : Txt w B1 A1 n1 c1 xs) (h2 : Txt w B2 A2 n2 c2 ys) :
 Calls Tryz.prog 106 #[.slice A1 n1 c1, .slice A2 n2 c2] w fun e w' => e = .returned (.bool (decide (xs = ys))) /\ Drew w w' := by
 have hle := h1.le
 have hcap := h1.cap
 have hle2 := h2.le
 have hcap2 := h2.cap
 have hl1 := h1.len
 have hl2 := h2.len
 by_cases hnm : n1 = n2
 · subst hnm
   have HL := Lib.hid (And.intro hl1 hl2)
   clear hl1 hl2
   go_enter Tryz.func106, Tryz.ntmps106
   go_wp2
   go_loopw [5] (fun i wr => ∃ k q : Nat, k <= n1 /\ i = .int .i64 k /\ wr = w.drewN q /\ Hid (∀ j, j < k -> nthT xs j = nthT ys j)) (fun i _ => n1 - (intOf i).toNat)
   case atStart => exact ⟨0, 0, Nat.zero_le _, rfl, rfl, Lib.hid (fun j hj => absurd hj (by omega))⟩
   case round =>
     obtain ⟨k, q, hk, rfl, rfl, HE⟩ := hrel
     have H1 := Lib.hid h1
     have H2 := Lib.hid h2
     by_cases hlt : k < n1
     · obtain ⟨b1, o1, rfl, hb1, hc1⟩ := h1.at_ (by omega)
       obtain ⟨b2, o2, rfl, hb2, hc2⟩ := h2.at_ (by omega)
       have e1 := hc1 k hlt
       have e2 := hc2 k hlt
       have hlti : (k : Int) < n1 := by omega
       have hk0 : (0 : Int) <= k := by omega
       by_cases hne : nthT xs k = nthT ys k
       · have HS := Lib.hid hne
         rw [<- hne] at e2
         obtain ⟨s, hs⟩ : ∃ s, nthT xs k = s := ⟨_, rfl⟩
         rw [hs] at e1 e2
         clear hc1 hc2 h1 h2 hne hs
         go_wp2
         go_quiet (fail)
         go_wp2
         go_roundw
         case rel => exact ⟨k + 1, _, by omega, by go_num, by first | rfl | exact World.drewN_drewN _ _ _, Lib.hid (fun j hj => by
           rcases Nat.lt_or_ge j k with e | e
           · exact HE.out j e
           · obtain rfl : j = k := by omega
             exact HS.out)⟩
         case measure => simp [intOf]; omega
       · have HN : Hid (decide (xs = ys) = false) := Lib.hid (decide_eq_false (lists_ne hne))
         have d1 : ((nthT xs k).toList == (nthT ys k).toList) = false := by rw [beq_text]; exact decide_eq_false hne
         generalize nthT xs k = s at *
         generalize nthT ys k = t at *
         clear hc1 hc2 h1 h2 hne
         go_wp2
         go_quiet (fail)
         go_wp2
         go_ret
         exact ⟨by rw [HN.out]; rfl, _, by first | rfl | exact World.drewN_drewN _ _ _⟩
     · obtain rfl : k = n1 := by omega
       have HN : Hid (decide (xs = ys) = true) := Lib.hid (decide_eq_true (lists_eq HL.out.1 HL.out.2 HE.out))
       clear h1 h2
       go_wp2
       go_ret
       exact ⟨by rw [HN.out]; rfl, _, rfl⟩
 · have HN : Hid (decide (xs = ys) = false) := Lib.hid (decide_eq_false (lists_len (by omega)))
   have hni : ¬ (n1 : Int) = (n2 : Int) := by omega
   have d1 : ((n1 : Int) == (n2 : Int)) = false := by rw [beq_eq_false_iff_ne]; exact hni
   clear hl1 hl2 h1 h2 hnm
   go_enter Tryz.func106, Tryz.ntmps106
   go_wp2
   go_ret
   exact ⟨by rw [HN.out]; rfl, 0, rfl⟩
def RC.same (a b : RC) : Bool := (decide (a.seq = b.seq) && decide (a.real = b.real) && decide (a.mono = b.mono) && decide (a.boot = b.boot)) && decide (a.its = b.its)
theorem two_boxes (w : World) (t : TypeId) (cs ds : Array Value) : Below w.heap.size w ((w.alloc (.cells cs t)).alloc (.cells ds t)) /\ Blk ((w.alloc (.cells cs t)).alloc (.cells ds t)) w.heap.size t cs /\ Blk ((w.alloc (.cells cs t)).alloc (.cells ds t)) (w.heap.size + 1) t ds := by
 have h := Blk.new (w.alloc (.cells cs t)) t ds
 simp only [World.size_alloc] at h
 exact ⟨(boxed w _).alloc (boxed w _).size _, (Blk.new w t cs).alloc _, h⟩
set_option maxHeartbeats 2000000 in
theorem resame_any (a b : RC) (B1 B2 : Nat) (w : World) (h1 : Txt w B1 a.A a.n a.c a.its) (h2 : Txt w B2 b.A b.n b.c b.its) (hB1 : B1 <= w.heap.size) (hB2 : B2 <= w.heap.size) :
 Calls Tryz.prog 55 #[a.v, b.v] w fun e w' => e = .returned (.bool (a.same b)) /\ Below w.heap.size w w' := by
 obtain ⟨v0, v1, v2, v3, A, n, c, xs⟩ := a
 obtain ⟨u0, u1, u2, u3, A', n', c', ys⟩ := b
 obtain ⟨hb0, hk0, hk1⟩ := two_boxes w 39 #[.int .u64 v0, .int .u64 v1, .int .u64 v2, .int .u64 v3, .slice A n c] #[.int .u64 u0, .int .u64 u1, .int .u64 u2, .int .u64 u3, .slice A' n' c']
 have TX := Lib.hid (rtexts_any A A' n n' c c' xs ys B1 B2 _ (h1.below (hb0.mono hB1)) (h2.below (hb0.mono hB2)))
 have HB := Lib.hid hb0
 obtain ⟨q, hq⟩ : ∃ q, RC.same ⟨v0, v1, v2, v3, A, n, c, xs⟩ ⟨u0, u1, u2, u3, A', n', c', ys⟩ = q := ⟨_, rfl⟩
 have hq2 : ((decide (v0 = u0) && decide (v1 = u1) && decide (v2 = u2) && decide (v3 = u3)) && decide (xs = ys)) = q := hq
 unfold RC.v
 rw [hq]
 obtain ⟨z, hz⟩ : ∃ z, decide (xs = ys) = z := ⟨_, rfl⟩
 rw [hz] at TX hq2
 have x0 := hk0.cell 0
 have x1 := hk0.cell 1
 have x2 := hk0.cell 2
 have x3 := hk0.cell 3
 have x4 := hk0.cell 4
 have y0 := hk1.cell 0
 have y1 := hk1.cell 1
 have y2 := hk1.cell 2
 have y3 := hk1.cell 3
 have y4 := hk1.cell 4
 clear h1 h2 hb0 hk0 hk1 hz hq
 by_cases e0 : v0 = u0
 · by_cases e1 : v1 = u1
   · by_cases e2 : v2 = u2
     · by_cases e3 : v3 = u3
       · subst e0; subst e1; subst e2; subst e3
         have HQ : Hid (q = z) := Lib.hid (by rw [<- hq2]; simp)
         clear hq2
         go_enter Tryz.func55, Tryz.ntmps55
         go_wp2_with (go_at_call 106; refine TX.out.mono ?_; rintro e w1 ⟨rfl, nn, rfl⟩)
         go_ret
         exact ⟨by rw [HQ.out]; rfl, below_drewn HB.out nn⟩
       · subst e0; subst e1; subst e2
         have d : (v3 == u3) = false := by rw [beq_eq_false_iff_ne]; exact e3
         have HQ : Hid (q = false) := Lib.hid (by rw [<- hq2]; simp [e3])
         clear hq2 e3
         go_enter Tryz.func55, Tryz.ntmps55
         go_wp2
         go_ret
         exact ⟨by rw [HQ.out]; rfl, HB.out⟩
     · subst e0; subst e1
       have d : (v2 == u2) = false := by rw [beq_eq_false_iff_ne]; exact e2
       have HQ : Hid (q = false) := Lib.hid (by rw [<- hq2]; simp [e2])
       clear hq2 e2
       go_enter Tryz.func55, Tryz.ntmps55
       go_wp2
       go_ret
       exact ⟨by rw [HQ.out]; rfl, HB.out⟩
   · subst e0
     have d : (v1 == u1) = false := by rw [beq_eq_false_iff_ne]; exact e1
     have HQ : Hid (q = false) := Lib.hid (by rw [<- hq2]; simp [e1])
     clear hq2 e1
     go_enter Tryz.func55, Tryz.ntmps55
     go_wp2
     go_ret
     exact ⟨by rw [HQ.out]; rfl, HB.out⟩
 · have d : (v0 == u0) = false := by rw [beq_eq_false_iff_ne]; exact e0
   have HQ : Hid (q = false) := Lib.hid (by rw [<- hq2]; simp [e0])
   clear hq2 e0
   go_enter Tryz.func55, Tryz.ntmps55
   go_wp2
   go_ret
   exact ⟨by rw [HQ.out]; rfl, HB.out⟩
def entO (k : Int) (r : RC) (a : Nat) (ps : List Int) : GO := ⟨0, a, 3, [r.seq, r.real, r.mono, r.boot, xorL k r.its], [], ps⟩
def apE (O : List GO) : Nat := if O.length <= 3 then 56 else 8216
def rfE (O : List GO) : Nat := if O.length = 0 then 0 else if O.length <= 3 then 56 else 8216
def budE (R : List DR) (O : List GO) (zs : List (List Int)) : Nat := 1200 * newsD R zs + (56 + 8 * zs.length) + rfE O * zs.length + apE O
theorem apE_le (O : List GO) : apE O <= 8216 := by unfold apE; split <;> omega
theorem rfE_le (O : List GO) : rfE O = 8216 ∨ (rfE O = 56 /\ O.length <= 3) ∨ (rfE O = 0 /\ O.length = 0) := by
 unfold rfE
 split
 · exact .inr (.inr ⟨rfl, by assumption⟩)
 · split
   · exact .inr (.inl ⟨rfl, by assumption⟩)
   · exact .inl rfl
theorem budE_le (R : List DR) (O : List GO) {zs : List (List Int)} (h : zs.length <= 64) : budE R O zs <= 700000 := by
 have := newsD_le R zs
 have := apE_le O
 have h2 : rfE O * zs.length <= 8216 * zs.length := Nat.mul_le_mul_right _ (by rcases rfE_le O with e | ⟨e, -⟩ | ⟨e, -⟩ <;> omega)
 unfold budE; omega
section
variable {hI hM k d f : Int} {w w' wr : World} {base : Nat} {S T : Nat -> Prop} {p lim : Nat} {was bs : List Int} {R : List DR} {O : List GO} {Lr : List Int} {tl cnt : Nat}
theorem words3 (w : World) : Calls Tryz.prog 90 #[.int .i64 3] w fun e w' => e = .returned (.int .i64 5) /\ w = w' := owords_any 3 w
theorem make5 (W : World) : (Instr.makeSlice 114 (.int .i64 5) (.int .i64 5)).run Tryz.prog W = .ok (.slice (some ⟨W.heap.size, 0, none⟩) 5 5) (W.alloc (.cells #[.int .u64 0, .int .u64 0, .int .u64 0, .int .u64 0, .int .u64 0] 27)) := by
 obtain ⟨i0, hi, hz0, hz1, hz2⟩ := info_parts tabWordInfo
 have h := run_make (P := Tryz.prog) W 114 27 i0 (.int .u64 0) Tryz.underlying114 hi hz0 .i64 .i64 5 5 (by omega) (Int.le_refl _) (by rw [hz2]; decide) (by omega)
 rw [hz1] at h
 have e : madeCells (Value.int IntKind.u64 0).cells (Int.toNat 5 * 1) = #[.int .u64 0, .int .u64 0, .int .u64 0, .int .u64 0, .int .u64 0] := by
   apply Array.toList_inj.1
   show (madeCells #[Value.int IntKind.u64 0] 5).toList = _
   rw [toList_madeCells_one]; rfl
 rw [e] at h
 exact h
theorem Blk.nums5 {w : World} {g : Nat} {Zc : Array Value} {zs : List Int} (h : Blk w g 27 Zc) (hl : Zc.toList = cellsOf .u64 zs) : Reads w w.heap.size 1 (some ⟨g, 0, none⟩) zs.length (cellsOf .u64 zs) := by
 refine ⟨by rw [cellsOf_length]; omega, fun _ => ⟨_, rfl, h.lt, fun j u hj => ?_⟩⟩
 have e : (⟨g, 0, none⟩ : Addr).add j = ⟨g, j, none⟩ := by unfold Addr.add; split <;> simp_all
 rw [e, h.cell]
 rw [<- hl] at hj
 simpa using hj
theorem put_ready {E : List (List (List Int))} {w1 wx : World} {g n gw : Nat} {v0 v1 v2 v3 x : Int} {O' : List GO} {R0 : List DR} {ps : List Int} {zs : List (List Int)} {b1 : Nat} (h : EX hI hM k d f w1 base T p lim was R O Lr tl cnt) (hIA : InsAt R0 R zs ps O' Lr E) (hn : zs.length = n) (h1 : 0 < n) (h2 : n <= 64) (hb : Below w1.heap.size w1 wx)
 (hk : Blk wx gw 27 #[.int .u64 v0, .int .u64 v1, .int .u64 v2, .int .u64 v3, .int .u64 x]) (hr : w1.ownsRow b1 27 1 (.slice (some ⟨g, 0, none⟩) n n) n (cellsOf .u64 ps)) (hu : ∀ z ∈ [v0, v1, v2, v3, x], 0 <= z /\ z < 18446744073709551616) :
 Calls Tryz.prog 92 #[.pointer (some ⟨p, 0, none⟩), obV 3 (some ⟨gw, 0, none⟩) 5 5 none 0 0 (some ⟨g, 0, none⟩) n n] wx fun e w' =>
 (∃ a : Nat, e = .returned (.tuple #[.int .i64 (a : Nat), .int .i64 0]) /\ (256 <= a /\ was.length <= a) /\ a <= 1099511627776 /\ Chg T wx w' /\ EX hI hM k d f w' base (grow T wx w') p lim was R (O ++ [⟨0, a, 3, [v0, v1, v2, v3, x], [], ps⟩]) Lr (tl + (56 + 8 * n)) cnt) ∨
 (lim < tl + (56 + 8 * n) /\ e = .returned (.tuple #[.int .i64 0, .int .i64 21]) /\ Below wx.heap.size wx w') :=
 put_ex2 (L := wx.heap.size) (some ⟨gw, 0, none⟩) 5 5 [v0, v1, v2, v3, x] none 0 0 (some ⟨g, 0, none⟩) n n ps
   ⟨hk.nums5 rfl, Reads.none_, Reads.of_own (own_below hr hb), ⟨by omega, by omega⟩, ⟨by omega, by omega⟩, ⟨Nat.le_refl _, by omega⟩⟩ (Nat.le_refl _) (by simp [rightN, hasI, kwN, mostN]; omega) hu
   (fun z hz => by
     obtain ⟨i, hi⟩ := List.getElem?_of_mem hz
     have hil : i < zs.length := by rw [<- hIA.len]; exact (List.getElem?_eq_some_iff.1 hi).1
     obtain ⟨a, ha, hpa⟩ := hIA.known i zs[i] (List.getElem?_eq_getElem hil)
     rw [hi] at hpa
     injection hpa with hpa
     have := (h.at_le ha).1
     omega) (fun z hz => by
     obtain ⟨i, hi⟩ := List.getElem?_of_mem hz
     have hil : i < zs.length := by rw [<- hIA.len]; exact (List.getElem?_eq_some_iff.1 hi).1
     obtain ⟨a, ha, hpa⟩ := hIA.known i zs[i] (List.getElem?_eq_getElem hil)
     rw [hi] at hpa
     injection hpa with hpa
     exact ⟨_, a, ha, hpa⟩) (h.below hb)
theorem listed_e {O0 : List GO} (x : Int) (hx : IsU x) (hx0 : ¬ x = 0) (h : EX hI hM k d f w base S p lim was R O Lr tl cnt) (hc : cnt <= 100000) (hln : Lr.length <= 1000000000) (hl : Lr.length = O0.length) (hxo : ∃ o ∈ O, x = (o.at_ : Int) /\ was.length <= o.at_) :
 Calls Tryz.prog 94 #[.pointer (some ⟨p, 0, none⟩), .int .i64 192, .int .u64 x] w fun e w' =>
 (e = .returned (.int .i64 0) /\ Chg S w w' /\ EX hI hM k d f w' base (grow S w w') p lim was R O (Lr ++ [x]) (tl + apE O0) (cnt + 1)) ∨ (lim < tl + apE O0 /\ e = .returned (.int .i64 21) /\ Below w.heap.size w w') := by
 unfold apE
 split
 · exact listed_nil x hx hx0 h hc (by omega) hxo
 · exact listed_ex x hx hx0 h hc hln hxo
set_option maxHeartbeats 4000000 in
theorem eput_any {E : List (List (List Int))} {B : Nat} (r : RC) (hr : RCOk w B r) (hB : B <= w.heap.size) (hA : ∀ ad, r.A = some ad -> ¬ S ad.block) (hZ : Good64 r.its) (h : EX hI hM k d f w base S p lim was R O Lr tl cnt) (hE : EL R O Lr E) (hO : O.length <= 1000) (hc : cnt <= 5000) (htb : tl <= 1000000000) :
 Calls Tryz.prog 47 #[.pointer (some ⟨p, 0, none⟩), r.v] w fun e w' =>
 (∃ (a : Nat) (R' : List DR) (ps : List Int), e = .returned (.tuple #[.int .i64 a, .bool true]) /\ 256 <= a /\ a <= 1099511627776 /\ Chg S w w' /\ EX hI hM k d f w' base (grow S w w') p lim was R' (O ++ [entO k r a ps]) (Lr ++ [(a : Int)]) (tl + budE R O (r.its.map nums)) (cnt + 4 * r.n + 1) /\ EL R' (O ++ [entO k r a ps]) (Lr ++ [(a : Int)]) (E ++ [r.its.map nums]) /\ ∀ y, y ∉ r.its.map nums -> findD R' y = findD R y) ∨
 (lim < tl + budE R O (r.its.map nums) /\ (∃ v, e = .returned (.tuple #[v, .bool false])) /\ Chg S w w' /\ HX hI hM k d f w' base (grow S w w') p lim was) := by
 obtain ⟨hr0, hr1, hr2, hr3, hT⟩ := hr
 have hl := hT.len
 have hbas := h.bas
 have hft := Lib.hid h.foot
 have HTT := Lib.hid (fun wx (hx : Chg S w wx) => hT.chg hx hB hA)
 have HU := Lib.hid (And.intro hr0 (And.intro hr1 (And.intro hr2 hr3)))
 have hn0 : 0 < r.n := by rw [<- hl]; exact hZ.pos
 have hn64 : r.n <= 64 := by rw [<- hl]; exact hZ.most
 obtain ⟨v0, hv0⟩ : ∃ v0, r.seq = v0 := ⟨_, rfl⟩
 obtain ⟨v1, hv1⟩ : ∃ v1, r.real = v1 := ⟨_, rfl⟩
 obtain ⟨v2, hv2⟩ : ∃ v2, r.mono = v2 := ⟨_, rfl⟩
 obtain ⟨v3, hv3⟩ : ∃ v3, r.boot = v3 := ⟨_, rfl⟩
 have hrv : r.v = .agg #[.int .u64 v0, .int .u64 v1, .int .u64 v2, .int .u64 v3, .slice r.A r.n r.c] := by rw [<- hv0, <- hv1, <- hv2, <- hv3]; rfl
 rw [hrv]
 have HV := Lib.hid (And.intro hv0 (And.intro hv1 (And.intro hv2 hv3)))
 have IT := Lib.hid (fun w0 (hb0 : Below w.heap.size w w0) => eintern_any (B := B) r.A r.n r.c r.its (h.below hb0) hE (hT.below (hb0.mono hB)) (Nat.le_trans hB hb0.size) hA hZ (by omega) (by omega))
 have HH := Lib.hid (And.intro h (And.intro hE (And.intro hO hZ)))
 have HL := Lib.hid hl
 obtain ⟨A, hAe⟩ : ∃ A, r.A = A := ⟨_, rfl⟩
 obtain ⟨n, hne⟩ : ∃ n, r.n = n := ⟨_, rfl⟩
 obtain ⟨c, hce⟩ : ∃ c, r.c = c := ⟨_, rfl⟩
 rw [hAe, hne, hce] at IT HTT ⊢
 rw [hne] at hn0 hn64 HL
 have HQ := Lib.hid (And.intro hAe (And.intro hne hce))
 clear hT hA hr0 hr1 hr2 hr3 hv0 hv1 hv2 hv3 hrv hl h hE hO hZ hAe hne hce
 go_enter Tryz.func47, Tryz.ntmps47
 have hsb : (w.alloc (.cells #[.int .u64 v0, .int .u64 v1, .int .u64 v2, .int .u64 v3, .slice A n c] 39)).heap.size = w.heap.size + 1 := World.size_alloc _ _
 have HB0 : Hid (∀ w1, Chg S (w.alloc (.cells #[.int .u64 v0, .int .u64 v1, .int .u64 v2, .int .u64 v3, .slice A n c] 39)) w1 -> Chg S w w1 /\ w.heap.size < w1.heap.size /\ Blk w1 w.heap.size 39 #[.int .u64 v0, .int .u64 v1, .int .u64 v2, .int .u64 v3, .slice A n c]) := Lib.hid (fun w1 hc1 => by
   have hs1 := hc1.size
   rw [hsb] at hs1
   exact ⟨(Chg.of_below (boxed w _) (Nat.le_refl _) S).trans hc1 (fun _ _ e => e), by omega, (Blk.new w _ _).chg hc1 (fun e => by have := (hft.out _ e).2; omega)⟩)
 go_wp2_with (first
   | (go_at_call 89; refine (IT.out _ (boxed _ _)).mono ?_; rintro e w1 (⟨R', ps, g, rfl, hg, hc1, hx1, hi1, hrow⟩ | ⟨hlm, ⟨v, rfl⟩, hc1, hh1⟩))
   | (go_at_call 90; refine (words3 _).mono ?_; rintro e w2 ⟨rfl, rfl⟩; have hmk := make5))
 rotate_left
 · go_ret2
   have hh := HB0.out _ hc1
   refine .inr ⟨by unfold budE; omega, ⟨_, rfl⟩, hh.1, hh1.mono (fun q hq => ?_) (chg_lt hft.out hh.1 hbas)⟩
   rcases hq with hq | hq
   · exact .inl hq
   · right; omega
 · obtain ⟨hcw, hs1, hbx⟩ := HB0.out _ hc1
   have hgl := (hrow.lt g rfl).2
   have HG := Lib.hid (And.intro hg (And.intro hgl (And.intro hsb hcw)))
   have HX1 := Lib.hid hx1
   have HI1 := Lib.hid hi1
   have HR1 := Lib.hid hrow
   have hbw : Blk (w1.alloc (.cells #[.int .u64 0, .int .u64 0, .int .u64 0, .int .u64 0, .int .u64 0] 27)) w1.heap.size 27 #[.int .u64 0, .int .u64 0, .int .u64 0, .int .u64 0, .int .u64 0] := Blk.new _ _ _
   have hb2 : Below w1.heap.size w1 (w1.alloc (.cells #[.int .u64 0, .int .u64 0, .int .u64 0, .int .u64 0, .int .u64 0] 27)) := boxed _ _
   have hbx2 := hbx.below hb2 (by omega)
   clear hc1 hx1 hi1 hrow hg hgl hsb hcw hbx HB0 IT hmk
   obtain ⟨gw, hgw⟩ : ∃ gw, w1.heap.size = gw := ⟨_, rfl⟩
   rw [hgw] at hs1 hbw hb2 ⊢
   have HGW := Lib.hid hgw
   clear hgw
   generalize w1.alloc (.cells #[.int .u64 0, .int .u64 0, .int .u64 0, .int .u64 0, .int .u64 0] 27) = w2 at *
   have c0 := hbx2.cell 0
   have c1 := hbx2.cell 1
   have c2 := hbx2.cell 2
   have c3 := hbx2.cell 3
   have z0 := hbw.cell 0
   have z1 := hbw.cell 1
   have z2 := hbw.cell 2
   have z3 := hbw.cell 3
   have y0 := hbw.frozen 0
   have y1 := hbw.frozen 1
   have y2 := hbw.frozen 2
   have y3 := hbw.frozen 3
   have hne : ¬ w.heap.size = gw := by omega
   have hne2 : ¬ gw = w.heap.size := by omega
   go_region
   have hk3 : Blk _ gw 27 #[.int .u64 v0, .int .u64 v1, .int .u64 v2, .int .u64 v3, .int .u64 0] := ((((hbw.set_ 0 (.int .u64 v0)).set_ 1 (.int .u64 v1)).set_ 2 (.int .u64 v2)).set_ 3 (.int .u64 v3)).drew
   have hq3 := ((((hbx2.far (p := ⟨gw, 0, none⟩) hne (.int .u64 v0)).far (p := ⟨gw, 1, none⟩) hne (.int .u64 v1)).far (p := ⟨gw, 2, none⟩) hne (.int .u64 v2)).far (p := ⟨gw, 3, none⟩) hne (.int .u64 v3)).drew
   have hb3 := below_drewn ((((hb2.setCell (p := ⟨gw, 0, none⟩) (Nat.le_refl _) (.int .u64 v0)).setCell (p := ⟨gw, 1, none⟩) (Nat.le_refl _) (.int .u64 v1)).setCell (p := ⟨gw, 2, none⟩) (Nat.le_refl _) (.int .u64 v2)).setCell (p := ⟨gw, 3, none⟩) (Nat.le_refl _) (.int .u64 v3)) 1
   clear c0 c1 c2 c3 z0 z1 z2 z3 y0 y1 y2 y3 hne hne2 hbw hbx2 hb2
   have hw3 : ((((w2.setCell ⟨gw, 0, none⟩ (.int .u64 v0)).setCell ⟨gw, 1, none⟩ (.int .u64 v1)).setCell ⟨gw, 2, none⟩ (.int .u64 v2)).setCell ⟨gw, 3, none⟩ (.int .u64 v3)).drewN 1 = ((((w2.setCell ⟨gw, 0, none⟩ (.int .u64 v0)).setCell ⟨gw, 1, none⟩ (.int .u64 v1)).setCell ⟨gw, 2, none⟩ (.int .u64 v2)).setCell ⟨gw, 3, none⟩ (.int .u64 v3)).drew := rfl
   rw [hw3] at hb3
   clear hw3
   generalize ((((w2.setCell ⟨gw, 0, none⟩ (.int .u64 v0)).setCell ⟨gw, 1, none⟩ (.int .u64 v1)).setCell ⟨gw, 2, none⟩ (.int .u64 v2)).setCell ⟨gw, 3, none⟩ (.int .u64 v3)).drew = w3 at *
   have c4 := hq3.cell 4
   have HK3 := Lib.hid (And.intro hk3 (And.intro hb3 (show gw <= w3.heap.size from by have := hb3.size; have := HGW.out; omega)))
   have XO := Lib.hid (exor_any A n c r.its B (HX1.out.below (by rw [HGW.out]; exact hb3)) (HTT.out w3 (HG.out.2.2.2.trans (Chg.of_below (by rw [HGW.out]; exact hb3) (Nat.le_refl _) (fun _ => False)) (fun _ _ e => e.elim))) (Nat.le_trans hB (Nat.le_trans (Nat.le_of_lt (by have := HGW.out; omega)) hb3.size)) (fun s hs => by have := (HH.out.2.2.2.ok s hs).2; omega))
   obtain ⟨xo, hxo⟩ : ∃ xo, xorL k r.its = xo := ⟨_, rfl⟩
   rw [hxo] at XO
   have HXO := Lib.hid hxo
   have PUT := Lib.hid (fun wx (hb : Below gw w1 wx) hk => put_ready (wx := wx) (g := g) (n := n) (gw := gw) (v0 := v0) (v1 := v1) (v2 := v2) (v3 := v3) (x := xo) HX1.out HI1.out (by rw [List.length_map]; exact HL.out) hn0 hn64 (by rw [HGW.out]; exact hb) hk HR1.out (fun z hz => by
     obtain ⟨q0, q1, q2, q3⟩ := HU.out
     obtain ⟨e0, e1, e2, e3⟩ := HV.out
     have hx := xorL_isU k r.its
     rw [HXO.out] at hx
     rw [e0] at q0; rw [e1] at q1; rw [e2] at q2; rw [e3] at q3
     simp at hz
     rcases hz with rfl | rfl | rfl | rfl | rfl
     · exact q0
     · exact q1
     · exact q2
     · exact q3
     · exact hx))
   clear hk3 hb3 hq3 hxo hs1
   go_wp2_with (first
     | (go_at_call 91; go_loud (refine XO.out.mono ?_; rintro e w4 ⟨rfl, hb4⟩; have hk4 := HK3.out.1.below hb4 HK3.out.1.lt; have z4 := hk4.cell 4; have y4 := hk4.frozen 4; have HK5 : Hid (Blk (w4.setCell ⟨gw, 4, none⟩ (.int .u64 xo)) gw 27 #[.int .u64 v0, .int .u64 v1, .int .u64 v2, .int .u64 v3, .int .u64 xo]) := Lib.hid (hk4.set_ 4 (.int .u64 xo)); have HB5 : Hid (Below gw w1 (w4.setCell ⟨gw, 4, none⟩ (.int .u64 xo))) := Lib.hid ((HK3.out.2.1.trans (hb4.mono HK3.out.2.2)).setCell (p := ⟨gw, 4, none⟩) (Nat.le_refl _) _); clear hk4 hb4))
     | (go_at_call 92; refine (PUT.out _ HB5.out HK5.out).mono ?_; rintro e w6 (⟨a, rfl, ha1, ha2, hc6, hx6⟩ | ⟨hlm, rfl, hb6⟩)))
   all_goals
     have HBW : ∀ wx, Below gw w1 wx -> Below w1.heap.size w1 wx := fun wx h => by rw [HGW.out]; exact h
     have hF1 : Fp S w (fun q => grow S (w.alloc (.cells #[.int .u64 v0, .int .u64 v1, .int .u64 v2, .int .u64 v3, .slice A n c] 39)) w1 q /\ q ≠ g) w1 := ⟨HG.out.2.2.2, fun q hq => by
       rcases hq.1 with e | e
       · exact .inl e
       · right; have := HG.out.2.2.1; omega⟩
     have hF5 := hF1.below (HBW _ HB5.out)
   rotate_left
   · go_ret2
     have hh := (HX1.out.below (HBW _ HB5.out)).half.below hb6
     obtain ⟨h1, h2⟩ := hh.fin (hF5.below hb6) hft.out hbas
     exact .inr ⟨by unfold budE; rw [List.length_map, HL.out]; omega, ⟨_, rfl⟩, h1, h2⟩
   · obtain ⟨W5, hW5⟩ : ∃ W5, w4.setCell ⟨gw, 4, none⟩ (.int .u64 xo) = W5 := ⟨_, rfl⟩
     rw [hW5] at hc6 hx6 HB5 hF5
     have hF6 := hF5.next hc6
     have hgT : ¬ (grow S (w.alloc (.cells #[.int .u64 v0, .int .u64 v1, .int .u64 v2, .int .u64 v3, .slice A n c] 39)) w1 g /\ g ≠ g) := fun e => e.2 rfl
     have hr5 := own_below HR1.out (HBW _ HB5.out)
     have hob : ∀ q, (Value.slice (some (⟨g, 0, none⟩ : Addr)) n n).ownBlock = some q -> q = g := fun q hq => by
       have : g = q := by simpa [Value.ownBlock] using hq
       exact this.symm
     have hr6 := own_chg hr5 hc6 (fun q hq e => by rw [hob q hq] at e; exact e.2 rfl)
     have hg5 : g < W5.heap.size := (hr5.lt g rfl).2
     have HPR := Lib.hid (fun (wr : World) (hx : Chg (grow (fun q => grow S (w.alloc (.cells #[.int .u64 v0, .int .u64 v1, .int .u64 v2, .int .u64 v3, .slice A n c] 39)) w1 q /\ q ≠ g) W5 w6) w6 wr) (j b : Nat) (hj : ps[j]? = some (b : Int)) => (show wr.cell? ⟨g, j, none⟩ = some (.int .u64 b) from by
       have hr := own_chg hr6 hx (fun q hq e => by
         rw [hob q hq] at e
         rcases e with e | e
         · exact e.2 rfl
         · omega)
       obtain ⟨h1, h2⟩ := List.getElem?_eq_some_iff.1 hj
       have hpl : ps.length = n := by rw [HI1.out.len, List.length_map]; exact HL.out
       have q1 := hr.cellAt j (by omega)
       rw [cellsOf_get h1] at q1
       rw [q1, List.getD_eq_getElem?_getD, hj]; rfl))
     have HR0 : Hid (RefAtE hI hM k d f w w6 base S p lim was R' (O ++ [⟨0, a, 3, [v0, v1, v2, v3, xo], [], ps⟩]) Lr (tl + 1200 * newsD R (r.its.map nums) + (56 + 8 * n)) (cnt + 3 * n) (r.its.map nums) (a : Int) _ w6 (rfE O) 0) := Lib.hid ⟨_, hx6, hF6, Fp.refl _ _⟩
     have hxa : ¬ ((a : Nat) : Int) = 0 := by omega
     have hxu : IsU ((a : Nat) : Int) := ⟨by omega, by omega⟩
     have hwa : IntKind.u64.wrap (a : Int) = (a : Int) := wrap_u64_of (by omega) (by omega)
     have HU2 := Lib.hid (And.intro hxa hxu)
     have HXA : Hid (∃ o ∈ O ++ [(⟨0, a, 3, [v0, v1, v2, v3, xo], [], ps⟩ : GO)], ((a : Nat) : Int) = (o.at_ : Int) /\ was.length <= o.at_) := Lib.hid ⟨⟨0, a, 3, [v0, v1, v2, v3, xo], [], ps⟩, List.mem_append_right _ (List.mem_singleton.2 rfl), rfl, ha1.2⟩
     have ha1 := ha1.1
     clear hF1 hF5 hF6 hgT hr5 hob hr6 hg5 hx6 hc6 hW5 hxa hxu PUT XO HK3 HK5 HB5
     go_loopw [58] (fun i wr => ∃ j : Nat, i = .int .i64 j /\ j <= n /\ Hid (RefAtE hI hM k d f w wr base S p lim was R' (O ++ [⟨0, a, 3, [v0, v1, v2, v3, xo], [], ps⟩]) Lr (tl + 1200 * newsD R (r.its.map nums) + (56 + 8 * n)) (cnt + 3 * n) (r.its.map nums) (a : Int) (grow (fun q => grow S (w.alloc (.cells #[.int .u64 v0, .int .u64 v1, .int .u64 v2, .int .u64 v3, .slice A n c] 39)) w1 q /\ q ≠ g) W5 w6) w6 (rfE O) j)) (fun i _ => n - (intOf i).toNat)
     case atStart => exact ⟨0, rfl, Nat.zero_le _, HR0⟩
     case round =>
       clear HR0
       obtain ⟨j, rfl, hj, HRJ⟩ := hrel
       by_cases hlt : j < n
       · obtain ⟨z, hz⟩ : ∃ z, (r.its.map nums)[j]? = some z := ⟨_, List.getElem?_eq_getElem (by rw [List.length_map, HL.out]; exact hlt)⟩
         obtain ⟨b, hpb, hble, hRF⟩ := RefAtE.next HRJ.out HI1.out (by have := HH.out.2.2.1; omega) (rfE_le O) HH.out.2.2.2.nums hz HU2.out.2 HU2.out.1 HXA.out (by omega) hft.out hbas
         have c0 := HPR.out wr (by obtain ⟨T, -, -, h2⟩ := HRJ.out; exact h2.chg) j b hpb
         have hwb : IntKind.i64.wrap (b : Int) = (b : Int) := wrap_i64_of (by omega) (by omega)
         have RF := Lib.hid hRF
         clear hz hpb hRF
         go_wp2_with (go_at_call 93; refine RF.out.mono ?_; rintro e w7 (⟨rfl, h7⟩ | ⟨hlm, rfl, hc7, hh7⟩))
         · go_roundw
           case rel => exact ⟨j + 1, by go_num, by omega, Lib.hid h7⟩
           case measure => simp [intOf]; omega
         · go_ret2
           exact .inr ⟨by unfold budE; rw [List.length_map, HL.out]; have := Nat.mul_le_mul_left (rfE O) (show j + 1 <= n from hlt); omega, ⟨_, rfl⟩, hc7, hh7⟩
       · obtain rfl : j = n := by omega
         obtain ⟨T, hex, hF, hF2⟩ := HRJ.out
         have htk : (r.its.map nums).take j = r.its.map nums := List.take_of_length_le (by rw [List.length_map, HL.out]; exact Nat.le_refl _)
         rw [htk] at hex
         have hlr : Lr.length <= 1000 := by rw [HH.out.2.1.lr, List.length_map]; exact HH.out.2.2.1
         have AP := Lib.hid (listed_e (O0 := O) (a : Int) HU2.out.2 HU2.out.1 hex (by omega) (by omega) (by rw [HH.out.2.1.lr, List.length_map]) HXA.out)
         have HFF := Lib.hid (And.intro hex hF)
         clear hex hF hF2 htk
         go_wp2_with (go_at_call 94; refine AP.out.mono ?_; rintro e w8 (⟨rfl, hc8, hx8⟩ | ⟨hlm, rfl, hb8⟩))
         · go_ret2
           obtain ⟨h1, h2⟩ := hx8.fin (HFF.out.2.next hc8) hft.out hbas
           obtain ⟨e0, e1, e2, e3⟩ := HV.out
           have hent : (⟨0, a, 3, [v0, v1, v2, v3, xo], [], ps⟩ : GO) = entO k r a ps := by unfold entO; rw [e0, e1, e2, e3, HXO.out]
           rw [hent] at h2
           have hE2 := HI1.out.el.add HH.out.2.2.2.nums HI1.out.mem (o := entO k r a ps) HI1.out.eq
           left
           refine ⟨a, _, ps, rfl, ha1, ha2, h1, ?_, hE2, fun y hy => (findD_pushAll _ _ _ _).trans (HI1.out.same y hy)⟩
           refine h2.more ?_ ?_ ?_
           · unfold budE; rw [List.length_map, HL.out]; omega
           · omega
           · omega
         · go_ret2
           obtain ⟨h1, h2⟩ := (HFF.out.1.half.below hb8).fin (HFF.out.2.below hb8) hft.out hbas
           exact .inr ⟨by unfold budE; rw [List.length_map, HL.out]; omega, ⟨_, rfl⟩, h1, h2⟩
end
open Go.RowKit Go.Sort Go.Shelf
def TellsO (A0 : Option Addr) (xs : List ByteArray) (w : World) (e : Ending) (w' : World) : Prop := ∃ A c, e = .returned (.slice A xs.length c) /\ Txt w' w'.heap.size A xs.length c xs /\ Below w.heap.size w w' /\ ∀ ad, A = some ad -> w.heap.size <= ad.block ∨ A0 = some ad
theorem own_fresh {w : World} {base : Nat} {e : TypeId} {size n c : Nat} {A : Option Addr} {xs : List Value} (h : w.ownsRow base e size (.slice A n c) n xs) : ∀ ad, A = some ad -> base <= ad.block := fun ad ha => by
 subst ha
 obtain ⟨b, o, s⟩ := ad
 exact (h.lt b rfl).1
theorem OwnT.tellsO {w wr : World} {v : Value} {xs : List ByteArray} (A0 : Option Addr) (h : OwnT w wr v xs) (hs : ∀ s ∈ xs, s.size <= maxLen) : TellsO A0 xs w (.returned v) wr := by
 obtain ⟨A, c, rfl, h1, h2⟩ := own_form h.own
 exact ⟨A, c, rfl, Txt.of_own h.own h1 h2 hs, h.below, fun ad ha => .inl (own_fresh h.own ad ha)⟩
theorem put_endO {w w' : World} {zs : List ByteArray} {s : ByteArray} {v : Value} (h : OwnT w w' v (putL cfT zs s)) (hz : ∀ x ∈ zs, x.size <= maxLen) (hs : s.size <= maxLen) (A0 : Option Addr) : TellsO A0 (putL cfT zs s) w (.returned v) w' :=
 h.tellsO A0 fun x hx => by
   rcases (putL_mem zs s x).1 hx with e | e
   · exact hz x e
   · subst e; exact hs
set_option maxHeartbeats 1000000 in
theorem put_own (A : Option Addr) (n c : Nat) (zs : List ByteArray) (s : ByteArray) (B : Nat) (w : World) (h : Txt w B A n c zs) (hB : B <= w.heap.size) (hs : s.size <= maxLen) (hn : n <= 1000) :
 Calls Tryz.prog 85 #[.slice A n c, .string s] w (TellsO A (putL cfT zs s) w) := by
 obtain ⟨i0, hi, hz0, hz1, hz2⟩ := info_parts strInfo
 have hl := h.len
 have hle := h.le
 have hcap := h.cap
 go_enter Tryz.func85, Tryz.ntmps85
 go_wp2
 go_loopw [5, 6, 7] (fun v d i wr => ∃ (k : Nat) (q : Bool), k <= n /\ Hid (s ∉ zs.take k) /\ d = .bool q /\ Hid (q = (putAt zs s k).2) /\ OwnT w wr v (putAt zs s k).1 /\ i = .int .i64 k) (fun _ _ i _ => n - (intOf i).toNat)
 case atStart => exact ⟨0, false, Nat.zero_le _, Lib.hid (by simp), rfl, Lib.hid rfl, OwnT.nil_ w, rfl⟩
 case round =>
   obtain ⟨k, q, hk, hin, rfl, hq, H, rfl⟩ := hrel
   have hpl := putAt_len zs s k
   have HO := Lib.hid H
   have HH := Lib.hid h
   have HL := Lib.hid hl
   obtain ⟨A1, c1, rfl, hc1, hc2⟩ := own_form H.own
   have hxl : (putAt zs s k).1.length <= 1001 := by omega
   have HX := Lib.hid (show (putAt zs s k).1 = (putAt zs s k).1 from rfl)
   by_cases hlt : k < n
   · obtain ⟨b, off, rfl, hb0, hcell⟩ := h.at_ (by omega)
     have hb : b < w.heap.size := by omega
     have c0 := hcell k hlt
     have cr : _ = some _ := (H.below.cell (p := ⟨b, off + k, none⟩) hb).trans c0
     have hgo := fun hh => putAt_go (zs := zs) (s := s) (k := k) (by omega) hh
     have hlay := fun h1 h2 => putAt_lay (zs := zs) (s := s) (k := k) (by omega) h1 h2
     have hmem : nthT zs k ∈ zs := nthT_mem (by omega)
     have hstep : nthT zs k ≠ s -> s ∉ zs.take (k + 1) := fun hne => by
       rw [take_nthT (by omega), List.mem_append, List.mem_singleton]
       rintro (e | e)
       · exact hin.out e
       · exact hne e.symm
     by_cases hx : nthT zs k = s
     · have d1 : ((nthT zs k).toList == s.toList) = true := by rw [beq_text]; exact decide_eq_true hx
       have hp : putL cfT zs s = zs := by unfold putL; rw [if_pos (hx ▸ hmem)]
       have HE : Hid (TellsO (some ⟨b, off, none⟩) (putL cfT zs s) w (.returned (.slice (some ⟨b, off, none⟩) n c)) wr) := by
         rw [hp]
         exact Lib.hid ⟨_, c, by rw [hl], by rw [hl]; exact (h.more hB).below H.below |>.more H.below.size, H.below, fun ad h => .inr h⟩
       generalize nthT zs k = x at *
       clear hcell hgo hlay hmem hstep hp hx H h hl c0
       go_wp2
       go_ret
       exact HE.out
     · have d1 : ((nthT zs k).toList == s.toList) = false := by rw [beq_text]; exact decide_eq_false hx
       have HS := Lib.hid (hstep hx)
       by_cases hg : cfT s (nthT zs k) < 0
       · have d2 : Op.bytesLess (nthT zs k).toList s.toList = false := by
           rw [less_cfT]; exact decide_eq_false (cfT_tot.asym hg)
         cases q with
         | true =>
           have HP := Lib.hid (hgo (fun _ => hq.out.symm))
           generalize (putAt zs s k).1 = xs at *
           generalize nthT zs k = x at *
           have s2 := sm1 hxl
           have s3 := sm2 hxl
           clear hcell hgo hlay hmem hstep hx hg H h hl c0
           go_wp2_with ((at_builtin; refine wpList_append_any _ rfl (.tmp 35) (.tmp 40) 37 rfl w.heap.size 9 i0 (.string ⟨#[]⟩) 1 16 Tryz.underlying37 hi hz0 hz1 hz2 rfl (Nat.lt_succ_self 0) (.slice A1 xs.length c1) xs.length (cellsT xs) rfl (HO.out.own.alloc _) _ _ 1 1 [.string x] rfl (newT wr _ x) (strOne x) s2 s3 (allocLe HO.out _) ?_; intro v1 w1 hown1 hg1 hat1; have H1 := Lib.hid (HO.out.push hown1 hg1); clear hown1 hg1 hat1))
           go_roundw
           case rel => exact ⟨k + 1, true, by omega, HS, rfl, Lib.hid (by rw [HP.out]; exact hq.out), by rw [HP.out]; exact H1.out, by go_num⟩
           case measure => simp [intOf]; omega
         | false =>
           have HP := Lib.hid (hlay hg hq.out.symm)
           generalize (putAt zs s k).1 = xs at *
           generalize nthT zs k = x at *
           have s2 := sm1 hxl
           have s3 := sm2 hxl
           have s5 := sm3 hxl
           have s6 := sm4 hxl
           clear hcell hgo hlay hmem hstep hx hg H h hl
           have m1 : True := trivial
           go_wp2_with (first | (at_builtin; clear m1; refine wpList_append_any _ rfl (.tmp 31) (.tmp 33) 37 rfl w.heap.size 9 i0 (.string ⟨#[]⟩) 1 16 Tryz.underlying37 hi hz0 hz1 hz2 rfl (Nat.lt_succ_self 0) (.slice A1 xs.length c1) xs.length (cellsT xs) rfl (HO.out.own.alloc _) _ _ 1 1 [.string s] rfl (newT wr _ s) (strOne s) s2 s3 (allocLe HO.out _) ?_; intro v1 w1 hown1 hg1 hat1; have H1 := Lib.hid (HO.out.push hown1 hg1); obtain ⟨A2, c2, rfl, hc21, hc22⟩ := own_form hown1; have HW1 := Lib.hid hown1; have cr1 : w1.cell? ⟨b, off + k, none⟩ = some (.string x) := (H1.out.below.cell (p := ⟨b, off + k, none⟩) hb).trans c0; clear hown1 hg1 hat1) | (at_builtin; refine wpList_append_any _ rfl (.tmp 35) (.tmp 40) 37 rfl w.heap.size 9 i0 (.string ⟨#[]⟩) 1 16 Tryz.underlying37 hi hz0 hz1 hz2 rfl (Nat.lt_succ_self 0) (.slice A2 (xs.length + 1) c2) (xs.length + 1) (cellsT xs ++ [.string s]) rfl (HW1.out.alloc _) _ _ 1 1 [.string x] rfl (newT w1 _ x) (strOne x) s5 s6 (allocLe H1.out _) ?_; intro v2 w2 hown2 hg2 hat2; have H2 := Lib.hid (H1.out.push (s := x) (by rw [List.length_append, cellsT_append]; exact hown2) hg2); clear hown2 hg2 hat2))
           go_roundw
           case rel => exact ⟨k + 1, true, by omega, HS, rfl, Lib.hid (by rw [HP.out]), by rw [HP.out]; exact H2.out, by go_num⟩
           case measure => simp [intOf]; omega
       · have d2 : Op.bytesLess (nthT zs k).toList s.toList = true := by
           rw [less_cfT]
           refine decide_eq_true ?_
           rcases cfT_tot.tri s (nthT zs k) with e | e | e
           · exact absurd e hg
           · exact absurd e.symm hx
           · exact e
         have HP := Lib.hid (hgo (fun hh => absurd hh hg))
         generalize (putAt zs s k).1 = xs at *
         generalize nthT zs k = x at *
         have s2 := sm1 hxl
         have s3 := sm2 hxl
         clear hcell hgo hlay hmem hstep hx hg H h hl c0
         go_wp2_with ((at_builtin; refine wpList_append_any _ rfl (.tmp 35) (.tmp 40) 37 rfl w.heap.size 9 i0 (.string ⟨#[]⟩) 1 16 Tryz.underlying37 hi hz0 hz1 hz2 rfl (Nat.lt_succ_self 0) (.slice A1 xs.length c1) xs.length (cellsT xs) rfl (HO.out.own.alloc _) _ _ 1 1 [.string x] rfl (newT wr _ x) (strOne x) s2 s3 (allocLe HO.out _) ?_; intro v1 w1 hown1 hg1 hat1; have H1 := Lib.hid (HO.out.push hown1 hg1); clear hown1 hg1 hat1))
         go_roundw
         case rel => exact ⟨k + 1, q, by omega, HS, rfl, Lib.hid (by rw [HP.out]; exact hq.out), by rw [HP.out]; exact H1.out, by go_num⟩
         case measure => simp [intOf]; omega
   · obtain rfl : k = n := by omega
     have htk : zs.take k = zs := List.take_of_length_le (by omega)
     have hns := hin.out
     rw [htk] at hns
     have hpe : putL cfT zs s = putEnd cfT s zs := by unfold putL; rw [if_neg hns]
     have hpa : putAt zs s k = putRun cfT s zs := by unfold putAt; rw [htk]
     cases q with
     | true =>
       have hp : putL cfT zs s = (putAt zs s k).1 := by
         rw [hpe]; unfold putEnd
         rw [<- hpa, <- hq.out]; exact if_pos rfl
       have HE := Lib.hid (put_endO (w := w) (by rw [hp]; exact H) h.sz hs A)
       generalize (putAt zs s k).1 = xs at *
       clear hp hpe hns htk H h hl
       go_wp2
       go_ret
       exact HE.out
     | false =>
       have hp : putL cfT zs s = (putAt zs s k).1 ++ [s] := by
         rw [hpe]; unfold putEnd
         rw [<- hpa, <- hq.out]; exact if_neg (by decide)
       have HP := Lib.hid hp
       have HZ := Lib.hid h.sz
       have s2 := sm1 hxl
       have s3 := sm2 hxl
       clear hpa
       generalize (putAt zs s k).1 = xs at *
       clear hp hpe hns htk H h hl
       go_wp2_with ((at_builtin; refine wpList_append_any _ rfl (.tmp 44) (.tmp 46) 37 rfl w.heap.size 9 i0 (.string ⟨#[]⟩) 1 16 Tryz.underlying37 hi hz0 hz1 hz2 rfl (Nat.lt_succ_self 0) (.slice A1 xs.length c1) xs.length (cellsT xs) rfl (HO.out.own.alloc _) _ _ 1 1 [.string s] rfl (newT wr _ s) (strOne s) s2 s3 (allocLe HO.out _) ?_; intro v1 w1 hown1 hg1 hat1; have H1 := Lib.hid (HO.out.push hown1 hg1); obtain ⟨A2, c2, rfl, hc21, hc22⟩ := own_form hown1; clear hown1 hg1 hat1))
       go_ret
       exact put_endO (by rw [HP.out]; exact H1.out) HZ.out hs A
theorem once_endO {cf : ByteArray -> ByteArray -> Int} (hT : TotC cf) {w w' : World} {A : Option Addr} {c : Nat} {zs : List ByteArray} (hs : ∀ s ∈ zs, s.size <= maxLen)
 (ho : w'.ownsRow w.heap.size 9 1 (.slice A (compB (msort cf zs)).length c) (compB (msort cf zs)).length (cellsT (compB (msort cf zs)))) (hb : Below w.heap.size w w') :
 TellsO none (onceL cf zs) w (.returned (.slice A (compB (msort cf zs)).length c)) w' := by
 have e := once_bytes hT zs
 generalize compB (msort cf zs) = q at *
 subst e
 exact OwnT.tellsO none ⟨ho, hb⟩ fun s h => hs s (((onceL_spec hT zs).2 s).1 h)
theorem once_own (g : Nat) (cf : ByteArray -> ByteArray -> Int) (hC : CmpFn g cf) (A : Option Addr) (n c : Nat) (zs : List ByteArray) (B : Nat) (w : World) (h : Txt w B A n c zs) (hn : n <= 1000) :
 Calls Tryz.prog 87 #[.slice A n c, .func (.func g) #[] #[]] w (TellsO none (onceL cf zs) w) := by
 have H := Lib.hid h
 have HC := Lib.hid hC
 have HN := Lib.hid hn
 clear h hC hn
 go_enter Tryz.func87, Tryz.ntmps87
 go_wp2_with (first
   | (go_at_call 134; refine (iclone_any A n c zs B w H.out HN.out).mono ?_; rintro e w1 ⟨v, rfl, ho1, hb1⟩; obtain ⟨A1, c1, rfl, hc1, hc2⟩ := own_form ho1; have HO1 := Lib.hid ho1; clear ho1 hc1 hc2)
   | (go_at_call 135; refine (sort_any g cf HC.out A1 n c1 zs w.heap.size w1 HO1.out hb1.size H.out.sz HN.out).mono ?_; rintro e w2 ⟨rfl, ho2, hb2⟩; have HO2 := Lib.hid ho2; have hb3 := hb1.trans hb2; clear ho2)
   | (go_at_call 136; refine (compact_any A1 n c1 (msort cf zs) w.heap.size w2 HO2.out hb3.size HN.out).mono ?_; rintro e w3 ⟨rfl, ho3, hb4⟩; have HO3 := Lib.hid ho3; have hb5 := hb3.trans hb4; clear ho3))
 go_ret
 exact once_endO HC.out.tot H.out.sz HO3.out hb5
def ChkO (zs : List ByteArray) (w : World) (e : Ending) (w' : World) : Prop :=
 ∃ A c, e = .returned (.tuple #[.slice A (chkL zs).length c, .int .i64 (chkE zs)]) /\ Txt w' w'.heap.size A (chkL zs).length c (chkL zs) /\ Below w.heap.size w w' /\ ∀ ad, A = some ad -> w.heap.size <= ad.block
theorem chk_errO {zs : List ByteArray} {w w' : World} {E : Int} (he : chkE zs = E) (h0 : E ≠ 0) (hb : Below w.heap.size w w') : ChkO zs w (.returned (.tuple #[.slice none 0 0, .int .i64 E])) w' := by
 have hl : chkL zs = [] := by unfold chkL; rw [he, if_neg h0]
 unfold ChkO
 rw [hl, he]
 exact ⟨none, 0, rfl, Txt.nil_ _ _, hb, fun ad h => by cases h⟩
theorem chk_okO {zs : List ByteArray} {w w' : World} {A : Option Addr} {c : Nat} (he : chkE zs = 0) (ht : Txt w' w'.heap.size A (onceL cfT zs).length c (onceL cfT zs)) (hb : Below w.heap.size w w') (hf : ∀ ad, A = some ad -> w.heap.size <= ad.block) : ChkO zs w (.returned (.tuple #[.slice A (onceL cfT zs).length c, .int .i64 0])) w' := by
 have hl : chkL zs = onceL cfT zs := by unfold chkL; rw [if_pos he]
 unfold ChkO
 rw [hl, he]
 exact ⟨A, c, rfl, ht, hb, hf⟩
set_option maxHeartbeats 1000000 in
theorem check_own (A : Option Addr) (n c : Nat) (zs : List ByteArray) (B : Nat) (w : World) (h : Txt w B A n c zs) (hn : n <= 9223372036854775807) :
 Calls Tryz.prog 46 #[.slice A n c] w (ChkO zs w) := by
 have hl := h.len
 have hle := h.le
 have hcap := h.cap
 by_cases h0 : n = 0
 · have HE := Lib.hid (chk_none (zs := zs) (by omega))
   subst h0
   go_enter Tryz.func46, Tryz.ntmps46
   go_wp2
   go_ret2
   exact chk_errO HE.out (by omega) (Below.refl _ _)
 by_cases h64 : 64 < n
 · have HE := Lib.hid (chk_many (zs := zs) (by omega))
   have d1 : ((n : Int) == 0) = false := by rw [beq_eq_false_iff_ne]; omega
   clear hl h
   go_enter Tryz.func46, Tryz.ntmps46
   go_wp2
   go_ret2
   exact chk_errO HE.out (by omega) (Below.refl _ _)
 have hp : 0 < n := by omega
 have hl64 : n <= 64 := by omega
 have d1 : ((n : Int) == 0) = false := by rw [beq_eq_false_iff_ne]; omega
 clear h0 h64
 go_enter Tryz.func46, Tryz.ntmps46
 go_wp2
 go_loopw [4, 18] (fun v i wr => ∃ k q : Nat, k <= n /\ Hid (∀ j, j < k -> okB (nthT zs j) = true) /\ v = .int .i64 (szB k zs : Nat) /\ i = .int .i64 k /\ wr = w.drewN q) (fun _ i _ => n - (intOf i).toNat)
 case atStart => exact ⟨0, 0, Nat.zero_le _, Lib.hid (fun j hj => absurd hj (by omega)), rfl, rfl, rfl⟩
 case round =>
   obtain ⟨k, q, hk, hall, rfl, rfl, rfl⟩ := hrel
   have hsz := szB_le hall.out
   have HH := Lib.hid h
   have HL := Lib.hid hl
   by_cases hlt : k < n
   · obtain ⟨b, off, rfl, hb, hcell⟩ := h.at_ hp
     have c0 := hcell k hlt
     have hz := h.size hlt
     have HZ := Lib.hid hz
     unfold maxLen at hz
     by_cases hbig : 1024 < (nthT zs k).size
     · have HE := Lib.hid (chk_big (zs := zs) (k := k) (by omega) (by omega) hall.out hbig)
       generalize nthT zs k = s at *
       clear hcell h hl
       go_wp2
       go_ret2
       exact chk_errO HE.out (by omega) (below_drewn (Below.refl _ _) q)
     · cases ho : spOk (nthT zs k) with
       | false =>
         have HE := Lib.hid (chk_name (zs := zs) (k := k) (by omega) (by omega) hall.out (by omega) ho)
         have HO := Lib.hid ho
         generalize nthT zs k = s at *
         clear hcell h hl ho
         go_wp2_with (go_at_call 86; refine (split_any s _ HZ.out).mono ?_; rw [HO.out]; rintro e w1 ⟨rfl, n1, rfl⟩)
         go_ret2
         exact chk_errO HE.out (by omega) (by first | exact below_drewn (below_drewn (Below.refl _ _) _) _ | exact below_drewn (Below.refl _ _) _)
       | true =>
         have hok : okB (nthT zs k) = true := by unfold okB; rw [ho, decide_eq_true (by omega)]; rfl
         have HK := Lib.hid hok
         have HO := Lib.hid ho
         have HS := Lib.hid (show szB (k + 1) zs = szB k zs + (nthT zs k).size from rfl)
         generalize hx : nthT zs k = s at *
         have HX := Lib.hid hx
         clear hcell h hl ho hok hx
         go_wp2_with (go_at_call 86; refine (split_any s _ HZ.out).mono ?_; rw [HO.out]; rintro e w1 ⟨rfl, n1, rfl⟩)
         go_roundw
         case rel => exact ⟨k + 1, _, by omega, Lib.hid (fun j hj => by
           rcases Nat.lt_or_ge j k with e | e
           · exact hall.out j e
           · obtain rfl : j = k := by omega
             rw [HX.out]; exact HK.out), by rw [HS.out]; go_num, by go_num, by first | rfl | exact World.drewN_drewN _ _ _⟩
         case measure => simp [intOf]; omega
   · obtain rfl : k = n := by omega
     have hall2 : ∀ j, j < zs.length -> okB (nthT zs j) = true := fun j hj => hall.out j (by omega)
     by_cases hbig : 8192 < szB k zs
     · have HE := Lib.hid (chk_total (zs := zs) (by omega) (by omega) hall2 (by rw [hl]; exact hbig))
       clear hl h hall2
       go_wp2
       go_ret2
       exact chk_errO HE.out (by omega) (below_drewn (Below.refl _ _) q)
     · have HE := Lib.hid (chk_good (zs := zs) (by omega) (by omega) hall2 (by rw [hl]; exact hbig))
       clear hl h hall2
       go_wp2_with (go_at_call 87; refine (once_own _ cfT cmpT A k c zs B _ (HH.out.drewN q) (by omega)).mono ?_; rintro e w1 ⟨A1, c1, rfl, hT, hb1, hfr⟩; have HT := Lib.hid (And.intro hT hfr); clear hT hfr)
       go_ret2
       exact chk_okO HE.out HT.out.1 (below_drewn0 hb1) (fun ad ha => (HT.out.2 ad ha).elim (fun h => by simpa using h) (fun h => by cases h))
set_option maxHeartbeats 1000000 in
theorem rcheck_own (A : Option Addr) (n c : Nat) (zs : List ByteArray) (w : World) (h : Txt w w.heap.size A n c zs) (hn : n <= 9223372036854775807) :
 Calls Tryz.prog 45 #[.slice A n c] w (ChkO zs w) := by
 have hl := h.len
 have hle := h.le
 have hcap := h.cap
 by_cases h0 : n = 0
 · have HE := Lib.hid (chk_none (zs := zs) (by omega))
   subst h0
   go_enter Tryz.func45, Tryz.ntmps45
   go_wp2
   go_ret2
   exact chk_errO HE.out (by omega) (Below.refl _ _)
 by_cases h64 : 64 < n
 · have HE := Lib.hid (chk_many (zs := zs) (by omega))
   have d1 : ((n : Int) == 0) = false := by rw [beq_eq_false_iff_ne]; omega
   clear hl h
   go_enter Tryz.func45, Tryz.ntmps45
   go_wp2
   go_ret2
   exact chk_errO HE.out (by omega) (Below.refl _ _)
 have hp : 0 < n := by omega
 have hl64 : n <= 64 := by omega
 have d1 : ((n : Int) == 0) = false := by rw [beq_eq_false_iff_ne]; omega
 clear h0 h64
 go_enter Tryz.func45, Tryz.ntmps45
 go_wp2
 go_loopw [4, 5, 6] (fun v o i wr => ∃ (k c1 : Nat) (A1 : Option Addr), k <= n /\ Hid (∀ j, j < k -> okB (nthT zs j) = true) /\ v = .int .i64 (szB k zs : Nat) /\ i = .int .i64 k /\ o = .slice A1 (putAll cfT (zs.take k)).length c1 /\ Hid (Txt wr wr.heap.size A1 (putAll cfT (zs.take k)).length c1 (putAll cfT (zs.take k)) /\ ∀ ad, A1 = some ad -> w.heap.size <= ad.block) /\ Below w.heap.size w wr) (fun _ _ i _ => n - (intOf i).toNat)
 case atStart => exact ⟨0, 0, none, Nat.zero_le _, Lib.hid (fun j hj => absurd hj (by omega)), rfl, rfl, rfl, Lib.hid ⟨Txt.nil_ _ _, fun ad h => by cases h⟩, Below.refl _ _⟩
 case round =>
   obtain ⟨k, c1, A1, hk, hall, rfl, rfl, rfl, HT, hbw⟩ := hrel
   have hsz := szB_le hall.out
   have HH := Lib.hid h
   have HL := Lib.hid hl
   by_cases hlt : k < n
   · obtain ⟨b, off, rfl, hb, hcell⟩ := h.at_ hp
     have c0 := hcell k hlt
     have cr := (hbw.cell (p := ⟨b, off + k, none⟩) hb).trans c0
     have hz := h.size hlt
     have HZ := Lib.hid hz
     unfold maxLen at hz
     by_cases hbig : 1024 < (nthT zs k).size
     · have HE := Lib.hid (chk_big (zs := zs) (k := k) (by omega) (by omega) hall.out hbig)
       generalize nthT zs k = s at *
       generalize putAll cfT (zs.take k) = xs at *
       clear hcell h hl c0
       go_wp2
       go_ret2
       exact chk_errO HE.out (by omega) hbw
     · cases ho : spOk (nthT zs k) with
       | false =>
         have HE := Lib.hid (chk_name (zs := zs) (k := k) (by omega) (by omega) hall.out (by omega) ho)
         have HO := Lib.hid ho
         generalize nthT zs k = s at *
         generalize putAll cfT (zs.take k) = xs at *
         clear hcell h hl ho c0
         go_wp2_with (go_at_call 84; refine (rsplit_any s _ HZ.out).mono ?_; rw [HO.out]; rintro e w1 ⟨rfl, n1, rfl⟩)
         go_ret2
         exact chk_errO HE.out (by omega) (below_drewn hbw _)
       | true =>
         have hok : okB (nthT zs k) = true := by unfold okB; rw [ho, decide_eq_true (by omega)]; rfl
         have HK := Lib.hid hok
         have HO := Lib.hid ho
         have HS := Lib.hid (show szB (k + 1) zs = szB k zs + (nthT zs k).size from rfl)
         have HP := Lib.hid (chk_run zs k (by omega))
         have HN := Lib.hid (show (putAll cfT (zs.take k)).length <= 1000 from Nat.le_trans (putAll_length _) (by rw [List.length_take]; omega))
         generalize hx : nthT zs k = s at *
         generalize putAll cfT (zs.take k) = xs at *
         have HX := Lib.hid hx
         clear hcell h hl ho hok hx c0
         go_wp2_with (first
           | (go_at_call 84; refine (rsplit_any s _ HZ.out).mono ?_; rw [HO.out]; rintro e w1 ⟨rfl, n1, rfl⟩; have HT1 := Lib.hid (HT.out.1.drewN n1); have hb1 := below_drewn hbw n1)
           | (go_at_call 85; refine (put_own A1 xs.length c1 xs s wr.heap.size (wr.drewN n1) HT1.out (Nat.le_refl _) HZ.out HN.out).mono ?_; rintro e w2 ⟨A2, c2, rfl, hT2, hb2, hf2⟩; have HT2 := Lib.hid (And.intro hT2 (show ∀ ad, A2 = some ad -> w.heap.size <= ad.block from fun ad ha => (hf2 ad ha).elim (fun h => Nat.le_trans hbw.size (by simpa using h)) (HT.out.2 ad))); have hb3 := hb1.trans (hb2.mono hbw.size); clear hT2 hf2))
         go_roundw
         case rel => exact ⟨k + 1, c2, A2, by omega, Lib.hid (fun j hj => by
           rcases Nat.lt_or_ge j k with e | e
           · exact hall.out j e
           · obtain rfl : j = k := by omega
             rw [HX.out]; exact HK.out), by rw [HS.out]; go_num, by go_num, by rw [<- HP.out], by rw [<- HP.out]; exact HT2, hb3⟩
         case measure => simp [intOf]; omega
   · obtain rfl : k = n := by omega
     have hall2 : ∀ j, j < zs.length -> okB (nthT zs j) = true := fun j hj => hall.out j (by omega)
     by_cases hbig : 8192 < szB k zs
     · have HE := Lib.hid (chk_total (zs := zs) (by omega) (by omega) hall2 (by rw [hl]; exact hbig))
       clear hl h hall2
       generalize putAll cfT (zs.take k) = xs at *
       go_wp2
       go_ret2
       exact chk_errO HE.out (by omega) hbw
     · have HE := Lib.hid (chk_good (zs := zs) (by omega) (by omega) hall2 (by rw [hl]; exact hbig))
       have hp2 : putAll cfT (zs.take k) = onceL cfT zs := by rw [List.take_of_length_le (by omega), once_put cfT_tot]
       rw [hp2] at HT ⊢
       clear hl h hall2 hp2
       generalize hxx : onceL cfT zs = xs at *
       have HX := Lib.hid hxx
       clear hxx
       go_wp2
       go_ret2
       have e := HX.out
       subst e
       exact chk_okO HE.out HT.out.1 hbw HT.out.2
theorem find_all {zs : List ByteArray} (h : firstBad zs = 0) : ∀ s ∈ zs, okB s = true := fun s hs => by
 unfold firstBad at h
 cases hc : zs.find? (fun s => !okB s) with
 | some a => rw [hc] at h; simp only at h; split at h <;> omega
 | none =>
   have := List.find?_eq_none.1 hc s hs
   simpa using this
theorem chk_zero {zs : List ByteArray} (h : chkE zs = 0) : 0 < zs.length /\ zs.length <= 64 /\ (∀ s ∈ zs, okB s = true) /\ chkL zs = onceL cfT zs := by
 have hl : chkL zs = onceL cfT zs := if_pos h
 unfold chkE at h
 by_cases h0 : zs.length = 0
 · rw [if_pos h0] at h; omega
 rw [if_neg h0] at h
 by_cases h1 : 64 < zs.length
 · rw [if_pos h1] at h; omega
 rw [if_neg h1] at h
 by_cases h2 : firstBad zs = 0
 · exact ⟨by omega, by omega, find_all h2, hl⟩
 · rw [if_pos h2] at h; exact absurd h h2
theorem okB_iff {s : ByteArray} (h : okB s = true) : spOk s = true /\ s.size <= 1024 := by
 unfold okB at h
 rw [Bool.and_eq_true, decide_eq_true_eq] at h
 exact ⟨h.2, h.1⟩
theorem good_of_chk {zs : List ByteArray} (h : chkE zs = 0) : Good64 (chkL zs) := by
 obtain ⟨h0, h1, h2, h3⟩ := chk_zero h
 obtain ⟨hr, hm⟩ := onceL_spec cfT_tot zs
 rw [h3]
 refine ⟨?_, ?_, fun s hs => okB_iff (h2 s ((hm s).1 hs)), ?_⟩
 · refine List.length_pos_of_mem ((hm zs[0]).2 (List.getElem_mem h0))
 · rw [once_put cfT_tot]
   exact Nat.le_trans (putAll_length _) h1
 · rw [List.nodup_iff_pairwise_ne]
   refine hr.imp fun {a b} hlt e => ?_
   subst e
   exact cfT_tot.irr _ hlt
def RC.chk (r : RC) : RC := { r with its := chkL r.its }
theorem txt_nobox {w : World} {B n c g : Nat} {A : Option Addr} {zs : List ByteArray} {v0 v1 v2 v3 : Int} {A1 : Option Addr} {n1 c1 : Nat} {t : TypeId} (h : Txt w B A n c zs) (hn : 0 < n) (hk : Blk w g t #[.int .u64 v0, .int .u64 v1, .int .u64 v2, .int .u64 v3, .slice A1 n1 c1]) : ∀ ad, A = some ad -> ad.block ≠ g := by
 obtain ⟨b, off, rfl, hb, hc⟩ := h.at_ hn
 intro ad ha
 injection ha with ha
 subst ha
 intro e
 have e2 : b = g := e
 subst e2
 have h0 := hc 0 hn
 rw [hk.cell] at h0
 match off, h0 with
 | 0, h0 => simp at h0
 | 1, h0 => simp at h0
 | 2, h0 => simp at h0
 | 3, h0 => simp at h0
 | 4, h0 => simp at h0
 | (q + 5), h0 => simp at h0
section
variable {hI hM k d f : Int} {w w' wr : World} {base : Nat} {S T : Nat -> Prop} {p lim : Nat} {was bs : List Int} {R : List DR} {O : List GO} {Lr : List Int} {tl cnt : Nat}
def AddTold (hI hM k d f : Int) (w : World) (base : Nat) (S : Nat -> Prop) (p lim : Nat) (bs : List Int) (R : List DR) (O : List GO) (Lr : List Int) (E : List (List (List Int))) (tl : Nat) (r : RC) (e : Ending) (w' : World) : Prop :=
 (¬ chkE r.its = 0 /\ e = .returned (.tuple #[.int .i64 0, .int .i64 (chkE r.its)]) /\ Below w.heap.size w w') ∨
 (chkE r.its = 0 /\ ∃ (a : Nat) (R' : List DR) (ps : List Int), e = .returned (.tuple #[.int .i64 a, .int .i64 0]) /\ 256 <= a /\ a <= 1099511627776 /\ Chg S w w' /\ EX hI hM k d f w' base (grow S w w') p lim bs R' (O ++ [entO k r.chk a ps]) (Lr ++ [(a : Int)]) (tl + budE R O ((chkL r.its).map nums)) 300 /\ EL R' (O ++ [entO k r.chk a ps]) (Lr ++ [(a : Int)]) (E ++ [(chkL r.its).map nums]) /\ ∀ y, y ∉ (chkL r.its).map nums -> findD R' y = findD R y) ∨
 (chkE r.its = 0 /\ lim < tl + budE R O ((chkL r.its).map nums) /\ e = .returned (.tuple #[.int .i64 0, .int .i64 21]) /\ Chg S w w' /\ ED hI hM k d f w' base (grow S w w') p lim bs R O Lr tl)
set_option maxHeartbeats 4000000 in
theorem eadd_any {E : List (List (List Int))} {B : Nat} (r : RC) (hr : RCOk w B r) (hB : B <= w.heap.size) (hn : r.n <= 9223372036854775807) (h : ED hI hM k d f w base S p lim bs R O Lr tl) (hE : EL R O Lr E) (hO : O.length <= 900) (htb : tl <= 900000000) :
 Calls Tryz.prog 13 #[.pointer (some ⟨p, 0, none⟩), r.v] w (AddTold hI hM k d f w base S p lim bs R O Lr E tl r) := by
 obtain ⟨hr0, hr1, hr2, hr3, hT⟩ := hr
 have hbas := h.bas
 have hft := Lib.hid h.foot
 obtain ⟨v0, hv0⟩ : ∃ v0, r.seq = v0 := ⟨_, rfl⟩
 obtain ⟨v1, hv1⟩ : ∃ v1, r.real = v1 := ⟨_, rfl⟩
 obtain ⟨v2, hv2⟩ : ∃ v2, r.mono = v2 := ⟨_, rfl⟩
 obtain ⟨v3, hv3⟩ : ∃ v3, r.boot = v3 := ⟨_, rfl⟩
 have hrv : r.v = .agg #[.int .u64 v0, .int .u64 v1, .int .u64 v2, .int .u64 v3, .slice r.A r.n r.c] := by rw [<- hv0, <- hv1, <- hv2, <- hv3]; rfl
 rw [hrv]
 have CH := Lib.hid (fun w0 (hb0 : Below w.heap.size w w0) => check_own r.A r.n r.c r.its B w0 (hT.below (hb0.mono hB)) hn)
 have hcE : (0 : Int) <= chkE r.its /\ chkE r.its <= 100 := by
   unfold chkE firstBad
   repeat' split
   all_goals omega
 have PU := Lib.hid (fun (w1 : World) (A1 : Option Addr) (c1 : Nat) (he : chkE r.its = 0) (hF : Below w.heap.size w w1) (hT1 : Txt w1 w1.heap.size A1 (chkL r.its).length c1 (chkL r.its)) (hfr : ∀ ad, A1 = some ad -> w.heap.size <= ad.block) =>
   eput_any (w := w1) (r := ⟨v0, v1, v2, v3, A1, (chkL r.its).length, c1, chkL r.its⟩) ⟨hv0 ▸ hr0, hv1 ▸ hr1, hv2 ▸ hr2, hv3 ▸ hr3, hT1⟩ (Nat.le_refl _) (fun ad ha e => by have := (hft.out _ e).2; have := hfr ad ha; omega) (good_of_chk he) (h.toEX.below hF) hE (by omega) (by omega) (by omega))
 have HH := Lib.hid h
 have HV := Lib.hid (And.intro hv0 (And.intro hv1 (And.intro hv2 hv3)))
 have HG := Lib.hid (fun he => good_of_chk (zs := r.its) he)
 obtain ⟨A, hAe⟩ : ∃ A, r.A = A := ⟨_, rfl⟩
 obtain ⟨n, hne⟩ : ∃ n, r.n = n := ⟨_, rfl⟩
 obtain ⟨c, hce⟩ : ∃ c, r.c = c := ⟨_, rfl⟩
 rw [hAe, hne, hce] at CH ⊢
 obtain ⟨ec, hec⟩ : ∃ ec, chkE r.its = ec := ⟨_, rfl⟩
 obtain ⟨L, hL⟩ : ∃ L, chkL r.its = L := ⟨_, rfl⟩
 unfold ChkO at CH
 rw [hec, hL] at CH
 rw [hec, hL] at PU
 rw [hec, hL] at HG
 rw [hec] at hcE
 have HEQ := Lib.hid (And.intro hec hL)
 clear hT hr0 hr1 hr2 hr3 hv0 hv1 hv2 hv3 hrv h hE hO hAe hne hce hec hL hn
 by_cases he : ec = 0
 · subst he
   have hG := HG.out rfl
   have hnL : 0 < L.length := hG.pos
   have BK := Lib.hid (fun (w3 : World) (S3 : Nat -> Prop) (hh : HX hI hM k d f w3 base S3 p lim bs) => back_ed hh HH.out.old HH.out.key_ HH.out.small.1 HH.out.small.2.2 HH.out.small.2.1)
   go_enter Tryz.func13, Tryz.ntmps13
   go_wp2_with (first
     | (go_at_call 46; (refine (CH.out _ (boxed _ _)).mono ?_; rintro e w1 ⟨A1, c1, rfl, ht1, hb1, hfr1⟩; have hsb : (w.alloc (.cells #[.int .u64 v0, .int .u64 v1, .int .u64 v2, .int .u64 v3, .slice A n c] 39)).heap.size = w.heap.size + 1 := World.size_alloc _ _; have hbk1 := (Blk.new w 39 #[.int .u64 v0, .int .u64 v1, .int .u64 v2, .int .u64 v3, .slice A n c]).below hb1 (by omega); have c4 := hbk1.cell 4; have f4 := hbk1.frozen 4; have hbk2 : Blk (w1.setCell ⟨w.heap.size, 4, none⟩ (.slice A1 L.length c1)) w.heap.size 39 #[.int .u64 v0, .int .u64 v1, .int .u64 v2, .int .u64 v3, .slice A1 L.length c1] := hbk1.set_ 4 _; have d0 := hbk2.cell 0; have d1 := hbk2.cell 1; have d2 := hbk2.cell 2; have d3 := hbk2.cell 3; have d4 := hbk2.cell 4; have HF2 : Hid (Below w.heap.size w (w1.setCell ⟨w.heap.size, 4, none⟩ (.slice A1 L.length c1))) := Lib.hid (((boxed w _).trans (hb1.mono (by omega))).setCell (p := ⟨w.heap.size, 4, none⟩) (Nat.le_refl _) _); have hnb := txt_nobox ht1 hnL hbk1; have HT2 : Hid (Txt (w1.setCell ⟨w.heap.size, 4, none⟩ (.slice A1 L.length c1)) (w1.setCell ⟨w.heap.size, 4, none⟩ (.slice A1 L.length c1)).heap.size A1 L.length c1 L) := Lib.hid ((ht1.chg (chg_set w1 ⟨w.heap.size, 4, none⟩ (.slice A1 L.length c1)) (Nat.le_refl _) hnb).more (by rw [size_set]; exact Nat.le_refl _)); have PUT := Lib.hid (PU.out _ A1 c1 rfl HF2.out HT2.out (fun ad ha => by have := hfr1 ad ha; omega)); clear hbk1 hbk2 ht1 hb1 hfr1 hnb))
     | (go_at_call 47; (refine PUT.out.mono ?_; rintro e w3 (⟨a, R', ps, rfl, ha1, ha2, hc3, hx3, hE3, hsm3⟩ | ⟨hlm, ⟨v, rfl⟩, hc3, hh3⟩)))
     | (go_at_call 48; (refine (BK.out _ _ hh3).mono ?_; rintro e w4 ⟨rfl, hc4, hd4⟩)))
   all_goals
     have hF3 := (show Fp S w S _ from ⟨Chg.of_below HF2.out (Nat.le_refl _) S, fun _ h => .inl h⟩).next hc3
   · go_ret2
     obtain ⟨e1, e2⟩ := HEQ.out
     obtain ⟨q0, q1, q2, q3⟩ := HV.out
     obtain ⟨h1, h2⟩ := hx3.fin hF3 hft.out hbas
     have hent : entO k ⟨v0, v1, v2, v3, A1, L.length, c1, L⟩ a ps = entO k r.chk a ps := by unfold entO RC.chk; simp only [q0, q1, q2, q3, e2]
     rw [hent] at h2 hE3
     have hml := hG.most
     refine .inr (.inl ⟨e1, a, R', ps, rfl, ha1, ha2, h1, ?_, ?_, ?_⟩)
     · rw [e2]
       exact h2.more (Nat.le_refl _) (by show 0 + 4 * L.length + 1 <= 300; omega) (by omega)
     · rw [e2]; exact hE3
     · rw [e2]; exact hsm3
   · go_ret2
     obtain ⟨e1, e2⟩ := HEQ.out
     obtain ⟨h1, h2⟩ := hd4.fin (hF3.next hc4) hft.out hbas
     exact .inr (.inr ⟨e1, by rw [e2]; exact hlm, rfl, h1, h2⟩)
 · have hcf : (ec == 0) = false := by simpa using he
   have HE := Lib.hid he
   clear he PU
   go_enter Tryz.func13, Tryz.ntmps13
   go_wp2_with (go_at_call 46; refine (CH.out _ (boxed _ _)).mono ?_; rintro e w1 ⟨A1, c1, rfl, -, hb1, -⟩)
   go_ret2
   left
   refine ⟨by rw [HEQ.out.1]; exact HE.out, by rw [HEQ.out.1]; rfl, (boxed w _).trans (hb1.mono (by simp))⟩
end
section
variable {hI hM k d f : Int} {w w' wr : World} {base : Nat} {S T : Nat -> Prop} {p lim : Nat} {was bs : List Int} {R : List DR} {O : List GO} {Lr : List Int} {tl cnt : Nat}
def fillR (n j : Nat) (zs : List ByteArray) : List ByteArray := zs.take j ++ List.replicate (n - j) ⟨#[]⟩
theorem fillR_length {n j : Nat} {zs : List ByteArray} (hl : zs.length = n) (hk : j <= n) : (fillR n j zs).length = n := by
 unfold fillR; rw [List.length_append, List.length_take, List.length_replicate]; omega
theorem fillR_set {n j : Nat} {zs : List ByteArray} (hl : zs.length = n) (hk : j < n) : (cellsT (fillR n j zs)).set j (.string (nthT zs j)) = cellsT (fillR n (j + 1) zs) := by
 unfold fillR
 have e : (zs.take j).length = j := by rw [List.length_take]; omega
 rw [cellsT_append, cellsT_append, List.set_append_right _ _ (by rw [cellsT_length, e]; exact Nat.le_refl _), cellsT_length, e, Nat.sub_self, show n - j = (n - (j + 1)) + 1 by omega, List.replicate_succ,
   take_nthT (by omega), cellsT_append, List.append_assoc]
 rfl
structure RdAtR (w w3 wr : World) (g n : Nat) (zs : List ByteArray) (j : Nat) : Prop where
 own : wr.ownsRow w.heap.size 9 1 (.slice (some ⟨g, 0, none⟩) n n) n (cellsT (fillR n j zs))
 chg : Chg (fun q => q = g) w3 wr
structure Rd3 (w w3 : World) (g6 n : Nat) (A1 : Option Addr) (c1 : Nat) (A2 : Option Addr) (n2 c2 : Nat) (A3 : Option Addr) (c3 : Nat) (ws its : List Int) : Prop where
 lt : w.heap.size < g6
 obj : Blk w3 g6 128 #[.int .i64 3, .slice A1 5 c1, .slice A2 n2 c2, .slice A3 n c3]
 res : Blk w3 w.heap.size 39 #[.int .u64 0, .int .u64 0, .int .u64 0, .int .u64 0, .slice none 0 0]
 wr : Reads w3 g6 1 A1 5 (cellsOf .u64 ws)
 ir : Reads w3 g6 1 A3 n (cellsOf .u64 its)
 below : Below w.heap.size w w3
 size : g6 + 1 < w3.heap.size
 row : w3.ownsRow w.heap.size 9 1 (.slice (some ⟨g6 + 1, 0, none⟩) n n) n (cellsT (List.replicate n ⟨#[]⟩))
theorem Rd3.mk' {w w1 w3 : World} {n : Nat} {A1 : Option Addr} {c1 : Nat} {A2 : Option Addr} {n2 c2 : Nat} {A3 : Option Addr} {c3 : Nat} {ws its : List Int} (hb1 : Below (w.alloc (.cells #[.int .u64 0, .int .u64 0, .int .u64 0, .int .u64 0, .slice none 0 0] 39)).heap.size (w.alloc (.cells #[.int .u64 0, .int .u64 0, .int .u64 0, .int .u64 0, .slice none 0 0] 39)) w1)
 (hrw : Reads w1 w1.heap.size 1 A1 5 (cellsOf .u64 ws)) (hri : Reads w1 w1.heap.size 1 A3 n (cellsOf .u64 its)) (hg : (w1.alloc (.cells #[.int .i64 3, .slice A1 5 c1, .slice A2 n2 c2, .slice A3 n c3] 128)).grownBy w3 none)
 (hown : w3.ownsRow w.heap.size 9 1 (.slice (some ⟨(w1.alloc (.cells #[.int .i64 3, .slice A1 5 c1, .slice A2 n2 c2, .slice A3 n c3] 128)).heap.size, 0, none⟩) n n) n (madeCells (Value.string ⟨#[]⟩).cells (n * 1)).toList) : Rd3 w w3 w1.heap.size n A1 c1 A2 n2 c2 A3 c3 ws its := by
 have hs0 : (w.alloc (.cells #[.int .u64 0, .int .u64 0, .int .u64 0, .int .u64 0, .slice none 0 0] 39)).heap.size = w.heap.size + 1 := World.size_alloc _ _
 have hs1 := hb1.size
 have hs2 : (w1.alloc (.cells #[.int .i64 3, .slice A1 5 c1, .slice A2 n2 c2, .slice A3 n c3] 128)).heap.size = w1.heap.size + 1 := World.size_alloc _ _
 have hb2 : Below w1.heap.size w1 (w1.alloc (.cells #[.int .i64 3, .slice A1 5 c1, .slice A2 n2 c2, .slice A3 n c3] 128)) := boxed _ _
 have hb3 := hb2.grown hg (by rw [hs2]; omega) (fun k hk => by cases hk)
 have hb0 := (boxed w (.cells #[.int .u64 0, .int .u64 0, .int .u64 0, .int .u64 0, .slice none 0 0] 39)).trans (hb1.mono (by omega))
 have e : (madeCells (Value.string ⟨#[]⟩).cells (n * 1)).toList = cellsT (List.replicate n ⟨#[]⟩) := by
   rw [Nat.mul_one]
   show (madeCells #[Value.string ⟨#[]⟩] n).toList = _
   rw [toList_madeCells_one]; simp [cellsT]
 rw [e, hs2] at hown
 exact ⟨by omega, (Blk.new w1 _ _).grown hg (by simp), (((Blk.new w _ _).below hb1 (by omega)).alloc _).grown hg (by simp), hrw.below hb3, hri.below hb3, hb0.trans (hb3.mono (by omega)), (hown.lt _ rfl).2, hown⟩
theorem Rd3.start {w w3 : World} {g6 n : Nat} {A1 : Option Addr} {c1 : Nat} {A2 : Option Addr} {n2 c2 : Nat} {A3 : Option Addr} {c3 : Nat} {ws its : List Int} {zs : List ByteArray} (h : Rd3 w w3 g6 n A1 c1 A2 n2 c2 A3 c3 ws its) : RdAtR w w3 w3 (g6 + 1) n zs 0 := by
 have e : fillR n 0 zs = List.replicate n ⟨#[]⟩ := by unfold fillR; simp
 exact ⟨by rw [e]; exact h.row, Chg.refl _ _⟩
theorem Rd3.far {w w3 wr : World} {g6 n j : Nat} {A1 : Option Addr} {c1 : Nat} {A2 : Option Addr} {n2 c2 : Nat} {A3 : Option Addr} {c3 : Nat} {ws its : List Int} {zs : List ByteArray} (h : Rd3 w w3 g6 n A1 c1 A2 n2 c2 A3 c3 ws its) (hj : RdAtR w w3 wr (g6 + 1) n zs j) {q : Nat} (hq : q <= g6) : ∀ o, wr.cell? ⟨q, o, none⟩ = w3.cell? ⟨q, o, none⟩ := fun o =>
 World.cell?_of_block (hj.chg.block q (by have := h.size; omega) (by omega))
theorem Rd3.bel {w w3 wr : World} {g6 n j : Nat} {A1 : Option Addr} {c1 : Nat} {A2 : Option Addr} {n2 c2 : Nat} {A3 : Option Addr} {c3 : Nat} {ws its : List Int} {zs : List ByteArray} (h : Rd3 w w3 g6 n A1 c1 A2 n2 c2 A3 c3 ws its) (hj : RdAtR w w3 wr (g6 + 1) n zs j) : Below w.heap.size w wr :=
 h.below.trans (hj.chg.below h.below.size (fun q _ e => by have := h.lt; omega))
theorem RdAtR.next {w w3 wr w5 : World} {g n j : Nat} {zs : List ByteArray} (hj : RdAtR w w3 wr g n zs j) (hl : zs.length = n) (hlt : j < n) (hb : Below wr.heap.size wr w5) (hg : w3.heap.size <= wr.heap.size) :
 (∃ s0, w5.cell? ⟨g, j, none⟩ = some (.string s0)) /\ w5.frozen? ⟨g, j, none⟩ = false /\ RdAtR w w3 (w5.setCell ⟨g, j, none⟩ (.string (nthT zs j))) g n zs (j + 1) := by
 have hr5 := own_below hj.own hb
 have q1 := hr5.cellAt j (by omega)
 rw [cellsT_get (by rw [fillR_length hl (by omega)]; exact hlt)] at q1
 refine ⟨⟨_, q1⟩, hr5.frozenAt j, ⟨?_, (hj.chg.trans (Chg.of_below hb (Nat.le_refl _) (fun _ => False)) (fun _ _ e => e.elim)).setCell (.inr rfl) _⟩⟩
 rw [<- fillR_set hl hlt]
 exact (hr5.stored j _).1
theorem put5r {w7 : World} {g : Nat} {T : TypeId} {a0 a1 a2 a3 a4 z0 z1 z2 z3 z4 : Value} (h : Blk w7 g T #[z0, z1, z2, z3, z4]) :
 Blk (((((w7.setCell ⟨g, 0, none⟩ a0).setCell ⟨g, 1, none⟩ a1).setCell ⟨g, 2, none⟩ a2).setCell ⟨g, 3, none⟩ a3).setCell ⟨g, 4, none⟩ a4) g T #[a0, a1, a2, a3, a4] /\
 Chg (fun q => q = g) w7 (((((w7.setCell ⟨g, 0, none⟩ a0).setCell ⟨g, 1, none⟩ a1).setCell ⟨g, 2, none⟩ a2).setCell ⟨g, 3, none⟩ a3).setCell ⟨g, 4, none⟩ a4) :=
 ⟨((((h.set_ 0 a0).set_ 1 a1).set_ 2 a2).set_ 3 a3).set_ 4 a4, (((((Chg.refl (fun q => q = g) w7).setCell (p := ⟨g, 0, none⟩) (.inr rfl) a0).setCell (p := ⟨g, 1, none⟩) (.inr rfl) a1).setCell (p := ⟨g, 2, none⟩) (.inr rfl) a2).setCell (p := ⟨g, 3, none⟩) (.inr rfl) a3).setCell (p := ⟨g, 4, none⟩) (.inr rfl) a4⟩
theorem EL.datum {E : List (List (List Int))} (h : EX hI hM k d f w base S p lim was R O Lr tl cnt) (hE : EL R O Lr E) {i : Nat} {o : GO} {zs : List ByteArray} (ho : O[i]? = some o) (hz : E[i]? = some (zs.map nums)) :
 o.its.length = zs.length /\ o.ws.length = 5 /\ o.at_ <= 1099511627776 /\ ∀ j, j < zs.length -> ∃ a : Nat, o.its.getD j 0 = (a : Int) /\ a <= 1099511627776 /\ ∀ wx, Below w.heap.size w wx ->
 Calls Tryz.prog 109 #[.pointer (some ⟨p, 0, none⟩), .int .u64 a, .int .i64 1] wx fun e w' => ∃ A1 n1 c1 A2 n2 c2 A3 n3 c3, e = .returned (.tuple #[.agg #[.int .i64 1, .slice A1 n1 c1, .slice A2 n2 c2, .slice A3 n3 c3], .bool true]) /\ Below wx.heap.size wx w' /\ Reads w' w'.heap.size 1 A2 n2 (cellsOf .u8 (nums (nthT zs j))) := by
 have hm := h.entry_mem (List.mem_of_getElem? ho)
 have hits : o.its = (zs.map nums).map fun z => (((findD R z).getD 0 : Nat) : Int) := by
   have e1 := congrArg (fun l => l[i]?) hE.its
   simp only [List.getElem?_map, ho, hz, Option.map_some] at e1
   injection e1
 refine ⟨by rw [hits, List.length_map, List.length_map], hm.2.2.2.2.1, hm.2.1, fun j hj => ?_⟩
 have hmem : nums (nthT zs j) ∈ zs.map nums := List.mem_map.2 ⟨_, nthT_mem hj, rfl⟩
 have hk := hE.known _ (List.mem_of_getElem? hz) _ hmem
 obtain ⟨a, ha⟩ := Option.isSome_iff_exists.1 hk
 obtain ⟨jr, r, hr, hri, hra⟩ := findD_at ha
 refine ⟨a, ?_, (h.at_le ha).1, fun wx hb => ?_⟩
 · rw [hits, List.getD_eq_getElem?_getD, List.getElem?_map, List.getElem?_map, List.getElem?_eq_getElem hj, <- nthT_get hj]
   show (((findD R (nums (nthT zs j))).getD 0 : Nat) : Int) = a
   rw [ha]; rfl
 · have h9 := (h.below hb).datum_at hr
   rw [hra, hri] at h9
   exact h9
set_option maxHeartbeats 4000000 in
theorem eread_yes {E : List (List (List Int))} {i : Nat} {o : GO} {zs : List ByteArray} (h : EX hI hM k d f w base S p lim was R O Lr tl cnt) (hE : EL R O Lr E) (ho : O[i]? = some o) (hz : E[i]? = some (zs.map nums)) (hsz : ∀ s ∈ zs, s.size <= maxLen) :
 Calls Tryz.prog 57 #[.pointer (some ⟨p, 0, none⟩), .int .u64 (o.at_ : Nat)] w fun e w' => ∃ A, e = .returned (.tuple #[.agg #[.int .u64 (o.ws.getD 0 0), .int .u64 (o.ws.getD 1 0), .int .u64 (o.ws.getD 2 0), .int .u64 (o.ws.getD 3 0), .slice A zs.length zs.length], .bool true]) /\ Txt w' w'.heap.size A zs.length zs.length zs /\ Below w.heap.size w w' /\ ∀ ad, A = some ad -> w.heap.size <= ad.block := by
 obtain ⟨i0, hi, hz0, hz1, hz2⟩ := info_parts strInfo
 obtain ⟨hil, hwl, hat, hdat⟩ := EL.datum h hE ho hz
 have hem := h.entry_mem (List.mem_of_getElem? ho)
 have ENT := Lib.hid (fun wx (hb : Below w.heap.size w wx) => (h.below hb).entry_at (List.mem_of_getElem? ho))
 have HD := Lib.hid hdat
 obtain ⟨n, hn⟩ : ∃ n, zs.length = n := ⟨_, rfl⟩
 have hn2 : n <= 1024 := by rw [<- hn, <- hil]; exact hem.2.2.2.1
 have hb2 : i0.bytes * n <= 281474976710656 := by rw [hz2]; omega
 have hm3 : n <= maxLen := by unfold maxLen; omega
 obtain ⟨at_, hate⟩ : ∃ a, o.at_ = a := ⟨_, rfl⟩
 rw [hate] at ENT ⊢
 have HI := Lib.hid (And.intro hil (And.intro hwl (And.intro hn hsz)))
 rw [hn] at HD ⊢
 clear h hE ho hz hsz hil hwl hat hdat hem hn hate
 go_enter Tryz.func57, Tryz.ntmps57
 go_wp2_with (first
   | (go_at_call 109; go_loud (refine (ENT.out _ (boxed _ _)).mono ?_; rintro e w1 ⟨A1, n1, c1, A2, n2, c2, A3, n3, c3, rfl, hb1, hrw, hri⟩; obtain rfl : n1 = 5 := (by have := hrw.len; have := HI.out.2.1; omega); obtain rfl : n = n3 := (by have := hri.len; have := HI.out.1; have := HI.out.2.2.1; omega); have HRW := Lib.hid (And.intro hrw hri); have HB1 := Lib.hid hb1; clear hrw hri hb1))
   | (at_make; refine wpList_make_full _ rfl _ _ 37 rfl w.heap.size 9 i0 (.string ⟨#[]⟩) 1 Tryz.underlying37 hi hz0 hz1 _ _ _ _ n rfl rfl rfl rfl hb2 hm3 (by have := HB1.out.size; simp at this ⊢; omega) ?_; intro w3 hown1 hg1; have HK3 := Rd3.mk' HB1.out HRW.out.1 HRW.out.2 hg1 hown1; have c3o := HK3.obj.cell 3; have HKH := Lib.hid HK3; clear HK3 hown1 hg1))
 obtain ⟨g6, hg6⟩ : ∃ g, w1.heap.size = g := ⟨_, rfl⟩
 rw [hg6] at HKH ⊢
 have HS0 : Hid (RdAtR w w3 w3 (g6 + 1) n zs 0) := Lib.hid HKH.out.start
 clear hg6 c3o HB1 HRW
 go_loopw [29] (fun i wr => ∃ j : Nat, i = .int .i64 j /\ j <= n /\ Hid (RdAtR w w3 wr (g6 + 1) n zs j)) (fun i _ => n - (intOf i).toNat)
 case atStart => exact ⟨0, rfl, Nat.zero_le _, HS0⟩
 case round =>
   clear HS0
   obtain ⟨j, rfl, hj, HJ⟩ := hrel
   by_cases hlt : j < n
   · obtain ⟨a, hia, hale, hcall⟩ := HD.out j hlt
     obtain ⟨b, off, rfl, hbB, hcl⟩ := HKH.out.ir.plain (by omega)
     have c0 := (HKH.out.far HJ.out (q := b) (by omega) (off + j)).trans (hcl j hlt)
     rw [hia] at c0
     have CA := Lib.hid (hcall wr (HKH.out.bel HJ.out))
     have HZ := Lib.hid (nthT_get (zs := zs) (i := j) (by rw [HI.out.2.2.1]; exact hlt))
     have NX := Lib.hid (fun w5 (hb : Below wr.heap.size wr w5) => RdAtR.next (w5 := w5) HJ.out HI.out.2.2.1 hlt hb HJ.out.chg.size)
     obtain ⟨s, hs⟩ : ∃ s, nthT zs j = s := ⟨_, rfl⟩
     rw [hs] at CA NX
     clear hia hcall hcl hs HZ
     go_wp2_with (go_at_call 109; go_loud (refine CA.out.mono ?_; rintro e w4 ⟨B1, m1, d1, B2, m2, d2, B3, m3, d3, rfl, hb4, hrr⟩; have hb5 : Below wr.heap.size wr (w4.alloc (.cells #[.int .i64 1, .slice B1 m1 d1, .slice B2 m2 d2, .slice B3 m3 d3] 128)) := hb4.alloc hb4.size _; obtain ⟨⟨s0, q1⟩, q2, hn5⟩ := NX.out _ hb5; have hct := run_text (P := Tryz.prog) 24 5 9 Tryz.underlying24 Tryz.underlying5 Tryz.underlying9 (hrr.alloc (Nat.le_refl _) (.cells #[.int .i64 1, .slice B1 m1 d1, .slice B2 m2 d2, .slice B3 m3 d3] 128)) d2; rw [str_nums] at hct; have HN5 := Lib.hid hn5; clear hb4 hrr hb5 hn5))
     go_roundw
     case rel => exact ⟨j + 1, by go_num, by omega, HN5⟩
     case measure => simp [intOf]; omega
   · obtain rfl : j = n := by omega
     obtain ⟨bw, ow, hA1, hbw, hcw⟩ := HKH.out.wr.plain (by omega)
     have x0 := (HKH.out.far HJ.out (q := bw) (by omega) (ow + 0)).trans (hcw 0 (by omega))
     have x1 := (HKH.out.far HJ.out (q := bw) (by omega) (ow + 1)).trans (hcw 1 (by omega))
     have x2 := (HKH.out.far HJ.out (q := bw) (by omega) (ow + 2)).trans (hcw 2 (by omega))
     have x3 := (HKH.out.far HJ.out (q := bw) (by omega) (ow + 3)).trans (hcw 3 (by omega))
     have y1 : wr.cell? ⟨g6, 1, none⟩ = some (.slice A1 5 c1) := (HKH.out.far HJ.out (q := g6) (Nat.le_refl _) 1).trans (HKH.out.obj.cell 1)
     have hres := HKH.out.res.chg HJ.out.chg (fun e => by have := HKH.out.lt; omega)
     have z0 := hres.cell 0
     have z1 := hres.cell 1
     have z2 := hres.cell 2
     have z3 := hres.cell 3
     have z4 := hres.cell 4
     have f0 := hres.frozen 0
     have f1 := hres.frozen 1
     have f2 := hres.frozen 2
     have f3 := hres.frozen 3
     have f4 := hres.frozen 4
     have HRES := Lib.hid hres
     subst hA1
     obtain ⟨v0, hv0⟩ : ∃ v, o.ws.getD 0 0 = v := ⟨_, rfl⟩
     obtain ⟨v1, hv1⟩ : ∃ v, o.ws.getD 1 0 = v := ⟨_, rfl⟩
     obtain ⟨v2, hv2⟩ : ∃ v, o.ws.getD 2 0 = v := ⟨_, rfl⟩
     obtain ⟨v3, hv3⟩ : ∃ v, o.ws.getD 3 0 = v := ⟨_, rfl⟩
     rw [hv0] at x0; rw [Nat.add_zero] at x0; rw [hv1] at x1; rw [hv2] at x2; rw [hv3] at x3
     have HVV := Lib.hid (And.intro hv0 (And.intro hv1 (And.intro hv2 hv3)))
     clear hres hcw hv0 hv1 hv2 hv3
     go_wp2
     go_region
     all_goals
       go_wp2
       have hp5 := put5r (a0 := .int .u64 v0) (a1 := .int .u64 v1) (a2 := .int .u64 v2) (a3 := .int .u64 v3) (a4 := .slice (some ⟨g6 + 1, 0, none⟩) j j) HRES.out
       refine bodyPost_ret (results_cell2 rfl _ _ w.heap.size 39 _ (0, 0) _ rfl hp5.1.drew Tryz.underlying39 rfl (by kernel_rfl)) rfl ?_
       obtain ⟨e0, e1, e2, e3⟩ := HVV.out
       have hfl : fillR j j zs = zs := by unfold fillR; rw [List.take_of_length_le (by rw [HI.out.2.2.1]; exact Nat.le_refl _), Nat.sub_self]; simp
       have how := own_chg HJ.out.own (hp5.2.drew) (fun q hq e => by
         have h1 : g6 + 1 = q := by simpa [Value.ownBlock] using hq
         have := HKH.out.lt
         omega)
       rw [hfl] at how
       refine ⟨some ⟨g6 + 1, 0, none⟩, by rw [e0, e1, e2, e3]; rfl, Txt.of_own how (Nat.le_refl _) hm3 HI.out.2.2.2, ?_, fun ad ha => by injection ha with ha; subst ha; have := HKH.out.lt; show w.heap.size <= g6 + 1; omega⟩
       exact (HKH.out.bel HJ.out).trans (hp5.2.drew.below (by have := (HKH.out.bel HJ.out).size; exact this) (fun q _ e => by omega))
end
attribute [local go_sem] Oper.semAt_some
section
variable {hI hM k d f : Int} {w w' wr : World} {base : Nat} {S T : Nat -> Prop} {p lim : Nat} {was bs : List Int} {R : List DR} {O : List GO} {Lr : List Int} {tl cnt : Nat}
end
section
variable {hI hM k d f : Int} {w w' wr : World} {base : Nat} {S T : Nat -> Prop} {p lim : Nat} {was bs : List Int} {R : List DR} {O : List GO} {Lr : List Int} {tl cnt : Nat}
end
attribute [local go_sem] Oper.semAt_some
theorem recInfo : (Tryz.prog.info? 39).map (fun i => (i.zero, i.size, i.bytes)) = some (some (.agg #[.int .u64 0, .int .u64 0, .int .u64 0, .int .u64 0, .slice none 0 0]), 5, 56) := by kernel_rfl
def cellsR5 (l : List RC) : List Value := (l.map RC.cs).flatten
theorem cellsR5_snoc (l : List RC) (r : RC) : cellsR5 (l ++ [r]) = cellsR5 l ++ r.cs := by unfold cellsR5; rw [List.map_append, List.flatten_append]; simp
def recOf (o : GO) (A : Option Addr) (zs : List ByteArray) : RC := ⟨o.ws.getD 0 0, o.ws.getD 1 0, o.ws.getD 2 0, o.ws.getD 3 0, A, zs.length, zs.length, zs⟩
theorem recNew (w : World) (t : TypeId) (a b c d e : Value) : Reads (w.alloc (.cells #[a, b, c, d, e] t)) (w.heap.size + 1) 5 (some ⟨w.heap.size, 0, none⟩) 1 [a, b, c, d, e] := by
 refine ⟨rfl, fun _ => ⟨_, rfl, by simp, fun j u hj => ?_⟩⟩
 have e1 : (⟨w.heap.size, 0, none⟩ : Addr).add j = ⟨w.heap.size, j, none⟩ := by unfold Addr.add; split <;> simp_all
 rw [e1, (Blk.new w t #[a, b, c, d, e]).cell]
 simpa using hj
theorem recNew2 {w : World} {g : Nat} (hg : w.heap.size = g) (t : TypeId) (a b c d e : Value) : Reads (w.alloc (.cells #[a, b, c, d, e] t)) (g + 1) 5 (some ⟨g, 0, none⟩) 1 [a, b, c, d, e] := by subst hg; exact recNew w t a b c d e
theorem recOne (a b c d : Int) (A : Option Addr) (n m : Nat) : ∀ u ∈ [Value.int .u64 a, .int .u64 b, .int .u64 c, .int .u64 d, .slice A n m], u.oneCell' = true := fun u hu => by
 simp at hu
 rcases hu with rfl | rfl | rfl | rfl | rfl <;> rfl
theorem sr5a {m : Nat} (h : m <= 1001) : m + 1 <= maxLen := by unfold maxLen; omega
theorem sr5b {m : Nat} (h : m <= 1001) : (m + 1) * 56 <= 140737488355328 := by omega
structure OneR (O : List GO) (Z : List (List ByteArray)) (W : World) (F : Nat -> Prop) (i : Nat) (r : RC) : Prop where
 ex : ∃ o zs, O[i]? = some o /\ Z[i]? = some zs /\ r = recOf o r.A zs /\ Txt W W.heap.size r.A zs.length zs.length zs /\ (0 < zs.length -> ∀ ad, r.A = some ad -> ¬ F ad.block)
def CollR (p : Nat) (w : World) (O : List GO) (Z : List (List ByteArray)) (fq : Nat -> Prop) (m : Nat) (W : World) : Prop :=
 ∃ v l, fq = fpR (w.heap.size + 1) v /\ Boxed W (w.heap.size + 1) 22 v /\ W.ownsRow w.heap.size 39 5 v l.length (cellsR5 l) /\ l.length = m /\ (∀ i r, l[i]? = some r -> OneR O Z W fq i r) /\ Blk W w.heap.size 33 #[.pointer (some ⟨p, 0, none⟩)] /\ Below w.heap.size w W
theorem collR_own {p : Nat} {w : World} {O : List GO} {Z : List (List ByteArray)} {C : Nat} (hC : w.heap.size + 2 <= C) (fq : Nat -> Prop) : OwnFrom C (fun (pre : List Int) W => CollR p w O Z fq pre.length W) := by
 rintro pre W W' row ⟨v, l, e1, hv, hr, hm, he, hb, hbw⟩ hg hrow
 obtain ⟨v2, h2, h3, h4⟩ := own_row w.heap.size (w.heap.size + 1) C 22 39 5 (fun s : List RC => s.length) (fun s => cellsR5 s) l W W' row ⟨v, hv, hr, trivial⟩ hg hrow
 have hvv : v2 = v := by
   have := hv.kept hg (fun e => by
     obtain ⟨-, o, ho, hc⟩ := hrow (w.heap.size + 1) e.symm
     rw [show W.heap[w.heap.size + 1]? = _ from hv] at ho; cases ho; cases hc)
   have h5 : some (Obj.cells #[v2] 22 (0, 0)) = some (Obj.cells #[v] 22 (0, 0)) := (show W'.heap[w.heap.size + 1]? = _ from h2).symm.trans this
   simp at h5
   exact h5
 subst hvv
 refine ⟨v2, l, e1, h2, h3, hm, fun i r hi => ?_, hb.grown hg (fun e => by have := (hrow _ e.symm).1; omega), hbw.grown hg (by have := hbw.size; omega) (fun k e => by have := (hrow k e).1; omega)⟩
 obtain ⟨o, zs, h1, h2, h3, h4, h5⟩ := (he i r hi).ex
 exact ⟨⟨o, zs, h1, h2, h3, ⟨(h4.reads.grownF hg (fun r e => (hrow r e).2)).more hg.size, h4.le, h4.cap, h4.sz⟩, h5⟩⟩
section
variable {hI hM k d f : Int} {w w' wr : World} {base : Nat} {S T : Nat -> Prop} {p lim : Nat} {was bs : List Int} {R : List DR} {O : List GO} {Lr : List Int} {tl cnt : Nat}
set_option maxHeartbeats 8000000 in
theorem eall_any {E : List (List (List Int))} {Z : List (List ByteArray)} (h : EX hI hM k d f w base S p lim was R O Lr tl cnt) (hE : EL R O Lr E) (hZ : E = Z.map fun zs => zs.map nums) (hsz : ∀ zs ∈ Z, ∀ s ∈ zs, s.size <= maxLen) (hO : O.length <= 1000) :
 Calls Tryz.prog 21 #[.pointer (some ⟨p, 0, none⟩)] w fun e w' => ∃ v l, e = .returned v /\ w'.ownsRow w.heap.size 39 5 v l.length (cellsR5 l) /\ l.length = O.length /\ (∀ i r, l[i]? = some r -> OneR O Z w' (fun q => v.ownBlock = some q) i r) /\ Below w.heap.size w w' := by
 have hft := Lib.hid h.foot
 have hlr := hE.lr
 have hll : Lr.length = O.length := by rw [hlr, List.length_map]
 have hb0 : Below w.heap.size w ((w.alloc (.cells #[.pointer (some ⟨p, 0, none⟩)] 33)).alloc (.cells #[.slice none 0 0] 22)) := (boxed w _).alloc (boxed w _).size _
 have hsz0 : ((w.alloc (.cells #[.pointer (some ⟨p, 0, none⟩)] 33)).alloc (.cells #[.slice none 0 0] 22)).heap.size = w.heap.size + 2 := by simp
 have x0 := (Blk.new w 33 #[.pointer (some ⟨p, 0, none⟩)]).alloc (.cells #[.slice none 0 0] 22)
 have x1 : Boxed ((w.alloc (.cells #[.pointer (some ⟨p, 0, none⟩)] 33)).alloc (.cells #[.slice none 0 0] 22)) (w.heap.size + 1) 22 (.slice none 0 0) := by
   have := Blk.new (w.alloc (.cells #[.pointer (some ⟨p, 0, none⟩)] 33)) 22 #[.slice none 0 0]
   simp only [World.size_alloc] at this
   exact this
 have AX := Lib.hid (show Calls Tryz.prog 56 #[.pointer (some ⟨p, 0, none⟩), .int .i64 192] ((w.alloc (.cells #[.pointer (some ⟨p, 0, none⟩)] 33)).alloc (.cells #[.slice none 0 0] 22)) _ from by
   obtain ⟨its, hL⟩ := (h.below hb0).all (by omega)
   exact all_at hL 8 (by omega) (fpR (w.heap.size + 1) (.slice none 0 0)) (fun j hj e => by
     have := (hft.out j hj).2
     rcases e with e | e
     · omega
     · cases e) (fun j e => by
     rcases e with e | e
     · omega
     · cases e))
 have X := Lib.hid (And.intro hb0 (And.intro hsz0 (And.intro x0 x1)))
 have HH := Lib.hid (And.intro h (And.intro hE (And.intro hZ (And.intro hsz hO))))
 have HLL := Lib.hid (And.intro hlr hll)
 clear hb0 hsz0 x0 x1 h hE hZ hsz hO hlr hll
 refine (callsIn_wide (n := 9)).1 ?_
 refine callsIn_of_wp_marks Tryz.func21 rfl trivial ?_ rfl
 simp only [Tryz.ntmps21, List.size_toArray, List.length_cons, List.length_nil, Nat.reduceAdd, Nat.reduceSub, Array.replicate_succ, Array.replicate_zero, List.push_toArray, List.append_toArray, List.nil_append, List.cons_append]
 gi_wp2_with (refine ⟨trivial, ?_⟩; gi_at_call 56; refine (callsIn_wide.2 AX.out).mono ?_; rintro e w2 ⟨rfl, hb2, hseq⟩)
 obtain ⟨hb0, hsz0, x0, x1⟩ := X.out
 rw [hsz0] at hseq
 generalize (w.alloc (.cells #[.pointer (some ⟨p, 0, none⟩)] 33)).alloc (.cells #[.slice none 0 0] 22) = w0 at *
 have hs2 := hb2.size
 have hbw2 : Below w.heap.size w w2 := hb0.trans (hb2.mono hb0.size)
 have y0 := x0.below hb2 (by omega)
 have y1 : Boxed w2 (w.heap.size + 1) 22 (.slice none 0 0) := Blk.below (t := 22) (cs := #[.slice none 0 0]) x1 hb2 (by omega)
 clear X AX hb0 x0 x1 hb2
 refine wp_range_F (F := Fence.wide) (n := 9) rfl (by omega) (gf := 107) (lb := rwB (w.heap.size + 2)) rfl trivial (enters_of Tryz.func107 (by kernel_rfl) rfl) hseq
     (fun k hk => by rcases hk with rfl | hk; · omega
                     · cases hk)
     (fun fp pre z => tellsP_own Lr _ fp pre z) (fun _ => rfl)
     (fun fq pre W => CollR p w O Z fq pre.length W)
     (fun c pre W => False)
     (fun fq => collR_own (by omega) fq)
     (fun c => own_never)
     ⟨_, [], rfl, y1, World.ownsRow_nil _ _ _ _, rfl, (fun i r hi => by simp at hi), y0, hbw2⟩
     (fun z a' W' => a' = { tmps := #[.pointer (some ⟨p, 0, none⟩), .pointer (some ⟨w.heap.size, 0, none⟩), .slice none 0 0, .pointer (some ⟨w.heap.size + 1, 0, none⟩), .int .u64 z, undef, undef, .pointer (some ⟨p, 0, none⟩), alV (w.heap.size + 2), .int .u64 z, undef, undef, undef, undef, undef, undef, undef, undef, undef, undef, undef, undef], defers := [] })
     (fun z a' _ A C row hs hg hr => hs)
     ?assign ?body ?done ?stop
 case assign =>
   intro l2 z W3 K hW hK
   dsimp only [placeE]
   gi_wp2
   exact hK _ _ (Below.refl _ _) rfl
 case body =>
   rintro l2 fp fq pre z W3 ⟨v, l, rfl, hv, hrow, hlm, heach, hbm, hbW⟩ hok hsub hlen ⟨rest, hrest⟩ - a' rfl
   have k0 := hbm.cell 0
   obtain ⟨A1, c1, rfl, -, -⟩ := own_form hrow
   obtain ⟨hEX, hE, hZ, hsz, hO⟩ := HH.out
   have hzi : Lr[pre.length]? = some z := by rw [<- hrest]; simp
   have hil : pre.length < O.length := by
     have := (List.getElem?_eq_some_iff.1 hzi).1
     rw [HLL.out.2] at this; exact this
   obtain ⟨o, ho⟩ : ∃ o, O[pre.length]? = some o := ⟨_, List.getElem?_eq_getElem hil⟩
   have hoz : z = (o.at_ : Int) := by
     rw [HLL.out.1, List.getElem?_map, ho] at hzi
     simpa using hzi.symm
   have hZl : Z.length = O.length := by rw [hE.len, hZ, List.length_map]
   obtain ⟨zs, hzs⟩ : ∃ zs, Z[pre.length]? = some zs := ⟨_, List.getElem?_eq_getElem (by omega)⟩
   have hEz : E[pre.length]? = some (zs.map nums) := by rw [hZ, List.getElem?_map, hzs]; rfl
   have RD := Lib.hid (eread_yes (hEX.below hbW) hE ho hEz (hsz zs (List.mem_of_getElem? hzs)))
   subst hoz
   obtain ⟨i0, hi, hz0, hz1, hz2⟩ := info_parts recInfo
   have s1 := sr5a (m := l.length) (by omega)
   have s2 := sr5b (m := l.length) (by omega)
   have hsW := hbW.size
   obtain ⟨v0, hv0⟩ : ∃ v, o.ws.getD 0 0 = v := ⟨_, rfl⟩
   obtain ⟨v1, hv1⟩ : ∃ v, o.ws.getD 1 0 = v := ⟨_, rfl⟩
   obtain ⟨v2, hv2⟩ : ∃ v, o.ws.getD 2 0 = v := ⟨_, rfl⟩
   obtain ⟨v3, hv3⟩ : ∃ v, o.ws.getD 3 0 = v := ⟨_, rfl⟩
   obtain ⟨at_, hate⟩ : ∃ a, o.at_ = a := ⟨_, rfl⟩
   obtain ⟨n, hn⟩ : ∃ n, zs.length = n := ⟨_, rfl⟩
   rw [hv0, hv1, hv2, hv3, hate, hn] at RD
   rw [hate]
   have HM := Lib.hid (And.intro ho (And.intro hzs (And.intro hv0 (And.intro hv1 (And.intro hv2 (And.intro hv3 hn))))))
   have HEA := Lib.hid heach
   have HOK := Lib.hid hok
   have HLM := Lib.hid hlm
   clear hEX hE hZ hsz hO hzi hil hZl hEz ho hzs hv0 hv1 hv2 hv3 hate hn hrest heach hok hsub hlen hlm
   gi_wp2_with (first
     | (refine ⟨trivial, ?_⟩; gi_at_call 57; go_loud (refine (CallsIn.inRound l2 (callsIn_wide.2 RD.out)).mono ?_; rintro e w4 ⟨A, rfl, ht4, hb4, hf4⟩; have hb5 : Below W3.heap.size W3 (w4.alloc (.cells #[.int .u64 v0, .int .u64 v1, .int .u64 v2, .int .u64 v3, .slice A n n] 39)) := hb4.alloc hb4.size _; have hv5 : Boxed (w4.alloc (.cells #[.int .u64 v0, .int .u64 v1, .int .u64 v2, .int .u64 v3, .slice A n n] 39)) (w.heap.size + 1) 22 (.slice A1 l.length c1) := Blk.below (t := 22) (cs := #[.slice A1 l.length c1]) hv hb5 hv.lt; have cv5 := hv5.cell; have hrow5 := own_below hrow hb5; have ht5 := ht4.below (boxed w4 (.cells #[.int .u64 v0, .int .u64 v1, .int .u64 v2, .int .u64 v3, .slice A n n] 39)); have hbm5 := hbm.below hb5 hbm.lt; have hs5 := hb5.size; have hs4 := hb4.size))
     | (gi_at_builtin; go_loud (refine wpListIn_append_at _ rfl _ _ 22 rfl w.heap.size 39 i0 (.agg #[.int .u64 0, .int .u64 0, .int .u64 0, .int .u64 0, .slice none 0 0]) 5 56 Tryz.underlying22 hi hz0 hz1 hz2 rfl (by decide) _ _ _ rfl (hrow5.alloc _) _ _ 1 1 [.int .u64 v0, .int .u64 v1, .int .u64 v2, .int .u64 v3, .slice A n n] rfl (recNew2 (World.size_alloc _ _) _ _ _ _ _ _) (recOne _ _ _ _ _ _ _) s1 s2 (by simp; omega) ?_; intro v' w1 hown' hgrow hat; obtain ⟨g', cap', rfl⟩ := ownsRow_succ hown'; obtain ⟨hv1, hv2, hr2, hg2⟩ := appendedF hv5 (by decide) hrow5 hown' hgrow hat; have hc1 := hv1.cell; have hf1 := hv1.frozen)))
   obtain ⟨ho, hzs, e0, e1, e2, e3, en⟩ := HM.out
   subst en
   have G := (GrowF.below HOK.out hb5).trans hg2
   have hlW := (hrow.lt)
   have hnbm : (Value.slice A1 l.length c1).ownBlock ≠ some w.heap.size := own_blk_ne hrow hbm (by decide)
   have hrc : recOf o A zs = ⟨v0, v1, v2, v3, A, zs.length, zs.length, zs⟩ := by unfold recOf; rw [e0, e1, e2, e3]
   refine ⟨_, ⟨_, l ++ [recOf o A zs], rfl, hv2, ?_, ?_, fun i r hi => ?_, ?_, ?_⟩, G⟩
   · rw [List.length_append, cellsR5_snoc, hrc]; exact hr2
   · rw [List.length_append, List.length_append, HLM.out]; rfl
   · rcases Nat.lt_or_ge i l.length with hlt | hge
     · rw [List.getElem?_append_left hlt] at hi
       obtain ⟨o', zs', h1, h2, h3, h4, h5⟩ := (HEA.out i r hi).ex
       refine ⟨⟨o', zs', h1, h2, h3, ⟨(h4.reads.chg G.1 (Nat.le_refl _) h5).more G.1.size, h4.le, h4.cap, h4.sz⟩, fun hn ad ha e => ?_⟩⟩
       obtain ⟨ad2, ea, hb, -⟩ := h4.reads.2 hn
       rw [ha] at ea; injection ea with ea; subst ea
       rcases (G.2 _ e).1 with e | e
       · exact h5 hn ad ha e
       · omega
     · have hi0 : i - l.length = 0 := by
         have := (List.getElem?_eq_some_iff.1 hi).1
         rw [List.length_append] at this
         simp at this; omega
       rw [List.getElem?_append_right hge, hi0] at hi
       have hrx : recOf o A zs = r := by simpa using hi
       have hil : i = pre.length := by rw [<- HLM.out]; omega
       subst hrx
       subst hil
       have hAf : ∀ ad, A = some ad -> ¬ fpR (w.heap.size + 1) (Value.slice A1 l.length c1) ad.block := fun ad ha e => by
         have hl3 := HOK.out _ e
         have := hf4 ad ha
         omega
       have hlw4 : w4.heap.size <= (w4.alloc (.cells #[.int .u64 v0, .int .u64 v1, .int .u64 v2, .int .u64 v3, .slice A zs.length zs.length] 39)).heap.size := by simp
       refine ⟨⟨o, zs, ho, hzs, rfl, ⟨(ht5.reads.chg hg2.1 hlw4 (fun _ => hAf)).more (Nat.le_trans hlw4 hg2.1.size), ht5.le, ht5.cap, ht5.sz⟩, fun hn ad ha e => ?_⟩⟩
       have ha : A = some ad := ha
       obtain ⟨ad2, ea, hb, -⟩ := ht5.reads.2 hn
       rw [ha] at ea; injection ea with ea; subst ea
       rcases (hg2.2 _ e).1 with e | e
       · exact hAf ad ha e
       · have : (w4.alloc (.cells #[.int .u64 v0, .int .u64 v1, .int .u64 v2, .int .u64 v3, .slice A zs.length zs.length] 39)).heap.size = w4.heap.size + 1 := World.size_alloc _ _
         omega
   · exact hbm.chg G.1 (fun e => by
       rcases e with e | e
       · omega
       · exact hnbm e)
   · refine hbW.trans (G.1.below hbW.size (fun q _ hq => ?_))
     rcases hq with hq | hq
     · omega
     · exact (hrow.lt q hq).1
 case done =>
   rintro D fq xs W3 hD hxs ⟨v, l, rfl, hv, hrow, hlm, heach, hbm, hbW⟩ hK
   have cv := hv.cell
   have hxs : xs = Lr := hxs
   subst hxs
   obtain ⟨A1, c1, rfl, -, -⟩ := own_form hrow
   have HE := Lib.hid (And.intro hlm heach)
   clear hlm heach
   gi_wp2
   refine ⟨by simp, .inl ⟨_, _, rfl, run_takeDeferred hK, ?_⟩⟩
   refine ⟨_, results_tmp rfl _ _ _, _, l, rfl, ownsRow_putObj hrow _ hK rfl, by rw [HE.out.1, HLL.out.2], fun i r hi => ?_, below_put1 hbW (by omega) _⟩
   obtain ⟨o, zs, h1, h2, h3, h4, h5⟩ := (HE.out.2 i r hi).ex
   exact ⟨⟨o, zs, h1, h2, h3, ⟨(h4.reads.put_other hK rfl).more (by simp), h4.le, h4.cap, h4.sz⟩, fun hn ad ha e => h5 hn ad ha (.inr e)⟩⟩
 case stop =>
   rintro D cc pre W3 hD hp hf hK
   exact hf.elim
end
theorem cellsR5_at : ∀ (l : List RC) (i : Nat) (r : RC), l[i]? = some r -> ∀ q, q < 5 -> (cellsR5 l)[i * 5 + q]? = r.cs[q]?
 | [], i, r, h, q, hq => by simp at h
 | a :: l, 0, r, h, q, hq => by
   simp at h; subst h
   unfold cellsR5
   rw [List.map_cons, List.flatten_cons, List.getElem?_append_left (by show 0 * 5 + q < 5; omega), Nat.zero_mul, Nat.zero_add]
 | a :: l, i + 1, r, h, q, hq => by
   have h' : l[i]? = some r := by simpa using h
   have ih := cellsR5_at l i r h' q hq
   unfold cellsR5 at ih ⊢
   rw [List.map_cons, List.flatten_cons, List.getElem?_append_right (by show 5 <= _; omega)]
   rw [<- ih]
   congr 1
   show (i + 1) * 5 + q - 5 = _
   omega
structure RecsR (w : World) (B : Nat) (A : Option Addr) (n c : Nat) (l : List RC) : Prop where
 reads : Reads w B 5 A n (cellsR5 l)
 le : n <= c
 cap : c <= 9223372036854775807
 len : l.length = n
 each : ∀ r ∈ l, Txt w B r.A r.n r.c r.its
theorem RecsR.below {w w' : World} {B n c : Nat} {A : Option Addr} {l : List RC} (h : RecsR w B A n c l) (hb : Below B w w') : RecsR w' B A n c l := ⟨h.reads.below hb, h.le, h.cap, h.len, fun r hr => (h.each r hr).below hb⟩
theorem RecsR.at_ {w : World} {B n c : Nat} {A : Option Addr} {l : List RC} (h : RecsR w B A n c l) {i : Nat} (hi : i < n) :
 ∃ b off r, A = some ⟨b, off, none⟩ /\ b < B /\ l[i]? = some r /\ Txt w B r.A r.n r.c r.its /\ w.cell? ⟨b, off + i * 5, none⟩ = some (.int .u64 r.seq) /\ w.cell? ⟨b, off + i * 5 + 1, none⟩ = some (.int .u64 r.real) /\ w.cell? ⟨b, off + i * 5 + 2, none⟩ = some (.int .u64 r.mono) /\ w.cell? ⟨b, off + i * 5 + 3, none⟩ = some (.int .u64 r.boot) /\ w.cell? ⟨b, off + i * 5 + 4, none⟩ = some (.slice r.A r.n r.c) := by
 have hil : i < l.length := by rw [h.len]; exact hi
 obtain ⟨b, off, e, hb, hc⟩ := h.reads.at2 (by omega) (by omega)
 have hr := List.getElem?_eq_getElem hil
 have g : ∀ q, q < 5 -> ∀ u, (l[i]).cs[q]? = some u -> w.cell? ⟨b, off + i * 5 + q, none⟩ = some u := fun q hq u hu => by
   rw [Nat.add_assoc]
   exact hc _ _ ((cellsR5_at l i _ hr q hq).trans hu)
 exact ⟨b, off, l[i], e, hb, hr, h.each _ (List.getElem_mem hil), g 0 (by omega) _ rfl, g 1 (by omega) _ rfl, g 2 (by omega) _ rfl, g 3 (by omega) _ rfl, g 4 (by omega) _ rfl⟩
theorem RecsR.of_own {w : World} {base : Nat} {v : Value} {l : List RC} (ho : w.ownsRow base 39 5 v l.length (cellsR5 l)) (he : ∀ r ∈ l, Txt w w.heap.size r.A r.n r.c r.its) : ∃ A c, v = .slice A l.length c /\ RecsR w w.heap.size A l.length c l := by
 obtain ⟨A, c, rfl, h1, h2⟩ := own_form ho
 exact ⟨A, c, rfl, Reads.of_own ho, h1, by unfold maxLen at h2; omega, rfl, he⟩
theorem same_refl {a b : RC} (h0 : a.seq = b.seq) (h1 : a.real = b.real) (h2 : a.mono = b.mono) (h3 : a.boot = b.boot) (h4 : a.its = b.its) : a.same b = true := by unfold RC.same; simp [h0, h1, h2, h3, h4]
set_option maxHeartbeats 2000000 in
theorem reall_same (A1 A2 : Option Addr) (n c1 c2 : Nat) (l1 l2 : List RC) (B1 B2 : Nat) (w : World) (h1 : RecsR w B1 A1 n c1 l1) (h2 : RecsR w B2 A2 n c2 l2) (hB1 : B1 <= w.heap.size) (hB2 : B2 <= w.heap.size) (hs : ∀ (i : Nat) (a b : RC), l1[i]? = some a -> l2[i]? = some b -> a.same b = true) :
 Calls Tryz.prog 20 #[.slice A1 n c1, .slice A2 n c2] w fun e w' => e = .returned (.bool true) /\ Below w.heap.size w w' := by
 have hle := h1.le
 have hcap := h1.cap
 have hle2 := h2.le
 have hcap2 := h2.cap
 have H1 := Lib.hid (And.intro h1 (And.intro h2 hs))
 clear h1 h2 hs
 go_enter Tryz.func20, Tryz.ntmps20
 go_wp2
 go_loopw [5] (fun i wr => ∃ k : Nat, k <= n /\ i = .int .i64 k /\ Below w.heap.size w wr) (fun i _ => n - (intOf i).toNat)
 case atStart => exact ⟨0, Nat.zero_le _, rfl, Below.refl _ _⟩
 case round =>
   obtain ⟨k, hk, rfl, hbw⟩ := hrel
   by_cases hlt : k < n
   · obtain ⟨b1, o1, r1, rfl, hb1, e1, t1, x0, x1, x2, x3, x4⟩ := (H1.out.1.below (hbw.mono hB1)).at_ hlt
     obtain ⟨b2, o2, r2, rfl, hb2, e2, t2, y0, y1, y2, y3, y4⟩ := (H1.out.2.1.below (hbw.mono hB2)).at_ hlt
     have hsm := H1.out.2.2 k r1 r2 e1 e2
     have SM := Lib.hid (fun wx (hb : Below wr.heap.size wr wx) => resame_any r1 r2 B1 B2 wx (t1.below (hb.mono (Nat.le_trans hB1 hbw.size))) (t2.below (hb.mono (Nat.le_trans hB2 hbw.size))) (Nat.le_trans hB1 (Nat.le_trans hbw.size hb.size)) (Nat.le_trans hB2 (Nat.le_trans hbw.size hb.size)))
     rw [hsm] at SM
     obtain ⟨v0, v1, v2, v3, A3, n3, c3, z3⟩ := r1
     obtain ⟨u0, u1, u2, u3, A4, n4, c4, z4⟩ := r2
     have HS := Lib.hid (fun wx (hb : Below wr.heap.size wr wx) => (show (wx.cell? ⟨b1, o1 + k * 5, none⟩ = some (.int .u64 v0) /\ wx.cell? ⟨b1, o1 + k * 5 + 1, none⟩ = some (.int .u64 v1) /\ wx.cell? ⟨b1, o1 + k * 5 + 2, none⟩ = some (.int .u64 v2) /\ wx.cell? ⟨b1, o1 + k * 5 + 3, none⟩ = some (.int .u64 v3) /\ wx.cell? ⟨b1, o1 + k * 5 + 4, none⟩ = some (.slice A3 n3 c3)) /\
         (wx.cell? ⟨b2, o2 + k * 5, none⟩ = some (.int .u64 u0) /\ wx.cell? ⟨b2, o2 + k * 5 + 1, none⟩ = some (.int .u64 u1) /\ wx.cell? ⟨b2, o2 + k * 5 + 2, none⟩ = some (.int .u64 u2) /\ wx.cell? ⟨b2, o2 + k * 5 + 3, none⟩ = some (.int .u64 u3) /\ wx.cell? ⟨b2, o2 + k * 5 + 4, none⟩ = some (.slice A4 n4 c4)) from by
       have hl1 : b1 < wr.heap.size := by have := hbw.size; omega
       have hl2 : b2 < wr.heap.size := by have := hbw.size; omega
       exact ⟨⟨(hb.cell (p := ⟨b1, _, none⟩) hl1).trans x0, (hb.cell (p := ⟨b1, _, none⟩) hl1).trans x1, (hb.cell (p := ⟨b1, _, none⟩) hl1).trans x2, (hb.cell (p := ⟨b1, _, none⟩) hl1).trans x3, (hb.cell (p := ⟨b1, _, none⟩) hl1).trans x4⟩,
         ⟨(hb.cell (p := ⟨b2, _, none⟩) hl2).trans y0, (hb.cell (p := ⟨b2, _, none⟩) hl2).trans y1, (hb.cell (p := ⟨b2, _, none⟩) hl2).trans y2, (hb.cell (p := ⟨b2, _, none⟩) hl2).trans y3, (hb.cell (p := ⟨b2, _, none⟩) hl2).trans y4⟩⟩))
     have hlti : (k : Int) < n := by omega
     have hk0 : (0 : Int) <= k := by omega
     have hbx : Below wr.heap.size wr wr.drew := below_drewn (Below.refl _ _) 1
     have HK := Lib.hid (HS.out _ hbx)
     clear t1 t2 hsm e1 e2 x0 x1 x2 x3 x4 y0 y1 y2 y3 y4
     go_wp2
     go_region_held3 (fun wx => (wx.cell? ⟨b1, o1 + k * 5, none⟩ = some (.int .u64 v0) /\ wx.cell? ⟨b1, o1 + k * 5 + 1, none⟩ = some (.int .u64 v1) /\ wx.cell? ⟨b1, o1 + k * 5 + 2, none⟩ = some (.int .u64 v2) /\ wx.cell? ⟨b1, o1 + k * 5 + 3, none⟩ = some (.int .u64 v3) /\ wx.cell? ⟨b1, o1 + k * 5 + 4, none⟩ = some (.slice A3 n3 c3)) /\
         (wx.cell? ⟨b2, o2 + k * 5, none⟩ = some (.int .u64 u0) /\ wx.cell? ⟨b2, o2 + k * 5 + 1, none⟩ = some (.int .u64 u1) /\ wx.cell? ⟨b2, o2 + k * 5 + 2, none⟩ = some (.int .u64 u2) /\ wx.cell? ⟨b2, o2 + k * 5 + 3, none⟩ = some (.int .u64 u3) /\ wx.cell? ⟨b2, o2 + k * 5 + 4, none⟩ = some (.slice A4 n4 c4)))
       (first | assumption | exact HK.out | exact HS.out _ (by assumption))
       ((go_at_call 55; refine (SM.out _ hbx).mono ?_; rintro e wx ⟨rfl, hb5⟩; have hbx := hbx.trans (hb5.mono hbx.size)))
     go_wp2
     go_roundw
     case rel => exact ⟨k + 1, by omega, by go_num, hbw.trans (hbx.mono hbw.size)⟩
     case measure => simp [intOf]; omega
   · obtain rfl : k = n := by omega
     go_wp2
     go_ret
     exact ⟨rfl, hbw⟩
set_option maxHeartbeats 1000000 in
theorem rchecked_any {B : Nat} (r : RC) (w : World) (hT : Txt w B r.A r.n r.c r.its) (hB : B <= w.heap.size) (hn : r.n <= 9223372036854775807) :
 Calls Tryz.prog 12 #[r.v] w fun e w' => ∃ A c, e = .returned (.tuple #[.agg #[.int .u64 r.seq, .int .u64 r.real, .int .u64 r.mono, .int .u64 r.boot, .slice A (chkL r.its).length c], .int .i64 (chkE r.its)]) /\ Txt w' w'.heap.size A (chkL r.its).length c (chkL r.its) /\ Below w.heap.size w w' /\ ∀ ad, A = some ad -> w.heap.size <= ad.block := by
 obtain ⟨v0, v1, v2, v3, A, n, c, zs⟩ := r
 obtain ⟨hb0, hk0, hk1⟩ := two_boxes w 39 #[.int .u64 v0, .int .u64 v1, .int .u64 v2, .int .u64 v3, .slice A n c] #[.int .u64 0, .int .u64 0, .int .u64 0, .int .u64 0, .slice none 0 0]
 have hsz := (show ((w.alloc (.cells #[.int .u64 v0, .int .u64 v1, .int .u64 v2, .int .u64 v3, .slice A n c] 39)).alloc (.cells #[.int .u64 0, .int .u64 0, .int .u64 0, .int .u64 0, .slice none 0 0] 39)).heap.size = w.heap.size + 2 by simp)
 have CH := Lib.hid (rcheck_own A n c zs ((w.alloc (.cells #[.int .u64 v0, .int .u64 v1, .int .u64 v2, .int .u64 v3, .slice A n c] 39)).alloc (.cells #[.int .u64 0, .int .u64 0, .int .u64 0, .int .u64 0, .slice none 0 0] 39)) ((hT.more hB).below hb0 |>.more hb0.size) hn)
 have X := Lib.hid (And.intro hsz (And.intro hb0 (And.intro hk0 hk1)))
 show Calls Tryz.prog 12 #[.agg #[.int .u64 v0, .int .u64 v1, .int .u64 v2, .int .u64 v3, .slice A n c]] w _
 unfold ChkO at CH
 obtain ⟨ec, hec⟩ : ∃ ec, chkE zs = ec := ⟨_, rfl⟩
 obtain ⟨L, hL⟩ : ∃ L, chkL zs = L := ⟨_, rfl⟩
 simp only []
 rw [hec, hL] at CH ⊢
 clear hT hb0 hk0 hk1 hsz hec hL
 go_enter Tryz.func12, Tryz.ntmps12
 go_wp2_with (go_at_call 45; (refine CH.out.mono ?_; rintro e w1 ⟨A1, c1, rfl, ht1, hb1, hf1⟩; have hk2 := X.out.2.2.1.below hb1 (by rw [X.out.1]; omega); have hk3 := X.out.2.2.2.below hb1 (by rw [X.out.1]; omega); have x4 := hk2.cell 4; have g4 := hk2.frozen 4; have hk5 : Blk (w1.setCell ⟨w.heap.size, 4, none⟩ (.slice A1 L.length c1)) w.heap.size 39 #[.int .u64 v0, .int .u64 v1, .int .u64 v2, .int .u64 v3, .slice A1 L.length c1] := hk2.set_ 4 _; have hk6 : Blk (w1.setCell ⟨w.heap.size, 4, none⟩ (.slice A1 L.length c1)) (w.heap.size + 1) 39 #[.int .u64 0, .int .u64 0, .int .u64 0, .int .u64 0, .slice none 0 0] := hk3.far (by show w.heap.size + 1 ≠ w.heap.size; omega) _; have y0 := hk5.cell 0; have y1 := hk5.cell 1; have y2 := hk5.cell 2; have y3 := hk5.cell 3; have y4 := hk5.cell 4; have z0 := hk6.cell 0; have z1 := hk6.cell 1; have z2 := hk6.cell 2; have z3 := hk6.cell 3; have z4 := hk6.cell 4; have f0 := hk6.frozen 0; have f1 := hk6.frozen 1; have f2 := hk6.frozen 2; have f3 := hk6.frozen 3; have f4 := hk6.frozen 4; have HK6 := Lib.hid (And.intro hk2 hk6); have HT := Lib.hid (And.intro ht1 (And.intro hb1 hf1)); clear hk2 hk3 hk5 hk6 ht1 hb1 hf1))
 have hp5 := put5r (a0 := .int .u64 v0) (a1 := .int .u64 v1) (a2 := .int .u64 v2) (a3 := .int .u64 v3) (a4 := .slice A1 L.length c1) HK6.out.2
 refine bodyPost_ret (results_cell2 rfl _ _ (w.heap.size + 1) 39 _ (0, 0) _ rfl hp5.1 Tryz.underlying39 rfl (by kernel_rfl)) rfl ?_
 obtain ⟨ht1, hb1, hf1⟩ := HT.out
 rw [X.out.1] at hf1
 have hc := ((Chg.refl (fun q => q = w.heap.size ∨ q = w.heap.size + 1) w1).setCell (p := ⟨w.heap.size, 4, none⟩) (.inr (.inl rfl)) (.slice A1 L.length c1)).trans hp5.2 (fun q _ e => .inr e)
 refine ⟨A1, c1, rfl, (ht1.chg hc (Nat.le_refl _) (fun ad ha e => by have := hf1 ad ha; omega)).more hc.size, ?_, fun ad ha => by have := hf1 ad ha; omega⟩
 have hbw := X.out.2.1.trans (hb1.mono (by rw [X.out.1]; omega))
 exact hbw.trans (hc.below hbw.size (fun q _ e => by omega))
end Go.Proofs.YtgcmbgniaffdlaaGreat
