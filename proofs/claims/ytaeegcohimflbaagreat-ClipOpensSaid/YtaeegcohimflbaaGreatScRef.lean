import Derived.Test.YtaeegcohimflbaaGreatScRows
set_option linter.unusedVariables false
set_option maxRecDepth 100000
set_option linter.unusedSimpArgs false
namespace Go.Proofs.YtaeegcohimflbaaGreat
open Go.RowKit Go.Shelf
structure RAI (w : World) (zt : List Int) (v : Value) (pre : List So) (W : World) : Prop where
 own : W.ownsRow w.heap.size 85 6 v pre.length (cellsS pre)
 each : ∀ x ∈ pre, x.lies zt W /\ x.apart (fun k => v.ownBlock = some k)
 below : Below w.heap.size w W
theorem RAI.next {w W W1 W2 : World} {zt : List Int} {v v' : Value} {pre : List So} {x : So} {tmp : Obj} (h : RAI w zt v pre W) (hb : Below W.heap.size W W1) (hx : x.lies zt W1) (hn : ∀ k, (x.A.map (·.block) = some k ∨ x.B.map (·.block) = some k ∨ x.C.map (·.block) = some k) -> W.heap.size <= k)
 (hown : W2.ownsRow w.heap.size 85 6 v' (pre.length + 1) (cellsS pre ++ x.cs)) (hg : (W1.alloc tmp).grownBy W2 v.ownBlock) (hat : v'.ownBlock = v.ownBlock ∨ v'.ownBlock = some (W1.alloc tmp).heap.size) : RAI w zt v' (pre ++ [x]) W2 := by
 have hsa : (W1.alloc tmp).heap.size = W1.heap.size + 1 := World.size_alloc _ _
 have hs := hg.size
 have hs1 := hb.size
 have hvl := h.own.lt
 have G : GrowF (fun k => v.ownBlock = some k) W1 (fun k => v'.ownBlock = some k) W2 := by
   refine ⟨⟨hg.os, hg.tape, hg.output, by omega, fun j hj hn => (hg.block j (by omega) (fun e => hn e.symm)).trans (Below.heap_alloc _ _ _ hj)⟩, fun k hk => ⟨?_, (hown.lt k hk).2⟩⟩
   rcases hat with e | e
   · exact .inl (by rw [<- e]; exact hk)
   · rw [e] at hk; injection hk with hk; right; omega
 refine ⟨by rw [List.length_append, cellsS_snoc]; exact hown, fun y hy => ?_, ?_⟩
 · rcases List.mem_append.1 hy with hy | hy
   · obtain ⟨h1, h2⟩ := h.each y hy
     have := h2.grow ((ObR.below h1 hb (Nat.le_refl _)).upto hb.size) G
     exact ⟨this.2, this.1⟩
   · rw [List.mem_singleton.1 hy]
     have hap : x.apart (fun k => v.ownBlock = some k) := ⟨fun _ ad ha e => by have := (hvl _ e).2; have := hn ad.block (.inl (by rw [ha]; rfl)); omega, fun _ ad ha e => by have := (hvl _ e).2; have := hn ad.block (.inr (.inl (by rw [ha]; rfl))); omega, fun _ ad ha e => by have := (hvl _ e).2; have := hn ad.block (.inr (.inr (by rw [ha]; rfl))); omega⟩
     have := hap.grow hx G
     exact ⟨this.2, this.1⟩
 · exact (h.below.trans (hb.mono h.below.size)).trans (G.1.below (by have := h.below.size; omega) (fun q _ e => (hvl _ e).1))
theorem RAI.bel {w W W1 : World} {zt : List Int} {v : Value} {pre : List So} (h : RAI w zt v pre W) (hb : Below W.heap.size W W1) : RAI w zt v pre W1 :=
 ⟨own_below h.own hb, fun x hx => ⟨(ObR.below (h.each x hx).1 hb (Nat.le_refl _)).upto hb.size, (h.each x hx).2⟩, h.below.trans (hb.mono h.below.size)⟩
set_option maxHeartbeats 4000000 in
theorem rall_any {B : Nat} (A : Option Addr) (n c : Nat) (zs : List Int) (pl to : Int) (L : List SR) (w : World) (hr : Reads w B 1 A n (cellsOf .u8 zs)) (hB : B <= w.heap.size) (hz : AreB zs) (hl : n <= c) (hcap : c <= 9223372036854775807) (hm : n <= 1099511627776)
 (h0 : -9223372036854775808 <= pl) (h1 : pl <= 9223372036854775807) (t0 : -9223372036854775808 <= to) (t1 : to <= 9223372036854775807) (hL : scanAt (zs.take (cutN n to)) pl L) :
 Calls Tryz.prog 38 #[.slice A n c, .int .i64 pl, .int .i64 to] w fun e w' => ∃ v l, e = .returned v /\ RowsS (zs.take (cutN n to)) w' w.heap.size v l /\ l.map (·.r) = L /\ Below w.heap.size w w' := by
 have hlz : zs.length = n := hr.len
 have hsh := hL.short
 have hTn := cutN_le n to
 have hlt : (zs.take (cutN n to)).length = cutN n to := by rw [List.length_take, hlz]; omega
 rw [hlt] at hsh
 have HZ := Lib.hid (And.intro hr (And.intro hlz hlt))
 have hL2 := hL
 obtain ⟨zt, hzt⟩ : ∃ zt, zs.take (cutN n to) = zt := ⟨_, rfl⟩
 have HT := Lib.hid hzt
 rw [hzt] at hL2 ⊢
 clear hlz hlt hr hzt hL
 go_enter Tryz.func38, Tryz.ntmps38
 go_wp2
 go_loopw [7, 8, 9] (fun s7 s8 s9 wr => ∃ (A1 : Option Addr) (c1 : Nat) (pre : List So) (rest : List SR) (at_ : Int), s7 = .slice A1 pre.length c1 /\ s8 = .int .i64 at_ /\ s9 = .int .i64 pre.length /\ (-9223372036854775808 <= at_ /\ at_ <= 9223372036854775807) /\ Hid (scanAt zt at_ rest /\ pre.map (·.r) ++ rest = L /\ RAI w zt (.slice A1 pre.length c1) pre wr))
   (fun _ _ s9 _ => L.length + 1 - (intOf s9).toNat)
 case atStart => exact ⟨none, 0, [], L, pl, rfl, rfl, rfl, ⟨h0, h1⟩, Lib.hid ⟨hL2, rfl, World.ownsRow_nil _ _ _ _, (fun x hx => by cases hx), Below.refl _ _⟩⟩
 case round =>
   obtain ⟨A1, c1, pre, rest, at_, rfl, rfl, rfl, hrg, HR⟩ := hrel
   have hlen : pre.length + rest.length = L.length := by rw [<- HR.out.2.1]; simp
   have hpn : (pre.length : Int) <= n := by omega
   have hR := HZ.out.1.below (HR.out.2.2.below.mono hB)
   have hsW := HR.out.2.2.below.size
   cases rest with
   | nil =>
     have hno := HR.out.1
     have hno2 : noOb (zs.take (cutN zs.length to)) at_ := by rw [HZ.out.2.1, HT.out]; exact hno
     rcases noOb_open hno2 with hno3 | ⟨r, rfl, hr2, hto⟩
     · have DE := Lib.hid (rodec_no A n c at_ zs wr hR (by omega) hz hl hcap (by omega) hrg.1 hrg.2 hno3)
       clear hno hno2 hno3 hR
       go_wp2_with (go_at_call 66; refine DE.out.mono ?_; rintro e w2 ⟨rfl, hb2⟩)
       go_ret
       have R2 := HR.out.2.2.bel (hb2.alloc hb2.size (.cells #[.int .i64 0, .slice none 0 0, .slice none 0 0, .slice none 0 0] 83))
       exact ⟨_, pre, rfl, ⟨R2.own, fun x hx => (R2.each x hx).1⟩, by rw [<- HR.out.2.1]; simp, R2.below⟩
     · have DE := Lib.hid (rodec_yes A n c r.j r.k r.s zs wr hR (by omega) hz hl hcap (by omega) hr2.at_ hr2.dec)
       obtain ⟨fn, hfn⟩ : ∃ fn, r.j + (r.s + padn r.s 8) = fn := ⟨_, rfl⟩
       have hgt : decide (to < (fn : Int)) = true := decide_eq_true (by rw [<- hfn]; exact hto)
       rw [hfn] at DE
       clear hno hno2 hR hto hr2 hfn
       by_cases hge : to <= (r.j : Int)
       · have hd : decide (to <= (r.j : Int)) = true := decide_eq_true hge
         go_wp2_with (go_at_call 66; refine DE.out.mono ?_; rintro e w2 ⟨B1, m1, d1, B2, m2, d2, B3, m3, d3, rfl, hb2, -⟩)
         go_ret
         have R2 := HR.out.2.2.bel (hb2.alloc hb2.size (.cells #[.int .i64 r.k, .slice B1 m1 d1, .slice B2 m2 d2, .slice B3 m3 d3] 83))
         exact ⟨_, pre, rfl, ⟨R2.own, fun x hx => (R2.each x hx).1⟩, by rw [<- HR.out.2.1]; simp, R2.below⟩
       · have hd : decide (to <= (r.j : Int)) = false := decide_eq_false hge
         go_wp2_with (go_at_call 66; refine DE.out.mono ?_; rintro e w2 ⟨B1, m1, d1, B2, m2, d2, B3, m3, d3, rfl, hb2, -⟩)
         go_ret
         have R2 := HR.out.2.2.bel (hb2.alloc hb2.size (.cells #[.int .i64 r.k, .slice B1 m1 d1, .slice B2 m2 d2, .slice B3 m3 d3] 83))
         exact ⟨_, pre, rfl, ⟨R2.own, fun x hx => (R2.each x hx).1⟩, by rw [<- HR.out.2.1]; simp, R2.below⟩
   | cons t rest =>
     obtain ⟨rfl, hob, hc2⟩ := HR.out.1
     have hob2 : t.Is (zs.take (cutN zs.length to)) := by rw [HZ.out.2.1, HT.out]; exact hob
     obtain ⟨hi2, hf2, hj2⟩ := is_open hob2
     have hroom := hob.room
     have hjs : t.j + t.s <= cutN n to := by have := hob2.room; rw [HZ.out.2.1, HZ.out.2.2] at this; omega
     have hw3 : t.wds zt = t.wds zs /\ t.raw zt = t.raw zs /\ t.its zt = t.its zs := by rw [<- HT.out]; exact ⟨wds_take hjs, raw_take hjs, its_take hjs⟩
     have DE := Lib.hid (rodec_own A n c t.j t.k t.s zs wr hR (by omega) hz hl hcap (by omega) hi2.at_ hi2.dec)
     obtain ⟨fn, hfn⟩ : ∃ fn, t.j + (t.s + padn t.s 8) = fn := ⟨_, rfl⟩
     have hfi : t.fin = fn := hfn
     have hgt : decide (to < (fn : Int)) = false := decide_eq_false (by rw [<- hfi]; omega)
     have hd : decide (to <= (t.j : Int)) = false := decide_eq_false (by omega)
     have hfr : (-9223372036854775808 : Int) <= fn /\ (fn : Int) <= 9223372036854775807 := by rw [<- hfi]; omega
     rw [hfn] at DE
     have HW := Lib.hid (And.intro hw3 (And.intro hfi hc2))
     obtain ⟨i0, hi, hz0, hz1, hz2⟩ := info_parts rowInfo17
     have s1 := sq1 (m := pre.length) (by omega)
     have s2 := sq2 (m := pre.length) (by omega)
     clear hob hob2 hi2 hf2 hj2 hroom hjs hw3 hfn hfi hc2 hR
     go_wp2_with (first
       | (go_at_call 66; refine DE.out.mono ?_; rintro e w2 ⟨B1, m1, d1, B2, m2, d2, B3, m3, d3, rfl, hb2, how⟩; have HOW := Lib.hid how; have HB2 := Lib.hid hb2; have hz := Blk.new w2 83 #[.int .i64 t.k, .slice B1 m1 d1, .slice B2 m2 d2, .slice B3 m3 d3]; have z0 := hz.cell 0; have z1 := hz.cell 1; have z2 := hz.cell 2; have z3 := hz.cell 3; clear hb2 how)
       | (at_builtin; go_loud (refine wpList_append_any _ rfl _ _ 79 rfl w.heap.size 85 i0 (.agg #[.int .i64 0, .int .i64 0, .int .i64 0, .slice none 0 0, .slice none 0 0, .slice none 0 0]) 6 96 Tryz.underlying79 hi hz0 hz1 hz2 rfl (by decide) (.slice A1 pre.length c1) pre.length (cellsS pre) rfl (((own_below HR.out.2.2.own HB2.out).alloc _).alloc _) _ _ 1 1 [.int .i64 t.j, .int .i64 fn, .int .i64 t.k, .slice B1 m1 d1, .slice B2 m2 d2, .slice B3 m3 d3] rfl (row6At (g := w2.heap.size + 1) (World.size_alloc _ _) 85 #[.int .i64 t.j, .int .i64 fn, .int .i64 t.k, .slice B1 m1 d1, .slice B2 m2 d2, .slice B3 m3 d3] rfl) (row6One _ _ _ _ _ _ _ _ _ _ _ _) s1 s2 (by have := HB2.out.size; simp; omega) ?_; intro v1 w5 hown1 hg1 hat1; obtain ⟨A4, c4, rfl, -, -⟩ := own_form hown1; have H5 := Lib.hid (And.intro hown1 (And.intro hg1 hat1)); clear hown1 hg1 hat1)))
     have N5 : RAI w zt (.slice A4 (pre.length + 1) c4) (pre ++ [⟨t, B1, m1, d1, B2, m2, d2, B3, m3, d3⟩]) w5 := by
       have hb := HB2.out
       have ho := HOW.out
       obtain ⟨⟨e1, e2, e3⟩, efn, -⟩ := HW.out
       refine HR.out.2.2.next (hb.alloc hb.size (.cells #[.int .i64 t.k, .slice B1 m1 d1, .slice B2 m2 d2, .slice B3 m3 d3] 83)) ?_ ?_ ?_ H5.out.2.1 H5.out.2.2
       · show ObR _ _ _ _ _ (t.wds zt) _ _ _ (t.raw zt) _ _ _ (t.its zt)
         rw [e1, e2, e3]
         exact (ObR.below ho.reads (boxed w2 _) (Nat.le_refl _)).upto (boxed w2 _).size
       · intro k hk
         rcases hk with hk | hk | hk
         · cases B1 with
           | none => cases hk
           | some ad => injection hk with hk; subst hk; exact (ho.wo.lt ad.block rfl).1
         · cases B2 with
           | none => cases hk
           | some ad => injection hk with hk; subst hk; exact (ho.ro.lt ad.block rfl).1
         · cases B3 with
           | none => cases hk
           | some ad => injection hk with hk; subst hk; exact (ho.io.lt ad.block rfl).1
       · have := H5.out.1
         unfold So.cs
         rw [efn]
         exact this
     have HN := Lib.hid N5
     clear N5
     go_roundw
     case rel => exact ⟨A4, c4, pre ++ [⟨t, B1, m1, d1, B2, m2, d2, B3, m3, d3⟩], rest, fn, by simp, rfl, by rw [List.length_append]; go_num, hfr, Lib.hid ⟨by have := HW.out.2.2; rw [HW.out.2.1] at this; exact this, by rw [<- HR.out.2.1]; simp, by have := HN.out; rw [List.length_append]; exact this⟩⟩
     case measure => simp [intOf]; omega
theorem cellsS_at : ∀ (l : List So) (i : Nat) (x : So), l[i]? = some x -> ∀ q, q < 6 -> (cellsS l)[i * 6 + q]? = x.cs[q]?
 | [], i, x, h, q, hq => by simp at h
 | y :: l, 0, x, h, q, hq => by
   have e : y = x := by simpa using h
   subst e
   show (y.cs ++ (l.map So.cs).flatten)[0 * 6 + q]? = _
   rw [Nat.zero_mul, Nat.zero_add, List.getElem?_append_left hq]
 | y :: l, i + 1, x, h, q, hq => by
   have h9 := cellsS_at l i x (by simpa using h) q hq
   show (y.cs ++ (l.map So.cs).flatten)[(i + 1) * 6 + q]? = _
   rw [List.getElem?_append_right (by show 6 <= _; omega)]
   have e : (i + 1) * 6 + q - y.cs.length = i * 6 + q := by show (i + 1) * 6 + q - 6 = _; omega
   rw [e]; exact h9
theorem RowsS.at_ {zs : List Int} {W : World} {base i : Nat} {v : Value} {l : List So} (h : RowsS zs W base v l) (hi : i < l.length) :
 ∃ b off c x, v = .slice (some ⟨b, off, none⟩) l.length c /\ l.length <= c /\ c <= 9223372036854775807 /\ l[i]? = some x /\ base <= b /\ b < W.heap.size /\ ∀ q u, x.cs[q]? = some u -> W.cell? ⟨b, off + i * 6 + q, none⟩ = some u := by
 obtain ⟨A, c, rfl, h1, h2⟩ := own_form h.own
 have hr := Reads.of_own h.own
 obtain ⟨b, off, rfl, hb, hc⟩ := hr.at2 (by omega) (by omega)
 have hx := List.getElem?_eq_getElem hi
 refine ⟨b, off, c, l[i], rfl, h1, by unfold maxLen at h2; omega, hx, (h.own.lt b rfl).1, hb, fun q u hu => ?_⟩
 have hq : q < 6 := by have := (List.getElem?_eq_some_iff.1 hu).1; exact this
 rw [Nat.add_assoc]
 exact hc _ _ ((cellsS_at l i _ hx q hq).trans hu)
theorem lastE_at {l : List So} {i : Nat} {x : So} (hi : i + 1 = l.length) (hx : l[i]? = some x) (pl : Int) : lastE pl (l.map (·.r)) = x.r.fin := by
 have hne : l ≠ [] := by intro e; rw [e] at hi; simp at hi
 have e1 : l = l.dropLast ++ [l.getLast hne] := (List.dropLast_concat_getLast hne).symm
 have e2 : l.getLast hne = x := by
   have := List.getLast?_eq_getElem? (l := l)
   rw [List.getLast?_eq_some_getLast hne, show l.length - 1 = i by omega, hx] at this
   simpa using this
 rw [e1, List.map_append, List.map_cons, List.map_nil, lastE_snoc, e2]
set_option maxHeartbeats 2000000 in
theorem rwhole_any {B : Nat} (A : Option Addr) (n c : Nat) (zs : List Int) (pl to : Int) (L : List SR) (w : World) (hr : Reads w B 1 A n (cellsOf .u8 zs)) (hB : B <= w.heap.size) (hz : AreB zs) (hl : n <= c) (hcap : c <= 9223372036854775807) (hm : n <= 1099511627776)
 (h0 : -9223372036854775808 <= pl) (h1 : pl <= 9223372036854775807) (t0 : -9223372036854775808 <= to) (t1 : to <= 9223372036854775807) (hL : scanAt (zs.take (cutN n to)) pl L) :
 Calls Tryz.prog 35 #[.slice A n c, .int .i64 pl, .int .i64 to] w fun e w' => e = .returned (.bool (wholeB n pl to L)) /\ Below w.heap.size w w' := by
 have AL := Lib.hid (rall_any A n c zs pl to L w hr hB hz hl hcap hm h0 h1 t0 t1 hL)
 obtain ⟨b0, hb0⟩ : ∃ b, decide (0 <= pl) = b := ⟨_, rfl⟩
 obtain ⟨b1, hb1⟩ : ∃ b, decide (to <= (n : Int)) = b := ⟨_, rfl⟩
 have HB := Lib.hid (And.intro hb0 hb1)
 have fin : ∀ E : Int, lastE pl L = E -> (b0 && b1 && (E == to)) = wholeB n pl to L := fun E hE => by
   unfold wholeB
   rw [<- HB.out.1, <- HB.out.2, hE]
   by_cases h : E = to
   · subst h; simp
   · rw [beq_false_of_ne h]; simp [h]
 have FN := Lib.hid fin
 clear hr hz hL fin
 have hsb : Hid (∀ (v : Value) (l : List So) (wx : World), RowsS (zs.take (cutN n to)) wx w.heap.size v l -> l.map (·.r) = L -> (∃ A1 c1, v = .slice A1 0 c1 /\ L = []) ∨ (∃ b off cc m x, v = .slice (some ⟨b, off, none⟩) (m + 1) cc /\ m + 1 <= cc /\ cc <= 9223372036854775807 /\ wx.cell? ⟨b, off + m * 6 + 1, none⟩ = some (.int .i64 x) /\ lastE pl L = x)) := Lib.hid (fun v l wx hR hlr => by
   rcases Nat.eq_zero_or_pos l.length with h | h
   · have e := List.eq_nil_of_length_eq_zero h
     subst e
     obtain ⟨A1, c1, e, -, -⟩ := own_form hR.own
     exact .inl ⟨A1, c1, e, hlr.symm⟩
   · obtain ⟨b, off, cc, x, e, hc1, hc2, hx, -, -, hcl⟩ := hR.at_ (i := l.length - 1) (by omega)
     refine .inr ⟨b, off, cc, l.length - 1, x.r.fin, by rw [e, Nat.sub_add_cancel h], by omega, hc2, hcl 1 _ rfl, ?_⟩
     rw [<- hlr]; exact lastE_at (by omega) hx pl)
 have hc0 : decide (0 <= pl) = b0 := HB.out.1
 have hc1 : decide (to <= (n : Int)) = b1 := HB.out.2
 cases b0 <;> cases b1
 all_goals
   go_enter Tryz.func35, Tryz.ntmps35
   go_wp2_with (go_at_call 38; refine AL.out.mono ?_; rintro e w2 ⟨v, l, rfl, hR, hlr, hb2⟩; rcases hsb.out v l w2 hR hlr with ⟨A1, c1, rfl, hL0⟩ | ⟨b, off, cc, m, x, rfl, hmc, hcc, hcell, hlast⟩)
   all_goals
     go_ret
     exact ⟨by first | (rw [<- FN.out _ hlast]; rfl) | (rw [<- FN.out pl (by rw [hL0]; rfl)]; rfl), hb2⟩
end Go.Proofs.YtaeegcohimflbaaGreat
