import Derived.Test.YtgcmbgniaffdlaaGreatCaA
set_option linter.unusedVariables false
set_option maxRecDepth 100000
set_option linter.unusedSimpArgs false
namespace Go.Proofs.YtgcmbgniaffdlaaGreat
open Go.RowKit Go.Shelf
attribute [local go_sem] Oper.semAt_some
def wcB (g : Nat) : Array Value := #[.pointer (some ⟨g, 0, none⟩), .pointer (some ⟨g + 1, 0, none⟩), .pointer (some ⟨g + 2, 0, none⟩)]
def wcV (g : Nat) : Value := .func (.func 97) #[] (wcB g)
structure WcAt (w : World) (g : Nat) (i k d f m : Int) (A : Option Addr) (n c : Nat) (to : Int) : Prop where
 hd : Blk w g 29 #[.int .u64 i, .int .u64 k, .int .i64 d, .int .i64 f, .int .u64 m]
 bs : Blk w (g + 1) 24 #[.slice A n c]
 to_ : Blk w (g + 2) 3 #[.int .i64 to]
theorem cwmake_any (i k d f m : Int) (A : Option Addr) (n c : Nat) (to : Int) (w : World) :
 Calls Tryz.prog 51 #[hdV i k d f m, .slice A n c, .int .i64 to] w fun e w' => e = .returned (wcV w.heap.size) /\ Below w.heap.size w w' /\ w'.heap.size = w.heap.size + 3 /\ WcAt w' w.heap.size i k d f m A n c to := by
 have b0 := (Blk.new w 29 #[.int .u64 i, .int .u64 k, .int .i64 d, .int .i64 f, .int .u64 m])
 have b1 := (Blk.new (w.alloc (.cells #[.int .u64 i, .int .u64 k, .int .i64 d, .int .i64 f, .int .u64 m] 29)) 24 #[.slice A n c])
 have b2 := Blk.new ((w.alloc (.cells #[.int .u64 i, .int .u64 k, .int .i64 d, .int .i64 f, .int .u64 m] 29)).alloc (.cells #[.slice A n c] 24)) 3 #[.int .i64 to]
 have h0 := boxed w (.cells #[.int .u64 i, .int .u64 k, .int .i64 d, .int .i64 f, .int .u64 m] 29)
 have HX := Lib.hid (And.intro b0 (And.intro b1 (And.intro b2 h0)))
 clear b0 b1 b2 h0
 go_enter Tryz.func51, Tryz.ntmps51
 go_wp2
 go_ret
 obtain ⟨b0, b1, b2, h0⟩ := HX.out
 have h1 := h0.alloc h0.size (.cells #[.slice A n c] 24)
 refine ⟨rfl, h1.alloc h1.size _, by simp, (b0.alloc _).alloc _, ?_, ?_⟩
 · have := b1.alloc (.cells #[.int .i64 to] 3)
   rw [World.size_alloc] at this
   exact this
 · simp only [World.size_alloc] at b2
   exact b2
def placeI (x : Int) : Array Value := #[.int .i64 x]
theorem nI_flat (r : SR) : nI (wordsOf r) = (nI (linksOf r)).map (fun q => (r.j : Int) + q) := by
 rw [wordsOf_links]
 unfold nI
 rw [List.map_map, List.map_map]
 refine List.map_congr_left fun q _ => ?_
 show ((r.j + q : Nat) : Int) = (r.j : Int) + (q : Nat)
 omega
def tabsW (k : Nat) : List Nat := 192 :: (List.range k).map (fun i => 256 + 8 * i)
theorem tabsW_next (k : Nat) : nI (tabsW (k + 1)) = nI (tabsW k) ++ [256 + 8 * (k : Int)] := by
 unfold tabsW
 rw [List.range_succ, List.map_append, <- List.cons_append, nI_app]
 congr 1
def preW (lo : Nat) (L : List SR) : List Int := nI (tabsW ((lo - 256) / 8)) ++ nI (L.flatMap wordsOf)
theorem preW_all (lo : Nat) (L : List SR) : nI (wordsS lo L) = preW lo L := by
 unfold preW wordsS tabsW
 rw [<- nI_app, List.cons_append]
theorem preW_snoc (lo : Nat) (L : List SR) (r : SR) : preW lo (L ++ [r]) = preW lo L ++ nI (wordsOf r) := by
 unfold preW
 rw [List.flatMap_append, nI_app, List.append_assoc]
 simp
def rsOf (l : List So) : List SR := l.map (·.r)
theorem rsOf_snoc (l : List So) (x : So) : rsOf (l ++ [x]) = rsOf l ++ [x.r] := by unfold rsOf; rw [List.map_append]; rfl
theorem preW_split (lo : Nat) (L1 L2 : List SR) : preW lo (L1 ++ L2) = preW lo L1 ++ nI (L2.flatMap wordsOf) := by
 unfold preW
 rw [List.flatMap_append, nI_app, List.append_assoc]
def WcI (J : (Nat -> Prop) -> List Int -> World -> Prop) (w : World) (fp₀ : Nat -> Prop) (gy l : Nat) (pre : List Int) (wr : World) : Prop :=
 ∃ fp, J fp pre wr /\ KeepC w.heap.size fp₀ w wr /\ FpOk fp wr /\ (∀ k, fp k -> fp₀ k ∨ w.heap.size <= k) /\ Blk wr gy 141 #[.func (.yield l) #[] #[]] /\ ¬ fp gy
section
variable {J : (Nat -> Prop) -> List Int -> World -> Prop} {Jx : List Int -> World -> Prop} {w wr wx : World} {fp₀ : Nat -> Prop} {gy l N : Nat} {pre Ws : List Int}
theorem WcI.below {M : Nat} (hJ : ∀ fp, OwnFrom M (J fp)) (h : WcI J w fp₀ gy l pre wr) (hb : Below wr.heap.size wr wx) : WcI J w fp₀ gy l pre wx := by
 obtain ⟨fp, h1, h2, h3, h4, h5, h6⟩ := h
 exact ⟨fp, ownFrom_below' (hJ fp) h1 hb, keepC_t h2 (keepC_below hb), fun k hk => Nat.lt_of_lt_of_le (h3 k hk) hb.size, h4, h5.below hb h5.lt, h6⟩
theorem WcI.yield {m : Nat} {P : Program} (hY : ∀ fp pre x W1, J fp pre W1 -> pre.length < Ws.length -> FpOk fp W1 -> TellsP Ws fp pre x W1 -> YieldAt Fence.wide m P l (placeI x) W1 fun e W' =>
     (e = .returned (.bool true) /\ ∃ fp', J fp' (pre ++ [x]) W' /\ GrowF fp W1 fp' W') ∨ (e = .returned (.bool false) /\ Jx (pre ++ [x]) W' /\ Chg fp W1 W'))
   (h : WcI J w fp₀ gy l pre wr) {x : Int} (hp : ∃ rest, pre ++ x :: rest = Ws) : YieldAt Fence.wide m P l (placeI x) wr fun e W' => (e = .returned (.bool true) /\ WcI J w fp₀ gy l (pre ++ [x]) W') ∨ (e = .returned (.bool false) /\ Jx (pre ++ [x]) W') := by
 obtain ⟨fp, h1, h2, h3, h4, h5, h6⟩ := h
 obtain ⟨fn, tmps, assign, body, hy, hR⟩ := hY fp pre x wr h1 (by obtain ⟨r, e⟩ := hp; rw [<- e]; simp) h3 hp
 refine ⟨fn, tmps, assign, body, hy, hR.mono ?_⟩
 rintro e W' (⟨rfl, fp', hj, hg⟩ | ⟨rfl, hj, -⟩)
 · exact .inl ⟨rfl, fp', hj, keepC_t h2 (hg.1.mono (fun k _ e => (h4 k e).symm)), hg.ok, fun k hk => (hg.2 k hk).1.elim (h4 k) (fun e => .inr (by have := h2.size; omega)), (hg.keep h5.lt h6).1.trans h5, (hg.keep h5.lt h6).2⟩
 · exact .inr ⟨rfl, hj⟩
theorem WcI.keep (h : WcI J w fp₀ gy l pre wr) : KeepC w.heap.size fp₀ w wr := by
 obtain ⟨fp, h1, h2, h3, h4, h5, h6⟩ := h
 exact h2
theorem WcI.cell (h : WcI J w fp₀ gy l pre wr) : wr.cell? ⟨gy, 0, none⟩ = some (.func (.yield l) #[] #[]) := by
 obtain ⟨fp, h1, h2, h3, h4, h5, h6⟩ := h
 exact h5.cell 0
end
theorem WcAt.keepC {w wr : World} {fp₀ : Nat -> Prop} {g : Nat} {i k d f m : Int} {A : Option Addr} {n c : Nat} {to : Int} (h : WcAt w g i k d f m A n c to) (hk : KeepC w.heap.size fp₀ w wr) (hT : ¬ fp₀ g /\ ¬ fp₀ (g + 1) /\ ¬ fp₀ (g + 2)) : WcAt wr g i k d f m A n c to :=
 ⟨keepC_blk h.hd hk h.hd.lt hT.1, keepC_blk h.bs hk h.bs.lt hT.2.1, keepC_blk h.to_ hk h.to_.lt hT.2.2⟩
def WcC (w : World) (g : Nat) (i k d f m : Int) (A : Option Addr) (n c : Nat) (to : Int) : Prop :=
 w.cell? ⟨g, 0, none⟩ = some (.int .u64 i) /\ w.cell? ⟨g, 1, none⟩ = some (.int .u64 k) /\ w.cell? ⟨g, 2, none⟩ = some (.int .i64 d) /\ w.cell? ⟨g, 3, none⟩ = some (.int .i64 f) /\ w.cell? ⟨g, 4, none⟩ = some (.int .u64 m) /\ w.cell? ⟨g + 1, 0, none⟩ = some (.slice A n c) /\ w.cell? ⟨g + 2, 0, none⟩ = some (.int .i64 to)
theorem WcAt.cells {w : World} {g : Nat} {i k d f m : Int} {A : Option Addr} {n c : Nat} {to : Int} (h : WcAt w g i k d f m A n c to) : WcC w g i k d f m A n c to :=
 ⟨h.hd.cell 0, h.hd.cell 1, h.hd.cell 2, h.hd.cell 3, h.hd.cell 4, h.bs.cell 0, h.to_.cell 0⟩
set_option maxHeartbeats 4000000 in
theorem words_F (fp₀ : Nat -> Prop) (g B : Nat) (i k d f m : Int) (A : Option Addr) (len cap : Nat) (zs : List Int) (to : Int) (L : List SR) (w : World)
 (hr : Reads w B 1 A len (cellsOf .u8 zs)) (hB : B <= w.heap.size) (hA : 0 < len -> ∀ ad, A = some ad -> ¬ fp₀ ad.block) (hz : AreB zs) (hl : len <= cap) (hcap : cap <= 9223372036854775807) (hm : len <= 1099511627776)
 (hW : WcAt w g i k d f m A len cap to) (hT : ¬ fp₀ g /\ ¬ fp₀ (g + 1) /\ ¬ fp₀ (g + 2)) (hR : rightH d f = true) (t0 : -9223372036854775808 <= to) (t1 : to <= 9223372036854775807) (hL : scanAt (zs.take (cutN len to)) (newK d f : Nat) L) (Ws : List Int) (hWs : Ws = nI (wordsS (newK d f) L)) :
 SeqF Fence.wide 9 Tryz.prog 97 (wcB g) placeI (TellsP Ws) fp₀ (IsL Ws) (PreL Ws) Ws.length w := by
 intro l J Jx W f1 hb hJ hJx hf1 hfok hY hst
 obtain ⟨d1, d2, d3, d4⟩ := rightH_bd hR
 have hnk := newK_val ⟨d1, d2⟩ ⟨d3, d4⟩
 obtain ⟨q, hq⟩ : ∃ q : Nat, d + f = q := ⟨(d + f).toNat, by omega⟩
 have hq2 : 2 <= q /\ q <= 512 := by omega
 have hnk2 : newK d f = 256 + 8 * q := by omega
 have hpw : Hid (preW (newK d f) L = Ws) := Lib.hid (by rw [hWs, preW_all])
 have hbox : Below W.heap.size W (W.alloc (.cells #[.func (.yield l) #[] #[]] 141)) := boxed _ _
 obtain ⟨W0, hW0⟩ : ∃ W0, W.alloc (.cells #[.func (.yield l) #[] #[]] 141) = W0 := ⟨_, rfl⟩
 have yb : Blk W0 W.heap.size 141 #[.func (.yield l) #[] #[]] := by rw [<- hW0]; exact Blk.new _ _ _
 rw [hW0] at hbox
 have hs0 := hbox.size
 have I0 : WcI J w fp₀ W.heap.size l [] W0 := ⟨f1, ownFrom_below' (hJ f1) hst hbox, keepC_below (hb.trans (hbox.mono hb.size)), fun k hk => Nat.lt_of_lt_of_le (hfok k hk) hs0, fun k hk => (hf1 k hk).imp id (fun e => e.1), yb, fun e => by have := hfok _ e; omega⟩
 have C0 := Lib.hid (hW.keepC I0.keep hT).cells
 have HY := Lib.hid (fun (wr : World) (pre : List Int) (x : Int) (h : WcI J w fp₀ W.heap.size l pre wr) (hp : ∃ rest, pre ++ x :: rest = Ws) => WcI.yield (P := Tryz.prog) hY h hp)
 have HYR := Lib.hid (fun (fp : Nat -> Prop) (pre : List Int) (x : Int) (W1 : World) (h1 : J fp pre W1) (h3 : FpOk fp W1) (hp : ∃ rest, pre ++ x :: rest = Ws) => hY fp pre x W1 h1 (by obtain ⟨r, e⟩ := hp; rw [<- e]; simp) h3 hp)
 have HT : Hid (∀ p, p <= q -> ∃ rest, nI (tabsW p) ++ rest = Ws /\ (p < q -> ∃ r2, rest = (256 + 8 * (p : Int)) :: r2)) := Lib.hid (fun p hp => by
   have e0 : Ws = nI (tabsW q) ++ nI (L.flatMap wordsOf) := by
     rw [<- hpw.out]; unfold preW; rw [hnk2, show (256 + 8 * q - 256) / 8 = q by omega]
   obtain ⟨j, rfl⟩ : ∃ j, q = p + j := ⟨q - p, by omega⟩
   clear hq hq2 hnk hnk2 hp
   induction j generalizing p with
   | zero => exact ⟨_, e0.symm, fun h => by omega⟩
   | succ j ih =>
     obtain ⟨rest, h1, -⟩ := ih (p + 1) (by rw [show p + 1 + j = p + (j + 1) by omega]; exact e0)
     rw [tabsW_next, List.append_assoc] at h1
     exact ⟨_, h1, fun _ => ⟨_, rfl⟩⟩)
 have RI := Lib.hid (fun wx => hright_any i k d f m wx)
 rw [hR] at RI
 have DT := Lib.hid (fun wx => hdata_any i k d f m wx)
 have OB := Lib.hid (fun wx => hobjects_any i k d f m wx (by omega) d2 (by omega) d4)
 rw [hq] at OB
 have AL := Lib.hid (fun wx (hx : KeepC w.heap.size fp₀ w wx) => scAll_any A len cap zs (newK d f : Nat) to L wx (hr.keepC hx hB hA) (Nat.le_trans hB hx.size) hz hl hcap hm (by omega) (by omega) t0 t1 hL)
 have hpl : ((newK d f : Nat) : Int) = 256 + 8 * (q : Int) := by omega
 rw [hpl] at AL
 have IH := Lib.hid I0
 have CY := I0.cell
 obtain ⟨x0, x1, x2, x3, x4, x5, x6⟩ := C0.out
 clear hY hst I0 yb C0
 refine callsIn_of_wp_marks Tryz.func97 rfl trivial ?_ rfl
 simp only [wcB, Tryz.ntmps97, List.size_toArray, List.length_cons, List.length_nil, Nat.reduceAdd, Nat.reduceSub, Array.replicate_succ, Array.replicate_zero, List.push_toArray, List.append_toArray, List.nil_append, List.cons_append]
 gi_wp2_with (refine ⟨trivial, ?_⟩; gi_at_call 41; refine (callsIn_wide.2 (RI.out _)).mono ?_; rintro e w1 ⟨rfl, hb1⟩; obtain ⟨fn, tmps, assign, body, hy, hR1⟩ := HY.out w1 [] 192 (IH.out.below hJ hb1) (by obtain ⟨r, e, -⟩ := HT.out 0 (by omega); exact ⟨_, e⟩); dsimp only [placeI] at hy; have cy1 := (IH.out.below hJ hb1).cell)
 refine hR1.mono ?_
 clear hy hR1 cy1 x0 x1 x2 x3 x4 x5 x6 CY
 rintro e w2 (⟨rfl, hI2⟩ | ⟨rfl, hJx2⟩)
 rotate_left
 · gi_wp2
   refine ⟨_, results_none rfl _ _ _, ⟨_, rfl⟩, .inr ⟨_, ?_, hJx2⟩⟩
   obtain ⟨r, e, -⟩ := HT.out 0 (by omega)
   exact ⟨_, e⟩
 have C2 := Lib.hid (fun (wr : World) (h : KeepC w.heap.size fp₀ w wr) => (hW.keepC h hT).cells)
 obtain ⟨x0, x1, x2, x3, x4, x5, x6⟩ := C2.out _ hI2.keep
 have IH2 := Lib.hid hI2
 gi_wp2_with (refine ⟨trivial, ?_⟩; gi_at_call 98; refine (callsIn_wide.2 (DT.out _)).mono ?_; rintro e w3 ⟨rfl, hb3⟩; have I3 := Lib.hid (IH2.out.below hJ hb3))
 clear x0 x1 x2 x3 x4 x5 x6 hI2 hb3
 gi_loopw [5] (fun s5 wr => ∃ (p : Nat), s5 = .int .i64 (256 + 8 * (p : Int)) /\ p <= q /\ Hid (WcI J w fp₀ W.heap.size l (nI (tabsW p)) wr)) (fun s5 _ => 256 + 8 * q - (intOf s5).toNat)
 case atStart => exact ⟨0, rfl, Nat.zero_le _, I3⟩
 case round =>
   obtain ⟨p, rfl, hp, IR⟩ := hrel
   obtain ⟨x0, x1, x2, x3, x4, x5, x6⟩ := C2.out _ IR.out.keep
   by_cases hlt : p < q
   · gi_wp2_with (refine ⟨trivial, ?_⟩; gi_at_call 33; refine (callsIn_wide.2 (OB.out _)).mono ?_; rintro e w4 ⟨rfl, hb4⟩; obtain ⟨fn, tmps, assign, body, hy, hR1⟩ := HY.out w4 (nI (tabsW p)) (256 + 8 * (p : Int)) (IR.out.below hJ hb4) (by obtain ⟨r, e, h⟩ := HT.out p hp; obtain ⟨r2, rfl⟩ := h hlt; exact ⟨_, e⟩); dsimp only [placeI] at hy; have cy4 := (IR.out.below hJ hb4).cell)
     refine hR1.mono ?_
     clear hy hR1 cy4 x0 x1 x2 x3 x4 x5 x6
     rintro e w5 (⟨rfl, hI5⟩ | ⟨rfl, hJx5⟩)
     · have I5 := Lib.hid hI5
       clear hI5
       gi_wp2
       go_roundw
       case rel => exact ⟨p + 1, by go_num, by omega, by rw [tabsW_next]; exact I5⟩
       case measure => simp [intOf]; omega
     · gi_wp2
       refine ⟨_, results_none rfl _ _ _, ⟨_, rfl⟩, .inr ⟨_, ?_, hJx5⟩⟩
       obtain ⟨r, e, h⟩ := HT.out p hp
       obtain ⟨r2, rfl⟩ := h hlt
       exact ⟨r2, by rw [<- e]; simp⟩
   · obtain rfl : p = q := by omega
     gi_wp2_with (refine ⟨trivial, ?_⟩; gi_at_call 33; refine (callsIn_wide.2 (OB.out _)).mono ?_; rintro e w4 ⟨rfl, hb4⟩; have I4 := Lib.hid (IR.out.below hJ hb4))
     clear x0 x1 x2 x3 x4 x5 x6
     have I4d : WcI J w fp₀ W.heap.size l (nI (tabsW p)) w4.drew := I4.out.below hJ (below_drewn (Below.refl _ _) 1)
     refine region_wide (S := fun w' => w'.cell? ⟨g, 0, none⟩ = some (.int .u64 i) /\ w'.cell? ⟨g, 1, none⟩ = some (.int .u64 k) /\ w'.cell? ⟨g, 2, none⟩ = some (.int .i64 d) /\ w'.cell? ⟨g, 3, none⟩ = some (.int .i64 f) /\ w'.cell? ⟨g, 4, none⟩ = some (.int .u64 m) /\ w'.cell? ⟨g + 1, 0, none⟩ = some (.slice A len cap) /\ w'.cell? ⟨g + 2, 0, none⟩ = some (.int .i64 to)) 4 (by kernel_rfl) (by kernel_rfl) (C2.out _ I4d.keep) (fun hHeld => ?_)
     refine takeZ_yes (i := 0) (v := ?_) rfl (by kernel_rfl) (by kernel_rfl) (by kernel_rfl) (by kernel_rfl) (fun _ _ _ h => h) (by kernel_rfl) ?_ (by assumption) ?_
     rotate_left
     · intro wz hSw; (try dsimp only at hSw); go_simp; try with_reducible rfl
     simp only [Act.put, lS, lZ, lC]
     refine takeZ_yes (i := 1) (v := ?_) rfl (by kernel_rfl) (by kernel_rfl) (by kernel_rfl) (by kernel_rfl) (fun _ _ _ h => h) (by kernel_rfl) ?_ (by assumption) ?_
     rotate_left
     · intro wz hSw; (try dsimp only at hSw); go_simp; try with_reducible rfl
     simp only [Act.put, lS, lZ, lC]
     refine takeZ_yes (i := 3) (v := ?_) rfl (by kernel_rfl) (by kernel_rfl) (by kernel_rfl) (by kernel_rfl) (fun _ _ _ h => h) (by kernel_rfl) ?_ (by assumption) ?_
     rotate_left
     · intro wz hSw; (try dsimp only at hSw); go_simp; try with_reducible rfl
     simp only [Act.put, lS, lZ, lC]
     refine wpAnyZ_ready (rs := [2]) (by kernel_rfl) (by simp) (AllReadyZ.cons rfl (fun K hK => ?_) AllReadyZ.nil)
     go_simp
     go_at_call 33
     refine (OB.out _).mono ?_
     rintro e w5 ⟨rfl, hb5⟩
     have I5 := I4d.below hJ hb5
     refine hK.out _ _ (C2.out _ I5.keep) (fun hHeld => ?_)
     clear hK K
     try simp only [Act.put, lS, lZ, lC]
     refine wpAnyZ_ready (rs := [4]) (by kernel_rfl) (by simp) (AllReadyZ.last rfl (fun K hK => ?_))
     go_simp
     go_at_call 99
     refine (AL.out _ I5.keep).mono ?_
     rintro e w6 ⟨g6, rfl, hb6, hseq0⟩
     refine hK.out _ _ ?_
     clear hK K
     refine wpAnyZ_done (by kernel_rfl) ?_ _
     dsimp only [OnNormal, Exit.then]
     gi_wp2
     obtain ⟨fpA, a1, a2, a3, a4, a5, a6⟩ := I5
     have hseq := hseq0 fpA a3
     have hs6 := hb6.size
     have hsW := hb.size
     have hgy := a5.lt
     have a1' := ownFrom_below' (hJ fpA) a1 hb6
     have a5' := a5.below hb6 a5.lt
     have HSC := Lib.hid (And.intro hL (show (zs.take (cutN len to)).length <= 1099511627776 by have := cutN_le len to; rw [List.length_take]; omega))
     clear hseq0 I4 I4d IR
     refine wp_range_F (F := Fence.wide) (n := 9) rfl (by omega) (gf := 121) (lb := scB g6) rfl trivial (enters_of Tryz.func121 (by kernel_rfl) rfl) hseq
       (fun k hk => by have := a3 k hk; omega)
       (fun fp pre x => tellsS_own _ L _ fp pre x) (fun _ => rfl)
       (fun fq pre W' => J fq (preW (newK d f) (rsOf pre)) W' /\ Blk W' W.heap.size 141 #[.func (.yield l) #[] #[]] /\ ¬ fq W.heap.size)
       (fun c pre W' => c = .ret /\ SeqEnd (IsL Ws) (PreL Ws) J Jx W')
       (fun fq s A C row hs hg hr => ⟨hJ fq _ A C row hs.1 hg (fun r e => ⟨by have := (hr r e).1; omega, (hr r e).2⟩), own_blkOf (β := Unit) (B := w6.heap.size) (by omega) (fun _ => #[.func (.yield l) #[] #[]]) () A C row hs.2.1 hg hr, hs.2.2⟩)
       (fun c s A C row hs hg hr => ⟨hs.1, seqEnd_own hJ hJx (by omega) () A C row hs.2 hg hr⟩)
       ⟨by rw [show preW (newK d f) (rsOf []) = nI (tabsW p) by unfold preW rsOf; rw [hnk2, show (256 + 8 * p - 256) / 8 = p by omega]; simp [nI]]; exact a1', a5', a6⟩
       (fun x a' W' => ∃ b, Blk W' b 128 #[.int .i64 x.r.k, .slice x.A x.n x.c, .slice x.B x.m x.d, .slice x.C x.p x.q] /\ a' = { tmps := #[.func (.yield l) #[] #[], .pointer (some ⟨g, 0, none⟩), .pointer (some ⟨g + 1, 0, none⟩), .pointer (some ⟨g + 2, 0, none⟩), .pointer (some ⟨W.heap.size, 0, none⟩), .int .i64 (256 + 8 * (p : Int)), .int .i64 x.r.j, .pointer (some ⟨b, 0, none⟩), undef, undef, hdV i k d f m, .bool true, .bool false, .bool false, .func (.yield l) #[] #[], .bool true, .bool false, .bool false, hdV i k d f m, .int .i64 256, .int .i64 (256 + 8 * (p : Int)), hdV i k d f m, .int .i64 (256 + 8 * (p : Int)), .bool false, u24, u25, u26, u27, u28, u29, .slice A len cap, hdV i k d f m, .int .i64 (256 + 8 * (p : Int)), .int .i64 to, scV g6, .int .i64 x.r.j, x.v, undef, undef, undef, undef, undef, undef, undef, undef, undef, undef, undef, undef, undef, undef], defers := [] })
       (fun x a' _ A C row hs hg hr => by
         obtain ⟨b, h1, h2⟩ := hs
         exact ⟨b, own_blkAny b 128 (fun _ : Unit => _) () A C row h1 hg hr, h2⟩)
       ?assign ?body ?done ?stop
     case assign =>
       intro l2 x W3 K hW hK
       dsimp only [So.encs, So.v, obV]
       gi_wp2
       exact hK _ _ (boxed _ _) ⟨_, Blk.new _ _ _, rfl⟩
     case body =>
       rintro l2 fp fq pre x W3 ⟨hJs, yb3, hny⟩ hok hsub hlen hpx - a' ⟨b, hbx, rfl⟩
       obtain ⟨rest, hrest⟩ := hpx.ex
       have hmem : x.r ∈ L := by rw [<- hrest]; simp
       have his := HSC.out.1.mem _ hmem
       have hroom := his.room
       have LK := Lib.hid (links_any hpx.lies his HSC.out.2)
       have b0 := hbx.cell 0
       have b1 := hbx.cell 1
       have b2 := hbx.cell 2
       have b3 := hbx.cell 3
       have HWs : Hid (Ws = preW (newK d f) (rsOf pre) ++ (nI (wordsOf x.r) ++ nI (rest.flatMap wordsOf))) := Lib.hid (by
         rw [<- hpw.out, <- hrest, show pre.map (·.r) ++ x.r :: rest = rsOf pre ++ ([x.r] ++ rest) by simp [rsOf], preW_split, List.flatMap_append, nI_app]
         simp)
       have HEL : Hid (∀ kk, kk < (linksOf x.r).length -> ∃ z y : Int, (nI (linksOf x.r))[kk]? = some z /\ (nI (wordsOf x.r))[kk]? = some y /\ (x.r.j : Int) + z = y /\ 0 <= z /\ z <= 1099511627776) := Lib.hid (fun kk hkk => by
         have h1 := List.getElem?_eq_getElem hkk
         have h2 : (nI (linksOf x.r))[kk]? = some (((linksOf x.r)[kk] : Nat) : Int) := by unfold nI; rw [List.getElem?_map, h1]; rfl
         have h3 : (nI (wordsOf x.r))[kk]? = some ((x.r.j : Int) + ((linksOf x.r)[kk] : Nat)) := by rw [nI_flat, List.getElem?_map, h2]; rfl
         have h4 : x.r.j + (linksOf x.r)[kk] ∈ wordsOf x.r := by rw [wordsOf_links]; exact List.mem_map.2 ⟨_, List.getElem_mem hkk, rfl⟩
         have h5 := linkS_room his ((mem_wordsOf _ _).1 h4)
         have := HSC.out.2
         exact ⟨_, _, h2, h3, rfl, by omega, by omega⟩)
       have hjl : (x.r.j : Int) <= 1099511627776 := by have := HSC.out.2; omega
       obtain ⟨N, hN⟩ : ∃ N, (linksOf x.r).length = N := ⟨_, rfl⟩
       have hwN : (nI (wordsOf x.r)).length = N := by rw [nI_len, <- linksOf_len, hN]
       rw [hN] at LK HEL
       obtain ⟨lk, hlk⟩ : ∃ lk, nI (linksOf x.r) = lk := ⟨_, rfl⟩
       rw [hlk] at LK HEL
       clear hlk hN hroom his
       gi_wp2_with (refine ⟨trivial, ?_⟩; gi_at_call 100; refine (CallsIn.inRound l2 (callsIn_wide.2 LK.out)).mono ?_; rintro e w4 ⟨v, rfl, hown, hb4⟩; obtain ⟨A1, c1, rfl, hc1, hc2⟩ := own_form hown)
       have hs4 := hb4.size
       have hJ4 := ownFrom_below' (hJ fq) hJs hb4
       have yb4 := yb3.below hb4 yb3.lt
       have G4 := GrowF.below hok hb4
       have hrd0 := Reads.of_own hown
       have hlkN : lk.length = N := hrd0.len
       have hnew : ∀ ad, A1 = some ad -> W3.heap.size <= ad.block := fun ad e => by subst e; exact (hown.lt ad.block rfl).1
       have hNm : N <= 9223372036854775807 := by unfold maxLen at hc2; omega
       have hokB : ∀ k, fq k -> k < W3.heap.size := hok
       clear hown b0 b1 b2 b3 LK
       gi_loopw [40] (fun s40 wr => ∃ (kk : Nat) (fp' : Nat -> Prop), s40 = .int .i64 kk /\ kk <= N /\ J fp' (preW (newK d f) (rsOf pre) ++ (nI (wordsOf x.r)).take kk) wr /\ GrowF fq w4 fp' wr) (fun s40 _ => N - (intOf s40).toNat)
       case atStart => exact ⟨0, fq, rfl, Nat.zero_le _, by rw [List.take_zero, List.append_nil]; exact hJ4, GrowF.refl G4.ok⟩
       case round =>
         obtain ⟨kk, fp', rfl, hk, hJr, hgr⟩ := hrel
         have yr := (hgr.keep yb4.lt hny).1.trans yb4
         have y3r := Blk.cell yr 0
         by_cases hlt : kk < N
         · have hrd : Reads wr w4.heap.size 1 A1 N (cellsOf .i64 lk) := hrd0.chg hgr.1 (Nat.le_refl _) (fun _ ad e hq => by have := hnew ad e; have := hokB _ hq; omega)
           obtain ⟨bl, off, hA1, _, h1c⟩ := hrd.plain (by omega)
           obtain ⟨z, y, hz1, hy1, hzy, hz2, hz3⟩ := HEL.out kk hlt
           have q1 := h1c kk hlt
           have hzd : lk.getD kk 0 = z := by rw [List.getD_eq_getElem?_getD, hz1]; rfl
           rw [hzd] at q1
           have htk : (nI (wordsOf x.r)).take (kk + 1) = (nI (wordsOf x.r)).take kk ++ [y] := by
             obtain ⟨hp', e'⟩ := List.getElem?_eq_some_iff.1 hy1
             rw [List.take_succ_eq_append_getElem hp', e']
           have hLe : Ws = (preW (newK d f) (rsOf pre) ++ (nI (wordsOf x.r)).take kk) ++ y :: ((nI (wordsOf x.r)).drop (kk + 1) ++ nI (rest.flatMap wordsOf)) := by
             have h1 : nI (wordsOf x.r) = (nI (wordsOf x.r)).take (kk + 1) ++ (nI (wordsOf x.r)).drop (kk + 1) := (List.take_append_drop _ _).symm
             rw [HWs.out]
             conv => lhs; rw [h1, htk]
             simp
           obtain ⟨fn, tmps, assign, body, hy, hR⟩ := YieldAt.deep 6 l2 (HYR.out fp' (preW (newK d f) (rsOf pre) ++ (nI (wordsOf x.r)).take kk) y wr hJr hgr.ok ⟨_, hLe.symm⟩)
           dsimp only [placeI] at hy
           have i1 : (kk : Int) < (N : Int) := by omega
           rw [hA1]
           have hadd : IntKind.i64.wrap ((x.r.j : Int) + z) = y := by rw [IntKind.wrap_i64]; omega
           have HF : Hid (preW (newK d f) (rsOf pre) ++ (nI (wordsOf x.r)).take kk ++ [y] = preW (newK d f) (rsOf pre) ++ (nI (wordsOf x.r)).take (kk + 1)) := Lib.hid (by rw [htk, List.append_assoc])
           have HP : Hid (PreL Ws (preW (newK d f) (rsOf pre) ++ (nI (wordsOf x.r)).take kk ++ [y])) := Lib.hid ⟨(nI (wordsOf x.r)).drop (kk + 1) ++ nI (rest.flatMap wordsOf), by rw [hLe]; simp⟩
           have hzy2 := Lib.hid hzy
           clear h1c hrd htk hLe hz1 hy1 hzy hzd
           gi_wp2
           refine hR.mono ?_
           rintro e W5 (⟨rfl, fp5, hJ5, hg5⟩ | ⟨rfl, hJx5, hc5⟩)
           · gi_wp2
             go_roundw
             case rel => exact ⟨kk + 1, fp5, by go_num, by omega, by rw [<- HF.out]; exact hJ5, hgr.trans hg5⟩
             case measure => simp [intOf]; omega
           · gi_wp2
             exact ⟨(G4.trans hgr).1.trans hc5 (fun j hj e => ((G4.trans hgr).2 j e).1.elim id (fun e2 => by omega)), rfl, .inr ⟨_, HP.out, hJx5⟩⟩
         · have e : kk = N := by omega
           subst e
           gi_wp2
           refine ⟨fp', ⟨?_, yr, (hgr.keep yb4.lt hny).2⟩, G4.trans hgr⟩
           rw [rsOf_snoc, preW_snoc]
           rw [List.take_of_length_le (Nat.le_of_eq hwN)] at hJr
           exact hJr
     case done =>
       rintro D fq xs W3 hD hxs ⟨hJs, -, -⟩ hK
       gi_wp2
       refine ⟨by simp, .inl ⟨_, _, rfl, run_takeDeferred hK, ?_⟩⟩
       refine ⟨_, results_none rfl _ _ _, ⟨_, rfl⟩, .inl ⟨preW (newK d f) (rsOf xs), fq, ?_, (hJ fq).putObj _ hJs (by omega) hK rfl⟩⟩
       have hxs' : rsOf xs = L := hxs
       unfold IsL; rw [hxs']; exact hpw.out
     case stop =>
       rintro D cc pre W3 hD hp ⟨rfl, hf⟩ hK
       gi_wp2
       refine ⟨by simp, .inl ⟨_, _, rfl, run_takeDeferred hK, ?_⟩⟩
       refine ⟨_, results_none rfl _ _ _, ⟨_, rfl⟩, ?_⟩
       rcases hf with ⟨xs, fp', e1, e2⟩ | ⟨pre', e1, e2⟩
       · exact .inl ⟨xs, fp', e1, (hJ fp').putObj _ e2 (by omega) hK rfl⟩
       · exact .inr ⟨pre', e1, hJx.putObj _ e2 (by omega) hK rfl⟩
attribute [local go_sem] Oper.semAt_some
theorem words_most {zs : List Int} {d f : Int} (hR : rightH d f = true) {L : List SR} (hL : scanAt zs (newK d f : Nat) L) : (wordsS (newK d f) L).length <= 513 + zs.length := by
 obtain ⟨d1, d2, d3, d4⟩ := rightH_bd hR
 have hnk := newK_val ⟨d1, d2⟩ ⟨d3, d4⟩
 unfold wordsS
 rw [List.length_cons, List.length_append, List.length_map, List.length_range]
 by_cases h : L = []
 · subst h
   show _ + 0 + 1 <= _
   omega
 · have h1 := flat_len hL h
   omega
theorem run_clear_blk {P : Program} (w : World) (t e ty : TypeId) (z : Value) (ht : P.underlying t = some (.slice e)) (hv : ∀ w, (zeroValue e).run P w = .ok z w) (hz : z.cells = #[z]) (h1 : z.oneCell' = true) (g off n c : Nat) (cur : List Value) (tt : TypeId) (hg : Blk w g tt cur.toArray)
 (hn : 0 < n) (hfit : off + n <= cur.length) :
 (Builtin.clear_ #[t] ty #[.slice (some ⟨g, off, none⟩) n c]).run P w = .ok (.tuple #[]) (w.setRow g (splice cur off (List.replicate n z)).toArray) := by
 have hzc : (Builtin.zeroCells z.cells n).toList = List.replicate n z := by
   rw [hz]
   simp [Builtin.zeroCells]
   apply List.ext_getElem
   · simp
   · intro i h1 h2
     simp [Nat.mod_one]
 have hst := run_storeCells_at P g off tt (List.replicate n z) 0 cur.toArray w hg (by simpa using hfit) (by intro v hv'; rw [List.eq_of_mem_replicate hv']; exact h1)
 simp only [Nat.add_zero] at hst
 obtain ⟨m, rfl⟩ : ∃ m, n = m + 1 := ⟨n - 1, by omega⟩
 simp [Builtin.clear_, run_underlying ht, hv, hzc, hst, splice]
theorem wpListIn_clear {F : Fence} {n : Nat} {P : Program} (w : World) {ops : Array Oper} {rest : List Oper} {o : Oper} {a : Act} {Q : Exit -> Act -> World -> Prop}
 (hgd : o.guard = none) (s : Operand) (t : TypeId) (hop : o.op = Op.call { callee := Callee.builtin Builtin.clear, args := #[s], argTypes := #[t] }) (hdst : o.dst = none)
   (e : TypeId) (z : Value) (ht : P.underlying t = some (.slice e)) (hv : ∀ w, (zeroValue e).run P w = .ok z w) (hz : z.cells = #[z]) (h1 : z.oneCell' = true)
   (g off m c : Nat) (hs : a.eval s = .slice (some ⟨g, off, none⟩) m c) (cur : List Value) (tt : TypeId) (hg : Blk w g tt cur.toArray) (hn : 0 < m) (hfit : off + m <= cur.length)
   (hK : ∀ w', Hid (Blk w' g tt (splice cur off (List.replicate m z)).toArray) -> Chg (fun k => k = g) w w' -> wpListIn F n P ops Q rest a w') :
   wpListIn F n P ops Q (o :: rest) a w := by
 refine wpListIn_plain hgd fun K hK' => ?_
 have hrun := run_clear_blk (P := P) w t e o.type z ht hv hz h1 g off m c cur tt hg hn hfit
 unfold Oper.wpIn
 refine ⟨?_, ?_⟩
 · simp [Oper.about, hop, resolve, Target.leads, Sem.run_pure]
 · rw [Oper.semAt_plain F _ _ (by rw [hop]; intro c hc'; cases hc')]
   simp [execOp, hop, resolve, invoke, builtin, hs, hrun, Result.andThen]
   have hp : ∀ v, a.put o.dst v = a := fun v => by rw [hdst]; rfl
   refine hK' _ _ ?_
   rw [hp]
   exact hK _ (show _ = _ from setRow_heap w g _ _ tt _ hg) ⟨rfl, rfl, rfl, by simp [World.setRow], fun k hk hne => setRow_other w g k _ hne⟩
end Go.Proofs.YtgcmbgniaffdlaaGreat
