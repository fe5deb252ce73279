/-
  LAYER 17: the document's Entries: its contract.
-/
import Derived.Test.YtjpfbkhjhainpaaScEnts
set_option linter.unusedVariables false
set_option maxRecDepth 100000
set_option linter.unusedSimpArgs false
namespace Go.Proofs.Ytjpfbkhjhainpaa
open Go.RowKit Go.Shelf

theorem take_nextS {L : List SR} {j : Nat} {r : SR} (h : L[j]? = some r) : L.take (j + 1) = L.take j ++ [r] := by rw [List.take_add_one, h]; rfl
/-- What the document's Entries holds between two rounds. -/
structure REJ (w2 wr : World) (zs : List Int) (pl : Int) (L : List SR) (v : Value) (l : List RC) (j : Nat) : Prop where
  own : wr.ownsRow w2.heap.size 59 5 v l.length (cellsR5 l)
  ens : EnsR zs (entsS (L.take j)) l
  each : ∀ rc ∈ l, RcAp wr (fun k => v.ownBlock = some k) rc
  ok : ∀ r ∈ entsS (L.take j), OkE zs pl r
  below : Below w2.heap.size w2 wr
theorem growOwn {W1 W2 : World} {n₀ : Nat} {e : TypeId} {size m : Nat} {ys : List Value} {v v' : Value} {tmp : Obj} (hown : W2.ownsRow n₀ e size v' m ys) (hg : (W1.alloc tmp).grownBy W2 v.ownBlock) (hat : v'.ownBlock = v.ownBlock ∨ v'.ownBlock = some (W1.alloc tmp).heap.size) : GrowF (fun k => v.ownBlock = some k) W1 (fun k => v'.ownBlock = some k) W2 := by
  have hsa : (W1.alloc tmp).heap.size = W1.heap.size + 1 := World.size_alloc _ _
  have hs := hg.size
  refine ⟨⟨hg.os, hg.tape, hg.output, by omega, fun j hj hn => (hg.block j (by omega) (fun e => hn e.symm)).trans (Below.heap_alloc _ _ _ hj)⟩, fun k hk => ⟨?_, (hown.lt k hk).2⟩⟩
  rcases hat with e | e
  · exact .inl (by rw [← e]; exact hk)
  · rw [e] at hk; injection hk with hk; right; omega
section
variable {w2 wr W1 W2 : World} {zs : List Int} {pl : Int} {L : List SR} {v v' : Value} {l : List RC} {j : Nat} {r : SR} {rc : RC} {tmp : Obj}
theorem REJ.bel (h : REJ w2 wr zs pl L v l j) (hb : Below wr.heap.size wr W1) : REJ w2 W1 zs pl L v l j :=
  ⟨own_below h.own hb, h.ens, fun rc hrc => ⟨((h.each rc hrc).1.below hb).more hb.size, (h.each rc hrc).2⟩, h.ok, h.below.trans (hb.mono h.below.size)⟩
theorem REJ.skip (h : REJ w2 wr zs pl L v l j) (hr : L[j]? = some r) (hk : r.k ≠ 3) : REJ w2 wr zs pl L v l (j + 1) := by
  have e : entsS (L.take (j + 1)) = entsS (L.take j) := by rw [take_nextS hr, entsS_snoc, if_neg hk]
  exact ⟨h.own, by rw [e]; exact h.ens, h.each, by rw [e]; exact h.ok, h.below⟩
theorem REJ.next (h : REJ w2 wr zs pl L v l j) (hb : Below wr.heap.size wr W1) (hT : Txt W1 W1.heap.size rc.A rc.n rc.c rc.its) (hn : ∀ ad, rc.A = some ad → wr.heap.size ≤ ad.block) (hr : L[j]? = some r) (hk : r.k = 3) (hE : EnR zs r rc) (hok : OkE zs pl r)
    (hown : W2.ownsRow w2.heap.size 59 5 v' (l.length + 1) (cellsR5 l ++ rc.cs)) (hg : (W1.alloc tmp).grownBy W2 v.ownBlock) (hat : v'.ownBlock = v.ownBlock ∨ v'.ownBlock = some (W1.alloc tmp).heap.size) : REJ w2 W2 zs pl L v' (l ++ [rc]) (j + 1) := by
  have e : entsS (L.take (j + 1)) = entsS (L.take j) ++ [r] := by rw [take_nextS hr, entsS_snoc, if_pos hk]
  have h1 := h.bel hb
  have G := growOwn hown hg hat
  refine ⟨by rw [List.length_append, cellsR5_snoc]; exact hown, by rw [e]; exact h.ens.snoc hE, fun y hy => ?_, fun q hq => ?_, h1.below.trans (G.1.below h1.below.size (fun q _ e => (h1.own.lt q e).1))⟩
  · rcases List.mem_append.1 hy with hy | hy
    · exact (h1.each y hy).grow G
    · rw [List.mem_singleton.1 hy]
      have h9 : RcAp W1 (fun k => v.ownBlock = some k) rc := ⟨hT, fun _ ad ha e => by have := (h.own.lt _ e).2; have := hn ad ha; omega⟩
      exact h9.grow G
  · rw [e] at hq
    rcases List.mem_append.1 hq with hq | hq
    · exact h.ok q hq
    · rw [List.mem_singleton.1 hq]; exact hok
end

theorem ItemsP.yes {zs : List Int} {lo hi : Int} {is : List Int} {w w' : World} {e : Ending} (h : ItemsP zs lo hi is w e w') (ha : ∀ p ∈ is, OkI zs lo hi p) : Below w.heap.size w w' ∧ ∃ A c, e = .returned (.tuple #[.slice A is.length c, .bool true]) ∧ Txt w' w'.heap.size A is.length c (itemsT zs is) ∧ ∀ ad, A = some ad → w.heap.size ≤ ad.block :=
  ⟨h.1, h.2.elim (fun x => x.2) (fun x => absurd ha x.1)⟩
theorem ItemsP.no {zs : List Int} {lo hi : Int} {is : List Int} {w w' : World} {e : Ending} (h : ItemsP zs lo hi is w e w') (ha : ¬ ∀ p ∈ is, OkI zs lo hi p) : Below w.heap.size w w' ∧ e = .returned (.tuple #[.slice none 0 0, .bool false]) :=
  ⟨h.1, h.2.elim (fun x => absurd x.1 ha) (fun x => x.2)⟩

set_option maxHeartbeats 3000000 in
theorem rEnts_any {B : Nat} (A : Option Addr) (n c : Nat) (zs : List Int) (pl to : Int) (L : List SR) (w : World) (hr : Reads w B 1 A n (cellsOf .u8 zs)) (hB : B ≤ w.heap.size) (hz : AreB zs) (hl : n ≤ c) (hcap : c ≤ 9223372036854775807) (hm : n ≤ 1099511627776)
    (h0 : -9223372036854775808 ≤ pl) (h1 : pl ≤ 9223372036854775807) (t0 : -9223372036854775808 ≤ to) (t1 : to ≤ 9223372036854775807) (hL : scanAt (zs.take (cutN n to)) pl L) :
    Calls Try.prog 13 #[.slice A n c, .int .i64 pl, .int .i64 to] w (EntsP zs pl L w) := by
  have AL := Lib.hid (rall_any A n c zs pl to L w hr hB hz hl hcap hm h0 h1 t0 t1 hL)
  have hlz : zs.length = n := hr.len
  have hn : (zs.take (cutN n to)).length = cutN n to := by rw [List.length_take, hlz]; unfold cutN; omega
  obtain ⟨T, hT⟩ : ∃ T, cutN n to = T := ⟨_, rfl⟩
  have hTn : T ≤ n := by rw [← hT]; exact cutN_le _ _
  rw [hT] at hL hn AL
  have hsh := hL.short.1
  rw [hn] at hsh
  have HRD := Lib.hid (And.intro hr (And.intro hz (And.intro hlz (And.intro hL hn))))
  obtain ⟨m, hmL⟩ : ∃ m, L.length = m := ⟨_, rfl⟩
  have HM := Lib.hid hmL
  rw [hmL] at hsh
  have hmm : m ≤ 1099511627776 := by omega
  clear hr hz hlz hL hn hmL hT
  go_enter Try.func13, Try.ntmps13
  go_wp2_with (go_at_call 7; refine AL.out.mono ?_; rintro e w2 ⟨v1, l1, rfl, hR1, hr1, hb1⟩; obtain ⟨A1, c1, rfl, -, -⟩ := own_form hR1.own; (have hl1 : l1.length = m := by rw [← HM.out, ← hr1, List.length_map]); rw [hl1] at hR1 ⊢; have H1 := Lib.hid (And.intro hR1 (And.intro hr1 (And.intro hl1 hb1))); clear hR1 hr1 hl1 hb1)
  go_loopw [8, 10] (fun s8 s10 wr => ∃ (A2 : Option Addr) (c2 : Nat) (l : List RC) (j : Nat), s8 = .slice A2 l.length c2 ∧ s10 = .int .i64 j ∧ j ≤ m ∧ Hid (REJ w2 wr zs pl L (.slice A2 l.length c2) l j)) (fun _ s10 _ => m - (intOf s10).toNat)
  case atStart => exact ⟨none, 0, [], 0, rfl, rfl, Nat.zero_le _, Lib.hid ⟨World.ownsRow_nil _ _ _ _, ⟨rfl, fun i rc h => by simp at h⟩, (fun rc h => by cases h), (fun r h => by cases h), Below.refl _ _⟩⟩
  case round =>
    obtain ⟨A2, c2, l, j, rfl, rfl, hj, HJ⟩ := hrel
    by_cases hlt : j < m
    · have hbr := HJ.out.below
      have hR1 := H1.out.1.below hbr
      obtain ⟨b1, o1, d1, x, e1, hc1, hd1, hx, -, hbl1, hcl1⟩ := hR1.at_ (i := j) (by rw [H1.out.2.2.1]; exact hlt)
      obtain rfl : A1 = some ⟨b1, o1, none⟩ := by injection e1
      have hcc1 : c1 = d1 := by injection e1
      subst hcc1
      rw [H1.out.2.2.1] at hc1
      have hxr : L[j]? = some x.r := by rw [← H1.out.2.1, List.getElem?_map, hx]; rfl
      have hlx := hR1.lies x (List.mem_of_getElem? hx)
      obtain ⟨hr, hz, hlz, hL, hn⟩ := HRD.out
      have hmem : x.r ∈ L := List.mem_of_getElem? hxr
      have his := hL.mem _ hmem
      have hroom := his.room
      have hlens := his.lens
      rw [hn] at hroom hlens
      have k0 : wr.cell? ⟨b1, o1 + j * 6 + 2, none⟩ = some (.int .i64 x.r.k) := hcl1 2 _ rfl
      by_cases hk : x.r.k = 3
      · have hki : (x.r.k : Int) = 3 := by omega
        have hlf := So.lies_full hlx (by omega : x.r.j + x.r.s ≤ T)
        have hitT : x.r.its (zs.take T) = x.r.its zs := its_take (by omega)
        rw [hitT] at hlens
        have hit3 : (x.r.its zs).length = x.p := hlf.ir.len
        have hwl : (x.r.wds zs).length = x.n := hlf.wr.len
        have hw5 : (x.r.wds zs).length = 5 := by unfold SR.wds; rw [dW_length, hki]; rfl
        have hxn : x.n = 5 := by omega
        have hbww := H1.out.2.2.2.trans (hbr.mono H1.out.2.2.2.size)
        have IT := Lib.hid (fun wx (hb : Below wr.heap.size wr wx) => rItems_any A n c zs pl x.r.j 3 x.A x.n x.c x.B x.m x.d x.C x.p x.q (x.r.its zs) wx (hr.below ((hbww.trans (hb.mono hbww.size)).mono hB)) (Nat.le_trans hB (hbww.trans (hb.mono hbww.size)).size) hz hl hcap hm h0 h1 (by omega) (by omega) ((hlf.ir.below hb)) hb.size (dI_bd (objB_bytes hz _ _) _) hlf.ic.1 (by omega))
        obtain ⟨bw, ow, hAe, hbw, hcw⟩ := hlf.wr.at2 (by omega) (by omega)
        obtain ⟨v0, hv0⟩ : ∃ v, (x.r.wds zs).getD 0 0 = v := ⟨_, rfl⟩
        obtain ⟨v1, hv1⟩ : ∃ v, (x.r.wds zs).getD 1 0 = v := ⟨_, rfl⟩
        obtain ⟨v2, hv2⟩ : ∃ v, (x.r.wds zs).getD 2 0 = v := ⟨_, rfl⟩
        obtain ⟨v3, hv3⟩ : ∃ v, (x.r.wds zs).getD 3 0 = v := ⟨_, rfl⟩
        have HW : Hid (∀ wy, Below wr.heap.size wr wy → wy.cell? ⟨bw, ow, none⟩ = some (.int .u64 v0) ∧ wy.cell? ⟨bw, ow + 1, none⟩ = some (.int .u64 v1) ∧ wy.cell? ⟨bw, ow + 2, none⟩ = some (.int .u64 v2) ∧ wy.cell? ⟨bw, ow + 3, none⟩ = some (.int .u64 v3)) := Lib.hid (fun wy hb => by
          have g : ∀ i, i < 5 → wy.cell? ⟨bw, ow + i, none⟩ = some (.int .u64 ((x.r.wds zs).getD i 0)) := fun i hi => (hb.cell (p := ⟨bw, _, none⟩) hbw).trans (hcw i _ (cellsOf_get (by omega)))
          rw [← hv0, ← hv1, ← hv2, ← hv3]
          exact ⟨g 0 (by omega), g 1 (by omega), g 2 (by omega), g 3 (by omega)⟩)
        rw [hAe, hxn] at IT
        have HC : Hid (∀ wx, Below wr.heap.size wr wx → (wx.cell? ⟨b1, o1 + j * 6, none⟩ = some (.int .i64 x.r.j) ∧ wx.cell? ⟨b1, o1 + j * 6 + 2, none⟩ = some (.int .i64 3) ∧ wx.cell? ⟨b1, o1 + j * 6 + 3, none⟩ = some (.slice (some ⟨bw, ow, none⟩) 5 x.c) ∧ wx.cell? ⟨b1, o1 + j * 6 + 4, none⟩ = some (.slice x.B x.m x.d) ∧ wx.cell? ⟨b1, o1 + j * 6 + 5, none⟩ = some (.slice x.C x.p x.q))) := Lib.hid (fun wx hb => by
          have g1 : ∀ q u, x.cs[q]? = some u → wx.cell? ⟨b1, o1 + j * 6 + q, none⟩ = some u := fun q u hu => (hb.cell (p := ⟨b1, _, none⟩) hbl1).trans (hcl1 q u hu)
          refine ⟨g1 0 _ rfl, ?_, ?_, g1 4 _ rfl, g1 5 _ rfl⟩
          · rw [← hki]; exact g1 2 _ rfl
          · rw [← hAe, ← hxn]; exact g1 3 _ rfl)
        have hbw2 : bw < w2.heap.size := by
          obtain ⟨ad, ea, hbb, -⟩ := (H1.out.1.lies x (List.mem_of_getElem? hx)).wr.2 (by omega)
          rw [hAe] at ea; injection ea with ea; subst ea; exact hbb
        have HBW := Lib.hid hbw2
        clear hbw2
        have HV := Lib.hid (And.intro hv0 (And.intro hv1 (And.intro hv2 (And.intro hv3 (And.intro hk (And.intro hxr (And.intro hmem (H1.out.2.2.2))))))))
        rw [hki] at k0
        have s1 := sr5c (m := l.length) (by have := HJ.out.ens.1; have := entsS_le (L.take j); rw [List.length_take] at this; omega)
        have s2 := sr5d (m := l.length) (by have := HJ.out.ens.1; have := entsS_le (L.take j); rw [List.length_take] at this; omega)
        clear hR1 e1 hx hbl1 hcl1 hlx hr hz hlz hL hn his hroom hlens hki hlf hitT hit3 hwl hw5 hxn hAe hcw hv0 hv1 hv2 hv3 hmem hxr hbr hbww
        by_cases hall : ∀ p ∈ x.r.its zs, OkI zs pl x.r.j p
        · have IY := Lib.hid (fun wx (hb : Below wr.heap.size wr wx) => (IT.out wx hb).mono (fun e w' h => ItemsP.yes h hall))
          have HA := Lib.hid hall
          obtain ⟨N4, hN4⟩ : ∃ N4, (x.r.its zs).length = N4 := ⟨_, rfl⟩
          rw [hN4] at IY
          clear IT hall
          go_wp2
          have hb : Below wr.heap.size wr wr.drew := below_drewn (Below.refl _ _) 1
          have HK := Lib.hid (HC.out _ hb)
          go_region_held3 (fun wx => wx.cell? ⟨b1, o1 + j * 6, none⟩ = some (.int .i64 x.r.j) ∧ wx.cell? ⟨b1, o1 + j * 6 + 2, none⟩ = some (.int .i64 3) ∧ wx.cell? ⟨b1, o1 + j * 6 + 3, none⟩ = some (.slice (some ⟨bw, ow, none⟩) 5 x.c) ∧ wx.cell? ⟨b1, o1 + j * 6 + 4, none⟩ = some (.slice x.B x.m x.d) ∧ wx.cell? ⟨b1, o1 + j * 6 + 5, none⟩ = some (.slice x.C x.p x.q))
            (first | assumption | exact HK.out | exact HC.out _ (by assumption))
            ((go_at_call 15; refine (IY.out _ hb).mono ?_; rintro e w4 ⟨hb4, A4, c4, rfl, ht4, hnew4⟩; have hb := hb.trans (hb4.mono hb.size)))
          have HT4 := Lib.hid (And.intro ht4 (And.intro hnew4 (And.intro hN4 hb4)))
          have HBB := Lib.hid hb
          obtain ⟨p0, p2, p3, p4, p5⟩ := HC.out _ hb
          clear ht4 hnew4 hN4 hb4
          go_wp2
          have HC4 : Hid (∀ wy, Below w4.heap.size w4 wy → (wy.cell? ⟨bw, ow, none⟩ = some (.int .u64 v0) ∧ wy.cell? ⟨bw, ow + 1, none⟩ = some (.int .u64 v1) ∧ wy.cell? ⟨bw, ow + 2, none⟩ = some (.int .u64 v2) ∧ wy.cell? ⟨bw, ow + 3, none⟩ = some (.int .u64 v3))) := Lib.hid (fun wy hy => HW.out wy (HBB.out.trans (hy.mono HBB.out.size)))
          clear p0 p2 p3 p4 p5 hb HK
          have hb : Below w4.heap.size w4 w4.drew := below_drewn (Below.refl _ _) 1
          obtain ⟨i0, hi, hz0, hz1, hz2⟩ := info_parts recInfo
          refine wp_region_held_drew (S := fun w' => w'.cell? ⟨bw, ow, none⟩ = some (.int .u64 v0) ∧ w'.cell? ⟨bw, ow + 1, none⟩ = some (.int .u64 v1) ∧ w'.cell? ⟨bw, ow + 2, none⟩ = some (.int .u64 v2) ∧ w'.cell? ⟨bw, ow + 3, none⟩ = some (.int .u64 v3)) (by kernel_rfl) (HC4.out _ hb) (fun hHeld => ?_)
          refine takeH_yes (i := 0) (v := ?_) rfl (by kernel_rfl) (by kernel_rfl) (by kernel_rfl) (fun _ _ _ h => h) (by kernel_rfl) ?_ (by assumption) ?_
          rotate_left
          · intro wz hSw; (try dsimp only at hSw); go_simp; try with_reducible rfl
          simp only [Act.put, List.setIfInBounds_toArray, List.set_cons_zero, List.set_cons_succ]
          refine takeH_yes (i := 1) (v := ?_) rfl (by kernel_rfl) (by kernel_rfl) (by kernel_rfl) (fun _ _ _ h => h) (by kernel_rfl) ?_ (by assumption) ?_
          rotate_left
          · intro wz hSw; (try dsimp only at hSw); go_simp; try with_reducible rfl
          simp only [Act.put, List.setIfInBounds_toArray, List.set_cons_zero, List.set_cons_succ]
          refine takeH_yes (i := 2) (v := ?_) rfl (by kernel_rfl) (by kernel_rfl) (by kernel_rfl) (fun _ _ _ h => h) (by kernel_rfl) ?_ (by assumption) ?_
          rotate_left
          · intro wz hSw; (try dsimp only at hSw); go_simp; try with_reducible rfl
          simp only [Act.put, List.setIfInBounds_toArray, List.set_cons_zero, List.set_cons_succ]
          refine takeH_yes (i := 3) (v := ?_) rfl (by kernel_rfl) (by kernel_rfl) (by kernel_rfl) (fun _ _ _ h => h) (by kernel_rfl) ?_ (by assumption) ?_
          rotate_left
          · intro wz hSw; (try dsimp only at hSw); go_simp; try with_reducible rfl
          simp only [Act.put, List.setIfInBounds_toArray, List.set_cons_zero, List.set_cons_succ]
          refine takeH_yes (i := 4) (v := ?_) rfl (by kernel_rfl) (by kernel_rfl) (by kernel_rfl) (fun _ _ _ h => h) (by kernel_rfl) ?_ (by assumption) ?_
          rotate_left
          · intro wz hSw; (try dsimp only at hSw); go_simp; try with_reducible rfl
          simp only [Act.put, List.setIfInBounds_toArray, List.set_cons_zero, List.set_cons_succ]
          refine takeH_yes (i := 5) (v := ?_) rfl (by kernel_rfl) (by kernel_rfl) (by kernel_rfl) (fun _ _ _ h => h) (by kernel_rfl) ?_ (by assumption) ?_
          rotate_left
          · intro wz hSw; (try dsimp only at hSw); go_simp; try with_reducible rfl
          simp only [Act.put, List.setIfInBounds_toArray, List.set_cons_zero, List.set_cons_succ]
          refine takeH_yes (i := 6) (v := ?_) rfl (by kernel_rfl) (by kernel_rfl) (by kernel_rfl) (fun _ _ _ h => h) (by kernel_rfl) ?_ (by assumption) ?_
          rotate_left
          · intro wz hSw; (try dsimp only at hSw); go_simp; try with_reducible rfl
          simp only [Act.put, List.setIfInBounds_toArray, List.set_cons_zero, List.set_cons_succ]
          refine takeH_yes (i := 7) (v := ?_) rfl (by kernel_rfl) (by kernel_rfl) (by kernel_rfl) (fun _ _ _ h => h) (by kernel_rfl) ?_ (by assumption) ?_
          rotate_left
          · intro wz hSw; (try dsimp only at hSw); go_simp; try with_reducible rfl
          simp only [Act.put, List.setIfInBounds_toArray, List.set_cons_zero, List.set_cons_succ]
          refine takeH_yes (i := 8) (v := ?_) rfl (by kernel_rfl) (by kernel_rfl) (by kernel_rfl) (fun _ _ _ h => h) (by kernel_rfl) ?_ (by assumption) ?_
          rotate_left
          · intro wz hSw; (try dsimp only at hSw); go_simp; try with_reducible rfl
          simp only [Act.put, List.setIfInBounds_toArray, List.set_cons_zero, List.set_cons_succ]
          refine takeH_yes (i := 9) (v := ?_) rfl (by kernel_rfl) (by kernel_rfl) (by kernel_rfl) (fun _ _ _ h => h) (by kernel_rfl) ?_ (by assumption) ?_
          rotate_left
          · intro wz hSw; (try dsimp only at hSw); go_simp; try with_reducible rfl
          simp only [Act.put, List.setIfInBounds_toArray, List.set_cons_zero, List.set_cons_succ]
          refine takeH_yes (i := 10) (v := ?_) rfl (by kernel_rfl) (by kernel_rfl) (by kernel_rfl) (fun _ _ _ h => h) (by kernel_rfl) ?_ (by assumption) ?_
          rotate_left
          · intro wz hSw; (try dsimp only at hSw); go_simp; try with_reducible rfl
          simp only [Act.put, List.setIfInBounds_toArray, List.set_cons_zero, List.set_cons_succ]
          refine takeH_yes (i := 11) (v := ?_) rfl (by kernel_rfl) (by kernel_rfl) (by kernel_rfl) (fun _ _ _ h => h) (by kernel_rfl) ?_ (by assumption) ?_
          rotate_left
          · intro wz hSw; (try dsimp only at hSw); go_simp; try with_reducible rfl
          simp only [Act.put, List.setIfInBounds_toArray, List.set_cons_zero, List.set_cons_succ]
          refine takeH_yes (i := 12) (v := ?_) rfl (by kernel_rfl) (by kernel_rfl) (by kernel_rfl) (fun _ _ _ h => h) (by kernel_rfl) ?_ (by assumption) ?_
          rotate_left
          · intro wz hSw; (try dsimp only at hSw); go_simp; try with_reducible rfl
          simp only [Act.put, List.setIfInBounds_toArray, List.set_cons_zero, List.set_cons_succ]
          refine takeH_yes (i := 13) (v := ?_) rfl (by kernel_rfl) (by kernel_rfl) (by kernel_rfl) (fun _ _ _ h => h) (by kernel_rfl) ?_ (by assumption) ?_
          rotate_left
          · intro wz hSw; (try dsimp only at hSw); go_simp; try with_reducible rfl
          simp only [Act.put, List.setIfInBounds_toArray, List.set_cons_zero, List.set_cons_succ]
          refine takeH_yes (i := 14) (v := ?_) rfl (by kernel_rfl) (by kernel_rfl) (by kernel_rfl) (fun _ _ _ h => h) (by kernel_rfl) ?_ (by assumption) ?_
          rotate_left
          · intro wz hSw; (try dsimp only at hSw); go_simp; try with_reducible rfl
          simp only [Act.put, List.setIfInBounds_toArray, List.set_cons_zero, List.set_cons_succ]
          generalize w4.drew = w5 at hb hHeld ⊢
          refine oneH (i := 15) rfl (by kernel_rfl) (fun K hK => ?_)
          go_simp
          have hb6 : Below w4.heap.size w4 (w5.alloc (.cells #[.int .u64 v0, .int .u64 v1, .int .u64 v2, .int .u64 v3, .slice A4 N4 c4] 59)) := hb.alloc hb.size _
          refine hK.out _ _ (HC4.out _ hb6) (fun hHeld => ?_)
          clear hK K
          try simp only [Act.put, List.setIfInBounds_toArray, List.set_cons_zero, List.set_cons_succ]
          have hb5 : Below wr.heap.size wr w5 := HBB.out.trans (hb.mono HBB.out.size)
          have hrow5 := (HJ.out.bel hb5).own
          refine oneH (i := 16) rfl (by kernel_rfl) (fun K hK => ?_)
          refine step_append_any _ rfl (.tmp 55) (.tmp 70) _ rfl w2.heap.size 59 i0 (.agg #[.int .u64 0, .int .u64 0, .int .u64 0, .int .u64 0, .slice none 0 0]) 5 56 Try.underlying36 hi hz0 hz1 hz2 rfl (by decide) _ l.length (cellsR5 l) rfl (hrow5.alloc _) (w5.heap.size + 1) (some ⟨w5.heap.size, 0, none⟩) 1 1 [.int .u64 v0, .int .u64 v1, .int .u64 v2, .int .u64 v3, .slice A4 N4 c4] rfl (recNew2 rfl _ _ _ _ _ _) (recOne _ _ _ _ _ _ _) s1 s2 (by have := hb5.size; have := HJ.out.below.size; simp; omega) ?_
          intro v' w1 hown' hgrow hat
          obtain ⟨ht4, hnew4, hN4, hb4⟩ := HT4.out
          obtain ⟨hv0, hv1, hv2, hv3, hk, hxr, -, -⟩ := HV.out
          have NX := HJ.out.next (rc := ⟨v0, v1, v2, v3, A4, N4, c4, itemsT zs (x.r.its zs)⟩) hb5 ((ht4.below hb).more hb.size) (fun ad ha => hnew4 ad ha) hxr hk ⟨hv0.symm, hv1.symm, hv2.symm, hv3.symm, rfl⟩ HA.out hown' hgrow hat
          have hbk : w1.heap[bw]? = (w5.alloc (.cells #[.int .u64 v0, .int .u64 v1, .int .u64 v2, .int .u64 v3, .slice A4 N4 c4] 59)).heap[bw]? := hgrow.block bw (by have := HBW.out; have := hb6.size; have := HBB.out.size; have := HJ.out.below.size; omega) (fun e => by
            have := (HJ.out.own.lt bw e.symm).1
            have := HBW.out
            omega)
          have gc : ∀ o, w1.cell? ⟨bw, o, none⟩ = (w5.alloc (.cells #[.int .u64 v0, .int .u64 v1, .int .u64 v2, .int .u64 v3, .slice A4 N4 c4] 59)).cell? ⟨bw, o, none⟩ := fun o => World.cell?_of_block (a := ⟨bw, o, none⟩) hbk
          have h6 : w1.cell? ⟨bw, ow, none⟩ = some (.int .u64 v0) ∧ w1.cell? ⟨bw, ow + 1, none⟩ = some (.int .u64 v1) ∧ w1.cell? ⟨bw, ow + 2, none⟩ = some (.int .u64 v2) ∧ w1.cell? ⟨bw, ow + 3, none⟩ = some (.int .u64 v3) := by
            obtain ⟨u0, u1, u2, u3⟩ := hHeld
            exact ⟨(gc _).trans u0, (gc _).trans u1, (gc _).trans u2, (gc _).trans u3⟩
          obtain ⟨A5, c5, rfl, -, -⟩ := own_form hown'
          have HN := Lib.hid NX
          clear NX hown' hgrow hat hv0 hv1 hv2 hv3 hk hxr ht4 hnew4 hN4 hb4 hrow5
          refine hK.out _ _ h6 (fun hHeld => ?_)
          clear hK K
          try simp only [Act.put, List.setIfInBounds_toArray, List.set_cons_zero, List.set_cons_succ]
          refine takeH_yes (i := 17) (v := ?_) rfl (by kernel_rfl) (by kernel_rfl) (by kernel_rfl) (fun _ _ _ h => h) (by kernel_rfl) ?_ (by assumption) ?_
          rotate_left
          · intro wz hSw; (try dsimp only at hSw); go_simp; try with_reducible rfl
          simp only [Act.put, List.setIfInBounds_toArray, List.set_cons_zero, List.set_cons_succ]
          refine wpAnyH_done (by kernel_rfl) ?_ _
          try simp only [Act.put, List.setIfInBounds_toArray, List.set_cons_zero, List.set_cons_succ]
          go_wp2
          go_roundw
          case rel => exact ⟨A5, c5, l ++ [⟨v0, v1, v2, v3, A4, N4, c4, itemsT zs (x.r.its zs)⟩], j + 1, by rw [List.length_append]; rfl, by go_num, by omega, by rw [List.length_append]; exact HN⟩
          case measure => simp [intOf]; omega
        · have IY := Lib.hid (fun wx (hb : Below wr.heap.size wr wx) => (IT.out wx hb).mono (fun e w' h => ItemsP.no h hall))
          have HA := Lib.hid hall
          clear IT hall
          go_wp2
          have hb : Below wr.heap.size wr wr.drew := below_drewn (Below.refl _ _) 1
          have HK := Lib.hid (HC.out _ hb)
          go_region_held3 (fun wx => wx.cell? ⟨b1, o1 + j * 6, none⟩ = some (.int .i64 x.r.j) ∧ wx.cell? ⟨b1, o1 + j * 6 + 2, none⟩ = some (.int .i64 3) ∧ wx.cell? ⟨b1, o1 + j * 6 + 3, none⟩ = some (.slice (some ⟨bw, ow, none⟩) 5 x.c) ∧ wx.cell? ⟨b1, o1 + j * 6 + 4, none⟩ = some (.slice x.B x.m x.d) ∧ wx.cell? ⟨b1, o1 + j * 6 + 5, none⟩ = some (.slice x.C x.p x.q))
            (first | assumption | exact HK.out | exact HC.out _ (by assumption))
            ((go_at_call 15; refine (IY.out _ hb).mono ?_; rintro e w4 ⟨hb4, rfl⟩; have hb := hb.trans (hb4.mono hb.size)))
          go_wp2
          go_ret2
          obtain ⟨-, -, -, -, hk, -, hmem, hbz⟩ := HV.out
          exact ⟨hbz.trans ((HJ.out.below.trans (hb.mono HJ.out.below.size)).mono hbz.size), .inr ⟨fun h => HA.out (h x.r (List.mem_filter.2 ⟨hmem, by simp [hk]⟩)), rfl⟩⟩
      · obtain ⟨kk, hkk⟩ : ∃ kk : Int, (x.r.k : Int) = kk := ⟨_, rfl⟩
        rw [hkk] at k0
        have hkd : (kk != 3) = true := bne_iff_ne.2 (by omega)
        have NX := Lib.hid (HJ.out.skip hxr hk)
        clear hR1 e1 hx hbl1 hcl1 hlx hr hz hlz hL hn his hroom hlens hkk hmem hxr hbr hk
        go_wp2
        go_roundw
        case rel => exact ⟨A2, c2, l, j + 1, rfl, by go_num, by omega, NX⟩
        case measure => simp [intOf]; omega
    · obtain rfl : j = m := by omega
      go_wp2
      go_ret2
      have htk : L.take j = L := List.take_of_length_le (by rw [HM.out]; exact Nat.le_refl _)
      have hb1 := H1.out.2.2.2
      refine ⟨hb1.trans (HJ.out.below.mono hb1.size), .inl ⟨by rw [← htk]; exact HJ.out.ok, A2, c2, l, rfl, own_base HJ.out.own hb1.size, fun rc hrc => (HJ.out.each rc hrc).1, by rw [← htk]; rw [htk]; have := HJ.out.ens; rw [htk] at this; exact this⟩⟩
end Go.Proofs.Ytjpfbkhjhainpaa
