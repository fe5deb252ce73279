/-
  LAYER 16: intern: items are put in: its contract.
-/
import Derived.Test.YtobbkhncnokpiaaGreatEnXor
set_option linter.unusedVariables false
set_option maxRecDepth 100000
set_option linter.unusedSimpArgs false
namespace Go.Proofs.YtobbkhncnokpiaaGreat
open Go.RowKit Go.Shelf

theorem Txt.chg {w w' : World} {B n c : Nat} {A : Option Addr} {zs : List ByteArray} {S : Nat → Prop} (h : Txt w B A n c zs) (hc : Chg S w w') (hB : B ≤ w.heap.size) (hA : ∀ ad, A = some ad → ¬ S ad.block) : Txt w' B A n c zs :=
  ⟨h.reads.chg hc hB (fun _ => hA), h.le, h.cap, h.sz⟩

/-- What a list of checked items is. -/
structure Good64 (zs : List ByteArray) : Prop where
  pos : 0 < zs.length
  most : zs.length ≤ 64
  ok : ∀ s ∈ zs, spOk s = true ∧ s.size ≤ 1024
  nodup : zs.Nodup
theorem Good64.nums {zs : List ByteArray} (h : Good64 zs) : (zs.map nums).Nodup := by
  rw [List.nodup_iff_pairwise_ne, List.pairwise_map]
  exact (List.nodup_iff_pairwise_ne.1 h.nodup).imp fun hne he => hne (nums_inj he)

section
variable {k d f : Int} {w w' : World} {base : Nat} {S : Nat → Prop} {p lim : Nat} {was : List Int} {R : List DR} {O : List GO} {Lr : List Int} {tl cnt : Nat}
/-- WHAT Intern TELLS: where the item is there, nothing grows. -/
theorem dintern_ex2 (s : ByteArray) (h : EX k d f w base S p lim was R O Lr tl cnt) (hc : cnt ≤ 100000) (htb : tl ≤ 1099511000000) (ho : spOk s = true) (hs : s.size ≤ 1024) :
    Calls Tryz.prog 100 #[.pointer (some ⟨p, 0, none⟩), .string s] w fun e w' =>
      (∃ a : Nat, e = .returned (.tuple #[.int .i64 (a : Nat), .int .i64 0]) ∧ a ≤ 1099511627776 ∧ Chg S w w' ∧ EX k d f w' base (grow S w w') p lim was (insD R (nums s) a) O Lr (tl + 1200 * (if findD R (nums s) = none then 1 else 0)) (cnt + 3) ∧ findD (insD R (nums s) a) (nums s) = some a) ∨
      (findD R (nums s) = none ∧ lim < tl + 1200 ∧ e = .returned (.tuple #[.int .i64 0, .int .i64 21]) ∧ Chg S w w' ∧ HX k d f w' base (grow S w w') p lim was) := by
  obtain ⟨⟨m, bv, sv, l, H, V, hg, rfl, rfl, htl, hcnt⟩, hsm, hk⟩ := id h
  have hmost := V.db.gb.most
  refine (intern_any s w V.db V.rows H hg.bb hk hsm.1 (by omega) hsm.2.2 ho hs).mono ?_
  rintro e w' (⟨a, h1, h2, h3⟩ | ⟨h1, h2, h3, m', hT, e1, e2, e3, e4, e5, e6⟩ | ⟨h1, h2, m', l', hT, hC⟩)
  · left
    have hfd : findD R (nums s) = some a := by rw [← V.rows.findG]; exact h1
    have hin : insD R (nums s) a = R := by unfold insD; rw [hfd]
    obtain ⟨o, ho1, ho2, ho3, ho4⟩ := findG_some h1
    have hchg := Chg.of_below h3 (Nat.le_refl _) S
    refine ⟨a, h2, by have := (V.db.gb.fine o ho1).2.2; omega, hchg, ?_, by rw [hin]; exact hfd⟩
    rw [hin]
    exact ((h.below h3).mono (T := grow S w w') (fun j hj => .inl hj) (chg_lt H.foot hchg H.bas)).more (by omega) (by omega) (by omega)
  · right
    obtain ⟨hchg, bv', sv', H'⟩ := hT
    exact ⟨by rw [← V.rows.findG]; exact h1, by omega, h2, hchg, ⟨⟨m', bv', sv', H', e6 hg, e2, e1, by omega, by omega⟩⟩⟩
  · left
    have hfd : findD R (nums s) = none := by rw [← V.rows.findG]; exact h1
    have hin : insD R (nums s) m.b.length = R ++ [⟨nums s, m.b.length, []⟩] := by unfold insD; rw [hfd]
    obtain ⟨hchg, hx⟩ := h.of hT (V.came hC) (hC.good hg) hC.lim hC.was (tl' := tl + 1200) (by have := hC.most; omega) (cnt' := cnt + 3) (by have := hC.words; omega) (by omega)
    exact ⟨m.b.length, h2, hmost, hchg, by rw [hin, if_pos hfd]; exact hx, by rw [hin]; exact findD_ins hfd⟩

/-- At the head of each round of intern. -/
structure ItnAt (k d f : Int) (w wr : World) (base : Nat) (S : Nat → Prop) (p lim : Nat) (was : List Int) (R : List DR) (O : List GO) (Lr : List Int) (E : List (List (List Int))) (tl cnt n : Nat) (zs : List (List Int)) (j : Nat) : Prop where
  ex : ∃ Sj R' ps, EX k d f wr base Sj p lim was R' O Lr (tl + 1200 * newsD R (zs.take j)) (cnt + 3 * j) ∧ InsAt R R' (zs.take j) ps O Lr E ∧ (∀ q, Sj q → S q ∨ w.heap.size < q) ∧
    wr.ownsRow w.heap.size 33 1 (.slice (some ⟨w.heap.size, 0, none⟩) n n) n (cellsOf .u64 (ps ++ List.replicate (n - j) 0))
  chg : Chg S w wr
  below : w.heap.size < wr.heap.size

theorem places_set {ps : List Int} {n j : Nat} (x : Int) (hj : j < n) (hp : ps.length = j) : (cellsOf .u64 (ps ++ List.replicate (n - j) 0)).set j (.int .u64 x) = cellsOf .u64 ((ps ++ [x]) ++ List.replicate (n - (j + 1)) 0) := by
  rw [cellsOf_set]
  congr 1
  rw [List.set_append_right _ _ (by omega), hp, Nat.sub_self, show n - j = (n - (j + 1)) + 1 by omega, List.replicate_succ, List.append_assoc]
  rfl

theorem ItnAt.next {E : List (List (List Int))} {n j a : Nat} {zs : List (List Int)} {z : List Int} {w2 : World} {wr : World} {Sj : Nat → Prop} {R' : List DR} {ps : List Int} (hft : ∀ q, S q → base ≤ q ∧ q < w.heap.size) (HIA : InsAt R R' (zs.take j) ps O Lr E) (hSj : ∀ q, Sj q → S q ∨ w.heap.size < q) (hfj : ∀ q, Sj q → base ≤ q ∧ q < wr.heap.size) (hchg : Chg S w wr) (hblw : w.heap.size < wr.heap.size) (hbas : base ≤ w.heap.size)
    (hr2 : w2.ownsRow w.heap.size 33 1 (.slice (some ⟨w.heap.size, 0, none⟩) n n) n (cellsOf .u64 (ps ++ List.replicate (n - j) 0))) (hc2 : Chg Sj wr w2) (hx2 : EX k d f w2 base (grow Sj wr w2) p lim was (insD R' z a) O Lr (tl + 1200 * newsD R (zs.take j) + 1200 * (if findD R' z = none then 1 else 0)) (cnt + 3 * j + 3))
    (hf2 : findD (insD R' z a) z = some a) (hz : zs[j]? = some z) (hn : zs.Nodup) (hj : j < n) (hln : zs.length = n) : ItnAt k d f w (w2.setCell ⟨w.heap.size, j, none⟩ (.int .u64 a)) base S p lim was R O Lr E tl cnt n zs (j + 1) := by
  have hs2 := hc2.size
  have htk : zs.take (j + 1) = zs.take j ++ [z] := by
    obtain ⟨h1, h2⟩ := List.getElem?_eq_some_iff.1 hz
    rw [List.take_succ_eq_append_getElem h1, h2]
  have hpl : ps.length = j := by rw [HIA.len, List.length_take]; omega
  have hnz : z ∉ zs.take j := fun hm => by
    obtain ⟨i, hi, he⟩ := List.mem_take_iff_getElem.1 hm
    obtain ⟨h1, h2⟩ := List.getElem?_eq_some_iff.1 hz
    rw [List.nodup_iff_pairwise_ne, List.pairwise_iff_getElem] at hn
    exact hn i j (by omega) h1 (by omega) (by rw [he, h2])
  have hsm := HIA.same z hnz
  refine ⟨⟨grow Sj wr w2, insD R' z a, ps ++ [(a : Int)], ?_, ?_, fun q hq => ?_, ?_⟩, ?_, ?_⟩
  · rw [htk, newsD_snoc, ← hsm]
    have e1 : tl + 1200 * (newsD R (zs.take j) + (if findD R' z = none then 1 else 0)) = tl + 1200 * newsD R (zs.take j) + 1200 * (if findD R' z = none then 1 else 0) := by rw [Nat.mul_add]; omega
    have e2 : cnt + 3 * (j + 1) = cnt + 3 * j + 3 := by omega
    rw [e1, e2]
    exact hx2.keep (chg_set1 (T := fun q => q = w.heap.size) (Chg.refl _ _) rfl _) (fun q hq e => by
      subst e
      rcases hq with hq | hq
      · rcases hSj _ hq with e | e
        · have := (hft _ e).2; omega
        · omega
      · omega)
  · rw [htk]; exact HIA.ins hf2
  · rcases hq with hq | hq
    · exact hSj q hq
    · right; omega
  · rw [← places_set (a : Int) hj hpl]
    exact (hr2.stored j (.int .u64 a)).1
  · exact (hchg.trans hc2 (fun q hq hg => (hSj q hg).elim id (fun e => by omega))).setCell (.inl (Nat.le_refl _)) _
  · rw [size_set]; omega

set_option maxHeartbeats 4000000 in
theorem eintern_any {E : List (List (List Int))} {B : Nat} (A : Option Addr) (n c : Nat) (zs : List ByteArray) (h : EX k d f w base S p lim was R O Lr tl cnt) (hE : EL R O Lr E) (hT : Txt w B A n c zs) (hB : B ≤ w.heap.size) (hA : ∀ ad, A = some ad → ¬ S ad.block) (hZ : Good64 zs) (hc : cnt ≤ 10000) (htb : tl ≤ 1099000000000) :
    Calls Tryz.prog 65 #[.pointer (some ⟨p, 0, none⟩), .slice A n c] w fun e w' =>
      (∃ R' ps g, e = .returned (.tuple #[.slice (some ⟨g, 0, none⟩) n n, .bool true]) ∧ w.heap.size ≤ g ∧ Chg S w w' ∧ EX k d f w' base (fun q => grow S w w' q ∧ q ≠ g) p lim was R' O Lr (tl + 1200 * newsD R (zs.map nums)) (cnt + 3 * n) ∧ InsAt R R' (zs.map nums) ps O Lr E ∧ w'.ownsRow w.heap.size 33 1 (.slice (some ⟨g, 0, none⟩) n n) n (cellsOf .u64 ps)) ∨
      (lim < tl + 1200 * (newsD R (zs.map nums)) ∧ (∃ v, e = .returned (.tuple #[v, .bool false])) ∧ Chg S w w' ∧ HX k d f w' base (grow S w w') p lim was) := by
  obtain ⟨i0, hi, hz0, hz1, hz2⟩ := info_parts tabWordInfo
  have hl := hT.len
  have hle := hT.le
  have hcap := hT.cap
  have hp := hZ.pos
  have hm := hZ.most
  have hbas := h.bas
  have hft := Lib.hid h.foot
  have hb2 : i0.bytes * n ≤ 281474976710656 := by rw [hz2]; omega
  have hm3 : n ≤ maxLen := by unfold maxLen; omega
  have HND := Lib.hid hZ.nums
  have HOK := Lib.hid hZ.ok
  have HTT := Lib.hid (fun wx (hx : Chg S w wx) => hT.chg hx hB hA)
  have H0 := Lib.hid (And.intro h hE)
  have HL := Lib.hid hl
  have hn0 : 0 < n := by omega
  have hn64 : n ≤ 64 := by omega
  clear h hE hT hA hZ hl hp hm
  go_enter Tryz.func65, Tryz.ntmps65
  go_wp2_with (at_make; refine wpList_make_full _ rfl _ _ 42 rfl w.heap.size 33 i0 (.int .u64 0) 1 Tryz.underlying42 hi hz0 hz1 _ _ _ _ n rfl rfl rfl rfl hb2 hm3 (Nat.le_refl _) ?_; intro w1 hown1 hg1)
  have hst : (madeCells (Value.int .u64 0).cells n).toList = cellsOf .u64 ([] ++ List.replicate (n - 0) 0) := by
    show (madeCells #[Value.int .u64 0] n).toList = _
    rw [toList_madeCells_one]; simp [cellsOf]
  have hb1 : Below w.heap.size w w1 := (Below.refl _ _).grown hg1 (Nat.le_refl _) (by simp)
  have hown2 : w1.ownsRow w.heap.size 33 1 (.slice (some ⟨w.heap.size, 0, none⟩) n n) n (cellsOf .u64 ([] ++ List.replicate (n - 0) 0)) := by
    rw [← hst]
    simpa using hown1
  have hs1 : w.heap.size < w1.heap.size := (hown2.lt w.heap.size rfl).2
  have HR0 : Hid (ItnAt k d f w w1 base S p lim was R O Lr E tl cnt n (zs.map nums) 0) := Lib.hid ⟨⟨S, R, [], (H0.out.1.below hb1).more (by omega) (by omega) (by omega), InsAt.nothing H0.out.2, fun q hq => .inl hq, hown2⟩, Chg.of_below hb1 (Nat.le_refl _) S, hs1⟩
  clear hst hown1 hg1 hown2 H0
  go_loopw [16] (fun i wr => ∃ j : Nat, i = .int .i64 j ∧ j ≤ n ∧ Hid (ItnAt k d f w wr base S p lim was R O Lr E tl cnt n (zs.map nums) j)) (fun i _ => n - (intOf i).toNat)
  case atStart => exact ⟨0, rfl, Nat.zero_le _, HR0⟩
  case round =>
    clear HR0
    obtain ⟨j, rfl, hj, HI⟩ := hrel
    by_cases hlt : j < n
    · have HTX := HTT.out _ HI.out.chg
      obtain ⟨b, off, rfl, hb, hcell⟩ := HTX.at_ hn0
      have c0 := hcell j hlt
      have HZ : Hid (nthT zs j ∈ zs ∧ (zs.map nums)[j]? = some (nums (nthT zs j))) := Lib.hid ⟨nthT_mem (by rw [HL.out]; exact hlt), by rw [List.getElem?_map, List.getElem?_eq_getElem (by rw [HL.out]; exact hlt), nthT_get (by rw [HL.out]; exact hlt)]; rfl⟩
      obtain ⟨s, hs⟩ : ∃ s, nthT zs j = s := ⟨_, rfl⟩
      rw [hs] at c0 HZ
      obtain ⟨⟨Sj, R', ps, HEX, HIA, hSj, hrow⟩, hchg, hblw⟩ := HI.out
      have hok := HOK.out s HZ.out.1
      have hnw := newsD_le R ((zs.map nums).take j)
      have hnl : ((zs.map nums).take j).length ≤ 64 := by rw [List.length_take]; omega
      have DI := Lib.hid (dintern_ex2 s HEX (by omega) (by omega) hok.1 hok.2)
      have hpl : ps.length = j := by rw [HIA.len, List.length_take, List.length_map, HL.out]; omega
      have HPS := Lib.hid (fun (x : Int) => places_set (n := n) x hlt hpl)
      have hrs : ∀ g, (Value.slice (some (⟨w.heap.size, 0, none⟩ : Addr)) n n).ownBlock = some g → ¬ Sj g := fun g hg e => by
        have : w.heap.size = g := by simpa [Value.ownBlock] using hg
        subst this
        rcases hSj _ e with e | e
        · have := (hft.out _ e).2; omega
        · omega
      have HRW := Lib.hid (fun wx (hx : Chg Sj wr wx) => own_chg hrow hx hrs)
      have HC0 := Lib.hid (fun (w2 : World) (hr2 : w2.ownsRow w.heap.size 33 1 (.slice (some ⟨w.heap.size, 0, none⟩) n n) n (cellsOf .u64 (ps ++ List.replicate (n - j) 0))) => (show ∃ z0 : Int, w2.cell? ⟨w.heap.size, j, none⟩ = some (.int .u64 z0) from by
        have q1 := hr2.cellAt j (by omega)
        rw [cellsOf_get (by rw [List.length_append, List.length_replicate]; omega)] at q1
        exact ⟨_, q1⟩))
      have HALL := Lib.hid (fun (w2 : World) (a : Nat) hr2 hc2 hx2 hf2 => ItnAt.next (k := k) (d := d) (f := f) (p := p) (lim := lim) (was := was) (tl := tl) (cnt := cnt) (w2 := w2) (a := a) hft.out HIA hSj HEX.foot hchg hblw hbas hr2 hc2 hx2 hf2 HZ.out.2 HND.out hlt (by rw [List.length_map]; exact HL.out))
      have HBAD := Lib.hid (fun (w2 : World) (hc2 : Chg Sj wr w2) (hh2 : HX k d f w2 base (grow Sj wr w2) p lim was) => (show Chg S w w2 ∧ HX k d f w2 base (grow S w w2) p lim was from by
        have hcc := hchg.trans hc2 (fun q hq hg => (hSj q hg).elim id (fun e => by omega))
        have := hc2.size
        refine ⟨hcc, hh2.mono (fun q hq => ?_) (chg_lt hft.out hcc hbas)⟩
        rcases hq with hq | hq
        · rcases hSj q hq with e | e
          · exact .inl e
          · have := (HEX.foot q hq).2; right; omega
        · right; omega))
      have HLM := Lib.hid (show findD R' (nums s) = none → lim < tl + 1200 * newsD R ((zs.map nums).take j) + 1200 → lim < tl + 1200 * newsD R (zs.map nums) from fun h1 h2 => by
        have hz := HZ.out.2
        obtain ⟨h3, h4⟩ := List.getElem?_eq_some_iff.1 hz
        have h5 := newsD_take R (zs.map nums) (j + 1)
        rw [List.take_succ_eq_append_getElem h3, h4, newsD_snoc] at h5
        have hnz : nums s ∉ (zs.map nums).take j := fun hm => by
          obtain ⟨i, hi, he⟩ := List.mem_take_iff_getElem.1 hm
          have hn := HND.out
          rw [List.nodup_iff_pairwise_ne, List.pairwise_iff_getElem] at hn
          exact hn i j (by omega) h3 (by omega) (by rw [he, h4])
        rw [HIA.same _ hnz] at h1
        rw [if_pos h1] at h5
        omega)
      clear hcell HTX hs hok hnw hnl HEX HIA hSj hrow hchg hblw hpl hrs HPS
      go_wp2_with (go_at_call 100; refine DI.out.mono ?_; rintro e w2 (⟨a, rfl, ha, hc2, hx2, hf2⟩ | ⟨hf2, hlm, rfl, hc2, hh2⟩) <;> first | (have hr2 := HRW.out w2 hc2; obtain ⟨z0, q1⟩ := HC0.out w2 hr2; have q2 := hr2.frozenAt j; have hwa : IntKind.u64.wrap (a : Int) = (a : Int) := wrap_u64_of (by omega) (by omega); have HN := Lib.hid (HALL.out w2 a hr2 hc2 hx2 hf2); clear hr2 hc2 hx2 hf2) | (have HB := Lib.hid (HBAD.out w2 hc2 hh2); have HM := Lib.hid (HLM.out hf2 hlm); clear hc2 hh2 hf2 hlm))
      · go_roundw
        case rel => exact ⟨j + 1, by go_num, by omega, HN⟩
        case measure => simp [intOf]; omega
      · go_ret2
        exact .inr ⟨HM.out, ⟨_, rfl⟩, HB.out.1, HB.out.2⟩
    · obtain rfl : j = n := by omega
      have HTK : Hid ((zs.map nums).take j = zs.map nums) := Lib.hid (List.take_of_length_le (by rw [List.length_map, HL.out]; exact Nat.le_refl _))
      clear HTT HOK
      go_wp2
      go_ret2
      left
      obtain ⟨⟨Sj, R', ps, HEX, HIA, hSj, hrow⟩, hchg, hblw⟩ := HI.out
      rw [HTK.out] at HEX HIA
      refine ⟨R', ps, w.heap.size, rfl, Nat.le_refl _, hchg, ?_, HIA, ?_⟩
      · refine HEX.mono (fun q hq => ?_) (fun q hq => chg_lt hft.out hchg hbas q hq.1)
        rcases hSj q hq with e | e
        · exact ⟨.inl e, by have := (hft.out q e).2; omega⟩
        · exact ⟨.inr ⟨by omega, (HEX.foot q hq).2⟩, by omega⟩
      · rw [Nat.sub_self, List.replicate_zero, List.append_nil] at hrow
        exact hrow
end

end Go.Proofs.YtobbkhncnokpiaaGreat
