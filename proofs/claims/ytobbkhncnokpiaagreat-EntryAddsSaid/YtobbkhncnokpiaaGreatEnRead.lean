/-
  LAYER 16: read: what stands at an entry's place: its contract.
-/
import Derived.Test.YtobbkhncnokpiaaGreatEnAdd
set_option linter.unusedVariables false
set_option maxRecDepth 100000
set_option linter.unusedSimpArgs false
namespace Go.Proofs.YtobbkhncnokpiaaGreat
open Go.RowKit Go.Shelf

section
variable {k d f : Int} {w w' wr : World} {base : Nat} {S T : Nat → Prop} {p lim : Nat} {was bs : List Int} {R : List DR} {O : List GO} {Lr : List Int} {tl cnt : Nat}

/-- The texts of an entry, as they are read. -/
def fillR (n j : Nat) (zs : List ByteArray) : List ByteArray := zs.take j ++ List.replicate (n - j) ⟨#[]⟩
theorem fillR_length {n j : Nat} {zs : List ByteArray} (hl : zs.length = n) (hk : j ≤ n) : (fillR n j zs).length = n := by
  unfold fillR; rw [List.length_append, List.length_take, List.length_replicate]; omega
theorem fillR_set {n j : Nat} {zs : List ByteArray} (hl : zs.length = n) (hk : j < n) : (cellsT (fillR n j zs)).set j (.string (nthT zs j)) = cellsT (fillR n (j + 1) zs) := by
  unfold fillR
  have e : (zs.take j).length = j := by rw [List.length_take]; omega
  rw [cellsT_append, cellsT_append, List.set_append_right _ _ (by rw [cellsT_length, e]; exact Nat.le_refl _), cellsT_length, e, Nat.sub_self, show n - j = (n - (j + 1)) + 1 by omega, List.replicate_succ,
    take_nthT (by omega), cellsT_append, List.append_assoc]
  rfl
/-- At the head of each round. -/
structure RdAtR (w w3 wr : World) (g n : Nat) (zs : List ByteArray) (j : Nat) : Prop where
  own : wr.ownsRow w.heap.size 9 1 (.slice (some ⟨g, 0, none⟩) n n) n (cellsT (fillR n j zs))
  chg : Chg (fun q => q = g) w3 wr

/-- What is so when the row of texts has been made. -/
structure Rd3 (w w3 : World) (g6 n : Nat) (A1 : Option Addr) (c1 : Nat) (A2 : Option Addr) (n2 c2 : Nat) (A3 : Option Addr) (c3 : Nat) (ws its : List Int) : Prop where
  lt : w.heap.size < g6
  obj : Blk w3 g6 44 #[.int .i64 3, .slice A1 5 c1, .slice A2 n2 c2, .slice A3 n c3]
  res : Blk w3 w.heap.size 36 #[.int .u64 0, .int .u64 0, .int .u64 0, .int .u64 0, .slice none 0 0]
  wr : Reads w3 g6 1 A1 5 (cellsOf .u64 ws)
  ir : Reads w3 g6 1 A3 n (cellsOf .u64 its)
  below : Below w.heap.size w w3
  size : g6 + 1 < w3.heap.size
  row : w3.ownsRow w.heap.size 9 1 (.slice (some ⟨g6 + 1, 0, none⟩) n n) n (cellsT (List.replicate n ⟨#[]⟩))
theorem Rd3.mk' {w w1 w3 : World} {n : Nat} {A1 : Option Addr} {c1 : Nat} {A2 : Option Addr} {n2 c2 : Nat} {A3 : Option Addr} {c3 : Nat} {ws its : List Int} (hb1 : Below (w.alloc (.cells #[.int .u64 0, .int .u64 0, .int .u64 0, .int .u64 0, .slice none 0 0] 36)).heap.size (w.alloc (.cells #[.int .u64 0, .int .u64 0, .int .u64 0, .int .u64 0, .slice none 0 0] 36)) w1)
    (hrw : Reads w1 w1.heap.size 1 A1 5 (cellsOf .u64 ws)) (hri : Reads w1 w1.heap.size 1 A3 n (cellsOf .u64 its)) (hg : (w1.alloc (.cells #[.int .i64 3, .slice A1 5 c1, .slice A2 n2 c2, .slice A3 n c3] 44)).grownBy w3 none)
    (hown : w3.ownsRow w.heap.size 9 1 (.slice (some ⟨(w1.alloc (.cells #[.int .i64 3, .slice A1 5 c1, .slice A2 n2 c2, .slice A3 n c3] 44)).heap.size, 0, none⟩) n n) n (madeCells (Value.string ⟨#[]⟩).cells (n * 1)).toList) : Rd3 w w3 w1.heap.size n A1 c1 A2 n2 c2 A3 c3 ws its := by
  have hs0 : (w.alloc (.cells #[.int .u64 0, .int .u64 0, .int .u64 0, .int .u64 0, .slice none 0 0] 36)).heap.size = w.heap.size + 1 := World.size_alloc _ _
  have hs1 := hb1.size
  have hs2 : (w1.alloc (.cells #[.int .i64 3, .slice A1 5 c1, .slice A2 n2 c2, .slice A3 n c3] 44)).heap.size = w1.heap.size + 1 := World.size_alloc _ _
  have hb2 : Below w1.heap.size w1 (w1.alloc (.cells #[.int .i64 3, .slice A1 5 c1, .slice A2 n2 c2, .slice A3 n c3] 44)) := boxed _ _
  have hb3 := hb2.grown hg (by rw [hs2]; omega) (fun k hk => by cases hk)
  have hb0 := (boxed w (.cells #[.int .u64 0, .int .u64 0, .int .u64 0, .int .u64 0, .slice none 0 0] 36)).trans (hb1.mono (by omega))
  have e : (madeCells (Value.string ⟨#[]⟩).cells (n * 1)).toList = cellsT (List.replicate n ⟨#[]⟩) := by
    rw [Nat.mul_one]
    show (madeCells #[Value.string ⟨#[]⟩] n).toList = _
    rw [toList_madeCells_one]; simp [cellsT]
  rw [e, hs2] at hown
  exact ⟨by omega, (Blk.new w1 _ _).grown hg (by simp), (((Blk.new w _ _).below hb1 (by omega)).alloc _).grown hg (by simp), hrw.below hb3, hri.below hb3, hb0.trans (hb3.mono (by omega)), (hown.lt _ rfl).2, hown⟩

theorem Rd3.start {w w3 : World} {g6 n : Nat} {A1 : Option Addr} {c1 : Nat} {A2 : Option Addr} {n2 c2 : Nat} {A3 : Option Addr} {c3 : Nat} {ws its : List Int} {zs : List ByteArray} (h : Rd3 w w3 g6 n A1 c1 A2 n2 c2 A3 c3 ws its) : RdAtR w w3 w3 (g6 + 1) n zs 0 := by
  have e : fillR n 0 zs = List.replicate n ⟨#[]⟩ := by unfold fillR; simp
  exact ⟨by rw [e]; exact h.row, Chg.refl _ _⟩
theorem Rd3.far {w w3 wr : World} {g6 n j : Nat} {A1 : Option Addr} {c1 : Nat} {A2 : Option Addr} {n2 c2 : Nat} {A3 : Option Addr} {c3 : Nat} {ws its : List Int} {zs : List ByteArray} (h : Rd3 w w3 g6 n A1 c1 A2 n2 c2 A3 c3 ws its) (hj : RdAtR w w3 wr (g6 + 1) n zs j) {q : Nat} (hq : q ≤ g6) : ∀ o, wr.cell? ⟨q, o, none⟩ = w3.cell? ⟨q, o, none⟩ := fun o =>
  World.cell?_of_block (hj.chg.block q (by have := h.size; omega) (by omega))
theorem Rd3.bel {w w3 wr : World} {g6 n j : Nat} {A1 : Option Addr} {c1 : Nat} {A2 : Option Addr} {n2 c2 : Nat} {A3 : Option Addr} {c3 : Nat} {ws its : List Int} {zs : List ByteArray} (h : Rd3 w w3 g6 n A1 c1 A2 n2 c2 A3 c3 ws its) (hj : RdAtR w w3 wr (g6 + 1) n zs j) : Below w.heap.size w wr :=
  h.below.trans (hj.chg.below h.below.size (fun q _ e => by have := h.lt; omega))
/-- One text more. -/
theorem RdAtR.next {w w3 wr w5 : World} {g n j : Nat} {zs : List ByteArray} (hj : RdAtR w w3 wr g n zs j) (hl : zs.length = n) (hlt : j < n) (hb : Below wr.heap.size wr w5) (hg : w3.heap.size ≤ wr.heap.size) :
    (∃ s0, w5.cell? ⟨g, j, none⟩ = some (.string s0)) ∧ w5.frozen? ⟨g, j, none⟩ = false ∧ RdAtR w w3 (w5.setCell ⟨g, j, none⟩ (.string (nthT zs j))) g n zs (j + 1) := by
  have hr5 := own_below hj.own hb
  have q1 := hr5.cellAt j (by omega)
  rw [cellsT_get (by rw [fillR_length hl (by omega)]; exact hlt)] at q1
  refine ⟨⟨_, q1⟩, hr5.frozenAt j, ⟨?_, (hj.chg.trans (Chg.of_below hb (Nat.le_refl _) (fun _ => False)) (fun _ _ e => e.elim)).setCell (.inr rfl) _⟩⟩
  rw [← fillR_set hl hlt]
  exact (hr5.stored j _).1

theorem put5r {w7 : World} {g : Nat} {T : TypeId} {a0 a1 a2 a3 a4 z0 z1 z2 z3 z4 : Value} (h : Blk w7 g T #[z0, z1, z2, z3, z4]) :
    Blk (((((w7.setCell ⟨g, 0, none⟩ a0).setCell ⟨g, 1, none⟩ a1).setCell ⟨g, 2, none⟩ a2).setCell ⟨g, 3, none⟩ a3).setCell ⟨g, 4, none⟩ a4) g T #[a0, a1, a2, a3, a4] ∧
    Chg (fun q => q = g) w7 (((((w7.setCell ⟨g, 0, none⟩ a0).setCell ⟨g, 1, none⟩ a1).setCell ⟨g, 2, none⟩ a2).setCell ⟨g, 3, none⟩ a3).setCell ⟨g, 4, none⟩ a4) :=
  ⟨((((h.set_ 0 a0).set_ 1 a1).set_ 2 a2).set_ 3 a3).set_ 4 a4, (((((Chg.refl (fun q => q = g) w7).setCell (p := ⟨g, 0, none⟩) (.inr rfl) a0).setCell (p := ⟨g, 1, none⟩) (.inr rfl) a1).setCell (p := ⟨g, 2, none⟩) (.inr rfl) a2).setCell (p := ⟨g, 3, none⟩) (.inr rfl) a3).setCell (p := ⟨g, 4, none⟩) (.inr rfl) a4⟩

/-- An item of an entry: where its datum stands. -/
theorem EL.datum {E : List (List (List Int))} (h : EX k d f w base S p lim was R O Lr tl cnt) (hE : EL R O Lr E) {i : Nat} {o : GO} {zs : List ByteArray} (ho : O[i]? = some o) (hz : E[i]? = some (zs.map nums)) :
    o.its.length = zs.length ∧ o.ws.length = 5 ∧ o.at_ ≤ 1099511627776 ∧ ∀ j, j < zs.length → ∃ a : Nat, o.its.getD j 0 = (a : Int) ∧ a ≤ 1099511627776 ∧ ∀ wx, Below w.heap.size w wx →
      Calls Tryz.prog 16 #[.pointer (some ⟨p, 0, none⟩), .int .u64 a, .int .i64 1] wx fun e w' => ∃ A1 n1 c1 A2 n2 c2 A3 n3 c3, e = .returned (.tuple #[.agg #[.int .i64 1, .slice A1 n1 c1, .slice A2 n2 c2, .slice A3 n3 c3], .bool true]) ∧ Below wx.heap.size wx w' ∧ Reads w' w'.heap.size 1 A2 n2 (cellsOf .u8 (nums (nthT zs j))) := by
  have hm := h.entry_mem (List.mem_of_getElem? ho)
  have hits : o.its = (zs.map nums).map fun z => (((findD R z).getD 0 : Nat) : Int) := by
    have e1 := congrArg (fun l => l[i]?) hE.its
    simp only [List.getElem?_map, ho, hz, Option.map_some] at e1
    injection e1
  refine ⟨by rw [hits, List.length_map, List.length_map], hm.2.2.2.2.1, hm.2.1, fun j hj => ?_⟩
  have hmem : nums (nthT zs j) ∈ zs.map nums := List.mem_map.2 ⟨_, nthT_mem hj, rfl⟩
  have hk := hE.known _ (List.mem_of_getElem? hz) _ hmem
  obtain ⟨a, ha⟩ := Option.isSome_iff_exists.1 hk
  obtain ⟨jr, r, hr, hri, hra⟩ := findD_at ha
  refine ⟨a, ?_, (h.at_le ha).1, fun wx hb => ?_⟩
  · rw [hits, List.getD_eq_getElem?_getD, List.getElem?_map, List.getElem?_map, List.getElem?_eq_getElem hj, ← nthT_get hj]
    show (((findD R (nums (nthT zs j))).getD 0 : Nat) : Int) = a
    rw [ha]; rfl
  · have h9 := (h.below hb).datum_at hr
    rw [hra, hri] at h9
    exact h9

set_option maxHeartbeats 4000000 in
theorem eread_yes {E : List (List (List Int))} {i : Nat} {o : GO} {zs : List ByteArray} (h : EX k d f w base S p lim was R O Lr tl cnt) (hE : EL R O Lr E) (ho : O[i]? = some o) (hz : E[i]? = some (zs.map nums)) (hsz : ∀ s ∈ zs, s.size ≤ maxLen) :
    Calls Tryz.prog 40 #[.pointer (some ⟨p, 0, none⟩), .int .u64 (o.at_ : Nat)] w fun e w' => ∃ A, e = .returned (.tuple #[.agg #[.int .u64 (o.ws.getD 0 0), .int .u64 (o.ws.getD 1 0), .int .u64 (o.ws.getD 2 0), .int .u64 (o.ws.getD 3 0), .slice A zs.length zs.length], .bool true]) ∧ Txt w' w'.heap.size A zs.length zs.length zs ∧ Below w.heap.size w w' ∧ ∀ ad, A = some ad → w.heap.size ≤ ad.block := by
  obtain ⟨i0, hi, hz0, hz1, hz2⟩ := info_parts strInfo
  obtain ⟨hil, hwl, hat, hdat⟩ := EL.datum h hE ho hz
  have hem := h.entry_mem (List.mem_of_getElem? ho)
  have ENT := Lib.hid (fun wx (hb : Below w.heap.size w wx) => (h.below hb).entry_at (List.mem_of_getElem? ho))
  have HD := Lib.hid hdat
  obtain ⟨n, hn⟩ : ∃ n, zs.length = n := ⟨_, rfl⟩
  have hn2 : n ≤ 1024 := by rw [← hn, ← hil]; exact hem.2.2.2.1
  have hb2 : i0.bytes * n ≤ 281474976710656 := by rw [hz2]; omega
  have hm3 : n ≤ maxLen := by unfold maxLen; omega
  obtain ⟨at_, hate⟩ : ∃ a, o.at_ = a := ⟨_, rfl⟩
  rw [hate] at ENT ⊢
  have HI := Lib.hid (And.intro hil (And.intro hwl (And.intro hn hsz)))
  rw [hn] at HD ⊢
  clear h hE ho hz hsz hil hwl hat hdat hem hn hate
  go_enter Tryz.func40, Tryz.ntmps40
  go_wp2_with (first
    | (go_at_call 16; go_loud (refine (ENT.out _ (boxed _ _)).mono ?_; rintro e w1 ⟨A1, n1, c1, A2, n2, c2, A3, n3, c3, rfl, hb1, hrw, hri⟩; obtain rfl : n1 = 5 := (by have := hrw.len; have := HI.out.2.1; omega); obtain rfl : n = n3 := (by have := hri.len; have := HI.out.1; have := HI.out.2.2.1; omega); have HRW := Lib.hid (And.intro hrw hri); have HB1 := Lib.hid hb1; clear hrw hri hb1))
    | (at_make; refine wpList_make_full _ rfl _ _ 34 rfl w.heap.size 9 i0 (.string ⟨#[]⟩) 1 Tryz.underlying34 hi hz0 hz1 _ _ _ _ n rfl rfl rfl rfl hb2 hm3 (by have := HB1.out.size; simp at this ⊢; omega) ?_; intro w3 hown1 hg1; have HK3 := Rd3.mk' HB1.out HRW.out.1 HRW.out.2 hg1 hown1; have c3o := HK3.obj.cell 3; have HKH := Lib.hid HK3; clear HK3 hown1 hg1))
  obtain ⟨g6, hg6⟩ : ∃ g, w1.heap.size = g := ⟨_, rfl⟩
  rw [hg6] at HKH ⊢
  have HS0 : Hid (RdAtR w w3 w3 (g6 + 1) n zs 0) := Lib.hid HKH.out.start
  clear hg6 c3o HB1 HRW
  go_loopw [29] (fun i wr => ∃ j : Nat, i = .int .i64 j ∧ j ≤ n ∧ Hid (RdAtR w w3 wr (g6 + 1) n zs j)) (fun i _ => n - (intOf i).toNat)
  case atStart => exact ⟨0, rfl, Nat.zero_le _, HS0⟩
  case round =>
    clear HS0
    obtain ⟨j, rfl, hj, HJ⟩ := hrel
    by_cases hlt : j < n
    · obtain ⟨a, hia, hale, hcall⟩ := HD.out j hlt
      obtain ⟨b, off, rfl, hbB, hcl⟩ := HKH.out.ir.plain (by omega)
      have c0 := (HKH.out.far HJ.out (q := b) (by omega) (off + j)).trans (hcl j hlt)
      rw [hia] at c0
      have CA := Lib.hid (hcall wr (HKH.out.bel HJ.out))
      have HZ := Lib.hid (nthT_get (zs := zs) (i := j) (by rw [HI.out.2.2.1]; exact hlt))
      have NX := Lib.hid (fun w5 (hb : Below wr.heap.size wr w5) => RdAtR.next (w5 := w5) HJ.out HI.out.2.2.1 hlt hb HJ.out.chg.size)
      obtain ⟨s, hs⟩ : ∃ s, nthT zs j = s := ⟨_, rfl⟩
      rw [hs] at CA NX
      clear hia hcall hcl hs HZ
      go_wp2_with (go_at_call 16; go_loud (refine CA.out.mono ?_; rintro e w4 ⟨B1, m1, d1, B2, m2, d2, B3, m3, d3, rfl, hb4, hrr⟩; have hb5 : Below wr.heap.size wr (w4.alloc (.cells #[.int .i64 1, .slice B1 m1 d1, .slice B2 m2 d2, .slice B3 m3 d3] 44)) := hb4.alloc hb4.size _; obtain ⟨⟨s0, q1⟩, q2, hn5⟩ := NX.out _ hb5; have hct := run_text (P := Tryz.prog) 28 5 9 Tryz.underlying28 Tryz.underlying5 Tryz.underlying9 (hrr.alloc (Nat.le_refl _) (.cells #[.int .i64 1, .slice B1 m1 d1, .slice B2 m2 d2, .slice B3 m3 d3] 44)) d2; rw [str_nums] at hct; have HN5 := Lib.hid hn5; clear hb4 hrr hb5 hn5))
      go_roundw
      case rel => exact ⟨j + 1, by go_num, by omega, HN5⟩
      case measure => simp [intOf]; omega
    · obtain rfl : j = n := by omega
      obtain ⟨bw, ow, hA1, hbw, hcw⟩ := HKH.out.wr.plain (by omega)
      have x0 := (HKH.out.far HJ.out (q := bw) (by omega) (ow + 0)).trans (hcw 0 (by omega))
      have x1 := (HKH.out.far HJ.out (q := bw) (by omega) (ow + 1)).trans (hcw 1 (by omega))
      have x2 := (HKH.out.far HJ.out (q := bw) (by omega) (ow + 2)).trans (hcw 2 (by omega))
      have x3 := (HKH.out.far HJ.out (q := bw) (by omega) (ow + 3)).trans (hcw 3 (by omega))
      have y1 : wr.cell? ⟨g6, 1, none⟩ = some (.slice A1 5 c1) := (HKH.out.far HJ.out (q := g6) (Nat.le_refl _) 1).trans (HKH.out.obj.cell 1)
      have hres := HKH.out.res.chg HJ.out.chg (fun e => by have := HKH.out.lt; omega)
      have z0 := hres.cell 0
      have z1 := hres.cell 1
      have z2 := hres.cell 2
      have z3 := hres.cell 3
      have z4 := hres.cell 4
      have f0 := hres.frozen 0
      have f1 := hres.frozen 1
      have f2 := hres.frozen 2
      have f3 := hres.frozen 3
      have f4 := hres.frozen 4
      have HRES := Lib.hid hres
      subst hA1
      obtain ⟨v0, hv0⟩ : ∃ v, o.ws.getD 0 0 = v := ⟨_, rfl⟩
      obtain ⟨v1, hv1⟩ : ∃ v, o.ws.getD 1 0 = v := ⟨_, rfl⟩
      obtain ⟨v2, hv2⟩ : ∃ v, o.ws.getD 2 0 = v := ⟨_, rfl⟩
      obtain ⟨v3, hv3⟩ : ∃ v, o.ws.getD 3 0 = v := ⟨_, rfl⟩
      rw [hv0] at x0; rw [Nat.add_zero] at x0; rw [hv1] at x1; rw [hv2] at x2; rw [hv3] at x3
      have HVV := Lib.hid (And.intro hv0 (And.intro hv1 (And.intro hv2 hv3)))
      clear hres hcw hv0 hv1 hv2 hv3
      go_wp2
      go_region
      all_goals
        go_wp2
        have hp5 := put5r (a0 := .int .u64 v0) (a1 := .int .u64 v1) (a2 := .int .u64 v2) (a3 := .int .u64 v3) (a4 := .slice (some ⟨g6 + 1, 0, none⟩) j j) HRES.out
        refine bodyPost_ret (results_cell2 rfl _ _ w.heap.size 36 _ (0, 0) _ rfl hp5.1.drew Tryz.underlying36 rfl (by kernel_rfl)) rfl ?_
        obtain ⟨e0, e1, e2, e3⟩ := HVV.out
        have hfl : fillR j j zs = zs := by unfold fillR; rw [List.take_of_length_le (by rw [HI.out.2.2.1]; exact Nat.le_refl _), Nat.sub_self]; simp
        have how := own_chg HJ.out.own (hp5.2.drew) (fun q hq e => by
          have h1 : g6 + 1 = q := by simpa [Value.ownBlock] using hq
          have := HKH.out.lt
          omega)
        rw [hfl] at how
        refine ⟨some ⟨g6 + 1, 0, none⟩, by rw [e0, e1, e2, e3]; rfl, Txt.of_own how (Nat.le_refl _) hm3 HI.out.2.2.2, ?_, fun ad ha => by injection ha with ha; subst ha; have := HKH.out.lt; show w.heap.size ≤ g6 + 1; omega⟩
        exact (HKH.out.bel HJ.out).trans (hp5.2.drew.below (by have := (HKH.out.bel HJ.out).size; exact this) (fun q _ e => by omega))
end

end Go.Proofs.YtobbkhncnokpiaaGreat
