/-
  LAYER 17: Items: its contract.
-/
import Derived.Test.YtjpfbkhjhainpaaGreatScWh
import Derived.Test.YtjpfbkhjhainpaaGreatEaB
set_option linter.unusedVariables false
set_option maxRecDepth 100000
set_option linter.unusedSimpArgs false
namespace Go.Proofs.YtjpfbkhjhainpaaGreat
open Go.RowKit Go.Shelf

/-- The texts of an entry's items. -/
def itemsT (zs : List Int) (is : List Int) : List ByteArray := is.map fun p => strOfNums (itemZ zs p)
theorem itemsT_length (zs is : List Int) : (itemsT zs is).length = is.length := by unfold itemsT; rw [List.length_map]
theorem itemsT_at {zs is : List Int} {j : Nat} {p : Int} (h : is[j]? = some p) : nthT (itemsT zs is) j = strOfNums (itemZ zs p) := by
  have hj := (List.getElem?_eq_some_iff.1 h).1
  rw [nthT_get (by rw [itemsT_length]; exact hj)]
  have e : (itemsT zs is)[j]? = some (strOfNums (itemZ zs p)) := by unfold itemsT; rw [List.getElem?_map, h]; rfl
  exact (List.getElem?_eq_some_iff.1 e).2
theorem strOf_size (l : List Int) : (strOfNums l).size = l.length := by unfold strOfNums; show (List.toArray _).size = _; simp
theorem itemZ_len (zs : List Int) (p : Int) : (itemZ zs p).length ≤ zs.length := by
  unfold itemZ
  rw [dR_length]
  split
  · omega
  · unfold objB; rw [List.length_take, List.length_drop]; omega
theorem itemsT_small {zs is : List Int} (hz : zs.length ≤ 1099511627776) : ∀ s ∈ itemsT zs is, s.size ≤ maxLen := fun s hs => by
  unfold itemsT at hs
  obtain ⟨p, -, rfl⟩ := List.mem_map.1 hs
  rw [strOf_size]
  have := itemZ_len zs p
  unfold maxLen; omega

/-- What Items tells. -/
def ItemsP (zs : List Int) (lo hi : Int) (is : List Int) (w : World) (e : Ending) (w' : World) : Prop :=
  Below w.heap.size w w' ∧ (((∀ p ∈ is, OkI zs lo hi p) ∧ ∃ A c, e = .returned (.tuple #[.slice A is.length c, .bool true]) ∧ Txt w' w'.heap.size A is.length c (itemsT zs is) ∧ ∀ ad, A = some ad → w.heap.size ≤ ad.block) ∨
    ((¬ ∀ p ∈ is, OkI zs lo hi p) ∧ e = .returned (.tuple #[.slice none 0 0, .bool false])))

/-- What is held between two rounds. -/
structure ItW (w w3 wr : World) (zs : List Int) (lo hi : Int) (is : List Int) (g n j : Nat) : Prop where
  row : RdAtR w w3 wr g n (itemsT zs is) j
  bel : Below w.heap.size w w3
  lt : w.heap.size ≤ g
  g3 : g < w3.heap.size
  ok : ∀ i p, i < j → is[i]? = some p → OkI zs lo hi p
section
variable {w w3 wr : World} {zs : List Int} {lo hi : Int} {is : List Int} {g n j : Nat}
theorem ItW.below (h : ItW w w3 wr zs lo hi is g n j) : Below w.heap.size w wr := h.bel.trans (h.row.chg.below h.bel.size (fun q _ e => by have := h.lt; omega))
theorem ItW.start {w1 : World} (hb : Below w.heap.size w w1) (hg : w1.grownBy w3 none) (hown : w3.ownsRow w.heap.size 9 1 (.slice (some ⟨w1.heap.size, 0, none⟩) n n) n (madeCells (Value.string ⟨#[]⟩).cells (n * 1)).toList) : ItW w w3 w3 zs lo hi is w1.heap.size n 0 := by
  have e : (madeCells (Value.string ⟨#[]⟩).cells (n * 1)).toList = cellsT (List.replicate n ⟨#[]⟩) := by
    rw [Nat.mul_one]
    show (madeCells #[Value.string ⟨#[]⟩] n).toList = _
    rw [toList_madeCells_one]; simp [cellsT]
  rw [e] at hown
  have e2 : fillR n 0 (itemsT zs is) = List.replicate n ⟨#[]⟩ := by unfold fillR; simp
  exact ⟨⟨by rw [e2]; exact hown, Chg.refl _ _⟩, hb.grown hg hb.size (fun k hk => by cases hk), hb.size, (hown.lt _ rfl).2, fun i p hi => by omega⟩
theorem ItW.next {w5 : World} {p : Int} (h : ItW w w3 wr zs lo hi is g n j) (hl : is.length = n) (hlt : j < n) (hb : Below wr.heap.size wr w5) (hp : is[j]? = some p) (hok : OkI zs lo hi p) :
    (∃ s0, w5.cell? ⟨g, j, none⟩ = some (.string s0)) ∧ w5.frozen? ⟨g, j, none⟩ = false ∧ ItW w w3 (w5.setCell ⟨g, j, none⟩ (.string (strOfNums (itemZ zs p)))) zs lo hi is g n (j + 1) := by
  obtain ⟨h1, h2, h3⟩ := h.row.next (by rw [itemsT_length]; exact hl) hlt hb h.row.chg.size
  rw [itemsT_at hp] at h3
  refine ⟨h1, h2, h3, h.bel, h.lt, h.g3, fun i q hi hq => ?_⟩
  rcases Nat.lt_or_ge i j with e | e
  · exact h.ok i q e hq
  · obtain rfl : i = j := by omega
    rw [hp] at hq; injection hq with hq; rw [← hq]; exact hok
end

set_option maxHeartbeats 4000000 in
theorem scItems_any {B B2 : Nat} (A : Option Addr) (n c : Nat) (zs : List Int) (lo hi : Int) (k : Int) (OA : Option Addr) (on oc : Nat) (OB : Option Addr) (om od : Nat) (OC : Option Addr) (op oq : Nat) (is : List Int) (w : World)
    (hr : Reads w B 1 A n (cellsOf .u8 zs)) (hB : B ≤ w.heap.size) (hz : AreB zs) (hl : n ≤ c) (hcap : c ≤ 9223372036854775807) (hm : n ≤ 1099511627776)
    (l0 : -9223372036854775808 ≤ lo) (l1 : lo ≤ 9223372036854775807) (h0 : -9223372036854775808 ≤ hi) (h1 : hi ≤ 9223372036854775807)
    (hs : Reads w B2 1 OC op (cellsOf .u64 is)) (hB2 : B2 ≤ w.heap.size) (hu : ∀ z ∈ is, 0 ≤ z ∧ z < 18446744073709551616) (hoq : op ≤ oq) (hop : op ≤ 1099511627776) :
    Calls Tryz.prog 28 #[.slice A n c, .int .i64 lo, .int .i64 hi, obV k OA on oc OB om od OC op oq] w (ItemsP zs lo hi is w) := by
  obtain ⟨i0, hi0, hz0, hz1, hz2⟩ := info_parts strInfo
  have hlz : zs.length = n := hr.len
  have hil : is.length = op := hs.len
  have hb2 : i0.bytes * op ≤ 281474976710656 := by rw [hz2]; omega
  have hm3 : op ≤ maxLen := by unfold maxLen; omega
  obtain ⟨a, ha⟩ : ∃ a : Int, max lo 0 = a := ⟨_, rfl⟩
  obtain ⟨b, hb⟩ : ∃ b : Int, max hi 0 = b := ⟨_, rfl⟩
  have ha0 : 0 ≤ a ∧ a ≤ 9223372036854775807 := by omega
  have hb0 : 0 ≤ b ∧ b ≤ 9223372036854775807 := by omega
  have hwa : IntKind.u64.wrap a = a := by rw [IntKind.wrap_u64]; omega
  have hwb : IntKind.u64.wrap b = b := by rw [IntKind.wrap_u64]; omega
  have HAB := Lib.hid (And.intro ha hb)
  have HH := Lib.hid (And.intro hr (And.intro hs (And.intro hu (And.intro hlz hil))))
  have hbx : Below w.heap.size w (w.alloc (.cells #[.int .i64 k, .slice OA on oc, .slice OB om od, .slice OC op oq] 50)) := boxed w _
  have HBX := Lib.hid hbx
  have c3b := (Blk.new w 50 #[.int .i64 k, .slice OA on oc, .slice OB om od, .slice OC op oq]).cell 3
  have c3o : ∀ w3, (w.alloc (.cells #[.int .i64 k, .slice OA on oc, .slice OB om od, .slice OC op oq] 50)).grownBy w3 none → w3.cell? ⟨w.heap.size, 3, none⟩ = some (.slice OC op oq) := fun w3 hg => ((Blk.new w 50 #[.int .i64 k, .slice OA on oc, .slice OB om od, .slice OC op oq]).grown hg (by simp)).cell 3
  have C3 := Lib.hid c3o
  clear hr hs hlz hil hu hbx c3o
  go_enter Tryz.func28, Tryz.ntmps28
  go_wp2_with (at_make; go_loud (refine wpList_make_full _ rfl _ _ 24 rfl w.heap.size 9 i0 (.string ⟨#[]⟩) 1 Tryz.underlying24 hi0 hz0 hz1 _ _ _ _ op rfl rfl rfl rfl hb2 hm3 HBX.out.size ?_; intro w3 hown1 hg1; have c3q := C3.out w3 hg1; have ST := Lib.hid (ItW.start (zs := zs) (lo := lo) (hi := hi) (is := is) HBX.out hg1 hown1); clear hown1 hg1))
  obtain ⟨g, hg⟩ : ∃ g, w.heap.size + 1 = g := ⟨_, rfl⟩
  rw [World.size_alloc, hg] at ST
  try rw [hg]
  clear C3 c3q c3b hg
  go_loopw [31] (fun s31 wr => ∃ j : Nat, s31 = .int .i64 j ∧ j ≤ op ∧ Hid (ItW w w3 wr zs lo hi is g op j)) (fun s31 _ => op - (intOf s31).toNat)
  case atStart => exact ⟨0, rfl, Nat.zero_le _, ST⟩
  case round =>
    clear ST
    obtain ⟨j, rfl, hj, HJ⟩ := hrel
    by_cases hlt : j < op
    · obtain ⟨hr, hs, hu, hlz, hil⟩ := HH.out
      have hbw := HJ.out.below
      have hbs := hbw.size
      obtain ⟨p, hp⟩ : ∃ p, is[j]? = some p := ⟨_, List.getElem?_eq_getElem (by omega)⟩
      have hpu := hu p (List.mem_of_getElem? hp)
      obtain ⟨q, rfl⟩ : ∃ q : Nat, p = q := ⟨p.toNat, by omega⟩
      obtain ⟨bi, oi, rfl, hbi, hci⟩ := (hs.below (hbw.mono hB2)).at2 (by omega) (by omega)
      have c0 : wr.cell? ⟨bi, oi + j, none⟩ = some (.int .u64 (q : Int)) := hci j _ (by rw [cellsOf, List.getElem?_map, hp]; rfl)
      have hrw := hr.below (hbw.mono hB)
      have HP := Lib.hid (And.intro hp hpu)
      by_cases hok : OkI zs lo hi (q : Int)
      · have d1 : decide ((q : Int) < a) = false := decide_eq_false (by have := hok.lo_; have := HAB.out.1; omega)
        have d2 : decide (b ≤ (q : Int)) = false := decide_eq_false (by have := hok.hi_; have := HAB.out.2; omega)
        have hq1 : (q : Int) < 9223372036854775807 := by have := hok.hi_; omega
        have hwq : IntKind.i64.wrap (q : Int) = (q : Int) := by rw [IntKind.wrap_i64]; omega
        have DE := Lib.hid (odec_yes A n c q 1 (sizA zs q) zs wr hrw (by omega) hz hl hcap (by omega) hok.is_.at_ hok.is_.dec)
        have NX := Lib.hid (fun w5 (hb : Below wr.heap.size wr w5) => HJ.out.next (p := (q : Int)) hil hlt hb hp hok)
        obtain ⟨st, hst⟩ : ∃ st, strOfNums (itemZ zs (q : Int)) = st := ⟨_, rfl⟩
        have HST := Lib.hid hst
        rw [hst] at NX
        clear hr hs hu hlz hil hci hp hrw hok hst hpu
        go_wp2_with (go_at_call 56; go_loud (refine DE.out.mono ?_; rintro e w4 ⟨D1, m1, e1, D2, m2, e2, D3, m3, e3, rfl, hb4, how⟩; have hb5 : Below wr.heap.size wr (w4.alloc (.cells #[.int .i64 1, .slice D1 m1 e1, .slice D2 m2 e2, .slice D3 m3 e3] 50)) := hb4.alloc hb4.size _; obtain ⟨⟨s0, q1⟩, q2, hn5⟩ := NX.out _ hb5; have hct := run_text (P := Tryz.prog) 41 5 9 Tryz.underlying41 Tryz.underlying5 Tryz.underlying9 (how.reads.rr.alloc (Nat.le_refl _) (.cells #[.int .i64 1, .slice D1 m1 e1, .slice D2 m2 e2, .slice D3 m3 e3] 50)) e2; have hcs : strOfNums (dR (objB zs q (sizA zs q)) 1) = st := HST.out; rw [show dR (objB zs q (sizA zs q)) ((1 : Nat) : Int) = dR (objB zs q (sizA zs q)) 1 from rfl, hcs] at hct; have HN5 := Lib.hid hn5; clear hb4 how hb5 hn5 hcs))
        go_roundw
        case rel => exact ⟨j + 1, by go_num, by omega, HN5⟩
        case measure => simp [intOf]; omega
      · have fin : ∀ (e : Ending) (w' : World), Below w.heap.size w w' → e = .returned (.tuple #[.slice none 0 0, .bool false]) → ItemsP zs lo hi is w e w' := fun e w' hb he => ⟨hb, .inr ⟨fun h => hok (h _ (List.mem_of_getElem? HP.out.1)), he⟩⟩
        have FN := Lib.hid fin
        have HBW := Lib.hid hbw
        by_cases hd1 : (q : Int) < a
        · have d1 : decide ((q : Int) < a) = true := decide_eq_true hd1
          clear hr hs hu hlz hil hci hp hrw hok hpu fin hbw
          go_wp2
          go_ret2
          exact FN.out _ _ HBW.out rfl
        by_cases hd2 : b ≤ (q : Int)
        · have d1 : decide ((q : Int) < a) = false := decide_eq_false hd1
          have d2 : decide (b ≤ (q : Int)) = true := decide_eq_true hd2
          clear hr hs hu hlz hil hci hp hrw hok hpu fin hbw
          go_wp2
          go_ret2
          exact FN.out _ _ HBW.out rfl
        have d1 : decide ((q : Int) < a) = false := decide_eq_false hd1
        have d2 : decide (b ≤ (q : Int)) = false := decide_eq_false hd2
        have hno := OkI.not hok (by omega) (by have := HAB.out.1; omega) (by have := HAB.out.2; omega)
        have hq1 : (q : Int) < 9223372036854775807 := by omega
        have hwq : IntKind.i64.wrap (q : Int) = (q : Int) := by rw [IntKind.wrap_i64]; omega
        by_cases hx : ∃ r : SR, (q : Int) = r.j ∧ r.Is zs
        · obtain ⟨⟨q', k', s'⟩, e, hr'⟩ := hx
          have e' : (q : Int) = (q' : Int) := e
          obtain rfl : q = q' := by omega
          have hk1 : k' ≠ 1 := fun e => hno s' (by subst e; exact hr')
          have DE := Lib.hid (odec_yes A n c q k' s' zs wr hrw (by omega) hz hl hcap (by omega) hr'.at_ hr'.dec)
          obtain ⟨kk, hkk⟩ : ∃ kk : Int, (k' : Int) = kk := ⟨_, rfl⟩
          have hkd : (kk != 1) = true := bne_iff_ne.2 (by omega)
          rw [hkk] at DE
          clear hr hs hu hlz hil hci hp hrw hok hpu fin hbw hno hr' e e' hk1 hkk
          go_wp2_with (go_at_call 56; go_loud (refine DE.out.mono ?_; rintro e w4 ⟨D1, m1, e1, D2, m2, e2, D3, m3, e3, rfl, hb4, -⟩; have HB5 := Lib.hid (HBW.out.trans ((hb4.alloc hb4.size (.cells #[.int .i64 kk, .slice D1 m1 e1, .slice D2 m2 e2, .slice D3 m3 e3] 50)).mono HBW.out.size)); clear hb4))
          go_ret2
          exact FN.out _ _ HB5.out rfl
        · have DE := Lib.hid (odec_no A n c (q : Int) zs wr hrw (by omega) hz hl hcap (by omega) (by omega) (by omega) (noOb_not hx))
          clear hr hs hu hlz hil hci hp hrw hok hpu fin hbw hno hx
          go_wp2_with (go_at_call 56; go_loud (refine DE.out.mono ?_; rintro e w4 ⟨rfl, hb4⟩; have HB5 := Lib.hid (HBW.out.trans ((hb4.alloc hb4.size (.cells #[.int .i64 0, .slice none 0 0, .slice none 0 0, .slice none 0 0] 50)).mono HBW.out.size)); clear hb4))
          go_ret2
          exact FN.out _ _ HB5.out rfl
    · obtain rfl : j = op := by omega
      go_wp2
      go_ret2
      obtain ⟨-, -, -, hlz, hil⟩ := HH.out
      have how := HJ.out.row.own
      have hfl : fillR j j (itemsT zs is) = itemsT zs is := by unfold fillR; rw [List.take_of_length_le (by rw [itemsT_length, hil]; exact Nat.le_refl _), Nat.sub_self]; simp
      rw [hfl] at how
      refine ⟨HJ.out.below, .inl ⟨fun p hp => ?_, some ⟨g, 0, none⟩, j, by rw [hil]; rfl, by rw [hil]; exact Txt.of_own how (Nat.le_refl _) hm3 (itemsT_small (by omega)), fun ad ha => by injection ha with ha; subst ha; exact HJ.out.lt⟩⟩
      obtain ⟨i, hi⟩ := List.getElem?_of_mem hp
      exact HJ.out.ok i p (by have := (List.getElem?_eq_some_iff.1 hi).1; omega) hi
end Go.Proofs.YtjpfbkhjhainpaaGreat
