/-
  LAYER 17: the document's Items: its contract.
-/
import Derived.Test.YtjpfbkhjhainpaaScItems
import Derived.Test.YtjpfbkhjhainpaaScPl
set_option linter.unusedVariables false
set_option maxRecDepth 100000
set_option linter.unusedSimpArgs false
namespace Go.Proofs.Ytjpfbkhjhainpaa
open Go.RowKit Go.Shelf

theorem itemsT_next {zs is : List Int} {j : Nat} {p : Int} (h : is[j]? = some p) : (itemsT zs is).take (j + 1) = (itemsT zs is).take j ++ [strOfNums (itemZ zs p)] := by
  have e : (itemsT zs is)[j]? = some (strOfNums (itemZ zs p)) := by unfold itemsT; rw [List.getElem?_map, h]; rfl
  rw [List.take_add_one, e]; rfl

/-- What is held between two rounds. -/
structure RIW (w wr : World) (zs : List Int) (lo hi : Int) (is : List Int) (cs : Array Value) (v : Value) (j : Nat) : Prop where
  own : wr.ownsRow w.heap.size 9 1 v j (cellsT ((itemsT zs is).take j))
  box : Blk wr w.heap.size 31 cs
  bel : Below w.heap.size w wr
  ok : ∀ i p, i < j → is[i]? = some p → OkI zs lo hi p
theorem RIW.next {w wr w1 w5 : World} {zs : List Int} {lo hi : Int} {is : List Int} {cs : Array Value} {v v' : Value} {j : Nat} {p : Int} {tmp : Obj} (h : RIW w wr zs lo hi is cs v j) (hb : Below wr.heap.size wr w1) (hp : is[j]? = some p) (hok : OkI zs lo hi p)
    (hown : w5.ownsRow w.heap.size 9 1 v' (j + 1) (cellsT ((itemsT zs is).take j) ++ [.string (strOfNums (itemZ zs p))])) (hg : (w1.alloc tmp).grownBy w5 v.ownBlock) : RIW w w5 zs lo hi is cs v' (j + 1) := by
  have hb1 := own_below h.own hb
  have hx1 := h.box.below hb h.box.lt
  refine ⟨?_, (hx1.alloc tmp).grown hg (own_blk_ne hb1 hx1 (by decide)).symm, ?_, fun i q hi hq => ?_⟩
  · rw [itemsT_next hp, cellsT_append]; exact hown
  · have hbb := h.bel.trans (hb.mono h.bel.size)
    exact (hbb.alloc hbb.size tmp).grown hg (by have := hbb.size; simp; omega) (fun k hk => (hb1.lt k hk).1)
  · rcases Nat.lt_or_ge i j with e | e
    · exact h.ok i q e hq
    · obtain rfl : i = j := by omega
      rw [hp] at hq; injection hq with hq; rw [← hq]; exact hok

set_option maxHeartbeats 4000000 in
theorem rItems_any {B B2 : Nat} (A : Option Addr) (n c : Nat) (zs : List Int) (lo hi : Int) (k : Int) (OA : Option Addr) (on oc : Nat) (OB : Option Addr) (om od : Nat) (OC : Option Addr) (op oq : Nat) (is : List Int) (w : World)
    (hr : Reads w B 1 A n (cellsOf .u8 zs)) (hB : B ≤ w.heap.size) (hz : AreB zs) (hl : n ≤ c) (hcap : c ≤ 9223372036854775807) (hm : n ≤ 1099511627776)
    (l0 : -9223372036854775808 ≤ lo) (l1 : lo ≤ 9223372036854775807) (h0 : -9223372036854775808 ≤ hi) (h1 : hi ≤ 9223372036854775807)
    (hs : Reads w B2 1 OC op (cellsOf .u64 is)) (hB2 : B2 ≤ w.heap.size) (hu : ∀ z ∈ is, 0 ≤ z ∧ z < 18446744073709551616) (hoq : op ≤ oq) (hop : op ≤ 1099511627776) :
    Calls Try.prog 15 #[.slice A n c, .int .i64 lo, .int .i64 hi, obV k OA on oc OB om od OC op oq] w (ItemsP zs lo hi is w) := by
  obtain ⟨i0, hi0, hz0, hz1, hz2⟩ := info_parts strInfo
  have hlz : zs.length = n := hr.len
  have hil : is.length = op := hs.len
  have HH := Lib.hid (And.intro hr (And.intro hs (And.intro hu (And.intro hlz hil))))
  have ST : Hid (RIW w (w.alloc (.cells #[.int .i64 k, .slice OA on oc, .slice OB om od, .slice OC op oq] 31)) zs lo hi is #[.int .i64 k, .slice OA on oc, .slice OB om od, .slice OC op oq] (.slice none 0 0) 0) := Lib.hid ⟨World.ownsRow_nil _ _ _ _, Blk.new w _ _, boxed w _, fun i p hi => by omega⟩
  have d2 : decide (0 < lo) = true ∧ IntKind.u64.wrap lo = lo ∨ decide (0 < lo) = false ∧ True := by
    by_cases h : 0 < lo
    · exact .inl ⟨decide_eq_true h, by rw [IntKind.wrap_u64]; omega⟩
    · exact .inr ⟨decide_eq_false h, trivial⟩
  clear hr hs hlz hil hu
  rcases d2 with ⟨d2, hwl⟩ | ⟨d2, hwl⟩
  all_goals
    go_enter Try.func15, Try.ntmps15
    go_wp2
    go_loopw [10, 11] (fun s10 s11 wr => ∃ (j : Nat) (A1 : Option Addr) (c1 : Nat), s10 = .slice A1 j c1 ∧ s11 = .int .i64 j ∧ j ≤ op ∧ Hid (RIW w wr zs lo hi is #[.int .i64 k, .slice OA on oc, .slice OB om od, .slice OC op oq] (.slice A1 j c1) j)) (fun _ s11 _ => op - (intOf s11).toNat)
    case atStart => exact ⟨0, none, 0, rfl, rfl, Nat.zero_le _, ST⟩
    case round =>
      clear ST
      obtain ⟨j, A1, c1, rfl, rfl, hj, HJ⟩ := hrel
      have x3 := HJ.out.box.cell 3
      by_cases hlt : j < op
      · obtain ⟨hr, hs, hu, hlz, hil⟩ := HH.out
        have hbw := HJ.out.bel
        have hbs := hbw.size
        obtain ⟨p, hp⟩ : ∃ p, is[j]? = some p := ⟨_, List.getElem?_eq_getElem (by omega)⟩
        have hpu := hu p (List.mem_of_getElem? hp)
        obtain ⟨q, rfl⟩ : ∃ q : Nat, p = q := ⟨p.toNat, by omega⟩
        obtain ⟨bi, oi, rfl, hbi, hci⟩ := (hs.below (hbw.mono hB2)).at2 (by omega) (by omega)
        have c0 : wr.cell? ⟨bi, oi + j, none⟩ = some (.int .u64 (q : Int)) := hci j _ (by rw [cellsOf, List.getElem?_map, hp]; rfl)
        have hrw := hr.below (hbw.mono hB)
        have HP := Lib.hid (And.intro hp hpu)
        have hlo : decide (0 < lo) = false → ¬ (q : Int) < lo := fun e => by have := of_decide_eq_false e; omega
        by_cases hok : OkI zs lo hi (q : Int)
        · have hrm : q + 16 ≤ zs.length := hok.is_.at_.room
          have d1 : decide ((1099511627776 : Int) < (q : Int)) = false := decide_eq_false (by omega)
          have d3 : decide ((q : Int) < lo) = false := decide_eq_false (by have := hok.lo_; omega)
          have d4 : decide (hi ≤ 0) = false := decide_eq_false (by have := hok.hi_; omega)
          have hwh : IntKind.u64.wrap hi = hi := by have := hok.hi_; rw [IntKind.wrap_u64]; omega
          have d5 : decide (hi ≤ (q : Int)) = false := decide_eq_false (by have := hok.hi_; omega)
          have hwq : IntKind.i64.wrap (q : Int) = (q : Int) := by have := hok.hi_; rw [IntKind.wrap_i64]; omega
          have DE := Lib.hid (rodec_yes A n c q 1 (sizA zs q) zs wr hrw (by omega) hz hl hcap (by omega) hok.is_.at_ hok.is_.dec)
          have NX := Lib.hid (fun (w1 w5 : World) (v' : Value) (tmp : Obj) (hb : Below wr.heap.size wr w1) hown hg => HJ.out.next (p := (q : Int)) (w5 := w5) (v' := v') (tmp := tmp) hb hp hok hown hg)
          obtain ⟨st, hst⟩ : ∃ st, strOfNums (itemZ zs (q : Int)) = st := ⟨_, rfl⟩
          have HST := Lib.hid hst
          rw [hst] at NX
          have s2 : j + 1 ≤ maxLen := by unfold maxLen; omega
          have s3 : (j + 1) * 16 ≤ 140737488355328 := by omega
          clear hr hs hu hlz hil hci hp hrw hok hst hpu hrm hlo
          go_wp2_with (first
            | (go_at_call 20; go_loud (refine DE.out.mono ?_; rintro e w4 ⟨D1, m1, e1, D2, m2, e2, D3, m3, e3, rfl, hb4, how⟩; have HB5 := Lib.hid (hb4.alloc hb4.size (.cells #[.int .i64 1, .slice D1 m1 e1, .slice D2 m2 e2, .slice D3 m3 e3] 31) : Below wr.heap.size wr _); have hct := run_text (P := Try.prog) 22 5 9 Try.underlying22 Try.underlying5 Try.underlying9 (how.rr.alloc (Nat.le_refl _) (.cells #[.int .i64 1, .slice D1 m1 e1, .slice D2 m2 e2, .slice D3 m3 e3] 31)) e2; have hcs : strOfNums (dR (objB zs q (sizA zs q)) 1) = st := HST.out; rw [show dR (objB zs q (sizA zs q)) ((1 : Nat) : Int) = dR (objB zs q (sizA zs q)) 1 from rfl, hcs] at hct; clear hb4 how hcs))
            | (at_builtin; go_loud (refine wpList_append_any _ rfl _ _ 39 rfl w.heap.size 9 i0 (.string ⟨#[]⟩) 1 16 Try.underlying39 hi0 hz0 hz1 hz2 rfl (Nat.lt_succ_self 0) (.slice A1 j c1) j (cellsT ((itemsT zs is).take j)) rfl ((own_below HJ.out.own HB5.out).alloc _) _ _ 1 1 [.string st] rfl (new1At (g := w4.heap.size + 1) (World.size_alloc _ _) 9 (.string st)) (strOne st) s2 s3 (by have := HB5.out.size; have := HJ.out.bel.size; simp at *; omega) ?_; intro v1 w5 hown1 hg1 hat1; have N5 := Lib.hid (NX.out _ w5 v1 _ HB5.out hown1 hg1); obtain ⟨A4, c4, rfl, -, -⟩ := own_form hown1; clear hown1 hg1 hat1)))
          go_roundw
          case rel => exact ⟨j + 1, A4, c4, rfl, by go_num, by omega, N5⟩
          case measure => simp [intOf]; omega
        · have fin : ∀ (e : Ending) (w' : World), Below w.heap.size w w' → e = .returned (.tuple #[.slice none 0 0, .bool false]) → ItemsP zs lo hi is w e w' := fun e w' hb he => ⟨hb, .inr ⟨fun h => hok (h _ (List.mem_of_getElem? HP.out.1)), he⟩⟩
          have FN := Lib.hid fin
          have HBW := Lib.hid hbw
          by_cases hd1 : (1099511627776 : Int) < (q : Int)
          · have d1 : decide ((1099511627776 : Int) < (q : Int)) = true := decide_eq_true hd1
            clear hr hs hu hlz hil hci hp hrw hok hpu fin hbw hlo
            go_wp2
            go_ret2
            exact FN.out _ _ HBW.out rfl
          have d1 : decide ((1099511627776 : Int) < (q : Int)) = false := decide_eq_false hd1
          by_cases hd3 : (q : Int) < lo
          · have d3 : decide ((q : Int) < lo) = true := decide_eq_true hd3
            have d2' : decide (0 < lo) = true := decide_eq_true (by omega)
            clear hr hs hu hlz hil hci hp hrw hok hpu fin hbw
            first
              | (rw [d2'] at d2; cases d2; done)
              | (clear hlo d2'
                 go_wp2
                 go_ret2
                 exact FN.out _ _ HBW.out rfl)
          have d3 : decide ((q : Int) < lo) = false := decide_eq_false hd3
          by_cases hd4 : hi ≤ 0
          · have d4 : decide (hi ≤ 0) = true := decide_eq_true hd4
            clear hr hs hu hlz hil hci hp hrw hok hpu fin hbw hlo
            go_wp2
            go_ret2
            exact FN.out _ _ HBW.out rfl
          have d4 : decide (hi ≤ 0) = false := decide_eq_false hd4
          have hwh : IntKind.u64.wrap hi = hi := by rw [IntKind.wrap_u64]; omega
          by_cases hd5 : hi ≤ (q : Int)
          · have d5 : decide (hi ≤ (q : Int)) = true := decide_eq_true hd5
            clear hr hs hu hlz hil hci hp hrw hok hpu fin hbw hlo
            go_wp2
            go_ret2
            exact FN.out _ _ HBW.out rfl
          have d5 : decide (hi ≤ (q : Int)) = false := decide_eq_false hd5
          have hno := OkI.not hok (by omega) (by omega) (by omega)
          have hwq : IntKind.i64.wrap (q : Int) = (q : Int) := by rw [IntKind.wrap_i64]; omega
          by_cases hx : ∃ r : SR, (q : Int) = r.j ∧ r.Is zs
          · obtain ⟨⟨q', k', s'⟩, e, hr'⟩ := hx
            have e' : (q : Int) = (q' : Int) := e
            obtain rfl : q = q' := by omega
            have hk1 : k' ≠ 1 := fun e => hno s' (by subst e; exact hr')
            have DE := Lib.hid (rodec_yes A n c q k' s' zs wr hrw (by omega) hz hl hcap (by omega) hr'.at_ hr'.dec)
            obtain ⟨kk, hkk⟩ : ∃ kk : Int, (k' : Int) = kk := ⟨_, rfl⟩
            have hkd : (kk != 1) = true := bne_iff_ne.2 (by omega)
            rw [hkk] at DE
            clear hr hs hu hlz hil hci hp hrw hok hpu fin hbw hno hr' e e' hk1 hkk hlo
            go_wp2_with (go_at_call 20; go_loud (refine DE.out.mono ?_; rintro e w4 ⟨D1, m1, e1, D2, m2, e2, D3, m3, e3, rfl, hb4, -⟩; have HB5 := Lib.hid (HBW.out.trans ((hb4.alloc hb4.size (.cells #[.int .i64 kk, .slice D1 m1 e1, .slice D2 m2 e2, .slice D3 m3 e3] 31)).mono HBW.out.size)); clear hb4))
            go_ret2
            exact FN.out _ _ HB5.out rfl
          · have DE := Lib.hid (rodec_no A n c (q : Int) zs wr hrw (by omega) hz hl hcap (by omega) (by omega) (by omega) (noOb_not hx))
            clear hr hs hu hlz hil hci hp hrw hok hpu fin hbw hno hx hlo
            go_wp2_with (go_at_call 20; go_loud (refine DE.out.mono ?_; rintro e w4 ⟨rfl, hb4⟩; have HB5 := Lib.hid (HBW.out.trans ((hb4.alloc hb4.size (.cells #[.int .i64 0, .slice none 0 0, .slice none 0 0, .slice none 0 0] 31)).mono HBW.out.size)); clear hb4))
            go_ret2
            exact FN.out _ _ HB5.out rfl
      · obtain rfl : j = op := by omega
        go_wp2
        go_ret2
        obtain ⟨-, -, -, hlz, hil⟩ := HH.out
        have how := HJ.out.own
        rw [List.take_of_length_le (by rw [itemsT_length, hil]; exact Nat.le_refl _)] at how
        obtain ⟨A5, c5, e5, h51, h52⟩ := own_form how
        have e6 : A1 = A5 ∧ c1 = c5 := by injection e5 with e7 _ e8; exact ⟨e7, e8⟩
        obtain ⟨rfl, rfl⟩ := e6
        refine ⟨HJ.out.bel, .inl ⟨fun p hp => ?_, A1, c1, by rw [hil]; rfl, by rw [hil]; exact Txt.of_own how h51 h52 (itemsT_small (by omega)), fun ad ha => by subst ha; exact (how.lt _ rfl).1⟩⟩
        obtain ⟨i, hi⟩ := List.getElem?_of_mem hp
        exact HJ.out.ok i p (by have := (List.getElem?_eq_some_iff.1 hi).1; omega) hi
end Go.Proofs.Ytjpfbkhjhainpaa
