/-
  LAYER 14: what ChainTells leans on: rising places; one more of them; its question; the document's Search.
-/
import Derived.Test.YtblpmnipapimcaaChLaw
set_option linter.unusedVariables false
set_option maxRecDepth 100000
set_option linter.unusedSimpArgs false
namespace Go.Proofs.Ytblpmnipapimcaa
open Go.RowKit Go.Shelf

/-- The places, one behind the other. -/
def accT (zs : List Int) : Nat → Int
  | 0 => 0
  | k + 1 => accT zs k + 1 + zs.getD k 0
def lstT (zs : List Int) : Nat → List Int
  | 0 => []
  | k + 1 => lstT zs k ++ [accT zs (k + 1)]
theorem lstT_length (zs : List Int) : ∀ k, (lstT zs k).length = k
  | 0 => rfl
  | k + 1 => by rw [lstT, List.length_append, lstT_length zs k]; rfl
theorem lstT_get (zs : List Int) : ∀ {k i : Nat}, i < k → (lstT zs k).getD i 0 = accT zs (i + 1)
  | k + 1, i, h => by
    rw [lstT, List.getD_eq_getElem?_getD]
    by_cases hi : i < k
    · rw [List.getElem?_append_left (by rw [lstT_length]; exact hi), ← List.getD_eq_getElem?_getD, lstT_get zs hi]
    · have e : i = k := by omega
      subst e
      rw [List.getElem?_append_right (by rw [lstT_length]; exact Nat.le_refl _), lstT_length, Nat.sub_self]; rfl
theorem accT_bd {zs : List Int} (hz : ∀ z ∈ zs, 0 ≤ z ∧ z < 65536) : ∀ {k : Nat}, k ≤ zs.length → (k : Int) ≤ accT zs k ∧ accT zs k ≤ 65536 * k
  | 0, _ => by simp [accT]
  | k + 1, h => by
    have h1 := accT_bd hz (k := k) (by omega)
    have h2 : 0 ≤ zs.getD k 0 ∧ zs.getD k 0 < 65536 := by
      rw [List.getD_eq_getElem?_getD, List.getElem?_eq_getElem (by omega)]
      exact hz _ (List.getElem_mem _)
    rw [accT]; omega
theorem accT_mono {zs : List Int} (hz : ∀ z ∈ zs, 0 ≤ z ∧ z < 65536) : ∀ {i j : Nat}, i ≤ j → j ≤ zs.length → accT zs i ≤ accT zs j
  | i, 0, h, _ => by rw [show i = 0 by omega]; exact Int.le_refl _
  | i, j + 1, h, hj => by
    by_cases e : i = j + 1
    · rw [e]; exact Int.le_refl _
    · have h1 := accT_mono hz (i := i) (j := j) (by omega) (by omega)
      have h2 : 0 ≤ zs.getD j 0 ∧ zs.getD j 0 < 65536 := by
        rw [List.getD_eq_getElem?_getD, List.getElem?_eq_getElem (by omega)]
        exact hz _ (List.getElem_mem _)
      rw [accT]; omega
def leastQ (least : Int) (x : Int) : Bool := decide (least ≤ x)
theorem lstT_monoY {zs : List Int} (hz : ∀ z ∈ zs, 0 ≤ z ∧ z < 65536) {k : Nat} (hk : k ≤ zs.length) (least : Int) : MonoY (leastQ least) (lstT zs k) := by
  intro i j hij hj hq
  rw [lstT_length] at hj
  rw [lstT_get zs (by omega)] at hq
  rw [lstT_get zs hj]
  have := accT_mono hz (i := i + 1) (j := j + 1) (by omega) (by omega)
  unfold leastQ at *
  simp at *
  omega

/-- The question of the statement. -/
theorem tells_ask (least : Int) (B : Nat) (w : World) (hB : B < w.heap.size) (hc : w.cell? ⟨B, 0, none⟩ = some (.int .u64 least)) : Asks (leastQ least) 19 #[.pointer (some ⟨B, 0, none⟩)] w := by
  intro W x hb
  have c1 := (hb.cell (p := ⟨B, 0, none⟩) hB).trans hc
  show Calls Try.prog 19 #[.int .u64 x, .pointer (some ⟨B, 0, none⟩)] W _
  go_enter Try.func19, Try.ntmps19
  go_wp2
  go_ret
  exact ⟨rfl, 0, rfl⟩

/-- The document's Search. -/
theorem rcsearch_any {B : Nat} (A : Option Addr) (n c : Nat) (zs : List Int) (least : Int) (w : World) (hr : Reads w B 1 A n (cellsOf .u64 zs)) (hn : n ≤ 140737488355328) :
    Calls Try.prog 20 #[.slice A n c, .int .u64 least] w fun e w' => e = .returned (.int .i64 (firstY (leastQ least) zs : Nat)) ∧ w = w' := by
  have hl := hr.len
  go_enter Try.func20, Try.ntmps20
  go_wp2
  have hfl := firstY_le (leastQ least) zs
  go_loopw [5] (fun i wr => ∃ k : Nat, k ≤ n ∧ i = .int .i64 k ∧ wr = w ∧ Hid (k ≤ firstY (leastQ least) zs)) (fun i _ => n - (intOf i).toNat)
  case atStart => exact ⟨0, Nat.zero_le _, rfl, rfl, Lib.hid (Nat.zero_le _)⟩
  case round =>
    obtain ⟨k, hk, rfl, rfl, hpl⟩ := hrel
    by_cases hlt : k < n
    · obtain ⟨b1, o1, rfl, _, h1⟩ := hr.plain (by omega)
      have q1 := h1 k hlt
      have HN : Hid (leastQ least (zs.getD k 0) = true → firstY (leastQ least) zs = k) := Lib.hid (fun h => by
        have := hpl.out
        rcases Nat.lt_or_eq_of_le this with h2 | h2
        · rw [firstY_no h2] at h; cases h
        · exact h2.symm)
      have HM : Hid (leastQ least (zs.getD k 0) = false → k + 1 ≤ firstY (leastQ least) zs) := Lib.hid (fun h => by
        have := hpl.out
        rcases Nat.lt_or_eq_of_le this with h2 | h2
        · exact h2
        · have h3 := firstY_at (q := leastQ least) (L := zs) (by omega)
          rw [← h2, h] at h3; cases h3)
      generalize hxe : zs.getD k 0 = x at q1 HN HM
      have i1 : (k : Int) < (n : Int) := by omega
      clear h1 hr hl hxe hfl
      by_cases hx : least ≤ x
      · have e : firstY (leastQ least) zs = k := HN.out (decide_eq_true hx)
        have HE := Lib.hid e
        clear e HN HM
        go_wp2
        go_ret
        exact ⟨congrArg (fun z : Nat => Ending.returned (.int .i64 z)) HE.out.symm, rfl⟩
      · have e : k + 1 ≤ firstY (leastQ least) zs := HM.out (decide_eq_false hx)
        have HE := Lib.hid e
        have hx2 : x < least := by omega
        clear e HN HM
        go_wp2
        go_roundw
        case rel => exact ⟨k + 1, by omega, by go_num, by first | rfl | trivial, HE⟩
        case measure => simp [intOf]; omega
    · have e : k = n := by omega
      have e2 : k = firstY (leastQ least) zs := by have := hpl.out; omega
      have HE := Lib.hid e2
      have i1 : ¬ (k : Int) < (n : Int) := by omega
      clear hr hl e2 hfl
      subst e
      go_wp2
      go_ret
      exact ⟨congrArg (fun z : Nat => Ending.returned (.int .i64 z)) HE.out, rfl⟩

/-- A file with one list of these places. -/
structure TlS (w : World) (base : Nat) (S : Nat → Prop) (p : Nat) (L : List Int) : Prop where
  ex : ∃ Ls As tl, CS w base S p 1048576 Ls As tl L.length ∧ Ls 0 = L ∧ As 0 ≤ L.length ∧ tl = 288 + 24 * As 0 + 8 * roomC (As 0)
theorem TlS.keep {w w' : World} {base p : Nat} {S T : Nat → Prop} {L : List Int} (h : TlS w base S p L) (hc : Chg T w w') (hT : ∀ j, S j → ¬ T j) : TlS w' base S p L := by
  obtain ⟨Ls, As, tl, h1, r⟩ := h
  exact ⟨Ls, As, tl, h1.keep hc hT, r⟩
theorem TlS.below {w w' : World} {base p : Nat} {S : Nat → Prop} {L : List Int} (h : TlS w base S p L) (hb : Below w.heap.size w w') : TlS w' base S p L := h.keep (Chg.of_below hb (Nat.le_refl _) (fun _ => False)) (fun _ _ e => e)
theorem TlS.foot {w : World} {base p : Nat} {S : Nat → Prop} {L : List Int} (h : TlS w base S p L) : ∀ j, S j → base ≤ j ∧ j < w.heap.size := by
  obtain ⟨Ls, As, tl, h1, r⟩ := h
  exact h1.foot
theorem TlS.list {w : World} {base p : Nat} {S : Nat → Prop} {L : List Int} (h : TlS w base S p L) : ∃ its, ListAt w base p S 192 its L := by
  obtain ⟨Ls, As, tl, h1, rfl, -⟩ := h
  obtain ⟨its, h2, -⟩ := h1.list (t := 0) (by omega)
  exact ⟨its, h2⟩
theorem tl_step {w : World} {base p : Nat} {S : Nat → Prop} {L : List Int} (h : TlS w base S p L) (hL : L.length ≤ 199) (x : Int) (hx : IsU x) (hx0 : ¬ x = 0) :
    Calls Try.prog 9 #[.pointer (some ⟨p, 0, none⟩), .int .i64 192, .int .u64 x] w fun e w' => e = .returned (.int .i64 0) ∧ Chg S w w' ∧ TlS w' base (grow S w w') p (L ++ [x]) := by
  obtain ⟨Ls, As, tl, hC, rfl, hA, htl⟩ := h
  refine (cappend_cs hC (by omega) (t := 0) (by omega) x hx).mono ?_
  have hl2 : (Ls 0 ++ [x]).length = (Ls 0).length + 1 := by simp
  rintro e w' (⟨h0, -⟩ | ⟨-, hlt, rfl, hc, hC'⟩ | ⟨-, heq, hfull, -, -⟩ | ⟨-, heq, hfit, rfl, hc, hC'⟩)
  · exact absurd h0 hx0
  · refine ⟨rfl, hc, ⟨_, _, _, by rw [hl2]; exact hC', by simp [updL], by omega, htl⟩⟩
  · have hs := sizeC_bd (As 0)
    unfold alen at hfull
    omega
  · refine ⟨rfl, hc, ⟨_, _, _, by rw [hl2]; exact hC', by simp [updL], by simp [updN]; omega, ?_⟩⟩
    simp only [updN, if_true]
    show _ = 288 + 24 * (As 0 + 1) + 8 * (roomC (As 0) + sizeC (As 0))
    unfold alen
    omega
theorem chg_grown {w w' : World} {row : Option Nat} (h : w.grownBy w' row) : Chg (fun j => row = some j) w w' := ⟨h.os, h.tape, h.output, h.size, fun k hk hn => h.block k hk (fun e => hn e.symm)⟩

end Go.Proofs.Ytblpmnipapimcaa
