/-
  LAYER 16: what EntrySearches holds: each step of a round.
-/
import Derived.Test.YtobbkhncnokpiaaGreatEnSt
set_option linter.unusedVariables false
set_option maxRecDepth 100000
set_option linter.unusedSimpArgs false
namespace Go.Proofs.YtobbkhncnokpiaaGreat
open Go.RowKit Go.Shelf

theorem sr_chk : chkE [tA1] = 0 ∧ chkL [tA1] = [tA1] := by
  have o2 : spOk tA1 = true := by kernel_rfl
  have k2 : okB tA1 = true := by unfold okB; rw [o2]; rfl
  have hE : chkE [tA1] = 0 := chk_good (by decide) (by decide) (fun j hj => by
    have : j = 0 := by simp at hj; omega
    subst this
    exact k2) (by decide)
  refine ⟨hE, ?_⟩
  unfold chkL
  rw [if_pos hE, once_put cfT_tot]
  kernel_rfl

/-- What is so of the records. -/
structure SrL (l : List RC) (y : Int) (j : Nat) : Prop where
  len : l.length = j
  le : ∀ r ∈ l, r.seq ≤ y
  rise : (l.map (·.seq)).Pairwise (· ≤ ·)
  its : ∀ r ∈ l, r.its = [tA1]
theorem SrL.nothing : SrL [] 0 0 := ⟨rfl, (fun r hr => by cases hr), .nil, (fun r hr => by cases hr)⟩
theorem SrL.push {l : List RC} {y y' : Int} {j : Nat} {rc : RC} (h : SrL l y j) (hy : y ≤ y') (h1 : rc.seq = y') (h2 : rc.its = [tA1]) : SrL (l ++ [rc]) y' (j + 1) := by
  refine ⟨by rw [List.length_append, h.len]; rfl, fun r hr => ?_, ?_, fun r hr => ?_⟩
  · rcases List.mem_append.1 hr with hr | hr
    · have := h.le r hr; omega
    · rw [List.mem_singleton.1 hr]; omega
  · rw [List.map_append]
    refine List.pairwise_append.2 ⟨h.rise, by simp, fun a ha b hb => ?_⟩
    obtain ⟨r, hr, rfl⟩ := List.mem_map.1 ha
    have := h.le r hr
    have hb2 : b = rc.seq := by simpa using hb
    omega
  · rcases List.mem_append.1 hr with hr | hr
    · exact h.its r hr
    · rw [List.mem_singleton.1 hr]; exact h2

/-- At the head of each round. -/
structure SrAt (w wr : World) (p : Nat) (v : Value) (y : Int) (j : Nat) : Prop where
  ex : ∃ S bs R O Lr l, EnSt w wr S p 1048576 bs R O Lr (1624 + 16496 * j) v l ∧ SrL l y j
/-- A record of a round. -/
def srV (g : Nat) (y z : Int) : Value := .agg #[.int .u64 y, .int .u64 z, .int .u64 0, .int .u64 0, .slice (some ⟨g, 0, none⟩) 1 1]
def srC (g : Nat) (y z : Int) : Array Value := #[.int .u64 y, .int .u64 z, .int .u64 0, .int .u64 0, .slice (some ⟨g, 0, none⟩) 1 1]
def srR (g : Nat) (y z : Int) : RC := ⟨y, z, 0, 0, some ⟨g, 0, none⟩, 1, 1, [tA1]⟩
/-- The world in which Add is called. -/
def srW (wr : World) (y z : Int) : World := (wr.alloc (.cells #[.string tA1] 9)).alloc (.cells (srC wr.heap.size y z) 36)
theorem srW_size (wr : World) (y z : Int) : (srW wr y z).heap.size = wr.heap.size + 2 := by unfold srW; simp
theorem srW_below (wr : World) (y z : Int) : Below wr.heap.size wr (srW wr y z) := (boxed wr _).alloc (boxed wr _).size _
theorem txt_one (w : World) (t : TypeId) (a : ByteArray) (ha : a.size ≤ maxLen) : Txt (w.alloc (.cells #[.string a] t)) (w.heap.size + 1) (some ⟨w.heap.size, 0, none⟩) 1 1 [a] :=
  ⟨Reads.newN w t #[.string a], Nat.le_refl _, by omega, fun s hs => by rw [List.mem_singleton.1 hs]; exact ha⟩
theorem srW_txt (wr : World) (y z : Int) : Txt (srW wr y z) (wr.heap.size + 1) (some ⟨wr.heap.size, 0, none⟩) 1 1 [tA1] := by
  have h := (txt_one wr 9 tA1 (by decide)).below ((boxed (wr.alloc (.cells #[.string tA1] 9)) (.cells (srC wr.heap.size y z) 36)).mono (by simp))
  exact h
theorem srW_box (wr : World) (y z : Int) : Blk (srW wr y z) (wr.heap.size + 1) 36 (srC wr.heap.size y z) := by
  have h := Blk.new (wr.alloc (.cells #[.string tA1] 9)) 36 (srC wr.heap.size y z)
  simp only [World.size_alloc] at h
  exact h

/-- Behind Add. -/
structure SrTwo (w wr w2 : World) (p : Nat) (v : Value) (y y' z : Int) (j : Nat) : Prop where
  ex : ∃ S bs R O Lr l R' o Lr', EnSt w wr S p 1048576 bs R O Lr (1624 + 16496 * j) v l ∧ SrL l y j ∧ Chg S (srW wr y' z) w2 ∧ EX 3 4 2 w2 w.heap.size (grow S (srW wr y' z) w2) p 1048576 bs R' (O ++ [o]) Lr' (1624 + 16496 * (j + 1)) 300 ∧
    EL R' (O ++ [o]) Lr' ((l.map fun r => r.its.map nums) ++ [[tA1].map nums]) ∧ o.ws = [y', z, 0, 0, xorL 3 [tA1]]
/-- Behind Done. -/
structure SrThree (w wr w3 : World) (p : Nat) (v : Value) (y y' z : Int) (j : Nat) : Prop where
  ex : ∃ S bs R O Lr l T bs' R' o Lr', EnSt w wr S p 1048576 bs R O Lr (1624 + 16496 * j) v l ∧ SrL l y j ∧ Fp S wr T w3 ∧ ED 3 4 2 w3 w.heap.size T p 1048576 bs' R' (O ++ [o]) Lr' (1624 + 16496 * (j + 1)) ∧
    EL R' (O ++ [o]) Lr' ((l.map fun r => r.its.map nums) ++ [[tA1].map nums]) ∧ o.ws = [y', z, 0, 0, xorL 3 [tA1]] ∧ Txt w3 w3.heap.size (some ⟨wr.heap.size, 0, none⟩) 1 1 [tA1] ∧ ¬ T wr.heap.size ∧ w3.ownsRow w.heap.size 36 5 v l.length (cellsR5 l)
  box : Blk w3 (wr.heap.size + 1) 36 (srC wr.heap.size y' z)
  size : wr.heap.size + 2 ≤ w3.heap.size

theorem SrAt.add {w wr : World} {p j : Nat} {v : Value} {y : Int} (H : SrAt w wr p v y j) (hj : j < 60) (y' z : Int) (hy : 0 ≤ y' ∧ y' < 18446744073709551616) (hz : 0 ≤ z ∧ z < 18446744073709551616) :
    Calls Tryz.prog 11 #[.pointer (some ⟨p, 0, none⟩), srV wr.heap.size y' z] (srW wr y' z) fun e w2 => ∃ a : Nat, e = .returned (.tuple #[.int .i64 a, .int .i64 0]) ∧ SrTwo w wr w2 p v y y' z j := by
  obtain ⟨S, bs, R, O, Lr, l, HS, HL⟩ := H
  have hlen := HS.len
  have hll := HL.len
  have hb := srW_below wr y' z
  refine (eadd_any (B := wr.heap.size + 1) (srR wr.heap.size y' z) ⟨hy, hz, show (0 : Int) ≤ 0 ∧ (0 : Int) < 18446744073709551616 by decide, show (0 : Int) ≤ 0 ∧ (0 : Int) < 18446744073709551616 by decide, srW_txt wr y' z⟩ (by rw [srW_size]; omega) (by show 1 ≤ 1000; omega) (HS.ed.below hb) HS.el (by omega) (by omega)).mono ?_
  have hL : chkL [tA1] = [tA1] := sr_chk.2
  have hbud : (1624 + 16496 * j) + budE R O ((chkL [tA1]).map nums) ≤ 1624 + 16496 * (j + 1) := by
    rw [hL]
    have e1 : ([tA1].map nums).length = 1 := rfl
    unfold budE apE rfE
    rw [e1]
    by_cases h0 : O.length = 0
    · have := newsD_le R ([tA1].map nums)
      rw [e1] at this
      rw [if_pos h0, if_pos h0]
      omega
    · have hn : newsD R ([tA1].map nums) = 0 := by
        obtain ⟨r, hr⟩ : ∃ r, l[0]? = some r := ⟨_, List.getElem?_eq_getElem (by omega)⟩
        have hm := List.mem_of_getElem? hr
        have hk := HS.el.known (r.its.map nums) (List.mem_map.2 ⟨r, hm, rfl⟩) (nums tA1) (by rw [HL.its r hm]; simp)
        unfold newsD
        rw [List.map_cons, List.map_nil, List.filter_cons_of_neg (by cases hf : findD R (nums tA1) with
          | none => rw [hf] at hk; cases hk
          | some a => simp), List.filter_nil]
        rfl
      rw [if_neg h0, if_neg h0, hn]
      omega
  rintro e w2 (⟨h1, -⟩ | ⟨-, a, R', ps, rfl, ha1, ha2, hc2, hx2, hE2, -⟩ | ⟨-, hlm, -⟩)
  · exact absurd sr_chk.1 h1
  · have hE3 : EL R' (O ++ [entO 3 (srR wr.heap.size y' z).chk a ps]) (Lr ++ [(a : Int)]) ((l.map fun r => r.its.map nums) ++ [(chkL [tA1]).map nums]) := hE2
    rw [hL] at hE3
    have hw : (entO 3 (srR wr.heap.size y' z).chk a ps).ws = [y', z, 0, 0, xorL 3 (chkL [tA1])] := rfl
    rw [hL] at hw
    have hx3 := hx2.more (tl' := 1624 + 16496 * (j + 1)) (cnt' := 300) hbud (Nat.le_refl _) (by omega)
    exact ⟨a, rfl, ⟨S, bs, R, O, Lr, l, R', _, _, HS, HL, hc2, hx3, hE3, hw⟩⟩
  · exfalso
    have h9 : 1048576 < (1624 + 16496 * j) + budE R O ((chkL [tA1]).map nums) := hlm
    omega
theorem SrTwo.done {w wr w2 : World} {p j : Nat} {v : Value} {y y' z : Int} (H : SrTwo w wr w2 p v y y' z j) (hj : j < 60) :
    Calls Tryz.prog 14 #[.pointer (some ⟨p, 0, none⟩)] w2 fun e w3 => e = .returned (.tuple #[]) ∧ SrThree w wr w3 p v y y' z j := by
  obtain ⟨S, bs, R, O, Lr, l, R', o, Lr', HS, HL, hc2, hx2, hE2, hw⟩ := H
  refine (done_ed hx2 (by omega)).mono ?_
  rintro e w3 ⟨rfl, hc3, bs', hD⟩
  have hb := srW_below wr y' z
  have hsz := srW_size wr y' z
  have hF1 : Fp S wr S (srW wr y' z) := (Fp.refl S wr).below hb
  have hF3 := (hF1.next hc2).next hc3
  have hT1 := srW_txt wr y' z
  have hSf := HS.ed.foot
  have hs2 := hc2.size
  have hs3 := hc3.size
  have hn1 : ∀ q, wr.heap.size ≤ q → q < wr.heap.size + 2 → ¬ S q ∧ ¬ grow S (srW wr y' z) w2 q ∧ ¬ grow (grow S (srW wr y' z) w2) w2 w3 q := fun q h1 h2 => by
    have hS : ¬ S q := fun e => by have := (hSf q e).2; omega
    have hG : ¬ grow S (srW wr y' z) w2 q := fun e => e.elim hS (fun e => by omega)
    exact ⟨hS, hG, fun e => e.elim hG (fun e => by omega)⟩
  have hn0 := hn1 wr.heap.size (Nat.le_refl _) (by omega)
  have hT2 := hT1.chg hc2 (by omega) (fun ad ha => by injection ha with ha; subst ha; exact hn0.1)
  have hT3 := hT2.chg hc3 (by omega) (fun ad ha => by injection ha with ha; subst ha; exact hn0.2.1)
  have hB3 := ((srW_box wr y' z).chg hc2 (hn1 _ (by omega) (by omega)).1).chg hc3 (hn1 _ (by omega) (by omega)).2.1
  exact ⟨rfl, ⟨⟨S, bs, R, O, Lr, l, _, bs', R', o, Lr', HS, HL, hF3, hD, hE2, hw, hT3.more (by omega), hn0.2.2, own_chg HS.own hF3.chg HS.vS⟩, hB3, by omega⟩⟩
theorem SrThree.next {w wr w3 : World} {p j : Nat} {v : Value} {y y' z : Int} (H : SrThree w wr w3 p v y y' z j) (hy : y ≤ y') :
    ∃ cs : List Value, w3.ownsRow w.heap.size 36 5 v j cs ∧ w.heap.size ≤ w3.heap.size ∧ ∀ (w6 : World) (v' : Value) (tmp : Obj), w6.ownsRow w.heap.size 36 5 v' (j + 1) (cs ++ (srC wr.heap.size y' z).toList) → (w3.alloc tmp).grownBy w6 v.ownBlock → (v'.ownBlock = v.ownBlock ∨ v'.ownBlock = some (w3.alloc tmp).heap.size) → SrAt w w6 p v' y' (j + 1) := by
  obtain ⟨⟨S, bs, R, O, Lr, l, T, bs', R', o, Lr', HS, HL, hF, hD, hE, hw, hT, hnT, hrow⟩, hbox, hsz⟩ := H
  have hll := HL.len
  subst hll
  refine ⟨cellsR5 l, hrow, hD.bas, fun w6 v' tmp hown hg hat => ?_⟩
  exact ⟨T, bs', R', O ++ [o], Lr', l ++ [srR wr.heap.size y' z], HS.next (rc := srR wr.heap.size y' z) hF hD hE hw hT (fun ad ha => by
    have ha : some (⟨wr.heap.size, 0, none⟩ : Addr) = some ad := ha
    injection ha with ha; subst ha
    exact ⟨Nat.le_refl _, hnT⟩) (by have h := good_of_chk sr_chk.1; rw [sr_chk.2] at h; exact h) hown hg hat, HL.push hy rfl rfl⟩

end Go.Proofs.YtobbkhncnokpiaaGreat
