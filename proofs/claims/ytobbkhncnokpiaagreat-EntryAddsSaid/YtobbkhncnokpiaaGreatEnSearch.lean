/-
  LAYER 16: Search: its contract.
-/
import Derived.Test.YtobbkhncnokpiaaGreatEnDoc
import Derived.BigQuiet
set_option linter.unusedVariables false
set_option maxRecDepth 100000
set_option linter.unusedSimpArgs false
namespace Go.Proofs.YtobbkhncnokpiaaGreat
open Go.RowKit Go.Shelf

/-- Is the number of the entry at a place not less than one? -/
def seqQ (m : IM) (q x : Int) : Bool := decide (q ≤ m.word (IntKind.i64.wrap (IntKind.i64.wrap x + 16)))
theorem wrap_i64_bd (x : Int) : -9223372036854775808 ≤ IntKind.i64.wrap x ∧ IntKind.i64.wrap x ≤ 9223372036854775807 := by rw [IntKind.wrap_i64]; omega

theorem esask_any {base p : Nat} {S : Nat → Prop} {i k d f h : Int} {m : IM} {bv sv : Value} (q x : Int) (b0 b1 : Nat) (W : World) (H : IX W base S p i k d f h m bv sv) (hb : AreB m.b) (h0 : W.cell? ⟨b0, 0, none⟩ = some (.pointer (some ⟨p, 0, none⟩))) (h1 : W.cell? ⟨b1, 0, none⟩ = some (.int .u64 q)) :
    Calls Tryz.prog 53 #[.int .u64 x, .pointer (some ⟨b0, 0, none⟩), .pointer (some ⟨b1, 0, none⟩)] W fun e w' => e = .returned (.bool (seqQ m q x)) ∧ ∃ k, w' = W.drewN k := by
  obtain ⟨y, hy⟩ : ∃ y, IntKind.i64.wrap x = y := ⟨_, rfl⟩
  obtain ⟨z, hz⟩ : ∃ z, IntKind.i64.wrap (y + 16) = z := ⟨_, rfl⟩
  have hzb := wrap_i64_bd (y + 16)
  rw [hz] at hzb
  have WW := Lib.hid (fun n => iword_any z (W.drewN n) (H.below (below_drewn (Below.refl _ _) n)) hb hzb.1 hzb.2)
  obtain ⟨v, hv⟩ : ∃ v, m.word z = v := ⟨_, rfl⟩
  obtain ⟨t, ht⟩ : ∃ t, decide (q ≤ v) = t := ⟨_, rfl⟩
  have hq : seqQ m q x = t := by unfold seqQ; rw [hy, hz, hv, ht]
  rw [hv] at WW
  rw [hq]
  clear H hb hzb hq hv
  go_enter Tryz.func53, Tryz.ntmps53
  go_wp2
  go_quiet ((first
    | (refine (oat_any 0 _ (by omega) (by omega)).mono ?_; rintro e w1 ⟨rfl, rfl⟩; exact ⟨rfl, _, rfl⟩)
    | (refine (WW.out _).mono ?_; rintro e w1 ⟨rfl, rfl⟩; exact ⟨rfl, _, rfl⟩)))
  go_wp2
  go_ret
  exact ⟨rfl, _, rfl⟩

section
variable {k d f : Int} {w w' wr : World} {base : Nat} {S T : Nat → Prop} {p lim : Nat} {was bs : List Int} {R : List DR} {O : List GO} {Lr : List Int} {tl cnt : Nat}

theorem firstY_map {q : Int → Bool} {qv : Int} : ∀ {O : List GO}, (∀ o ∈ O, q (o.at_ : Int) = decide (qv ≤ o.ws.getD 0 0)) → firstY q (O.map fun o => (o.at_ : Int)) = firstS qv (O.map fun o => o.ws.getD 0 0)
  | [], _ => rfl
  | o :: O, h => by
    have ih := firstY_map (O := O) (fun x hx => h x (by simp [hx]))
    have h0 := h o (by simp)
    unfold firstY firstS at ih ⊢
    rw [List.map_cons, List.map_cons]
    by_cases hq : qv ≤ o.ws.getD 0 0
    · rw [List.takeWhile_cons_of_neg (by rw [h0]; simpa using hq), List.takeWhile_cons_of_neg (by simpa using hq)]
    · rw [List.takeWhile_cons_of_pos (by rw [h0]; simpa using hq), List.takeWhile_cons_of_pos (by simpa using hq), List.length_cons, List.length_cons, ih]

set_option maxHeartbeats 1000000 in
theorem esearch_any {E : List (List (List Int))} (q : Int) (h : EX k d f w base S p lim was R O Lr tl cnt) (hE : EL R O Lr E) (hO : O.length ≤ 1000) (hm : ∀ i j, i ≤ j → j < O.length → (O.map fun o => o.ws.getD 0 0).getD i 0 ≤ (O.map fun o => o.ws.getD 0 0).getD j 0) :
    Calls Tryz.prog 29 #[.pointer (some ⟨p, 0, none⟩), .int .u64 q] w fun e w' => e = .returned (.int .i64 (firstS q (O.map fun o => o.ws.getD 0 0) : Nat)) ∧ Below w.heap.size w w' := by
  obtain ⟨hb0, hk0, hk1⟩ := (show Below w.heap.size w ((w.alloc (.cells #[.pointer (some ⟨p, 0, none⟩)] 26)).alloc (.cells #[.int .u64 q] 33)) ∧ Blk ((w.alloc (.cells #[.pointer (some ⟨p, 0, none⟩)] 26)).alloc (.cells #[.int .u64 q] 33)) w.heap.size 26 #[.pointer (some ⟨p, 0, none⟩)] ∧ Blk ((w.alloc (.cells #[.pointer (some ⟨p, 0, none⟩)] 26)).alloc (.cells #[.int .u64 q] 33)) (w.heap.size + 1) 33 #[.int .u64 q] from by
    have h := Blk.new (w.alloc (.cells #[.pointer (some ⟨p, 0, none⟩)] 26)) 33 #[.int .u64 q]
    simp only [World.size_alloc] at h
    exact ⟨(boxed w _).alloc (boxed w _).size _, (Blk.new w _ _).alloc _, h⟩)
  have hx := h.below hb0
  obtain ⟨m, bv, sv, H, hmb, hw0⟩ := hx.words0
  have hll : Lr.length ≤ 1000 := by rw [hE.lr, List.length_map]; exact hO
  obtain ⟨its, hL⟩ := hx.all (by omega)
  have hqa : ∀ o ∈ O, seqQ m q (o.at_ : Int) = decide (q ≤ o.ws.getD 0 0) := fun o ho => by
    have hem := h.entry_mem ho
    unfold seqQ
    rw [wrap_i64_of (x := (o.at_ : Int)) (by omega) (by omega), wrap_i64_of (x := (o.at_ : Int) + 16) (by omega) (by omega)]
    have e : ((o.at_ : Int) + 16) = ((o.at_ + 16 : Nat) : Int) := by omega
    rw [e, hw0 o ho]
  have hfy : firstY (seqQ m q) Lr = firstS q (O.map fun o => o.ws.getD 0 0) := by rw [hE.lr]; exact firstY_map hqa
  have hmo : MonoY (seqQ m q) Lr := fun i j hij hj hq => by
    rw [hE.lr, List.length_map] at hj
    have hi2 : i < O.length := by omega
    have e : ∀ t, t < O.length → seqQ m q (Lr.getD t 0) = decide (q ≤ (O.map fun o => o.ws.getD 0 0).getD t 0) := fun t ht => by
      rw [hE.lr, List.getD_eq_getElem?_getD, List.getD_eq_getElem?_getD, List.getElem?_map, List.getElem?_map, List.getElem?_eq_getElem ht]
      exact hqa _ (List.getElem_mem ht)
    rw [e i hi2] at hq
    rw [e j hj]
    have := hm i j hij hj
    exact decide_eq_true (by have := of_decide_eq_true hq; omega)
  have SE := Lib.hid (csearch_any (seqQ m q) 53 #[.pointer (some ⟨w.heap.size, 0, none⟩), .pointer (some ⟨w.heap.size + 1, 0, none⟩)] _ hL hmo (fun W x hW => esask_any q x w.heap.size (w.heap.size + 1) W (H.below hW) hmb ((hk0.below hW hk0.lt).cell 0) ((hk1.below hW hk1.lt).cell 0)) (enters_of Tryz.func53 (by kernel_rfl) rfl))
  rw [hfy] at SE
  have HB := Lib.hid hb0
  clear hb0 hk0 hk1 hx H hmb hw0 hll hL hqa hfy hmo h hE hO hm
  go_enter Tryz.func29, Tryz.ntmps29
  go_wp2_with (go_at_call 52; refine SE.out.mono ?_; rintro e w1 ⟨rfl, hb1⟩)
  go_ret
  exact ⟨rfl, HB.out.trans (hb1.mono HB.out.size)⟩
end

end Go.Proofs.YtobbkhncnokpiaaGreat
