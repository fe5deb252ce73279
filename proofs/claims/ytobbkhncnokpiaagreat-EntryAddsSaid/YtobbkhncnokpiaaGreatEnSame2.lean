/-
  LAYER 16: Same, and the document's Same: contracts.
-/
import Derived.Test.YtobbkhncnokpiaaGreatEnSame
set_option linter.unusedVariables false
set_option maxRecDepth 100000
set_option linter.unusedSimpArgs false
namespace Go.Proofs.YtobbkhncnokpiaaGreat
open Go.RowKit Go.Shelf

theorem box5 {w : World} {a b c d e : Value} {t : TypeId} : (∀ i, (w.alloc (.cells #[a, b, c, d, e] t)).cell? ⟨w.heap.size, i, none⟩ = #[a, b, c, d, e][i]?) := fun i => (Blk.new w t #[a, b, c, d, e]).cell i
theorem two_boxes (w : World) (t : TypeId) (cs ds : Array Value) : Below w.heap.size w ((w.alloc (.cells cs t)).alloc (.cells ds t)) ∧ Blk ((w.alloc (.cells cs t)).alloc (.cells ds t)) w.heap.size t cs ∧ Blk ((w.alloc (.cells cs t)).alloc (.cells ds t)) (w.heap.size + 1) t ds := by
  have h := Blk.new (w.alloc (.cells cs t)) t ds
  simp only [World.size_alloc] at h
  exact ⟨(boxed w _).alloc (boxed w _).size _, (Blk.new w t cs).alloc _, h⟩

set_option maxHeartbeats 2000000 in
theorem esame_any (a b : RC) (B1 B2 : Nat) (w : World) (h1 : Txt w B1 a.A a.n a.c a.its) (h2 : Txt w B2 b.A b.n b.c b.its) (hB1 : B1 ≤ w.heap.size) (hB2 : B2 ≤ w.heap.size) :
    Calls Tryz.prog 31 #[a.v, b.v] w fun e w' => e = .returned (.bool (a.same b)) ∧ Below w.heap.size w w' := by
  obtain ⟨v0, v1, v2, v3, A, n, c, xs⟩ := a
  obtain ⟨u0, u1, u2, u3, A', n', c', ys⟩ := b
  obtain ⟨hb0, hk0, hk1⟩ := two_boxes w 36 #[.int .u64 v0, .int .u64 v1, .int .u64 v2, .int .u64 v3, .slice A n c] #[.int .u64 u0, .int .u64 u1, .int .u64 u2, .int .u64 u3, .slice A' n' c']
  have TX := Lib.hid (sequal_any A A' n n' c c' xs ys B1 B2 _ (h1.below (hb0.mono hB1)) (h2.below (hb0.mono hB2)))
  have HB := Lib.hid hb0
  obtain ⟨q, hq⟩ : ∃ q, RC.same ⟨v0, v1, v2, v3, A, n, c, xs⟩ ⟨u0, u1, u2, u3, A', n', c', ys⟩ = q := ⟨_, rfl⟩
  have hq2 : ((decide (v0 = u0) && decide (v1 = u1) && decide (v2 = u2) && decide (v3 = u3)) && decide (xs = ys)) = q := hq
  unfold RC.v
  rw [hq]
  obtain ⟨z, hz⟩ : ∃ z, decide (xs = ys) = z := ⟨_, rfl⟩
  rw [hz] at TX hq2
  have x0 := hk0.cell 0
  have x1 := hk0.cell 1
  have x2 := hk0.cell 2
  have x3 := hk0.cell 3
  have x4 := hk0.cell 4
  have y0 := hk1.cell 0
  have y1 := hk1.cell 1
  have y2 := hk1.cell 2
  have y3 := hk1.cell 3
  have y4 := hk1.cell 4
  clear h1 h2 hb0 hk0 hk1 hz hq
  by_cases e0 : v0 = u0
  · by_cases e1 : v1 = u1
    · by_cases e2 : v2 = u2
      · by_cases e3 : v3 = u3
        · subst e0; subst e1; subst e2; subst e3
          have HQ : Hid (q = z) := Lib.hid (by rw [← hq2]; simp)
          clear hq2
          go_enter Tryz.func31, Tryz.ntmps31
          go_wp2_with (go_at_call 56; refine TX.out.mono ?_; rintro e w1 ⟨rfl, nn, rfl⟩)
          go_ret
          exact ⟨by rw [HQ.out]; rfl, below_drewn HB.out nn⟩
        · subst e0; subst e1; subst e2
          have d : (v3 == u3) = false := by rw [beq_eq_false_iff_ne]; exact e3
          have HQ : Hid (q = false) := Lib.hid (by rw [← hq2]; simp [e3])
          clear hq2 e3
          go_enter Tryz.func31, Tryz.ntmps31
          go_wp2
          go_ret
          exact ⟨by rw [HQ.out]; rfl, HB.out⟩
      · subst e0; subst e1
        have d : (v2 == u2) = false := by rw [beq_eq_false_iff_ne]; exact e2
        have HQ : Hid (q = false) := Lib.hid (by rw [← hq2]; simp [e2])
        clear hq2 e2
        go_enter Tryz.func31, Tryz.ntmps31
        go_wp2
        go_ret
        exact ⟨by rw [HQ.out]; rfl, HB.out⟩
    · subst e0
      have d : (v1 == u1) = false := by rw [beq_eq_false_iff_ne]; exact e1
      have HQ : Hid (q = false) := Lib.hid (by rw [← hq2]; simp [e1])
      clear hq2 e1
      go_enter Tryz.func31, Tryz.ntmps31
      go_wp2
      go_ret
      exact ⟨by rw [HQ.out]; rfl, HB.out⟩
  · have d : (v0 == u0) = false := by rw [beq_eq_false_iff_ne]; exact e0
    have HQ : Hid (q = false) := Lib.hid (by rw [← hq2]; simp [e0])
    clear hq2 e0
    go_enter Tryz.func31, Tryz.ntmps31
    go_wp2
    go_ret
    exact ⟨by rw [HQ.out]; rfl, HB.out⟩

set_option maxHeartbeats 2000000 in
theorem resame_any (a b : RC) (B1 B2 : Nat) (w : World) (h1 : Txt w B1 a.A a.n a.c a.its) (h2 : Txt w B2 b.A b.n b.c b.its) (hB1 : B1 ≤ w.heap.size) (hB2 : B2 ≤ w.heap.size) :
    Calls Tryz.prog 17 #[a.v, b.v] w fun e w' => e = .returned (.bool (a.same b)) ∧ Below w.heap.size w w' := by
  obtain ⟨v0, v1, v2, v3, A, n, c, xs⟩ := a
  obtain ⟨u0, u1, u2, u3, A', n', c', ys⟩ := b
  obtain ⟨hb0, hk0, hk1⟩ := two_boxes w 36 #[.int .u64 v0, .int .u64 v1, .int .u64 v2, .int .u64 v3, .slice A n c] #[.int .u64 u0, .int .u64 u1, .int .u64 u2, .int .u64 u3, .slice A' n' c']
  have TX := Lib.hid (rtexts_any A A' n n' c c' xs ys B1 B2 _ (h1.below (hb0.mono hB1)) (h2.below (hb0.mono hB2)))
  have HB := Lib.hid hb0
  obtain ⟨q, hq⟩ : ∃ q, RC.same ⟨v0, v1, v2, v3, A, n, c, xs⟩ ⟨u0, u1, u2, u3, A', n', c', ys⟩ = q := ⟨_, rfl⟩
  have hq2 : ((decide (v0 = u0) && decide (v1 = u1) && decide (v2 = u2) && decide (v3 = u3)) && decide (xs = ys)) = q := hq
  unfold RC.v
  rw [hq]
  obtain ⟨z, hz⟩ : ∃ z, decide (xs = ys) = z := ⟨_, rfl⟩
  rw [hz] at TX hq2
  have x0 := hk0.cell 0
  have x1 := hk0.cell 1
  have x2 := hk0.cell 2
  have x3 := hk0.cell 3
  have x4 := hk0.cell 4
  have y0 := hk1.cell 0
  have y1 := hk1.cell 1
  have y2 := hk1.cell 2
  have y3 := hk1.cell 3
  have y4 := hk1.cell 4
  clear h1 h2 hb0 hk0 hk1 hz hq
  by_cases e0 : v0 = u0
  · by_cases e1 : v1 = u1
    · by_cases e2 : v2 = u2
      · by_cases e3 : v3 = u3
        · subst e0; subst e1; subst e2; subst e3
          have HQ : Hid (q = z) := Lib.hid (by rw [← hq2]; simp)
          clear hq2
          go_enter Tryz.func17, Tryz.ntmps17
          go_wp2_with (go_at_call 32; refine TX.out.mono ?_; rintro e w1 ⟨rfl, nn, rfl⟩)
          go_ret
          exact ⟨by rw [HQ.out]; rfl, below_drewn HB.out nn⟩
        · subst e0; subst e1; subst e2
          have d : (v3 == u3) = false := by rw [beq_eq_false_iff_ne]; exact e3
          have HQ : Hid (q = false) := Lib.hid (by rw [← hq2]; simp [e3])
          clear hq2 e3
          go_enter Tryz.func17, Tryz.ntmps17
          go_wp2
          go_ret
          exact ⟨by rw [HQ.out]; rfl, HB.out⟩
      · subst e0; subst e1
        have d : (v2 == u2) = false := by rw [beq_eq_false_iff_ne]; exact e2
        have HQ : Hid (q = false) := Lib.hid (by rw [← hq2]; simp [e2])
        clear hq2 e2
        go_enter Tryz.func17, Tryz.ntmps17
        go_wp2
        go_ret
        exact ⟨by rw [HQ.out]; rfl, HB.out⟩
    · subst e0
      have d : (v1 == u1) = false := by rw [beq_eq_false_iff_ne]; exact e1
      have HQ : Hid (q = false) := Lib.hid (by rw [← hq2]; simp [e1])
      clear hq2 e1
      go_enter Tryz.func17, Tryz.ntmps17
      go_wp2
      go_ret
      exact ⟨by rw [HQ.out]; rfl, HB.out⟩
  · have d : (v0 == u0) = false := by rw [beq_eq_false_iff_ne]; exact e0
    have HQ : Hid (q = false) := Lib.hid (by rw [← hq2]; simp [e0])
    clear hq2 e0
    go_enter Tryz.func17, Tryz.ntmps17
    go_wp2
    go_ret
    exact ⟨by rw [HQ.out]; rfl, HB.out⟩

end Go.Proofs.YtobbkhncnokpiaaGreat
