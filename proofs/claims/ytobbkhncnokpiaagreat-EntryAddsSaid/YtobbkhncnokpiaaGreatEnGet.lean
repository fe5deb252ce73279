/-
  LAYER 16: Get, Len, Nth, All, Search: contracts.
-/
import Derived.Test.YtobbkhncnokpiaaGreatEnRead
set_option linter.unusedVariables false
set_option maxRecDepth 100000
set_option linter.unusedSimpArgs false
namespace Go.Proofs.YtobbkhncnokpiaaGreat
open Go.RowKit Go.Shelf
attribute [local go_sem] Oper.semAt_some

section
variable {k d f : Int} {w w' wr : World} {base : Nat} {S T : Nat → Prop} {p lim : Nat} {was bs : List Int} {R : List DR} {O : List GO} {Lr : List Int} {tl cnt : Nat}

/-- The list of all rises. -/
theorem EX.lrise {E : List (List (List Int))} (h : EX k d f w base S p lim was R O Lr tl cnt) (hE : EL R O Lr E) : Lr.Pairwise (· < ·) := by
  rw [hE.lr, List.pairwise_map]
  exact h.rise.imp (fun hlt => by omega)

theorem elen_any {E : List (List (List Int))} (h : EX k d f w base S p lim was R O Lr tl cnt) (hE : EL R O Lr E) (hO : O.length ≤ 1000) :
    Calls Tryz.prog 23 #[.pointer (some ⟨p, 0, none⟩)] w fun e w' => e = .returned (.int .i64 (O.length : Nat)) ∧ Below w.heap.size w w' := by
  have hl : Lr.length = O.length := by rw [hE.lr, List.length_map]
  obtain ⟨its, hL⟩ := h.all (by omega)
  have LE := Lib.hid (clen_any w hL)
  rw [hl] at LE
  clear hL h hE hl
  go_enter Tryz.func23, Tryz.ntmps23
  go_wp2_with (go_at_call 48; refine LE.out.mono ?_; rintro e w1 ⟨rfl, hb⟩)
  go_ret
  exact ⟨rfl, hb⟩
theorem enth_any {E : List (List (List Int))} (i : Int) (h : EX k d f w base S p lim was R O Lr tl cnt) (hE : EL R O Lr E) (hO : O.length ≤ 1000) (hi0 : -9223372036854775808 ≤ i) (hi1 : i ≤ 9223372036854775807) :
    Calls Tryz.prog 20 #[.pointer (some ⟨p, 0, none⟩), .int .i64 i] w fun e w' => e = .returned (.tuple #[.int .u64 (nthV Lr i), .bool (nthQ Lr i)]) ∧ Below w.heap.size w w' := by
  have hl : Lr.length = O.length := by rw [hE.lr, List.length_map]
  obtain ⟨its, hL⟩ := h.all (by omega)
  have NT := Lib.hid (cnth_any i w hL hi0 hi1)
  obtain ⟨x, hx⟩ : ∃ x, nthV Lr i = x := ⟨_, rfl⟩
  obtain ⟨y, hy⟩ : ∃ y, nthQ Lr i = y := ⟨_, rfl⟩
  rw [hx, hy] at NT ⊢
  clear hL h hE hl hx hy
  go_enter Tryz.func20, Tryz.ntmps20
  go_wp2_with (go_at_call 46; refine NT.out.mono ?_; rintro e w1 ⟨rfl, hb⟩)
  go_ret2
  exact ⟨rfl, hb⟩

def two2 (g : Nat) : Nat → Prop := fun q => q = g ∨ q = g + 1
set_option maxHeartbeats 4000000 in
/-- An entry's place is listed. -/
theorem elisted_yes {its : List It} {L : List Int} (x : Int) (w : World) (h : ListAt w base p S (192 : Int) its L) (hx : x ∈ L) (hr : L.Pairwise (· < ·)) :
    Calls Tryz.prog 41 #[.pointer (some ⟨p, 0, none⟩), .int .u64 x] w fun e w' => e = .returned (.bool true) ∧ Below w.heap.size w w' := by
  have hb0 : Below w.heap.size w ((w.alloc (.cells #[.int .u64 x] 33)).alloc (.cells #[.bool false] 4)) := (boxed w _).alloc (boxed w _).size _
  have hsz : ((w.alloc (.cells #[.int .u64 x] 33)).alloc (.cells #[.bool false] 4)).heap.size = w.heap.size + 2 := by simp
  have x0 := (Blk.new w 33 #[.int .u64 x]).alloc (.cells #[.bool false] 4)
  have x1 := Blk.new (w.alloc (.cells #[.int .u64 x] 33)) 4 #[.bool false]
  simp only [World.size_alloc] at x1
  have hF : ∀ k, two2 w.heap.size k ↔ (k = w.heap.size ∨ k = w.heap.size + 1) := fun k => Iff.rfl
  have AX := Lib.hid (all_at (h.below hb0) 8 (by omega) (two2 w.heap.size) (fun j hj e => by
        have := (h.foot j hj).2
        rw [hF] at e; omega) (fun j e => by rw [hF] at e; omega))
  have X := Lib.hid (And.intro hb0 (And.intro hsz (And.intro x0 x1)))
  have HH := Lib.hid (And.intro hx hr)
  clear hb0 hsz x0 x1 h hx hr
  refine (callsIn_wide (n := 9)).1 ?_
  refine callsIn_of_wp_marks Tryz.func41 rfl trivial ?_ rfl
  simp only [Tryz.ntmps41, List.size_toArray, List.length_cons, List.length_nil, Nat.reduceAdd, Nat.reduceSub, Array.replicate_succ, Array.replicate_zero, List.push_toArray, List.append_toArray, List.nil_append, List.cons_append]
  gi_wp2_with (refine ⟨trivial, ?_⟩; gi_at_call 47; refine (callsIn_wide.2 AX.out).mono ?_; rintro e w2 ⟨rfl, hb2, hseq⟩)
  obtain ⟨hb0, hsz, x0, x1⟩ := X.out
  rw [hsz] at hseq
  generalize (w.alloc (.cells #[.int .u64 x] 33)).alloc (.cells #[.bool false] 4) = w0 at *
  have hs2 := hb2.size
  have hbw2 : Below w.heap.size w w2 := hb0.trans (hb2.mono hb0.size)
  have y0 := x0.below hb2 (by omega)
  have y1 := x1.below hb2 (by omega)
  obtain ⟨g0, hg0⟩ : ∃ g0, w.heap.size = g0 := ⟨_, rfl⟩
  rw [hg0] at y0 y1 hbw2 hseq hF hsz ⊢
  clear X AX hb0 x0 x1 hb2
  refine wp_range_F (F := Fence.wide) (n := 9) rfl (by omega) (gf := 79) (lb := rwB (g0 + 2)) rfl trivial (enters_of Tryz.func79 (by kernel_rfl) rfl) hseq
      (fun k hk => by rw [hF] at hk; omega)
      (fun fp pre z => tellsP_own L _ fp pre z) (fun _ => rfl)
      (fun fq pre W => fq = two2 g0 ∧ Blk W g0 33 #[.int .u64 x] ∧ Blk W (g0 + 1) 4 #[.bool false] ∧ (∀ z ∈ pre, z < x) ∧ Below g0 w W)
      (fun c pre W => c = .ret ∧ Blk W (g0 + 1) 4 #[.bool true] ∧ Below g0 w W)
      (fun fq s A C row hs hg hr => ⟨hs.1, own_blkOf (β := Unit) (B := w2.heap.size) (by omega) (fun _ => #[.int .u64 x]) () A C row hs.2.1 hg hr, own_blkOf (β := Unit) (B := w2.heap.size) (by omega) (fun _ => #[.bool false]) () A C row hs.2.2.1 hg hr, hs.2.2.2.1,
        hs.2.2.2.2.grown hg (by have := hs.2.2.2.2.size; omega) (fun k e => by have := (hr k e).1; omega)⟩)
      (fun c s A C row hs hg hr => ⟨hs.1, own_blkOf (β := Unit) (B := w2.heap.size) (by omega) (fun _ => #[.bool true]) () A C row hs.2.1 hg hr, hs.2.2.grown hg (by have := hs.2.2.size; omega) (fun k e => by have := (hr k e).1; omega)⟩)
      ⟨rfl, y0, y1, (fun z hz => by cases hz), hbw2⟩
      (fun z a' W' => a' = { tmps := #[.pointer (some ⟨p, 0, none⟩), .int .u64 x, undef, .pointer (some ⟨g0, 0, none⟩), .pointer (some ⟨g0 + 1, 0, none⟩), .int .u64 z, .pointer (some ⟨p, 0, none⟩), alV (g0 + 2), .int .u64 z, undef, undef, undef, undef, undef, undef], defers := [] })
      (fun z a' _ A C row hs hg hr => hs)
      ?assign ?body ?done ?stop
  case assign =>
    intro l2 z W3 K hW hK
    dsimp only [placeE]
    gi_wp2
    exact hK _ _ (Below.refl _ _) rfl
  case body =>
    rintro l2 fp fq pre z W3 ⟨rfl, z0, z1, hlt, hbW⟩ hok hsub hlen ⟨rest, hrest⟩ - a' rfl
    have k0 := z0.cell 0
    have k1 := z1.cell 0
    have f1 := z1.frozen 0
    have hg01 : ¬ g0 = g0 + 1 := by omega
    obtain ⟨hx, hr⟩ := HH.out
    by_cases hge : x ≤ z
    · have hzx : z = x := by
        rw [← hrest] at hx hr
        rcases List.mem_append.1 hx with h | h
        · have := hlt x h; omega
        · rcases List.mem_cons.1 h with h | h
          · exact h.symm
          · have := (List.pairwise_cons.1 (List.pairwise_append.1 hr).2.1).1 x h
            omega
      subst hzx
      clear hrest hx hr hlt
      gi_wp2
      exact ⟨chg_set1 (T := two2 g0) (Chg.refl _ _) (.inr rfl) _, rfl, z1.set_ 0 _, hbW.setCell (by show g0 ≤ g0 + 1; omega) _⟩
    · have HP : Hid (∀ y ∈ pre ++ [z], y < x) := Lib.hid (fun y hy => by
        rcases List.mem_append.1 hy with h | h
        · exact hlt y h
        · rw [List.mem_singleton.1 h]; omega)
      clear hrest hx hr hlt
      gi_wp2
      exact ⟨two2 g0, ⟨rfl, z0, z1, HP.out, hbW⟩, Chg.refl _ _, fun k hk => ⟨.inl hk, hok k hk⟩⟩
  case done =>
    rintro D fq xs W3 hD hxs ⟨rfl, z0, z1, hlt, hbW⟩ hK
    have hxs : xs = L := hxs
    subst hxs
    have := hlt x HH.out.1
    omega
  case stop =>
    rintro D cc pre W3 hD hp ⟨rfl, z1, hbW⟩ hK
    gi_wp2
    refine ⟨by simp, .inl ⟨_, _, rfl, run_takeDeferred hK, ?_⟩⟩
    refine ⟨_, results_c1 rfl _ _ (g0 + 1) _ rfl (load_bool ((z1.put_other hK rfl).cell 0)), rfl, by rw [hg0]; exact below_put1 hbW (by omega) _⟩
end

end Go.Proofs.YtobbkhncnokpiaaGreat
