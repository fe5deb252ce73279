/-
  LAYER 8: the walk of VdiskNobody.
-/
import Derived.Test.YtclglbddibjenaaGreatVdNil
import Derived.Test.YtclglbddibjenaaGreatVdAwake
import Derived.OpenShut
set_option linter.unusedVariables false
set_option linter.unusedSimpArgs false
set_option maxRecDepth 100000
namespace Go.Proofs.YtclglbddibjenaaGreat
open Go.RowKit Go.ChangeShapes Go.WideShapes Go.Deep

set_option maxHeartbeats 4000000 in
theorem nobody_law (a : Act8) (w : World) (hok : Act8Ok w a) :
    Calls Tryz.prog 6 #[.agg #[.int .i64 a.kind, .string a.a, .string a.b, .int .i64 a.at_, .slice a.A a.n a.c, .slice a.K a.m a.d]] w fun e w' => e = .returned (.bool true) ∧ Below w.heap.size w w' := by
  clear hok
  obtain ⟨kd, x, y, at_, A, n, c, bs, K, m, d, ks⟩ := a
  simp only
  have HK := Lib.hid (fun (w1 : World) (hb : Below (w.heap.size + 1) (w.alloc (.cells #[.int .i64 kd, .string x, .string y, .int .i64 at_, .slice A n c, .slice K m d] 32)) w1) => (show (Below w.heap.size w w1 ∧ w1.cell? ⟨w.heap.size, 1, none⟩ = some (.string x) ∧ w1.cell? ⟨w.heap.size, 2, none⟩ = some (.string y) ∧ w1.cell? ⟨w.heap.size, 3, none⟩ = some (.int .i64 at_) ∧ w1.cell? ⟨w.heap.size, 4, none⟩ = some (.slice A n c) ∧ w1.cell? ⟨w.heap.size, 5, none⟩ = some (.slice K m d)) by
    have h1 := Blk.new w 32 #[.int .i64 kd, .string x, .string y, .int .i64 at_, .slice A n c, .slice K m d]
    have cc : ∀ k v, (#[.int .i64 kd, .string x, .string y, .int .i64 at_, .slice A n c, .slice K m d] : Array Value)[k]? = some v → w1.cell? ⟨w.heap.size, k, none⟩ = some v := fun k v e => by
      rw [hb.cell (p := ⟨w.heap.size, k, none⟩) (Nat.lt_succ_self _), h1.cell k]; exact e
    exact ⟨((Below.refl _ _).alloc (Nat.le_refl _) _).trans (hb.mono (by omega)), cc 1 _ rfl, cc 2 _ rfl, cc 3 _ rfl, cc 4 _ rfl, cc 5 _ rfl⟩))
  have AW := Lib.hid (awake_any (w.alloc (.cells #[.int .i64 kd, .string x, .string y, .int .i64 at_, .slice A n c, .slice K m d] 32)))
  have m1 : True := trivial
  have hsz : (w.alloc (.cells #[.int .i64 kd, .string x, .string y, .int .i64 at_, .slice A n c, .slice K m d] 32)).heap.size = w.heap.size + 1 := by simp
  rw [hsz] at AW
  go_enter Tryz.func6, Tryz.ntmps6
  go_wp2_with (first
    | (go_at_call 7; clear m1; go_loud (refine AW.out.mono ?_; rintro e w1 ⟨rfl, hb1⟩; obtain ⟨hb, a1, a2, a3, a4, a5⟩ := HK.out w1 hb1; have HB := Lib.hid hb; clear hb hb1))
    | (go_at_call 25; refine (varm_nil _ _).mono ?_; rintro e w9 ⟨rfl, rfl⟩)
    | (go_at_call 26; refine (vsize_nil _ _).mono ?_; rintro e w9 ⟨rfl, rfl⟩)
    | (go_at_call 22; refine (vread_nil _ _ _ _).mono ?_; rintro e w9 ⟨rfl, rfl⟩)
    | (go_at_call 27; refine (vcreate_nil _ _).mono ?_; rintro e w9 ⟨rfl, rfl⟩)
    | (go_at_call 28; refine (vwrite_nil _ _ _ _).mono ?_; rintro e w9 ⟨rfl, rfl⟩)
    | (go_at_call 29; refine (vtrunc_nil _ _ _).mono ?_; rintro e w9 ⟨rfl, rfl⟩)
    | (go_at_call 17; refine (vsync_nil _ _).mono ?_; rintro e w9 ⟨rfl, rfl⟩)
    | (go_at_call 18; refine (vsyncdir_nil _).mono ?_; rintro e w9 ⟨rfl, rfl⟩)
    | (go_at_call 30; refine (vrename_nil _ _ _).mono ?_; rintro e w9 ⟨rfl, rfl⟩)
    | (go_at_call 31; refine (vunlink_nil _ _).mono ?_; rintro e w9 ⟨rfl, rfl⟩)
    | (go_at_call 32; refine (vdead_nil _).mono ?_; rintro e w9 ⟨rfl, rfl⟩)
    | (go_at_call 14; refine (vused_nil _).mono ?_; rintro e w9 ⟨rfl, rfl⟩)
    | (go_at_call 15; refine (vloose_nil _).mono ?_; rintro e w9 ⟨rfl, rfl⟩)
    | (go_at_call 19; go_loud (refine (vcrash_nil _ _).mono ?_; rintro e w8 ⟨rfl, hb8⟩; have HB8 := Lib.hid (HB.out.trans (hb8.mono HB.out.size)); clear hb8))
    | (go_at_call 7; go_loud (refine (awake_any _).mono ?_; rintro e w5 ⟨rfl, hb5⟩; have HB5 := Lib.hid (HB8.out.trans (hb5.mono HB8.out.size)); clear hb5)))
  go_ret
  exact ⟨rfl, HB5.out⟩

theorem act_view {H : Type} {enc : TypeId × Value → H} {w : World} {r : Reach} {b0 : Nat} {v : Value} {d : DataW H} {p : List MemPlace} (hv : Value.okWide Tryz.prog w r b0 32 v)
    (h : DataW.Trod enc Tryz.prog w 0 (fun _ => true) true 32 v d p) : ∃ a : Act8, v = .agg #[.int .i64 a.kind, .string a.a, .string a.b, .int .i64 a.at_, .slice a.A a.n a.c, .slice a.K a.m a.d] ∧ Act8Ok w a :=
  view_act8 Tryz.underlying32 (by kernel_rfl) rfl rfl rfl rfl rfl rfl (by kernel_rfl) (by kernel_rfl) (by kernel_rfl) (by kernel_rfl) (by kernel_rfl) (by kernel_rfl) Tryz.underlying3 Tryz.underlying9 Tryz.underlying9 Tryz.underlying3 Tryz.underlying29 Tryz.underlying5 (by kernel_rfl) Tryz.underlying30 Tryz.underlying4 (by kernel_rfl) hv h

end Go.Proofs.YtclglbddibjenaaGreat
