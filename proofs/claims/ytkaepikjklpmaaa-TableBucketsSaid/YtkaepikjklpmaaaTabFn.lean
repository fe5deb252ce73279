/-
  LAYER 13: WHAT Sum, bucket, Follow AND All OF PACKAGE table DO: contracts.
-/
import Derived.Test.YtkaepikjklpmaaaTabFollow
set_option linter.unusedVariables false
set_option maxRecDepth 100000
set_option linter.unusedSimpArgs false
namespace Go.Proofs.Ytkaepikjklpmaaa
open Go.RowKit

/-- An iterator's four boxes. -/
structure FlAt (w : World) (g p : Nat) (pl : Int) (kd wd : Nat) : Prop where
  lo : g + 4 ≤ w.heap.size
  cm : w.cell? ⟨g, 0, none⟩ = some (.pointer (some ⟨p, 0, none⟩))
  cp : w.cell? ⟨g + 1, 0, none⟩ = some (.int .u64 pl)
  ck : w.cell? ⟨g + 2, 0, none⟩ = some (.int .i64 kd)
  cw : w.cell? ⟨g + 3, 0, none⟩ = some (.int .i64 wd)
abbrev flV (g : Nat) : Value := .func (.func 38) #[] #[.pointer (some ⟨g + 3, 0, none⟩), .pointer (some ⟨g + 2, 0, none⟩), .pointer (some ⟨g + 1, 0, none⟩), .pointer (some ⟨g, 0, none⟩)]

theorem FlAt.below {w w' : World} {g p : Nat} {pl : Int} {kd wd : Nat} (h : FlAt w g p pl kd wd) (hb : Below w.heap.size w w') : FlAt w' g p pl kd wd :=
  ⟨Nat.le_trans h.lo hb.size, (hb.cell (p := ⟨g, 0, none⟩) (by have := h.lo; show g < _; omega)).trans h.cm, (hb.cell (p := ⟨g + 1, 0, none⟩) (by have := h.lo; show g + 1 < _; omega)).trans h.cp,
   (hb.cell (p := ⟨g + 2, 0, none⟩) (by have := h.lo; show g + 2 < _; omega)).trans h.ck, (hb.cell (p := ⟨g + 3, 0, none⟩) (by have := h.lo; show g + 3 < _; omega)).trans h.cw⟩

theorem cell_kept1 {w : World} {o : Obj} {a : Addr} {v : Value} (h : w.cell? a = some v) : (w.alloc o).cell? a = some v := (World.cell?_alloc_lt w o a (by obtain ⟨o', h', -⟩ := cells_of_cell h; exact (Array.getElem?_eq_some_iff.1 h').1)).trans h
theorem tfollow_any (p : Nat) (pl : Int) (kd wd : Nat) (w : World) :
    Calls Try.prog 19 #[.pointer (some ⟨p, 0, none⟩), .int .u64 pl, .int .i64 kd, .int .i64 wd] w fun e w' => e = .returned (flV w.heap.size) ∧ Below w.heap.size w w' ∧ FlAt w' w.heap.size p pl kd wd := by
  go_enter Try.func19, Try.ntmps19
  go_wp2
  go_ret
  have c0 := (Blk.new w 28 #[.pointer (some ⟨p, 0, none⟩)]).cell 0
  have c1 := (Blk.new (w.alloc (.cells #[.pointer (some ⟨p, 0, none⟩)] 28)) 22 #[.int .u64 pl]).cell 0
  have c2 := (Blk.new ((w.alloc (.cells #[.pointer (some ⟨p, 0, none⟩)] 28)).alloc (.cells #[.int .u64 pl] 22)) 3 #[.int .i64 kd]).cell 0
  have c3 := (Blk.new (((w.alloc (.cells #[.pointer (some ⟨p, 0, none⟩)] 28)).alloc (.cells #[.int .u64 pl] 22)).alloc (.cells #[.int .i64 kd] 3)) 3 #[.int .i64 wd]).cell 0
  have b1 := boxed w (.cells #[.pointer (some ⟨p, 0, none⟩)] 28)
  have b2 := b1.alloc b1.size (.cells #[.int .u64 pl] 22)
  have b3 := b2.alloc b2.size (.cells #[.int .i64 kd] 3)
  have b4 := b3.alloc b3.size (.cells #[.int .i64 wd] 3)
  simp only [World.size_alloc] at c1 c2 c3
  exact ⟨rfl, b4, ⟨by simp, cell_kept1 (cell_kept1 (cell_kept1 c0)), cell_kept1 (cell_kept1 c1), cell_kept1 c2, c3⟩⟩

theorem ret_ib {x y : Int} {b : Bool} (h : x = y) : Ending.returned (.tuple #[.int .i64 x, .bool b]) = .returned (.tuple #[.int .i64 y, .bool b]) := by rw [h]

section
variable {base p : Nat} {S : Nat → Prop} {i k d f h : Int} {m : IM} {bv sv : Value}

theorem tsum_any {B : Nat} (A : Option Addr) (n c : Nat) (zs : List Int) (w : World) (H : IX w base S p i k d f h m bv sv) (hk : IsU k) (hr : Reads w B 1 A n (cellsOf .u8 zs)) (hB : B ≤ w.heap.size) (hz : AreB zs) (hl : n ≤ c) (hcap : c ≤ 9223372036854775807) (hn : n ≤ 140737488355328) :
    Calls Try.prog 13 #[.pointer (some ⟨p, 0, none⟩), .slice A n c] w fun e w' => e = .returned (.int .u64 (hsh k zs)) ∧ Below w.heap.size w w' := by
  have HH := Lib.hid (ihead_any w H)
  have HS := Lib.hid (fun w1 (hb : Below w.heap.size w w1) => hash_any A n c k zs w1 hk (hr.below (hb.mono hB)) (Nat.le_trans hB hb.size) hz hl hcap (by omega))
  have hfd : ∀ w1 : World, (Instr.field 66 (hdV i k d f h) 1).run Try.prog w1 = .ok (.int .u64 k) w1 := fun _ => by kernel_rfl
  clear H hr
  go_enter Try.func13, Try.ntmps13
  go_wp2_with (first
    | (go_at_call 32; refine HH.out.mono ?_; rintro e w1 ⟨rfl, hb1⟩)
    | (go_at_call 31; refine (HS.out _ hb1).mono ?_; rintro e w2 ⟨rfl, hb2⟩))
  go_ret
  exact ⟨rfl, hb1.trans (hb2.mono hb1.size)⟩

/-- The bucket of a sum. -/
def bktN (D F : Int) (kd : Nat) (sum : Int) : Nat := (bucket sum (nb D F kd)).toNat
theorem bktN_eq {D F : Int} (hD : 1 ≤ D ∧ D ≤ 256) (hF : 1 ≤ F ∧ F ≤ 256) {kd : Nat} {sum : Int} (hs : IsU sum) : bucket sum (nb D F kd) = (bktN D F kd sum : Int) ∧ (bktN D F kd sum : Int) < nb D F kd := by
  have h := nb_bd hD hF kd
  unfold bktN bucket
  rw [if_neg (by omega)]
  have h1 := Int.emod_nonneg sum (b := nb D F kd) (by omega)
  have h2 := Int.emod_lt_of_pos sum (b := nb D F kd) (by omega)
  omega

set_option maxHeartbeats 1000000 in
theorem tbucket_any (kd : Nat) (hkd : kd = 1 ∨ kd = 2) (sum : Int) (w : World) (H : IX w base S p i k d f h m bv sv) (hs : IsU sum) (hd : 1 ≤ d ∧ d ≤ 256) (hf : 1 ≤ f ∧ f ≤ 256) :
    Calls Try.prog 25 #[.pointer (some ⟨p, 0, none⟩), .int .i64 kd, .int .u64 sum] w fun e w' => e = .returned (.tuple #[.int .i64 (tb d kd + 8 * bktN d f kd sum : Nat), .bool true]) ∧ Below w.heap.size w w' := by
  obtain ⟨e1, e2⟩ := bktN_eq hd hf (kd := kd) hs
  have HH := Lib.hid (ihead_any w H)
  have h2 := nb_bd hd hf kd
  have hl := tb_low hd hf e2
  have hv := newK_val hd hf
  rcases hkd with rfl | rfl
  · have en : nb d f 1 = d := rfl
    have et : tb d 1 = 256 := rfl
    rw [en] at e1 e2 h2
    rw [et] at hl ⊢
    obtain ⟨q, hq⟩ : ∃ q, bktN d f 1 sum = q := ⟨_, rfl⟩
    rw [hq] at e1 e2 hl ⊢
    have BK := Lib.hid (fun w1 => bucket_any sum d w1 hs (by omega) (by omega))
    rw [e1] at BK
    have hwr : IntKind.i64.wrap (256 + IntKind.i64.wrap ((q : Int) * 8)) = ((256 + 8 * q : Nat) : Int) := by simp only [IntKind.wrap_i64]; omega
    clear H en et e1 hq
    go_enter Try.func25, Try.ntmps25
    go_wp2_with (go_at_call 32; refine HH.out.mono ?_; rintro e w1 ⟨rfl, hb1⟩; have HB := Lib.hid (hb1.trans ((boxed w1 (.cells #[.int .u64 i, .int .u64 k, .int .i64 d, .int .i64 f, .int .u64 h] 66)).mono hb1.size)); have HA := Lib.hid (fun wx (hx : Below (w1.alloc (.cells #[.int .u64 i, .int .u64 k, .int .i64 d, .int .i64 f, .int .u64 h] 66)).heap.size (w1.alloc (.cells #[.int .u64 i, .int .u64 k, .int .i64 d, .int .i64 f, .int .u64 h] 66)) wx) => (hdAt_of hx : HdAt wx w1.heap.size i k d f h)))
    have hb : Below (w1.alloc (.cells #[.int .u64 i, .int .u64 k, .int .i64 d, .int .i64 f, .int .u64 h] 66)).heap.size (w1.alloc (.cells #[.int .u64 i, .int .u64 k, .int .i64 d, .int .i64 f, .int .u64 h] 66)) (w1.alloc (.cells #[.int .u64 i, .int .u64 k, .int .i64 d, .int .i64 f, .int .u64 h] 66)).drew := below_drewn (Below.refl _ _) 1
    have HK := Lib.hid (HA.out _ hb)
    go_region_held3 (fun w' => HdAt w' w1.heap.size i k d f h)
      (first | assumption | exact HK.out | exact HA.out _ hb)
      ((first
        | (go_at_call 46; refine (hdata_any _ _ _ _ _ _).mono ?_; rintro e wx ⟨rfl, hbx⟩; have hb := hb.trans (hbx.mono hb.size); clear hbx)
        | (go_at_call 47; refine (BK.out _).mono ?_; rintro e wx ⟨rfl, rfl⟩)))
    all_goals
      go_wp2
      go_ret2
      exact ⟨ret_ib (by omega), HB.out.trans (hb.mono HB.out.size)⟩
  · have en : nb d f 2 = f := rfl
    have et : tb d 2 = 256 + 8 * d.toNat := rfl
    rw [en] at e1 e2 h2
    rw [et] at hl ⊢
    obtain ⟨q, hq⟩ : ∃ q, bktN d f 2 sum = q := ⟨_, rfl⟩
    rw [hq] at e1 e2 hl ⊢
    have BK := Lib.hid (fun w1 => bucket_any sum f w1 hs (by omega) (by omega))
    rw [e1] at BK
    have hwr : IntKind.i64.wrap (256 + 8 * d + IntKind.i64.wrap ((q : Int) * 8)) = ((256 + 8 * d.toNat + 8 * q : Nat) : Int) := by simp only [IntKind.wrap_i64]; omega
    clear H en et e1 hq
    go_enter Try.func25, Try.ntmps25
    go_wp2_with (go_at_call 32; refine HH.out.mono ?_; rintro e w1 ⟨rfl, hb1⟩; have HB := Lib.hid (hb1.trans ((boxed w1 (.cells #[.int .u64 i, .int .u64 k, .int .i64 d, .int .i64 f, .int .u64 h] 66)).mono hb1.size)); have HA := Lib.hid (fun wx (hx : Below (w1.alloc (.cells #[.int .u64 i, .int .u64 k, .int .i64 d, .int .i64 f, .int .u64 h] 66)).heap.size (w1.alloc (.cells #[.int .u64 i, .int .u64 k, .int .i64 d, .int .i64 f, .int .u64 h] 66)) wx) => (hdAt_of hx : HdAt wx w1.heap.size i k d f h)))
    have hb : Below (w1.alloc (.cells #[.int .u64 i, .int .u64 k, .int .i64 d, .int .i64 f, .int .u64 h] 66)).heap.size (w1.alloc (.cells #[.int .u64 i, .int .u64 k, .int .i64 d, .int .i64 f, .int .u64 h] 66)) (w1.alloc (.cells #[.int .u64 i, .int .u64 k, .int .i64 d, .int .i64 f, .int .u64 h] 66)).drew := below_drewn (Below.refl _ _) 1
    have HK := Lib.hid (HA.out _ hb)
    go_region_held3 (fun w' => HdAt w' w1.heap.size i k d f h)
      (first | assumption | exact HK.out | exact HA.out _ hb)
      ((first
        | (go_at_call 48; refine (hfield_any _ _ _ _ _ _ (by omega) (by omega)).mono ?_; rintro e wx ⟨rfl, hbx⟩; have hb := hb.trans (hbx.mono hb.size); clear hbx)
        | (go_at_call 47; refine (BK.out _).mono ?_; rintro e wx ⟨rfl, rfl⟩)))
    all_goals
      go_wp2
      go_ret2
      exact ⟨ret_ib (by omega), HB.out.trans (hb.mono HB.out.size)⟩

theorem tall_any (kd : Nat) (hkd : kd = 1 ∨ kd = 2) (sum : Int) (w : World) (H : IX w base S p i k d f h m bv sv) (hbm : AreB m.b) (hs : IsU sum) (hd : 1 ≤ d ∧ d ≤ 256) (hf : 1 ≤ f ∧ f ≤ 256) :
    Calls Try.prog 26 #[.pointer (some ⟨p, 0, none⟩), .int .i64 kd, .int .u64 sum] w fun e w' => ∃ g, e = .returned (flV g) ∧ Below w.heap.size w w' ∧ w.heap.size ≤ g ∧ FlAt w' g p (m.word (tb d kd + 8 * bktN d f kd sum : Nat)) kd 1 := by
  have BB := Lib.hid (tbucket_any kd hkd sum w H hs hd hf)
  have hl := tb_low hd hf (bktN_eq hd hf (kd := kd) hs).2
  have hv := newK_val hd hf
  obtain ⟨q, hq⟩ : ∃ q, tb d kd + 8 * bktN d f kd sum = q := ⟨_, rfl⟩
  rw [hq] at BB hl ⊢
  have WW := Lib.hid (fun w1 (hb : Below w.heap.size w w1) => iword_any q w1 (H.below hb) hbm (by omega) (by omega))
  obtain ⟨pl, hpl⟩ : ∃ pl, m.word q = pl := ⟨_, rfl⟩
  rw [hpl] at WW ⊢
  have FF := Lib.hid (fun w1 => tfollow_any p pl kd 1 w1)
  clear H hq hpl
  go_enter Try.func26, Try.ntmps26
  go_wp2_with (first
    | (go_at_call 25; refine BB.out.mono ?_; rintro e w1 ⟨rfl, hb1⟩)
    | (go_at_call 50; refine (WW.out _ hb1).mono ?_; rintro e w2 ⟨rfl, rfl⟩)
    | (go_at_call 19; refine (FF.out _).mono ?_; rintro e w2 ⟨rfl, hb2, hfl⟩))
  go_ret
  exact ⟨_, rfl, hb1.trans (hb2.mono hb1.size), hb1.size, hfl⟩
end

end Go.Proofs.Ytkaepikjklpmaaa
