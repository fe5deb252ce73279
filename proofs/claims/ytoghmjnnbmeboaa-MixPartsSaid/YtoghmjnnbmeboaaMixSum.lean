/-
  A SUM IN THE MAKING, AS ITS CELLS LIE: and the contracts of New, word, Value.
-/
import Derived.Test.YtoghmjnnbmeboaaMixFn
import Derived.Test.YtoghmjnnbmeboaaChg
import Derived.BigQuiet
import Derived.Deep.QuietTactic
import Derived.Laws.CopyOwn
import Derived.Deep.Draws
set_option linter.unusedVariables false
set_option linter.unusedSimpArgs false
namespace Go.Proofs.Ytoghmjnnbmeboaa
open Go.RowKit

theorem quiet_eq {P : Program} {f : FuncId} {args : Array Value} {w : World} {n : Nat} {v : Value}
    (h : Calls P f args (w.drewN n) fun e w' => e = .returned v ∧ w.drewN n = w') : Calls P f args (w.drewN n) fun e w'' => e = .returned v ∧ ∃ m, w'' = w.drewN m :=
  h.mono fun _ _ ⟨he, hm⟩ => ⟨he, n, hm.symm⟩

/-- The ten cells of a sum: what it is so far, eight bytes, how many have come in. -/
def smc (h : Int) (left : List Int) (n : Int) : List Value := .int .u64 h :: (cellsOf .u8 left ++ [.int .i64 n])

theorem smc_0 (h : Int) (left : List Int) (n : Int) : (smc h left n)[0]? = some (.int .u64 h) := rfl
theorem smc_length (h : Int) (left : List Int) (n : Int) : (smc h left n).length = left.length + 2 := by simp [smc, cellsOf_length]
theorem smc_9 (h : Int) (left : List Int) (n : Int) (h8 : left.length = 8) : (smc h left n)[9]? = some (.int .i64 n) := by
  unfold smc
  rw [List.getElem?_cons_succ, List.getElem?_append_right (by rw [cellsOf_length]; omega), cellsOf_length, h8]
  rfl
theorem smc_left (h : Int) (left : List Int) (n : Int) (j : Nat) (u : Value) (hj : (cellsOf .u8 left)[j]? = some u) : (smc h left n)[1 + j]? = some u := by
  have hl := (List.getElem?_eq_some_iff.1 hj).1
  unfold smc
  rw [Nat.add_comm, List.getElem?_cons_succ, List.getElem?_append_left hl, hj]
theorem smc_set0 (h h' : Int) (left : List Int) (n : Int) : (smc h left n).toArray.setIfInBounds 0 (.int .u64 h') = (smc h' left n).toArray := by
  simp [smc]
theorem smc_set9 (h : Int) (left : List Int) (n n' : Int) (h8 : left.length = 8) : (smc h left n).toArray.setIfInBounds 9 (.int .i64 n') = (smc h left n').toArray := by
  have hc : (cellsOf .u8 left).length = 8 := by rw [cellsOf_length, h8]
  simp only [smc, List.setIfInBounds_toArray, List.set_cons_succ]
  rw [List.set_append_right _ _ (by omega), hc]
  rfl
theorem smc_splice (h : Int) (left ys : List Int) (n : Int) (k : Nat) (h8 : left.length = 8) (hk : k + ys.length ≤ 8) :
    splice (smc h left n) (1 + k) (cellsOf .u8 ys) = smc h (splice left k ys) n := by
  have hc : (cellsOf .u8 left).length = 8 := by rw [cellsOf_length, h8]
  have hy : (cellsOf .u8 ys).length = ys.length := cellsOf_length _ _
  unfold splice smc
  rw [show 1 + k = k + 1 by omega, List.take_succ_cons, show k + 1 + (cellsOf .u8 ys).length = (k + (cellsOf .u8 ys).length) + 1 by omega, List.drop_succ_cons,
    List.take_append_of_le_length (by omega), List.drop_append_of_le_length (by omega), hy]
  simp [cellsOf]

/-- Block g is a sum by this key, of these bytes. -/
structure Sm (w : World) (g : Nat) (key : Int) (zs : List Int) : Prop where
  blk : Blk w g 40 (smc (hst key zs (zs.length / 8)) (rest8 zs ++ List.replicate (8 - zs.length % 8) 0) zs.length).toArray
  bytes : AreB zs

theorem left_length (zs : List Int) : (rest8 zs ++ List.replicate (8 - zs.length % 8) 0).length = 8 := by
  rw [List.length_append, rest8_length, List.length_replicate]; omega
theorem left_bytes {zs : List Int} (h : AreB zs) : AreB (rest8 zs ++ List.replicate (8 - zs.length % 8) 0) := (rest8_bytes h).append (AreB.zeros _)

theorem Sm.chg {S : Nat → Prop} {w w' : World} {g : Nat} {key : Int} {zs : List Int} (h : Sm w g key zs) (hc : Chg S w w') (hg : ¬ S g) : Sm w' g key zs := ⟨h.blk.chg hc hg, h.bytes⟩
theorem Sm.below {w w' : World} {g : Nat} {key : Int} {zs : List Int} (h : Sm w g key zs) (hb : Below w.heap.size w w') : Sm w' g key zs := ⟨h.blk.below hb h.blk.lt, h.bytes⟩
theorem Sm.drewN {w : World} {g : Nat} {key : Int} {zs : List Int} (h : Sm w g key zs) (n : Nat) : Sm (w.drewN n) g key zs := ⟨h.blk.drewN n, h.bytes⟩

theorem blk_reads {w : World} {g : Nat} {h n : Int} {left : List Int} (hb : Blk w g 40 (smc h left n).toArray) : Reads w (g + 1) 1 (some ⟨g, 1, none⟩) left.length (cellsOf .u8 left) := by
  refine ⟨by rw [cellsOf_length]; omega, fun _ => ⟨_, rfl, Nat.lt_succ_self _, fun j u hu => ?_⟩⟩
  have e : (⟨g, 1, none⟩ : Addr).add j = ⟨g, 1 + j, none⟩ := by unfold Addr.add; split <;> simp_all
  rw [e, hb.cell, List.getElem?_toArray]
  exact smc_left h left n j u hu

theorem new_any (key : Int) (w : World) (hk : IsU key) :
    Calls Try.prog 9 #[.int .u64 key] w fun e w' => e = .returned (.pointer (some ⟨w.heap.size, 0, none⟩)) ∧ Sm w' w.heap.size key [] ∧ Below w.heap.size w w' := by
  obtain ⟨h0, h1⟩ := hk
  go_enter Try.func9, Try.ntmps9
  go_wp2
  go_ret
  exact ⟨rfl, ⟨Blk.new _ _ _, AreB.nil⟩, (Below.refl _ _).alloc (Nat.le_refl _) _⟩

theorem word_any (g : Nat) (h n : Int) (left : List Int) (w : World) (hb : Blk w g 40 (smc h left n).toArray) (hz : AreB left) (h8 : left.length = 8) :
    Calls Try.prog 16 #[.pointer (some ⟨g, 0, none⟩)] w fun e w' => e = .returned (.int .u64 (lev left)) ∧ w = w' := by
  have hr := blk_reads hb
  rw [h8] at hr
  have hok : gok 8 0 8 = true := by decide
  have hnum : gnum left 0 8 = lev left := by unfold gnum; rw [h8, hok]; simp; rw [List.take_of_length_le (by omega)]
  have G := Lib.hid (get_any (some ⟨g, 1, none⟩) 8 8 0 8 left w hr hz (by omega) (by omega) (by omega) (by omega) (by omega) (by omega))
  rw [hok, hnum] at G
  clear hok hnum hr
  go_enter Try.func16, Try.ntmps16
  go_wp2_with (go_at_call 18; refine G.out.mono ?_; rintro e w1 ⟨rfl, rfl⟩)
  go_ret
  exact ⟨rfl, rfl⟩

theorem lev_isU {l : List Int} (h : AreB l) (h8 : l.length ≤ 8) : IsU (lev l) := by
  have h1 := lev_bound l h
  have h2 := pow256_le l.length h8
  exact ⟨h1.1, by omega⟩

theorem value_any (g : Nat) (key : Int) (zs : List Int) (w : World) (h : Sm w g key zs) (hn : zs.length ≤ 4611686018427387904) :
    Calls Try.prog 11 #[.pointer (some ⟨g, 0, none⟩)] w fun e w' => e = .returned (.int .u64 (hsh key zs)) ∧ ∃ k, w' = w.drewN k := by
  have hE := Lib.hid (show stir (stir (hst key zs (zs.length / 8)) (lev (rest8 zs ++ List.replicate (8 - zs.length % 8) 0))) zs.length = hsh key zs by rw [lev_pad]; rfl)
  have hb := h.blk
  have h8 := left_length zs
  have hl := left_bytes h.bytes
  have hu1 := hst_isU key zs (zs.length / 8)
  generalize rest8 zs ++ List.replicate (8 - zs.length % 8) 0 = left at hb h8 hl hE
  generalize hst key zs (zs.length / 8) = s at hb hu1 hE
  have hu2 := lev_isU hl (by omega)
  have hu3 := stir_isU s (lev left)
  have hu4 : IsU (zs.length : Int) := ⟨by omega, by omega⟩
  have c0 : w.cell? ⟨g, 0, none⟩ = some (.int .u64 s) := by rw [hb.cell, List.getElem?_toArray]; rfl
  have c9 : w.cell? ⟨g, 9, none⟩ = some (.int .i64 zs.length) := by rw [hb.cell, List.getElem?_toArray]; exact smc_9 _ _ _ h8
  have H8 := Lib.hid h8
  clear h8
  have hwr : IntKind.u64.wrap (zs.length : Int) = zs.length := by rw [IntKind.wrap_u64]; exact Int.emod_eq_of_lt hu4.1 hu4.2
  go_enter Try.func11, Try.ntmps11
  go_wp2_with (fail)
  go_quiet ((first
    | (go_at_call 16; exact quiet_eq (word_any g s zs.length left _ (hb.drewN _) hl H8.out))
    | (go_at_call 15; exact quiet_eq (stir_any _ _ _ (by assumption) (by assumption)))))
  go_wp2
  go_ret
  exact ⟨ret_int hE.out, _, rfl⟩

end Go.Proofs.Ytoghmjnnbmeboaa
