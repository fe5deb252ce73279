/-
  LAYER 16: Xor, and the document's: contracts.
-/
import Derived.Test.YtobbkhncnokpiaaGreatEnDone
import Derived.Test.YtobbkhncnokpiaaGreatEnRec
set_option linter.unusedVariables false
set_option maxRecDepth 100000
set_option linter.unusedSimpArgs false
namespace Go.Proofs.YtobbkhncnokpiaaGreat
open Go.RowKit Go.Shelf

/-- The sums of texts, with one another. -/
def xorL (k : Int) (zs : List ByteArray) : Int := zs.foldl (fun x s => bits .xor .u64 x (hsh k (nums s))) 0
theorem xorL_snoc (k : Int) (zs : List ByteArray) (s : ByteArray) : xorL k (zs ++ [s]) = bits .xor .u64 (xorL k zs) (hsh k (nums s)) := by unfold xorL; rw [List.foldl_append]; rfl
theorem xorL_next (k : Int) {zs : List ByteArray} {j : Nat} (h : j < zs.length) : xorL k (zs.take (j + 1)) = bits .xor .u64 (xorL k (zs.take j)) (hsh k (nums (nthT zs j))) := by rw [take_nthT h, xorL_snoc]
theorem xorL_isU (k : Int) (zs : List ByteArray) : IsU (xorL k zs) := by
  rcases List.eq_nil_or_concat zs with rfl | ⟨l, s, rfl⟩
  · show IsU 0; exact ⟨by decide, by decide⟩
  · rw [List.concat_eq_append, xorL_snoc]; exact bits_isU .xor (.inl rfl) _ _

section
variable {k d f : Int} {w w' : World} {base : Nat} {S : Nat → Prop} {p lim : Nat} {was : List Int} {R : List DR} {O : List GO} {Lr : List Int} {tl cnt : Nat}
theorem sum_ex {B : Nat} (A : Option Addr) (n c : Nat) (zs : List Int) (h : EX k d f w base S p lim was R O Lr tl cnt) (hr : Reads w B 1 A n (cellsOf .u8 zs)) (hB : B ≤ w.heap.size) (hz : AreB zs) (hl : n ≤ c) (hcap : c ≤ 9223372036854775807) (hn : n ≤ 140737488355328) :
    Calls Tryz.prog 45 #[.pointer (some ⟨p, 0, none⟩), .slice A n c] w fun e w' => e = .returned (.int .u64 (hsh k zs)) ∧ Below w.heap.size w w' := by
  obtain ⟨⟨m, bv, sv, l, H, r⟩, hs, hk⟩ := h
  exact tsum_any A n c zs w H hk hr hB hz hl hcap hn
/-- The sum of '[]byte(s)'. -/
theorem sumS_ex (s : ByteArray) (h : EX k d f w base S p lim was R O Lr tl cnt) (hs : s.size ≤ 100000) :
    Calls Tryz.prog 45 #[.pointer (some ⟨p, 0, none⟩), .slice (some ⟨w.heap.size, 0, none⟩) s.size (capS w s)] (textW w s) fun e w' => e = .returned (.int .u64 (hsh k (nums s))) ∧ Below w.heap.size w w' := by
  have hc := capS_le (w := w) (s := s) (by unfold maxLen; omega)
  have hb := textW_below w s
  refine (sum_ex _ _ _ (nums s) (h.below hb) (textW_reads w s) (Nat.le_refl _) (nums_bytes s) hc.1 hc.2 (by omega)).mono ?_
  rintro e w' ⟨h1, h2⟩
  exact ⟨h1, hb.trans (h2.mono hb.size)⟩

set_option maxHeartbeats 1000000 in
theorem exor_any (A : Option Addr) (n c : Nat) (zs : List ByteArray) (B : Nat) (h : EX k d f w base S p lim was R O Lr tl cnt) (hT : Txt w B A n c zs) (hB : B ≤ w.heap.size) (hS : ∀ s ∈ zs, s.size ≤ 100000) :
    Calls Tryz.prog 19 #[.pointer (some ⟨p, 0, none⟩), .slice A n c] w fun e w' => e = .returned (.int .u64 (xorL k zs)) ∧ Below w.heap.size w w' := by
  have hl := hT.len
  have hle := hT.le
  have hcap := hT.cap
  have SU := Lib.hid (fun (s : ByteArray) (hs : s.size ≤ 100000) wx (hb : Below w.heap.size w wx) => sumS_ex s (h.below hb) hs)
  clear h
  go_enter Tryz.func19, Tryz.ntmps19
  go_wp2
  go_loopw [5, 10] (fun x i wr => ∃ j : Nat, j ≤ n ∧ x = .int .u64 (xorL k (zs.take j)) ∧ i = .int .i64 j ∧ Below w.heap.size w wr) (fun _ i _ => n - (intOf i).toNat)
  case atStart => exact ⟨0, Nat.zero_le _, rfl, rfl, Below.refl _ _⟩
  case round =>
    obtain ⟨j, hj, rfl, rfl, hbw⟩ := hrel
    by_cases hlt : j < n
    · obtain ⟨b, off, rfl, hb, hcell⟩ := hT.at_ (by omega)
      have c0 := (hbw.cell (p := ⟨b, off + j, none⟩) (by show b < _; omega)).trans (hcell j hlt)
      have SZ := Lib.hid (hS _ (nthT_mem (zs := zs) (i := j) (by omega)))
      have HX := Lib.hid (xorL_next k (zs := zs) (j := j) (by omega))
      obtain ⟨s, hs⟩ : ∃ s, nthT zs j = s := ⟨_, rfl⟩
      rw [hs] at c0 SZ HX
      have SS := Lib.hid (SU.out s SZ.out wr hbw)
      obtain ⟨x, hx⟩ : ∃ x, xorL k (zs.take j) = x := ⟨_, rfl⟩
      rw [hx] at HX ⊢
      have HL := Lib.hid hl
      have cv := conv_text s wr
      clear hcell hs hx hT hl
      go_wp2_with (go_at_call 45; refine SS.out.mono ?_; rintro e w1 ⟨rfl, hb1⟩)
      go_roundw
      case rel => exact ⟨j + 1, by omega, by rw [HX.out], by go_num, hbw.trans (hb1.mono hbw.size)⟩
      case measure => simp [intOf]; omega
    · obtain rfl : j = n := by omega
      have HX : Hid (zs.take j = zs) := Lib.hid (List.take_of_length_le (by omega))
      rw [HX.out]
      clear hT hl
      go_wp2
      go_ret
      exact ⟨rfl, hbw⟩
end

set_option maxHeartbeats 1000000 in
theorem rxor_any {k : Int} (A : Option Addr) (n c : Nat) (zs : List ByteArray) (B : Nat) (w : World) (hT : Txt w B A n c zs) (hB : B ≤ w.heap.size) (hk : IsU k) (hS : ∀ s ∈ zs, s.size ≤ 100000) :
    Calls Tryz.prog 18 #[.int .u64 k, .slice A n c] w fun e w' => e = .returned (.int .u64 (xorL k zs)) ∧ Below w.heap.size w w' := by
  have hl := hT.len
  have hle := hT.le
  have hcap := hT.cap
  go_enter Tryz.func18, Tryz.ntmps18
  go_wp2
  go_loopw [5, 6] (fun x i wr => ∃ j : Nat, j ≤ n ∧ x = .int .u64 (xorL k (zs.take j)) ∧ i = .int .i64 j ∧ Below w.heap.size w wr) (fun _ i _ => n - (intOf i).toNat)
  case atStart => exact ⟨0, Nat.zero_le _, rfl, rfl, Below.refl _ _⟩
  case round =>
    obtain ⟨j, hj, rfl, rfl, hbw⟩ := hrel
    by_cases hlt : j < n
    · obtain ⟨b, off, rfl, hb, hcell⟩ := hT.at_ (by omega)
      have c0 := (hbw.cell (p := ⟨b, off + j, none⟩) (by show b < _; omega)).trans (hcell j hlt)
      have SZ := Lib.hid (hS _ (nthT_mem (zs := zs) (i := j) (by omega)))
      have HX := Lib.hid (xorL_next k (zs := zs) (j := j) (by omega))
      obtain ⟨s, hs⟩ : ∃ s, nthT zs j = s := ⟨_, rfl⟩
      rw [hs] at c0 SZ HX
      have hcs := capS_le (w := wr) (s := s) (by have := SZ.out; unfold maxLen; omega)
      have SS := Lib.hid (rhash_any (some ⟨wr.heap.size, 0, none⟩) s.size (capS wr s) k (nums s) (textW wr s) (textW_reads wr s) (nums_bytes s) hcs.1 hcs.2 (by have := SZ.out; omega) hk)
      obtain ⟨x, hx⟩ : ∃ x, xorL k (zs.take j) = x := ⟨_, rfl⟩
      rw [hx] at HX ⊢
      have HL := Lib.hid hl
      have cv := conv_text s wr
      have HB1 := Lib.hid (hbw.trans ((textW_below wr s).mono hbw.size))
      clear hcell hs hx hT hl hcs
      go_wp2_with (go_at_call 44; refine SS.out.mono ?_; rintro e w1 ⟨rfl, rfl⟩)
      go_roundw
      case rel => exact ⟨j + 1, by omega, by rw [HX.out], by go_num, HB1.out⟩
      case measure => simp [intOf]; omega
    · obtain rfl : j = n := by omega
      have HX : Hid (zs.take j = zs) := Lib.hid (List.take_of_length_le (by omega))
      rw [HX.out]
      clear hT hl
      go_wp2
      go_ret
      exact ⟨rfl, hbw⟩

end Go.Proofs.YtobbkhncnokpiaaGreat
