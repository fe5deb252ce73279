/-
  LAYER 15: WHAT Find AND Intern OF PACKAGE data DO: contracts.
-/
import Derived.Test.YtknimfnjmhmamaaGreatDaIntM
set_option linter.unusedVariables false
set_option maxRecDepth 100000
set_option linter.unusedSimpArgs false
namespace Go.Proofs.YtknimfnjmhmamaaGreat
open Go.RowKit Go.Shelf

/-- What Intern tells. -/
def InternTold (base : Nat) (S : Nat → Prop) (p : Nat) (i k d f h : Int) (m : IM) (l : List GO) (R : List DR) (zs : List Int) (w : World) (e : Ending) (w' : World) : Prop :=
  (∃ a, findG l 1 zs = some a ∧ e = .returned (.tuple #[.int .i64 (a : Nat), .int .i64 0]) ∧ Below w.heap.size w w') ∨
  (findG l 1 zs = none ∧ e = .returned (.tuple #[.int .i64 0, .int .i64 21]) ∧ m.lim < m.b.length + 1200 ∧ ∃ m', IXT base S p i k d f h m' w w' ∧ m'.was = m.was ∧ m'.lim = m.lim ∧ AreB m'.b ∧ m'.b.length ≤ m.b.length + 1200 ∧ m'.words.length ≤ m.words.length + 3 ∧ (m.Good → m'.Good)) ∨
  (findG l 1 zs = none ∧ e = .returned (.tuple #[.int .i64 (m.b.length : Nat), .int .i64 0]) ∧ ∃ m' l', IXT base S p i k d f h m' w w' ∧ Came k d f m m' l' R zs 0 3 1200)

theorem intern_nil (s : ByteArray) (w : World) :
    Calls Tryz.prog 7 #[.pointer none, .string s] w fun e w' => e = .returned (.tuple #[.int .i64 0, .int .i64 3]) ∧ w = w' := by
  go_enter Tryz.func7, Tryz.ntmps7
  go_wp2
  go_ret2
  exact ⟨rfl, rfl⟩
theorem intern_name (p : Nat) (s : ByteArray) (w : World) (hs : s.size ≤ maxLen) (ho : spOk s = false) :
    Calls Tryz.prog 7 #[.pointer (some ⟨p, 0, none⟩), .string s] w fun e w' => e = .returned (.tuple #[.int .i64 0, .int .i64 23]) ∧ Below w.heap.size w w' := by
  have SP := split_any s w hs
  rw [ho] at SP
  go_enter Tryz.func7, Tryz.ntmps7
  go_wp2_with (go_at_call 21; refine SP.mono ?_; rintro e w1 ⟨rfl, n1, rfl⟩)
  go_ret2
  exact ⟨rfl, below_drewn (Below.refl _ _) _⟩
theorem intern_big (p : Nat) (s : ByteArray) (w : World) (hs : s.size ≤ maxLen) (ho : spOk s = true) (hb : 1024 < s.size) :
    Calls Tryz.prog 7 #[.pointer (some ⟨p, 0, none⟩), .string s] w fun e w' => e = .returned (.tuple #[.int .i64 0, .int .i64 22]) ∧ Below w.heap.size w w' := by
  have SP := split_any s w hs
  rw [ho] at SP
  have hb2 : (1024 : Int) < (s.size : Int) := by omega
  go_enter Tryz.func7, Tryz.ntmps7
  go_wp2_with (go_at_call 21; refine SP.mono ?_; rintro e w1 ⟨rfl, n1, rfl⟩)
  go_ret2
  exact ⟨rfl, below_drewn (Below.refl _ _) _⟩

section
variable {base p : Nat} {S : Nat → Prop} {i k d f h : Int} {m : IM} {bv sv : Value} {l : List GO} {R : List DR}

/-- Find. -/
theorem dfind_any (s : ByteArray) (w : World) (D : DB fldI k d f 0 0 m.b l) (H : IX w base S p i k d f h m bv sv) (hbm : AreB m.b) (hk : IsU k) (hs : s.size ≤ 140737488355328) :
    Calls Tryz.prog 38 #[.pointer (some ⟨p, 0, none⟩), .string s] w fun e w' => e = .returned (.tuple #[.int .i64 ((findG l 1 (nums s)).getD 0 : Nat), .bool (findG l 1 (nums s)).isSome]) ∧ Below w.heap.size w w' := by
  have hm : s.size ≤ maxLen := by unfold maxLen; omega
  have hc := capS_le (w := w) hm
  have hb := textW_below w s
  have FI := Lib.hid (gfind_any 1 (.inl rfl) (some ⟨w.heap.size, 0, none⟩) s.size (capS w s) (nums s) (textW w s) D (H.below hb) hbm hk (textW_reads w s) (Nat.le_refl _) (nums_bytes s) hc.1 hc.2 hs)
  have cv := conv_text s w
  obtain ⟨x, hx⟩ : ∃ x, (findG l 1 (nums s)).getD 0 = x := ⟨_, rfl⟩
  obtain ⟨y, hy⟩ : ∃ y, (findG l 1 (nums s)).isSome = y := ⟨_, rfl⟩
  rw [hx, hy] at FI ⊢
  have HB := Lib.hid hb
  clear H hc hb hm hx hy
  go_enter Tryz.func38, Tryz.ntmps38
  go_wp2_with (go_at_call 68; refine FI.out.mono ?_; rintro e w2 ⟨rfl, hb2⟩)
  go_ret2
  exact ⟨rfl, HB.out.trans (hb2.mono HB.out.size)⟩

/-- Table's Add of the item, as Intern calls it. -/
theorem intern_old (s : ByteArray) (w : World) (D : DB fldI k d f 0 0 m.b l) (H : IX w base S p i k d f h m bv sv) (hbm : AreB m.b) (hk : IsU k) (hlim : m.lim ≤ 1048576) (hN : m.words.length ≤ 100000000) (hwl : m.was.length ≤ 1099511627776) (ho : spOk s = true) (hs : s.size ≤ 1024) {a : Nat} (ha : findG l 1 (nums s) = some a) :
    Calls Tryz.prog 7 #[.pointer (some ⟨p, 0, none⟩), .string s] w fun e w' => e = .returned (.tuple #[.int .i64 (a : Nat), .int .i64 0]) ∧ Below w.heap.size w w' := by
  have hm : s.size ≤ maxLen := by unfold maxLen; omega
  have hsz := spOk_sizes ho
  have SP := split_any s w hm
  rw [ho] at SP
  have hb2 : ¬ (1024 : Int) < (s.size : Int) := by omega
  have cv := fun wx => conv_text s wx
  have HB := Lib.hid (fun n => (below_drewn (Below.refl w.heap.size w) n).trans (textW_below (w.drewN n) s))
  have AD := Lib.hid (fun n => (gadd_any 1 (.inl rfl) (some ⟨w.heap.size, 0, none⟩) s.size (capS (w.drewN n) s) (nums s) (textW (w.drewN n) s) D (H.below (HB.out n)) hbm hk hlim (by omega) hwl (textW_reads (w.drewN n) s) (Nat.le_refl _) (nums_bytes s) (capS_le hm).1 (capS_le hm).2 (by omega) (by rw [nums_length]; exact rn_item hsz.1 hs)).mono (fun e w' h9 => (show e = .returned (.tuple #[.int .i64 (a : Nat), .bool false, .int .i64 0]) ∧ Below (textW (w.drewN n) s).heap.size (textW (w.drewN n) s) w' by
    rcases h9 with ⟨b, h1, h2, h3⟩ | ⟨h1, -⟩ | ⟨h1, -⟩
    · rw [ha] at h1; injection h1 with h1; subst h1; exact ⟨h2, h3⟩
    · rw [ha] at h1; cases h1
    · rw [ha] at h1; cases h1)))
  clear H hm hsz D
  go_enter Tryz.func7, Tryz.ntmps7
  go_wp2_with (first
    | (go_at_call 21; refine SP.mono ?_; rintro e w1 ⟨rfl, n1, rfl⟩)
    | (go_at_call 22; refine (AD.out _).mono ?_; rintro e w2 ⟨rfl, hb3⟩))
  go_ret2
  exact ⟨rfl, (HB.out _).trans (hb3.mono (HB.out _).size)⟩

/-- Nothing is put. -/
theorem intern_full (s : ByteArray) (w : World) (D : DB fldI k d f 0 0 m.b l) (H : IX w base S p i k d f h m bv sv) (hbm : AreB m.b) (hk : IsU k) (hlim : m.lim ≤ 1048576) (hN : m.words.length ≤ 100000000) (hwl : m.was.length ≤ 1099511627776) (ho : spOk s = true) (hs : s.size ≤ 1024) (ha : findG l 1 (nums s) = none) (hfull : m.lim < m.b.length + tlen 1 (nums s).length) :
    Calls Tryz.prog 7 #[.pointer (some ⟨p, 0, none⟩), .string s] w fun e w' => e = .returned (.tuple #[.int .i64 0, .int .i64 21]) ∧ Below w.heap.size w w' := by
  have hm : s.size ≤ maxLen := by unfold maxLen; omega
  have hsz := spOk_sizes ho
  have SP := split_any s w hm
  rw [ho] at SP
  have hb2 : ¬ (1024 : Int) < (s.size : Int) := by omega
  have cv := fun wx => conv_text s wx
  have HB := Lib.hid (fun n => (below_drewn (Below.refl w.heap.size w) n).trans (textW_below (w.drewN n) s))
  have AD := Lib.hid (fun n => (gadd_any 1 (.inl rfl) (some ⟨w.heap.size, 0, none⟩) s.size (capS (w.drewN n) s) (nums s) (textW (w.drewN n) s) D (H.below (HB.out n)) hbm hk hlim (by omega) hwl (textW_reads (w.drewN n) s) (Nat.le_refl _) (nums_bytes s) (capS_le hm).1 (capS_le hm).2 (by omega) (by rw [nums_length]; exact rn_item hsz.1 hs)).mono (fun e w' h9 => (show e = .returned (.tuple #[.int .i64 0, .bool false, .int .i64 21]) ∧ Below (textW (w.drewN n) s).heap.size (textW (w.drewN n) s) w' by
    rcases h9 with ⟨b, h1, -⟩ | ⟨-, -, h2, h3⟩ | ⟨-, h1, -⟩
    · rw [ha] at h1; cases h1
    · exact ⟨h2, h3⟩
    · omega)))
  clear H hm hsz D hfull
  go_enter Tryz.func7, Tryz.ntmps7
  go_wp2_with (first
    | (go_at_call 21; refine SP.mono ?_; rintro e w1 ⟨rfl, n1, rfl⟩)
    | (go_at_call 22; refine (AD.out _).mono ?_; rintro e w2 ⟨rfl, hb3⟩))
  go_ret2
  exact ⟨rfl, (HB.out _).trans (hb3.mono (HB.out _).size)⟩
end

end Go.Proofs.YtknimfnjmhmamaaGreat
