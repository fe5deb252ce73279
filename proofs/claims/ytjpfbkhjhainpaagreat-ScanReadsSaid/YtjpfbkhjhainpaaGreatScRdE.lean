/-
  LAYER 17: what ScanReads asks at the end: the entries that stand in the file, and whether its objects fill it.
-/
import Derived.Test.YtjpfbkhjhainpaaGreatScSt
set_option linter.unusedVariables false
set_option maxRecDepth 100000
set_option linter.unusedSimpArgs false
namespace Go.Proofs.YtjpfbkhjhainpaaGreat
open Go.RowKit Go.Shelf

section
variable {w wr wx : World} {p m k : Nat} {v : Value} {r : RC}
/-- Add, the three ways. -/
theorem RcdAt.add3 {ec : Int} (hec : chkE r.its = ec) (H : RcdAt w wr p v m k) (hk : k < 40) (hb : Below wr.heap.size wr wx) (hr : RCOk wx wx.heap.size r) (hn : r.n ≤ 9223372036854775807) : Calls Tryz.prog 8 #[.pointer (some ⟨p, 0, none⟩), r.v] wx fun e w3 =>
    (∃ a : Nat, e = .returned (.tuple #[.int .i64 a, .int .i64 0]) ∧ ec = 0 ∧ RcdTwo w wr wx w3 p v m k r) ∨ (∃ E : Int, e = .returned (.tuple #[.int .i64 0, .int .i64 E]) ∧ ¬ E = 0 ∧ ec = 0 ∧ RcdAt w w3 p v m (k + 1)) ∨ (∃ E : Int, e = .returned (.tuple #[.int .i64 0, .int .i64 E]) ∧ ¬ E = 0 ∧ ¬ ec = 0 ∧ RcdAt w w3 p v m (k + 1)) := by
  refine (H.add hec hk hb hr hn).mono ?_
  rintro e w3 (h | ⟨E, h1, h2, h3⟩)
  · exact .inl h
  · by_cases h0 : ec = 0
    · exact .inr (.inl ⟨E, h1, h2, h0, h3⟩)
    · exact .inr (.inr ⟨E, h1, h2, h0, h3⟩)
end

section
variable {wr wx : World} {p m NB B c5 : Nat} {A A5 : Option Addr} {c : Nat} {bs : List Int} {L : List SR} {l : List RC}
theorem cut_all (bs : List Int) {NB : Nat} (h : bs.length = NB) : bs.take (cutN NB (NB : Int)) = bs := by
  unfold cutN
  rw [List.take_of_length_le (by omega)]
theorem RcdEnd.ents (H : RcdEnd wr p m A c bs L l) (hN : bs.length = NB) (hr : Reads wx B 1 A5 NB (cellsOf .u8 bs)) (hB : B ≤ wx.heap.size) (hl : NB ≤ c5) (hc : c5 ≤ 9223372036854775807) :
    Calls Tryz.prog 10 #[.slice A5 NB c5, .int .i64 296, .int .i64 NB] wx fun e w' => ∃ A' c' l', e = .returned (.tuple #[.slice A' m c', .bool true]) ∧ RecsR w' w'.heap.size A' m c' l' ∧ (∀ (i : Nat) (a b : RC), l'[i]? = some a → l[i]? = some b → a.same b = true) ∧ Below wx.heap.size wx w' := by
  have hm := H.most
  have hL := H.scan
  rw [← cut_all bs hN] at hL
  refine (scEnts_any A5 NB c5 bs 296 NB L wx hr hB H.by_ hl hc (by omega) (by omega) (by omega) (by omega) (by omega) hL).mono ?_
  rintro e w' ⟨hb, ⟨ha, A', c', l', rfl, how, ht, he⟩ | ⟨hn, rfl⟩⟩
  · obtain ⟨A2, c2, e2, hR⟩ := RecsR.of_own how ht
    have e3 : A' = A2 ∧ c' = c2 := by injection e2 with h1 _ h3; exact ⟨h1, h3⟩
    obtain ⟨rfl, rfl⟩ := e3
    have hlen : l'.length = m := by rw [he.1, ← H.ens.1, H.len]
    rw [hlen] at hR ⊢
    exact ⟨A', c', l', rfl, hR, he.same H.ens, hb⟩
  · exact absurd H.ok hn
theorem RcdEnd.whole (H : RcdEnd wr p m A c bs L l) (hN : bs.length = NB) (hr : Reads wx B 1 A5 NB (cellsOf .u8 bs)) (hB : B ≤ wx.heap.size) (hl : NB ≤ c5) (hc : c5 ≤ 9223372036854775807) :
    Calls Tryz.prog 15 #[.slice A5 NB c5, .int .i64 296, .int .i64 NB] wx fun e w' => e = .returned (.bool true) ∧ Below wx.heap.size wx w' := by
  have hm := H.most
  have hL := H.scan
  rw [← cut_all bs hN] at hL
  have h := scWhole_any A5 NB c5 bs 296 NB L wx hr hB H.by_ hl hc (by omega) (by omega) (by omega) (by omega) (by omega) hL
  have e : wholeB NB 296 NB L = true := by
    unfold wholeB
    refine decide_eq_true ⟨by omega, Int.le_refl _, ?_⟩
    rw [H.last, hN]
  rw [e] at h
  exact h
/-- What Bytes tells of it. -/
theorem RcdEnd.told (H : RcdEnd wr p m A c bs L l) (hN : bs.length = NB) (hb : Below wr.heap.size wr wx) : Calls Tryz.prog 11 #[.pointer (some ⟨p, 0, none⟩)] wx fun e w' => ∃ A5 c5, e = .returned (.slice A5 NB c5) ∧ Reads w' w'.heap.size 1 A5 NB (cellsOf .u8 bs) ∧ Below wx.heap.size wx w' ∧ NB ≤ c5 ∧ c5 ≤ 9223372036854775807 := by
  refine (H.bytes wx hb).mono ?_
  rintro e w' ⟨A5, N5, c5, rfl, h1, h2, h3, h4, h5⟩
  subst hN; subst h1
  exact ⟨A5, c5, rfl, Reads.of_own h2, h3, h4, h5⟩
end
theorem objects296 (wx : World) : Calls Tryz.prog 12 #[hdV 0 4 3 2 0] wx fun e w' => e = .returned (.int .i64 296) ∧ Below wx.heap.size wx w' :=
  hobjects_any 0 4 3 2 0 wx (by omega) (by omega) (by omega) (by omega)
theorem inew_mib {base : Nat} (G : Nat) (w : World) (ht : IsTable w G) (hb : base ≤ w.heap.size) :
    Calls Tryz.prog 5 #[.pointer (some ⟨G, 0, none⟩), hdV 0 4 3 2 0, .int .i64 1048576] w fun e w' => ∃ p, e = .returned (.pointer (some ⟨p, 0, none⟩)) ∧ Below w.heap.size w w' ∧ ∃ S bs, ED 4 3 2 w' base S p 1048576 bs [] [] [] 296 := by
  refine (inew_yes (base := base) G 0 4 3 2 0 1048576 w (by decide) ht hb).mono ?_
  rintro e w' ⟨p, bv, sv, rfl, h1, h2⟩
  exact ⟨p, rfl, h1, _, _, freshR_ed h1 h2⟩
end Go.Proofs.YtjpfbkhjhainpaaGreat
