/-
  LAYER 6: WHAT Crash DOES: its contract.
-/
import Derived.Test.YtdpoffedmafmhaaFileFn9
import Derived.Test.YtdpoffedmafmhaaActs4
set_option linter.unusedVariables false
set_option linter.unusedSimpArgs false
namespace Go.Proofs.Ytdpoffedmafmhaa
open Go.RowKit

theorem fcrash_nil (v : Value) (w : World) : Calls Try.prog 13 #[.pointer none, v] w fun e w' => e = .returned (.pointer none) ∧ w = w' := by
  go_enter Try.func13, Try.ntmps13
  go_wp2
  go_ret
  exact ⟨rfl, rfl⟩

/-- At the head of each round: what the first k have left. -/
structure CrAt (w wr : World) (s : FS) (ks : List Bool) (k : Nat) (A : Option Addr) (n c : Nat) (L : List Int) : Prop where
  is_ : L = crashL s.safe (s.ops.take k) ks
  len : L.length = n
  own : wr.ownsRow w.heap.size 5 1 (.slice A n c) n (cellsOf .u8 L)
  below : Below w.heap.size w wr

theorem CrAt.stay {w wr : World} {s : FS} {ks : List Bool} {k n c : Nat} {A : Option Addr} {L : List Int} (h : CrAt w wr s ks k A n c L) (hk : k < s.ops.length) (hb : keepAt ks k = false) : CrAt w wr s ks (k + 1) A n c L :=
  ⟨by rw [crashL_next hk, hb, h.is_]; rfl, h.len, h.own, h.below⟩
theorem CrAt.step {w wr w' : World} {s : FS} {ks : List Bool} {k n c : Nat} {A : Option Addr} {L : List Int} {o : OpV} {e : Ending} (h : CrAt w wr s ks k A n c L) (ho : s.ops[k]? = some o) (hb : keepAt ks k = true) (hr : Reown w.heap.size (.slice A n c) (opDo L o) wr e w') :
    ∃ A' n' c', e = .returned (.slice A' n' c') ∧ CrAt w w' s ks (k + 1) A' n' c' (opDo L o) := by
  obtain ⟨A', c', rfl, hown, hch, hm⟩ := hr
  obtain ⟨hlt, he⟩ := List.getElem?_eq_some_iff.1 ho
  refine ⟨A', _, c', rfl, by rw [crashL_next hlt, hb, if_pos rfl, ← h.is_, he], rfl, hown, h.below.trans (hch.below h.below.size (fun j _ hj => (h.own.lt j hj).1))⟩

theorem CrAt.size {w wr : World} {s : FS} {ks : List Bool} {k n c N : Nat} {A : Option Addr} {L : List Int} (h : CrAt w wr s ks k A n c L) (hs : s.Good N) : n ≤ 1048576 := by
  have := (crashL_ok (s.ops.take k) s.safe ks hs.ok.safe hs.ok.sizeS (fun o ho => hs.ok.data o (List.mem_of_mem_take ho)) (fun o ho => hs.ok.n o (List.mem_of_mem_take ho))).2
  rw [← h.is_, h.len] at this
  exact this

theorem CrAt.made {w wr : World} {base : Nat} {s : FS} {ks : List Bool} {k n c : Nat} {A : Option Addr} {L : List Int} (h : CrAt w wr s ks k A n c L) (hb : base ≤ w.heap.size) :
    CF (wr.alloc (.cells #[.slice A n c, .slice none 0 0, .slice none 0 0] 50)) base (fun k => w.heap.size ≤ k ∧ k < (wr.alloc (.cells #[.slice A n c, .slice none 0 0, .slice none 0 0] 50)).heap.size) wr.heap.size ⟨L, [], []⟩ (.slice A n c) (.slice none 0 0) (.slice none 0 0) :=
  CF.boxed (s := ⟨L, [], []⟩) h.below.size hb (by rw [h.len]; exact h.own) (World.ownsRow_nil _ _ _ _) (World.ownsRow_nil _ _ _ _) (fun g _ hg => by simp [Value.ownBlock] at hg)

theorem CrAt.out {w wr w2 : World} {base : Nat} {s : FS} {ks : List Bool} {k n c : Nat} {A : Option Addr} {L : List Int} (h : CrAt w wr s ks k A n c L) (hk : ks.length ≤ k ∨ s.ops.length ≤ k) (hb : base ≤ w.heap.size)
    (hf : CFT base (fun k => w.heap.size ≤ k ∧ k < (wr.alloc (.cells #[.slice A n c, .slice none 0 0, .slice none 0 0] 50)).heap.size) wr.heap.size (FS.sync ⟨L, [], []⟩) (wr.alloc (.cells #[.slice A n c, .slice none 0 0, .slice none 0 0] 50)) w2) :
    CFnew base (s.crash ks) w (.returned (.pointer (some ⟨wr.heap.size, 0, none⟩))) w2 := by
  obtain ⟨hch, nv, sv, pv, hcf⟩ := hf
  have hL : L = crashL s.safe s.ops ks := by rw [h.is_, crashL_take _ _ _ _ hk]
  have hs : FS.sync ⟨L, [], []⟩ = s.crash ks := by rw [hL]; rfl
  have h1 := h.below.size
  rw [hs] at hcf
  have hsz := hch.size
  refine ⟨_, nv, sv, pv, rfl, (h.below.alloc h1 _).trans (hch.below (by simp; omega) (fun k _ hk => hk.1)), hcf.mono (fun j hj => ⟨?_, (hcf.foot j hj).2⟩) (fun j hj => ⟨by omega, hj.2⟩)⟩
  rcases hj with hj | hj
  · exact hj.1
  · have := hj.1; simp at this; omega

set_option maxHeartbeats 1000000 in
theorem fcrash_any (p : Nat) (K : Option Addr) (m d : Nat) (ks : List Bool) (Bk base N : Nat) (S : Nat → Prop) (s : FS) (nv sv pv : Value) (w : World) (h : CF w base S p s nv sv pv) (hr : Reads w Bk 1 K m (cellsB ks)) (hB : Bk ≤ w.heap.size) (hmd : m ≤ d) (hdc : d ≤ 9223372036854775807) (hgd : s.Good N) (hN : N ≤ 1000000) :
    Calls Try.prog 13 #[.pointer (some ⟨p, 0, none⟩), .slice K m d] w (CFnew base (s.crash ks) w) := by
  obtain ⟨As, cs, rfl, hs1, hs2⟩ := own_form h.safe
  obtain ⟨Ap, cp, rfl, hp1, hp2⟩ := own_form h.pend
  have hlk : ks.length = m := by have := hr.1; rw [cellsB_length] at this; omega
  obtain ⟨m2, hm2⟩ : ∃ m2, m2 = s.safe.length := ⟨_, rfl⟩
  obtain ⟨q, hq⟩ : ∃ q, q = s.ops.length := ⟨_, rfl⟩
  have hq1 : q ≤ 1000000 := by have := hgd.few; omega
  have hqc : q ≤ cp := by omega
  rw [← hm2, ← hq] at h
  have hl2 : m2 ≤ 1048576 := by rw [hm2]; exact hgd.ok.sizeS
  have C2 := Lib.hid (clone_any As m2 cs s.safe w.heap.size w (h.safeR hm2).1 (Nat.le_refl _) (by omega))
  have H := Lib.hid h
  obtain ⟨d0, d1, d2, -⟩ := h.blkB (Below.refl _ _)
  obtain ⟨M, hM⟩ : ∃ M, M = min m q := ⟨_, rfl⟩
  have n7 : (if q < m then (q : Int) else (m : Int)) = (M : Int) := by split <;> omega
  have hMm : M ≤ m := by omega
  have hMq : M ≤ q := by omega
  have HMM := Lib.hid hM
  clear hM
  have HM2 := Lib.hid hm2
  have HQ := Lib.hid hq
  have HLK := Lib.hid hlk
  have HR := Lib.hid hr
  have HG := Lib.hid hgd
  clear h hm2 hq hlk hs1 hp1 hr hgd
  go_enter Try.func13, Try.ntmps13
  go_wp2_with (go_at_call 25; refine (C2.out).mono ?_; rintro e w1 ⟨A1, c1, rfl, hown1, hb1⟩; rw [← HM2.out] at hown1 ⊢; have e2 := (H.out.blkB hb1).2.2.1; have HO := Lib.hid hown1; clear hown1)
  have HC0 := Lib.hid (show CrAt w w1 s ks 0 A1 m2 c1 s.safe from ⟨by rw [List.take_zero]; rfl, HM2.out.symm, HO.out, hb1⟩)
  clear HO e2 hb1 n7
  go_loopw [5, 23] (fun l i wr => ∃ (k : Nat) (A : Option Addr) (n c : Nat) (L : List Int), k ≤ M ∧ i = .int .i64 k ∧ l = .slice A n c ∧ Hid (CrAt w wr s ks k A n c L)) (fun _ i _ => M - (intOf i).toNat)
  case atStart => exact ⟨0, _, _, _, _, Nat.zero_le _, rfl, rfl, HC0⟩
  case round =>
    clear HC0
    obtain ⟨k, A, n, c, L, hk, rfl, rfl, C⟩ := hrel
    have hn6 := C.out.size HG.out
    by_cases hlt : k < M
    · obtain ⟨o, ho⟩ : ∃ o, s.ops[k]? = some o := ⟨_, List.getElem?_eq_getElem (by rw [← HQ.out]; omega)⟩
      obtain ⟨b, off, rfl, hbB, hc⟩ := HR.out.bools (by omega)
      obtain ⟨bt, hbt⟩ : ∃ bt, bt = keepAt ks k := ⟨_, rfl⟩
      have ck : wr.cell? ⟨b, off + k, none⟩ = some (.bool bt) := by rw [hbt]; exact (C.out.below.cell (p := ⟨b, off + k, none⟩) (by show b < _; omega)).trans (hc k (by omega))
      obtain ⟨e0, e1, e2, -⟩ := H.out.blkB C.out.below
      have HO := Lib.hid ho
      have kmi : (k : Int) < (m : Int) := by omega
      have kmq : (k : Int) < (q : Int) := by omega
      have kM : (k : Int) < (M : Int) := by omega
      have kq : k < q := by omega
      cases bt with
      | false =>
        have HN := Lib.hid (C.out.stay (by rw [← HQ.out]; omega) hbt.symm)
        clear hbt ho hc
        go_wp2
        go_roundw
        case rel => exact ⟨k + 1, A, n, c, L, by omega, by go_num, rfl, HN⟩
        case measure => simp [intOf]; omega
      | true =>
        have hpe := H.out.below C.out.below
        obtain ⟨gp, cur, rfl, hpb, hpk, -⟩ := own_open (H.out.pend_ HQ.out) (by omega)
        have hpw := hpe.pend_ HQ.out
        have hgw : gp < w.heap.size := (H.out.pend.lt gp rfl).2
        have DN := Lib.hid (done_any gp (k * 66) o A n c L w.heap.size wr (fun j u hj => by
            have hj6 : j < 66 := by
              have := (List.getElem?_eq_some_iff.1 hj).1
              rw [stepC_length] at this; exact this
            have e1 := stepsC_get s.ops k o j ho hj6
            have := hpw.cells (g := gp) rfl (k * 66 + j) u (e1.trans hj)
            rw [row_addC, Nat.zero_add] at this
            exact this) C.out.own C.out.below.size hgw hn6 (HG.out.ok.n o (List.mem_of_getElem? ho)) (HG.out.whole o (List.mem_of_getElem? ho)))
        have HBT := Lib.hid hbt.symm
        clear hbt ho hc hpe hpw hpk
        go_wp2_with (go_at_call 26; go_loud (refine DN.out.mono ?_; rintro e w3 hg; obtain ⟨A3, n3, c3, rfl, hC3⟩ := C.out.step HO.out HBT.out hg; have HC3 := Lib.hid hC3; clear hg hC3))
        go_roundw
        case rel => exact ⟨k + 1, A3, n3, c3, _, by omega, by go_num, rfl, HC3⟩
        case measure => simp [intOf]; omega
    · obtain rfl : k = M := by omega
      have HKK := Lib.hid (show ks.length ≤ k ∨ s.ops.length ≤ k by have := HMM.out; have := HLK.out; have := HQ.out; omega)
      have SY := Lib.hid (fsync_any wr.heap.size base _ _ _ _ _ _ (C.out.made H.out.bas) (by rw [C.out.len]; exact hn6))
      go_wp2_with (go_at_call 15; go_loud (refine SY.out.mono ?_; rintro e w3 ⟨rfl, hg⟩; have HX := Lib.hid (C.out.out HKK.out H.out.bas hg); clear hg))
      go_ret
      exact HX.out

end Go.Proofs.Ytdpoffedmafmhaa
