/-
  PLAIN ARITHMETIC FOR SlotTurns: a file of noughts with one slot, or with two, and which of them counts. And the state that its walk holds.
-/
import Derived.Test.YtdajjkjpjhpnjaaSlotLaw
import Derived.Test.YtdajjkjpjhpnjaaCopyBlk
set_option linter.unusedVariables false
set_option linter.unusedSimpArgs false
set_option maxRecDepth 100000
namespace Go.Proofs.Ytdajjkjpjhpnjaa
open Go.RowKit

abbrev z64 : List Int := List.replicate 64 0
theorem z64_len : z64.length = 64 := List.length_replicate ..
theorem z256 : List.replicate 256 (0 : Int) = z64 ++ (z64 ++ (z64 ++ z64)) := by
  unfold z64
  rw [List.replicate_append_replicate, List.replicate_append_replicate, List.replicate_append_replicate]

theorem splice_mid {A B C ys : List Int} {k : Nat} (hA : A.length = k) (hB : B.length = ys.length) : splice (A ++ (B ++ C)) k ys = A ++ (ys ++ C) := by
  unfold splice
  rw [List.take_left' hA, ← List.drop_drop, List.drop_left' hA, List.drop_left' hB]
theorem splice_at64 {p q r ys : List Int} (hp : p.length = 64) (hy : ys.length = 64) : splice (z64 ++ (p ++ (q ++ r))) 64 ys = z64 ++ (ys ++ (q ++ r)) :=
  splice_mid z64_len (hp.trans hy.symm)
theorem splice_at128 {p q r ys : List Int} (hp : p.length = 64) (hq : q.length = 64) (hy : ys.length = 64) : splice (z64 ++ (p ++ (q ++ r))) 128 ys = z64 ++ (p ++ (ys ++ r)) := by
  have h := splice_mid (A := z64 ++ p) (B := q) (C := r) (ys := ys) (k := 128) (by rw [List.length_append, hp, z64_len]) (hq.trans hy.symm)
  rwa [List.append_assoc, List.append_assoc] at h

theorem ch_first {p q r : List Int} (h : pickS (z64 ++ (p ++ (q ++ r))) = 1) : chV (z64 ++ (p ++ (q ++ r))) = decS (p ++ (q ++ r)) ∧ chB (z64 ++ (p ++ (q ++ r))) = true := by
  unfold chV chB
  rw [h, if_neg (by decide), List.drop_left' z64_len]
  exact ⟨rfl, rfl⟩
theorem ch_second {p q r : List Int} (hp : p.length = 64) (h : pickS (z64 ++ (p ++ (q ++ r))) = 2) : chV (z64 ++ (p ++ (q ++ r))) = decS (q ++ r) ∧ chB (z64 ++ (p ++ (q ++ r))) = true := by
  unfold chV chB
  rw [h, if_pos rfl, show 128 = 64 + 64 from rfl, ← List.drop_drop, List.drop_left' z64_len, List.drop_left' hp]
  exact ⟨rfl, rfl⟩

/-- The two places. -/
abbrev Places (po qo : Nat) : Prop := (po = 64 ∧ qo = 128) ∨ (po = 128 ∧ qo = 64)

theorem turns_one {a b c d e f : Int} {po qo : Nat} (hl : ∀ z ∈ [a, b, c, d, e, f], 0 ≤ z ∧ z < 18446744073709551616) (hr : rightS a b f = true) (hp : Places po qo) :
    chV (splice (List.replicate 256 0) po (encW [a, b, c, d, e, f])) = sV a b c d e f ∧ chB (splice (List.replicate 256 0) po (encW [a, b, c, d, e, f])) = true := by
  have hx : (encW [a, b, c, d, e, f]).length = 64 := encW_length rfl
  have E := fun r => dec_enc hl hr r
  generalize encW [a, b, c, d, e, f] = x at *
  rw [z256]
  rcases hp with ⟨rfl, rfl⟩ | ⟨rfl, rfl⟩
  · rw [splice_at64 z64_len hx]
    obtain ⟨h1, h2⟩ := ch_first (pick_first hx z64_len (E _).2.1 (isS_zeros z64))
    exact ⟨h1.trans (E _).1, h2⟩
  · rw [splice_at128 z64_len z64_len hx]
    obtain ⟨h1, h2⟩ := ch_second z64_len (pick_second (x := z64) (y := x) z64_len (E _).2.1 (.inl (isS_zeros _)))
    exact ⟨h1.trans (E _).1, h2⟩

theorem turns_two {a b c d e f a2 b2 c2 d2 e2 f2 : Int} {po qo : Nat} (hl : ∀ z ∈ [a, b, c, d, e, f], 0 ≤ z ∧ z < 18446744073709551616) (hr : rightS a b f = true) (hl2 : ∀ z ∈ [a2, b2, c2, d2, e2, f2], 0 ≤ z ∧ z < 18446744073709551616) (hr2 : rightS a2 b2 f2 = true) (hlt : a < a2) (hp : Places po qo) :
    chV (splice (splice (List.replicate 256 0) po (encW [a, b, c, d, e, f])) qo (encW [a2, b2, c2, d2, e2, f2])) = sV a2 b2 c2 d2 e2 f2 ∧ chB (splice (splice (List.replicate 256 0) po (encW [a, b, c, d, e, f])) qo (encW [a2, b2, c2, d2, e2, f2])) = true := by
  have hx : (encW [a, b, c, d, e, f]).length = 64 := encW_length rfl
  have hy : (encW [a2, b2, c2, d2, e2, f2]).length = 64 := encW_length rfl
  have E := fun r => dec_enc hl hr r
  have F := fun r => dec_enc hl2 hr2 r
  generalize encW [a, b, c, d, e, f] = x at *
  generalize encW [a2, b2, c2, d2, e2, f2] = y at *
  rw [z256]
  rcases hp with ⟨rfl, rfl⟩ | ⟨rfl, rfl⟩
  · rw [splice_at64 z64_len hx, splice_at128 hx z64_len hy]
    obtain ⟨h1, h2⟩ := ch_second hx (pick_second hx (F z64).2.1 (.inr (by rw [(E (y ++ z64)).2.2, (F z64).2.2]; exact hlt)))
    exact ⟨h1.trans (F _).1, h2⟩
  · rw [splice_at128 z64_len z64_len hx, splice_at64 z64_len hy]
    obtain ⟨h1, h2⟩ := ch_first (pick_elder (x := y) (y := x) (r := z64) hy (F (x ++ z64)).2.1 (by rw [(E z64).2.2, (F (x ++ z64)).2.2]; omega))
    exact ⟨h1.trans (F _).1, h2⟩

theorem cellsOf_spl (xs ys : List Int) (off : Nat) : splice (cellsOf .u8 xs) off (cellsOf .u8 ys) = cellsOf .u8 (splice xs off ys) := by
  simp [splice, cellsOf, List.map_take, List.map_drop]

theorem splice_B {l cs : List Int} (hl : AreB l) (hc : AreB cs) (off : Nat) : AreB (splice l off cs) := (hl.take off).append (hc.append (hl.drop _))

/-- What the walk holds: the two slots, the table, the file. -/
structure TurnsAt (w0 : World) (G gB : Nat) (a b c d e f a2 b2 c2 d2 e2 f2 : Int) (zs : List Int) (wx : World) : Prop where
  bs : Blk wx w0.heap.size 24 (sC a b c d e f)
  br : Blk wx (w0.heap.size + 1) 24 (sC a2 b2 c2 d2 e2 f2)
  tb : IsTable wx G
  fb : Blk wx gB 5 (cellsOf .u8 zs).toArray
  bel : Below w0.heap.size w0 wx
  n1 : w0.heap.size + 1 < gB
  n2 : G < gB
  len : zs.length = 256

theorem TurnsAt.below {w0 wx wy : World} {G gB : Nat} {a b c d e f a2 b2 c2 d2 e2 f2 : Int} {zs : List Int} (h : TurnsAt w0 G gB a b c d e f a2 b2 c2 d2 e2 f2 zs wx) (hb : Below wx.heap.size wx wy) : TurnsAt w0 G gB a b c d e f a2 b2 c2 d2 e2 f2 zs wy :=
  ⟨h.bs.below hb h.bs.lt, h.br.below hb h.br.lt, IsTable.below h.tb hb h.tb.lt, h.fb.below hb h.fb.lt, h.bel.trans (hb.mono h.bel.size), h.n1, h.n2, h.len⟩
theorem TurnsAt.copy {w0 wx wy : World} {G gB po : Nat} {a b c d e f a2 b2 c2 d2 e2 f2 : Int} {zs xs : List Int} (h : TurnsAt w0 G gB a b c d e f a2 b2 c2 d2 e2 f2 zs wx) (hg : Hid (Blk wy gB 5 (splice (cellsOf .u8 zs) po (cellsOf .u8 xs)).toArray)) (hc : Chg (fun k => k = gB) wx wy) (hl : po + xs.length ≤ 256) : TurnsAt w0 G gB a b c d e f a2 b2 c2 d2 e2 f2 (splice zs po xs) wy :=
  ⟨h.bs.chg hc (by have := h.n1; omega), h.br.chg hc (by have := h.n1; omega), Blk.chg h.tb hc (by have := h.n2; omega), by rw [← cellsOf_spl]; exact hg.out, h.bel.trans (hc.below h.bel.size (fun k _ e => by have := h.n1; omega)), h.n1, h.n2, by rw [length_splice _ _ _ (by rw [h.len]; exact hl), h.len]⟩
theorem TurnsAt.store {w0 wx : World} {G gB g : Nat} {a b c d e f a2 b2 c2 d2 e2 f2 : Int} {zs : List Int} {a' b' c' d' e' f' : Value} (h : TurnsAt w0 G gB a b c d e f a2 b2 c2 d2 e2 f2 zs wx) (hg : gB < g) :
    TurnsAt w0 G gB a b c d e f a2 b2 c2 d2 e2 f2 zs ((((((wx.setCell ⟨g, 0, none⟩ a').setCell ⟨g, 1, none⟩ b').setCell ⟨g, 2, none⟩ c').setCell ⟨g, 3, none⟩ d').setCell ⟨g, 4, none⟩ e').setCell ⟨g, 5, none⟩ f') :=
  have h1 := h.n1
  have h2 := h.n2
  ⟨sl_far h.bs (by omega), sl_far h.br (by omega), sl_far h.tb (by omega), sl_far h.fb (by omega), sl_below h.bel (by omega), h.n1, h.n2, h.len⟩
theorem byteOne : (Try.prog.info? 5).map (·.size) = some 1 := by kernel_rfl

theorem TurnsAt.reads {w0 wx : World} {G gB : Nat} {a b c d e f a2 b2 c2 d2 e2 f2 : Int} {zs : List Int} (h : TurnsAt w0 G gB a b c d e f a2 b2 c2 d2 e2 f2 zs wx) : Reads wx wx.heap.size 1 (some ⟨gB, 0, none⟩) 256 (cellsOf .u8 zs) :=
  Blk.bytes h.fb (by simp) (by simp [cellsOf, h.len])

end Go.Proofs.Ytdajjkjpjhpnjaa
