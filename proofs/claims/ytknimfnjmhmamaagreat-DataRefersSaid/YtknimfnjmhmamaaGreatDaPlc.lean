/-
  LAYER 15: WHAT places OF PACKAGE data TELLS: contracts.
-/
import Derived.Test.YtknimfnjmhmamaaGreatDaMath
set_option linter.unusedVariables false
set_option maxRecDepth 100000
set_option linter.unusedSimpArgs false
namespace Go.Proofs.YtknimfnjmhmamaaGreat
open Go.RowKit Go.Shelf
attribute [local go_sem] Oper.semAt_some

/-- An iterator's three boxes. -/
structure PlAt (w : World) (g p : Nat) (pl : Int) (wd : Nat) : Prop where
  lo : g + 3 ≤ w.heap.size
  cm : w.cell? ⟨g, 0, none⟩ = some (.pointer (some ⟨p, 0, none⟩))
  cp : w.cell? ⟨g + 1, 0, none⟩ = some (.int .u64 pl)
  cw : w.cell? ⟨g + 2, 0, none⟩ = some (.int .i64 wd)
abbrev plB (g : Nat) : Array Value := #[.pointer (some ⟨g + 1, 0, none⟩), .pointer (some ⟨g, 0, none⟩), .pointer (some ⟨g + 2, 0, none⟩)]
abbrev plV (g : Nat) : Value := .func (.func 91) #[] (plB g)
theorem PlAt.below {w w' : World} {g p : Nat} {pl : Int} {wd : Nat} (h : PlAt w g p pl wd) (hb : Below w.heap.size w w') : PlAt w' g p pl wd :=
  ⟨Nat.le_trans h.lo hb.size, (hb.cell (p := ⟨g, 0, none⟩) (by have := h.lo; show g < _; omega)).trans h.cm, (hb.cell (p := ⟨g + 1, 0, none⟩) (by have := h.lo; show g + 1 < _; omega)).trans h.cp,
   (hb.cell (p := ⟨g + 2, 0, none⟩) (by have := h.lo; show g + 2 < _; omega)).trans h.cw⟩

theorem places_any (p : Nat) (pl : Int) (wd : Nat) (w : World) :
    Calls Tryz.prog 54 #[.pointer (some ⟨p, 0, none⟩), .int .u64 pl, .int .i64 wd] w fun e w' => e = .returned (plV w.heap.size) ∧ Below w.heap.size w w' ∧ PlAt w' w.heap.size p pl wd := by
  go_enter Tryz.func54, Tryz.ntmps54
  go_wp2
  go_ret
  have c0 := (Blk.new w 26 #[.pointer (some ⟨p, 0, none⟩)]).cell 0
  have c1 := (Blk.new (w.alloc (.cells #[.pointer (some ⟨p, 0, none⟩)] 26)) 24 #[.int .u64 pl]).cell 0
  have c2 := (Blk.new ((w.alloc (.cells #[.pointer (some ⟨p, 0, none⟩)] 26)).alloc (.cells #[.int .u64 pl] 24)) 3 #[.int .i64 wd]).cell 0
  have b1 := boxed w (.cells #[.pointer (some ⟨p, 0, none⟩)] 26)
  have b2 := b1.alloc b1.size (.cells #[.int .u64 pl] 24)
  have b3 := b2.alloc b2.size (.cells #[.int .i64 wd] 3)
  simp only [World.size_alloc] at c1 c2
  exact ⟨rfl, b3, ⟨by simp, cell_kept1 (cell_kept1 c0), cell_kept1 c1, c2⟩⟩

/-- A place that is told. -/
def natE (x : Nat) : Array Value := #[.int .i64 x]
def TellsN (js : List Nat) (fp : Nat → Prop) (pre : List Nat) (x : Nat) (W : World) : Prop := ∃ rest, pre ++ x :: rest = js
theorem tellsN_own (js : List Nat) (B : Nat) (fp : Nat → Prop) (pre : List Nat) (x : Nat) : OwnFrom B (fun (_ : Unit) W => TellsN js fp pre x W) := fun _ W W' row hs hg hr => hs

section
variable {base p : Nat} {S : Nat → Prop} {i k d f h : Int} {m : IM} {bv sv : Value}

set_option maxHeartbeats 4000000 in
theorem places_F (n : Nat) (hn : 1 ≤ n) (fp₀ : Nat → Prop) (g wd : Nat) (pl : Int) (js : List Nat) (w : World) (H : IX w base S p i k d f h m bv sv) (hbm : AreB m.b) (hl : m.b.length ≤ 1099511627776)
    (hS : ∀ j, S j → j < w.heap.size ∧ ¬ fp₀ j) (hB : PlAt w g p pl wd) (hT : ¬ fp₀ g ∧ ¬ fp₀ (g + 1) ∧ ¬ fp₀ (g + 2)) (hwd : wd ≤ 100) (hp : IsU pl) (hch : plcs m wd 0 pl js) :
    SeqF Fence.wide n Tryz.prog 91 (plB g) natE (TellsN js) fp₀ (fun xs => xs = js) (fun pre => ∃ rest, pre ++ rest = js) js.length w := by
  intro l J Jx W f1 hb hJ hJx hf1 hfok hY h0
  have hbw : Chg (fun k => w.heap.size ≤ k ∨ fp₀ k) w W := Chg.of_below hb (Nat.le_refl _) _
  refine callsIn_of_wp Tryz.func91 rfl trivial ?_ rfl
  simp only [Tryz.ntmps91, List.size_toArray, List.length_cons, List.length_nil, Nat.reduceAdd, Nat.reduceSub, Array.replicate_succ, Array.replicate_zero, List.push_toArray, List.append_toArray, List.nil_append, List.cons_append]
  have hlo := hB.lo
  have c1 := (hB.below hb).cp
  gi_wp2
  refine wpIn_wide.2 ?_
  go_quiet (fail)
  gi_wp2
  gi_loopw [5, 6] (fun s5 s6 wr => ∃ (fp : Nat → Prop) (pre rest : List Nat) (last next : Int), s5 = .int .u64 last ∧ s6 = .int .u64 next ∧ pre ++ rest = js ∧ (0 ≤ last ∧ last ≤ m.b.length) ∧ IsU next ∧ plcs m wd last next rest ∧ J fp pre wr ∧ KeepC w.heap.size fp₀ w wr ∧ FpOk fp wr ∧ ∀ k, fp k → fp₀ k ∨ w.heap.size ≤ k)
    (fun s5 _ _ => m.b.length + 1 - (intOf s5).toNat)
  case atStart =>
    exact ⟨f1, [], js, 0, pl, rfl, rfl, rfl, ⟨by omega, by omega⟩, hp, hch, ownFrom_below' (hJ f1) h0 (below_drewn (Below.refl _ _) _), hbw.trans (keepC_below (below_drewn (Below.refl _ _) _)) (fun _ _ h => h), hfok, fun k hk => (hf1 k hk).imp id (fun e => e.1)⟩
  case round =>
    obtain ⟨fp, pre, rest, last, next, rfl, rfl, hpre, hlast, hnext, hc, hJs, hkw, hfo, hff⟩ := hrel
    have HR := H.keep hkw (fun j hj e => by have := hS j hj; exact e.elim (fun h => by omega) this.2)
    have hcell : ∀ b v, b < w.heap.size → ¬ fp₀ b → w.cell? ⟨b, 0, none⟩ = some v → wr.cell? ⟨b, 0, none⟩ = some v := fun b v h1 h2 h3 => (World.cell?_of_block (a := ⟨b, 0, none⟩) (hkw.block b (by omega) (fun e => e.elim (fun h => by omega) h2))).trans h3
    have cw := hcell (g + 2) _ (by omega) hT.2.2 hB.cw
    have cm := hcell g _ (by omega) hT.1 hB.cm
    obtain ⟨nl, hnl⟩ : ∃ nl, m.b.length = nl := ⟨_, rfl⟩
    have TL : Hid (Calls Tryz.prog 92 #[.pointer (some ⟨p, 0, none⟩)] wr fun e w' => e = .returned (.int .i64 nl) ∧ wr = w') := Lib.hid (by
      obtain ⟨A, c, rfl, -, -, -⟩ := HR.reads
      rw [← hnl]
      exact itail_any p m.b.length A c wr (nine HR.blk).1.2.2.2.2.2.2.1)
    have tw := wrap_u64_of (x := (nl : Nat)) (by omega) (by omega)
    by_cases hlt : last < next
    · cases rest with
      | nil =>
        have hno : ¬ next < (nl : Int) := fun e => hc ⟨hlt, by omega⟩
        gi_wp2_with (refine ⟨trivial, ?_⟩; gi_at_call 92; refine (callsIn_wide.2 TL.out).mono ?_; rintro e w2 ⟨rfl, rfl⟩)
        go_end0
        have he : pre = js := by rw [← hpre, List.append_nil]
        first | exact ⟨⟨_, rfl⟩, .inl ⟨pre, fp, he, hJs⟩⟩ | (subst he; exact ⟨⟨_, rfl⟩, .inl ⟨fp, hJs⟩⟩)
      | cons j rest =>
        obtain ⟨-, rfl, hj, hUu, hc2⟩ := hc
        have hj2 : (j : Int) < (nl : Int) := by omega
        have t2 := wrap_i64_of (x := (j : Nat)) (by omega) (by omega)
        have OA := Lib.hid (fun wx => oat_any wd wx (by omega) (by omega))
        have t3 : IntKind.i64.wrap ((j : Int) + (16 + 8 * (wd : Int))) = ((j + (16 + 8 * wd) : Nat) : Int) := by rw [IntKind.wrap_i64]; omega
        have WW : Hid (∀ nq, Calls Tryz.prog 28 #[.pointer (some ⟨p, 0, none⟩), .int .i64 ((j + (16 + 8 * wd) : Nat) : Int)] (wr.drewN nq) fun e w' => e = .returned (.int .u64 (m.word ((j + (16 + 8 * wd) : Nat) : Int))) ∧ wr.drewN nq = w') := Lib.hid (fun nq => iword_any _ _ (HR.drewN nq) hbm (by omega) (by omega))
        obtain ⟨u, hu⟩ : ∃ u, m.word ((j + (16 + 8 * wd) : Nat) : Int) = u := ⟨_, rfl⟩
        rw [hu] at WW hUu hc2
        gi_wp2_with (refine ⟨trivial, ?_⟩; gi_at_call 92; refine (callsIn_wide.2 TL.out).mono ?_; rintro e w2 ⟨rfl, rfl⟩)
        refine wpIn_wide.2 ?_
        go_quiet ((first
          | (refine (OA.out _).mono ?_; rintro e w1 ⟨rfl, rfl⟩; exact ⟨rfl, _, rfl⟩)
          | (refine (WW.out _).mono ?_; rintro e w1 ⟨rfl, rfl⟩; exact ⟨rfl, _, rfl⟩)))
        have hB4 : Below wr.heap.size wr (wr.drewN nq) := below_drewn (Below.refl _ _) nq
        have hJ4 := ownFrom_below' (hJ fp) hJs hB4
        have hkw4 := keepC_t hkw (keepC_below (n₀ := w.heap.size) (T := fp₀) hB4)
        have hfo4 : FpOk fp (wr.drewN nq) := hfo
        obtain ⟨fn, tmps, assign, body, hy, hR⟩ := hY fp pre j _ hJ4 (by rw [← hpre]; simp) hfo4 ⟨rest, hpre⟩
        dsimp only [natE] at hy
        gi_wp2
        refine hR.mono ?_
        rintro e W3 (⟨rfl, fp', hJ3, hg3⟩ | ⟨rfl, hJx3, -⟩)
        · gi_wp2
          go_roundw
          case rel => exact ⟨fp', pre ++ [j], rest, j, u, rfl, rfl, by rw [← hpre]; simp, ⟨by omega, by omega⟩, hUu, hc2, hJ3, keepC_t hkw4 (hg3.1.mono (fun k _ e => (hff k e).symm)), hg3.ok, fun k hk => (hg3.2 k hk).1.elim (hff k) (fun e => .inr (by have := hkw4.size; omega))⟩
          case measure => simp [intOf]; omega
        · gi_wp2
          refine bodyPost_ret (results_none rfl _ _ _) rfl ?_
          have hsp : ∃ r, pre ++ [j] ++ r = js := ⟨rest, by rw [← hpre]; simp⟩
          exact ⟨⟨_, rfl⟩, .inr ⟨_, hsp, hJx3⟩⟩
    · have hnil : rest = [] := by
        cases rest with
        | nil => rfl
        | cons t rest => exact absurd hc.1 hlt
      subst hnil
      gi_wp2_with (refine ⟨trivial, ?_⟩)
      go_end0
      have he : pre = js := by rw [← hpre, List.append_nil]
      first | exact ⟨⟨_, rfl⟩, .inl ⟨pre, fp, he, hJs⟩⟩ | (subst he; exact ⟨⟨_, rfl⟩, .inl ⟨fp, hJs⟩⟩)
end

end Go.Proofs.YtknimfnjmhmamaaGreat
