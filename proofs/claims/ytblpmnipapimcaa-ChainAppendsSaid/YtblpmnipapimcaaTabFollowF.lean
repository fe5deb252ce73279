/-
  LAYER 13 (for those above): WHAT Follow's ITERATOR TELLS, to rounds that say which blocks they turn.
-/
import Derived.Test.YtblpmnipapimcaaTabRange
import Derived.Test.YtblpmnipapimcaaRangeF
set_option linter.unusedVariables false
set_option maxRecDepth 100000
set_option linter.unusedSimpArgs false
namespace Go.Proofs.Ytblpmnipapimcaa
open Go.RowKit Go.Shelf
attribute [local go_sem] Oper.semAt_some

/-- None of what it is handed lies in a footprint. -/
def Ob.free (x : Ob) (fp : Nat → Prop) : Prop := (∀ ad, x.A = some ad → ¬ fp ad.block) ∧ (∀ ad, x.B = some ad → ¬ fp ad.block) ∧ (∀ ad, x.C = some ad → ¬ fp ad.block)
def TellsF (its : List It) (fp : Nat → Prop) (pre : List Ob) (x : Ob) (W : World) : Prop := TellsOb its pre x W ∧ x.free fp

theorem Reads.grownF {W W' : World} {B size n : Nat} {A : Option Addr} {xs : List Value} {row : Option Nat} (h : Reads W B size A n xs) (hg : W.grownBy W' row) (hr : ∀ r, row = some r → ∃ o : Obj, W.heap[r]? = some o ∧ o.isCells = false) : Reads W' B size A n xs := by
  refine ⟨h.1, fun hn => ?_⟩
  obtain ⟨ad, e, hb, hc⟩ := h.2 hn
  exact ⟨ad, e, hb, fun j u hu => cell_kept (hc j u hu) hg hr⟩
theorem ObR.grown {W W' : World} {L : Nat} {A : Option Addr} {n c : Nat} {ws : List Int} {B : Option Addr} {m d : Nat} {rs : List Int} {C : Option Addr} {p q : Nat} {is : List Int} {row : Option Nat} (h : ObR W L A n c ws B m d rs C p q is) (hg : W.grownBy W' row) (hr : ∀ r, row = some r → ∃ o : Obj, W.heap[r]? = some o ∧ o.isCells = false) : ObR W' L A n c ws B m d rs C p q is :=
  ⟨h.wr.grownF hg hr, h.rr.grownF hg hr, h.ir.grownF hg hr, h.wc, h.rc, h.ic⟩
theorem tellsF_own (its : List It) (B : Nat) (fp : Nat → Prop) (pre : List Ob) (x : Ob) : OwnFrom B (fun (_ : Unit) W => TellsF its fp pre x W) :=
  fun _ W W' row hs hg hr => ⟨⟨hs.1.1, (ObR.grown hs.1.2 hg (fun r e => (hr r e).2)).upto hg.size⟩, hs.2⟩
theorem ob_free {w2 : World} {base : Nat} {t : It} {A : Option Addr} {n c : Nat} {ws : List Int} {B : Option Addr} {m d : Nat} {rs : List Int} {C : Option Addr} {p q : Nat} {is : List Int} (h : ObOwn w2 base A n c ws B m d rs C p q is) {fp : Nat → Prop} (hf : ∀ k, fp k → k < base) : (⟨t, A, n, c, B, m, d, C, p, q⟩ : Ob).free fp := by
  refine ⟨fun ad e hk => ?_, fun ad e hk => ?_, fun ad e hk => ?_⟩
  · have e' : A = some ad := e
    subst e'
    have := (h.wo.lt ad.block rfl).1
    have := hf _ hk
    omega
  · have e' : B = some ad := e
    subst e'
    have := (h.ro.lt ad.block rfl).1
    have := hf _ hk
    omega
  · have e' : C = some ad := e
    subst e'
    have := (h.io.lt ad.block rfl).1
    have := hf _ hk
    omega

section
variable {base p : Nat} {S : Nat → Prop} {i k d f h : Int} {m : IM} {bv sv : Value}

set_option maxHeartbeats 4000000 in
theorem follow_F (n : Nat) (hn : 1 ≤ n) (fp₀ : Nat → Prop) (bw bk bp bm : Nat) (kd wd : Nat) (pl : Int) (its : List It) (w : World) (H : IX w base S p i k d f h m bv sv) (hbm : AreB m.b) (hl : m.b.length ≤ 1099511627776)
    (hd : 1 ≤ d ∧ d ≤ 256) (hf : 1 ≤ f ∧ f ≤ 256) (hS : ∀ j, S j → j < w.heap.size ∧ ¬ fp₀ j) (hbs : bw < w.heap.size ∧ bk < w.heap.size ∧ bp < w.heap.size ∧ bm < w.heap.size) (hT : ¬ fp₀ bw ∧ ¬ fp₀ bk ∧ ¬ fp₀ bp ∧ ¬ fp₀ bm)
    (hcw : w.cell? ⟨bw, 0, none⟩ = some (.int .i64 wd)) (hck : w.cell? ⟨bk, 0, none⟩ = some (.int .i64 kd)) (hcp : w.cell? ⟨bp, 0, none⟩ = some (.int .u64 pl)) (hcm : w.cell? ⟨bm, 0, none⟩ = some (.pointer (some ⟨p, 0, none⟩)))
    (hwd : wd < kwN kd) (hp : IsU pl) (hch : chainAt m d f kd wd 0 pl its) :
    SeqF Fence.wide n Try.prog 71 #[.pointer (some ⟨bw, 0, none⟩), .pointer (some ⟨bk, 0, none⟩), .pointer (some ⟨bp, 0, none⟩), .pointer (some ⟨bm, 0, none⟩)] (Ob.encs kd) (TellsF its) fp₀
      (fun xs => xs.map (·.t) = its) (fun pre => ∃ rest, pre.map (·.t) ++ rest = its) its.length w := by
  intro l J Jx W f1 hb hJ hJx hf1 hfok hY h0
  have hbw : Chg (fun k => w.heap.size ≤ k ∨ fp₀ k) w W := Chg.of_below hb (Nat.le_refl _) _
  have HW := H.keep hbw (fun j hj e => by have := hS j hj; exact e.elim (fun h => by omega) this.2)
  refine callsIn_of_wp Try.func71 rfl trivial ?_ rfl
  simp only [Try.ntmps71, List.size_toArray, List.length_cons, List.length_nil, Nat.reduceAdd, Nat.reduceSub, Array.replicate_succ, Array.replicate_zero, List.push_toArray, List.append_toArray, List.nil_append, List.cons_append]
  have c1 := (hb.cell (p := ⟨bw, 0, none⟩) (by simp; omega)).trans hcw
  have c2 := (hb.cell (p := ⟨bk, 0, none⟩) (by simp; omega)).trans hck
  have c3 := (hb.cell (p := ⟨bp, 0, none⟩) (by simp; omega)).trans hcp
  have hw0 : ¬ (wd : Int) < 0 := by omega
  have hw1 : ¬ (kwN kd : Int) ≤ (wd : Int) := by omega
  gi_wp2
  refine wpIn_wide.2 ?_
  have hw3 : decide ((wd : Int) < 0) = false := decide_eq_false (by omega)
  go_quiet ((refine (owords_any kd _).mono ?_; rintro e w1 ⟨rfl, rfl⟩; exact ⟨rfl, _, rfl⟩))
  gi_wp2
  refine wpIn_wide.2 ?_
  go_quiet (fail)
  gi_wp2
  have hw4 : decide (kwN (kd : Int) ≤ wd) = false := decide_eq_false (by omega)
  try simp only [hw4]
  gi_loopw [6, 7] (fun s6 s7 wr => ∃ (fp : Nat → Prop) (pre : List Ob) (rest : List It) (last next : Int), s6 = .int .u64 last ∧ s7 = .int .u64 next ∧ pre.map (·.t) ++ rest = its ∧ (0 ≤ last ∧ last ≤ m.b.length) ∧ IsU next ∧ chainAt m d f kd wd last next rest ∧ J fp pre wr ∧ KeepC w.heap.size fp₀ w wr ∧ FpOk fp wr ∧ ∀ k, fp k → fp₀ k ∨ w.heap.size ≤ k)
    (fun s6 _ _ => m.b.length + 1 - (intOf s6).toNat)
  case atStart =>
    exact ⟨f1, [], its, 0, pl, rfl, rfl, rfl, ⟨by omega, by omega⟩, hp, hch, ownFrom_below' (hJ f1) h0 (below_drewn (below_drewn (Below.refl _ _) _) _), hbw.trans (keepC_below (below_drewn (below_drewn (Below.refl _ _) _) _)) (fun _ _ h => h), hfok, fun k hk => (hf1 k hk).imp id (fun e => e.1)⟩
  case round =>
    obtain ⟨fp, pre, rest, last, next, rfl, rfl, hpre, hlast, hnext, hc, hJs, hkw, hfo, hff⟩ := hrel
    have HR := H.keep hkw (fun j hj e => by have := hS j hj; exact e.elim (fun h => by omega) this.2)
    have hcell : ∀ b v, b < w.heap.size → ¬ fp₀ b → w.cell? ⟨b, 0, none⟩ = some v → wr.cell? ⟨b, 0, none⟩ = some v := fun b v h1 h2 h3 => (World.cell?_of_block (a := ⟨b, 0, none⟩) (hkw.block b (by omega) (fun e => e.elim (fun h => by omega) h2))).trans h3
    have cw := hcell bw _ hbs.1 hT.1 hcw
    have ck := hcell bk _ hbs.2.1 hT.2.1 hck
    have cm := hcell bm _ hbs.2.2.2 hT.2.2.2 hcm
    by_cases hlt : last < next
    · cases rest with
      | nil =>
        have hno : m.noAt d f kd next := hc.resolve_left (fun h => h hlt)
        have AT : Hid (Calls Try.prog 72 #[.pointer (some ⟨p, 0, none⟩), .int .u64 next, .int .i64 kd] wr fun e w' => e = .returned (.tuple #[obZ, .bool false]) ∧ Below wr.heap.size wr w') := by
          rcases hno with hno | ⟨j, kk, s, rfl, hth, hne⟩
          · exact Lib.hid (iat_bare next kd wr HR hbm hl hd hf hnext.1 hno)
          · exact Lib.hid (iat_other j kk s kd wr HR hbm hl hd hf hth hne)
        gi_wp2_with (refine ⟨trivial, ?_⟩; gi_at_call 72; refine (callsIn_wide.2 AT.out).mono ?_; rintro e w2 ⟨rfl, hb2⟩)
        refine bodyPost_ret (results_none rfl _ _ _) rfl ?_
        exact ⟨⟨_, rfl⟩, .inl ⟨pre, fp, by rw [← hpre]; simp, ownFrom_below' (hJ fp) hJs (hb2.trans ((boxed _ _).mono hb2.size))⟩⟩
      | cons t rest =>
        obtain ⟨-, rfl, hob, hc2⟩ := hc
        obtain ⟨s, hth, e1, e2, e3⟩ := hob
        have AT := Lib.hid (iat_yes t.j kd s wr HR hbm hl hd hf hth)
        gi_wp2_with (refine ⟨trivial, ?_⟩; gi_at_call 72; refine (callsIn_wide.2 AT.out).mono ?_; rintro e w2 ⟨A1, n1, c1', A2, n2, c2', A3, n3, c3', rfl, hb2, hown⟩; have hz := Blk.new w2 56 #[.int .i64 kd, .slice A1 n1 c1', .slice A2 n2 c2', .slice A3 n3 c3']; have z0 := hz.cell 0; have z1 := hz.cell 1; have z2 := hz.cell 2; have z3 := hz.cell 3)
        rw [e1, e2, e3] at hown
        have hrd := hown.reads
        have HFR : Hid (∀ fp : Nat → Prop, FpOk fp wr → (⟨t, A1, n1, c1', A2, n2, c2', A3, n3, c3'⟩ : Ob).free fp) := Lib.hid (fun fp hf => ob_free hown hf)
        have hn1 : n1 = t.ws.length := hrd.wr.len.symm
        have hn2 : t.ws.length = kwN kd := by rw [← e1]; exact dW_length _ _
        obtain ⟨gb, off, rfl, hgb, hgc⟩ := hrd.wr.at2 (by omega) (by omega)
        have hg1 := hgc wd _ (cellsOf_get (by omega))
        have hB3 : Below w2.heap.size w2 (w2.alloc (.cells #[.int .i64 kd, .slice (some ⟨gb, off, none⟩) n1 c1', .slice A2 n2 c2', .slice A3 n3 c3'] 56)) := boxed _ _
        have hg2 := (hB3.cell (p := ⟨gb, off + wd, none⟩) hgb).trans hg1
        have cw2 := ((hb2.trans (hB3.mono hb2.size)).cell (p := ⟨bw, 0, none⟩) (by have := hkw.size; show bw < _; omega)).trans cw
        have hwn : wd < n1 := by omega
        obtain ⟨u, hu⟩ : ∃ u, t.ws.getD wd 0 = u := ⟨_, rfl⟩
        rw [hu] at hg1 hg2 hc2
        have HN := Lib.hid (And.intro hn1 hn2)
        clear hn1 hn2
        refine wpIn_wide.2 ?_
        have cwA := (hb2.cell (p := ⟨bw, 0, none⟩) (by have := hkw.size; show bw < _; omega)).trans cw
        go_quiet (fail)
        have hB4 : Below wr.heap.size wr ((w2.alloc (.cells #[.int .i64 kd, .slice (some ⟨gb, off, none⟩) n1 c1', .slice A2 n2 c2', .slice A3 n3 c3'] 56)).drewN nq) := (hb2.trans (hB3.mono hb2.size)).trans ((below_drewn (Below.refl _ _) nq).mono (hb2.trans (hB3.mono hb2.size)).size)
        have hJ4 := ownFrom_below' (hJ fp) hJs hB4
        have hkw4 := keepC_t hkw (keepC_below (n₀ := w.heap.size) (T := fp₀) hB4)
        have hfo4 : FpOk fp ((w2.alloc (.cells #[.int .i64 kd, .slice (some ⟨gb, off, none⟩) n1 c1', .slice A2 n2 c2', .slice A3 n3 c3'] 56)).drewN nq) := fun k hk => Nat.lt_of_lt_of_le (hfo k hk) hB4.size
        have hfree : (⟨t, some ⟨gb, off, none⟩, n1, c1', A2, n2, c2', A3, n3, c3'⟩ : Ob).free fp := HFR.out fp hfo
        have hlies : (⟨t, some ⟨gb, off, none⟩, n1, c1', A2, n2, c2', A3, n3, c3'⟩ : Ob).lies ((w2.alloc (.cells #[.int .i64 kd, .slice (some ⟨gb, off, none⟩) n1 c1', .slice A2 n2 c2', .slice A3 n3 c3'] 56)).drewN nq) := (hrd.below (hB3.trans ((below_drewn (Below.refl _ _) nq).mono hB3.size)) (Nat.le_refl _)).upto (by simp)
        obtain ⟨fn, tmps, assign, body, hy, hR⟩ := hY fp pre ⟨t, some ⟨gb, off, none⟩, n1, c1', A2, n2, c2', A3, n3, c3'⟩ _ hJ4 (by rw [← hpre]; simp) hfo4 ⟨⟨⟨rest, hpre⟩, hlies⟩, hfree⟩
        dsimp only [Ob.encs, Ob.v, obV] at hy
        have hroom := hth.2.1.room
        have ht2 := wrap_i64_of (x := t.j) (by omega) (by omega)
        have hUu : IsU u := by
          have := dW_bd (objB_bytes hbm t.j s) kd
          rw [e1] at this
          have hm : u ∈ t.ws := by rw [← hu, List.getD_eq_getElem?_getD, List.getElem?_eq_getElem (by have := HN.out; omega)]; exact List.getElem_mem _
          exact this u hm
        gi_wp2
        refine hR.mono ?_
        rintro e W3 (⟨rfl, fp', hJ3, hg3⟩ | ⟨rfl, hJx3, -⟩)
        · gi_wp2
          go_roundw
          case rel => exact ⟨fp', pre ++ [⟨t, some ⟨gb, off, none⟩, n1, c1', A2, n2, c2', A3, n3, c3'⟩], rest, t.j, u, rfl, rfl, by rw [← hpre]; simp, ⟨by omega, by omega⟩, hUu, hc2, hJ3, keepC_t hkw4 (hg3.1.mono (fun k _ e => (hff k e).symm)), hg3.ok, fun k hk => (hg3.2 k hk).1.elim (hff k) (fun e => .inr (by have := hkw4.size; omega))⟩
          case measure => simp [intOf]; omega
        · gi_wp2
          refine bodyPost_ret (results_none rfl _ _ _) rfl ?_
          have hsp : ∃ r, (pre ++ [(⟨t, some ⟨gb, off, none⟩, n1, c1', A2, n2, c2', A3, n3, c3'⟩ : Ob)]).map (·.t) ++ r = its := ⟨rest, by rw [← hpre]; simp⟩
          exact ⟨⟨_, rfl⟩, .inr ⟨_, hsp, hJx3⟩⟩
    · have hnil : rest = [] := by
        cases rest with
        | nil => rfl
        | cons t rest => exact absurd hc.1 hlt
      subst hnil
      gi_wp2
      go_end0
      exact ⟨⟨_, rfl⟩, .inl ⟨pre, by rw [← hpre]; simp, fp, hJs⟩⟩
end

end Go.Proofs.Ytblpmnipapimcaa
