/-
  LAYER 13: WHAT Follow's ITERATOR TELLS: objects of a kind from a place on, each led on to the next by one of its words, in their order; its contract for whatever the rounds do.
-/
import Derived.RangeFuncNested
import Derived.RangeFuncBound
import Derived.RangeFuncCalls
import Derived.RangeFuncLeaves
import Derived.Shelf.Abstract
import Derived.Shelf.RegionOpen
import Derived.WalkKit
import Derived.OwnWalkIn
import Derived.TacticsInMore
import Derived.LoopNIn
import Derived.LoopIn
import Derived.BigQuiet
import Derived.Test.YtblpmnipapimcaaRangePX
import Derived.Test.YtblpmnipapimcaaTabRows
set_option linter.unusedVariables false
set_option maxRecDepth 100000
set_option linter.unusedSimpArgs false
namespace Go.Proofs.Ytblpmnipapimcaa
open Go.RowKit Go.Shelf
attribute [local go_sem] Oper.semAt_some

/-- What is told of an object: its place, its words, its bytes, its numbers. -/
structure It where
  j : Nat
  ws : List Int
  rs : List Int
  is : List Int

/-- It stands there. -/
def IM.obAt (m : IM) (D F : Int) (kd : Nat) (t : It) : Prop := ∃ s, m.there D F t.j kd s ∧ dW (objB m.b t.j s) kd = t.ws ∧ dR (objB m.b t.j s) kd = t.rs ∧ dI (objB m.b t.j s) kd = t.is
/-- None of that kind stands there. -/
def IM.noAt (m : IM) (D F : Int) (kd : Nat) (pl : Int) : Prop := m.bare D F pl ∨ ∃ j kk s : Nat, pl = (j : Nat) ∧ m.there D F j kk s ∧ (kk : Int) ≠ kd
/-- The objects that are followed from a place on. -/
def chainAt (m : IM) (D F : Int) (kd wd : Nat) : Int → Int → List It → Prop
  | last, pl, [] => ¬ last < pl ∨ m.noAt D F kd pl
  | last, pl, t :: l => last < pl ∧ pl = t.j ∧ m.obAt D F kd t ∧ chainAt m D F kd wd t.j (t.ws.getD wd 0) l

/-- What a round is handed. -/
structure Ob where
  t : It
  A : Option Addr
  n : Nat
  c : Nat
  B : Option Addr
  m : Nat
  d : Nat
  C : Option Addr
  p : Nat
  q : Nat
def Ob.v (kd : Nat) (x : Ob) : Value := obV kd x.A x.n x.c x.B x.m x.d x.C x.p x.q
def Ob.encs (kd : Nat) (x : Ob) : Array Value := #[.int .i64 x.t.j, x.v kd]
def Ob.lies (x : Ob) (W : World) : Prop := ObR W W.heap.size x.A x.n x.c x.t.ws x.B x.m x.d x.t.rs x.C x.p x.q x.t.is
def TellsOb (its : List It) (pre : List Ob) (x : Ob) (W : World) : Prop := (∃ rest, pre.map (·.t) ++ x.t :: rest = its) ∧ x.lies W

/-- What the rounds keep: whatever lies below n₀ but for T. -/
abbrev KeepC (n₀ : Nat) (T : Nat → Prop) (W W' : World) : Prop := Chg (fun k => n₀ ≤ k ∨ T k) W W'
theorem keepC_t {n₀ : Nat} {T : Nat → Prop} {A B C : World} (h : KeepC n₀ T A B) (k : KeepC n₀ T B C) : KeepC n₀ T A C := h.trans k (fun _ _ h => h)
theorem keepC_b {n₀ : Nat} {T : Nat → Prop} {w : World} (hn : n₀ ≤ w.heap.size) (W : World) (l : Nat) (o o' : Obj) (hl : w.heap.size ≤ l) (h : W.heap[l]? = some o) (_ : o.isCells = false) (_ : o.isWalk = false) : KeepC n₀ T W (W.putObj l o') :=
  ⟨rfl, rfl, rfl, by simp, fun k _ hk => World.putObj_heap_other (fun e => hk (.inl (by omega)))⟩
theorem keepC_below {n₀ : Nat} {T : Nat → Prop} {A B : World} (h : Below A.heap.size A B) : KeepC n₀ T A B := Chg.of_below h (Nat.le_refl _) _

theorem abides_below {β : Type} {N : Nat} {J : β → World → Prop} (hJ : AbidesFrom N J) {s : β} {W W' : World} (h : J s W) (hb : Below W.heap.size W W') : J s W' :=
  hJ s W W' none h ⟨hb.os, hb.tape, hb.output, hb.size, fun k hk _ => hb.block k hk⟩ (fun r e => by cases e)

theorem Reads.upto {W : World} {B B' size n : Nat} {A : Option Addr} {xs : List Value} (h : Reads W B size A n xs) (hB : B ≤ B') : Reads W B' size A n xs :=
  ⟨h.1, fun hn => by obtain ⟨ad, e, hb, hc⟩ := h.2 hn; exact ⟨ad, e, by omega, hc⟩⟩
theorem ObR.upto {W : World} {L L' : Nat} {A : Option Addr} {n c : Nat} {ws : List Int} {B : Option Addr} {m d : Nat} {rs : List Int} {C : Option Addr} {p q : Nat} {is : List Int} (h : ObR W L A n c ws B m d rs C p q is) (hL : L ≤ L') : ObR W L' A n c ws B m d rs C p q is :=
  ⟨h.wr.upto hL, h.rr.upto hL, h.ir.upto hL, h.wc, h.rc, h.ic⟩

section
variable {base p : Nat} {S : Nat → Prop} {i k d f h : Int} {m : IM} {bv sv : Value}

set_option maxHeartbeats 4000000 in
theorem follow_tells (n : Nat) (hn : 1 ≤ n) (n₀ : Nat) (T : Nat → Prop) (bw bk bp bm : Nat) (kd wd : Nat) (pl : Int) (its : List It) (w : World) (H : IX w base S p i k d f h m bv sv) (hbm : AreB m.b) (hl : m.b.length ≤ 1099511627776)
    (hd : 1 ≤ d ∧ d ≤ 256) (hf : 1 ≤ f ∧ f ≤ 256) (hS : ∀ j, S j → j < n₀ ∧ ¬ T j) (hbs : bw < n₀ ∧ bk < n₀ ∧ bp < n₀ ∧ bm < n₀ ∧ n₀ ≤ w.heap.size) (hT : ¬ T bw ∧ ¬ T bk ∧ ¬ T bp ∧ ¬ T bm)
    (hcw : w.cell? ⟨bw, 0, none⟩ = some (.int .i64 wd)) (hck : w.cell? ⟨bk, 0, none⟩ = some (.int .i64 kd)) (hcp : w.cell? ⟨bp, 0, none⟩ = some (.int .u64 pl)) (hcm : w.cell? ⟨bm, 0, none⟩ = some (.pointer (some ⟨p, 0, none⟩)))
    (hwd : wd < kwN kd) (hp : IsU pl) (hch : chainAt m d f kd wd 0 pl its) :
    SeqTells Fence.wide n Try.prog 71 #[.pointer (some ⟨bw, 0, none⟩), .pointer (some ⟨bk, 0, none⟩), .pointer (some ⟨bp, 0, none⟩), .pointer (some ⟨bm, 0, none⟩)] (Ob.encs kd) (TellsOb its) (KeepC n₀ T)
      (fun xs => xs.map (·.t) = its) (fun pre => ∃ rest, pre.map (·.t) ++ rest = its) its.length w := by
  intro l J Jx W hb hJ hJx hY h0
  have hbw : Chg (fun k => n₀ ≤ k ∨ T k) w W := Chg.of_below hb (Nat.le_refl _) _
  have HW := H.keep hbw (fun j hj e => by have := hS j hj; exact e.elim (fun h => by omega) this.2)
  refine callsIn_of_wp Try.func71 rfl trivial ?_ rfl
  simp only [Try.ntmps71, List.size_toArray, List.length_cons, List.length_nil, Nat.reduceAdd, Nat.reduceSub, Array.replicate_succ, Array.replicate_zero, List.push_toArray, List.append_toArray, List.nil_append, List.cons_append]
  have c1 := (hb.cell (p := ⟨bw, 0, none⟩) (by simp; omega)).trans hcw
  have c2 := (hb.cell (p := ⟨bk, 0, none⟩) (by simp; omega)).trans hck
  have c3 := (hb.cell (p := ⟨bp, 0, none⟩) (by simp; omega)).trans hcp
  have hw0 : ¬ (wd : Int) < 0 := by omega
  have hw1 : ¬ (kwN kd : Int) ≤ (wd : Int) := by omega
  gi_wp2
  refine wpIn_wide.2 ?_
  have hw3 : decide ((wd : Int) < 0) = false := decide_eq_false (by omega)
  go_quiet ((refine (owords_any kd _).mono ?_; rintro e w1 ⟨rfl, rfl⟩; exact ⟨rfl, _, rfl⟩))
  gi_wp2
  refine wpIn_wide.2 ?_
  go_quiet (fail)
  gi_wp2
  have hw4 : decide (kwN (kd : Int) ≤ wd) = false := decide_eq_false (by omega)
  try simp only [hw4]
  gi_loopw [6, 7] (fun s6 s7 wr => ∃ (pre : List Ob) (rest : List It) (last next : Int), s6 = .int .u64 last ∧ s7 = .int .u64 next ∧ pre.map (·.t) ++ rest = its ∧ (0 ≤ last ∧ last ≤ m.b.length) ∧ IsU next ∧ chainAt m d f kd wd last next rest ∧ J pre wr ∧ KeepC n₀ T w wr)
    (fun s6 _ _ => m.b.length + 1 - (intOf s6).toNat)
  case atStart =>
    exact ⟨[], its, 0, pl, rfl, rfl, rfl, ⟨by omega, by omega⟩, hp, hch, abides_below hJ h0 (below_drewn (below_drewn (Below.refl _ _) _) _), hbw.trans (keepC_below (below_drewn (below_drewn (Below.refl _ _) _) _)) (fun _ _ h => h)⟩
  case round =>
    obtain ⟨pre, rest, last, next, rfl, rfl, hpre, hlast, hnext, hc, hJs, hkw⟩ := hrel
    have HR := H.keep hkw (fun j hj e => by have := hS j hj; exact e.elim (fun h => by omega) this.2)
    have hcell : ∀ b v, b < n₀ → ¬ T b → w.cell? ⟨b, 0, none⟩ = some v → wr.cell? ⟨b, 0, none⟩ = some v := fun b v h1 h2 h3 => (World.cell?_of_block (a := ⟨b, 0, none⟩) (hkw.block b (by omega) (fun e => e.elim (fun h => by omega) h2))).trans h3
    have cw := hcell bw _ hbs.1 hT.1 hcw
    have ck := hcell bk _ hbs.2.1 hT.2.1 hck
    have cm := hcell bm _ hbs.2.2.2.1 hT.2.2.2 hcm
    by_cases hlt : last < next
    · cases rest with
      | nil =>
        have hno : m.noAt d f kd next := hc.resolve_left (fun h => h hlt)
        have AT : Hid (Calls Try.prog 72 #[.pointer (some ⟨p, 0, none⟩), .int .u64 next, .int .i64 kd] wr fun e w' => e = .returned (.tuple #[obZ, .bool false]) ∧ Below wr.heap.size wr w') := by
          rcases hno with hno | ⟨j, kk, s, rfl, hth, hne⟩
          · exact Lib.hid (iat_bare next kd wr HR hbm hl hd hf hnext.1 hno)
          · exact Lib.hid (iat_other j kk s kd wr HR hbm hl hd hf hth hne)
        gi_wp2_with (refine ⟨trivial, ?_⟩; gi_at_call 72; refine (callsIn_wide.2 AT.out).mono ?_; rintro e w2 ⟨rfl, hb2⟩)
        refine bodyPost_ret (results_none rfl _ _ _) rfl ?_
        exact ⟨⟨_, rfl⟩, .inl ⟨pre, by rw [← hpre]; simp, abides_below hJ hJs (hb2.trans ((boxed _ _).mono hb2.size))⟩⟩
      | cons t rest =>
        obtain ⟨-, rfl, hob, hc2⟩ := hc
        obtain ⟨s, hth, e1, e2, e3⟩ := hob
        have AT := Lib.hid (iat_yes t.j kd s wr HR hbm hl hd hf hth)
        gi_wp2_with (refine ⟨trivial, ?_⟩; gi_at_call 72; refine (callsIn_wide.2 AT.out).mono ?_; rintro e w2 ⟨A1, n1, c1', A2, n2, c2', A3, n3, c3', rfl, hb2, hown⟩; have hz := Blk.new w2 56 #[.int .i64 kd, .slice A1 n1 c1', .slice A2 n2 c2', .slice A3 n3 c3']; have z0 := hz.cell 0; have z1 := hz.cell 1; have z2 := hz.cell 2; have z3 := hz.cell 3)
        rw [e1, e2, e3] at hown
        have hrd := hown.reads
        have hn1 : n1 = t.ws.length := hrd.wr.len.symm
        have hn2 : t.ws.length = kwN kd := by rw [← e1]; exact dW_length _ _
        obtain ⟨gb, off, rfl, hgb, hgc⟩ := hrd.wr.at2 (by omega) (by omega)
        have hg1 := hgc wd _ (cellsOf_get (by omega))
        have hB3 : Below w2.heap.size w2 (w2.alloc (.cells #[.int .i64 kd, .slice (some ⟨gb, off, none⟩) n1 c1', .slice A2 n2 c2', .slice A3 n3 c3'] 56)) := boxed _ _
        have hg2 := (hB3.cell (p := ⟨gb, off + wd, none⟩) hgb).trans hg1
        have cw2 := ((hb2.trans (hB3.mono hb2.size)).cell (p := ⟨bw, 0, none⟩) (by have := hkw.size; show bw < _; omega)).trans cw
        have hwn : wd < n1 := by omega
        obtain ⟨u, hu⟩ : ∃ u, t.ws.getD wd 0 = u := ⟨_, rfl⟩
        rw [hu] at hg1 hg2 hc2
        have HN := Lib.hid (And.intro hn1 hn2)
        clear hn1 hn2
        refine wpIn_wide.2 ?_
        have cwA := (hb2.cell (p := ⟨bw, 0, none⟩) (by have := hkw.size; show bw < _; omega)).trans cw
        go_quiet (fail)
        have hB4 : Below wr.heap.size wr ((w2.alloc (.cells #[.int .i64 kd, .slice (some ⟨gb, off, none⟩) n1 c1', .slice A2 n2 c2', .slice A3 n3 c3'] 56)).drewN nq) := (hb2.trans (hB3.mono hb2.size)).trans ((below_drewn (Below.refl _ _) nq).mono (hb2.trans (hB3.mono hb2.size)).size)
        have hJ4 := abides_below hJ hJs hB4
        have hkw4 := keepC_t hkw (keepC_below (n₀ := n₀) (T := T) hB4)
        have hlies : (⟨t, some ⟨gb, off, none⟩, n1, c1', A2, n2, c2', A3, n3, c3'⟩ : Ob).lies ((w2.alloc (.cells #[.int .i64 kd, .slice (some ⟨gb, off, none⟩) n1 c1', .slice A2 n2 c2', .slice A3 n3 c3'] 56)).drewN nq) := (hrd.below (hB3.trans ((below_drewn (Below.refl _ _) nq).mono hB3.size)) (Nat.le_refl _)).upto (by simp)
        obtain ⟨fn, tmps, assign, body, hy, hR⟩ := hY pre ⟨t, some ⟨gb, off, none⟩, n1, c1', A2, n2, c2', A3, n3, c3'⟩ _ hJ4 (by rw [← hpre]; simp) ⟨⟨rest, hpre⟩, hlies⟩
        dsimp only [Ob.encs, Ob.v, obV] at hy
        have hroom := hth.2.1.room
        have ht2 := wrap_i64_of (x := t.j) (by omega) (by omega)
        have hUu : IsU u := by
          have := dW_bd (objB_bytes hbm t.j s) kd
          rw [e1] at this
          have hm : u ∈ t.ws := by rw [← hu, List.getD_eq_getElem?_getD, List.getElem?_eq_getElem (by have := HN.out; omega)]; exact List.getElem_mem _
          exact this u hm
        gi_wp2
        refine hR.mono ?_
        rintro e W3 (⟨rfl, hJ3, hk3⟩ | ⟨rfl, hJx3⟩)
        · gi_wp2
          go_roundw
          case rel => exact ⟨pre ++ [⟨t, some ⟨gb, off, none⟩, n1, c1', A2, n2, c2', A3, n3, c3'⟩], rest, t.j, u, rfl, rfl, by rw [← hpre]; simp, ⟨by omega, by omega⟩, hUu, hc2, hJ3, keepC_t hkw4 hk3⟩
          case measure => simp [intOf]; omega
        · gi_wp2
          refine bodyPost_ret (results_none rfl _ _ _) rfl ?_
          have hsp : ∃ r, (pre ++ [(⟨t, some ⟨gb, off, none⟩, n1, c1', A2, n2, c2', A3, n3, c3'⟩ : Ob)]).map (·.t) ++ r = its := ⟨rest, by rw [← hpre]; simp⟩
          exact ⟨⟨_, rfl⟩, .inr ⟨_, hsp, hJx3⟩⟩
    · have hnil : rest = [] := by
        cases rest with
        | nil => rfl
        | cons t rest => exact absurd hc.1 hlt
      subst hnil
      gi_wp2
      go_end0
      exact ⟨⟨_, rfl⟩, .inl ⟨pre, by rw [← hpre]; simp, hJs⟩⟩
end

end Go.Proofs.Ytblpmnipapimcaa
