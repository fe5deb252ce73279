/-
  LAYER 7: WHAT THE DOCUMENT'S OWN Do, Sync AND Crash DO: contracts.
-/
import Derived.Test.YtakjiklpfddooaaDirRef3
set_option linter.unusedVariables false
set_option linter.unusedSimpArgs false
namespace Go.Proofs.Ytakjiklpfddooaa
open Go.RowKit

theorem rdo_any (p : Nat) (base N : Nat) (S : Nat → Prop) (s : DB) (nv sv ov : Value) (o : OpB) (w : World) (h : RD w base S p s nv sv ov) (hg : GoodD s N) (hN : N ≤ 900000) (ho : OkO o) :
    Calls Try.prog 23 #[.pointer (some ⟨p, 0, none⟩), .agg #[.int .i64 o.kind, .string o.a, .string o.b, .int .i64 o.id]] w fun e w' => e = .returned (.int .i64 (doE s.now o)) ∧ RDT base S p (doS s o) w w' := by
  obtain ⟨k, x, y, i⟩ := o
  have hk := ho.kind
  simp only at hk
  rcases hk with rfl | rfl | rfl
  · have hE : doE s.now ⟨0, x, y, i⟩ = if hasB s.now x then 7 else if rightB x then 0 else 1 := by unfold doE; rw [if_pos rfl]
    cases h1 : hasB s.now x with
    | true =>
      have he : doE s.now ⟨0, x, y, i⟩ = 7 := by rw [hE, h1]; rfl
      rw [rdoS_no (by rw [he]; omega), he]
      exact rdo_twice p base N S s nv sv ov x y i w h hg hN ho h1
    | false =>
      cases h2 : rightB x with
      | true =>
        have he : doE s.now ⟨0, x, y, i⟩ = 0 := by rw [hE, h1, h2]; rfl
        rw [rdoS_yes he, he]
        exact rdo_ok0 p base N S s nv sv ov x y i w h hg hN ho h1 h2
      | false =>
        have he : doE s.now ⟨0, x, y, i⟩ = 1 := by rw [hE, h1, h2]; rfl
        rw [rdoS_no (by rw [he]; omega), he]
        exact rdo_arg0 p base N S s nv sv ov x y i w h hg hN ho h1 h2
  · have hE : doE s.now ⟨1, x, y, i⟩ = if hasB s.now x then (if rightB y then 0 else 1) else 6 := by unfold doE; rw [if_neg (show ¬ (1 : Int) = 0 by omega), if_pos rfl]
    cases h1 : hasB s.now x with
    | false =>
      have he : doE s.now ⟨1, x, y, i⟩ = 6 := by rw [hE, h1]; rfl
      rw [rdoS_no (by rw [he]; omega), he]
      exact rdo_none1 p base N S s nv sv ov x y i w h hg hN ho h1
    | true =>
      cases h2 : rightB y with
      | true =>
        have he : doE s.now ⟨1, x, y, i⟩ = 0 := by rw [hE, h1, h2]; rfl
        rw [rdoS_yes he, he]
        exact rdo_ok1 p base N S s nv sv ov x y i w h hg hN ho h1 h2
      | false =>
        have he : doE s.now ⟨1, x, y, i⟩ = 1 := by rw [hE, h1, h2]; rfl
        rw [rdoS_no (by rw [he]; omega), he]
        exact rdo_arg1 p base N S s nv sv ov x y i w h hg hN ho h1 h2
  · have hE : doE s.now ⟨2, x, y, i⟩ = if hasB s.now x then 0 else 6 := by unfold doE; rw [if_neg (show ¬ (2 : Int) = 0 by omega), if_neg (show ¬ (2 : Int) = 1 by omega)]
    cases h1 : hasB s.now x with
    | false =>
      have he : doE s.now ⟨2, x, y, i⟩ = 6 := by rw [hE, h1]; rfl
      rw [rdoS_no (by rw [he]; omega), he]
      exact rdo_none2 p base N S s nv sv ov x y i w h hg hN ho h1
    | true =>
      have he : doE s.now ⟨2, x, y, i⟩ = 0 := by rw [hE, h1]; rfl
      rw [rdoS_yes he, he]
      exact rdo_ok2 p base N S s nv sv ov x y i w h hg hN ho h1

theorem rsync_any (p : Nat) (base : Nat) (S : Nat → Prop) (s : DB) (nv sv ov : Value) (w : World) (h : RD w base S p s nv sv ov) :
    Calls Try.prog 24 #[.pointer (some ⟨p, 0, none⟩)] w fun e w' => e = .returned (.tuple #[]) ∧ RDT base S p s.sync w w' := by
  obtain ⟨An, cn, rfl, -, -⟩ := own_form h.now
  obtain ⟨d0, d1, d2, f0, f1, f2⟩ := h.cells (Below.refl _ _)
  obtain ⟨n, hn⟩ : ∃ n, n = s.now.length := ⟨_, rfl⟩
  rw [← hn] at h d0
  have HE := Lib.hid (show RDT base S p s.sync w ((w.setCell ⟨p, 1, none⟩ (.slice An n cn)).setCell ⟨p, 2, none⟩ (.slice none 0 0)) from
    RDT.of (((Chg.refl S w).setCell (.inr h.inp) _).setCell (.inr h.inp) _) h.setSync (fun _ h => .inl h) h.foot h.bas)
  obtain ⟨sv1, rfl⟩ : ∃ sv1, sv1 = sv := ⟨_, rfl⟩
  clear h hn
  go_enter Try.func24, Try.ntmps24
  go_wp2
  go_end0
  exact ⟨rfl, HE.out⟩

/-! ### Crash -/
/-- A directory has been told; its names may lie where the elder's do. -/
def RDcr (base : Nat) (S : Nat → Prop) (s : DB) (w : World) (e : Ending) (w' : World) : Prop :=
  ∃ p nv sv ov, e = .returned (.pointer (some ⟨p, 0, none⟩)) ∧ Below w.heap.size w w' ∧ RD w' base (grow S w w') p s nv sv ov

structure RcA (w wr : World) (base : Nat) (S : Nat → Prop) (s : DB) (ks : List Bool) (k : Nat) (A : Option Addr) (n c : Nat) (L : NmL) : Prop where
  is_ : L = crashN cfT s.safe (s.ops.take k) ks
  len : L.length = n
  own : wr.ownsRow base 64 2 (.slice A n c) n (namesC L)
  in_ : ∀ g, (Value.slice A n c).ownBlock = some g → S g ∨ w.heap.size ≤ g
  below : Below w.heap.size w wr

section
variable {w wr w' : World} {base k n c : Nat} {S : Nat → Prop} {s : DB} {ks : List Bool} {A : Option Addr} {L : NmL}
theorem RcA.stay (h : RcA w wr base S s ks k A n c L) (hk : k < s.ops.length) (hb : ks.getD k false = false) : RcA w wr base S s ks (k + 1) A n c L :=
  ⟨by rw [crashN_next hk, hb, h.is_]; rfl, h.len, h.own, h.in_, h.below⟩
theorem RcA.step {o : OpB} {e : Ending} (h : RcA w wr base S s ks k A n c L) (ho : s.ops[k]? = some o) (hb : ks.getD k false = true) (hd : DidR base (.slice A n c) (didN cfT L o) wr e w') :
    ∃ A' n' c', e = .returned (.slice A' n' c') ∧ RcA w w' base S s ks (k + 1) A' n' c' (didN cfT L o) := by
  obtain ⟨A', c', rfl, hown, hbl, hm⟩ := hd
  obtain ⟨hlt, he⟩ := List.getElem?_eq_some_iff.1 ho
  have hs := h.below.size
  refine ⟨A', _, c', rfl, by rw [crashN_next hlt, hb, if_pos rfl, ← h.is_, he], rfl, hown, fun g hg => ?_, h.below.trans (hbl.mono hs)⟩
  rcases hm g hg with e | e
  · exact h.in_ g e
  · exact .inr (by omega)
theorem RcA.out (h : RcA w wr base S s ks k A n c L) (hk : ks.length ≤ k ∨ s.ops.length ≤ k) (hf : ∀ j, S j → base ≤ j ∧ j < w.heap.size) (hb : base ≤ w.heap.size) :
    RDcr base S (s.crash cfT ks) w (.returned (.pointer (some ⟨wr.heap.size, 0, none⟩))) (wr.alloc (.cells #[.slice A n c, .slice A n c, .slice none 0 0] 29)) := by
  have hL : L = crashN cfT s.safe s.ops ks := by rw [h.is_, crashN_take _ _ _ _ hk]
  have hbl := h.below.alloc h.below.size (.cells #[.slice A n c, .slice A n c, .slice none 0 0] 29)
  have hsz : (wr.alloc (.cells #[.slice A n c, .slice A n c, .slice none 0 0] 29)).heap.size = wr.heap.size + 1 := by simp
  have hs := h.below.size
  have hin : ∀ g, (Value.slice A n c).ownBlock = some g → grow S w (wr.alloc (.cells #[.slice A n c, .slice A n c, .slice none 0 0] 29)) g := fun g hg => by
    rcases h.in_ g hg with e | e
    · exact .inl e
    · have := (h.own.lt g hg).2; exact .inr ⟨e, by omega⟩
  have hs2 : s.crash cfT ks = ⟨L, L, []⟩ := by rw [hL]; rfl
  rw [hs2]
  have hlen := h.len
  subst hlen
  exact ⟨_, _, _, _, rfl, hbl, ⟨chg_lt hf (Chg.of_below hbl (Nat.le_refl _) (fun _ => False)) hb, by omega, .inr ⟨hs, by omega⟩, Blk.new _ _ _, h.own.alloc _, h.own.alloc _, World.ownsRow_nil _ _ _ _, hin, hin, fun g hg => by simp [Value.ownBlock] at hg⟩⟩
theorem RcA.size {N : Nat} (h : RcA w wr base S s ks k A n c L) (hg : GoodD s N) : n ≤ N := by
  have h1 := crashN_length (s.ops.take k) s.safe ks
  have h2 := hg.safe
  rw [List.length_take, ← h.is_, h.len] at h1
  omega
end

/-- The k-th op, as a round loads it. -/
theorem RD.op_at {w : World} {base p : Nat} {S : Nat → Prop} {s : DB} {nv sv : Value} {g q c k : Nat} (h : RD w base S p s nv sv (.slice (some ⟨g, 0, none⟩) q c)) {o : OpB} (ho : s.ops[k]? = some o) :
    w.cell? ⟨g, k * 4, none⟩ = some (.int .i64 o.kind) ∧ w.cell? ⟨g, k * 4 + 1, none⟩ = some (.string o.a) ∧ w.cell? ⟨g, k * 4 + 2, none⟩ = some (.string o.b) ∧ w.cell? ⟨g, k * 4 + 3, none⟩ = some (.int .i64 o.id) := by
  obtain ⟨h0, h1, h2, h3⟩ := opsC_get ho
  obtain ⟨_, _, e, _⟩ := own_form h.pend
  injection e with _ e2 _
  have hp := h.pend
  rw [← e2] at hp
  have c := hp.cells (g := g) rfl
  have pl : ∀ j, (⟨g, 0, none⟩ : Addr).add j = ⟨g, j, none⟩ := fun j => by unfold Addr.add; split <;> simp_all
  have c0 := c _ _ h0
  have c1 := c _ _ h1
  have c2 := c _ _ h2
  have c3 := c _ _ h3
  rw [pl] at c0 c1 c2 c3
  exact ⟨c0, c1, c2, c3⟩

set_option maxHeartbeats 2000000 in
theorem rcrash_any (p : Nat) (K : Option Addr) (m d : Nat) (ks : List Bool) (Bk base N : Nat) (S : Nat → Prop) (s : DB) (nv sv ov : Value) (w : World) (h : RD w base S p s nv sv ov) (hr : Reads w Bk 1 K m (cellsB ks)) (hB : Bk ≤ w.heap.size) (hmd : m ≤ d) (hdc : d ≤ 9223372036854775807) (hg : GoodD s N) (hN : N ≤ 900000) :
    Calls Try.prog 25 #[.pointer (some ⟨p, 0, none⟩), .slice K m d] w (RDcr base S (s.crash cfT ks) w) := by
  obtain ⟨As, cs, rfl, -, -⟩ := own_form h.safe
  obtain ⟨Ao, co, rfl, hqc, -⟩ := own_form h.pend
  have hlk : ks.length = m := by have := hr.1; rw [cellsB_length] at this; omega
  obtain ⟨n, hn⟩ : ∃ n, n = s.safe.length := ⟨_, rfl⟩
  obtain ⟨q, hq⟩ : ∃ q, q = s.ops.length := ⟨_, rfl⟩
  have hq9 : q ≤ 900000 := by have := hg.safe; omega
  rw [← hq, ← hn] at h
  rw [← hq] at hqc
  have hsf := h.safe
  rw [← hn] at hsf
  have HS := Lib.hid (show RcA w w base S s ks 0 As n cs s.safe from ⟨by rw [List.take_zero]; rfl, hn.symm, hsf, fun g hg => .inl (h.ins g hg), Below.refl _ _⟩)
  obtain ⟨-, d1, -⟩ := h.cells (Below.refl _ _)
  have H := Lib.hid (fun (w1 : World) (hb : Below w.heap.size w w1) => h.below hb)
  have HF := Lib.hid (And.intro h.foot h.bas)
  have HQ := Lib.hid hq
  have HG := Lib.hid hg
  have HR := Lib.hid hr
  have HLK := Lib.hid hlk
  clear h hn hq hg hr hlk hsf
  go_enter Try.func25, Try.ntmps25
  go_wp2
  clear d1
  go_loopw [5, 6] (fun v i wr => ∃ (k : Nat) (A : Option Addr) (n c : Nat) (L : NmL), k ≤ q ∧ i = .int .i64 k ∧ v = .slice A n c ∧ Hid (RcA w wr base S s ks k A n c L)) (fun _ i _ => q - (intOf i).toNat)
  case atStart => exact ⟨0, _, _, _, _, Nat.zero_le _, rfl, rfl, HS⟩
  case round =>
    clear HS
    obtain ⟨k, A, n, c, L, hk, rfl, rfl, C⟩ := hrel
    obtain ⟨-, -, e2, -⟩ := (H.out wr C.out.below).cells (Below.refl _ _)
    by_cases hlt : k < q
    · have kq : (k : Int) < (q : Int) := by omega
      by_cases hkm : k < m
      · have kmi : (k : Int) < (m : Int) := by omega
        obtain ⟨o, ho⟩ : ∃ o, s.ops[k]? = some o := ⟨_, List.getElem?_eq_getElem (by rw [← HQ.out]; omega)⟩
        obtain ⟨b, off, rfl, hbB, hc⟩ := HR.out.bools (by omega)
        obtain ⟨bt, hbt⟩ : ∃ bt, bt = ks.getD k false := ⟨_, rfl⟩
        have ck : wr.cell? ⟨b, off + k, none⟩ = some (.bool bt) := by rw [hbt]; exact (C.out.below.cell (p := ⟨b, off + k, none⟩) (by show b < _; omega)).trans (hc k (by omega))
        cases bt with
        | false =>
          have HN := Lib.hid (C.out.stay (by rw [← HQ.out]; omega) hbt.symm)
          clear hbt ho hc
          go_wp2
          go_roundw
          case rel => exact ⟨k + 1, A, n, c, L, by omega, by go_num, rfl, HN⟩
          case measure => simp [intOf]; omega
        | true =>
          have hw := H.out wr C.out.below
          obtain ⟨g, cap, hv, -⟩ := (hw.pend_ HQ.out).form (by omega)
          injection hv with hv1 hv2 hv3
          subst hv1
          clear hv2 hv3
          obtain ⟨c0, c1, c2, c3⟩ := hw.op_at ho
          have hok := HG.out.oko o (List.mem_of_getElem? ho)
          have hnN := C.out.size HG.out
          obtain ⟨kd, x, y, i⟩ := o
          have DO := Lib.hid (rdid_any ⟨kd, x, y, i⟩ base A n c L wr C.out.own C.out.len (Nat.le_trans HF.out.2 C.out.below.size) (by omega) hok.kind)
          have NX := Lib.hid (fun (e : Ending) (w' : World) (hd : DidR base (.slice A n c) (didN cfT L ⟨kd, x, y, i⟩) wr e w') => C.out.step ho hbt.symm hd)
          simp only at c0 c1 c2 c3
          clear hbt ho hc hok hw hnN
          go_wp2_with (go_at_call 34; go_loud (refine DO.out.mono ?_; rintro e w3 hd; obtain ⟨A3, n3, c3', rfl, hC3⟩ := NX.out _ _ hd; have HC3 := Lib.hid hC3; clear hd hC3))
          go_roundw
          case rel => exact ⟨k + 1, A3, n3, c3', _, by omega, by go_num, rfl, HC3⟩
          case measure => simp [intOf]; omega
      · have kmi : ¬ (k : Int) < (m : Int) := by omega
        have HE := Lib.hid (C.out.out (.inl (by rw [HLK.out]; omega)) HF.out.1 HF.out.2)
        go_wp2
        go_ret
        exact HE.out
    · have kq : ¬ (k : Int) < (q : Int) := by omega
      have HE := Lib.hid (C.out.out (.inr (by rw [← HQ.out]; omega)) HF.out.1 HF.out.2)
      go_wp2
      go_ret
      exact HE.out

end Go.Proofs.Ytakjiklpfddooaa
