/-
  MERGED BY PROGRAM out of the texts OwnRow RegionZ ImageMath ImMem ImFn ImSet ImPut ImObj ImNew.
-/
import Derived.Test.YtjpfbkhjhainpaaLLe
import Derived.Test.YtjpfbkhjhainpaaImBase
import Derived.Deep.RegionHeld3
import Derived.Deep.RegionLaw
/-
  ROWS OF A CALL'S OWN, LAID OPEN, CUT, AND MADE ANEW: of no program but bytes.Clone.
-/
set_option linter.unusedVariables false
set_option maxRecDepth 100000
set_option linter.unusedSimpArgs false
namespace Go.Proofs.Ytjpfbkhjhainpaa
open Go.RowKit

/-- A row of the call's own, laid open: its block is known whole. -/
theorem row_open {w : World} {base n : Nat} {e : TypeId} {size : Nat} {A : Option Addr} {c : Nat} {xs : List Value} (h : w.ownsRow base e size (.slice A n c) n xs) (hn : 0 < n) :
    ∃ (g : Nat) (cur : List Value), A = some ⟨g, 0, none⟩ ∧ base ≤ g ∧ Blk w g e cur.toArray ∧ n ≤ c ∧ c ≤ maxLen ∧ cur.length = c * size ∧ cur.take (n * size) = xs := by
  rcases h.2 with ⟨_, h0⟩ | ⟨g, cap, cur, hv, hb, hg, hnc, hcm, hcs, ht⟩
  · omega
  · injection hv with h1 _ h3
    subst h1; subst h3
    exact ⟨g, cur.toList, rfl, hb, hg, hnc, hcm, by simpa using hcs, ht⟩
theorem row_shut {w : World} {base n c g : Nat} {e : TypeId} {size : Nat} {cur xs : List Value} (hb : base ≤ g) (hg : Blk w g e cur.toArray) (hnc : n ≤ c) (hcm : c ≤ maxLen) (hl : cur.length = c * size) (ht : cur.take (n * size) = xs) (hx : xs.length = n * size) :
    w.ownsRow base e size (.slice (some ⟨g, 0, none⟩) n c) n xs := ⟨hx, .inr ⟨g, c, _, rfl, hb, hg, hnc, hcm, by simpa using hl, by simpa using ht⟩⟩

/-- The first ones of a row of the call's own. -/
theorem row_cut {w : World} {base n k c : Nat} {e : TypeId} {A : Option Addr} {xs : List Value} (h : w.ownsRow base e 1 (.slice A n c) n xs) (hk : k ≤ n) : w.ownsRow base e 1 (.slice A k c) k (xs.take k) := by
  have hl := h.1
  refine ⟨by rw [List.length_take]; omega, ?_⟩
  rcases h.2 with ⟨hv, h0⟩ | ⟨g, cap, cur, hv, hb, hg, hnc, hcm, hcs, ht⟩
  · injection hv with h1 h2 h3
    subst h1; subst h3
    obtain rfl : k = 0 := by omega
    exact .inl ⟨rfl, rfl⟩
  · injection hv with h1 _ h3
    subst h1; subst h3
    refine .inr ⟨g, c, cur, rfl, hb, hg, by omega, hcm, hcs, ?_⟩
    rw [← ht, List.take_take]
    congr 1; omega

theorem row_nil {w : World} {B size n : Nat} {xs : List Value} (h : Reads w B size none n xs) : n = 0 := by
  rcases Nat.eq_zero_or_pos n with h0 | h0
  · exact h0
  · obtain ⟨ad, e, _⟩ := h.2 h0; cases e

/-- An empty row of the call's own, and what is put behind it. -/
theorem row_lit0 {w w1 : World} {t : TypeId} {n c : Nat} (hg : (w.alloc (.cells #[] t)).grownBy w1 (Value.ownBlock (.slice (some ⟨w.heap.size, 0, none⟩) n c))) : Below w.heap.size w w1 :=
  ((Below.refl _ _).alloc (Nat.le_refl _) _).grown hg (by simp) (fun k hk => by simp [Value.ownBlock] at hk; omega)

/-- What a reader of bytes that a function has told is handed. -/
theorem Told.reads {zs : List Int} {w w' : World} {e : Ending} (h : Told zs w e w') : ∃ A n c, e = .returned (.slice A n c) ∧ n = zs.length ∧ Reads w' w'.heap.size 1 A n (cellsOf .u8 zs) ∧ n ≤ c ∧ c ≤ 9223372036854775807 ∧ Below w.heap.size w w' ∧ w'.ownsRow w.heap.size 5 1 (.slice A n c) n (cellsOf .u8 zs) := by
  obtain ⟨A, n, c, rfl, h1, h2, h3, h4, h5⟩ := h
  exact ⟨A, n, c, rfl, h1, Reads.of_own h2, h4, h5, h3, h2⟩

/-- bytes.Clone. -/
theorem bclone_any (A : Option Addr) (len cap : Nat) (zs : List Int) (B : Nat) (w : World) (hr : Reads w B 1 A len (cellsOf .u8 zs)) (hB : B ≤ w.heap.size) (hn : len ≤ 140737488355328) :
    Calls Try.prog 33 #[.slice A len cap] w (Told zs w) := by
  obtain ⟨i0, hi, hz0, hz1, hz2⟩ := info_parts byteInfo
  have hlen := hr.len
  cases A with
  | none =>
    obtain rfl := row_nil hr
    have hz : zs = [] := List.eq_nil_of_length_eq_zero hlen
    have hq := fun w1 : World => Lib.run_eql_slice_nil (P := Try.prog) w1 22 5 none 0 cap 0 0 Try.underlying22
    clear hr
    go_enter Try.func33, Try.ntmps33
    go_wp2
    go_ret
    subst hz
    exact Told.nil _ _ (Below.refl _ _)
  | some ad =>
    have h2 : 0 + len ≤ maxLen := by unfold maxLen; omega
    have h3 : (0 + len) * 1 ≤ 140737488355328 := by omega
    have HR := Lib.hid hr
    have HL := Lib.hid hlen
    have hq := fun w1 : World => Lib.run_eql_slice_nil (P := Try.prog) w1 22 5 (some ad) len cap 0 0 Try.underlying22
    clear hr hlen
    go_enter Try.func33, Try.ntmps33
    go_wp2_with (at_builtin; refine wpList_append_any _ rfl _ _ _ rfl w.heap.size 5 i0 (.int .u8 0) 1 1 Try.underlying22 hi hz0 hz1 hz2 rfl (Nat.lt_succ_self 0) _ 0 [] rfl (World.ownsRow_lit w #[] 0 (Nat.le_refl _) (Nat.zero_le _) rfl) B (some ad) len cap (cellsOf .u8 zs) rfl (HR.out.alloc hB _) (cellsOf_one _ _) h2 h3 (by simp) ?_; intro v1 w1 hown1 hg1 hat1; rw [Nat.zero_add, List.nil_append] at hown1; obtain ⟨A1, c1, rfl, hc1, hc2⟩ := own_form hown1; have hb1 := row_lit0 hg1; clear hg1 hat1)
    go_ret
    exact ⟨A1, len, c1, rfl, HL.out.symm, hown1, hb1, hc1, by unfold maxLen at hc2; omega⟩

/-- A cut of bytes. -/
theorem take_splice {cur : List Value} {xs ys : List Value} {N a : Nat} (ht : cur.take N = xs) (hN : N ≤ cur.length) (h : a + ys.length ≤ N) : (splice cur a ys).take N = splice xs a ys := by
  subst ht
  unfold splice
  rw [List.take_take, Nat.min_eq_left (show a ≤ N by omega), List.take_append, List.length_take, Nat.min_eq_left (by omega), List.take_of_length_le (by rw [List.length_take]; omega)]
  congr 1
  rw [List.take_append, List.take_of_length_le (by omega)]
  congr 1
  rw [List.drop_take]
  congr 1
  omega
theorem splice_cells (k : IntKind) (xs ys : List Int) (a : Nat) : splice (cellsOf k xs) a (cellsOf k ys) = cellsOf k (splice xs a ys) := by unfold splice; simp [cellsOf]

end Go.Proofs.Ytjpfbkhjhainpaa

/-
  A REGION WHOSE ORDER IS OPEN, UNDER A CONDITION ON THE WORLD THAT NEED NOT HOLD BEHIND ITS LAST OPERATION, number z: for a region that ends in a store of what it has loaded (x.f = append(x.f, ..)). An operation that z waits for may be taken first, if it yields in every world that meets the condition. Of no program; after the library's law of loads that are taken first (wpAnyH_first).
-/
set_option linter.unusedVariables false
namespace Go.Proofs.Ytjpfbkhjhainpaa

section
variable {P : Program} {md : Region.Mode} {ops : Array Oper} {Q : Exit → Act → World → Prop} {S : World → Prop} {z : Nat}

/-- What has come up has come up behind all that it waits for. -/
def Closed (md : Region.Mode) (ops : Array Oper) (listed : Array Bool) : Prop :=
  ∀ k o, ops[k]? = some o → listed.getD k false = true → ∀ e ∈ o.after, Region.binds md e = true → listed.getD e.on false = true
def closedB (md : Region.Mode) (ops : Array Oper) (listed : Array Bool) : Bool :=
  (List.range ops.size).all fun k => match ops[k]? with
    | some o => !listed.getD k false || o.after.all fun e => !Region.binds md e || listed.getD e.on false
    | none => true
theorem closed_of {listed : Array Bool} (h : closedB md ops listed = true) : Closed md ops listed := fun k o ho hl e he hb => by
  have hk : k < ops.size := (Array.getElem?_eq_some_iff.1 ho).1
  have h1 := List.all_eq_true.1 h k (List.mem_range.2 hk)
  rw [ho] at h1
  simp only [hl, Bool.not_true, Bool.false_or] at h1
  have h2 := (Array.all_eq_true_iff_forall_mem.1 h1) e he
  rw [hb] at h2
  simpa using h2
theorem Closed.set {listed : Array Bool} {j : Nat} (h : Closed md ops listed) (hj : j ∈ Region.ready md ops listed) : Closed md ops (listed.setIfInBounds j true) := fun k o ho hl e he hb => by
  obtain ⟨hjun, oj, hoj, hall⟩ := mem_ready.1 hj
  refine getD_set_true ?_
  by_cases hjk : j = k
  · subst hjk
    rw [hoj] at ho; injection ho with ho; subst ho
    exact hall e he hb
  · rw [getD_set_ne false hjk] at hl
    exact h k o ho hl e he hb

/-- Operation z waits for i, by some that wait for each other. -/
def waits (md : Region.Mode) (ops : Array Oper) : Nat → Nat → Nat → Bool
  | 0, _, _ => false
  | f + 1, z, i => match ops[z]? with
    | some o => o.after.any fun e => Region.binds md e && (e.on == i || waits md ops f e.on i)
    | none => false
theorem waits_listed {listed : Array Bool} (hc : Closed md ops listed) {i : Nat} : ∀ (f z : Nat) (o : Oper), ops[z]? = some o → (∀ e ∈ o.after, Region.binds md e = true → listed.getD e.on false = true) → waits md ops f z i = true → listed.getD i false = true
  | 0, _, _, _, _, h => by cases h
  | f + 1, z, o, ho, hall, h => by
    unfold waits at h
    rw [ho] at h
    have h' : (o.after.toList.any fun e => Region.binds md e && (e.on == i || waits md ops f e.on i)) = true := by rw [Array.any_toList]; exact h
    obtain ⟨e, he, h2⟩ := List.any_eq_true.1 h'
    have he : e ∈ o.after := by simpa using he
    rw [Bool.and_eq_true, Bool.or_eq_true] at h2
    have h3 := hall e he h2.1
    rcases h2.2 with h4 | h4
    · have : e.on = i := by simpa using h4
      rw [← this]; exact h3
    · cases hoe : ops[e.on]? with
      | none =>
        cases f with
        | zero => cases h4
        | succ f => unfold waits at h4; rw [hoe] at h4; cases h4
      | some o' => exact waits_listed hc f e.on o' hoe (fun e' he' hb' => hc e.on o' hoe h3 e' he' hb') h4

/-- Whatever order is picked from here on; S holds behind each operation but z. -/
def wpAnyZ (P : Program) (md : Region.Mode) (ops : Array Oper) (Q : Exit → Act → World → Prop) (S : World → Prop) (z : Nat) : Nat → Array Bool → Act → World → Prop
  | 0, listed, a, w => Region.ready md ops listed = [] ∧ Q .normal a w
  | fuel + 1, listed, a, w =>
    (Region.ready md ops listed = [] → Q .normal a w) ∧
    ∀ i ∈ Region.ready md ops listed, wpOp P ops Q i (fun a' w' => (i ≠ z → S w') ∧ wpAnyZ P md ops Q S z fuel (listed.setIfInBounds i true) a' w') a w

theorem wpAny_of_z : ∀ (fuel : Nat) (listed : Array Bool) (a : Act) (w : World), wpAnyZ P md ops Q S z fuel listed a w → wpAny P md ops Q fuel listed a w
  | 0, _, _, _, h => h
  | fuel + 1, _, _, _, h => ⟨h.1, fun i hi => wpOp_mono (fun a' w' h' => wpAny_of_z fuel _ a' w' h'.2) (h.2 i hi)⟩

theorem wpAnyZ_first {i f : Nat} {oi : Oper} {v : Value} (hi : ops[i]? = some oi) (hsel : ∀ (j : Nat) (o : Oper) cs b, ops[j]? = some o → o.op ≠ .select cs b)
    (hQ : ∀ c a w, Q (.panic c) (a.put oi.dst v) w → Q (.panic c) a w) (hw : waits md ops f z i = true) :
    ∀ (fuel : Nat) (listed : Array Bool) (a : Act) (w : World), Closed md ops listed →
      (∀ j oj, ops[j]? = some oj → j ≠ i → listed.getD j true = false → (∀ e ∈ oj.after, Region.binds md e = true → e.on ≠ i) → oi.apart ops oj = true) →
      i ∈ Region.ready md ops listed → YieldsIf P ops S oi v a → S w →
      wpAnyZ P md ops Q S z fuel (listed.setIfInBounds i true) (a.put oi.dst v) w → wpAnyZ P md ops Q S z (fuel + 1) listed a w := by
  intro fuel
  induction fuel with
  | zero =>
    intro listed a w _ _ hr hy hS H
    refine ⟨fun h => (by rw [h] at hr; cases hr), fun j hj => ?_⟩
    by_cases hji : j = i
    · subst hji; exact hy.wpOp hi hS ⟨fun _ => hS, H⟩
    · have := ready_mono hj hji
      rw [H.1] at this
      cases this
  | succ fuel ih =>
    intro listed a w hcl hfree hr hy hS H
    refine ⟨fun h => (by rw [h] at hr; cases hr), fun j hj => ?_⟩
    by_cases hji : j = i
    · subst hji; exact hy.wpOp hi hS ⟨fun _ => hS, H⟩
    · have h1 := H.2 j (ready_mono hj hji)
      obtain ⟨hjun, oj, hoj, hall⟩ := mem_ready.1 hj
      have hjz : j ≠ z := fun e => by
        subst e
        have h5 := waits_listed hcl f j oj hoj hall hw
        have h0 := (mem_ready.1 hr).1
        rcases Nat.lt_or_ge i listed.size with h' | h'
        · simp [h'] at h0 h5; rw [h0] at h5; cases h5
        · simp [Array.getElem?_eq_none h'] at h5
      have hnot : ∀ e ∈ oj.after, Region.binds md e = true → e.on ≠ i := fun e he hb heq => by
        have h1 := hall e he hb
        have h0 := (mem_ready.1 hr).1
        rw [heq] at h1
        rcases Nat.lt_or_ge i listed.size with h' | h'
        · simp [h'] at h0 h1; rw [h0] at h1; cases h1
        · simp [Array.getElem?_eq_none h'] at h1
      have h2 := wpOp_putIf hoj (hfree j oj hoj hji hjun hnot) (fun cs b => hsel i oi cs b hi) (fun cs b => hsel j oj cs b hoj) hQ hy h1
      have hfree' : ∀ k ok, ops[k]? = some ok → k ≠ i → (listed.setIfInBounds j true).getD k true = false →
          (∀ e ∈ ok.after, Region.binds md e = true → e.on ≠ i) → oi.apart ops ok = true := fun k ok hk hki hun hno => by
        refine hfree k ok hk hki ?_ hno
        by_cases hjk : j = k
        · subst hjk; exact hjun
        · rw [getD_set_ne true hjk] at hun; exact hun
      refine wpOp_mono (fun a' w' h3 => ⟨fun _ => h3.2.1 hjz, ih (listed.setIfInBounds j true) a' w' (hcl.set hj) hfree' (ready_mono hr (Ne.symm hji)) h3.1 (h3.2.1 hjz) ?_⟩) h2
      rw [Array.setIfInBounds_comm _ _ hji]
      exact h3.2.2

/-! ### the moves of a walk -/
theorem takeZ_yes {i : Nat} {oi : Oper} {v : Value} {fuel : Nat} {listed : Array Bool} {a : Act} {w : World} (hi : ops.toList[i]? = some oi)
    (hs : Region.noSelect ops = true) (hf : Region.free md ops listed i = true) (hr : (Region.ready md ops listed).contains i = true)
    (hz : (closedB md ops listed && waits md ops ops.size z i) = true)
    (hQ : ∀ c a w, Q (.panic c) (a.put oi.dst v) w → Q (.panic c) a w) (hw : Region.wanted oi (yielded ops a.tmps) = true) (hy : ∀ w, S w → (execOp a.eval oi).run P w = .ok (.value v) w) (hS : S w)
    (h : wpAnyZ P md ops Q S z fuel (listed.setIfInBounds i true) (a.put oi.dst v) w) : wpAnyZ P md ops Q S z (fuel + 1) listed a w := by
  rw [Bool.and_eq_true] at hz
  have hi' : ops[i]? = some oi := by simpa using hi
  exact wpAnyZ_first hi' (Region.noSelect_spec hs) hQ hz.2 fuel listed a w (closed_of hz.1) (Region.free_spec hi' hf) (by simpa using hr) (Or.inl ⟨hw, hy⟩) hS h

def AllReadyZ (P : Program) (md : Region.Mode) (ops : Array Oper) (Q : Exit → Act → World → Prop) (S : World → Prop) (z : Nat) (fuel : Nat) (listed : Array Bool) (a : Act) (w : World) (rs : List Nat) : Prop :=
  ∀ i ∈ rs, wpOp P ops Q i (fun a' w' => (i ≠ z → S w') ∧ wpAnyZ P md ops Q S z fuel (listed.setIfInBounds i true) a' w') a w
theorem AllReadyZ.nil {fuel : Nat} {listed : Array Bool} {a : Act} {w : World} : AllReadyZ P md ops Q S z fuel listed a w [] := fun _ h => by cases h
theorem AllReadyZ.cons {fuel : Nat} {listed : Array Bool} {a : Act} {w : World} {i : Nat} {o : Oper} {rs : List Nat} (ho : ops.toList[i]? = some o)
    (h : ∀ K' : Act → World → Prop, Shut (∀ a w, S w → (S w → wpAnyZ P md ops Q S z fuel (listed.setIfInBounds i true) a w) → K' a w) → if Region.wanted o (yielded ops a.tmps) = true then Oper.wp P o a w K' Q else K' (a.put o.dst undef) w)
    (hs : AllReadyZ P md ops Q S z fuel listed a w rs) : AllReadyZ P md ops Q S z fuel listed a w (i :: rs) := fun j hj => by
  rcases List.mem_cons.1 hj with rfl | hj
  · exact wpOp_step (by simpa using ho) (fun K' hK => h K' (fun a w hS hW => hK a w ⟨fun _ => hS, hW hS⟩))
  · exact hs j hj
/-- The last one. -/
theorem AllReadyZ.last {fuel : Nat} {listed : Array Bool} {a : Act} {w : World} {o : Oper} (ho : ops.toList[z]? = some o)
    (h : ∀ K' : Act → World → Prop, Shut (∀ a w, wpAnyZ P md ops Q S z fuel (listed.setIfInBounds z true) a w → K' a w) → if Region.wanted o (yielded ops a.tmps) = true then Oper.wp P o a w K' Q else K' (a.put o.dst undef) w) :
    AllReadyZ P md ops Q S z fuel listed a w [z] := fun j hj => by
  obtain rfl : j = z := by simpa using hj
  exact wpOp_step (by simpa using ho) (fun K' hK => h K' (fun a w hW => hK a w ⟨fun e => absurd rfl e, hW⟩))
theorem wpAnyZ_ready {rs : List Nat} {fuel : Nat} {listed : Array Bool} {a : Act} {w : World} (hr : Region.ready md ops listed = rs) (hne : rs ≠ [])
    (h : AllReadyZ P md ops Q S z fuel listed a w rs) : wpAnyZ P md ops Q S z (fuel + 1) listed a w := ⟨fun h0 => absurd (hr ▸ h0) hne, hr ▸ h⟩
theorem wpAnyZ_done {listed : Array Bool} {a : Act} {w : World} (hr : Region.ready md ops listed = []) (h : Q .normal a w) : ∀ fuel, wpAnyZ P md ops Q S z fuel listed a w
  | 0 => ⟨hr, h⟩
  | _ + 1 => ⟨fun _ => h, by rw [hr]; simp⟩
theorem wp_region_z {id : Nat} {a : Act} {w : World} (z : Nat) (hm : P.follows .mixedOrders = true) (hS : S w.drew)
    (h : S w.drew → wpAnyZ P .any ops Q S z ops.size (Array.replicate ops.size false) a w.drew) : (Code.region id ops true).wp P Q a w :=
  wp_region_any hm (wpAny_of_z _ _ _ _ (h hS))
end

end Go.Proofs.Ytjpfbkhjhainpaa

/-
  PLAIN MATHEMATICS FOR LAYER 12, of no program: an image as its bytes, its bytes as they were, and the words that were set; what each call does to it; that the words made noughts again give what was, and laid over what was give what is.
-/
set_option linter.unusedVariables false
set_option maxRecDepth 100000
namespace Go.Proofs.Ytjpfbkhjhainpaa
open Go.RowKit

/-- An image. -/
structure IM where
  b : List Int
  was : List Int
  words : List Nat
  lim : Nat

/-- The word at a place; 0, if there is none. -/
def IM.word (m : IM) (i : Int) : Int := gnum m.b i 8
/-- May a word be set there? -/
def IM.may (m : IM) (i : Int) : Bool := gok m.b.length i 8 && decide (i % 8 = 0) && decide (192 ≤ i)
/-- What Set answers. -/
def IM.setE (m : IM) (i : Int) : Int := if m.may i then (if m.word i = 0 then 0 else 7) else 1
/-- What a word set makes of it. -/
def IM.put8 (m : IM) (k : Nat) (n : Int) : IM := { m with b := splice m.b k (bts n 8), words := if k < m.was.length then m.words ++ [k] else m.words }
def IM.set (m : IM) (i n : Int) : IM := if m.setE i = 0 then m.put8 i.toNat n else m
/-- What Put answers of bytes. -/
def IM.putE (m : IM) (x : List Int) : Int := if x = [] then 1 else if m.lim < m.b.length + x.length then 21 else 0
def IM.putA (m : IM) (x : List Int) : Int := if m.putE x = 0 then m.b.length else 0
def IM.add (m : IM) (x : List Int) : IM := { m with b := m.b ++ x }
def IM.put (m : IM) (x : List Int) : IM := if m.putE x = 0 then m.add x else m
def IM.done (m : IM) : IM := { m with was := m.b, words := [] }
def IM.back (m : IM) : IM := { m with b := m.was, words := [] }

/-- Does a place lie in one of some words? -/
def touched (ws : List Nat) (j : Nat) : Bool := ws.any fun k => decide (k ≤ j) && decide (j < k + 8)
theorem touched_snoc (ws : List Nat) (k j : Nat) : touched (ws ++ [k]) j = (touched ws j || (decide (k ≤ j) && decide (j < k + 8))) := by simp [touched]
theorem touched_cons (ws : List Nat) (k j : Nat) : touched (k :: ws) j = ((decide (k ≤ j) && decide (j < k + 8)) || touched ws j) := by simp [touched]

theorem splice_len (l cs : List Int) (k : Nat) (h : k + cs.length ≤ l.length) : (splice l k cs).length = l.length := by
  unfold splice; simp only [List.length_append, List.length_take, List.length_drop]; omega
theorem lev_zero : ∀ {l : List Int}, AreB l → lev l = 0 → ∀ z ∈ l, z = 0
  | [], _, _, z, h => by cases h
  | x :: r, hb, h, z, hz => by
    have hx := hb x (by simp)
    have hr : AreB r := fun y hy => hb y (by simp [hy])
    have h0 := lev_bound r hr
    simp only [lev] at h
    rcases List.mem_cons.1 hz with rfl | hz
    · omega
    · exact lev_zero hr (by omega) z hz
theorem nz_of_all {l : List Int} (h : ∀ z ∈ l, z = 0) (j : Nat) : nz l j = 0 := by
  by_cases hj : j < l.length
  · rw [nz_in hj]; exact h _ (List.getElem_mem hj)
  · exact nz_out (by omega)

theorem IM.may_at {m : IM} {i : Int} (h : m.may i = true) : ∃ k : Nat, i = k ∧ k + 8 ≤ m.b.length ∧ k % 8 = 0 ∧ 192 ≤ k := by
  simp [IM.may, gok] at h
  exact ⟨i.toNat, by omega, by omega, by omega, by omega⟩
/-- A word that is 0: its bytes are noughts. -/
theorem word_zero {b : List Int} (hb : AreB b) {k : Nat} (hk : k + 8 ≤ b.length) (h : gnum b k 8 = 0) : ∀ j, k ≤ j → j < k + 8 → nz b j = 0 := by
  have hok : gok b.length (k : Int) 8 = true := by simp [gok]; omega
  unfold gnum at h
  rw [hok] at h
  have h2 : lev ((b.drop k).take 8) = 0 := by simpa using h
  intro j h1 h3
  have h4 := nz_of_all (lev_zero ((hb.drop k).take 8) h2) (j - k)
  rw [nz_take, nz_drop, if_pos (by omega)] at h4
  rwa [show k + (j - k) = j by omega] at h4

/-- What holds of every image that calls have led to. -/
structure IM.Good (m : IM) : Prop where
  bb : AreB m.b
  wb : AreB m.was
  le : m.was.length ≤ m.b.length
  ws : ∀ k ∈ m.words, k < m.was.length ∧ k + 8 ≤ m.b.length ∧ k % 8 = 0 ∧ 192 ≤ k
  un : ∀ j, j < m.was.length → nz m.was j = if touched m.words j then 0 else nz m.b j

theorem IM.good_new {b : List Int} (hb : AreB b) (lim : Nat) : (⟨b, b, [], lim⟩ : IM).Good := ⟨hb, hb, Nat.le_refl _, fun k hk => (by cases hk), fun j _ => (by simp [touched])⟩
theorem IM.Good.done {m : IM} (h : m.Good) : m.done.Good := IM.good_new h.bb m.lim
theorem IM.Good.back {m : IM} (h : m.Good) : m.back.Good := IM.good_new h.wb m.lim
theorem IM.Good.add {m : IM} (h : m.Good) {x : List Int} (hx : AreB x) : (m.add x).Good :=
  ⟨h.bb.append hx, h.wb, (by show m.was.length ≤ (m.b ++ x).length; rw [List.length_append]; have := h.le; omega), fun k hk => by
    have h2 := h.ws k hk
    show _ ∧ k + 8 ≤ (m.b ++ x).length ∧ _
    rw [List.length_append]
    exact ⟨h2.1, by omega, h2.2.2⟩, fun j hj => by
    show nz m.was j = if touched m.words j then 0 else nz (m.b ++ x) j
    have hj2 : j < m.was.length := hj
    have := h.le
    rw [nz_append, if_pos (show j < m.b.length by omega)]
    exact h.un j hj2⟩
theorem IM.Good.put {m : IM} (h : m.Good) {x : List Int} (hx : AreB x) : (m.put x).Good := by
  unfold IM.put; split
  · exact h.add hx
  · exact h
theorem IM.Good.put8 {m : IM} (h : m.Good) {k : Nat} {n : Int} (hk : k + 8 ≤ m.b.length) (h8 : k % 8 = 0) (h0 : 192 ≤ k) (hz : gnum m.b k 8 = 0) : (m.put8 k n).Good := by
  have l8 : (bts n 8).length = 8 := by rw [bts_length]; rfl
  have hl : (splice m.b k (bts n 8)).length = m.b.length := splice_len _ _ _ (by omega)
  have hw := word_zero h.bb hk hz
  refine ⟨splice_bytes h.bb (bts_bytes _ _) _, h.wb, ?_, ?_, ?_⟩
  · show m.was.length ≤ (splice m.b k (bts n 8)).length; rw [hl]; exact h.le
  · intro q hq
    show q < m.was.length ∧ q + 8 ≤ (splice m.b k (bts n 8)).length ∧ _
    rw [hl]
    have hq' : q ∈ (if k < m.was.length then m.words ++ [k] else m.words) := hq
    split at hq'
    · rcases List.mem_append.1 hq' with h1 | h1
      · exact h.ws q h1
      · simp at h1; subst h1; exact ⟨by assumption, hk, h8, h0⟩
    · exact h.ws q hq'
  · intro j hj
    have hj : j < m.was.length := hj
    show nz m.was j = if touched (if k < m.was.length then m.words ++ [k] else m.words) j then 0 else nz (splice m.b k (bts n 8)) j
    rw [nz_splice _ _ _ _ (by omega), l8, h.un j hj]
    by_cases hc : k ≤ j ∧ j < k + 8
    · rw [if_pos (show k < m.was.length by omega), touched_snoc, decide_eq_true hc.1, decide_eq_true hc.2, hw j hc.1 hc.2]
      simp
    · rw [if_neg hc]
      have e : touched (if k < m.was.length then m.words ++ [k] else m.words) j = touched m.words j := by
        split
        · rw [touched_snoc]
          have : (decide (k ≤ j) && decide (j < k + 8)) = false := by simp; omega
          rw [this, Bool.or_false]
        · rfl
      rw [e]
theorem IM.setE_may {m : IM} {i : Int} (h : m.setE i = 0) : m.may i = true ∧ m.word i = 0 := by
  unfold IM.setE at h
  split at h
  · split at h
    · exact ⟨by assumption, by assumption⟩
    · omega
  · omega
theorem IM.Good.set {m : IM} (h : m.Good) (i n : Int) : (m.set i n).Good := by
  unfold IM.set; split
  · obtain ⟨h1, h2⟩ := IM.setE_may (by assumption)
    obtain ⟨k, rfl, h3, h4, h5⟩ := IM.may_at h1
    exact h.put8 h3 h4 h5 h2
  · exact h

/-- Words made noughts. -/
def zeroW (b : List Int) (ws : List Nat) : List Int := ws.foldl (fun L k => splice L k (List.replicate 8 0)) b
/-- Words of b laid over other bytes. -/
def layW (b L : List Int) (ws : List Nat) : List Int := ws.foldl (fun L k => splice L k ((b.drop k).take 8)) L

theorem zeroW_length : ∀ (ws : List Nat) (b : List Int), (∀ k ∈ ws, k + 8 ≤ b.length) → (zeroW b ws).length = b.length
  | [], _, _ => rfl
  | k :: ws, b, h => by
    have hk := h k (by simp)
    have e : (splice b k (List.replicate 8 0)).length = b.length := splice_len _ _ _ (by rw [List.length_replicate]; exact hk)
    have := zeroW_length ws (splice b k (List.replicate 8 0)) (fun q hq => by rw [e]; exact h q (by simp [hq]))
    exact this.trans e
theorem nz_zeroW : ∀ (ws : List Nat) (b : List Int), (∀ k ∈ ws, k + 8 ≤ b.length) → ∀ j, nz (zeroW b ws) j = if touched ws j then 0 else nz b j
  | [], _, _, j => by simp [zeroW, touched]
  | k :: ws, b, h, j => by
    have hk := h k (by simp)
    have e : (splice b k (List.replicate 8 0)).length = b.length := splice_len _ _ _ (by rw [List.length_replicate]; exact hk)
    have h1 := nz_zeroW ws (splice b k (List.replicate 8 0)) (fun q hq => by rw [e]; exact h q (by simp [hq])) j
    have h2 : zeroW b (k :: ws) = zeroW (splice b k (List.replicate 8 0)) ws := rfl
    rw [h2, h1, touched_cons, nz_splice _ _ _ _ (by omega), List.length_replicate, nz_zeros]
    by_cases hc : k ≤ j ∧ j < k + 8
    · rw [decide_eq_true hc.1, decide_eq_true hc.2, if_pos hc]; simp
    · rw [if_neg hc, show (decide (k ≤ j) && decide (j < k + 8)) = false by simp; omega, Bool.false_or]
theorem layW_length (b : List Int) : ∀ (ws : List Nat) (L : List Int), L.length = b.length → (∀ k ∈ ws, k + 8 ≤ b.length) → (layW b L ws).length = b.length
  | [], _, h, _ => h
  | k :: ws, L, hL, h => by
    have hk := h k (by simp)
    have e : (splice L k ((b.drop k).take 8)).length = b.length := (splice_len _ _ _ (by rw [List.length_take, List.length_drop]; omega)).trans hL
    exact layW_length b ws _ e (fun q hq => h q (by simp [hq]))
theorem nz_layW (b : List Int) : ∀ (ws : List Nat) (L : List Int), L.length = b.length → (∀ k ∈ ws, k + 8 ≤ b.length) → ∀ j, nz (layW b L ws) j = if touched ws j then nz b j else nz L j
  | [], _, _, _, j => by simp [layW, touched]
  | k :: ws, L, hL, h, j => by
    have hk := h k (by simp)
    have l8 : ((b.drop k).take 8).length = 8 := by rw [List.length_take, List.length_drop]; omega
    have e : (splice L k ((b.drop k).take 8)).length = b.length := (splice_len _ _ _ (by omega)).trans hL
    have h1 := nz_layW b ws (splice L k ((b.drop k).take 8)) e (fun q hq => h q (by simp [hq])) j
    have h2 : layW b L (k :: ws) = layW b (splice L k ((b.drop k).take 8)) ws := rfl
    rw [h2, h1, touched_cons, nz_splice _ _ _ _ (by omega), l8]
    by_cases hc : k ≤ j ∧ j < k + 8
    · rw [decide_eq_true hc.1, decide_eq_true hc.2, if_pos hc, nz_take, if_pos (show j - k < 8 by omega), nz_drop, show k + (j - k) = j by omega]; simp
    · rw [if_neg hc, show (decide (k ≤ j) && decide (j < k + 8)) = false by simp; omega, Bool.false_or]

/-- Its words made noughts, cut at what was: what was. -/
theorem IM.Good.undo {m : IM} (h : m.Good) : (zeroW m.b m.words).take m.was.length = m.was := by
  have hw : ∀ k ∈ m.words, k + 8 ≤ m.b.length := fun k hk => (h.ws k hk).2.1
  have hl := h.le
  refine ext_nz (by rw [List.length_take, zeroW_length _ _ hw]; omega) fun j hj => ?_
  rw [List.length_take, zeroW_length _ _ hw] at hj
  rw [nz_take, if_pos (by omega), nz_zeroW _ _ hw, h.un j (by omega)]
/-- Its words laid over what was, with what is new behind it: what is (P12.5). -/
theorem IM.Good.lay {m : IM} (h : m.Good) : layW m.b (m.was ++ m.b.drop m.was.length) m.words = m.b := by
  have hw : ∀ k ∈ m.words, k + 8 ≤ m.b.length := fun k hk => (h.ws k hk).2.1
  have hl := h.le
  have hL : (m.was ++ m.b.drop m.was.length).length = m.b.length := by rw [List.length_append, List.length_drop]; omega
  refine ext_nz (layW_length _ _ _ hL hw) fun j hj => ?_
  rw [nz_layW _ _ _ hL hw]
  split
  · rfl
  · rw [nz_append]
    split
    · rw [h.un j (by assumption), if_neg (by assumption)]
    · rw [nz_drop]; congr 1; omega

end Go.Proofs.Ytjpfbkhjhainpaa

/-
  LAYER 12: HOW AN IMAGE LIES IN MEMORY, the program's and the document's: a block of nine cells, and the rows that they hold; what each keeps when something else turns.
-/
set_option linter.unusedVariables false
set_option maxRecDepth 100000
set_option linter.unusedSimpArgs false
namespace Go.Proofs.Ytjpfbkhjhainpaa
open Go.RowKit

/-- Places, as numbers. -/
def nats (l : List Nat) : List Int := l.map Int.ofNat
theorem nats_length (l : List Nat) : (nats l).length = l.length := by simp [nats]
theorem nats_snoc (l : List Nat) (k : Nat) : nats (l ++ [k]) = nats l ++ [(k : Int)] := by simp [nats]
theorem nats_get {l : List Nat} {j : Nat} (h : j < l.length) : (nats l).getD j 0 = (l.getD j 0 : Nat) := by
  simp [nats, List.getD_eq_getElem?_getD, List.getElem?_eq_getElem h]

/-- The cells of the program's image, of the document's. -/
abbrev imC (i k d f h : Int) (L : Nat) (bv : Value) (old : Nat) (sv : Value) : Array Value := #[.int .u64 i, .int .u64 k, .int .i64 d, .int .i64 f, .int .u64 h, .int .i64 (L : Int), bv, .int .i64 (old : Int), sv]
abbrev rimC (i k d f h : Int) (bv wv : Value) (L : Nat) (sv : Value) : Array Value := #[.int .u64 i, .int .u64 k, .int .i64 d, .int .i64 f, .int .u64 h, bv, wv, .int .i64 (L : Int), sv]

section
variable {w w1 w' : World} {base p : Nat} {S T : Nat → Prop} {i k d f h : Int} {m : IM} {bv wv sv v' : Value}

/-- The cells of a block of nine. -/
theorem nine {w : World} {g : Nat} {t : TypeId} {a0 a1 a2 a3 a4 a5 a6 a7 a8 : Value} (H : Blk w g t #[a0, a1, a2, a3, a4, a5, a6, a7, a8]) :
    (w.cell? ⟨g, 0, none⟩ = some a0 ∧ w.cell? ⟨g, 1, none⟩ = some a1 ∧ w.cell? ⟨g, 2, none⟩ = some a2 ∧ w.cell? ⟨g, 3, none⟩ = some a3 ∧ w.cell? ⟨g, 4, none⟩ = some a4 ∧ w.cell? ⟨g, 5, none⟩ = some a5 ∧ w.cell? ⟨g, 6, none⟩ = some a6 ∧ w.cell? ⟨g, 7, none⟩ = some a7 ∧ w.cell? ⟨g, 8, none⟩ = some a8) ∧
    (w.frozen? ⟨g, 5, none⟩ = false ∧ w.frozen? ⟨g, 6, none⟩ = false ∧ w.frozen? ⟨g, 7, none⟩ = false ∧ w.frozen? ⟨g, 8, none⟩ = false) :=
  ⟨⟨H.cell 0, H.cell 1, H.cell 2, H.cell 3, H.cell 4, H.cell 5, H.cell 6, H.cell 7, H.cell 8⟩, H.frozen 5, H.frozen 6, H.frozen 7, H.frozen 8⟩

/-! ### the program's -/
/-! ### the document's -/
end

end Go.Proofs.Ytjpfbkhjhainpaa

/-
  LAYER 12: WHAT Tail, Bytes, Head, word, Word AND lay OF PACKAGE image DO, of a nil image too: contracts.
-/
set_option linter.unusedVariables false
set_option maxRecDepth 100000
set_option linter.unusedSimpArgs false
namespace Go.Proofs.Ytjpfbkhjhainpaa
open Go.RowKit

theorem imByteOne : (Try.prog.info? 5).map (·.size) = some 1 := by kernel_rfl

/-- Five cells are stored. -/
theorem st5 {w : World} {g : Nat} {t : TypeId} {a b c d e a' b' c' d' e' : Value} (h : Blk w g t #[a, b, c, d, e]) :
    Blk (((((w.setCell ⟨g, 0, none⟩ a').setCell ⟨g, 1, none⟩ b').setCell ⟨g, 2, none⟩ c').setCell ⟨g, 3, none⟩ d').setCell ⟨g, 4, none⟩ e') g t #[a', b', c', d', e'] := by
  have := ((((h.set_ 0 a').set_ 1 b').set_ 2 c').set_ 3 d').set_ 4 e'
  simpa using this
theorem st5_below {B : Nat} {w0 w : World} {g : Nat} {a' b' c' d' e' : Value} (h : Below B w0 w) (hg : B ≤ g) :
    Below B w0 (((((w.setCell ⟨g, 0, none⟩ a').setCell ⟨g, 1, none⟩ b').setCell ⟨g, 2, none⟩ c').setCell ⟨g, 3, none⟩ d').setCell ⟨g, 4, none⟩ e') :=
  ((((h.setCell (p := ⟨g, 0, none⟩) hg _).setCell (p := ⟨g, 1, none⟩) hg _).setCell (p := ⟨g, 2, none⟩) hg _).setCell (p := ⟨g, 3, none⟩) hg _).setCell (p := ⟨g, 4, none⟩) hg _

section
variable {base p : Nat} {S : Nat → Prop} {i k d f h : Int} {m : IM} {bv sv : Value}

theorem bts8_length (x : Int) : (bts x 8).length = 8 := by rw [bts_length]; rfl

end

end Go.Proofs.Ytjpfbkhjhainpaa

/-
  LAYER 12: WHAT Set OF PACKAGE image DOES: its contract.
-/
set_option linter.unusedVariables false
set_option maxRecDepth 100000
set_option linter.unusedSimpArgs false
namespace Go.Proofs.Ytjpfbkhjhainpaa
open Go.RowKit

theorem placeInfo : (Try.prog.info? 3).map (fun i => (i.zero, i.size, i.bytes)) = some (some (.int .i64 0), 1, 8) := by kernel_rfl

section
variable {base p : Nat} {S : Nat → Prop} {i k d f h : Int} {m : IM} {bv sv : Value}

end

end Go.Proofs.Ytjpfbkhjhainpaa

/-
  LAYER 12: WHAT Put OF PACKAGE image DOES: its contract.
-/
set_option linter.unusedVariables false
set_option maxRecDepth 100000
set_option linter.unusedSimpArgs false
namespace Go.Proofs.Ytjpfbkhjhainpaa
open Go.RowKit

theorem encO_length {ok : Int} {ws rs is : List Int} (hr : rightN ok ws.length rs.length is.length = true) : (encO ok ws rs is).length = bareN ok rs.length is.length + padn (bareN ok rs.length is.length) 8 := by
  obtain ⟨h1, -⟩ := rightN_len hr
  unfold encO
  rw [List.length_append, List.length_replicate, headO_length, h1]
  have e : 16 + 8 * kwN ok + rs.length + 8 * is.length = bareN ok rs.length is.length := by unfold bareN frontN; omega
  rw [e]
theorem encO_algn {ok : Int} {ws rs is : List Int} (hr : rightN ok ws.length rs.length is.length = true) : algn (bareN ok rs.length is.length : Nat) = ((encO ok ws rs is).length : Nat) := by
  rw [encO_length hr, algn_pad]
theorem encO_pos {ok : Int} {ws rs is : List Int} : encO ok ws rs is ≠ [] := by
  intro h
  have := congrArg List.length h
  unfold encO at this
  rw [List.length_append, headO_length] at this
  simp at this
theorem encO_le {ok : Int} {ws rs is : List Int} (hr : rightN ok ws.length rs.length is.length = true) : (encO ok ws rs is).length ≤ 20000 := by
  obtain ⟨h1, h2, h3, h4⟩ := rightN_len hr
  have := frontN_le ok
  rw [encO_length hr, padn_eight]
  unfold bareN; omega

section
variable {base p : Nat} {S : Nat → Prop} {i k d f h : Int} {m : IM} {bv sv : Value}

end

end Go.Proofs.Ytjpfbkhjhainpaa

/-
  LAYER 12: WHAT Object AND At OF PACKAGE image DO: contracts.
-/
set_option linter.unusedVariables false
set_option maxRecDepth 100000
set_option linter.unusedSimpArgs false
namespace Go.Proofs.Ytjpfbkhjhainpaa
open Go.RowKit

/-- An object stands there. -/
def IM.there (m : IM) (D F : Int) (j k s : Nat) : Prop := 256 + 8 * (D + F) ≤ (j : Int) ∧ DecAt m.b j k s ∧ decB m.b j k s = true
/-- No object stands there. -/
def IM.bare (m : IM) (D F : Int) (at_ : Int) : Prop := at_ < 256 + 8 * (D + F) ∨ ∀ j k s, at_ = (j : Nat) → DecAt m.b j k s → decB m.b j k s = false
theorem IM.there_or (m : IM) (D F at_ : Int) (hD : 0 ≤ D) (hF : 0 ≤ F) : m.bare D F at_ ∨ ∃ j k s : Nat, at_ = (j : Nat) ∧ m.there D F j k s := by
  by_cases h : at_ < 256 + 8 * (D + F)
  · exact .inl (.inl h)
  · by_cases h2 : ∃ j k s : Nat, at_ = (j : Nat) ∧ DecAt m.b j k s ∧ decB m.b j k s = true
    · obtain ⟨j, k, s, rfl, h3, h4⟩ := h2
      exact .inr ⟨j, k, s, rfl, by omega, h3, h4⟩
    · refine .inl (.inr fun j k s e hd => ?_)
      cases hb : decB m.b j k s
      · rfl
      · exact absurd ⟨j, k, s, e, hd, hb⟩ h2

/-- What Object tells of an object that stands there. -/
def ObTold (m : IM) (j k s : Nat) (w : World) (e : Ending) (w' : World) : Prop :=
  ∃ A1 n1 c1 A2 n2 c2 A3 n3 c3, e = .returned (.tuple #[obV k A1 n1 c1 A2 n2 c2 A3 n3 c3, .bool true]) ∧ Below w.heap.size w w' ∧ ObOwn w' w.heap.size A1 n1 c1 (dW (objB m.b j s) k) A2 n2 c2 (dR (objB m.b j s) k) A3 n3 c3 (dI (objB m.b j s) k)

section
variable {base p : Nat} {S : Nat → Prop} {i k d f h : Int} {m : IM} {bv sv : Value}

/-- What a call holds in its own result's variable. -/
theorem put4_below {w w7 : World} {t : TypeId} {z0 z1 z2 z3 a0 a1 a2 a3 : Value} (hR : Blk w7 w.heap.size t #[z0, z1, z2, z3]) (hb : Below w.heap.size w w7) :
    Below w.heap.size w ((((w7.setCell ⟨w.heap.size, 0, none⟩ a0).setCell ⟨w.heap.size, 1, none⟩ a1).setCell ⟨w.heap.size, 2, none⟩ a2).setCell ⟨w.heap.size, 3, none⟩ a3) :=
  hb.trans ((put4 hR).2.below hb.size (fun j _ e => by rw [e]; exact Nat.le_refl _))

/-! ### At -/
theorem wrap_u64_of {x : Int} (h0 : 0 ≤ x) (h1 : x ≤ 140737488355328) : IntKind.u64.wrap x = x := by rw [IntKind.wrap_u64]; omega
theorem wrap_i64_of {x : Int} (h0 : 0 ≤ x) (h1 : x ≤ 140737488355328) : IntKind.i64.wrap x = x := by rw [IntKind.wrap_i64]; omega

end

end Go.Proofs.Ytjpfbkhjhainpaa

/-
  LAYER 12: WHAT unchanged, New, Load AND Copy OF PACKAGE image DO: contracts.
-/
set_option linter.unusedVariables false
set_option maxRecDepth 100000
set_option linter.unusedSimpArgs false
namespace Go.Proofs.Ytjpfbkhjhainpaa
open Go.RowKit

/-- How many bytes a new image has; which. -/
def newK (d f : Int) : Nat := (256 + 8 * (d + f)).toNat
def newB (i k d f h : Int) : List Int := encH i k d f h ++ List.replicate (newK d f - 64) 0
theorem newK_eq {d f : Int} (hr : rightH d f = true) : 256 + 8 * (d + f) = (newK d f : Int) ∧ 272 ≤ newK d f ∧ newK d f ≤ 4352 := by
  have := rightH_bd hr
  unfold newK; omega
theorem newB_length {i k d f h : Int} (hr : rightH d f = true) : (newB i k d f h).length = newK d f := by
  have := newK_eq hr
  unfold newB
  rw [List.length_append, encH_length, List.length_replicate]; omega
theorem newB_bytes (i k d f h : Int) : AreB (newB i k d f h) := (encH_bytes _ _ _ _ _).append (AreB.zeros _)
theorem newB_splice {i k d f h : Int} (hr : rightH d f = true) : splice (List.replicate (newK d f) 0) 0 (encH i k d f h) = newB i k d f h := by
  have := newK_eq hr
  unfold splice newB
  rw [List.take_zero, List.nil_append, encH_length, List.drop_replicate]

/-! ### Load -/
/-! ### New -/
end Go.Proofs.Ytjpfbkhjhainpaa
