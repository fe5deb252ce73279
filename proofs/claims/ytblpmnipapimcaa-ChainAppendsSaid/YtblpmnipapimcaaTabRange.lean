/-
  LAYER 13: what a range over a table's objects is handed and keeps: lemmas for those who range.
-/
import Derived.Test.YtblpmnipapimcaaTabChain
set_option linter.unusedVariables false
set_option maxRecDepth 100000
set_option linter.unusedSimpArgs false
namespace Go.Proofs.Ytblpmnipapimcaa
open Go.RowKit Go.Shelf

theorem keepC_blk {n₀ : Nat} {T : Nat → Prop} {w W : World} {g : Nat} {t : TypeId} {cs : Array Value} (h : Blk w g t cs) (hk : KeepC n₀ T w W) (hg : g < n₀) (hT : ¬ T g) : Blk W g t cs :=
  (hk.block g h.lt (fun e => e.elim (fun e => by omega) hT)).trans h
theorem keepC_grown {n₀ B : Nat} {T : Nat → Prop} {w W W' : World} {row : Option Nat} (h : KeepC n₀ T w W) (hn : n₀ ≤ B) (hg : W.grownBy W' row) (hr : ∀ r, row = some r → B ≤ r) : KeepC n₀ T w W' :=
  ⟨hg.os.trans h.os, hg.tape.trans h.tape, hg.output.trans h.output, Nat.le_trans h.size hg.size, fun k hk hn' => (hg.block k (Nat.lt_of_lt_of_le hk h.size) (fun e => hn' (.inl (by have := hr k e.symm; omega)))).trans (h.block k hk hn')⟩
theorem keepC_mono {n₀ : Nat} {T T' : Nat → Prop} {w W : World} (h : KeepC n₀ T w W) (hT : ∀ k, T k → T' k) : KeepC n₀ T' w W := h.mono (fun k _ e => e.imp id (hT k))
theorem keepC_set {n₀ : Nat} {T : Nat → Prop} {w W : World} {p : Addr} (h : KeepC n₀ T w W) (hp : n₀ ≤ p.block ∨ T p.block) (u : Value) : KeepC n₀ T w (W.setCell p u) :=
  ⟨h.os, h.tape, h.output, by simp [World.setCell]; exact h.size, fun k hk hn => (Below.heap_setCell W p u k (fun e => hn (by rw [e]; exact hp))).trans (h.block k hk hn)⟩
theorem keepC_put {n₀ : Nat} {T : Nat → Prop} {w W : World} {l : Nat} (h : KeepC n₀ T w W) (hl : n₀ ≤ l) (o' : Obj) : KeepC n₀ T w (W.putObj l o') :=
  ⟨h.os, h.tape, h.output, by simp; exact h.size, fun k hk hn => (World.putObj_heap_other (fun e => hn (.inl (by omega)))).trans (h.block k hk hn)⟩

/-- What a round holds: something pure, and all but T as it was. -/
theorem own_keepC {β : Type} {n₀ B : Nat} {T : Nat → Prop} {w : World} (hn : n₀ ≤ B) (Q : β → Prop) : OwnFrom B (fun s W => Q s ∧ KeepC n₀ T w W) :=
  fun s W W' row hs hg hr => ⟨hs.1, keepC_grown hs.2 hn hg (fun r e => (hr r e).1)⟩
theorem own_blkOf {β : Type} {B g : Nat} {t : TypeId} (hg0 : g < B) (cs : β → Array Value) : OwnFrom B (fun s W => Blk W g t (cs s)) :=
  fun s W W' row hs hg hr => hs.grown hg (fun e => by have := (hr g e.symm).1; omega)
theorem own_pure {β : Type} {B : Nat} (Q : β → Prop) : OwnFrom B (fun s _ => Q s) := fun s W W' row hs _ _ => hs

theorem Blk.put_other {W : World} {g l : Nat} {t : TypeId} {cs : Array Value} {o o' : Obj} (h : Blk W g t cs) (hl : W.heap[l]? = some o) (ho : o.isCells = false) : Blk (W.putObj l o') g t cs := by
  refine (World.putObj_heap_other (fun e => ?_)).trans h
  subst e
  rw [show W.heap[g]? = some (.cells cs t (0, 0)) from h] at hl
  cases hl; cases ho

theorem TellsOb.put {its : List It} {pre : List Ob} {x : Ob} {W : World} {l : Nat} {o o' : Obj} (h : TellsOb its pre x W) (hl : W.heap[l]? = some o) (ho : o.isCells = false) : TellsOb its pre x (W.putObj l o') :=
  ⟨h.1, (ObR.put_other h.2 hl ho).upto (by simp)⟩
theorem TellsOb.alloc {its : List It} {pre : List Ob} {x : Ob} {W : World} (h : TellsOb its pre x W) (o : Obj) : TellsOb its pre x (W.alloc o) :=
  ⟨h.1, (ObR.below h.2 (boxed W o) (Nat.le_refl _)).upto (by simp)⟩

/-- Of all that is followed. -/
theorem chain_fine {m : IM} {D F : Int} {kd wd : Nat} (hb : AreB m.b) : ∀ {its : List It} {last pl : Int}, chainAt m D F kd wd last pl its → ∀ t ∈ its, AreB t.rs ∧ t.j + 16 ≤ m.b.length ∧ m.obAt D F kd t ∧ last < t.j
  | [], _, _, _, t, ht => by cases ht
  | u :: its, last, pl, ⟨h0, h1, h2, h3⟩, t, ht => by
    rcases List.mem_cons.1 ht with rfl | ht
    · have h2' := h2
      obtain ⟨s, hth, e1, e2, e3⟩ := h2
      exact ⟨by rw [← e2]; exact dR_bytes (objB_bytes hb _ _), hth.2.1.room, h2', by omega⟩
    · have := chain_fine hb h3 t ht
      exact ⟨this.1, this.2.1, this.2.2.1, by have := this.2.2.2; omega⟩
theorem TellsOb.mem {its : List It} {pre : List Ob} {x : Ob} {W : World} (h : TellsOb its pre x W) : x.t ∈ its := by
  obtain ⟨⟨rest, e⟩, -⟩ := h
  rw [← e]; simp

theorem keepC_to {n₀ N : Nat} {T : Nat → Prop} {w W : World} (h : KeepC n₀ T w W) (hN : N ≤ n₀) (hw : N ≤ w.heap.size) (hT : ∀ j, j < N → ¬ T j) : Below N w W :=
  ⟨h.os, h.tape, h.output, h.size, fun k hk => h.block k (by omega) (fun e => e.elim (fun e => by omega) (hT k hk))⟩
theorem findI_snoc {pre : List Ob} {x : Ob} {raw : List Int} {rest : List It} (h : ∀ y ∈ pre, y.t.rs ≠ raw) (hx : x.t.rs = raw) : findI ((pre ++ [x]).map (·.t) ++ rest) raw = some x.t.j := by
  rw [List.map_append, List.append_assoc]
  exact findI_some (t := x.t) (rest := rest) (fun u hu => by obtain ⟨y, hy, rfl⟩ := List.mem_map.1 hu; exact h y hy) hx
theorem findI_all {xs : List Ob} {raw : List Int} (h : ∀ y ∈ xs, y.t.rs ≠ raw) : findI (xs.map (·.t)) raw = none :=
  findI_none fun u hu => by obtain ⟨y, hy, rfl⟩ := List.mem_map.1 hu; exact h y hy

/-- Results that lie in variables of one cell each. -/
theorem results_cc {P : Program} {fn : Func} {p u : Tmp} {tp tu : TypeId} (h : fn.results = #[.cell p tp, .cell u tu]) (tmps : Array Value) (w : World) (g1 g2 : Nat) (v1 v2 : Value)
    (hp : tmps.getD p undef = .pointer (some ⟨g1, 0, none⟩)) (hu : tmps.getD u undef = .pointer (some ⟨g2, 0, none⟩))
    (h1 : (loadVar tp ⟨g1, 0, none⟩).run P w = .ok v1 w) (h2 : (loadVar tu ⟨g2, 0, none⟩).run P w = .ok v2 w) :
    (results fn tmps).run P w = .ok (.tuple #[v1, v2]) w := by
  have hp' : tmps[p]?.getD undef = .pointer (some ⟨g1, 0, none⟩) := by simpa using hp
  have hu' : tmps[u]?.getD undef = .pointer (some ⟨g2, 0, none⟩) := by simpa using hu
  simp [results, h, hp', hu', asAddr, h1, h2]
theorem results_ccc {P : Program} {fn : Func} {p u q : Tmp} {tp tu tq : TypeId} (h : fn.results = #[.cell p tp, .cell u tu, .cell q tq]) (tmps : Array Value) (w : World) (g1 g2 g3 : Nat) (v1 v2 v3 : Value)
    (hp : tmps.getD p undef = .pointer (some ⟨g1, 0, none⟩)) (hu : tmps.getD u undef = .pointer (some ⟨g2, 0, none⟩)) (hq : tmps.getD q undef = .pointer (some ⟨g3, 0, none⟩))
    (h1 : (loadVar tp ⟨g1, 0, none⟩).run P w = .ok v1 w) (h2 : (loadVar tu ⟨g2, 0, none⟩).run P w = .ok v2 w) (h3 : (loadVar tq ⟨g3, 0, none⟩).run P w = .ok v3 w) :
    (results fn tmps).run P w = .ok (.tuple #[v1, v2, v3]) w := by
  have hp' : tmps[p]?.getD undef = .pointer (some ⟨g1, 0, none⟩) := by simpa using hp
  have hu' : tmps[u]?.getD undef = .pointer (some ⟨g2, 0, none⟩) := by simpa using hu
  have hq' : tmps[q]?.getD undef = .pointer (some ⟨g3, 0, none⟩) := by simpa using hq
  simp [results, h, hp', hu', hq', asAddr, h1, h2, h3]

theorem load_int {w : World} {g : Nat} {x : Int} (h : w.cell? ⟨g, 0, none⟩ = some (.int .i64 x)) : (loadVar 3 ⟨g, 0, none⟩).run Try.prog w = .ok (.int .i64 x) w := by simp [go_sem, h]
theorem load_bool {w : World} {g : Nat} {x : Bool} (h : w.cell? ⟨g, 0, none⟩ = some (.bool x)) : (loadVar 4 ⟨g, 0, none⟩).run Try.prog w = .ok (.bool x) w := by simp [go_sem, h]
theorem load_errno {w : World} {g : Nat} {x : Int} (h : w.cell? ⟨g, 0, none⟩ = some (.int .i64 x)) : (loadVar 34 ⟨g, 0, none⟩).run Try.prog w = .ok (.int .i64 x) w := by simp [go_sem, h]

theorem tabWordInfo : (Try.prog.info? 36).map (fun i => (i.zero, i.size, i.bytes)) = some (some (.int .u64 0), 1, 8) := by kernel_rfl
theorem make_words (K : Nat) (hK : K ≤ 1000000) : ∃ Zc : Array Value, Zc.toList = cellsOf .u64 (List.replicate K 0) ∧ Zc.size = K ∧
    ∀ W : World, (Instr.makeSlice 22 (.int .i64 (K : Int)) (.int .i64 (K : Int))).run Try.prog W = .ok (.slice (some ⟨W.heap.size, 0, none⟩) K K) (W.alloc (.cells Zc 36)) := by
  obtain ⟨i0, hi, hz0, hz1, hz2⟩ := info_parts tabWordInfo
  have hZl : (madeCells (Value.int IntKind.u64 0).cells (K * 1)).toList = cellsOf .u64 (List.replicate K 0) := by
    rw [Nat.mul_one]
    show (madeCells #[Value.int IntKind.u64 0] K).toList = _
    rw [toList_madeCells_one]; simp [cellsOf]
  refine ⟨madeCells (Value.int IntKind.u64 0).cells (K * 1), hZl, ?_, fun W => ?_⟩
  · have h := congrArg List.length hZl
    rw [cellsOf_length, List.length_replicate, Array.length_toList] at h
    exact h
  · have h := run_make (P := Try.prog) W 22 36 i0 (.int .u64 0) Try.underlying22 hi hz0 .i64 .i64 (K : Int) (K : Int) (by omega) (Int.le_refl _) (by rw [hz2]; omega) (by omega)
    rw [Int.toNat_natCast, hz1] at h
    exact h
/-- A block of numbers that is known whole, as a slice of it reads. -/
theorem Blk.words {w : World} {g K : Nat} {Zc : Array Value} {zs : List Int} (h : Blk w g 36 Zc) (hl : Zc.toList = cellsOf .u64 zs) (hs : Zc.size = K) : Reads w w.heap.size 1 (some ⟨g, 0, none⟩) K (cellsOf .u64 zs) := by
  refine ⟨by rw [← hl, Array.length_toList, hs]; omega, fun _ => ⟨_, rfl, h.lt, fun j u hj => ?_⟩⟩
  have e : (⟨g, 0, none⟩ : Addr).add j = ⟨g, j, none⟩ := by unfold Addr.add; split <;> simp_all
  rw [e, h.cell]
  rw [← hl] at hj
  simpa using hj
theorem row_set (K : Nat) (hK : 2 ≤ K) (x : Int) : (cellsOf .u64 (List.replicate K 0)).set 0 (.int .u64 x) = cellsOf .u64 (x :: 0 :: List.replicate (K - 2) 0) := by
  obtain ⟨j, rfl⟩ : ∃ j, K = j + 2 := ⟨K - 2, by omega⟩
  simp [List.replicate_succ, cellsOf]
theorem two_blocks (W : World) (Za Zb : Array Value) (ta tb : TypeId) : Below W.heap.size W ((W.alloc (.cells Za ta)).alloc (.cells Zb tb)).drew ∧ Blk ((W.alloc (.cells Za ta)).alloc (.cells Zb tb)).drew W.heap.size ta Za ∧ Blk ((W.alloc (.cells Za ta)).alloc (.cells Zb tb)).drew (W.heap.size + 1) tb Zb := by
  have h := Blk.new (W.alloc (.cells Za ta)) tb Zb
  rw [World.size_alloc] at h
  exact ⟨(((Below.refl _ W).alloc (Nat.le_refl _) _).alloc (by simp) _).drew, ((Blk.new W ta Za).alloc _).drew, h.drew⟩

theorem add_obj {W : World} {gr K n c B : Nat} {A : Option Addr} {zs : List Int} {Zc : Array Value} {x : Int} (hz : Blk W gr 36 (Zc.setIfInBounds 0 (.int .u64 x))) (h1 : Zc.toList = cellsOf .u64 (List.replicate K 0)) (h2 : Zc.size = K) (hK : 2 ≤ K) (hK2 : K ≤ 5)
    (hr : Reads W B 1 A n (cellsOf .u8 zs)) (hB : B ≤ W.heap.size) (hl : n ≤ c) (hc : c ≤ 9223372036854775807) : ObR W W.heap.size (some ⟨gr, 0, none⟩) K K (x :: 0 :: List.replicate (K - 2) 0) A n c zs none 0 0 [] :=
  ⟨Blk.words hz (by rw [Array.toList_setIfInBounds, h1, row_set _ hK]) (by rw [Array.size_setIfInBounds, h2]), hr.upto hB, Reads.none_, ⟨Nat.le_refl _, by omega⟩, ⟨hl, hc⟩, ⟨Nat.le_refl _, by omega⟩⟩

theorem below_put1 {B l : Nat} {w W : World} (h : Below B w W) (hl : B ≤ l) (o' : Obj) : Below B w (W.putObj l o') :=
  h.trans ⟨rfl, rfl, rfl, by simp, fun k hk => World.putObj_heap_other (by omega)⟩

/-- The word that will lead on, as it is gone through. -/
def lkO (q : Nat) (pre : List Ob) : Nat := match pre.getLast? with
  | none => q
  | some x => x.t.j + 24
theorem lkO_eq {D : Int} {kd i : Nat} {xs : List Ob} {its : List It} {L : List TRow} (hx : xs.map (·.t) = its) (h : its.map (fun t => (t.j, t.rs)) = L.map (fun r => (r.at_, r.raw))) : lkO (tb D kd + 8 * i) xs = linkP D kd i L := by
  have e : (xs.map fun x => (x.t.j, x.t.rs)) = L.map (fun r => (r.at_, r.raw)) := by rw [← h, ← hx, List.map_map]; rfl
  have e2 := congrArg List.getLast? e
  rw [List.getLast?_map, List.getLast?_map] at e2
  unfold lkO linkP
  cases h1 : xs.getLast? with
  | none =>
    cases h2 : L.getLast? with
    | none => rfl
    | some r => rw [h1, h2] at e2; cases e2
  | some x =>
    cases h2 : L.getLast? with
    | none => rw [h1, h2] at e2; cases e2
    | some r =>
      rw [h1, h2] at e2
      simp only [Option.map_some, Option.some.injEq, Prod.mk.injEq] at e2
      show x.t.j + 24 = r.at_ + 24
      rw [e2.1]

/-- A table's image behind Put, Set and a call's own stores. -/
theorem add_end {base p : Nat} {S : Nat → Prop} {i k d f h : Int} {m1 m2 : IM} {w W6 W7 W8 W9 : World} (hf : ∀ j, S j → base ≤ j ∧ j < w.heap.size) (hb : base ≤ w.heap.size) (h6 : Chg S w W6) (h7 : IXT base S p i k d f h m1 W6 W7)
    (h8 : IXT base (grow S W6 W7) p i k d f h m2 W7 W8) (h9 : Chg (fun j => w.heap.size ≤ j ∧ j < W6.heap.size) W8 W9) : IXT base S p i k d f h m2 w W9 := by
  obtain ⟨c7, -⟩ := h7
  obtain ⟨c8, bv8, sv8, H8⟩ := h8
  have s6 := h6.size
  have s7 := c7.size
  have H9 := H8.keep h9 (fun j hj e => by
    rcases hj with hj | hj
    · rcases hj with hj | hj
      · have := (hf j hj).2; omega
      · omega
    · omega)
  refine IXT.of (w0 := w) ?_ H9 (fun j hj => ?_) hf hb
  · refine (((h6.trans c7 (fun _ _ e => e)).trans c8 (fun j hj e => ?_))).trans h9 (fun j hj e => ?_)
    · rcases e with e | e
      · exact e
      · omega
    · omega
  · rcases hj with hj | hj
    · rcases hj with hj | hj
      · exact .inl hj
      · right; omega
    · right; omega
theorem chg_set1 {T : Nat → Prop} {w W : World} {p : Addr} (h : Chg T w W) (hp : T p.block) (u : Value) : Chg T w (W.setCell p u) :=
  ⟨h.os, h.tape, h.output, by simp [World.setCell]; exact h.size, fun k hk hn => (Below.heap_setCell W p u k (fun e => hn (by rw [e]; exact hp))).trans (h.block k hk hn)⟩
theorem chg_put1 {T : Nat → Prop} {w W : World} {l : Nat} (h : Chg T w W) (hl : T l) (o' : Obj) : Chg T w (W.putObj l o') :=
  ⟨h.os, h.tape, h.output, by simp; exact h.size, fun k hk hn => (World.putObj_heap_other (fun e => hn (by rw [e]; exact hl))).trans (h.block k hk hn)⟩

theorem reads_keepC {n₀ : Nat} {T : Nat → Prop} {w W : World} {B size n : Nat} {A : Option Addr} {xs : List Value} (h : Reads w B size A n xs) (hk : KeepC n₀ T w W) (hB : B ≤ n₀) (hB2 : B ≤ w.heap.size) (hT : ∀ j, j < B → ¬ T j) : Reads W B size A n xs :=
  h.keep fun p hp => World.cell?_of_block (hk.block p.block (by omega) (fun e => e.elim (fun e => by omega) (hT _ hp)))

end Go.Proofs.Ytblpmnipapimcaa
