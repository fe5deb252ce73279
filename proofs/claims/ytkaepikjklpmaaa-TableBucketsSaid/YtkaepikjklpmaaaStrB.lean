/-
  TEXTS AS NUMBERS: a text's bytes as a list of numbers, and what '[]byte(s)' of one lays in memory. Of no layer.
-/
import Derived.Test.YtkaepikjklpmaaaTabLaw
import Derived.Laws.IdiomStrings
import Derived.OpenShut
import Derived.Deep.Slices
import Derived.Deep.Grids
set_option linter.unusedVariables false
set_option maxRecDepth 100000
set_option linter.unusedSimpArgs false
namespace Go.Proofs.Ytkaepikjklpmaaa
open Go.RowKit Go.ChangeShapes Go.WideShapes Go.Deep

/-- The bytes of a text. -/
def nums (s : ByteArray) : List Int := s.data.toList.map fun b => (b.toNat : Int)
theorem nums_length (s : ByteArray) : (nums s).length = s.size := by unfold nums; rw [List.length_map, Array.length_toList]; rfl
theorem nums_bytes (s : ByteArray) : AreB (nums s) := by
  intro z hz
  obtain ⟨b, -, rfl⟩ := List.mem_map.1 hz
  have := b.toNat_lt
  exact ⟨by omega, by omega⟩
theorem str_nums (s : ByteArray) : strOfNums (nums s) = s := by
  apply ByteArray.ext
  apply Array.toList_inj.1
  rw [strOfNums_data]
  unfold nums
  rw [List.map_map]
  have : ((fun n : Int => UInt8.ofNat n.toNat) ∘ fun b : UInt8 => (b.toNat : Int)) = id := by funext b; simp
  rw [this, List.map_id]
theorem beq_nums (s t : ByteArray) : (s.toList == t.toList) = decide (nums s = nums t) := by
  have h := strOfNums_beq (nums_bytes s) (nums_bytes t)
  rwa [str_nums, str_nums] at h
theorem nums_str {zs : List Int} (h : AreB zs) : nums (strOfNums zs) = zs := by
  unfold nums
  rw [strOfNums_data, List.map_map]
  induction zs with
  | nil => rfl
  | cons z l ih =>
    have hz := h z (by simp)
    simp only [List.map_cons]
    rw [ih (fun y hy => h y (by simp [hy]))]
    congr 1
    simp only [Function.comp]
    simp only [UInt8.toNat_ofNat']
    omega

/-- How much a new row may hold; the world behind '[]byte(s)'. -/
def capS (w : World) (s : ByteArray) : Nat := grownCap w s.size 0 5
def textW (w : World) (s : ByteArray) : World := w.drew.alloc (.cells (bytesRow s (capS w s)) 5 ((bytesRow s (capS w s)).size, (bytesRow s (capS w s)).size + 1))

theorem conv_text (s : ByteArray) (w : World) : (convert 9 39 (.string s)).run Try.prog w = .ok (.slice (some ⟨w.heap.size, 0, none⟩) s.size (capS w s)) (textW w s) :=
  run_bytes_of_string w 9 39 5 s Try.underlying9 Try.underlying39 Try.underlying5
theorem capS_le {w : World} {s : ByteArray} (h : s.size ≤ maxLen) : s.size ≤ capS w s ∧ capS w s ≤ 9223372036854775807 := by
  have h1 := grownCap_ge w s.size 0 5
  have h2 := grownCap_le_maxLen w s.size 0 5 h
  unfold maxLen at h2
  unfold capS
  omega
theorem textW_size (w : World) (s : ByteArray) : (textW w s).heap.size = w.heap.size + 1 := by unfold textW; simp
theorem textW_below (w : World) (s : ByteArray) : Below w.heap.size w (textW w s) := by
  unfold textW
  exact (below_drewn (Below.refl _ w) 1).alloc (Nat.le_refl _) _
theorem textW_reads (w : World) (s : ByteArray) : Reads (textW w s) (textW w s).heap.size 1 (some ⟨w.heap.size, 0, none⟩) s.size (cellsOf .u8 (nums s)) := by
  rw [textW_size]
  refine reads_at (Nat.lt_succ_self _) (nums_length s) fun i hi => ?_
  have hh : (textW w s).heap[w.heap.size]? = some (.cells (bytesRow s (capS w s)) 5 ((bytesRow s (capS w s)).size, (bytesRow s (capS w s)).size + 1)) := by
    unfold textW
    have h := World.alloc_heap_new w.drew (.cells (bytesRow s (capS w s)) 5 ((bytesRow s (capS w s)).size, (bytesRow s (capS w s)).size + 1))
    exact h
  have hi2 : i < s.data.size := hi
  have e : (bytesRow s (capS w s))[0 + i]? = some (.int .u8 ((nums s).getD i 0)) := by
    rw [Nat.zero_add]
    unfold bytesRow nums
    rw [Array.getElem?_append_left (by simpa using hi2)]
    simp [List.getD_eq_getElem?_getD, hi2]
    rw [Array.getElem?_eq_getElem hi2]
    exact ⟨_, rfl, rfl⟩
  simp [World.cell?, hh]
  simpa using e

/-- A text and a mark that came in. -/
structure TX where
  f : Bool
  s : ByteArray

/-- What a walk is told of a slice of them. -/
structure InTX (w : World) (A : Option Addr) (len cap : Nat) (l : List TX) : Prop where
  length : l.length = len
  le : len ≤ cap
  cap : cap ≤ 9223372036854775807
  ok : ∀ a ∈ l, a.s.size ≤ maxLen
  cells : 0 < len → ∃ b off, A = some ⟨b, off, none⟩ ∧ b < w.heap.size ∧ ∀ i a, l[i]? = some a → w.cell? ⟨b, off + i * 2, none⟩ = some (.bool a.f) ∧ w.cell? ⟨b, off + (i * 2 + 1), none⟩ = some (.string a.s)

section
variable {H : Type} {enc : TypeId × Value → H} {P : Program} {w : World}
theorem tx_fields {e : TypeId} {f0 f1 : Field} {fuel : Nat} {v0 v1 : Value} {x : DataW H × List MemPlace} (he : P.underlying e = some (.struct #[f0, f1])) (o0 : f0.offset = 0) (o1 : f1.offset = 1) (c0 : P.cellsOf f0.type = 1) (c1 : P.cellsOf f1.type = 1)
    (h0 : P.underlying f0.type = some .bool) (h1 : P.underlying f1.type = some .string) (hf : DataW.trod enc P w 0 (fun _ => true) true fuel e [v0, v1] = some x) : ∃ a : TX, a.s.size ≤ maxLen ∧ v0 = .bool a.f ∧ v1 = .string a.s := by
  obtain ⟨xs, n', _, _, _, hxl, hfs⟩ := DataW.trod_struct he hf
  have g0 := hfs 0 f0 rfl
  have g1 := hfs 1 f1 rfl
  match xs, hxl with
  | [y0, y1], _ =>
    rw [o0, c0] at g0
    rw [o1, c1] at g1
    simp at g0 g1
    obtain ⟨k0, e0, _⟩ := DataW.trod_bool h0 g0
    obtain ⟨k1, e1, _, w1⟩ := DataW.trod_string h1 g1
    injection e0 with e0
    injection e1 with e1
    exact ⟨⟨k0, k1⟩, w1, e0, e1⟩
theorem row_add2 (b off k : Nat) : (⟨b, off, none⟩ : Addr).add k = ⟨b, off + k, none⟩ := by unfold Addr.add; split <;> simp_all
theorem view_tx {t e : TypeId} {f0 f1 : Field} {A : Option Addr} {len cap : Nat} {d : DataW H} {p : List MemPlace} (ht : P.underlying t = some (.slice e)) (he : P.underlying e = some (.struct #[f0, f1])) (ce : P.cellsOf e = 2)
    (o0 : f0.offset = 0) (o1 : f1.offset = 1) (c0 : P.cellsOf f0.type = 1) (c1 : P.cellsOf f1.type = 1) (h0 : P.underlying f0.type = some .bool) (h1 : P.underlying f1.type = some .string)
    (h : DataW.Trod enc P w 0 (fun _ => true) true t (.slice A len cap) d p) : ∃ l, InTX w A len cap l := by
  obtain ⟨fuel, hf⟩ := h
  rcases Go.Deep.open_slice ht hf with ⟨hcs, _⟩ | ⟨a, len', cap', m, n, D, Pl, hcs, _, hl, hm, hmm, _, hi⟩
  · simp [Value.cells] at hcs
    obtain ⟨rfl, rfl, rfl⟩ := hcs
    exact ⟨[], { length := rfl, le := Nat.le_refl _, cap := by omega, ok := fun a ha => (List.not_mem_nil ha).elim, cells := fun h => absurd h (by omega) }⟩
  · simp [Value.cells] at hcs
    obtain ⟨rfl, rfl, rfl⟩ := hcs
    have hmc : m = cap := by simpa using hmm
    subst hmc
    rw [ce] at hi
    have each : ∀ i, ∃ r : TX, i < m → r.s.size ≤ maxLen ∧ w.cell? (a.add (i * 2)) = some (.bool r.f) ∧ w.cell? (a.add (i * 2 + 1)) = some (.string r.s) := by
      intro i
      by_cases him : i < m
      · obtain ⟨cs, hcc, ht'⟩ := hi i him
        obtain ⟨_, hlen, hget⟩ := World.cells?_some hcc
        match cs, hlen with
        | [v0, v1], _ =>
          obtain ⟨r, hr, rfl, rfl⟩ := tx_fields he o0 o1 c0 c1 h0 h1 ht'
          refine ⟨r, fun _ => ⟨hr, ?_, ?_⟩⟩
          · have := hget 0 (by omega); rwa [Addr.add_add] at this
          · have := hget 1 (by omega); rwa [Addr.add_add] at this
      · exact ⟨⟨false, ⟨#[]⟩⟩, fun h => absurd h him⟩
    obtain ⟨f, hfa⟩ := Classical.axiomOfChoice each
    refine ⟨(List.range len).map f, by simp, hl, by unfold maxLen at hm; omega, fun x hx => ?_, fun hn => ?_⟩
    · obtain ⟨i, hi, rfl⟩ := List.mem_map.1 hx
      exact (hfa i (by have := List.mem_range.1 hi; omega)).1
    · obtain ⟨b, off, spot⟩ := a
      have z0 := (hfa 0 (by omega)).2.1
      have hs : spot = none := by simpa [Addr.add] using World.cell?_spot z0
      subst hs
      refine ⟨b, off, rfl, ?_, fun i r hr => ?_⟩
      · rw [row_add2] at z0
        exact World.block_lt_of_cell? w _ z0
      · have hil : i < len := by
          rcases Nat.lt_or_ge i len with h | h
          · exact h
          · rw [List.getElem?_eq_none (by simpa using h)] at hr; cases hr
        simp [hil] at hr
        subst hr
        have := (hfa i (by omega)).2
        rwa [row_add2, row_add2] at this
theorem view_tx1 {r : Reach} {b0 : Nat} {t : TypeId} {f0 f1 : Field} {v : Value} {d : DataW H} {p : List MemPlace} (he : P.underlying t = some (.struct #[f0, f1])) (ce : P.cellsOf t = 2)
    (o0 : f0.offset = 0) (o1 : f1.offset = 1) (c0 : P.cellsOf f0.type = 1) (c1 : P.cellsOf f1.type = 1) (h0 : P.underlying f0.type = some .bool) (h1 : P.underlying f1.type = some .string) (hv : Value.okWide P w r b0 t v)
    (h : DataW.Trod enc P w 0 (fun _ => true) true t v d p) : ∃ (tf : Bool) (ts : ByteArray), v = .agg #[.bool tf, .string ts] ∧ ts.size ≤ maxLen := by
  obtain ⟨cs, rfl, hsz⟩ := okWide_struct he hv
  obtain ⟨l⟩ := cs
  obtain ⟨fuel, hf⟩ := h
  match l, hsz.trans ce with
  | [v0, v1], _ =>
    obtain ⟨r, hr, rfl, rfl⟩ := tx_fields he o0 o1 c0 c1 h0 h1 hf
    exact ⟨_, _, rfl, hr⟩

theorem tx_view {A : Option Addr} {len cap : Nat} {d : DataW H} {p : List MemPlace} (h : DataW.Trod enc Try.prog w 0 (fun _ => true) true 24 (.slice A len cap) d p) : ∃ l, InTX w A len cap l :=
  view_tx Try.underlying24 Try.underlying26 (by kernel_rfl) rfl rfl (by kernel_rfl) (by kernel_rfl) Try.underlying4 Try.underlying9 h
theorem tx1_view {r : Reach} {b0 : Nat} {v : Value} {d : DataW H} {p : List MemPlace} (hv : Value.okWide Try.prog w r b0 26 v) (h : DataW.Trod enc Try.prog w 0 (fun _ => true) true 26 v d p) :
    ∃ (tf : Bool) (ts : ByteArray), v = .agg #[.bool tf, .string ts] ∧ ts.size ≤ maxLen :=
  view_tx1 Try.underlying26 (by kernel_rfl) rfl rfl (by kernel_rfl) (by kernel_rfl) Try.underlying4 Try.underlying9 hv h
end

/-- The k-th text, as a round loads it. -/
theorem InTX.at_ {w wr : World} {A : Option Addr} {len cap k : Nat} {l : List TX} (h : InTX w A len cap l) (hb : Below w.heap.size w wr) (hk : k < len) :
    ∃ b off a, A = some ⟨b, off, none⟩ ∧ b < w.heap.size ∧ a ∈ l ∧ a.s.size ≤ maxLen ∧ wr.cell? ⟨b, off + k * 2, none⟩ = some (.bool a.f) ∧ wr.cell? ⟨b, off + k * 2 + 1, none⟩ = some (.string a.s) := by
  obtain ⟨a, ha⟩ : ∃ a, l[k]? = some a := ⟨_, List.getElem?_eq_getElem (by rw [h.length]; exact hk)⟩
  obtain ⟨b, off, rfl, hbB, hc⟩ := h.cells (by omega)
  obtain ⟨h0, h1⟩ := hc k a ha
  have g : ∀ o, wr.cell? ⟨b, o, none⟩ = w.cell? ⟨b, o, none⟩ := fun o => hb.cell (p := ⟨b, o, none⟩) hbB
  exact ⟨b, off, a, rfl, hbB, List.mem_of_getElem? ha, h.ok a (List.mem_of_getElem? ha), (g _).trans h0, (g _).trans h1⟩

end Go.Proofs.Ytkaepikjklpmaaa
