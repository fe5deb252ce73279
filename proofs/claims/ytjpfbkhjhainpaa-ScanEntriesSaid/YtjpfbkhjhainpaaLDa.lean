/-
  MERGED BY PROGRAM out of the texts StrD DaMath DaPlc DaEnd DaIntM DaIntern DaIntern2.
-/
import Derived.Test.YtjpfbkhjhainpaaDaBase
import Derived.Laws.IdiomStrings
import Derived.OpenShut
import Derived.Deep.Slices
import Derived.Deep.Grids
/-
  TEXTS AS NUMBERS: a text's bytes as a list of numbers, and what '[]byte(s)' of one lays in memory. Of no layer.
-/
set_option linter.unusedVariables false
set_option maxRecDepth 100000
set_option linter.unusedSimpArgs false
namespace Go.Proofs.Ytjpfbkhjhainpaa
open Go.RowKit Go.ChangeShapes Go.WideShapes Go.Deep

/-- The bytes of a text. -/
def nums (s : ByteArray) : List Int := s.data.toList.map fun b => (b.toNat : Int)
theorem nums_length (s : ByteArray) : (nums s).length = s.size := by unfold nums; rw [List.length_map, Array.length_toList]; rfl
theorem nums_bytes (s : ByteArray) : AreB (nums s) := by
  intro z hz
  obtain ⟨b, -, rfl⟩ := List.mem_map.1 hz
  have := b.toNat_lt
  exact ⟨by omega, by omega⟩
theorem str_nums (s : ByteArray) : strOfNums (nums s) = s := by
  apply ByteArray.ext
  apply Array.toList_inj.1
  rw [strOfNums_data]
  unfold nums
  rw [List.map_map]
  have : ((fun n : Int => UInt8.ofNat n.toNat) ∘ fun b : UInt8 => (b.toNat : Int)) = id := by funext b; simp
  rw [this, List.map_id]
theorem beq_nums (s t : ByteArray) : (s.toList == t.toList) = decide (nums s = nums t) := by
  have h := strOfNums_beq (nums_bytes s) (nums_bytes t)
  rwa [str_nums, str_nums] at h
theorem nums_str {zs : List Int} (h : AreB zs) : nums (strOfNums zs) = zs := by
  unfold nums
  rw [strOfNums_data, List.map_map]
  induction zs with
  | nil => rfl
  | cons z l ih =>
    have hz := h z (by simp)
    simp only [List.map_cons]
    rw [ih (fun y hy => h y (by simp [hy]))]
    congr 1
    simp only [Function.comp]
    simp only [UInt8.toNat_ofNat']
    omega

/-- How much a new row may hold; the world behind '[]byte(s)'. -/
def capS (w : World) (s : ByteArray) : Nat := grownCap w s.size 0 5
def textW (w : World) (s : ByteArray) : World := w.drew.alloc (.cells (bytesRow s (capS w s)) 5 ((bytesRow s (capS w s)).size, (bytesRow s (capS w s)).size + 1))

theorem conv_text (s : ByteArray) (w : World) : (convert 9 22 (.string s)).run Try.prog w = .ok (.slice (some ⟨w.heap.size, 0, none⟩) s.size (capS w s)) (textW w s) :=
  run_bytes_of_string w 9 22 5 s Try.underlying9 Try.underlying22 Try.underlying5
theorem capS_le {w : World} {s : ByteArray} (h : s.size ≤ maxLen) : s.size ≤ capS w s ∧ capS w s ≤ 9223372036854775807 := by
  have h1 := grownCap_ge w s.size 0 5
  have h2 := grownCap_le_maxLen w s.size 0 5 h
  unfold maxLen at h2
  unfold capS
  omega
theorem textW_size (w : World) (s : ByteArray) : (textW w s).heap.size = w.heap.size + 1 := by unfold textW; simp
theorem textW_below (w : World) (s : ByteArray) : Below w.heap.size w (textW w s) := by
  unfold textW
  exact (below_drewn (Below.refl _ w) 1).alloc (Nat.le_refl _) _
theorem textW_reads (w : World) (s : ByteArray) : Reads (textW w s) (textW w s).heap.size 1 (some ⟨w.heap.size, 0, none⟩) s.size (cellsOf .u8 (nums s)) := by
  rw [textW_size]
  refine reads_at (Nat.lt_succ_self _) (nums_length s) fun i hi => ?_
  have hh : (textW w s).heap[w.heap.size]? = some (.cells (bytesRow s (capS w s)) 5 ((bytesRow s (capS w s)).size, (bytesRow s (capS w s)).size + 1)) := by
    unfold textW
    have h := World.alloc_heap_new w.drew (.cells (bytesRow s (capS w s)) 5 ((bytesRow s (capS w s)).size, (bytesRow s (capS w s)).size + 1))
    exact h
  have hi2 : i < s.data.size := hi
  have e : (bytesRow s (capS w s))[0 + i]? = some (.int .u8 ((nums s).getD i 0)) := by
    rw [Nat.zero_add]
    unfold bytesRow nums
    rw [Array.getElem?_append_left (by simpa using hi2)]
    simp [List.getD_eq_getElem?_getD, hi2]
    rw [Array.getElem?_eq_getElem hi2]
    exact ⟨_, rfl, rfl⟩
  simp [World.cell?, hh]
  simpa using e

end Go.Proofs.Ytjpfbkhjhainpaa

/-
  LAYER 15, PLAIN: an item's field as a function of its bytes; places that lead on by the words alone.
-/
set_option linter.unusedVariables false
set_option maxRecDepth 100000
set_option linter.unusedSimpArgs false
namespace Go.Proofs.Ytjpfbkhjhainpaa
open Go.RowKit Go.Shelf

/-- The field of an item, as a function of its bytes. -/
def fldI (zs : List Int) : List Int := nums (spF (strOfNums zs))
theorem fldI_nums (s : ByteArray) : fldI (nums s) = nums (spF s) := by unfold fldI; rw [str_nums]

/-- PLACES THAT LEAD ON, by the words alone. -/
def plcs (m : IM) (wd : Nat) : Int → Int → List Nat → Prop
  | last, next, [] => ¬ (last < next ∧ next < (m.b.length : Int))
  | last, next, j :: js => last < next ∧ next = (j : Int) ∧ j < m.b.length ∧ IsU (m.word ((j + (16 + 8 * wd) : Nat) : Int)) ∧ plcs m wd j (m.word ((j + (16 + 8 * wd) : Nat) : Int)) js

section
variable {lo : Nat} {m : IM} {l : List GO}
theorem GB.plcs (H : GB lo m.b l) {wd : Nat} : ∀ {L : List GO} {last p : Int}, 0 ≤ last → (∀ r ∈ L, r ∈ l ∧ wd < r.ws.length ∧ last < r.at_) →
    L.Pairwise (fun r r' => r.at_ + r.len ≤ r'.at_) → Lk wd p L → plcs m wd last p (L.map (·.at_))
  | [], last, p, h0, _, _, hl => by
    show ¬ _
    rw [show p = 0 from hl]; omega
  | r :: L, last, p, h0, hf, hp, ⟨e, hl⟩ => by
    obtain ⟨hr, hk, hla⟩ := hf r (by simp)
    have hrf := H.fine r hr
    rw [List.pairwise_cons] at hp
    have hfr := hrf.1.front
    have hw : m.word ((r.at_ + (16 + 8 * wd) : Nat) : Int) = r.ws.getD wd 0 := H.word hr hk
    have hU : IsU (r.ws.getD wd 0) := by
      refine Lk.isU hl fun q hq => ?_
      have := (H.fine q (hf q (by simp [hq])).1).2.2
      have := H.most
      omega
    have h1 := GB.plcs H (last := r.at_) (p := r.ws.getD wd 0) (by omega) (fun q hq => ⟨(hf q (by simp [hq])).1, (hf q (by simp [hq])).2.1, by have := hp.1 q hq; omega⟩) hp.2 hl
    exact ⟨by rw [e]; exact hla, e, by show r.at_ < m.b.length; have := hrf.2.2; omega, by rw [hw]; exact hU, by rw [hw]; exact h1⟩
/-- The places of a list, from its root. -/
theorem Ch.plcs (H : GB lo m.b l) (hlo : 0 < lo) {p wd : Nat} {pred : GO → Bool} (h : Ch m.b l p wd pred) (hw : ∀ r ∈ l, pred r = true → wd < r.ws.length) : plcs m wd 0 (m.word (p : Nat)) ((l.filter pred).map (·.at_)) := by
  refine GB.plcs H (by omega) (fun r hr => ?_) (H.rise.filter _) h
  obtain ⟨h1, h2⟩ := List.mem_filter.1 hr
  exact ⟨h1, hw r h1 h2, by have := (H.fine r h1).2.1; omega⟩
end
theorem plcs_fine {m : IM} {wd : Nat} : ∀ {js : List Nat} {last next : Int}, 0 ≤ last → plcs m wd last next js → ∀ j ∈ js, last < (j : Int) ∧ j < m.b.length
  | [], _, _, _, _, j, hj => by cases hj
  | i :: js, last, next, h0, ⟨h1, h2, h3, h4, h5⟩, j, hj => by
    rcases List.mem_cons.1 hj with rfl | hj
    · exact ⟨by omega, h3⟩
    · have := plcs_fine (by omega) h5 j hj
      exact ⟨by omega, this.2⟩

end Go.Proofs.Ytjpfbkhjhainpaa

/-
  LAYER 15: WHAT places OF PACKAGE data TELLS: contracts.
-/
set_option linter.unusedVariables false
set_option maxRecDepth 100000
set_option linter.unusedSimpArgs false
namespace Go.Proofs.Ytjpfbkhjhainpaa
open Go.RowKit Go.Shelf
attribute [local go_sem] Oper.semAt_some

/-- An iterator's three boxes. -/
structure PlAt (w : World) (g p : Nat) (pl : Int) (wd : Nat) : Prop where
  lo : g + 3 ≤ w.heap.size
  cm : w.cell? ⟨g, 0, none⟩ = some (.pointer (some ⟨p, 0, none⟩))
  cp : w.cell? ⟨g + 1, 0, none⟩ = some (.int .u64 pl)
  cw : w.cell? ⟨g + 2, 0, none⟩ = some (.int .i64 wd)
abbrev plB (g : Nat) : Array Value := #[.pointer (some ⟨g + 1, 0, none⟩), .pointer (some ⟨g, 0, none⟩), .pointer (some ⟨g + 2, 0, none⟩)]
theorem PlAt.below {w w' : World} {g p : Nat} {pl : Int} {wd : Nat} (h : PlAt w g p pl wd) (hb : Below w.heap.size w w') : PlAt w' g p pl wd :=
  ⟨Nat.le_trans h.lo hb.size, (hb.cell (p := ⟨g, 0, none⟩) (by have := h.lo; show g < _; omega)).trans h.cm, (hb.cell (p := ⟨g + 1, 0, none⟩) (by have := h.lo; show g + 1 < _; omega)).trans h.cp,
   (hb.cell (p := ⟨g + 2, 0, none⟩) (by have := h.lo; show g + 2 < _; omega)).trans h.cw⟩

/-- A place that is told. -/
def natE (x : Nat) : Array Value := #[.int .i64 x]
def TellsN (js : List Nat) (fp : Nat → Prop) (pre : List Nat) (x : Nat) (W : World) : Prop := ∃ rest, pre ++ x :: rest = js
theorem tellsN_own (js : List Nat) (B : Nat) (fp : Nat → Prop) (pre : List Nat) (x : Nat) : OwnFrom B (fun (_ : Unit) W => TellsN js fp pre x W) := fun _ W W' row hs hg hr => hs

section
variable {base p : Nat} {S : Nat → Prop} {i k d f h : Int} {m : IM} {bv sv : Value}

end

end Go.Proofs.Ytjpfbkhjhainpaa

/-
  LAYER 15: WHAT end OF PACKAGE data TELLS: a contract.
-/
set_option linter.unusedVariables false
set_option maxRecDepth 100000
set_option linter.unusedSimpArgs false
namespace Go.Proofs.Ytjpfbkhjhainpaa
open Go.RowKit Go.Shelf
attribute [local go_sem] Oper.semAt_some

/-- The word that will lead on, by places. -/
def lkN (root wd : Nat) (js : List Nat) : Nat := match js.getLast? with
  | none => root
  | some j => j + (16 + 8 * wd)
theorem lkN_snoc (root wd : Nat) (js : List Nat) (j : Nat) : lkN root wd (js ++ [j]) = j + (16 + 8 * wd) := by simp [lkN]
theorem lkN_map (root wd : Nat) (L : List GO) : lkN root wd (L.map (·.at_)) = lkG root wd L := by
  unfold lkN lkG
  rw [List.getLast?_map]
  cases L.getLast? <;> rfl

section
variable {base p : Nat} {S : Nat → Prop} {i k d f h : Int} {m : IM} {bv sv : Value}

end

end Go.Proofs.Ytjpfbkhjhainpaa

/-
  LAYER 15: AN ITEM THAT COMES, PLAIN: what table's Add of it and of its field, and the link behind the field's last item, leave.
-/
set_option linter.unusedVariables false
set_option maxRecDepth 100000
set_option linter.unusedSimpArgs false
namespace Go.Proofs.Ytjpfbkhjhainpaa
open Go.RowKit Go.Shelf

theorem rn_item {n : Nat} (h1 : 1 ≤ n) (h2 : n ≤ 1024) : rightN ((1 : Nat) : Int) (kwN ((1 : Nat) : Int)) n 0 = true := by
  have e1 : hasI ((1 : Nat) : Int) = false := rfl
  have e2 : mostN ((1 : Nat) : Int) = 1024 := rfl
  unfold rightN
  rw [e1, e2]
  simp; omega
theorem rn_field {n : Nat} (h1 : 1 ≤ n) (h2 : n ≤ 64) : rightN ((2 : Nat) : Int) (kwN ((2 : Nat) : Int)) n 0 = true := by
  have e1 : hasI ((2 : Nat) : Int) = false := rfl
  have e2 : mostN ((2 : Nat) : Int) = 64 := rfl
  unfold rightN
  rw [e1, e2]
  simp; omega
theorem spOk_sizes {s : ByteArray} (h : spOk s = true) : 1 ≤ s.size ∧ 1 ≤ (spF s).size ∧ (spF s).size ≤ 64 := by
  have h0 : 0 ≤ eqIdx s := by
    rcases Int.lt_or_le (eqIdx s) 0 with h1 | h1
    · rw [spOk_none h1] at h; cases h
    · exact h1
  obtain ⟨n, hn⟩ := Int.eq_ofNat_of_zero_le h0
  have hlt := eqIdx_lt s
  have hno := spOk_name hn
  rw [h] at hno
  rw [spF_yes hn h]
  have h2 := hno.symm
  unfold nameB at h2
  rw [Bool.and_eq_true, decide_eq_true_eq] at h2
  omega
theorem tlen_item (n : Nat) : tlen 1 n ≤ n + 63 ∧ n ≤ tlen 1 n := by
  have e : frontN ((1 : Nat) : Int) = 56 := rfl
  unfold tlen
  rw [e]; omega
theorem tlen_field (n : Nat) : tlen 2 n ≤ n + 47 ∧ n ≤ tlen 2 n := by
  have e : frontN ((2 : Nat) : Int) = 40 := rfl
  unfold tlen
  rw [e]; omega

/-- The entries' objects, and the lists, are as they were. -/
structure KeptG (l l' : List GO) : Prop where
  ent : l'.filter (fun r => r.k == 3) = l.filter (fun r => r.k == 3)
  arr : ∀ p, (arrsG l' p).map GO.arow = (arrsG l p).map GO.arow
theorem KeptG.refl (l : List GO) : KeptG l l := ⟨rfl, fun _ => rfl⟩
theorem KeptG.trans {l l' l'' : List GO} (h : KeptG l l') (h2 : KeptG l' l'') : KeptG l l'' := ⟨h2.ent.trans h.ent, fun p => (h2.arr p).trans (h.arr p)⟩
theorem stP_k3 {lo : Nat} {b : List Int} {l : List GO} (G : GB lo b l) {q : Nat} (hq : q + 8 ≤ lo ∨ ∃ o ∈ l, o.k ≠ 3 ∧ ∃ i, i < o.ws.length ∧ q = o.at_ + (16 + 8 * i)) (v : Int) : ∀ r ∈ l, r.k = 3 → stP q v r = r := fun r hr hk => by
  rcases hq with h | ⟨o, ho, hok, i, hi, rfl⟩
  · exact G.setP_low h v hr
  · rw [G.setP_word ho hi v hr]
    exact setW_ne fun e => hok (by rw [← G.one hr ho e]; exact hk)
theorem KeptG.set {lo : Nat} {b : List Int} {l : List GO} (G : GB lo b l) {q : Nat} (hq : q + 8 ≤ lo ∨ ∃ o ∈ l, o.k ≠ 3 ∧ ∃ i, i < o.ws.length ∧ q = o.at_ + (16 + 8 * i)) (v : Int) : KeptG l (l.map (stP q v)) :=
  ⟨filter_k3 (fun r => stP_k _ _ _) (stP_k3 G hq v), fun p => arrsG_setP _ _ _⟩
theorem KeptG.putset {lo : Nat} {b : List Int} {l : List GO} (G : GB lo b l) {q : Nat} (hq : q + 8 ≤ lo ∨ ∃ o ∈ l, o.k ≠ 3 ∧ ∃ i, i < o.ws.length ∧ q = o.at_ + (16 + 8 * i)) (v : Int) {n : GO} (h3 : n.k ≠ 3) (h4 : n.k ≠ 4) : KeptG l ((l ++ [n]).map (stP q v)) := by
  refine ⟨?_, fun p => ?_⟩
  · rw [filter_k3 (fun r => stP_k _ _ _) (fun r hr hk => ?_), List.filter_append, List.filter_cons_of_neg (by simpa using h3), List.filter_nil, List.append_nil]
    rcases List.mem_append.1 hr with h | h
    · exact stP_k3 G hq v r h hk
    · rw [List.mem_singleton.1 h] at hk; exact absurd hk h3
  · rw [arrsG_setP]
    unfold arrsG
    rw [List.filter_append, List.filter_cons_of_neg (fun h => h4 (pArr_iff.1 h).1.1), List.filter_nil, List.append_nil]
theorem KeptG.addG {fld : List Int → List Int} {k d f : Int} {ex : Nat} {b : List Int} {l : List GO} (D : DB fld k d f 0 ex b l) {kd : Nat} (hkd : kd = 1 ∨ kd = 2) (at_ : Nat) (zs : List Int) : KeptG l (Go.Proofs.Ytjpfbkhjhainpaa.addG l k d f kd at_ zs) := by
  obtain ⟨g1, g2⟩ := bktN_eq D.hD D.hF (kd := kd) (hsh_isU k zs)
  have hxl : LP l (tb d kd + 8 * bktN d f kd (hsh k zs)) 1 (pBk k d f kd (bktN d f kd (hsh k zs)) 0) (lkT l k d f kd zs) := lkG_LP _ _ _
  refine KeptG.putset D.gb ?_ _ (by show kd ≠ 3; omega) (by show kd ≠ 4; omega)
  rcases D.bk_LP hkd g2 hxl with ⟨-, h1⟩ | ⟨q, hq, ⟨qk, -⟩, qw, e2⟩
  · exact .inl h1
  · exact .inr ⟨q, hq, by omega, 1, qw, e2⟩

/-- WHAT IS LEFT of an item that came. -/
structure Came (k d f : Int) (m : IM) (l : List GO) (m' : IM) (l' : List GO) (R : List DR) (zs : List Int) (ex q c : Nat) : Prop where
  db : DB fldI k d f 0 ex m'.b l'
  rows : Rows l' (R ++ [⟨zs, m.b.length, []⟩])
  by_ : AreB m'.b
  lim : m'.lim = m.lim
  was : m'.was = m.was
  words : m'.words.length ≤ m.words.length + q
  most : m'.b.length ≤ m.b.length + c
  good : m.Good → m'.Good
  kept : KeptG l l'

section
variable {k d f : Int} {ex : Nat} {m : IM} {l : List GO} {R : List DR}

theorem addIM_good {fld : List Int → List Int} (D : DB fld k d f 0 ex m.b l) {kd : Nat} (hkd : kd = 1 ∨ kd = 2) {zs : List Int} (hz : AreB zs) (hrt : rightN kd (kwN kd) zs.length 0 = true) (hg : m.Good) : (addIM m l k d f kd zs).Good := by
  obtain ⟨g1, g2⟩ := bktN_eq D.hD D.hF (kd := kd) (hsh_isU k zs)
  obtain ⟨a1, a2⟩ := (D.bks kd hkd _ g2).link_at D.gb (bk_root D.hD D.hF g2 l) (D.bk_w hkd)
  have h0 := newK_low d f D.hD D.hF
  have a3 := D.gb.root_fit a1
  have a4 := D.gb.root_low (by omega) a1
  refine (hg.add (addIM_len D hkd hz hrt).2).put8 ?_ a3.2 a4 ?_
  · show _ + 8 ≤ (m.b ++ _).length
    rw [List.length_append]
    have : lkT l k d f kd zs + 8 ≤ m.b.length := a3.1
    omega
  · show gnum (m.b ++ _) _ 8 = 0
    exact (gnum_add a3.1).trans a2
/-- The item itself. -/
theorem Came.item (D : DB fldI k d f 0 0 m.b l) (h : Rows l R) (hb : AreB m.b) {zs : List Int} (hz : AreB zs) (h1 : 1 ≤ zs.length) (h2 : zs.length ≤ 1024) (hnew : findG l 1 zs = none) (hm : m.b.length + tlen 1 zs.length ≤ 1099511627776) :
    Came k d f m l (addIM m l k d f 1 zs) (addG l k d f 1 m.b.length zs) R zs m.b.length 1 (tlen 1 zs.length) := by
  obtain ⟨h3, h4⟩ := D.item h hz (rn_item h1 h2) hnew hm
  exact ⟨h3, h4, addIM_bytes D hb (.inl rfl) hz (rn_item h1 h2), rfl, rfl, addIM_words, Nat.le_of_eq (addIM_len D (.inl rfl) hz (rn_item h1 h2)).1, addIM_good D (.inl rfl) hz (rn_item h1 h2), KeptG.addG D (.inl rfl) _ _⟩
/-- The item is there. -/
theorem addG_here (l : List GO) (kd at_ : Nat) (zs : List Int) : ∃ o ∈ addG l k d f kd at_ zs, o.k = kd ∧ o.raw = zs ∧ o.at_ = at_ :=
  ⟨stP (lkT l k d f kd zs) (at_ : Nat) (newG k kd at_ zs), List.mem_map.2 ⟨_, by simp, rfl⟩, by rw [stP_k]; rfl, by rw [stP_raw]; rfl, by rw [stP_at]; rfl⟩
theorem addG_kept {l : List GO} {kd at_ : Nat} {zs : List Int} {o : GO} (ho : o ∈ l) : ∃ o' ∈ addG l k d f kd at_ zs, o'.k = o.k ∧ o'.raw = o.raw ∧ o'.at_ = o.at_ :=
  ⟨stP (lkT l k d f kd zs) (at_ : Nat) o, List.mem_map.2 ⟨o, List.mem_append_left _ ho, rfl⟩, stP_k _ _ _, stP_raw _ _ _, stP_at _ _ _⟩

/-- What the link behind the field's last item asks for, and leaves. -/
structure Linked (k d f : Int) (m : IM) (l : List GO) (m2 : IM) (l2 : List GO) (R : List DR) (zs : List Int) (fo q : Nat) (js : List Nat) : Prop where
  ch : plcs m2 2 0 (m2.word (fo + 32 : Nat)) js
  isU : IsU (m2.word (fo + 32 : Nat))
  fo_ : fo ≤ 1099511627776
  lk : lkN (fo + 32) 2 js = q
  fit : q + 8 ≤ m2.b.length ∧ q % 8 = 0 ∧ 192 ≤ q
  free : m2.word q = 0
  by_ : AreB m2.b
  len : m2.b.length ≤ 1099511627776
  words : m2.words.length ≤ m.words.length + 2
  was : m2.was = m.was
  came : ∃ l3, Came k d f m l (m2.put8 q (m.b.length : Nat)) l3 R zs 0 3 1200

theorem put8_words {m : IM} {q : Nat} {v : Int} : (m.put8 q v).words.length ≤ m.words.length + 1 := by
  show (if _ then _ else _ : List Nat).length ≤ _
  split
  · rw [List.length_append]; exact Nat.le_refl _
  · show m.words.length ≤ _; omega
theorem Came.link {m2 : IM} {l2 : List GO} {zs : List Int} {c : Nat} (C : Came k d f m l m2 l2 R zs m.b.length 2 c) (hc : c ≤ 1200) {o fo : GO} (ho : o ∈ l2) (hat : o.at_ = m.b.length) (hraw : o.raw = zs) (hf : fo ∈ l2) (hfk : fo.k = 2) (hfr : fo.raw = fldI zs) :
    ∃ q js, Linked k d f m l m2 l2 R zs fo.at_ q js := by
  have D := C.db
  have h0 := newK_low d f D.hD D.hF
  obtain ⟨⟨a1, a2⟩, D3, R3⟩ := D.linked C.rows ho hat hf hfk (by rw [hraw]; exact hfr)
  have a3 := D.gb.root_fit a1
  have a4 := D.gb.root_low (by omega) a1
  have hfo := (D.gb.fine fo hf)
  have hmost := D.gb.most
  refine ⟨_, _, (D.flds fo hf hfk).plcs D.gb h0.2 D.fd_w, (D.flds fo hf hfk).isU D.gb, by have := hfo.2.2; omega, lkN_map _ _ _, ⟨a3.1, a3.2, a4⟩, a2, C.by_, hmost, C.words, C.was, _, D3, R3, splice_bytes C.by_ (bts_bytes _ _) _, C.lim, C.was, ?_, ?_, fun hg => (C.good hg).put8 a3.1 a3.2 a4 a2, C.kept.trans (KeptG.set D.gb ?_ _)⟩
  · have := put8_words (m := m2) (q := lkG (fo.at_ + 32) 2 (l2.filter (pFld fldI fo.raw m.b.length))) (v := (m.b.length : Nat)); have := C.words; omega
  · show (splice m2.b _ _).length ≤ _
    rw [splice_len _ _ _ (by rw [bts8_length]; exact a3.1)]
    have := C.most
    omega
  · have hxl : LP l2 (fo.at_ + 32) 2 (pFld fldI fo.raw m.b.length) (lkG (fo.at_ + 32) 2 (l2.filter (pFld fldI fo.raw m.b.length))) := lkG_LP _ _ _
    obtain ⟨r, hr, h9, rw_, e2⟩ := D.fd_LP hf hfk hxl
    refine .inr ⟨r, hr, ?_, 2, rw_, e2⟩
    rcases h9 with ⟨h9, -⟩ | rfl <;> omega
/-- Another field. -/
theorem Came.field {m1 : IM} {l1 : List GO} {zs fs : List Int} {ex q c : Nat} (C : Came k d f m l m1 l1 R zs ex q c) (hz : AreB fs) (h1 : 1 ≤ fs.length) (h2 : fs.length ≤ 64) (hnew : findG l1 2 fs = none) (hm : m1.b.length + tlen 2 fs.length ≤ 1099511627776) :
    Came k d f m l (addIM m1 l1 k d f 2 fs) (addG l1 k d f 2 m1.b.length fs) R zs ex (q + 1) (c + tlen 2 fs.length) := by
  obtain ⟨h3, h4, -⟩ := C.db.field C.rows hz (rn_field h1 h2) hnew hm
  refine ⟨h3, h4, addIM_bytes C.db C.by_ (.inr rfl) hz (rn_field h1 h2), C.lim, C.was, ?_, ?_, fun hg => addIM_good C.db (.inr rfl) hz (rn_field h1 h2) (C.good hg), C.kept.trans (KeptG.addG C.db (.inr rfl) _ _)⟩
  · have := addIM_words (m := m1) (l := l1) (k := k) (d := d) (f := f) (kd := 2) (zs := fs); have := C.words; omega
  · rw [(addIM_len C.db (.inr rfl) hz (rn_field h1 h2)).1]; have := C.most; omega
theorem Came.more {m1 : IM} {l1 : List GO} {zs : List Int} {q q' c c' : Nat} (C : Came k d f m l m1 l1 R zs ex q c) (hq : q ≤ q') (hc : c ≤ c') : Came k d f m l m1 l1 R zs ex q' c' :=
  { C with words := Nat.le_trans C.words (by omega), most := Nat.le_trans C.most (by omega) }
end

end Go.Proofs.Ytjpfbkhjhainpaa

/-
  LAYER 15: WHAT Find AND Intern OF PACKAGE data DO: contracts.
-/
set_option linter.unusedVariables false
set_option maxRecDepth 100000
set_option linter.unusedSimpArgs false
namespace Go.Proofs.Ytjpfbkhjhainpaa
open Go.RowKit Go.Shelf

section
variable {base p : Nat} {S : Nat → Prop} {i k d f h : Int} {m : IM} {bv sv : Value} {l : List GO} {R : List DR}

end

end Go.Proofs.Ytjpfbkhjhainpaa

/-
  LAYER 15: Intern OF AN ITEM THAT COMES: contracts.
-/
set_option linter.unusedVariables false
set_option maxRecDepth 100000
set_option linter.unusedSimpArgs false
namespace Go.Proofs.Ytjpfbkhjhainpaa
open Go.RowKit Go.Shelf

section
variable {base p : Nat} {S : Nat → Prop} {i k d f h : Int} {m : IM} {bv sv : Value} {l : List GO} {R : List DR}

end

end Go.Proofs.Ytjpfbkhjhainpaa
