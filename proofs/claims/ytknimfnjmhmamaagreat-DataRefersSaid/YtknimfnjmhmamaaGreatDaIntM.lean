/-
  LAYER 15: AN ITEM THAT COMES, PLAIN: what table's Add of it and of its field, and the link behind the field's last item, leave.
-/
import Derived.Test.YtknimfnjmhmamaaGreatDaEnd
set_option linter.unusedVariables false
set_option maxRecDepth 100000
set_option linter.unusedSimpArgs false
namespace Go.Proofs.YtknimfnjmhmamaaGreat
open Go.RowKit Go.Shelf

/-- One call behind another. -/
theorem IXT.step {w w3 w4 : World} {base p : Nat} {S T : Nat → Prop} {i k d f h : Int} {m2 : IM} (hf : ∀ j, S j → base ≤ j ∧ j < w.heap.size) (hb0 : base ≤ w.heap.size) (hc : Chg S w w3) (hT : ∀ j, T j → S j ∨ w.heap.size ≤ j) (h2 : IXT base T p i k d f h m2 w3 w4) : IXT base S p i k d f h m2 w w4 := by
  obtain ⟨c, bv, sv, H2⟩ := h2
  have hs := hc.size
  refine IXT.of (w0 := w) (hc.trans c (fun j hj e => (hT j e).resolve_right (by omega))) H2 (fun j hj => ?_) hf hb0
  rcases hj with hj | hj
  · exact hT j hj
  · right; omega

theorem rn_item {n : Nat} (h1 : 1 ≤ n) (h2 : n ≤ 1024) : rightN ((1 : Nat) : Int) (kwN ((1 : Nat) : Int)) n 0 = true := by
  have e1 : hasI ((1 : Nat) : Int) = false := rfl
  have e2 : mostN ((1 : Nat) : Int) = 1024 := rfl
  unfold rightN
  rw [e1, e2]
  simp; omega
theorem rn_field {n : Nat} (h1 : 1 ≤ n) (h2 : n ≤ 64) : rightN ((2 : Nat) : Int) (kwN ((2 : Nat) : Int)) n 0 = true := by
  have e1 : hasI ((2 : Nat) : Int) = false := rfl
  have e2 : mostN ((2 : Nat) : Int) = 64 := rfl
  unfold rightN
  rw [e1, e2]
  simp; omega
theorem spOk_sizes {s : ByteArray} (h : spOk s = true) : 1 ≤ s.size ∧ 1 ≤ (spF s).size ∧ (spF s).size ≤ 64 := by
  have h0 : 0 ≤ eqIdx s := by
    rcases Int.lt_or_le (eqIdx s) 0 with h1 | h1
    · rw [spOk_none h1] at h; cases h
    · exact h1
  obtain ⟨n, hn⟩ := Int.eq_ofNat_of_zero_le h0
  have hlt := eqIdx_lt s
  have hno := spOk_name hn
  rw [h] at hno
  rw [spF_yes hn h]
  have h2 := hno.symm
  unfold nameB at h2
  rw [Bool.and_eq_true, decide_eq_true_eq] at h2
  omega
theorem tlen_item (n : Nat) : tlen 1 n ≤ n + 63 ∧ n ≤ tlen 1 n := by
  have e : frontN ((1 : Nat) : Int) = 56 := rfl
  unfold tlen
  rw [e]; omega
theorem tlen_field (n : Nat) : tlen 2 n ≤ n + 47 ∧ n ≤ tlen 2 n := by
  have e : frontN ((2 : Nat) : Int) = 40 := rfl
  unfold tlen
  rw [e]; omega

/-- WHAT IS LEFT of an item that came. -/
structure Came (k d f : Int) (m m' : IM) (l' : List GO) (R : List DR) (zs : List Int) (ex q c : Nat) : Prop where
  db : DB fldI k d f 0 ex m'.b l'
  rows : Rows l' (R ++ [⟨zs, m.b.length, []⟩])
  by_ : AreB m'.b
  lim : m'.lim = m.lim
  was : m'.was = m.was
  words : m'.words.length ≤ m.words.length + q
  most : m'.b.length ≤ m.b.length + c
  good : m.Good → m'.Good

section
variable {k d f : Int} {ex : Nat} {m : IM} {l : List GO} {R : List DR}

theorem addIM_good {fld : List Int → List Int} (D : DB fld k d f 0 ex m.b l) {kd : Nat} (hkd : kd = 1 ∨ kd = 2) {zs : List Int} (hz : AreB zs) (hrt : rightN kd (kwN kd) zs.length 0 = true) (hg : m.Good) : (addIM m l k d f kd zs).Good := by
  obtain ⟨g1, g2⟩ := bktN_eq D.hD D.hF (kd := kd) (hsh_isU k zs)
  obtain ⟨a1, a2⟩ := (D.bks kd hkd _ g2).link_at D.gb (bk_root D.hD D.hF g2 l) (D.bk_w hkd)
  have h0 := newK_low d f D.hD D.hF
  have a3 := D.gb.root_fit a1
  have a4 := D.gb.root_low (by omega) a1
  refine (hg.add (addIM_len D hkd hz hrt).2).put8 ?_ a3.2 a4 ?_
  · show _ + 8 ≤ (m.b ++ _).length
    rw [List.length_append]
    have : lkT l k d f kd zs + 8 ≤ m.b.length := a3.1
    omega
  · show gnum (m.b ++ _) _ 8 = 0
    exact (gnum_add a3.1).trans a2
/-- The item itself. -/
theorem Came.item (D : DB fldI k d f 0 0 m.b l) (h : Rows l R) (hb : AreB m.b) {zs : List Int} (hz : AreB zs) (h1 : 1 ≤ zs.length) (h2 : zs.length ≤ 1024) (hnew : findG l 1 zs = none) (hm : m.b.length + tlen 1 zs.length ≤ 1099511627776) :
    Came k d f m (addIM m l k d f 1 zs) (addG l k d f 1 m.b.length zs) R zs m.b.length 1 (tlen 1 zs.length) := by
  obtain ⟨h3, h4⟩ := D.item h hz (rn_item h1 h2) hnew hm
  exact ⟨h3, h4, addIM_bytes D hb (.inl rfl) hz (rn_item h1 h2), rfl, rfl, addIM_words, Nat.le_of_eq (addIM_len D (.inl rfl) hz (rn_item h1 h2)).1, addIM_good D (.inl rfl) hz (rn_item h1 h2)⟩
/-- The item is there. -/
theorem addG_here (l : List GO) (kd at_ : Nat) (zs : List Int) : ∃ o ∈ addG l k d f kd at_ zs, o.k = kd ∧ o.raw = zs ∧ o.at_ = at_ :=
  ⟨stP (lkT l k d f kd zs) (at_ : Nat) (newG k kd at_ zs), List.mem_map.2 ⟨_, by simp, rfl⟩, by rw [stP_k]; rfl, by rw [stP_raw]; rfl, by rw [stP_at]; rfl⟩
theorem addG_kept {l : List GO} {kd at_ : Nat} {zs : List Int} {o : GO} (ho : o ∈ l) : ∃ o' ∈ addG l k d f kd at_ zs, o'.k = o.k ∧ o'.raw = o.raw ∧ o'.at_ = o.at_ :=
  ⟨stP (lkT l k d f kd zs) (at_ : Nat) o, List.mem_map.2 ⟨o, List.mem_append_left _ ho, rfl⟩, stP_k _ _ _, stP_raw _ _ _, stP_at _ _ _⟩

/-- What the link behind the field's last item asks for, and leaves. -/
structure Linked (k d f : Int) (m m2 : IM) (l2 : List GO) (R : List DR) (zs : List Int) (fo q : Nat) (js : List Nat) : Prop where
  ch : plcs m2 2 0 (m2.word (fo + 32 : Nat)) js
  isU : IsU (m2.word (fo + 32 : Nat))
  fo_ : fo ≤ 1099511627776
  lk : lkN (fo + 32) 2 js = q
  fit : q + 8 ≤ m2.b.length ∧ q % 8 = 0 ∧ 192 ≤ q
  free : m2.word q = 0
  by_ : AreB m2.b
  len : m2.b.length ≤ 1099511627776
  words : m2.words.length ≤ m.words.length + 2
  was : m2.was = m.was
  came : ∃ l3, Came k d f m (m2.put8 q (m.b.length : Nat)) l3 R zs 0 3 1200

theorem put8_words {m : IM} {q : Nat} {v : Int} : (m.put8 q v).words.length ≤ m.words.length + 1 := by
  show (if _ then _ else _ : List Nat).length ≤ _
  split
  · rw [List.length_append]; exact Nat.le_refl _
  · show m.words.length ≤ _; omega
theorem Came.link {m2 : IM} {l2 : List GO} {zs : List Int} {c : Nat} (C : Came k d f m m2 l2 R zs m.b.length 2 c) (hc : c ≤ 1200) {o fo : GO} (ho : o ∈ l2) (hat : o.at_ = m.b.length) (hraw : o.raw = zs) (hf : fo ∈ l2) (hfk : fo.k = 2) (hfr : fo.raw = fldI zs) :
    ∃ q js, Linked k d f m m2 l2 R zs fo.at_ q js := by
  have D := C.db
  have h0 := newK_low d f D.hD D.hF
  obtain ⟨⟨a1, a2⟩, D3, R3⟩ := D.linked C.rows ho hat hf hfk (by rw [hraw]; exact hfr)
  have a3 := D.gb.root_fit a1
  have a4 := D.gb.root_low (by omega) a1
  have hfo := (D.gb.fine fo hf)
  have hmost := D.gb.most
  refine ⟨_, _, (D.flds fo hf hfk).plcs D.gb h0.2 D.fd_w, (D.flds fo hf hfk).isU D.gb, by have := hfo.2.2; omega, lkN_map _ _ _, ⟨a3.1, a3.2, a4⟩, a2, C.by_, hmost, C.words, C.was, _, D3, R3, splice_bytes C.by_ (bts_bytes _ _) _, C.lim, C.was, ?_, ?_, fun hg => (C.good hg).put8 a3.1 a3.2 a4 a2⟩
  · have := put8_words (m := m2) (q := lkG (fo.at_ + 32) 2 (l2.filter (pFld fldI fo.raw m.b.length))) (v := (m.b.length : Nat)); have := C.words; omega
  · show (splice m2.b _ _).length ≤ _
    rw [splice_len _ _ _ (by rw [bts8_length]; exact a3.1)]
    have := C.most
    omega
/-- Another field. -/
theorem Came.field {m1 : IM} {l1 : List GO} {zs fs : List Int} {ex q c : Nat} (C : Came k d f m m1 l1 R zs ex q c) (hz : AreB fs) (h1 : 1 ≤ fs.length) (h2 : fs.length ≤ 64) (hnew : findG l1 2 fs = none) (hm : m1.b.length + tlen 2 fs.length ≤ 1099511627776) :
    Came k d f m (addIM m1 l1 k d f 2 fs) (addG l1 k d f 2 m1.b.length fs) R zs ex (q + 1) (c + tlen 2 fs.length) := by
  obtain ⟨h3, h4, -⟩ := C.db.field C.rows hz (rn_field h1 h2) hnew hm
  refine ⟨h3, h4, addIM_bytes C.db C.by_ (.inr rfl) hz (rn_field h1 h2), C.lim, C.was, ?_, ?_, fun hg => addIM_good C.db (.inr rfl) hz (rn_field h1 h2) (C.good hg)⟩
  · have := addIM_words (m := m1) (l := l1) (k := k) (d := d) (f := f) (kd := 2) (zs := fs); have := C.words; omega
  · rw [(addIM_len C.db (.inr rfl) hz (rn_field h1 h2)).1]; have := C.most; omega
theorem Came.more {m1 : IM} {l1 : List GO} {zs : List Int} {q q' c c' : Nat} (C : Came k d f m m1 l1 R zs ex q c) (hq : q ≤ q') (hc : c ≤ c') : Came k d f m m1 l1 R zs ex q' c' :=
  { C with words := Nat.le_trans C.words (by omega), most := Nat.le_trans C.most (by omega) }
end

end Go.Proofs.YtknimfnjmhmamaaGreat
