/-
  LAYER 15: Intern OF AN ITEM THAT COMES: contracts.
-/
import Derived.Test.YtknimfnjmhmamaaGreatDaIntern
set_option linter.unusedVariables false
set_option maxRecDepth 100000
set_option linter.unusedSimpArgs false
namespace Go.Proofs.YtknimfnjmhmamaaGreat
open Go.RowKit Go.Shelf

section
variable {base p : Nat} {S : Nat → Prop} {i k d f h : Int} {m : IM} {bv sv : Value} {l : List GO} {R : List DR}

/-- Table's Add of the item. -/
theorem add_item {n : Nat} (s : ByteArray) (w : World) (D : DB fldI k d f 0 0 m.b l) (H : IX w base S p i k d f h m bv sv) (hbm : AreB m.b) (hk : IsU k) (hlim : m.lim ≤ 1048576) (hN : m.words.length ≤ 100000000) (hwl : m.was.length ≤ 1099511627776) (h1 : 1 ≤ s.size) (hs : s.size ≤ 1024) (ha : findG l 1 (nums s) = none) (hroom : m.b.length + tlen 1 (nums s).length ≤ m.lim) :
    Calls Tryz.prog 22 #[.pointer (some ⟨p, 0, none⟩), .int .i64 1, .slice (some ⟨w.heap.size, 0, none⟩) s.size (capS (w.drewN n) s)] (textW (w.drewN n) s) fun e w' => e = .returned (.tuple #[.int .i64 (m.b.length : Nat), .bool true, .int .i64 0]) ∧ IXT base S p i k d f h (addIM m l k d f 1 (nums s)) (textW (w.drewN n) s) w' := by
  have hm : s.size ≤ maxLen := by unfold maxLen; omega
  have hb := (below_drewn (Below.refl w.heap.size w) n).trans (textW_below (w.drewN n) s)
  refine (gadd_any 1 (.inl rfl) (some ⟨w.heap.size, 0, none⟩) s.size (capS (w.drewN n) s) (nums s) (textW (w.drewN n) s) D (H.below hb) hbm hk hlim (by omega) hwl (textW_reads (w.drewN n) s) (Nat.le_refl _) (nums_bytes s) (capS_le hm).1 (capS_le hm).2 (by omega) (by rw [nums_length]; exact rn_item h1 hs)).mono ?_
  rintro e w' (⟨b, h1, -⟩ | ⟨-, h1, -⟩ | ⟨-, -, h2, h3⟩)
  · rw [ha] at h1; cases h1
  · omega
  · exact ⟨h2, h3⟩
/-- Table's Add of the field: there is no room. -/
theorem add_field_no {m1 : IM} {l1 : List GO} {zs : List Int} {ex q c : Nat} (s : ByteArray) (w : World) (C : Came k d f m m1 l1 R zs ex q c) (H : IX w base S p i k d f h m1 bv sv) (hk : IsU k) (hlim : m.lim ≤ 1048576) (hN : m1.words.length ≤ 100000001) (hwl : m.was.length ≤ 1099511627776) (h1 : 1 ≤ s.size) (hs : s.size ≤ 64) (ha : findG l1 2 (nums s) = none) (hfull : m1.lim < m1.b.length + tlen 2 (nums s).length) :
    Calls Tryz.prog 22 #[.pointer (some ⟨p, 0, none⟩), .int .i64 2, .slice (some ⟨w.heap.size, 0, none⟩) s.size (capS w s)] (textW w s) fun e w' => e = .returned (.tuple #[.int .i64 0, .bool false, .int .i64 21]) ∧ Below (textW w s).heap.size (textW w s) w' := by
  have hm : s.size ≤ maxLen := by unfold maxLen; omega
  refine (gadd_any 2 (.inr rfl) (some ⟨w.heap.size, 0, none⟩) s.size (capS w s) (nums s) (textW w s) C.db (H.below (textW_below w s)) C.by_ hk (by rw [C.lim]; exact hlim) (by omega) (by rw [C.was]; exact hwl) (textW_reads w s) (Nat.le_refl _) (nums_bytes s) (capS_le hm).1 (capS_le hm).2 (by omega) (by rw [nums_length]; exact rn_field h1 hs)).mono ?_
  rintro e w' (⟨b, h1, -⟩ | ⟨-, -, h2, h3⟩ | ⟨-, h1, -⟩)
  · rw [ha] at h1; cases h1
  · exact ⟨h2, h3⟩
  · omega
/-- Table's Add of the field: it is there, or comes. -/
theorem add_field {m1 : IM} {l1 : List GO} {zs : List Int} {c : Nat} (s : ByteArray) (C : Came k d f m m1 l1 R zs m.b.length 1 c) (hc : c ≤ 1087) (hk : IsU k) (hlim : m.lim ≤ 1048576) (hN : m.words.length ≤ 100000000) (hwl : m.was.length ≤ 1099511627776) (h1 : 1 ≤ s.size) (hs : s.size ≤ 64) (hfs : nums s = fldI zs)
    (hex : ∃ o ∈ l1, o.k = 1 ∧ o.raw = zs ∧ o.at_ = m.b.length) (hroom : findG l1 2 (nums s) = none → m1.b.length + tlen 2 (nums s).length ≤ m1.lim) :
    ∃ (fo : Nat) (fr : Bool) (m2 : IM) (l2 : List GO) (q : Nat) (js : List Nat), Linked k d f m m2 l2 R zs fo q js ∧ ∀ (w : World) (T : Nat → Prop) (bv1 sv1 : Value), IX w base T p i k d f h m1 bv1 sv1 →
    Calls Tryz.prog 22 #[.pointer (some ⟨p, 0, none⟩), .int .i64 2, .slice (some ⟨w.heap.size, 0, none⟩) s.size (capS w s)] (textW w s) fun e w' => e = .returned (.tuple #[.int .i64 (fo : Nat), .bool fr, .int .i64 0]) ∧ IXT base T p i k d f h m2 (textW w s) w' := by
  have hm : s.size ≤ maxLen := by unfold maxLen; omega
  have hw1 := C.words
  have GA := fun (w : World) (T : Nat → Prop) (bv1 sv1 : Value) (H : IX w base T p i k d f h m1 bv1 sv1) => gadd_any 2 (.inr rfl) (some ⟨w.heap.size, 0, none⟩) s.size (capS w s) (nums s) (textW w s) C.db (H.below (textW_below w s)) C.by_ hk (by rw [C.lim]; exact hlim) (by omega) (by rw [C.was]; exact hwl) (textW_reads w s) (Nat.le_refl _) (nums_bytes s) (capS_le hm).1 (capS_le hm).2 (by omega) (by rw [nums_length]; exact rn_field h1 hs)
  obtain ⟨o, ho, ho1, ho2, ho3⟩ := hex
  cases hfi : findG l1 2 (nums s) with
  | some a =>
    obtain ⟨fo, hf, hfk, hfr, hfa⟩ := findG_some hfi
    obtain ⟨q, js, HL⟩ := (C.more (q' := 2) (c' := c) (by omega) (Nat.le_refl _)).link (by omega) ho ho3 ho2 hf hfk (hfr.trans hfs)
    rw [hfa] at HL
    refine ⟨a, false, m1, l1, q, js, HL, fun w T bv1 sv1 H => (GA w T bv1 sv1 H).mono ?_⟩
    rintro e w' (⟨b, h1, h2, h3⟩ | ⟨h1, -⟩ | ⟨h1, -⟩)
    · rw [hfi] at h1; injection h1 with h1; subst h1
      exact ⟨h2, IXT.far (H.below (textW_below w s)) h3⟩
    · rw [hfi] at h1; cases h1
    · rw [hfi] at h1; cases h1
  | none =>
    have hr := hroom hfi
    have hb1 := C.most
    have hl1 := C.lim
    have ht := tlen_field (nums s).length
    have hnl := nums_length s
    have C2 := C.field (nums_bytes s) (by omega) (by omega) hfi (by omega)
    obtain ⟨fo, hf, hfk, hfr, hfa⟩ := addG_here (k := k) (d := d) (f := f) l1 2 m1.b.length (nums s)
    obtain ⟨o', ho', e1, e2, e3⟩ := addG_kept (k := k) (d := d) (f := f) (kd := 2) (at_ := m1.b.length) (zs := nums s) ho
    obtain ⟨q, js, HL⟩ := C2.link (by omega) ho' (e3.trans ho3) (e2.trans ho2) hf hfk (hfr.trans hfs)
    rw [hfa] at HL
    refine ⟨m1.b.length, true, _, _, q, js, HL, fun w T bv1 sv1 H => (GA w T bv1 sv1 H).mono ?_⟩
    rintro e w' (⟨b, h1, h2, h3⟩ | ⟨-, h1, -⟩ | ⟨-, -, h2, h3⟩)
    · rw [hfi] at h1; cases h1
    · omega
    · exact ⟨h2, h3⟩

/-- The item is put, its field is not. -/
theorem intern_half (s : ByteArray) (w : World) (D : DB fldI k d f 0 0 m.b l) (hR : Rows l R) (H : IX w base S p i k d f h m bv sv) (hbm : AreB m.b) (hk : IsU k) (hlim : m.lim ≤ 1048576) (hN : m.words.length ≤ 100000000) (hwl : m.was.length ≤ 1099511627776) (ho : spOk s = true) (hs : s.size ≤ 1024) (ha : findG l 1 (nums s) = none) (hroom : m.b.length + tlen 1 (nums s).length ≤ m.lim)
    (hf2 : findG (addG l k d f 1 m.b.length (nums s)) 2 (nums (spF s)) = none) (hfull : m.lim < (addIM m l k d f 1 (nums s)).b.length + tlen 2 (nums (spF s)).length) :
    Calls Tryz.prog 7 #[.pointer (some ⟨p, 0, none⟩), .string s] w fun e w' => e = .returned (.tuple #[.int .i64 0, .int .i64 21]) ∧ IXT base S p i k d f h (addIM m l k d f 1 (nums s)) w w' := by
  have hm : s.size ≤ maxLen := by unfold maxLen; omega
  have hsz := spOk_sizes ho
  have SP := split_any s w hm
  rw [ho] at SP
  have hb2 : ¬ (1024 : Int) < (s.size : Int) := by omega
  have cv := fun wx => conv_text s wx
  have cv2 := fun wx => conv_text (spF s) wx
  have HB := Lib.hid (fun n => (below_drewn (Below.refl w.heap.size w) n).trans (textW_below (w.drewN n) s))
  have AD := Lib.hid (fun n => add_item (n := n) s w D H hbm hk hlim hN hwl hsz.1 hs ha hroom)
  have C := Came.item D hR hbm (nums_bytes s) (by rw [nums_length]; exact hsz.1) (by rw [nums_length]; exact hs) ha (by omega)
  have AF := Lib.hid (fun (w2 : World) (T : Nat → Prop) (bv1 sv1 : Value) (H1 : IX w2 base T p i k d f h _ bv1 sv1) => add_field_no (spF s) w2 C H1 hk hlim (by have := C.words; omega) hwl hsz.2.1 hsz.2.2 hf2 hfull)
  have HF := Lib.hid (And.intro H.foot H.bas)
  have m1 : True := trivial
  clear H hm hsz D C hfull hroom
  go_enter Tryz.func7, Tryz.ntmps7
  go_wp2_with (first
    | (go_at_call 21; refine SP.mono ?_; rintro e w1 ⟨rfl, n1, rfl⟩)
    | (clear m1; go_at_call 22; refine (AD.out _).mono ?_; rintro e w2 ⟨rfl, h2⟩; obtain ⟨c2, bv2, sv2, H2⟩ := id h2)
    | (go_at_call 22; refine (AF.out _ _ _ _ H2).mono ?_; rintro e w3 ⟨rfl, hb3⟩))
  go_ret2
  have hs0 := (HB.out n1).size
  exact ⟨rfl, IXT.step HF.out.1 HF.out.2 (((Chg.of_below (HB.out n1) (Nat.le_refl _) S).trans c2 (fun _ _ e => e)).trans (Chg.of_below (textW_below w2 (spF s)) (Nat.le_refl _) S) (fun _ _ e => e)) (fun j hj => hj.imp id (fun e => by omega)) (IXT.far (H2.below (textW_below _ _)) hb3)⟩

/-- The item is put, and linked to its field. -/
theorem intern_new (s : ByteArray) (w : World) (D : DB fldI k d f 0 0 m.b l) (hR : Rows l R) (H : IX w base S p i k d f h m bv sv) (hbm : AreB m.b) (hk : IsU k) (hlim : m.lim ≤ 1048576) (hN : m.words.length ≤ 100000000) (hwl : m.was.length ≤ 1099511627776) (ho : spOk s = true) (hs : s.size ≤ 1024) (ha : findG l 1 (nums s) = none) (hroom : m.b.length + tlen 1 (nums s).length ≤ m.lim)
    (hf2 : findG (addG l k d f 1 m.b.length (nums s)) 2 (nums (spF s)) = none → (addIM m l k d f 1 (nums s)).b.length + tlen 2 (nums (spF s)).length ≤ m.lim) :
    Calls Tryz.prog 7 #[.pointer (some ⟨p, 0, none⟩), .string s] w fun e w' => e = .returned (.tuple #[.int .i64 (m.b.length : Nat), .int .i64 0]) ∧ ∃ m' l', IXT base S p i k d f h m' w w' ∧ Came k d f m m' l' R (nums s) 0 3 1200 := by
  have hm : s.size ≤ maxLen := by unfold maxLen; omega
  have hsz := spOk_sizes ho
  have SP := split_any s w hm
  rw [ho] at SP
  have hb2 : ¬ (1024 : Int) < (s.size : Int) := by omega
  have cv := fun wx => conv_text s wx
  have cv2 := fun wx => conv_text (spF s) wx
  have HB := Lib.hid (fun n => (below_drewn (Below.refl w.heap.size w) n).trans (textW_below (w.drewN n) s))
  have AD := Lib.hid (fun n => add_item (n := n) s w D H hbm hk hlim hN hwl hsz.1 hs ha hroom)
  have C := Came.item D hR hbm (nums_bytes s) (by rw [nums_length]; exact hsz.1) (by rw [nums_length]; exact hs) ha (by omega)
  have ht := tlen_item (nums s).length
  have hnl := nums_length s
  obtain ⟨fo, fr, m2, l2, q, js, HL, hAF⟩ := add_field (base := base) (p := p) (i := i) (h := h) (spF s) C (by omega) hk hlim hN hwl hsz.2.1 hsz.2.2 (fldI_nums s).symm (addG_here _ _ _ _) hf2
  have AF := Lib.hid hAF
  have hfo := HL.fo_
  have hfit := HL.fit
  have hln := HL.len
  have EN := Lib.hid (fun (w3 : World) (T : Nat → Prop) (bv3 sv3 : Value) (H3 : IX w3 base T p i k d f h m2 bv3 sv3) => end_any fo js w3 H3 HL.by_ HL.len HL.fo_ HL.isU HL.ch)
  rw [HL.lk] at EN
  have SE := Lib.hid (fun (w4 : World) (T : Nat → Prop) (bv4 sv4 : Value) (H4 : IX w4 base T p i k d f h m2 bv4 sv4) => iset_yes q (m.b.length : Nat) w4 H4 HL.by_ HL.fit.1 HL.fit.2.1 HL.fit.2.2 HL.len (by have := HL.words; omega) (by rw [HL.was]; exact hwl) HL.free)
  have HC := Lib.hid HL.came
  have HF := Lib.hid (And.intro H.foot H.bas)
  have tw := wrap_u64_of (x := (m.b.length : Nat)) (by omega) (by omega)
  obtain ⟨bl, hbl⟩ : ∃ bl, m.b.length = bl := ⟨_, rfl⟩
  have HBL := Lib.hid hbl
  rw [hbl] at AD SE tw HC ⊢
  have m1 : True := trivial
  clear H hm hsz D C hroom hf2 hAF HL hfo hfit hln ht hnl hbl
  go_enter Tryz.func7, Tryz.ntmps7
  go_wp2_with (first
    | (go_at_call 21; refine SP.mono ?_; rintro e w1 ⟨rfl, n1, rfl⟩)
    | (clear m1; go_at_call 22; refine (AD.out _).mono ?_; rintro e w2 ⟨rfl, h2⟩; obtain ⟨c2, bv2, sv2, H2⟩ := id h2)
    | (go_at_call 22; refine (AF.out _ _ _ _ H2).mono ?_; rintro e w3 ⟨rfl, h3⟩; obtain ⟨c3, bv3, sv3, H3⟩ := id h3)
    | (go_at_call 24; refine (EN.out _ _ _ _ H3).mono ?_; rintro e w4 ⟨rfl, hb4⟩; have H4 := H3.below hb4)
    | (go_at_call 23; refine (SE.out _ _ _ _ H4).mono ?_; rintro e w5 ⟨rfl, h5⟩))
  go_ret2
  have hs0 := (HB.out n1).size
  have hs2 := c2.size
  have hs3 := (textW_below w2 (spF s)).size
  obtain ⟨l3, hC⟩ := HC.out
  refine ⟨rfl, _, l3, IXT.step HF.out.1 HF.out.2 (((((Chg.of_below (HB.out n1) (Nat.le_refl _) S).trans c2 (fun _ _ e => e)).trans (Chg.of_below (textW_below w2 (spF s)) (Nat.le_refl _) S) (fun _ _ e => e)).trans c3 (fun j hj e => e.elim id (fun e => by omega))).trans (Chg.of_below hb4 (Nat.le_refl _) S) (fun _ _ e => e)) (fun j hj => hj.elim (fun e => e.imp id (fun e => by omega)) (fun e => .inr (by omega))) h5, hC⟩

/-- WHAT Intern TELLS. -/
theorem intern_any (s : ByteArray) (w : World) (D : DB fldI k d f 0 0 m.b l) (hR : Rows l R) (H : IX w base S p i k d f h m bv sv) (hbm : AreB m.b) (hk : IsU k) (hlim : m.lim ≤ 1048576) (hN : m.words.length ≤ 100000000) (hwl : m.was.length ≤ 1099511627776) (ho : spOk s = true) (hs : s.size ≤ 1024) :
    Calls Tryz.prog 7 #[.pointer (some ⟨p, 0, none⟩), .string s] w (InternTold base S p i k d f h m l R (nums s) w) := by
  have hsz := spOk_sizes ho
  have ht := tlen_item (nums s).length
  have ht2 := tlen_field (nums (spF s)).length
  have hnl := nums_length s
  have hnl2 := nums_length (spF s)
  cases ha : findG l 1 (nums s) with
  | some a => exact (intern_old s w D H hbm hk hlim hN hwl ho hs ha).mono fun e w' h => .inl ⟨a, ha, h⟩
  | none =>
    by_cases hroom : m.b.length + tlen 1 (nums s).length ≤ m.lim
    · have C := Came.item D hR hbm (nums_bytes s) (by omega) (by omega) ha (by omega)
      have hm1 := C.most
      by_cases hf2 : findG (addG l k d f 1 m.b.length (nums s)) 2 (nums (spF s)) = none → (addIM m l k d f 1 (nums s)).b.length + tlen 2 (nums (spF s)).length ≤ m.lim
      · exact (intern_new s w D hR H hbm hk hlim hN hwl ho hs ha hroom hf2).mono fun e w' h => .inr (.inr ⟨ha, h.1, h.2⟩)
      · have hn : findG (addG l k d f 1 m.b.length (nums s)) 2 (nums (spF s)) = none := by
          cases hq : findG (addG l k d f 1 m.b.length (nums s)) 2 (nums (spF s)) with
          | none => rfl
          | some a => exact absurd (fun e => by rw [hq] at e; cases e) hf2
        have hfull : m.lim < (addIM m l k d f 1 (nums s)).b.length + tlen 2 (nums (spF s)).length := Nat.lt_of_not_le fun e => hf2 fun _ => e
        refine (intern_half s w D hR H hbm hk hlim hN hwl ho hs ha hroom hn hfull).mono fun e w' h => .inr (.inl ⟨ha, h.1, ?_, _, h.2, C.was, C.lim, C.by_, ?_, ?_, C.good⟩)
        · omega
        · omega
        · have := C.words; omega
    · refine (intern_full s w D H hbm hk hlim hN hwl ho hs ha (by omega)).mono fun e w' h => .inr (.inl ⟨ha, h.1, ?_, m, IXT.far H h.2, rfl, rfl, hbm, ?_, ?_, id⟩)
      · omega
      · omega
      · omega
end

end Go.Proofs.YtknimfnjmhmamaaGreat
