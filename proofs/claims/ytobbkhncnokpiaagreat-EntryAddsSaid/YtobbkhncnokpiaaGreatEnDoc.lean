/-
  LAYER 16: the document's All, Having, Search, Checked, of rows of records in memory: contracts.
-/
import Derived.Test.YtobbkhncnokpiaaGreatEnSame2
import Derived.Test.YtobbkhncnokpiaaGreatEnAll
set_option linter.unusedVariables false
set_option maxRecDepth 100000
set_option linter.unusedSimpArgs false
namespace Go.Proofs.YtobbkhncnokpiaaGreat
open Go.RowKit Go.Shelf

theorem cellsR5_at : ∀ (l : List RC) (i : Nat) (r : RC), l[i]? = some r → ∀ q, q < 5 → (cellsR5 l)[i * 5 + q]? = r.cs[q]?
  | [], i, r, h, q, hq => by simp at h
  | a :: l, 0, r, h, q, hq => by
    simp at h; subst h
    unfold cellsR5
    rw [List.map_cons, List.flatten_cons, List.getElem?_append_left (by show 0 * 5 + q < 5; omega), Nat.zero_mul, Nat.zero_add]
  | a :: l, i + 1, r, h, q, hq => by
    have h' : l[i]? = some r := by simpa using h
    have ih := cellsR5_at l i r h' q hq
    unfold cellsR5 at ih ⊢
    rw [List.map_cons, List.flatten_cons, List.getElem?_append_right (by show 5 ≤ _; omega)]
    rw [← ih]
    congr 1
    show (i + 1) * 5 + q - 5 = _
    omega

/-- A slice that reads as records. -/
structure RecsR (w : World) (B : Nat) (A : Option Addr) (n c : Nat) (l : List RC) : Prop where
  reads : Reads w B 5 A n (cellsR5 l)
  le : n ≤ c
  cap : c ≤ 9223372036854775807
  len : l.length = n
  each : ∀ r ∈ l, Txt w B r.A r.n r.c r.its
theorem RecsR.below {w w' : World} {B n c : Nat} {A : Option Addr} {l : List RC} (h : RecsR w B A n c l) (hb : Below B w w') : RecsR w' B A n c l := ⟨h.reads.below hb, h.le, h.cap, h.len, fun r hr => (h.each r hr).below hb⟩
theorem RecsR.drewN {w : World} {B n c : Nat} {A : Option Addr} {l : List RC} (h : RecsR w B A n c l) (q : Nat) : RecsR (w.drewN q) B A n c l := ⟨h.reads.drewN q, h.le, h.cap, h.len, fun r hr => (h.each r hr).drewN q⟩
theorem RecsR.at_ {w : World} {B n c : Nat} {A : Option Addr} {l : List RC} (h : RecsR w B A n c l) {i : Nat} (hi : i < n) :
    ∃ b off r, A = some ⟨b, off, none⟩ ∧ b < B ∧ l[i]? = some r ∧ Txt w B r.A r.n r.c r.its ∧ w.cell? ⟨b, off + i * 5, none⟩ = some (.int .u64 r.seq) ∧ w.cell? ⟨b, off + i * 5 + 1, none⟩ = some (.int .u64 r.real) ∧ w.cell? ⟨b, off + i * 5 + 2, none⟩ = some (.int .u64 r.mono) ∧ w.cell? ⟨b, off + i * 5 + 3, none⟩ = some (.int .u64 r.boot) ∧ w.cell? ⟨b, off + i * 5 + 4, none⟩ = some (.slice r.A r.n r.c) := by
  have hil : i < l.length := by rw [h.len]; exact hi
  obtain ⟨b, off, e, hb, hc⟩ := h.reads.at2 (by omega) (by omega)
  have hr := List.getElem?_eq_getElem hil
  have g : ∀ q, q < 5 → ∀ u, (l[i]).cs[q]? = some u → w.cell? ⟨b, off + i * 5 + q, none⟩ = some u := fun q hq u hu => by
    rw [Nat.add_assoc]
    exact hc _ _ ((cellsR5_at l i _ hr q hq).trans hu)
  exact ⟨b, off, l[i], e, hb, hr, h.each _ (List.getElem_mem hil), g 0 (by omega) _ rfl, g 1 (by omega) _ rfl, g 2 (by omega) _ rfl, g 3 (by omega) _ rfl, g 4 (by omega) _ rfl⟩
theorem RecsR.of_own {w : World} {base : Nat} {v : Value} {l : List RC} (ho : w.ownsRow base 36 5 v l.length (cellsR5 l)) (he : ∀ r ∈ l, Txt w w.heap.size r.A r.n r.c r.its) : ∃ A c, v = .slice A l.length c ∧ RecsR w w.heap.size A l.length c l := by
  obtain ⟨A, c, rfl, h1, h2⟩ := own_form ho
  exact ⟨A, c, rfl, Reads.of_own ho, h1, by unfold maxLen at h2; omega, rfl, he⟩

/-- Are lists of records alike? -/
theorem same_refl {a b : RC} (h0 : a.seq = b.seq) (h1 : a.real = b.real) (h2 : a.mono = b.mono) (h3 : a.boot = b.boot) (h4 : a.its = b.its) : a.same b = true := by unfold RC.same; simp [h0, h1, h2, h3, h4]

set_option maxHeartbeats 2000000 in
/-- The document's All, of alike lists. -/
theorem reall_same (A1 A2 : Option Addr) (n c1 c2 : Nat) (l1 l2 : List RC) (B1 B2 : Nat) (w : World) (h1 : RecsR w B1 A1 n c1 l1) (h2 : RecsR w B2 A2 n c2 l2) (hB1 : B1 ≤ w.heap.size) (hB2 : B2 ≤ w.heap.size) (hs : ∀ (i : Nat) (a b : RC), l1[i]? = some a → l2[i]? = some b → a.same b = true) :
    Calls Tryz.prog 21 #[.slice A1 n c1, .slice A2 n c2] w fun e w' => e = .returned (.bool true) ∧ Below w.heap.size w w' := by
  have hle := h1.le
  have hcap := h1.cap
  have hle2 := h2.le
  have hcap2 := h2.cap
  have H1 := Lib.hid (And.intro h1 (And.intro h2 hs))
  clear h1 h2 hs
  go_enter Tryz.func21, Tryz.ntmps21
  go_wp2
  go_loopw [5] (fun i wr => ∃ k : Nat, k ≤ n ∧ i = .int .i64 k ∧ Below w.heap.size w wr) (fun i _ => n - (intOf i).toNat)
  case atStart => exact ⟨0, Nat.zero_le _, rfl, Below.refl _ _⟩
  case round =>
    obtain ⟨k, hk, rfl, hbw⟩ := hrel
    by_cases hlt : k < n
    · obtain ⟨b1, o1, r1, rfl, hb1, e1, t1, x0, x1, x2, x3, x4⟩ := (H1.out.1.below (hbw.mono hB1)).at_ hlt
      obtain ⟨b2, o2, r2, rfl, hb2, e2, t2, y0, y1, y2, y3, y4⟩ := (H1.out.2.1.below (hbw.mono hB2)).at_ hlt
      have hsm := H1.out.2.2 k r1 r2 e1 e2
      have SM := Lib.hid (fun wx (hb : Below wr.heap.size wr wx) => resame_any r1 r2 B1 B2 wx (t1.below (hb.mono (Nat.le_trans hB1 hbw.size))) (t2.below (hb.mono (Nat.le_trans hB2 hbw.size))) (Nat.le_trans hB1 (Nat.le_trans hbw.size hb.size)) (Nat.le_trans hB2 (Nat.le_trans hbw.size hb.size)))
      rw [hsm] at SM
      obtain ⟨v0, v1, v2, v3, A3, n3, c3, z3⟩ := r1
      obtain ⟨u0, u1, u2, u3, A4, n4, c4, z4⟩ := r2
      have HS := Lib.hid (fun wx (hb : Below wr.heap.size wr wx) => (show (wx.cell? ⟨b1, o1 + k * 5, none⟩ = some (.int .u64 v0) ∧ wx.cell? ⟨b1, o1 + k * 5 + 1, none⟩ = some (.int .u64 v1) ∧ wx.cell? ⟨b1, o1 + k * 5 + 2, none⟩ = some (.int .u64 v2) ∧ wx.cell? ⟨b1, o1 + k * 5 + 3, none⟩ = some (.int .u64 v3) ∧ wx.cell? ⟨b1, o1 + k * 5 + 4, none⟩ = some (.slice A3 n3 c3)) ∧
          (wx.cell? ⟨b2, o2 + k * 5, none⟩ = some (.int .u64 u0) ∧ wx.cell? ⟨b2, o2 + k * 5 + 1, none⟩ = some (.int .u64 u1) ∧ wx.cell? ⟨b2, o2 + k * 5 + 2, none⟩ = some (.int .u64 u2) ∧ wx.cell? ⟨b2, o2 + k * 5 + 3, none⟩ = some (.int .u64 u3) ∧ wx.cell? ⟨b2, o2 + k * 5 + 4, none⟩ = some (.slice A4 n4 c4)) from by
        have hl1 : b1 < wr.heap.size := by have := hbw.size; omega
        have hl2 : b2 < wr.heap.size := by have := hbw.size; omega
        exact ⟨⟨(hb.cell (p := ⟨b1, _, none⟩) hl1).trans x0, (hb.cell (p := ⟨b1, _, none⟩) hl1).trans x1, (hb.cell (p := ⟨b1, _, none⟩) hl1).trans x2, (hb.cell (p := ⟨b1, _, none⟩) hl1).trans x3, (hb.cell (p := ⟨b1, _, none⟩) hl1).trans x4⟩,
          ⟨(hb.cell (p := ⟨b2, _, none⟩) hl2).trans y0, (hb.cell (p := ⟨b2, _, none⟩) hl2).trans y1, (hb.cell (p := ⟨b2, _, none⟩) hl2).trans y2, (hb.cell (p := ⟨b2, _, none⟩) hl2).trans y3, (hb.cell (p := ⟨b2, _, none⟩) hl2).trans y4⟩⟩))
      have hlti : (k : Int) < n := by omega
      have hk0 : (0 : Int) ≤ k := by omega
      have hbx : Below wr.heap.size wr wr.drew := below_drewn (Below.refl _ _) 1
      have HK := Lib.hid (HS.out _ hbx)
      clear t1 t2 hsm e1 e2 x0 x1 x2 x3 x4 y0 y1 y2 y3 y4
      go_wp2
      go_region_held3 (fun wx => (wx.cell? ⟨b1, o1 + k * 5, none⟩ = some (.int .u64 v0) ∧ wx.cell? ⟨b1, o1 + k * 5 + 1, none⟩ = some (.int .u64 v1) ∧ wx.cell? ⟨b1, o1 + k * 5 + 2, none⟩ = some (.int .u64 v2) ∧ wx.cell? ⟨b1, o1 + k * 5 + 3, none⟩ = some (.int .u64 v3) ∧ wx.cell? ⟨b1, o1 + k * 5 + 4, none⟩ = some (.slice A3 n3 c3)) ∧
          (wx.cell? ⟨b2, o2 + k * 5, none⟩ = some (.int .u64 u0) ∧ wx.cell? ⟨b2, o2 + k * 5 + 1, none⟩ = some (.int .u64 u1) ∧ wx.cell? ⟨b2, o2 + k * 5 + 2, none⟩ = some (.int .u64 u2) ∧ wx.cell? ⟨b2, o2 + k * 5 + 3, none⟩ = some (.int .u64 u3) ∧ wx.cell? ⟨b2, o2 + k * 5 + 4, none⟩ = some (.slice A4 n4 c4)))
        (first | assumption | exact HK.out | exact HS.out _ (by assumption))
        ((go_at_call 17; refine (SM.out _ hbx).mono ?_; rintro e wx ⟨rfl, hb5⟩; have hbx := hbx.trans (hb5.mono hbx.size)))
      go_wp2
      go_roundw
      case rel => exact ⟨k + 1, by omega, by go_num, hbw.trans (hbx.mono hbw.size)⟩
      case measure => simp [intOf]; omega
    · obtain rfl : k = n := by omega
      go_wp2
      go_ret
      exact ⟨rfl, hbw⟩

/-! ### Having -/
def hasAt (l : List RC) (s : ByteArray) (i : Nat) : Bool := match l[i]? with
  | some r => hasB r.its s
  | none => false
def havI (l : List RC) (s : ByteArray) (k : Nat) : List Nat := (List.range k).filter (hasAt l s)
theorem havI_yes {l : List RC} {s : ByteArray} {k : Nat} (h : hasAt l s k = true) : havI l s (k + 1) = havI l s k ++ [k] := by unfold havI; rw [List.range_succ, List.filter_append, List.filter_cons_of_pos (by exact h), List.filter_nil]
theorem havI_no {l : List RC} {s : ByteArray} {k : Nat} (h : hasAt l s k = false) : havI l s (k + 1) = havI l s k := by unfold havI; rw [List.range_succ, List.filter_append, List.filter_cons_of_neg (by rw [h]; simp), List.filter_nil, List.append_nil]
theorem havI_len (l : List RC) (s : ByteArray) (k : Nat) : (havI l s k).length ≤ k := by
  unfold havI
  refine Nat.le_trans (List.length_filter_le _ _) ?_
  rw [List.length_range]; exact Nat.le_refl _
def ints (l : List Nat) : List Int := l.map (fun i : Nat => (i : Int))

set_option maxHeartbeats 2000000 in
theorem rhaving_any {B n c : Nat} {A : Option Addr} {l : List RC} (s : ByteArray) (w : World) (h : RecsR w B A n c l) (hB : B ≤ w.heap.size) (hn : n ≤ 900) :
    Calls Tryz.prog 25 #[.slice A n c, .string s] w fun e w' => ∃ v, e = .returned v ∧ w'.ownsRow w.heap.size 3 1 v (havI l s n).length (cellsOf .i64 (ints (havI l s n))) ∧ Below w.heap.size w w' := by
  obtain ⟨i0, hi, hz0, hz1, hz2⟩ := info_parts intInfo14
  have hle := h.le
  have hcap := h.cap
  have HH := Lib.hid h
  clear h
  go_enter Tryz.func25, Tryz.ntmps25
  go_wp2
  go_loopw [5, 6] (fun v i wr => ∃ (k : Nat), k ≤ n ∧ i = .int .i64 k ∧ wr.ownsRow w.heap.size 3 1 v (havI l s k).length (cellsOf .i64 (ints (havI l s k))) ∧ Below w.heap.size w wr) (fun _ i _ => n - (intOf i).toNat)
  case atStart => exact ⟨0, Nat.zero_le _, rfl, World.ownsRow_nil _ _ _ _, Below.refl _ _⟩
  case round =>
    obtain ⟨k, hk, rfl, hown, hbw⟩ := hrel
    obtain ⟨A1, c1, rfl, -, -⟩ := own_form hown
    by_cases hlt : k < n
    · obtain ⟨b, off, r, rfl, hb, hr, ht, x0, x1, x2, x3, x4⟩ := (HH.out.below (hbw.mono hB)).at_ hlt
      have HS := Lib.hid (rhas_any r.A r.n r.c r.its s B wr ht)
      have hml := havI_len l s k
      have hha : hasAt l s k = hasB r.its s := by unfold hasAt; rw [hr]
      obtain ⟨rA, hrA⟩ : ∃ x, r.A = x := ⟨_, rfl⟩
      obtain ⟨rn, hrn⟩ : ∃ x, r.n = x := ⟨_, rfl⟩
      obtain ⟨rc, hrc⟩ : ∃ x, r.c = x := ⟨_, rfl⟩
      rw [hrA, hrn, hrc] at HS x4
      cases hq : hasB r.its s with
      | true =>
        rw [hq] at HS hha
        have HV := Lib.hid (havI_yes hha)
        obtain ⟨m, hm⟩ : ∃ m, (havI l s k).length = m := ⟨_, rfl⟩
        obtain ⟨xs, hxs⟩ : ∃ xs, havI l s k = xs := ⟨_, rfl⟩
        rw [hxs] at HV hown hml ⊢
        have HO := Lib.hid hown
        have s2 : xs.length + 1 ≤ maxLen := by unfold maxLen; omega
        have s3 : (xs.length + 1) * 8 ≤ 140737488355328 := by omega
        have hsW := hbw.size
        clear hr ht x0 x1 x2 x3 hha hq hrA hrn hrc hown hm hxs
        go_wp2_with (first
          | (go_at_call 28; refine HS.out.mono ?_; rintro e w5 ⟨rfl, rfl⟩)
          | (at_builtin; refine wpList_append_any _ rfl _ _ 58 rfl w.heap.size 3 i0 (.int .i64 0) 1 8 Tryz.underlying58 hi hz0 hz1 hz2 rfl (Nat.lt_succ_self 0) (.slice A1 xs.length c1) xs.length (cellsOf .i64 (ints xs)) rfl (HO.out.alloc _) _ _ 1 1 [.int .i64 k] rfl (Reads.new1 wr _ _) (one_oneCell _ _) s2 s3 (by simp; omega) ?_; intro v1 w1 hown1 hg1 hat1; have H1 := Lib.hid (And.intro hown1 ((hbw.alloc hbw.size _).grown hg1 (by simp; omega) (fun g hg => (HO.out.lt g hg).1))); clear hown1 hg1 hat1))
        go_roundw
        case rel => exact ⟨k + 1, by omega, by go_num, by rw [HV.out, List.length_append, ints, List.map_append, cellsOf_append]; exact H1.out.1, H1.out.2⟩
        case measure => simp [intOf]; omega
      | false =>
        rw [hq] at HS hha
        have HV := Lib.hid (havI_no hha)
        have HO := Lib.hid hown
        clear hr ht x0 x1 x2 x3 hha hq hrA hrn hrc hown
        go_wp2_with (go_at_call 28; refine HS.out.mono ?_; rintro e w5 ⟨rfl, rfl⟩)
        go_roundw
        case rel => exact ⟨k + 1, by omega, by go_num, by rw [HV.out]; exact HO.out, hbw⟩
        case measure => simp [intOf]; omega
    · obtain rfl : k = n := by omega
      have HO := Lib.hid hown
      clear hown
      go_wp2
      go_ret
      exact ⟨_, rfl, HO.out, hbw⟩

/-! ### Search -/
def firstS (q : Int) (qs : List Int) : Nat := (qs.takeWhile fun x => !decide (q ≤ x)).length
theorem firstS_yes {q : Int} {qs : List Int} {k : Nat} (h : ∀ i, i < k → ¬ q ≤ qs.getD i 0) (hk : k < qs.length) (h1 : q ≤ qs.getD k 0) : firstS q qs = k := by
  induction qs generalizing k with
  | nil => simp at hk
  | cons x l ih =>
    cases k with
    | zero =>
      have h1' : q ≤ x := by simpa using h1
      unfold firstS
      rw [List.takeWhile_cons_of_neg (by simp [h1'])]; rfl
    | succ k =>
      have h0 : ¬ q ≤ x := by simpa using h 0 (by omega)
      have hh : firstS q l = k := ih (fun i hi => by simpa using h (i + 1) (by omega)) (by simpa using hk) (by simpa using h1)
      unfold firstS at hh ⊢
      rw [List.takeWhile_cons_of_pos (by simp; omega), List.length_cons, hh]
theorem firstS_no {q : Int} {qs : List Int} (h : ∀ i, i < qs.length → ¬ q ≤ qs.getD i 0) : firstS q qs = qs.length := by
  induction qs with
  | nil => rfl
  | cons x l ih =>
    have h0 : ¬ q ≤ x := by simpa using h 0 (by simp)
    have hh : firstS q l = l.length := ih (fun i hi => by simpa using h (i + 1) (by simpa using hi))
    unfold firstS at hh ⊢
    rw [List.takeWhile_cons_of_pos (by simp; omega), List.length_cons, List.length_cons, hh]

set_option maxHeartbeats 1000000 in
theorem research_any {B n c : Nat} {A : Option Addr} {l : List RC} (q : Int) (w : World) (h : RecsR w B A n c l) :
    Calls Tryz.prog 30 #[.slice A n c, .int .u64 q] w fun e w' => e = .returned (.int .i64 (firstS q (l.map (·.seq)) : Nat)) ∧ w = w' := by
  have hle := h.le
  have hcap := h.cap
  have HH := Lib.hid h
  have HL := Lib.hid h.len
  clear h
  go_enter Tryz.func30, Tryz.ntmps30
  go_wp2
  go_loopw [5] (fun i wr => ∃ (k : Nat), k ≤ n ∧ i = .int .i64 k ∧ Hid (∀ j, j < k → ¬ q ≤ (l.map (·.seq)).getD j 0) ∧ w = wr) (fun i _ => n - (intOf i).toNat)
  case atStart => exact ⟨0, Nat.zero_le _, rfl, Lib.hid (fun j hj => absurd hj (by omega)), rfl⟩
  case round =>
    obtain ⟨k, hk, rfl, HN, rfl⟩ := hrel
    by_cases hlt : k < n
    · obtain ⟨b, off, r, rfl, hb, hr, ht, x0, x1, x2, x3, x4⟩ := HH.out.at_ hlt
      have hv : (l.map (·.seq)).getD k 0 = r.seq := by rw [List.getD_eq_getElem?_getD, List.getElem?_map, hr]; rfl
      obtain ⟨z, hz⟩ : ∃ z, r.seq = z := ⟨_, rfl⟩
      rw [hz] at x0 hv
      by_cases hge : q ≤ z
      · have HF := Lib.hid (firstS_yes HN.out (by rw [List.length_map, HL.out]; exact hlt) (by rw [hv]; exact hge))
        clear hr ht hv hz x1 x2 x3 x4
        go_wp2
        go_ret
        exact ⟨by rw [HF.out]; rfl, rfl⟩
      · have HN2 : Hid (∀ j, j < k + 1 → ¬ q ≤ (l.map (·.seq)).getD j 0) := Lib.hid (fun j hj => by
          rcases Nat.lt_or_ge j k with e | e
          · exact HN.out j e
          · obtain rfl : j = k := by omega
            rw [hv]; exact hge)
        clear hr ht hv hz x1 x2 x3 x4
        go_wp2
        go_roundw
        case rel => exact ⟨k + 1, by omega, by go_num, HN2, by first | rfl | trivial⟩
        case measure => simp [intOf]; omega
    · obtain rfl : k = n := by omega
      have HF := Lib.hid (firstS_no (q := q) (qs := l.map (·.seq)) (fun i hi => HN.out i (by rw [List.length_map, HL.out] at hi; exact hi)))
      rw [List.length_map, HL.out] at HF
      go_wp2
      go_ret
      exact ⟨by rw [HF.out]; rfl, rfl⟩

/-! ### Checked -/
set_option maxHeartbeats 1000000 in
theorem rchecked_any {B : Nat} (r : RC) (w : World) (hT : Txt w B r.A r.n r.c r.its) (hB : B ≤ w.heap.size) (hn : r.n ≤ 1000) :
    Calls Tryz.prog 12 #[r.v] w fun e w' => ∃ A c, e = .returned (.tuple #[.agg #[.int .u64 r.seq, .int .u64 r.real, .int .u64 r.mono, .int .u64 r.boot, .slice A (chkL r.its).length c], .int .i64 (chkE r.its)]) ∧ Txt w' w'.heap.size A (chkL r.its).length c (chkL r.its) ∧ Below w.heap.size w w' ∧ ∀ ad, A = some ad → w.heap.size ≤ ad.block := by
  obtain ⟨v0, v1, v2, v3, A, n, c, zs⟩ := r
  obtain ⟨hb0, hk0, hk1⟩ := two_boxes w 36 #[.int .u64 v0, .int .u64 v1, .int .u64 v2, .int .u64 v3, .slice A n c] #[.int .u64 0, .int .u64 0, .int .u64 0, .int .u64 0, .slice none 0 0]
  have hsz := (show ((w.alloc (.cells #[.int .u64 v0, .int .u64 v1, .int .u64 v2, .int .u64 v3, .slice A n c] 36)).alloc (.cells #[.int .u64 0, .int .u64 0, .int .u64 0, .int .u64 0, .slice none 0 0] 36)).heap.size = w.heap.size + 2 by simp)
  have CH := Lib.hid (rcheck_own A n c zs ((w.alloc (.cells #[.int .u64 v0, .int .u64 v1, .int .u64 v2, .int .u64 v3, .slice A n c] 36)).alloc (.cells #[.int .u64 0, .int .u64 0, .int .u64 0, .int .u64 0, .slice none 0 0] 36)) ((hT.more hB).below hb0 |>.more hb0.size) hn)
  have X := Lib.hid (And.intro hsz (And.intro hb0 (And.intro hk0 hk1)))
  show Calls Tryz.prog 12 #[.agg #[.int .u64 v0, .int .u64 v1, .int .u64 v2, .int .u64 v3, .slice A n c]] w _
  unfold ChkO at CH
  obtain ⟨ec, hec⟩ : ∃ ec, chkE zs = ec := ⟨_, rfl⟩
  obtain ⟨L, hL⟩ : ∃ L, chkL zs = L := ⟨_, rfl⟩
  simp only []
  rw [hec, hL] at CH ⊢
  clear hT hb0 hk0 hk1 hsz hec hL
  go_enter Tryz.func12, Tryz.ntmps12
  go_wp2_with (go_at_call 39; (refine CH.out.mono ?_; rintro e w1 ⟨A1, c1, rfl, ht1, hb1, hf1⟩; have hk2 := X.out.2.2.1.below hb1 (by rw [X.out.1]; omega); have hk3 := X.out.2.2.2.below hb1 (by rw [X.out.1]; omega); have x4 := hk2.cell 4; have g4 := hk2.frozen 4; have hk5 : Blk (w1.setCell ⟨w.heap.size, 4, none⟩ (.slice A1 L.length c1)) w.heap.size 36 #[.int .u64 v0, .int .u64 v1, .int .u64 v2, .int .u64 v3, .slice A1 L.length c1] := hk2.set_ 4 _; have hk6 : Blk (w1.setCell ⟨w.heap.size, 4, none⟩ (.slice A1 L.length c1)) (w.heap.size + 1) 36 #[.int .u64 0, .int .u64 0, .int .u64 0, .int .u64 0, .slice none 0 0] := hk3.far (by show w.heap.size + 1 ≠ w.heap.size; omega) _; have y0 := hk5.cell 0; have y1 := hk5.cell 1; have y2 := hk5.cell 2; have y3 := hk5.cell 3; have y4 := hk5.cell 4; have z0 := hk6.cell 0; have z1 := hk6.cell 1; have z2 := hk6.cell 2; have z3 := hk6.cell 3; have z4 := hk6.cell 4; have f0 := hk6.frozen 0; have f1 := hk6.frozen 1; have f2 := hk6.frozen 2; have f3 := hk6.frozen 3; have f4 := hk6.frozen 4; have HK6 := Lib.hid (And.intro hk2 hk6); have HT := Lib.hid (And.intro ht1 (And.intro hb1 hf1)); clear hk2 hk3 hk5 hk6 ht1 hb1 hf1))
  have hp5 := put5r (a0 := .int .u64 v0) (a1 := .int .u64 v1) (a2 := .int .u64 v2) (a3 := .int .u64 v3) (a4 := .slice A1 L.length c1) HK6.out.2
  refine bodyPost_ret (results_cell2 rfl _ _ (w.heap.size + 1) 36 _ (0, 0) _ rfl hp5.1 Tryz.underlying36 rfl (by kernel_rfl)) rfl ?_
  obtain ⟨ht1, hb1, hf1⟩ := HT.out
  rw [X.out.1] at hf1
  have hc := ((Chg.refl (fun q => q = w.heap.size ∨ q = w.heap.size + 1) w1).setCell (p := ⟨w.heap.size, 4, none⟩) (.inr (.inl rfl)) (.slice A1 L.length c1)).trans hp5.2 (fun q _ e => .inr e)
  refine ⟨A1, c1, rfl, (ht1.chg hc (Nat.le_refl _) (fun ad ha e => by have := hf1 ad ha; omega)).more hc.size, ?_, fun ad ha => by have := hf1 ad ha; omega⟩
  have hbw := X.out.2.1.trans (hb1.mono (by rw [X.out.1]; omega))
  exact hbw.trans (hc.below hbw.size (fun q _ e => by omega))

end Go.Proofs.YtobbkhncnokpiaaGreat
