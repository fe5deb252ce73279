/-
  LAYER 17: the walk of ScanEntries.
-/
import Derived.Test.YtjpfbkhjhainpaaScREnts
import Derived.Test.YtjpfbkhjhainpaaScLaw
import Derived.Test.YtjpfbkhjhainpaaObjView
import Derived.BigQuiet
set_option linter.unusedVariables false
set_option maxRecDepth 100000
set_option linter.unusedSimpArgs false
namespace Go.Proofs.Ytjpfbkhjhainpaa
open Go.RowKit Go.Shelf

theorem RecsR.nil_ (w : World) (B : Nat) : RecsR w B none 0 0 [] := ⟨⟨rfl, fun h => by omega⟩, Nat.le_refl _, by omega, rfl, fun r h => by cases h⟩
theorem EntsP.uni {zs : List Int} {lo : Int} {L E' : List SR} {N : Nat} {w w' : World} {e : Ending} {q : Bool} (h : EntsP zs lo L w e w') (hq : q = true ↔ ∀ r ∈ entsS L, OkE zs lo r) (hE : E' = if q = true then entsS L else []) (hN : E'.length = N) :
    ∃ A c l, e = .returned (.tuple #[.slice A N c, .bool q]) ∧ RecsR w' w'.heap.size A N c l ∧ EnsR zs E' l ∧ Below w.heap.size w w' := by
  rcases h with ⟨hb, ⟨ha, A, c, l, rfl, how, ht, he⟩ | ⟨hn, rfl⟩⟩
  · have hq1 : q = true := hq.2 ha
    subst hq1
    rw [if_pos rfl] at hE
    subst hE
    have hl : l.length = N := he.1.trans hN
    obtain ⟨A2, c2, e2, hR⟩ := RecsR.of_own how ht
    have e3 : A = A2 ∧ c = c2 := by injection e2 with h1 _ h3; exact ⟨h1, h3⟩
    obtain ⟨rfl, rfl⟩ := e3
    rw [hl] at hR ⊢
    exact ⟨A, c, l, rfl, hR, he, hb⟩
  · have hq1 : q = false := by
      cases q
      · rfl
      · exact absurd (hq.1 rfl) hn
    subst hq1
    have e9 : E' = [] := by rw [hE]; rfl
    subst e9
    subst hN
    exact ⟨none, 0, [], rfl, RecsR.nil_ _ _, ⟨rfl, fun i rc h => by simp at h⟩, hb⟩
theorem ItemsP.uni {zs : List Int} {lo hi : Int} {is : List Int} {T : List ByteArray} {N : Nat} {w w' : World} {e : Ending} {q : Bool} (h : ItemsP zs lo hi is w e w') (hq : q = true ↔ ∀ p ∈ is, OkI zs lo hi p) (hT : T = if q = true then itemsT zs is else []) (hN : T.length = N) :
    ∃ A c, e = .returned (.tuple #[.slice A N c, .bool q]) ∧ Txt w' w'.heap.size A N c T ∧ Below w.heap.size w w' := by
  rcases h with ⟨hb, ⟨ha, A, c, rfl, ht, -⟩ | ⟨hn, rfl⟩⟩
  · have hq1 : q = true := hq.2 ha
    subst hq1
    rw [if_pos rfl] at hT
    subst hT
    rw [itemsT_length] at hN
    rw [hN] at ht ⊢
    exact ⟨A, c, rfl, ht, hb⟩
  · have hq1 : q = false := by
      cases q
      · rfl
      · exact absurd (hq.1 rfl) hn
    subst hq1
    have e9 : T = [] := by rw [hT]; rfl
    subst e9
    subst hN
    exact ⟨none, 0, rfl, Txt.nil_ _ _, hb⟩
theorem bool_of (p : Prop) : ∃ q : Bool, q = true ↔ p := by
  by_cases h : p
  · exact ⟨true, fun _ => h, fun _ => rfl⟩
  · exact ⟨false, (fun e => by cases e), fun e => absurd e h⟩

set_option maxHeartbeats 3000000 in
theorem entries_law (A : Option Addr) (n c : Nat) (zs : List Int) (pl to : Int) (k : Int) (OA : Option Addr) (on oc : Nat) (ow : List Int) (OB : Option Addr) (om od : Nat) (or_ : List Int) (OC : Option Addr) (op oq : Nat) (is : List Int) (w : World)
    (hi : InInts w .u8 A n c zs) (hp : (Lit.int .i64 pl).wf = true) (ht : (Lit.int .i64 to).wf = true) (ho : ObIn w k OA on oc ow OB om od or_ OC op oq is) :
    Calls Try.prog 4 #[.slice A n c, .int .i64 pl, .int .i64 to, obV k OA on oc OB om od OC op oq] w fun e w' => e = .returned (.bool true) ∧ Below w.heap.size w w' := by
  have hbp := bounds_i64 hp
  have hbt := bounds_i64 ht
  have hb0 := boxed w (.cells #[.int .i64 k, .slice OA on oc, .slice OB om od, .slice OC op oq] 31)
  have x0 := Blk.new w 31 #[.int .i64 k, .slice OA on oc, .slice OB om od, .slice OC op oq]
  have q3 := x0.cell 3
  by_cases hq : 3000 < n
  · have t1 : decide ((3000 : Int) < (n : Int)) = true := decide_eq_true (by omega)
    have HB0 := Lib.hid hb0
    clear hi hp ht ho hb0 x0
    go_enter Try.func4, Try.ntmps4
    go_wp2_with (go_at_call 5; refine (scawake_any _).mono ?_; rintro e w5 ⟨rfl, hb5⟩)
    go_ret
    exact ⟨rfl, HB0.out.trans (hb5.mono HB0.out.size)⟩
  have t1 : decide ((3000 : Int) < (n : Int)) = false := decide_eq_false (by omega)
  by_cases hq2 : 200 < op
  · have t2 : decide ((200 : Int) < (op : Int)) = true := decide_eq_true (by omega)
    have HB0 := Lib.hid hb0
    clear hi hp ht ho hb0 x0
    go_enter Try.func4, Try.ntmps4
    go_wp2_with (go_at_call 5; refine (scawake_any _).mono ?_; rintro e w5 ⟨rfl, hb5⟩)
    go_ret
    exact ⟨rfl, HB0.out.trans (hb5.mono HB0.out.size)⟩
  have t2 : decide ((200 : Int) < (op : Int)) = false := decide_eq_false (by omega)
  have hz : AreB zs := fun z hz => wf_u8_bd (hi.wf z hz)
  have hl := hi.le
  have hcap := hi.cap
  obtain ⟨L, hL⟩ := scan_ex (zs.take (cutN n to)) pl
  obtain ⟨qe, hqe⟩ := bool_of (∀ r ∈ entsS L, OkE zs pl r)
  obtain ⟨qi, hqi⟩ := bool_of (∀ p ∈ is, OkI zs pl to p)
  obtain ⟨E', hE'⟩ : ∃ E', E' = if qe = true then entsS L else [] := ⟨_, rfl⟩
  obtain ⟨T', hT'⟩ : ∃ T', T' = if qi = true then itemsT zs is else [] := ⟨_, rfl⟩
  obtain ⟨NE, hNE⟩ : ∃ N, E'.length = N := ⟨_, rfl⟩
  obtain ⟨NT, hNT⟩ : ∃ N, T'.length = N := ⟨_, rfl⟩
  have hil : is.length = op := ho.ii.reads.len
  have hNT2 : NT ≤ 200 := by
    rw [← hNT, hT']
    split
    · rw [itemsT_length]; omega
    · simp
  have P1 := Lib.hid (fun wx (hx : Below w.heap.size w wx) => (scEnts_any A n c zs pl to L wx (hi.reads.below hx) hx.size hz hl hcap (by omega) (by omega) (by omega) (by omega) (by omega) hL).mono (fun e w' h => EntsP.uni h hqe hE' hNE))
  have P2 := Lib.hid (fun wx (hx : Below w.heap.size w wx) => (rEnts_any A n c zs pl to L wx (hi.reads.below hx) hx.size hz hl hcap (by omega) (by omega) (by omega) (by omega) (by omega) hL).mono (fun e w' h => EntsP.uni h hqe hE' hNE))
  have P3 := Lib.hid (fun wx (hx : Below w.heap.size w wx) => (scItems_any A n c zs pl to 0 none 0 0 none 0 0 OC op oq is wx (hi.reads.below hx) hx.size hz hl hcap (by omega) (by omega) (by omega) (by omega) (by omega) (ho.ii.reads.below hx) hx.size ho.words.2 ho.ii.le (by omega)).mono (fun e w' h => ItemsP.uni h hqi hT' hNT))
  have P4 := Lib.hid (fun wx (hx : Below w.heap.size w wx) => (rItems_any A n c zs pl to k OA on oc OB om od OC op oq is wx (hi.reads.below hx) hx.size hz hl hcap (by omega) (by omega) (by omega) (by omega) (by omega) (ho.ii.reads.below hx) hx.size ho.words.2 ho.ii.le (by omega)).mono (fun e w' h => ItemsP.uni h hqi hT' hNT))
  have X := Lib.hid (And.intro hb0 x0)
  clear hi hp ht ho hb0 x0 hz hL hqe hqi hE' hT' hNE hNT hil hq hq2
  go_enter Try.func4, Try.ntmps4
  go_wp2_with (first
    | (go_at_call 12; refine (P1.out _ X.out.1).mono ?_; rintro e w1 ⟨A1, c1, l1, rfl, hR1, hs1, hb1⟩; have HB1 := Lib.hid (X.out.1.trans (hb1.mono X.out.1.size)); have H1 := Lib.hid (And.intro hR1 hs1); have hx1 := X.out.2.below hb1 X.out.2.lt; have HX1 := Lib.hid hx1; clear hR1 hs1 hb1 hx1)
    | (go_at_call 13; refine (P2.out _ HB1.out).mono ?_; rintro e w2 ⟨A2, c2, l2, rfl, hR2, hs2, hb2⟩; have X2 := Lib.hid hb2.size; have HB2 := Lib.hid (HB1.out.trans (hb2.mono HB1.out.size)); have H2 := Lib.hid (And.intro hR2 hs2); have HR1 := Lib.hid (H1.out.1.below hb2); have HX2 := Lib.hid (HX1.out.below hb2 HX1.out.lt); have x3 := HX2.out.cell 3; clear hR2 hs2 hb2)
    | (go_at_call 14; refine (P3.out _ HB2.out).mono ?_; rintro e w3 ⟨A3, c3, rfl, ht3, hb3⟩; have HB3 := Lib.hid (HB2.out.trans (hb3.mono HB2.out.size)); have H3 := Lib.hid (And.intro ht3 hb3); have HX3 := Lib.hid (HX2.out.below hb3 HX2.out.lt); have y0 := HX3.out.cell 0; have y1 := HX3.out.cell 1; have y2 := HX3.out.cell 2; have y3 := HX3.out.cell 3; clear ht3 hb3)
    | (go_at_call 15; refine (P4.out _ HB3.out).mono ?_; rintro e w4 ⟨A4, c4, rfl, ht4, hb4⟩; have HB4 := Lib.hid (HB3.out.trans (hb4.mono HB3.out.size)); have H4 := Lib.hid (And.intro ht4 hb4); clear ht4 hb4 y0 y1 y2 y3 x3)
    | (go_at_call 16; have h12 := X2.out; have h34 := H4.out.2.size; have h24 := H3.out.2.size; have hb24 := Lib.hid (H3.out.2.trans (H4.out.2.mono h24)); refine (reall_same A1 A2 NE c1 c2 l1 l2 w1.heap.size w2.heap.size w4 (HR1.out.below (hb24.out.mono h12)) (H2.out.1.below hb24.out) (by omega) (by omega) (EnsR.same H1.out.2 H2.out.2)).mono ?_; clear h12 h34 h24 hb24; rintro e w5 ⟨rfl, hb5⟩; have H5 := Lib.hid hb5; clear hb5))
  have HT := Lib.hid (And.intro ((H3.out.1.below H4.out.2).below (H5.out.mono H4.out.2.size)) (H4.out.1.below H5.out))
  have HB5 := Lib.hid (HB4.out.trans (H5.out.mono HB4.out.size))
  clear HR1 H1 H2 H3 H4 H5 HX1 HX2 HX3 HB1 HB2 HB3 HB4 X X2 P1 P2 P3 P4
  go_loopw [17] (fun i wr => ∃ k q : Nat, k ≤ NT ∧ i = .int .i64 k ∧ wr = w5.drewN q) (fun i _ => NT - (intOf i).toNat)
  case atStart => exact ⟨0, 0, Nat.zero_le _, rfl, rfl⟩
  case round =>
    obtain ⟨k, q, hk, rfl, rfl⟩ := hrel
    by_cases hlt : k < NT
    · obtain ⟨b1, o1, rfl, hb1, hc1⟩ := HT.out.1.at_ (by omega)
      obtain ⟨b2, o2, rfl, hb2, hc2⟩ := HT.out.2.at_ (by omega)
      have e1 := hc1 k hlt
      have e2 := hc2 k hlt
      have hlti : (k : Int) < NT := by omega
      have hk0 : (0 : Int) ≤ k := by omega
      have hle := HT.out.1.le
      have hle2 := HT.out.2.le
      have hcap := HT.out.1.cap
      have hcap2 := HT.out.2.cap
      have HM := Lib.hid hNT2
      obtain ⟨s, hs⟩ : ∃ s, nthT T' k = s := ⟨_, rfl⟩
      rw [hs] at e1 e2
      clear hc1 hc2 hs
      go_wp2
      go_quiet (fail)
      go_wp2
      go_roundw
      case rel => exact ⟨k + 1, _, by omega, by go_num, by first | rfl | exact World.drewN_drewN _ _ _⟩
      case measure => simp [intOf]; omega
    · obtain rfl : k = NT := by omega
      go_wp2_with (go_at_call 5; refine (scawake_any _).mono ?_; rintro e w6 ⟨rfl, hb6⟩)
      go_ret
      exact ⟨rfl, HB5.out.trans ((below_drewn0 hb6).mono HB5.out.size)⟩
end Go.Proofs.Ytjpfbkhjhainpaa
