/-
  LAYER 12: WHAT Change OF PACKAGE image DOES: its contract.
-/
import Derived.Test.YthdnjjdlhhapbaaImFn
import Derived.Deep.RegionLaw
set_option linter.unusedVariables false
set_option maxRecDepth 100000
set_option linter.unusedSimpArgs false
namespace Go.Proofs.Ythdnjjdlhhapbaa
open Go.RowKit

theorem patchInfo : (Try.prog.info? 56).map (fun i => (i.zero, i.size, i.bytes)) = some (some (.agg #[.int .i64 0, .slice none 0 0]), 2, 32) := by kernel_rfl

/-- A patch, as it lies in a row of them. -/
structure PatchAt (w : World) (lo : Nat) (xs : List Value) (j k : Nat) (zs : List Int) : Prop where
  ex : ∃ g c, xs[j * 2]? = some (.int .i64 (k : Int)) ∧ xs[j * 2 + 1]? = some (.slice (some ⟨g, 0, none⟩) 8 c) ∧ lo ≤ g ∧ 8 ≤ c ∧ c ≤ 9223372036854775807 ∧ Reads w w.heap.size 1 (some ⟨g, 0, none⟩) 8 (cellsOf .u8 zs) ∧ ∃ cs, Blk w g 5 cs

section
variable {w w' : World} {lo j k : Nat} {xs : List Value} {zs : List Int} {T : Nat → Prop}
theorem PatchAt.chg (h : PatchAt w lo xs j k zs) (hc : Chg T w w') (hT : ∀ g cs, lo ≤ g → T g → ¬ Blk w g 5 cs) : PatchAt w' lo xs j k zs := by
  obtain ⟨g, c, h1, h2, h3, h4, h5, h6, cs, h7⟩ := h.ex
  have hn : ¬ T g := fun ht => hT g cs h3 ht h7
  exact ⟨g, c, h1, h2, h3, h4, h5, (h6.chg hc (Nat.le_refl _) (fun _ ad e => by injection e with e; subst e; exact hn)).more hc.size, cs, h7.chg hc hn⟩
theorem PatchAt.below (h : PatchAt w lo xs j k zs) (hb : Below w.heap.size w w') : PatchAt w' lo xs j k zs := h.chg (Chg.of_below hb (Nat.le_refl _) (fun _ => False)) (fun _ _ _ h => h.elim)
theorem PatchAt.app (h : PatchAt w lo xs j k zs) (ys : List Value) : PatchAt w lo (xs ++ ys) j k zs := by
  obtain ⟨g, c, h1, h2, h3⟩ := h.ex
  exact ⟨g, c, by rw [List.getElem?_append_left (List.getElem?_eq_some_iff.1 h1).1]; exact h1, by rw [List.getElem?_append_left (List.getElem?_eq_some_iff.1 h2).1]; exact h2, h3⟩
end

/-- What Change tells. -/
def ChTold (m : IM) (w : World) (e : Ending) (w' : World) : Prop :=
  ∃ Af nf cf Aw nw cw xs, e = .returned (.agg #[.int .i64 (m.was.length : Int), .slice Af nf cf, .slice Aw nw cw]) ∧ Below w.heap.size w w' ∧ w'.ownsRow w.heap.size 5 1 (.slice Af nf cf) nf (cellsOf .u8 (m.b.drop m.was.length)) ∧
    w'.ownsRow w.heap.size 56 2 (.slice Aw nw cw) nw xs ∧ nw = m.words.length ∧ ∀ j k, m.words[j]? = some k → PatchAt w' w.heap.size xs j k ((m.b.drop k).take 8)

/-- At the head of each round of Change: the patches of the first words. -/
structure ChAt (w wr : World) (m : IM) (R X : Nat) (o : Nat) (Af : Option Addr) (nf cf : Nat) (fb : List Int) (q : Nat) : Prop where
  ex : ∃ Aw cw xs, Blk wr X 53 #[.int .i64 (o : Int), .slice Af nf cf, .slice Aw q cw] ∧ wr.ownsRow w.heap.size 56 2 (.slice Aw q cw) q xs ∧ ∀ j k, j < q → m.words[j]? = some k → PatchAt wr w.heap.size xs j k ((m.b.drop k).take 8)
  res : Blk wr R 53 #[.int .i64 0, .slice none 0 0, .slice none 0 0]
  ne : R ≠ X
  lo : w.heap.size ≤ X
  lr : w.heap.size ≤ R
  bel : Below w.heap.size w wr
  fr : wr.ownsRow w.heap.size 5 1 (.slice Af nf cf) nf (cellsOf .u8 fb)

theorem ChAt.start {w wr : World} {m : IM} {R X o nf cf : Nat} {Af : Option Addr} {fb : List Int} (h1 : Blk wr X 53 #[.int .i64 (o : Int), .slice Af nf cf, .slice none 0 0]) (h2 : Blk wr R 53 #[.int .i64 0, .slice none 0 0, .slice none 0 0]) (h3 : R ≠ X) (h4 : w.heap.size ≤ X) (h5 : w.heap.size ≤ R) (h6 : Below w.heap.size w wr)
    (h7 : wr.ownsRow w.heap.size 5 1 (.slice Af nf cf) nf (cellsOf .u8 fb)) : ChAt w wr m R X o Af nf cf fb 0 :=
  ⟨⟨none, 0, [], h1, World.ownsRow_nil _ _ _ _, fun j k hj => absurd hj (by omega)⟩, h2, h3, h4, h5, h6, h7⟩

theorem ChAt.cells {w wr w1 : World} {m : IM} {R X o nf cf q cw : Nat} {Af Aw : Option Addr} {fb : List Int} (H : ChAt w wr m R X o Af nf cf fb q) (hX : Blk wr X 53 #[.int .i64 (o : Int), .slice Af nf cf, .slice Aw q cw]) (hb : Below wr.heap.size wr w1) :
    w1.cell? ⟨X, 2, none⟩ = some (.slice Aw q cw) ∧ Below w.heap.size w w1 := by
  have h := hX.below hb hX.lt
  exact ⟨h.cell 2, H.bel.trans (hb.mono H.bel.size)⟩
theorem ChAt.after {w1 w4 : World} {X o nf cf q cw b0 : Nat} {Af Aw : Option Addr} {xs : List Value} {ob : Obj} (hX : Blk w1 X 53 #[.int .i64 (o : Int), .slice Af nf cf, .slice Aw q cw]) (hown : w1.ownsRow b0 56 2 (.slice Aw q cw) q xs) (hg : (w1.alloc ob).grownBy w4 (Value.ownBlock (.slice Aw q cw))) :
    w4.frozen? ⟨X, 2, none⟩ = false ∧ w4.cell? ⟨X, 2, none⟩ = some (.slice Aw q cw) ∧ X < w4.heap.size := by
  have h := (hX.alloc ob).chg (Chg.of_grown hg) (fun e => own_blk_ne hown hX (by decide) e)
  exact ⟨h.frozen 2, h.cell 2, h.lt⟩

theorem ChAt.next {w wr w1 w4 : World} {m : IM} {R X o nf cf q cw a c5 : Nat} {Af Aw A5 : Option Addr} {v4 : Value} {fb zs : List Int} {xs : List Value} {ob : Obj} (H : ChAt w wr m R X o Af nf cf fb q)
    (hX : Blk wr X 53 #[.int .i64 (o : Int), .slice Af nf cf, .slice Aw q cw]) (hown : wr.ownsRow w.heap.size 56 2 (.slice Aw q cw) q xs) (hp : ∀ j k, j < q → m.words[j]? = some k → PatchAt wr w.heap.size xs j k ((m.b.drop k).take 8))
    (hb : Below wr.heap.size wr w1) (ho5 : w1.ownsRow wr.heap.size 5 1 (.slice A5 8 c5) 8 (cellsOf .u8 zs)) (hg : (w1.alloc ob).grownBy w4 (Value.ownBlock (.slice Aw q cw))) (ho4 : w4.ownsRow w.heap.size 56 2 v4 (q + 1) (xs ++ [.int .i64 (a : Int), .slice A5 8 c5]))
    (ha : m.words[q]? = some a) (hz : zs = (m.b.drop a).take 8) : ChAt w (w4.setCell ⟨X, 2, none⟩ v4) m R X o Af nf cf fb (q + 1) := by
  subst hz
  obtain ⟨A4, c4, rfl, -, -⟩ := own_form ho4
  have hX1 := hX.below hb hX.lt
  have hown1 := own_below hown hb
  have hc : Chg (fun j => Value.ownBlock (.slice Aw q cw) = some j) w1 w4 := ((Chg.refl (fun j => Value.ownBlock (.slice Aw q cw) = some j) w1).alloc ob).trans (Chg.of_grown hg) (fun _ _ e => e)
  have hnX : ∀ {g : Nat} {t : TypeId} {cs : Array Value}, Blk w1 g t cs → 56 ≠ t → ¬ Value.ownBlock (.slice Aw q cw) = some g := fun hk ht e => own_blk_ne hown1 hk ht e
  have hX4 := hX1.chg hc (hnX hX1 (by decide))
  have hR1 := H.res.below hb H.res.lt
  have hR4 := hR1.chg hc (hnX hR1 (by decide))
  have hs : Chg (fun j => j = X) w4 (w4.setCell ⟨X, 2, none⟩ (.slice A4 (q + 1) c4)) := chg_set w4 ⟨X, 2, none⟩ _
  have hf1 := own_below H.fr hb
  have hf4 := own_chg hf1 hc (fun g hg e => own_ne hf1 hown1 (by decide) g hg e)
  have hxl := hown.1
  have hsz := hb.size
  have hsz0 := H.bel.size
  obtain ⟨g5, cur5, e5, l5, k5, n5, m5, -, -⟩ := row_open ho5 (by omega)
  refine ⟨⟨A4, c4, xs ++ [.int .i64 (a : Int), .slice A5 8 c5], by simpa using hX4.set_ 2 (.slice A4 (q + 1) c4), ownsRow_setCell_other ho4 (own_blk_ne ho4 hX4 (by decide)) _, fun j kk hj hk => ?_⟩, hR4.far H.ne _, H.ne, H.lo, H.lr, ?_, ownsRow_setCell_other hf4 (own_blk_ne hf4 hX4 (by decide)) _⟩
  · by_cases hjq : j < q
    · have h1 := ((hp j kk hjq hk).below hb).chg hc (fun g cs _ e hk => hnX hk (by decide) e)
      exact (h1.app _).chg hs (fun g cs _ e hk => by subst e; exact blk_one hk hX4 (by decide))
    · obtain rfl : j = q := by omega
      rw [ha] at hk
      injection hk with hk
      subst hk
      have h4 : Blk w4 g5 5 cur5.toArray := k5.chg hc (hnX k5 (by decide))
      have hne : g5 ≠ X := fun e => by subst e; exact blk_one h4 hX4 (by decide)
      have hr5 := own_chg ho5 hc (fun g hg e => own_ne ho5 hown1 (by decide) g hg e)
      have hr6 := ownsRow_setCell_other (a := ⟨X, 2, none⟩) hr5 (own_blk_ne hr5 hX4 (by decide)) (.slice A4 (j + 1) c4)
      subst e5
      refine ⟨g5, c5, ?_, ?_, by omega, n5, by unfold maxLen at m5; omega, Reads.of_own hr6, _, h4.far hne _⟩
      · rw [List.getElem?_append_right (by omega), show j * 2 - xs.length = 0 by omega]; rfl
      · rw [List.getElem?_append_right (by omega), show j * 2 + 1 - xs.length = 1 by omega]; rfl
  · exact ((H.bel.trans (hb.mono hsz0)).trans (hc.below (by omega) (fun j _ e => (hown1.lt j e).1))).setCell H.lo _

theorem lit2p (w : World) (t : TypeId) (a b : Value) : Reads (w.alloc (.cells #[a, b] t)) (w.heap.size + 1) 2 (some ⟨w.heap.size, 0, none⟩) 1 [a, b] := by
  refine ⟨rfl, fun _ => ⟨_, rfl, Nat.lt_succ_self _, fun j u hu => ?_⟩⟩
  have h := (Blk.new w t #[a, b]).cell j
  have e : (⟨w.heap.size, 0, none⟩ : Addr).add j = ⟨w.heap.size, j, none⟩ := by unfold Addr.add; split <;> simp_all
  rw [e, h]; simpa using hu
theorem patch_one (n : Int) (A : Option Addr) (m c : Nat) : ∀ u ∈ [Value.int .i64 n, Value.slice A m c], u.oneCell' = true := fun u hu => by
  simp at hu
  rcases hu with rfl | rfl <;> rfl

theorem bts_word {m : IM} {a : Nat} (hb : AreB m.b) (ha : a + 8 ≤ m.b.length) : bts (m.word a) 8 = (m.b.drop a).take 8 := by
  have hok : gok m.b.length (a : Int) 8 = true := by simp [gok]; omega
  have e : m.word a = lev ((m.b.drop a).take 8) := by unfold IM.word gnum; rw [hok]; rfl
  rw [e]
  exact bts_lev ((hb.drop a).take 8) (by rw [List.length_take, List.length_drop]; omega)

/-- Three cells are stored. -/
theorem put3 {w : World} {g : Nat} {t : TypeId} {a b c a' b' c' : Value} (h : Blk w g t #[a, b, c]) : Blk (((w.setCell ⟨g, 0, none⟩ a').setCell ⟨g, 1, none⟩ b').setCell ⟨g, 2, none⟩ c') g t #[a', b', c'] ∧ Chg (fun j => j = g) w (((w.setCell ⟨g, 0, none⟩ a').setCell ⟨g, 1, none⟩ b').setCell ⟨g, 2, none⟩ c') := by
  refine ⟨?_, ?_⟩
  · have := ((h.set_ 0 a').set_ 1 b').set_ 2 c'
    simpa using this
  · exact (((Chg.refl (fun j => j = g) w).setCell (p := ⟨g, 0, none⟩) (.inr rfl) _).setCell (p := ⟨g, 1, none⟩) (.inr rfl) _).setCell (p := ⟨g, 2, none⟩) (.inr rfl) _

theorem ChAt.mem {w wx : World} {m : IM} {X o nf cf : Nat} {Af : Option Addr} {fb : List Int} (hX : Blk wx X 53 #[.int .i64 0, .slice none 0 0, .slice none 0 0]) (hR : Blk wx w.heap.size 53 #[.int .i64 0, .slice none 0 0, .slice none 0 0]) (hne : ¬ w.heap.size = X) (hlo : w.heap.size ≤ X) (hb : Below w.heap.size w wx)
    (ho : wx.ownsRow w.heap.size 5 1 (.slice Af nf cf) nf (cellsOf .u8 fb)) :
    ChAt w (((wx.setCell ⟨X, 0, none⟩ (.int .i64 (o : Int))).setCell ⟨X, 1, none⟩ (.slice Af nf cf)).setCell ⟨X, 2, none⟩ (.slice none 0 0)) m w.heap.size X o Af nf cf fb 0 := by
  obtain ⟨h1, h2⟩ := put3 (a' := .int .i64 (o : Int)) (b' := .slice Af nf cf) (c' := .slice none 0 0) hX
  exact ChAt.start h1 (hR.chg h2 hne) hne hlo (Nat.le_refl _) (hb.trans (h2.below hb.size (fun j _ e => by rw [e]; exact hlo))) (own_chg ho h2 (fun g hg e => own_blk_ne ho hX (by decide) (by rw [← e]; exact hg)))
theorem ChAt.mem2 {w wx : World} {m : IM} {o nf cf : Nat} {Af : Option Addr} {fb : List Int} (hR : Blk wx w.heap.size 53 #[.int .i64 0, .slice none 0 0, .slice none 0 0]) (hb : Below w.heap.size w wx)
    (ho : wx.ownsRow w.heap.size 5 1 (.slice Af nf cf) nf (cellsOf .u8 fb)) :
    ChAt w (wx.alloc (.cells #[.int .i64 (o : Int), .slice Af nf cf, .slice none 0 0] 53)) m w.heap.size wx.heap.size o Af nf cf fb 0 :=
  ChAt.start (Blk.new _ _ _) (hR.alloc _) (Nat.ne_of_lt hR.lt) hb.size (Nat.le_refl _) (hb.alloc hb.size _) (ho.alloc _)

section
variable {base p : Nat} {S : Nat → Prop} {i k d f h : Int} {m : IM} {bv sv : Value}
set_option maxHeartbeats 4000000 in
theorem ichange_any (w : World) (H : IX w base S p i k d f h m bv sv) (hg : m.Good) (hl : m.b.length ≤ 1099511627776) (hN : m.words.length ≤ 1000000000) :
    Calls Try.prog 17 #[.pointer (some ⟨p, 0, none⟩)] w (ChTold m w) := by
  obtain ⟨i0, hi, hz0, hz1, hz2⟩ := info_parts patchInfo
  obtain ⟨A, c, rfl, q1, q2, q3⟩ := H.reads
  obtain ⟨As, cs, rfl, s1, s2, s3⟩ := H.places
  obtain ⟨n, hn⟩ : ∃ n, n = m.words.length := ⟨_, rfl⟩
  obtain ⟨o, ho⟩ : ∃ o, o = m.was.length := ⟨_, rfl⟩
  obtain ⟨L, hL⟩ : ∃ L, L = m.b.length := ⟨_, rfl⟩
  have hoL : o ≤ L := by have := hg.le; omega
  have hLb : L ≤ 1099511627776 := by omega
  have hNb : n ≤ 1000000000 := by omega
  have hsub := q3.sub (lo := o) (hi := L) (cap := c) hoL (by omega) q1
  rw [List.take_of_length_le (by rw [List.length_drop]; omega)] at hsub
  have hc0 := fun w1 (hb : Below w.heap.size w w1) => (nine (H.below hb).blk).1
  rw [← hn, ← ho, ← hL] at hc0
  have HC : Hid (∀ w1, Below w.heap.size w w1 → w1.cell? ⟨p, 6, none⟩ = some (.slice A L c) ∧ w1.cell? ⟨p, 7, none⟩ = some (.int .i64 (o : Int))) := fun w1 hb => by
    obtain ⟨-, -, -, -, -, -, a6, a7, a8⟩ := hc0 w1 hb
    exact ⟨a6, a7⟩
  have HC8 : Hid (∀ w1, Below w.heap.size w w1 → w1.cell? ⟨p, 8, none⟩ = some (.slice As n cs)) := fun w1 hb => (hc0 w1 hb).2.2.2.2.2.2.2.2
  have HFL : Hid ((m.b.drop o).length = L - o) := by show _ = _; rw [List.length_drop, ← hL]
  have t1 : (o : Int) ≤ (L : Int) := by omega
  have t2 : o ≤ L := hoL
  have t3 : (L : Int) ≤ (c : Int) := by omega
  obtain ⟨w0, hw0⟩ : ∃ w0, w0 = w.alloc (.cells #[.int .i64 0, .slice none 0 0, .slice none 0 0] 53) := ⟨_, rfl⟩
  have hb0 : Below w.heap.size w w0 := by rw [hw0]; exact boxed _ _
  have hbA : Below w.heap.size w (w0.alloc (.cells #[.int .i64 0, .slice none 0 0, .slice none 0 0] 53)).drew := below_drewn (hb0.alloc hb0.size _) 1
  have HR0 : Hid (Blk w0 w.heap.size 53 #[.int .i64 0, .slice none 0 0, .slice none 0 0]) := by rw [hw0]; exact Blk.new _ _ _
  have HX0 : Hid (Blk (w0.alloc (.cells #[.int .i64 0, .slice none 0 0, .slice none 0 0] 53)).drew w0.heap.size 53 #[.int .i64 0, .slice none 0 0, .slice none 0 0]) := (Blk.new _ _ _).drew
  have HRX : Hid (Blk (w0.alloc (.cells #[.int .i64 0, .slice none 0 0, .slice none 0 0] 53)).drew w.heap.size 53 #[.int .i64 0, .slice none 0 0, .slice none 0 0]) := (HR0.out.alloc _).drew
  have HXW : Hid (w.heap.size < w0.heap.size ∧ ¬ w.heap.size = w0.heap.size) := by have h : w0.heap.size = w.heap.size + 1 := (by rw [hw0]; simp); exact ⟨by omega, by omega⟩
  have hb := below_drewn hb0 1
  have H0 := Lib.hid (HC.out _ hb)
  have HM := Lib.hid (And.intro hn (And.intro ho hL))
  have HX := Lib.hid (fun w1 (hb : Below w.heap.size w w1) => H.below hb)
  have HG := Lib.hid hg
  clear H q2 q3 s1 s2 s3 hn ho hL hc0 hg hl hN
  have HFB : Hid (m.b.drop o = m.b.drop o) := rfl
  generalize hfb : m.b.drop o = fb at *
  rcases (show (o = c ∧ o = L) ∨ ¬ c = o by omega) with ⟨hco, hLo⟩ | hco
  · subst hco
    subst hLo
    have hfz : fb = [] := List.eq_nil_of_length_eq_zero (by have := HFL.out; omega)
    have CL := Lib.hid (fun w1 (hb : Below w.heap.size w w1) => fun cc => bclone_any A 0 cc fb w1.heap.size w1 ⟨by rw [hfz]; rfl, fun h => absurd h (by omega)⟩ (Nat.le_refl _) (by omega))
    have HFB2 := Lib.hid hfb
    have hco : True := trivial
    clear hfz hsub hfb HFB
    go_enter Try.func17, Try.ntmps17
    go_wp2_with fail
    rw [← hw0]
    clear hw0
    go_region_held3 (fun w' => w'.cell? ⟨p, 6, none⟩ = some (.slice A o o) ∧ w'.cell? ⟨p, 7, none⟩ = some (.int .i64 (o : Int)))
      (first | assumption | exact H0.out | exact HC.out _ hb | exact HC.out _ hbA | exact HC.out _ (hb.alloc hb.size _) | exact HC.out _ (((hb.setCell (p := ⟨w0.heap.size, 0, none⟩) (Nat.le_of_lt HXW.out.1) _).setCell (p := ⟨w0.heap.size, 1, none⟩) (Nat.le_of_lt HXW.out.1) _).setCell (p := ⟨w0.heap.size, 2, none⟩) (Nat.le_of_lt HXW.out.1) _))
      (first
        | (go_at_call 45; refine (CL.out _ hbA _).mono ?_; go_loud (rintro e wx ⟨A1, n1, c1, rfl, hn1, ho1, hbx, -, -⟩; have hb := hbA.trans (hbx.mono hbA.size); have hzx := HX0.out.below hbx HX0.out.lt; have z0 := hzx.cell 0; have z1 := hzx.cell 1; have z2 := hzx.cell 2; have fz0 := hzx.frozen 0; have fz1 := hzx.frozen 1; have fz2 := hzx.frozen 2; have HN1 := Lib.hid hn1; clear hn1; have HST := Lib.hid (show ChAt w (((wx.setCell ⟨w0.heap.size, 0, none⟩ (.int .i64 (o : Int))).setCell ⟨w0.heap.size, 1, none⟩ (.slice A1 n1 c1)).setCell ⟨w0.heap.size, 2, none⟩ (.slice none 0 0)) m w.heap.size w0.heap.size o A1 n1 c1 fb 0 from ChAt.mem hzx (HRX.out.below hbx HRX.out.lt) HXW.out.2 (Nat.le_of_lt HXW.out.1) hb (own_base ho1 hbA.size)); clear hzx ho1))
        | (go_at_call 45; go_loud (refine (CL.out _ hb _).mono ?_; rintro e wx ⟨A1, n1, c1, rfl, hn1, ho1, hbx, -, -⟩; have hb := hb.trans (hbx.mono hb.size); have HN1 := Lib.hid hn1; clear hn1; have HST := Lib.hid (show ChAt w (wx.alloc (.cells #[.int .i64 (o : Int), .slice A1 n1 c1, .slice none 0 0] 53)) m w.heap.size wx.heap.size o A1 n1 c1 fb 0 from ChAt.mem2 ((HR0.out.drewN 1).below hbx HR0.out.lt) hb (own_base ho1 hb0.size)); clear ho1)))
    all_goals
      first
        | (obtain ⟨wS, hW9⟩ : ∃ wS, wx.alloc (.cells #[.int .i64 (o : Int), .slice A1 n1 c1, .slice none 0 0] 53) = wS := ⟨_, rfl⟩
           rw [hW9] at HST ⊢
           obtain ⟨X, hX9⟩ : ∃ X, wx.heap.size = X := ⟨_, rfl⟩
           rw [hX9] at HST ⊢
           clear hX9 hW9)
        | (obtain ⟨wS, hW9⟩ : ∃ wS, ((wx.setCell ⟨w0.heap.size, 0, none⟩ (.int .i64 (o : Int))).setCell ⟨w0.heap.size, 1, none⟩ (.slice A1 n1 c1)).setCell ⟨w0.heap.size, 2, none⟩ (.slice none 0 0) = wS := ⟨_, rfl⟩
           rw [hW9] at HST ⊢
           obtain ⟨X, hX9⟩ : ∃ X, w0.heap.size = X := ⟨_, rfl⟩
           rw [hX9] at HST ⊢
           clear hX9 hW9)
      (try clear z0 z1 z2 fz0 fz1 fz2)
      clear hb0 hbA hbx hb HR0 HX0 HRX HXW H0 CL HC hco
      have c8 := HC8.out _ HST.out.bel
      go_wp2
      go_loopw [29] (fun z wr => ∃ q : Nat, q ≤ n ∧ z = .int .i64 q ∧ Hid (ChAt w wr m w.heap.size X o A1 n1 c1 fb q)) (fun z _ => n - (intOf z).toNat)
      case atStart => exact ⟨0, Nat.zero_le _, rfl, HST⟩
      case round =>
        clear HST c8
        obtain ⟨q, hq, rfl, HB⟩ := hrel
        have HBX := Lib.hid (HX.out _ HB.out.bel)
        obtain ⟨Aw, cw, xs, hX1, hw1, hp1⟩ := HB.out.ex
        by_cases hlt : q < n
        · obtain ⟨a, ha⟩ : ∃ a, m.words[q]? = some a := ⟨_, List.getElem?_eq_getElem (by have := HM.out.1; omega)⟩
          have hset := HBX.out.set
          rw [← HM.out.1] at hset
          obtain ⟨bb, off, rfl, -, hcell⟩ := (Reads.of_own hset).plain (by omega)
          have hc := hcell q hlt
          rw [nats_get (by have := HM.out.1; omega), show m.words.getD q 0 = a by simp [List.getD_eq_getElem?_getD, ha]] at hc
          have hw := HG.out.ws a (List.mem_of_getElem? ha)
          have hLL := HM.out.2.2
          have hb0 : Below wr.heap.size wr wr.drew := below_drewn (Below.refl _ _) 1
          have WD := Lib.hid (iword_any a wr.drew (HX.out _ (HB.out.bel.trans (hb0.mono HB.out.bel.size))) HG.out.bb (by omega) (by omega))
          have BW := Lib.hid (bts_word HG.out.bb hw.2.1)
          generalize m.word a = u at WD BW
          have k2 : q + 1 ≤ maxLen := by unfold maxLen; omega
          have k3 : (q + 1) * 32 ≤ 140737488355328 := by omega
          have HPK := Lib.hid (And.intro hX1 (And.intro hw1 hp1))
          have HA := Lib.hid ha
          have t4 : (q : Int) < (n : Int) := by omega
          have d2 := (HB.out.cells hX1 hb0).1
          clear hset hcell hw hLL ha hX1 hw1 hp1
          go_wp2
          go_region_law ((first
            | (go_simp; go_at_call 25; go_loud (refine WD.out.mono ?_; rintro e w9 ⟨rfl, rfl⟩))
            | (go_simp; go_at_call 46; go_loud (refine (bytes_any u 8 _).mono ?_; rintro e w1 ⟨A5, c5, rfl, ho5, hb5⟩; rw [bts8_length] at ho5 ⊢; have hb6 := hb0.trans (hb5.mono hb0.size); have d3 := (HB.out.cells HPK.out.1 hb6).1; have d3b := (HB.out.cells HPK.out.1 (hb6.alloc hb6.size (.cells #[.int .i64 (a : Int), .slice A5 8 c5] 56))).1; have hrow := (own_below HPK.out.2.1 hb6).alloc (.cells #[.int .i64 (a : Int), .slice A5 8 c5] 56); have hbs : w.heap.size ≤ (w1.alloc (.cells #[.int .i64 (a : Int), .slice A5 8 c5] 56)).heap.size := (by have h1 := HB.out.bel.size; have h2 := hb6.size; simp; omega); have HO5 := Lib.hid ho5; have HB6 := Lib.hid hb6; clear ho5 hb5))
            | go_loud (refine step_append_any _ rfl _ _ _ rfl w.heap.size 56 i0 _ 2 32 Try.underlying51 hi hz0 hz1 hz2 rfl (Nat.zero_lt_succ 1) (.slice Aw q cw) q xs rfl hrow _ _ 1 1 [.int .i64 (a : Int), .slice A5 8 c5] rfl (newAt _ _ #[.int .i64 (a : Int), .slice A5 8 c5] 2 _ rfl (by simp)) (patch_one _ _ _ _) k2 k3 hbs ?_; intro v4 w4 hown4 hg4 hat4; obtain ⟨A4, c4, rfl, -, -⟩ := own_form hown4; obtain ⟨f4, d4, l4⟩ := ChAt.after (HPK.out.1.below HB6.out HPK.out.1.lt) (own_below HPK.out.2.1 HB6.out) hg4; have HN4 := Lib.hid (HB.out.next HPK.out.1 HPK.out.2.1 HPK.out.2.2 HB6.out HO5.out hg4 hown4 HA.out BW.out); clear hown4 hg4 hat4)))
          all_goals
            go_wp2
            go_roundw
            case rel => exact ⟨q + 1, by omega, by go_num, HN4⟩
            case measure => simp [intOf]; omega
        · obtain rfl : q = n := by omega
          have t4 : ¬ (q : Int) < (q : Int) := by omega
          have hR := HB.out.res
          have e0 := hX1.cell 0
          have e1 := hX1.cell 1
          have e2 := hX1.cell 2
          have r0 := hR.cell 0
          have r1 := hR.cell 1
          have r2 := hR.cell 2
          have f0 := hR.frozen 0
          have f1 := hR.frozen 1
          have f2 := hR.frozen 2
          have HP3 := Lib.hid (put3 (a' := .int .i64 (o : Int)) (b' := .slice A1 n1 c1) (c' := .slice Aw q cw) hR)
          have HPK := Lib.hid (And.intro hX1 (And.intro hw1 hp1))
          clear hR hX1 hw1 hp1
          go_wp2
          refine bodyPost_ret (results_cell_row rfl _ _ w.heap.size 53 _ (0, 0) _ rfl HP3.out.1 Try.underlying53 rfl (by kernel_rfl)) rfl ?_
          have hh := HM.out
          unfold ChTold
          rw [← hh.2.1]
          refine ⟨A1, n1, c1, Aw, q, cw, xs, rfl, HB.out.bel.trans (HP3.out.2.below HB.out.bel.size (fun j _ e => by rw [e]; exact Nat.le_refl _)), ?_, ?_, hh.1, fun j k hk => ?_⟩
          · rw [HFB2.out]
            exact own_chg HB.out.fr HP3.out.2 (fun g hg e => own_blk_ne HB.out.fr HB.out.res (by decide) (by rw [← e]; exact hg))
          · exact own_chg HPK.out.2.1 HP3.out.2 (fun g hg e => own_blk_ne HPK.out.2.1 HB.out.res (by decide) (by rw [← e]; exact hg))
          · exact (HPK.out.2.2 j k (by have := (List.getElem?_eq_some_iff.1 hk).1; omega) hk).chg HP3.out.2 (fun g cs _ e hk => by rw [e] at hk; exact blk_one hk HB.out.res (by decide))
  · rw [if_neg hco] at hsub
    obtain ⟨A0, hA0⟩ : ∃ A0, A.map (·.add o) = A0 := ⟨_, rfl⟩
    rw [hA0] at hsub
    have CL := Lib.hid (fun w1 (hb : Below w.heap.size w w1) => fun cc => bclone_any A0 (L - o) cc fb w1.heap.size w1 ((hsub.below hb).more hb.size) (Nat.le_refl _) (by omega))
    have HFB2 := Lib.hid hfb
    clear hsub hfb HFB
    go_enter Try.func17, Try.ntmps17
    go_wp2_with fail
    rw [← hw0]
    clear hw0
    go_region_held3 (fun w' => w'.cell? ⟨p, 6, none⟩ = some (.slice A L c) ∧ w'.cell? ⟨p, 7, none⟩ = some (.int .i64 (o : Int)))
      (first | assumption | exact H0.out | exact HC.out _ hb | exact HC.out _ hbA | exact HC.out _ (hb.alloc hb.size _) | exact HC.out _ (((hb.setCell (p := ⟨w0.heap.size, 0, none⟩) (Nat.le_of_lt HXW.out.1) _).setCell (p := ⟨w0.heap.size, 1, none⟩) (Nat.le_of_lt HXW.out.1) _).setCell (p := ⟨w0.heap.size, 2, none⟩) (Nat.le_of_lt HXW.out.1) _))
      (first
        | (go_at_call 45; refine (CL.out _ hbA _).mono ?_; go_loud (rintro e wx ⟨A1, n1, c1, rfl, hn1, ho1, hbx, -, -⟩; have hb := hbA.trans (hbx.mono hbA.size); have hzx := HX0.out.below hbx HX0.out.lt; have z0 := hzx.cell 0; have z1 := hzx.cell 1; have z2 := hzx.cell 2; have fz0 := hzx.frozen 0; have fz1 := hzx.frozen 1; have fz2 := hzx.frozen 2; have HN1 := Lib.hid hn1; clear hn1; have HST := Lib.hid (show ChAt w (((wx.setCell ⟨w0.heap.size, 0, none⟩ (.int .i64 (o : Int))).setCell ⟨w0.heap.size, 1, none⟩ (.slice A1 n1 c1)).setCell ⟨w0.heap.size, 2, none⟩ (.slice none 0 0)) m w.heap.size w0.heap.size o A1 n1 c1 fb 0 from ChAt.mem hzx (HRX.out.below hbx HRX.out.lt) HXW.out.2 (Nat.le_of_lt HXW.out.1) hb (own_base ho1 hbA.size)); clear hzx ho1))
        | (go_at_call 45; go_loud (refine (CL.out _ hb _).mono ?_; rintro e wx ⟨A1, n1, c1, rfl, hn1, ho1, hbx, -, -⟩; have hb := hb.trans (hbx.mono hb.size); have HN1 := Lib.hid hn1; clear hn1; have HST := Lib.hid (show ChAt w (wx.alloc (.cells #[.int .i64 (o : Int), .slice A1 n1 c1, .slice none 0 0] 53)) m w.heap.size wx.heap.size o A1 n1 c1 fb 0 from ChAt.mem2 ((HR0.out.drewN 1).below hbx HR0.out.lt) hb (own_base ho1 hb0.size)); clear ho1)))
    all_goals
      first
        | (obtain ⟨wS, hW9⟩ : ∃ wS, wx.alloc (.cells #[.int .i64 (o : Int), .slice A1 n1 c1, .slice none 0 0] 53) = wS := ⟨_, rfl⟩
           rw [hW9] at HST ⊢
           obtain ⟨X, hX9⟩ : ∃ X, wx.heap.size = X := ⟨_, rfl⟩
           rw [hX9] at HST ⊢
           clear hX9 hW9)
        | (obtain ⟨wS, hW9⟩ : ∃ wS, ((wx.setCell ⟨w0.heap.size, 0, none⟩ (.int .i64 (o : Int))).setCell ⟨w0.heap.size, 1, none⟩ (.slice A1 n1 c1)).setCell ⟨w0.heap.size, 2, none⟩ (.slice none 0 0) = wS := ⟨_, rfl⟩
           rw [hW9] at HST ⊢
           obtain ⟨X, hX9⟩ : ∃ X, w0.heap.size = X := ⟨_, rfl⟩
           rw [hX9] at HST ⊢
           clear hX9 hW9)
      (try clear z0 z1 z2 fz0 fz1 fz2)
      clear hb0 hbA hbx hb HR0 HX0 HRX HXW H0 CL HC hco
      have c8 := HC8.out _ HST.out.bel
      go_wp2
      go_loopw [29] (fun z wr => ∃ q : Nat, q ≤ n ∧ z = .int .i64 q ∧ Hid (ChAt w wr m w.heap.size X o A1 n1 c1 fb q)) (fun z _ => n - (intOf z).toNat)
      case atStart => exact ⟨0, Nat.zero_le _, rfl, HST⟩
      case round =>
        clear HST c8
        obtain ⟨q, hq, rfl, HB⟩ := hrel
        have HBX := Lib.hid (HX.out _ HB.out.bel)
        obtain ⟨Aw, cw, xs, hX1, hw1, hp1⟩ := HB.out.ex
        by_cases hlt : q < n
        · obtain ⟨a, ha⟩ : ∃ a, m.words[q]? = some a := ⟨_, List.getElem?_eq_getElem (by have := HM.out.1; omega)⟩
          have hset := HBX.out.set
          rw [← HM.out.1] at hset
          obtain ⟨bb, off, rfl, -, hcell⟩ := (Reads.of_own hset).plain (by omega)
          have hc := hcell q hlt
          rw [nats_get (by have := HM.out.1; omega), show m.words.getD q 0 = a by simp [List.getD_eq_getElem?_getD, ha]] at hc
          have hw := HG.out.ws a (List.mem_of_getElem? ha)
          have hLL := HM.out.2.2
          have hb0 : Below wr.heap.size wr wr.drew := below_drewn (Below.refl _ _) 1
          have WD := Lib.hid (iword_any a wr.drew (HX.out _ (HB.out.bel.trans (hb0.mono HB.out.bel.size))) HG.out.bb (by omega) (by omega))
          have BW := Lib.hid (bts_word HG.out.bb hw.2.1)
          generalize m.word a = u at WD BW
          have k2 : q + 1 ≤ maxLen := by unfold maxLen; omega
          have k3 : (q + 1) * 32 ≤ 140737488355328 := by omega
          have HPK := Lib.hid (And.intro hX1 (And.intro hw1 hp1))
          have HA := Lib.hid ha
          have t4 : (q : Int) < (n : Int) := by omega
          have d2 := (HB.out.cells hX1 hb0).1
          clear hset hcell hw hLL ha hX1 hw1 hp1
          go_wp2
          go_region_law ((first
            | (go_simp; go_at_call 25; go_loud (refine WD.out.mono ?_; rintro e w9 ⟨rfl, rfl⟩))
            | (go_simp; go_at_call 46; go_loud (refine (bytes_any u 8 _).mono ?_; rintro e w1 ⟨A5, c5, rfl, ho5, hb5⟩; rw [bts8_length] at ho5 ⊢; have hb6 := hb0.trans (hb5.mono hb0.size); have d3 := (HB.out.cells HPK.out.1 hb6).1; have d3b := (HB.out.cells HPK.out.1 (hb6.alloc hb6.size (.cells #[.int .i64 (a : Int), .slice A5 8 c5] 56))).1; have hrow := (own_below HPK.out.2.1 hb6).alloc (.cells #[.int .i64 (a : Int), .slice A5 8 c5] 56); have hbs : w.heap.size ≤ (w1.alloc (.cells #[.int .i64 (a : Int), .slice A5 8 c5] 56)).heap.size := (by have h1 := HB.out.bel.size; have h2 := hb6.size; simp; omega); have HO5 := Lib.hid ho5; have HB6 := Lib.hid hb6; clear ho5 hb5))
            | go_loud (refine step_append_any _ rfl _ _ _ rfl w.heap.size 56 i0 _ 2 32 Try.underlying51 hi hz0 hz1 hz2 rfl (Nat.zero_lt_succ 1) (.slice Aw q cw) q xs rfl hrow _ _ 1 1 [.int .i64 (a : Int), .slice A5 8 c5] rfl (newAt _ _ #[.int .i64 (a : Int), .slice A5 8 c5] 2 _ rfl (by simp)) (patch_one _ _ _ _) k2 k3 hbs ?_; intro v4 w4 hown4 hg4 hat4; obtain ⟨A4, c4, rfl, -, -⟩ := own_form hown4; obtain ⟨f4, d4, l4⟩ := ChAt.after (HPK.out.1.below HB6.out HPK.out.1.lt) (own_below HPK.out.2.1 HB6.out) hg4; have HN4 := Lib.hid (HB.out.next HPK.out.1 HPK.out.2.1 HPK.out.2.2 HB6.out HO5.out hg4 hown4 HA.out BW.out); clear hown4 hg4 hat4)))
          all_goals
            go_wp2
            go_roundw
            case rel => exact ⟨q + 1, by omega, by go_num, HN4⟩
            case measure => simp [intOf]; omega
        · obtain rfl : q = n := by omega
          have t4 : ¬ (q : Int) < (q : Int) := by omega
          have hR := HB.out.res
          have e0 := hX1.cell 0
          have e1 := hX1.cell 1
          have e2 := hX1.cell 2
          have r0 := hR.cell 0
          have r1 := hR.cell 1
          have r2 := hR.cell 2
          have f0 := hR.frozen 0
          have f1 := hR.frozen 1
          have f2 := hR.frozen 2
          have HP3 := Lib.hid (put3 (a' := .int .i64 (o : Int)) (b' := .slice A1 n1 c1) (c' := .slice Aw q cw) hR)
          have HPK := Lib.hid (And.intro hX1 (And.intro hw1 hp1))
          clear hR hX1 hw1 hp1
          go_wp2
          refine bodyPost_ret (results_cell_row rfl _ _ w.heap.size 53 _ (0, 0) _ rfl HP3.out.1 Try.underlying53 rfl (by kernel_rfl)) rfl ?_
          have hh := HM.out
          unfold ChTold
          rw [← hh.2.1]
          refine ⟨A1, n1, c1, Aw, q, cw, xs, rfl, HB.out.bel.trans (HP3.out.2.below HB.out.bel.size (fun j _ e => by rw [e]; exact Nat.le_refl _)), ?_, ?_, hh.1, fun j k hk => ?_⟩
          · rw [HFB2.out]
            exact own_chg HB.out.fr HP3.out.2 (fun g hg e => own_blk_ne HB.out.fr HB.out.res (by decide) (by rw [← e]; exact hg))
          · exact own_chg HPK.out.2.1 HP3.out.2 (fun g hg e => own_blk_ne HPK.out.2.1 HB.out.res (by decide) (by rw [← e]; exact hg))
          · exact (HPK.out.2.2 j k (by have := (List.getElem?_eq_some_iff.1 hk).1; omega) hk).chg HP3.out.2 (fun g cs _ e hk => by rw [e] at hk; exact blk_one hk HB.out.res (by decide))
end

end Go.Proofs.Ythdnjjdlhhapbaa
