/-
  LAYER 12: HOW AN IMAGE LIES IN MEMORY, the program's and the document's: a block of nine cells, and the rows that they hold; what each keeps when something else turns.
-/
import Derived.Test.YthdnjjdlhhapbaaImBase
import Derived.Test.YthdnjjdlhhapbaaOwnRow
import Derived.Test.YthdnjjdlhhapbaaImageMath
set_option linter.unusedVariables false
set_option maxRecDepth 100000
set_option linter.unusedSimpArgs false
namespace Go.Proofs.Ythdnjjdlhhapbaa
open Go.RowKit

/-- Places, as numbers. -/
def nats (l : List Nat) : List Int := l.map Int.ofNat
theorem nats_length (l : List Nat) : (nats l).length = l.length := by simp [nats]
theorem nats_snoc (l : List Nat) (k : Nat) : nats (l ++ [k]) = nats l ++ [(k : Int)] := by simp [nats]
theorem nats_get {l : List Nat} {j : Nat} (h : j < l.length) : (nats l).getD j 0 = (l.getD j 0 : Nat) := by
  simp [nats, List.getD_eq_getElem?_getD, List.getElem?_eq_getElem h]

/-- The cells of the program's image, of the document's. -/
abbrev imC (i k d f h : Int) (L : Nat) (bv : Value) (old : Nat) (sv : Value) : Array Value := #[.int .u64 i, .int .u64 k, .int .i64 d, .int .i64 f, .int .u64 h, .int .i64 (L : Int), bv, .int .i64 (old : Int), sv]
abbrev rimC (i k d f h : Int) (bv wv : Value) (L : Nat) (sv : Value) : Array Value := #[.int .u64 i, .int .u64 k, .int .i64 d, .int .i64 f, .int .u64 h, bv, wv, .int .i64 (L : Int), sv]

/-- The program's image. -/
structure IX (w : World) (base : Nat) (S : Nat → Prop) (p : Nat) (i k d f h : Int) (m : IM) (bv sv : Value) : Prop where
  foot : ∀ j, S j → base ≤ j ∧ j < w.heap.size
  bas : base ≤ w.heap.size
  inp : S p
  blk : Blk w p 91 (imC i k d f h m.lim bv m.was.length sv)
  row : w.ownsRow base 5 1 bv m.b.length (cellsOf .u8 m.b)
  set : w.ownsRow base 3 1 sv m.words.length (cellsOf .i64 (nats m.words))
  inb : ∀ g, bv.ownBlock = some g → S g
  ins : ∀ g, sv.ownBlock = some g → S g

/-- The document's image. -/
structure RX (w : World) (base : Nat) (S : Nat → Prop) (p : Nat) (i k d f h : Int) (m : IM) (bv wv sv : Value) : Prop where
  foot : ∀ j, S j → base ≤ j ∧ j < w.heap.size
  bas : base ≤ w.heap.size
  inp : S p
  blk : Blk w p 50 (rimC i k d f h bv wv m.lim sv)
  row : w.ownsRow base 5 1 bv m.b.length (cellsOf .u8 m.b)
  was : w.ownsRow base 5 1 wv m.was.length (cellsOf .u8 m.was)
  set : w.ownsRow base 3 1 sv m.words.length (cellsOf .i64 (nats m.words))
  inb : ∀ g, bv.ownBlock = some g → S g
  inw : ∀ g, wv.ownBlock = some g → S g
  ins : ∀ g, sv.ownBlock = some g → S g

section
variable {w w1 w' : World} {base p : Nat} {S T : Nat → Prop} {i k d f h : Int} {m : IM} {bv wv sv v' : Value}

theorem IX.keep (H : IX w base S p i k d f h m bv sv) (hc : Chg T w w') (hT : ∀ j, S j → ¬ T j) : IX w' base S p i k d f h m bv sv :=
  ⟨fun j hj => by have := H.foot j hj; have := hc.size; omega, by have := H.bas; have := hc.size; omega, H.inp, H.blk.chg hc (hT p H.inp), own_chg H.row hc (fun g hg => hT g (H.inb g hg)), own_chg H.set hc (fun g hg => hT g (H.ins g hg)), H.inb, H.ins⟩
theorem IX.below (H : IX w base S p i k d f h m bv sv) (hb : Below w.heap.size w w') : IX w' base S p i k d f h m bv sv := H.keep (Chg.of_below hb (Nat.le_refl _) (fun _ => False)) (fun _ _ h => h)
theorem IX.mono (H : IX w base S p i k d f h m bv sv) (hS : ∀ j, S j → T j) (hT : ∀ j, T j → base ≤ j ∧ j < w.heap.size) : IX w base T p i k d f h m bv sv :=
  ⟨hT, H.bas, hS p H.inp, H.blk, H.row, H.set, fun g hg => hS g (H.inb g hg), fun g hg => hS g (H.ins g hg)⟩
theorem IX.drewN (H : IX w base S p i k d f h m bv sv) (n : Nat) : IX (w.drewN n) base S p i k d f h m bv sv := H.below (below_drewn (Below.refl _ _) n)
theorem IX.pb (H : IX w base S p i k d f h m bv sv) : bv.ownBlock ≠ some p := own_blk_ne H.row H.blk (by decide)
theorem IX.ps (H : IX w base S p i k d f h m bv sv) : sv.ownBlock ≠ some p := own_blk_ne H.set H.blk (by decide)
/-- Its bytes, as a slice that reads. -/
theorem IX.reads (H : IX w base S p i k d f h m bv sv) : ∃ A c, bv = .slice A m.b.length c ∧ m.b.length ≤ c ∧ c ≤ 9223372036854775807 ∧ Reads w w.heap.size 1 A m.b.length (cellsOf .u8 m.b) := by
  obtain ⟨A, c, e, h1, h2, h3⟩ := own_reads H.row
  exact ⟨A, c, e, h1, by unfold maxLen at h2; omega, h3⟩
theorem IX.places (H : IX w base S p i k d f h m bv sv) : ∃ A c, sv = .slice A m.words.length c ∧ m.words.length ≤ c ∧ c ≤ 9223372036854775807 ∧ Reads w w.heap.size 1 A m.words.length (cellsOf .i64 (nats m.words)) := by
  obtain ⟨A, c, e, h1, h2, h3⟩ := own_reads H.set
  exact ⟨A, c, e, h1, by unfold maxLen at h2; omega, h3⟩

theorem RX.keep (H : RX w base S p i k d f h m bv wv sv) (hc : Chg T w w') (hT : ∀ j, S j → ¬ T j) : RX w' base S p i k d f h m bv wv sv :=
  ⟨fun j hj => by have := H.foot j hj; have := hc.size; omega, by have := H.bas; have := hc.size; omega, H.inp, H.blk.chg hc (hT p H.inp), own_chg H.row hc (fun g hg => hT g (H.inb g hg)), own_chg H.was hc (fun g hg => hT g (H.inw g hg)), own_chg H.set hc (fun g hg => hT g (H.ins g hg)), H.inb, H.inw, H.ins⟩
theorem RX.below (H : RX w base S p i k d f h m bv wv sv) (hb : Below w.heap.size w w') : RX w' base S p i k d f h m bv wv sv := H.keep (Chg.of_below hb (Nat.le_refl _) (fun _ => False)) (fun _ _ h => h)
theorem RX.mono (H : RX w base S p i k d f h m bv wv sv) (hS : ∀ j, S j → T j) (hT : ∀ j, T j → base ≤ j ∧ j < w.heap.size) : RX w base T p i k d f h m bv wv sv :=
  ⟨hT, H.bas, hS p H.inp, H.blk, H.row, H.was, H.set, fun g hg => hS g (H.inb g hg), fun g hg => hS g (H.inw g hg), fun g hg => hS g (H.ins g hg)⟩
theorem RX.ps (H : RX w base S p i k d f h m bv wv sv) : sv.ownBlock ≠ some p := own_blk_ne H.set H.blk (by decide)
theorem RX.reads (H : RX w base S p i k d f h m bv wv sv) : ∃ A c, bv = .slice A m.b.length c ∧ m.b.length ≤ c ∧ c ≤ 9223372036854775807 ∧ Reads w w.heap.size 1 A m.b.length (cellsOf .u8 m.b) := by
  obtain ⟨A, c, e, h1, h2, h3⟩ := own_reads H.row
  exact ⟨A, c, e, h1, by unfold maxLen at h2; omega, h3⟩
theorem RX.wasR (H : RX w base S p i k d f h m bv wv sv) : ∃ A c, wv = .slice A m.was.length c ∧ m.was.length ≤ c ∧ c ≤ 9223372036854775807 ∧ Reads w w.heap.size 1 A m.was.length (cellsOf .u8 m.was) := by
  obtain ⟨A, c, e, h1, h2, h3⟩ := own_reads H.was
  exact ⟨A, c, e, h1, by unfold maxLen at h2; omega, h3⟩
theorem RX.places (H : RX w base S p i k d f h m bv wv sv) : ∃ A c, sv = .slice A m.words.length c ∧ m.words.length ≤ c ∧ c ≤ 9223372036854775807 ∧ Reads w w.heap.size 1 A m.words.length (cellsOf .i64 (nats m.words)) := by
  obtain ⟨A, c, e, h1, h2, h3⟩ := own_reads H.set
  exact ⟨A, c, e, h1, by unfold maxLen at h2; omega, h3⟩

/-- The cells of a block of nine. -/
theorem nine {w : World} {g : Nat} {t : TypeId} {a0 a1 a2 a3 a4 a5 a6 a7 a8 : Value} (H : Blk w g t #[a0, a1, a2, a3, a4, a5, a6, a7, a8]) :
    (w.cell? ⟨g, 0, none⟩ = some a0 ∧ w.cell? ⟨g, 1, none⟩ = some a1 ∧ w.cell? ⟨g, 2, none⟩ = some a2 ∧ w.cell? ⟨g, 3, none⟩ = some a3 ∧ w.cell? ⟨g, 4, none⟩ = some a4 ∧ w.cell? ⟨g, 5, none⟩ = some a5 ∧ w.cell? ⟨g, 6, none⟩ = some a6 ∧ w.cell? ⟨g, 7, none⟩ = some a7 ∧ w.cell? ⟨g, 8, none⟩ = some a8) ∧
    (w.frozen? ⟨g, 5, none⟩ = false ∧ w.frozen? ⟨g, 6, none⟩ = false ∧ w.frozen? ⟨g, 7, none⟩ = false ∧ w.frozen? ⟨g, 8, none⟩ = false) :=
  ⟨⟨H.cell 0, H.cell 1, H.cell 2, H.cell 3, H.cell 4, H.cell 5, H.cell 6, H.cell 7, H.cell 8⟩, H.frozen 5, H.frozen 6, H.frozen 7, H.frozen 8⟩

/-! ### the program's -/
/-- The program's image has turned: of the blocks that were there its own alone have. -/
def IXT (base : Nat) (S : Nat → Prop) (p : Nat) (i k d f h : Int) (m' : IM) (w w' : World) : Prop := Chg S w w' ∧ ∃ bv sv, IX w' base (grow S w w') p i k d f h m' bv sv
/-- A function has told an image of its own; what was there has not turned. -/
def IXnew (base : Nat) (i k d f h : Int) (m : IM) (w : World) (e : Ending) (w' : World) : Prop :=
  ∃ p bv sv, e = .returned (.pointer (some ⟨p, 0, none⟩)) ∧ Below w.heap.size w w' ∧ IX w' base (fun j => w.heap.size ≤ j ∧ j < w'.heap.size) p i k d f h m bv sv

theorem IXT.of {S' : Nat → Prop} {w0 : World} (hc : Chg S w w') (H : IX w' base S' p i k d f h m bv sv) (hS : ∀ j, S' j → S j ∨ w.heap.size ≤ j) (hf : ∀ j, S j → base ≤ j ∧ j < w.heap.size) (hb : base ≤ w.heap.size) : IXT base S p i k d f h m w w' :=
  ⟨hc, bv, sv, H.mono (fun j hj => by
    have := (H.foot j hj).2
    rcases hS j hj with h1 | h1
    · exact .inl h1
    · exact .inr ⟨h1, this⟩) (chg_lt hf hc hb)⟩
theorem IXT.same (H : IX w base S p i k d f h m bv sv) : IXT base S p i k d f h m w w := IXT.of (w0 := w) (Chg.refl _ _) H (fun _ h => .inl h) H.foot H.bas
theorem IXT.far (H : IX w base S p i k d f h m bv sv) (hb : Below w.heap.size w w') : IXT base S p i k d f h m w w' := IXT.of (w0 := w) (Chg.of_below hb (Nat.le_refl _) S) (H.below hb) (fun _ h => .inl h) H.foot H.bas

/-- Bytes are laid over bytes. -/
theorem IX.laid {g n c a : Nat} {cur : List Value} {ys : List Int} (H : IX w base S p i k d f h m (.slice (some ⟨g, 0, none⟩) n c) sv) (hn : n = m.b.length) (hl : cur.length = c * 1) (ht : cur.take (n * 1) = cellsOf .u8 m.b) (ha : a + ys.length ≤ n)
    (hb2 : Blk w' g 5 (splice cur a (cellsOf .u8 ys)).toArray) (hc : Chg (fun j => j = g) w w') : IX w' base S p i k d f h { m with b := splice m.b a ys } (.slice (some ⟨g, 0, none⟩) n c) sv := by
  subst hn
  obtain ⟨A', c', e, h1, h2⟩ := own_form H.row
  injection e with e1 _ e3
  subst e1; subst e3
  have hbg : base ≤ g := (H.row.lt g rfl).1
  have hwl : (splice m.b a ys).length = m.b.length := splice_len _ _ _ ha
  simp only [Nat.mul_one] at hl ht
  refine ⟨fun j hj => by have := H.foot j hj; have := hc.size; omega, Nat.le_trans H.bas hc.size, H.inp, H.blk.chg hc (fun e => H.pb (by rw [e]; rfl)), ?_, own_chg H.set hc (fun g' hg e => own_ne H.row H.set (by decide) g (by rfl) (by rw [← e]; exact hg)), H.inb, H.ins⟩
  show w'.ownsRow base 5 1 _ (splice m.b a ys).length (cellsOf .u8 (splice m.b a ys))
  rw [hwl]
  refine row_shut hbg hb2 h1 h2 (by rw [length_splice _ _ _ (by rw [cellsOf_length, hl]; omega)]; omega) ?_ (by rw [cellsOf_length, hwl]; omega)
  rw [Nat.mul_one, take_splice ht (by omega) (by rw [cellsOf_length]; omega), splice_cells]

/-- Other bytes. -/
theorem IX.setB {zs : List Int} (H : IX w base S p i k d f h m bv sv) (hown : w1.ownsRow base 5 1 v' zs.length (cellsOf .u8 zs)) (hc : Chg (fun j => bv.ownBlock = some j) w w1) (hm : Moved w bv v') :
    IXT base S p i k d f h { m with b := zs } w (w1.setCell ⟨p, 6, none⟩ v') := by
  have hb1 : Blk w1 p 91 (imC i k d f h m.lim bv m.was.length sv) := H.blk.chg hc (fun e => H.pb e)
  have hs1 := own_chg H.set hc (fun g hg e => own_ne H.row H.set (by decide) g e hg)
  have far : ∀ {e : TypeId} {size n : Nat} {u : Value} {ys : List Value}, w1.ownsRow base e size u n ys → e ≠ 91 → (w1.setCell ⟨p, 6, none⟩ v').ownsRow base e size u n ys := fun hu hne => ownsRow_setCell_other hu (own_blk_ne hu hb1 hne) _
  have hsz : (w1.setCell ⟨p, 6, none⟩ v').heap.size = w1.heap.size := by simp [World.setCell]
  refine IXT.of (w0 := w) (S' := grow S w w1) (bv := v') (sv := sv) ((hc.mono (fun j _ e => H.inb j e)).setCell (.inr H.inp) _) ⟨by rw [hsz]; exact chg_lt H.foot hc H.bas, by rw [hsz]; have := hc.size; have := H.bas; omega, .inl H.inp, by have := hb1.set_ 6 v'; simpa [imC] using this, far hown (by decide), far hs1 (by decide), ?_, fun g hg => .inl (H.ins g hg)⟩ (fun j hj => hj.imp id (fun x => x.1)) H.foot H.bas
  intro g hg
  rcases hm with e | ⟨j, e, hj⟩
  · exact .inl (H.inb g (by rw [← e]; exact hg))
  · rw [hg] at e; injection e with e; subst e
    exact .inr ⟨hj, (hown.lt g hg).2⟩

/-- Other places. -/
theorem IX.setW {ws : List Nat} (H : IX w base S p i k d f h m bv sv) (hown : w1.ownsRow base 3 1 v' ws.length (cellsOf .i64 (nats ws))) (hc : Chg (fun j => sv.ownBlock = some j) w w1) (hm : Moved w sv v') :
    IXT base S p i k d f h { m with words := ws } w (w1.setCell ⟨p, 8, none⟩ v') := by
  have hb1 : Blk w1 p 91 (imC i k d f h m.lim bv m.was.length sv) := H.blk.chg hc (fun e => H.ps e)
  have hs1 := own_chg H.row hc (fun g hg e => own_ne H.row H.set (by decide) g hg e)
  have far : ∀ {e : TypeId} {size n : Nat} {u : Value} {ys : List Value}, w1.ownsRow base e size u n ys → e ≠ 91 → (w1.setCell ⟨p, 8, none⟩ v').ownsRow base e size u n ys := fun hu hne => ownsRow_setCell_other hu (own_blk_ne hu hb1 hne) _
  have hsz : (w1.setCell ⟨p, 8, none⟩ v').heap.size = w1.heap.size := by simp [World.setCell]
  refine IXT.of (w0 := w) (S' := grow S w w1) (bv := bv) (sv := v') ((hc.mono (fun j _ e => H.ins j e)).setCell (.inr H.inp) _) ⟨by rw [hsz]; exact chg_lt H.foot hc H.bas, by rw [hsz]; have := hc.size; have := H.bas; omega, .inl H.inp, by have := hb1.set_ 8 v'; simpa [imC] using this, far hs1 (by decide), far hown (by decide), fun g hg => .inl (H.inb g hg), ?_⟩ (fun j hj => hj.imp id (fun x => x.1)) H.foot H.bas
  intro g hg
  rcases hm with e | ⟨j, e, hj⟩
  · exact .inl (H.ins g (by rw [← e]; exact hg))
  · rw [hg] at e; injection e with e; subst e
    exact .inr ⟨hj, (hown.lt g hg).2⟩

/-- What there is stays. -/
theorem IX.setDone (H : IX w base S p i k d f h m bv sv) : IXT base S p i k d f h m.done w ((w.setCell ⟨p, 7, none⟩ (.int .i64 (m.b.length : Nat))).setCell ⟨p, 8, none⟩ (.slice none 0 0)) := by
  have far : ∀ {e : TypeId} {size n : Nat} {u : Value} {ys : List Value}, w.ownsRow base e size u n ys → e ≠ 91 → ((w.setCell ⟨p, 7, none⟩ (.int .i64 (m.b.length : Nat))).setCell ⟨p, 8, none⟩ (.slice none 0 0)).ownsRow base e size u n ys := fun hu hne =>
    ownsRow_setCell_other (ownsRow_setCell_other hu (own_blk_ne hu H.blk hne) _) (own_blk_ne (ownsRow_setCell_other hu (own_blk_ne hu H.blk hne) _) (H.blk.set_ 7 (.int .i64 (m.b.length : Nat))) hne) _
  have hb2 := (H.blk.set_ 7 (.int .i64 (m.b.length : Nat))).set_ 8 (.slice none 0 0)
  have hsz : ((w.setCell ⟨p, 7, none⟩ (.int .i64 (m.b.length : Nat))).setCell ⟨p, 8, none⟩ (.slice none 0 0)).heap.size = w.heap.size := by simp [World.setCell]
  exact IXT.of (w0 := w) (S' := S) (bv := bv) (sv := .slice none 0 0) (((Chg.refl S w).setCell (.inr H.inp) _).setCell (.inr H.inp) _) ⟨by rw [hsz]; exact H.foot, by rw [hsz]; exact H.bas, H.inp, by simpa [imC, IM.done] using hb2, far H.row (by decide), World.ownsRow_nil _ _ _ _, H.inb, fun g hg => by simp [Value.ownBlock] at hg⟩ (fun j hj => .inl hj) H.foot H.bas

/-- The bytes are cut, nothing is set. -/
theorem IX.setBack {A : Option Addr} {n c : Nat} {zs : List Int} (H : IX w base S p i k d f h m (.slice A n c) sv) (hn : m.was.length ≤ m.b.length) (hz : m.b.take m.was.length = zs) (hl : zs.length = m.was.length) :
    IXT base S p i k d f h ⟨zs, zs, [], m.lim⟩ w ((w.setCell ⟨p, 6, none⟩ (.slice A m.was.length c)).setCell ⟨p, 8, none⟩ (.slice none 0 0)) := by
  have far : ∀ {e : TypeId} {size n : Nat} {u : Value} {ys : List Value}, w.ownsRow base e size u n ys → e ≠ 91 → ((w.setCell ⟨p, 6, none⟩ (.slice A m.was.length c)).setCell ⟨p, 8, none⟩ (.slice none 0 0)).ownsRow base e size u n ys := fun hu hne =>
    ownsRow_setCell_other (ownsRow_setCell_other hu (own_blk_ne hu H.blk hne) _) (own_blk_ne (ownsRow_setCell_other hu (own_blk_ne hu H.blk hne) _) (H.blk.set_ 6 (.slice A m.was.length c)) hne) _
  have hb2 := (H.blk.set_ 6 (.slice A m.was.length c)).set_ 8 (.slice none 0 0)
  have hsz : ((w.setCell ⟨p, 6, none⟩ (.slice A m.was.length c)).setCell ⟨p, 8, none⟩ (.slice none 0 0)).heap.size = w.heap.size := by simp [World.setCell]
  have hr := H.row
  obtain ⟨A', c', e, -, -⟩ := own_form hr
  injection e with e1 e2 e3
  subst e2
  have hcut := row_cut hr hn
  have hz2 : (cellsOf .u8 m.b).take m.was.length = cellsOf .u8 zs := by rw [← hz]; simp [cellsOf]
  rw [hz2] at hcut
  refine IXT.of (w0 := w) (S' := S) (bv := .slice A m.was.length c) (sv := .slice none 0 0) (((Chg.refl S w).setCell (.inr H.inp) _).setCell (.inr H.inp) _) ⟨by rw [hsz]; exact H.foot, by rw [hsz]; exact H.bas, H.inp, ?_, ?_, World.ownsRow_nil _ _ _ _, fun g hg => H.inb g (by rw [← hg]; cases A <;> rfl), fun g hg => by simp [Value.ownBlock] at hg⟩ (fun j hj => .inl hj) H.foot H.bas
  · show Blk _ p 91 (imC i k d f h m.lim (.slice A m.was.length c) zs.length (.slice none 0 0))
    rw [hl]
    simpa [imC] using hb2
  · show World.ownsRow _ base 5 1 (.slice A m.was.length c) zs.length (cellsOf .u8 zs)
    rw [hl]
    exact far hcut (by decide)

/-! ### the document's -/
def RXT (base : Nat) (S : Nat → Prop) (p : Nat) (i k d f h : Int) (m' : IM) (w w' : World) : Prop := Chg S w w' ∧ ∃ bv wv sv, RX w' base (grow S w w') p i k d f h m' bv wv sv
def RXnew (base : Nat) (i k d f h : Int) (m : IM) (w : World) (e : Ending) (w' : World) : Prop :=
  ∃ p bv wv sv, e = .returned (.pointer (some ⟨p, 0, none⟩)) ∧ Below w.heap.size w w' ∧ RX w' base (fun j => w.heap.size ≤ j ∧ j < w'.heap.size) p i k d f h m bv wv sv

theorem RXT.of {S' : Nat → Prop} (hc : Chg S w w') (H : RX w' base S' p i k d f h m bv wv sv) (hS : ∀ j, S' j → S j ∨ w.heap.size ≤ j) (hf : ∀ j, S j → base ≤ j ∧ j < w.heap.size) (hb : base ≤ w.heap.size) : RXT base S p i k d f h m w w' :=
  ⟨hc, bv, wv, sv, H.mono (fun j hj => by
    have := (H.foot j hj).2
    rcases hS j hj with h1 | h1
    · exact .inl h1
    · exact .inr ⟨h1, this⟩) (chg_lt hf hc hb)⟩
theorem RXT.same (H : RX w base S p i k d f h m bv wv sv) : RXT base S p i k d f h m w w := RXT.of (Chg.refl _ _) H (fun _ h => .inl h) H.foot H.bas
theorem RXT.far (H : RX w base S p i k d f h m bv wv sv) (hb : Below w.heap.size w w') : RXT base S p i k d f h m w w' := RXT.of (Chg.of_below hb (Nat.le_refl _) S) (H.below hb) (fun _ h => .inl h) H.foot H.bas

/-- Bytes of their own. -/
theorem RX.setB {zs : List Int} (H : RX w base S p i k d f h m bv wv sv) (hown : w1.ownsRow w.heap.size 5 1 v' zs.length (cellsOf .u8 zs)) (hc : Below w.heap.size w w1) :
    RX (w1.setCell ⟨p, 5, none⟩ v') base (grow S w w1) p i k d f h { m with b := zs } v' wv sv ∧ Chg S w (w1.setCell ⟨p, 5, none⟩ v') := by
  have h1 := H.below hc
  have hb1 := h1.blk
  have far : ∀ {e : TypeId} {size n b : Nat} {u : Value} {ys : List Value}, w1.ownsRow b e size u n ys → e ≠ 50 → (w1.setCell ⟨p, 5, none⟩ v').ownsRow b e size u n ys := fun hu hne => ownsRow_setCell_other hu (own_blk_ne hu hb1 hne) _
  have hsz : (w1.setCell ⟨p, 5, none⟩ v').heap.size = w1.heap.size := by simp [World.setCell]
  exact ⟨⟨by rw [hsz]; exact chg_lt H.foot (Chg.of_below hc (Nat.le_refl _) (fun _ => False)) H.bas, by rw [hsz]; exact h1.bas, .inl H.inp, by have := hb1.set_ 5 v'; simpa [rimC] using this, own_base (far hown (by decide)) H.bas, far h1.was (by decide), far h1.set (by decide), fun g hg => .inr (hown.lt g hg), fun g hg => .inl (H.inw g hg), fun g hg => .inl (H.ins g hg)⟩,
    (Chg.of_below hc (Nat.le_refl _) S).setCell (.inr H.inp) _⟩
/-- Other places. -/
theorem RX.setW {ws : List Nat} (H : RX w base S p i k d f h m bv wv sv) (hown : w1.ownsRow base 3 1 v' ws.length (cellsOf .i64 (nats ws))) (hc : Chg (fun j => sv.ownBlock = some j) w w1) (hm : Moved w sv v') :
    RXT base S p i k d f h { m with words := ws } w (w1.setCell ⟨p, 8, none⟩ v') := by
  have hb1 : Blk w1 p 50 (rimC i k d f h bv wv m.lim sv) := H.blk.chg hc (fun e => H.ps e)
  have hs1 := own_chg H.row hc (fun g hg e => own_ne H.row H.set (by decide) g hg e)
  have hs2 := own_chg H.was hc (fun g hg e => own_ne H.was H.set (by decide) g hg e)
  have far : ∀ {e : TypeId} {size n : Nat} {u : Value} {ys : List Value}, w1.ownsRow base e size u n ys → e ≠ 50 → (w1.setCell ⟨p, 8, none⟩ v').ownsRow base e size u n ys := fun hu hne => ownsRow_setCell_other hu (own_blk_ne hu hb1 hne) _
  have hsz : (w1.setCell ⟨p, 8, none⟩ v').heap.size = w1.heap.size := by simp [World.setCell]
  refine RXT.of (S' := grow S w w1) (bv := bv) (wv := wv) (sv := v') ((hc.mono (fun j _ e => H.ins j e)).setCell (.inr H.inp) _) ⟨by rw [hsz]; exact chg_lt H.foot hc H.bas, by rw [hsz]; have := hc.size; have := H.bas; omega, .inl H.inp, by have := hb1.set_ 8 v'; simpa [rimC] using this, far hs1 (by decide), far hs2 (by decide), far hown (by decide), fun g hg => .inl (H.inb g hg), fun g hg => .inl (H.inw g hg), ?_⟩ (fun j hj => hj.imp id (fun x => x.1)) H.foot H.bas
  intro g hg
  rcases hm with e | ⟨j, e, hj⟩
  · exact .inl (H.ins g (by rw [← e]; exact hg))
  · rw [hg] at e; injection e with e; subst e
    exact .inr ⟨hj, (hown.lt g hg).2⟩
/-- What there is stays; what was, comes back. -/
theorem RX.setDone (H : RX w base S p i k d f h m bv wv sv) (hown : w1.ownsRow w.heap.size 5 1 v' m.b.length (cellsOf .u8 m.b)) (hc : Below w.heap.size w w1) :
    RXT base S p i k d f h m.done w ((w1.setCell ⟨p, 6, none⟩ v').setCell ⟨p, 8, none⟩ (.slice none 0 0)) := by
  have h1 := H.below hc
  have hb1 := h1.blk
  have far : ∀ {e : TypeId} {size n b : Nat} {u : Value} {ys : List Value}, w1.ownsRow b e size u n ys → e ≠ 50 → ((w1.setCell ⟨p, 6, none⟩ v').setCell ⟨p, 8, none⟩ (.slice none 0 0)).ownsRow b e size u n ys := fun hu hne =>
    ownsRow_setCell_other (ownsRow_setCell_other hu (own_blk_ne hu hb1 hne) _) (own_blk_ne (ownsRow_setCell_other hu (own_blk_ne hu hb1 hne) _) (hb1.set_ 6 v') hne) _
  have hb2 := (hb1.set_ 6 v').set_ 8 (.slice none 0 0)
  have hsz : ((w1.setCell ⟨p, 6, none⟩ v').setCell ⟨p, 8, none⟩ (.slice none 0 0)).heap.size = w1.heap.size := by simp [World.setCell]
  exact RXT.of (S' := grow S w w1) (bv := bv) (wv := v') (sv := .slice none 0 0) (((Chg.of_below hc (Nat.le_refl _) S).setCell (.inr H.inp) _).setCell (.inr H.inp) _) ⟨by rw [hsz]; exact chg_lt H.foot (Chg.of_below hc (Nat.le_refl _) (fun _ => False)) H.bas, by rw [hsz]; exact h1.bas, .inl H.inp, by simpa [rimC, IM.done, IM.back] using hb2, far h1.row (by decide), own_base (far hown (by decide)) H.bas, World.ownsRow_nil _ _ _ _, fun g hg => .inl (H.inb g hg), fun g hg => .inr (hown.lt g hg), fun g hg => by simp [Value.ownBlock] at hg⟩ (fun j hj => hj.imp id (fun x => x.1)) H.foot H.bas
theorem RX.setBack (H : RX w base S p i k d f h m bv wv sv) (hown : w1.ownsRow w.heap.size 5 1 v' m.was.length (cellsOf .u8 m.was)) (hc : Below w.heap.size w w1) :
    RXT base S p i k d f h m.back w ((w1.setCell ⟨p, 5, none⟩ v').setCell ⟨p, 8, none⟩ (.slice none 0 0)) := by
  have h1 := H.below hc
  have hb1 := h1.blk
  have far : ∀ {e : TypeId} {size n b : Nat} {u : Value} {ys : List Value}, w1.ownsRow b e size u n ys → e ≠ 50 → ((w1.setCell ⟨p, 5, none⟩ v').setCell ⟨p, 8, none⟩ (.slice none 0 0)).ownsRow b e size u n ys := fun hu hne =>
    ownsRow_setCell_other (ownsRow_setCell_other hu (own_blk_ne hu hb1 hne) _) (own_blk_ne (ownsRow_setCell_other hu (own_blk_ne hu hb1 hne) _) (hb1.set_ 5 v') hne) _
  have hb2 := (hb1.set_ 5 v').set_ 8 (.slice none 0 0)
  have hsz : ((w1.setCell ⟨p, 5, none⟩ v').setCell ⟨p, 8, none⟩ (.slice none 0 0)).heap.size = w1.heap.size := by simp [World.setCell]
  exact RXT.of (S' := grow S w w1) (bv := v') (wv := wv) (sv := .slice none 0 0) (((Chg.of_below hc (Nat.le_refl _) S).setCell (.inr H.inp) _).setCell (.inr H.inp) _) ⟨by rw [hsz]; exact chg_lt H.foot (Chg.of_below hc (Nat.le_refl _) (fun _ => False)) H.bas, by rw [hsz]; exact h1.bas, .inl H.inp, by simpa [rimC, IM.done, IM.back] using hb2, own_base (far hown (by decide)) H.bas, far h1.was (by decide), World.ownsRow_nil _ _ _ _, fun g hg => .inr (hown.lt g hg), fun g hg => .inl (H.inw g hg), fun g hg => by simp [Value.ownBlock] at hg⟩ (fun j hj => hj.imp id (fun x => x.1)) H.foot H.bas
end

end Go.Proofs.Ythdnjjdlhhapbaa
