/-
  LAYER 6: THE DOCUMENT'S FILE IN MEMORY: what it keeps when something turns.
-/
import Derived.Test.YtdpoffedmafmhaaFileMem
set_option linter.unusedVariables false
set_option linter.unusedSimpArgs false
namespace Go.Proofs.Ytdpoffedmafmhaa
open Go.RowKit

section
variable {w w1 w' : World} {base p : Nat} {S S' T : Nat → Prop} {s : FS} {nv nv' sv ov v' : Value} {xs xs' : List Value}

theorem OpAt.on {j : Nat} {o : OpV} (h : OpAt w S nv xs j o) (hf : ∀ k, S k → k < w.heap.size) (hc : Chg T w w') (hk : ∀ g cs, S g → nv.ownBlock ≠ some g → Blk w g 5 cs → ¬ T g) (hS : ∀ k, S k → S' k)
    (hv : ∀ g, S g → nv.ownBlock ≠ some g → nv'.ownBlock ≠ some g) (hx : ∀ (i : Nat) (u : Value), xs[i]? = some u → xs'[i]? = some u) : OpAt w' S' nv' xs' j o := by
  obtain ⟨A, m, c, h1, h2, h3, h4, h5, h6, h7⟩ := h
  refine ⟨A, m, c, hx _ _ h1, hx _ _ h2, hx _ _ h3, (h4.chg hc (Nat.le_refl _) ?_).more hc.size, h5, h6, ?_⟩
  · intro _ ad e
    obtain ⟨a1, a2, cs, a3⟩ := h7 ad e
    exact hk _ cs a1 a2 a3
  · intro ad e
    obtain ⟨a1, a2, cs, a3⟩ := h7 ad e
    exact ⟨hS _ a1, hv _ a1 a2, cs, a3.chg hc (hk _ cs a1 a2 a3)⟩

theorem RF.keep (h : RF w base S p s nv sv ov xs) (hc : Chg T w w') (hT : ∀ k, S k → ¬ T k) : RF w' base S p s nv sv ov xs :=
  ⟨fun k hk => by have := h.foot k hk; have := hc.size; omega, by have := h.bas; have := hc.size; omega, h.inp, h.blk.chg hc (hT p h.inp), own_chg h.now hc (fun g hg => hT g (h.inn g hg)), own_chg h.safe hc (fun g hg => hT g (h.ins g hg)),
    own_chg h.pend hc (fun g hg => hT g (h.ino g hg)), fun j o ho => (h.ops j o ho).on (fun k hk => (h.foot k hk).2) hc (fun g _ hg _ _ => hT g hg) (fun _ h => h) (fun _ _ h => h) (fun _ _ h => h), h.inn, h.ins, h.ino, h.ne⟩
theorem RF.below (h : RF w base S p s nv sv ov xs) (hb : Below w.heap.size w w') : RF w' base S p s nv sv ov xs := h.keep (Chg.of_below hb (Nat.le_refl _) (fun _ => False)) (fun _ _ h => h)
theorem RF.mono (h : RF w base S p s nv sv ov xs) (hS : ∀ k, S k → T k) (hT : ∀ k, T k → base ≤ k ∧ k < w.heap.size) : RF w base T p s nv sv ov xs :=
  ⟨hT, h.bas, hS p h.inp, h.blk, h.now, h.safe, h.pend, fun j o ho => (h.ops j o ho).on (fun k hk => (h.foot k hk).2) (Chg.refl (fun _ => False) w) (fun _ _ _ _ _ h => h) hS (fun _ _ h => h) (fun _ _ h => h), fun g hg => hS g (h.inn g hg), fun g hg => hS g (h.ins g hg), fun g hg => hS g (h.ino g hg), h.ne⟩
theorem RF.drewN (h : RF w base S p s nv sv ov xs) (n : Nat) : RF (w.drewN n) base S p s nv sv ov xs := ⟨h.foot, h.bas, h.inp, h.blk, h.now, h.safe, h.pend, h.ops, h.inn, h.ins, h.ino, h.ne⟩
theorem RF.drew (h : RF w base S p s nv sv ov xs) : RF w.drew base S p s nv sv ov xs := ⟨h.foot, h.bas, h.inp, h.blk, h.now, h.safe, h.pend, h.ops, h.inn, h.ins, h.ino, h.ne⟩
theorem RF.pn (h : RF w base S p s nv sv ov xs) : nv.ownBlock ≠ some p := own_blk_ne h.now h.blk (by decide)
theorem RF.ps (h : RF w base S p s nv sv ov xs) : sv.ownBlock ≠ some p := own_blk_ne h.safe h.blk (by decide)
theorem RF.pp (h : RF w base S p s nv sv ov xs) : ov.ownBlock ≠ some p := own_blk_ne h.pend h.blk (by decide)

theorem blk_one {w : World} {g : Nat} {t t' : TypeId} {cs cs' : Array Value} (h : Blk w g t cs) (h' : Blk w g t' cs') (hne : t ≠ t') : False := Blk.ne_ h h' hne rfl

theorem chg_set (w : World) (q : Addr) (u : Value) : Chg (fun k => k = q.block) w (w.setCell q u) := (Chg.refl (fun k => k = q.block) w).setCell (.inr rfl) u

theorem own_isblk {w : World} {b : Nat} {e : TypeId} {size n : Nat} {v : Value} {ys : List Value} (h : w.ownsRow b e size v n ys) {g : Nat} (hg : v.ownBlock = some g) : ∃ cs, Blk w g e cs := by
  rcases h.2 with ⟨rfl, _⟩ | ⟨g1, c1, cur1, rfl, _, e1, _⟩
  · simp [Value.ownBlock] at hg
  · simp [Value.ownBlock] at hg
    subst hg
    exact ⟨_, e1⟩

/-- Other bytes, in a row that has been made. -/
theorem RF.setNow (h : RF w base S p s nv sv ov xs) {zs : List Int} (hown : w1.ownsRow w.heap.size 5 1 v' zs.length (cellsOf .u8 zs)) (hc : Below w.heap.size w w1) :
    RF (w1.setCell ⟨p, 0, none⟩ v') base (grow S w w1) p ⟨zs, s.safe, s.ops⟩ v' sv ov xs := by
  have h1 := h.below hc
  have far : ∀ {e : TypeId} {b size n : Nat} {u : Value} {ys : List Value}, w1.ownsRow b e size u n ys → e ≠ 29 → (w1.setCell ⟨p, 0, none⟩ v').ownsRow b e size u n ys := fun hu hne => ownsRow_setCell_other hu (own_blk_ne hu h1.blk hne) _
  have hsz : (w1.setCell ⟨p, 0, none⟩ v').heap.size = w1.heap.size := by simp [World.setCell]
  have hft := chg_lt h.foot (Chg.of_below hc (Nat.le_refl _) (fun _ => False)) h.bas
  refine ⟨by rw [hsz]; exact hft, by rw [hsz]; exact h1.bas, .inl h.inp, by have := h1.blk.set_ 0 v'; simpa using this, own_base (far hown (by decide)) h.bas, far h1.safe (by decide), far h1.pend (by decide), ?_, fun g hg => .inr (hown.lt g hg), fun g hg => .inl (h.ins g hg), fun g hg => .inl (h.ino g hg), ?_⟩
  · intro j o ho
    refine (h1.ops j o ho).on (fun k hk => (h1.foot k hk).2) (chg_set _ _ _) (fun g cs _ _ hb e => by subst e; exact blk_one hb h1.blk (by decide)) (fun _ h => .inl h) (fun g hg _ e => ?_) (fun _ _ h => h)
    have := (hown.lt g e).1
    have := (h.foot g hg).2
    omega
  · intro g hg hs
    have := (hown.lt g hg).1
    have := (h.safe.lt g hs).2
    omega

/-- One byte is put down. -/
theorem RF.store (h : RF w base S p s nv sv ov xs) {g n c i : Nat} (hv : nv = .slice (some ⟨g, 0, none⟩) n c) (x : Int) : RF (w.setCell ⟨g, i, none⟩ (.int .u8 x)) base S p ⟨s.now.set i x, s.safe, s.ops⟩ nv sv ov xs := by
  have hg : nv.ownBlock = some g := by rw [hv]; rfl
  have hp := h.pn
  have hn : n = s.now.length := by
    have := h.now
    rw [hv] at this
    obtain ⟨_, _, e, _⟩ := own_form this
    injection e
  subst hn
  have hown := h.now
  rw [hv] at hown
  have hst := (hown.stored i (.int .u8 x)).1
  have hsz : (w.setCell ⟨g, i, none⟩ (.int .u8 x)).heap.size = w.heap.size := by simp [World.setCell]
  have hgp : p ≠ g := fun e => hp (by rw [hg, e])
  refine ⟨by rw [hsz]; exact h.foot, by rw [hsz]; exact h.bas, h.inp, h.blk.far hgp _, ?_, ownsRow_setCell_other h.safe (h.ne g hg) _, ownsRow_setCell_other h.pend (fun e => own_ne h.pend h.now (by decide) g e hg) _, ?_, h.inn, h.ins, h.ino, h.ne⟩
  · rw [hv, List.length_set, ← cellsOf_set]; exact hst
  · intro j o ho
    exact (h.ops j o ho).on (fun k hk => (h.foot k hk).2) (chg_set _ _ _) (fun g' cs _ hne _ e => by subst e; exact hne hg) (fun _ h => h) (fun _ _ h => h) (fun _ _ h => h)

/-- One more of what was done. -/
theorem RF.push (h : RF w base S p s nv sv ov xs) {o : OpV} {A : Option Addr} {m c : Nat} (hown : w1.ownsRow base 66 3 v' (s.ops.length + 1) (xs ++ [.bool o.sz, .int .i64 o.n, .slice A m c])) (hc : Chg (fun k => ov.ownBlock = some k) w w1) (hm : Moved w ov v')
    (hd : Reads w1 w1.heap.size 1 A m (cellsOf .u8 o.data)) (hmc : m ≤ c) (hcm : c ≤ maxLen) (ha : ∀ ad, A = some ad → grow S w w1 ad.block ∧ nv.ownBlock ≠ some ad.block ∧ ∃ cs, Blk w1 ad.block 5 cs) :
    RF (w1.setCell ⟨p, 2, none⟩ v') base (grow S w w1) p ⟨s.now, s.safe, s.ops ++ [o]⟩ nv sv v' (xs ++ [.bool o.sz, .int .i64 o.n, .slice A m c]) := by
  have hxl := h.pend.1
  have hb1 : Blk w1 p 29 #[nv, sv, ov] := h.blk.chg hc (fun e => h.pp e)
  have hs1 := own_chg h.safe hc (fun g hg e => own_ne h.safe h.pend (by decide) g hg e)
  have hn1 := own_chg h.now hc (fun g hg e => own_ne h.now h.pend (by decide) g hg e)
  have far : ∀ {e : TypeId} {size n : Nat} {u : Value} {ys : List Value}, w1.ownsRow base e size u n ys → e ≠ 29 → (w1.setCell ⟨p, 2, none⟩ v').ownsRow base e size u n ys := fun hu hne => ownsRow_setCell_other hu (own_blk_ne hu hb1 hne) _
  have hsz : (w1.setCell ⟨p, 2, none⟩ v').heap.size = w1.heap.size := by simp [World.setCell]
  refine ⟨by rw [hsz]; exact chg_lt h.foot hc h.bas, by rw [hsz]; have := hc.size; have := h.bas; omega, .inl h.inp, by have := hb1.set_ 2 v'; simpa using this, far hn1 (by decide), far hs1 (by decide), ?_, ?_, fun g hg => .inl (h.inn g hg), fun g hg => .inl (h.ins g hg), ?_, h.ne⟩
  · rw [List.length_append]
    exact far hown (by decide)
  · intro j o' ho
    by_cases hj : j < s.ops.length
    · rw [List.getElem?_append_left hj] at ho
      have k1 := (h.ops j o' ho).on (S' := grow S w w1) (nv' := nv) (xs' := xs ++ [.bool o.sz, .int .i64 o.n, .slice A m c]) (fun k hk => (h.foot k hk).2) hc (fun g cs _ _ hb e => by
        obtain ⟨cs', hb'⟩ := own_isblk h.pend e
        exact blk_one hb hb' (by decide)) (fun _ h => .inl h) (fun _ _ h => h) (fun i u hi => by rw [List.getElem?_append_left (List.getElem?_eq_some_iff.1 hi).1]; exact hi)
      have hlt : ∀ k, grow S w w1 k → k < w1.heap.size := fun k hk => (chg_lt h.foot hc h.bas k hk).2
      exact k1.on hlt (chg_set _ _ _) (fun g cs _ _ hb e => by subst e; exact blk_one hb hb1 (by decide)) (fun _ h => h) (fun _ _ h => h) (fun _ _ h => h)
    · have hje : j = s.ops.length := by
        have := (List.getElem?_eq_some_iff.1 ho).1
        simp at this; omega
      subst hje
      rw [List.getElem?_append_right (Nat.le_refl _), Nat.sub_self] at ho
      obtain rfl : o = o' := by simpa using ho
      refine ⟨A, m, c, ?_, ?_, ?_, ?_, hmc, hcm, ?_⟩
      · rw [List.getElem?_append_right (by omega), show s.ops.length * 3 - xs.length = 0 by omega]; rfl
      · rw [List.getElem?_append_right (by omega), show s.ops.length * 3 + 1 - xs.length = 1 by omega]; rfl
      · rw [List.getElem?_append_right (by omega), show s.ops.length * 3 + 2 - xs.length = 2 by omega]; rfl
      · refine (hd.chg (chg_set w1 ⟨p, 2, none⟩ v') (Nat.le_refl _) (fun _ ad e hp => ?_)).more (by rw [hsz]; exact Nat.le_refl _)
        obtain ⟨_, _, cs, hb⟩ := ha ad e
        rw [hp] at hb; exact blk_one hb hb1 (by decide)
      · intro ad e
        obtain ⟨a1, a2, cs, a3⟩ := ha ad e
        exact ⟨a1, a2, cs, a3.far (fun hp => by rw [hp] at a3; exact blk_one a3 hb1 (by decide)) _⟩
  · intro g hg
    rcases hm with e | ⟨k, e, hk⟩
    · exact .inl (h.ino g (by rw [← e]; exact hg))
    · rw [hg] at e; injection e with e; subst e
      exact .inr ⟨hk, (hown.lt g hg).2⟩

/-- What there is is safe; nothing is pending. -/
theorem RF.setSync (h : RF w base S p s nv sv ov xs) (hown : w1.ownsRow w.heap.size 5 1 v' s.now.length (cellsOf .u8 s.now)) (hc : Below w.heap.size w w1) :
    RF ((w1.setCell ⟨p, 1, none⟩ v').setCell ⟨p, 2, none⟩ (.slice none 0 0)) base (grow S w w1) p s.sync nv v' (.slice none 0 0) [] := by
  have h1 := h.below hc
  have hb1 := h1.blk
  have hb2 := (hb1.set_ 1 v').set_ 2 (.slice none 0 0)
  have far : ∀ {e : TypeId} {size n b : Nat} {u : Value} {ys : List Value}, w1.ownsRow b e size u n ys → e ≠ 29 → ((w1.setCell ⟨p, 1, none⟩ v').setCell ⟨p, 2, none⟩ (.slice none 0 0)).ownsRow b e size u n ys := fun hu hne =>
    ownsRow_setCell_other (ownsRow_setCell_other hu (own_blk_ne hu hb1 hne) _) (own_blk_ne (ownsRow_setCell_other hu (own_blk_ne hu hb1 hne) _) (hb1.set_ 1 v') hne) _
  have hsz : ((w1.setCell ⟨p, 1, none⟩ v').setCell ⟨p, 2, none⟩ (.slice none 0 0)).heap.size = w1.heap.size := by simp [World.setCell]
  refine ⟨by rw [hsz]; exact chg_lt h.foot (Chg.of_below hc (Nat.le_refl _) (fun _ => False)) h.bas, by rw [hsz]; exact h1.bas, .inl h.inp, by simpa using hb2, far h1.now (by decide), own_base (far hown (by decide)) h.bas, World.ownsRow_nil _ _ _ _, fun j o ho => by simp [FS.sync] at ho, fun g hg => .inl (h.inn g hg), ?_, fun g hg => by simp [Value.ownBlock] at hg, ?_⟩
  · intro g hg
    have := hown.lt g hg
    exact .inr this
  · intro g hg hs
    have := hown.lt g hs
    have := h.now.lt g hg
    omega
end

end Go.Proofs.Ytdpoffedmafmhaa
