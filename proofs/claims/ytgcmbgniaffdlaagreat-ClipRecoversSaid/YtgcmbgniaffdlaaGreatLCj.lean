import Derived.Test.YtgcmbgniaffdlaaGreatLCi
import Derived.Test.YtgcmbgniaffdlaaGreatLGm
set_option linter.unusedVariables false
set_option maxRecDepth 100000
set_option linter.unusedSimpArgs false
namespace Go.Proofs.YtgcmbgniaffdlaaGreat
open Go.RowKit Go.Shelf
attribute [local go_sem] Oper.semAt_some
def lkI (root : Nat) (its : List It) : Nat := match its.getLast? with
  | none => root
  | some t => t.j + 16
def FullI (its : List It) : Prop := ∀ t, its.getLast? = some t -> (placesA t.is).length = t.is.length
def newA (n : Nat) (x : Int) : List Int := x :: List.replicate (sizeC n - 1) 0
section
variable {base p : Nat} {S : Nat -> Prop} {i k d f h : Int} {m : IM} {bv sv : Value} {its : List It} {L : List Int}
def ApTold (base : Nat) (S : Nat -> Prop) (p : Nat) (i k d f h : Int) (m : IM) (root : Nat) (its : List It) (x : Int) (w : World) (e : Ending) (w' : World) : Prop :=
 (x = 0 /\ e = .returned (.int .i64 1) /\ Below w.heap.size w w') ∨
 (¬ x = 0 /\ ∃ t, its.getLast? = some t /\ (placesA t.is).length < t.is.length /\ e = .returned (.int .i64 0) /\ IXT base S p i k d f h (m.put8 (t.j + 24 + 8 * (placesA t.is).length) x) w w') ∨
 (¬ x = 0 /\ FullI its /\ m.lim < m.b.length + (encO 4 [0] [] (newA its.length x)).length /\ e = .returned (.int .i64 21) /\ Below w.heap.size w w') ∨
 (¬ x = 0 /\ FullI its /\ m.b.length + (encO 4 [0] [] (newA its.length x)).length <= m.lim /\ e = .returned (.int .i64 0) /\ IXT base S p i k d f h ((m.add (encO 4 [0] [] (newA its.length x))).put8 (lkI root its) (m.b.length : Nat)) w w')
def PutTold (base : Nat) (S : Nat -> Prop) (p : Nat) (i k d f h : Int) (m : IM) (q : Nat) (X : List Int) (u : Int) (w w' : World) : Prop :=
 (m.lim < m.b.length + X.length /\ u = 21 /\ Below w.heap.size w w') ∨ (m.b.length + X.length <= m.lim /\ u = 0 /\ IXT base S p i k d f h ((m.add X).put8 q (m.b.length : Nat)) w w')
theorem PutTold.chg {q : Nat} {X : List Int} {u : Int} {w w' : World} (h : PutTold base S p i k d f h m q X u w w') : Chg S w w' := by
 rcases h with ⟨-, -, h⟩ | ⟨-, -, h⟩
 · exact Chg.of_below h (Nat.le_refl _) _
 · exact h.1
theorem ixt_end {m' : IM} {w W5 W6 : World} {D : Nat} (hf : ∀ j, S j -> base <= j /\ j < w.heap.size) (hb : base <= w.heap.size) (h5 : Below w.heap.size w W5) (h6 : IXT base S p i k d f h m' W5 W6) (hD : w.heap.size <= D) (hD5 : D < W5.heap.size) (o : Obj) : IXT base S p i k d f h m' w (W6.putObj D o) := by
 obtain ⟨hc, bv6, sv6, H6⟩ := h6
 have hs := h5.size
 have hs6 := hc.size
 have t2 := (Chg.of_below h5 (Nat.le_refl _) S).trans hc (fun _ _ h => h)
 have t3 : Chg (fun j => j = D) W6 (W6.putObj D o) := ⟨rfl, rfl, rfl, by simp, fun k hk hn => World.putObj_heap_other hn⟩
 have t4 := t2.trans t3 (fun j hj e => by omega)
 refine IXT.of (w0 := w) t4 (H6.keep t3 (fun j hj e => ?_)) (fun j hj => ?_) hf hb
 · subst e
   rcases hj with hj | hj
   · have := (hf _ hj).2; omega
   · omega
 · rcases hj with hj | hj
   · exact .inl hj
   · right; omega
theorem chg_keepD {w W5 W6 : World} {D : Nat} {o : Obj} (hf : ∀ j, S j -> base <= j /\ j < w.heap.size) (hD : w.heap.size <= D) (hK : W5.heap[D]? = some o) (hc : Chg S W5 W6) : W6.heap[D]? = some o :=
 (hc.block D (Array.getElem?_eq_some_iff.1 hK).1 (fun e => by have := (hf _ e).2; omega)).trans hK
def OnNorm (R : Act -> World -> Prop) : Exit -> Act -> World -> Prop
 | .normal, a, w => R a w
 | .ret, _, _ => False
 | .exit _, _, _ => False
 | .goto _, _, _ => False
 | .panic _, _, _ => False
 | .outgrown, _, _ => False
structure Arr3 (W W' : World) (Zw Zi : Array Value) (K gw gi gb : Nat) : Prop where
 bel : Below W.heap.size W W'
 lw : W.heap.size <= gw
 li : W.heap.size <= gi
 lb : W.heap.size <= gb
 n1 : gw ≠ gi
 n2 : gw ≠ gb
 n3 : gi ≠ gb
 zw : Blk W' gw 27 Zw
 zi : Blk W' gi 27 Zi
 zb : Blk W' gb 128 #[.int .i64 4, .slice (some ⟨gw, 0, none⟩) 1 1, .slice none 0 0, .slice (some ⟨gi, 0, none⟩) K K]
theorem three_blocks (W : World) (Za Zb Zc : Array Value) (ta tb tc : TypeId) : Below W.heap.size W (((W.alloc (.cells Za ta)).alloc (.cells Zb tb)).alloc (.cells Zc tc)).drew /\ Blk (((W.alloc (.cells Za ta)).alloc (.cells Zb tb)).alloc (.cells Zc tc)).drew W.heap.size ta Za /\
 Blk (((W.alloc (.cells Za ta)).alloc (.cells Zb tb)).alloc (.cells Zc tc)).drew (W.heap.size + 1) tb Zb /\ Blk (((W.alloc (.cells Za ta)).alloc (.cells Zb tb)).alloc (.cells Zc tc)).drew (W.heap.size + 1 + 1) tc Zc := by
 have h := Blk.new (W.alloc (.cells Za ta)) tb Zb
 have h2 := Blk.new ((W.alloc (.cells Za ta)).alloc (.cells Zb tb)) tc Zc
 rw [World.size_alloc] at h
 rw [World.size_alloc, World.size_alloc] at h2
 exact ⟨((((Below.refl _ W).alloc (Nat.le_refl _) _).alloc (by simp) _).alloc (by simp; omega) _).drew, (((Blk.new W ta Za).alloc _).alloc _).drew, (h.alloc _).drew, h2.drew⟩
def lastC (pre : List Ob) : Array Value := match pre.getLast? with
  | none => #[.int .i64 0, .slice none 0 0, .slice none 0 0, .slice none 0 0]
  | some y => #[.int .i64 4, .slice y.A y.n y.c, .slice y.B y.m y.d, .slice y.C y.p y.q]
def lastP (pre : List Ob) : Nat := match pre.getLast? with
  | none => 0
  | some y => y.t.j
theorem lastC_form (pre : List Ob) : ∃ a b c d, lastC pre = #[a, b, c, d] := by
 unfold lastC
 cases pre.getLast? with
 | none => exact ⟨_, _, _, _, rfl⟩
 | some y => exact ⟨_, _, _, _, rfl⟩
theorem lastC_snoc (pre : List Ob) (y : Ob) : lastC (pre ++ [y]) = #[.int .i64 4, .slice y.A y.n y.c, .slice y.B y.m y.d, .slice y.C y.p y.q] := by simp [lastC]
theorem lastP_snoc (pre : List Ob) (y : Ob) : lastP (pre ++ [y]) = y.t.j := by simp [lastP]
def LastOk (g0 : Nat) (pre : List Ob) (W : World) : Prop := ∀ y, pre.getLast? = some y -> Reads W W.heap.size 1 y.C y.p (cellsOf .u64 y.t.is) /\ (y.p <= y.q /\ y.q <= 9223372036854775807) /\ ∀ ad, y.C = some ad -> ¬ three g0 ad.block
theorem LastOk.grown {g0 : Nat} {pre : List Ob} {W W' : World} {row : Option Nat} (h : LastOk g0 pre W) (hg : W.grownBy W' row) (hr : ∀ r, row = some r -> ∃ o : Obj, W.heap[r]? = some o /\ o.isCells = false) : LastOk g0 pre W' := fun y hy =>
 ⟨((h y hy).1.grownF hg hr).upto hg.size, (h y hy).2⟩
theorem LastOk.chg {g0 : Nat} {pre : List Ob} {W W' : World} (h : LastOk g0 pre W) (hc : Chg (three g0) W W') : LastOk g0 pre W' := fun y hy =>
 ⟨((h y hy).1.chg hc (Nat.le_refl _) (fun _ ad e => (h y hy).2.2 ad e)).upto hc.size, (h y hy).2⟩
theorem LastOk.snoc {g0 : Nat} {y : Ob} {W : World} (h : LastOk g0 [y] W) (pre : List Ob) : LastOk g0 (pre ++ [y]) W := fun z hz => h z (by simpa using hz)
set_option maxHeartbeats 8000000 in
theorem cappend_any (root : Nat) (x : Int) (hx : IsU x) (w : World) (HL : ListAt w base p S root its L) (H : IX w base S p i k d f h m bv sv) (hb : AreB m.b) (hd : 1 <= d /\ d <= 256) (hf : 1 <= f /\ f <= 256) (hl : m.b.length <= 1099511627776) (hlim : m.lim <= 1048576) (hN : m.words.length <= 1000000000) (hwl : m.was.length <= 1099511627776)
 (hput : ∀ t, its.getLast? = some t -> (placesA t.is).length < t.is.length -> t.j + 24 + 8 * (placesA t.is).length + 8 <= m.b.length /\ t.j % 8 = 0 /\ 192 <= t.j /\ m.word (t.j + 24 + 8 * (placesA t.is).length : Nat) = 0)
 (hlink : FullI its -> lkI root its + 8 <= m.b.length /\ lkI root its % 8 = 0 /\ 192 <= lkI root its /\ m.word (lkI root its : Nat) = 0) :
 Calls Tryz.prog 94 #[.pointer (some ⟨p, 0, none⟩), .int .i64 root, .int .u64 x] w (ApTold base S p i k d f h m root its x w) := by
 by_cases hx0 : x = 0
 · subst hx0
   go_enter Tryz.func94, Tryz.ntmps94
   go_wp2
   refine bodyPost_ret (results_tmp rfl _ _ _) rfl ?_
   exact .inl ⟨rfl, rfl, Below.refl _ _⟩
 · have hx1 : (x == 0) = false := by simpa using hx0
   have AL : Hid (∀ w1 : World, Below w.heap.size w w1 -> w.heap.size + 3 <= w1.heap.size -> Calls Tryz.prog 142 #[.pointer (some ⟨p, 0, none⟩), .int .i64 root] w1 fun e w' => e = .returned (flV w1.heap.size) /\ Below w1.heap.size w1 w' /\
       SeqF Fence.wide 8 Tryz.prog 195 #[.pointer (some ⟨w1.heap.size + 3, 0, none⟩), .pointer (some ⟨w1.heap.size + 2, 0, none⟩), .pointer (some ⟨w1.heap.size + 1, 0, none⟩), .pointer (some ⟨w1.heap.size, 0, none⟩)] (Ob.encs 4) (TellsF its) (three w.heap.size) (fun xs => xs.map (·.t) = its) (fun pre => ∃ rest, pre.map (·.t) ++ rest = its) its.length w') := Lib.hid (fun w1 hb hs => arrays_at (HL.below hb) 8 (by omega) _ (fun j hj e => by
         have := (HL.foot j hj).2
         have e : j = w.heap.size ∨ j = w.heap.size + 1 ∨ j = w.heap.size + 1 + 1 := e
         omega) (fun j e => by
         have e : j = w.heap.size ∨ j = w.heap.size + 1 ∨ j = w.heap.size + 1 + 1 := e
         omega))
   have hb0 : Below w.heap.size w (((w.alloc (.cells #[.int .i64 0] 3)).alloc (.cells #[.int .i64 0] 3)).alloc (.cells #[.int .i64 0, .slice none 0 0, .slice none 0 0, .slice none 0 0] 128)) := ((boxed w _).alloc (boxed w _).size _).alloc (by simp; omega) _
   have hsz : (((w.alloc (.cells #[.int .i64 0] 3)).alloc (.cells #[.int .i64 0] 3)).alloc (.cells #[.int .i64 0, .slice none 0 0, .slice none 0 0, .slice none 0 0] 128)).heap.size = w.heap.size + 3 := by simp
   have x0 := ((Blk.new w 3 #[.int .i64 0]).alloc (.cells #[.int .i64 0] 3)).alloc (.cells #[.int .i64 0, .slice none 0 0, .slice none 0 0, .slice none 0 0] 128)
   have x1 := (Blk.new (w.alloc (.cells #[.int .i64 0] 3)) 3 #[.int .i64 0]).alloc (.cells #[.int .i64 0, .slice none 0 0, .slice none 0 0, .slice none 0 0] 128)
   have x2 := Blk.new ((w.alloc (.cells #[.int .i64 0] 3)).alloc (.cells #[.int .i64 0] 3)) 128 #[.int .i64 0, .slice none 0 0, .slice none 0 0, .slice none 0 0]
   simp only [World.size_alloc] at x1 x2
   have HX := Lib.hid (And.intro hb0 (And.intro hsz (And.intro x0 (And.intro x1 x2))))
   have AX := Lib.hid (AL.out _ hb0 (by omega))
   clear hb0 hsz x0 x1 x2 AL
   refine (callsIn_wide (n := 9)).1 ?_
   refine callsIn_of_wp_marks Tryz.func94 rfl trivial ?_ rfl
   simp only [Tryz.ntmps94, List.size_toArray, List.length_cons, List.length_nil, Nat.reduceAdd, Nat.reduceSub, Array.replicate_succ, Array.replicate_zero, List.push_toArray, List.append_toArray, List.nil_append, List.cons_append]
   gi_wp2_with (refine ⟨trivial, ?_⟩; gi_at_call 142; refine (callsIn_wide.2 AX.out).mono ?_; rintro e w2 ⟨rfl, hb2, hseq⟩)
   obtain ⟨hb0, hsz, x0, x1, x2⟩ := HX.out
   rw [hsz] at hseq
   generalize ((w.alloc (.cells #[.int .i64 0] 3)).alloc (.cells #[.int .i64 0] 3)).alloc (.cells #[.int .i64 0, .slice none 0 0, .slice none 0 0, .slice none 0 0] 128) = w0 at *
   have hs2 := hb2.size
   have hbw2 : Below w.heap.size w w2 := hb0.trans (hb2.mono hb0.size)
   have y0 := x0.below hb2 (by omega)
   have y1 := x1.below hb2 (by omega)
   have y2 := x2.below hb2 (by omega)
   have hft := H.foot
   have hbs := H.bas
   obtain ⟨g0, hg0⟩ : ∃ g0, w.heap.size = g0 := ⟨_, rfl⟩
   rw [hg0] at y0 y1 y2 hbw2 hseq hft hbs ⊢
   have h3 : ∀ j, three g0 j ↔ (j = g0 ∨ j = g0 + 1 ∨ j = g0 + 1 + 1) := fun _ => Iff.rfl
   have hitl := HL.most
   have hits := HL.its_
   refine wp_range_A (F := Fence.wide) (n := 9) rfl (by omega) (gf := 195) (lb := #[.pointer (some ⟨g0 + 1 + 1 + 1 + 3, 0, none⟩), .pointer (some ⟨g0 + 1 + 1 + 1 + 2, 0, none⟩), .pointer (some ⟨g0 + 1 + 1 + 1 + 1, 0, none⟩), .pointer (some ⟨g0 + 1 + 1 + 1, 0, none⟩)]) rfl trivial (enters_of Tryz.func195 (by kernel_rfl) rfl) hseq
     (fun k hk => by rw [h3] at hk; omega)
     (fun _ => rfl)
     (fun fq pre W => fq = three g0 /\ Blk W g0 3 #[.int .i64 (pre.length : Nat)] /\ Blk W (g0 + 1) 3 #[.int .i64 (lastP pre : Nat)] /\ Blk W (g0 + 1 + 1) 128 (lastC pre) /\ LastOk g0 pre W /\ Below g0 w W)
     (fun c pre W => False)
     (fun fq s A C row hs hg hr => ⟨hs.1, own_blkOf (β := Unit) (B := w2.heap.size) (by omega) (fun _ => #[.int .i64 (s.length : Nat)]) () A C row hs.2.1 hg hr, own_blkOf (β := Unit) (B := w2.heap.size) (by omega) (fun _ => #[.int .i64 (lastP s : Nat)]) () A C row hs.2.2.1 hg hr,
       own_blkOf (β := Unit) (B := w2.heap.size) (by omega) (fun _ => lastC s) () A C row hs.2.2.2.1 hg hr, hs.2.2.2.2.1.grown hg (fun r e => (hr r e).2), hs.2.2.2.2.2.grown hg (by have := hs.2.2.2.2.2.size; omega) (fun k e => by have := (hr k e).1; omega)⟩)
     (fun c => own_never)
     ⟨rfl, y0, y1, y2, (fun y hy => by simp at hy), hbw2⟩
     (fun fq pre y a' W => fq = three g0 /\ Blk W g0 3 #[.int .i64 (pre.length : Nat)] /\ Blk W (g0 + 1) 3 #[.int .i64 (y.t.j : Nat)] /\ Blk W (g0 + 1 + 1) 128 (lastC [y]) /\ LastOk g0 [y] W /\ Below g0 w W /\ a' = { tmps := #[.pointer (some ⟨p, 0, none⟩), .int .i64 root, .int .u64 x, undef, undef, undef, .int .i64 0, .pointer (some ⟨g0, 0, none⟩), .pointer (some ⟨g0 + 1, 0, none⟩), .pointer (some ⟨g0 + 1 + 1, 0, none⟩), undef, undef, .int .u64 x, .bool false, .agg #[.int .i64 0, .slice none 0 0, .slice none 0 0, .slice none 0 0], .pointer (some ⟨p, 0, none⟩), .int .i64 root, flV (g0 + 1 + 1 + 1), .int .i64 y.t.j, y.v 4, undef, undef, undef, undef, undef, undef, undef, undef, undef, undef, undef, undef, undef, undef, undef, undef, undef, undef, undef, undef, undef, undef, undef, undef, undef, undef, undef, undef, undef, undef, undef, undef, undef, undef, undef, undef], defers := [] })
     (fun fq pre y a' _ A C row hs hg hr => ⟨hs.1, own_blkOf (β := Unit) (B := w2.heap.size) (by omega) (fun _ => #[.int .i64 (pre.length : Nat)]) () A C row hs.2.1 hg hr, own_blkOf (β := Unit) (B := w2.heap.size) (by omega) (fun _ => #[.int .i64 (y.t.j : Nat)]) () A C row hs.2.2.1 hg hr,
       own_blkOf (β := Unit) (B := w2.heap.size) (by omega) (fun _ => lastC [y]) () A C row hs.2.2.2.1 hg hr, hs.2.2.2.2.1.grown hg (fun r e => (hr r e).2), hs.2.2.2.2.2.1.grown hg (by have := hs.2.2.2.2.2.1.size; omega) (fun k e => by have := (hr k e).1; omega), hs.2.2.2.2.2.2⟩)
     ?assign ?body ?done ?stop
   case assign =>
     rintro l fp fq pre y W K hW ⟨rfl, z0, z1, z2, hlo, hbW⟩ hok hsub hlen ⟨hpx, hfree⟩ hK
     have k1 := z1.cell 0
     obtain ⟨a0, a1, a2, a3, hlc⟩ := lastC_form pre
     rw [hlc] at z2
     have k20 := z2.cell 0
     have k21 := z2.cell 1
     have k22 := z2.cell 2
     have k23 := z2.cell 3
     have f1 := z1.frozen 0
     have f20 := z2.frozen 0
     have f21 := z2.frozen 1
     have f22 := z2.frozen 2
     have f23 := z2.frozen 3
     dsimp only [Ob.encs, Ob.v, obV]
     gi_wp2
     have p4 := put4 (a0 := .int .i64 4) (a1 := .slice y.A y.n y.c) (a2 := .slice y.B y.m y.d) (a3 := .slice y.C y.p y.q) (z2.far (p := ⟨g0 + 1, 0, none⟩) (by show g0 + 1 + 1 ≠ g0 + 1; omega) (.int .i64 y.t.j))
     have hc : Chg (three g0) W _ := (chg_set1 (T := three g0) (p := ⟨g0 + 1, 0, none⟩) (Chg.refl _ W) (.inr (.inl rfl)) (.int .i64 y.t.j)).trans p4.2 (fun k _ e => .inr (.inr e))
     have hsz2 : (W.setCell ⟨g0 + 1, 0, none⟩ (.int .i64 y.t.j)).heap.size = W.heap.size := size_set _ _ _
     refine hK _ _ hc ⟨by first | rfl | trivial, ?_, ?_, p4.1, ?_, ?_, rfl⟩
     · exact (p4.2.block g0 (by have := z0.lt; omega) (by omega)).trans (z0.far (p := ⟨g0 + 1, 0, none⟩) (by show g0 ≠ g0 + 1; omega) _)
     · exact (p4.2.block (g0 + 1) (by have := z1.lt; omega) (by omega)).trans (z1.set_ 0 _)
     · refine LastOk.chg (W := W) (fun z hz => ?_) hc
       have e : z = y := by simpa using hz.symm
       subst e
       exact ⟨hpx.2.ir, hpx.2.ic, fun ad e => fun hh => hfree.2.2 ad e (hsub _ hh)⟩
     · exact hbW.trans (hc.below (by rw [<- hg0]; exact hbW.size) (fun j _ hj => by rw [h3] at hj; omega))
   case body =>
     rintro l fq pre y W hok hlen - a' ⟨rfl, z0, z1, z2, hlo, hbW, rfl⟩
     have k0 := z0.cell 0
     have f0 := z0.frozen 0
     have hpl : pre.length + 1 <= 1000000001 := by omega
     gi_wp2
     have hc : Chg (three g0) W (W.setCell ⟨g0, 0, none⟩ (.int .i64 ((pre.length : Int) + 1))) := chg_set1 (T := three g0) (Chg.refl _ _) (.inl rfl) _
     refine ⟨three g0, ⟨rfl, ?_, ?_, ?_, ?_, ?_⟩, hc, fun k hk => ⟨.inl hk, by rw [size_set]; exact hok k hk⟩⟩
     · have e : (((pre ++ [y]).length : Nat) : Int) = (pre.length : Int) + 1 := by simp
       rw [e]; exact z0.set_ 0 _
     · rw [lastP_snoc]; exact z1.far (by show g0 + 1 ≠ g0; omega) _
     · rw [lastC_snoc]; exact z2.far (by show g0 + 1 + 1 ≠ g0; omega) _
     · exact (hlo.snoc pre).chg hc
     · exact hbW.setCell (Nat.le_refl _) _
   case done =>
     rintro D fq xs W3 hD hxs ⟨rfl, z0, z1, z2, hlo, hbW⟩ hK
     have hxl : xs.length = its.length := by rw [<- hxs, List.length_map]
     have hDW := (Array.getElem?_eq_some_iff.1 hK).1
     have hsW := hbW.size
     have k0 := z0.cell 0
     have k1 := z1.cell 0
     have H3 := H.below (hg0 ▸ hbW)
     obtain ⟨C, pn, q, zs, pl, kl, kp, hrd, hpq, hsome, hnone⟩ : ∃ (C : Option Addr) (pn q : Nat) (zs : List Int) (pl : Nat), W3.cell? ⟨g0 + 1 + 1, 3, none⟩ = some (.slice C pn q) /\ lastP xs = pl /\ Reads W3 W3.heap.size 1 C pn (cellsOf .u64 zs) /\ pn <= 140737488355328 /\
         (∀ t, its.getLast? = some t -> zs = t.is /\ pl = t.j) /\ (its.getLast? = none -> zs = []) := by
       rcases List.eq_nil_or_concat xs with rfl | ⟨xs', y, rfl⟩
       · have hits0 : its = [] := hxs.symm
         subst hits0
         exact ⟨none, 0, 0, [], 0, z2.cell 3, rfl, Reads.none_, by omega, (fun t ht => by simp at ht), fun _ => rfl⟩
       · rw [List.concat_eq_append] at *
         have hy := hlo y (by simp)
         have hm : y.t ∈ its := by rw [<- hxs]; simp
         have hgl : its.getLast? = some y.t := by rw [<- hxs, List.map_append]; simp
         rw [lastC_snoc] at z2
         exact ⟨y.C, y.p, y.q, y.t.is, y.t.j, z2.cell 3, lastP_snoc _ _, hy.1, by rw [<- hy.1.len]; exact hits _ hm, (fun t ht => by rw [hgl] at ht; injection ht with ht; subst ht; exact ⟨rfl, rfl⟩), fun hn => by rw [hgl] at hn; cases hn⟩
     rw [kp] at k1 z1
     rw [hxl] at k0 z0
     have SI := Lib.hid (sindex_any C pn q zs W3 hrd hpq)
     have HK := Lib.hid hK
     have HD := Lib.hid (And.intro hD hDW)
     by_cases hfull : (placesA zs).length = zs.length
     · have e0 : idx0 zs = -1 := by unfold idx0; rw [if_pos hfull]
       rw [e0] at SI
       obtain ⟨Zw, hZw1, hZw2, hmkw⟩ : ∃ Zc : Array Value, Zc.toList = cellsOf .u64 [0] /\ Zc.size = 1 /\ ∀ W : World, (Instr.makeSlice 114 (.int .i64 1) (.int .i64 1)).run Tryz.prog W = .ok (.slice (some ⟨W.heap.size, 0, none⟩) 1 1) (W.alloc (.cells Zc 27)) := make_words 1 (by omega)
       obtain ⟨K, hK2⟩ : ∃ K, sizeC its.length = K := ⟨_, rfl⟩
       have hKb := sizeC_bd its.length
       rw [hK2] at hKb
       obtain ⟨Zi, hZi1, hZi2, hmki⟩ := make_words K (by omega)
       obtain ⟨nn, hnn⟩ : ∃ nn, its.length = nn := ⟨_, rfl⟩
       have CS : Hid (∀ wx, Calls Tryz.prog 145 #[.int .i64 nn] wx fun e w' => e = .returned (.int .i64 K) /\ wx = w') := Lib.hid (fun wx => by
         have h9 := csize_any (nn : Int) wx (by omega) (by omega)
         have e9 : sizeI (nn : Int) = (K : Nat) := by unfold sizeI; rw [if_neg (by omega), Int.toNat_natCast, <- hnn, hK2]
         rw [e9] at h9; exact h9)
       have CW : Hid (∀ wx, Calls Tryz.prog 90 #[.int .i64 4] wx fun e w' => e = .returned (.int .i64 1) /\ wx = w') := Lib.hid (fun wx => owords_any 4 wx)
       rw [hnn] at k0 z0
       have HA := Lib.hid (And.intro hfull (And.intro hnone hsome))
       have HZ := Lib.hid (And.intro hZw1 (And.intro hZw2 (And.intro hZi1 (And.intro hZi2 (And.intro hK2 (And.intro hnn hKb))))))
       have Z0 := Lib.hid (And.intro z0 z1)
       clear z0 z1 z2 hlo hxs hxl hK hD hDW hrd e0 hfull hnone hsome hZw1 hZw2 hZi1 hZi2 hK2 hnn
       gi_wp2_with (refine ⟨trivial, ?_⟩; gi_at_call 143; refine (callsIn_wide.2 SI.out).mono ?_; rintro e w5 ⟨rfl, rfl⟩)
       refine wpIn_wide.2 ?_
       refine Code.wp_mono (Q := OnNorm fun a' W' => ∃ gw gi gb, Arr3 W3 W' Zw Zi K gw gi gb /\ a' = { tmps := #[.pointer (some ⟨p, 0, none⟩), .int .i64 root, .int .u64 x, undef, undef, undef, .int .i64 0, .pointer (some ⟨g0, 0, none⟩), .pointer (some ⟨g0 + 1, 0, none⟩), .pointer (some ⟨g0 + 1 + 1, 0, none⟩), .int .i64 (-1), .pointer (some ⟨gb, 0, none⟩), .int .u64 x, .bool false, .agg #[.int .i64 0, .slice none 0 0, .slice none 0 0, .slice none 0 0], .pointer (some ⟨p, 0, none⟩), .int .i64 root, flV (g0 + 1 + 1 + 1), undef, undef, undef, undef, .pointer (some ⟨g0 + 1 + 1, 3, none⟩), .slice C pn q, .int .i64 (-1), .int .i64 (-1), .bool false, undef, undef, undef, undef, undef, undef, undef, .int .i64 1, .slice (some ⟨gw, 0, none⟩) 1 1, .int .i64 nn, .int .i64 K, .slice (some ⟨gi, 0, none⟩) K K, .agg #[.int .i64 4, .slice (some ⟨gw, 0, none⟩) 1 1, .slice none 0 0, .slice (some ⟨gi, 0, none⟩) K K], undef, undef, undef, undef, undef, undef, undef, undef, undef, undef, undef, undef, undef, undef, undef, undef], defers := [{ target := .collected D, args := #[] }] }) ?_ ?_
       rotate_left
       · have HC := Lib.hid (fun (wx : World) (o : Obj) (hx : wx.cell? ⟨g0, 0, none⟩ = some (.int .i64 nn)) => (cell_kept1 hx : (wx.alloc o).cell? ⟨g0, 0, none⟩ = some (.int .i64 nn)))
         go_region_held3 (fun w' => w'.cell? ⟨g0, 0, none⟩ = some (.int .i64 nn))
           (first | assumption | exact HC.out _ _ (by assumption) | exact HC.out _ _ (HC.out _ _ (by assumption)) | exact HC.out _ _ (HC.out _ _ (HC.out _ _ (by assumption))))
           (first
             | (go_at_call 90; refine (CW.out _).mono ?_; rintro e w9 ⟨rfl, rfl⟩)
             | (go_at_call 145; refine (CS.out _).mono ?_; rintro e w9 ⟨rfl, rfl⟩))
         all_goals first
         | (obtain ⟨q1, q2, q3, q4⟩ := three_blocks W3 Zw Zi (#[.int .i64 4, .slice (some ⟨W3.heap.size, 0, none⟩) 1 1, .slice none 0 0, .slice (some ⟨W3.heap.size + 1, 0, none⟩) K K]) 27 27 128
            exact ⟨W3.heap.size, W3.heap.size + 1, W3.heap.size + 1 + 1, ⟨q1, by omega, by omega, by omega, by omega, by omega, by omega, q2, q3, q4⟩, rfl⟩)
         | (obtain ⟨q1, q2, q3, q4⟩ := three_blocks W3 Zw (#[.int .i64 4, .slice (some ⟨W3.heap.size, 0, none⟩) 1 1, .slice none 0 0, .slice (some ⟨W3.heap.size + 1 + 1, 0, none⟩) K K]) Zi 27 128 27
            exact ⟨W3.heap.size, W3.heap.size + 1 + 1, W3.heap.size + 1, ⟨q1, by omega, by omega, by omega, by omega, by omega, by omega, q2, q4, q3⟩, rfl⟩)
         | (obtain ⟨q1, q2, q3, q4⟩ := three_blocks W3 Zi Zw (#[.int .i64 4, .slice (some ⟨W3.heap.size + 1, 0, none⟩) 1 1, .slice none 0 0, .slice (some ⟨W3.heap.size, 0, none⟩) K K]) 27 27 128
            exact ⟨W3.heap.size + 1, W3.heap.size, W3.heap.size + 1 + 1, ⟨q1, by omega, by omega, by omega, by omega, by omega, by omega, q3, q2, q4⟩, rfl⟩)
         | (obtain ⟨q1, q2, q3, q4⟩ := three_blocks W3 Zi (#[.int .i64 4, .slice (some ⟨W3.heap.size + 1 + 1, 0, none⟩) 1 1, .slice none 0 0, .slice (some ⟨W3.heap.size, 0, none⟩) K K]) Zw 27 128 27
            exact ⟨W3.heap.size + 1 + 1, W3.heap.size, W3.heap.size + 1, ⟨q1, by omega, by omega, by omega, by omega, by omega, by omega, q4, q2, q3⟩, rfl⟩)
         | (obtain ⟨q1, q2, q3, q4⟩ := three_blocks W3 (#[.int .i64 4, .slice (some ⟨W3.heap.size + 1, 0, none⟩) 1 1, .slice none 0 0, .slice (some ⟨W3.heap.size + 1 + 1, 0, none⟩) K K]) Zw Zi 128 27 27
            exact ⟨W3.heap.size + 1, W3.heap.size + 1 + 1, W3.heap.size, ⟨q1, by omega, by omega, by omega, by omega, by omega, by omega, q3, q4, q2⟩, rfl⟩)
         | (obtain ⟨q1, q2, q3, q4⟩ := three_blocks W3 (#[.int .i64 4, .slice (some ⟨W3.heap.size + 1 + 1, 0, none⟩) 1 1, .slice none 0 0, .slice (some ⟨W3.heap.size + 1, 0, none⟩) K K]) Zi Zw 128 27 27
            exact ⟨W3.heap.size + 1 + 1, W3.heap.size + 1, W3.heap.size, ⟨q1, by omega, by omega, by omega, by omega, by omega, by omega, q4, q3, q2⟩, rfl⟩)
       · intro e a' W5 hq5
         cases e <;> try exact hq5.elim
         obtain ⟨gw, gi, gb, A3, rfl⟩ := hq5
         obtain ⟨hZw1, hZw2, hZi1, hZi2, hK2, hnn, hKb⟩ := HZ.out
         obtain ⟨hfull, hnone, hsome⟩ := HA.out
         obtain ⟨z0, z1⟩ := Z0.out
         have hs5 := A3.bel.size
         have a1 := A3.n1
         have a2 := A3.n2
         have a3 := A3.n3
         have b1 := A3.lw
         have b2 := A3.li
         have b3 := A3.lb
         have u3 := A3.zb.cell 3
         have v0 : W5.cell? ⟨gi, 0, none⟩ = some (.int .u64 0) := by
           rw [A3.zi.cell 0, <- Array.getElem?_toList, hZi1]
           exact (cellsOf_get (by rw [List.length_replicate]; omega)).trans (by rw [List.getD_eq_getElem?_getD, List.getElem?_replicate, if_pos (by omega)]; rfl)
         have f0 := A3.zi.frozen 0
         have hK0 : (0 : Int) < (K : Int) := by omega
         obtain ⟨W6, hW6⟩ : ∃ W6, W5.setCell ⟨gi, 0, none⟩ (.int .u64 x) = W6 := ⟨_, rfl⟩
         have hb6 : Below W3.heap.size W3 W6 := by rw [<- hW6]; exact A3.bel.setCell (p := ⟨gi, 0, none⟩) b2 _
         have hs6 := hb6.size
         have zb6 : Blk W6 gb 128 #[.int .i64 4, .slice (some ⟨gw, 0, none⟩) 1 1, .slice none 0 0, .slice (some ⟨gi, 0, none⟩) K K] := by rw [<- hW6]; exact A3.zb.far (by show gb ≠ gi; omega) _
         have zw6 : Blk W6 gw 27 Zw := by rw [<- hW6]; exact A3.zw.far (by show gw ≠ gi; omega) _
         have zi6 : Blk W6 gi 27 (Zi.setIfInBounds 0 (.int .u64 x)) := by rw [<- hW6]; exact A3.zi.set_ 0 _
         have z06 := z0.below hb6 z0.lt
         have z16 := z1.below hb6 z1.lt
         have hO : ObR W6 W6.heap.size (some ⟨gw, 0, none⟩) 1 1 [0] none 0 0 [] (some ⟨gi, 0, none⟩) K K (newA nn x) := by
           refine ⟨Blk.words zw6 hZw1 hZw2, Reads.none_, Blk.words zi6 ?_ (by rw [Array.size_setIfInBounds, hZi2]), ⟨by omega, by omega⟩, ⟨by omega, by omega⟩, ⟨Nat.le_refl _, by omega⟩⟩
           rw [Array.toList_setIfInBounds, hZi1]
           unfold newA
           rw [<- hnn, hK2]
           obtain ⟨K', rfl⟩ : ∃ K', K = K' + 1 := ⟨K - 1, by omega⟩
           simp [List.replicate_succ, cellsOf]
         have hr4 : rightN 4 1 0 K = true := by unfold rightN; simp [kwN, mostN, hasI]; omega
         have hFull : FullI its := fun t ht => by
           obtain ⟨e1, -⟩ := hsome t ht
           rw [<- e1]; exact hfull
         obtain ⟨l1, l2, l3, l4⟩ := hlink hFull
         have H6 := H3.below hb6
         obtain ⟨lk, hlk⟩ : ∃ lk, lkI root its = lk := ⟨_, rfl⟩
         rw [hlk] at l1 l2 l3 l4
         have PU : Hid (∀ wx, Below W6.heap.size W6 wx -> Calls Tryz.prog 146 #[.pointer (some ⟨p, 0, none⟩), .int .i64 lk, .agg #[.int .i64 4, .slice (some ⟨gw, 0, none⟩) 1 1, .slice none 0 0, .slice (some ⟨gi, 0, none⟩) K K]] wx fun e w' => ∃ u, e = .returned (.int .i64 u) /\ PutTold base S p i k d f h m lk (encO 4 [0] [] (newA nn x)) u wx w') := Lib.hid (fun wx hbx => by
           refine (cput_any lk (some ⟨gw, 0, none⟩) 1 1 [0] (some ⟨gi, 0, none⟩) K K (newA nn x) wx (hO.below hbx (Nat.le_refl _)) hbx.size hr4 (H6.below hbx) hb hd hf hl hlim hN hwl l1 l2 l3 l4).mono ?_
           rintro e w' (⟨e1, rfl, e3⟩ | ⟨e1, rfl, e3⟩)
           · exact ⟨21, rfl, .inl ⟨e1, rfl, e3⟩⟩
           · exact ⟨0, rfl, .inr ⟨e1, rfl, e3⟩⟩)
         have KC : Hid (∀ wx w7 (g : Nat) (t : TypeId) (cs : Array Value), Chg S wx w7 -> Blk wx g t cs -> g0 <= g -> Blk w7 g t cs) := Lib.hid (fun wx w7 g t cs hc hk hg => (hc.block g hk.lt (fun e => by have := (hft _ e).2; omega)).trans hk)
         have hf' : ∀ j, S j -> base <= j /\ j < w.heap.size := fun j hj => by rw [hg0]; exact hft j hj
         have hbW' : Below w.heap.size w W3 := by rw [hg0]; exact hbW
         obtain ⟨hD, hDW⟩ := HD.out
         have hK6 : W6.heap[D]? = some (.deferred (some [])) := (hb6.block D hDW).trans HK.out
         have FIN : Hid (∀ wx w7 u, Below W6.heap.size W6 wx -> PutTold base S p i k d f h m lk (encO 4 [0] [] (newA nn x)) u wx w7 -> w7.heap[D]? = some (.deferred (some [])) /\ ApTold base S p i k d f h m root its x w (.returned (.int .i64 u)) (w7.putObj D (.deferred none))) := Lib.hid (fun wx w7 u hbx hp => by
           have h5 := hbW'.trans ((hb6.trans (hbx.mono hb6.size)).mono hbW'.size)
           have hKx : wx.heap[D]? = some (.deferred (some [])) := (hbx.block D (by omega)).trans hK6
           refine ⟨chg_keepD hf' (by omega) hKx hp.chg, ?_⟩
           unfold ApTold
           rw [hnn, hlk]
           rcases hp with ⟨e1, rfl, e3⟩ | ⟨e1, rfl, e3⟩
           · exact .inr (.inr (.inl ⟨hx0, hFull, e1, rfl, below_put1 (h5.trans (e3.mono h5.size)) (by omega) _⟩))
           · exact .inr (.inr (.inr ⟨hx0, hFull, e1, rfl, ixt_end hf' (by rw [hg0]; exact hbs) h5 e3 (by omega) (by have := hbx.size; omega) _⟩)))
         have k06 := z06.cell 0
         have q0 := zb6.cell 0
         have q1 := zb6.cell 1
         have q2 := zb6.cell 2
         have q3 := zb6.cell 3
         by_cases hn0 : nn = 0
         · have hits0 : its = [] := List.length_eq_zero_iff.1 (by omega)
           have hlr : lk = root := by rw [<- hlk, hits0]; rfl
           subst hlr
           subst hn0
           clear hO hr4 hFull l1 l2 l3 l4 H6 zw6 zi6 hlink hput hsome hnone hfull hlk
           gi_wp2_with (refine ⟨trivial, ?_⟩; gi_at_call 146; refine (callsIn_wide.2 (PU.out _ (Below.refl _ _))).mono ?_; rintro e w7 ⟨u, rfl, hp⟩)
           obtain ⟨c1, c2⟩ := FIN.out _ _ _ (Below.refl _ _) hp
           refine ⟨by simp, .inl ⟨_, _, rfl, run_takeDeferred c1, ?_⟩⟩
           refine ⟨_, results_tmp rfl _ _ _, ?_⟩
           exact c2
         · obtain ⟨t, ht⟩ : ∃ t, its.getLast? = some t := by
             cases hc : its.getLast? with
             | none => rw [List.getLast?_eq_none_iff] at hc; rw [hc] at hnn; exact absurd hnn.symm hn0
             | some t => exact ⟨t, rfl⟩
           obtain ⟨-, rfl⟩ := hsome t ht
           have hlr : t.j + 16 = lk := by rw [<- hlk]; unfold lkI; rw [ht]
           have AT := Lib.hid (fun wx => oat_any 0 wx (by omega) (by omega))
           have k16 := z16.cell 0
           have hw1 : IntKind.i64.wrap ((t.j : Int) + 16) = (lk : Int) := by rw [IntKind.wrap_i64]; omega
           have hn1 : ¬ (nn : Int) = 0 := by omega
           have HC : Hid (∀ wx w7, Below W6.heap.size W6 wx -> Chg S wx w7 -> w7.cell? ⟨g0 + 1, 0, none⟩ = some (.int .i64 t.j) /\ w7.cell? ⟨gb, 0, none⟩ = some (.int .i64 4) /\ w7.cell? ⟨gb, 1, none⟩ = some (.slice (some ⟨gw, 0, none⟩) 1 1) /\ w7.cell? ⟨gb, 2, none⟩ = some (.slice none 0 0) /\ w7.cell? ⟨gb, 3, none⟩ = some (.slice (some ⟨gi, 0, none⟩) K K)) := Lib.hid (fun wx w7 hbx hc => by
             have y1 := KC.out _ _ _ _ _ hc (z16.below hbx z16.lt) (by omega)
             have y2 := KC.out _ _ _ _ _ hc (zb6.below hbx zb6.lt) (by omega)
             exact ⟨y1.cell 0, y2.cell 0, y2.cell 1, y2.cell 2, y2.cell 3⟩)
           have HQ := Lib.hid (And.intro k16 (And.intro q0 (And.intro q1 (And.intro q2 q3))))
           clear hO hr4 hFull l1 l2 l3 l4 H6 zw6 zi6 hlink hput hsome hnone hfull hlk hlr ht
           gi_wp2
           refine wpIn_wide.2 ?_
           have hb : Below W6.heap.size W6 W6.drew := below_drewn (Below.refl _ _) 1
           go_region_held3 (fun w' => w'.cell? ⟨g0 + 1, 0, none⟩ = some (.int .i64 t.j) /\ w'.cell? ⟨gb, 0, none⟩ = some (.int .i64 4) /\ w'.cell? ⟨gb, 1, none⟩ = some (.slice (some ⟨gw, 0, none⟩) 1 1) /\ w'.cell? ⟨gb, 2, none⟩ = some (.slice none 0 0) /\ w'.cell? ⟨gb, 3, none⟩ = some (.slice (some ⟨gi, 0, none⟩) K K))
             (first | assumption | exact HQ.out)
             (first
               | (go_at_call 128; refine (AT.out _).mono ?_; rintro e wx ⟨rfl, rfl⟩)
               | (go_at_call 146; refine (PU.out _ hb).mono ?_; rintro e w7 ⟨u, rfl, hp⟩; have hk7 := HC.out _ _ hb hp.chg))
           gi_wp2
           obtain ⟨c1, c2⟩ := FIN.out _ _ _ hb hp
           refine ⟨by simp, .inl ⟨_, _, rfl, run_takeDeferred c1, ?_⟩⟩
           refine ⟨_, results_tmp rfl _ _ _, ?_⟩
           exact c2
     · have e0 : idx0 zs = ((placesA zs).length : Nat) := by unfold idx0; rw [if_neg hfull]
       have hlt := (placesA_at hfull).1
       obtain ⟨r, hr⟩ : ∃ r, (placesA zs).length = r := ⟨_, rfl⟩
       rw [e0, hr] at SI
       obtain ⟨t, ht⟩ : ∃ t, its.getLast? = some t := by
         cases hc : its.getLast? with
         | none => rw [hnone hc] at hlt; simp at hlt
         | some t => exact ⟨t, rfl⟩
       obtain ⟨rfl, rfl⟩ := hsome t ht
       obtain ⟨p1, p2, p3, p4⟩ := hput t ht hlt
       have HT := Lib.hid (And.intro ht (And.intro hlt hr))
       rw [hr] at p1 p4
       have IT : Hid (∀ wx, Calls Tryz.prog 144 #[.int .i64 4, .int .i64 r] wx fun e w' => e = .returned (.int .i64 (24 + 8 * r)) /\ wx = w') := Lib.hid (fun wx => oitem_any 4 r wx (by omega) (by omega))
       have SETC := Lib.hid (fun wx (hbx : Below W3.heap.size W3 wx) => iset_yes (t.j + 24 + 8 * r) x wx (H3.below hbx) hb p1 (by omega) (by omega) hl hN hwl p4)
       have hw1 : IntKind.i64.wrap ((t.j : Int) + (24 + 8 * (r : Int))) = ((t.j + 24 + 8 * r : Nat) : Int) := by rw [IntKind.wrap_i64]; omega
       have hr0 : (0 : Int) <= (r : Int) := by omega
       have KC : Hid (∀ wx w6, Chg S wx w6 -> W3.heap.size <= wx.heap.size -> wx.cell? ⟨g0 + 1, 0, none⟩ = some (.int .i64 t.j) -> w6.cell? ⟨g0 + 1, 0, none⟩ = some (.int .i64 t.j)) := Lib.hid (fun wx w6 hc hs hk => by
         have := z1.lt
         exact (World.cell?_of_block (a := ⟨g0 + 1, 0, none⟩) (hc.block (g0 + 1) (by omega) (fun e => by have := (hft _ e).2; omega))).trans hk)
       clear z0 z1 z2 hlo hxs hxl hK hD hDW hrd e0 ht hlt hfull hr hsome hnone hput hlink
       gi_wp2_with (refine ⟨trivial, ?_⟩; gi_at_call 143; refine (callsIn_wide.2 SI.out).mono ?_; rintro e w5 ⟨rfl, rfl⟩)
       refine wpIn_wide.2 ?_
       have hb : Below W3.heap.size W3 W3.drew := below_drewn (Below.refl _ _) 1
       go_region_held3 (fun w' => w'.cell? ⟨g0 + 1, 0, none⟩ = some (.int .i64 t.j))
         (first | assumption)
         (first
           | (go_at_call 144; refine (IT.out _).mono ?_; rintro e wx ⟨rfl, rfl⟩)
           | (go_at_call 141; refine (SETC.out _ hb).mono ?_; rintro e w6 ⟨rfl, h6⟩; have k1 := KC.out _ _ h6.1 hb.size (by assumption)))
       gi_wp2
       obtain ⟨hD, hDW⟩ := HD.out
       have hf' : ∀ j, S j -> base <= j /\ j < w.heap.size := fun j hj => by rw [hg0]; exact hft j hj
       have hbW' : Below w.heap.size w W3 := by rw [hg0]; exact hbW
       have h5 := hbW'.trans (hb.mono hbW'.size)
       have hD5 : D < (W3.drew).heap.size := hDW
       have hDw : w.heap.size <= D := by omega
       have hK6 := chg_keepD hf' hDw (W5 := W3.drew) HK.out h6.1
       refine ⟨by simp, .inl ⟨_, _, rfl, run_takeDeferred hK6, ?_⟩⟩
       obtain ⟨ht, hlt, hr⟩ := HT.out
       refine ⟨_, results_tmp rfl _ _ _, .inr (.inl ⟨hx0, t, ht, hlt, rfl, ?_⟩)⟩
       rw [hr]
       exact ixt_end hf' (by rw [hg0]; exact hbs) h5 h6 hDw hD5 _
   case stop =>
     rintro D cc pre W3 hD hp hf hK
     exact hf.elim
end
def Same2 (its : List It) (c : List ARow) : Prop := its.map (fun t => (t.j, t.is)) = c.map (fun r => (r.at_, r.its))
theorem Same2.is {its : List It} {c : List ARow} (h : Same2 its c) : its.map (·.is) = c.map (·.its) := by
 have := congrArg (List.map Prod.snd) h
 rw [List.map_map, List.map_map] at this
 exact this
theorem Same2.len {its : List It} {c : List ARow} (h : Same2 its c) : its.length = c.length := by
 have := congrArg List.length h
 simpa using this
theorem Same2.last_none {its : List It} {c : List ARow} (h : Same2 its c) (hn : its.getLast? = none) : c = [] := by
 rw [List.getLast?_eq_none_iff] at hn
 have := h.len
 rw [hn] at this
 exact List.length_eq_zero_iff.1 this.symm
theorem Same2.last_some {its : List It} {c : List ARow} {t : It} (h : Same2 its c) (ht : its.getLast? = some t) : ∃ c' q, c = c' ++ [q] /\ t.j = q.at_ /\ t.is = q.its := by
 rcases List.eq_nil_or_concat c with rfl | ⟨c', q, rfl⟩
 · have := h.len
   rw [List.length_nil] at this
   rw [List.length_eq_zero_iff.1 this] at ht; simp at ht
 · refine ⟨c', q, by simp, ?_⟩
   have h1 := congrArg List.getLast? h
   rw [List.getLast?_map, List.getLast?_map, ht] at h1
   simp at h1
   exact h1
theorem LI.last_places {c : List ARow} {q : ARow} {L : List Int} (h : LI (c ++ [q]) L) : (placesA q.its).length = L.length - roomC c.length /\ q.its.length = sizeC c.length /\ roomC c.length < L.length := by
 obtain ⟨h1, h2, h3, h4⟩ := h.last_at
 refine ⟨?_, h2, h1⟩
 rw [h4, placesA_all (fun x hx => h.nz x (List.mem_of_mem_drop hx)), List.length_drop]
theorem LI.full {c : List ARow} {its : List It} {L : List Int} (h : LI c L) (hs : Same2 its c) (hf : FullI its) : L.length = roomC c.length := by
 rcases List.eq_nil_or_concat c with rfl | ⟨c', q, rfl⟩
 · have := h.most
   simp [roomC] at this
   simp [this, roomC]
 · rw [List.concat_eq_append] at *
   obtain ⟨p1, p2, p3⟩ := h.last_places
   have hl : ∃ t, its.getLast? = some t := by
     cases hc : its.getLast? with
     | none => have := hs.last_none hc; simp at this
     | some t => exact ⟨t, rfl⟩
   obtain ⟨t, ht⟩ := hl
   obtain ⟨c2, q2, e, -, e2⟩ := hs.last_some ht
   have e3 : q2 = q := by
     have := congrArg List.getLast? e
     simpa using this.symm
   subst e3
   have := hf t ht
   rw [e2, p1, p2] at this
   have e5 : roomC (c' ++ [q2]).length = roomC c'.length + sizeC c'.length := by rw [List.length_append]; rfl
   omega
structure CS (w : World) (base : Nat) (S : Nat -> Prop) (p : Nat) (lim : Nat) (Ls : Nat -> List Int) (As : Nat -> Nat) (tl cnt : Nat) : Prop where
 ex : ∃ k m bv sv l, IX w base S p 0 k 2 2 0 m bv sv /\ CB 288 roots2 2 m.b l /\ AreB m.b /\ m.lim = lim /\ m.b.length = tl /\ m.words.length <= cnt /\ m.was.length <= 1099511627776 /\ ∀ t, t < 2 -> LI (chainA t l) (Ls t) /\ (chainA t l).length = As t
 small : lim <= 1048576 /\ cnt <= 1000000
 few : ∀ t, t < 2 -> (Ls t).length <= cnt /\ As t <= cnt
section
variable {w w' : World} {base p : Nat} {S : Nat -> Prop} {lim : Nat} {Ls : Nat -> List Int} {As : Nat -> Nat} {tl cnt : Nat}
end
theorem roomC_ge : ∀ n, n <= roomC n
 | 0 => Nat.le_refl _
 | n + 1 => by have h1 := roomC_ge n; have h2 := sizeC_bd n; show n + 1 <= roomC n + sizeC n; omega
theorem LI.few {c : List ARow} {L : List Int} (h : LI c L) : c.length <= L.length := by
 by_cases h0 : 0 < c.length
 · have h1 := h.last h0
   have h2 := roomC_ge (c.length - 1)
   omega
 · omega
theorem filter_k3 {f : GO -> GO} (hk : ∀ r, (f r).k = r.k) : ∀ {L : List GO}, (∀ r ∈ L, r.k = 3 -> f r = r) -> (L.map f).filter (fun r => r.k == 3) = L.filter (fun r => r.k == 3)
 | [], _ => rfl
 | r :: L, h => by
   have ih := filter_k3 hk (L := L) fun q hq => h q (by simp [hq])
   by_cases e : r.k = 3
   · rw [List.map_cons, List.filter_cons_of_pos (by rw [hk, e]; decide), List.filter_cons_of_pos (by rw [e]; decide), ih, h r (by simp) e]
   · rw [List.map_cons, List.filter_cons_of_neg (by rw [hk]; simpa using e), List.filter_cons_of_neg (by simpa using e), ih]
theorem lkI_map (root : Nat) (L : List GO) : lkI root (L.map GO.it) = lkG root 0 L := by
 unfold lkI lkG
 rw [List.getLast?_map]
 cases L.getLast? <;> rfl
theorem same2_G (L : List GO) : Same2 (L.map GO.it) (L.map GO.arow) := by
 unfold Same2
 rw [List.map_map, List.map_map]
 rfl
section
variable {fld : List Int -> List Int} {base p : Nat} {S : Nat -> Prop} {i k d f h : Int} {m : IM} {bv sv : Value} {ex : Nat} {l : List GO} {w : World}
theorem DB.listAt (D : DB fld k d f 0 ex m.b l) (H : IX w base S p i k d f h m bv sv) (hb : AreB m.b) {rt : Nat} (hp : ArRoot l rt) {Ld : List Int} (hLI : LI ((arrsG l rt).map GO.arow) Ld) (hmost : Ld.length <= 1000000000) :
 ListAt w base p S (rt : Int) ((arrsG l rt).map GO.it) Ld := by
 have h0 := newK_low d f D.hD D.hF
 have hc := D.arrs rt hp
 have hfit := (D.gb.root_fit (D.ar_root hp)).1
 have hm := D.gb.most
 have hfew := hLI.few
 rw [List.length_map] at hfew
 refine ⟨⟨i, k, d, f, h, m, bv, sv, H, hb, D.gb.most, D.hD, D.hF, hc.isU D.gb, hc.follow (newK_val D.hD D.hF).symm h0.2 D.gb (fun r _ hp => (pArr_iff.1 hp).1.1)⟩, by omega, by omega, fun t ht => ?_, ?_, hmost, by rw [List.length_map]; omega⟩
 · obtain ⟨r, hr, rfl⟩ := List.mem_map.1 ht
   have hr2 := arrsG_mem hr
   have := ((D.gb.fine r hr2.1).1.arr hr2.2.1).2.2.1
   show r.its.length <= _
   omega
 · rw [<- hLI.places, (same2_G _).is]; rfl
structure Appended (fld : List Int -> List Int) (k d f : Int) (ex : Nat) (m m' : IM) (l l' : List GO) (rt : Nat) (Ld : List Int) (x : Int) : Prop where
 db : DB fld k d f 0 ex m'.b l'
 by_ : AreB m'.b
 lim : m'.lim = m.lim
 was : m'.was = m.was
 words : m'.words.length <= m.words.length + 1
 most : m'.b.length <= m.b.length + 8216
 least : m.b.length <= m'.b.length
 here : LI ((arrsG l' rt).map GO.arow) (Ld ++ [x])
 far : ∀ p', p' ≠ rt -> (arrsG l' p').map GO.arow = (arrsG l p').map GO.arow
 dat : ∃ g : GO -> GO, datG l' = (datG l).map g /\ ∀ o ∈ datG l, (g o).raw = o.raw /\ (g o).at_ = o.at_ /\ (g o).ws.getD 3 0 = o.ws.getD 3 0
 ent : l'.filter (fun r => r.k == 3) = l.filter (fun r => r.k == 3)
 good : m.Good -> m'.Good
 later : (m.was.length : Int) <= x -> x < m.b.length -> GoodL (newK d f) m l -> Far (newK d f) m' l'
theorem Appended.goodL {fld : List Int -> List Int} {k d f : Int} {ex : Nat} {m m' : IM} {l l' : List GO} {rt : Nat} {Ld : List Int} {x : Int} (A : Appended fld k d f ex m m' l l' rt Ld x) (h1 : (m.was.length : Int) <= x) (h2 : x < m.b.length) (hg : GoodL (newK d f) m l) : GoodL (newK d f) m' l' := ⟨A.good hg.toGood, A.later h1 h2 hg⟩
theorem gappend_any (x : Int) (hx : IsU x) (w : World) (D : DB fld k d f 0 ex m.b l) (H : IX w base S p i k d f h m bv sv) (hb : AreB m.b) (hlim : m.lim <= 1048576) (hN : m.words.length <= 1000000000) (hwl : m.was.length <= 1099511627776)
 {rt : Nat} (hp : ArRoot l rt) {Ld : List Int} (hLI : LI ((arrsG l rt).map GO.arow) Ld) (hmost : Ld.length <= 1000000000) :
 Calls Tryz.prog 94 #[.pointer (some ⟨p, 0, none⟩), .int .i64 (rt : Nat), .int .u64 x] w fun e w' =>
 (x = 0 /\ e = .returned (.int .i64 1) /\ Below w.heap.size w w') ∨ (¬ x = 0 /\ m.lim < m.b.length + 8216 /\ e = .returned (.int .i64 21) /\ Below w.heap.size w w') ∨
 (¬ x = 0 /\ e = .returned (.int .i64 0) /\ ∃ m' l', IXT base S p i k d f h m' w w' /\ Appended fld k d f ex m m' l l' rt Ld x) := by
 have hs := same2_G (arrsG l rt)
 have HL := D.listAt H hb hp hLI hmost
 have h0 := newK_low d f D.hD D.hF
 have hlk := (D.arrs rt hp).link_at D.gb (D.ar_root hp) D.ar_w
 have hfit : lkG rt 0 (arrsG l rt) + 8 <= m.b.length /\ lkG rt 0 (arrsG l rt) % 8 = 0 := D.gb.root_fit hlk.1
 have hlow := D.gb.root_low (by omega) hlk.1
 have hlen : ((arrsG l rt).map GO.arow).length = (arrsG l rt).length := List.length_map ..
 have hput : ∀ t, ((arrsG l rt).map GO.it).getLast? = some t -> (placesA t.is).length < t.is.length -> ∃ c' q, arrsG l rt = c' ++ [q] /\ t = q.it /\ (placesA t.is).length = Ld.length - roomC c'.length := fun t ht hfr => by
   rcases List.eq_nil_or_concat (arrsG l rt) with e | ⟨c', q, e⟩
   · rw [e] at ht; simp at ht
   · rw [List.concat_eq_append] at e
     rw [e, List.map_append] at ht
     have e2 : q.it = t := by simpa using ht
     subst e2
     have h9 := hLI
     rw [e, List.map_append] at h9
     have h10 := (LI.last_places (c := c'.map GO.arow) (q := q.arow) h9).1
     rw [List.length_map] at h10
     exact ⟨c', q, e, rfl, h10⟩
 refine (cappend_any rt x hx w HL H hb D.hD D.hF D.gb.most hlim hN hwl (fun t ht hfr => ?_) (fun _ => ?_)).mono ?_
 · obtain ⟨c', q, e, rfl, hn⟩ := hput t ht hfr
   have hq := arrsG_mem (show q ∈ arrsG l rt by rw [e]; simp)
   obtain ⟨⟨a1, a2, a3⟩, -⟩ := aputG D e hLI hn hfr (x := 1) (by decide) ⟨by decide, by decide⟩
   have := D.gb.fine q hq.1
   have := this.1.al
   exact ⟨a2, by show q.at_ % 8 = 0; omega, by show 192 <= q.at_; omega, a1⟩
 · rw [lkI_map]
   exact ⟨hfit.1, hfit.2, hlow, hlk.2⟩
 · intro e w' hT
   have hnl : (encO 4 [0] [] (newA ((arrsG l rt).map GO.it).length x)).length <= 8216 /\ 0 < (encO 4 [0] [] (newA ((arrsG l rt).map GO.it).length x)).length := by
     generalize ((arrsG l rt).map GO.it).length = N
     have hz := sizeC_bd N
     have hnA : (newA N x).length = sizeC N := by
       unfold newA
       rw [List.length_cons, List.length_replicate]; omega
     have hr : rightN 4 ([0] : List Int).length ([] : List Int).length (newA N x).length = true := by
       rw [hnA]
       unfold rightN
       have e1 : hasI 4 = true := rfl
       have e2 : mostN 4 = 1024 := rfl
       have e3 : kwN 4 = 1 := rfl
       rw [e1, e2, e3]
       simp only [List.length_cons, List.length_nil]
       simp; omega
     rw [encO_length hr, hnA]
     unfold bareN
     have e4 : frontN 4 = 24 := rfl
     rw [e4, List.length_nil, Nat.add_zero, padn_alen]
     omega
   rcases hT with ⟨h1, h2, h3⟩ | ⟨h1, t, h2, h3, h4, h5⟩ | ⟨h1, h2, h3, h4, h5⟩ | ⟨h1, h2, h3, h4, h5⟩
   · exact .inl ⟨h1, h2, h3⟩
   · obtain ⟨c', q, e2, rfl, hn⟩ := hput t h2 h3
     have hq := arrsG_mem (show q ∈ arrsG l rt by rw [e2]; simp)
     obtain ⟨⟨a1, a2, a3⟩, a4, a5, a6⟩ := aputG D e2 hLI hn h3 h1 hx
     have hsl : (splice m.b (q.at_ + 24 + 8 * (placesA q.its).length) (bts x 8)).length = m.b.length := splice_len _ _ _ (by rw [bts8_length]; exact a2)
     have hid : ∀ r ∈ l, r.k ≠ 4 -> setI q.at_ (placesA q.its).length x r = r := fun r hr hk => setI_ne fun e => hk (by rw [D.gb.one hr hq.1 e]; exact hq.2.1)
     have hlo2 := (D.gb.fine q hq.1).2.1
     have hlo3 : 192 <= q.at_ + 24 + 8 * (placesA q.its).length := by omega
     refine .inr (.inr ⟨h1, h4, _, _, h5, ⟨a4, splice_bytes hb (bts_bytes _ _) _, rfl, rfl, ?_, ?_, ?_, a5, a6, ⟨setI q.at_ (placesA q.its).length x, datG_map (fun r _ => setI_k _ _ _ _), fun o ho => ⟨setI_raw _ _ _ _, setI_at _ _ _ _, by rw [setI_ws]⟩⟩, ?_, fun hg => hg.put8 a2 a3 hlo3 a1, fun h7 h8 hg => D.far_put hq.1 hq.2.1 h3 hx hg h7 h8⟩⟩)
     · show (if _ then _ else _ : List Nat).length <= _
       split
       · simp
       · omega
     · show (splice m.b (q.at_ + 24 + 8 * (placesA q.its).length) (bts x 8)).length <= _; omega
     · show _ <= (splice m.b (q.at_ + 24 + 8 * (placesA q.its).length) (bts x 8)).length; omega
     · exact filter_k3 (fun r => setI_k _ _ _ _) (fun r hr hk => hid r hr (by omega))
   · exact .inr (.inl ⟨h1, by omega, h4, h5⟩)
   · have hfull := hLI.full hs h2
     rw [hlen] at hfull
     obtain ⟨n, hn⟩ : ∃ n : GO, n = ⟨rt, m.b.length, 4, [0], [], x :: List.replicate (sizeC (arrsG l rt).length - 1) 0⟩ := ⟨_, rfl⟩
     have hnb : n.bs = encO 4 [0] [] (newA ((arrsG l rt).map GO.it).length x) := by rw [hn, List.length_map]; rfl
     have hnlen : n.len = (encO 4 [0] [] (newA ((arrsG l rt).map GO.it).length x)).length := by unfold GO.len; rw [hnb]
     have hnk : n.k = 4 := by rw [hn]
     obtain ⟨a1, a2, a3, a4, a5, a6⟩ := anewG D hp hLI hfull h1 hx hn (by rw [hnlen]; have := hlim; omega) rfl
     have hsl : (splice (m.b ++ n.bs) (lkG rt 0 (arrsG l rt)) (bts (m.b.length : Nat) 8)).length = m.b.length + n.len := by
       rw [splice_len _ _ _ (by rw [bts8_length, List.length_append]; omega), List.length_append]; rfl
     have hnB : AreB n.bs := by rw [hnb]; exact encO_bytes (by intro z hz; cases hz)
     rw [lkI_map, <- hnb] at h5
     refine .inr (.inr ⟨h1, h4, _, _, h5, ⟨a2, splice_bytes (hb.append hnB) (bts_bytes _ _) _, rfl, rfl, ?_, ?_, ?_, a3, a4, ⟨stP (lkG rt 0 (arrsG l rt)) (m.b.length : Nat), ?_, fun o ho => ⟨stP_raw _ _ _, stP_at _ _ _, ?_⟩⟩, ?_, fun hg => (hg.add hnB).put8 (by show _ <= (m.b ++ n.bs).length; rw [List.length_append]; omega) hfit.2 hlow ((gnum_add hfit.1).trans hlk.2), fun h7 h8 hg => D.far_array hp hx hn (by rw [hnlen]; have := hlim; omega) a2 hg h8⟩⟩)
     · show (if _ then _ else _ : List Nat).length <= _
       split
       · simp [IM.add]
       · show m.words.length <= _; omega
     · show (splice (m.b ++ n.bs) (lkG rt 0 (arrsG l rt)) (bts (m.b.length : Nat) 8)).length <= _; omega
     · show _ <= (splice (m.b ++ n.bs) (lkG rt 0 (arrsG l rt)) (bts (m.b.length : Nat) 8)).length; omega
     · rw [datG_map (fun r _ => stP_k _ _ _), datG_snoc, if_neg (by omega)]
     · obtain ⟨g1, g2⟩ := datG_mem.1 ho
       exact a5 o g1 3 (by have := (D.gb.fine o g1).1.kk.2.1 g2; omega) (fun _ => by decide) (by omega)
     · rw [filter_k3 (fun r => stP_k _ _ _) (fun r hr hk => ?_), List.filter_append, List.filter_cons_of_neg (by rw [hnk]; decide), List.filter_nil, List.append_nil]
       rcases List.mem_append.1 hr with h9 | h9
       · exact a6 r h9 (by omega) (by omega)
       · rw [List.mem_singleton.1 h9] at hk; omega
theorem Rows.app {m' : IM} {l' : List GO} {R R' : List DR} {rt : Nat} {Ld : List Int} {x : Int} (h : Rows l R) (hLI : LI ((arrsG l rt).map GO.arow) Ld) (A : Appended fld k d f ex m m' l l' rt Ld x) (hlen : R'.length = R.length)
 (hrow : ∀ (j : Nat) (o : GO) (r r' : DR), (datG l)[j]? = some o -> R[j]? = some r -> R'[j]? = some r' -> r'.item = r.item /\ r'.at_ = r.at_ /\ ((o.at_ + 48 ≠ rt /\ r'.L = r.L) ∨ (o.at_ + 48 = rt /\ r.L ≠ [] /\ r'.L = r.L ++ [x]))) : Rows l' R' := by
 obtain ⟨g, hg, hgo⟩ := A.dat
 refine ⟨by rw [hg, List.length_map, h.len, hlen], fun j o' r' ho' hr' => ?_⟩
 rw [hg, List.getElem?_map] at ho'
 have hj := (List.getElem?_eq_some_iff.1 hr').1
 obtain ⟨r, hr⟩ : ∃ r, R[j]? = some r := ⟨_, List.getElem?_eq_getElem (by omega)⟩
 obtain ⟨o, ho, h1, h2, h3, h4, Le, h5, h6⟩ := h.obj hr
 rw [ho] at ho'
 have e : g o = o' := by simpa using ho'
 subst e
 obtain ⟨b1, b2, b3⟩ := hgo o (datG_mem.2 ⟨h1, h2⟩)
 obtain ⟨c1, c2, c3⟩ := hrow j o r r' ho hr hr'
 refine ⟨by rw [b1, h3, c1], by rw [b2, h4, c2], ?_⟩
 rcases c3 with ⟨hne, e⟩ | ⟨he, hnil, e⟩
 · exact ⟨Le, by rw [b2, A.far _ hne]; exact h5, by rw [b3, e]; exact h6⟩
 · subst he
   have e5 : Le = Ld := by rw [<- h5.places, <- hLI.places]
   subst e5
   refine ⟨Le ++ [x], by rw [b2]; exact A.here, .inr ?_⟩
   rw [b3, e]
   rcases h6 with ⟨-, -, e9⟩ | ⟨e8, e9⟩
   · exact absurd e9 hnil
   · exact ⟨e8, by rw [e9]; rfl⟩
end
end Go.Proofs.YtgcmbgniaffdlaaGreat
