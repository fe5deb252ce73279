/-
  LAYER 17: Entries: its contract.
-/
import Derived.Test.YtjpfbkhjhainpaaGreatScRItems
import Derived.Test.YtjpfbkhjhainpaaGreatScRef
set_option linter.unusedVariables false
set_option maxRecDepth 100000
set_option linter.unusedSimpArgs false
namespace Go.Proofs.YtjpfbkhjhainpaaGreat
open Go.RowKit Go.Shelf
attribute [local go_sem] Oper.semAt_some

/-- An entry, as it is told. -/
structure EnR (zs : List Int) (r : SR) (rc : RC) : Prop where
  e0 : rc.seq = (r.wds zs).getD 0 0
  e1 : rc.real = (r.wds zs).getD 1 0
  e2 : rc.mono = (r.wds zs).getD 2 0
  e3 : rc.boot = (r.wds zs).getD 3 0
  e4 : rc.its = itemsT zs (r.its zs)
/-- The entries, as they are told. -/
def EnsR (zs : List Int) (E : List SR) (l : List RC) : Prop := l.length = E.length ∧ ∀ (i : Nat) (rc : RC), l[i]? = some rc → ∃ r, E[i]? = some r ∧ EnR zs r rc
theorem EnsR.snoc {zs : List Int} {E : List SR} {l : List RC} {r : SR} {rc : RC} (h : EnsR zs E l) (hr : EnR zs r rc) : EnsR zs (E ++ [r]) (l ++ [rc]) := by
  refine ⟨by rw [List.length_append, List.length_append, h.1]; rfl, fun i x hx => ?_⟩
  rcases Nat.lt_or_ge i l.length with hi | hi
  · rw [List.getElem?_append_left hi] at hx
    obtain ⟨r', h1, h2⟩ := h.2 i x hx
    exact ⟨r', by rw [List.getElem?_append_left (by have := h.1; omega)]; exact h1, h2⟩
  · rw [List.getElem?_append_right hi] at hx
    have h0 : i - l.length = 0 := by
      have := (List.getElem?_eq_some_iff.1 hx).1
      simp at this; omega
    rw [h0] at hx
    have e : rc = x := by simpa using hx
    subst e
    refine ⟨r, ?_, hr⟩
    rw [List.getElem?_append_right (by have := h.1; omega), show i - E.length = 0 by have := h.1; omega]
    rfl
/-- Lists of entries that are told are alike. -/
theorem EnsR.same {zs : List Int} {E : List SR} {l l' : List RC} (h : EnsR zs E l) (h' : EnsR zs E l') : ∀ (i : Nat) (a b : RC), l[i]? = some a → l'[i]? = some b → a.same b = true := fun i a b ha hb => by
  obtain ⟨r, h1, g⟩ := h.2 i a ha
  obtain ⟨r', h2, g'⟩ := h'.2 i b hb
  rw [h1] at h2; injection h2 with h2; subst h2
  exact same_refl (g.e0.trans g'.e0.symm) (g.e1.trans g'.e1.symm) (g.e2.trans g'.e2.symm) (g.e3.trans g'.e3.symm) (g.e4.trans g'.e4.symm)

/-- A record's items lie outside of a footprint. -/
def RcAp (W : World) (fq : Nat → Prop) (rc : RC) : Prop := Txt W W.heap.size rc.A rc.n rc.c rc.its ∧ (0 < rc.n → ∀ ad, rc.A = some ad → ¬ fq ad.block)
theorem RcAp.grow {W W' : World} {fq fq' : Nat → Prop} {rc : RC} (h : RcAp W fq rc) (hG : GrowF fq W fq' W') : RcAp W' fq' rc := by
  refine ⟨⟨(h.1.reads.chg hG.1 (Nat.le_refl _) h.2).more hG.1.size, h.1.le, h.1.cap, h.1.sz⟩, fun hn ad ha e => ?_⟩
  obtain ⟨ad2, ea, hb, -⟩ := h.1.reads.2 hn
  rw [ha] at ea; injection ea with ea; subst ea
  exact (hG.2 _ e).1.elim (h.2 hn ad ha) (fun e => by omega)
theorem RcAp.grown {W W' : World} {fq : Nat → Prop} {rc : RC} {row : Option Nat} (h : RcAp W fq rc) (hg : W.grownBy W' row) (hr : ∀ r, row = some r → ∃ o : Obj, W.heap[r]? = some o ∧ o.isCells = false) : RcAp W' fq rc :=
  ⟨⟨(h.1.reads.grownF hg hr).more hg.size, h.1.le, h.1.cap, h.1.sz⟩, h.2⟩
theorem Blk.push {w4 w1 : World} {n₀ q B : Nat} {t e : TypeId} {size : Nat} {v : Value} {k : Nat} {xs : List Value} {cs : Array Value} {tmp : Obj} (h : Blk w4 q t cs) (hrow : w4.ownsRow n₀ e size v k xs) (hte : t ≠ e) (hg : (w4.alloc tmp).grownBy w1 v.ownBlock) (hB : q ≠ B) (u : Value) : Blk (w1.setCell ⟨B, 0, none⟩ u) q t cs :=
  ((h.alloc tmp).grown hg (own_blk_ne hrow h hte.symm).symm).far hB u
theorem So.lies_full {zs : List Int} {T : Nat} {x : So} {W : World} (h : x.lies (zs.take T) W) (hT : x.r.j + x.r.s ≤ T) : x.lies zs W := by
  unfold So.lies at h ⊢
  rw [wds_take hT, raw_take hT, its_take hT] at h
  exact h

/-- The footprint of what Entries turns. -/
def fpE (g : Nat) (v : Value) : Nat → Prop := fun k => (fpR (g + 4) v k ∨ k = g + 2) ∨ k = g + 3
/-- What Entries holds between two rounds. -/
structure EnJ (w : World) (zs : List Int) (A : Option Addr) (n c : Nat) (pl : Int) (v : Value) (l : List RC) (pre : List So) (W : World) : Prop where
  box : Boxed W (w.heap.size + 4) 22 v
  own : W.ownsRow w.heap.size 26 5 v l.length (cellsR5 l)
  b0 : Blk W w.heap.size 41 #[.slice A n c]
  b1 : Blk W (w.heap.size + 1) 3 #[.int .i64 pl]
  b2 : Blk W (w.heap.size + 2) 22 #[.slice none 0 0]
  b3 : Blk W (w.heap.size + 3) 4 #[.bool false]
  ens : EnsR zs (entsS (pre.map (·.r))) l
  each : ∀ rc ∈ l, RcAp W (fpE w.heap.size v) rc
  ok : ∀ r ∈ entsS (pre.map (·.r)), OkE zs pl r
  below : Below w.heap.size w W
def EnI (w : World) (zs : List Int) (A : Option Addr) (n c : Nat) (pl : Int) (fq : Nat → Prop) (pre : List So) (W : World) : Prop := ∃ v l, fq = fpE w.heap.size v ∧ EnJ w zs A n c pl v l pre W
theorem enI_own (w : World) (zs : List Int) (A : Option Addr) (n c : Nat) (pl : Int) (C : Nat) (hC : w.heap.size + 5 ≤ C) (fq : Nat → Prop) : OwnFrom C (EnI w zs A n c pl fq) := by
  rintro pre W W' row ⟨v, l, e1, H⟩ hg hrow
  obtain ⟨v2, h2, h3, -⟩ := own_row w.heap.size (w.heap.size + 4) C 22 26 5 (fun s : List RC => s.length) (fun s => cellsR5 s) l W W' row ⟨v, H.box, H.own, trivial⟩ hg hrow
  have e2 := box_same H.box hg (fun r e => (hrow r e).2) h2
  subst e2
  have kb : ∀ q t cs, Blk W q t cs → Blk W' q t cs := fun q t cs h => own_blkAny (B := C) q t (fun _ : Unit => cs) () W W' row h hg hrow
  exact ⟨v2, l, e1, h2, h3, kb _ _ _ H.b0, kb _ _ _ H.b1, kb _ _ _ H.b2, kb _ _ _ H.b3, H.ens, fun rc hrc => (H.each rc hrc).grown hg (fun r e => (hrow r e).2), H.ok, H.below.grown hg (by have := H.below.size; omega) (fun k e => by have := (hrow k e).1; omega)⟩
/-- One of them can't be read. -/
def EnX (w : World) (zs : List Int) (pl : Int) (L : List SR) (cc : Code) (pre : List So) (W : World) : Prop := (cc = .ret ∧ ¬ ∀ r ∈ entsS L, OkE zs pl r) ∧ Blk W (w.heap.size + 2) 22 #[.slice none 0 0] ∧ Blk W (w.heap.size + 3) 4 #[.bool false] ∧ Below w.heap.size w W
theorem enX_own (w : World) (zs : List Int) (pl : Int) (L : List SR) (C : Nat) (hC : w.heap.size ≤ C) (cc : Code) : OwnFrom C (EnX w zs pl L cc) := by
  rintro pre W W' row ⟨h1, h2, h3, h4⟩ hg hrow
  have kb : ∀ q t cs, Blk W q t cs → Blk W' q t cs := fun q t cs h => own_blkAny (B := C) q t (fun _ : Unit => cs) () W W' row h hg hrow
  exact ⟨h1, kb _ _ _ h2, kb _ _ _ h3, h4.grown hg (by have := h4.size; omega) (fun k e => by have := (hrow k e).1; omega)⟩
theorem load_recs {w : World} {g : Nat} {A : Option Addr} {n c : Nat} (h : w.cell? ⟨g, 0, none⟩ = some (.slice A n c)) : (loadVar 22 ⟨g, 0, none⟩).run Tryz.prog w = .ok (.slice A n c) w := by simp [go_sem, h]

/-- What Entries tells. -/
def EntsP (zs : List Int) (lo : Int) (L : List SR) (w : World) (e : Ending) (w' : World) : Prop :=
  Below w.heap.size w w' ∧ (((∀ r ∈ entsS L, OkE zs lo r) ∧ ∃ A c l, e = .returned (.tuple #[.slice A l.length c, .bool true]) ∧ w'.ownsRow w.heap.size 26 5 (.slice A l.length c) l.length (cellsR5 l) ∧ (∀ rc ∈ l, Txt w' w'.heap.size rc.A rc.n rc.c rc.its) ∧ EnsR zs (entsS L) l) ∨
    ((¬ ∀ r ∈ entsS L, OkE zs lo r) ∧ e = .returned (.tuple #[.slice none 0 0, .bool false])))
theorem sr5c {m : Nat} (h : m ≤ 1099511627776) : m + 1 ≤ maxLen := by unfold maxLen; omega
theorem sr5d {m : Nat} (h : m ≤ 1099511627776) : (m + 1) * 56 ≤ 140737488355328 := by omega
theorem entsS_le (l : List SR) : (entsS l).length ≤ l.length := List.length_filter_le _ _

set_option maxHeartbeats 4000000 in
theorem scEnts_any {B : Nat} (A : Option Addr) (n c : Nat) (zs : List Int) (pl to : Int) (L : List SR) (w : World) (hr : Reads w B 1 A n (cellsOf .u8 zs)) (hB : B ≤ w.heap.size) (hz : AreB zs) (hl : n ≤ c) (hcap : c ≤ 9223372036854775807) (hm : n ≤ 1099511627776)
    (h0 : -9223372036854775808 ≤ pl) (h1 : pl ≤ 9223372036854775807) (t0 : -9223372036854775808 ≤ to) (t1 : to ≤ 9223372036854775807) (hL : scanAt (zs.take (cutN n to)) pl L) :
    Calls Tryz.prog 10 #[.slice A n c, .int .i64 pl, .int .i64 to] w (EntsP zs pl L w) := by
  have hlz : zs.length = n := hr.len
  have hn : (zs.take (cutN n to)).length = cutN n to := by rw [List.length_take, hlz]; unfold cutN; omega
  obtain ⟨T, hT⟩ : ∃ T, cutN n to = T := ⟨_, rfl⟩
  have hTn : T ≤ n := by rw [← hT]; exact cutN_le _ _
  rw [hT] at hL hn
  have AH := Lib.hid (fun wx => ahead_any A n c to wx hl hcap t0 t1)
  rw [hT] at AH
  refine (callsIn_wide (n := 9)).1 ?_
  refine callsIn_of_wp_marks Tryz.func10 rfl trivial ?_ rfl
  simp only [Tryz.ntmps10, List.size_toArray, List.length_cons, List.length_nil, Nat.reduceAdd, Nat.reduceSub, Array.replicate_succ, Array.replicate_zero, List.push_toArray, List.append_toArray, List.nil_append, List.cons_append]
  gi_wp2
  obtain ⟨w0, hw0⟩ : ∃ w0, ((((w.alloc (.cells #[.slice A n c] 41)).alloc (.cells #[.int .i64 pl] 3)).alloc (.cells #[.slice none 0 0] 22)).alloc (.cells #[.bool false] 4)).alloc (.cells #[.slice none 0 0] 22) = w0 := ⟨_, rfl⟩
  have hs0 : w0.heap.size = w.heap.size + 5 := by rw [← hw0]; simp
  have hb0 : Below w.heap.size w w0 := by rw [← hw0]; exact (((((Below.refl _ w).alloc (Nat.le_refl _) _).alloc (by simp) _).alloc (by simp; omega) _).alloc (by simp; omega) _).alloc (by simp; omega) _
  have x0 : Blk w0 w.heap.size 41 #[.slice A n c] := by rw [← hw0]; exact ((((Blk.new w _ _).alloc _).alloc _).alloc _).alloc _
  have x1 : Blk w0 (w.heap.size + 1) 3 #[.int .i64 pl] := by
    have h := ((((Blk.new (w.alloc (.cells #[.slice A n c] 41)) 3 #[.int .i64 pl]).alloc (.cells #[.slice none 0 0] 22)).alloc (.cells #[.bool false] 4)).alloc (.cells #[.slice none 0 0] 22))
    simp only [World.size_alloc] at h
    rw [← hw0]; exact h
  have x2 : Blk w0 (w.heap.size + 2) 22 #[.slice none 0 0] := by
    have h := (((Blk.new ((w.alloc (.cells #[.slice A n c] 41)).alloc (.cells #[.int .i64 pl] 3)) 22 #[.slice none 0 0]).alloc (.cells #[.bool false] 4)).alloc (.cells #[.slice none 0 0] 22))
    simp only [World.size_alloc] at h
    rw [← hw0]; exact h
  have x3 : Blk w0 (w.heap.size + 3) 4 #[.bool false] := by
    have h := ((Blk.new (((w.alloc (.cells #[.slice A n c] 41)).alloc (.cells #[.int .i64 pl] 3)).alloc (.cells #[.slice none 0 0] 22)) 4 #[.bool false]).alloc (.cells #[.slice none 0 0] 22))
    simp only [World.size_alloc] at h
    rw [← hw0]; exact h
  have x4 : Boxed w0 (w.heap.size + 4) 22 (.slice none 0 0) := by
    have h := Blk.new ((((w.alloc (.cells #[.slice A n c] 41)).alloc (.cells #[.int .i64 pl] 3)).alloc (.cells #[.slice none 0 0] 22)).alloc (.cells #[.bool false] 4)) 22 #[.slice none 0 0]
    simp only [World.size_alloc] at h
    rw [← hw0]; exact h
  have X := Lib.hid (And.intro hb0 (And.intro hs0 (And.intro x0 (And.intro x1 (And.intro x2 (And.intro x3 x4))))))
  rw [hw0]
  have q0 := x0.cell 0
  have q1 := x1.cell 0
  have HC : Hid (∀ wx, Below w0.heap.size w0 wx → (wx.cell? ⟨w.heap.size, 0, none⟩ = some (.slice A n c) ∧ wx.cell? ⟨w.heap.size + 1, 0, none⟩ = some (.int .i64 pl))) := Lib.hid (fun wx hb => ⟨(x0.below hb x0.lt).cell 0, (x1.below hb x1.lt).cell 0⟩)
  have OB := Lib.hid (fun wx (hb : Below w0.heap.size w0 wx) => objects_seq (fpE w.heap.size (.slice none 0 0)) B A T c (zs.take T) pl L wx ((hr.pre hTn).below ((hb0.trans (hb.mono hb0.size)).mono hB)) (Nat.le_trans hB (hb0.trans (hb.mono hb0.size)).size) (fun hn ad ha e => by
    obtain ⟨ad2, ea, hb, -⟩ := (hr.pre hTn).2 hn
    rw [ha] at ea; injection ea with ea; subst ea
    rcases e with (⟨e | e⟩ | e) | e
    · omega
    · cases e
    · omega
    · omega) (hz.take _) (by omega) hcap (by omega) (fun k hk => by
    have := hb.size
    rcases hk with (⟨e | e⟩ | e) | e
    · omega
    · cases e
    · omega
    · omega) h0 h1 hL)
  clear hw0 hb0 hs0 x0 x1 x2 x3 x4
  have hb : Below w0.heap.size w0 w0.drew := below_drewn (Below.refl _ _) 1
  have HK := Lib.hid (HC.out _ hb)
  refine wpIn_wide.2 ?_
  go_region_held3 (fun w' => w'.cell? ⟨w.heap.size, 0, none⟩ = some (.slice A n c) ∧ w'.cell? ⟨w.heap.size + 1, 0, none⟩ = some (.int .i64 pl))
    (first | assumption | exact HK.out | exact HC.out _ (by assumption))
    ((first
      | (go_at_call 27; refine (AH.out _).mono ?_; rintro e wx ⟨rfl, rfl⟩)
      | (go_at_call 26; refine (OB.out _ hb).mono ?_; rintro e wx ⟨rfl, hbx, hseq⟩; have hb := hb.trans (hbx.mono hb.size))))
  obtain ⟨hb0, hs0, x0, x1, x2, x3, x4⟩ := X.out
  have hsx := hb.size
  have hbw2 : Below w.heap.size w wx := hb0.trans (hb.mono (by omega))
  have y0 := x0.below hb x0.lt
  have y1 := x1.below hb x1.lt
  have y2 := x2.below hb x2.lt
  have y3 := x3.below hb x3.lt
  have y4 : Boxed wx (w.heap.size + 4) 22 (.slice none 0 0) := Blk.below (t := 22) (cs := #[.slice none 0 0]) x4 hb x4.lt
  have SC := Lib.hid (And.intro hL hn)
  have HRD := Lib.hid (And.intro hr (And.intro hz hlz))
  have hmost := hL.short.1
  rw [hn] at hmost
  clear X AH OB HC HK hb0 x0 x1 x2 x3 x4 hb hL hr hz hn q0 q1 hlz
  have hseq' : SeqF Fence.wide 8 Tryz.prog 55 (scB (w.heap.size + 5)) So.encs (TellsS (zs.take T) L) (fpE w.heap.size (.slice none 0 0)) (fun xs => xs.map (·.r) = L) (fun pre => ∃ rest, pre.map (·.r) ++ rest = L) L.length wx := by rw [← hs0]; exact hseq
  gi_wp2
  refine wp_range_F (F := Fence.wide) (n := 9) rfl (by omega) (gf := 55) (lb := scB (w.heap.size + 5)) rfl trivial (enters_of Tryz.func55 (by kernel_rfl) rfl) hseq'
      (fun k hk => by
        rcases hk with (⟨e | e⟩ | e) | e
        · omega
        · cases e
        · omega
        · omega)
      (fun fp pre x => tellsS_own _ L _ fp pre x) (fun _ => rfl)
      (fun fq pre W => EnI w zs A n c pl fq pre W)
      (fun cc pre W => EnX w zs pl L cc pre W)
      (fun fq => enI_own _ _ _ _ _ _ _ (by omega) fq)
      (fun cc => enX_own _ _ _ _ _ (by omega) cc)
      ⟨_, [], rfl, ⟨y4, World.ownsRow_nil _ _ _ _, y0, y1, y2, y3, ⟨rfl, fun i rc h => by simp at h⟩, (fun rc h => by cases h), (fun r h => by cases h), hbw2⟩⟩
      (fun x a' W => ∃ b, Blk W b 50 #[.int .i64 x.r.k, .slice x.A x.n x.c, .slice x.B x.m x.d, .slice x.C x.p x.q] ∧ a' = { tmps := #[.slice A n c, .int .i64 pl, .int .i64 to, .pointer (some ⟨w.heap.size, 0, none⟩), .pointer (some ⟨w.heap.size + 1, 0, none⟩), undef, .pointer (some ⟨w.heap.size + 1 + 1, 0, none⟩), .pointer (some ⟨w.heap.size + 1 + 1 + 1, 0, none⟩), .pointer (some ⟨w.heap.size + 1 + 1 + 1 + 1, 0, none⟩), .int .i64 x.r.j, .pointer (some ⟨b, 0, none⟩), undef, undef, .slice A n c, .int .i64 to, .slice A T c,   .int .i64 pl, scV (w.heap.size + 5), .int .i64 x.r.j, x.v, undef, undef, undef, undef, undef, undef, undef, undef, undef, undef, undef, undef, undef, undef, undef, undef, undef, undef, undef, undef, undef, undef, undef, undef, undef, undef, undef, undef, undef, undef, undef, undef, undef, undef, undef], defers := [] })
      (fun x a' _ A C row hs hg hr => by
        obtain ⟨b, h1, h2⟩ := hs
        exact ⟨b, own_blkAny b 50 (fun _ : Unit => _) () A C row h1 hg hr, h2⟩)
      ?assign ?body ?done ?stop
  case assign =>
    intro l2 x W3 K hW hK
    dsimp only [So.encs, So.v, obV]
    gi_wp2
    exact hK _ _ (boxed _ _) ⟨_, Blk.new _ _ _, rfl⟩
  case body =>
    rintro l2 fp fq pre x W3 ⟨v, l, rfl, H⟩ hok hsub hlen hpx - a' ⟨b, hbx, rfl⟩
    obtain ⟨A1, c1, rfl, -, -⟩ := own_form H.own
    have hmem : x.r ∈ L := by obtain ⟨rest, e⟩ := hpx.ex; rw [← e]; simp
    have his := SC.out.1.mem _ hmem
    have hroom := his.room
    rw [SC.out.2] at hroom
    have hlens := his.lens
    rw [SC.out.2] at hlens
    have hsn := entsS_snoc (pre.map (·.r)) x.r
    have hmap : (pre ++ [x]).map (·.r) = pre.map (·.r) ++ [x.r] := by rw [List.map_append]; rfl
    by_cases hk : x.r.k = 3
    · rw [if_pos hk] at hsn
      have hki : (x.r.k : Int) = 3 := by omega
      have hbx3 : Blk W3 b 50 #[.int .i64 3, .slice x.A x.n x.c, .slice x.B x.m x.d, .slice x.C x.p x.q] := by rw [← hki]; exact hbx
      have hlf := So.lies_full hpx.lies (by omega : x.r.j + x.r.s ≤ T)
      obtain ⟨hr, hz, hlz⟩ := HRD.out
      have hit3 : (x.r.its zs).length = x.p := hlf.ir.len
      have hwl : (x.r.wds zs).length = x.n := hlf.wr.len
      have hw5 : (x.r.wds zs).length = 5 := by unfold SR.wds; rw [dW_length, hki]; rfl
      have hxn : x.n = 5 := by omega
      have hitT : x.r.its (zs.take T) = x.r.its zs := its_take (by omega)
      rw [hitT] at hlens
      have IT := Lib.hid (scItems_any A n c zs pl x.r.j 3 x.A x.n x.c x.B x.m x.d x.C x.p x.q (x.r.its zs) W3 (hr.below (H.below.mono hB)) (Nat.le_trans hB H.below.size) hz hl hcap hm h0 h1 (by omega) (by omega) hlf.ir (Nat.le_refl _) (dI_bd (objB_bytes hz _ _) _) hlf.ic.1 (by omega))
      obtain ⟨bw, ow, hAe, hbw, hcw⟩ := hlf.wr.at2 (by omega) (by omega)
      obtain ⟨v0, hv0⟩ : ∃ v, (x.r.wds zs).getD 0 0 = v := ⟨_, rfl⟩
      obtain ⟨v1, hv1⟩ : ∃ v, (x.r.wds zs).getD 1 0 = v := ⟨_, rfl⟩
      obtain ⟨v2, hv2⟩ : ∃ v, (x.r.wds zs).getD 2 0 = v := ⟨_, rfl⟩
      obtain ⟨v3, hv3⟩ : ∃ v, (x.r.wds zs).getD 3 0 = v := ⟨_, rfl⟩
      have HW : Hid (∀ wy, Below W3.heap.size W3 wy → wy.cell? ⟨bw, ow, none⟩ = some (.int .u64 v0) ∧ wy.cell? ⟨bw, ow + 1, none⟩ = some (.int .u64 v1) ∧ wy.cell? ⟨bw, ow + 2, none⟩ = some (.int .u64 v2) ∧ wy.cell? ⟨bw, ow + 3, none⟩ = some (.int .u64 v3)) := Lib.hid (fun wy hb => by
        have g : ∀ i, i < 5 → wy.cell? ⟨bw, ow + i, none⟩ = some (.int .u64 ((x.r.wds zs).getD i 0)) := fun i hi => (hb.cell (p := ⟨bw, _, none⟩) hbw).trans (hcw i _ (cellsOf_get (by omega)))
        rw [← hv0, ← hv1, ← hv2, ← hv3]
        exact ⟨g 0 (by omega), g 1 (by omega), g 2 (by omega), g 3 (by omega)⟩)
      have HV := Lib.hid (And.intro hv0 (And.intro hv1 (And.intro hv2 (And.intro hv3 hk))))
      rw [hAe, hxn] at IT hbx3
      have HXE := Lib.hid (And.intro hAe hxn)
      have b0 := hbx3.cell 0
      have b1 := hbx3.cell 1
      have b2 := hbx3.cell 2
      have b3 := hbx3.cell 3
      have k0 := H.b0.cell 0
      have k1 := H.b1.cell 0
      clear hlf hit3 hwl hw5 hitT hcw hv0 hv1 hv2 hv3 hr hz hlz hroom his hlens hki hxn hAe
      gi_wp2_with (refine ⟨trivial, ?_⟩; gi_at_call 28; refine (CallsIn.inRound l2 (callsIn_wide.2 IT.out)).mono ?_; rintro e w4 ⟨hb4, (⟨hall, A4, c4, rfl, ht4, hnew4⟩ | ⟨hnall, rfl⟩)⟩; all_goals (have z2 := H.b2.below hb4 H.b2.lt; have z3 := H.b3.below hb4 H.b3.lt; have y2 : w4.cell? ⟨w.heap.size + 1 + 1, 0, none⟩ = some (.slice none 0 0) := z2.cell 0; have y3 : w4.cell? ⟨w.heap.size + 1 + 1 + 1, 0, none⟩ = some (.bool false) := z3.cell 0; have f2 : w4.frozen? ⟨w.heap.size + 1 + 1, 0, none⟩ = false := z2.frozen 0; have f3 : w4.frozen? ⟨w.heap.size + 1 + 1 + 1, 0, none⟩ = false := z3.frozen 0))
      · obtain ⟨i0, hi, hz0, hz1, hz2⟩ := info_parts recInfo
        have hll := H.ens.1
        have hel := entsS_le (pre.map (·.r))
        rw [List.length_map] at hel
        have s1 := sr5c (m := l.length) (by omega)
        have s2 := sr5d (m := l.length) (by omega)
        have hv4 : Boxed w4 (w.heap.size + 4) 22 (.slice A1 l.length c1) := Blk.below (t := 22) (cs := #[.slice A1 l.length c1]) H.box hb4 H.box.lt
        have hrow4 := own_below H.own hb4
        have hbx4 := hbx3.below hb4 hbx3.lt
        obtain ⟨N4, hN4⟩ : ∃ N4, (x.r.its zs).length = N4 := ⟨_, rfl⟩
        rw [hN4] at ht4 ⊢
        have HC : Hid (∀ wy, Below w4.heap.size w4 wy → (wy.cell? ⟨w.heap.size + 1 + 1 + 1 + 1, 0, none⟩ = some (.slice A1 l.length c1) ∧ wy.cell? ⟨b, 1, none⟩ = some (.slice (some ⟨bw, ow, none⟩) 5 x.c) ∧ wy.cell? ⟨bw, ow, none⟩ = some (.int .u64 v0) ∧ wy.cell? ⟨bw, ow + 1, none⟩ = some (.int .u64 v1) ∧ wy.cell? ⟨bw, ow + 2, none⟩ = some (.int .u64 v2) ∧ wy.cell? ⟨bw, ow + 3, none⟩ = some (.int .u64 v3))) := Lib.hid (fun wy hb => by
          have h2 : Boxed wy (w.heap.size + 4) 22 (.slice A1 l.length c1) := Blk.below (t := 22) (cs := #[.slice A1 l.length c1]) hv4 hb hv4.lt
          obtain ⟨u0, u1, u2, u3⟩ := HW.out wy (hb4.trans (hb.mono hb4.size))
          exact ⟨h2.cell, (hbx4.below hb hbx4.lt).cell 1, u0, u1, u2, u3⟩)
        have HB4 := Lib.hid hb4
        have HT4 := Lib.hid (And.intro ht4 (And.intro hnew4 (And.intro hall hN4)))
        clear z2 z3 y2 y3 f2 f3 k0 k1 b0 b1 b2 b3 hb4 ht4 hnew4 hall hN4 hll hel
        refine wpIn_mono (Q := OnNormal fun a' W' => ∃ fq', EnI w zs A n c pl fq' (pre ++ [x]) W' ∧ GrowF (fpE w.heap.size (.slice A1 l.length c1)) W3 fq' W') ?_ (fun e a w h => by cases e <;> first | exact h.elim | exact h)
        have hb : Below w4.heap.size w4 w4.drew := below_drewn (Below.refl _ _) 1
        refine region_round (S := fun w' => w'.cell? ⟨w.heap.size + 1 + 1 + 1 + 1, 0, none⟩ = some (.slice A1 l.length c1) ∧ w'.cell? ⟨b, 1, none⟩ = some (.slice (some ⟨bw, ow, none⟩) 5 x.c) ∧ w'.cell? ⟨bw, ow, none⟩ = some (.int .u64 v0) ∧ w'.cell? ⟨bw, ow + 1, none⟩ = some (.int .u64 v1) ∧ w'.cell? ⟨bw, ow + 2, none⟩ = some (.int .u64 v2) ∧ w'.cell? ⟨bw, ow + 3, none⟩ = some (.int .u64 v3)) 21 (by kernel_rfl) (by kernel_rfl) (HC.out _ hb) (fun hHeld => ?_)
        refine takeZ_yes (i := 0) (v := ?_) rfl (by kernel_rfl) (by kernel_rfl) (by kernel_rfl) (by kernel_rfl) (fun _ _ _ h => h) (by kernel_rfl) ?_ (by assumption) ?_
        rotate_left
        · intro wz hSw; (try dsimp only at hSw); go_simp; try with_reducible rfl
        simp only [Act.put, List.setIfInBounds_toArray, List.set_cons_zero, List.set_cons_succ]
        refine takeZ_yes (i := 1) (v := ?_) rfl (by kernel_rfl) (by kernel_rfl) (by kernel_rfl) (by kernel_rfl) (fun _ _ _ h => h) (by kernel_rfl) ?_ (by assumption) ?_
        rotate_left
        · intro wz hSw; (try dsimp only at hSw); go_simp; try with_reducible rfl
        simp only [Act.put, List.setIfInBounds_toArray, List.set_cons_zero, List.set_cons_succ]
        refine takeZ_yes (i := 2) (v := ?_) rfl (by kernel_rfl) (by kernel_rfl) (by kernel_rfl) (by kernel_rfl) (fun _ _ _ h => h) (by kernel_rfl) ?_ (by assumption) ?_
        rotate_left
        · intro wz hSw; (try dsimp only at hSw); go_simp; try with_reducible rfl
        simp only [Act.put, List.setIfInBounds_toArray, List.set_cons_zero, List.set_cons_succ]
        refine takeZ_yes (i := 3) (v := ?_) rfl (by kernel_rfl) (by kernel_rfl) (by kernel_rfl) (by kernel_rfl) (fun _ _ _ h => h) (by kernel_rfl) ?_ (by assumption) ?_
        rotate_left
        · intro wz hSw; (try dsimp only at hSw); go_simp; try with_reducible rfl
        simp only [Act.put, List.setIfInBounds_toArray, List.set_cons_zero, List.set_cons_succ]
        refine takeZ_yes (i := 4) (v := ?_) rfl (by kernel_rfl) (by kernel_rfl) (by kernel_rfl) (by kernel_rfl) (fun _ _ _ h => h) (by kernel_rfl) ?_ (by assumption) ?_
        rotate_left
        · intro wz hSw; (try dsimp only at hSw); go_simp; try with_reducible rfl
        simp only [Act.put, List.setIfInBounds_toArray, List.set_cons_zero, List.set_cons_succ]
        refine takeZ_yes (i := 5) (v := ?_) rfl (by kernel_rfl) (by kernel_rfl) (by kernel_rfl) (by kernel_rfl) (fun _ _ _ h => h) (by kernel_rfl) ?_ (by assumption) ?_
        rotate_left
        · intro wz hSw; (try dsimp only at hSw); go_simp; try with_reducible rfl
        simp only [Act.put, List.setIfInBounds_toArray, List.set_cons_zero, List.set_cons_succ]
        refine takeZ_yes (i := 6) (v := ?_) rfl (by kernel_rfl) (by kernel_rfl) (by kernel_rfl) (by kernel_rfl) (fun _ _ _ h => h) (by kernel_rfl) ?_ (by assumption) ?_
        rotate_left
        · intro wz hSw; (try dsimp only at hSw); go_simp; try with_reducible rfl
        simp only [Act.put, List.setIfInBounds_toArray, List.set_cons_zero, List.set_cons_succ]
        refine takeZ_yes (i := 7) (v := ?_) rfl (by kernel_rfl) (by kernel_rfl) (by kernel_rfl) (by kernel_rfl) (fun _ _ _ h => h) (by kernel_rfl) ?_ (by assumption) ?_
        rotate_left
        · intro wz hSw; (try dsimp only at hSw); go_simp; try with_reducible rfl
        simp only [Act.put, List.setIfInBounds_toArray, List.set_cons_zero, List.set_cons_succ]
        refine takeZ_yes (i := 8) (v := ?_) rfl (by kernel_rfl) (by kernel_rfl) (by kernel_rfl) (by kernel_rfl) (fun _ _ _ h => h) (by kernel_rfl) ?_ (by assumption) ?_
        rotate_left
        · intro wz hSw; (try dsimp only at hSw); go_simp; try with_reducible rfl
        simp only [Act.put, List.setIfInBounds_toArray, List.set_cons_zero, List.set_cons_succ]
        refine takeZ_yes (i := 9) (v := ?_) rfl (by kernel_rfl) (by kernel_rfl) (by kernel_rfl) (by kernel_rfl) (fun _ _ _ h => h) (by kernel_rfl) ?_ (by assumption) ?_
        rotate_left
        · intro wz hSw; (try dsimp only at hSw); go_simp; try with_reducible rfl
        simp only [Act.put, List.setIfInBounds_toArray, List.set_cons_zero, List.set_cons_succ]
        refine takeZ_yes (i := 10) (v := ?_) rfl (by kernel_rfl) (by kernel_rfl) (by kernel_rfl) (by kernel_rfl) (fun _ _ _ h => h) (by kernel_rfl) ?_ (by assumption) ?_
        rotate_left
        · intro wz hSw; (try dsimp only at hSw); go_simp; try with_reducible rfl
        simp only [Act.put, List.setIfInBounds_toArray, List.set_cons_zero, List.set_cons_succ]
        refine takeZ_yes (i := 11) (v := ?_) rfl (by kernel_rfl) (by kernel_rfl) (by kernel_rfl) (by kernel_rfl) (fun _ _ _ h => h) (by kernel_rfl) ?_ (by assumption) ?_
        rotate_left
        · intro wz hSw; (try dsimp only at hSw); go_simp; try with_reducible rfl
        simp only [Act.put, List.setIfInBounds_toArray, List.set_cons_zero, List.set_cons_succ]
        refine takeZ_yes (i := 12) (v := ?_) rfl (by kernel_rfl) (by kernel_rfl) (by kernel_rfl) (by kernel_rfl) (fun _ _ _ h => h) (by kernel_rfl) ?_ (by assumption) ?_
        rotate_left
        · intro wz hSw; (try dsimp only at hSw); go_simp; try with_reducible rfl
        simp only [Act.put, List.setIfInBounds_toArray, List.set_cons_zero, List.set_cons_succ]
        refine takeZ_yes (i := 13) (v := ?_) rfl (by kernel_rfl) (by kernel_rfl) (by kernel_rfl) (by kernel_rfl) (fun _ _ _ h => h) (by kernel_rfl) ?_ (by assumption) ?_
        rotate_left
        · intro wz hSw; (try dsimp only at hSw); go_simp; try with_reducible rfl
        simp only [Act.put, List.setIfInBounds_toArray, List.set_cons_zero, List.set_cons_succ]
        refine takeZ_yes (i := 14) (v := ?_) rfl (by kernel_rfl) (by kernel_rfl) (by kernel_rfl) (by kernel_rfl) (fun _ _ _ h => h) (by kernel_rfl) ?_ (by assumption) ?_
        rotate_left
        · intro wz hSw; (try dsimp only at hSw); go_simp; try with_reducible rfl
        simp only [Act.put, List.setIfInBounds_toArray, List.set_cons_zero, List.set_cons_succ]
        refine takeZ_yes (i := 15) (v := ?_) rfl (by kernel_rfl) (by kernel_rfl) (by kernel_rfl) (by kernel_rfl) (fun _ _ _ h => h) (by kernel_rfl) ?_ (by assumption) ?_
        rotate_left
        · intro wz hSw; (try dsimp only at hSw); go_simp; try with_reducible rfl
        simp only [Act.put, List.setIfInBounds_toArray, List.set_cons_zero, List.set_cons_succ]
        refine takeZ_yes (i := 16) (v := ?_) rfl (by kernel_rfl) (by kernel_rfl) (by kernel_rfl) (by kernel_rfl) (fun _ _ _ h => h) (by kernel_rfl) ?_ (by assumption) ?_
        rotate_left
        · intro wz hSw; (try dsimp only at hSw); go_simp; try with_reducible rfl
        simp only [Act.put, List.setIfInBounds_toArray, List.set_cons_zero, List.set_cons_succ]
        refine takeZ_yes (i := 17) (v := ?_) rfl (by kernel_rfl) (by kernel_rfl) (by kernel_rfl) (by kernel_rfl) (fun _ _ _ h => h) (by kernel_rfl) ?_ (by assumption) ?_
        rotate_left
        · intro wz hSw; (try dsimp only at hSw); go_simp; try with_reducible rfl
        simp only [Act.put, List.setIfInBounds_toArray, List.set_cons_zero, List.set_cons_succ]
        refine takeZ_yes (i := 18) (v := ?_) rfl (by kernel_rfl) (by kernel_rfl) (by kernel_rfl) (by kernel_rfl) (fun _ _ _ h => h) (by kernel_rfl) ?_ (by assumption) ?_
        rotate_left
        · intro wz hSw; (try dsimp only at hSw); go_simp; try with_reducible rfl
        simp only [Act.put, List.setIfInBounds_toArray, List.set_cons_zero, List.set_cons_succ]
        generalize w4.drew = w5 at hb hHeld ⊢
        have hv5 : Boxed w5 (w.heap.size + 4) 22 (.slice A1 l.length c1) := Blk.below (t := 22) (cs := #[.slice A1 l.length c1]) hv4 hb hv4.lt
        have hrow5 := own_below hrow4 hb
        have hbx5 := hbx4.below hb hbx4.lt
        refine wpAnyZ_ready (rs := [19]) (by kernel_rfl) (by simp) (AllReadyZ.cons rfl (fun K hK => ?_) AllReadyZ.nil)
        go_simp
        have hb6 : Below w4.heap.size w4 (w5.alloc (.cells #[.int .u64 v0, .int .u64 v1, .int .u64 v2, .int .u64 v3, .slice A4 N4 c4] 26)) := hb.alloc hb.size _
        refine hK.out _ _ (HC.out _ hb6) (fun hHeld => ?_)
        clear hK K
        try simp only [Act.put, List.setIfInBounds_toArray, List.set_cons_zero, List.set_cons_succ]
        refine wpAnyZ_ready (rs := [20]) (by kernel_rfl) (by simp) (AllReadyZ.cons rfl (fun K hK => ?_) AllReadyZ.nil)
        refine step_append_any _ rfl (.tmp 33) (.tmp 52) _ rfl w.heap.size 26 i0 (.agg #[.int .u64 0, .int .u64 0, .int .u64 0, .int .u64 0, .slice none 0 0]) 5 56 Tryz.underlying22 hi hz0 hz1 hz2 rfl (by decide) _ l.length (cellsR5 l) rfl (hrow5.alloc _) (w5.heap.size + 1) (some ⟨w5.heap.size, 0, none⟩) 1 1 [.int .u64 v0, .int .u64 v1, .int .u64 v2, .int .u64 v3, .slice A4 N4 c4] rfl (recNew2 rfl _ _ _ _ _ _) (recOne _ _ _ _ _ _ _) s1 s2 (by have := hb.size; have := HB4.out.size; have := H.below.size; simp; omega) ?_
        intro v' w1 hown' hgrow hat
        obtain ⟨g', cap', rfl⟩ := ownsRow_succ hown'
        obtain ⟨hv1, hv2, hr2, hg2⟩ := appendedF hv5 (by decide) hrow5 hown' hgrow hat
        have h6 : w1.cell? ⟨w.heap.size + 1 + 1 + 1 + 1, 0, none⟩ = some (.slice A1 l.length c1) ∧ w1.cell? ⟨b, 1, none⟩ = some (.slice (some ⟨bw, ow, none⟩) 5 x.c) ∧ w1.cell? ⟨bw, ow, none⟩ = some (.int .u64 v0) ∧ w1.cell? ⟨bw, ow + 1, none⟩ = some (.int .u64 v1) ∧ w1.cell? ⟨bw, ow + 2, none⟩ = some (.int .u64 v2) ∧ w1.cell? ⟨bw, ow + 3, none⟩ = some (.int .u64 v3) := by
          have hbx1 : Blk w1 b 50 #[.int .i64 3, .slice (some ⟨bw, ow, none⟩) 5 x.c, .slice x.B x.m x.d, .slice x.C x.p x.q] := (hbx5.alloc _).grown hgrow (own_blk_ne hrow5 hbx5 (by decide)).symm
          obtain ⟨-, -, u0, u1, u2, u3⟩ := hHeld
          have hnb : (Value.slice A1 l.length c1).ownBlock ≠ some bw := fun e => by
            have h9 := hpx.free.1 ⟨bw, ow, none⟩ HXE.out.1
            exact h9 (hsub _ (.inl (.inl (.inr e))))
          have hbk : w1.heap[bw]? = (w5.alloc (.cells #[.int .u64 v0, .int .u64 v1, .int .u64 v2, .int .u64 v3, .slice A4 N4 c4] 26)).heap[bw]? := hgrow.block bw (by have := HB4.out.size; have := hb6.size; omega) hnb.symm
          have gc : ∀ o, w1.cell? ⟨bw, o, none⟩ = (w5.alloc (.cells #[.int .u64 v0, .int .u64 v1, .int .u64 v2, .int .u64 v3, .slice A4 N4 c4] 26)).cell? ⟨bw, o, none⟩ := fun o => World.cell?_of_block (a := ⟨bw, o, none⟩) hbk
          exact ⟨hv1.cell, hbx1.cell 1, (gc _).trans u0, (gc _).trans u1, (gc _).trans u2, (gc _).trans u3⟩
        refine hK.out _ _ h6 (fun hHeld => ?_)
        clear hK K
        try simp only [Act.put, List.setIfInBounds_toArray, List.set_cons_zero, List.set_cons_succ]
        have hc1 : w1.cell? ⟨w.heap.size + 1 + 1 + 1 + 1, 0, none⟩ = some (.slice A1 l.length c1) := hv1.cell
        have hf1 : w1.frozen? ⟨w.heap.size + 1 + 1 + 1 + 1, 0, none⟩ = false := hv1.frozen
        refine wpAnyZ_ready (rs := [21]) (by kernel_rfl) (by simp) (AllReadyZ.last rfl (fun K hK => ?_))
        go_simp
        refine hK.out _ _ ?_
        clear hK K
        refine wpAnyZ_done (by kernel_rfl) ?_ _
        have hb3 := HB4.out
        obtain ⟨ht4, hnew4, hall, hN4⟩ := HT4.out
        obtain ⟨hv0, hv1', hv2', hv3', -⟩ := HV.out
        have hb35 := hb3.trans (hb.mono hb3.size)
        have hl2 : w.heap.size + 2 < w5.heap.size := (H.b2.below hb35 H.b2.lt).lt
        have hl3 : w.heap.size + 3 < w5.heap.size := (H.b3.below hb35 H.b3.lt).lt
        have G0 := GrowF.below hok hb35
        have G2 : GrowF (fpE w.heap.size (.slice A1 l.length c1)) w5 (fpE w.heap.size (.slice (some ⟨g', 0, none⟩) (l.length + 1) cap')) (w1.setCell ⟨w.heap.size + 1 + 1 + 1 + 1, 0, none⟩ (.slice (some ⟨g', 0, none⟩) (l.length + 1) cap')) := (hg2.plus (b := w.heap.size + 2) hl2).plus (b := w.heap.size + 3) hl3
        have G := G0.trans G2
        have kb : ∀ q t cs, Blk W3 q t cs → t ≠ 26 → q ≠ w.heap.size + 4 → Blk (w1.setCell ⟨w.heap.size + 1 + 1 + 1 + 1, 0, none⟩ (.slice (some ⟨g', 0, none⟩) (l.length + 1) cap')) q t cs := fun q t cs h ht hq => (h.below hb35 h.lt).push hrow5 ht hgrow hq _
        refine ⟨_, ⟨_, l ++ [⟨v0, v1, v2, v3, A4, N4, c4, itemsT zs (x.r.its zs)⟩], rfl, hv2, ?_, kb _ _ _ H.b0 (by decide) (by omega), kb _ _ _ H.b1 (by decide) (by omega), kb _ _ _ H.b2 (by decide) (by omega), kb _ _ _ H.b3 (by decide) (by omega), ?_, fun rc hrc => ?_, fun r hr => ?_, ?_⟩, G⟩
        · rw [List.length_append, cellsR5_snoc]; exact hr2
        · rw [hmap, hsn]; exact H.ens.snoc ⟨hv0.symm, hv1'.symm, hv2'.symm, hv3'.symm, rfl⟩
        · rcases List.mem_append.1 hrc with hrc | hrc
          · exact (H.each rc hrc).grow G
          · rw [List.mem_singleton.1 hrc]
            have h9 : RcAp w5 (fpE w.heap.size (.slice A1 l.length c1)) ⟨v0, v1, v2, v3, A4, N4, c4, itemsT zs (x.r.its zs)⟩ := ⟨(ht4.below hb).more hb.size, fun hn ad ha hk => by
              have := hok _ hk
              have := hnew4 ad ha
              omega⟩
            exact h9.grow G2
        · rw [hmap, hsn] at hr
          rcases List.mem_append.1 hr with hr | hr
          · exact H.ok r hr
          · rw [List.mem_singleton.1 hr]; exact hall
        · exact H.below.trans (G.1.below H.below.size (fun q _ e => by
            rcases e with (⟨e | e⟩ | e) | e
            · omega
            · exact (H.own.lt _ e).1
            · omega
            · omega))
      · refine ⟨?_, ⟨rfl, fun h => hnall (h x.r (List.mem_filter.2 ⟨hmem, by simp [HV.out.2.2.2.2]⟩))⟩, ?_, ?_, ?_⟩
        · exact chg_set1 (chg_set1 (GrowF.below hok hb4).1 (.inl (.inr rfl)) _) (.inr rfl) _
        · exact (z2.set_ 0 _).far (by show w.heap.size + 2 ≠ w.heap.size + 1 + 1 + 1; omega) _
        · exact (z3.far (by show w.heap.size + 3 ≠ w.heap.size + 1 + 1; omega) _).set_ 0 _
        · exact ((H.below.trans (hb4.mono H.below.size)).setCell (by show w.heap.size ≤ w.heap.size + 1 + 1; omega) _).setCell (by show w.heap.size ≤ w.heap.size + 1 + 1 + 1; omega) _
    · rw [if_neg hk] at hsn
      obtain ⟨kk, hkk⟩ : ∃ kk : Int, (x.r.k : Int) = kk := ⟨_, rfl⟩
      have b0 := hbx.cell 0
      rw [hkk] at b0
      have hkd : (kk != 3) = true := bne_iff_ne.2 (by omega)
      clear hmem his hroom hlens hkk
      gi_wp2
      refine ⟨_, ⟨_, l, rfl, H.box, H.own, H.b0, H.b1, H.b2, H.b3, by rw [hmap, hsn]; exact H.ens, H.each, by rw [hmap, hsn]; exact H.ok, H.below⟩, GrowF.refl hok⟩
  case done =>
    rintro D fq xs W hD hxs ⟨v, l, rfl, H⟩ hK
    obtain ⟨A1, c1, rfl, -, -⟩ := own_form H.own
    have k4 : W.cell? ⟨w.heap.size + 1 + 1 + 1 + 1, 0, none⟩ = some (.slice A1 l.length c1) := H.box.cell
    have k2 : W.cell? ⟨w.heap.size + 1 + 1, 0, none⟩ = some (.slice none 0 0) := H.b2.cell 0
    have k3 : W.cell? ⟨w.heap.size + 1 + 1 + 1, 0, none⟩ = some (.bool false) := H.b3.cell 0
    have f2 : W.frozen? ⟨w.heap.size + 1 + 1, 0, none⟩ = false := H.b2.frozen 0
    have f3 : W.frozen? ⟨w.heap.size + 1 + 1 + 1, 0, none⟩ = false := H.b3.frozen 0
    gi_wp2
    have hn1 := own_blk_ne H.own H.b2 (by decide)
    have hn2 := own_blk_ne H.own H.b3 (by decide)
    have hfo : FpOk (fpE w.heap.size (.slice A1 l.length c1)) W := fun k hk => by
      rcases hk with (⟨e | e⟩ | e) | e
      · have := H.box.lt; omega
      · exact (H.own.lt _ e).2
      · have := H.b2.lt; omega
      · have := H.b3.lt; omega
    have G1 := GrowF.set (p := ⟨w.heap.size + 1 + 1, 0, none⟩) hfo (.inl (.inr rfl)) (.slice A1 l.length c1)
    have G2 := G1.trans (GrowF.set (p := ⟨w.heap.size + 1 + 1 + 1, 0, none⟩) G1.ok (.inr rfl) (.bool true))
    have hK' := ((KeepsOthers.setCell W ⟨w.heap.size + 1 + 1, 0, none⟩ (.slice A1 l.length c1)).trans (KeepsOthers.setCell _ ⟨w.heap.size + 1 + 1 + 1, 0, none⟩ (.bool true))).same D _ hK rfl
    have q2 : Blk ((W.setCell ⟨w.heap.size + 1 + 1, 0, none⟩ (.slice A1 l.length c1)).setCell ⟨w.heap.size + 1 + 1 + 1, 0, none⟩ (.bool true)) (w.heap.size + 2) 22 #[.slice A1 l.length c1] := (H.b2.set_ 0 _).far (by show w.heap.size + 2 ≠ w.heap.size + 1 + 1 + 1; omega) _
    have q3 : Blk ((W.setCell ⟨w.heap.size + 1 + 1, 0, none⟩ (.slice A1 l.length c1)).setCell ⟨w.heap.size + 1 + 1 + 1, 0, none⟩ (.bool true)) (w.heap.size + 3) 4 #[.bool true] := (H.b3.far (by show w.heap.size + 3 ≠ w.heap.size + 1 + 1; omega) _).set_ 0 _
    have hch : Chg (fun k => k = w.heap.size + 2 ∨ k = w.heap.size + 3) W ((W.setCell ⟨w.heap.size + 1 + 1, 0, none⟩ (.slice A1 l.length c1)).setCell ⟨w.heap.size + 1 + 1 + 1, 0, none⟩ (.bool true)) := chg_set1 (chg_set1 (Chg.refl _ _) (.inl rfl) _) (.inr rfl) _
    have how := own_chg H.own hch (fun q hq e => by
      rcases e with e | e
      · exact hn1 (by rw [hq, e])
      · exact hn2 (by rw [hq, e]))
    refine ⟨by simp, .inl ⟨_, _, rfl, run_takeDeferred hK', ?_⟩⟩
    refine ⟨_, results_cc rfl _ _ (w.heap.size + 2) (w.heap.size + 3) (.slice A1 l.length c1) (.bool true) rfl rfl (load_recs ((q2.put_other hK' rfl).cell 0)) (load_bool ((q3.put_other hK' rfl).cell 0)), ?_⟩
    rw [← hxs]
    refine ⟨below_put1 (H.below.trans (hch.below H.below.size (fun q _ e => by rcases e with e | e <;> omega))) (by omega) _, .inl ⟨H.ok, A1, c1, l, rfl, ownsRow_putObj how _ hK' rfl, fun rc hrc => ?_, H.ens⟩⟩
    have h9 := ((H.each rc hrc).grow G2).1
    exact ⟨(h9.reads.put_other hK' rfl).upto (by simp), h9.le, h9.cap, h9.sz⟩
  case stop =>
    rintro D cc pre W hD hp ⟨⟨rfl, hno⟩, z2, z3, hbW⟩ hK
    gi_wp2
    refine ⟨by simp, .inl ⟨_, _, rfl, run_takeDeferred hK, ?_⟩⟩
    refine ⟨_, results_cc rfl _ _ (w.heap.size + 2) (w.heap.size + 3) _ (.bool false) rfl rfl (load_recs ((z2.put_other hK rfl).cell 0)) (load_bool ((z3.put_other hK rfl).cell 0)), ?_⟩
    exact ⟨below_put1 hbW (by omega) _, .inr ⟨hno, rfl⟩⟩
end Go.Proofs.YtjpfbkhjhainpaaGreat
