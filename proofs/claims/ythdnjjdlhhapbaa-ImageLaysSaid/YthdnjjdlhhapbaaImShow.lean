/-
  LAYER 12: WHAT shows DOES.
-/
import Derived.Test.YthdnjjdlhhapbaaImAct
import Derived.Deep.RegionHeld3
set_option linter.unusedVariables false
set_option maxRecDepth 100000
set_option linter.unusedSimpArgs false
namespace Go.Proofs.Ythdnjjdlhhapbaa
open Go.RowKit

theorem same_self {B B' : Nat} (A A' : Option Addr) (n n' c c' : Nat) (xs : List Int) (w : World) (hx : Reads w B 1 A n (cellsOf .u8 xs)) (hy : Reads w B' 1 A' n' (cellsOf .u8 xs)) (bx : AreB xs) :
    Calls Try.prog 18 #[.slice A n c, .slice A' n' c'] w fun e w' => e = .returned (.bool true) ∧ w = w' := same_yes A A' n n' c c' xs xs w hx hy bx (Lib.hid rfl)

/-- What shows holds behind Change: the document's image, and what was changed, in a box. -/
structure ShAt (w wx : World) (q Z : Nat) (m : IM) (L o nw : Nat) (Ar : Option Addr) (cr : Nat) (Ax : Option Addr) (cx : Nat) (As : Option Addr) (cs : Nat) (Af : Option Addr) (nf cf : Nat) (Aw : Option Addr) (cw : Nat) (xs : List Value) : Prop where
  bel : Below w.heap.size w wx
  q5 : wx.cell? ⟨q, 5, none⟩ = some (.slice Ar L cr)
  q6 : wx.cell? ⟨q, 6, none⟩ = some (.slice Ax o cx)
  q8 : wx.cell? ⟨q, 8, none⟩ = some (.slice As nw cs)
  z0 : wx.cell? ⟨Z, 0, none⟩ = some (.int .i64 (o : Int))
  z1 : wx.cell? ⟨Z, 1, none⟩ = some (.slice Af nf cf)
  z2 : wx.cell? ⟨Z, 2, none⟩ = some (.slice Aw nw cw)
  br : Reads wx wx.heap.size 1 Ar L (cellsOf .u8 m.b)
  sr : Reads wx wx.heap.size 1 As nw (cellsOf .i64 (nats m.words))
  fr : Reads wx wx.heap.size 1 Af nf (cellsOf .u8 (m.b.drop o))
  wr : Reads wx wx.heap.size 2 Aw nw xs
  pt : ∀ j k, m.words[j]? = some k → PatchAt wx w.heap.size xs j k ((m.b.drop k).take 8)
  lts : q < wx.heap.size ∧ Z < wx.heap.size

theorem ShAt.below {w wx wy : World} {q Z : Nat} {m : IM} {L o nw : Nat} {Ar : Option Addr} {cr : Nat} {Ax : Option Addr} {cx : Nat} {As : Option Addr} {cs : Nat} {Af : Option Addr} {nf cf : Nat} {Aw : Option Addr} {cw : Nat} {xs : List Value} (h : ShAt w wx q Z m L o nw Ar cr Ax cx As cs Af nf cf Aw cw xs) (hb : Below wx.heap.size wx wy) : ShAt w wy q Z m L o nw Ar cr Ax cx As cs Af nf cf Aw cw xs := by
  have c : ∀ {g o : Nat} {v : Value}, wx.cell? ⟨g, o, none⟩ = some v → wy.cell? ⟨g, o, none⟩ = some v := fun hc => (hb.cell (World.block_lt_of_cell? wx _ hc)).trans hc
  have hl := h.lts
  have := hb.size
  exact ⟨h.bel.trans (hb.mono h.bel.size), c h.q5, c h.q6, c h.q8, c h.z0, c h.z1, c h.z2, (h.br.below hb).more hb.size, (h.sr.below hb).more hb.size, (h.fr.below hb).more hb.size, (h.wr.below hb).more hb.size, fun j k hj => (h.pt j k hj).below hb, by omega⟩

theorem ShAt.six {w wx : World} {q Z : Nat} {m : IM} {L o nw : Nat} {Ar : Option Addr} {cr : Nat} {Ax : Option Addr} {cx : Nat} {As : Option Addr} {cs : Nat} {Af : Option Addr} {nf cf : Nat} {Aw : Option Addr} {cw : Nat} {xs : List Value} (h : ShAt w wx q Z m L o nw Ar cr Ax cx As cs Af nf cf Aw cw xs) :
    wx.cell? ⟨q, 5, none⟩ = some (.slice Ar L cr) ∧ wx.cell? ⟨q, 6, none⟩ = some (.slice Ax o cx) ∧ wx.cell? ⟨q, 8, none⟩ = some (.slice As nw cs) ∧ wx.cell? ⟨Z, 0, none⟩ = some (.int .i64 (o : Int)) ∧ wx.cell? ⟨Z, 1, none⟩ = some (.slice Af nf cf) ∧ wx.cell? ⟨Z, 2, none⟩ = some (.slice Aw nw cw) := ⟨h.q5, h.q6, h.q8, h.z0, h.z1, h.z2⟩

section
variable {base p q N : Nat} {T : Nat → Prop} {i k d f h : Int} {m : IM}

/-- What shows knows when it begins. -/
theorem show_start {S2 : Nat → Prop} {w w1 : World} {bv2 wv2 sv2 : Value} (c2 : RX w base S2 q i k d f h m bv2 wv2 sv2) {e : Ending} (hc : ChTold m w e w1) :
    ∃ (L o nw : Nat) (Ar : Option Addr) (cr : Nat) (Ax : Option Addr) (cx : Nat) (As : Option Addr) (cs : Nat) (Af : Option Addr) (nf cf : Nat) (Aw : Option Addr) (cw : Nat) (xs : List Value), e = .returned (.agg #[.int .i64 (o : Int), .slice Af nf cf, .slice Aw nw cw]) ∧ Hid (L = m.b.length ∧ o = m.was.length ∧ nw = m.words.length ∧ nf = m.b.length - m.was.length) ∧ (L ≤ cr ∧ cr ≤ 9223372036854775807) ∧
      Hid (ShAt w (w1.alloc (.cells #[.int .i64 (o : Int), .slice Af nf cf, .slice Aw nw cw] 53)) q w1.heap.size m L o nw Ar cr Ax cx As cs Af nf cf Aw cw xs) := by
  obtain ⟨Af, nf, cf, Aw, nw, cw, xs, rfl, hb, h1, h2, rfl, h4⟩ := hc
  have hbz := hb.alloc hb.size (.cells #[.int .i64 (m.was.length : Int), .slice Af nf cf, .slice Aw m.words.length cw] 53)
  have c3 := c2.below hbz
  obtain ⟨Ar, cr, rfl, r1, r2, r3⟩ := c3.reads
  obtain ⟨Ax, cx, rfl, -, -, -⟩ := c3.wasR
  obtain ⟨As, cs, rfl, -, -, s3⟩ := c3.places
  obtain ⟨⟨-, -, -, -, -, a5, a6, -, a8⟩, -⟩ := nine c3.blk
  have hz := Blk.new w1 53 #[.int .i64 (m.was.length : Int), .slice Af nf cf, .slice Aw m.words.length cw]
  have hfl := h1.1
  rw [cellsOf_length, List.length_drop] at hfl
  exact ⟨m.b.length, m.was.length, m.words.length, Ar, cr, Ax, cx, As, cs, Af, nf, cf, Aw, cw, xs, rfl, ⟨rfl, rfl, rfl, by omega⟩, ⟨r1, r2⟩, ⟨hbz, a5, a6, a8, hz.cell 0, hz.cell 1, hz.cell 2, r3, s3, Reads.of_own (h1.alloc _), Reads.of_own (h2.alloc _), fun j k hj => (h4 j k hj).below (boxed _ _), c3.blk.lt, hz.lt⟩⟩

/-- What objects that are alike are told to be. -/
theorem rsame3 {L : Nat} (kd : Int) (A A' : Option Addr) (n n' c c' : Nat) (ws : List Int) (B B' : Option Addr) (m m' d d' : Nat) (rs : List Int) (C C' : Option Addr) (p p' q q' : Nat) (is : List Int) (w : World)
    (h : ObR w L A n c ws B m d rs C p q is) (h' : ObR w L A' n' c' ws B' m' d' rs C' p' q' is) (hL : L ≤ w.heap.size) (br : AreB rs) (hn : n ≤ 2097152 ∧ n' ≤ 2097152 ∧ p ≤ 2097152 ∧ p' ≤ 2097152) :
    Calls Try.prog 43 #[obV kd A n c B m d C p q, obV kd A' n' c' B' m' d' C' p' q'] w fun e w' => e = .returned (.bool true) ∧ Below w.heap.size w w' :=
  (rosame_any kd kd A A' n n' c c' ws ws B B' m m' d d' rs rs C C' p p' q q' is is w h h' hL br br (by omega)).mono fun e w' ⟨he, hb⟩ => ⟨by rw [he]; simp [sameO], hb⟩
theorem psame3 {L : Nat} (kd : Int) (A A' : Option Addr) (n n' c c' : Nat) (ws : List Int) (B B' : Option Addr) (m m' d d' : Nat) (rs : List Int) (C C' : Option Addr) (p p' q q' : Nat) (is : List Int) (w : World)
    (h : ObR w L A n c ws B m d rs C p q is) (h' : ObR w L A' n' c' ws B' m' d' rs C' p' q' is) (hL : L ≤ w.heap.size) (br : AreB rs) (hn : n ≤ 2097152 ∧ n' ≤ 2097152 ∧ p ≤ 2097152 ∧ p' ≤ 2097152) :
    Calls Try.prog 44 #[obV kd A n c B m d C p q, obV kd A' n' c' B' m' d' C' p' q'] w fun e w' => e = .returned (.bool true) ∧ Below w.heap.size w w' :=
  (osame_any kd kd A A' n n' c c' ws ws B B' m m' d d' rs rs C C' p p' q q' is is w h h' hL br br (by omega)).mono fun e w' ⟨he, hb⟩ => ⟨by rw [he]; simp [sameO], hb⟩

/-- An object in a box of its own, that reads. -/
structure BoxO (w wx : World) (g : Nat) (t : TypeId) (kd : Int) (A : Option Addr) (n c : Nat) (ws : List Int) (B : Option Addr) (m d : Nat) (rs : List Int) (C : Option Addr) (p q : Nat) (is : List Int) : Prop where
  blk : Blk wx g t #[.int .i64 kd, .slice A n c, .slice B m d, .slice C p q]
  ob : ObR wx wx.heap.size A n c ws B m d rs C p q is
  bel : Below w.heap.size w wx
theorem BoxO.below {w wx wy : World} {g : Nat} {t : TypeId} {kd : Int} {A : Option Addr} {n c : Nat} {ws : List Int} {B : Option Addr} {m d : Nat} {rs : List Int} {C : Option Addr} {p q : Nat} {is : List Int} (h : BoxO w wx g t kd A n c ws B m d rs C p q is) (hb : Below wx.heap.size wx wy) : BoxO w wy g t kd A n c ws B m d rs C p q is :=
  ⟨h.blk.below hb h.blk.lt, (h.ob.below hb (Nat.le_refl _)).more hb.size, h.bel.trans (hb.mono h.bel.size)⟩
theorem BoxO.new {w wx : World} {t : TypeId} {kd : Int} {A : Option Addr} {n c : Nat} {ws : List Int} {B : Option Addr} {m d : Nat} {rs : List Int} {C : Option Addr} {p q : Nat} {is : List Int} (ho : ObR wx wx.heap.size A n c ws B m d rs C p q is) (hb : Below w.heap.size w wx) :
    BoxO w (wx.alloc (.cells #[.int .i64 kd, .slice A n c, .slice B m d, .slice C p q] t)) wx.heap.size t kd A n c ws B m d rs C p q is :=
  ⟨Blk.new _ _ _, (ho.below (boxed _ _) (Nat.le_refl _)).more (by simp), hb.alloc hb.size _⟩
theorem BoxO.cells {w wx : World} {g : Nat} {t : TypeId} {kd : Int} {A : Option Addr} {n c : Nat} {ws : List Int} {B : Option Addr} {m d : Nat} {rs : List Int} {C : Option Addr} {p q : Nat} {is : List Int} (h : BoxO w wx g t kd A n c ws B m d rs C p q is) : ObAt wx g kd A n c B m d C p q :=
  ⟨h.blk.cell 0, h.blk.cell 1, h.blk.cell 2, h.blk.cell 3⟩

/-- An object that a call has told, or none. -/
def Told3 (kd : Int) (ws rs is : List Int) (ok : Bool) (w : World) (e : Ending) (w' : World) : Prop :=
  ∃ A1 n1 c1 A2 n2 c2 A3 n3 c3, e = .returned (.tuple #[obV kd A1 n1 c1 A2 n2 c2 A3 n3 c3, .bool ok]) ∧ Below w.heap.size w w' ∧ ObR w' w'.heap.size A1 n1 c1 ws A2 n2 c2 rs A3 n3 c3 is ∧ n1 ≤ 2097152 ∧ n3 ≤ 2097152

set_option maxHeartbeats 4000000 in
theorem shows_main (at_ ua kd kq kr : Int) (ok : Bool) (ws rs is : List Int) (w : World) (H : ITwo w base T p q i k d f h m m) (hg : m.Ok N) (hN : N ≤ 900000) (h0 : -9223372036854775808 ≤ at_) (h1 : at_ ≤ 9223372036854775807) (hua : IntKind.u64.wrap at_ = ua) (hok : ok = true → 0 ≤ at_) (hkd : 0 ≤ kd ∧ kd ≤ 4) (hkr : kd % 4 = kr) (hkq : kr + 1 = kq) (hrs : AreB rs)
    (OB : Hid (∀ w1, Below w.heap.size w w1 → Calls Try.prog 40 #[.pointer (some ⟨p, 0, none⟩), .int .i64 at_] w1 (Told3 kd ws rs is ok w1)))
    (RO : Hid (∀ w1, Below w.heap.size w w1 → Calls Try.prog 41 #[.pointer (some ⟨q, 0, none⟩), .int .i64 at_] w1 (Told3 kd ws rs is ok w1)))
    (A1 : Hid (∀ w1, Below w.heap.size w w1 → Calls Try.prog 42 #[.pointer (some ⟨p, 0, none⟩), .int .u64 ua, .int .i64 kd] w1 (Told3 kd ws rs is ok w1)))
    (A2 : Hid (∀ w1, Below w.heap.size w w1 → Calls Try.prog 42 #[.pointer (some ⟨p, 0, none⟩), .int .u64 ua, .int .i64 kq] w1 (Told3 0 [] [] [] false w1))) :
    Calls Try.prog 13 #[.pointer (some ⟨p, 0, none⟩), .pointer (some ⟨q, 0, none⟩), .int .i64 at_] w fun e w' => e = .returned (.bool true) ∧ Below w.heap.size w w' := by
  obtain ⟨S, S2, bv, sv, bv2, wv2, sv2, c1, c2, -, -, -⟩ := H.ex
  have := hg.len; have := hg.few; have := hg.wasle
  have CH := Lib.hid (ichange_any w c1 hg.good (by omega) (by omega))
  have ST := Lib.hid (fun w1 e (hx : ChTold m w e w1) => show_start c2 hx)
  have BY := Lib.hid (fun w1 (hb : Below w.heap.size w w1) => ibytes_any w1 (c1.below hb) (by omega))
  have WD := Lib.hid (fun w1 (hb : Below w.heap.size w w1) => iword_any at_ w1 (c1.below hb) hg.good.bb h0 h1)
  have RW := Lib.hid (fun w1 (hb : Below w.heap.size w w1) => rword_any at_ w1 (c2.below hb) hg.good.bb h0 h1)
  have TL : Hid (∀ w1, Below w.heap.size w w1 → Calls Try.prog 24 #[.pointer (some ⟨p, 0, none⟩)] w1 fun e w' => e = .returned (.int .i64 (m.b.length : Int)) ∧ w1 = w') := fun w1 hb => by
    obtain ⟨A, c, rfl, -, -, -⟩ := c1.reads
    exact itail_any p m.b.length A c w1 ((nine (c1.below hb).blk).1.2.2.2.2.2.2.1)
  have HBB := Lib.hid hg.good.bb
  have HLE := Lib.hid hg.good.le
  have HGW := Lib.hid (fun a (ha : a ∈ m.words) => (hg.good.ws a ha).2.1)
  generalize m.word at_ = u at WD RW
  have m1 : True := trivial
  clear H c1 c2 hg
  go_enter Try.func13, Try.ntmps13
  go_wp2_with (go_at_call 17; refine CH.out.mono ?_; rintro e w1 hch; obtain ⟨L, o, nw, Ar, cr, Ax, cx, As, cs, Af, nf, cf, Aw, cw, xs, rfl, HNF, hcr, HSH⟩ := ST.out _ _ hch; clear hch)
  obtain ⟨wz, hwz⟩ : ∃ wz, w1.alloc (.cells #[.int .i64 (o : Int), .slice Af nf cf, .slice Aw nw cw] 53) = wz := ⟨_, rfl⟩
  rw [hwz] at HSH ⊢
  obtain ⟨Z, hZ⟩ : ∃ Z, w1.heap.size = Z := ⟨_, rfl⟩
  rw [hZ] at HSH ⊢
  clear hwz hZ
  have hL : L ≤ 2097152 := by have h := HNF.out; omega
  have ho : o ≤ L := by have h := HNF.out; have h2 := HLE.out; omega
  have hoi : (o : Int) ≤ (L : Int) := by omega
  have hnwb : nw ≤ 900000 := by have h := HNF.out; omega
  obtain ⟨hcr1, hcr2⟩ := hcr
  have t9 : (L : Int) ≤ (cr : Int) := by omega
  have RS : Hid (∀ wx, ShAt w wx q Z m L o nw Ar cr Ax cx As cs Af nf cf Aw cw xs → Reads wx wx.heap.size 1 (if cr = o then Ar else Ar.map (·.add o)) (L - o) (cellsOf .u8 (m.b.drop o))) := fun wx hx => by
    have h1 := hx.br.sub (lo := o) (hi := L) (cap := cr) ho (Nat.le_refl _) hcr1
    rw [List.take_of_length_le (by rw [List.length_drop]; have h := HNF.out; omega)] at h1
    exact h1
  have TL2 : Hid (∀ w1, Below w.heap.size w w1 → Calls Try.prog 24 #[.pointer (some ⟨p, 0, none⟩)] w1 fun e w' => e = .returned (.int .i64 (L : Int)) ∧ w1 = w') := fun w1 hb => by
    have h := TL.out w1 hb
    rw [← HNF.out.1] at h
    exact h
  obtain ⟨Av, hAv⟩ : ∃ Av, (if cr = o then Ar else Ar.map (·.add o)) = Av := ⟨_, rfl⟩
  rw [hAv] at RS
  have hb : Below wz.heap.size wz wz.drew := below_drewn (Below.refl _ _) 1
  have HK : Hid (∀ wx, Below wz.heap.size wz wx → ShAt w wx q Z m L o nw Ar cr Ax cx As cs Af nf cf Aw cw xs) := fun wx hx => HSH.out.below hx
  have m2 : True := trivial
  go_region_held3 (fun w' => w'.cell? ⟨q, 5, none⟩ = some (.slice Ar L cr) ∧ w'.cell? ⟨q, 6, none⟩ = some (.slice Ax o cx) ∧ w'.cell? ⟨q, 8, none⟩ = some (.slice As nw cs) ∧ w'.cell? ⟨Z, 0, none⟩ = some (.int .i64 (o : Int)) ∧ w'.cell? ⟨Z, 1, none⟩ = some (.slice Af nf cf) ∧ w'.cell? ⟨Z, 2, none⟩ = some (.slice Aw nw cw))
    (exact (HK.out _ hb).six)
    (first
      | (go_at_call 19; refine (BY.out _ (HK.out _ hb).bel).mono ?_; rintro e wx hte; obtain ⟨A5, n5, c5, rfl, hn5, r5, -, -, hb5, -⟩ := hte.reads; rw [← HNF.out.1] at hn5; have hb := hb.trans (hb5.mono hb.size); have HR5 := Lib.hid r5; clear hte hb5 r5 hn5)
      | (go_at_call 18; clear m1; refine (same_self A5 Ar n5 L c5 cr _ _ HR5.out (HK.out _ hb).br HBB.out).mono ?_; rintro e w9 ⟨rfl, rfl⟩)
      | (go_at_call 24; refine (TL2.out _ (HK.out _ hb).bel).mono ?_; rintro e w9 ⟨rfl, rfl⟩)
      | (go_at_call 25; refine (WD.out _ (HK.out _ hb).bel).mono ?_; rintro e w9 ⟨rfl, rfl⟩)
      | (go_at_call 39; refine (RW.out _ (HK.out _ hb).bel).mono ?_; rintro e w9 ⟨rfl, rfl⟩)
      | (go_at_call 18; refine (same_self Af Av nf (L - o) cf (cr - o) _ _ (HK.out _ hb).fr (RS.out _ (HK.out _ hb)) (HBB.out.drop _)).mono ?_; rintro e w9 ⟨rfl, rfl⟩))
  clear m2 HR5 BY WD RW TL TL2 RS hAv hoi t9
  have HG := Lib.hid (And.intro hcr1 (And.intro hcr2 hL))
  have HBX := Lib.hid hb
  clear hb hcr1
  go_wp2
  go_loopw [8] (fun z wr => ∃ y : Nat, y ≤ nw ∧ z = .int .i64 y ∧ Hid (Below wz.heap.size wz wr)) (fun z _ => nw - (intOf z).toNat)
  case atStart => exact ⟨0, Nat.zero_le _, rfl, HBX⟩
  case round =>
    clear HBX
    obtain ⟨y, hy, rfl, HR⟩ := hrel
    have hs := HK.out _ HR.out
    have z2 := hs.z2
    by_cases hlt : y < nw
    · have ht : (y : Int) < (nw : Int) := by omega
      obtain ⟨a, ha⟩ : ∃ a, m.words[y]? = some a := ⟨_, List.getElem?_eq_getElem (by have := HNF.out; omega)⟩
      obtain ⟨bs, offs, rfl, -, hcs⟩ := hs.sr.plain (by omega)
      have hc0 := hcs y hlt
      rw [nats_get (by have := HNF.out; omega), show m.words.getD y 0 = a by simp [List.getD_eq_getElem?_getD, ha]] at hc0
      have hb0 : Below wr.heap.size wr wr.drew := below_drewn (Below.refl _ _) 1
      have hbz := HR.out.trans (hb0.mono HR.out.size)
      have hsd := HK.out _ hbz
      obtain ⟨g, c7, p0, p1, -, p3, p4, p5, -⟩ := (hsd.pt y a ha).ex
      obtain ⟨bw, offw, rfl, -, hcw⟩ := hsd.wr.at2 (by omega) (by omega)
      have e0 := hcw _ _ p0
      have e1 : wr.drew.cell? ⟨bw, offw + y * 2 + 1, none⟩ = some (.slice (some ⟨g, 0, none⟩) 8 c7) := by rw [Nat.add_assoc]; exact hcw _ _ p1
      have hw := HGW.out a (List.mem_of_getElem? ha)
      rw [← HNF.out.1] at hw
      have hL := HG.out.2.2
      have hcr := HG.out.1
      obtain ⟨a8, ha8⟩ : ∃ a8, a8 = a + 8 := ⟨_, rfl⟩
      have t1 : (a : Int) + 8 = (a8 : Int) := by omega
      have t2 : IntKind.i64.wrap (a8 : Int) = (a8 : Int) := by rw [IntKind.wrap_i64]; omega
      have t3 : (a : Int) ≤ (a8 : Int) := by omega
      have t4 : (a8 : Int) ≤ (cr : Int) := by omega
      have t5 : a ≤ a8 := by omega
      have t6 : a8 ≤ cr := by omega
      have t7 : ¬ cr = a := by omega
      have hsub := hsd.br.sub (lo := a) (hi := a8) (cap := cr) (by omega) (by omega) hcr
      rw [if_neg t7, show a8 - a = 8 by omega] at hsub
      have t8 : a8 - a = 8 := by omega
      have RSW := Lib.hid (And.intro hsub p5)
      have q5 := hsd.q5
      have q8 := hs.q8
      have zd := hsd.z2
      have HBW : Hid (AreB ((m.b.drop a).take 8)) := (HBB.out.drop a).take 8
      clear hsub p5 p0 p1 hcw hcs hw hL hcr ha ha8 hs hsd
      go_wp2
      go_region_held3 (fun w' => w'.cell? ⟨Z, 2, none⟩ = some (.slice (some ⟨bw, offw, none⟩) nw cw) ∧ w'.cell? ⟨q, 5, none⟩ = some (.slice Ar L cr) ∧ w'.cell? ⟨bw, offw + y * 2, none⟩ = some (.int .i64 (a : Int)) ∧ w'.cell? ⟨bw, offw + y * 2 + 1, none⟩ = some (.slice (some ⟨g, 0, none⟩) 8 c7))
        (first | assumption | exact ⟨zd, q5, e0, e1⟩)
        ((go_at_call 18; go_loud (refine (same_self _ _ 8 8 _ _ _ _ RSW.out.2 RSW.out.1 HBW.out).mono ?_; rintro e w9 ⟨rfl, rfl⟩)))
      go_wp2
      go_roundw
      case rel => exact ⟨y + 1, by omega, by go_num, Lib.hid hbz⟩
      case measure => simp [intOf]; omega
    · obtain rfl : y = nw := by omega
      have ht : ¬ (y : Int) < (y : Int) := by omega
      have hbE := (HK.out _ HR.out).bel
      have m3 : True := trivial
      have hk1 := hkd.1
      have hr0 : 0 ≤ kr := by omega
      have u1 : IntKind.i64.wrap kr = kr := by rw [IntKind.wrap_i64]; omega
      have u2 : IntKind.i64.wrap kq = kq := by rw [IntKind.wrap_i64]; omega
      have HBR := Lib.hid hrs
      clear hs hrs HK HG HGW HBB HLE HNF HSH
      cases ok
      all_goals
        (try have hat : 0 ≤ at_ := hok rfl)
        go_wp2_with (first
          | (go_at_call 40; go_loud (refine (OB.out _ hbE).mono ?_; rintro e w2 ⟨B1, k1, d1, B2, k2, d2, B3, k3, d3, rfl, hb2, hob, hn1, hn3⟩; have HX1 := Lib.hid (BoxO.new (t := 70) (kd := kd) hob (hbE.trans (hb2.mono hbE.size))); have hbF := HX1.out.bel; clear hob hb2))
          | (go_at_call 41; go_loud (refine (RO.out _ hbF).mono ?_; rintro e w3 ⟨E1, l1, f1, E2, l2, f2, E3, l3, f3, rfl, hb3, hob, hm1, hm3⟩; have HX2 := Lib.hid (BoxO.new (t := 41) (kd := kd) hob (hbF.trans (hb3.mono hbF.size))); have HX1 := Lib.hid ((HX1.out.below hb3).below (boxed w3 (.cells #[.int .i64 kd, .slice E1 l1 f1, .slice E2 l2 f2, .slice E3 l3 f3] 41))); have hbG := HX2.out.bel; clear hob hb3))
          | (go_at_call 42; clear m3; go_loud (refine (A1.out _ hbG).mono ?_; rintro e w4 ⟨G1, o1, g1, G2, o2, g2, G3, o3, g3, rfl, hb4, hob, hq1, hq3⟩; have HX3 := Lib.hid (BoxO.new (t := 70) (kd := kd) hob (hbG.trans (hb4.mono hbG.size))); have hbo := boxed w4 (.cells #[.int .i64 kd, .slice G1 o1 g1, .slice G2 o2 g2, .slice G3 o3 g3] 70); have HX1 := Lib.hid ((HX1.out.below hb4).below hbo); have HX2 := Lib.hid ((HX2.out.below hb4).below hbo); have hbH := HX3.out.bel; obtain ⟨y0, -, -, -⟩ := HX2.out.cells; clear hob hb4 hbo))
          | (go_at_call 42; go_loud (refine (A2.out _ hbH).mono ?_; rintro e w5 ⟨H1, p1, i1, H2, p2, i2, H3, p3, i3, rfl, hb5, -, -, -⟩; have hbo := boxed w5 (.cells #[.int .i64 0, .slice H1 p1 i1, .slice H2 p2 i2, .slice H3 p3 i3] 70); have HX1 := Lib.hid ((HX1.out.below hb5).below hbo); have HX2 := Lib.hid ((HX2.out.below hb5).below hbo); have HX3 := Lib.hid ((HX3.out.below hb5).below hbo); obtain ⟨x0, x1, x2, x3⟩ := HX1.out.cells; obtain ⟨y0, y1, y2, y3⟩ := HX2.out.cells; have hbI := HX1.out.bel; clear hb5 hbo))
          | (go_at_call 43; go_loud (refine (rsame3 kd _ _ _ _ _ _ ws _ _ _ _ _ _ rs _ _ _ _ _ _ is _ HX1.out.ob HX2.out.ob (Nat.le_refl _) HBR.out ⟨hn1, hm1, hn3, hm3⟩).mono ?_; rintro e w6 ⟨rfl, hb6⟩; have HX1 := Lib.hid (HX1.out.below hb6); have HX3 := Lib.hid (HX3.out.below hb6); obtain ⟨x0, x1, x2, x3⟩ := HX1.out.cells; obtain ⟨z0, z1, z2, z3⟩ := HX3.out.cells; have hbJ := HX1.out.bel; clear hb6))
          | (go_at_call 44; go_loud (refine (psame3 kd _ _ _ _ _ _ ws _ _ _ _ _ _ rs _ _ _ _ _ _ is _ HX1.out.ob HX3.out.ob (Nat.le_refl _) HBR.out ⟨hn1, hq1, hn3, hq3⟩).mono ?_; rintro e w7 ⟨rfl, hb7⟩; have hbJ := hbJ.trans (hb7.mono hbJ.size))))
        go_ret
        exact ⟨rfl, hbJ⟩

theorem Told3.none_ {w w' : World} {e : Ending} (he : e = .returned (.tuple #[obZ, .bool false])) (hb : Below w.heap.size w w') : Told3 0 [] [] [] false w e w' :=
  ⟨none, 0, 0, none, 0, 0, none, 0, 0, he, hb, ⟨Reads.none_, Reads.none_, Reads.none_, ⟨Nat.le_refl _, by omega⟩, ⟨Nat.le_refl _, by omega⟩, ⟨Nat.le_refl _, by omega⟩⟩, by omega, by omega⟩
theorem Told3.some_ {D F : Int} {j kk s : Nat} (hth : m.there D F j kk s) (hl : m.b.length ≤ 2097152) {w w' : World} {e : Ending} (h : RObTold m j kk s w e w') : Told3 kk (dW (objB m.b j s) kk) (dR (objB m.b j s) kk) (dI (objB m.b j s) kk) true w e w' := by
  obtain ⟨A1, n1, c1, A2, n2, c2, A3, n3, c3, he, hb, ho⟩ := h
  have e1 := ho.wr.len
  have e3 := ho.ir.len
  have hfit := hth.2.1.fit
  have hol := objB_length hfit
  have hk := kwN_le (kk : Int)
  rw [dW_length] at e1
  rw [dI_length, hol] at e3
  refine ⟨A1, n1, c1, A2, n2, c2, A3, n3, c3, he, hb, ho, by omega, ?_⟩
  split at e3 <;> omega
theorem ObTold.toR {j kk s : Nat} {w w' : World} {e : Ending} (h : ObTold m j kk s w e w') : RObTold m j kk s w e w' := by
  obtain ⟨A1, n1, c1, A2, n2, c2, A3, n3, c3, he, hb, ho⟩ := h
  exact ⟨A1, n1, c1, A2, n2, c2, A3, n3, c3, he, hb, ho.reads⟩

theorem shows_any (at_ : Int) (w : World) (H : ITwo w base T p q i k d f h m m) (hg : m.Ok N) (hN : N ≤ 900000) (h0 : -9223372036854775808 ≤ at_) (h1 : at_ ≤ 9223372036854775807) (hd : 1 ≤ d ∧ d ≤ 256) (hf : 1 ≤ f ∧ f ≤ 256) :
    Calls Try.prog 13 #[.pointer (some ⟨p, 0, none⟩), .pointer (some ⟨q, 0, none⟩), .int .i64 at_] w fun e w' => e = .returned (.bool true) ∧ Below w.heap.size w w' := by
  obtain ⟨S, S2, bv, sv, bv2, wv2, sv2, c1, c2, -, -, -⟩ := H.ex
  have hl := hg.len
  have hbb := hg.good.bb
  rcases m.there_or d f at_ (by omega) (by omega) with hno | ⟨j, kk, s, rfl, hth⟩
  · have AT : ∀ (kd : Int) (w1 : World), Below w.heap.size w w1 → Calls Try.prog 42 #[.pointer (some ⟨p, 0, none⟩), .int .u64 (IntKind.u64.wrap at_), .int .i64 kd] w1 (Told3 0 [] [] [] false w1) := fun kd w1 hb => by
      by_cases hneg : at_ < 0
      · exact (iat_out _ kd w1 (c1.below hb) (by omega) (by rw [IntKind.wrap_u64]; omega)).mono fun e w' ⟨he, hb⟩ => Told3.none_ he hb
      · have e : IntKind.u64.wrap at_ = at_ := by rw [IntKind.wrap_u64]; omega
        rw [e]
        exact (iat_bare _ kd w1 (c1.below hb) hbb (by omega) hd hf (by omega) hno).mono fun e w' ⟨he, hb⟩ => Told3.none_ he hb
    exact shows_main at_ _ 0 1 0 false [] [] [] w H hg hN h0 h1 rfl (fun e => by cases e) (by omega) (by omega) (by omega) AreB.nil
      (fun w1 hb => (iobject_bare at_ w1 (c1.below hb) hbb (by omega) hd hf h1 hno).mono fun e w' ⟨he, hb⟩ => Told3.none_ he hb)
      (fun w1 hb => (robject_bare at_ w1 (c2.below hb) hbb (by omega) hd hf h1 hno).mono fun e w' ⟨he, hb⟩ => Told3.none_ he hb)
      (AT 0) (AT 1)
  · have hkk := hth.2.1.kk
    have hroom := hth.2.1.room
    have e : IntKind.u64.wrap (j : Int) = (j : Int) := by rw [IntKind.wrap_u64]; omega
    exact shows_main j j kk (kk % 4 + 1) (kk % 4) true _ _ _ w H hg hN h0 h1 e (fun _ => by omega) (by omega) rfl rfl (dR_bytes (objB_bytes hbb j s))
      (fun w1 hb => (iobject_yes j kk s w1 (c1.below hb) hbb (by omega) hd hf hth).mono fun e w' h => Told3.some_ hth hl h.toR)
      (fun w1 hb => (robject_yes j kk s w1 (c2.below hb) hbb (by omega) hd hf hth).mono fun e w' h => Told3.some_ hth hl h)
      (fun w1 hb => (iat_yes j kk s w1 (c1.below hb) hbb (by omega) hd hf hth).mono fun e w' h => Told3.some_ hth hl h.toR)
      (fun w1 hb => (iat_other j kk s _ w1 (c1.below hb) hbb (by omega) hd hf hth (by omega)).mono fun e w' ⟨he, hb⟩ => Told3.none_ he hb)
end

end Go.Proofs.Ythdnjjdlhhapbaa
