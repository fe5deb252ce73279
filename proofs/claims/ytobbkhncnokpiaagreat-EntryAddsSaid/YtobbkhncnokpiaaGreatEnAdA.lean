/-
  LAYER 16: what EntryAdds asks of an entry, and at its end.
-/
import Derived.Test.YtobbkhncnokpiaaGreatEnAdM
set_option linter.unusedVariables false
set_option maxRecDepth 100000
set_option linter.unusedSimpArgs false
namespace Go.Proofs.YtobbkhncnokpiaaGreat
open Go.RowKit Go.Shelf

theorem same_yes {B B' : Nat} (A A' : Option Addr) (n n' c c' : Nat) (xs : List Int) (w : World) (hx : Reads w B 1 A n (cellsOf .u8 xs)) (hy : Reads w B' 1 A' n' (cellsOf .u8 xs)) (bx : AreB xs) :
    Calls Tryz.prog 13 #[.slice A n c, .slice A' n' c'] w fun e w' => e = .returned (.bool true) ∧ w = w' := by
  have h := same_any A A' n n' c c' xs xs w hx hy bx bx
  simpa using h
/-- What is asked of an entry that was put in, in any world behind: g, g15 and g17 are boxes. -/
structure AdFive (w wz : World) (p lim : Nat) (v : Value) (m k : Nat) (r : RC) (A : Option Addr) (c g : Nat) (A8 : Option Addr) (g15 g17 b : Nat) (off : Nat) (c1 : Nat) (L : List ByteArray) : Prop where
  at_ : ∃ bs, AdAt w wz p lim v (m + 1) (k + 1) bs
  keep : ∀ wx, Below wz.heap.size wz wx → (RcIn wx g r.seq r.real r.mono r.boot A L.length c ∧ RcIn wx g15 r.seq r.real r.mono r.boot A8 L.length L.length ∧ wx.cell? ⟨g17, 1, none⟩ = some (.slice (some ⟨b, off, none⟩) 5 c1) ∧ wx.cell? ⟨b, off + 4, none⟩ = some (.int .u64 (xorL 3 L)))
  same : ∀ wx, Below wz.heap.size wz wx → Calls Tryz.prog 17 #[.agg #[.int .u64 r.seq, .int .u64 r.real, .int .u64 r.mono, .int .u64 r.boot, .slice A8 L.length L.length], .agg #[.int .u64 r.seq, .int .u64 r.real, .int .u64 r.mono, .int .u64 r.boot, .slice A L.length c]] wx fun e w' => e = .returned (.bool true) ∧ Below wx.heap.size wx w'
  rx : ∀ wx, Below wz.heap.size wz wx → Calls Tryz.prog 18 #[.int .u64 3, .slice A L.length c] wx fun e w' => e = .returned (.int .u64 (xorL 3 L)) ∧ Below wx.heap.size wx w'
  ex : ∀ wx, Below wz.heap.size wz wx → Calls Tryz.prog 19 #[.pointer (some ⟨p, 0, none⟩), .slice A L.length c] wx fun e w' => e = .returned (.int .u64 (xorL 3 L)) ∧ Below wx.heap.size wx w'
section
variable {w wr wx w3 w4 : World} {p lim m k a : Nat} {v : Value} {r : RC} {bs : List Int}
theorem AdTwo.below (H : AdTwo w wr wx w3 p lim v m k r a) : Below w.heap.size w w3 := by
  obtain ⟨S, bs, R, O, Lr, l, R', o, Lr', HS, h1, h2, hb, hc3, -⟩ := H
  have h9 := HS.below.size
  exact (HS.below.trans (hb.mono h9)).trans (hc3.below (Nat.le_trans h9 hb.size) (fun q _ hq => (HS.ed.foot q hq).1))
theorem AdFour.five {w7 w8 w10 : World} {A A8 A2 A3 : Option Addr} {c g b c1 n2 c2 n3 c3 off : Nat} {L : List ByteArray} (H : AdFour w w7 p lim v m k r a A c g L) (hb8 : Below w7.heap.size w7 w8) (ht8 : Txt w8 w8.heap.size A8 L.length L.length L)
    (hb10 : Below (w8.alloc (.cells #[.int .u64 r.seq, .int .u64 r.real, .int .u64 r.mono, .int .u64 r.boot, .slice A8 L.length L.length] 36)).heap.size (w8.alloc (.cells #[.int .u64 r.seq, .int .u64 r.real, .int .u64 r.mono, .int .u64 r.boot, .slice A8 L.length L.length] 36)) w10)
    (hbl : b < w10.heap.size) (hcell : w10.cell? ⟨b, off + 4, none⟩ = some (.int .u64 (xorL 3 L))) :
    AdFive w (w10.alloc (.cells #[.int .i64 3, .slice (some ⟨b, off, none⟩) 5 c1, .slice A2 n2 c2, .slice A3 n3 c3] 44)) p lim v m k r A c g A8 w8.heap.size w10.heap.size b off c1 L := by
  obtain ⟨⟨bs, hA⟩, hT, hB, hsz, -, -, hX⟩ := H
  have h9 := boxed w8 (.cells #[.int .u64 r.seq, .int .u64 r.real, .int .u64 r.mono, .int .u64 r.boot, .slice A8 L.length L.length] 36)
  have h11 := boxed w10 (.cells #[.int .i64 3, .slice (some ⟨b, off, none⟩) 5 c1, .slice A2 n2 c2, .slice A3 n3 c3] 44)
  have hb9 := hb8.trans (h9.mono hb8.size)
  have hbA := hb9.trans (hb10.mono hb9.size)
  have hbB := hbA.trans (h11.mono hbA.size)
  have hg15 := Blk.new w8 36 #[.int .u64 r.seq, .int .u64 r.real, .int .u64 r.mono, .int .u64 r.boot, .slice A8 L.length L.length]
  have hg15b := (hg15.below hb10 hg15.lt).below h11 (hg15.below hb10 hg15.lt).lt
  have hg17 := Blk.new w10 44 #[.int .i64 3, .slice (some ⟨b, off, none⟩) 5 c1, .slice A2 n2 c2, .slice A3 n3 c3]
  have hgb := hB.below hbB hB.lt
  have ht9 := (((ht8.below h9).more h9.size).below hb10).more hb10.size
  have ht11 := (ht9.below h11).more h11.size
  have hTb := (hT.below hbB).more hbB.size
  refine ⟨⟨bs, hA.belowW hbB⟩, fun wx hx => ⟨rcIn_of (hgb.below hx hgb.lt), rcIn_of (hg15b.below hx hg15b.lt), (hg17.below hx hg17.lt).cell 1, ?_⟩, fun wx hx => ?_, fun wx hx => ?_, fun wx hx => hX wx (hbB.trans (hx.mono hbB.size))⟩
  · exact (((h11.trans (hx.mono h11.size)).cell (p := ⟨b, off + 4, none⟩) hbl)).trans hcell
  · have h := resame_any ⟨r.seq, r.real, r.mono, r.boot, A8, L.length, L.length, L⟩ ⟨r.seq, r.real, r.mono, r.boot, A, L.length, c, L⟩ _ _ wx (ht11.below hx) (hTb.below hx) hx.size hx.size
    have hs : RC.same ⟨r.seq, r.real, r.mono, r.boot, A8, L.length, L.length, L⟩ ⟨r.seq, r.real, r.mono, r.boot, A, L.length, c, L⟩ = true := same_refl rfl rfl rfl rfl rfl
    rw [hs] at h
    exact h
  · exact rxor_any A _ c L _ wx (hTb.below hx) hx.size ⟨by decide, by decide⟩ (fun s hs => by have := hsz s hs; omega)

/-- What is asked at the end. -/
theorem AdAt.fin (H : AdAt w wr p lim v m k bs) (hk : k ≤ 40) : ∃ A c l, v = .slice A m c ∧ RecsR wr wr.heap.size A m c l ∧
    (∀ wx, Below wr.heap.size wr wx → Calls Tryz.prog 23 #[.pointer (some ⟨p, 0, none⟩)] wx fun e w' => e = .returned (.int .i64 (m : Nat)) ∧ Below wx.heap.size wx w') ∧
    (∀ wx, Below wr.heap.size wr wx → Calls Tryz.prog 22 #[.pointer (some ⟨p, 0, none⟩)] wx fun e w' => ∃ A' c' l', e = .returned (.slice A' m c') ∧ RecsR w' w'.heap.size A' m c' l' ∧ (∀ (i : Nat) (a b : RC), l'[i]? = some a → l[i]? = some b → a.same b = true) ∧ Below wx.heap.size wx w') ∧
    (∀ q : Nat, q < m → ∃ (pl : Int) (rr : RC), l[q]? = some rr ∧ rr.its.length = rr.n ∧ ∀ wx, Below wr.heap.size wr wx → (Calls Tryz.prog 20 #[.pointer (some ⟨p, 0, none⟩), .int .i64 (q : Nat)] wx fun e w' => e = .returned (.tuple #[.int .u64 pl, .bool true]) ∧ Below wx.heap.size wx w') ∧
      Calls Tryz.prog 15 #[.pointer (some ⟨p, 0, none⟩), .int .u64 pl] wx fun e w' => ∃ A', e = .returned (.tuple #[.agg #[.int .u64 rr.seq, .int .u64 rr.real, .int .u64 rr.mono, .int .u64 rr.boot, .slice A' rr.n rr.n], .bool true]) ∧ Txt w' w'.heap.size A' rr.n rr.n rr.its ∧ Below wx.heap.size wx w') ∧
    (∀ i : Int, -9223372036854775808 ≤ i → i ≤ 9223372036854775807 → (i < 0 ∨ (m : Int) ≤ i) → ∀ wx, Below wr.heap.size wr wx → (Calls Tryz.prog 20 #[.pointer (some ⟨p, 0, none⟩), .int .i64 i] wx fun e w' => e = .returned (.tuple #[.int .u64 0, .bool false]) ∧ Below wx.heap.size wx w') ∧
      Calls Tryz.prog 15 #[.pointer (some ⟨p, 0, none⟩), .int .u64 0] wx fun e w' => e = .returned (.tuple #[rcZ, .bool false]) ∧ Below wx.heap.size wx w') := by
  obtain ⟨S, R, O, Lr, l, HS, h1, h2⟩ := H
  subst h1
  have hlen := HS.len
  obtain ⟨A, c, rfl, hRec⟩ := HS.recs
  have hex : ∀ wx, Below wr.heap.size wr wx → EX 3 4 2 wx w.heap.size S p lim bs R O Lr (304 + 700000 * k) 0 := fun wx hb => (HS.ed.below hb).toEX
  have hO : O.length ≤ 1000 := by omega
  have hll : Lr.length = O.length := by rw [HS.el.lr, List.length_map]
  have hsz : ∀ r ∈ l, ∀ s ∈ r.its, s.size ≤ maxLen := fun r hr s hs => Nat.le_trans (HS.small r hr s hs) (by decide)
  refine ⟨A, c, l, rfl, hRec, fun wx hb => ?_, fun wx hb => ?_, fun q hq => ?_, fun i hi0 hi1 hi wx hb => ⟨?_, eget_zero (hex wx hb)⟩⟩
  · have h := elen_any (hex wx hb) HS.el hO
    rw [hlen] at h
    exact h
  · refine (eall_any (Z := l.map (·.its)) (hex wx hb) HS.el (by rw [List.map_map]; rfl) (fun zs hz s hs => by
      obtain ⟨r, hr, rfl⟩ := List.mem_map.1 hz
      exact hsz r hr s hs) hO).mono ?_
    rintro e w' ⟨v', l', rfl, ho, hl', he, hb'⟩
    obtain ⟨A', c', rfl, hR'⟩ := recs_of ho he
    rw [hl', hlen] at hR' ⊢
    refine ⟨A', c', l', rfl, hR', fun i a b ha hb2 => ?_, hb'⟩
    obtain ⟨o, zs, e1, e2, e3, -⟩ := (he i a ha).ex
    have hw := HS.ob i o b e1 hb2
    rw [List.getElem?_map, hb2] at e2
    have e2 : b.its = zs := by simpa using e2
    rw [e3]
    exact same_refl (by show o.ws.getD 0 0 = _; rw [hw]; rfl) (by show o.ws.getD 1 0 = _; rw [hw]; rfl) (by show o.ws.getD 2 0 = _; rw [hw]; rfl) (by show o.ws.getD 3 0 = _; rw [hw]; rfl) e2.symm
  · obtain ⟨rr, hrr⟩ : ∃ rr, l[q]? = some rr := ⟨_, List.getElem?_eq_getElem hq⟩
    obtain ⟨o, hoo⟩ : ∃ o, O[q]? = some o := ⟨_, List.getElem?_eq_getElem (by omega)⟩
    have hw := HS.ob q _ _ hoo hrr
    have hmem := List.mem_of_getElem? hrr
    have hn := (HS.each _ hmem).1.len
    refine ⟨(o.at_ : Int), rr, hrr, hn, fun wx hb => ⟨?_, ?_⟩⟩
    · have h := enth_any (q : Int) (hex wx hb) HS.el hO (by omega) (by omega)
      obtain ⟨y1, y2⟩ := nth_yes (L := Lr) (q := q) (by omega)
      rw [y1, y2] at h
      have e : Lr.getD q 0 = (o.at_ : Int) := by rw [HS.el.lr, List.getD_eq_getElem?_getD, List.getElem?_map, hoo]; rfl
      rw [e] at h
      exact h
    · have h := eget_yes (hex wx hb) HS.el hoo (by rw [List.getElem?_map, hrr]; rfl : (l.map fun r => r.its.map nums)[q]? = some (rr.its.map nums)) (hsz _ hmem) hO
      unfold RecTold at h
      rw [hw, hn] at h
      exact h
  · have h := enth_any i (hex wx hb) HS.el hO hi0 hi1
    obtain ⟨y1, y2⟩ := nth_no (L := Lr) (i := i) (by omega)
    rw [y1, y2] at h
    exact h
end

end Go.Proofs.YtobbkhncnokpiaaGreat
