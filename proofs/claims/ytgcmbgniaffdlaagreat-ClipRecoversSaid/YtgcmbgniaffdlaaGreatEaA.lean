import Derived.Test.YtgcmbgniaffdlaaGreatEnBase
set_option linter.unusedVariables false
set_option maxRecDepth 100000
set_option linter.unusedSimpArgs false
namespace Go.Proofs.YtgcmbgniaffdlaaGreat
open Go.RowKit Go.Shelf
def newsD (R : List DR) (zs : List (List Int)) : Nat := (zs.filter fun z => (findD R z).isNone).length
theorem newsD_le (R : List DR) (zs : List (List Int)) : newsD R zs <= zs.length := List.length_filter_le _ _
theorem newsD_snoc (R : List DR) (zs : List (List Int)) (z : List Int) : newsD R (zs ++ [z]) = newsD R zs + (if findD R z = none then 1 else 0) := by
 unfold newsD
 rw [List.filter_append, List.length_append]
 congr 1
 by_cases h : findD R z = none
 · rw [if_pos h, List.filter_cons_of_pos (by rw [h]; rfl)]; rfl
 · rw [if_neg h, List.filter_cons_of_neg (by cases e : findD R z with
     | none => exact absurd e h
     | some a => simp)]; rfl
theorem newsD_take (R : List DR) (zs : List (List Int)) (j : Nat) : newsD R (zs.take j) <= newsD R zs := by
 unfold newsD
 exact (List.Sublist.filter _ (List.take_sublist j zs)).length_le
theorem findD_other {R : List DR} {z y : List Int} {a : Nat} (h : y ≠ z) : findD (insD R z a) y = findD R y := by
 unfold insD
 split
 · rfl
 · unfold findD
   rw [List.find?_append]
   cases hc : R.find? (fun r => r.item == y) with
   | some r => rfl
   | none =>
     have : ¬ ((z == y) = true) := fun e => h (eq_of_beq e).symm
     rw [List.find?_cons_of_neg (p := fun r : DR => r.item == y) (a := ⟨z, a, []⟩) this]
     rfl
structure InsAt (R R' : List DR) (zs : List (List Int)) (ps : List Int) (O : List GO) (Lr : List Int) (E : List (List (List Int))) : Prop where
 el : EL R' O Lr E
 len : ps.length = zs.length
 known : ∀ (i : Nat) z, zs[i]? = some z -> ∃ a : Nat, findD R' z = some a /\ ps[i]? = some (a : Int)
 same : ∀ y, y ∉ zs -> findD R' y = findD R y
theorem InsAt.nothing {R : List DR} {O : List GO} {Lr : List Int} {E : List (List (List Int))} (h : EL R O Lr E) : InsAt R R [] [] O Lr E :=
 ⟨h, rfl, fun i z hz => by simp at hz, fun _ _ => rfl⟩
theorem InsAt.ins {R R' : List DR} {zs : List (List Int)} {ps : List Int} {O : List GO} {Lr : List Int} {E : List (List (List Int))} (h : InsAt R R' zs ps O Lr E) {z : List Int} {a b : Nat} (hf : findD (insD R' z a) z = some b) : InsAt R (insD R' z a) (zs ++ [z]) (ps ++ [(b : Int)]) O Lr E := by
 refine ⟨h.el.ins z a, by rw [List.length_append, List.length_append, h.len]; rfl, fun i y hy => ?_, fun y hy => ?_⟩
 · rcases Nat.lt_or_ge i zs.length with hi | hi
   · rw [List.getElem?_append_left hi] at hy
     obtain ⟨c, h1, h2⟩ := h.known i y hy
     exact ⟨c, findD_insD h1, by rw [List.getElem?_append_left (by rw [h.len]; exact hi)]; exact h2⟩
   · rw [List.getElem?_append_right hi] at hy
     have hi0 : i - zs.length = 0 := by
       rcases Nat.eq_zero_or_pos (i - zs.length) with e | e
       · exact e
       · rw [List.getElem?_eq_none (by simp; omega)] at hy; cases hy
     rw [hi0] at hy
     have : z = y := by simpa using hy
     subst this
     exact ⟨b, hf, by rw [List.getElem?_append_right (by rw [h.len]; exact hi), h.len, hi0]; rfl⟩
 · have h1 : y ∉ zs := fun e => hy (List.mem_append.2 (.inl e))
   have h2 : y ≠ z := fun e => hy (List.mem_append.2 (.inr (by simp [e])))
   rw [findD_other h2]
   exact h.same y h1
theorem InsAt.mem {R R' : List DR} {zs : List (List Int)} {ps : List Int} {O : List GO} {Lr : List Int} {E : List (List (List Int))} (h : InsAt R R' zs ps O Lr E) : ∀ z ∈ zs, (findD R' z).isSome = true := fun z hz => by
 obtain ⟨i, hi⟩ := List.getElem?_of_mem hz
 obtain ⟨a, h1, -⟩ := h.known i z hi
 rw [h1]; rfl
theorem InsAt.eq {R R' : List DR} {zs : List (List Int)} {ps : List Int} {O : List GO} {Lr : List Int} {E : List (List (List Int))} (h : InsAt R R' zs ps O Lr E) : ps = zs.map fun z => (((findD R' z).getD 0 : Nat) : Int) := by
 refine List.ext_getElem? fun i => ?_
 rw [List.getElem?_map]
 cases hz : zs[i]? with
 | none =>
   have := List.getElem?_eq_none_iff.1 hz
   rw [List.getElem?_eq_none (by rw [h.len]; exact this)]; rfl
 | some z =>
   obtain ⟨a, h1, h2⟩ := h.known i z hz
   rw [h2]
   show _ = some (((findD R' z).getD 0 : Nat) : Int)
   rw [h1]; rfl
theorem EL.short {R : List DR} {O : List GO} {Lr : List Int} {E : List (List (List Int))} (H : EL R O Lr E) : ∀ r ∈ R, r.L.length <= O.length := fun r hr => by
 rw [H.have_ r hr, List.length_map]
 refine Nat.le_trans (List.length_filter_le _ _) ?_
 rw [List.length_zip]; omega
theorem pushAll_short {R : List DR} {x : Int} {zs : List (List Int)} {n : Nat} (hn : zs.Nodup) (h : ∀ r ∈ R, r.L.length <= n) : ∀ r ∈ pushAll R zs x, r.L.length <= n + 1 := fun r hr => by
 rw [pushAll_eq x zs R hn] at hr
 obtain ⟨q, hq, rfl⟩ := List.mem_map.1 hr
 have := h q hq
 split
 · show (q.L ++ [x]).length <= _
   rw [List.length_append]; simp; omega
 · omega
open Go.RowKit Go.ChangeShapes Go.WideShapes Go.Deep
structure RC where
 seq : Int
 real : Int
 mono : Int
 boot : Int
 A : Option Addr
 n : Nat
 c : Nat
 its : List ByteArray
def RC.cs (r : RC) : List Value := [.int .u64 r.seq, .int .u64 r.real, .int .u64 r.mono, .int .u64 r.boot, .slice r.A r.n r.c]
def RC.v (r : RC) : Value := .agg #[.int .u64 r.seq, .int .u64 r.real, .int .u64 r.mono, .int .u64 r.boot, .slice r.A r.n r.c]
structure RCOk (w : World) (B : Nat) (r : RC) : Prop where
 u0 : 0 <= r.seq /\ r.seq < 18446744073709551616
 u1 : 0 <= r.real /\ r.real < 18446744073709551616
 u2 : 0 <= r.mono /\ r.mono < 18446744073709551616
 u3 : 0 <= r.boot /\ r.boot < 18446744073709551616
 txt : Txt w B r.A r.n r.c r.its
theorem RCOk.below {w w' : World} {B : Nat} {r : RC} (h : RCOk w B r) (hb : Below B w w') : RCOk w' B r := ⟨h.u0, h.u1, h.u2, h.u3, h.txt.below hb⟩
theorem RCOk.more {w : World} {B B' : Nat} {r : RC} (h : RCOk w B r) (hb : B <= B') : RCOk w B' r := ⟨h.u0, h.u1, h.u2, h.u3, h.txt.more hb⟩
structure InRC (w : World) (A : Option Addr) (len cap : Nat) (l : List RC) : Prop where
 length : l.length = len
 le : len <= cap
 cap : cap <= 9223372036854775807
 ok : ∀ x ∈ l, RCOk w w.heap.size x
 cells : 0 < len -> ∃ b off, A = some ⟨b, off, none⟩ /\ b < w.heap.size /\ ∀ i x, l[i]? = some x ->
   w.cell? ⟨b, off + i * 5, none⟩ = some (.int .u64 x.seq) /\ w.cell? ⟨b, off + (i * 5 + 1), none⟩ = some (.int .u64 x.real) /\
   w.cell? ⟨b, off + (i * 5 + 2), none⟩ = some (.int .u64 x.mono) /\ w.cell? ⟨b, off + (i * 5 + 3), none⟩ = some (.int .u64 x.boot) /\ w.cell? ⟨b, off + (i * 5 + 4), none⟩ = some (.slice x.A x.n x.c)
theorem wf_u64 {x : Int} (h : (Lit.int .u64 x).wf = true) : 0 <= x /\ x < 18446744073709551616 := by
 have := bounds_u64 h
 omega
theorem row_add5 (b off k : Nat) : (⟨b, off, none⟩ : Addr).add k = ⟨b, off + k, none⟩ := by unfold Addr.add; split <;> simp_all
section
variable {H : Type} {enc : TypeId × Value -> H} {P : Program} {w : World}
theorem view_tcells {t e : TypeId} {fuel : Nat} {cs : List Value} {x : DataW H × List MemPlace} (ht : P.underlying t = some (.slice e)) (he : P.underlying e = some .string) (hc : P.cellsOf e = 1)
 (h : DataW.trod enc P w 0 (fun _ => true) true fuel t cs = some x) : ∃ A len cap zs, cs = [.slice A len cap] /\ Txt w w.heap.size A len cap zs := by
 rcases open_strings ht he hc h with ⟨hcs, _⟩ | ⟨a, len, cap, zs, hcs, _, hl, hm, hz, _, hcell, hsz⟩
 · exact ⟨none, 0, 0, [], hcs, Txt.nil_ _ _⟩
 · have hz' : zs.length = cap := by simpa using hz
   refine ⟨some a, len, cap, zs.take len, hcs, ⟨?_, fun hn => ⟨a, rfl, ?_, ?_⟩⟩, hl, by unfold maxLen at hm; omega, fun s hs => hsz s (List.mem_of_mem_take hs)⟩
   · rw [cellsT_length, List.length_take, Nat.mul_one]; omega
   · exact block_of_add a 0 ▸ World.block_lt_of_cell? w _ (hcell 0 (by omega))
   · intro j u hu
     have hj : j < (zs.take len).length := by
       rcases Nat.lt_or_ge j (zs.take len).length with h | h
       · exact h
       · rw [List.getElem?_eq_none (by rw [cellsT_length]; exact h)] at hu
         cases hu
     have hj2 : j < len := by rw [List.length_take] at hj; omega
     rw [cellsT_get hj] at hu
     injection hu with hu
     subst hu
     rw [hcell j (by omega)]
     congr 2
     unfold nthT
     simp [List.getD_eq_getElem?_getD, hj2]
     rfl
theorem rc_fields {e et es : TypeId} {f0 f1 f2 f3 f4 : Field} {fuel : Nat} {v0 v1 v2 v3 v4 : Value} {x : DataW H × List MemPlace} (he : P.underlying e = some (.struct #[f0, f1, f2, f3, f4]))
 (o0 : f0.offset = 0) (o1 : f1.offset = 1) (o2 : f2.offset = 2) (o3 : f3.offset = 3) (o4 : f4.offset = 4) (c0 : P.cellsOf f0.type = 1) (c1 : P.cellsOf f1.type = 1) (c2 : P.cellsOf f2.type = 1) (c3 : P.cellsOf f3.type = 1) (c4 : P.cellsOf f4.type = 1)
 (h0 : P.underlying f0.type = some (.int .u64)) (h1 : P.underlying f1.type = some (.int .u64)) (h2 : P.underlying f2.type = some (.int .u64)) (h3 : P.underlying f3.type = some (.int .u64))
 (h4 : P.underlying f4.type = some (.slice es)) (hk : P.underlying es = some .string) (ck : P.cellsOf es = 1)
 (hf : DataW.trod enc P w 0 (fun _ => true) true fuel e [v0, v1, v2, v3, v4] = some x) : ∃ r : RC, RCOk w w.heap.size r /\ v0 = .int .u64 r.seq /\ v1 = .int .u64 r.real /\ v2 = .int .u64 r.mono /\ v3 = .int .u64 r.boot /\ v4 = .slice r.A r.n r.c := by
 obtain ⟨xs, n', _, _, _, hxl, hfs⟩ := DataW.trod_struct he hf
 have g0 := hfs 0 f0 rfl
 have g1 := hfs 1 f1 rfl
 have g2 := hfs 2 f2 rfl
 have g3 := hfs 3 f3 rfl
 have g4 := hfs 4 f4 rfl
 match xs, hxl with
 | [y0, y1, y2, y3, y4], _ =>
   rw [o0, c0] at g0
   rw [o1, c1] at g1
   rw [o2, c2] at g2
   rw [o3, c3] at g3
   rw [o4, c4] at g4
   simp at g0 g1 g2 g3 g4
   obtain ⟨k0, e0, _, w0⟩ := DataW.trod_int h0 g0
   obtain ⟨k1, e1, _, w1⟩ := DataW.trod_int h1 g1
   obtain ⟨k2, e2, _, w2⟩ := DataW.trod_int h2 g2
   obtain ⟨k3, e3, _, w3⟩ := DataW.trod_int h3 g3
   obtain ⟨A4, l4, p4, z4, e4, i4⟩ := view_tcells h4 hk ck g4
   injection e0 with e0
   injection e1 with e1
   injection e2 with e2
   injection e3 with e3
   injection e4 with e4
   exact ⟨⟨k0, k1, k2, k3, A4, l4, p4, z4⟩, ⟨wf_u64 w0, wf_u64 w1, wf_u64 w2, wf_u64 w3, i4⟩, e0, e1, e2, e3, e4⟩
theorem view_rcs {t e es : TypeId} {f0 f1 f2 f3 f4 : Field} {A : Option Addr} {len cap : Nat} {d : DataW H} {p : List MemPlace} (ht : P.underlying t = some (.slice e)) (he : P.underlying e = some (.struct #[f0, f1, f2, f3, f4])) (ce : P.cellsOf e = 5)
 (o0 : f0.offset = 0) (o1 : f1.offset = 1) (o2 : f2.offset = 2) (o3 : f3.offset = 3) (o4 : f4.offset = 4) (c0 : P.cellsOf f0.type = 1) (c1 : P.cellsOf f1.type = 1) (c2 : P.cellsOf f2.type = 1) (c3 : P.cellsOf f3.type = 1) (c4 : P.cellsOf f4.type = 1)
 (h0 : P.underlying f0.type = some (.int .u64)) (h1 : P.underlying f1.type = some (.int .u64)) (h2 : P.underlying f2.type = some (.int .u64)) (h3 : P.underlying f3.type = some (.int .u64))
 (h4 : P.underlying f4.type = some (.slice es)) (hk : P.underlying es = some .string) (ck : P.cellsOf es = 1)
 (h : DataW.Trod enc P w 0 (fun _ => true) true t (.slice A len cap) d p) : ∃ l, InRC w A len cap l := by
 obtain ⟨fuel, hf⟩ := h
 rcases Go.Deep.open_slice ht hf with ⟨hcs, _⟩ | ⟨a, len', cap', m, n, D, Pl, hcs, _, hl, hm, hmm, _, hi⟩
 · simp [Value.cells] at hcs
   obtain ⟨rfl, rfl, rfl⟩ := hcs
   exact ⟨[], { length := rfl, le := Nat.le_refl _, cap := by omega, ok := fun a ha => (List.not_mem_nil ha).elim, cells := fun h => absurd h (by omega) }⟩
 · simp [Value.cells] at hcs
   obtain ⟨rfl, rfl, rfl⟩ := hcs
   have hmc : m = cap := by simpa using hmm
   subst hmc
   rw [ce] at hi
   have each : ∀ i, ∃ r : RC, i < m -> RCOk w w.heap.size r /\ w.cell? (a.add (i * 5)) = some (.int .u64 r.seq) /\ w.cell? (a.add (i * 5 + 1)) = some (.int .u64 r.real) /\
       w.cell? (a.add (i * 5 + 2)) = some (.int .u64 r.mono) /\ w.cell? (a.add (i * 5 + 3)) = some (.int .u64 r.boot) /\ w.cell? (a.add (i * 5 + 4)) = some (.slice r.A r.n r.c) := by
     intro i
     by_cases him : i < m
     · obtain ⟨cs, hcc, ht'⟩ := hi i him
       obtain ⟨_, hlen, hget⟩ := World.cells?_some hcc
       match cs, hlen with
       | [v0, v1, v2, v3, v4], _ =>
         obtain ⟨r, hr, rfl, rfl, rfl, rfl, rfl⟩ := rc_fields (et := e) he o0 o1 o2 o3 o4 c0 c1 c2 c3 c4 h0 h1 h2 h3 h4 hk ck ht'
         refine ⟨r, fun _ => ⟨hr, ?_, ?_, ?_, ?_, ?_⟩⟩
         · have := hget 0 (by omega); rwa [Addr.add_add] at this
         · have := hget 1 (by omega); rwa [Addr.add_add] at this
         · have := hget 2 (by omega); rwa [Addr.add_add] at this
         · have := hget 3 (by omega); rwa [Addr.add_add] at this
         · have := hget 4 (by omega); rwa [Addr.add_add] at this
     · exact ⟨⟨0, 0, 0, 0, none, 0, 0, []⟩, fun h => absurd h him⟩
   obtain ⟨f, hfa⟩ := Classical.axiomOfChoice each
   refine ⟨(List.range len).map f, by simp, hl, by unfold maxLen at hm; omega, fun x hx => ?_, fun hn => ?_⟩
   · obtain ⟨i, hi, rfl⟩ := List.mem_map.1 hx
     exact (hfa i (by have := List.mem_range.1 hi; omega)).1
   · obtain ⟨b, off, spot⟩ := a
     have z0 := (hfa 0 (by omega)).2.1
     have hs : spot = none := by simpa [Addr.add] using World.cell?_spot z0
     subst hs
     refine ⟨b, off, rfl, ?_, fun i r hr => ?_⟩
     · rw [row_add5] at z0
       exact World.block_lt_of_cell? w _ z0
     · have hil : i < len := by
         rcases Nat.lt_or_ge i len with h | h
         · exact h
         · rw [List.getElem?_eq_none (by simpa using h)] at hr; cases hr
       simp [hil] at hr
       subst hr
       have := (hfa i (by omega)).2
       rwa [row_add5, row_add5, row_add5, row_add5, row_add5] at this
end
theorem InRC.at_ {w wr : World} {A : Option Addr} {len cap k : Nat} {l : List RC} (h : InRC w A len cap l) (hb : Below w.heap.size w wr) (hk : k < len) :
 ∃ b off r, A = some ⟨b, off, none⟩ /\ b < w.heap.size /\ l[k]? = some r /\ RCOk w w.heap.size r /\ wr.cell? ⟨b, off + k * 5, none⟩ = some (.int .u64 r.seq) /\ wr.cell? ⟨b, off + k * 5 + 1, none⟩ = some (.int .u64 r.real) /\ wr.cell? ⟨b, off + k * 5 + 2, none⟩ = some (.int .u64 r.mono) /\ wr.cell? ⟨b, off + k * 5 + 3, none⟩ = some (.int .u64 r.boot) /\ wr.cell? ⟨b, off + k * 5 + 4, none⟩ = some (.slice r.A r.n r.c) := by
 obtain ⟨r, hr⟩ : ∃ r, l[k]? = some r := ⟨_, List.getElem?_eq_getElem (by rw [h.length]; exact hk)⟩
 obtain ⟨b, off, rfl, hbB, hc⟩ := h.cells (by omega)
 obtain ⟨h0, h1, h2, h3, h4⟩ := hc k r hr
 have g : ∀ o, wr.cell? ⟨b, o, none⟩ = w.cell? ⟨b, o, none⟩ := fun o => hb.cell (p := ⟨b, o, none⟩) hbB
 exact ⟨b, off, r, rfl, hbB, hr, h.ok r (List.mem_of_getElem? hr), (g _).trans h0, (g _).trans h1, (g _).trans h2, (g _).trans h3, (g _).trans h4⟩
structure ED (hI hM k d f : Int) (w : World) (base : Nat) (S : Nat -> Prop) (p lim : Nat) (bs : List Int) (R : List DR) (O : List GO) (Lr : List Int) (tl : Nat) : Prop where
 ex : ∃ m bv sv l, IX w base S p hI k d f hM m bv sv /\ EV k d f m.b l R O Lr /\ GoodL (newK d f) m l /\ m.lim = lim /\ m.was = bs /\ m.b = bs /\ m.words = []
 small : lim <= 1048576 /\ bs.length <= 1099511627776 /\ bs.length <= tl
 key_ : IsU k
theorem goodL_new {k d f : Int} {b : List Int} {lm : Nat} (hby : AreB b) (D : DB fldI k d f 0 0 b []) (hz : ∀ j, 192 <= j -> nz b j = 0) : GoodL (newK d f) ⟨b, b, [], lm⟩ [] := GoodL.fresh hby D.gb (fun p hp => by
 have h0 := newK_low d f D.hD D.hF
 have hf := D.gb.link_fit h0.1 hp
 rw [gnum_nought hf.1 (fun j hj => hz j (by omega))]
 have := D.gb.low
 omega)
section
variable {hI hM k d f : Int} {w w' : World} {base : Nat} {S : Nat -> Prop} {p lim : Nat} {was bs : List Int} {R : List DR} {O : List GO} {Lr : List Int} {tl cnt : Nat}
theorem ED.toEX (h : ED hI hM k d f w base S p lim bs R O Lr tl) : EX hI hM k d f w base S p lim bs R O Lr tl 0 := by
 obtain ⟨⟨m, bv, sv, l, H, V, hg, hl, hw, hb, hn⟩, hs, hk⟩ := h
 exact ⟨⟨m, bv, sv, l, H, V, hg, hl, hw, by rw [hb]; exact hs.2.2, by rw [hn]; exact Nat.le_refl _⟩, ⟨hs.1, by omega, hs.2.1⟩, hk⟩
theorem ED.old (h : ED hI hM k d f w base S p lim bs R O Lr tl) : Old k d f bs R O Lr := by
 obtain ⟨⟨m, bv, sv, l, H, V, hg, hl, hw, hb, hn⟩, hs, hk⟩ := h
 subst hb
 exact ⟨⟨l, V, hg.far.closed⟩, hg.bb⟩
theorem ED.keep {T : Nat -> Prop} (h : ED hI hM k d f w base S p lim bs R O Lr tl) (hc : Chg T w w') (hT : ∀ j, S j -> ¬ T j) : ED hI hM k d f w' base S p lim bs R O Lr tl := by
 obtain ⟨⟨m, bv, sv, l, H, r⟩, hs, hk⟩ := h
 exact ⟨⟨m, bv, sv, l, H.keep hc hT, r⟩, hs, hk⟩
theorem ED.below (h : ED hI hM k d f w base S p lim bs R O Lr tl) (hb : Below w.heap.size w w') : ED hI hM k d f w' base S p lim bs R O Lr tl := h.keep (Chg.of_below hb (Nat.le_refl _) (fun _ => False)) (fun _ _ e => e)
theorem ED.foot (h : ED hI hM k d f w base S p lim bs R O Lr tl) : ∀ j, S j -> base <= j /\ j < w.heap.size := h.toEX.foot
theorem ED.bas (h : ED hI hM k d f w base S p lim bs R O Lr tl) : base <= w.heap.size := h.toEX.bas
theorem ED.mono {T : Nat -> Prop} (h : ED hI hM k d f w base S p lim bs R O Lr tl) (hS : ∀ j, S j -> T j) (hT : ∀ j, T j -> base <= j /\ j < w.heap.size) : ED hI hM k d f w base T p lim bs R O Lr tl := by
 obtain ⟨⟨m, bv, sv, l, H, r⟩, hs, hk⟩ := h
 exact ⟨⟨m, bv, sv, l, H.mono hS hT, r⟩, hs, hk⟩
theorem ED.more {tl' : Nat} (h : ED hI hM k d f w base S p lim bs R O Lr tl) (ht : tl <= tl') : ED hI hM k d f w base S p lim bs R O Lr tl' := ⟨h.ex, ⟨h.small.1, h.small.2.1, by have := h.small.2.2; omega⟩, h.key_⟩
theorem HX.keep {T : Nat -> Prop} (h : HX hI hM k d f w base S p lim was) (hc : Chg T w w') (hT : ∀ j, S j -> ¬ T j) : HX hI hM k d f w' base S p lim was := by
 obtain ⟨m, bv, sv, H, r⟩ := h
 exact ⟨m, bv, sv, H.keep hc hT, r⟩
theorem HX.below (h : HX hI hM k d f w base S p lim was) (hb : Below w.heap.size w w') : HX hI hM k d f w' base S p lim was := h.keep (Chg.of_below hb (Nat.le_refl _) (fun _ => False)) (fun _ _ e => e)
theorem HX.foot (h : HX hI hM k d f w base S p lim was) : ∀ j, S j -> base <= j /\ j < w.heap.size := by
 obtain ⟨m, bv, sv, H, r⟩ := h
 exact H.foot
theorem HX.mono {T : Nat -> Prop} (h : HX hI hM k d f w base S p lim was) (hS : ∀ j, S j -> T j) (hT : ∀ j, T j -> base <= j /\ j < w.heap.size) : HX hI hM k d f w base T p lim was := by
 obtain ⟨m, bv, sv, H, r⟩ := h
 exact ⟨m, bv, sv, H.mono hS hT, r⟩
theorem back_ed (h : HX hI hM k d f w base S p lim bs) (ho : Old k d f bs R O Lr) (hk : IsU k) (hl : lim <= 1048576) (ht : bs.length <= tl) (ht2 : bs.length <= 1099511627776) :
 Calls Tryz.prog 48 #[.pointer (some ⟨p, 0, none⟩)] w fun e w' => e = .returned (.tuple #[]) /\ Chg S w w' /\ ED hI hM k d f w' base (grow S w w') p lim bs R O Lr tl := by
 obtain ⟨m, bv, sv, H, hg, rfl, rfl, hb, hn⟩ := h
 obtain ⟨⟨l, V, hcl⟩, hby⟩ := ho
 refine (iback_any w H hg hb hn).mono ?_
 rintro e w' ⟨rfl, hchg, bv', sv', H'⟩
 exact ⟨rfl, hchg, ⟨⟨m.back, bv', sv', l, H', V, GoodL.fresh hg.wb V.db.gb hcl, rfl, rfl, rfl, rfl⟩, ⟨hl, ht2, ht⟩, hk⟩⟩
theorem bytes_ed (h : ED hI hM k d f w base S p lim bs R O Lr tl) : Calls Tryz.prog 15 #[.pointer (some ⟨p, 0, none⟩)] w (Told bs w) := by
 obtain ⟨⟨m, bv, sv, l, H, V, hg, hl, hw, hb, hn⟩, hs, hk⟩ := h
 have h9 := ibytes_any w H (by rw [hb]; have := hs.2.1; omega)
 rw [hb] at h9
 exact h9
theorem ED.bytes (h : ED hI hM k d f w base S p lim bs R O Lr tl) : AreB bs := h.old.by_
theorem EX.nodup (h : EX hI hM k d f w base S p lim was R O Lr tl cnt) : (R.map (·.item)).Nodup := by
 obtain ⟨⟨m, bv, sv, l, H, V, r⟩, hs, hk⟩ := h
 exact V.rows.nodup V.db
end
def xorL (k : Int) (zs : List ByteArray) : Int := zs.foldl (fun x s => bits .xor .u64 x (hsh k (nums s))) 0
theorem xorL_snoc (k : Int) (zs : List ByteArray) (s : ByteArray) : xorL k (zs ++ [s]) = bits .xor .u64 (xorL k zs) (hsh k (nums s)) := by unfold xorL; rw [List.foldl_append]; rfl
theorem xorL_next (k : Int) {zs : List ByteArray} {j : Nat} (h : j < zs.length) : xorL k (zs.take (j + 1)) = bits .xor .u64 (xorL k (zs.take j)) (hsh k (nums (nthT zs j))) := by rw [take_nthT h, xorL_snoc]
theorem xorL_isU (k : Int) (zs : List ByteArray) : IsU (xorL k zs) := by
 rcases List.eq_nil_or_concat zs with rfl | ⟨l, s, rfl⟩
 · show IsU 0; exact ⟨by decide, by decide⟩
 · rw [List.concat_eq_append, xorL_snoc]; exact bits_isU .xor (.inl rfl) _ _
section
variable {hI hM k d f : Int} {w w' : World} {base : Nat} {S : Nat -> Prop} {p lim : Nat} {was : List Int} {R : List DR} {O : List GO} {Lr : List Int} {tl cnt : Nat}
theorem sum_ex {B : Nat} (A : Option Addr) (n c : Nat) (zs : List Int) (h : EX hI hM k d f w base S p lim was R O Lr tl cnt) (hr : Reads w B 1 A n (cellsOf .u8 zs)) (hB : B <= w.heap.size) (hz : AreB zs) (hl : n <= c) (hcap : c <= 9223372036854775807) (hn : n <= 140737488355328) :
 Calls Tryz.prog 125 #[.pointer (some ⟨p, 0, none⟩), .slice A n c] w fun e w' => e = .returned (.int .u64 (hsh k zs)) /\ Below w.heap.size w w' := by
 obtain ⟨⟨m, bv, sv, l, H, r⟩, hs, hk⟩ := h
 exact tsum_any A n c zs w H hk hr hB hz hl hcap hn
theorem sumS_ex (s : ByteArray) (h : EX hI hM k d f w base S p lim was R O Lr tl cnt) (hs : s.size <= 100000) :
 Calls Tryz.prog 125 #[.pointer (some ⟨p, 0, none⟩), .slice (some ⟨w.heap.size, 0, none⟩) s.size (capS w s)] (textW w s) fun e w' => e = .returned (.int .u64 (hsh k (nums s))) /\ Below w.heap.size w w' := by
 have hc := capS_le (w := w) (s := s) (by unfold maxLen; omega)
 have hb := textW_below w s
 refine (sum_ex _ _ _ (nums s) (h.below hb) (textW_reads w s) (Nat.le_refl _) (nums_bytes s) hc.1 hc.2 (by omega)).mono ?_
 rintro e w' ⟨h1, h2⟩
 exact ⟨h1, hb.trans (h2.mono hb.size)⟩
set_option maxHeartbeats 1000000 in
theorem exor_any (A : Option Addr) (n c : Nat) (zs : List ByteArray) (B : Nat) (h : EX hI hM k d f w base S p lim was R O Lr tl cnt) (hT : Txt w B A n c zs) (hB : B <= w.heap.size) (hS : ∀ s ∈ zs, s.size <= 100000) :
 Calls Tryz.prog 91 #[.pointer (some ⟨p, 0, none⟩), .slice A n c] w fun e w' => e = .returned (.int .u64 (xorL k zs)) /\ Below w.heap.size w w' := by
 have hl := hT.len
 have hle := hT.le
 have hcap := hT.cap
 have SU := Lib.hid (fun (s : ByteArray) (hs : s.size <= 100000) wx (hb : Below w.heap.size w wx) => sumS_ex s (h.below hb) hs)
 clear h
 go_enter Tryz.func91, Tryz.ntmps91
 go_wp2
 go_loopw [5, 10] (fun x i wr => ∃ j : Nat, j <= n /\ x = .int .u64 (xorL k (zs.take j)) /\ i = .int .i64 j /\ Below w.heap.size w wr) (fun _ i _ => n - (intOf i).toNat)
 case atStart => exact ⟨0, Nat.zero_le _, rfl, rfl, Below.refl _ _⟩
 case round =>
   obtain ⟨j, hj, rfl, rfl, hbw⟩ := hrel
   by_cases hlt : j < n
   · obtain ⟨b, off, rfl, hb, hcell⟩ := hT.at_ (by omega)
     have c0 := (hbw.cell (p := ⟨b, off + j, none⟩) (by show b < _; omega)).trans (hcell j hlt)
     have SZ := Lib.hid (hS _ (nthT_mem (zs := zs) (i := j) (by omega)))
     have HX := Lib.hid (xorL_next k (zs := zs) (j := j) (by omega))
     obtain ⟨s, hs⟩ : ∃ s, nthT zs j = s := ⟨_, rfl⟩
     rw [hs] at c0 SZ HX
     have SS := Lib.hid (SU.out s SZ.out wr hbw)
     obtain ⟨x, hx⟩ : ∃ x, xorL k (zs.take j) = x := ⟨_, rfl⟩
     rw [hx] at HX ⊢
     have HL := Lib.hid hl
     have cv := conv_text s wr
     clear hcell hs hx hT hl
     go_wp2_with (go_at_call 125; refine SS.out.mono ?_; rintro e w1 ⟨rfl, hb1⟩)
     go_roundw
     case rel => exact ⟨j + 1, by omega, by rw [HX.out], by go_num, hbw.trans (hb1.mono hbw.size)⟩
     case measure => simp [intOf]; omega
   · obtain rfl : j = n := by omega
     have HX : Hid (zs.take j = zs) := Lib.hid (List.take_of_length_le (by omega))
     rw [HX.out]
     clear hT hl
     go_wp2
     go_ret
     exact ⟨rfl, hbw⟩
end
theorem Txt.chg {w w' : World} {B n c : Nat} {A : Option Addr} {zs : List ByteArray} {S : Nat -> Prop} (h : Txt w B A n c zs) (hc : Chg S w w') (hB : B <= w.heap.size) (hA : ∀ ad, A = some ad -> ¬ S ad.block) : Txt w' B A n c zs :=
 ⟨h.reads.chg hc hB (fun _ => hA), h.le, h.cap, h.sz⟩
structure Good64 (zs : List ByteArray) : Prop where
 pos : 0 < zs.length
 most : zs.length <= 64
 ok : ∀ s ∈ zs, spOk s = true /\ s.size <= 1024
 nodup : zs.Nodup
theorem Good64.nums {zs : List ByteArray} (h : Good64 zs) : (zs.map nums).Nodup := by
 rw [List.nodup_iff_pairwise_ne, List.pairwise_map]
 exact (List.nodup_iff_pairwise_ne.1 h.nodup).imp fun hne he => hne (nums_inj he)
section
variable {hI hM k d f : Int} {w w' : World} {base : Nat} {S : Nat -> Prop} {p lim : Nat} {was : List Int} {R : List DR} {O : List GO} {Lr : List Int} {tl cnt : Nat}
theorem dintern_ex2 (s : ByteArray) (h : EX hI hM k d f w base S p lim was R O Lr tl cnt) (hc : cnt <= 100000) (htb : tl <= 1099511000000) (ho : spOk s = true) (hs : s.size <= 1024) :
 Calls Tryz.prog 138 #[.pointer (some ⟨p, 0, none⟩), .string s] w fun e w' =>
 (∃ a : Nat, e = .returned (.tuple #[.int .i64 (a : Nat), .int .i64 0]) /\ a <= 1099511627776 /\ Chg S w w' /\ EX hI hM k d f w' base (grow S w w') p lim was (insD R (nums s) a) O Lr (tl + 1200 * (if findD R (nums s) = none then 1 else 0)) (cnt + 3) /\ findD (insD R (nums s) a) (nums s) = some a) ∨
 (findD R (nums s) = none /\ lim < tl + 1200 /\ e = .returned (.tuple #[.int .i64 0, .int .i64 21]) /\ Chg S w w' /\ HX hI hM k d f w' base (grow S w w') p lim was) := by
 obtain ⟨⟨m, bv, sv, l, H, V, hg, rfl, rfl, htl, hcnt⟩, hsm, hk⟩ := id h
 have hmost := V.db.gb.most
 refine (intern_any s w V.db V.rows H hg.bb hk hsm.1 (by omega) hsm.2.2 ho hs).mono ?_
 rintro e w' (⟨a, h1, h2, h3⟩ | ⟨h1, h2, h3, m', hT, e1, e2, e3, e4, e5, e6⟩ | ⟨h1, h2, m', l', hT, hC⟩)
 · left
   have hfd : findD R (nums s) = some a := by rw [<- V.rows.findG]; exact h1
   have hin : insD R (nums s) a = R := by unfold insD; rw [hfd]
   obtain ⟨o, ho1, ho2, ho3, ho4⟩ := findG_some h1
   have hchg := Chg.of_below h3 (Nat.le_refl _) S
   refine ⟨a, h2, by have := (V.db.gb.fine o ho1).2.2; omega, hchg, ?_, by rw [hin]; exact hfd⟩
   rw [hin]
   exact ((h.below h3).mono (T := grow S w w') (fun j hj => .inl hj) (chg_lt H.foot hchg H.bas)).more (by omega) (by omega) (by omega)
 · right
   obtain ⟨hchg, bv', sv', H'⟩ := hT
   exact ⟨by rw [<- V.rows.findG]; exact h1, by omega, h2, hchg, ⟨⟨m', bv', sv', H', e6 hg.toGood, e2, e1, by omega, by omega⟩⟩⟩
 · left
   have hfd : findD R (nums s) = none := by rw [<- V.rows.findG]; exact h1
   have hin : insD R (nums s) m.b.length = R ++ [⟨nums s, m.b.length, []⟩] := by unfold insD; rw [hfd]
   obtain ⟨hchg, hx⟩ := h.of hT (V.came hC) (hC.goodL hg) hC.lim hC.was (tl' := tl + 1200) (by have := hC.most; omega) (cnt' := cnt + 3) (by have := hC.words; omega) (by omega)
   exact ⟨m.b.length, h2, hmost, hchg, by rw [hin, if_pos hfd]; exact hx, by rw [hin]; exact findD_ins hfd⟩
structure ItnAt (hI hM k d f : Int) (w wr : World) (base : Nat) (S : Nat -> Prop) (p lim : Nat) (was : List Int) (R : List DR) (O : List GO) (Lr : List Int) (E : List (List (List Int))) (tl cnt n : Nat) (zs : List (List Int)) (j : Nat) : Prop where
 ex : ∃ Sj R' ps, EX hI hM k d f wr base Sj p lim was R' O Lr (tl + 1200 * newsD R (zs.take j)) (cnt + 3 * j) /\ InsAt R R' (zs.take j) ps O Lr E /\ (∀ q, Sj q -> S q ∨ w.heap.size < q) /\
   wr.ownsRow w.heap.size 27 1 (.slice (some ⟨w.heap.size, 0, none⟩) n n) n (cellsOf .u64 (ps ++ List.replicate (n - j) 0))
 chg : Chg S w wr
 below : w.heap.size < wr.heap.size
theorem places_set {ps : List Int} {n j : Nat} (x : Int) (hj : j < n) (hp : ps.length = j) : (cellsOf .u64 (ps ++ List.replicate (n - j) 0)).set j (.int .u64 x) = cellsOf .u64 ((ps ++ [x]) ++ List.replicate (n - (j + 1)) 0) := by
 rw [cellsOf_set]
 congr 1
 rw [List.set_append_right _ _ (by omega), hp, Nat.sub_self, show n - j = (n - (j + 1)) + 1 by omega, List.replicate_succ, List.append_assoc]
 rfl
theorem ItnAt.next {E : List (List (List Int))} {n j a : Nat} {zs : List (List Int)} {z : List Int} {w2 : World} {wr : World} {Sj : Nat -> Prop} {R' : List DR} {ps : List Int} (hft : ∀ q, S q -> base <= q /\ q < w.heap.size) (HIA : InsAt R R' (zs.take j) ps O Lr E) (hSj : ∀ q, Sj q -> S q ∨ w.heap.size < q) (hfj : ∀ q, Sj q -> base <= q /\ q < wr.heap.size) (hchg : Chg S w wr) (hblw : w.heap.size < wr.heap.size) (hbas : base <= w.heap.size)
 (hr2 : w2.ownsRow w.heap.size 27 1 (.slice (some ⟨w.heap.size, 0, none⟩) n n) n (cellsOf .u64 (ps ++ List.replicate (n - j) 0))) (hc2 : Chg Sj wr w2) (hx2 : EX hI hM k d f w2 base (grow Sj wr w2) p lim was (insD R' z a) O Lr (tl + 1200 * newsD R (zs.take j) + 1200 * (if findD R' z = none then 1 else 0)) (cnt + 3 * j + 3))
 (hf2 : findD (insD R' z a) z = some a) (hz : zs[j]? = some z) (hn : zs.Nodup) (hj : j < n) (hln : zs.length = n) : ItnAt hI hM k d f w (w2.setCell ⟨w.heap.size, j, none⟩ (.int .u64 a)) base S p lim was R O Lr E tl cnt n zs (j + 1) := by
 have hs2 := hc2.size
 have htk : zs.take (j + 1) = zs.take j ++ [z] := by
   obtain ⟨h1, h2⟩ := List.getElem?_eq_some_iff.1 hz
   rw [List.take_succ_eq_append_getElem h1, h2]
 have hpl : ps.length = j := by rw [HIA.len, List.length_take]; omega
 have hnz : z ∉ zs.take j := fun hm => by
   obtain ⟨i, hi, he⟩ := List.mem_take_iff_getElem.1 hm
   obtain ⟨h1, h2⟩ := List.getElem?_eq_some_iff.1 hz
   rw [List.nodup_iff_pairwise_ne, List.pairwise_iff_getElem] at hn
   exact hn i j (by omega) h1 (by omega) (by rw [he, h2])
 have hsm := HIA.same z hnz
 refine ⟨⟨grow Sj wr w2, insD R' z a, ps ++ [(a : Int)], ?_, ?_, fun q hq => ?_, ?_⟩, ?_, ?_⟩
 · rw [htk, newsD_snoc, <- hsm]
   have e1 : tl + 1200 * (newsD R (zs.take j) + (if findD R' z = none then 1 else 0)) = tl + 1200 * newsD R (zs.take j) + 1200 * (if findD R' z = none then 1 else 0) := by rw [Nat.mul_add]; omega
   have e2 : cnt + 3 * (j + 1) = cnt + 3 * j + 3 := by omega
   rw [e1, e2]
   exact hx2.keep (chg_set1 (T := fun q => q = w.heap.size) (Chg.refl _ _) rfl _) (fun q hq e => by
     subst e
     rcases hq with hq | hq
     · rcases hSj _ hq with e | e
       · have := (hft _ e).2; omega
       · omega
     · omega)
 · rw [htk]; exact HIA.ins hf2
 · rcases hq with hq | hq
   · exact hSj q hq
   · right; omega
 · rw [<- places_set (a : Int) hj hpl]
   exact (hr2.stored j (.int .u64 a)).1
 · exact (hchg.trans hc2 (fun q hq hg => (hSj q hg).elim id (fun e => by omega))).setCell (.inl (Nat.le_refl _)) _
 · rw [size_set]; omega
set_option maxHeartbeats 4000000 in
theorem eintern_any {E : List (List (List Int))} {B : Nat} (A : Option Addr) (n c : Nat) (zs : List ByteArray) (h : EX hI hM k d f w base S p lim was R O Lr tl cnt) (hE : EL R O Lr E) (hT : Txt w B A n c zs) (hB : B <= w.heap.size) (hA : ∀ ad, A = some ad -> ¬ S ad.block) (hZ : Good64 zs) (hc : cnt <= 10000) (htb : tl <= 1099000000000) :
 Calls Tryz.prog 89 #[.pointer (some ⟨p, 0, none⟩), .slice A n c] w fun e w' =>
 (∃ R' ps g, e = .returned (.tuple #[.slice (some ⟨g, 0, none⟩) n n, .bool true]) /\ w.heap.size <= g /\ Chg S w w' /\ EX hI hM k d f w' base (fun q => grow S w w' q /\ q ≠ g) p lim was R' O Lr (tl + 1200 * newsD R (zs.map nums)) (cnt + 3 * n) /\ InsAt R R' (zs.map nums) ps O Lr E /\ w'.ownsRow w.heap.size 27 1 (.slice (some ⟨g, 0, none⟩) n n) n (cellsOf .u64 ps)) ∨
 (lim < tl + 1200 * (newsD R (zs.map nums)) /\ (∃ v, e = .returned (.tuple #[v, .bool false])) /\ Chg S w w' /\ HX hI hM k d f w' base (grow S w w') p lim was) := by
 obtain ⟨i0, hi, hz0, hz1, hz2⟩ := info_parts tabWordInfo
 have hl := hT.len
 have hle := hT.le
 have hcap := hT.cap
 have hp := hZ.pos
 have hm := hZ.most
 have hbas := h.bas
 have hft := Lib.hid h.foot
 have hb2 : i0.bytes * n <= 281474976710656 := by rw [hz2]; omega
 have hm3 : n <= maxLen := by unfold maxLen; omega
 have HND := Lib.hid hZ.nums
 have HOK := Lib.hid hZ.ok
 have HTT := Lib.hid (fun wx (hx : Chg S w wx) => hT.chg hx hB hA)
 have H0 := Lib.hid (And.intro h hE)
 have HL := Lib.hid hl
 have hn0 : 0 < n := by omega
 have hn64 : n <= 64 := by omega
 clear h hE hT hA hZ hl hp hm
 go_enter Tryz.func89, Tryz.ntmps89
 go_wp2_with (at_make; refine wpList_make_full _ rfl _ _ 114 rfl w.heap.size 27 i0 (.int .u64 0) 1 Tryz.underlying114 hi hz0 hz1 _ _ _ _ n rfl rfl rfl rfl hb2 hm3 (Nat.le_refl _) ?_; intro w1 hown1 hg1)
 have hst : (madeCells (Value.int .u64 0).cells n).toList = cellsOf .u64 ([] ++ List.replicate (n - 0) 0) := by
   show (madeCells #[Value.int .u64 0] n).toList = _
   rw [toList_madeCells_one]; simp [cellsOf]
 have hb1 : Below w.heap.size w w1 := (Below.refl _ _).grown hg1 (Nat.le_refl _) (by simp)
 have hown2 : w1.ownsRow w.heap.size 27 1 (.slice (some ⟨w.heap.size, 0, none⟩) n n) n (cellsOf .u64 ([] ++ List.replicate (n - 0) 0)) := by
   rw [<- hst]
   simpa using hown1
 have hs1 : w.heap.size < w1.heap.size := (hown2.lt w.heap.size rfl).2
 have HR0 : Hid (ItnAt hI hM k d f w w1 base S p lim was R O Lr E tl cnt n (zs.map nums) 0) := Lib.hid ⟨⟨S, R, [], (H0.out.1.below hb1).more (by omega) (by omega) (by omega), InsAt.nothing H0.out.2, fun q hq => .inl hq, hown2⟩, Chg.of_below hb1 (Nat.le_refl _) S, hs1⟩
 clear hst hown1 hg1 hown2 H0
 go_loopw [16] (fun i wr => ∃ j : Nat, i = .int .i64 j /\ j <= n /\ Hid (ItnAt hI hM k d f w wr base S p lim was R O Lr E tl cnt n (zs.map nums) j)) (fun i _ => n - (intOf i).toNat)
 case atStart => exact ⟨0, rfl, Nat.zero_le _, HR0⟩
 case round =>
   clear HR0
   obtain ⟨j, rfl, hj, HI⟩ := hrel
   by_cases hlt : j < n
   · have HTX := HTT.out _ HI.out.chg
     obtain ⟨b, off, rfl, hb, hcell⟩ := HTX.at_ hn0
     have c0 := hcell j hlt
     have HZ : Hid (nthT zs j ∈ zs /\ (zs.map nums)[j]? = some (nums (nthT zs j))) := Lib.hid ⟨nthT_mem (by rw [HL.out]; exact hlt), by rw [List.getElem?_map, List.getElem?_eq_getElem (by rw [HL.out]; exact hlt), nthT_get (by rw [HL.out]; exact hlt)]; rfl⟩
     obtain ⟨s, hs⟩ : ∃ s, nthT zs j = s := ⟨_, rfl⟩
     rw [hs] at c0 HZ
     obtain ⟨⟨Sj, R', ps, HEX, HIA, hSj, hrow⟩, hchg, hblw⟩ := HI.out
     have hok := HOK.out s HZ.out.1
     have hnw := newsD_le R ((zs.map nums).take j)
     have hnl : ((zs.map nums).take j).length <= 64 := by rw [List.length_take]; omega
     have DI := Lib.hid (dintern_ex2 s HEX (by omega) (by omega) hok.1 hok.2)
     have hpl : ps.length = j := by rw [HIA.len, List.length_take, List.length_map, HL.out]; omega
     have HPS := Lib.hid (fun (x : Int) => places_set (n := n) x hlt hpl)
     have hrs : ∀ g, (Value.slice (some (⟨w.heap.size, 0, none⟩ : Addr)) n n).ownBlock = some g -> ¬ Sj g := fun g hg e => by
       have : w.heap.size = g := by simpa [Value.ownBlock] using hg
       subst this
       rcases hSj _ e with e | e
       · have := (hft.out _ e).2; omega
       · omega
     have HRW := Lib.hid (fun wx (hx : Chg Sj wr wx) => own_chg hrow hx hrs)
     have HC0 := Lib.hid (fun (w2 : World) (hr2 : w2.ownsRow w.heap.size 27 1 (.slice (some ⟨w.heap.size, 0, none⟩) n n) n (cellsOf .u64 (ps ++ List.replicate (n - j) 0))) => (show ∃ z0 : Int, w2.cell? ⟨w.heap.size, j, none⟩ = some (.int .u64 z0) from by
       have q1 := hr2.cellAt j (by omega)
       rw [cellsOf_get (by rw [List.length_append, List.length_replicate]; omega)] at q1
       exact ⟨_, q1⟩))
     have HALL := Lib.hid (fun (w2 : World) (a : Nat) hr2 hc2 hx2 hf2 => ItnAt.next (hI := hI) (hM := hM) (k := k) (d := d) (f := f) (p := p) (lim := lim) (was := was) (tl := tl) (cnt := cnt) (w2 := w2) (a := a) hft.out HIA hSj HEX.foot hchg hblw hbas hr2 hc2 hx2 hf2 HZ.out.2 HND.out hlt (by rw [List.length_map]; exact HL.out))
     have HBAD := Lib.hid (fun (w2 : World) (hc2 : Chg Sj wr w2) (hh2 : HX hI hM k d f w2 base (grow Sj wr w2) p lim was) => (show Chg S w w2 /\ HX hI hM k d f w2 base (grow S w w2) p lim was from by
       have hcc := hchg.trans hc2 (fun q hq hg => (hSj q hg).elim id (fun e => by omega))
       have := hc2.size
       refine ⟨hcc, hh2.mono (fun q hq => ?_) (chg_lt hft.out hcc hbas)⟩
       rcases hq with hq | hq
       · rcases hSj q hq with e | e
         · exact .inl e
         · have := (HEX.foot q hq).2; right; omega
       · right; omega))
     have HLM := Lib.hid (show findD R' (nums s) = none -> lim < tl + 1200 * newsD R ((zs.map nums).take j) + 1200 -> lim < tl + 1200 * newsD R (zs.map nums) from fun h1 h2 => by
       have hz := HZ.out.2
       obtain ⟨h3, h4⟩ := List.getElem?_eq_some_iff.1 hz
       have h5 := newsD_take R (zs.map nums) (j + 1)
       rw [List.take_succ_eq_append_getElem h3, h4, newsD_snoc] at h5
       have hnz : nums s ∉ (zs.map nums).take j := fun hm => by
         obtain ⟨i, hi, he⟩ := List.mem_take_iff_getElem.1 hm
         have hn := HND.out
         rw [List.nodup_iff_pairwise_ne, List.pairwise_iff_getElem] at hn
         exact hn i j (by omega) h3 (by omega) (by rw [he, h4])
       rw [HIA.same _ hnz] at h1
       rw [if_pos h1] at h5
       omega)
     clear hcell HTX hs hok hnw hnl HEX HIA hSj hrow hchg hblw hpl hrs HPS
     go_wp2_with (go_at_call 138; refine DI.out.mono ?_; rintro e w2 (⟨a, rfl, ha, hc2, hx2, hf2⟩ | ⟨hf2, hlm, rfl, hc2, hh2⟩) <;> first | (have hr2 := HRW.out w2 hc2; obtain ⟨z0, q1⟩ := HC0.out w2 hr2; have q2 := hr2.frozenAt j; have hwa : IntKind.u64.wrap (a : Int) = (a : Int) := wrap_u64_of (by omega) (by omega); have HN := Lib.hid (HALL.out w2 a hr2 hc2 hx2 hf2); clear hr2 hc2 hx2 hf2) | (have HB := Lib.hid (HBAD.out w2 hc2 hh2); have HM := Lib.hid (HLM.out hf2 hlm); clear hc2 hh2 hf2 hlm))
     · go_roundw
       case rel => exact ⟨j + 1, by go_num, by omega, HN⟩
       case measure => simp [intOf]; omega
     · go_ret2
       exact .inr ⟨HM.out, ⟨_, rfl⟩, HB.out.1, HB.out.2⟩
   · obtain rfl : j = n := by omega
     have HTK : Hid ((zs.map nums).take j = zs.map nums) := Lib.hid (List.take_of_length_le (by rw [List.length_map, HL.out]; exact Nat.le_refl _))
     clear HTT HOK
     go_wp2
     go_ret2
     left
     obtain ⟨⟨Sj, R', ps, HEX, HIA, hSj, hrow⟩, hchg, hblw⟩ := HI.out
     rw [HTK.out] at HEX HIA
     refine ⟨R', ps, w.heap.size, rfl, Nat.le_refl _, hchg, ?_, HIA, ?_⟩
     · refine HEX.mono (fun q hq => ?_) (fun q hq => chg_lt hft.out hchg hbas q hq.1)
       rcases hSj q hq with e | e
       · exact ⟨.inl e, by have := (hft.out q e).2; omega⟩
       · exact ⟨.inr ⟨by omega, (HEX.foot q hq).2⟩, by omega⟩
     · rw [Nat.sub_self, List.replicate_zero, List.append_nil] at hrow
       exact hrow
end
section
variable {fld : List Int -> List Int} {base p : Nat} {S : Nat -> Prop} {i k d f h : Int} {m : IM} {bv sv : Value} {ex : Nat} {l : List GO} {w : World}
set_option maxHeartbeats 1000000 in
theorem gappend_nil (x : Int) (hx : IsU x) (w : World) (D : DB fld k d f 0 ex m.b l) (H : IX w base S p i k d f h m bv sv) (hb : AreB m.b) (hlim : m.lim <= 1048576) (hN : m.words.length <= 1000000000) (hwl : m.was.length <= 1099511627776)
 {rt : Nat} (hp : ArRoot l rt) {Ld : List Int} (hLI : LI ((arrsG l rt).map GO.arow) Ld) (hmost : Ld.length <= 1000000000) (hnil : Ld.length <= 3) :
 Calls Tryz.prog 94 #[.pointer (some ⟨p, 0, none⟩), .int .i64 (rt : Nat), .int .u64 x] w fun e w' =>
 (x = 0 /\ e = .returned (.int .i64 1) /\ Below w.heap.size w w') ∨ (¬ x = 0 /\ m.lim < m.b.length + 56 /\ e = .returned (.int .i64 21) /\ Below w.heap.size w w') ∨
 (¬ x = 0 /\ e = .returned (.int .i64 0) /\ ∃ m' l', IXT base S p i k d f h m' w w' /\ Appended fld k d f ex m m' l l' rt Ld x /\ m'.b.length <= m.b.length + 56) := by
 have hs := same2_G (arrsG l rt)
 have HL := D.listAt H hb hp hLI hmost
 have h0 := newK_low d f D.hD D.hF
 have hlk := (D.arrs rt hp).link_at D.gb (D.ar_root hp) D.ar_w
 have hfit : lkG rt 0 (arrsG l rt) + 8 <= m.b.length /\ lkG rt 0 (arrsG l rt) % 8 = 0 := D.gb.root_fit hlk.1
 have hlow := D.gb.root_low (by omega) hlk.1
 have hlen : ((arrsG l rt).map GO.arow).length = (arrsG l rt).length := List.length_map ..
 have hput : ∀ t, ((arrsG l rt).map GO.it).getLast? = some t -> (placesA t.is).length < t.is.length -> ∃ c' q, arrsG l rt = c' ++ [q] /\ t = q.it /\ (placesA t.is).length = Ld.length - roomC c'.length := fun t ht hfr => by
   rcases List.eq_nil_or_concat (arrsG l rt) with e | ⟨c', q, e⟩
   · rw [e] at ht; simp at ht
   · rw [List.concat_eq_append] at e
     rw [e, List.map_append] at ht
     have e2 : q.it = t := by simpa using ht
     subst e2
     have h9 := hLI
     rw [e, List.map_append] at h9
     have h10 := (LI.last_places (c := c'.map GO.arow) (q := q.arow) h9).1
     rw [List.length_map] at h10
     exact ⟨c', q, e, rfl, h10⟩
 refine (cappend_any rt x hx w HL H hb D.hD D.hF D.gb.most hlim hN hwl (fun t ht hfr => ?_) (fun _ => ?_)).mono ?_
 · obtain ⟨c', q, e, rfl, hn⟩ := hput t ht hfr
   have hq := arrsG_mem (show q ∈ arrsG l rt by rw [e]; simp)
   obtain ⟨⟨a1, a2, a3⟩, -⟩ := aputG D e hLI hn hfr (x := 1) (by decide) ⟨by decide, by decide⟩
   have := D.gb.fine q hq.1
   have := this.1.al
   exact ⟨a2, by show q.at_ % 8 = 0; omega, by show 192 <= q.at_; omega, a1⟩
 · rw [lkI_map]
   exact ⟨hfit.1, hfit.2, hlow, hlk.2⟩
 · intro e w' hT
   have hfl : FullI ((arrsG l rt).map GO.it) -> (arrsG l rt).length = 0 := fun h2 => by
     have hfull := hLI.full hs h2
     rw [hlen] at hfull
     rcases Nat.eq_zero_or_pos (arrsG l rt).length with e | e
     · exact e
     · obtain ⟨q, hq⟩ : ∃ q, (arrsG l rt).length = q + 1 := ⟨_, (Nat.sub_add_cancel e).symm⟩
       rw [hq] at hfull
       have hz := (sizeC_bd q).1
       unfold roomC at hfull
       omega
   have hn8 : FullI ((arrsG l rt).map GO.it) -> (encO 4 [0] [] (newA ((arrsG l rt).map GO.it).length x)).length <= 56 := fun h2 => by
     have e0 := hfl h2
     have e9 : ((arrsG l rt).map GO.it).length = 0 := by rw [List.length_map]; exact e0
     rw [e9]
     have hz : sizeC 0 = 4 := rfl
     have hnA : (newA 0 x).length = 4 := by unfold newA; rw [hz]; rfl
     have hr : rightN 4 ([0] : List Int).length ([] : List Int).length (newA 0 x).length = true := by rw [hnA]; rfl
     rw [encO_length hr, hnA]
     decide
   have hnl : (encO 4 [0] [] (newA ((arrsG l rt).map GO.it).length x)).length <= 8216 /\ 0 < (encO 4 [0] [] (newA ((arrsG l rt).map GO.it).length x)).length := by
     generalize ((arrsG l rt).map GO.it).length = N
     have hz := sizeC_bd N
     have hnA : (newA N x).length = sizeC N := by
       unfold newA
       rw [List.length_cons, List.length_replicate]; omega
     have hr : rightN 4 ([0] : List Int).length ([] : List Int).length (newA N x).length = true := by
       rw [hnA]
       unfold rightN
       have e1 : hasI 4 = true := rfl
       have e2 : mostN 4 = 1024 := rfl
       have e3 : kwN 4 = 1 := rfl
       rw [e1, e2, e3]
       simp only [List.length_cons, List.length_nil]
       simp; omega
     rw [encO_length hr, hnA]
     unfold bareN
     have e4 : frontN 4 = 24 := rfl
     rw [e4, List.length_nil, Nat.add_zero, padn_alen]
     omega
   rcases hT with ⟨h1, h2, h3⟩ | ⟨h1, t, h2, h3, h4, h5⟩ | ⟨h1, h2, h3, h4, h5⟩ | ⟨h1, h2, h3, h4, h5⟩
   · exact .inl ⟨h1, h2, h3⟩
   · obtain ⟨c', q, e2, rfl, hn⟩ := hput t h2 h3
     have hq := arrsG_mem (show q ∈ arrsG l rt by rw [e2]; simp)
     obtain ⟨⟨a1, a2, a3⟩, a4, a5, a6⟩ := aputG D e2 hLI hn h3 h1 hx
     have hsl : (splice m.b (q.at_ + 24 + 8 * (placesA q.its).length) (bts x 8)).length = m.b.length := splice_len _ _ _ (by rw [bts8_length]; exact a2)
     have hid : ∀ r ∈ l, r.k ≠ 4 -> setI q.at_ (placesA q.its).length x r = r := fun r hr hk => setI_ne fun e => hk (by rw [D.gb.one hr hq.1 e]; exact hq.2.1)
     have hlo2 := (D.gb.fine q hq.1).2.1
     have hlo3 : 192 <= q.at_ + 24 + 8 * (placesA q.its).length := by omega
     refine .inr (.inr ⟨h1, h4, _, _, h5, ⟨a4, splice_bytes hb (bts_bytes _ _) _, rfl, rfl, ?_, ?_, ?_, a5, a6, ⟨setI q.at_ (placesA q.its).length x, datG_map (fun r _ => setI_k _ _ _ _), fun o ho => ⟨setI_raw _ _ _ _, setI_at _ _ _ _, by rw [setI_ws]⟩⟩, ?_, fun hg => hg.put8 a2 a3 hlo3 a1, fun h7 h8 hg => D.far_put hq.1 hq.2.1 h3 hx hg h7 h8⟩, by show (splice m.b (q.at_ + 24 + 8 * (placesA q.its).length) (bts x 8)).length <= _; omega⟩)
     · show (if _ then _ else _ : List Nat).length <= _
       split
       · simp
       · omega
     · show (splice m.b (q.at_ + 24 + 8 * (placesA q.its).length) (bts x 8)).length <= _; omega
     · show _ <= (splice m.b (q.at_ + 24 + 8 * (placesA q.its).length) (bts x 8)).length; omega
     · exact filter_k3 (fun r => setI_k _ _ _ _) (fun r hr hk => hid r hr (by omega))
   · have := hn8 h2
     exact .inr (.inl ⟨h1, by omega, h4, h5⟩)
   · have hfull := hLI.full hs h2
     rw [hlen] at hfull
     obtain ⟨n, hn⟩ : ∃ n : GO, n = ⟨rt, m.b.length, 4, [0], [], x :: List.replicate (sizeC (arrsG l rt).length - 1) 0⟩ := ⟨_, rfl⟩
     have hnb : n.bs = encO 4 [0] [] (newA ((arrsG l rt).map GO.it).length x) := by rw [hn, List.length_map]; rfl
     have hnlen : n.len = (encO 4 [0] [] (newA ((arrsG l rt).map GO.it).length x)).length := by unfold GO.len; rw [hnb]
     have hnk : n.k = 4 := by rw [hn]
     obtain ⟨a1, a2, a3, a4, a5, a6⟩ := anewG D hp hLI hfull h1 hx hn (by rw [hnlen]; have := hlim; omega) rfl
     have hsl : (splice (m.b ++ n.bs) (lkG rt 0 (arrsG l rt)) (bts (m.b.length : Nat) 8)).length = m.b.length + n.len := by
       rw [splice_len _ _ _ (by rw [bts8_length, List.length_append]; omega), List.length_append]; rfl
     have hnB : AreB n.bs := by rw [hnb]; exact encO_bytes (by intro z hz; cases hz)
     rw [lkI_map, <- hnb] at h5
     refine .inr (.inr ⟨h1, h4, _, _, h5, ⟨a2, splice_bytes (hb.append hnB) (bts_bytes _ _) _, rfl, rfl, ?_, ?_, ?_, a3, a4, ⟨stP (lkG rt 0 (arrsG l rt)) (m.b.length : Nat), ?_, fun o ho => ⟨stP_raw _ _ _, stP_at _ _ _, ?_⟩⟩, ?_, fun hg => (hg.add hnB).put8 (by show _ <= (m.b ++ n.bs).length; rw [List.length_append]; omega) hfit.2 hlow ((gnum_add hfit.1).trans hlk.2), fun h7 h8 hg => D.far_array hp hx hn (by rw [hnlen]; have := hlim; omega) a2 hg h8⟩, by show (splice (m.b ++ n.bs) (lkG rt 0 (arrsG l rt)) (bts (m.b.length : Nat) 8)).length <= _; have := hn8 h2; omega⟩)
     · show (if _ then _ else _ : List Nat).length <= _
       split
       · simp [IM.add]
       · show m.words.length <= _; omega
     · show (splice (m.b ++ n.bs) (lkG rt 0 (arrsG l rt)) (bts (m.b.length : Nat) 8)).length <= _; omega
     · show _ <= (splice (m.b ++ n.bs) (lkG rt 0 (arrsG l rt)) (bts (m.b.length : Nat) 8)).length; omega
     · rw [datG_map (fun r _ => stP_k _ _ _), datG_snoc, if_neg (by omega)]
     · obtain ⟨g1, g2⟩ := datG_mem.1 ho
       exact a5 o g1 3 (by have := (D.gb.fine o g1).1.kk.2.1 g2; omega) (fun _ => by decide) (by omega)
     · rw [filter_k3 (fun r => stP_k _ _ _) (fun r hr hk => ?_), List.filter_append, List.filter_cons_of_neg (by rw [hnk]; decide), List.filter_nil, List.append_nil]
       rcases List.mem_append.1 hr with h9 | h9
       · exact a6 r h9 (by omega) (by omega)
       · rw [List.mem_singleton.1 h9] at hk; omega
end
section
variable {hI hM k d f : Int} {w w' : World} {base : Nat} {S : Nat -> Prop} {p lim : Nat} {was : List Int} {R : List DR} {O : List GO} {Lr : List Int} {tl cnt : Nat}
theorem listed_nil (x : Int) (hx : IsU x) (hx0 : ¬ x = 0) (h : EX hI hM k d f w base S p lim was R O Lr tl cnt) (hc : cnt <= 100000) (hln : Lr.length <= 3) (hxo : ∃ o ∈ O, x = (o.at_ : Int) /\ was.length <= o.at_) :
 Calls Tryz.prog 94 #[.pointer (some ⟨p, 0, none⟩), .int .i64 192, .int .u64 x] w fun e w' =>
 (e = .returned (.int .i64 0) /\ Chg S w w' /\ EX hI hM k d f w' base (grow S w w') p lim was R O (Lr ++ [x]) (tl + 56) (cnt + 1)) ∨ (lim < tl + 56 /\ e = .returned (.int .i64 21) /\ Below w.heap.size w w') := by
 obtain ⟨⟨m, bv, sv, l, H, V, hg, rfl, rfl, htl, hcnt⟩, hsm, hk⟩ := id h
 refine (gappend_nil x hx w V.db H hg.bb hsm.1 (by omega) hsm.2.2 (rt := 192) (.inl rfl) V.root (by omega) hln).mono ?_
 rintro e w' (⟨e1, -⟩ | ⟨-, e1, e2, e3⟩ | ⟨-, e1, m', l', hT, hA, hm⟩)
 · exact absurd e1 hx0
 · exact .inr ⟨by omega, e2, e3⟩
 · obtain ⟨oe, hoe, hxe, hle⟩ := hxo
   obtain ⟨hchg, hx⟩ := h.of hT (V.listed hA) (hA.goodL (by omega) (by rw [hxe]; exact V.ob_lt hoe) hg) hA.lim hA.was (tl' := tl + 56) (by omega) (cnt' := cnt + 1) (by have := hA.words; omega) (by omega)
   exact .inl ⟨e1, hchg, hx⟩
theorem refer_nil (h : EX hI hM k d f w base S p lim was R O Lr tl cnt) {j : Nat} {r : DR} (hr : R[j]? = some r) (x : Int) (hx : IsU x) (hx0 : ¬ x = 0) (hc : cnt <= 100000) (hLn : r.L = []) (hxo : ∃ o ∈ O, x = (o.at_ : Int) /\ was.length <= o.at_) :
 Calls Tryz.prog 93 #[.pointer (some ⟨p, 0, none⟩), .int .i64 r.at_, .int .u64 x] w fun e w' =>
 e = .returned (.int .i64 0) /\ Chg S w w' /\ EX hI hM k d f w' base (grow S w w') p lim was (R.set j { r with L := r.L ++ [x] }) O Lr tl (cnt + 1) := by
 obtain ⟨y, its0, Ld0, hID, -, hLE⟩ := h.dat hr (by rw [hLn]; simp)
 obtain ⟨⟨m, bv, sv, l, H, V, hg, rfl, rfl, htl, hcnt⟩, hsm, hk⟩ := id h
 have D := V.db
 obtain ⟨o, hoj, ho, hok, horaw, hoat, Ld, hLI, hE⟩ := V.rows.obj hr
 have hmost := D.gb.most
 have hof := D.gb.fine o ho
 have hfr := hof.1.front
 have hw5 := hof.1.kk.2.1 hok
 have hal := hof.1.al
 have h0 := newK_low d f D.hD D.hF
 have hlo := hof.2.1
 obtain ⟨oe, hoe, hxe, hle⟩ := hxo
 have hxb : x < m.b.length := by rw [hxe]; exact V.ob_lt hoe
 have hxw : (m.was.length : Int) <= x := by omega
 have hw40 : m.word ((r.at_ + 40 : Nat) : Int) = o.ws.getD 3 0 := by
   rw [<- hoat]
   exact D.gb.word (i := 3) ho (by omega)
 have hy0 : y = 0 := by
   by_cases hy0 : y = 0
   · exact hy0
   · rw [hLE, entsL, if_neg hy0] at hLn; cases hLn
 have hyw : o.ws.getD 3 0 = 0 := by
   rcases hE with ⟨e1, -, -⟩ | ⟨-, e2⟩
   · exact e1
   · rw [hLn] at e2; cases e2
 have V2 := V.first hr hoj hLn hx hx0
 rw [hoat] at V2
 subst hy0
 have hz : gnum m.b (r.at_ + 40 : Nat) 8 = 0 := by
   have := D.gb.word (i := 3) ho (by omega)
   rw [hoat] at this
   exact this.trans hyw
 refine (referD_first (Q := fun wx w' => IXT base S p hI k d f hM (m.put8 (r.at_ + 40) x) wx w') x w hID hx0 fun wx hb => ?_).mono ?_
 · exact iset_yes (r.at_ + 40) x wx (H.below hb) hg.bb (by omega) (by omega) (by omega) hmost (by omega) hsm.2.2 (by rw [hw40]; exact hyw)
 · rintro e w' ⟨rfl, wx, hb, hT⟩
   have hT2 := IXT.step H.foot H.bas (Chg.of_below hb (Nat.le_refl _) S) (fun _ e => .inl e) hT
   obtain ⟨hchg, hx⟩ := h.of hT2 V2 ⟨hg.toGood.put8 (by omega) (by omega) (by omega) hz, D.far_word V2.db (.inr (.inr ⟨o, ho, .inl ⟨hok, 3, by omega, by omega, by omega⟩⟩)) hx hg hxw hxb⟩ rfl rfl (tl' := tl) (by
     show (splice m.b _ _).length <= _
     rw [splice_len _ _ _ (by rw [bts8_length]; omega)]
     omega) (cnt' := cnt + 1) (by have := put8_words (m := m) (q := r.at_ + 40) (v := x); omega) (by omega)
   exact ⟨rfl, hchg, hx⟩
theorem refer_few (h : EX hI hM k d f w base S p lim was R O Lr tl cnt) {j : Nat} {r : DR} (hr : R[j]? = some r) (x : Int) (hx : IsU x) (hx0 : ¬ x = 0) (hc : cnt <= 100000) (hln : r.L.length <= 4) (hxo : ∃ o ∈ O, x = (o.at_ : Int) /\ was.length <= o.at_) :
 Calls Tryz.prog 93 #[.pointer (some ⟨p, 0, none⟩), .int .i64 r.at_, .int .u64 x] w fun e w' =>
 (e = .returned (.int .i64 0) /\ Chg S w w' /\ EX hI hM k d f w' base (grow S w w') p lim was (R.set j { r with L := r.L ++ [x] }) O Lr (tl + 56) (cnt + 1)) ∨ (lim < tl + 56 /\ e = .returned (.int .i64 21) /\ Below w.heap.size w w') := by
 obtain ⟨y, its0, Ld0, hID, -, hLE⟩ := h.dat hr (by omega)
 obtain ⟨⟨m, bv, sv, l, H, V, hg, rfl, rfl, htl, hcnt⟩, hsm, hk⟩ := id h
 have D := V.db
 obtain ⟨o, hoj, ho, hok, horaw, hoat, Ld, hLI, hE⟩ := V.rows.obj hr
 have hmost := D.gb.most
 have hof := D.gb.fine o ho
 have hfr := hof.1.front
 have hw5 := hof.1.kk.2.1 hok
 have hal := hof.1.al
 have h0 := newK_low d f D.hD D.hF
 have hlo := hof.2.1
 obtain ⟨oe, hoe, hxe, hle⟩ := hxo
 have hxb : x < m.b.length := by rw [hxe]; exact V.ob_lt hoe
 have hxw : (m.was.length : Int) <= x := by omega
 have hrt : ArRoot l (o.at_ + 48) := .inr ⟨o, ho, hok, rfl⟩
 have hw40 : m.word ((r.at_ + 40 : Nat) : Int) = o.ws.getD 3 0 := by
   rw [<- hoat]
   exact D.gb.word (i := 3) ho (by omega)
 have hyw : o.ws.getD 3 0 = y := by
   by_cases hy0 : y = 0
   · rw [hy0, entsL, if_pos rfl] at hLE
     rcases hE with ⟨e1, -, -⟩ | ⟨-, e2⟩
     · rw [e1, hy0]
     · rw [hLE] at e2; cases e2
   · rw [entsL, if_neg hy0] at hLE
     rcases hE with ⟨-, -, e3⟩ | ⟨-, e2⟩
     · rw [hLE] at e3; cases e3
     · rw [hLE] at e2; injection e2 with e2 _; exact e2.symm
 by_cases hy0 : y = 0
 · have hLn : r.L = [] := by rw [hLE, hy0]; exact if_pos rfl
   have V2 := V.first hr hoj hLn hx hx0
   rw [hoat] at V2
   subst hy0
   have hz : gnum m.b (r.at_ + 40 : Nat) 8 = 0 := by
     have := D.gb.word (i := 3) ho (by omega)
     rw [hoat] at this
     exact this.trans hyw
   refine (referD_first (Q := fun wx w' => IXT base S p hI k d f hM (m.put8 (r.at_ + 40) x) wx w') x w hID hx0 fun wx hb => ?_).mono ?_
   · exact iset_yes (r.at_ + 40) x wx (H.below hb) hg.bb (by omega) (by omega) (by omega) hmost (by omega) hsm.2.2 (by rw [hw40]; exact hyw)
   · rintro e w' ⟨rfl, wx, hb, hT⟩
     left
     have hT2 := IXT.step H.foot H.bas (Chg.of_below hb (Nat.le_refl _) S) (fun _ e => .inl e) hT
     obtain ⟨hchg, hx⟩ := h.of hT2 V2 ⟨hg.toGood.put8 (by omega) (by omega) (by omega) hz, D.far_word V2.db (.inr (.inr ⟨o, ho, .inl ⟨hok, 3, by omega, by omega, by omega⟩⟩)) hx hg hxw hxb⟩ rfl rfl (tl' := tl + 56) (by
       show (splice m.b _ _).length <= _
       rw [splice_len _ _ _ (by rw [bts8_length]; omega)]
       omega) (cnt' := cnt + 1) (by have := put8_words (m := m) (q := r.at_ + 40) (v := x); omega) (by omega)
     exact ⟨rfl, hchg, hx⟩
 · have hLc : r.L = y :: Ld := by
     rcases hE with ⟨e1, -, -⟩ | ⟨-, e2⟩
     · exact absurd (hyw.symm.trans e1) hy0
     · rw [hyw] at e2; exact e2
   have hLl : Ld.length <= 3 := by rw [hLc, List.length_cons] at hln; omega
   refine (referD_gen (Q := fun ec wx w' => (ec = 0 /\ ∃ m' l', IXT base S p hI k d f hM m' wx w' /\ Appended fldI k d f 0 m m' l l' (o.at_ + 48) Ld x /\ m'.b.length <= m.b.length + 56) ∨ (ec = 21 /\ m.lim < m.b.length + 56 /\ Below wx.heap.size wx w')) x y w hID hx0 hy0 fun wx hb => ?_).mono ?_
   · have h9 := gappend_nil x hx wx D (H.below hb) hg.bb hsm.1 (by omega) hsm.2.2 hrt hLI (by omega) (by omega)
     rw [hoat] at h9
     refine h9.mono ?_
     rintro e w' (⟨e1, -⟩ | ⟨-, e1, e2, e3⟩ | ⟨-, e1, m', l', hT, hA, hm5⟩)
     · exact absurd e1 hx0
     · exact ⟨21, e2, .inr ⟨rfl, e1, e3⟩⟩
     · exact ⟨0, e1, .inl ⟨rfl, m', l', hT, by rw [hoat]; exact ⟨hA, hm5⟩⟩⟩
   · rintro e w' ⟨ec, rfl, wx, hb, ⟨rfl, m', l', hT, hA, hm5⟩ | ⟨rfl, e1, hb2⟩⟩
     · left
       have hT2 := IXT.step H.foot H.bas (Chg.of_below hb (Nat.le_refl _) S) (fun _ e => .inl e) hT
       obtain ⟨hchg, hx⟩ := h.of hT2 (V.more hr hoj hLc hLI hA) (hA.goodL hxw hxb hg) hA.lim hA.was (tl' := tl + 56) (by omega) (cnt' := cnt + 1) (by have := hA.words; omega) (by omega)
       exact ⟨rfl, hchg, hx⟩
     · exact .inr ⟨by omega, rfl, hb.trans (hb2.mono hb.size)⟩
end
structure Fp (S : Nat -> Prop) (w : World) (T : Nat -> Prop) (wr : World) : Prop where
 chg : Chg S w wr
 sub : ∀ q, T q -> S q ∨ w.heap.size <= q
section
variable {S T : Nat -> Prop} {w wr w2 : World}
theorem Fp.refl (S : Nat -> Prop) (w : World) : Fp S w S w := ⟨Chg.refl _ _, fun _ h => .inl h⟩
theorem Fp.size (h : Fp S w T wr) : w.heap.size <= wr.heap.size := h.chg.size
theorem Fp.step {T' : Nat -> Prop} (h : Fp S w T wr) (hc : Chg T wr w2) (hT : ∀ q, T' q -> grow T wr w2 q) : Fp S w T' w2 := by
 have hs := h.chg.size
 refine ⟨h.chg.trans hc (fun q hq hg => (h.sub q hg).elim id (fun e => by omega)), fun q hq => ?_⟩
 rcases hT q hq with e | e
 · exact h.sub q e
 · right; omega
theorem Fp.next (h : Fp S w T wr) (hc : Chg T wr w2) : Fp S w (grow T wr w2) w2 := h.step hc (fun _ e => e)
theorem Fp.below (h : Fp S w T wr) (hb : Below wr.heap.size wr w2) : Fp S w T w2 := ⟨h.chg.trans (Chg.of_below hb (Nat.le_refl _) (fun _ => False)) (fun _ _ e => e.elim), h.sub⟩
theorem Fp.fin {base : Nat} (h : Fp S w T wr) (hT : ∀ q, T q -> base <= q /\ q < wr.heap.size) : ∀ q, T q -> grow S w wr q := fun q hq => (h.sub q hq).elim .inl (fun e => .inr ⟨e, (hT q hq).2⟩)
end
section
variable {hI hM k d f : Int} {w w' wr : World} {base : Nat} {S T : Nat -> Prop} {p lim : Nat} {was bs : List Int} {R : List DR} {O : List GO} {Lr : List Int} {tl cnt : Nat}
theorem EX.fin (h : EX hI hM k d f wr base T p lim was R O Lr tl cnt) (hF : Fp S w T wr) (hS : ∀ q, S q -> base <= q /\ q < w.heap.size) (hb : base <= w.heap.size) : Chg S w wr /\ EX hI hM k d f wr base (grow S w wr) p lim was R O Lr tl cnt :=
 ⟨hF.chg, h.mono (hF.fin h.foot) (chg_lt hS hF.chg hb)⟩
theorem HX.fin (h : HX hI hM k d f wr base T p lim was) (hF : Fp S w T wr) (hS : ∀ q, S q -> base <= q /\ q < w.heap.size) (hb : base <= w.heap.size) : Chg S w wr /\ HX hI hM k d f wr base (grow S w wr) p lim was :=
 ⟨hF.chg, h.mono (hF.fin h.foot) (chg_lt hS hF.chg hb)⟩
theorem ED.fin (h : ED hI hM k d f wr base T p lim bs R O Lr tl) (hF : Fp S w T wr) (hS : ∀ q, S q -> base <= q /\ q < w.heap.size) (hb : base <= w.heap.size) : Chg S w wr /\ ED hI hM k d f wr base (grow S w wr) p lim bs R O Lr tl :=
 ⟨hF.chg, h.mono (hF.fin h.foot) (chg_lt hS hF.chg hb)⟩
theorem EX.at_le (h : EX hI hM k d f w base S p lim was R O Lr tl cnt) {z : List Int} {a : Nat} (ha : findD R z = some a) : a <= 1099511627776 /\ ¬ a = 0 := by
 obtain ⟨j, r, hr, -, rfl⟩ := findD_at ha
 obtain ⟨⟨m, bv, sv, l, H, V, hg, hl, hw, htl, hcnt⟩, hs, hk⟩ := h
 obtain ⟨o, -, ho, hok, horaw, hoat, -⟩ := V.rows.obj hr
 have hmost := V.db.gb.most
 have h0 := newK_low d f V.db.hD V.db.hF
 have := V.db.gb.fine o ho
 rw [<- hoat]
 omega
theorem put_ex2 {L : Nat} (A1 : Option Addr) (n1 c1 : Nat) (ws : List Int) (A2 : Option Addr) (n2 c2 : Nat) (A3 : Option Addr) (n3 c3 : Nat) (is : List Int) (ho : ObR w L A1 n1 c1 ws A2 n2 c2 [] A3 n3 c3 is) (hL : L <= w.heap.size)
 (hr : rightN 3 n1 n2 n3 = true) (hu : ∀ z ∈ ws, 0 <= z /\ z < 18446744073709551616) (hi : ∀ z ∈ is, 0 <= z /\ z < 18446744073709551616) (hkn : ∀ z ∈ is, ∃ y a, findD R y = some a /\ z = (a : Int)) (h : EX hI hM k d f w base S p lim was R O Lr tl cnt) :
 Calls Tryz.prog 92 #[.pointer (some ⟨p, 0, none⟩), obV 3 A1 n1 c1 A2 n2 c2 A3 n3 c3] w fun e w' =>
 (∃ a : Nat, e = .returned (.tuple #[.int .i64 (a : Nat), .int .i64 0]) /\ (256 <= a /\ was.length <= a) /\ a <= 1099511627776 /\ Chg S w w' /\ EX hI hM k d f w' base (grow S w w') p lim was R (O ++ [⟨0, a, 3, ws, [], is⟩]) Lr (tl + (56 + 8 * n3)) cnt) ∨
 (lim < tl + (56 + 8 * n3) /\ e = .returned (.tuple #[.int .i64 0, .int .i64 21]) /\ Below w.heap.size w w') := by
 obtain ⟨⟨m, bv, sv, l, H, V, hg, rfl, rfl, htl, hcnt⟩, hsm, hk⟩ := id h
 have hmost := V.db.gb.most
 have h0 := newK_low d f V.db.hD V.db.hF
 have hlow := V.db.gb.low
 have e1 := ho.wr.len
 have e2 := ho.rr.len
 have e3 := ho.ir.len
 have hr' : rightN 3 ws.length ([] : List Int).length is.length = true := by rw [e1, e2, e3]; exact hr
 have hln := encO_length hr'
 have hlx := rightN_len hr'
 have hbd : (encO 3 ws [] is).length = 56 + 8 * n3 := by
   rw [hln]
   have e9 : frontN 3 = 56 := rfl
   unfold bareN
   rw [e9, List.length_nil, e3, padn_eight]
   omega
 by_cases hx : m.b.length + (encO 3 ws [] is).length <= m.lim
 · refine (iput_yes 3 A1 n1 c1 ws A2 n2 c2 [] A3 n3 c3 is w ho hL hr H hmost hsm.1 hx).mono ?_
   rintro e w' ⟨rfl, hT⟩
   left
   have hfine : (⟨0, m.b.length, 3, ws, [], is⟩ : GO).Fine := ⟨hr', hu, (by intro z hz; cases hz), hi, V.db.gb.al⟩
   have hsm1 := hsm.1
   have V2 := V.entry hfine rfl rfl (by show m.b.length + (encO 3 ws [] is).length <= _; omega) (fun z hz => by
     obtain ⟨y, a, hya, rfl⟩ := hkn z hz
     obtain ⟨j, r, hrj, -, rfl⟩ := findD_at hya
     obtain ⟨o, -, hol, hok, horaw, hoat, -⟩ := V.rows.obj hrj
     have h1 := V.db.gb.fine o hol
     have h2 := h1.1.front
     show ((r.at_ : Nat) : Int) < ((m.b.length : Nat) : Int)
     omega)
   obtain ⟨hchg, hX⟩ := h.of (m := m.add (encO 3 ws [] is)) hT V2 ⟨hg.toGood.add (encO_bytes (by intro z hz; cases hz)), hg.far.add (n := ⟨0, m.b.length, 3, ws, [], is⟩) V.db.gb h0.1 V2.db.gb (fun h => absurd rfl h) (fun h => absurd (show (3 : Nat) = 4 from h) (by decide))⟩ rfl rfl (tl' := tl + (56 + 8 * n3)) (by show (m.b ++ _).length <= _; rw [List.length_append]; omega) (cnt' := cnt) hcnt (by have := hsm.2.1; omega)
   exact ⟨m.b.length, rfl, ⟨by omega, hg.le⟩, hmost, hchg, hX⟩
 · refine (iput_full 3 A1 n1 c1 ws A2 n2 c2 [] A3 n3 c3 is w ho hr H hmost hsm.1 (by omega)).mono ?_
   rintro e w' ⟨rfl, hb⟩
   exact .inr ⟨by omega, rfl, hb⟩
structure RefAtE (hI hM k d f : Int) (w wr : World) (base : Nat) (S : Nat -> Prop) (p lim : Nat) (was : List Int) (R : List DR) (O : List GO) (Lr : List Int) (tl cnt : Nat) (zs : List (List Int)) (x : Int) (T2 : Nat -> Prop) (w2 : World) (u j : Nat) : Prop where
 ex : ∃ T, EX hI hM k d f wr base T p lim was (pushAll R (zs.take j) x) O Lr (tl + u * j) (cnt + j) /\ Fp S w T wr /\ Fp T2 w2 T wr
theorem RefAtE.next {E : List (List (List Int))} {zs : List (List Int)} {ps : List Int} {R0 : List DR} {O' : List GO} {x : Int} {T2 : Nat -> Prop} {w2 : World} {u j : Nat} {z : List Int} (H : RefAtE hI hM k d f w wr base S p lim was R O Lr tl cnt zs x T2 w2 u j)
 (hIA : InsAt R0 R zs ps O' Lr E) (hO : O'.length <= 1000) (hu : u = 8216 ∨ (u = 56 /\ O'.length <= 3) ∨ (u = 0 /\ O'.length = 0)) (hN : zs.Nodup) (hz : zs[j]? = some z) (hx : IsU x) (hx0 : ¬ x = 0) (hxo : ∃ o ∈ O, x = (o.at_ : Int) /\ was.length <= o.at_) (hc : cnt + j <= 100000) (hS : ∀ q, S q -> base <= q /\ q < w.heap.size) (hb : base <= w.heap.size) :
 ∃ a : Nat, ps[j]? = some (a : Int) /\ a <= 1099511627776 /\ Calls Tryz.prog 93 #[.pointer (some ⟨p, 0, none⟩), .int .i64 a, .int .u64 x] wr fun e w' =>
 (e = .returned (.int .i64 0) /\ RefAtE hI hM k d f w w' base S p lim was R O Lr tl cnt zs x T2 w2 u (j + 1)) ∨
 (lim < tl + u * (j + 1) /\ e = .returned (.int .i64 21) /\ Chg S w w' /\ HX hI hM k d f w' base (grow S w w') p lim was) := by
 obtain ⟨T, hex, hF, hF2⟩ := H
 obtain ⟨a, ha, hpa⟩ := hIA.known j z hz
 have hfa : findD (pushAll R (zs.take j) x) z = some a := by rw [findD_pushAll]; exact ha
 obtain ⟨i, r, hr, hri, hra⟩ := findD_at hfa
 have hle := hex.at_le hfa
 subst hra
 have hNt : (zs.take j).Nodup := hN.sublist (List.take_sublist _ _)
 have hsh := pushAll_short (x := x) hNt hIA.el.short r (List.mem_of_getElem? hr)
 have htk : zs.take (j + 1) = zs.take j ++ [z] := by
   obtain ⟨h1, h2⟩ := List.getElem?_eq_some_iff.1 hz
   rw [List.take_succ_eq_append_getElem h1, h2]
 refine ⟨r.at_, hpa, hle.1, ?_⟩
 rcases hu with rfl | ⟨rfl, h0⟩ | ⟨rfl, h0⟩
 · have h9 := refer_ex hex hr x hx hx0 (by omega) (by omega) hxo
   refine h9.mono ?_
   rintro e w' (⟨rfl, hc2, hx2⟩ | ⟨h1, rfl, hb2⟩)
   · left
     refine ⟨rfl, ⟨_, ?_, hF.next hc2, hF2.next hc2⟩⟩
     rw [set_pushD hex.nodup hr, hri] at hx2
     rw [htk, pushAll_snoc]
     exact hx2.more (by omega) (by omega) (by omega)
   · right
     exact ⟨by omega, rfl, (hex.half.below hb2).fin (hF.below hb2) hS hb⟩
 · have h9 := refer_few hex hr x hx hx0 (by omega) (by omega) hxo
   refine h9.mono ?_
   rintro e w' (⟨rfl, hc2, hx2⟩ | ⟨h1, rfl, hb2⟩)
   · left
     refine ⟨rfl, ⟨_, ?_, hF.next hc2, hF2.next hc2⟩⟩
     rw [set_pushD hex.nodup hr, hri] at hx2
     rw [htk, pushAll_snoc]
     exact hx2.more (by omega) (by omega) (by omega)
   · right
     exact ⟨by omega, rfl, (hex.half.below hb2).fin (hF.below hb2) hS hb⟩
 · have hLn : r.L = [] := by
     have hm := List.mem_of_getElem? hr
     rw [pushAll_eq x _ R hNt] at hm
     obtain ⟨q, hq, hqr⟩ := List.mem_map.1 hm
     have hzn : z ∉ zs.take j := fun hm => by
       obtain ⟨i, hi, he⟩ := List.mem_take_iff_getElem.1 hm
       obtain ⟨h1, h2⟩ := List.getElem?_eq_some_iff.1 hz
       rw [List.nodup_iff_pairwise_ne, List.pairwise_iff_getElem] at hN
       exact hN i j (by omega) h1 (by omega) (by rw [he, h2])
     have hqz : q.item = z := by
       rw [<- hri, <- hqr]
       split <;> rfl
     rw [if_neg (by rw [hqz]; exact hzn)] at hqr
     rw [<- hqr]
     have := hIA.el.short q hq
     exact List.eq_nil_of_length_eq_zero (by omega)
   refine (refer_nil hex hr x hx hx0 (by omega) hLn hxo).mono ?_
   rintro e w' ⟨rfl, hc2, hx2⟩
   left
   refine ⟨rfl, ⟨_, ?_, hF.next hc2, hF2.next hc2⟩⟩
   rw [set_pushD hex.nodup hr, hri] at hx2
   rw [htk, pushAll_snoc]
   exact hx2.more (by omega) (by omega) (by omega)
end
end Go.Proofs.YtgcmbgniaffdlaaGreat
