import Derived.Test.YtgcmbgniaffdlaaGreatScMath
import Derived.Test.YtgcmbgniaffdlaaGreatLRf
set_option linter.unusedVariables false
set_option maxRecDepth 100000
set_option linter.unusedSimpArgs false
namespace Go.Proofs.YtgcmbgniaffdlaaGreat
open Go.RowKit Go.Shelf
attribute [local go_sem] Oper.semAt_some
theorem ahead_any (A : Option Addr) (n c : Nat) (to : Int) (w : World) (hl : n <= c) (hcap : c <= 9223372036854775807) (h0 : -9223372036854775808 <= to) (h1 : to <= 9223372036854775807) :
 Calls Tryz.prog 65 #[.slice A n c, .int .i64 to] w fun e w' => e = .returned (.slice A (cutN n to) c) /\ w = w' := by
 obtain ⟨k, hk⟩ : ∃ k, cutN n to = k := ⟨_, rfl⟩
 have e : (min (max to 0) (n : Int)).toNat = k := by rw [<- hk]; unfold cutN; omega
 have hkn : k <= n := by rw [<- hk]; exact cutN_le _ _
 rw [hk]
 have hkc : k <= c := by omega
 clear hk
 go_enter Tryz.func65, Tryz.ntmps65
 go_wp2
 go_ret
 refine ⟨?_, rfl⟩
 simp [e]
def scB (g : Nat) : Array Value := #[.pointer (some ⟨g + 1, 0, none⟩), .pointer (some ⟨g, 0, none⟩)]
def scV (g : Nat) : Value := .func (.func 121) #[] (scB g)
theorem objects_any (A : Option Addr) (n c : Nat) (pl : Int) (w : World) :
 Calls Tryz.prog 64 #[.slice A n c, .int .i64 pl] w fun e w' => e = .returned (scV w.heap.size) /\ w' = (w.alloc (.cells #[.slice A n c] 24)).alloc (.cells #[.int .i64 pl] 3) := by
 go_enter Tryz.func64, Tryz.ntmps64
 go_wp2
 go_ret
 exact ⟨rfl, rfl⟩
structure So where
 r : SR
 A : Option Addr
 n : Nat
 c : Nat
 B : Option Addr
 m : Nat
 d : Nat
 C : Option Addr
 p : Nat
 q : Nat
def So.v (x : So) : Value := obV x.r.k x.A x.n x.c x.B x.m x.d x.C x.p x.q
def So.encs (x : So) : Array Value := #[.int .i64 x.r.j, x.v]
def So.lies (zs : List Int) (x : So) (W : World) : Prop := ObR W W.heap.size x.A x.n x.c (x.r.wds zs) x.B x.m x.d (x.r.raw zs) x.C x.p x.q (x.r.its zs)
def So.free (x : So) (fp : Nat -> Prop) : Prop := (∀ ad, x.A = some ad -> ¬ fp ad.block) /\ (∀ ad, x.B = some ad -> ¬ fp ad.block) /\ (∀ ad, x.C = some ad -> ¬ fp ad.block)
structure TellsS (zs : List Int) (L : List SR) (fp : Nat -> Prop) (pre : List So) (x : So) (W : World) : Prop where
 ex : ∃ rest, pre.map (·.r) ++ x.r :: rest = L
 lies : x.lies zs W
 free : x.free fp
theorem tellsS_own (zs : List Int) (L : List SR) (B : Nat) (fp : Nat -> Prop) (pre : List So) (x : So) : OwnFrom B (fun (_ : Unit) W => TellsS zs L fp pre x W) :=
 fun _ W W' row hs hg hr => ⟨hs.ex, (ObR.grown hs.lies hg (fun r e => (hr r e).2)).upto hg.size, hs.free⟩
theorem so_free {w2 : World} {base : Nat} {t : SR} {A : Option Addr} {n c : Nat} {ws : List Int} {B : Option Addr} {m d : Nat} {rs : List Int} {C : Option Addr} {p q : Nat} {is : List Int} (h : ObOwn w2 base A n c ws B m d rs C p q is) {fp : Nat -> Prop} (hf : ∀ k, fp k -> k < base) : (⟨t, A, n, c, B, m, d, C, p, q⟩ : So).free fp := by
 refine ⟨fun ad e hk => ?_, fun ad e hk => ?_, fun ad e hk => ?_⟩
 · have e' : A = some ad := e
   subst e'
   have := (h.wo.lt ad.block rfl).1
   have := hf _ hk
   omega
 · have e' : B = some ad := e
   subst e'
   have := (h.ro.lt ad.block rfl).1
   have := hf _ hk
   omega
 · have e' : C = some ad := e
   subst e'
   have := (h.io.lt ad.block rfl).1
   have := hf _ hk
   omega
theorem Reads.keepC {B len : Nat} {A : Option Addr} {xs : List Value} {w W : World} {fp : Nat -> Prop} (h : Reads w B 1 A len xs) (hc : KeepC w.heap.size fp w W) (hB : B <= w.heap.size) (hA : 0 < len -> ∀ ad, A = some ad -> ¬ fp ad.block) : Reads W B 1 A len xs :=
 h.chg hc hB (fun hn ad ha e => by
   obtain ⟨ad2, ea, hb, -⟩ := h.2 hn
   rw [ha] at ea; injection ea with ea; subst ea
   exact e.elim (fun e => by omega) (hA hn ad ha))
set_option maxHeartbeats 2000000 in
theorem objects_F (n : Nat) (hn : 1 <= n) (fp₀ : Nat -> Prop) (g B : Nat) (A : Option Addr) (len cap : Nat) (zs : List Int) (pl : Int) (L : List SR) (w : World)
 (hr : Reads w B 1 A len (cellsOf .u8 zs)) (hB : B <= w.heap.size) (hA : 0 < len -> ∀ ad, A = some ad -> ¬ fp₀ ad.block) (hz : AreB zs) (hl : len <= cap) (hcap : cap <= 9223372036854775807) (hm : len <= 140737488355328)
 (hg : g + 1 < w.heap.size) (hT : ¬ fp₀ g /\ ¬ fp₀ (g + 1)) (hcp : w.cell? ⟨g + 1, 0, none⟩ = some (.int .i64 pl)) (hcb : w.cell? ⟨g, 0, none⟩ = some (.slice A len cap))
 (h0 : -9223372036854775808 <= pl) (h1 : pl <= 9223372036854775807) (hL : scanAt zs pl L) :
 SeqF Fence.wide n Tryz.prog 121 (scB g) So.encs (TellsS zs L) fp₀ (fun xs => xs.map (·.r) = L) (fun pre => ∃ rest, pre.map (·.r) ++ rest = L) L.length w := by
 intro l J Jx W f1 hb hJ hJx hf1 hfok hY h2
 have hbw : Chg (fun k => w.heap.size <= k ∨ fp₀ k) w W := Chg.of_below hb (Nat.le_refl _) _
 have hlz : zs.length = len := by have := hr.len; simpa using this
 refine callsIn_of_wp Tryz.func121 rfl trivial ?_ rfl
 simp only [scB, Tryz.ntmps121, List.size_toArray, List.length_cons, List.length_nil, Nat.reduceAdd, Nat.reduceSub, Array.replicate_succ, Array.replicate_zero, List.push_toArray, List.append_toArray, List.nil_append, List.cons_append]
 have c1 := (hb.cell (p := ⟨g + 1, 0, none⟩) (by simp; omega)).trans hcp
 gi_wp2
 gi_loopw [4] (fun s4 wr => ∃ (fp : Nat -> Prop) (pre : List So) (rest : List SR) (at_ : Int), s4 = .int .i64 at_ /\ pre.map (·.r) ++ rest = L /\ (-9223372036854775808 <= at_ /\ at_ <= 9223372036854775807) /\ scanAt zs at_ rest /\ J fp pre wr /\ KeepC w.heap.size fp₀ w wr /\ FpOk fp wr /\ ∀ k, fp k -> fp₀ k ∨ w.heap.size <= k)
   (fun s4 _ => zs.length + 1 - (intOf s4).toNat)
 case atStart =>
   exact ⟨f1, [], L, pl, rfl, rfl, ⟨h0, h1⟩, hL, h2, hbw, hfok, fun k hk => (hf1 k hk).imp id (fun e => e.1)⟩
 case round =>
   obtain ⟨fp, pre, rest, at_, rfl, hpre, hrg, hc, hJs, hkw, hfo, hff⟩ := hrel
   have hcell : ∀ b v, b < w.heap.size -> ¬ fp₀ b -> w.cell? ⟨b, 0, none⟩ = some v -> wr.cell? ⟨b, 0, none⟩ = some v := fun b v h1 h2 h3 => (World.cell?_of_block (a := ⟨b, 0, none⟩) (hkw.block b (by omega) (fun e => e.elim (fun h => by omega) h2))).trans h3
   have cb := hcell g _ (by omega) hT.1 hcb
   have hRR := hr.keepC hkw hB hA
   have hsw := hkw.size
   cases rest with
   | nil =>
     have DE := Lib.hid (odec_no A len cap at_ zs wr hRR (by omega) hz hl hcap hm hrg.1 hrg.2 hc)
     gi_wp2_with (refine ⟨trivial, ?_⟩; gi_at_call 122; refine (callsIn_wide.2 DE.out).mono ?_; rintro e w2 ⟨rfl, hb2⟩)
     refine ⟨fun f hf => (by cases hf), ?_⟩
     gi_wp2
     refine bodyPost_ret (results_none rfl _ _ _) rfl ?_
     exact ⟨⟨_, rfl⟩, .inl ⟨pre, fp, by rw [<- hpre]; simp, ownFrom_below' (hJ fp) hJs (hb2.trans ((boxed _ _).mono hb2.size))⟩⟩
   | cons t rest =>
     obtain ⟨rfl, hob, hc2⟩ := hc
     have hroom := hob.room
     have DE := Lib.hid (odec_yes A len cap t.j t.k t.s zs wr hRR (by omega) hz hl hcap hm hob.at_ hob.dec)
     gi_wp2_with (refine ⟨trivial, ?_⟩; gi_at_call 122; refine (callsIn_wide.2 DE.out).mono ?_; rintro e w2 ⟨A1, n1, c1', A2, n2, c2', A3, n3, c3', rfl, hb2, hown⟩; have hz := Blk.new w2 128 #[.int .i64 t.k, .slice A1 n1 c1', .slice A2 n2 c2', .slice A3 n3 c3']; have z0 := hz.cell 0; have z1 := hz.cell 1; have z2 := hz.cell 2; have z3 := hz.cell 3)
     have hrd := hown.reads
     have hB3 : Below w2.heap.size w2 (w2.alloc (.cells #[.int .i64 t.k, .slice A1 n1 c1', .slice A2 n2 c2', .slice A3 n3 c3'] 128)) := boxed _ _
     have hB4 : Below wr.heap.size wr (w2.alloc (.cells #[.int .i64 t.k, .slice A1 n1 c1', .slice A2 n2 c2', .slice A3 n3 c3'] 128)) := hb2.trans (hB3.mono hb2.size)
     have hJ4 := ownFrom_below' (hJ fp) hJs hB4
     have hkw4 := keepC_t hkw (keepC_below (n₀ := w.heap.size) (T := fp₀) hB4)
     have hfo4 : FpOk fp (w2.alloc (.cells #[.int .i64 t.k, .slice A1 n1 c1', .slice A2 n2 c2', .slice A3 n3 c3'] 128)) := fun k hk => Nat.lt_of_lt_of_le (hfo k hk) hB4.size
     have hfree : (⟨t, A1, n1, c1', A2, n2, c2', A3, n3, c3'⟩ : So).free fp := so_free hown hfo
     have hlies : (⟨t, A1, n1, c1', A2, n2, c2', A3, n3, c3'⟩ : So).lies zs (w2.alloc (.cells #[.int .i64 t.k, .slice A1 n1 c1', .slice A2 n2 c2', .slice A3 n3 c3'] 128)) := (hrd.below hB3 (Nat.le_refl _)).upto (by simp)
     obtain ⟨fn, tmps, assign, body, hy, hR⟩ := hY fp pre ⟨t, A1, n1, c1', A2, n2, c2', A3, n3, c3'⟩ _ hJ4 (by rw [<- hpre]; simp) hfo4 ⟨⟨rest, hpre⟩, hlies, hfree⟩
     dsimp only [So.encs, So.v, obV] at hy
     rw [hy]
     gi_wp2
     refine hR.mono ?_
     rintro e W3 (⟨rfl, fp', hJ3, hg3⟩ | ⟨rfl, hJx3, -⟩)
     · gi_wp2
       go_roundw
       case rel => exact ⟨fp', pre ++ [⟨t, A1, n1, c1', A2, n2, c2', A3, n3, c3'⟩], rest, t.fin, rfl, by rw [<- hpre]; simp, ⟨by omega, by omega⟩, hc2, hJ3, keepC_t hkw4 (hg3.1.mono (fun k _ e => (hff k e).symm)), hg3.ok, fun k hk => (hg3.2 k hk).1.elim (hff k) (fun e => .inr (by have := hkw4.size; omega))⟩
       case measure => simp [intOf]; unfold SR.fin at hroom; omega
     · gi_wp2
       refine bodyPost_ret (results_none rfl _ _ _) rfl ?_
       have hsp : ∃ r, (pre ++ [(⟨t, A1, n1, c1', A2, n2, c2', A3, n3, c3'⟩ : So)]).map (·.r) ++ r = L := ⟨rest, by rw [<- hpre]; simp⟩
       exact ⟨⟨_, rfl⟩, .inr ⟨_, hsp, hJx3⟩⟩
end Go.Proofs.YtgcmbgniaffdlaaGreat
