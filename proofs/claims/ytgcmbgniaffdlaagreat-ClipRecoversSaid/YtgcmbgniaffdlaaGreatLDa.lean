import Derived.Test.YtgcmbgniaffdlaaGreatDaBase
import Derived.Laws.IdiomStrings
import Derived.Deep.Grids
set_option linter.unusedVariables false
set_option maxRecDepth 100000
set_option linter.unusedSimpArgs false
namespace Go.Proofs.YtgcmbgniaffdlaaGreat
open Go.RowKit Go.ChangeShapes Go.WideShapes Go.Deep
def nums (s : ByteArray) : List Int := s.data.toList.map fun b => (b.toNat : Int)
theorem nums_length (s : ByteArray) : (nums s).length = s.size := by unfold nums; rw [List.length_map, Array.length_toList]; rfl
theorem nums_bytes (s : ByteArray) : AreB (nums s) := by
 intro z hz
 obtain ⟨b, -, rfl⟩ := List.mem_map.1 hz
 have := b.toNat_lt
 exact ⟨by omega, by omega⟩
theorem str_nums (s : ByteArray) : strOfNums (nums s) = s := by
 apply ByteArray.ext
 apply Array.toList_inj.1
 rw [strOfNums_data]
 unfold nums
 rw [List.map_map]
 have : ((fun n : Int => UInt8.ofNat n.toNat) ∘ fun b : UInt8 => (b.toNat : Int)) = id := by funext b; simp
 rw [this, List.map_id]
def capS (w : World) (s : ByteArray) : Nat := grownCap w s.size 0 5
def textW (w : World) (s : ByteArray) : World := w.drew.alloc (.cells (bytesRow s (capS w s)) 5 ((bytesRow s (capS w s)).size, (bytesRow s (capS w s)).size + 1))
theorem conv_text (s : ByteArray) (w : World) : (convert 9 24 (.string s)).run Tryz.prog w = .ok (.slice (some ⟨w.heap.size, 0, none⟩) s.size (capS w s)) (textW w s) :=
 run_bytes_of_string w 9 24 5 s Tryz.underlying9 Tryz.underlying24 Tryz.underlying5
theorem capS_le {w : World} {s : ByteArray} (h : s.size <= maxLen) : s.size <= capS w s /\ capS w s <= 9223372036854775807 := by
 have h1 := grownCap_ge w s.size 0 5
 have h2 := grownCap_le_maxLen w s.size 0 5 h
 unfold maxLen at h2
 unfold capS
 omega
theorem textW_size (w : World) (s : ByteArray) : (textW w s).heap.size = w.heap.size + 1 := by unfold textW; simp
theorem textW_below (w : World) (s : ByteArray) : Below w.heap.size w (textW w s) := by
 unfold textW
 exact (below_drewn (Below.refl _ w) 1).alloc (Nat.le_refl _) _
theorem textW_reads (w : World) (s : ByteArray) : Reads (textW w s) (textW w s).heap.size 1 (some ⟨w.heap.size, 0, none⟩) s.size (cellsOf .u8 (nums s)) := by
 rw [textW_size]
 refine reads_at (Nat.lt_succ_self _) (nums_length s) fun i hi => ?_
 have hh : (textW w s).heap[w.heap.size]? = some (.cells (bytesRow s (capS w s)) 5 ((bytesRow s (capS w s)).size, (bytesRow s (capS w s)).size + 1)) := by
   unfold textW
   have h := World.alloc_heap_new w.drew (.cells (bytesRow s (capS w s)) 5 ((bytesRow s (capS w s)).size, (bytesRow s (capS w s)).size + 1))
   exact h
 have hi2 : i < s.data.size := hi
 have e : (bytesRow s (capS w s))[0 + i]? = some (.int .u8 ((nums s).getD i 0)) := by
   rw [Nat.zero_add]
   unfold bytesRow nums
   rw [Array.getElem?_append_left (by simpa using hi2)]
   simp [List.getD_eq_getElem?_getD, hi2]
   rw [Array.getElem?_eq_getElem hi2]
   exact ⟨_, rfl, rfl⟩
 simp [World.cell?, hh]
 simpa using e
open Go.RowKit Go.Shelf
def fldI (zs : List Int) : List Int := nums (spF (strOfNums zs))
theorem fldI_nums (s : ByteArray) : fldI (nums s) = nums (spF s) := by unfold fldI; rw [str_nums]
def plcs (m : IM) (wd : Nat) : Int -> Int -> List Nat -> Prop
 | last, next, [] => ¬ (last < next /\ next < (m.b.length : Int))
 | last, next, j :: js => last < next /\ next = (j : Int) /\ j < m.b.length /\ IsU (m.word ((j + (16 + 8 * wd) : Nat) : Int)) /\ plcs m wd j (m.word ((j + (16 + 8 * wd) : Nat) : Int)) js
section
variable {lo : Nat} {m : IM} {l : List GO}
theorem GB.plcs (H : GB lo m.b l) {wd : Nat} : ∀ {L : List GO} {last p : Int}, 0 <= last -> (∀ r ∈ L, r ∈ l /\ wd < r.ws.length /\ last < r.at_) ->
 L.Pairwise (fun r r' => r.at_ + r.len <= r'.at_) -> Lk wd p L -> plcs m wd last p (L.map (·.at_))
 | [], last, p, h0, _, _, hl => by
   show ¬ _
   rw [show p = 0 from hl]; omega
 | r :: L, last, p, h0, hf, hp, ⟨e, hl⟩ => by
   obtain ⟨hr, hk, hla⟩ := hf r (by simp)
   have hrf := H.fine r hr
   rw [List.pairwise_cons] at hp
   have hfr := hrf.1.front
   have hw : m.word ((r.at_ + (16 + 8 * wd) : Nat) : Int) = r.ws.getD wd 0 := H.word hr hk
   have hU : IsU (r.ws.getD wd 0) := by
     refine Lk.isU hl fun q hq => ?_
     have := (H.fine q (hf q (by simp [hq])).1).2.2
     have := H.most
     omega
   have h1 := GB.plcs H (last := r.at_) (p := r.ws.getD wd 0) (by omega) (fun q hq => ⟨(hf q (by simp [hq])).1, (hf q (by simp [hq])).2.1, by have := hp.1 q hq; omega⟩) hp.2 hl
   exact ⟨by rw [e]; exact hla, e, by show r.at_ < m.b.length; have := hrf.2.2; omega, by rw [hw]; exact hU, by rw [hw]; exact h1⟩
theorem Ch.plcs (H : GB lo m.b l) (hlo : 0 < lo) {p wd : Nat} {pred : GO -> Bool} (h : Ch m.b l p wd pred) (hw : ∀ r ∈ l, pred r = true -> wd < r.ws.length) : plcs m wd 0 (m.word (p : Nat)) ((l.filter pred).map (·.at_)) := by
 refine GB.plcs H (by omega) (fun r hr => ?_) (H.rise.filter _) h
 obtain ⟨h1, h2⟩ := List.mem_filter.1 hr
 exact ⟨h1, hw r h1 h2, by have := (H.fine r h1).2.1; omega⟩
end
theorem plcs_fine {m : IM} {wd : Nat} : ∀ {js : List Nat} {last next : Int}, 0 <= last -> plcs m wd last next js -> ∀ j ∈ js, last < (j : Int) /\ j < m.b.length
 | [], _, _, _, _, j, hj => by cases hj
 | i :: js, last, next, h0, ⟨h1, h2, h3, h4, h5⟩, j, hj => by
   rcases List.mem_cons.1 hj with rfl | hj
   · exact ⟨by omega, h3⟩
   · have := plcs_fine (by omega) h5 j hj
     exact ⟨by omega, this.2⟩
attribute [local go_sem] Oper.semAt_some
structure PlAt (w : World) (g p : Nat) (pl : Int) (wd : Nat) : Prop where
 lo : g + 3 <= w.heap.size
 cm : w.cell? ⟨g, 0, none⟩ = some (.pointer (some ⟨p, 0, none⟩))
 cp : w.cell? ⟨g + 1, 0, none⟩ = some (.int .u64 pl)
 cw : w.cell? ⟨g + 2, 0, none⟩ = some (.int .i64 wd)
abbrev plB (g : Nat) : Array Value := #[.pointer (some ⟨g + 1, 0, none⟩), .pointer (some ⟨g, 0, none⟩), .pointer (some ⟨g + 2, 0, none⟩)]
abbrev plV (g : Nat) : Value := .func (.func 199) #[] (plB g)
theorem PlAt.below {w w' : World} {g p : Nat} {pl : Int} {wd : Nat} (h : PlAt w g p pl wd) (hb : Below w.heap.size w w') : PlAt w' g p pl wd :=
 ⟨Nat.le_trans h.lo hb.size, (hb.cell (p := ⟨g, 0, none⟩) (by have := h.lo; show g < _; omega)).trans h.cm, (hb.cell (p := ⟨g + 1, 0, none⟩) (by have := h.lo; show g + 1 < _; omega)).trans h.cp,
  (hb.cell (p := ⟨g + 2, 0, none⟩) (by have := h.lo; show g + 2 < _; omega)).trans h.cw⟩
theorem places_any (p : Nat) (pl : Int) (wd : Nat) (w : World) :
 Calls Tryz.prog 174 #[.pointer (some ⟨p, 0, none⟩), .int .u64 pl, .int .i64 wd] w fun e w' => e = .returned (plV w.heap.size) /\ Below w.heap.size w w' /\ PlAt w' w.heap.size p pl wd := by
 go_enter Tryz.func174, Tryz.ntmps174
 go_wp2
 go_ret
 have c0 := (Blk.new w 33 #[.pointer (some ⟨p, 0, none⟩)]).cell 0
 have c1 := (Blk.new (w.alloc (.cells #[.pointer (some ⟨p, 0, none⟩)] 33)) 27 #[.int .u64 pl]).cell 0
 have c2 := (Blk.new ((w.alloc (.cells #[.pointer (some ⟨p, 0, none⟩)] 33)).alloc (.cells #[.int .u64 pl] 27)) 3 #[.int .i64 wd]).cell 0
 have b1 := boxed w (.cells #[.pointer (some ⟨p, 0, none⟩)] 33)
 have b2 := b1.alloc b1.size (.cells #[.int .u64 pl] 27)
 have b3 := b2.alloc b2.size (.cells #[.int .i64 wd] 3)
 simp only [World.size_alloc] at c1 c2
 exact ⟨rfl, b3, ⟨by simp, cell_kept1 (cell_kept1 c0), cell_kept1 c1, c2⟩⟩
def natE (x : Nat) : Array Value := #[.int .i64 x]
def TellsN (js : List Nat) (fp : Nat -> Prop) (pre : List Nat) (x : Nat) (W : World) : Prop := ∃ rest, pre ++ x :: rest = js
theorem tellsN_own (js : List Nat) (B : Nat) (fp : Nat -> Prop) (pre : List Nat) (x : Nat) : OwnFrom B (fun (_ : Unit) W => TellsN js fp pre x W) := fun _ W W' row hs hg hr => hs
section
variable {base p : Nat} {S : Nat -> Prop} {i k d f h : Int} {m : IM} {bv sv : Value}
set_option maxHeartbeats 4000000 in
theorem places_F (n : Nat) (hn : 1 <= n) (fp₀ : Nat -> Prop) (g wd : Nat) (pl : Int) (js : List Nat) (w : World) (H : IX w base S p i k d f h m bv sv) (hbm : AreB m.b) (hl : m.b.length <= 1099511627776)
 (hS : ∀ j, S j -> j < w.heap.size /\ ¬ fp₀ j) (hB : PlAt w g p pl wd) (hT : ¬ fp₀ g /\ ¬ fp₀ (g + 1) /\ ¬ fp₀ (g + 2)) (hwd : wd <= 100) (hp : IsU pl) (hch : plcs m wd 0 pl js) :
 SeqF Fence.wide n Tryz.prog 199 (plB g) natE (TellsN js) fp₀ (fun xs => xs = js) (fun pre => ∃ rest, pre ++ rest = js) js.length w := by
 intro l J Jx W f1 hb hJ hJx hf1 hfok hY h0
 have hbw : Chg (fun k => w.heap.size <= k ∨ fp₀ k) w W := Chg.of_below hb (Nat.le_refl _) _
 refine callsIn_of_wp Tryz.func199 rfl trivial ?_ rfl
 simp only [Tryz.ntmps199, List.size_toArray, List.length_cons, List.length_nil, Nat.reduceAdd, Nat.reduceSub, Array.replicate_succ, Array.replicate_zero, List.push_toArray, List.append_toArray, List.nil_append, List.cons_append]
 have hlo := hB.lo
 have c1 := (hB.below hb).cp
 gi_wp2
 refine wpIn_wide.2 ?_
 go_quiet (fail)
 gi_wp2
 gi_loopw [5, 6] (fun s5 s6 wr => ∃ (fp : Nat -> Prop) (pre rest : List Nat) (last next : Int), s5 = .int .u64 last /\ s6 = .int .u64 next /\ pre ++ rest = js /\ (0 <= last /\ last <= m.b.length) /\ IsU next /\ plcs m wd last next rest /\ J fp pre wr /\ KeepC w.heap.size fp₀ w wr /\ FpOk fp wr /\ ∀ k, fp k -> fp₀ k ∨ w.heap.size <= k)
   (fun s5 _ _ => m.b.length + 1 - (intOf s5).toNat)
 case atStart =>
   exact ⟨f1, [], js, 0, pl, rfl, rfl, rfl, ⟨by omega, by omega⟩, hp, hch, ownFrom_below' (hJ f1) h0 (below_drewn (Below.refl _ _) _), hbw.trans (keepC_below (below_drewn (Below.refl _ _) _)) (fun _ _ h => h), hfok, fun k hk => (hf1 k hk).imp id (fun e => e.1)⟩
 case round =>
   obtain ⟨fp, pre, rest, last, next, rfl, rfl, hpre, hlast, hnext, hc, hJs, hkw, hfo, hff⟩ := hrel
   have HR := H.keep hkw (fun j hj e => by have := hS j hj; exact e.elim (fun h => by omega) this.2)
   have hcell : ∀ b v, b < w.heap.size -> ¬ fp₀ b -> w.cell? ⟨b, 0, none⟩ = some v -> wr.cell? ⟨b, 0, none⟩ = some v := fun b v h1 h2 h3 => (World.cell?_of_block (a := ⟨b, 0, none⟩) (hkw.block b (by omega) (fun e => e.elim (fun h => by omega) h2))).trans h3
   have cw := hcell (g + 2) _ (by omega) hT.2.2 hB.cw
   have cm := hcell g _ (by omega) hT.1 hB.cm
   obtain ⟨nl, hnl⟩ : ∃ nl, m.b.length = nl := ⟨_, rfl⟩
   have TL : Hid (Calls Tryz.prog 26 #[.pointer (some ⟨p, 0, none⟩)] wr fun e w' => e = .returned (.int .i64 nl) /\ wr = w') := Lib.hid (by
     obtain ⟨A, c, rfl, -, -, -⟩ := HR.reads
     rw [<- hnl]
     exact itail_any p m.b.length A c wr (nine HR.blk).1.2.2.2.2.2.2.1)
   have tw := wrap_u64_of (x := (nl : Nat)) (by omega) (by omega)
   by_cases hlt : last < next
   · cases rest with
     | nil =>
       have hno : ¬ next < (nl : Int) := fun e => hc ⟨hlt, by omega⟩
       gi_wp2_with (refine ⟨trivial, ?_⟩; gi_at_call 26; refine (callsIn_wide.2 TL.out).mono ?_; rintro e w2 ⟨rfl, rfl⟩)
       go_end0
       have he : pre = js := by rw [<- hpre, List.append_nil]
       first | exact ⟨⟨_, rfl⟩, .inl ⟨pre, fp, he, hJs⟩⟩ | (subst he; exact ⟨⟨_, rfl⟩, .inl ⟨fp, hJs⟩⟩)
     | cons j rest =>
       obtain ⟨-, rfl, hj, hUu, hc2⟩ := hc
       have hj2 : (j : Int) < (nl : Int) := by omega
       have t2 := wrap_i64_of (x := (j : Nat)) (by omega) (by omega)
       have OA := Lib.hid (fun wx => oat_any wd wx (by omega) (by omega))
       have t3 : IntKind.i64.wrap ((j : Int) + (16 + 8 * (wd : Int))) = ((j + (16 + 8 * wd) : Nat) : Int) := by rw [IntKind.wrap_i64]; omega
       have WW : Hid (∀ nq, Calls Tryz.prog 127 #[.pointer (some ⟨p, 0, none⟩), .int .i64 ((j + (16 + 8 * wd) : Nat) : Int)] (wr.drewN nq) fun e w' => e = .returned (.int .u64 (m.word ((j + (16 + 8 * wd) : Nat) : Int))) /\ wr.drewN nq = w') := Lib.hid (fun nq => iword_any _ _ (HR.drewN nq) hbm (by omega) (by omega))
       obtain ⟨u, hu⟩ : ∃ u, m.word ((j + (16 + 8 * wd) : Nat) : Int) = u := ⟨_, rfl⟩
       rw [hu] at WW hUu hc2
       gi_wp2_with (refine ⟨trivial, ?_⟩; gi_at_call 26; refine (callsIn_wide.2 TL.out).mono ?_; rintro e w2 ⟨rfl, rfl⟩)
       refine wpIn_wide.2 ?_
       go_quiet ((first
         | (refine (OA.out _).mono ?_; rintro e w1 ⟨rfl, rfl⟩; exact ⟨rfl, _, rfl⟩)
         | (refine (WW.out _).mono ?_; rintro e w1 ⟨rfl, rfl⟩; exact ⟨rfl, _, rfl⟩)))
       have hB4 : Below wr.heap.size wr (wr.drewN nq) := below_drewn (Below.refl _ _) nq
       have hJ4 := ownFrom_below' (hJ fp) hJs hB4
       have hkw4 := keepC_t hkw (keepC_below (n₀ := w.heap.size) (T := fp₀) hB4)
       have hfo4 : FpOk fp (wr.drewN nq) := hfo
       obtain ⟨fn, tmps, assign, body, hy, hR⟩ := hY fp pre j _ hJ4 (by rw [<- hpre]; simp) hfo4 ⟨rest, hpre⟩
       dsimp only [natE] at hy
       gi_wp2
       refine hR.mono ?_
       rintro e W3 (⟨rfl, fp', hJ3, hg3⟩ | ⟨rfl, hJx3, -⟩)
       · gi_wp2
         go_roundw
         case rel => exact ⟨fp', pre ++ [j], rest, j, u, rfl, rfl, by rw [<- hpre]; simp, ⟨by omega, by omega⟩, hUu, hc2, hJ3, keepC_t hkw4 (hg3.1.mono (fun k _ e => (hff k e).symm)), hg3.ok, fun k hk => (hg3.2 k hk).1.elim (hff k) (fun e => .inr (by have := hkw4.size; omega))⟩
         case measure => simp [intOf]; omega
       · gi_wp2
         refine bodyPost_ret (results_none rfl _ _ _) rfl ?_
         have hsp : ∃ r, pre ++ [j] ++ r = js := ⟨rest, by rw [<- hpre]; simp⟩
         exact ⟨⟨_, rfl⟩, .inr ⟨_, hsp, hJx3⟩⟩
   · have hnil : rest = [] := by
       cases rest with
       | nil => rfl
       | cons t rest => exact absurd hc.1 hlt
     subst hnil
     gi_wp2_with (refine ⟨trivial, ?_⟩)
     go_end0
     have he : pre = js := by rw [<- hpre, List.append_nil]
     first | exact ⟨⟨_, rfl⟩, .inl ⟨pre, fp, he, hJs⟩⟩ | (subst he; exact ⟨⟨_, rfl⟩, .inl ⟨fp, hJs⟩⟩)
end
attribute [local go_sem] Oper.semAt_some
def lkN (root wd : Nat) (js : List Nat) : Nat := match js.getLast? with
  | none => root
  | some j => j + (16 + 8 * wd)
theorem lkN_snoc (root wd : Nat) (js : List Nat) (j : Nat) : lkN root wd (js ++ [j]) = j + (16 + 8 * wd) := by simp [lkN]
theorem lkN_map (root wd : Nat) (L : List GO) : lkN root wd (L.map (·.at_)) = lkG root wd L := by
 unfold lkN lkG
 rw [List.getLast?_map]
 cases L.getLast? <;> rfl
section
variable {base p : Nat} {S : Nat -> Prop} {i k d f h : Int} {m : IM} {bv sv : Value}
set_option maxHeartbeats 4000000 in
theorem end_any (q : Nat) (js : List Nat) (w : World) (H : IX w base S p i k d f h m bv sv) (hbm : AreB m.b) (hl : m.b.length <= 1099511627776) (hq : q <= 1099511627776) (hU : IsU (m.word (q + 32 : Nat))) (hch : plcs m 2 0 (m.word (q + 32 : Nat)) js) :
 Calls Tryz.prog 184 #[.pointer (some ⟨p, 0, none⟩), .int .i64 q] w fun e w' => e = .returned (.int .i64 (lkN (q + 32) 2 js : Nat)) /\ Below w.heap.size w w' := by
 have OA := Lib.hid (fun wx => oat_any 2 wx (by omega) (by omega))
 obtain ⟨r, hr⟩ : ∃ r, q + 32 = r := ⟨_, rfl⟩
 have hw0 : (q : Int) + 32 = (r : Int) := by omega
 have hw1 : IntKind.i64.wrap (r : Int) = (r : Int) := by rw [IntKind.wrap_i64]; omega
 have hb1 : Below w.heap.size w (w.alloc (.cells #[.int .i64 (r : Int)] 3)) := boxed w _
 have x0 := Blk.new w 3 #[.int .i64 (r : Int)]
 have hsz : (w.alloc (.cells #[.int .i64 (r : Int)] 3)).heap.size = w.heap.size + 1 := by simp
 rw [hr] at hU hch ⊢
 have WW := Lib.hid (fun wx (hb : Below w.heap.size w wx) => iword_any (r : Nat) wx (H.below hb) hbm (by omega) (by omega))
 obtain ⟨pl, hpl⟩ : ∃ pl, m.word (r : Nat) = pl := ⟨_, rfl⟩
 rw [hpl] at WW hU hch
 have PP := Lib.hid (fun wx => places_any p pl 2 wx)
 have HX := Lib.hid (And.intro hb1 (And.intro x0 hsz))
 clear hb1 x0 hsz hr
 refine (callsIn_wide (n := 9)).1 ?_
 refine callsIn_of_wp_marks Tryz.func184 rfl trivial ?_ rfl
 simp only [Tryz.ntmps184, List.size_toArray, List.length_cons, List.length_nil, Nat.reduceAdd, Nat.reduceSub, Array.replicate_succ, Array.replicate_zero, List.push_toArray, List.append_toArray, List.nil_append, List.cons_append]
 gi_wp2_with (first
   | (refine ⟨trivial, ?_⟩; gi_at_call 128; refine (callsIn_wide.2 (OA.out _)).mono ?_; rintro e w1 ⟨rfl, rfl⟩)
   | (refine ⟨trivial, ?_⟩; gi_at_call 127; refine (callsIn_wide.2 (WW.out _ HX.out.1)).mono ?_; rintro e w1 ⟨rfl, rfl⟩)
   | (refine ⟨trivial, ?_⟩; gi_at_call 174; refine (callsIn_wide.2 (PP.out _)).mono ?_; rintro e w2 ⟨rfl, hb2, hfl⟩))
 have hs2 := hb2.size
 obtain ⟨hb1, x0, hsz⟩ := HX.out
 have hlo := hfl.lo
 rw [hsz] at hfl hs2 hlo
 have hbw2 : Below w.heap.size w w2 := hb1.trans (hb2.mono hb1.size)
 have h2 := H.below hbw2
 have y0 := x0.below hb2 (by omega)
 have hft := H.foot
 have hfin := plcs_fine (by omega) hch
 obtain ⟨g0, hg0⟩ : ∃ g0, w.heap.size = g0 := ⟨_, rfl⟩
 rw [hg0] at y0 hlo hbw2 hfl hft hs2 ⊢
 refine wp_range_F (F := Fence.wide) (n := 9) rfl (by omega) (gf := 199) (lb := plB (g0 + 1)) rfl trivial (enters_of Tryz.func199 (by kernel_rfl) rfl)
   (places_F 8 (by omega) (fun k => k = g0) (g0 + 1) 2 pl js w2 h2 hbm hl (fun j hj => ⟨(h2.foot j hj).2, fun e => by have := (hft j hj).2; omega⟩) hfl ⟨fun e => by omega, fun e => by omega, fun e => by omega⟩ (by omega) hU hch)
   (fun k hk => by subst hk; omega)
   (fun fp pre x => tellsN_own js _ fp pre x) (fun _ => rfl)
   (fun fq pre W => fq = (fun k => k = g0) /\ Blk W g0 3 #[.int .i64 (lkN r 2 pre : Nat)] /\ Below g0 w W)
   (fun c pre W => False)
   (fun fq s A C row hs hg hr => ⟨hs.1, own_blkOf (β := Unit) (B := w2.heap.size) (by omega) (fun _ => #[.int .i64 (lkN r 2 s : Nat)]) () A C row hs.2.1 hg hr, hs.2.2.grown hg (by have := hs.2.2.size; omega) (fun k e => by have := (hr k e).1; omega)⟩)
   (fun c => own_never)
   ⟨rfl, y0, hbw2⟩
   (fun x a' W' => a' = { tmps := #[.pointer (some ⟨p, 0, none⟩), .int .i64 q, undef, undef, .int .i64 0, .pointer (some ⟨g0, 0, none⟩), .int .i64 x, .int .i64 q, .int .i64 32, .int .i64 r, .pointer (some ⟨p, 0, none⟩), .pointer (some ⟨p, 0, none⟩), .int .i64 r, .int .u64 pl, plV (g0 + 1), .int .i64 x, undef, undef, undef, undef], defers := [] })
   (fun x a' _ A C row hs hg hr => hs)
   ?assign ?body ?done ?stop
 case assign =>
   intro l2 x W3 K hW hK
   dsimp only [natE]
   gi_wp2
   exact hK _ _ (Below.refl _ _) rfl
 case body =>
   rintro l2 fp fq pre x W3 ⟨rfl, z0, hbW⟩ hok hsub hlen ⟨rest, hrest⟩ - a' rfl
   have k0 := z0.cell 0
   have f0 := z0.frozen 0
   have hx := hfin x (by rw [<- hrest]; simp)
   obtain ⟨z, hz⟩ : ∃ z, x + 32 = z := ⟨_, rfl⟩
   have hz0 : (x : Int) + 32 = (z : Int) := by omega
   have hz1 : IntKind.i64.wrap (z : Int) = (z : Int) := by rw [IntKind.wrap_i64]; omega
   have HN : Hid (lkN r 2 (pre ++ [x]) = z) := Lib.hid (by rw [lkN_snoc]; omega)
   clear hz
   gi_wp2_with (refine ⟨trivial, ?_⟩; gi_at_call 128; refine (CallsIn.inRound l2 (callsIn_wide.2 (OA.out _))).mono ?_; rintro e w9 ⟨rfl, rfl⟩)
   have e1 : Chg (fun k => k = g0) W3 (W3.setCell ⟨g0, 0, none⟩ (.int .i64 z)) := chg_set1 (T := fun k => k = g0) (Chg.refl _ _) rfl _
   refine ⟨fun k => k = g0, ⟨rfl, ?_, hbW.setCell (p := ⟨g0, 0, none⟩) (Nat.le_refl _) _⟩, e1, fun k hk => ⟨.inl hk, Nat.lt_of_lt_of_le (hok k hk) e1.size⟩⟩
   rw [HN.out]
   exact z0.set_ 0 _
 case done =>
   rintro D fq xs W3 hD hxs ⟨rfl, z0, hbW⟩ hK
   have k0 := z0.cell 0
   subst hxs
   gi_wp2
   refine ⟨by simp, .inl ⟨_, _, rfl, run_takeDeferred hK, ?_⟩⟩
   exact ⟨_, results_tmp rfl _ _ _, rfl, by rw [hg0]; exact below_put1 hbW (by omega) _⟩
 case stop =>
   rintro D cc pre W3 hD hp hf hK
   exact hf.elim
end
theorem IXT.step {w w3 w4 : World} {base p : Nat} {S T : Nat -> Prop} {i k d f h : Int} {m2 : IM} (hf : ∀ j, S j -> base <= j /\ j < w.heap.size) (hb0 : base <= w.heap.size) (hc : Chg S w w3) (hT : ∀ j, T j -> S j ∨ w.heap.size <= j) (h2 : IXT base T p i k d f h m2 w3 w4) : IXT base S p i k d f h m2 w w4 := by
 obtain ⟨c, bv, sv, H2⟩ := h2
 have hs := hc.size
 refine IXT.of (w0 := w) (hc.trans c (fun j hj e => (hT j e).resolve_right (by omega))) H2 (fun j hj => ?_) hf hb0
 rcases hj with hj | hj
 · exact hT j hj
 · right; omega
theorem rn_item {n : Nat} (h1 : 1 <= n) (h2 : n <= 1024) : rightN ((1 : Nat) : Int) (kwN ((1 : Nat) : Int)) n 0 = true := by
 have e1 : hasI ((1 : Nat) : Int) = false := rfl
 have e2 : mostN ((1 : Nat) : Int) = 1024 := rfl
 unfold rightN
 rw [e1, e2]
 simp; omega
theorem rn_field {n : Nat} (h1 : 1 <= n) (h2 : n <= 64) : rightN ((2 : Nat) : Int) (kwN ((2 : Nat) : Int)) n 0 = true := by
 have e1 : hasI ((2 : Nat) : Int) = false := rfl
 have e2 : mostN ((2 : Nat) : Int) = 64 := rfl
 unfold rightN
 rw [e1, e2]
 simp; omega
theorem spOk_sizes {s : ByteArray} (h : spOk s = true) : 1 <= s.size /\ 1 <= (spF s).size /\ (spF s).size <= 64 := by
 have h0 : 0 <= eqIdx s := by
   rcases Int.lt_or_le (eqIdx s) 0 with h1 | h1
   · rw [spOk_none h1] at h; cases h
   · exact h1
 obtain ⟨n, hn⟩ := Int.eq_ofNat_of_zero_le h0
 have hlt := eqIdx_lt s
 have hno := spOk_name hn
 rw [h] at hno
 rw [spF_yes hn h]
 have h2 := hno.symm
 unfold nameB at h2
 rw [Bool.and_eq_true, decide_eq_true_eq] at h2
 omega
theorem tlen_item (n : Nat) : tlen 1 n <= n + 63 /\ n <= tlen 1 n := by
 have e : frontN ((1 : Nat) : Int) = 56 := rfl
 unfold tlen
 rw [e]; omega
theorem tlen_field (n : Nat) : tlen 2 n <= n + 47 /\ n <= tlen 2 n := by
 have e : frontN ((2 : Nat) : Int) = 40 := rfl
 unfold tlen
 rw [e]; omega
structure KeptG (l l' : List GO) : Prop where
 ent : l'.filter (fun r => r.k == 3) = l.filter (fun r => r.k == 3)
 arr : ∀ p, (arrsG l' p).map GO.arow = (arrsG l p).map GO.arow
theorem KeptG.trans {l l' l'' : List GO} (h : KeptG l l') (h2 : KeptG l' l'') : KeptG l l'' := ⟨h2.ent.trans h.ent, fun p => (h2.arr p).trans (h.arr p)⟩
theorem stP_k3 {lo : Nat} {b : List Int} {l : List GO} (G : GB lo b l) {q : Nat} (hq : q + 8 <= lo ∨ ∃ o ∈ l, o.k ≠ 3 /\ ∃ i, i < o.ws.length /\ q = o.at_ + (16 + 8 * i)) (v : Int) : ∀ r ∈ l, r.k = 3 -> stP q v r = r := fun r hr hk => by
 rcases hq with h | ⟨o, ho, hok, i, hi, rfl⟩
 · exact G.setP_low h v hr
 · rw [G.setP_word ho hi v hr]
   exact setW_ne fun e => hok (by rw [<- G.one hr ho e]; exact hk)
theorem KeptG.set {lo : Nat} {b : List Int} {l : List GO} (G : GB lo b l) {q : Nat} (hq : q + 8 <= lo ∨ ∃ o ∈ l, o.k ≠ 3 /\ ∃ i, i < o.ws.length /\ q = o.at_ + (16 + 8 * i)) (v : Int) : KeptG l (l.map (stP q v)) :=
 ⟨filter_k3 (fun r => stP_k _ _ _) (stP_k3 G hq v), fun p => arrsG_setP _ _ _⟩
theorem KeptG.putset {lo : Nat} {b : List Int} {l : List GO} (G : GB lo b l) {q : Nat} (hq : q + 8 <= lo ∨ ∃ o ∈ l, o.k ≠ 3 /\ ∃ i, i < o.ws.length /\ q = o.at_ + (16 + 8 * i)) (v : Int) {n : GO} (h3 : n.k ≠ 3) (h4 : n.k ≠ 4) : KeptG l ((l ++ [n]).map (stP q v)) := by
 refine ⟨?_, fun p => ?_⟩
 · rw [filter_k3 (fun r => stP_k _ _ _) (fun r hr hk => ?_), List.filter_append, List.filter_cons_of_neg (by simpa using h3), List.filter_nil, List.append_nil]
   rcases List.mem_append.1 hr with h | h
   · exact stP_k3 G hq v r h hk
   · rw [List.mem_singleton.1 h] at hk; exact absurd hk h3
 · rw [arrsG_setP]
   unfold arrsG
   rw [List.filter_append, List.filter_cons_of_neg (fun h => h4 (pArr_iff.1 h).1.1), List.filter_nil, List.append_nil]
theorem KeptG.addG {fld : List Int -> List Int} {k d f : Int} {ex : Nat} {b : List Int} {l : List GO} (D : DB fld k d f 0 ex b l) {kd : Nat} (hkd : kd = 1 ∨ kd = 2) (at_ : Nat) (zs : List Int) : KeptG l (Go.Proofs.YtgcmbgniaffdlaaGreat.addG l k d f kd at_ zs) := by
 obtain ⟨g1, g2⟩ := bktN_eq D.hD D.hF (kd := kd) (hsh_isU k zs)
 have hxl : LP l (tb d kd + 8 * bktN d f kd (hsh k zs)) 1 (pBk k d f kd (bktN d f kd (hsh k zs)) 0) (lkT l k d f kd zs) := lkG_LP _ _ _
 refine KeptG.putset D.gb ?_ _ (by show kd ≠ 3; omega) (by show kd ≠ 4; omega)
 rcases D.bk_LP hkd g2 hxl with ⟨-, h1⟩ | ⟨q, hq, ⟨qk, -⟩, qw, e2⟩
 · exact .inl h1
 · exact .inr ⟨q, hq, by omega, 1, qw, e2⟩
structure Came (k d f : Int) (m : IM) (l : List GO) (m' : IM) (l' : List GO) (R : List DR) (zs : List Int) (ex q c : Nat) : Prop where
 db : DB fldI k d f 0 ex m'.b l'
 rows : Rows l' (R ++ [⟨zs, m.b.length, []⟩])
 by_ : AreB m'.b
 lim : m'.lim = m.lim
 was : m'.was = m.was
 words : m'.words.length <= m.words.length + q
 most : m'.b.length <= m.b.length + c
 good : m.Good -> m'.Good
 kept : KeptG l l'
 later : GoodL (newK d f) m l -> Far (newK d f) m' l'
theorem Came.goodL {k d f : Int} {m m' : IM} {l l' : List GO} {R : List DR} {zs : List Int} {ex q c : Nat} (C : Came k d f m l m' l' R zs ex q c) (hg : GoodL (newK d f) m l) : GoodL (newK d f) m' l' := ⟨C.good hg.toGood, C.later hg⟩
section
variable {k d f : Int} {ex : Nat} {m : IM} {l : List GO} {R : List DR}
theorem addIM_good {fld : List Int -> List Int} (D : DB fld k d f 0 ex m.b l) {kd : Nat} (hkd : kd = 1 ∨ kd = 2) {zs : List Int} (hz : AreB zs) (hrt : rightN kd (kwN kd) zs.length 0 = true) (hg : m.Good) : (addIM m l k d f kd zs).Good := by
 obtain ⟨g1, g2⟩ := bktN_eq D.hD D.hF (kd := kd) (hsh_isU k zs)
 obtain ⟨a1, a2⟩ := (D.bks kd hkd _ g2).link_at D.gb (bk_root D.hD D.hF g2 l) (D.bk_w hkd)
 have h0 := newK_low d f D.hD D.hF
 have a3 := D.gb.root_fit a1
 have a4 := D.gb.root_low (by omega) a1
 refine (hg.add (addIM_len D hkd hz hrt).2).put8 ?_ a3.2 a4 ?_
 · show _ + 8 <= (m.b ++ _).length
   rw [List.length_append]
   have : lkT l k d f kd zs + 8 <= m.b.length := a3.1
   omega
 · show gnum (m.b ++ _) _ 8 = 0
   exact (gnum_add a3.1).trans a2
theorem Came.item (D : DB fldI k d f 0 0 m.b l) (h : Rows l R) (hb : AreB m.b) {zs : List Int} (hz : AreB zs) (h1 : 1 <= zs.length) (h2 : zs.length <= 1024) (hnew : findG l 1 zs = none) (hm : m.b.length + tlen 1 zs.length <= 1099511627776) :
 Came k d f m l (addIM m l k d f 1 zs) (addG l k d f 1 m.b.length zs) R zs m.b.length 1 (tlen 1 zs.length) := by
 obtain ⟨h3, h4⟩ := D.item h hz (rn_item h1 h2) hnew hm
 exact ⟨h3, h4, addIM_bytes D hb (.inl rfl) hz (rn_item h1 h2), rfl, rfl, addIM_words, Nat.le_of_eq (addIM_len D (.inl rfl) hz (rn_item h1 h2)).1, addIM_good D (.inl rfl) hz (rn_item h1 h2), KeptG.addG D (.inl rfl) _ _, fun hg => D.far_table (.inl rfl) hz (rn_item h1 h2) hm h3 hg⟩
theorem addG_here (l : List GO) (kd at_ : Nat) (zs : List Int) : ∃ o ∈ addG l k d f kd at_ zs, o.k = kd /\ o.raw = zs /\ o.at_ = at_ :=
 ⟨stP (lkT l k d f kd zs) (at_ : Nat) (newG k kd at_ zs), List.mem_map.2 ⟨_, by simp, rfl⟩, by rw [stP_k]; rfl, by rw [stP_raw]; rfl, by rw [stP_at]; rfl⟩
theorem addG_kept {l : List GO} {kd at_ : Nat} {zs : List Int} {o : GO} (ho : o ∈ l) : ∃ o' ∈ addG l k d f kd at_ zs, o'.k = o.k /\ o'.raw = o.raw /\ o'.at_ = o.at_ :=
 ⟨stP (lkT l k d f kd zs) (at_ : Nat) o, List.mem_map.2 ⟨o, List.mem_append_left _ ho, rfl⟩, stP_k _ _ _, stP_raw _ _ _, stP_at _ _ _⟩
structure Linked (k d f : Int) (m : IM) (l : List GO) (m2 : IM) (l2 : List GO) (R : List DR) (zs : List Int) (fo q : Nat) (js : List Nat) : Prop where
 ch : plcs m2 2 0 (m2.word (fo + 32 : Nat)) js
 isU : IsU (m2.word (fo + 32 : Nat))
 fo_ : fo <= 1099511627776
 lk : lkN (fo + 32) 2 js = q
 fit : q + 8 <= m2.b.length /\ q % 8 = 0 /\ 192 <= q
 free : m2.word q = 0
 by_ : AreB m2.b
 len : m2.b.length <= 1099511627776
 words : m2.words.length <= m.words.length + 2
 was : m2.was = m.was
 came : ∃ l3, Came k d f m l (m2.put8 q (m.b.length : Nat)) l3 R zs 0 3 1200
theorem put8_words {m : IM} {q : Nat} {v : Int} : (m.put8 q v).words.length <= m.words.length + 1 := by
 show (if _ then _ else _ : List Nat).length <= _
 split
 · rw [List.length_append]; exact Nat.le_refl _
 · show m.words.length <= _; omega
theorem Came.link {m2 : IM} {l2 : List GO} {zs : List Int} {c : Nat} (C : Came k d f m l m2 l2 R zs m.b.length 2 c) (hc : c <= 1200) {o fo : GO} (ho : o ∈ l2) (hat : o.at_ = m.b.length) (hraw : o.raw = zs) (hf : fo ∈ l2) (hfk : fo.k = 2) (hfr : fo.raw = fldI zs) :
 ∃ q js, Linked k d f m l m2 l2 R zs fo.at_ q js := by
 have D := C.db
 have h0 := newK_low d f D.hD D.hF
 obtain ⟨⟨a1, a2⟩, D3, R3⟩ := D.linked C.rows ho hat hf hfk (by rw [hraw]; exact hfr)
 have a3 := D.gb.root_fit a1
 have a4 := D.gb.root_low (by omega) a1
 have hfo := (D.gb.fine fo hf)
 have hmost := D.gb.most
 refine ⟨_, _, (D.flds fo hf hfk).plcs D.gb h0.2 D.fd_w, (D.flds fo hf hfk).isU D.gb, by have := hfo.2.2; omega, lkN_map _ _ _, ⟨a3.1, a3.2, a4⟩, a2, C.by_, hmost, C.words, C.was, _, D3, R3, splice_bytes C.by_ (bts_bytes _ _) _, C.lim, C.was, ?_, ?_, fun hg => (C.good hg).put8 a3.1 a3.2 a4 a2, C.kept.trans (KeptG.set D.gb ?_ _), fun hg => ?_⟩
 · have := put8_words (m := m2) (q := lkG (fo.at_ + 32) 2 (l2.filter (pFld fldI fo.raw m.b.length))) (v := (m.b.length : Nat)); have := C.words; omega
 · show (splice m2.b _ _).length <= _
   rw [splice_len _ _ _ (by rw [bts8_length]; exact a3.1)]
   have := C.most
   omega
 · have hxl : LP l2 (fo.at_ + 32) 2 (pFld fldI fo.raw m.b.length) (lkG (fo.at_ + 32) 2 (l2.filter (pFld fldI fo.raw m.b.length))) := lkG_LP _ _ _
   obtain ⟨r, hr, h9, rw_, e2⟩ := D.fd_LP hf hfk hxl
   refine .inr ⟨r, hr, ?_, 2, rw_, e2⟩
   rcases h9 with ⟨h9, -⟩ | rfl <;> omega
 · have hxl : LP l2 (fo.at_ + 32) 2 (pFld fldI fo.raw m.b.length) (lkG (fo.at_ + 32) 2 (l2.filter (pFld fldI fo.raw m.b.length))) := lkG_LP _ _ _
   obtain ⟨r, hr, h9, rw_, e2⟩ := D.fd_LP hf hfk hxl
   have hq : LinkG (newK d f) l2 (lkG (fo.at_ + 32) 2 (l2.filter (pFld fldI fo.raw m.b.length))) := by
     rcases h9 with ⟨h9, -⟩ | rfl
     · exact .inr (.inr ⟨r, hr, .inl ⟨h9, 2, by omega, by omega, e2⟩⟩)
     · exact .inr (.inr ⟨r, hr, .inr (.inl ⟨hfk, 2, by omega, by omega, e2⟩)⟩)
   have hle := hg.le
   have hof := D.gb.fine o ho
   have hfr := hof.1.front
   have hwas := C.was
   exact D.far_word D3 hq ⟨by omega, by omega⟩ (C.goodL hg) (by rw [hwas]; omega) (by omega)
theorem Came.field {m1 : IM} {l1 : List GO} {zs fs : List Int} {ex q c : Nat} (C : Came k d f m l m1 l1 R zs ex q c) (hz : AreB fs) (h1 : 1 <= fs.length) (h2 : fs.length <= 64) (hnew : findG l1 2 fs = none) (hm : m1.b.length + tlen 2 fs.length <= 1099511627776) :
 Came k d f m l (addIM m1 l1 k d f 2 fs) (addG l1 k d f 2 m1.b.length fs) R zs ex (q + 1) (c + tlen 2 fs.length) := by
 obtain ⟨h3, h4, -⟩ := C.db.field C.rows hz (rn_field h1 h2) hnew hm
 refine ⟨h3, h4, addIM_bytes C.db C.by_ (.inr rfl) hz (rn_field h1 h2), C.lim, C.was, ?_, ?_, fun hg => addIM_good C.db (.inr rfl) hz (rn_field h1 h2) (C.good hg), C.kept.trans (KeptG.addG C.db (.inr rfl) _ _), fun hg => C.db.far_table (.inr rfl) hz (rn_field h1 h2) hm h3 (C.goodL hg)⟩
 · have := addIM_words (m := m1) (l := l1) (k := k) (d := d) (f := f) (kd := 2) (zs := fs); have := C.words; omega
 · rw [(addIM_len C.db (.inr rfl) hz (rn_field h1 h2)).1]; have := C.most; omega
theorem Came.more {m1 : IM} {l1 : List GO} {zs : List Int} {q q' c c' : Nat} (C : Came k d f m l m1 l1 R zs ex q c) (hq : q <= q') (hc : c <= c') : Came k d f m l m1 l1 R zs ex q' c' :=
 { C with words := Nat.le_trans C.words (by omega), most := Nat.le_trans C.most (by omega) }
end
def InternTold (base : Nat) (S : Nat -> Prop) (p : Nat) (i k d f h : Int) (m : IM) (l : List GO) (R : List DR) (zs : List Int) (w : World) (e : Ending) (w' : World) : Prop :=
 (∃ a, findG l 1 zs = some a /\ e = .returned (.tuple #[.int .i64 (a : Nat), .int .i64 0]) /\ Below w.heap.size w w') ∨
 (findG l 1 zs = none /\ e = .returned (.tuple #[.int .i64 0, .int .i64 21]) /\ m.lim < m.b.length + 1200 /\ ∃ m', IXT base S p i k d f h m' w w' /\ m'.was = m.was /\ m'.lim = m.lim /\ AreB m'.b /\ m'.b.length <= m.b.length + 1200 /\ m'.words.length <= m.words.length + 3 /\ (m.Good -> m'.Good)) ∨
 (findG l 1 zs = none /\ e = .returned (.tuple #[.int .i64 (m.b.length : Nat), .int .i64 0]) /\ ∃ m' l', IXT base S p i k d f h m' w w' /\ Came k d f m l m' l' R zs 0 3 1200)
section
variable {base p : Nat} {S : Nat -> Prop} {i k d f h : Int} {m : IM} {bv sv : Value} {l : List GO} {R : List DR}
theorem intern_old (s : ByteArray) (w : World) (D : DB fldI k d f 0 0 m.b l) (H : IX w base S p i k d f h m bv sv) (hbm : AreB m.b) (hk : IsU k) (hlim : m.lim <= 1048576) (hN : m.words.length <= 100000000) (hwl : m.was.length <= 1099511627776) (ho : spOk s = true) (hs : s.size <= 1024) {a : Nat} (ha : findG l 1 (nums s) = some a) :
 Calls Tryz.prog 138 #[.pointer (some ⟨p, 0, none⟩), .string s] w fun e w' => e = .returned (.tuple #[.int .i64 (a : Nat), .int .i64 0]) /\ Below w.heap.size w w' := by
 have hm : s.size <= maxLen := by unfold maxLen; omega
 have hsz := spOk_sizes ho
 have SP := split_any s w hm
 rw [ho] at SP
 have hb2 : ¬ (1024 : Int) < (s.size : Int) := by omega
 have cv := fun wx => conv_text s wx
 have HB := Lib.hid (fun n => (below_drewn (Below.refl w.heap.size w) n).trans (textW_below (w.drewN n) s))
 have AD := Lib.hid (fun n => (gadd_any 1 (.inl rfl) (some ⟨w.heap.size, 0, none⟩) s.size (capS (w.drewN n) s) (nums s) (textW (w.drewN n) s) D (H.below (HB.out n)) hbm hk hlim (by omega) hwl (textW_reads (w.drewN n) s) (Nat.le_refl _) (nums_bytes s) (capS_le hm).1 (capS_le hm).2 (by omega) (by rw [nums_length]; exact rn_item hsz.1 hs)).mono (fun e w' h9 => (show e = .returned (.tuple #[.int .i64 (a : Nat), .bool false, .int .i64 0]) /\ Below (textW (w.drewN n) s).heap.size (textW (w.drewN n) s) w' by
   rcases h9 with ⟨b, h1, h2, h3⟩ | ⟨h1, -⟩ | ⟨h1, -⟩
   · rw [ha] at h1; injection h1 with h1; subst h1; exact ⟨h2, h3⟩
   · rw [ha] at h1; cases h1
   · rw [ha] at h1; cases h1)))
 clear H hm hsz D
 go_enter Tryz.func138, Tryz.ntmps138
 go_wp2_with (first
   | (go_at_call 86; refine SP.mono ?_; rintro e w1 ⟨rfl, n1, rfl⟩)
   | (go_at_call 183; refine (AD.out _).mono ?_; rintro e w2 ⟨rfl, hb3⟩))
 go_ret2
 exact ⟨rfl, (HB.out _).trans (hb3.mono (HB.out _).size)⟩
theorem intern_full (s : ByteArray) (w : World) (D : DB fldI k d f 0 0 m.b l) (H : IX w base S p i k d f h m bv sv) (hbm : AreB m.b) (hk : IsU k) (hlim : m.lim <= 1048576) (hN : m.words.length <= 100000000) (hwl : m.was.length <= 1099511627776) (ho : spOk s = true) (hs : s.size <= 1024) (ha : findG l 1 (nums s) = none) (hfull : m.lim < m.b.length + tlen 1 (nums s).length) :
 Calls Tryz.prog 138 #[.pointer (some ⟨p, 0, none⟩), .string s] w fun e w' => e = .returned (.tuple #[.int .i64 0, .int .i64 21]) /\ Below w.heap.size w w' := by
 have hm : s.size <= maxLen := by unfold maxLen; omega
 have hsz := spOk_sizes ho
 have SP := split_any s w hm
 rw [ho] at SP
 have hb2 : ¬ (1024 : Int) < (s.size : Int) := by omega
 have cv := fun wx => conv_text s wx
 have HB := Lib.hid (fun n => (below_drewn (Below.refl w.heap.size w) n).trans (textW_below (w.drewN n) s))
 have AD := Lib.hid (fun n => (gadd_any 1 (.inl rfl) (some ⟨w.heap.size, 0, none⟩) s.size (capS (w.drewN n) s) (nums s) (textW (w.drewN n) s) D (H.below (HB.out n)) hbm hk hlim (by omega) hwl (textW_reads (w.drewN n) s) (Nat.le_refl _) (nums_bytes s) (capS_le hm).1 (capS_le hm).2 (by omega) (by rw [nums_length]; exact rn_item hsz.1 hs)).mono (fun e w' h9 => (show e = .returned (.tuple #[.int .i64 0, .bool false, .int .i64 21]) /\ Below (textW (w.drewN n) s).heap.size (textW (w.drewN n) s) w' by
   rcases h9 with ⟨b, h1, -⟩ | ⟨-, -, h2, h3⟩ | ⟨-, h1, -⟩
   · rw [ha] at h1; cases h1
   · exact ⟨h2, h3⟩
   · omega)))
 clear H hm hsz D hfull
 go_enter Tryz.func138, Tryz.ntmps138
 go_wp2_with (first
   | (go_at_call 86; refine SP.mono ?_; rintro e w1 ⟨rfl, n1, rfl⟩)
   | (go_at_call 183; refine (AD.out _).mono ?_; rintro e w2 ⟨rfl, hb3⟩))
 go_ret2
 exact ⟨rfl, (HB.out _).trans (hb3.mono (HB.out _).size)⟩
end
section
variable {base p : Nat} {S : Nat -> Prop} {i k d f h : Int} {m : IM} {bv sv : Value} {l : List GO} {R : List DR}
theorem add_item {n : Nat} (s : ByteArray) (w : World) (D : DB fldI k d f 0 0 m.b l) (H : IX w base S p i k d f h m bv sv) (hbm : AreB m.b) (hk : IsU k) (hlim : m.lim <= 1048576) (hN : m.words.length <= 100000000) (hwl : m.was.length <= 1099511627776) (h1 : 1 <= s.size) (hs : s.size <= 1024) (ha : findG l 1 (nums s) = none) (hroom : m.b.length + tlen 1 (nums s).length <= m.lim) :
 Calls Tryz.prog 183 #[.pointer (some ⟨p, 0, none⟩), .int .i64 1, .slice (some ⟨w.heap.size, 0, none⟩) s.size (capS (w.drewN n) s)] (textW (w.drewN n) s) fun e w' => e = .returned (.tuple #[.int .i64 (m.b.length : Nat), .bool true, .int .i64 0]) /\ IXT base S p i k d f h (addIM m l k d f 1 (nums s)) (textW (w.drewN n) s) w' := by
 have hm : s.size <= maxLen := by unfold maxLen; omega
 have hb := (below_drewn (Below.refl w.heap.size w) n).trans (textW_below (w.drewN n) s)
 refine (gadd_any 1 (.inl rfl) (some ⟨w.heap.size, 0, none⟩) s.size (capS (w.drewN n) s) (nums s) (textW (w.drewN n) s) D (H.below hb) hbm hk hlim (by omega) hwl (textW_reads (w.drewN n) s) (Nat.le_refl _) (nums_bytes s) (capS_le hm).1 (capS_le hm).2 (by omega) (by rw [nums_length]; exact rn_item h1 hs)).mono ?_
 rintro e w' (⟨b, h1, -⟩ | ⟨-, h1, -⟩ | ⟨-, -, h2, h3⟩)
 · rw [ha] at h1; cases h1
 · omega
 · exact ⟨h2, h3⟩
theorem add_field_no {m1 : IM} {l1 : List GO} {zs : List Int} {ex q c : Nat} (s : ByteArray) (w : World) (C : Came k d f m l m1 l1 R zs ex q c) (H : IX w base S p i k d f h m1 bv sv) (hk : IsU k) (hlim : m.lim <= 1048576) (hN : m1.words.length <= 100000001) (hwl : m.was.length <= 1099511627776) (h1 : 1 <= s.size) (hs : s.size <= 64) (ha : findG l1 2 (nums s) = none) (hfull : m1.lim < m1.b.length + tlen 2 (nums s).length) :
 Calls Tryz.prog 183 #[.pointer (some ⟨p, 0, none⟩), .int .i64 2, .slice (some ⟨w.heap.size, 0, none⟩) s.size (capS w s)] (textW w s) fun e w' => e = .returned (.tuple #[.int .i64 0, .bool false, .int .i64 21]) /\ Below (textW w s).heap.size (textW w s) w' := by
 have hm : s.size <= maxLen := by unfold maxLen; omega
 refine (gadd_any 2 (.inr rfl) (some ⟨w.heap.size, 0, none⟩) s.size (capS w s) (nums s) (textW w s) C.db (H.below (textW_below w s)) C.by_ hk (by rw [C.lim]; exact hlim) (by omega) (by rw [C.was]; exact hwl) (textW_reads w s) (Nat.le_refl _) (nums_bytes s) (capS_le hm).1 (capS_le hm).2 (by omega) (by rw [nums_length]; exact rn_field h1 hs)).mono ?_
 rintro e w' (⟨b, h1, -⟩ | ⟨-, -, h2, h3⟩ | ⟨-, h1, -⟩)
 · rw [ha] at h1; cases h1
 · exact ⟨h2, h3⟩
 · omega
theorem add_field {m1 : IM} {l1 : List GO} {zs : List Int} {c : Nat} (s : ByteArray) (C : Came k d f m l m1 l1 R zs m.b.length 1 c) (hc : c <= 1087) (hk : IsU k) (hlim : m.lim <= 1048576) (hN : m.words.length <= 100000000) (hwl : m.was.length <= 1099511627776) (h1 : 1 <= s.size) (hs : s.size <= 64) (hfs : nums s = fldI zs)
 (hex : ∃ o ∈ l1, o.k = 1 /\ o.raw = zs /\ o.at_ = m.b.length) (hroom : findG l1 2 (nums s) = none -> m1.b.length + tlen 2 (nums s).length <= m1.lim) :
 ∃ (fo : Nat) (fr : Bool) (m2 : IM) (l2 : List GO) (q : Nat) (js : List Nat), Linked k d f m l m2 l2 R zs fo q js /\ ∀ (w : World) (T : Nat -> Prop) (bv1 sv1 : Value), IX w base T p i k d f h m1 bv1 sv1 ->
 Calls Tryz.prog 183 #[.pointer (some ⟨p, 0, none⟩), .int .i64 2, .slice (some ⟨w.heap.size, 0, none⟩) s.size (capS w s)] (textW w s) fun e w' => e = .returned (.tuple #[.int .i64 (fo : Nat), .bool fr, .int .i64 0]) /\ IXT base T p i k d f h m2 (textW w s) w' := by
 have hm : s.size <= maxLen := by unfold maxLen; omega
 have hw1 := C.words
 have GA := fun (w : World) (T : Nat -> Prop) (bv1 sv1 : Value) (H : IX w base T p i k d f h m1 bv1 sv1) => gadd_any 2 (.inr rfl) (some ⟨w.heap.size, 0, none⟩) s.size (capS w s) (nums s) (textW w s) C.db (H.below (textW_below w s)) C.by_ hk (by rw [C.lim]; exact hlim) (by omega) (by rw [C.was]; exact hwl) (textW_reads w s) (Nat.le_refl _) (nums_bytes s) (capS_le hm).1 (capS_le hm).2 (by omega) (by rw [nums_length]; exact rn_field h1 hs)
 obtain ⟨o, ho, ho1, ho2, ho3⟩ := hex
 cases hfi : findG l1 2 (nums s) with
 | some a =>
   obtain ⟨fo, hf, hfk, hfr, hfa⟩ := findG_some hfi
   obtain ⟨q, js, HL⟩ := (C.more (q' := 2) (c' := c) (by omega) (Nat.le_refl _)).link (by omega) ho ho3 ho2 hf hfk (hfr.trans hfs)
   rw [hfa] at HL
   refine ⟨a, false, m1, l1, q, js, HL, fun w T bv1 sv1 H => (GA w T bv1 sv1 H).mono ?_⟩
   rintro e w' (⟨b, h1, h2, h3⟩ | ⟨h1, -⟩ | ⟨h1, -⟩)
   · rw [hfi] at h1; injection h1 with h1; subst h1
     exact ⟨h2, IXT.far (H.below (textW_below w s)) h3⟩
   · rw [hfi] at h1; cases h1
   · rw [hfi] at h1; cases h1
 | none =>
   have hr := hroom hfi
   have hb1 := C.most
   have hl1 := C.lim
   have ht := tlen_field (nums s).length
   have hnl := nums_length s
   have C2 := C.field (nums_bytes s) (by omega) (by omega) hfi (by omega)
   obtain ⟨fo, hf, hfk, hfr, hfa⟩ := addG_here (k := k) (d := d) (f := f) l1 2 m1.b.length (nums s)
   obtain ⟨o', ho', e1, e2, e3⟩ := addG_kept (k := k) (d := d) (f := f) (kd := 2) (at_ := m1.b.length) (zs := nums s) ho
   obtain ⟨q, js, HL⟩ := C2.link (by omega) ho' (e3.trans ho3) (e2.trans ho2) hf hfk (hfr.trans hfs)
   rw [hfa] at HL
   refine ⟨m1.b.length, true, _, _, q, js, HL, fun w T bv1 sv1 H => (GA w T bv1 sv1 H).mono ?_⟩
   rintro e w' (⟨b, h1, h2, h3⟩ | ⟨-, h1, -⟩ | ⟨-, -, h2, h3⟩)
   · rw [hfi] at h1; cases h1
   · omega
   · exact ⟨h2, h3⟩
theorem intern_half (s : ByteArray) (w : World) (D : DB fldI k d f 0 0 m.b l) (hR : Rows l R) (H : IX w base S p i k d f h m bv sv) (hbm : AreB m.b) (hk : IsU k) (hlim : m.lim <= 1048576) (hN : m.words.length <= 100000000) (hwl : m.was.length <= 1099511627776) (ho : spOk s = true) (hs : s.size <= 1024) (ha : findG l 1 (nums s) = none) (hroom : m.b.length + tlen 1 (nums s).length <= m.lim)
 (hf2 : findG (addG l k d f 1 m.b.length (nums s)) 2 (nums (spF s)) = none) (hfull : m.lim < (addIM m l k d f 1 (nums s)).b.length + tlen 2 (nums (spF s)).length) :
 Calls Tryz.prog 138 #[.pointer (some ⟨p, 0, none⟩), .string s] w fun e w' => e = .returned (.tuple #[.int .i64 0, .int .i64 21]) /\ IXT base S p i k d f h (addIM m l k d f 1 (nums s)) w w' := by
 have hm : s.size <= maxLen := by unfold maxLen; omega
 have hsz := spOk_sizes ho
 have SP := split_any s w hm
 rw [ho] at SP
 have hb2 : ¬ (1024 : Int) < (s.size : Int) := by omega
 have cv := fun wx => conv_text s wx
 have cv2 := fun wx => conv_text (spF s) wx
 have HB := Lib.hid (fun n => (below_drewn (Below.refl w.heap.size w) n).trans (textW_below (w.drewN n) s))
 have AD := Lib.hid (fun n => add_item (n := n) s w D H hbm hk hlim hN hwl hsz.1 hs ha hroom)
 have C := Came.item D hR hbm (nums_bytes s) (by rw [nums_length]; exact hsz.1) (by rw [nums_length]; exact hs) ha (by omega)
 have AF := Lib.hid (fun (w2 : World) (T : Nat -> Prop) (bv1 sv1 : Value) (H1 : IX w2 base T p i k d f h _ bv1 sv1) => add_field_no (spF s) w2 C H1 hk hlim (by have := C.words; omega) hwl hsz.2.1 hsz.2.2 hf2 hfull)
 have HF := Lib.hid (And.intro H.foot H.bas)
 have m1 : True := trivial
 clear H hm hsz D C hfull hroom
 go_enter Tryz.func138, Tryz.ntmps138
 go_wp2_with (first
   | (go_at_call 86; refine SP.mono ?_; rintro e w1 ⟨rfl, n1, rfl⟩)
   | (clear m1; go_at_call 183; refine (AD.out _).mono ?_; rintro e w2 ⟨rfl, h2⟩; obtain ⟨c2, bv2, sv2, H2⟩ := id h2)
   | (go_at_call 183; refine (AF.out _ _ _ _ H2).mono ?_; rintro e w3 ⟨rfl, hb3⟩))
 go_ret2
 have hs0 := (HB.out n1).size
 exact ⟨rfl, IXT.step HF.out.1 HF.out.2 (((Chg.of_below (HB.out n1) (Nat.le_refl _) S).trans c2 (fun _ _ e => e)).trans (Chg.of_below (textW_below w2 (spF s)) (Nat.le_refl _) S) (fun _ _ e => e)) (fun j hj => hj.imp id (fun e => by omega)) (IXT.far (H2.below (textW_below _ _)) hb3)⟩
theorem intern_new (s : ByteArray) (w : World) (D : DB fldI k d f 0 0 m.b l) (hR : Rows l R) (H : IX w base S p i k d f h m bv sv) (hbm : AreB m.b) (hk : IsU k) (hlim : m.lim <= 1048576) (hN : m.words.length <= 100000000) (hwl : m.was.length <= 1099511627776) (ho : spOk s = true) (hs : s.size <= 1024) (ha : findG l 1 (nums s) = none) (hroom : m.b.length + tlen 1 (nums s).length <= m.lim)
 (hf2 : findG (addG l k d f 1 m.b.length (nums s)) 2 (nums (spF s)) = none -> (addIM m l k d f 1 (nums s)).b.length + tlen 2 (nums (spF s)).length <= m.lim) :
 Calls Tryz.prog 138 #[.pointer (some ⟨p, 0, none⟩), .string s] w fun e w' => e = .returned (.tuple #[.int .i64 (m.b.length : Nat), .int .i64 0]) /\ ∃ m' l', IXT base S p i k d f h m' w w' /\ Came k d f m l m' l' R (nums s) 0 3 1200 := by
 have hm : s.size <= maxLen := by unfold maxLen; omega
 have hsz := spOk_sizes ho
 have SP := split_any s w hm
 rw [ho] at SP
 have hb2 : ¬ (1024 : Int) < (s.size : Int) := by omega
 have cv := fun wx => conv_text s wx
 have cv2 := fun wx => conv_text (spF s) wx
 have HB := Lib.hid (fun n => (below_drewn (Below.refl w.heap.size w) n).trans (textW_below (w.drewN n) s))
 have AD := Lib.hid (fun n => add_item (n := n) s w D H hbm hk hlim hN hwl hsz.1 hs ha hroom)
 have C := Came.item D hR hbm (nums_bytes s) (by rw [nums_length]; exact hsz.1) (by rw [nums_length]; exact hs) ha (by omega)
 have ht := tlen_item (nums s).length
 have hnl := nums_length s
 obtain ⟨fo, fr, m2, l2, q, js, HL, hAF⟩ := add_field (base := base) (p := p) (i := i) (h := h) (spF s) C (by omega) hk hlim hN hwl hsz.2.1 hsz.2.2 (fldI_nums s).symm (addG_here _ _ _ _) hf2
 have AF := Lib.hid hAF
 have hfo := HL.fo_
 have hfit := HL.fit
 have hln := HL.len
 have EN := Lib.hid (fun (w3 : World) (T : Nat -> Prop) (bv3 sv3 : Value) (H3 : IX w3 base T p i k d f h m2 bv3 sv3) => end_any fo js w3 H3 HL.by_ HL.len HL.fo_ HL.isU HL.ch)
 rw [HL.lk] at EN
 have SE := Lib.hid (fun (w4 : World) (T : Nat -> Prop) (bv4 sv4 : Value) (H4 : IX w4 base T p i k d f h m2 bv4 sv4) => iset_yes q (m.b.length : Nat) w4 H4 HL.by_ HL.fit.1 HL.fit.2.1 HL.fit.2.2 HL.len (by have := HL.words; omega) (by rw [HL.was]; exact hwl) HL.free)
 have HC := Lib.hid HL.came
 have HF := Lib.hid (And.intro H.foot H.bas)
 have tw := wrap_u64_of (x := (m.b.length : Nat)) (by omega) (by omega)
 obtain ⟨bl, hbl⟩ : ∃ bl, m.b.length = bl := ⟨_, rfl⟩
 have HBL := Lib.hid hbl
 rw [hbl] at AD SE tw HC ⊢
 have m1 : True := trivial
 clear H hm hsz D C hroom hf2 hAF HL hfo hfit hln ht hnl hbl
 go_enter Tryz.func138, Tryz.ntmps138
 go_wp2_with (first
   | (go_at_call 86; refine SP.mono ?_; rintro e w1 ⟨rfl, n1, rfl⟩)
   | (clear m1; go_at_call 183; refine (AD.out _).mono ?_; rintro e w2 ⟨rfl, h2⟩; obtain ⟨c2, bv2, sv2, H2⟩ := id h2)
   | (go_at_call 183; refine (AF.out _ _ _ _ H2).mono ?_; rintro e w3 ⟨rfl, h3⟩; obtain ⟨c3, bv3, sv3, H3⟩ := id h3)
   | (go_at_call 184; refine (EN.out _ _ _ _ H3).mono ?_; rintro e w4 ⟨rfl, hb4⟩; have H4 := H3.below hb4)
   | (go_at_call 141; refine (SE.out _ _ _ _ H4).mono ?_; rintro e w5 ⟨rfl, h5⟩))
 go_ret2
 have hs0 := (HB.out n1).size
 have hs2 := c2.size
 have hs3 := (textW_below w2 (spF s)).size
 obtain ⟨l3, hC⟩ := HC.out
 refine ⟨rfl, _, l3, IXT.step HF.out.1 HF.out.2 (((((Chg.of_below (HB.out n1) (Nat.le_refl _) S).trans c2 (fun _ _ e => e)).trans (Chg.of_below (textW_below w2 (spF s)) (Nat.le_refl _) S) (fun _ _ e => e)).trans c3 (fun j hj e => e.elim id (fun e => by omega))).trans (Chg.of_below hb4 (Nat.le_refl _) S) (fun _ _ e => e)) (fun j hj => hj.elim (fun e => e.imp id (fun e => by omega)) (fun e => .inr (by omega))) h5, hC⟩
theorem intern_any (s : ByteArray) (w : World) (D : DB fldI k d f 0 0 m.b l) (hR : Rows l R) (H : IX w base S p i k d f h m bv sv) (hbm : AreB m.b) (hk : IsU k) (hlim : m.lim <= 1048576) (hN : m.words.length <= 100000000) (hwl : m.was.length <= 1099511627776) (ho : spOk s = true) (hs : s.size <= 1024) :
 Calls Tryz.prog 138 #[.pointer (some ⟨p, 0, none⟩), .string s] w (InternTold base S p i k d f h m l R (nums s) w) := by
 have hsz := spOk_sizes ho
 have ht := tlen_item (nums s).length
 have ht2 := tlen_field (nums (spF s)).length
 have hnl := nums_length s
 have hnl2 := nums_length (spF s)
 cases ha : findG l 1 (nums s) with
 | some a => exact (intern_old s w D H hbm hk hlim hN hwl ho hs ha).mono fun e w' h => .inl ⟨a, ha, h⟩
 | none =>
   by_cases hroom : m.b.length + tlen 1 (nums s).length <= m.lim
   · have C := Came.item D hR hbm (nums_bytes s) (by omega) (by omega) ha (by omega)
     have hm1 := C.most
     by_cases hf2 : findG (addG l k d f 1 m.b.length (nums s)) 2 (nums (spF s)) = none -> (addIM m l k d f 1 (nums s)).b.length + tlen 2 (nums (spF s)).length <= m.lim
     · exact (intern_new s w D hR H hbm hk hlim hN hwl ho hs ha hroom hf2).mono fun e w' h => .inr (.inr ⟨ha, h.1, h.2⟩)
     · have hn : findG (addG l k d f 1 m.b.length (nums s)) 2 (nums (spF s)) = none := by
         cases hq : findG (addG l k d f 1 m.b.length (nums s)) 2 (nums (spF s)) with
         | none => rfl
         | some a => exact absurd (fun e => by rw [hq] at e; cases e) hf2
       have hfull : m.lim < (addIM m l k d f 1 (nums s)).b.length + tlen 2 (nums (spF s)).length := Nat.lt_of_not_le fun e => hf2 fun _ => e
       refine (intern_half s w D hR H hbm hk hlim hN hwl ho hs ha hroom hn hfull).mono fun e w' h => .inr (.inl ⟨ha, h.1, ?_, _, h.2, C.was, C.lim, C.by_, ?_, ?_, C.good⟩)
       · omega
       · omega
       · have := C.words; omega
   · refine (intern_full s w D H hbm hk hlim hN hwl ho hs ha (by omega)).mono fun e w' h => .inr (.inl ⟨ha, h.1, ?_, m, IXT.far H h.2, rfl, rfl, hbm, ?_, ?_, id⟩)
     · omega
     · omega
     · omega
end
end Go.Proofs.YtgcmbgniaffdlaaGreat
