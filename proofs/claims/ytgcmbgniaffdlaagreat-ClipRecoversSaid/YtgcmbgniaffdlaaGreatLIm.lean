import Derived.Test.YtgcmbgniaffdlaaGreatImBase
set_option linter.unusedVariables false
set_option maxRecDepth 100000
set_option linter.unusedSimpArgs false
namespace Go.Proofs.YtgcmbgniaffdlaaGreat
open Go.RowKit
theorem row_open {w : World} {base n : Nat} {e : TypeId} {size : Nat} {A : Option Addr} {c : Nat} {xs : List Value} (h : w.ownsRow base e size (.slice A n c) n xs) (hn : 0 < n) :
 ∃ (g : Nat) (cur : List Value), A = some ⟨g, 0, none⟩ /\ base <= g /\ Blk w g e cur.toArray /\ n <= c /\ c <= maxLen /\ cur.length = c * size /\ cur.take (n * size) = xs := by
 rcases h.2 with ⟨_, h0⟩ | ⟨g, cap, cur, hv, hb, hg, hnc, hcm, hcs, ht⟩
 · omega
 · injection hv with h1 _ h3
   subst h1; subst h3
   exact ⟨g, cur.toList, rfl, hb, hg, hnc, hcm, by simpa using hcs, ht⟩
theorem row_shut {w : World} {base n c g : Nat} {e : TypeId} {size : Nat} {cur xs : List Value} (hb : base <= g) (hg : Blk w g e cur.toArray) (hnc : n <= c) (hcm : c <= maxLen) (hl : cur.length = c * size) (ht : cur.take (n * size) = xs) (hx : xs.length = n * size) :
 w.ownsRow base e size (.slice (some ⟨g, 0, none⟩) n c) n xs := ⟨hx, .inr ⟨g, c, _, rfl, hb, hg, hnc, hcm, by simpa using hl, by simpa using ht⟩⟩
theorem row_cut {w : World} {base n k c : Nat} {e : TypeId} {A : Option Addr} {xs : List Value} (h : w.ownsRow base e 1 (.slice A n c) n xs) (hk : k <= n) : w.ownsRow base e 1 (.slice A k c) k (xs.take k) := by
 have hl := h.1
 refine ⟨by rw [List.length_take]; omega, ?_⟩
 rcases h.2 with ⟨hv, h0⟩ | ⟨g, cap, cur, hv, hb, hg, hnc, hcm, hcs, ht⟩
 · injection hv with h1 h2 h3
   subst h1; subst h3
   obtain rfl : k = 0 := by omega
   exact .inl ⟨rfl, rfl⟩
 · injection hv with h1 _ h3
   subst h1; subst h3
   refine .inr ⟨g, c, cur, rfl, hb, hg, by omega, hcm, hcs, ?_⟩
   rw [<- ht, List.take_take]
   congr 1; omega
theorem row_nil {w : World} {B size n : Nat} {xs : List Value} (h : Reads w B size none n xs) : n = 0 := by
 rcases Nat.eq_zero_or_pos n with h0 | h0
 · exact h0
 · obtain ⟨ad, e, _⟩ := h.2 h0; cases e
theorem row_lit0 {w w1 : World} {t : TypeId} {n c : Nat} (hg : (w.alloc (.cells #[] t)).grownBy w1 (Value.ownBlock (.slice (some ⟨w.heap.size, 0, none⟩) n c))) : Below w.heap.size w w1 :=
 ((Below.refl _ _).alloc (Nat.le_refl _) _).grown hg (by simp) (fun k hk => by simp [Value.ownBlock] at hk; omega)
theorem Told.reads {zs : List Int} {w w' : World} {e : Ending} (h : Told zs w e w') : ∃ A n c, e = .returned (.slice A n c) /\ n = zs.length /\ Reads w' w'.heap.size 1 A n (cellsOf .u8 zs) /\ n <= c /\ c <= 9223372036854775807 /\ Below w.heap.size w w' /\ w'.ownsRow w.heap.size 5 1 (.slice A n c) n (cellsOf .u8 zs) := by
 obtain ⟨A, n, c, rfl, h1, h2, h3, h4, h5⟩ := h
 exact ⟨A, n, c, rfl, h1, Reads.of_own h2, h4, h5, h3, h2⟩
theorem bclone_any (A : Option Addr) (len cap : Nat) (zs : List Int) (B : Nat) (w : World) (hr : Reads w B 1 A len (cellsOf .u8 zs)) (hB : B <= w.heap.size) (hn : len <= 140737488355328) :
 Calls Tryz.prog 49 #[.slice A len cap] w (Told zs w) := by
 obtain ⟨i0, hi, hz0, hz1, hz2⟩ := info_parts byteInfo
 have hlen := hr.len
 cases A with
 | none =>
   obtain rfl := row_nil hr
   have hz : zs = [] := List.eq_nil_of_length_eq_zero hlen
   have hq := fun w1 : World => Lib.run_eql_slice_nil (P := Tryz.prog) w1 24 5 none 0 cap 0 0 Tryz.underlying24
   clear hr
   go_enter Tryz.func49, Tryz.ntmps49
   go_wp2
   go_ret
   subst hz
   exact Told.nil _ _ (Below.refl _ _)
 | some ad =>
   have h2 : 0 + len <= maxLen := by unfold maxLen; omega
   have h3 : (0 + len) * 1 <= 140737488355328 := by omega
   have HR := Lib.hid hr
   have HL := Lib.hid hlen
   have hq := fun w1 : World => Lib.run_eql_slice_nil (P := Tryz.prog) w1 24 5 (some ad) len cap 0 0 Tryz.underlying24
   clear hr hlen
   go_enter Tryz.func49, Tryz.ntmps49
   go_wp2_with (at_builtin; refine wpList_append_any _ rfl _ _ _ rfl w.heap.size 5 i0 (.int .u8 0) 1 1 Tryz.underlying24 hi hz0 hz1 hz2 rfl (Nat.lt_succ_self 0) _ 0 [] rfl (World.ownsRow_lit w #[] 0 (Nat.le_refl _) (Nat.zero_le _) rfl) B (some ad) len cap (cellsOf .u8 zs) rfl (HR.out.alloc hB _) (cellsOf_one _ _) h2 h3 (by simp) ?_; intro v1 w1 hown1 hg1 hat1; rw [Nat.zero_add, List.nil_append] at hown1; obtain ⟨A1, c1, rfl, hc1, hc2⟩ := own_form hown1; have hb1 := row_lit0 hg1; clear hg1 hat1)
   go_ret
   exact ⟨A1, len, c1, rfl, HL.out.symm, hown1, hb1, hc1, by unfold maxLen at hc2; omega⟩
theorem take_splice {cur : List Value} {xs ys : List Value} {N a : Nat} (ht : cur.take N = xs) (hN : N <= cur.length) (h : a + ys.length <= N) : (splice cur a ys).take N = splice xs a ys := by
 subst ht
 unfold splice
 rw [List.take_take, Nat.min_eq_left (show a <= N by omega), List.take_append, List.length_take, Nat.min_eq_left (by omega), List.take_of_length_le (by rw [List.length_take]; omega)]
 congr 1
 rw [List.take_append, List.take_of_length_le (by omega)]
 congr 1
 rw [List.drop_take]
 congr 1
 omega
theorem splice_cells (k : IntKind) (xs ys : List Int) (a : Nat) : splice (cellsOf k xs) a (cellsOf k ys) = cellsOf k (splice xs a ys) := by unfold splice; simp [cellsOf]
section
variable {P : Program} {md : Region.Mode} {ops : Array Oper} {Q : Exit -> Act -> World -> Prop} {S : World -> Prop} {z : Nat}
def Closed (md : Region.Mode) (ops : Array Oper) (listed : Array Bool) : Prop :=
 ∀ k o, ops[k]? = some o -> listed.getD k false = true -> ∀ e ∈ o.after, Region.binds md e = true -> listed.getD e.on false = true
def closedB (md : Region.Mode) (ops : Array Oper) (listed : Array Bool) : Bool :=
 (List.range ops.size).all fun k => match ops[k]? with
   | some o => !listed.getD k false || o.after.all fun e => !Region.binds md e || listed.getD e.on false
   | none => true
theorem closed_of {listed : Array Bool} (h : closedB md ops listed = true) : Closed md ops listed := fun k o ho hl e he hb => by
 have hk : k < ops.size := (Array.getElem?_eq_some_iff.1 ho).1
 have h1 := List.all_eq_true.1 h k (List.mem_range.2 hk)
 rw [ho] at h1
 simp only [hl, Bool.not_true, Bool.false_or] at h1
 have h2 := (Array.all_eq_true_iff_forall_mem.1 h1) e he
 rw [hb] at h2
 simpa using h2
theorem Closed.set {listed : Array Bool} {j : Nat} (h : Closed md ops listed) (hj : j ∈ Region.ready md ops listed) : Closed md ops (listed.setIfInBounds j true) := fun k o ho hl e he hb => by
 obtain ⟨hjun, oj, hoj, hall⟩ := mem_ready.1 hj
 refine getD_set_true ?_
 by_cases hjk : j = k
 · subst hjk
   rw [hoj] at ho; injection ho with ho; subst ho
   exact hall e he hb
 · rw [getD_set_ne false hjk] at hl
   exact h k o ho hl e he hb
def waits (md : Region.Mode) (ops : Array Oper) : Nat -> Nat -> Nat -> Bool
 | 0, _, _ => false
 | f + 1, z, i => match ops[z]? with
   | some o => o.after.any fun e => Region.binds md e && (e.on == i || waits md ops f e.on i)
   | none => false
theorem waits_listed {listed : Array Bool} (hc : Closed md ops listed) {i : Nat} : ∀ (f z : Nat) (o : Oper), ops[z]? = some o -> (∀ e ∈ o.after, Region.binds md e = true -> listed.getD e.on false = true) -> waits md ops f z i = true -> listed.getD i false = true
 | 0, _, _, _, _, h => by cases h
 | f + 1, z, o, ho, hall, h => by
   unfold waits at h
   rw [ho] at h
   have h' : (o.after.toList.any fun e => Region.binds md e && (e.on == i || waits md ops f e.on i)) = true := by rw [Array.any_toList]; exact h
   obtain ⟨e, he, h2⟩ := List.any_eq_true.1 h'
   have he : e ∈ o.after := by simpa using he
   rw [Bool.and_eq_true, Bool.or_eq_true] at h2
   have h3 := hall e he h2.1
   rcases h2.2 with h4 | h4
   · have : e.on = i := by simpa using h4
     rw [<- this]; exact h3
   · cases hoe : ops[e.on]? with
     | none =>
       cases f with
       | zero => cases h4
       | succ f => unfold waits at h4; rw [hoe] at h4; cases h4
     | some o' => exact waits_listed hc f e.on o' hoe (fun e' he' hb' => hc e.on o' hoe h3 e' he' hb') h4
def wpAnyZ (P : Program) (md : Region.Mode) (ops : Array Oper) (Q : Exit -> Act -> World -> Prop) (S : World -> Prop) (z : Nat) : Nat -> Array Bool -> Act -> World -> Prop
 | 0, listed, a, w => Region.ready md ops listed = [] /\ Q .normal a w
 | fuel + 1, listed, a, w =>
   (Region.ready md ops listed = [] -> Q .normal a w) /\
   ∀ i ∈ Region.ready md ops listed, wpOp P ops Q i (fun a' w' => (i ≠ z -> S w') /\ wpAnyZ P md ops Q S z fuel (listed.setIfInBounds i true) a' w') a w
theorem wpAny_of_z : ∀ (fuel : Nat) (listed : Array Bool) (a : Act) (w : World), wpAnyZ P md ops Q S z fuel listed a w -> wpAny P md ops Q fuel listed a w
 | 0, _, _, _, h => h
 | fuel + 1, _, _, _, h => ⟨h.1, fun i hi => wpOp_mono (fun a' w' h' => wpAny_of_z fuel _ a' w' h'.2) (h.2 i hi)⟩
theorem wpAnyZ_first {i f : Nat} {oi : Oper} {v : Value} (hi : ops[i]? = some oi) (hsel : ∀ (j : Nat) (o : Oper) cs b, ops[j]? = some o -> o.op ≠ .select cs b)
 (hQ : ∀ c a w, Q (.panic c) (a.put oi.dst v) w -> Q (.panic c) a w) (hw : waits md ops f z i = true) :
 ∀ (fuel : Nat) (listed : Array Bool) (a : Act) (w : World), Closed md ops listed ->
 (∀ j oj, ops[j]? = some oj -> j ≠ i -> listed.getD j true = false -> (∀ e ∈ oj.after, Region.binds md e = true -> e.on ≠ i) -> oi.apart ops oj = true) ->
 i ∈ Region.ready md ops listed -> YieldsIf P ops S oi v a -> S w ->
 wpAnyZ P md ops Q S z fuel (listed.setIfInBounds i true) (a.put oi.dst v) w -> wpAnyZ P md ops Q S z (fuel + 1) listed a w := by
 intro fuel
 induction fuel with
 | zero =>
   intro listed a w _ _ hr hy hS H
   refine ⟨fun h => (by rw [h] at hr; cases hr), fun j hj => ?_⟩
   by_cases hji : j = i
   · subst hji; exact hy.wpOp hi hS ⟨fun _ => hS, H⟩
   · have := ready_mono hj hji
     rw [H.1] at this
     cases this
 | succ fuel ih =>
   intro listed a w hcl hfree hr hy hS H
   refine ⟨fun h => (by rw [h] at hr; cases hr), fun j hj => ?_⟩
   by_cases hji : j = i
   · subst hji; exact hy.wpOp hi hS ⟨fun _ => hS, H⟩
   · have h1 := H.2 j (ready_mono hj hji)
     obtain ⟨hjun, oj, hoj, hall⟩ := mem_ready.1 hj
     have hjz : j ≠ z := fun e => by
       subst e
       have h5 := waits_listed hcl f j oj hoj hall hw
       have h0 := (mem_ready.1 hr).1
       rcases Nat.lt_or_ge i listed.size with h' | h'
       · simp [h'] at h0 h5; rw [h0] at h5; cases h5
       · simp [Array.getElem?_eq_none h'] at h5
     have hnot : ∀ e ∈ oj.after, Region.binds md e = true -> e.on ≠ i := fun e he hb heq => by
       have h1 := hall e he hb
       have h0 := (mem_ready.1 hr).1
       rw [heq] at h1
       rcases Nat.lt_or_ge i listed.size with h' | h'
       · simp [h'] at h0 h1; rw [h0] at h1; cases h1
       · simp [Array.getElem?_eq_none h'] at h1
     have h2 := wpOp_putIf hoj (hfree j oj hoj hji hjun hnot) (fun cs b => hsel i oi cs b hi) (fun cs b => hsel j oj cs b hoj) hQ hy h1
     have hfree' : ∀ k ok, ops[k]? = some ok -> k ≠ i -> (listed.setIfInBounds j true).getD k true = false ->
         (∀ e ∈ ok.after, Region.binds md e = true -> e.on ≠ i) -> oi.apart ops ok = true := fun k ok hk hki hun hno => by
       refine hfree k ok hk hki ?_ hno
       by_cases hjk : j = k
       · subst hjk; exact hjun
       · rw [getD_set_ne true hjk] at hun; exact hun
     refine wpOp_mono (fun a' w' h3 => ⟨fun _ => h3.2.1 hjz, ih (listed.setIfInBounds j true) a' w' (hcl.set hj) hfree' (ready_mono hr (Ne.symm hji)) h3.1 (h3.2.1 hjz) ?_⟩) h2
     rw [Array.setIfInBounds_comm _ _ hji]
     exact h3.2.2
theorem takeZ_yes {i : Nat} {oi : Oper} {v : Value} {fuel : Nat} {listed : Array Bool} {a : Act} {w : World} (hi : ops.toList[i]? = some oi)
 (hs : Region.noSelect ops = true) (hf : Region.free md ops listed i = true) (hr : (Region.ready md ops listed).contains i = true)
 (hz : (closedB md ops listed && waits md ops ops.size z i) = true)
 (hQ : ∀ c a w, Q (.panic c) (a.put oi.dst v) w -> Q (.panic c) a w) (hw : Region.wanted oi (yielded ops a.tmps) = true) (hy : ∀ w, S w -> (execOp a.eval oi).run P w = .ok (.value v) w) (hS : S w)
 (h : wpAnyZ P md ops Q S z fuel (listed.setIfInBounds i true) (a.put oi.dst v) w) : wpAnyZ P md ops Q S z (fuel + 1) listed a w := by
 rw [Bool.and_eq_true] at hz
 have hi' : ops[i]? = some oi := by simpa using hi
 exact wpAnyZ_first hi' (Region.noSelect_spec hs) hQ hz.2 fuel listed a w (closed_of hz.1) (Region.free_spec hi' hf) (by simpa using hr) (Or.inl ⟨hw, hy⟩) hS h
def AllReadyZ (P : Program) (md : Region.Mode) (ops : Array Oper) (Q : Exit -> Act -> World -> Prop) (S : World -> Prop) (z : Nat) (fuel : Nat) (listed : Array Bool) (a : Act) (w : World) (rs : List Nat) : Prop :=
 ∀ i ∈ rs, wpOp P ops Q i (fun a' w' => (i ≠ z -> S w') /\ wpAnyZ P md ops Q S z fuel (listed.setIfInBounds i true) a' w') a w
theorem AllReadyZ.nil {fuel : Nat} {listed : Array Bool} {a : Act} {w : World} : AllReadyZ P md ops Q S z fuel listed a w [] := fun _ h => by cases h
theorem AllReadyZ.cons {fuel : Nat} {listed : Array Bool} {a : Act} {w : World} {i : Nat} {o : Oper} {rs : List Nat} (ho : ops.toList[i]? = some o)
 (h : ∀ K' : Act -> World -> Prop, Shut (∀ a w, S w -> (S w -> wpAnyZ P md ops Q S z fuel (listed.setIfInBounds i true) a w) -> K' a w) -> if Region.wanted o (yielded ops a.tmps) = true then Oper.wp P o a w K' Q else K' (a.put o.dst undef) w)
 (hs : AllReadyZ P md ops Q S z fuel listed a w rs) : AllReadyZ P md ops Q S z fuel listed a w (i :: rs) := fun j hj => by
 rcases List.mem_cons.1 hj with rfl | hj
 · exact wpOp_step (by simpa using ho) (fun K' hK => h K' (fun a w hS hW => hK a w ⟨fun _ => hS, hW hS⟩))
 · exact hs j hj
theorem AllReadyZ.last {fuel : Nat} {listed : Array Bool} {a : Act} {w : World} {o : Oper} (ho : ops.toList[z]? = some o)
 (h : ∀ K' : Act -> World -> Prop, Shut (∀ a w, wpAnyZ P md ops Q S z fuel (listed.setIfInBounds z true) a w -> K' a w) -> if Region.wanted o (yielded ops a.tmps) = true then Oper.wp P o a w K' Q else K' (a.put o.dst undef) w) :
 AllReadyZ P md ops Q S z fuel listed a w [z] := fun j hj => by
 obtain rfl : j = z := by simpa using hj
 exact wpOp_step (by simpa using ho) (fun K' hK => h K' (fun a w hW => hK a w ⟨fun e => absurd rfl e, hW⟩))
theorem wpAnyZ_ready {rs : List Nat} {fuel : Nat} {listed : Array Bool} {a : Act} {w : World} (hr : Region.ready md ops listed = rs) (hne : rs ≠ [])
 (h : AllReadyZ P md ops Q S z fuel listed a w rs) : wpAnyZ P md ops Q S z (fuel + 1) listed a w := ⟨fun h0 => absurd (hr ▸ h0) hne, hr ▸ h⟩
theorem wpAnyZ_done {listed : Array Bool} {a : Act} {w : World} (hr : Region.ready md ops listed = []) (h : Q .normal a w) : ∀ fuel, wpAnyZ P md ops Q S z fuel listed a w
 | 0 => ⟨hr, h⟩
 | _ + 1 => ⟨fun _ => h, by rw [hr]; simp⟩
theorem wp_region_z {id : Nat} {a : Act} {w : World} (z : Nat) (hm : P.follows .mixedOrders = true) (hS : S w.drew)
 (h : S w.drew -> wpAnyZ P .any ops Q S z ops.size (Array.replicate ops.size false) a w.drew) : (Code.region id ops true).wp P Q a w :=
 wp_region_any hm (wpAny_of_z _ _ _ _ (h hS))
end
structure IM where
 b : List Int
 was : List Int
 words : List Nat
 lim : Nat
def IM.word (m : IM) (i : Int) : Int := gnum m.b i 8
def IM.put8 (m : IM) (k : Nat) (n : Int) : IM := { m with b := splice m.b k (bts n 8), words := if k < m.was.length then m.words ++ [k] else m.words }
def IM.add (m : IM) (x : List Int) : IM := { m with b := m.b ++ x }
def IM.done (m : IM) : IM := { m with was := m.b, words := [] }
def IM.back (m : IM) : IM := { m with b := m.was, words := [] }
def touched (ws : List Nat) (j : Nat) : Bool := ws.any fun k => decide (k <= j) && decide (j < k + 8)
theorem touched_snoc (ws : List Nat) (k j : Nat) : touched (ws ++ [k]) j = (touched ws j || (decide (k <= j) && decide (j < k + 8))) := by simp [touched]
theorem touched_cons (ws : List Nat) (k j : Nat) : touched (k :: ws) j = ((decide (k <= j) && decide (j < k + 8)) || touched ws j) := by simp [touched]
theorem splice_len (l cs : List Int) (k : Nat) (h : k + cs.length <= l.length) : (splice l k cs).length = l.length := by
 unfold splice; simp only [List.length_append, List.length_take, List.length_drop]; omega
theorem lev_zero : ∀ {l : List Int}, AreB l -> lev l = 0 -> ∀ z ∈ l, z = 0
 | [], _, _, z, h => by cases h
 | x :: r, hb, h, z, hz => by
   have hx := hb x (by simp)
   have hr : AreB r := fun y hy => hb y (by simp [hy])
   have h0 := lev_bound r hr
   simp only [lev] at h
   rcases List.mem_cons.1 hz with rfl | hz
   · omega
   · exact lev_zero hr (by omega) z hz
theorem nz_of_all {l : List Int} (h : ∀ z ∈ l, z = 0) (j : Nat) : nz l j = 0 := by
 by_cases hj : j < l.length
 · rw [nz_in hj]; exact h _ (List.getElem_mem hj)
 · exact nz_out (by omega)
theorem word_zero {b : List Int} (hb : AreB b) {k : Nat} (hk : k + 8 <= b.length) (h : gnum b k 8 = 0) : ∀ j, k <= j -> j < k + 8 -> nz b j = 0 := by
 have hok : gok b.length (k : Int) 8 = true := by simp [gok]; omega
 unfold gnum at h
 rw [hok] at h
 have h2 : lev ((b.drop k).take 8) = 0 := by simpa using h
 intro j h1 h3
 have h4 := nz_of_all (lev_zero ((hb.drop k).take 8) h2) (j - k)
 rw [nz_take, nz_drop, if_pos (by omega)] at h4
 rwa [show k + (j - k) = j by omega] at h4
structure IM.Good (m : IM) : Prop where
 bb : AreB m.b
 wb : AreB m.was
 le : m.was.length <= m.b.length
 ws : ∀ k ∈ m.words, k < m.was.length /\ k + 8 <= m.b.length /\ k % 8 = 0 /\ 192 <= k
 un : ∀ j, j < m.was.length -> nz m.was j = if touched m.words j then 0 else nz m.b j
theorem IM.good_new {b : List Int} (hb : AreB b) (lim : Nat) : (⟨b, b, [], lim⟩ : IM).Good := ⟨hb, hb, Nat.le_refl _, fun k hk => (by cases hk), fun j _ => (by simp [touched])⟩
theorem IM.Good.done {m : IM} (h : m.Good) : m.done.Good := IM.good_new h.bb m.lim
theorem IM.Good.add {m : IM} (h : m.Good) {x : List Int} (hx : AreB x) : (m.add x).Good :=
 ⟨h.bb.append hx, h.wb, (by show m.was.length <= (m.b ++ x).length; rw [List.length_append]; have := h.le; omega), fun k hk => by
   have h2 := h.ws k hk
   show _ /\ k + 8 <= (m.b ++ x).length /\ _
   rw [List.length_append]
   exact ⟨h2.1, by omega, h2.2.2⟩, fun j hj => by
   show nz m.was j = if touched m.words j then 0 else nz (m.b ++ x) j
   have hj2 : j < m.was.length := hj
   have := h.le
   rw [nz_append, if_pos (show j < m.b.length by omega)]
   exact h.un j hj2⟩
theorem IM.Good.put8 {m : IM} (h : m.Good) {k : Nat} {n : Int} (hk : k + 8 <= m.b.length) (h8 : k % 8 = 0) (h0 : 192 <= k) (hz : gnum m.b k 8 = 0) : (m.put8 k n).Good := by
 have l8 : (bts n 8).length = 8 := by rw [bts_length]; rfl
 have hl : (splice m.b k (bts n 8)).length = m.b.length := splice_len _ _ _ (by omega)
 have hw := word_zero h.bb hk hz
 refine ⟨splice_bytes h.bb (bts_bytes _ _) _, h.wb, ?_, ?_, ?_⟩
 · show m.was.length <= (splice m.b k (bts n 8)).length; rw [hl]; exact h.le
 · intro q hq
   show q < m.was.length /\ q + 8 <= (splice m.b k (bts n 8)).length /\ _
   rw [hl]
   have hq' : q ∈ (if k < m.was.length then m.words ++ [k] else m.words) := hq
   split at hq'
   · rcases List.mem_append.1 hq' with h1 | h1
     · exact h.ws q h1
     · simp at h1; subst h1; exact ⟨by assumption, hk, h8, h0⟩
   · exact h.ws q hq'
 · intro j hj
   have hj : j < m.was.length := hj
   show nz m.was j = if touched (if k < m.was.length then m.words ++ [k] else m.words) j then 0 else nz (splice m.b k (bts n 8)) j
   rw [nz_splice _ _ _ _ (by omega), l8, h.un j hj]
   by_cases hc : k <= j /\ j < k + 8
   · rw [if_pos (show k < m.was.length by omega), touched_snoc, decide_eq_true hc.1, decide_eq_true hc.2, hw j hc.1 hc.2]
     simp
   · rw [if_neg hc]
     have e : touched (if k < m.was.length then m.words ++ [k] else m.words) j = touched m.words j := by
       split
       · rw [touched_snoc]
         have : (decide (k <= j) && decide (j < k + 8)) = false := by simp; omega
         rw [this, Bool.or_false]
       · rfl
     rw [e]
def zeroW (b : List Int) (ws : List Nat) : List Int := ws.foldl (fun L k => splice L k (List.replicate 8 0)) b
def layW (b L : List Int) (ws : List Nat) : List Int := ws.foldl (fun L k => splice L k ((b.drop k).take 8)) L
theorem zeroW_length : ∀ (ws : List Nat) (b : List Int), (∀ k ∈ ws, k + 8 <= b.length) -> (zeroW b ws).length = b.length
 | [], _, _ => rfl
 | k :: ws, b, h => by
   have hk := h k (by simp)
   have e : (splice b k (List.replicate 8 0)).length = b.length := splice_len _ _ _ (by rw [List.length_replicate]; exact hk)
   have := zeroW_length ws (splice b k (List.replicate 8 0)) (fun q hq => by rw [e]; exact h q (by simp [hq]))
   exact this.trans e
theorem nz_zeroW : ∀ (ws : List Nat) (b : List Int), (∀ k ∈ ws, k + 8 <= b.length) -> ∀ j, nz (zeroW b ws) j = if touched ws j then 0 else nz b j
 | [], _, _, j => by simp [zeroW, touched]
 | k :: ws, b, h, j => by
   have hk := h k (by simp)
   have e : (splice b k (List.replicate 8 0)).length = b.length := splice_len _ _ _ (by rw [List.length_replicate]; exact hk)
   have h1 := nz_zeroW ws (splice b k (List.replicate 8 0)) (fun q hq => by rw [e]; exact h q (by simp [hq])) j
   have h2 : zeroW b (k :: ws) = zeroW (splice b k (List.replicate 8 0)) ws := rfl
   rw [h2, h1, touched_cons, nz_splice _ _ _ _ (by omega), List.length_replicate, nz_zeros]
   by_cases hc : k <= j /\ j < k + 8
   · rw [decide_eq_true hc.1, decide_eq_true hc.2, if_pos hc]; simp
   · rw [if_neg hc, show (decide (k <= j) && decide (j < k + 8)) = false by simp; omega, Bool.false_or]
theorem layW_length (b : List Int) : ∀ (ws : List Nat) (L : List Int), L.length = b.length -> (∀ k ∈ ws, k + 8 <= b.length) -> (layW b L ws).length = b.length
 | [], _, h, _ => h
 | k :: ws, L, hL, h => by
   have hk := h k (by simp)
   have e : (splice L k ((b.drop k).take 8)).length = b.length := (splice_len _ _ _ (by rw [List.length_take, List.length_drop]; omega)).trans hL
   exact layW_length b ws _ e (fun q hq => h q (by simp [hq]))
theorem nz_layW (b : List Int) : ∀ (ws : List Nat) (L : List Int), L.length = b.length -> (∀ k ∈ ws, k + 8 <= b.length) -> ∀ j, nz (layW b L ws) j = if touched ws j then nz b j else nz L j
 | [], _, _, _, j => by simp [layW, touched]
 | k :: ws, L, hL, h, j => by
   have hk := h k (by simp)
   have l8 : ((b.drop k).take 8).length = 8 := by rw [List.length_take, List.length_drop]; omega
   have e : (splice L k ((b.drop k).take 8)).length = b.length := (splice_len _ _ _ (by omega)).trans hL
   have h1 := nz_layW b ws (splice L k ((b.drop k).take 8)) e (fun q hq => h q (by simp [hq])) j
   have h2 : layW b L (k :: ws) = layW b (splice L k ((b.drop k).take 8)) ws := rfl
   rw [h2, h1, touched_cons, nz_splice _ _ _ _ (by omega), l8]
   by_cases hc : k <= j /\ j < k + 8
   · rw [decide_eq_true hc.1, decide_eq_true hc.2, if_pos hc, nz_take, if_pos (show j - k < 8 by omega), nz_drop, show k + (j - k) = j by omega]; simp
   · rw [if_neg hc, show (decide (k <= j) && decide (j < k + 8)) = false by simp; omega, Bool.false_or]
theorem IM.Good.undo {m : IM} (h : m.Good) : (zeroW m.b m.words).take m.was.length = m.was := by
 have hw : ∀ k ∈ m.words, k + 8 <= m.b.length := fun k hk => (h.ws k hk).2.1
 have hl := h.le
 refine ext_nz (by rw [List.length_take, zeroW_length _ _ hw]; omega) fun j hj => ?_
 rw [List.length_take, zeroW_length _ _ hw] at hj
 rw [nz_take, if_pos (by omega), nz_zeroW _ _ hw, h.un j (by omega)]
def nats (l : List Nat) : List Int := l.map Int.ofNat
theorem nats_snoc (l : List Nat) (k : Nat) : nats (l ++ [k]) = nats l ++ [(k : Int)] := by simp [nats]
theorem nats_get {l : List Nat} {j : Nat} (h : j < l.length) : (nats l).getD j 0 = (l.getD j 0 : Nat) := by
 simp [nats, List.getD_eq_getElem?_getD, List.getElem?_eq_getElem h]
abbrev imC (i k d f h : Int) (L : Nat) (bv : Value) (old : Nat) (sv : Value) : Array Value := #[.int .u64 i, .int .u64 k, .int .i64 d, .int .i64 f, .int .u64 h, .int .i64 (L : Int), bv, .int .i64 (old : Int), sv]
structure IX (w : World) (base : Nat) (S : Nat -> Prop) (p : Nat) (i k d f h : Int) (m : IM) (bv sv : Value) : Prop where
 foot : ∀ j, S j -> base <= j /\ j < w.heap.size
 bas : base <= w.heap.size
 inp : S p
 blk : Blk w p 95 (imC i k d f h m.lim bv m.was.length sv)
 row : w.ownsRow base 5 1 bv m.b.length (cellsOf .u8 m.b)
 set : w.ownsRow base 3 1 sv m.words.length (cellsOf .i64 (nats m.words))
 inb : ∀ g, bv.ownBlock = some g -> S g
 ins : ∀ g, sv.ownBlock = some g -> S g
section
variable {w w1 w' : World} {base p : Nat} {S T : Nat -> Prop} {i k d f h : Int} {m : IM} {bv wv sv v' : Value}
theorem IX.keep (H : IX w base S p i k d f h m bv sv) (hc : Chg T w w') (hT : ∀ j, S j -> ¬ T j) : IX w' base S p i k d f h m bv sv :=
 ⟨fun j hj => by have := H.foot j hj; have := hc.size; omega, by have := H.bas; have := hc.size; omega, H.inp, H.blk.chg hc (hT p H.inp), own_chg H.row hc (fun g hg => hT g (H.inb g hg)), own_chg H.set hc (fun g hg => hT g (H.ins g hg)), H.inb, H.ins⟩
theorem IX.below (H : IX w base S p i k d f h m bv sv) (hb : Below w.heap.size w w') : IX w' base S p i k d f h m bv sv := H.keep (Chg.of_below hb (Nat.le_refl _) (fun _ => False)) (fun _ _ h => h)
theorem IX.mono (H : IX w base S p i k d f h m bv sv) (hS : ∀ j, S j -> T j) (hT : ∀ j, T j -> base <= j /\ j < w.heap.size) : IX w base T p i k d f h m bv sv :=
 ⟨hT, H.bas, hS p H.inp, H.blk, H.row, H.set, fun g hg => hS g (H.inb g hg), fun g hg => hS g (H.ins g hg)⟩
theorem IX.drewN (H : IX w base S p i k d f h m bv sv) (n : Nat) : IX (w.drewN n) base S p i k d f h m bv sv := H.below (below_drewn (Below.refl _ _) n)
theorem IX.pb (H : IX w base S p i k d f h m bv sv) : bv.ownBlock ≠ some p := own_blk_ne H.row H.blk (by decide)
theorem IX.ps (H : IX w base S p i k d f h m bv sv) : sv.ownBlock ≠ some p := own_blk_ne H.set H.blk (by decide)
theorem IX.reads (H : IX w base S p i k d f h m bv sv) : ∃ A c, bv = .slice A m.b.length c /\ m.b.length <= c /\ c <= 9223372036854775807 /\ Reads w w.heap.size 1 A m.b.length (cellsOf .u8 m.b) := by
 obtain ⟨A, c, e, h1, h2, h3⟩ := own_reads H.row
 exact ⟨A, c, e, h1, by unfold maxLen at h2; omega, h3⟩
theorem IX.places (H : IX w base S p i k d f h m bv sv) : ∃ A c, sv = .slice A m.words.length c /\ m.words.length <= c /\ c <= 9223372036854775807 /\ Reads w w.heap.size 1 A m.words.length (cellsOf .i64 (nats m.words)) := by
 obtain ⟨A, c, e, h1, h2, h3⟩ := own_reads H.set
 exact ⟨A, c, e, h1, by unfold maxLen at h2; omega, h3⟩
theorem nine {w : World} {g : Nat} {t : TypeId} {a0 a1 a2 a3 a4 a5 a6 a7 a8 : Value} (H : Blk w g t #[a0, a1, a2, a3, a4, a5, a6, a7, a8]) :
 (w.cell? ⟨g, 0, none⟩ = some a0 /\ w.cell? ⟨g, 1, none⟩ = some a1 /\ w.cell? ⟨g, 2, none⟩ = some a2 /\ w.cell? ⟨g, 3, none⟩ = some a3 /\ w.cell? ⟨g, 4, none⟩ = some a4 /\ w.cell? ⟨g, 5, none⟩ = some a5 /\ w.cell? ⟨g, 6, none⟩ = some a6 /\ w.cell? ⟨g, 7, none⟩ = some a7 /\ w.cell? ⟨g, 8, none⟩ = some a8) /\
 (w.frozen? ⟨g, 5, none⟩ = false /\ w.frozen? ⟨g, 6, none⟩ = false /\ w.frozen? ⟨g, 7, none⟩ = false /\ w.frozen? ⟨g, 8, none⟩ = false) :=
 ⟨⟨H.cell 0, H.cell 1, H.cell 2, H.cell 3, H.cell 4, H.cell 5, H.cell 6, H.cell 7, H.cell 8⟩, H.frozen 5, H.frozen 6, H.frozen 7, H.frozen 8⟩
def IXT (base : Nat) (S : Nat -> Prop) (p : Nat) (i k d f h : Int) (m' : IM) (w w' : World) : Prop := Chg S w w' /\ ∃ bv sv, IX w' base (grow S w w') p i k d f h m' bv sv
def IXnew (base : Nat) (i k d f h : Int) (m : IM) (w : World) (e : Ending) (w' : World) : Prop :=
 ∃ p bv sv, e = .returned (.pointer (some ⟨p, 0, none⟩)) /\ Below w.heap.size w w' /\ IX w' base (fun j => w.heap.size <= j /\ j < w'.heap.size) p i k d f h m bv sv
theorem IXT.of {S' : Nat -> Prop} {w0 : World} (hc : Chg S w w') (H : IX w' base S' p i k d f h m bv sv) (hS : ∀ j, S' j -> S j ∨ w.heap.size <= j) (hf : ∀ j, S j -> base <= j /\ j < w.heap.size) (hb : base <= w.heap.size) : IXT base S p i k d f h m w w' :=
 ⟨hc, bv, sv, H.mono (fun j hj => by
   have := (H.foot j hj).2
   rcases hS j hj with h1 | h1
   · exact .inl h1
   · exact .inr ⟨h1, this⟩) (chg_lt hf hc hb)⟩
theorem IXT.same (H : IX w base S p i k d f h m bv sv) : IXT base S p i k d f h m w w := IXT.of (w0 := w) (Chg.refl _ _) H (fun _ h => .inl h) H.foot H.bas
theorem IXT.far (H : IX w base S p i k d f h m bv sv) (hb : Below w.heap.size w w') : IXT base S p i k d f h m w w' := IXT.of (w0 := w) (Chg.of_below hb (Nat.le_refl _) S) (H.below hb) (fun _ h => .inl h) H.foot H.bas
theorem IX.laid {g n c a : Nat} {cur : List Value} {ys : List Int} (H : IX w base S p i k d f h m (.slice (some ⟨g, 0, none⟩) n c) sv) (hn : n = m.b.length) (hl : cur.length = c * 1) (ht : cur.take (n * 1) = cellsOf .u8 m.b) (ha : a + ys.length <= n)
 (hb2 : Blk w' g 5 (splice cur a (cellsOf .u8 ys)).toArray) (hc : Chg (fun j => j = g) w w') : IX w' base S p i k d f h { m with b := splice m.b a ys } (.slice (some ⟨g, 0, none⟩) n c) sv := by
 subst hn
 obtain ⟨A', c', e, h1, h2⟩ := own_form H.row
 injection e with e1 _ e3
 subst e1; subst e3
 have hbg : base <= g := (H.row.lt g rfl).1
 have hwl : (splice m.b a ys).length = m.b.length := splice_len _ _ _ ha
 simp only [Nat.mul_one] at hl ht
 refine ⟨fun j hj => by have := H.foot j hj; have := hc.size; omega, Nat.le_trans H.bas hc.size, H.inp, H.blk.chg hc (fun e => H.pb (by rw [e]; rfl)), ?_, own_chg H.set hc (fun g' hg e => own_ne H.row H.set (by decide) g (by rfl) (by rw [<- e]; exact hg)), H.inb, H.ins⟩
 show w'.ownsRow base 5 1 _ (splice m.b a ys).length (cellsOf .u8 (splice m.b a ys))
 rw [hwl]
 refine row_shut hbg hb2 h1 h2 (by rw [length_splice _ _ _ (by rw [cellsOf_length, hl]; omega)]; omega) ?_ (by rw [cellsOf_length, hwl]; omega)
 rw [Nat.mul_one, take_splice ht (by omega) (by rw [cellsOf_length]; omega), splice_cells]
theorem IX.setB {zs : List Int} (H : IX w base S p i k d f h m bv sv) (hown : w1.ownsRow base 5 1 v' zs.length (cellsOf .u8 zs)) (hc : Chg (fun j => bv.ownBlock = some j) w w1) (hm : Moved w bv v') :
 IXT base S p i k d f h { m with b := zs } w (w1.setCell ⟨p, 6, none⟩ v') := by
 have hb1 : Blk w1 p 95 (imC i k d f h m.lim bv m.was.length sv) := H.blk.chg hc (fun e => H.pb e)
 have hs1 := own_chg H.set hc (fun g hg e => own_ne H.row H.set (by decide) g e hg)
 have far : ∀ {e : TypeId} {size n : Nat} {u : Value} {ys : List Value}, w1.ownsRow base e size u n ys -> e ≠ 95 -> (w1.setCell ⟨p, 6, none⟩ v').ownsRow base e size u n ys := fun hu hne => ownsRow_setCell_other hu (own_blk_ne hu hb1 hne) _
 have hsz : (w1.setCell ⟨p, 6, none⟩ v').heap.size = w1.heap.size := by simp [World.setCell]
 refine IXT.of (w0 := w) (S' := grow S w w1) (bv := v') (sv := sv) ((hc.mono (fun j _ e => H.inb j e)).setCell (.inr H.inp) _) ⟨by rw [hsz]; exact chg_lt H.foot hc H.bas, by rw [hsz]; have := hc.size; have := H.bas; omega, .inl H.inp, by have := hb1.set_ 6 v'; simpa [imC] using this, far hown (by decide), far hs1 (by decide), ?_, fun g hg => .inl (H.ins g hg)⟩ (fun j hj => hj.imp id (fun x => x.1)) H.foot H.bas
 intro g hg
 rcases hm with e | ⟨j, e, hj⟩
 · exact .inl (H.inb g (by rw [<- e]; exact hg))
 · rw [hg] at e; injection e with e; subst e
   exact .inr ⟨hj, (hown.lt g hg).2⟩
theorem IX.setW {ws : List Nat} (H : IX w base S p i k d f h m bv sv) (hown : w1.ownsRow base 3 1 v' ws.length (cellsOf .i64 (nats ws))) (hc : Chg (fun j => sv.ownBlock = some j) w w1) (hm : Moved w sv v') :
 IXT base S p i k d f h { m with words := ws } w (w1.setCell ⟨p, 8, none⟩ v') := by
 have hb1 : Blk w1 p 95 (imC i k d f h m.lim bv m.was.length sv) := H.blk.chg hc (fun e => H.ps e)
 have hs1 := own_chg H.row hc (fun g hg e => own_ne H.row H.set (by decide) g hg e)
 have far : ∀ {e : TypeId} {size n : Nat} {u : Value} {ys : List Value}, w1.ownsRow base e size u n ys -> e ≠ 95 -> (w1.setCell ⟨p, 8, none⟩ v').ownsRow base e size u n ys := fun hu hne => ownsRow_setCell_other hu (own_blk_ne hu hb1 hne) _
 have hsz : (w1.setCell ⟨p, 8, none⟩ v').heap.size = w1.heap.size := by simp [World.setCell]
 refine IXT.of (w0 := w) (S' := grow S w w1) (bv := bv) (sv := v') ((hc.mono (fun j _ e => H.ins j e)).setCell (.inr H.inp) _) ⟨by rw [hsz]; exact chg_lt H.foot hc H.bas, by rw [hsz]; have := hc.size; have := H.bas; omega, .inl H.inp, by have := hb1.set_ 8 v'; simpa [imC] using this, far hs1 (by decide), far hown (by decide), fun g hg => .inl (H.inb g hg), ?_⟩ (fun j hj => hj.imp id (fun x => x.1)) H.foot H.bas
 intro g hg
 rcases hm with e | ⟨j, e, hj⟩
 · exact .inl (H.ins g (by rw [<- e]; exact hg))
 · rw [hg] at e; injection e with e; subst e
   exact .inr ⟨hj, (hown.lt g hg).2⟩
theorem IX.setDone (H : IX w base S p i k d f h m bv sv) : IXT base S p i k d f h m.done w ((w.setCell ⟨p, 7, none⟩ (.int .i64 (m.b.length : Nat))).setCell ⟨p, 8, none⟩ (.slice none 0 0)) := by
 have far : ∀ {e : TypeId} {size n : Nat} {u : Value} {ys : List Value}, w.ownsRow base e size u n ys -> e ≠ 95 -> ((w.setCell ⟨p, 7, none⟩ (.int .i64 (m.b.length : Nat))).setCell ⟨p, 8, none⟩ (.slice none 0 0)).ownsRow base e size u n ys := fun hu hne =>
   ownsRow_setCell_other (ownsRow_setCell_other hu (own_blk_ne hu H.blk hne) _) (own_blk_ne (ownsRow_setCell_other hu (own_blk_ne hu H.blk hne) _) (H.blk.set_ 7 (.int .i64 (m.b.length : Nat))) hne) _
 have hb2 := (H.blk.set_ 7 (.int .i64 (m.b.length : Nat))).set_ 8 (.slice none 0 0)
 have hsz : ((w.setCell ⟨p, 7, none⟩ (.int .i64 (m.b.length : Nat))).setCell ⟨p, 8, none⟩ (.slice none 0 0)).heap.size = w.heap.size := by simp [World.setCell]
 exact IXT.of (w0 := w) (S' := S) (bv := bv) (sv := .slice none 0 0) (((Chg.refl S w).setCell (.inr H.inp) _).setCell (.inr H.inp) _) ⟨by rw [hsz]; exact H.foot, by rw [hsz]; exact H.bas, H.inp, by simpa [imC, IM.done] using hb2, far H.row (by decide), World.ownsRow_nil _ _ _ _, H.inb, fun g hg => by simp [Value.ownBlock] at hg⟩ (fun j hj => .inl hj) H.foot H.bas
theorem IX.setBack {A : Option Addr} {n c : Nat} {zs : List Int} (H : IX w base S p i k d f h m (.slice A n c) sv) (hn : m.was.length <= m.b.length) (hz : m.b.take m.was.length = zs) (hl : zs.length = m.was.length) :
 IXT base S p i k d f h ⟨zs, zs, [], m.lim⟩ w ((w.setCell ⟨p, 6, none⟩ (.slice A m.was.length c)).setCell ⟨p, 8, none⟩ (.slice none 0 0)) := by
 have far : ∀ {e : TypeId} {size n : Nat} {u : Value} {ys : List Value}, w.ownsRow base e size u n ys -> e ≠ 95 -> ((w.setCell ⟨p, 6, none⟩ (.slice A m.was.length c)).setCell ⟨p, 8, none⟩ (.slice none 0 0)).ownsRow base e size u n ys := fun hu hne =>
   ownsRow_setCell_other (ownsRow_setCell_other hu (own_blk_ne hu H.blk hne) _) (own_blk_ne (ownsRow_setCell_other hu (own_blk_ne hu H.blk hne) _) (H.blk.set_ 6 (.slice A m.was.length c)) hne) _
 have hb2 := (H.blk.set_ 6 (.slice A m.was.length c)).set_ 8 (.slice none 0 0)
 have hsz : ((w.setCell ⟨p, 6, none⟩ (.slice A m.was.length c)).setCell ⟨p, 8, none⟩ (.slice none 0 0)).heap.size = w.heap.size := by simp [World.setCell]
 have hr := H.row
 obtain ⟨A', c', e, -, -⟩ := own_form hr
 injection e with e1 e2 e3
 subst e2
 have hcut := row_cut hr hn
 have hz2 : (cellsOf .u8 m.b).take m.was.length = cellsOf .u8 zs := by rw [<- hz]; simp [cellsOf]
 rw [hz2] at hcut
 refine IXT.of (w0 := w) (S' := S) (bv := .slice A m.was.length c) (sv := .slice none 0 0) (((Chg.refl S w).setCell (.inr H.inp) _).setCell (.inr H.inp) _) ⟨by rw [hsz]; exact H.foot, by rw [hsz]; exact H.bas, H.inp, ?_, ?_, World.ownsRow_nil _ _ _ _, fun g hg => H.inb g (by rw [<- hg]; cases A <;> rfl), fun g hg => by simp [Value.ownBlock] at hg⟩ (fun j hj => .inl hj) H.foot H.bas
 · show Blk _ p 95 (imC i k d f h m.lim (.slice A m.was.length c) zs.length (.slice none 0 0))
   rw [hl]
   simpa [imC] using hb2
 · show World.ownsRow _ base 5 1 (.slice A m.was.length c) zs.length (cellsOf .u8 zs)
   rw [hl]
   exact far hcut (by decide)
end
theorem imByteOne : (Tryz.prog.info? 5).map (·.size) = some 1 := by kernel_rfl
theorem itail_any (p n : Nat) (A : Option Addr) (c : Nat) (w : World) (h : w.cell? ⟨p, 6, none⟩ = some (.slice A n c)) :
   Calls Tryz.prog 26 #[.pointer (some ⟨p, 0, none⟩)] w fun e w' => e = .returned (.int .i64 n) /\ w = w' := by
 go_enter Tryz.func26, Tryz.ntmps26
 go_wp2
 go_ret
 exact ⟨rfl, rfl⟩
section
variable {base p : Nat} {S : Nat -> Prop} {i k d f h : Int} {m : IM} {bv sv : Value}
theorem ibytes_any (w : World) (H : IX w base S p i k d f h m bv sv) (hl : m.b.length <= 140737488355328) :
 Calls Tryz.prog 15 #[.pointer (some ⟨p, 0, none⟩)] w (Told m.b w) := by
 obtain ⟨A, c, rfl, h1, h2, h3⟩ := H.reads
 obtain ⟨⟨-, -, -, -, -, -, c6, -, -⟩, -⟩ := nine H.blk
 have CL := Lib.hid (bclone_any A m.b.length c m.b w.heap.size w h3 (Nat.le_refl _) hl)
 obtain ⟨n, hn⟩ : ∃ n, n = m.b.length := ⟨_, rfl⟩
 rw [<- hn] at c6 CL
 clear H h1 h2 h3 hn hl
 go_enter Tryz.func15, Tryz.ntmps15
 go_wp2_with (go_at_call 49; refine CL.out.mono ?_; rintro e w1 ⟨A1, n1, c1, rfl, ht⟩; have HT := Lib.hid ht; clear ht)
 go_ret
 exact ⟨A1, n1, c1, rfl, HT.out⟩
theorem ihead_any (w : World) (H : IX w base S p i k d f h m bv sv) :
 Calls Tryz.prog 110 #[.pointer (some ⟨p, 0, none⟩)] w fun e w' => e = .returned (hdV i k d f h) /\ Below w.heap.size w w' := by
 obtain ⟨⟨c0, c1, c2, c3, c4, -, -, -, -⟩, -⟩ := nine (H.blk.alloc (.cells #[.int .u64 0, .int .u64 0, .int .i64 0, .int .i64 0, .int .u64 0] 29))
 clear H
 go_enter Tryz.func110, Tryz.ntmps110
 go_wp2
 refine bodyPost_ret (results_cell_row rfl _ _ w.heap.size 29 _ (0, 0) _ rfl (Blk.new w _ _) Tryz.underlying29 rfl (by kernel_rfl)) rfl ?_
 exact ⟨rfl, boxed _ _⟩
theorem iword2_any (at_ : Int) (w : World) (H : IX w base S p i k d f h m bv sv) (hb : AreB m.b) (h0 : -9223372036854775808 <= at_) (h1 : at_ <= 9223372036854775807) :
 Calls Tryz.prog 176 #[.pointer (some ⟨p, 0, none⟩), .int .i64 at_] w fun e w' => e = .returned (.tuple #[.int .u64 (m.word at_), .bool (gok m.b.length at_ 8)]) /\ w = w' := by
 obtain ⟨A, c, rfl, q1, q2, q3⟩ := H.reads
 obtain ⟨⟨-, -, -, -, -, -, c6, -, -⟩, -⟩ := nine H.blk
 have G := get_any A m.b.length c at_ 8 m.b w q3 hb q1 q2 h0 h1 (by omega) (by omega)
 have GG := Lib.hid G
 obtain ⟨n, hn⟩ : ∃ n, n = m.b.length := ⟨_, rfl⟩
 rw [<- hn] at c6 GG ⊢
 clear H q1 q2 q3 G hn
 go_enter Tryz.func176, Tryz.ntmps176
 go_wp2_with (go_at_call 52; refine GG.out.mono ?_; rintro e w1 ⟨rfl, rfl⟩)
 go_ret2
 exact ⟨rfl, rfl⟩
theorem iword_any (at_ : Int) (w : World) (H : IX w base S p i k d f h m bv sv) (hb : AreB m.b) (h0 : -9223372036854775808 <= at_) (h1 : at_ <= 9223372036854775807) :
 Calls Tryz.prog 127 #[.pointer (some ⟨p, 0, none⟩), .int .i64 at_] w fun e w' => e = .returned (.int .u64 (m.word at_)) /\ w = w' := by
 have GG := Lib.hid (iword2_any at_ w H hb h0 h1)
 clear H hb
 go_enter Tryz.func127, Tryz.ntmps127
 go_wp2_with (go_at_call 176; refine GG.out.mono ?_; rintro e w1 ⟨rfl, rfl⟩)
 go_ret
 exact ⟨rfl, rfl⟩
theorem bts8_length (x : Int) : (bts x 8).length = 8 := by rw [bts_length]; rfl
set_option maxHeartbeats 1000000 in
theorem ilay_any (a : Nat) (x : Int) (w : World) (H : IX w base S p i k d f h m bv sv) (ha : a + 8 <= m.b.length) :
 Calls Tryz.prog 95 #[.pointer (some ⟨p, 0, none⟩), .int .i64 a, .int .u64 x] w fun e w' => e = .returned (.tuple #[]) /\ Chg (fun j => bv.ownBlock = some j) w w' /\ IX w' base S p i k d f h { m with b := splice m.b a (bts x 8) } bv sv := by
 obtain ⟨A, c, rfl, q1, q2, q3⟩ := H.reads
 obtain ⟨n, hn⟩ : ∃ n, n = m.b.length := ⟨_, rfl⟩
 rw [<- hn] at H q1 ha
 have hrow := H.row
 rw [<- hn] at hrow
 obtain ⟨g, cur, rfl, r1, r2, r3, r4, r5, r6⟩ := row_open hrow (by omega)
 have HX := Lib.hid (fun w1 (hb : Below w.heap.size w w1) => (H.below hb))
 have HC := Lib.hid (fun w1 (hb : Below w.heap.size w w1) => ((nine (H.below hb).blk).1.2.2.2.2.2.2.1 : w1.cell? ⟨p, 6, none⟩ = some (.slice (some ⟨g, 0, none⟩) n c)))
 have HK := Lib.hid (fun w1 (hb : Below w.heap.size w w1) => (r2.below hb r2.lt : Blk w1 g 5 cur.toArray))
 have hb : Below w.heap.size w w.drew := below_drewn (Below.refl _ _) 1
 have H0 := Lib.hid (HC.out _ hb)
 have LXC : Hid ((cellsOf .u8 (bts x 8)).length = 8) := by show _ = _; rw [cellsOf_length]; exact bts8_length x
 have MP : Hid (8 = Nat.min 8 (n - a)) := by show 8 = min 8 (n - a); omega
 have FP : Hid (a + 8 <= cur.length) := by show _ <= _; omega
 have t1 : (a : Int) <= (n : Int) := by omega
 have t2 : a <= n := by omega
 have t3 : ¬ c = a := by omega
 have HN := Lib.hid hn
 have HR := Lib.hid (And.intro r5 r6)
 have HA := Lib.hid ha
 have HL := Lib.hid (And.intro (HX.out w (Below.refl _ _)) H.bas)
 clear H q3 hrow r1 r2 r3 r4 r5 r6 hn ha
 go_enter Tryz.func95, Tryz.ntmps95
 go_wp2_with fail
 go_region_held3 (fun w' => w'.cell? ⟨p, 6, none⟩ = some (.slice (some ⟨g, 0, none⟩) n c))
   (first | assumption | exact H0.out | exact HC.out _ hb)
   (first
     | (go_at_call 129; refine (bytes_any x 8 _).mono ?_; rintro e wx ⟨A1, c1, rfl, ho1, hbx⟩; rw [bts8_length] at ho1 ⊢; have hb := hb.trans (hbx.mono hb.size); have hr1 := Reads.of_own ho1; clear hbx ho1)
     | (refine step_copy_blk rfl _ _ _ _ rfl 5 Tryz.underlying24 imByteOne _ _ _ _ _ _ rfl rfl g a 8 cur 5 (HK.out _ hb) (cellsOf .u8 (bts x 8)) LXC.out MP.out (fun _ => ⟨rfl, by obtain ⟨ad, h0, _, hc⟩ := hr1.2 (by omega); exact ⟨ad, h0, hc⟩⟩) FP.out (cellsOf_one _ _) ?_; intro w6 HG hc; have HX6 := Lib.hid ((HX.out _ hb).laid HN.out HR.out.1 HR.out.2 (by rw [bts8_length]; exact HA.out) HG.out hc); have hS := (nine HX6.out.blk).1.2.2.2.2.2.2.1; have HC6 := Lib.hid hc; clear HG hc))
 clear hS
 go_wp2
 go_end0
 rw [<- HN.out]
 exact ⟨rfl, (Chg.of_below hb (Nat.le_refl _) _).trans HC6.out (fun j _ e => by rw [e]; rfl), HX6.out⟩
end
theorem placeInfo : (Tryz.prog.info? 3).map (fun i => (i.zero, i.size, i.bytes)) = some (some (.int .i64 0), 1, 8) := by kernel_rfl
section
variable {base p : Nat} {S : Nat -> Prop} {i k d f h : Int} {m : IM} {bv sv : Value}
theorem IXT.later {w w1 w' : World} (hc : Chg S w w1) (hf : ∀ j, S j -> base <= j /\ j < w.heap.size) (hb : base <= w.heap.size) (H : IXT base S p i k d f h m w1 w') : IXT base S p i k d f h m w w' := by
 obtain ⟨h1, bv, sv, h2⟩ := H
 have := hc.size
 refine IXT.of (w0 := w) (hc.trans h1 (fun _ _ h => h)) h2 (fun j hj => ?_) hf hb
 rcases hj with hj | hj
 · exact .inl hj
 · exact .inr (by omega)
theorem IX.pushed {w w1 w' : World} {v' : Value} {q : Nat} {A : Option Addr} {n c : Nat} (H : IX w base S p i k d f h m bv (.slice A n c)) (ob : Obj) (hg : (w.alloc ob).grownBy w1 (Value.ownBlock (.slice A n c))) (hown : w1.ownsRow base 3 1 v' (n + 1) (cellsOf .i64 (nats m.words) ++ cellsOf .i64 [(q : Int)]))
 (hat : v'.ownBlock = Value.ownBlock (.slice A n c) ∨ v'.ownBlock = some (w.heap.size + 1)) (hn : n = m.words.length) :
 IXT base S p i k d f h { m with words := m.words ++ [q] } w (w1.setCell ⟨p, 8, none⟩ v') := by
 have hc : Chg (fun j => Value.ownBlock (.slice A n c) = some j) w w1 := ((Chg.refl (fun j => Value.ownBlock (.slice A n c) = some j) w).alloc ob).trans (Chg.of_grown hg) (fun _ _ e => e)
 refine H.setW ?_ hc ?_
 · rw [List.length_append, nats_snoc, cellsOf_append, <- hn]; exact hown
 · rcases hat with e | e
   · exact .inl e
   · exact .inr ⟨_, e, by omega⟩
theorem IX.cell8 {w w1 : World} (H : IX w base S p i k d f h m bv sv) (ob : Obj) (hg : (w.alloc ob).grownBy w1 sv.ownBlock) : w1.cell? ⟨p, 8, none⟩ = some sv /\ w1.frozen? ⟨p, 8, none⟩ = false := by
 have hb : Blk w1 p 95 (imC i k d f h m.lim bv m.was.length sv) := (H.blk.alloc ob).chg (Chg.of_grown hg) (fun e => H.ps e)
 exact ⟨hb.cell 8, hb.frozen 8⟩
theorem iset_twice (q : Nat) (n : Int) (w : World) (H : IX w base S p i k d f h m bv sv) (hb : AreB m.b) (hq : q + 8 <= m.b.length) (h8 : q % 8 = 0) (h0 : 192 <= q) (hl : m.b.length <= 1099511627776) (hz : m.word q ≠ 0) :
 Calls Tryz.prog 141 #[.pointer (some ⟨p, 0, none⟩), .int .i64 q, .int .u64 n] w fun e w' => e = .returned (.int .i64 7) /\ w = w' := by
 have GG := Lib.hid (iword2_any q w H hb (by omega) (by omega))
 rw [show gok m.b.length (q : Int) 8 = true by simp [gok]; omega] at GG
 have hr : Int.tmod (q : Int) 8 = 0 := by rw [Int.tmod_eq_emod_of_nonneg (by omega)]; omega
 have hz2 : (m.word q != 0) = true := by simpa using hz
 have hq2 : ¬ (q : Int) < 192 := by omega
 generalize m.word q = u at GG hz2
 clear H hb hz h0 h8 hq
 go_enter Tryz.func141, Tryz.ntmps141
 go_wp2_with (go_at_call 176; refine GG.out.mono ?_; rintro e w1 ⟨rfl, rfl⟩)
 go_ret
 exact ⟨rfl, rfl⟩
set_option maxHeartbeats 1000000 in
theorem iset_yes (q : Nat) (n : Int) (w : World) (H : IX w base S p i k d f h m bv sv) (hb : AreB m.b) (hq : q + 8 <= m.b.length) (h8 : q % 8 = 0) (h0 : 192 <= q) (hl : m.b.length <= 1099511627776) (hN : m.words.length <= 1000000000) (hwl : m.was.length <= 1099511627776) (hz : m.word q = 0) :
 Calls Tryz.prog 141 #[.pointer (some ⟨p, 0, none⟩), .int .i64 q, .int .u64 n] w fun e w' => e = .returned (.int .i64 0) /\ IXT base S p i k d f h (m.put8 q n) w w' := by
 obtain ⟨i0, hi, hz0, hz1, hz2⟩ := info_parts placeInfo
 have GG := Lib.hid (iword2_any q w H hb (by omega) (by omega))
 rw [show gok m.b.length (q : Int) 8 = true by simp [gok]; omega, hz] at GG
 have LL := Lib.hid (ilay_any q n w H hq)
 have hr : Int.tmod (q : Int) 8 = 0 := by rw [Int.tmod_eq_emod_of_nonneg (by omega)]; omega
 have hq2 : ¬ (q : Int) < 192 := by omega
 obtain ⟨As, cs, rfl, s1, s2, s3⟩ := H.places
 obtain ⟨nw, hnw⟩ : ∃ nw, nw = m.words.length := ⟨_, rfl⟩
 obtain ⟨o, ho⟩ : ∃ o, o = m.was.length := ⟨_, rfl⟩
 rw [<- hnw] at LL H hN
 have k2 : nw + 1 <= maxLen := by unfold maxLen; omega
 have k3 : (nw + 1) * 8 <= 140737488355328 := by omega
 have HS := Lib.hid H
 have HNW := Lib.hid hnw
 have HO := Lib.hid ho
 rw [<- ho] at hwl
 by_cases hlt : q < o
 · have hlt2 : (q : Int) < (o : Int) := by omega
   have HP : Hid (m.put8 q n = { { m with b := splice m.b q (bts n 8) } with words := m.words ++ [q] }) := by show _ = _; unfold IM.put8; rw [if_pos (by rw [<- ho]; exact hlt)]
   clear H hb hz h0 h8 hq s1 s2 s3 hnw ho hN
   go_enter Tryz.func141, Tryz.ntmps141
   go_wp2_with (first
     | (go_at_call 176; refine GG.out.mono ?_; rintro e w1 ⟨rfl, rfl⟩)
     | (go_at_call 95; go_loud (refine LL.out.mono ?_; rintro e w1 ⟨rfl, hc1, hx1⟩; have HC1 := Lib.hid hc1; have HX1 := Lib.hid hx1; obtain ⟨⟨-, -, -, -, -, -, -, c7, c8⟩, -⟩ := nine hx1.blk; rw [show (IM.mk (splice m.b q (bts n 8)) m.was m.words m.lim).was.length = o from HO.out.symm] at c7; obtain ⟨⟨-, -, -, -, -, -, -, -, e8⟩, -⟩ := nine (hx1.blk.alloc (.cells #[.int .i64 (q : Int)] 3)); have hrow := (hx1.set).alloc (.cells #[.int .i64 (q : Int)] 3); rw [show (IM.mk (splice m.b q (bts n 8)) m.was m.words m.lim).words.length = nw from HNW.out.symm] at hrow; have hbas : base <= (w1.alloc (.cells #[.int .i64 (q : Int)] 3)).heap.size := (by have := hx1.bas; simp; omega); clear hc1 hx1))
     | (at_builtin; go_loud (refine wpList_append_any _ rfl _ _ _ rfl base 3 i0 (.int .i64 0) 1 8 Tryz.underlying48 hi hz0 hz1 hz2 rfl (Nat.lt_succ_self 0) (.slice As nw cs) nw (cellsOf .i64 (nats m.words)) rfl hrow _ _ 1 1 (cellsOf .i64 [(q : Int)]) rfl (Reads.new1 _ _ _) (one_oneCell _ _) k2 k3 hbas ?_; intro v3 w3 ho3 hg3 hat3; obtain ⟨A3, c3, rfl, -, -⟩ := own_form ho3; obtain ⟨g8, f8⟩ := HX1.out.cell8 _ hg3; have HT := Lib.hid (HX1.out.pushed (q := q) (w' := w3) _ hg3 ho3 (by simpa using hat3) HNW.out); clear ho3 hg3 hat3 hrow)))
   go_ret
   rw [HP.out]
   exact ⟨rfl, HT.out.later (HC1.out.mono (fun j _ e => HS.out.inb j e)) HS.out.foot HS.out.bas⟩
 · have hlt2 : ¬ (q : Int) < (o : Int) := by omega
   have HP : Hid (m.put8 q n = { m with b := splice m.b q (bts n 8) }) := by show _ = _; unfold IM.put8; rw [if_neg (by rw [<- ho]; exact hlt)]
   clear H hb hz h0 h8 hq s1 s2 s3 hnw ho hN
   go_enter Tryz.func141, Tryz.ntmps141
   go_wp2_with (first
     | (go_at_call 176; refine GG.out.mono ?_; rintro e w1 ⟨rfl, rfl⟩)
     | (go_at_call 95; refine LL.out.mono ?_; rintro e w1 ⟨rfl, hc1, hx1⟩; have HC1 := Lib.hid hc1; have HX1 := Lib.hid hx1; obtain ⟨⟨-, -, -, -, -, -, -, c7, c8⟩, -⟩ := nine hx1.blk; rw [show (IM.mk (splice m.b q (bts n 8)) m.was m.words m.lim).was.length = o from HO.out.symm] at c7; clear hc1 hx1))
   go_ret
   rw [HP.out]
   exact ⟨rfl, (IXT.same HX1.out).later (HC1.out.mono (fun j _ e => HS.out.inb j e)) HS.out.foot HS.out.bas⟩
end
theorem encO_length {ok : Int} {ws rs is : List Int} (hr : rightN ok ws.length rs.length is.length = true) : (encO ok ws rs is).length = bareN ok rs.length is.length + padn (bareN ok rs.length is.length) 8 := by
 obtain ⟨h1, -⟩ := rightN_len hr
 unfold encO
 rw [List.length_append, List.length_replicate, headO_length, h1]
 have e : 16 + 8 * kwN ok + rs.length + 8 * is.length = bareN ok rs.length is.length := by unfold bareN frontN; omega
 rw [e]
theorem encO_algn {ok : Int} {ws rs is : List Int} (hr : rightN ok ws.length rs.length is.length = true) : algn (bareN ok rs.length is.length : Nat) = ((encO ok ws rs is).length : Nat) := by
 rw [encO_length hr, algn_pad]
theorem encO_le {ok : Int} {ws rs is : List Int} (hr : rightN ok ws.length rs.length is.length = true) : (encO ok ws rs is).length <= 20000 := by
 obtain ⟨h1, h2, h3, h4⟩ := rightN_len hr
 have := frontN_le ok
 rw [encO_length hr, padn_eight]
 unfold bareN; omega
section
variable {base p : Nat} {S : Nat -> Prop} {i k d f h : Int} {m : IM} {bv sv : Value}
theorem IX.added {w w1 : World} {v' : Value} {A : Option Addr} {n c x : Nat} {xs : List Int} (H : IX w base S p i k d f h m (.slice A n c) sv) (hg : w.grownBy w1 (Value.ownBlock (.slice A n c))) (hown : w1.ownsRow base 5 1 v' (n + x) (cellsOf .u8 m.b ++ cellsOf .u8 xs))
 (hat : v'.ownBlock = Value.ownBlock (.slice A n c) ∨ v'.ownBlock = some w.heap.size) (hn : n = m.b.length) (hx : x = xs.length) : IXT base S p i k d f h (m.add xs) w (w1.setCell ⟨p, 6, none⟩ v') := by
 refine H.setB (zs := m.b ++ xs) ?_ (Chg.of_grown hg) ?_
 · rw [List.length_append, cellsOf_append, <- hn, <- hx]; exact hown
 · rcases hat with e | e
   · exact .inl e
   · exact .inr ⟨_, e, Nat.le_refl _⟩
theorem IX.cell6 {w w1 : World} (H : IX w base S p i k d f h m bv sv) (hg : w.grownBy w1 bv.ownBlock) : w1.cell? ⟨p, 6, none⟩ = some bv /\ w1.frozen? ⟨p, 6, none⟩ = false /\ p < w1.heap.size := by
 have hb : Blk w1 p 95 (imC i k d f h m.lim bv m.was.length sv) := H.blk.chg (Chg.of_grown hg) (fun e => H.pb e)
 exact ⟨hb.cell 6, hb.frozen 6, hb.lt⟩
set_option maxHeartbeats 2000000 in
theorem iput_full {L : Nat} (ok : Int) (A1 : Option Addr) (n1 c1 : Nat) (ws : List Int) (A2 : Option Addr) (n2 c2 : Nat) (rs : List Int) (A3 : Option Addr) (n3 c3 : Nat) (is : List Int) (w : World) (ho : ObR w L A1 n1 c1 ws A2 n2 c2 rs A3 n3 c3 is) (hr : rightN ok n1 n2 n3 = true)
 (H : IX w base S p i k d f h m bv sv) (hl : m.b.length <= 1099511627776) (hlim : m.lim <= 1048576) (hx : m.lim < m.b.length + (encO ok ws rs is).length) :
 Calls Tryz.prog 92 #[.pointer (some ⟨p, 0, none⟩), obV ok A1 n1 c1 A2 n2 c2 A3 n3 c3] w fun e w' => e = .returned (.tuple #[.int .i64 0, .int .i64 21]) /\ Below w.heap.size w w' := by
 have h1 := ho.wc
 have h2 := ho.rc
 have h3 := ho.ic
 have e1 := ho.wr.len
 have e2 := ho.rr.len
 have e3 := ho.ir.len
 have hr' := hr
 rw [<- e1, <- e2, <- e3] at hr'
 obtain ⟨-, hn2, hn3, -⟩ := rightN_len hr
 have R1 := Lib.hid (oright_any ok A1 n1 c1 A2 n2 c2 A3 n3 c3)
 rw [hr] at R1
 have Z1 := fun w1 => osize_any ok A1 n1 c1 A2 n2 c2 A3 n3 c3 w1 (by omega) (by omega)
 have hle := encO_le hr'
 have ha := encO_algn hr'
 rw [e2, e3] at ha
 rw [ha] at Z1
 have ZS := Lib.hid Z1
 obtain ⟨x, hxx⟩ : ∃ x, x = (encO ok ws rs is).length := ⟨_, rfl⟩
 rw [<- hxx] at ZS hx hle
 obtain ⟨A, c, rfl, q1, q2, q3⟩ := H.reads
 have HX := Lib.hid (fun w1 (hb : Below w.heap.size w w1) => H.below hb)
 have HB0 := Lib.hid (boxed w (.cells #[.int .i64 ok, .slice A1 n1 c1, .slice A2 n2 c2, .slice A3 n3 c3] 128))
 have HO := Lib.hid (fun wx (hx : Below (w.alloc (.cells #[.int .i64 ok, .slice A1 n1 c1, .slice A2 n2 c2, .slice A3 n3 c3] 128)).heap.size (w.alloc (.cells #[.int .i64 ok, .slice A1 n1 c1, .slice A2 n2 c2, .slice A3 n3 c3] 128)) wx) => (obAt_of hx : ObAt wx w.heap.size ok A1 n1 c1 A2 n2 c2 A3 n3 c3))
 obtain ⟨n, hn⟩ : ∃ n, n = m.b.length := ⟨_, rfl⟩
 obtain ⟨lm, hlm⟩ : ∃ lm, lm = m.lim := ⟨_, rfl⟩
 rw [<- hn] at hl hx HX
 rw [<- hlm] at hlim hx
 have HC := Lib.hid (fun w1 (hb : Below w.heap.size w w1) => (by rw [hlm]; exact ⟨(nine (H.below hb).blk).1.2.2.2.2.2.1, by rw [hn]; exact (nine (H.below hb).blk).1.2.2.2.2.2.2.1⟩ : w1.cell? ⟨p, 5, none⟩ = some (.int .i64 (lm : Int)) /\ w1.cell? ⟨p, 6, none⟩ = some (.slice A n c)))
 have t1 : ¬ 1048576 < (lm : Int) := by omega
 have t2 : (lm : Int) < (n : Int) + (x : Int) := by omega
 have t3 : (lm : Int) <= 1048576 := by omega
 have t6 : IntKind.i64.wrap ((n : Int) + (x : Int)) = (n : Int) + (x : Int) := by rw [IntKind.wrap_i64]; omega
 clear ho hr hr' Z1 ha H q1 q2 q3 e1 e2 e3 hxx hn hlm HX
 go_enter Tryz.func92, Tryz.ntmps92
 go_wp2_with (first
   | (go_at_call 139; refine (R1.out _ (by omega) (by omega) (by omega)).mono ?_; rintro e wR ⟨rfl, hbR⟩; have hbW := HB0.out.trans (hbR.mono HB0.out.size); have c6 := (HC.out _ hbW).2))
 have hb : Below wR.heap.size wR wR.drew := below_drewn (Below.refl _ _) 1
 have HK : Hid (∀ wx, Below wR.heap.size wR wx -> ObAt wx w.heap.size ok A1 n1 c1 A2 n2 c2 A3 n3 c3 /\ wx.cell? ⟨p, 5, none⟩ = some (.int .i64 (lm : Int))) := fun wx hx => ⟨HO.out _ (hbR.trans (hx.mono hbR.size)), (HC.out _ (hbW.trans (hx.mono hbW.size))).1⟩
 have H0 := Lib.hid (HK.out _ hb)
 go_region_held3 (fun w' => ObAt w' w.heap.size ok A1 n1 c1 A2 n2 c2 A3 n3 c3 /\ w'.cell? ⟨p, 5, none⟩ = some (.int .i64 (lm : Int)))
   (first | assumption | exact H0.out | exact HK.out _ hb)
   ((go_at_call 96; refine (ZS.out _).mono ?_; rintro e wx ⟨rfl, hbx⟩; have hb := hb.trans (hbx.mono hb.size); clear hbx))
 all_goals
   go_wp2
   go_ret2
   exact ⟨rfl, hbW.trans (hb.mono hbW.size)⟩
set_option maxHeartbeats 2000000 in
theorem iput_yes {L : Nat} (ok : Int) (A1 : Option Addr) (n1 c1 : Nat) (ws : List Int) (A2 : Option Addr) (n2 c2 : Nat) (rs : List Int) (A3 : Option Addr) (n3 c3 : Nat) (is : List Int) (w : World) (ho : ObR w L A1 n1 c1 ws A2 n2 c2 rs A3 n3 c3 is) (hL : L <= w.heap.size) (hr : rightN ok n1 n2 n3 = true)
 (H : IX w base S p i k d f h m bv sv) (hl : m.b.length <= 1099511627776) (hlim : m.lim <= 1048576) (hx : m.b.length + (encO ok ws rs is).length <= m.lim) :
 Calls Tryz.prog 92 #[.pointer (some ⟨p, 0, none⟩), obV ok A1 n1 c1 A2 n2 c2 A3 n3 c3] w fun e w' => e = .returned (.tuple #[.int .i64 (m.b.length : Nat), .int .i64 0]) /\ IXT base S p i k d f h (m.add (encO ok ws rs is)) w w' := by
 obtain ⟨i0, hi, hz0, hz1, hz2⟩ := info_parts byteInfo
 have h1 := ho.wc
 have h2 := ho.rc
 have h3 := ho.ic
 have e1 := ho.wr.len
 have e2 := ho.rr.len
 have e3 := ho.ir.len
 have hr' := hr
 rw [<- e1, <- e2, <- e3] at hr'
 obtain ⟨-, hn2, hn3, -⟩ := rightN_len hr
 have R1 := Lib.hid (oright_any ok A1 n1 c1 A2 n2 c2 A3 n3 c3)
 rw [hr] at R1
 have Z1 := fun w1 => osize_any ok A1 n1 c1 A2 n2 c2 A3 n3 c3 w1 (by omega) (by omega)
 have hle := encO_le hr'
 have ha := encO_algn hr'
 rw [e2, e3] at ha
 rw [ha] at Z1
 have ZS := Lib.hid Z1
 have EN := Lib.hid (fun w1 (hb : Below w.heap.size w w1) => oenc_yes ok A1 n1 c1 ws A2 n2 c2 rs A3 n3 c3 is w1 (ho.below hb hL) (Nat.le_trans hL hb.size) hr)
 obtain ⟨xs, hxs⟩ : ∃ xs, encO ok ws rs is = xs := ⟨_, rfl⟩
 rw [hxs] at ZS hx hle EN ⊢
 obtain ⟨x, hxx⟩ : ∃ x, x = xs.length := ⟨_, rfl⟩
 rw [<- hxx] at ZS hx hle
 have HXX := Lib.hid hxx
 obtain ⟨A, c, rfl, q1, q2, q3⟩ := H.reads
 have HB0 := Lib.hid (boxed w (.cells #[.int .i64 ok, .slice A1 n1 c1, .slice A2 n2 c2, .slice A3 n3 c3] 128))
 have HO := Lib.hid (fun wx (hx : Below (w.alloc (.cells #[.int .i64 ok, .slice A1 n1 c1, .slice A2 n2 c2, .slice A3 n3 c3] 128)).heap.size (w.alloc (.cells #[.int .i64 ok, .slice A1 n1 c1, .slice A2 n2 c2, .slice A3 n3 c3] 128)) wx) => (obAt_of hx : ObAt wx w.heap.size ok A1 n1 c1 A2 n2 c2 A3 n3 c3))
 obtain ⟨n, hn⟩ : ∃ n, n = m.b.length := ⟨_, rfl⟩
 obtain ⟨lm, hlm⟩ : ∃ lm, lm = m.lim := ⟨_, rfl⟩
 rw [<- hn] at H hl hx ⊢
 rw [<- hlm] at hlim hx
 have HN := Lib.hid hn
 have HX := Lib.hid (fun w1 (hb : Below w.heap.size w w1) => H.below hb)
 have HROW := Lib.hid (fun w1 (hb : Below w.heap.size w w1) => (by rw [hn]; have := (H.below hb).row; rw [hn] at this; exact this : w1.ownsRow base 5 1 (.slice A n c) n (cellsOf .u8 m.b)))
 have HC := Lib.hid (fun w1 (hb : Below w.heap.size w w1) => (by rw [hlm]; exact ⟨(nine (H.below hb).blk).1.2.2.2.2.2.1, (nine (H.below hb).blk).1.2.2.2.2.2.2.1⟩ : w1.cell? ⟨p, 5, none⟩ = some (.int .i64 (lm : Int)) /\ w1.cell? ⟨p, 6, none⟩ = some (.slice A n c)))
 have t1 : ¬ 1048576 < (lm : Int) := by omega
 have t2 : ¬ (lm : Int) < (n : Int) + (x : Int) := by omega
 have t3 : (lm : Int) <= 1048576 := by omega
 have t6 : IntKind.i64.wrap ((n : Int) + (x : Int)) = (n : Int) + (x : Int) := by rw [IntKind.wrap_i64]; omega
 have t4 : n + x <= maxLen := by unfold maxLen; omega
 have t5 : (n + x) * 1 <= 140737488355328 := by omega
 have HF := Lib.hid (And.intro H.foot H.bas)
 clear ho hr hr' Z1 ha H q1 q2 q3 e1 e2 e3 hxx hn hlm hxs
 go_enter Tryz.func92, Tryz.ntmps92
 go_wp2_with (first
   | (go_at_call 139; refine (R1.out _ (by omega) (by omega) (by omega)).mono ?_; rintro e wR ⟨rfl, hbR⟩; have hbW := HB0.out.trans (hbR.mono HB0.out.size); have c6 := (HC.out _ hbW).2))
 have hb : Below wR.heap.size wR wR.drew := below_drewn (Below.refl _ _) 1
 have HK : Hid (∀ wx, Below wR.heap.size wR wx -> ObAt wx w.heap.size ok A1 n1 c1 A2 n2 c2 A3 n3 c3 /\ wx.cell? ⟨p, 5, none⟩ = some (.int .i64 (lm : Int))) := fun wx hx => ⟨HO.out _ (hbR.trans (hx.mono hbR.size)), (HC.out _ (hbW.trans (hx.mono hbW.size))).1⟩
 have H0 := Lib.hid (HK.out _ hb)
 go_region_held3 (fun w' => ObAt w' w.heap.size ok A1 n1 c1 A2 n2 c2 A3 n3 c3 /\ w'.cell? ⟨p, 5, none⟩ = some (.int .i64 (lm : Int)))
   (first | assumption | exact H0.out | exact HK.out _ hb)
   ((go_at_call 96; refine (ZS.out _).mono ?_; rintro e wx ⟨rfl, hbx⟩; have hb := hb.trans (hbx.mono hb.size); clear hbx))
 all_goals
   have hbV := hbW.trans (hb.mono hbW.size)
   have HOV := Lib.hid (fun wy (hy : Below wx.heap.size wx wy) => (HK.out wy (hb.trans (hy.mono hb.size))).1)
   clear hb H0 c6 hbR hbW HK
   go_wp2
   have hb0 : Below wx.heap.size wx wx.drew := below_drewn (Below.refl _ _) 1
   have hbY := hbV.trans (hb0.mono hbV.size)
   obtain ⟨x0, x1, x2, x3⟩ := HOV.out _ hb0
   have d6 := (HC.out _ hbY).2
   have hbase : base <= wx.drew.heap.size := Nat.le_trans HF.out.2 hbY.size
   go_region_law ((first
     | (go_simp; go_at_call 140; go_loud (refine (EN.out _ hbY).mono ?_; rintro e w2 ht; obtain ⟨A5, n5, c5, rfl, hn5, r5, -, -, hb5, -⟩ := ht.reads; rw [<- HXX.out] at hn5; have hn5 := hn5.symm; subst hn5; have hbZ := hbY.trans (hb5.mono hbY.size); have e6 := (HC.out _ hbZ).2; have hrow := HROW.out _ hbZ; have hbase2 := Nat.le_trans hbase hb5.size; have HXZ := Lib.hid (HX.out _ hbZ); have HBZ := Lib.hid hbZ; clear hb5 ht))
     | go_loud (refine step_append_any _ rfl _ _ _ rfl base 5 i0 (.int .u8 0) 1 1 Tryz.underlying24 hi hz0 hz1 hz2 rfl (Nat.lt_succ_self 0) (.slice A n c) n (cellsOf .u8 m.b) rfl hrow _ A5 x c5 (cellsOf .u8 xs) rfl r5 (cellsOf_one _ _) t4 t5 hbase2 ?_; intro v4 w4 hown4 hg4 hat4; obtain ⟨A4, c4, rfl, -, -⟩ := own_form hown4; have HP := Lib.hid (HXZ.out.added hg4 hown4 hat4 HN.out HXX.out); obtain ⟨g6, gf6, gl6⟩ := HXZ.out.cell6 hg4; clear hown4 hg4 hat4)))
   all_goals
     go_wp2
     go_ret2
     exact ⟨rfl, HP.out.later (Chg.of_below HBZ.out (Nat.le_refl _) S) HF.out.1 HF.out.2⟩
end
def IM.there (m : IM) (D F : Int) (j k s : Nat) : Prop := 256 + 8 * (D + F) <= (j : Int) /\ DecAt m.b j k s /\ decB m.b j k s = true
def IM.bare (m : IM) (D F : Int) (at_ : Int) : Prop := at_ < 256 + 8 * (D + F) ∨ ∀ j k s, at_ = (j : Nat) -> DecAt m.b j k s -> decB m.b j k s = false
def ObTold (m : IM) (j k s : Nat) (w : World) (e : Ending) (w' : World) : Prop :=
 ∃ A1 n1 c1 A2 n2 c2 A3 n3 c3, e = .returned (.tuple #[obV k A1 n1 c1 A2 n2 c2 A3 n3 c3, .bool true]) /\ Below w.heap.size w w' /\ ObOwn w' w.heap.size A1 n1 c1 (dW (objB m.b j s) k) A2 n2 c2 (dR (objB m.b j s) k) A3 n3 c3 (dI (objB m.b j s) k)
section
variable {base p : Nat} {S : Nat -> Prop} {i k d f h : Int} {m : IM} {bv sv : Value}
theorem iobject_low (at_ : Int) (w : World) (H : IX w base S p i k d f h m bv sv) (hd : 1 <= d /\ d <= 256) (hf : 1 <= f /\ f <= 256) (hlt : at_ < 256 + 8 * (d + f)) :
 Calls Tryz.prog 152 #[.pointer (some ⟨p, 0, none⟩), .int .i64 at_] w fun e w' => e = .returned (.tuple #[obZ, .bool false]) /\ Below w.heap.size w w' := by
 have OB := Lib.hid (fun w1 => hobjects_any i k d f h w1 (by omega) hd.2 (by omega) hf.2)
 obtain ⟨t, ht⟩ : ∃ t, 256 + 8 * (d + f) = t := ⟨_, rfl⟩
 rw [ht] at OB hlt
 obtain ⟨⟨c0, c1, c2, c3, c4, -, -, -, -⟩, -⟩ := nine (H.blk.alloc (.cells #[.int .i64 0, .slice none 0 0, .slice none 0 0, .slice none 0 0] 128))
 have HZ := Lib.hid (fun w1 (hb : Below (w.alloc (.cells #[.int .i64 0, .slice none 0 0, .slice none 0 0, .slice none 0 0] 128)).heap.size (w.alloc (.cells #[.int .i64 0, .slice none 0 0, .slice none 0 0, .slice none 0 0] 128)) w1) => ((Blk.new w 128 #[.int .i64 0, .slice none 0 0, .slice none 0 0, .slice none 0 0]).below hb (by simp) : Blk w1 w.heap.size 128 #[.int .i64 0, .slice none 0 0, .slice none 0 0, .slice none 0 0]))
 clear H ht
 go_enter Tryz.func152, Tryz.ntmps152
 go_wp2_with (go_at_call 33; refine (OB.out _).mono ?_; rintro e w1 ⟨rfl, hb1⟩; have hz := HZ.out _ hb1; have z0 := hz.cell 0; have z1 := hz.cell 1; have z2 := hz.cell 2; have z3 := hz.cell 3; have f0 := hz.frozen 0; have f1 := hz.frozen 1; have f2 := hz.frozen 2; have f3 := hz.frozen 3; have HZ1 := Lib.hid hz; clear hz)
 refine bodyPost_ret (results_cell2 rfl _ _ w.heap.size 128 _ (0, 0) _ rfl (put4 HZ1.out).1 Tryz.underlying128 rfl (by kernel_rfl)) rfl ?_
 have hbx := (boxed w (.cells #[.int .i64 0, .slice none 0 0, .slice none 0 0, .slice none 0 0] 128)).trans (hb1.mono (by simp))
 exact ⟨rfl, hbx.trans ((put4 HZ1.out).2.below hbx.size (fun j _ e => by rw [e]; exact Nat.le_refl _))⟩
theorem put4_below {w w7 : World} {t : TypeId} {z0 z1 z2 z3 a0 a1 a2 a3 : Value} (hR : Blk w7 w.heap.size t #[z0, z1, z2, z3]) (hb : Below w.heap.size w w7) :
 Below w.heap.size w ((((w7.setCell ⟨w.heap.size, 0, none⟩ a0).setCell ⟨w.heap.size, 1, none⟩ a1).setCell ⟨w.heap.size, 2, none⟩ a2).setCell ⟨w.heap.size, 3, none⟩ a3) :=
 hb.trans ((put4 hR).2.below hb.size (fun j _ e => by rw [e]; exact Nat.le_refl _))
set_option maxHeartbeats 1000000 in
theorem iobject_none (at_ : Int) (w : World) (H : IX w base S p i k d f h m bv sv) (hbm : AreB m.b) (hl : m.b.length <= 1099511627776) (hd : 1 <= d /\ d <= 256) (hf : 1 <= f /\ f <= 256) (h0 : ¬ at_ < 256 + 8 * (d + f)) (h1 : at_ <= 9223372036854775807)
 (hno : ∀ j k s, at_ = (j : Nat) -> DecAt m.b j k s -> decB m.b j k s = false) :
 Calls Tryz.prog 152 #[.pointer (some ⟨p, 0, none⟩), .int .i64 at_] w fun e w' => e = .returned (.tuple #[obZ, .bool false]) /\ Below w.heap.size w w' := by
 have OB := Lib.hid (fun w1 => hobjects_any i k d f h w1 (by omega) hd.2 (by omega) hf.2)
 obtain ⟨A, c, rfl, q1, q2, q3⟩ := H.reads
 have DN := Lib.hid (fun w1 (hb : Below w.heap.size w w1) => odec_no A m.b.length c at_ m.b w1 (q3.below hb) (hb.size) hbm q1 q2 (by omega) (by omega) h1 hno)
 obtain ⟨n, hn⟩ : ∃ n, n = m.b.length := ⟨_, rfl⟩
 rw [<- hn] at DN H
 obtain ⟨t, ht⟩ : ∃ t, 256 + 8 * (d + f) = t := ⟨_, rfl⟩
 rw [ht] at OB h0
 have HB0 := Lib.hid (boxed w (.cells #[.int .i64 0, .slice none 0 0, .slice none 0 0, .slice none 0 0] 128))
 obtain ⟨⟨c0, c1, c2, c3, c4, -, -, -, -⟩, -⟩ := nine (H.blk.alloc (.cells #[.int .i64 0, .slice none 0 0, .slice none 0 0, .slice none 0 0] 128))
 have HC := Lib.hid (fun w1 (hb : Below w.heap.size w w1) => ((nine (H.below hb).blk).1.2.2.2.2.2.2.1 : w1.cell? ⟨p, 6, none⟩ = some (.slice A n c)))
 have HZ := Lib.hid (fun w1 (hb : Below (w.alloc (.cells #[.int .i64 0, .slice none 0 0, .slice none 0 0, .slice none 0 0] 128)).heap.size (w.alloc (.cells #[.int .i64 0, .slice none 0 0, .slice none 0 0, .slice none 0 0] 128)) w1) => ((Blk.new w 128 #[.int .i64 0, .slice none 0 0, .slice none 0 0, .slice none 0 0]).below hb (by simp) : Blk w1 w.heap.size 128 #[.int .i64 0, .slice none 0 0, .slice none 0 0, .slice none 0 0]))
 clear H ht q1 q2 q3 hn hno
 go_enter Tryz.func152, Tryz.ntmps152
 go_wp2_with (first
   | (go_at_call 33; refine (OB.out _).mono ?_; rintro e w1 ⟨rfl, hb1⟩; have hbW := HB0.out.trans (hb1.mono HB0.out.size); have c6 := HC.out _ hbW)
   | (go_at_call 122; refine (DN.out _ hbW).mono ?_; rintro e w2 ⟨rfl, hb2⟩; have hbV := hbW.trans (hb2.mono hbW.size); have hbX := hbV.alloc hbV.size (.cells #[.int .i64 0, .slice none 0 0, .slice none 0 0, .slice none 0 0] 128); have hz := (HZ.out _ (hb1.trans (hb2.mono hb1.size))).alloc (.cells #[.int .i64 0, .slice none 0 0, .slice none 0 0, .slice none 0 0] 128); have z0 := hz.cell 0; have z1 := hz.cell 1; have z2 := hz.cell 2; have z3 := hz.cell 3; have f0 := hz.frozen 0; have f1 := hz.frozen 1; have f2 := hz.frozen 2; have f3 := hz.frozen 3; have HZ1 := Lib.hid (And.intro hz hbX); clear hz hbX))
 refine bodyPost_ret (results_cell2 rfl _ _ w.heap.size 128 _ (0, 0) _ rfl (put4 HZ1.out.1).1 Tryz.underlying128 rfl (by kernel_rfl)) rfl ?_
 exact ⟨rfl, put4_below HZ1.out.1 HZ1.out.2⟩
set_option maxHeartbeats 1000000 in
theorem iobject_yes (j kk s : Nat) (w : World) (H : IX w base S p i k d f h m bv sv) (hbm : AreB m.b) (hl : m.b.length <= 1099511627776) (hd : 1 <= d /\ d <= 256) (hf : 1 <= f /\ f <= 256) (hth : m.there d f j kk s) :
 Calls Tryz.prog 152 #[.pointer (some ⟨p, 0, none⟩), .int .i64 j] w (ObTold m j kk s w) := by
 obtain ⟨t0, t1, t2⟩ := hth
 have OB := Lib.hid (fun w1 => hobjects_any i k d f h w1 (by omega) hd.2 (by omega) hf.2)
 obtain ⟨A, c, rfl, q1, q2, q3⟩ := H.reads
 have DN := Lib.hid (fun w1 (hb : Below w.heap.size w w1) => odec_yes A m.b.length c j kk s m.b w1 (q3.below hb) (hb.size) hbm q1 q2 (by omega) t1 t2)
 obtain ⟨n, hn⟩ : ∃ n, n = m.b.length := ⟨_, rfl⟩
 rw [<- hn] at DN H
 obtain ⟨t, ht⟩ : ∃ t, 256 + 8 * (d + f) = t := ⟨_, rfl⟩
 rw [ht] at OB t0
 have h0 : ¬ (j : Int) < t := by omega
 have HB0 := Lib.hid (boxed w (.cells #[.int .i64 0, .slice none 0 0, .slice none 0 0, .slice none 0 0] 128))
 obtain ⟨⟨c0, c1, c2, c3, c4, -, -, -, -⟩, -⟩ := nine (H.blk.alloc (.cells #[.int .i64 0, .slice none 0 0, .slice none 0 0, .slice none 0 0] 128))
 have HC := Lib.hid (fun w1 (hb : Below w.heap.size w w1) => ((nine (H.below hb).blk).1.2.2.2.2.2.2.1 : w1.cell? ⟨p, 6, none⟩ = some (.slice A n c)))
 have HZ := Lib.hid (fun w1 (hb : Below (w.alloc (.cells #[.int .i64 0, .slice none 0 0, .slice none 0 0, .slice none 0 0] 128)).heap.size (w.alloc (.cells #[.int .i64 0, .slice none 0 0, .slice none 0 0, .slice none 0 0] 128)) w1) => ((Blk.new w 128 #[.int .i64 0, .slice none 0 0, .slice none 0 0, .slice none 0 0]).below hb (by simp) : Blk w1 w.heap.size 128 #[.int .i64 0, .slice none 0 0, .slice none 0 0, .slice none 0 0]))
 obtain ⟨Z, hZ⟩ : ∃ Z : Nat, Z = j + (s + padn s 8) := ⟨_, rfl⟩
 rw [<- hZ] at DN
 clear H ht q1 q2 q3 hn hZ t0 t1 t2
 go_enter Tryz.func152, Tryz.ntmps152
 go_wp2_with (first
   | (go_at_call 33; refine (OB.out _).mono ?_; rintro e w1 ⟨rfl, hb1⟩; have hbW := HB0.out.trans (hb1.mono HB0.out.size); have c6 := HC.out _ hbW)
   | (go_at_call 122; refine (DN.out _ hbW).mono ?_; rintro e w2 ⟨A1, n1, c1', A2, n2, c2', A3, n3, c3', rfl, hb2, hown⟩; have hbV := hbW.trans (hb2.mono hbW.size); have hbX := hbV.alloc hbV.size (.cells #[.int .i64 kk, .slice A1 n1 c1', .slice A2 n2 c2', .slice A3 n3 c3'] 128); have hz := (HZ.out _ (hb1.trans (hb2.mono hb1.size))).alloc (.cells #[.int .i64 kk, .slice A1 n1 c1', .slice A2 n2 c2', .slice A3 n3 c3'] 128); have z0 := hz.cell 0; have z1 := hz.cell 1; have z2 := hz.cell 2; have z3 := hz.cell 3; have f0 := hz.frozen 0; have f1 := hz.frozen 1; have f2 := hz.frozen 2; have f3 := hz.frozen 3; have HZ1 := Lib.hid (And.intro hz hbX); have HOWN := Lib.hid hown; have HLT : Hid (w.heap.size < w1.heap.size) := (by show _ < _; have := hb1.size; simp at this; omega); clear hz hbX hown))
 refine bodyPost_ret (results_cell2 rfl _ _ w.heap.size 128 _ (0, 0) _ rfl (put4 HZ1.out.1).1 Tryz.underlying128 rfl (by kernel_rfl)) rfl ?_
 refine ⟨A1, n1, c1', A2, n2, c2', A3, n3, c3', rfl, put4_below HZ1.out.1 HZ1.out.2, ?_⟩
 have hlt := HLT.out
 have hc := (put4 (a0 := .int .i64 kk) (a1 := .slice A1 n1 c1') (a2 := .slice A2 n2 c2') (a3 := .slice A3 n3 c3') HZ1.out.1).2
 have ha := HOWN.out
 have far : ∀ {e : TypeId} {v : Value} {q : Nat} {xs : List Value}, w2.ownsRow w1.heap.size e 1 v q xs -> (((((w2.alloc (.cells #[.int .i64 kk, .slice A1 n1 c1', .slice A2 n2 c2', .slice A3 n3 c3'] 128)).setCell ⟨w.heap.size, 0, none⟩ (.int .i64 kk)).setCell ⟨w.heap.size, 1, none⟩ (.slice A1 n1 c1')).setCell ⟨w.heap.size, 2, none⟩ (.slice A2 n2 c2')).setCell ⟨w.heap.size, 3, none⟩ (.slice A3 n3 c3')).ownsRow w1.heap.size e 1 v q xs := fun hu =>
   own_chg (hu.alloc _) hc (fun g hg e => by have := (hu.lt g hg).1; have e : g = w.heap.size := e; omega)
 exact ObOwn.mk (own_base (far ha.wo) (by omega)) (own_base (far ha.ro) (by omega)) (own_base (far ha.io) (by omega))
theorem iobject_bare (at_ : Int) (w : World) (H : IX w base S p i k d f h m bv sv) (hbm : AreB m.b) (hl : m.b.length <= 1099511627776) (hd : 1 <= d /\ d <= 256) (hf : 1 <= f /\ f <= 256) (h1 : at_ <= 9223372036854775807) (hno : m.bare d f at_) :
 Calls Tryz.prog 152 #[.pointer (some ⟨p, 0, none⟩), .int .i64 at_] w fun e w' => e = .returned (.tuple #[obZ, .bool false]) /\ Below w.heap.size w w' := by
 by_cases hlt : at_ < 256 + 8 * (d + f)
 · exact iobject_low at_ w H hd hf hlt
 · rcases hno with hno | hno
   · exact absurd hno hlt
   · exact iobject_none at_ w H hbm hl hd hf hlt h1 hno
theorem wrap_u64_of {x : Int} (h0 : 0 <= x) (h1 : x <= 140737488355328) : IntKind.u64.wrap x = x := by rw [IntKind.wrap_u64]; omega
theorem wrap_i64_of {x : Int} (h0 : 0 <= x) (h1 : x <= 140737488355328) : IntKind.i64.wrap x = x := by rw [IntKind.wrap_i64]; omega
theorem iat_out (pl kd : Int) (w : World) (H : IX w base S p i k d f h m bv sv) (hl : m.b.length <= 1099511627776) (hpl : (m.b.length : Int) <= pl) :
 Calls Tryz.prog 109 #[.pointer (some ⟨p, 0, none⟩), .int .u64 pl, .int .i64 kd] w fun e w' => e = .returned (.tuple #[obZ, .bool false]) /\ Below w.heap.size w w' := by
 obtain ⟨A, c, rfl, -, -, -⟩ := H.reads
 have h6 := (nine (H.blk.alloc (.cells #[.int .i64 0, .slice none 0 0, .slice none 0 0, .slice none 0 0] 128))).1.2.2.2.2.2.2.1
 obtain ⟨n, hn⟩ : ∃ n, n = m.b.length := ⟨_, rfl⟩
 rw [<- hn] at h6 hpl hl
 have TL := Lib.hid (itail_any p n A c _ h6)
 have t1 := wrap_u64_of (x := n) (by omega) (by omega)
 clear H h6 hn
 go_enter Tryz.func109, Tryz.ntmps109
 go_wp2_with (go_at_call 26; refine TL.out.mono ?_; rintro e w1 ⟨rfl, rfl⟩)
 refine bodyPost_ret (results_cell2 rfl _ _ w.heap.size 128 _ (0, 0) _ rfl (Blk.new w _ _) Tryz.underlying128 rfl (by kernel_rfl)) rfl ?_
 exact ⟨rfl, boxed _ _⟩
set_option maxHeartbeats 1000000 in
theorem iat_bare (pl kd : Int) (w : World) (H : IX w base S p i k d f h m bv sv) (hbm : AreB m.b) (hl : m.b.length <= 1099511627776) (hd : 1 <= d /\ d <= 256) (hf : 1 <= f /\ f <= 256) (hp0 : 0 <= pl) (hno : m.bare d f pl) :
 Calls Tryz.prog 109 #[.pointer (some ⟨p, 0, none⟩), .int .u64 pl, .int .i64 kd] w fun e w' => e = .returned (.tuple #[obZ, .bool false]) /\ Below w.heap.size w w' := by
 by_cases hpl : (m.b.length : Int) <= pl
 · exact iat_out pl kd w H hl hpl
 have HB0 := Lib.hid (boxed w (.cells #[.int .i64 0, .slice none 0 0, .slice none 0 0, .slice none 0 0] 128))
 have hw : IX (w.alloc (.cells #[.int .i64 0, .slice none 0 0, .slice none 0 0, .slice none 0 0] 128)) base S p i k d f h m bv sv := H.below HB0.out
 have OB := Lib.hid (iobject_bare pl _ hw hbm hl hd hf (by omega) hno)
 obtain ⟨A, c, rfl, -, -, -⟩ := H.reads
 have h6 := (nine hw.blk).1.2.2.2.2.2.2.1
 obtain ⟨n, hn⟩ : ∃ n, n = m.b.length := ⟨_, rfl⟩
 rw [<- hn] at h6 hpl hl
 have TL := Lib.hid (itail_any p n A c _ h6)
 have t1 := wrap_u64_of (x := n) (by omega) (by omega)
 have t2 := wrap_i64_of (x := pl) (by omega) (by omega)
 have t3 : ¬ (n : Int) <= pl := hpl
 have HZ := Lib.hid (fun w1 (hb : Below (w.alloc (.cells #[.int .i64 0, .slice none 0 0, .slice none 0 0, .slice none 0 0] 128)).heap.size (w.alloc (.cells #[.int .i64 0, .slice none 0 0, .slice none 0 0, .slice none 0 0] 128)) w1) => ((Blk.new w 128 #[.int .i64 0, .slice none 0 0, .slice none 0 0, .slice none 0 0]).below hb (by simp) : Blk w1 w.heap.size 128 #[.int .i64 0, .slice none 0 0, .slice none 0 0, .slice none 0 0]))
 clear H h6 hn hw hpl hno
 go_enter Tryz.func109, Tryz.ntmps109
 go_wp2_with (first
   | (go_at_call 26; refine TL.out.mono ?_; rintro e w1 ⟨rfl, rfl⟩)
   | (go_at_call 152; refine OB.out.mono ?_; rintro e w2 ⟨rfl, hb2⟩; have hbV := HB0.out.trans (hb2.mono HB0.out.size); have hbX := hbV.alloc hbV.size (.cells #[.int .i64 0, .slice none 0 0, .slice none 0 0, .slice none 0 0] 128); have hz := (HZ.out _ hb2).alloc (.cells #[.int .i64 0, .slice none 0 0, .slice none 0 0, .slice none 0 0] 128); have z0 := hz.cell 0; have z1 := hz.cell 1; have z2 := hz.cell 2; have z3 := hz.cell 3; have f0 := hz.frozen 0; have f1 := hz.frozen 1; have f2 := hz.frozen 2; have f3 := hz.frozen 3; have HZ1 := Lib.hid (And.intro hz hbX); clear hz hbX))
 refine bodyPost_ret (results_cell2 rfl _ _ w.heap.size 128 _ (0, 0) _ rfl (put4 HZ1.out.1).1 Tryz.underlying128 rfl (by kernel_rfl)) rfl ?_
 exact ⟨rfl, put4_below HZ1.out.1 HZ1.out.2⟩
set_option maxHeartbeats 1000000 in
theorem iat_other (j kk s : Nat) (kd : Int) (w : World) (H : IX w base S p i k d f h m bv sv) (hbm : AreB m.b) (hl : m.b.length <= 1099511627776) (hd : 1 <= d /\ d <= 256) (hf : 1 <= f /\ f <= 256) (hth : m.there d f j kk s) (hk : (kk : Int) ≠ kd) :
 Calls Tryz.prog 109 #[.pointer (some ⟨p, 0, none⟩), .int .u64 j, .int .i64 kd] w fun e w' => e = .returned (.tuple #[obZ, .bool false]) /\ Below w.heap.size w w' := by
 have HB0 := Lib.hid (boxed w (.cells #[.int .i64 0, .slice none 0 0, .slice none 0 0, .slice none 0 0] 128))
 have hw : IX (w.alloc (.cells #[.int .i64 0, .slice none 0 0, .slice none 0 0, .slice none 0 0] 128)) base S p i k d f h m bv sv := H.below HB0.out
 have OB := Lib.hid (iobject_yes j kk s _ hw hbm hl hd hf hth)
 obtain ⟨A, c, rfl, -, -, -⟩ := H.reads
 have h6 := (nine hw.blk).1.2.2.2.2.2.2.1
 have hroom := hth.2.1.room
 obtain ⟨n, hn⟩ : ∃ n, n = m.b.length := ⟨_, rfl⟩
 rw [<- hn] at h6 hl hroom
 have TL := Lib.hid (itail_any p n A c _ h6)
 have t1 := wrap_u64_of (x := n) (by omega) (by omega)
 have t2 := wrap_i64_of (x := j) (by omega) (by omega)
 have t3 : ¬ (n : Int) <= (j : Int) := by omega
 have t4 : ((kk : Int) == kd) = false := by simpa using hk
 have HZ := Lib.hid (fun w1 (hb : Below (w.alloc (.cells #[.int .i64 0, .slice none 0 0, .slice none 0 0, .slice none 0 0] 128)).heap.size (w.alloc (.cells #[.int .i64 0, .slice none 0 0, .slice none 0 0, .slice none 0 0] 128)) w1) => ((Blk.new w 128 #[.int .i64 0, .slice none 0 0, .slice none 0 0, .slice none 0 0]).below hb (by simp) : Blk w1 w.heap.size 128 #[.int .i64 0, .slice none 0 0, .slice none 0 0, .slice none 0 0]))
 clear H h6 hn hw hth hroom hk
 go_enter Tryz.func109, Tryz.ntmps109
 go_wp2_with (first
   | (go_at_call 26; refine TL.out.mono ?_; rintro e w1 ⟨rfl, rfl⟩)
   | (go_at_call 152; refine OB.out.mono ?_; rintro e w2 ⟨A1, n1, c1', A2, n2, c2', A3, n3, c3', rfl, hb2, hown⟩; have hbV := HB0.out.trans (hb2.mono HB0.out.size); have hbX := hbV.alloc hbV.size (.cells #[.int .i64 kk, .slice A1 n1 c1', .slice A2 n2 c2', .slice A3 n3 c3'] 128); have hz := (HZ.out _ hb2).alloc (.cells #[.int .i64 kk, .slice A1 n1 c1', .slice A2 n2 c2', .slice A3 n3 c3'] 128); have z0 := hz.cell 0; have z1 := hz.cell 1; have z2 := hz.cell 2; have z3 := hz.cell 3; have f0 := hz.frozen 0; have f1 := hz.frozen 1; have f2 := hz.frozen 2; have f3 := hz.frozen 3; have HZ1 := Lib.hid (And.intro hz hbX); clear hz hbX hown))
 refine bodyPost_ret (results_cell2 rfl _ _ w.heap.size 128 _ (0, 0) _ rfl (put4 HZ1.out.1).1 Tryz.underlying128 rfl (by kernel_rfl)) rfl ?_
 exact ⟨rfl, put4_below HZ1.out.1 HZ1.out.2⟩
set_option maxHeartbeats 1000000 in
theorem iat_yes (j kk s : Nat) (w : World) (H : IX w base S p i k d f h m bv sv) (hbm : AreB m.b) (hl : m.b.length <= 1099511627776) (hd : 1 <= d /\ d <= 256) (hf : 1 <= f /\ f <= 256) (hth : m.there d f j kk s) :
 Calls Tryz.prog 109 #[.pointer (some ⟨p, 0, none⟩), .int .u64 j, .int .i64 kk] w (ObTold m j kk s w) := by
 have HB0 := Lib.hid (boxed w (.cells #[.int .i64 0, .slice none 0 0, .slice none 0 0, .slice none 0 0] 128))
 have hw : IX (w.alloc (.cells #[.int .i64 0, .slice none 0 0, .slice none 0 0, .slice none 0 0] 128)) base S p i k d f h m bv sv := H.below HB0.out
 have OB := Lib.hid (iobject_yes j kk s _ hw hbm hl hd hf hth)
 obtain ⟨A, c, rfl, -, -, -⟩ := H.reads
 have h6 := (nine hw.blk).1.2.2.2.2.2.2.1
 have hroom := hth.2.1.room
 obtain ⟨n, hn⟩ : ∃ n, n = m.b.length := ⟨_, rfl⟩
 rw [<- hn] at h6 hl hroom
 have TL := Lib.hid (itail_any p n A c _ h6)
 have t1 := wrap_u64_of (x := n) (by omega) (by omega)
 have t2 := wrap_i64_of (x := j) (by omega) (by omega)
 have t3 : ¬ (n : Int) <= (j : Int) := by omega
 have HZ := Lib.hid (fun w1 (hb : Below (w.alloc (.cells #[.int .i64 0, .slice none 0 0, .slice none 0 0, .slice none 0 0] 128)).heap.size (w.alloc (.cells #[.int .i64 0, .slice none 0 0, .slice none 0 0, .slice none 0 0] 128)) w1) => ((Blk.new w 128 #[.int .i64 0, .slice none 0 0, .slice none 0 0, .slice none 0 0]).below hb (by simp) : Blk w1 w.heap.size 128 #[.int .i64 0, .slice none 0 0, .slice none 0 0, .slice none 0 0]))
 clear H h6 hn hw hth hroom
 go_enter Tryz.func109, Tryz.ntmps109
 go_wp2_with (first
   | (go_at_call 26; refine TL.out.mono ?_; rintro e w1 ⟨rfl, rfl⟩)
   | (go_at_call 152; refine OB.out.mono ?_; rintro e w2 ⟨A1, n1, c1', A2, n2, c2', A3, n3, c3', rfl, hb2, hown⟩; have hbV := HB0.out.trans (hb2.mono HB0.out.size); have hbX := hbV.alloc hbV.size (.cells #[.int .i64 kk, .slice A1 n1 c1', .slice A2 n2 c2', .slice A3 n3 c3'] 128); have hz := (HZ.out _ hb2).alloc (.cells #[.int .i64 kk, .slice A1 n1 c1', .slice A2 n2 c2', .slice A3 n3 c3'] 128); have z0 := hz.cell 0; have z1 := hz.cell 1; have z2 := hz.cell 2; have z3 := hz.cell 3; have f0 := hz.frozen 0; have f1 := hz.frozen 1; have f2 := hz.frozen 2; have f3 := hz.frozen 3; have HZ1 := Lib.hid (And.intro hz hbX); have HOWN := Lib.hid hown; clear hz hbX hown))
 refine bodyPost_ret (results_cell2 rfl _ _ w.heap.size 128 _ (0, 0) _ rfl (put4 HZ1.out.1).1 Tryz.underlying128 rfl (by kernel_rfl)) rfl ?_
 refine ⟨A1, n1, c1', A2, n2, c2', A3, n3, c3', rfl, put4_below HZ1.out.1 HZ1.out.2, ?_⟩
 have hc := (put4 (a0 := .int .i64 kk) (a1 := .slice A1 n1 c1') (a2 := .slice A2 n2 c2') (a3 := .slice A3 n3 c3') HZ1.out.1).2
 have ha := HOWN.out
 have far : ∀ {e : TypeId} {v : Value} {q : Nat} {xs : List Value}, w2.ownsRow (w.alloc (.cells #[.int .i64 0, .slice none 0 0, .slice none 0 0, .slice none 0 0] 128)).heap.size e 1 v q xs -> (((((w2.alloc (.cells #[.int .i64 kk, .slice A1 n1 c1', .slice A2 n2 c2', .slice A3 n3 c3'] 128)).setCell ⟨w.heap.size, 0, none⟩ (.int .i64 kk)).setCell ⟨w.heap.size, 1, none⟩ (.slice A1 n1 c1')).setCell ⟨w.heap.size, 2, none⟩ (.slice A2 n2 c2')).setCell ⟨w.heap.size, 3, none⟩ (.slice A3 n3 c3')).ownsRow w.heap.size e 1 v q xs := fun hu =>
   own_base (own_chg (hu.alloc _) hc (fun g hg e => by have := (hu.lt g hg).1; simp at this; have e : g = w.heap.size := e; omega)) (by simp)
 exact ObOwn.mk (far ha.wo) (far ha.ro) (far ha.io)
end
def newK (d f : Int) : Nat := (256 + 8 * (d + f)).toNat
def newB (i k d f h : Int) : List Int := encH i k d f h ++ List.replicate (newK d f - 64) 0
theorem newK_eq {d f : Int} (hr : rightH d f = true) : 256 + 8 * (d + f) = (newK d f : Int) /\ 272 <= newK d f /\ newK d f <= 4352 := by
 have := rightH_bd hr
 unfold newK; omega
theorem newB_length {i k d f h : Int} (hr : rightH d f = true) : (newB i k d f h).length = newK d f := by
 have := newK_eq hr
 unfold newB
 rw [List.length_append, encH_length, List.length_replicate]; omega
theorem newB_bytes (i k d f h : Int) : AreB (newB i k d f h) := (encH_bytes _ _ _ _ _).append (AreB.zeros _)
theorem newB_splice {i k d f h : Int} (hr : rightH d f = true) : splice (List.replicate (newK d f) 0) 0 (encH i k d f h) = newB i k d f h := by
 have := newK_eq hr
 unfold splice newB
 rw [List.take_zero, List.nil_append, encH_length, List.drop_replicate]
theorem IX.made {w0 w' : World} {base g lm n c : Nat} {i k d f h : Int} {A : Option Addr} {zs : List Int} (hb : base <= w0.heap.size) (hw : w0.heap.size <= w'.heap.size) (hg : w0.heap.size <= g) (hn : n = zs.length)
 (hk : Blk w' g 95 (imC i k d f h lm (.slice A n c) n (.slice none 0 0))) (hown : w'.ownsRow w0.heap.size 5 1 (.slice A n c) n (cellsOf .u8 zs)) :
 IX w' base (fun j => w0.heap.size <= j /\ j < w'.heap.size) g i k d f h ⟨zs, zs, [], lm⟩ (.slice A n c) (.slice none 0 0) := by
 subst hn
 exact ⟨fun j hj => ⟨by omega, hj.2⟩, by omega, ⟨hg, hk.lt⟩, hk, own_base hown hb, World.ownsRow_nil _ _ _ _, fun g hg => hown.lt g hg, fun g hg => by simp [Value.ownBlock] at hg⟩
theorem iunch_any (i k d f h : Int) (A : Option Addr) (n c lm : Nat) (w : World) :
 Calls Tryz.prog 43 #[hdV i k d f h, .slice A n c, .int .i64 lm] w fun e w' => ∃ g, e = .returned (.pointer (some ⟨g, 0, none⟩)) /\ w.heap.size <= g /\ Below w.heap.size w w' /\ Blk w' g 95 (imC i k d f h lm (.slice A n c) n (.slice none 0 0)) := by
 go_enter Tryz.func43, Tryz.ntmps43
 go_wp2
 go_ret
 have hb := Blk.new (w.alloc (.cells #[.int .u64 i, .int .u64 k, .int .i64 d, .int .i64 f, .int .u64 h] 29)) 95 (imC i k d f h lm (.slice A n c) n (.slice none 0 0))
 rw [World.size_alloc] at hb
 exact ⟨_, rfl, by omega, (boxed _ _).alloc (by simp) _, hb⟩
set_option maxHeartbeats 1000000 in
theorem icopy_any {base p : Nat} {S : Nat -> Prop} {i k d f h : Int} {m : IM} {bv sv : Value} (w : World) (H : IX w base S p i k d f h m bv sv) (hl : m.b.length <= 1099511627776) :
 Calls Tryz.prog 211 #[.pointer (some ⟨p, 0, none⟩)] w (IXnew base i k d f h ⟨m.b, m.b, [], m.lim⟩ w) := by
 obtain ⟨A, c, rfl, q1, q2, q3⟩ := H.reads
 have CL := Lib.hid (fun w1 (hb : Below w.heap.size w w1) => bclone_any A m.b.length c m.b w1.heap.size w1 ((q3.below hb).more hb.size) (Nat.le_refl _) (by omega))
 obtain ⟨n, hn⟩ : ∃ n, n = m.b.length := ⟨_, rfl⟩
 obtain ⟨lm, hlm⟩ : ∃ lm, lm = m.lim := ⟨_, rfl⟩
 have hc0 := fun w1 (hb : Below w.heap.size w w1) => (nine (H.below hb).blk).1
 rw [<- hn] at CL hc0
 rw [<- hlm] at hc0 ⊢
 have HC : Hid (∀ w1, Below w.heap.size w w1 -> HdAt w1 p i k d f h /\ w1.cell? ⟨p, 5, none⟩ = some (.int .i64 (lm : Int)) /\ w1.cell? ⟨p, 6, none⟩ = some (.slice A n c)) := fun w1 hb => by
   obtain ⟨a0, a1, a2, a3, a4, a5, a6, -, -⟩ := hc0 w1 hb
   exact ⟨⟨a0, a1, a2, a3, a4⟩, a5, a6⟩
 have HN := Lib.hid hn
 have HBAS := Lib.hid H.bas
 have hb : Below w.heap.size w w.drew := below_drewn (Below.refl _ _) 1
 have H0 := Lib.hid (HC.out _ hb)
 clear H q1 q2 q3 hn hlm hc0
 go_enter Tryz.func211, Tryz.ntmps211
 go_wp2_with fail
 go_region_held3 (fun w' => HdAt w' p i k d f h /\ w'.cell? ⟨p, 5, none⟩ = some (.int .i64 (lm : Int)) /\ w'.cell? ⟨p, 6, none⟩ = some (.slice A n c))
   (first | assumption | exact H0.out | exact HC.out _ hb)
   (first
     | (go_at_call 49; refine (CL.out _ hb).mono ?_; rintro e wx ⟨A1, n1, c1, rfl, hn1, ho1, hbx, -, -⟩; rw [<- HN.out] at hn1; have hn1 := hn1.symm; subst hn1; have HB1 := Lib.hid hb.size; have HB2 := Lib.hid hbx.size; have hb := hb.trans (hbx.mono hb.size); have HO1 := Lib.hid ho1; clear hbx ho1)
     | (go_at_call 43; refine (iunch_any i k d f h A1 n c1 lm _).mono ?_; rintro e wy ⟨g, rfl, hg, hby, hk⟩; have HK := Lib.hid (And.intro hg (And.intro hby hk)); have hb := hb.trans (hby.mono hb.size); clear hg hby hk))
 go_wp2
 go_ret
 exact ⟨g, _, _, rfl, hb, IX.made HBAS.out hb.size (Nat.le_trans (Nat.le_trans HB1.out HB2.out) HK.out.1) HN.out HK.out.2.2 (own_base (own_below HO1.out HK.out.2.1) HB1.out)⟩
set_option maxHeartbeats 1000000 in
theorem iload_yes {B base : Nat} (i k d f h : Int) (A : Option Addr) (n c lm : Nat) (zs : List Int) (w : World) (hr : rightH d f = true) (hlt : 256 + 8 * (d + f) <= (n : Int)) (hz : Reads w B 1 A n (cellsOf .u8 zs)) (hB : B <= w.heap.size) (hl : n <= 1099511627776) (hbas : base <= w.heap.size) :
 Calls Tryz.prog 31 #[hdV i k d f h, .slice A n c, .int .i64 lm] w (IXnew base i k d f h ⟨zs, zs, [], lm⟩ w) := by
 have R1 := Lib.hid (hright_any i k d f h)
 have HB0 := Lib.hid (boxed w (.cells #[.int .u64 i, .int .u64 k, .int .i64 d, .int .i64 f, .int .u64 h] 29))
 have HA := Lib.hid (fun wx (hx : Below (w.alloc (.cells #[.int .u64 i, .int .u64 k, .int .i64 d, .int .i64 f, .int .u64 h] 29)).heap.size (w.alloc (.cells #[.int .u64 i, .int .u64 k, .int .i64 d, .int .i64 f, .int .u64 h] 29)) wx) => (hdAt_of hx : HdAt wx w.heap.size i k d f h))
 rw [hr] at R1
 have hbd := rightH_bd hr
 have OB := Lib.hid (fun w1 => hobjects_any i k d f h w1 (by omega) hbd.2.1 (by omega) hbd.2.2.2)
 obtain ⟨t, ht⟩ : ∃ t, 256 + 8 * (d + f) = t := ⟨_, rfl⟩
 rw [ht] at OB hlt
 have CL := Lib.hid (fun w1 (hb : Below w.heap.size w w1) => bclone_any A n c zs B w1 (hz.keep (fun p hp => hb.cell (by omega))) (Nat.le_trans hB hb.size) (by omega))
 have HN := Lib.hid hz.len
 have HBAS := Lib.hid hbas
 have t1 : ¬ (n : Int) < t := by omega
 clear hr hbd ht hz
 go_enter Tryz.func31, Tryz.ntmps31
 go_wp2_with (first
   | (go_at_call 41; refine (R1.out _).mono ?_; rintro e w1 ⟨rfl, hb1⟩; obtain ⟨x0, x1, x2, x3, x4⟩ := HA.out _ hb1)
   | (go_at_call 33; refine (OB.out _).mono ?_; rintro e w2 ⟨rfl, hb2⟩; have hb2 := hb1.trans (hb2.mono hb1.size)))
 have hb := below_drewn hb2 1
 have H0 := Lib.hid (HA.out _ hb)
 clear hb1 x0 x1 x2 x3 x4
 go_region_held3 (fun w' => HdAt w' w.heap.size i k d f h)
   (first | assumption | exact H0.out | exact HA.out _ hb)
   (first
     | (go_at_call 49; refine (CL.out _ (HB0.out.trans (hb.mono HB0.out.size))).mono ?_; rintro e wx ⟨A1, n1, c1, rfl, hn1, ho1, hbx, -, -⟩; rw [HN.out] at hn1; have hn1 := hn1.symm; subst hn1; have HB1 := Lib.hid hb.size; have HB2 := Lib.hid hbx.size; have hb := hb.trans (hbx.mono hb.size); have HO1 := Lib.hid ho1; clear hbx ho1)
     | (go_at_call 43; refine (iunch_any i k d f h A1 n c1 lm _).mono ?_; rintro e wy ⟨g, rfl, hg, hby, hk⟩; have HK := Lib.hid (And.intro hg (And.intro hby hk)); have hb := hb.trans (hby.mono hb.size); clear hg hby hk))
 go_wp2
 go_ret
 have hbb := HB0.out.trans (hb.mono HB0.out.size)
 have h1 := HB0.out.size
 have h2 := HB1.out
 have h3 := HB2.out
 have h4 := HK.out.1
 refine ⟨g, _, _, rfl, hbb, IX.made HBAS.out hbb.size (by omega) HN.out.symm HK.out.2.2 (own_base (own_below HO1.out HK.out.2.1) (by omega))⟩
set_option maxHeartbeats 1000000 in
theorem inew_yes {base : Nat} (G : Nat) (i k d f h : Int) (lm : Nat) (w : World) (hr : rightH d f = true) (ht : IsTable w G) (hbas : base <= w.heap.size) :
 Calls Tryz.prog 10 #[.pointer (some ⟨G, 0, none⟩), hdV i k d f h, .int .i64 lm] w (IXnew base i k d f h ⟨newB i k d f h, newB i k d f h, [], lm⟩ w) := by
 have R1 := Lib.hid (hright_any i k d f h)
 have HB0 := Lib.hid (boxed w (.cells #[.int .u64 i, .int .u64 k, .int .i64 d, .int .i64 f, .int .u64 h] 29))
 have HA := Lib.hid (fun wx (hx : Below (w.alloc (.cells #[.int .u64 i, .int .u64 k, .int .i64 d, .int .i64 f, .int .u64 h] 29)).heap.size (w.alloc (.cells #[.int .u64 i, .int .u64 k, .int .i64 d, .int .i64 f, .int .u64 h] 29)) wx) => (hdAt_of hx : HdAt wx w.heap.size i k d f h))
 rw [hr] at R1
 have hbd := rightH_bd hr
 obtain ⟨hK, hK1, hK2⟩ := newK_eq hr
 have OB := Lib.hid (fun w1 => hobjects_any i k d f h w1 (by omega) hbd.2.1 (by omega) hbd.2.2.2)
 rw [hK] at OB
 have EN := Lib.hid (fun w1 (hb : Below w.heap.size w w1) => henc_yes G i k d f h w1 hr (IsTable.below ht hb ht.lt))
 have HSP := Lib.hid (newB_splice (i := i) (k := k) (h := h) hr)
 have HLN := Lib.hid (newB_length (i := i) (k := k) (h := h) hr)
 have HLE := Lib.hid (encH_length i k d f h)
 generalize newB i k d f h = nb at *
 generalize encH i k d f h = eh at *
 generalize newK d f = K at *
 obtain ⟨Zc, hZl, hZs, hmk⟩ := make_bytes K (by omega)
 have HZ2 : Hid (Zc = (cellsOf .u8 (List.replicate K 0)).toArray) := by show _ = _; rw [<- hZl, Array.toArray_toList]
 have HBAS := Lib.hid hbas
 have t1 : Hid ((cellsOf .u8 eh).length = 64) := by show _ = _; rw [cellsOf_length]; exact HLE.out
 have t2 : Hid (64 = Nat.min 64 K) := by show 64 = min 64 K; omega
 have t3 : Hid (0 + 64 <= (cellsOf .u8 (List.replicate K 0)).length) := by show _ <= _; rw [cellsOf_length, List.length_replicate]; omega
 clear hr hbd hK ht hZl hZs
 go_enter Tryz.func10, Tryz.ntmps10
 go_wp2_with (first
   | (go_at_call 41; refine (R1.out _).mono ?_; rintro e w1 ⟨rfl, hb1⟩; obtain ⟨x0, x1, x2, x3, x4⟩ := HA.out _ hb1)
   | (go_at_call 33; refine (OB.out _).mono ?_; rintro e w2 ⟨rfl, hb2⟩; have hb2 := hb1.trans (hb2.mono hb1.size); have hb3 := hb2.alloc hb2.size (.cells Zc 5); obtain ⟨y0, y1, y2, y3, y4⟩ := HA.out _ hb3; have HZB := Lib.hid (made_blk (Zc := Zc) w2))
   | (go_at_call 42; refine (EN.out _ (HB0.out.trans (hb3.mono HB0.out.size))).mono ?_; rintro e w4 hte; obtain ⟨A5, n5, c5, rfl, hn5, r5, -, -, hb5, -⟩ := hte.reads; rw [HLE.out] at hn5; subst hn5; have hb6 := hb3.trans (hb5.mono hb3.size); have hzb : Blk w4 w2.heap.size 5 (cellsOf .u8 (List.replicate K 0)).toArray := (by rw [<- HZ2.out]; exact HZB.out.below hb5 HZB.out.lt); clear hte hb5)
   | (show wpList _ _ _ (Oper.mk _ (.call { callee := .builtin .copy, args := _, argTypes := _ }) _ _ _ _ :: _) _ _; go_loud (refine wpList_copy_blk rfl (.tmp 14) (.tmp 17) _ _ rfl 5 Tryz.underlying24 imByteOne _ _ _ _ _ _ rfl rfl w2.heap.size 0 64 (cellsOf .u8 (List.replicate K 0)) 5 hzb (cellsOf .u8 eh) t1.out t2.out (fun _ => ⟨rfl, by obtain ⟨ad, h0, _, hc⟩ := r5.2 (by omega); exact ⟨ad, h0, hc⟩⟩) t3.out (cellsOf_one _ _) ?_; intro w7 HG hc7; have hb7 := hb6.trans (hc7.below (by have := hb6.size; simp at this ⊢; omega) (fun j _ e => by have := hb2.size; simp at this ⊢; omega)); obtain ⟨z0, z1, z2, z3, z4⟩ := HA.out _ hb7))
   | (go_at_call 43; go_loud (refine (iunch_any i k d f h _ K K lm _).mono ?_; rintro e wy ⟨g, rfl, hg, hby, hk⟩; have HK := Lib.hid (And.intro hg (And.intro hby hk)); clear hg hby hk)))
 go_ret
 have hq1 := HB0.out.size
 have hq2 := hb2.size
 have hq3 := hb7.size
 have hq4 := HK.out.1
 have hbw := HB0.out.trans (hb7.mono hq1)
 have hby := hbw.trans (HK.out.2.1.mono hbw.size)
 have hblk : Blk wy w2.heap.size 5 (cellsOf .u8 nb).toArray := by
   have h1 := HG.out
   rw [splice_cells, HSP.out] at h1
   exact h1.below HK.out.2.1 h1.lt
 have hown : wy.ownsRow w.heap.size 5 1 (.slice (some ⟨w2.heap.size, 0, none⟩) K K) K (cellsOf .u8 nb) :=
   row_shut (by omega) hblk (Nat.le_refl _) (by unfold maxLen; omega) (by rw [cellsOf_length, HLN.out]; omega) (by rw [Nat.mul_one, List.take_of_length_le (by rw [cellsOf_length, HLN.out]; omega)]) (by rw [cellsOf_length, HLN.out]; omega)
 exact ⟨g, _, _, rfl, hby, IX.made HBAS.out hby.size (by omega) HLN.out.symm HK.out.2.2 hown⟩
end Go.Proofs.YtgcmbgniaffdlaaGreat
