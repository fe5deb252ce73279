import Derived.Test.YtgcmbgniaffdlaaGreatChecked
import Derived.WalkKit
import Derived.Below
import Derived.Laws.OwnMore
import Derived.Laws.Rows
import Derived.Laws.BytesArg
import Derived.Deep.AppendLies
import Derived.Deep.Draws
import Derived.Maps.AppendAt
import Derived.RegionTactic
import Derived.OwnWalk
import Derived.Lib.Hide
import Derived.Lib.AppendZerosOnto
import Derived.ProofKit
import Derived.Deep.RegionHeld3
import Derived.OpenShut
import Derived.ChangeOld
import Derived.Deep.Slices
import Derived.Deep.Fields
import Derived.Laws.BitsAllLaws
import Derived.Laws.CopyOwn
import Derived.Deep.RegionLaw
set_option linter.unusedVariables false
set_option maxRecDepth 100000
namespace Go.Proofs.YtgcmbgniaffdlaaGreat
theorem lS {α : Type _} (l : List α) (i : Nat) (a : α) : l.toArray.setIfInBounds i a = (l.set i a).toArray := List.setIfInBounds_toArray l i a
theorem lZ {α : Type _} {x : α} {xs : List α} {a : α} : (x :: xs).set 0 a = a :: xs := List.set_cons_zero
theorem lC {α : Type _} {x : α} {xs : List α} {i : Nat} {a : α} : (x :: xs).set (i + 1) a = x :: xs.set i a := List.set_cons_succ
open Go.RowKit
theorem block_of_add (a : Addr) (n : Nat) : (a.add n).block = a.block := by unfold Addr.add; split <;> rfl
theorem add_of_add (a : Addr) (i j : Nat) : (a.add i).add j = a.add (i + j) := by
 unfold Addr.add
 by_cases hi : i = 0 <;> by_cases hj : j = 0 <;> simp [hi, hj, Nat.add_assoc]
def Reads (w : World) (B size : Nat) (A : Option Addr) (n : Nat) (xs : List Value) : Prop :=
 xs.length = n * size /\ (0 < n -> ∃ ad, A = some ad /\ ad.block < B /\ ∀ j u, xs[j]? = some u -> w.cell? (ad.add j) = some u)
section
variable {w w' : World} {B B' size n : Nat} {A : Option Addr} {xs : List Value}
theorem Reads.none_ : Reads w B size A 0 [] := ⟨by simp, fun h => absurd h (by omega)⟩
theorem Reads.keep (h : Reads w B size A n xs) (hk : ∀ p : Addr, p.block < B -> w'.cell? p = w.cell? p) : Reads w' B size A n xs :=
 ⟨h.1, fun hn => by
   obtain ⟨ad, e, hb, hc⟩ := h.2 hn
   exact ⟨ad, e, hb, fun j u hu => (hk _ (by rw [block_of_add]; exact hb)).trans (hc j u hu)⟩⟩
theorem Reads.more (h : Reads w B size A n xs) (hB : B <= B') : Reads w B' size A n xs :=
 ⟨h.1, fun hn => by
   obtain ⟨ad, e, hb, hc⟩ := h.2 hn
   exact ⟨ad, e, by omega, hc⟩⟩
theorem Reads.below (h : Reads w B size A n xs) (hb : Below B w w') : Reads w' B size A n xs := h.keep fun _ hp => hb.cell hp
theorem Reads.drewN (h : Reads w B size A n xs) (k : Nat) : Reads (w.drewN k) B size A n xs := h
theorem Reads.alloc (h : Reads w B size A n xs) (hB : B <= w.heap.size) (o : Obj) : Reads (w.alloc o) B size A n xs := h.keep fun p hp => World.cell?_alloc_lt w o p (by omega)
theorem Reads.setCell (h : Reads w B size A n xs) {p : Addr} (hB : B <= p.block) (u : Value) : Reads (w.setCell p u) B size A n xs :=
 h.keep fun q hq => World.cell?_setCell_other w p q u (fun e => by subst e; omega)
theorem Reads.cut (h : Reads w B size A n xs) {k cap : Nat} (hk : k <= n) (hc : n <= cap) :
 Reads w B size (if cap = k then A else A.map (·.add (k * size))) (n - k) (xs.drop (k * size)) := by
 refine ⟨by rw [List.length_drop, h.1, Nat.sub_mul], fun hn => ?_⟩
 obtain ⟨ad, rfl, hb, hcell⟩ := h.2 (by omega)
 rw [if_neg (by omega)]
 refine ⟨ad.add (k * size), rfl, by rw [block_of_add]; exact hb, fun j u hu => ?_⟩
 rw [add_of_add]
 exact hcell _ u (by rw [<- hu, List.getElem?_drop])
theorem Reads.of_own {base : Nat} {e : TypeId} {c : Nat} (h : w.ownsRow base e size (.slice A n c) n xs) : Reads w w.heap.size size A n xs := by
 refine ⟨h.1, fun hn => ?_⟩
 obtain ⟨g, cap, hv, _, hlt⟩ := h.form hn
 have hA : A = some ⟨g, 0, none⟩ := by injection hv
 subst hA
 exact ⟨_, rfl, hlt, h.cells (g := g) rfl⟩
end
def Blk (w : World) (g : Nat) (t : TypeId) (cs : Array Value) : Prop := w.heap[g]? = some (.cells cs t (0, 0))
section
variable {w w' : World} {g : Nat} {t : TypeId} {cs : Array Value}
theorem Blk.lt (h : Blk w g t cs) : g < w.heap.size := by
 rcases Nat.lt_or_ge g w.heap.size with hlt | hge
 · exact hlt
 · unfold Blk at h; rw [Array.getElem?_eq_none hge] at h; cases h
theorem Blk.cell (h : Blk w g t cs) (i : Nat) : w.cell? ⟨g, i, none⟩ = cs[i]? := cell_of_row w g i cs t (0, 0) h
theorem Blk.frozen (h : Blk w g t cs) (i : Nat) : w.frozen? ⟨g, i, none⟩ = false := by
 unfold Blk at h
 simp [World.frozen?, h]
theorem Blk.new (w : World) (t : TypeId) (cs : Array Value) : Blk (w.alloc (.cells cs t)) w.heap.size t cs := heap_alloc_new w _
theorem Blk.drew (h : Blk w g t cs) : Blk w.drew g t cs := h
theorem Blk.drewN (h : Blk w g t cs) (n : Nat) : Blk (w.drewN n) g t cs := h
theorem Blk.alloc (h : Blk w g t cs) (o : Obj) : Blk (w.alloc o) g t cs := (Below.heap_alloc w o g h.lt).trans h
theorem Blk.set_ (h : Blk w g t cs) (i : Nat) (u : Value) : Blk (w.setCell ⟨g, i, none⟩ u) g t (cs.setIfInBounds i u) := by
 unfold Blk at h ⊢
 simp [World.setCell, Array.getElem?_modify, h]
theorem Blk.far (h : Blk w g t cs) {p : Addr} (hp : g ≠ p.block) (u : Value) : Blk (w.setCell p u) g t cs := (Below.heap_setCell w p u g hp).trans h
theorem Blk.below {B : Nat} (h : Blk w g t cs) (hb : Below B w w') (hg : g < B) : Blk w' g t cs := (hb.block g hg).trans h
theorem Blk.grown {row : Option Nat} (h : Blk w g t cs) (hb : w.grownBy w' row) (hg : some g ≠ row) : Blk w' g t cs := (hb.block g h.lt hg).trans h
theorem Blk.ne_ {g' : Nat} {t' : TypeId} {cs' : Array Value} (h : Blk w g t cs) (h' : Blk w g' t' cs') (hne : t ≠ t') : g ≠ g' := by
 rintro rfl
 unfold Blk at h h'
 rw [h] at h'
 injection h' with h'
 injection h' with _ ht
 exact hne ht
theorem own_blk_ne {base : Nat} {e : TypeId} {size n : Nat} {v : Value} {xs : List Value} (h : w.ownsRow base e size v n xs) (hg : Blk w g t cs) (hne : e ≠ t) : v.ownBlock ≠ some g := by
 rcases h.2 with ⟨rfl, _⟩ | ⟨g', cap, cur, rfl, _, hh, _⟩
 · simp [Value.ownBlock]
 · intro he
   have : g' = g := by simpa [Value.ownBlock] using he
   subst this
   exact Blk.ne_ (t := e) hh hg hne rfl
end
section
variable {P : Program} (w : World)
theorem run_append_of_nil (base : Nat) (t ty e : TypeId) (i : TypeInfo) (size : Nat) (ht : P.underlying t = some (.slice e)) (hi : P.info? e = some i)
 (v : Value) (n : Nat) (xs : List Value) (hown : w.ownsRow base e size v n xs) (c : Nat) : (Builtin.append_ #[t, t] ty #[v, .slice none 0 c]).run P w = .ok v w := by
 rcases hown.2 with ⟨rfl, rfl⟩ | ⟨g, cap, cur, rfl, _, _, hnc, _⟩
 · simp [Builtin.append_, run_underlying ht, sizeOf, typeInfo, hi, Builtin.lenOf, Builtin.firstCells]
 · simp [Builtin.append_, run_underlying ht, sizeOf, typeInfo, hi, Builtin.lenOf, Builtin.firstCells, hnc, storeCells]
theorem run_append_any (base : Nat) (t ty e : TypeId) (i : TypeInfo) (z : Value) (size bytes : Nat) (ht : P.underlying t = some (.slice e)) (hi : P.info? e = some i) (hz : i.zero = some z)
 (hsize : i.size = size) (hby : i.bytes = bytes) (hzs : z.cells.size = size) (hsz : 0 < size)
 (v : Value) (n : Nat) (xs : List Value) (hown : w.ownsRow base e size v n xs)
 (B : Nat) (A : Option Addr) (m c : Nat) (news : List Value) (hr : Reads w B size A m news) (h1 : ∀ u ∈ news, u.oneCell' = true)
 (h63 : n + m <= maxLen) (hbytes : (n + m) * bytes <= 140737488355328) (hbase : base <= w.heap.size) :
 ∃ v' w', (Builtin.append_ #[t, t] ty #[v, .slice A m c]).run P w = .ok v' w' /\ w'.ownsRow base e size v' (n + m) (xs ++ news) /\ w.grownBy w' v.ownBlock /\
 (v'.ownBlock = v.ownBlock ∨ v'.ownBlock = some w.heap.size) := by
 rcases A with _ | ad
 · have hm : m = 0 := by
     rcases Nat.eq_zero_or_pos m with h0 | h0
     · exact h0
     · obtain ⟨ad, h, _⟩ := hr.2 h0
       cases h
   subst hm
   have hn : news = [] := List.eq_nil_of_length_eq_zero (by simpa using hr.1)
   subst hn
   exact ⟨v, w, run_append_of_nil w base t ty e i size ht hi v n xs hown c, by simpa using hown, World.grownBy.refl w _, .inl rfl⟩
 · have hcells : ∀ j u, news[j]? = some u -> w.cell? (ad.add j) = some u := by
     intro j u hu
     rcases Nat.eq_zero_or_pos m with h0 | h0
     · subst h0
       have hn : news = [] := List.eq_nil_of_length_eq_zero (by simpa using hr.1)
       subst hn
       simp at hu
     · obtain ⟨ad', h, _, hc⟩ := hr.2 h0
       injection h with h
       subst h
       exact hc j u hu
   obtain ⟨v', w', hrun, h2, h3, _, h5⟩ := run_append_own_at (P := P) w base t ty e i z size bytes ht hi hz hsize hby hzs hsz v n xs hown ad m c news hr.1 hcells h1 h63 hbytes hbase
   exact ⟨v', w', hrun, h2, h3, h5⟩
theorem wp_append_any {o : Oper} {a : Act} {K : Act -> World -> Prop} {Q : Exit -> Act -> World -> Prop} (s x : Operand) (t : TypeId)
 (ho : o.op = .call { callee := .builtin .append, args := #[s, x], argTypes := #[t, t] })
   (base : Nat) (e : TypeId) (i : TypeInfo) (z : Value) (size bytes : Nat) (ht : P.underlying t = some (.slice e)) (hi : P.info? e = some i) (hz : i.zero = some z)
   (hsize : i.size = size) (hby : i.bytes = bytes) (hzs : z.cells.size = size) (hsz : 0 < size)
   (v : Value) (n : Nat) (xs : List Value) (hs : a.eval s = v) (hown : w.ownsRow base e size v n xs)
   (B : Nat) (A : Option Addr) (m c : Nat) (news : List Value) (hx : a.eval x = .slice A m c) (hr : Reads w B size A m news) (h1 : ∀ u ∈ news, u.oneCell' = true)
   (h63 : n + m <= maxLen) (hbytes : (n + m) * bytes <= 140737488355328) (hbase : base <= w.heap.size)
   (h : ∀ v' w', w'.ownsRow base e size v' (n + m) (xs ++ news) -> w.grownBy w' v.ownBlock -> (v'.ownBlock = v.ownBlock ∨ v'.ownBlock = some w.heap.size) -> K (a.put o.dst v') w') : o.wp P a w K Q := by
 obtain ⟨v', w', hrun, h2, h3, h4⟩ := run_append_any (P := P) w base t o.type e i z size bytes ht hi hz hsize hby hzs hsz v n xs hown B A m c news hr h1 h63 hbytes hbase
 unfold Oper.wp execOp
 simp only [ho, resolve, invoke, builtin, Sem.run_bind, Sem.run_pure, Result.andThen_ok, List.map_toArray, List.map_cons, List.map_nil, hs, hx, hrun]
 exact h v' w' h2 h3 h4
theorem wpList_append_any {ops : Array Oper} {rest : List Oper} {o : Oper} {a : Act} {Q : Exit -> Act -> World -> Prop} (hgd : o.guard = none) (s x : Operand) (t : TypeId)
 (ho : o.op = .call { callee := .builtin .append, args := #[s, x], argTypes := #[t, t] })
   (base : Nat) (e : TypeId) (i : TypeInfo) (z : Value) (size bytes : Nat) (ht : P.underlying t = some (.slice e)) (hi : P.info? e = some i) (hz : i.zero = some z)
   (hsize : i.size = size) (hby : i.bytes = bytes) (hzs : z.cells.size = size) (hsz : 0 < size)
   (v : Value) (n : Nat) (xs : List Value) (hs : a.eval s = v) (hown : w.ownsRow base e size v n xs)
   (B : Nat) (A : Option Addr) (m c : Nat) (news : List Value) (hx : a.eval x = .slice A m c) (hr : Reads w B size A m news) (h1 : ∀ u ∈ news, u.oneCell' = true)
   (h63 : n + m <= maxLen) (hbytes : (n + m) * bytes <= 140737488355328) (hbase : base <= w.heap.size)
   (h : ∀ v' w', w'.ownsRow base e size v' (n + m) (xs ++ news) -> w.grownBy w' v.ownBlock -> (v'.ownBlock = v.ownBlock ∨ v'.ownBlock = some w.heap.size) -> wpList P ops Q rest (a.put o.dst v') w') : wpList P ops Q (o :: rest) a w :=
 wpList_plain hgd fun _ hK => wp_append_any w s x t ho base e i z size bytes ht hi hz hsize hby hzs hsz v n xs hs hown B A m c news hx hr h1 h63 hbytes hbase fun v' w' h2 h3 h4 => hK _ _ (h v' w' h2 h3 h4)
theorem step_append_any {ops : Array Oper} {o : Oper} {a : Act} {K : Act -> World -> Prop} {Q : Exit -> Act -> World -> Prop} {E : Prop} (hgd : o.guard = none) (s x : Operand) (t : TypeId)
 (ho : o.op = .call { callee := .builtin .append, args := #[s, x], argTypes := #[t, t] })
   (base : Nat) (e : TypeId) (i : TypeInfo) (z : Value) (size bytes : Nat) (ht : P.underlying t = some (.slice e)) (hi : P.info? e = some i) (hz : i.zero = some z)
   (hsize : i.size = size) (hby : i.bytes = bytes) (hzs : z.cells.size = size) (hsz : 0 < size)
   (v : Value) (n : Nat) (xs : List Value) (hs : a.eval s = v) (hown : w.ownsRow base e size v n xs)
   (B : Nat) (A : Option Addr) (m c : Nat) (news : List Value) (hx : a.eval x = .slice A m c) (hr : Reads w B size A m news) (h1 : ∀ u ∈ news, u.oneCell' = true)
   (h63 : n + m <= maxLen) (hbytes : (n + m) * bytes <= 140737488355328) (hbase : base <= w.heap.size)
   (h : ∀ v' w', w'.ownsRow base e size v' (n + m) (xs ++ news) -> w.grownBy w' v.ownBlock -> (v'.ownBlock = v.ownBlock ∨ v'.ownBlock = some w.heap.size) -> K (a.put o.dst v') w') :
   if Region.wanted o (yielded ops a.tmps) = true then Oper.wp P o a w K Q else E := by
 have hw : Region.wanted o (yielded ops a.tmps) = true := by simp [Region.wanted, hgd]
 rw [if_pos hw]
 exact wp_append_any w s x t ho base e i z size bytes ht hi hz hsize hby hzs hsz v n xs hs hown B A m c news hx hr h1 h63 hbytes hbase h
end
def cellsOf (k : IntKind) (zs : List Int) : List Value := zs.map (Value.int k)
theorem cellsOf_length (k : IntKind) (zs : List Int) : (cellsOf k zs).length = zs.length := by simp [cellsOf]
theorem cellsOf_one (k : IntKind) (zs : List Int) : ∀ u ∈ cellsOf k zs, u.oneCell' = true := fun u hu => by
 obtain ⟨z, _, rfl⟩ := List.mem_map.1 hu
 rfl
theorem cellsOf_append (k : IntKind) (a b : List Int) : cellsOf k (a ++ b) = cellsOf k a ++ cellsOf k b := by simp [cellsOf]
theorem cellsOf_drop (k : IntKind) (a : List Int) (n : Nat) : (cellsOf k a).drop n = cellsOf k (a.drop n) := by simp [cellsOf]
theorem cellsOf_get {k : IntKind} {zs : List Int} {i : Nat} (h : i < zs.length) : (cellsOf k zs)[i]? = some (.int k (zs.getD i 0)) := by
 simp [cellsOf, List.getD_eq_getElem?_getD, List.getElem?_eq_getElem h]
theorem cellsOf_set (k : IntKind) (a : List Int) (i : Nat) (x : Int) : (cellsOf k a).set i (.int k x) = cellsOf k (a.set i x) := by simp [cellsOf, List.map_set]
theorem own_form {w : World} {base : Nat} {e : TypeId} {size n : Nat} {v : Value} {xs : List Value} (h : w.ownsRow base e size v n xs) : ∃ A c, v = .slice A n c /\ n <= c /\ c <= maxLen := by
 rcases h.2 with ⟨rfl, rfl⟩ | ⟨g, cap, cur, rfl, _, _, hnc, hcm, _⟩
 · exact ⟨_, _, rfl, Nat.le_refl _, by unfold maxLen; omega⟩
 · exact ⟨_, _, rfl, hnc, hcm⟩
theorem Reads.plain {w : World} {B n : Nat} {A : Option Addr} {k : IntKind} {zs : List Int} (h : Reads w B 1 A n (cellsOf k zs)) (hn : 0 < n) :
 ∃ b off, A = some ⟨b, off, none⟩ /\ b < B /\ ∀ i, i < n -> w.cell? ⟨b, off + i, none⟩ = some (.int k (zs.getD i 0)) := by
 obtain ⟨ad, rfl, hb, hc⟩ := h.2 hn
 have hl : zs.length = n := by have := h.1; rw [cellsOf_length] at this; omega
 obtain ⟨b, off, spot⟩ := ad
 have h0 := hc 0 _ (cellsOf_get (by omega))
 have hs : spot = none := by simpa [Addr.add] using World.cell?_spot h0
 subst hs
 refine ⟨b, off, rfl, hb, fun i hi => ?_⟩
 have hi' := hc i _ (cellsOf_get (by omega))
 have hp : (⟨b, off, none⟩ : Addr).add i = ⟨b, off + i, none⟩ := by unfold Addr.add; split <;> simp_all
 rwa [hp] at hi'
theorem Reads.len {w : World} {B n : Nat} {A : Option Addr} {k : IntKind} {zs : List Int} (h : Reads w B 1 A n (cellsOf k zs)) : zs.length = n := by
 have := h.1; rw [cellsOf_length] at this; omega
theorem Reads.new1 (w : World) (t : TypeId) (u : Value) : Reads (w.alloc (.cells #[u] t)) (w.heap.size + 1) 1 (some ⟨w.heap.size, 0, none⟩) 1 [u] := by
 refine ⟨rfl, fun _ => ⟨_, rfl, Nat.lt_succ_self _, fun j v hj => ?_⟩⟩
 match j, hj with
 | 0, hj =>
   simp at hj; subst hj
   simp [Addr.add]
theorem Reads.newN (w : World) (t : TypeId) (cs : Array Value) : Reads (w.alloc (.cells cs t)) (w.heap.size + 1) 1 (some ⟨w.heap.size, 0, none⟩) cs.size cs.toList := by
 refine ⟨by simp, fun _ => ⟨_, rfl, Nat.lt_succ_self _, fun j v hj => ?_⟩⟩
 have h := (Blk.new w t cs).cell j
 have e : (⟨w.heap.size, 0, none⟩ : Addr).add j = ⟨w.heap.size, j, none⟩ := by unfold Addr.add; split <;> simp_all
 rw [e, h]; simpa using hj
theorem one_oneCell (k : IntKind) (x : Int) : ∀ u ∈ [Value.int k x], u.oneCell' = true := fun u hu => by
 simp at hu; subst hu; rfl
theorem run_text {P : Program} (src e dst : TypeId) (hs : P.underlying src = some (.slice e)) (he : P.underlying e = some (.int .u8)) (hd : P.underlying dst = some .string)
 {w : World} {B n : Nat} {A : Option Addr} {zs : List Int} (h : Reads w B 1 A n (cellsOf .u8 zs)) (c : Nat) :
 (convert src dst (.slice A n c)).run P w = .ok (.string (strOfNums zs)) w := by
 have hl := h.len
 rcases Nat.eq_zero_or_pos n with h0 | h0
 · subst h0
   have hz : zs = [] := List.eq_nil_of_length_eq_zero hl
   subst hz
   rcases A with _ | a
   · exact run_convert_bytes_nil w src e hs he 0 c dst hd
   · rw [run_convert_bytes_string w src dst e _ 0 c hs he hd, run_bytesToString w a 0 c [] (by simpa using run_loadCells_list (P := P) w a [] (fun j v hj => by simp at hj))]
     rfl
 · obtain ⟨b, off, rfl, _, hc⟩ := h.plain h0
   exact run_convert_bytes_arg w src e hs he b off n c zs hl hc dst hd
theorem strOfNums_beq {xs ys : List Int} (hx : ∀ z ∈ xs, 0 <= z /\ z < 256) (hy : ∀ z ∈ ys, 0 <= z /\ z < 256) : ((strOfNums xs).toList == (strOfNums ys).toList) = decide (xs = ys) := by
 have inj : ∀ (a b : List Int), (∀ z ∈ a, 0 <= z /\ z < 256) -> (∀ z ∈ b, 0 <= z /\ z < 256) -> a.map (fun n => UInt8.ofNat n.toNat) = b.map (fun n => UInt8.ofNat n.toNat) -> a = b := by
   intro a
   induction a with
   | nil => intro b _ _ h; cases b with
     | nil => rfl
     | cons y b => simp at h
   | cons x a ih => intro b ha hb h; cases b with
     | nil => simp at h
     | cons y b =>
       simp only [List.map_cons, List.cons.injEq] at h
       have h1 := ha x (by simp)
       have h2 := hb y (by simp)
       have h3 := congrArg UInt8.toNat h.1
       simp only [UInt8.toNat_ofNat'] at h3
       rw [ih b (fun z hz => ha z (by simp [hz])) (fun z hz => hb z (by simp [hz])) h.2, show x = y by omega]
 have e : ∀ l : List Int, (strOfNums l).toList = l.map fun n => UInt8.ofNat n.toNat := fun l => by
   rw [<- strOfNums_data, _root_.Go.ByteArray.toList_eq]
 rw [e, e]
 by_cases h : xs = ys
 · subst h; simp
 · rw [decide_eq_false h]
   simpa using fun hh => h (inj xs ys hx hy hh)
theorem ret_int {k : IntKind} {a b : Int} (h : a = b) : Ending.returned (.int k a) = .returned (.int k b) := by rw [h]
theorem ret_bool {a b : Bool} (h : a = b) : Ending.returned (.bool a) = .returned (.bool b) := by rw [h]
theorem below_drew0 {w w' : World} (h : Below w.heap.size w.drew w') : Below w.heap.size w w' := ⟨h.os, h.tape, h.output, h.size, h.block⟩
theorem below_drewn0 {w w' : World} {n : Nat} (h : Below w.heap.size (w.drewN n) w') : Below w.heap.size w w' := ⟨h.os, h.tape, h.output, h.size, h.block⟩
theorem below_drewn {B : Nat} {a w : World} (h : Below B a w) (n : Nat) : Below B a (w.drewN n) := ⟨h.os, h.tape, h.output, h.size, h.block⟩
theorem reads_at {w : World} {B b off n : Nat} {k : IntKind} {zs : List Int} (hb : b < B) (hl : zs.length = n) (hc : ∀ i, i < n -> w.cell? ⟨b, off + i, none⟩ = some (.int k (zs.getD i 0))) : Reads w B 1 (some ⟨b, off, none⟩) n (cellsOf k zs) := by
 refine ⟨by rw [cellsOf_length]; omega, fun hn => ⟨_, rfl, hb, fun j u hu => ?_⟩⟩
 have hj : j < n := by
   rcases Nat.lt_or_ge j n with h | h
   · exact h
   · rw [List.getElem?_eq_none (by rw [cellsOf_length]; omega)] at hu
     cases hu
 rw [cellsOf_get (by omega)] at hu
 injection hu with hu
 subst hu
 have hp : (⟨b, off, none⟩ : Addr).add j = ⟨b, off + j, none⟩ := by unfold Addr.add; split <;> simp_all
 rw [hp]; exact hc j hj
structure Chg (S : Nat -> Prop) (w w' : World) : Prop where
 os : w'.os = w.os
 tape : w'.tape = w.tape
 output : w'.output = w.output
 size : w.heap.size <= w'.heap.size
 block : ∀ k, k < w.heap.size -> ¬ S k -> w'.heap[k]? = w.heap[k]?
section
variable {S T : Nat -> Prop} {w w' w'' : World}
theorem Chg.refl (S : Nat -> Prop) (w : World) : Chg S w w := ⟨rfl, rfl, rfl, Nat.le_refl _, fun _ _ _ => rfl⟩
theorem Chg.trans (h : Chg S w w') (h' : Chg T w' w'') (hT : ∀ k, k < w.heap.size -> T k -> S k) : Chg S w w'' :=
 ⟨h'.os.trans h.os, h'.tape.trans h.tape, h'.output.trans h.output, Nat.le_trans h.size h'.size, fun k hk hn => (h'.block k (Nat.lt_of_lt_of_le hk h.size) (fun ht => hn (hT k hk ht))).trans (h.block k hk hn)⟩
theorem Chg.mono (h : Chg S w w') (hT : ∀ k, k < w.heap.size -> S k -> T k) : Chg T w w' := ⟨h.os, h.tape, h.output, h.size, fun k hk hn => h.block k hk (fun hs => hn (hT k hk hs))⟩
theorem Chg.of_below {B : Nat} (h : Below B w w') (hB : w.heap.size <= B) (S : Nat -> Prop) : Chg S w w' := ⟨h.os, h.tape, h.output, h.size, fun k hk _ => h.block k (by omega)⟩
theorem Chg.below {B : Nat} (h : Chg S w w') (hB : B <= w.heap.size) (hS : ∀ k, k < w.heap.size -> S k -> B <= k) : Below B w w' :=
 ⟨h.os, h.tape, h.output, h.size, fun k hk => h.block k (by omega) (fun hs => by have := hS k (by omega) hs; omega)⟩
theorem Chg.of_grown {row : Option Nat} (h : w.grownBy w' row) : Chg (fun k => row = some k) w w' := ⟨h.os, h.tape, h.output, h.size, fun k hk hn => h.block k hk (fun e => hn e.symm)⟩
theorem Chg.drew (h : Chg S w w') : Chg S w w'.drew := ⟨h.os, h.tape, h.output, h.size, h.block⟩
theorem Chg.drewN (h : Chg S w w') (n : Nat) : Chg S w (w'.drewN n) := ⟨h.os, h.tape, h.output, h.size, h.block⟩
theorem Chg.drew0 (h : Chg S w.drew w') : Chg S w w' := ⟨h.os, h.tape, h.output, h.size, h.block⟩
theorem Chg.alloc (h : Chg S w w') (o : Obj) : Chg S w (w'.alloc o) :=
 h.trans (T := fun _ => False) ⟨rfl, rfl, rfl, by simp, fun k hk _ => Below.heap_alloc _ _ _ hk⟩ (fun _ _ h => h.elim)
theorem Chg.setCell (h : Chg S w w') {p : Addr} (hp : w.heap.size <= p.block ∨ S p.block) (u : Value) : Chg S w (w'.setCell p u) :=
 h.trans (T := fun k => k = p.block) ⟨rfl, rfl, rfl, by simp [World.setCell], fun k hk hn => Below.heap_setCell _ _ _ _ hn⟩ (fun k hk e => by
   subst e
   rcases hp with hp | hp
   · omega
   · exact hp)
theorem Blk.chg {g : Nat} {t : TypeId} {cs : Array Value} (h : Blk w g t cs) (hc : Chg S w w') (hg : ¬ S g) : Blk w' g t cs := (hc.block g h.lt hg).trans h
theorem own_chg {base : Nat} {e : TypeId} {size n : Nat} {v : Value} {xs : List Value} (h : w.ownsRow base e size v n xs) (hc : Chg S w w') (hg : ∀ g, v.ownBlock = some g -> ¬ S g) : w'.ownsRow base e size v n xs := by
 refine ⟨h.1, ?_⟩
 rcases h.2 with hn | ⟨g, cap, cur, rfl, hb, hgg, rest⟩
 · exact .inl hn
 · refine .inr ⟨g, cap, cur, rfl, hb, ?_, rest⟩
   rw [hc.block g (Array.getElem?_eq_some_iff.1 hgg).1 (hg g rfl)]
   exact hgg
theorem Reads.chg {B size n : Nat} {A : Option Addr} {xs : List Value} (h : Reads w B size A n xs) (hc : Chg S w w') (hB : B <= w.heap.size) (hg : 0 < n -> ∀ ad, A = some ad -> ¬ S ad.block) : Reads w' B size A n xs :=
 ⟨h.1, fun hn => by
   obtain ⟨ad, e, hb, hcell⟩ := h.2 hn
   refine ⟨ad, e, hb, fun j u hu => ?_⟩
   rw [World.cell?_of_block (w := w) (hc.block _ (by rw [block_of_add]; omega) (by rw [block_of_add]; exact hg hn ad e))]
   exact hcell j u hu⟩
end
theorem own_base {w : World} {base base' : Nat} {e : TypeId} {size n : Nat} {v : Value} {xs : List Value} (h : w.ownsRow base e size v n xs) (hb : base' <= base) : w.ownsRow base' e size v n xs := by
 refine ⟨h.1, ?_⟩
 rcases h.2 with hn | ⟨g, cap, cur, rfl, hbg, rest⟩
 · exact .inl hn
 · exact .inr ⟨g, cap, cur, rfl, Nat.le_trans hb hbg, rest⟩
theorem own_below {w w' : World} {base : Nat} {e : TypeId} {size n : Nat} {v : Value} {xs : List Value} (h : w.ownsRow base e size v n xs) (hb : Below w.heap.size w w') : w'.ownsRow base e size v n xs := by
 refine ⟨h.1, ?_⟩
 rcases h.2 with hn | ⟨g, cap, cur, rfl, hbg, hg, rest⟩
 · exact .inl hn
 · exact .inr ⟨g, cap, cur, rfl, hbg, (hb.block g (Array.getElem?_eq_some_iff.1 hg).1).trans hg, rest⟩
theorem own_grown {w0 w w' : World} {B base : Nat} {e : TypeId} {size n : Nat} {v : Value} {xs : List Value} (hb : Below B w0 w) (ho : w.ownsRow base e size v n xs) (hB : B <= base) (hs : B <= w.heap.size) (hg : w.grownBy w' v.ownBlock) : Below B w0 w' :=
 hb.grown hg hs (fun k hk => Nat.le_trans hB (ho.lt k hk).1)
def Moved (w : World) (v v' : Value) : Prop := v'.ownBlock = v.ownBlock ∨ ∃ k, v'.ownBlock = some k /\ w.heap.size <= k
theorem Moved.refl (w : World) (v : Value) : Moved w v v := .inl rfl
theorem Moved.trans {w w' : World} {v v' v'' : Value} (h : Moved w v v') (h' : Moved w' v' v'') (hs : w.heap.size <= w'.heap.size) : Moved w v v'' := by
 rcases h' with e | ⟨k, e, hk⟩
 · rcases h with e2 | ⟨k, e2, hk⟩
   · exact .inl (e.trans e2)
   · exact .inr ⟨k, e.trans e2, hk⟩
 · exact .inr ⟨k, e, by omega⟩
theorem byteInfo : (Tryz.prog.info? 5).map (fun i => (i.zero, i.size, i.bytes)) = some (some (.int .u8 0), 1, 1) := by kernel_rfl
theorem zeroCells_one (z : Value) (hz : z.cells = #[z]) (n : Nat) : Builtin.zeroCells z.cells n = (List.replicate n z).toArray := by
 apply Array.ext_getElem?
 intro j
 rw [hz]
 by_cases hj : j < n
 · simp [Builtin.zeroCells, hj, Nat.mod_one]
 · simp [Builtin.zeroCells, hj]
section
variable {P : Program} (w : World)
theorem run_append_zeros_own (base : Nat) (t tn ty e : TypeId) (i : TypeInfo) (z : Value) (kq kn : IntKind) (ht : P.underlying t = some (.slice e)) (htn : P.underlying tn = some (.int kn)) (hi : P.info? e = some i) (hz : i.zero = some z)
 (hsize : i.size = 1) (hby : i.bytes = 1) (hzc : z.cells = #[z]) (hz1 : z.oneCell' = true)
 (v : Value) (n : Nat) (xs : List Value) (hown : w.ownsRow base e 1 v n xs) (k : Nat) (hk : 0 < k) (h63 : n + k <= 140737488355328) (hbase : base <= w.heap.size) :
 ∃ v' w', (Builtin.append_ #[t, tn] ty #[v, .int kq k]).run P w = .ok v' w' /\ w'.ownsRow base e 1 v' (n + k) (xs ++ List.replicate k z) /\ w.grownBy w' v.ownBlock /\
 (v'.ownBlock = v.ownBlock ∨ v'.ownBlock = some w.heap.size) := by
 have hlen : (xs ++ List.replicate k z).length = (n + k) * 1 := by rw [List.length_append, hown.1, List.length_replicate]; omega
 have grown : ∀ (old : Nat), old < n + k -> ∀ (row : Option Nat),
     (w.drew.alloc (.cells (xs.toArray ++ Builtin.zeroCells z.cells k ++ Builtin.zeroCells z.cells (grownCap w (n + k) old e - (n + k))) e)).ownsRow base e 1
       (.slice (some ⟨w.heap.size, 0, none⟩) (n + k) (grownCap w (n + k) old e)) (n + k) (xs ++ List.replicate k z) /\
     w.grownBy (w.drew.alloc (.cells (xs.toArray ++ Builtin.zeroCells z.cells k ++ Builtin.zeroCells z.cells (grownCap w (n + k) old e - (n + k))) e)) row := by
   intro old ho row
   have hge := grownCap_ge w (n + k) old e
   have hcm : grownCap w (n + k) old e <= maxLen := grownCap_le_maxLen w (n + k) old e (by unfold maxLen; omega)
   refine ⟨⟨hlen, .inr ⟨w.heap.size, _, _, rfl, hbase, heap_alloc_new w.drew _, hge, hcm, ?_, ?_⟩⟩, ⟨rfl, rfl, rfl, by simp, fun j hj _ => heap_alloc_old w.drew _ hj⟩⟩
   · simp only [Array.size_append, List.size_toArray, size_zeroCells, hzc, hown.1]
     simp
     omega
   · simp only [Array.toList_append, List.append_assoc, zeroCells_one z hzc]
     rw [<- List.append_assoc, <- hlen]
     exact List.take_left
 rcases hown.2 with ⟨rfl, rfl⟩ | ⟨g, cap, cur, rfl, hbg, hg, hnc, hcm, hcs, htake⟩
 · have hx : xs = [] := List.eq_nil_of_length_eq_zero (by simpa using hown.1)
   subst hx
   have hr := Lib.run_append_nil_zeros (P := P) w t tn ty e i z kq kn ht htn hi hz k hk (by omega) (by omega) (by rw [hby]; omega)
   have hgr := grown 0 (by omega) (Value.ownBlock (.slice none 0 0))
   simp only [Nat.zero_add, List.nil_append, Array.empty_append] at hgr ⊢
   exact ⟨_, _, hr, hgr.1, hgr.2, .inr rfl⟩
 · by_cases hroom : n + k <= cap
   · have hst := run_storeCells_at P g (n * 1) e (List.replicate k z) 0 cur w hg (by simp; omega) (fun v hv => by rw [List.eq_of_mem_replicate hv]; exact hz1)
     simp only [Nat.add_zero] at hst
     have hk0 : k ≠ 0 := by omega
     have hw : IntKind.i64.wrap (k : Int) = k := by rw [IntKind.wrap_i64]; omega
     have hneg : ¬ ((k : Int) < 0) := by omega
     have h48i : ¬ (281474976710656 < (k : Int)) := by omega
     have hr : (Builtin.append_ #[t, tn] ty #[.slice (some ⟨g, 0, none⟩) n cap, .int kq k]).run P w =
         .ok (.slice (some ⟨g, 0, none⟩) (n + k) cap) (w.setRow g (cur.toList.take (n * 1) ++ List.replicate k z ++ cur.toList.drop (n * 1 + (List.replicate k z).length)).toArray) := by
       simp only [Nat.mul_one] at hst ⊢
       simp only [List.length_replicate] at hst ⊢
       simp [Builtin.append_, run_underlying ht, run_underlying htn, sizeOf, typeInfo, zeroValue, hi, hz, asInt, asIntOf, hw, hk0, hneg, h48i, hroom, hsize, hby, zeroCells_one z hzc, Addr.add_lit, hst]
     refine ⟨_, _, hr, ⟨hlen, .inr ⟨g, cap, _, rfl, hbg, setRow_heap w g cur _ e _ hg, hroom, hcm, ?_, ?_⟩⟩, ⟨rfl, rfl, rfl, by simp, fun k _ hk => setRow_other w g k _ (fun e => hk (by simp [Value.ownBlock, e]))⟩, .inl rfl⟩
     · simp only [List.size_toArray, List.length_append, List.length_take, List.length_drop, Array.length_toList, List.length_replicate]
       omega
     · rw [htake, <- hlen]
       exact List.take_left
   · have hold : (Builtin.firstCells i.size n (.slice (some ⟨g, 0, none⟩) n cap)).run P w.drew = .ok xs.toArray w.drew :=
       run_firstCells_some (P := P) w.drew i.size n ⟨g, 0, none⟩ cap n xs (by rw [hsize]; exact hown.1) (fun j u hu => hown.cells (g := g) rfl j u hu)
     have hr := Lib.run_append_grow_zeros (P := P) w t tn ty e i z kq kn ht htn hi hz (some ⟨g, 0, none⟩) n cap xs hold k hk (by omega) (by omega) (by omega) (by rw [hby]; omega) (growslice_fits (by omega) (by rw [hby]; omega))
     have hgr := grown cap (by omega) (Value.ownBlock (.slice (some ⟨g, 0, none⟩) n cap))
     exact ⟨_, _, hr, hgr.1, hgr.2, .inr rfl⟩
end
section
variable {P : Program} {md : Region.Mode} {ops : Array Oper} {Q : Exit -> Act -> World -> Prop}
theorem take_yes {i : Nat} {oi : Oper} {v : Value} {fuel : Nat} {listed : Array Bool} {a : Act} {w : World} (hi : ops.toList[i]? = some oi)
 (hs : Region.noSelect ops = true) (hf : Region.free md ops listed i = true) (hr : (Region.ready md ops listed).contains i = true)
 (hQ : ∀ c a w, Q (.panic c) (a.put oi.dst v) w -> Q (.panic c) a w) (hw : Region.wanted oi (yielded ops a.tmps) = true) (hy : ∀ w, (execOp a.eval oi).run P w = .ok (.value v) w)
 (h : wpAny P md ops Q fuel (listed.setIfInBounds i true) (a.put oi.dst v) w) : wpAny P md ops Q (fuel + 1) listed a w :=
 wpAny_take (by simpa using hi) hs hf hr hQ (Or.inl ⟨hw, hy⟩) h
end
section
variable {P : Program} {md : Region.Mode} {ops : Array Oper} {Q : Exit -> Act -> World -> Prop} {S : World -> Prop}
end
open Go.RowKit Go.ChangeShapes Go.WideShapes Go.Deep
structure InInts (w : World) (k : IntKind) (A : Option Addr) (len cap : Nat) (zs : List Int) : Prop where
 reads : Reads w w.heap.size 1 A len (cellsOf k zs)
 le : len <= cap
 cap : cap <= 9223372036854775807
 wf : ∀ z ∈ zs, (Lit.int k z).wf = true
section
variable {H : Type} {enc : TypeId × Value -> H} {P : Program} {w : World}
theorem view_cells {t e : TypeId} {k : IntKind} {fuel : Nat} {cs : List Value} {x : DataW H × List MemPlace} (ht : P.underlying t = some (.slice e)) (he : P.underlying e = some (.int k)) (hc : P.cellsOf e = 1)
 (h : DataW.trod enc P w 0 (fun _ => true) true fuel t cs = some x) : ∃ A len cap zs, cs = [.slice A len cap] /\ InInts w k A len cap zs := by
 rcases open_ints ht he hc h with ⟨hcs, _⟩ | ⟨a, len, cap, zs, hcs, _, hl, hm, hz, _, hcell, hwz⟩
 · exact ⟨none, 0, 0, [], hcs, Reads.none_, Nat.le_refl _, by omega, fun z hz => by cases hz⟩
 · have hz' : zs.length = cap := by simpa using hz
   refine ⟨some a, len, cap, zs.take len, hcs, ⟨?_, fun hn => ⟨a, rfl, ?_, ?_⟩⟩, hl, ?_, fun z hz => hwz z (List.mem_of_mem_take hz)⟩
   · rw [cellsOf_length, List.length_take, Nat.mul_one]; omega
   · exact block_of_add a 0 ▸ World.block_lt_of_cell? w _ (hcell 0 (by omega))
   · intro j u hu
     have hj : j < (zs.take len).length := by
       rcases Nat.lt_or_ge j (zs.take len).length with h | h
       · exact h
       · rw [List.getElem?_eq_none (by rw [cellsOf_length]; exact h)] at hu
         cases hu
     have hj2 : j < len := by rw [List.length_take] at hj; omega
     rw [cellsOf_get hj] at hu
     injection hu with hu
     subst hu
     rw [hcell j (by omega)]
     congr 2
     simp [List.getD_eq_getElem?_getD, hj2]
   · unfold maxLen at hm; omega
theorem view_ints {t e : TypeId} {k : IntKind} {A : Option Addr} {len cap : Nat} {d : DataW H} {p : List MemPlace} (ht : P.underlying t = some (.slice e)) (he : P.underlying e = some (.int k)) (hc : P.cellsOf e = 1)
 (h : DataW.Trod enc P w 0 (fun _ => true) true t (.slice A len cap) d p) : ∃ zs, InInts w k A len cap zs := by
 obtain ⟨fuel, hf⟩ := h
 obtain ⟨A', len', cap', zs, hcs, hi⟩ := view_cells ht he hc hf
 simp [Value.cells] at hcs
 obtain ⟨rfl, rfl, rfl⟩ := hcs
 exact ⟨zs, hi⟩
end
theorem wf_u8_bd {n : Int} (h : (Lit.int .u8 n).wf = true) : 0 <= n /\ n < 256 := by have := bounds_u8 h; omega
def lev : List Int -> Int
 | [] => 0
 | z :: r => z + 256 * lev r
def enb : Nat -> Int -> List Int
 | 0, _ => []
 | k + 1, n => n % 256 :: enb k (n / 256)
def bts (n width : Int) : List Int := enb (min width.toNat 8) n
def gok (len : Nat) (i width : Int) : Bool := (width == 1 || width == 2 || width == 4 || width == 8) && decide (0 <= i) && decide (i <= (len : Int) - width)
def gnum (zs : List Int) (i width : Int) : Int := if gok zs.length i width then lev ((zs.drop i.toNat).take width.toNat) else 0
def algn (n : Int) : Int := if n < 0 then 0 else (n + 7) / 8 * 8
def AreB (l : List Int) : Prop := ∀ z ∈ l, 0 <= z /\ z < 256
theorem AreB.nil : AreB [] := fun _ h => by cases h
theorem AreB.cons {z : Int} {l : List Int} (h : 0 <= z /\ z < 256) (hl : AreB l) : AreB (z :: l) := fun x hx => by
 rcases List.mem_cons.1 hx with rfl | hx
 · exact h
 · exact hl x hx
theorem AreB.append {a b : List Int} (ha : AreB a) (hb : AreB b) : AreB (a ++ b) := fun x hx => by
 rcases List.mem_append.1 hx with h | h
 · exact ha x h
 · exact hb x h
theorem AreB.drop {l : List Int} (h : AreB l) (k : Nat) : AreB (l.drop k) := fun x hx => h x (List.mem_of_mem_drop hx)
theorem AreB.take {l : List Int} (h : AreB l) (k : Nat) : AreB (l.take k) := fun x hx => h x (List.mem_of_mem_take hx)
theorem AreB.get {l : List Int} (h : AreB l) (i : Nat) : 0 <= l.getD i 0 /\ l.getD i 0 < 256 := by
 by_cases hi : i < l.length
 · rw [List.getD_eq_getElem?_getD, List.getElem?_eq_getElem hi]
   exact h _ (List.getElem_mem hi)
 · rw [List.getD_eq_getElem?_getD, List.getElem?_eq_none (by omega)]
   simp
theorem AreB.zeros (n : Nat) : AreB (List.replicate n 0) := fun x hx => by
 rw [List.eq_of_mem_replicate hx]; omega
theorem enb_length : ∀ (k : Nat) (n : Int), (enb k n).length = k
 | 0, _ => rfl
 | k + 1, n => by simp [enb, enb_length k]
theorem enb_bytes : ∀ (k : Nat) (n : Int), AreB (enb k n)
 | 0, _ => AreB.nil
 | k + 1, n => AreB.cons (by omega) (enb_bytes k _)
theorem enb_snoc : ∀ (k : Nat) (n : Int), enb (k + 1) n = enb k n ++ [n / 256 ^ k % 256]
 | 0, n => by simp [enb]
 | k + 1, n => by
   rw [enb, enb_snoc k (n / 256), enb, List.cons_append]
   congr 3
   rw [Int.pow_succ, Int.mul_comm, <- Int.ediv_ediv_of_nonneg (by omega)]
theorem bts_length (n w : Int) : (bts n w).length = min w.toNat 8 := enb_length _ _
theorem bts_bytes (n w : Int) : AreB (bts n w) := enb_bytes _ _
theorem bts_le (n w : Int) : (bts n w).length <= 8 := by rw [bts_length]; omega
theorem lev_bound : ∀ l : List Int, AreB l -> 0 <= lev l /\ lev l < 256 ^ l.length
 | [], _ => by simp [lev]
 | z :: r, h => by
   have h1 := h z (by simp)
   have h2 := lev_bound r fun x hx => h x (by simp [hx])
   simp only [lev, List.length_cons, Int.pow_succ]
   omega
theorem lev_append : ∀ a b : List Int, lev (a ++ b) = lev a + 256 ^ a.length * lev b
 | [], b => by simp [lev]
 | z :: r, b => by
   simp only [List.cons_append, lev, lev_append r b, List.length_cons, Int.pow_succ, Int.mul_add, Int.add_assoc]
   congr 2
   rw [<- Int.mul_assoc, Int.mul_comm 256]
theorem lev_snoc (l : List Int) (x : Int) : lev (l ++ [x]) = lev l + 256 ^ l.length * x := by rw [lev_append]; simp [lev]
theorem enb_lev : ∀ l : List Int, AreB l -> enb l.length (lev l) = l
 | [], _ => rfl
 | z :: r, h => by
   have h1 := h z (by simp)
   have h2 := enb_lev r fun x hx => h x (by simp [hx])
   simp only [List.length_cons, enb, lev]
   rw [show (z + 256 * lev r) % 256 = z by omega, show (z + 256 * lev r) / 256 = lev r by omega, h2]
theorem lev_enb : ∀ (k : Nat) (n : Int), 0 <= n -> n < 256 ^ k -> lev (enb k n) = n
 | 0, n, h0, h1 => by simp at h1; simp [enb, lev]; omega
 | k + 1, n, h0, h1 => by
   rw [Int.pow_succ] at h1
   simp only [enb, lev]
   rw [lev_enb k (n / 256) (by omega) (by omega)]
   omega
theorem pow256_le (k : Nat) (h : k <= 8) : (1 : Int) <= 256 ^ k /\ (256 : Int) ^ k <= 18446744073709551616 := by
 match k, h with
 | 0, _ | 1, _ | 2, _ | 3, _ | 4, _ | 5, _ | 6, _ | 7, _ | 8, _ => decide
 | k + 9, h => omega
theorem pow_cast (k : Nat) : ((2 ^ (8 * k) : Nat) : Int) = 256 ^ k := by
 rw [Nat.pow_mul, Int.natCast_pow]
 rfl
theorem or_shift (k : Nat) (hk : k <= 7) (a x : Int) (ha : 0 <= a) (ha' : a < 256 ^ k) (hx : 0 <= x) (hx' : x < 256) :
 bits .or .u64 a (256 ^ k * x) = a + 256 ^ k * x := by
 have hp := pow256_le k (by omega)
 have hp1 := pow256_le (k + 1) (by omega)
 rw [Int.pow_succ] at hp1
 have hm0 : (0 : Int) <= 256 ^ k * x := Int.mul_nonneg (by omega) hx
 have hm1 : (256 : Int) ^ k * x <= 256 ^ k * 255 := Int.mul_le_mul_of_nonneg_left (by omega) (by omega)
 have hm : a + 256 ^ k * x < 18446744073709551616 := by omega
 rw [u64_or _ _ ha (by omega) hm0 (by omega)]
 obtain ⟨n, rfl⟩ := Int.eq_ofNat_of_zero_le ha
 obtain ⟨y, rfl⟩ := Int.eq_ofNat_of_zero_le hx
 have he : ((256 : Int) ^ k * (y : Int)).toNat = 2 ^ (8 * k) * y := by
   rw [<- pow_cast, <- Int.natCast_mul, Int.toNat_natCast]
 have hn : n < 2 ^ (8 * k) := by
   rw [<- pow_cast] at ha'
   omega
 rw [he, Int.toNat_natCast, Nat.or_comm, nat_join (8 * k) _ _ (Nat.mul_mod_right _ _) hn, <- pow_cast, <- Int.natCast_mul]
 omega
theorem or_step {k : Nat} (hk : k <= 7) {a x : Int} (ha : 0 <= a /\ a < 256 ^ k) (hx : 0 <= x /\ x < 256) :
 bits .or .u64 a (IntKind.u64.wrap (x * 2 ^ (8 * k))) = a + 256 ^ k * x := by
 have hp := pow256_le (k + 1) (by omega)
 have hp0 := pow256_le k (by omega)
 rw [Int.pow_succ] at hp
 have e : x * 2 ^ (8 * k) = 256 ^ k * x := by rw [<- pow_cast, Int.natCast_pow, Int.mul_comm]; rfl
 have hm0 : (0 : Int) <= 256 ^ k * x := Int.mul_nonneg (by omega) hx.1
 have hm1 : (256 : Int) ^ k * x <= 256 ^ k * 255 := Int.mul_le_mul_of_nonneg_left (by omega) (by omega)
 rw [e, IntKind.wrap_u64, Int.emod_eq_of_lt hm0 (by omega)]
 exact or_shift k hk a x ha.1 ha.2 hx.1 hx.2
theorem take_step {zs : List Int} {j k : Nat} (h : j + k < zs.length) : (zs.drop j).take (k + 1) = (zs.drop j).take k ++ [zs.getD (j + k) 0] := by
 rw [List.take_succ_eq_append_getElem (by rw [List.length_drop]; omega), List.getElem_drop, List.getD_eq_getElem?_getD, List.getElem?_eq_getElem h]
 rfl
theorem lev_step {zs : List Int} {j k : Nat} (h : j + k < zs.length) : lev ((zs.drop j).take (k + 1)) = lev ((zs.drop j).take k) + 256 ^ k * zs.getD (j + k) 0 := by
 rw [take_step h, lev_snoc, List.length_take, List.length_drop, Nat.min_eq_left (by omega)]
theorem enb_fill {k m : Nat} (h : k < m) (n : Int) : (enb k n ++ List.replicate (m - k) 0).set k (n / 2 ^ (8 * k) % 256) = enb (k + 1) n ++ List.replicate (m - (k + 1)) 0 := by
 rw [List.set_append_right _ _ (by rw [enb_length]; omega), enb_length, Nat.sub_self, enb_snoc, List.append_assoc]
 congr 1
 obtain ⟨j, hj⟩ : ∃ j, m - k = j + 1 := ⟨m - k - 1, by omega⟩
 rw [hj, List.replicate_succ, List.set_cons_zero, show m - (k + 1) = j by omega, <- pow_cast, Int.natCast_pow]
 rfl
theorem wrap_small (n : Nat) (h : n < 9223372036854775808) : IntKind.i64.wrap (n : Int) = (n : Int) := by
 have e : (n : Int) % 2 ^ 64 = n := Int.emod_eq_of_lt (by omega) (by omega)
 simp only [IntKind.wrap, IntKind.bits, IntKind.signed, e]
 rw [if_neg]
 simp
 omega
theorem andNot_seven (i : Int) (h0 : 0 <= i) (h : i < 9223372036854775808) : bits .andNot .i64 i 7 = i / 8 * 8 := by
 obtain ⟨n, rfl⟩ := Int.eq_ofNat_of_zero_le h0
 show IntKind.i64.wrap ((BitVec.ofInt 64 (n : Int) &&& ~~~BitVec.ofInt 64 ((7 : Nat) : Int)).toNat : Int) = _
 rw [BitVec.toNat_and, BitVec.toNat_not, ofInt_u64 n (by omega), ofInt_u64 7 (by omega)]
 have e : 2 ^ 64 - 1 - 7 = 18446744073709551608 := by decide
 rw [e, nat_hi64_3, Nat.mod_eq_of_lt (by omega)]
 rw [wrap_small _ (by omega)]
 omega
theorem div_256 {q : Int} (h : 0 <= q /\ q < 18446744073709551616) : IntKind.u64.wrap (q.tdiv 256) = q / 256 := by
 rw [IntKind.wrap_u64, Int.tdiv_eq_ediv_of_nonneg h.1]; omega
theorem div_pow {n : Int} (h : 0 <= n /\ n < 18446744073709551616) (k : Nat) : 0 <= n / 256 ^ k /\ n / 256 ^ k < 18446744073709551616 := by
 have hp : (0 : Int) < 256 ^ k := Int.pow_pos (by omega)
 exact ⟨Int.ediv_nonneg h.1 (Int.le_of_lt hp), Int.lt_of_le_of_lt (Int.ediv_le_self _ h.1) h.2⟩
theorem algn_at {n : Int} (h0 : 0 <= n) : algn n = (n + 7) / 8 * 8 := by unfold algn; rw [if_neg (by omega)]
end Go.Proofs.YtgcmbgniaffdlaaGreat
set_option linter.unusedSimpArgs false
namespace Go.Proofs.YtgcmbgniaffdlaaGreat
open Go.RowKit
theorem row_addC (b off k : Nat) : (⟨b, off, none⟩ : Addr).add k = ⟨b, off + k, none⟩ := by unfold Addr.add; split <;> simp_all
theorem step_copy_blk {P : Program} {ops : Array Oper} {o : Oper} {a : Act} {w : World} {K : Act -> World -> Prop} {Q : Exit -> Act -> World -> Prop} {E : Prop} (hgd : o.guard = none) (d s : Operand) (dT sT : TypeId)
   (ho : o.op = .call { callee := .builtin .copy, args := #[d, s], argTypes := #[dT, sT] }) (elem : TypeId) (hu : P.underlying dT = some (.slice elem)) (hsz : (P.info? elem).map (·.size) = some 1)
   (dp sp : Option Addr) (dLen dCap sLen sCap : Nat) (hd : a.eval d = .slice dp dLen dCap) (hs : a.eval s = .slice sp sLen sCap)
   (g off q : Nat) (cur : List Value) (t : TypeId) (hg : Blk w g t cur.toArray) (cs : List Value) (hq : cs.length = q) (hn : q = Nat.min sLen dLen)
   (hpos : 0 < q -> dp = some ⟨g, off, none⟩ /\ ∃ ad, sp = some ad /\ ∀ j v, cs[j]? = some v -> w.cell? (ad.add j) = some v)
   (hfit : off + q <= cur.length) (h1 : ∀ v ∈ cs, v.oneCell' = true)
   (h : ∀ w', Hid (Blk w' g t (splice cur off cs).toArray) -> Chg (fun k => k = g) w w' -> K (a.put o.dst (.int .i64 q)) w') :
   if Region.wanted o (yielded ops a.tmps) = true then Oper.wp P o a w K Q else E := by
 subst hq
 have hw : Region.wanted o (yielded ops a.tmps) = true := by simp [Region.wanted, hgd]
 rw [if_pos hw]
 by_cases h0 : cs.length = 0
 · obtain rfl : cs = [] := List.eq_nil_of_length_eq_zero h0
   have hrun := run_copy_none (P := P) w dT sT o.type elem dp sp dLen dCap sLen sCap hu hsz (by simpa using hn.symm)
   unfold Oper.wp
   simp [execOp, ho, resolve, invoke, builtin, hd, hs, hrun, Result.andThen]
   exact h w (show Blk _ _ _ _ by rw [show splice cur off [] = cur by simp [splice]]; exact hg) (Chg.refl _ _)
 · obtain ⟨rfl, ad, rfl, hsrc⟩ := hpos (by omega)
   have hrun := run_copy_row (P := P) w dT sT o.type elem g off dLen dCap ad sLen sCap cur.toArray t cs hu hsz hg hn hsrc (by simpa using hfit) h1
   unfold Oper.wp
   simp [execOp, ho, resolve, invoke, builtin, hd, hs, hrun, Result.andThen]
   refine h _ (show _ = _ by simpa [splice] using setRow_heap w g _ _ t _ hg) ⟨rfl, rfl, rfl, by simp [World.setRow], fun k hk hne => setRow_other w g k _ hne⟩
theorem wpList_store_blk {P : Program} {ops : Array Oper} {rest : List Oper} {op : Oper} {a : Act} {w : World} {Q : Exit -> Act -> World -> Prop} (hgd : op.guard = none) (ty : TypeId) (x y : Operand) (ho : op.op = .store ty x y)
 (g off : Nat) (hx : a.eval x = .pointer (some ⟨g, off, none⟩)) (cs : List Value) (hy : a.eval y = .agg cs.toArray) (cur : List Value) (t : TypeId) (hg : Blk w g t cur.toArray)
 (hi : (P.info? ty).map (·.size) = some cs.length) (hfit : off + cs.length <= cur.length) (h1 : ∀ v ∈ cs, v.oneCell' = true)
 (h : ∀ w', Hid (Blk w' g t (splice cur off cs).toArray) -> Chg (fun k => k = g) w w' -> wpList P ops Q rest a w') (hdst : op.dst = none) : wpList P ops Q (op :: rest) a w := by
 have hst := run_storeCells_at P g off t cs 0 cur.toArray w hg (by simpa using hfit) h1
 have hrun : (storeVar ty ⟨g, off, none⟩ (.agg cs.toArray)).run P w = .ok () (w.setRow g (splice cur off cs).toArray) := by
   cases hq : P.info? ty with
   | none => simp [hq] at hi
   | some i =>
     have hs : cs.length = i.size := by simp [hq] at hi; omega
     simp only [Nat.add_zero] at hst
     simp [storeVar, sizeOf, typeInfo, hq, Value.cells, hs, hst, splice]
 refine wpList_plain hgd fun K hK => ?_
 unfold Oper.wp execOp
 simp only [ho, hx, hy, Instr.storeAt, Instr.sureAddr, Sem.run_bind, Sem.run_pure, Result.andThen_ok, hrun]
 have hp : a.put op.dst undef = a := by rw [hdst]; rfl
 show K (a.put op.dst undef) _
 rw [hp]
 exact hK _ _ (h _ (show _ = _ from setRow_heap w g _ _ t _ hg) ⟨rfl, rfl, rfl, by simp [World.setRow], fun k hk hne => setRow_other w g k _ hne⟩)
theorem make_bytes (K : Nat) (hK : K <= 1000000) : ∃ Zc : Array Value, Zc.toList = cellsOf .u8 (List.replicate K 0) /\ Zc.size = K /\
 ∀ W : World, (Instr.makeSlice 24 (.int .i64 (K : Int)) (.int .i64 (K : Int))).run Tryz.prog W = .ok (.slice (some ⟨W.heap.size, 0, none⟩) K K) (W.alloc (.cells Zc 5)) := by
 obtain ⟨i0, hi, hz0, hz1, hz2⟩ := info_parts byteInfo
 have hZl : (madeCells (Value.int IntKind.u8 0).cells (K * 1)).toList = cellsOf .u8 (List.replicate K 0) := by
   rw [Nat.mul_one]
   show (madeCells #[Value.int IntKind.u8 0] K).toList = _
   rw [toList_madeCells_one]; simp [cellsOf]
 refine ⟨madeCells (Value.int IntKind.u8 0).cells (K * 1), hZl, ?_, fun W => ?_⟩
 · have h := congrArg List.length hZl
   rw [cellsOf_length, List.length_replicate, Array.length_toList] at h
   exact h
 · have h := run_make (P := Tryz.prog) W 24 5 i0 (.int .u8 0) Tryz.underlying24 hi hz0 .i64 .i64 (K : Int) (K : Int) (by omega) (Int.le_refl _) (by rw [hz2]; omega) (by omega)
   rw [Int.toNat_natCast, hz1] at h
   exact h
theorem made_blk {Zc : Array Value} (W : World) : Blk (W.alloc (.cells Zc 5)) W.heap.size 5 Zc := Blk.new W _ _
theorem wpList_copy_blk {P : Program} {ops : Array Oper} {rest : List Oper} {o : Oper} {a : Act} {w : World} {Q : Exit -> Act -> World -> Prop} (hgd : o.guard = none) (d s : Operand) (dT sT : TypeId)
 (ho : o.op = .call { callee := .builtin .copy, args := #[d, s], argTypes := #[dT, sT] }) (elem : TypeId) (hu : P.underlying dT = some (.slice elem)) (hsz : (P.info? elem).map (·.size) = some 1)
   (dp sp : Option Addr) (dLen dCap sLen sCap : Nat) (hd : a.eval d = .slice dp dLen dCap) (hs : a.eval s = .slice sp sLen sCap)
   (g off q : Nat) (cur : List Value) (t : TypeId) (hg : Blk w g t cur.toArray) (cs : List Value) (hq : cs.length = q) (hn : q = Nat.min sLen dLen)
   (hpos : 0 < q -> dp = some ⟨g, off, none⟩ /\ ∃ ad, sp = some ad /\ ∀ j v, cs[j]? = some v -> w.cell? (ad.add j) = some v)
   (hfit : off + q <= cur.length) (h1 : ∀ v ∈ cs, v.oneCell' = true)
   (h : ∀ w', Hid (Blk w' g t (splice cur off cs).toArray) -> Chg (fun k => k = g) w w' -> wpList P ops Q rest (a.put o.dst (.int .i64 q)) w') : wpList P ops Q (o :: rest) a w :=
 wpList_plain hgd fun K hK => by
   have := step_copy_blk (ops := ops) (K := K) (Q := Q) (E := True) hgd d s dT sT ho elem hu hsz dp sp dLen dCap sLen sCap hd hs g off q cur t hg cs hq hn hpos hfit h1 (fun w' hb hc => hK _ _ (h w' hb hc))
   rwa [if_pos (by simp [Region.wanted, hgd])] at this
def nz (zs : List Int) (j : Nat) : Int := zs.getD j 0
theorem nz_out {zs : List Int} {j : Nat} (h : zs.length <= j) : nz zs j = 0 := by
 unfold nz; rw [List.getD_eq_getElem?_getD, List.getElem?_eq_none h]; rfl
theorem nz_in {zs : List Int} {j : Nat} (h : j < zs.length) : nz zs j = zs[j] := by
 unfold nz; rw [List.getD_eq_getElem?_getD, List.getElem?_eq_getElem h]; rfl
theorem nz_get {zs : List Int} {j : Nat} (h : j < zs.length) : zs[j]? = some (nz zs j) := by rw [nz_in h]; exact List.getElem?_eq_getElem h
theorem ext_nz {a b : List Int} (hl : a.length = b.length) (h : ∀ j, j < a.length -> nz a j = nz b j) : a = b := by
 apply List.ext_getElem? fun j => ?_
 by_cases hj : j < a.length
 · rw [nz_get hj, nz_get (by omega), h j hj]
 · rw [List.getElem?_eq_none (by omega), List.getElem?_eq_none (by omega)]
theorem nz_take (zs : List Int) (n j : Nat) : nz (zs.take n) j = if j < n then nz zs j else 0 := by
 unfold nz
 simp only [List.getD_eq_getElem?_getD, List.getElem?_take]
 split <;> rfl
theorem nz_drop (zs : List Int) (n j : Nat) : nz (zs.drop n) j = nz zs (n + j) := by
 unfold nz
 simp only [List.getD_eq_getElem?_getD, List.getElem?_drop]
theorem nz_append (a b : List Int) (j : Nat) : nz (a ++ b) j = if j < a.length then nz a j else nz b (j - a.length) := by
 unfold nz
 simp only [List.getD_eq_getElem?_getD, List.getElem?_append]
 split <;> rfl
theorem nz_zeros (n j : Nat) : nz (List.replicate n 0) j = 0 := by
 unfold nz
 simp only [List.getD_eq_getElem?_getD, List.getElem?_replicate]
 split <;> rfl
theorem nz_splice (l cs : List Int) (off j : Nat) (h : off <= l.length) : nz (splice l off cs) j = if off <= j /\ j < off + cs.length then nz cs (j - off) else nz l j := by
 unfold splice
 rw [nz_append, nz_append, nz_drop, nz_take, List.length_take]
 by_cases h1 : j < off
 · rw [if_pos (by omega), if_pos h1, if_neg (by omega)]
 · rw [if_neg (by omega)]
   by_cases h2 : j < off + cs.length
   · rw [if_pos (by omega), if_pos (by omega)]; congr 1; omega
   · rw [if_neg (by omega), if_neg (by omega)]; congr 1; omega
theorem splice_bytes {l cs : List Int} (hl : AreB l) (hc : AreB cs) (off : Nat) : AreB (splice l off cs) := (hl.take off).append (hc.append (hl.drop _))
theorem own_ne {w : World} {b b' : Nat} {e e' : TypeId} {size size' n m : Nat} {u v : Value} {xs ys : List Value} (h : w.ownsRow b e size u n xs) (h' : w.ownsRow b' e' size' v m ys) (hne : e ≠ e') : ∀ g, u.ownBlock = some g -> v.ownBlock ≠ some g := by
 intro g hg hg'
 rcases h.2 with ⟨rfl, _⟩ | ⟨g1, c1, cur1, rfl, _, e1, _⟩
 · simp [Value.ownBlock] at hg
 · rcases h'.2 with ⟨rfl, _⟩ | ⟨g2, c2, cur2, rfl, _, e2, _⟩
   · simp [Value.ownBlock] at hg'
   · simp [Value.ownBlock] at hg hg'
     subst hg; subst hg'
     rw [e1] at e2
     injection e2 with e2
     injection e2 with _ e3
     exact absurd e3 hne
theorem chg_set (w : World) (q : Addr) (u : Value) : Chg (fun k => k = q.block) w (w.setCell q u) := (Chg.refl (fun k => k = q.block) w).setCell (.inr rfl) u
def grow (S : Nat -> Prop) (w w' : World) : Nat -> Prop := fun k => S k ∨ (w.heap.size <= k /\ k < w'.heap.size)
theorem chg_lt {T : Nat -> Prop} {w w' : World} {base : Nat} {S : Nat -> Prop} (h : ∀ k, S k -> base <= k /\ k < w.heap.size) (hc : Chg T w w') (hb : base <= w.heap.size) : ∀ k, grow S w w' k -> base <= k /\ k < w'.heap.size := fun k hk => by
 have := hc.size
 rcases hk with hk | ⟨h1, h2⟩
 · have := h k hk; omega
 · omega
theorem size_set (w : World) (q : Addr) (u : Value) : (w.setCell q u).heap.size = w.heap.size := by simp [World.setCell]
theorem own_reads {w : World} {base : Nat} {e : TypeId} {size n : Nat} {v : Value} {xs : List Value} (h : w.ownsRow base e size v n xs) : ∃ A c, v = .slice A n c /\ n <= c /\ c <= maxLen /\ Reads w w.heap.size size A n xs := by
 obtain ⟨A, c, rfl, h1, h2⟩ := own_form h
 exact ⟨A, c, rfl, h1, h2, Reads.of_own h⟩
theorem Reads.at2 {w : World} {B size n : Nat} {A : Option Addr} {xs : List Value} (h : Reads w B size A n xs) (hs : 0 < size) (hn : 0 < n) :
 ∃ b off, A = some ⟨b, off, none⟩ /\ b < B /\ ∀ j u, xs[j]? = some u -> w.cell? ⟨b, off + j, none⟩ = some u := by
 obtain ⟨ad, rfl, hb, hc⟩ := h.2 hn
 obtain ⟨b, off, spot⟩ := ad
 have hl : 0 < xs.length := by rw [h.1]; exact Nat.mul_pos hn hs
 have h0 := hc 0 _ (List.getElem?_eq_getElem hl)
 have hsp : spot = none := by simpa [Addr.add] using World.cell?_spot h0
 subst hsp
 refine ⟨b, off, rfl, hb, fun j u hu => ?_⟩
 have := hc j u hu
 have hp : (⟨b, off, none⟩ : Addr).add j = ⟨b, off + j, none⟩ := by unfold Addr.add; split <;> simp_all
 rwa [hp] at this
end Go.Proofs.YtgcmbgniaffdlaaGreat
