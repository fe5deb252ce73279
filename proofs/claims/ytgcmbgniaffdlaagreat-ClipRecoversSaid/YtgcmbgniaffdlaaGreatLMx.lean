import Derived.Test.YtgcmbgniaffdlaaGreatLLe
import Derived.StillTailTactics
set_option linter.unusedVariables false
set_option maxRecDepth 100000
namespace Go.Proofs.YtgcmbgniaffdlaaGreat
def rot29 (x : Int) : Int := bits .or .u64 (IntKind.u64.wrap (x * 536870912)) (x / 34359738368)
def stirA (h w : Int) : Int := bits .xor .u64 h (IntKind.u64.wrap (w * 14029467366897019727))
def stirB (x : Int) : Int := IntKind.u64.wrap (x * 11400714819323198485)
def stirC (x : Int) : Int := bits .xor .u64 x (x / 4294967296)
def stir (h w : Int) : Int := stirC (stirB (rot29 (stirA h w)))
def sum0 (key : Int) : Int := bits .xor .u64 key 11400714819323198485
def hst (key : Int) (zs : List Int) : Nat -> Int
 | 0 => sum0 key
 | k + 1 => stir (hst key zs k) (lev ((zs.drop (8 * k)).take 8))
def rest8 (zs : List Int) : List Int := zs.drop (8 * (zs.length / 8))
def hsh (key : Int) (zs : List Int) : Int := stir (stir (hst key zs (zs.length / 8)) (lev (rest8 zs))) zs.length
def IsU (x : Int) : Prop := 0 <= x /\ x < 18446744073709551616
theorem wrap_isU (x : Int) : IsU (IntKind.u64.wrap x) := by rw [IntKind.wrap_u64]; unfold IsU; omega
theorem bits_isU (o : BinOp) (ho : o = .xor ∨ o = .or) (x y : Int) : IsU (bits o .u64 x y) := by
 rcases ho with rfl | rfl <;> exact wrap_isU _
theorem stirA_isU (h w : Int) : IsU (stirA h w) := bits_isU _ (.inl rfl) _ _
theorem stirC_isU (x : Int) : IsU (stirC x) := bits_isU _ (.inl rfl) _ _
theorem stir_isU (h w : Int) : IsU (stir h w) := stirC_isU _
theorem sum0_isU (k : Int) : IsU (sum0 k) := bits_isU _ (.inl rfl) _ _
theorem hst_isU (key : Int) (zs : List Int) : ∀ k, IsU (hst key zs k)
 | 0 => sum0_isU _
 | k + 1 => stir_isU _ _
theorem lev_zeros : ∀ n : Nat, lev (List.replicate n 0) = 0
 | 0 => rfl
 | n + 1 => by rw [List.replicate_succ, lev, lev_zeros n]; rfl
theorem lev_pad (l : List Int) (n : Nat) : lev (l ++ List.replicate n 0) = lev l := by rw [lev_append, lev_zeros]; simp
theorem hst_append (key : Int) (zs ys : List Int) : ∀ k, 8 * k <= zs.length -> hst key (zs ++ ys) k = hst key zs k
 | 0, _ => rfl
 | k + 1, h => by
   rw [hst, hst, hst_append key zs ys k (by omega)]
   congr 2
   rw [List.drop_append_of_le_length (by omega), List.take_append_of_le_length (by rw [List.length_drop]; omega)]
theorem rest8_length (zs : List Int) : (rest8 zs).length = zs.length % 8 := by unfold rest8; rw [List.length_drop]; omega
theorem rest8_bytes {zs : List Int} (h : AreB zs) : AreB (rest8 zs) := h.drop _
theorem rest8_less {zs ys : List Int} (h : zs.length % 8 + ys.length < 8) : rest8 (zs ++ ys) = rest8 zs ++ ys /\ (zs ++ ys).length / 8 = zs.length / 8 := by
 have e : (zs ++ ys).length / 8 = zs.length / 8 := by rw [List.length_append]; omega
 refine ⟨?_, e⟩
 unfold rest8
 rw [e, List.drop_append_of_le_length (by omega)]
theorem rest8_full {zs ys : List Int} (h : zs.length % 8 + ys.length = 8) (key : Int) :
 rest8 (zs ++ ys) = [] /\ (zs ++ ys).length / 8 = zs.length / 8 + 1 /\ hst key (zs ++ ys) (zs.length / 8 + 1) = stir (hst key zs (zs.length / 8)) (lev (rest8 zs ++ ys)) := by
 have e : (zs ++ ys).length / 8 = zs.length / 8 + 1 := by rw [List.length_append]; omega
 refine ⟨?_, e, ?_⟩
 · unfold rest8
   rw [e, List.drop_eq_nil_of_le (by rw [List.length_append]; omega)]
 · rw [hst, hst_append key zs ys _ (by omega)]
   congr 2
   rw [List.drop_append_of_le_length (by omega), List.take_of_length_le (by rw [List.length_append, List.length_drop]; omega)]
   rfl
open Go.RowKit
theorem rot_any (x : Int) (w : World) (h : IsU x) : Calls Tryz.prog 227 #[.int .u64 x, .int .i64 29] w fun e w' => e = .returned (.int .u64 (rot29 x)) /\ w = w' := by
 obtain ⟨h0, h1⟩ := h
 have hs : bits .and .u64 29 63 = 29 := by decide
 go_enter Tryz.func227, Tryz.ntmps227
 go_wp2
 go_ret
 exact ⟨rfl, rfl⟩
theorem stir_any (h v : Int) (w : World) (hh : IsU h) (hv : IsU v) : Calls Tryz.prog 215 #[.int .u64 h, .int .u64 v] w fun e w' => e = .returned (.int .u64 (stir h v)) /\ w = w' := by
 obtain ⟨h0, h1⟩ := hh
 obtain ⟨h2, h3⟩ := hv
 go_enter Tryz.func215, Tryz.ntmps215
 go_wp2_with (go_at_call 227; refine (rot_any (stirA h v) _ (stirA_isU _ _)).mono ?_; rintro e w1 ⟨rfl, rfl⟩)
 go_ret
 exact ⟨rfl, rfl⟩
def bucket (h n : Int) : Int := if n < 1 then 0 else h % n
theorem bucket_any (h n : Int) (w : World) (hh : IsU h) (hn : -9223372036854775808 <= n) (hn' : n <= 9223372036854775807) :
 Calls Tryz.prog 154 #[.int .u64 h, .int .i64 n] w fun e w' => e = .returned (.int .i64 (bucket h n)) /\ w = w' := by
 obtain ⟨h0, h1⟩ := hh
 by_cases h2 : n < 1
 · go_enter Tryz.func154, Tryz.ntmps154
   go_wp2
   go_ret
   exact ⟨ret_int (by unfold bucket; rw [if_pos h2]), rfl⟩
 · have h3 := Int.emod_nonneg h (show n ≠ 0 by omega)
   have h4 := Int.emod_lt_of_pos h (show 0 < n by omega)
   go_enter Tryz.func154, Tryz.ntmps154
   go_wp2
   go_ret
   exact ⟨ret_int (by unfold bucket; rw [if_neg (by omega)]), rfl⟩
end Go.Proofs.YtgcmbgniaffdlaaGreat
set_option linter.unusedSimpArgs false
namespace Go.Proofs.YtgcmbgniaffdlaaGreat
open Go.RowKit
theorem quiet_eq {P : Program} {f : FuncId} {args : Array Value} {w : World} {n : Nat} {v : Value}
 (h : Calls P f args (w.drewN n) fun e w' => e = .returned v /\ w.drewN n = w') : Calls P f args (w.drewN n) fun e w'' => e = .returned v /\ ∃ m, w'' = w.drewN m :=
 h.mono fun _ _ ⟨he, hm⟩ => ⟨he, n, hm.symm⟩
def smc (h : Int) (left : List Int) (n : Int) : List Value := .int .u64 h :: (cellsOf .u8 left ++ [.int .i64 n])
theorem smc_length (h : Int) (left : List Int) (n : Int) : (smc h left n).length = left.length + 2 := by simp [smc, cellsOf_length]
theorem smc_9 (h : Int) (left : List Int) (n : Int) (h8 : left.length = 8) : (smc h left n)[9]? = some (.int .i64 n) := by
 unfold smc
 rw [List.getElem?_cons_succ, List.getElem?_append_right (by rw [cellsOf_length]; omega), cellsOf_length, h8]
 rfl
theorem smc_left (h : Int) (left : List Int) (n : Int) (j : Nat) (u : Value) (hj : (cellsOf .u8 left)[j]? = some u) : (smc h left n)[1 + j]? = some u := by
 have hl := (List.getElem?_eq_some_iff.1 hj).1
 unfold smc
 rw [Nat.add_comm, List.getElem?_cons_succ, List.getElem?_append_left hl, hj]
theorem smc_set0 (h h' : Int) (left : List Int) (n : Int) : (smc h left n).toArray.setIfInBounds 0 (.int .u64 h') = (smc h' left n).toArray := by
 simp [smc]
theorem smc_set9 (h : Int) (left : List Int) (n n' : Int) (h8 : left.length = 8) : (smc h left n).toArray.setIfInBounds 9 (.int .i64 n') = (smc h left n').toArray := by
 have hc : (cellsOf .u8 left).length = 8 := by rw [cellsOf_length, h8]
 simp only [smc, List.setIfInBounds_toArray, List.set_cons_succ]
 rw [List.set_append_right _ _ (by omega), hc]
 rfl
theorem smc_splice (h : Int) (left ys : List Int) (n : Int) (k : Nat) (h8 : left.length = 8) (hk : k + ys.length <= 8) :
 splice (smc h left n) (1 + k) (cellsOf .u8 ys) = smc h (splice left k ys) n := by
 have hc : (cellsOf .u8 left).length = 8 := by rw [cellsOf_length, h8]
 have hy : (cellsOf .u8 ys).length = ys.length := cellsOf_length _ _
 unfold splice smc
 rw [show 1 + k = k + 1 by omega, List.take_succ_cons, show k + 1 + (cellsOf .u8 ys).length = (k + (cellsOf .u8 ys).length) + 1 by omega, List.drop_succ_cons,
   List.take_append_of_le_length (by omega), List.drop_append_of_le_length (by omega), hy]
 simp [cellsOf]
structure Sm (w : World) (g : Nat) (key : Int) (zs : List Int) : Prop where
 blk : Blk w g 256 (smc (hst key zs (zs.length / 8)) (rest8 zs ++ List.replicate (8 - zs.length % 8) 0) zs.length).toArray
 bytes : AreB zs
theorem left_length (zs : List Int) : (rest8 zs ++ List.replicate (8 - zs.length % 8) 0).length = 8 := by
 rw [List.length_append, rest8_length, List.length_replicate]; omega
theorem left_bytes {zs : List Int} (h : AreB zs) : AreB (rest8 zs ++ List.replicate (8 - zs.length % 8) 0) := (rest8_bytes h).append (AreB.zeros _)
theorem blk_reads {w : World} {g : Nat} {h n : Int} {left : List Int} (hb : Blk w g 256 (smc h left n).toArray) : Reads w (g + 1) 1 (some ⟨g, 1, none⟩) left.length (cellsOf .u8 left) := by
 refine ⟨by rw [cellsOf_length]; omega, fun _ => ⟨_, rfl, Nat.lt_succ_self _, fun j u hu => ?_⟩⟩
 have e : (⟨g, 1, none⟩ : Addr).add j = ⟨g, 1 + j, none⟩ := by unfold Addr.add; split <;> simp_all
 rw [e, hb.cell, List.getElem?_toArray]
 exact smc_left h left n j u hu
theorem new_any (key : Int) (w : World) (hk : IsU key) :
 Calls Tryz.prog 196 #[.int .u64 key] w fun e w' => e = .returned (.pointer (some ⟨w.heap.size, 0, none⟩)) /\ Sm w' w.heap.size key [] /\ Below w.heap.size w w' := by
 obtain ⟨h0, h1⟩ := hk
 go_enter Tryz.func196, Tryz.ntmps196
 go_wp2
 go_ret
 exact ⟨rfl, ⟨Blk.new _ _ _, AreB.nil⟩, (Below.refl _ _).alloc (Nat.le_refl _) _⟩
theorem word_any (g : Nat) (h n : Int) (left : List Int) (w : World) (hb : Blk w g 256 (smc h left n).toArray) (hz : AreB left) (h8 : left.length = 8) :
 Calls Tryz.prog 216 #[.pointer (some ⟨g, 0, none⟩)] w fun e w' => e = .returned (.int .u64 (lev left)) /\ w = w' := by
 have hr := blk_reads hb
 rw [h8] at hr
 have hok : gok 8 0 8 = true := by decide
 have hnum : gnum left 0 8 = lev left := by unfold gnum; rw [h8, hok]; simp; rw [List.take_of_length_le (by omega)]
 have G := Lib.hid (get_any (some ⟨g, 1, none⟩) 8 8 0 8 left w hr hz (by omega) (by omega) (by omega) (by omega) (by omega) (by omega))
 rw [hok, hnum] at G
 clear hok hnum hr
 go_enter Tryz.func216, Tryz.ntmps216
 go_wp2_with (go_at_call 52; refine G.out.mono ?_; rintro e w1 ⟨rfl, rfl⟩)
 go_ret
 exact ⟨rfl, rfl⟩
theorem lev_isU {l : List Int} (h : AreB l) (h8 : l.length <= 8) : IsU (lev l) := by
 have h1 := lev_bound l h
 have h2 := pow256_le l.length h8
 exact ⟨h1.1, by omega⟩
theorem value_any (g : Nat) (key : Int) (zs : List Int) (w : World) (h : Sm w g key zs) (hn : zs.length <= 4611686018427387904) :
 Calls Tryz.prog 198 #[.pointer (some ⟨g, 0, none⟩)] w fun e w' => e = .returned (.int .u64 (hsh key zs)) /\ ∃ k, w' = w.drewN k := by
 have hE := Lib.hid (show stir (stir (hst key zs (zs.length / 8)) (lev (rest8 zs ++ List.replicate (8 - zs.length % 8) 0))) zs.length = hsh key zs by rw [lev_pad]; rfl)
 have hb := h.blk
 have h8 := left_length zs
 have hl := left_bytes h.bytes
 have hu1 := hst_isU key zs (zs.length / 8)
 generalize rest8 zs ++ List.replicate (8 - zs.length % 8) 0 = left at hb h8 hl hE
 generalize hst key zs (zs.length / 8) = s at hb hu1 hE
 have hu2 := lev_isU hl (by omega)
 have hu3 := stir_isU s (lev left)
 have hu4 : IsU (zs.length : Int) := ⟨by omega, by omega⟩
 have c0 : w.cell? ⟨g, 0, none⟩ = some (.int .u64 s) := by rw [hb.cell, List.getElem?_toArray]; rfl
 have c9 : w.cell? ⟨g, 9, none⟩ = some (.int .i64 zs.length) := by rw [hb.cell, List.getElem?_toArray]; exact smc_9 _ _ _ h8
 have H8 := Lib.hid h8
 clear h8
 have hwr : IntKind.u64.wrap (zs.length : Int) = zs.length := by rw [IntKind.wrap_u64]; exact Int.emod_eq_of_lt hu4.1 hu4.2
 go_enter Tryz.func198, Tryz.ntmps198
 go_wp2_with (fail)
 go_quiet ((first
   | (go_at_call 216; exact quiet_eq (word_any g s zs.length left _ (hb.drewN _) hl H8.out))
   | (go_at_call 215; exact quiet_eq (stir_any _ _ _ (by assumption) (by assumption)))))
 go_wp2
 go_ret
 exact ⟨ret_int hE.out, _, rfl⟩
structure AddAt (w0 w : World) (B g : Nat) (key : Int) (A : Option Addr) (m c : Nat) (xs ys : List Int) : Prop where
 sm : Sm w g key xs
 reads : Reads w B 1 A m (cellsOf .u8 ys)
 ne : 0 < m -> ∀ ad, A = some ad -> ad.block ≠ g
 bytes : AreB ys
 le : m <= c
 cap : c <= 9223372036854775807
 small : xs.length + m <= 4611686018427387904
 low : B <= w.heap.size
 chg : Chg (fun k => k = g) w0 w
theorem splice_all (l z : List Int) (h : l.length <= z.length) : splice l 0 z = z := by
 unfold splice
 rw [List.drop_eq_nil_of_le (by omega)]
 simp
theorem splice_rest {xs ys : List Int} (h : xs.length % 8 + ys.length <= 8) :
 splice (rest8 xs ++ List.replicate (8 - xs.length % 8) 0) (xs.length % 8) ys = rest8 xs ++ ys ++ List.replicate (8 - xs.length % 8 - ys.length) 0 := by
 have hr := rest8_length xs
 unfold splice
 rw [List.take_append_of_le_length (by omega), List.take_of_length_le (by omega), List.drop_append, List.drop_eq_nil_of_le (by omega), List.drop_replicate, hr]
 simp only [List.nil_append, List.append_assoc]
 congr 3
 omega
theorem sm_less {w : World} {g : Nat} {key : Int} {xs ys : List Int} (h : xs.length % 8 + ys.length < 8) (hx : AreB xs) (hy : AreB ys)
 (hb : Blk w g 256 (smc (hst key xs (xs.length / 8)) (splice (rest8 xs ++ List.replicate (8 - xs.length % 8) 0) (xs.length % 8) ys) ((xs.length : Int) + (ys.length : Int))).toArray) : Sm w g key (xs ++ ys) := by
 obtain ⟨h1, h2⟩ := rest8_less h
 refine ⟨?_, hx.append hy⟩
 rw [splice_rest (by omega)] at hb
 rw [h1, h2, hst_append _ _ _ _ (by omega), List.length_append, show 8 - (xs.length + ys.length) % 8 = 8 - xs.length % 8 - ys.length by omega, Int.natCast_add]
 exact hb
theorem sm_full {w : World} {g : Nat} {key : Int} {xs ys : List Int} (h : xs.length % 8 + ys.length = 8) (hx : AreB xs) (hy : AreB ys)
 (hb : Blk w g 256 (smc (stir (hst key xs (xs.length / 8)) (lev (rest8 xs ++ ys))) (List.replicate 8 0) ((xs.length : Int) + (ys.length : Int))).toArray) : Sm w g key (xs ++ ys) := by
 obtain ⟨h1, h2, h3⟩ := rest8_full h key
 refine ⟨?_, hx.append hy⟩
 rw [h1, h2, h3, List.length_append, show 8 - (xs.length + ys.length) % 8 = 8 by omega, Int.natCast_add]
 exact hb
theorem AddAt.next {w0 w w' : World} {B g : Nat} {key : Int} {A : Option Addr} {m c q : Nat} {xs ys : List Int} (h : AddAt w0 w B g key A m c xs ys) (hq : q <= m) (hc : Chg (fun k => k = g) w w') (hs : Sm w' g key (xs ++ ys.take q)) :
 AddAt w0 w' B g key (if c = q then A else A.map (·.add q)) (m - q) (c - q) (xs ++ ys.take q) (ys.drop q) := by
 have hl := h.le
 have hyl := h.reads.len
 have hcut := h.reads.cut (k := q) (cap := c) hq hl
 rw [Nat.mul_one, cellsOf_drop] at hcut
 have hne : 0 < m - q -> ∀ ad, (if c = q then A else A.map (·.add q)) = some ad -> ad.block ≠ g := fun h0 ad e => by
   rw [if_neg (by omega)] at e
   obtain ⟨ad0, e0, _⟩ := h.reads.2 (by omega)
   rw [e0] at e
   simp at e
   rw [<- e, block_of_add]
   exact h.ne (by omega) ad0 e0
 refine ⟨hs, hcut.chg hc h.low hne, hne, h.bytes.drop q, by omega, by have := h.cap; omega, ?_, Nat.le_trans h.low hc.size, h.chg.trans hc (fun _ _ e => e)⟩
 have := h.small
 rw [List.length_append, List.length_take]
 omega
def slen : Value -> Nat
 | .slice _ n _ => n
 | _ => 0
theorem arrSize : (Tryz.prog.info? 254).map (·.size) = some (cellsOf .u8 (List.replicate 8 0)).length := by kernel_rfl
theorem byteOne : (Tryz.prog.info? 5).map (·.size) = some 1 := by kernel_rfl
set_option maxHeartbeats 1000000 in
theorem add_any {B : Nat} (g : Nat) (key : Int) (zs : List Int) (A : Option Addr) (len cap : Nat) (bs : List Int) (w : World) (h : Sm w g key zs) (hr : Reads w B 1 A len (cellsOf .u8 bs)) (hB : B <= w.heap.size)
 (hne : 0 < len -> ∀ ad, A = some ad -> ad.block ≠ g) (hz : AreB bs) (hl : len <= cap) (hcap : cap <= 9223372036854775807) (hn : zs.length + len <= 4611686018427387904) :
 Calls Tryz.prog 197 #[.pointer (some ⟨g, 0, none⟩), .slice A len cap] w fun e w' => e = .returned (.tuple #[]) /\ Sm w' g key (zs ++ bs) /\ Chg (fun k => k = g) w w' := by
 have H0 : AddAt w w B g key A len cap zs bs := ⟨h, hr, hne, hz, hl, hcap, hn, hB, Chg.refl _ _⟩
 clear h hr hne hz hB
 go_enter Tryz.func197, Tryz.ntmps197
 go_wp2
 go_loopw [1, 4] (fun b _ wr => ∃ (m c : Nat) (A' : Option Addr) (xs ys : List Int), Hid (xs ++ ys = zs ++ bs) /\ b = .slice A' m c /\ AddAt w wr B g key A' m c xs ys)
   (fun b _ _ => slen b)
 case atStart => exact ⟨len, cap, A, zs, bs, rfl, rfl, H0⟩
 case round =>
   obtain ⟨m, c, A', xs, ys, hxy, rfl, H⟩ := hrel
   clear H0
   have hyl := H.reads.len
   by_cases hlt : 0 < m
   · obtain ⟨k, hk⟩ : ∃ k, k = xs.length % 8 := ⟨_, rfl⟩
     obtain ⟨q, hq⟩ : ∃ q, q = min m (8 - k) := ⟨_, rfl⟩
     obtain ⟨n, hnn⟩ : ∃ n, n = xs.length := ⟨_, rfl⟩
     obtain ⟨news, hnews⟩ : ∃ news, news = cellsOf .u8 (ys.take q) := ⟨_, rfl⟩
     obtain ⟨left, hleft⟩ : ∃ left, left = rest8 xs ++ List.replicate (8 - xs.length % 8) 0 := ⟨_, rfl⟩
     obtain ⟨s, hs⟩ : ∃ s, s = hst key xs (xs.length / 8) := ⟨_, rfl⟩
     have hbl : Blk wr g 256 (smc s left n).toArray := by rw [hs, hleft, hnn]; exact H.sm.blk
     have h8 : left.length = 8 := hleft ▸ left_length xs
     have htl : (ys.take q).length = q := by rw [List.length_take]; omega
     have hnl : news.length = q := by rw [hnews, cellsOf_length, htl]
     have hone : ∀ v ∈ news, v.oneCell' = true := hnews ▸ cellsOf_one _ _
     have hsp : splice (smc s left n) (1 + k) news = smc s (splice left k (ys.take q)) n := by rw [hnews]; exact smc_splice _ _ _ _ _ h8 (by omega)
     have h8' : (splice left k (ys.take q)).length = 8 := by rw [length_splice _ _ _ (by omega)]; exact h8
     have hk8 : k < 8 := by omega
     have hl2 : AreB (splice left k (ys.take q)) := by
       rw [hleft, hk, splice_rest (by omega)]
       exact ((rest8_bytes H.sm.bytes).append (H.bytes.take q)).append (AreB.zeros _)
     have hLess : k + q < 8 -> ∀ w', Blk w' g 256 (smc s (splice left k (ys.take q)) ((n : Int) + q)).toArray -> Sm w' g key (xs ++ ys.take q) := fun hlt w' hb => by
       refine sm_less (by omega) H.sm.bytes (H.bytes.take q) ?_
       rw [hs, hleft, hk, hnn] at hb
       rw [htl]
       exact hb
     have hFull : k + q = 8 -> ∀ w', Blk w' g 256 (smc (stir s (lev (splice left k (ys.take q)))) (List.replicate 8 0) ((n : Int) + q)).toArray -> Sm w' g key (xs ++ ys.take q) := fun hlt w' hb => by
       refine sm_full (by omega) H.sm.bytes (H.bytes.take q) ?_
       rw [hs, hleft, hk, hnn, splice_rest (by omega), lev_pad] at hb
       rw [htl]
       exact hb
     have hu1 : IsU s := hs ▸ hst_isU _ _ _
     have hq1 : 0 < q := by omega
     have hfit : 1 + k + q <= (smc s left n).length := by rw [smc_length]; omega
     have hmin : q = Nat.min m (8 - k) := hq
     have c9 : wr.cell? ⟨g, 9, none⟩ = some (.int .i64 n) := by rw [hbl.cell, List.getElem?_toArray]; exact smc_9 _ _ _ h8
     have hsrc : 0 < q -> ∃ ad, A' = some ad /\ ∀ j v, news[j]? = some v -> wr.cell? (ad.add j) = some v := fun _ => by
       obtain ⟨ad, e, _, hc⟩ := H.reads.2 (by omega)
       refine ⟨ad, e, fun j v hj => hc j v ?_⟩
       rw [hnews] at hj
       simp only [cellsOf, List.map_take, List.getElem?_take] at hj
       split at hj
       · exact hj
       · cases hj
     have ht : (n : Int).tmod 8 = (k : Int) := by rw [Int.tmod_eq_emod_of_nonneg (by omega)]; omega
     have hsm := H.small
     have hle := H.le
     have hcc := H.cap
     have i1 : (0 : Int) <= (k : Int) := by omega
     have i2 : (k : Int) <= 8 := by omega
     have i3 : (q : Int) <= (m : Int) := by omega
     have i5 : ¬ (8 = k) := by omega
     have i4 : n + q <= 4611686018427387904 := by omega
     obtain ⟨A2, hA2⟩ : ∃ A2, (if c = q then A' else A'.map (·.add q)) = A2 := ⟨_, rfl⟩
     have HK := Lib.hid hk
     have HQ := Lib.hid hq
     have HN := Lib.hid hnn
     have HW := Lib.hid hnews
     have HLF := Lib.hid hleft
     have HSS := Lib.hid hs
     have H8 := Lib.hid h8
     have HTL := Lib.hid htl
     have HNL := Lib.hid hnl
     have HSP := Lib.hid hsp
     have H8' := Lib.hid h8'
     have HON := Lib.hid hone
     have HSRC := Lib.hid hsrc
     have HYL := Lib.hid hyl
     have HMIN := Lib.hid hmin
     have HLESS := Lib.hid hLess
     have HFULL := Lib.hid hFull
     clear hLess hFull
     clear hk hq hnn hnews hleft hs h8 htl hnl hsp h8' hone hsrc hyl hmin
     go_wp2
     go_region_law (refine step_copy_blk rfl _ _ _ _ rfl 5 Tryz.underlying24 byteOne _ _ _ _ _ _ rfl rfl g (1 + k) q (smc s left n) 256 hbl.drew news HNL.out HMIN.out (fun h0 => ⟨rfl, HSRC.out h0⟩) hfit HON.out ?_; intro w1 HG1 hc1; have hb1 : Blk w1 g 256 (smc s (splice left k (ys.take q)) n).toArray := (by rw [<- HSP.out]; exact HG1.out); have c91 : w1.cell? ⟨g, 9, none⟩ = some (.int .i64 n) := (by rw [hb1.cell, List.getElem?_toArray]; exact smc_9 _ _ _ H8'.out); have f91 := hb1.frozen 9)
     have hb2 : Blk (w1.setCell ⟨g, 9, none⟩ (.int .i64 (n + q))) g 256 (smc s (splice left k (ys.take q)) (n + q)).toArray := by
       have := hb1.set_ 9 (.int .i64 (n + q))
       rwa [smc_set9 _ _ _ _ H8'.out] at this
     have hc2 : Chg (fun k => k = g) wr (w1.setCell ⟨g, 9, none⟩ (.int .i64 (n + q))) := hc1.drew0.setCell (.inr rfl) _
     by_cases hf : k + q = 8
     · have hT : (((n : Int) + q) % 8 == 0) = true := by
         have e1 := HK.out
         have e2 := HN.out
         have e3 : (n + q) % 8 = 0 := by omega
         simp
         omega
       go_wp2_with (fail)
       generalize w1.setCell ⟨g, 9, none⟩ (.int .i64 (n + q)) = w2 at hb2 hc2 ⊢
       have c02 : w2.cell? ⟨g, 0, none⟩ = some (.int .u64 s) := by rw [hb2.cell, List.getElem?_toArray]; rfl
       have f02 := hb2.frozen 0
       have hu2 := lev_isU hl2 (by rw [H8'.out]; omega)
       go_region_law ((first
         | (go_simp; go_at_call 216; refine (word_any g s (n + q) (splice left k (ys.take q)) _ hb2.drew hl2 H8'.out).mono ?_; rintro e w3 ⟨rfl, rfl⟩)
         | (go_simp; go_at_call 215; refine (stir_any s (lev (splice left k (ys.take q))) _ hu1 hu2).mono ?_; rintro e w3 ⟨rfl, rfl⟩)))
       all_goals
         have hb3 : Blk (w2.setCell ⟨g, 0, none⟩ (.int .u64 (stir s (lev (splice left k (ys.take q)))))).drew g 256 (smc (stir s (lev (splice left k (ys.take q)))) (splice left k (ys.take q)) (n + q)).toArray := by
           have := hb2.set_ 0 (.int .u64 (stir s (lev (splice left k (ys.take q)))))
           rw [smc_set0] at this
           exact this.drew
         have hc3 : Chg (fun k => k = g) wr (w2.setCell ⟨g, 0, none⟩ (.int .u64 (stir s (lev (splice left k (ys.take q)))))).drew := (hc2.setCell (.inr rfl) _).drew
         generalize (w2.setCell ⟨g, 0, none⟩ (.int .u64 (stir s (lev (splice left k (ys.take q)))))).drew = w3 at hb3 hc3 ⊢
         have hsf : 1 + (cellsOf .u8 (List.replicate 8 0)).length <= (smc (stir s (lev (splice left k (ys.take q)))) (splice left k (ys.take q)) (n + q)).length := by rw [smc_length, H8'.out]; decide
         go_wp2_with (refine wpList_store_blk (op := ⟨none, .store 254 (.tmp 49) (.tmp 47), _, _, _, _⟩) rfl 254 _ _ rfl g 1 rfl (cellsOf .u8 (List.replicate 8 0)) rfl (smc (stir s (lev (splice left k (ys.take q)))) (splice left k (ys.take q)) (n + q)) 256 hb3 arrSize hsf (cellsOf_one _ _) ?_ rfl; intro w4 hb4 hc4)
         have hb5 : Blk w4 g 256 (smc (stir s (lev (splice left k (ys.take q)))) (List.replicate 8 0) (n + q)).toArray := by
           have := hb4.out
           rwa [smc_splice _ _ _ _ 0 H8'.out (by decide), splice_all _ _ (by rw [H8'.out]; decide)] at this
         have hnx := H.next (q := q) (by omega) (hc3.trans hc4 (fun _ _ e => e)) (HFULL.out hf _ hb5)
         rw [hA2] at hnx
         go_roundw
         case rel => exact ⟨m - q, c - q, A2, _, _, by show _ = _; rw [List.append_assoc, List.take_append_drop]; exact hxy.out, rfl, hnx⟩
         case measure => simp [slen]; omega
     · have hT : (((n : Int) + q) % 8 == 0) = false := by
         have e1 := HK.out
         have e2 := HN.out
         have e4 := HQ.out
         have e3 : (n + q) % 8 ≠ 0 := by omega
         simp
         omega
       go_wp2_with (fail)
       go_roundw
       case rel =>
         have hnx := H.next (q := q) (by omega) hc2 (HLESS.out (by have := HQ.out; omega) _ hb2)
         rw [hA2] at hnx
         exact ⟨m - q, c - q, A2, _, _, by show _ = _; rw [List.append_assoc, List.take_append_drop]; exact hxy.out, rfl, hnx⟩
       case measure => simp [slen]; omega
   · obtain rfl : m = 0 := by omega
     have hys : ys = [] := List.eq_nil_of_length_eq_zero hyl
     subst hys
     go_wp2
     go_end0
     have := H.sm
     rw [<- List.append_nil xs, hxy.out] at this
     exact ⟨rfl, this, H.chg⟩
theorem Sm.chg_self {w w' : World} {g : Nat} (hc : Chg (fun k => k = g) w w') {B : Nat} (hB : B <= w.heap.size) (hg : B <= g) : Below B w w' := hc.below hB (fun k _ e => by omega)
theorem hash_any {B : Nat} (A : Option Addr) (len cap : Nat) (key : Int) (zs : List Int) (w : World) (hk : IsU key) (hr : Reads w B 1 A len (cellsOf .u8 zs)) (hB : B <= w.heap.size) (hz : AreB zs) (hl : len <= cap) (hcap : cap <= 9223372036854775807) (hn : len <= 4611686018427387904) :
 Calls Tryz.prog 173 #[.int .u64 key, .slice A len cap] w fun e w' => e = .returned (.int .u64 (hsh key zs)) /\ Below w.heap.size w w' := by
 have hll := hr.len
 have hne : 0 < len -> ∀ ad, A = some ad -> ad.block ≠ w.heap.size := fun h0 ad e => by
   obtain ⟨ad', e', hb, _⟩ := hr.2 h0
   rw [e] at e'; injection e' with e'
   subst e'
   omega
 have HN := Lib.hid hne
 have HL := Lib.hid hll
 clear hne hll
 go_enter Tryz.func173, Tryz.ntmps173
 go_wp2_with (first
   | (go_at_call 196; refine (new_any key w hk).mono ?_; rintro e w1 ⟨rfl, hs1, hb1⟩; have hr1 := hr.keep (fun p hp => hb1.cell (p := p) (by omega)); have hB1 : B <= w1.heap.size := (by have := hb1.size; omega))
   | (go_at_call 197; refine (add_any w.heap.size key [] A len cap zs w1 hs1 hr1 hB1 HN.out hz hl hcap (by simpa using hn)).mono ?_; rintro e w2 ⟨rfl, hs2, hc2⟩)
   | (go_at_call 198; refine (value_any w.heap.size key ([] ++ zs) w2 hs2 (by have := HL.out; simp; omega)).mono ?_; rintro e w3 ⟨rfl, k, rfl⟩))
 go_ret
 exact ⟨rfl, (hb1.trans (Sm.chg_self hc2 hb1.size (Nat.le_refl _))).trans ⟨rfl, rfl, rfl, Nat.le_refl _, fun _ _ => rfl⟩⟩
end Go.Proofs.YtgcmbgniaffdlaaGreat
