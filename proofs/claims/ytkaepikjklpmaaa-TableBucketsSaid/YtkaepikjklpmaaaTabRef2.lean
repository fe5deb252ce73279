/-
  LAYER 13: the document's Add: its contract; a list of rows that a call owns.
-/
import Derived.Test.YtkaepikjklpmaaaTabRef
set_option linter.unusedVariables false
set_option maxRecDepth 100000
set_option linter.unusedSimpArgs false
namespace Go.Proofs.Ytkaepikjklpmaaa
open Go.RowKit

theorem results_tmp4 {fn : Func} {t u v x : Tmp} (h : fn.results = #[.tmp t, .tmp u, .tmp v, .tmp x]) (tmps : Array Value) (P : Program) (w : World) :
    (results fn tmps).run P w = .ok (.tuple #[tmps.getD t undef, tmps.getD u undef, tmps.getD v undef, tmps.getD x undef]) w := by
  simp [results, h, go_sem]

/-- What may be a row. -/
def FineR (r : TRow) : Prop := AreB r.raw ∧ r.raw.length ≤ 100000 ∧ r.at_ ≤ 1099511627776 ∧ (r.k = 1 ∨ r.k = 2)

/-- A row of rows that a call owns. -/
structure OwnR (w : World) (base : Nat) (v : Value) (l : List TRow) : Prop where
  own : w.ownsRow base 45 3 v l.length (cellsR l)
  fine : ∀ r ∈ l, FineR r
  most : l.length ≤ 1000
theorem OwnR.nil_ (w : World) (base : Nat) : OwnR w base (.slice none 0 0) [] := ⟨World.ownsRow_nil _ _ _ _, fun r h => (by cases h), (by simp)⟩
theorem OwnR.rows {w : World} {base : Nat} {v : Value} {l : List TRow} (h : OwnR w base v l) : ∃ A c, v = .slice A l.length c ∧ l.length ≤ c ∧ c ≤ maxLen ∧ RowsR w w.heap.size A l.length c l := by
  obtain ⟨A, c, e, h1, h2, h3⟩ := own_reads h.own
  exact ⟨A, c, e, h1, h2, h3, rfl, h.fine, h.most⟩
theorem OwnR.chg {w w' : World} {base : Nat} {v : Value} {l : List TRow} {S : Nat → Prop} (h : OwnR w base v l) (hc : Chg S w w') (hS : ∀ g, v.ownBlock = some g → ¬ S g) : OwnR w' base v l := ⟨own_chg h.own hc hS, h.fine, h.most⟩
theorem OwnR.below {w w' : World} {base : Nat} {v : Value} {l : List TRow} (h : OwnR w base v l) (hb : Below w.heap.size w w') : OwnR w' base v l := ⟨own_below h.own hb, h.fine, h.most⟩

theorem rowInfo : (Try.prog.info? 45).map (fun i => (i.zero, i.size, i.bytes)) = some (some (.agg #[.int .i64 0, .string ⟨#[]⟩, .int .i64 0]), 3, 32) := by kernel_rfl

/-- What Add of the document's tells. -/
def RAddTold (base : Nat) (v : Value) (l : List TRow) (kd : Nat) (zs : List Int) (tail lim : Nat) (w : World) (e : Ending) (w' : World) : Prop :=
  (∃ a, findR l kd zs = some a ∧ e = .returned (.tuple #[v, .int .i64 (a : Nat), .bool false, .bool true]) ∧ w = w') ∨
  (findR l kd zs = none ∧ lim < tail + tlen kd zs.length ∧ e = .returned (.tuple #[v, .int .i64 0, .bool false, .bool false]) ∧ w = w') ∨
  (findR l kd zs = none ∧ tail + tlen kd zs.length ≤ lim ∧ ∃ v', e = .returned (.tuple #[v', .int .i64 (tail : Nat), .bool true, .bool true]) ∧ OwnR w' base v' (l ++ [⟨kd, zs, tail⟩]) ∧ Chg (fun k => v.ownBlock = some k) w w' ∧ (v'.ownBlock = v.ownBlock ∨ ∃ g, v'.ownBlock = some g ∧ w.heap.size ≤ g))

theorem rowNew (w : World) (t : TypeId) (a b c : Value) : Reads (w.alloc (.cells #[a, b, c] t)) (w.heap.size + 1) 3 (some ⟨w.heap.size, 0, none⟩) 1 [a, b, c] := by
  refine ⟨rfl, fun _ => ⟨_, rfl, Nat.lt_succ_self _, fun j v hj => ?_⟩⟩
  have h := (Blk.new w t #[a, b, c]).cell j
  have e : (⟨w.heap.size, 0, none⟩ : Addr).add j = ⟨w.heap.size, j, none⟩ := by unfold Addr.add; split <;> simp_all
  rw [e, h]
  simpa using hj
theorem rowOne (a c : Int) (s : ByteArray) : ∀ u ∈ [Value.int .i64 a, .string s, .int .i64 c], u.oneCell' = true := fun u hu => by
  simp at hu
  rcases hu with rfl | rfl | rfl <;> rfl
theorem grown_chg {w w1 : World} {o : Obj} {r : Option Nat} (h : (w.alloc o).grownBy w1 r) : Chg (fun k => r = some k) w w1 := by
  have hs := h.size
  rw [World.size_alloc] at hs
  exact ⟨h.os, h.tape, h.output, by omega, fun k hk hn => (h.block k (by rw [World.size_alloc]; omega) (fun e => hn e.symm)).trans (Below.heap_alloc _ _ _ hk)⟩
theorem sr1 {m : Nat} (h : m ≤ 999) : m + 1 ≤ maxLen := by unfold maxLen; omega
theorem sr2 {m : Nat} (h : m ≤ 999) : (m + 1) * 32 ≤ 140737488355328 := by omega

set_option maxHeartbeats 2000000 in
theorem radd_any {base : Nat} {v : Value} {l : List TRow} (kd : Nat) (zs : List Int) (tail lim : Nat) (w : World) (h : OwnR w base v l) (hbase : base ≤ w.heap.size) (hm : l.length ≤ 900) (hz : AreB zs) (hzl : zs.length ≤ 100000) (hk : kd = 1 ∨ kd = 2) (ht : tail ≤ 1099511627776) (hl : lim ≤ 1099511627776) :
    Calls Try.prog 9 #[v, .int .i64 kd, .string (strOfNums zs), .int .i64 tail, .int .i64 lim] w (RAddTold base v l kd zs tail lim w) := by
  obtain ⟨i0, hi, hz0, hz1, hz2⟩ := info_parts rowInfo
  obtain ⟨A, c, rfl, hc1, hc2, hR⟩ := h.rows
  have FI := Lib.hid (rfind_any kd zs w hR hz (by omega))
  have SZ := Lib.hid (fun w1 => rsize_any kd zs.length w1 hk hzl)
  have hss : (strOfNums zs).size = zs.length := strOfNums_size zs
  obtain ⟨s, hs⟩ : ∃ s, strOfNums zs = s := ⟨_, rfl⟩
  rw [hs] at FI hss ⊢
  obtain ⟨q, hq⟩ : ∃ q, zs.length = q := ⟨_, rfl⟩
  have hqt : tlen kd zs.length ≤ 200000 := by
    rcases hk with rfl | rfl
    · have : frontN ((1 : Nat) : Int) = 56 := rfl
      unfold tlen; rw [this]; omega
    · have : frontN ((2 : Nat) : Int) = 40 := rfl
      unfold tlen; rw [this]; omega
  obtain ⟨tl, htl⟩ : ∃ tl, tlen kd zs.length = tl := ⟨_, rfl⟩
  rw [htl] at SZ hqt
  rw [hq] at hss SZ
  have hsum : IntKind.i64.wrap ((tail : Int) + (tl : Int)) = (tail : Int) + (tl : Int) := wrap_i64_of (by omega) (by omega)
  have HH := Lib.hid h
  have HT := Lib.hid (show (tlen kd zs.length = tl) ∧ strOfNums zs = s from ⟨htl, hs⟩)
  have HF := Lib.hid (And.intro hz hzl)
  obtain ⟨fo, hfo⟩ : ∃ fo, findR l kd zs = fo := ⟨_, rfl⟩
  rw [hfo] at FI
  have HFO := Lib.hid hfo
  have hlen : l.length ≤ 999 := by omega
  have HK := Lib.hid hk
  have HQ := Lib.hid hq
  clear h hR hq htl hs hfo hk hz hzl
  cases fo with
  | some a =>
    have FI2 : Hid (Calls Try.prog 16 #[.slice A l.length c, .int .i64 kd, .string s] w fun e w' => e = .returned (.tuple #[.int .i64 (a : Nat), .bool true]) ∧ w = w') := FI
    clear FI
    go_enter Try.func9, Try.ntmps9
    go_wp2_with (go_at_call 16; refine FI2.out.mono ?_; rintro e w1 ⟨rfl, rfl⟩)
    refine bodyPost_ret (results_tmp4 rfl _ _ _) rfl ?_
    exact .inl ⟨a, HFO.out, rfl, rfl⟩
  | none =>
    have FI2 : Hid (Calls Try.prog 16 #[.slice A l.length c, .int .i64 kd, .string s] w fun e w' => e = .returned (.tuple #[.int .i64 0, .bool false]) ∧ w = w') := FI
    clear FI
    by_cases hfull : lim < tail + tl
    · have d1 : decide ((lim : Int) < (tail : Int) + (tl : Int)) = true := decide_eq_true (by omega)
      have HU := Lib.hid hfull
      clear hfull
      go_enter Try.func9, Try.ntmps9
      go_wp2_with (first
        | (go_at_call 16; refine FI2.out.mono ?_; rintro e w1 ⟨rfl, rfl⟩)
        | (go_at_call 24; refine (SZ.out _).mono ?_; rintro e w1 ⟨rfl, rfl⟩))
      refine bodyPost_ret (results_tmp4 rfl _ _ _) rfl ?_
      exact .inr (.inl ⟨HFO.out, by rw [HT.out.1]; exact HU.out, rfl, rfl⟩)
    · have d1 : decide ((lim : Int) < (tail : Int) + (tl : Int)) = false := decide_eq_false (by omega)
      have HU := Lib.hid (Nat.le_of_not_lt hfull)
      have s1 := sr1 hlen
      have s2 := sr2 hlen
      clear hfull
      go_enter Try.func9, Try.ntmps9
      go_wp2_with (first
        | (go_at_call 16; refine FI2.out.mono ?_; rintro e w1 ⟨rfl, rfl⟩)
        | (go_at_call 24; refine (SZ.out _).mono ?_; rintro e w1 ⟨rfl, rfl⟩)
        | (at_builtin; refine wpList_append_any _ rfl (.tmp 35) (.tmp 40) 30 rfl base 45 i0 (.agg #[.int .i64 0, .string ⟨#[]⟩, .int .i64 0]) 3 32 Try.underlying30 hi hz0 hz1 hz2 rfl (by decide) (.slice A l.length c) l.length (cellsR l) rfl (HH.out.own.alloc _) _ _ 1 1 [.int .i64 kd, .string s, .int .i64 tail] rfl (rowNew w _ _ _ _) (rowOne _ _ _) s1 s2 (by simp; omega) ?_; intro v1 w1 hown1 hg1 hat1; have H1 := Lib.hid (And.intro hown1 (And.intro hg1 hat1)); clear hown1 hg1 hat1))
      refine bodyPost_ret (results_tmp4 rfl _ _ _) rfl ?_
      obtain ⟨o1, o2, o3⟩ := H1.out
      obtain ⟨t1, t2⟩ := HT.out
      obtain ⟨hz, hzl⟩ := HF.out
      refine .inr (.inr ⟨HFO.out, by rw [t1]; exact HU.out, v1, rfl, ⟨?_, ?_, ?_⟩, grown_chg o2, ?_⟩)
      · rw [List.length_append, cellsR_append]
        show _root_.Go.World.ownsRow _ _ _ _ _ _ (cellsR l ++ [.int .i64 (kd : Nat), .string (strOfNums zs), .int .i64 (tail : Nat)])
        rw [t2]; exact o1
      · intro r hr
        rcases List.mem_append.1 hr with hr | hr
        · exact HH.out.fine r hr
        · rw [List.mem_singleton.1 hr]; exact ⟨hz, hzl, ht, HK.out⟩
      · rw [List.length_append]; simp; omega
      · rcases o3 with e | e
        · exact .inl e
        · exact .inr ⟨_, e, by simp⟩

end Go.Proofs.Ytkaepikjklpmaaa
