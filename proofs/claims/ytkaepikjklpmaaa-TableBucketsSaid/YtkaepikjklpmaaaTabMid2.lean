/-
  LAYER 13: texts turned into bytes, as the statements' regions meet them.
-/
import Derived.Test.YtkaepikjklpmaaaTabMid
set_option linter.unusedVariables false
set_option maxRecDepth 100000
set_option linter.unusedSimpArgs false
namespace Go.Proofs.Ytkaepikjklpmaaa
open Go.RowKit

section
variable {P : Program} {md : Region.Mode} {ops : Array Oper} {Q : Exit → Act → World → Prop} {S : World → Prop}
/-- Two that may come up. -/
theorem twoH {i j : Nat} {o u : Oper} {fuel : Nat} {listed : Array Bool} {a : Act} {w : World} (hi : ops.toList[i]? = some o) (hj : ops.toList[j]? = some u) (hr : Region.ready md ops listed = [i, j])
    (h : ∀ K' : Act → World → Prop, Shut (∀ a w, S w → (S w → wpAnyH P md ops Q S fuel (listed.setIfInBounds i true) a w) → K' a w) → if Region.wanted o (yielded ops a.tmps) = true then Oper.wp P o a w K' Q else K' (a.put o.dst undef) w)
    (h2 : ∀ K' : Act → World → Prop, Shut (∀ a w, S w → (S w → wpAnyH P md ops Q S fuel (listed.setIfInBounds j true) a w) → K' a w) → if Region.wanted u (yielded ops a.tmps) = true then Oper.wp P u a w K' Q else K' (a.put u.dst undef) w) :
    wpAnyH P md ops Q S (fuel + 1) listed a w :=
  wpAnyH_ready hr (by simp) (AllReadyH.cons (by simpa using hi) h (AllReadyH.cons (by simpa using hj) h2 AllReadyH.nil))
end

/-- A frame, told but for some of its slots. -/
theorem ex_frame {F : (Nat → Value) → Act} {a : Act} (h : a = F (fun n => a.tmps.getD n undef)) : ∃ X, a = F X := ⟨_, h⟩

theorem Mid.nil_ {w0 w : World} {S : Nat → Prop} {p : Nat} {k d f : Int} {lim tl : Nat} (h : TS w w0.heap.size S p k d f lim [] tl 0) (hb : Below w0.heap.size w0 w) : Mid w0 w S p k d f lim [] tl 0 (.slice none 0 0) [] :=
  ⟨h, OwnR.nil_ _ _, fun g hg => by simp [Value.ownBlock] at hg, hb, List.Pairwise.nil, by simp⟩
theorem OwnR.rowsR {w : World} {base n c : Nat} {A : Option Addr} {l : List TRow} (h : OwnR w base (.slice A n c) l) : RowsR w w.heap.size A n c l ∧ n = l.length := by
  obtain ⟨A', c', e, h1, h2, h3⟩ := h.rows
  injection e with e1 e2 e3
  subst e1; subst e2; subst e3
  exact ⟨h3, rfl⟩

/-- The bytes of a text lie there. -/
structure RD (w : World) (g c : Nat) (s : ByteArray) : Prop where
  reads : Reads w w.heap.size 1 (some ⟨g, 0, none⟩) s.size (cellsOf .u8 (nums s))
  le : s.size ≤ c
  cap : c ≤ 9223372036854775807
theorem RD.new (w : World) {s : ByteArray} (h : s.size ≤ maxLen) : RD (textW w s) w.heap.size (capS w s) s := ⟨textW_reads w s, (capS_le h).1, (capS_le h).2⟩
theorem RD.of {B w : World} {s : ByteArray} (hb : Below B.heap.size B w) (h : s.size ≤ maxLen) : RD (textW w s) w.heap.size (capS w s) s := RD.new w h
theorem RD.below {w w' : World} {g c : Nat} {s : ByteArray} (h : RD w g c s) (hb : Below w.heap.size w w') : RD w' g c s := ⟨(h.reads.below hb).upto hb.size, h.le, h.cap⟩
theorem textW_bel {B w : World} (s : ByteArray) (h : Below B.heap.size B w) : Below B.heap.size B (textW w s) := h.trans ((textW_below w s).mono h.size)

section
variable {w0 w w' : World} {S : Nat → Prop} {p : Nat} {k d f : Int} {lim : Nat} {l : List TRow} {tl cnt : Nat} {v : Value} {l' : List TRow}
theorem Mid.find (h : Mid w0 w S p k d f lim l tl cnt v l') (kd : Nat) (hkd : kd = 1 ∨ kd = 2) {g c : Nat} {s : ByteArray} (hr : RD w g c s) (hs : s.size ≤ 140737488355328) :
    Calls Try.prog 15 #[.pointer (some ⟨p, 0, none⟩), .int .i64 kd, .slice (some ⟨g, 0, none⟩) s.size c] w fun e w' => e = .returned (.tuple #[.int .i64 ((findR l kd (nums s)).getD 0 : Nat), .bool (findR l kd (nums s)).isSome]) ∧ Below w.heap.size w w' :=
  tfind_ts h.ts kd hkd _ _ _ _ hr.reads (Nat.le_refl _) (nums_bytes s) hr.le hr.cap hs
theorem Mid.sum (h : Mid w0 w S p k d f lim l tl cnt v l') {g c : Nat} {s : ByteArray} (hr : RD w g c s) (hs : s.size ≤ 140737488355328) :
    Calls Try.prog 13 #[.pointer (some ⟨p, 0, none⟩), .slice (some ⟨g, 0, none⟩) s.size c] w fun e w' => e = .returned (.int .u64 (hsh k (nums s))) ∧ Below w.heap.size w w' :=
  tsum_ts h.ts _ _ _ _ hr.reads (Nat.le_refl _) (nums_bytes s) hr.le hr.cap hs
end
theorem rhash_rd {w : World} {k : Int} (hk : IsU k) {g c : Nat} {s : ByteArray} (hr : RD w g c s) (hs : s.size ≤ 140737488355328) :
    Calls Try.prog 14 #[.int .u64 k, .slice (some ⟨g, 0, none⟩) s.size c] w fun e w' => e = .returned (.int .u64 (hsh k (nums s))) ∧ w = w' :=
  rhash_any _ _ _ _ _ _ hr.reads (nums_bytes s) hr.le hr.cap (by omega) hk

end Go.Proofs.Ytkaepikjklpmaaa
