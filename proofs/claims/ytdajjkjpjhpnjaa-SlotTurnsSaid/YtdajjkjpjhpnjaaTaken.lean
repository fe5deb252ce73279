/-
  BYTES THAT A CALL READS: bytes held against each other, a part of a slice, the number that stands at a place, a reader as a call holds it. For whatever decodes by package le.
-/
import Derived.Test.YtdajjkjpjhpnjaaMade
set_option linter.unusedVariables false
set_option maxRecDepth 100000
set_option linter.unusedSimpArgs false
namespace Go.Proofs.Ytdajjkjpjhpnjaa
open Go.RowKit

theorem lev8_lt {l : List Int} (h : AreB l) (h8 : l.length ≤ 8) : 0 ≤ lev l ∧ lev l < 18446744073709551616 := by
  have h1 := lev_bound l h
  have h2 := pow256_le l.length h8
  omega

theorem beq_any {L L' : Nat} (A A' : Option Addr) (n n' c c' : Nat) (xs ys : List Int) (w : World) (hx : Reads w L 1 A n (cellsOf .u8 xs)) (hy : Reads w L' 1 A' n' (cellsOf .u8 ys)) (bx : AreB xs) (byy : AreB ys) :
    Calls Try.prog 31 #[.slice A n c, .slice A' n' c'] w fun e w' => e = .returned (.bool (decide (xs = ys))) ∧ w = w' := by
  have h1 := run_text (P := Try.prog) 26 5 9 Try.underlying26 Try.underlying5 Try.underlying9 hx c
  have h2 := run_text (P := Try.prog) 26 5 9 Try.underlying26 Try.underlying5 Try.underlying9 hy c'
  clear hx hy
  go_enter Try.func31, Try.ntmps31
  go_wp2
  go_ret
  exact ⟨ret_bool (strOfNums_beq bx byy), rfl⟩

theorem Reads.sub {w : World} {B n cap lo hi : Nat} {A : Option Addr} {k : IntKind} {zs : List Int} (h : Reads w B 1 A n (cellsOf k zs)) (h1 : lo ≤ hi) (h2 : hi ≤ n) (hc : n ≤ cap) :
    Reads w B 1 (if cap = lo then A else A.map (·.add lo)) (hi - lo) (cellsOf k ((zs.drop lo).take (hi - lo))) := by
  have hl := h.len
  have hcut := h.cut (k := lo) (cap := cap) (by omega) hc
  rw [Nat.mul_one, cellsOf_drop] at hcut
  refine ⟨by rw [cellsOf_length, List.length_take, List.length_drop]; omega, fun h0 => ?_⟩
  obtain ⟨ad, e, hb, hcc⟩ := hcut.2 (by omega)
  refine ⟨ad, e, hb, fun j u hu => hcc j u ?_⟩
  simp only [cellsOf, List.map_take, List.getElem?_take] at hu ⊢
  split at hu
  · exact hu
  · cases hu

theorem get8 {B : Nat} (A : Option Addr) (n c j : Nat) (v : Int) (zs : List Int) (w : World) (hr : Reads w B 1 A n (cellsOf .u8 zs)) (hz : AreB zs) (hl : n ≤ c) (hcap : c ≤ 9223372036854775807) (hv : v = j) (hj : j + 8 ≤ n) :
    Calls Try.prog 38 #[.slice A n c, .int .i64 v, .int .i64 8] w fun e w' => e = .returned (.tuple #[.int .u64 (lev ((zs.drop j).take 8)), .bool true]) ∧ w = w' := by
  subst hv
  have hlen := hr.len
  have h := get_any A n c j 8 zs w hr hz hl hcap (by omega) (by omega) (by omega) (by omega)
  have hok : gok n (j : Int) 8 = true := by rw [gok_isw]; simp [isw]; omega
  have hnum : gnum zs (j : Int) 8 = lev ((zs.drop j).take 8) := by unfold gnum; rw [hlen, hok]; rfl
  rw [hok, hnum] at h
  exact h
theorem rget8 {B : Nat} (A : Option Addr) (n c j : Nat) (v : Int) (zs : List Int) (w : World) (hr : Reads w B 1 A n (cellsOf .u8 zs)) (hz : AreB zs) (hl : n ≤ c) (hcap : c ≤ 9223372036854775807) (hv : v = j) (hj : j + 8 ≤ n) :
    Calls Try.prog 32 #[.slice A n c, .int .i64 v, .int .i64 8] w fun e w' => e = .returned (.tuple #[.int .u64 (lev ((zs.drop j).take 8)), .bool true]) ∧ w = w' := by
  subst hv
  have hlen := hr.len
  have h := rget_any A n c j 8 zs w hr hz hl hcap (by omega) (by omega) (by omega) (by omega)
  have hok : gok n (j : Int) 8 = true := by rw [gok_isw]; simp [isw]; omega
  have hnum : gnum zs (j : Int) 8 = lev ((zs.drop j).take 8) := by unfold gnum; rw [hlen, hok]; rfl
  rw [hok, hnum] at h
  exact h

/-- A call whose first result lies in a variable of several cells, beside two others. -/
theorem results_cell3 {P : Program} {fn : Func} {p u v : Tmp} {ty : TypeId} (h : fn.results = #[.cell p ty, .tmp u, .tmp v]) (tmps : Array Value) (w : World) (g : Nat) (t : TypeId) (cs : Array Value) (fr : Nat × Nat) (d : TypeDesc)
    (hp : tmps.getD p undef = .pointer (some ⟨g, 0, none⟩)) (hg : w.heap[g]? = some (.cells cs t fr))
    (hu : P.underlying ty = some d) (hd : (match d with | .struct _ | .array _ _ => true | _ => false) = true) (hi : (P.info? ty).map (·.size) = some cs.size) :
    (results fn tmps).run P w = .ok (.tuple #[.agg cs, tmps.getD u undef, tmps.getD v undef]) w := by
  have hp' : tmps[p]?.getD undef = .pointer (some ⟨g, 0, none⟩) := by simpa using hp
  simp [results, h, hp', asAddr, run_loadVar_row w g t ty cs fr d hg hu hd hi]

/-- A call whose first result lies in a variable of several cells, beside another one. -/
theorem results_cell2 {P : Program} {fn : Func} {p u : Tmp} {ty : TypeId} (h : fn.results = #[.cell p ty, .tmp u]) (tmps : Array Value) (w : World) (g : Nat) (t : TypeId) (cs : Array Value) (fr : Nat × Nat) (d : TypeDesc)
    (hp : tmps.getD p undef = .pointer (some ⟨g, 0, none⟩)) (hg : w.heap[g]? = some (.cells cs t fr))
    (hu : P.underlying ty = some d) (hd : (match d with | .struct _ | .array _ _ => true | _ => false) = true) (hi : (P.info? ty).map (·.size) = some cs.size) :
    (results fn tmps).run P w = .ok (.tuple #[.agg cs, tmps.getD u undef]) w := by
  have hp' : tmps[p]?.getD undef = .pointer (some ⟨g, 0, none⟩) := by simpa using hp
  simp [results, h, hp', asAddr, run_loadVar_row w g t ty cs fr d hg hu hd hi]

/-- The first bytes of a slice. -/
theorem Reads.pre {w : World} {B n m : Nat} {A : Option Addr} {k : IntKind} {zs : List Int} (h : Reads w B 1 A n (cellsOf k zs)) (hm : m ≤ n) : Reads w B 1 A m (cellsOf k (zs.take m)) := by
  refine ⟨by rw [cellsOf_length, List.length_take, h.len]; omega, fun h0 => ?_⟩
  obtain ⟨ad, e, hb, hc⟩ := h.2 (by omega)
  refine ⟨ad, e, hb, fun j u hu => hc j u ?_⟩
  simp only [cellsOf, List.map_take, List.getElem?_take] at hu
  split at hu
  · exact hu
  · cases hu

/-- A reader as a call holds it: of the bytes Z, at place p of them, nothing spoilt. -/
def RdAt (w0 : World) (B g : Nat) (q : Int) (Z : List Int) (p : Nat) (wx : World) : Prop :=
  ∃ A n c, Rd wx B g (q + p) A n c (Z.drop p) false ∧ n = Z.length - p ∧ Below w0.heap.size w0 wx

theorem RdAt.below {w0 wx wy : World} {B g : Nat} {q : Int} {Z : List Int} {p : Nat} (h : RdAt w0 B g q Z p wx) (hb : Below wx.heap.size wx wy) : RdAt w0 B g q Z p wy := by
  obtain ⟨A, n, c, hr, hn, hB⟩ := h
  exact ⟨A, n, c, hr.below hb, hn, hB.trans (hb.mono hB.size)⟩
theorem RdAt.bel {w0 wx : World} {B g : Nat} {q : Int} {Z : List Int} {p : Nat} (h : RdAt w0 B g q Z p wx) : Below w0.heap.size w0 wx := by
  obtain ⟨A, n, c, hr, hn, hB⟩ := h
  exact hB

/-- Read, of a slice that reads as a list, from place m on. -/
theorem read_at {B : Nat} (A : Option Addr) (n c m : Nat) (zs : List Int) (w : World) (hr : Reads w B 1 A n (cellsOf .u8 zs)) (hB : B ≤ w.heap.size) (hl : n ≤ c) (hcap : c ≤ 9223372036854775807) (hm : m ≤ n) (hn : n ≤ 140737488355328) :
    Calls Try.prog 29 #[.slice A n c, .int .i64 m] w fun e w' => ∃ g B', e = .returned (.pointer (some ⟨g, 0, none⟩)) ∧ RdAt w B' g m (zs.drop m) 0 w' ∧ w.heap.size ≤ g :=
  (read_yes A n c m zs w hr hB hl hcap hm hn).mono fun e w' ⟨g, B', A', c', he, h1, h2, h3⟩ =>
    ⟨g, B', he, ⟨A', n - m, c', by simpa using h1, by rw [List.length_drop, hr.len]; omega, h2⟩, h3⟩

/-- Num, of eight bytes that are there. -/
theorem num8 {w0 : World} {B g : Nat} {q : Int} {Z : List Int} {p : Nat} {w : World} (h : RdAt w0 B g q Z p w) (hg : w0.heap.size ≤ g) (hz : AreB Z) (hp : p + 8 ≤ Z.length) (hl : Z.length ≤ 140737488355328) (hq : 0 ≤ q ∧ q ≤ 1000000) :
    Calls Try.prog 30 #[.pointer (some ⟨g, 0, none⟩), .int .i64 8] w fun e w' => e = .returned (.int .u64 (lev ((Z.drop p).take 8))) ∧ RdAt w0 B g q Z (p + 8) w' := by
  obtain ⟨A, n, c, hr, hn, hB⟩ := h
  refine (num_yes B g n c 8 (q + p) A (Z.drop p) false w hr (hz.drop p) rfl (by omega) (by omega) (by omega)).mono fun e w' ⟨he, A', n', c', hr', hc'⟩ => ⟨he, A', n', c', ?_, ?_, ?_⟩
  · have e1 : q + p + ((8 : Nat) : Int) = q + ((p + 8 : Nat) : Int) := by omega
    rw [e1, List.drop_drop] at hr'
    exact hr'
  · have := hr'.reads.len; rw [List.length_drop, List.length_drop] at this; omega
  · exact hB.trans (hc'.below hB.size (fun j _ hj => by omega))

end Go.Proofs.Ytdajjkjpjhpnjaa
