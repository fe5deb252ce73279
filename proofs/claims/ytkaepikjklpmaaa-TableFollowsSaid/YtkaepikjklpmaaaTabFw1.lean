/-
  LAYER 13: TableFollows, walked.
-/
import Derived.Test.YtkaepikjklpmaaaTabArr
set_option linter.unusedVariables false
set_option maxRecDepth 100000
set_option linter.unusedSimpArgs false
namespace Go.Proofs.Ytkaepikjklpmaaa
open Go.RowKit Go.Shelf
attribute [local go_sem] Oper.semAt_some

/-- A file of arrays in memory. -/
structure AS (w : World) (base : Nat) (S : Nat → Prop) (p : Nat) (ws : List Int) : Prop where
  ex : ∃ m bv sv, IX w base S p 0 1 1 1 0 m bv sv ∧ AreB m.b ∧ AR m.b ws ∧ m.lim = 1048576

theorem AS.keep {w w' : World} {base p : Nat} {S T : Nat → Prop} {ws : List Int} (h : AS w base S p ws) (hc : Chg T w w') (hT : ∀ j, S j → ¬ T j) : AS w' base S p ws := by
  obtain ⟨m, bv, sv, H, r⟩ := h
  exact ⟨m, bv, sv, H.keep hc hT, r⟩
theorem AS.below {w w' : World} {base p : Nat} {S : Nat → Prop} {ws : List Int} (h : AS w base S p ws) (hb : Below w.heap.size w w') : AS w' base S p ws := h.keep (Chg.of_below hb (Nat.le_refl _) (fun _ => False)) (fun _ _ e => e)
theorem AS.foot {w : World} {base p : Nat} {S : Nat → Prop} {ws : List Int} (h : AS w base S p ws) : ∀ j, S j → base ≤ j ∧ j < w.heap.size := by
  obtain ⟨m, bv, sv, H, r⟩ := h
  exact H.foot
theorem AS.of_ts {w : World} {base p : Nat} {S : Nat → Prop} (h : TS w base S p 1 1 1 1048576 [] 272 0) : AS w base S p [] := by
  obtain ⟨⟨m, bv, sv, H, T, hb, hl, he, -, -⟩, -, -⟩ := h
  exact ⟨m, bv, sv, H, hb, AR.nil he, hl⟩

theorem aput_as {X : World} {base p g1 g2 : Nat} {S : Nat → Prop} {ws : List Int} {z : Int} (h : AS X base S p ws) (hn : ws.length ≤ 100) (hz : IsU z) (h1 : Blk X g1 22 #[.int .u64 z]) (h2 : Blk X g2 22 #[.int .u64 1]) :
    Calls Try.prog 18 #[.pointer (some ⟨p, 0, none⟩), obV 4 (some ⟨g1, 0, none⟩) 1 1 none 0 0 (some ⟨g2, 0, none⟩) 1 1] X fun e w' => ∃ v1 v2, e = .returned (.tuple #[v1, v2]) ∧ Chg S X w' ∧ AS w' base (grow S X w') p (ws ++ [z]) := by
  obtain ⟨m, bv, sv, H, hb, hA, hl⟩ := h
  have hO : ObR X X.heap.size (some ⟨g1, 0, none⟩) 1 1 [z] none 0 0 [] (some ⟨g2, 0, none⟩) 1 1 [1] := ⟨Blk.words h1 rfl rfl, Reads.none_, Blk.words h2 rfl rfl, ⟨by omega, by omega⟩, ⟨by omega, by omega⟩, ⟨by omega, by omega⟩⟩
  have hlen := hA.len
  refine (iput_yes 4 _ _ _ _ _ _ _ _ _ _ _ _ X hO (Nat.le_refl _) (by decide) H (by omega) (by omega) (by rw [enc_one_length]; omega)).mono ?_
  rintro e w' ⟨rfl, hc, bv', sv', H'⟩
  exact ⟨_, _, rfl, hc, _, bv', sv', H', hb.append (encO_bytes AreB.nil), hA.add hz, hl⟩

/-- A loop's own way out, alone. -/
def OnBreak (i : Nat) (R : Act → World → Prop) : Exit → Act → World → Prop
  | .exit k, a, w => k = i ∧ R a w
  | .normal, _, _ => False
  | .ret, _, _ => False
  | .goto _, _, _ => False
  | .panic _, _, _ => False
  | .outgrown, _, _ => False

theorem two_blocks0 (W : World) (Za Zb : Array Value) (ta tb : TypeId) : Below W.heap.size W ((W.alloc (.cells Za ta)).alloc (.cells Zb tb)) ∧ Blk ((W.alloc (.cells Za ta)).alloc (.cells Zb tb)) W.heap.size ta Za ∧ Blk ((W.alloc (.cells Za ta)).alloc (.cells Zb tb)) (W.heap.size + 1) tb Zb := by
  have h := Blk.new (W.alloc (.cells Za ta)) tb Zb
  rw [World.size_alloc] at h
  exact ⟨((Below.refl _ W).alloc (Nat.le_refl _) _).alloc (by simp) _, (Blk.new W ta Za).alloc _, h⟩

/-- At the head of each round: the first j words have been put. -/
structure FwL (w0 wr : World) (gm p : Nat) (zs : List Int) (j : Nat) : Prop where
  ex : ∃ S, AS wr w0.heap.size S p (zs.take j) ∧ ¬ S gm
  gm_ : Blk wr gm 28 #[.pointer (some ⟨p, 0, none⟩)]
  lo : w0.heap.size ≤ gm
  below : Below w0.heap.size w0 wr

/-- An iterator's four boxes, for a word of any number. -/
structure FlI (w : World) (g p : Nat) (pl wd : Int) : Prop where
  lo : g + 4 ≤ w.heap.size
  cm : w.cell? ⟨g, 0, none⟩ = some (.pointer (some ⟨p, 0, none⟩))
  cp : w.cell? ⟨g + 1, 0, none⟩ = some (.int .u64 pl)
  ck : w.cell? ⟨g + 2, 0, none⟩ = some (.int .i64 4)
  cw : w.cell? ⟨g + 3, 0, none⟩ = some (.int .i64 wd)
theorem tfollowI_any (p : Nat) (pl wd : Int) (w : World) :
    Calls Try.prog 19 #[.pointer (some ⟨p, 0, none⟩), .int .u64 pl, .int .i64 4, .int .i64 wd] w fun e w' => e = .returned (flV w.heap.size) ∧ Below w.heap.size w w' ∧ FlI w' w.heap.size p pl wd := by
  go_enter Try.func19, Try.ntmps19
  go_wp2
  go_ret
  have c0 := (Blk.new w 28 #[.pointer (some ⟨p, 0, none⟩)]).cell 0
  have c1 := (Blk.new (w.alloc (.cells #[.pointer (some ⟨p, 0, none⟩)] 28)) 22 #[.int .u64 pl]).cell 0
  have c2 := (Blk.new ((w.alloc (.cells #[.pointer (some ⟨p, 0, none⟩)] 28)).alloc (.cells #[.int .u64 pl] 22)) 3 #[.int .i64 4]).cell 0
  have c3 := (Blk.new (((w.alloc (.cells #[.pointer (some ⟨p, 0, none⟩)] 28)).alloc (.cells #[.int .u64 pl] 22)).alloc (.cells #[.int .i64 4] 3)) 3 #[.int .i64 wd]).cell 0
  have b1 := boxed w (.cells #[.pointer (some ⟨p, 0, none⟩)] 28)
  have b2 := b1.alloc b1.size (.cells #[.int .u64 pl] 22)
  have b3 := b2.alloc b2.size (.cells #[.int .i64 4] 3)
  have b4 := b3.alloc b3.size (.cells #[.int .i64 wd] 3)
  simp only [World.size_alloc] at c1 c2 c3
  exact ⟨rfl, b4, ⟨by simp, cell_kept1 (cell_kept1 (cell_kept1 c0)), cell_kept1 (cell_kept1 c1), cell_kept1 c2, c3⟩⟩

/-- A word that a kind has not: nothing is told. -/
theorem follow_none (n : Nat) (hn : 1 ≤ n) (n₀ : Nat) (T : Nat → Prop) (bw bk bp bm : Nat) (wd : Int) (w : World) (hwd : ¬ wd = 0) (hb2 : bw < w.heap.size ∧ bk < w.heap.size)
    (hcw : w.cell? ⟨bw, 0, none⟩ = some (.int .i64 wd)) (hck : w.cell? ⟨bk, 0, none⟩ = some (.int .i64 4)) :
    SeqTells Fence.wide n Try.prog 38 #[.pointer (some ⟨bw, 0, none⟩), .pointer (some ⟨bk, 0, none⟩), .pointer (some ⟨bp, 0, none⟩), .pointer (some ⟨bm, 0, none⟩)] (Ob.encs 4) (TellsOb []) (KeepC n₀ T)
      (fun xs => xs.map (·.t) = []) (fun pre => ∃ rest, pre.map (·.t) ++ rest = ([] : List It)) ([] : List It).length w := by
  intro l J Jx W hb hJ hJx hY h0
  refine callsIn_of_wp Try.func38 rfl trivial ?_ rfl
  simp only [Try.ntmps38, List.size_toArray, List.length_cons, List.length_nil, Nat.reduceAdd, Nat.reduceSub, Array.replicate_succ, Array.replicate_zero, List.push_toArray, List.append_toArray, List.nil_append, List.cons_append]
  have c1 := (hb.cell (p := ⟨bw, 0, none⟩) hb2.1).trans hcw
  have c2 := (hb.cell (p := ⟨bk, 0, none⟩) hb2.2).trans hck
  have hk4 : kwN 4 = 1 := rfl
  by_cases hneg : wd < 0
  · have hw3 : decide (wd < 0) = true := decide_eq_true hneg
    gi_wp2
    refine wpIn_wide.2 ?_
    go_quiet (fail)
    gi_wp2
    refine bodyPost_ret (results_none rfl _ _ _) rfl ?_
    exact ⟨⟨_, rfl⟩, .inl ⟨[], rfl, abides_below hJ h0 (below_drewn (Below.refl _ _) _)⟩⟩
  · have hw3 : decide (wd < 0) = false := decide_eq_false hneg
    have hw4 : decide (kwN 4 ≤ wd) = true := decide_eq_true (by rw [hk4]; omega)
    gi_wp2
    refine wpIn_wide.2 ?_
    go_quiet ((refine (owords_any 4 _).mono ?_; rintro e w1 ⟨rfl, rfl⟩; exact ⟨rfl, _, rfl⟩))
    gi_wp2
    try simp only [hw4]
    gi_wp2
    refine bodyPost_ret (results_none rfl _ _ _) rfl ?_
    exact ⟨⟨_, rfl⟩, .inl ⟨[], rfl, abides_below hJ h0 (below_drewn (Below.refl _ _) _)⟩⟩

/-- The last place that was told, so far. -/
def lastJ (l : List It) : Nat := match l.getLast? with
  | none => 0
  | some t => t.j
theorem lastJ_snoc (l : List It) (t : It) : lastJ (l ++ [t]) = t.j := by simp [lastJ]
theorem chain_mid {m : IM} {D F : Int} {kd wd : Nat} : ∀ {pre rest : List It} {t : It} {last pl : Int} {q : Nat}, last = q → chainAt m D F kd wd last pl (pre ++ t :: rest) →
    m.obAt D F kd t ∧ (match pre.getLast? with | none => q | some u => u.j) < t.j ∧ (pre = [] → pl = t.j)
  | [], rest, t, last, pl, q, hq, ⟨h1, h2, h3, h4⟩ => ⟨h3, by show q < t.j; omega, fun _ => h2⟩
  | u :: pre, rest, t, last, pl, q, hq, ⟨h1, h2, h3, h4⟩ => by
    obtain ⟨g1, g2, g3⟩ := chain_mid (q := u.j) rfl h4
    refine ⟨g1, ?_, fun e => by cases e⟩
    rw [List.getLast?_cons]
    cases h : pre.getLast? with
    | none => rw [h] at g2; simpa using g2
    | some v => rw [h] at g2; simpa using g2
theorem chain_step {m : IM} {D F : Int} {kd wd : Nat} {pre rest : List It} {t : It} {pl : Int} (h : chainAt m D F kd wd 0 pl (pre ++ t :: rest)) : m.obAt D F kd t ∧ lastJ pre < t.j ∧ (pre = [] → pl = t.j) := chain_mid (q := 0) rfl h
/-- Behind the last one there is none. -/
theorem chain_last {m : IM} {D F : Int} {kd wd : Nat} : ∀ {pre : List It} {t : It} {last pl : Int}, chainAt m D F kd wd last pl (pre ++ [t]) → m.obAt D F kd t ∧ (¬ (t.j : Int) < t.ws.getD wd 0 ∨ m.noAt D F kd (t.ws.getD wd 0))
  | [], t, last, pl, ⟨h1, h2, h3, h4⟩ => ⟨h3, h4⟩
  | u :: pre, t, last, pl, ⟨h1, h2, h3, h4⟩ => chain_last h4
theorem obAt_ws {m : IM} {D F : Int} {t : It} (hb : AreB m.b) (h : m.obAt D F 4 t) : t.ws.length = 1 ∧ IsU (t.ws.getD 0 0) := by
  obtain ⟨s, hth, e1, e2, e3⟩ := h
  have hl : t.ws.length = 1 := by rw [← e1]; exact dW_length _ _
  refine ⟨hl, ?_⟩
  have := dW_bd (objB_bytes hb t.j s) ((4 : Nat) : Int)
  rw [e1] at this
  exact this _ (by rw [List.getD_eq_getElem?_getD, List.getElem?_eq_getElem (by omega)]; exact List.getElem_mem _)
theorem at4_yes {base p : Nat} {S : Nat → Prop} {m : IM} {bv sv : Value} {t : It} (w : World) (H : IX w base S p 0 1 1 1 0 m bv sv) (hbm : AreB m.b) (hl : m.b.length ≤ 1099511627776) (h : m.obAt 1 1 4 t) :
    Calls Try.prog 20 #[.pointer (some ⟨p, 0, none⟩), .int .u64 t.j, .int .i64 4] w fun e w' => ∃ A n c B q d C r f, e = .returned (.tuple #[obV 4 A n c B q d C r f, .bool true]) ∧ Below w.heap.size w w' ∧ ObR w' w'.heap.size A n c t.ws B q d t.rs C r f t.is ∧ (∀ g off, A = some ⟨g, off, none⟩ → ∃ cs, Blk w' g 22 cs) := by
  obtain ⟨s, hth, e1, e2, e3⟩ := h
  rw [← e1, ← e2, ← e3]
  refine (iat_yes t.j 4 s w H hbm hl (by omega) (by omega) hth).mono ?_
  rintro e w' ⟨A, n, c, B, q, d, C, r, f, rfl, hb, ho⟩
  refine ⟨A, n, c, B, q, d, C, r, f, rfl, hb, ho.reads, fun g off e => ?_⟩
  subst e
  exact own_isblk ho.wo rfl

/-- What stands there is there. -/
theorem no_ob {m : IM} {t : It} {pl : Int} (hn : m.noAt 1 1 4 pl) (h : m.obAt 1 1 4 t) (e : pl = t.j) : False := by
  obtain ⟨s, ⟨h0, hd, hb⟩, -⟩ := h
  rcases hn with (hn | hn) | ⟨j, kk, s', e2, ⟨-, hd', -⟩, hk⟩
  · omega
  · rw [hn t.j 4 s e hd] at hb; cases hb
  · have hj : j = t.j := by omega
    subst hj
    have h1 := hd.kd
    have h2 := hd'.kd
    rw [h1] at h2
    exact hk h2.symm
theorem obAt_pos {m : IM} {t : It} (h : m.obAt 1 1 4 t) : 272 ≤ t.j ∧ t.j + 16 ≤ m.b.length := by
  obtain ⟨s, ⟨h0, hd, hb⟩, -⟩ := h
  exact ⟨by omega, hd.room⟩
/-- A result that lies in a variable of one cell. -/
theorem results_c {P : Program} {fn : Func} {p : Tmp} {tp : TypeId} (h : fn.results = #[.cell p tp]) (tmps : Array Value) (w : World) (g1 : Nat) (v1 : Value)
    (hp : tmps.getD p undef = .pointer (some ⟨g1, 0, none⟩)) (h1 : (loadVar tp ⟨g1, 0, none⟩).run P w = .ok v1 w) :
    (results fn tmps).run P w = .ok v1 w := by
  have hp' : tmps[p]?.getD undef = .pointer (some ⟨g1, 0, none⟩) := by simpa using hp
  simp [results, h, hp', asAddr, h1]
theorem own_false {β : Type} {B : Nat} : OwnFrom B (fun (_ : β) (_ : World) => False) := fun s W W' row hs _ _ => hs
theorem sameO_self (k : Int) (ws rs is : List Int) : sameO k k ws ws rs rs is is = true := by simp [sameO]

theorem obAt_len {m : IM} {t : It} (hb : AreB m.b) (h : m.obAt 1 1 4 t) : t.is.length ≤ m.b.length ∧ AreB t.rs := by
  obtain ⟨s, ⟨h0, hd, -⟩, e1, e2, e3⟩ := h
  refine ⟨?_, by rw [← e2]; exact dR_bytes (objB_bytes hb _ _)⟩
  rw [← e3, dI_length]
  have : (objB m.b t.j s).length ≤ m.b.length := by unfold objB; rw [List.length_take, List.length_drop]; omega
  split <;> omega

/-- What At tells of arrays, at any place: whether there is one. -/
theorem at4_all {base p : Nat} {S : Nat → Prop} {m : IM} {bv sv : Value} (pl : Int) (hbm : AreB m.b) (hl : m.b.length ≤ 1099511627776) (hp : 0 ≤ pl) :
    ∃ mo : Bool, ((mo = false ∧ m.noAt 1 1 4 pl) ∨ (mo = true ∧ ∃ t, m.obAt 1 1 4 t ∧ pl = t.j)) ∧ ∀ w, IX w base S p 0 1 1 1 0 m bv sv →
      Calls Try.prog 20 #[.pointer (some ⟨p, 0, none⟩), .int .u64 pl, .int .i64 4] w fun e w' => ∃ k A n c B q d C r f, e = .returned (.tuple #[obV k A n c B q d C r f, .bool mo]) ∧ Below w.heap.size w w' := by
  rcases m.there_or 1 1 pl (by omega) (by omega) with hno | ⟨j, k, s, rfl, hth⟩
  · refine ⟨false, .inl ⟨rfl, .inl hno⟩, fun w H => (iat_bare pl 4 w H hbm hl (by omega) (by omega) hp hno).mono ?_⟩
    rintro e w' ⟨rfl, hb⟩
    exact ⟨0, none, 0, 0, none, 0, 0, none, 0, 0, rfl, hb⟩
  · by_cases hk : (k : Int) = 4
    · have hk' : k = 4 := by omega
      subst hk'
      refine ⟨true, .inr ⟨rfl, ⟨j, dW (objB m.b j s) ((4 : Nat) : Int), dR (objB m.b j s) ((4 : Nat) : Int), dI (objB m.b j s) ((4 : Nat) : Int)⟩, ⟨s, hth, rfl, rfl, rfl⟩, rfl⟩, fun w H => (iat_yes j 4 s w H hbm hl (by omega) (by omega) hth).mono ?_⟩
      rintro e w' ⟨A, n, c, B, q, d, C, r, f, rfl, hb, ho⟩
      exact ⟨4, A, n, c, B, q, d, C, r, f, rfl, hb⟩
    · refine ⟨false, .inl ⟨rfl, .inr ⟨j, k, s, rfl, hth, hk⟩⟩, fun w H => (iat_other j k s 4 w H hbm hl (by omega) (by omega) hth hk).mono ?_⟩
      rintro e w' ⟨rfl, hb⟩
      exact ⟨0, none, 0, 0, none, 0, 0, none, 0, 0, rfl, hb⟩

end Go.Proofs.Ytkaepikjklpmaaa
