import Derived.Test.YtaeegcohimflbaaGreatLLe
set_option linter.unusedVariables false
set_option maxRecDepth 100000
namespace Go.Proofs.YtaeegcohimflbaaGreat
def kwN (k : Int) : Nat := if k = 1 then 5 else if k = 2 then 3 else if k = 3 then 5 else if k = 4 then 1 else 0
def mostN (k : Int) : Nat := if k = 1 then 1024 else if k = 2 then 64 else if k = 3 then 64 else if k = 4 then 1024 else 0
def hasI (k : Int) : Bool := k == 3 || k == 4
def frontN (k : Int) : Nat := 16 + 8 * kwN k
theorem kind_cases (k : Int) : k = 1 ∨ k = 2 ∨ k = 3 ∨ k = 4 ∨ (k ≠ 1 /\ k ≠ 2 /\ k ≠ 3 /\ k ≠ 4) := by omega
theorem kwN_no {k : Int} (h : k ≠ 1 /\ k ≠ 2 /\ k ≠ 3 /\ k ≠ 4) : kwN k = 0 := by simp [kwN, h]
theorem mostN_no {k : Int} (h : k ≠ 1 /\ k ≠ 2 /\ k ≠ 3 /\ k ≠ 4) : mostN k = 0 := by simp [mostN, h]
theorem hasI_no {k : Int} (h : k ≠ 1 /\ k ≠ 2 /\ k ≠ 3 /\ k ≠ 4) : hasI k = false := by
 obtain ⟨_, _, h3, h4⟩ := h
 simp [hasI, h3, h4]
theorem kwN_le (k : Int) : kwN k <= 5 := by unfold kwN; split <;> (try split) <;> (try split) <;> (try split) <;> omega
theorem mostN_le (k : Int) : mostN k <= 1024 := by unfold mostN; split <;> (try split) <;> (try split) <;> (try split) <;> omega
theorem frontN_le (k : Int) : frontN k <= 56 := by have := kwN_le k; unfold frontN; omega
def rightN (k : Int) (a b c : Nat) : Bool :=
 if hasI k then decide (a = kwN k) && decide (b = 0) && decide (1 <= c) && decide (c <= mostN k) else decide (a = kwN k) && decide (c = 0) && decide (1 <= b) && decide (b <= mostN k)
theorem rightN_len {k : Int} {a b c : Nat} (h : rightN k a b c = true) : a = kwN k /\ b <= 1024 /\ c <= 1024 /\ a <= 5 := by
 have h1 := mostN_le k
 have h2 := kwN_le k
 unfold rightN at h
 split at h <;> simp at h <;> omega
theorem rightN_kind {k : Int} {a b c : Nat} (h : rightN k a b c = true) : 1 <= k /\ k <= 4 := by
 rcases kind_cases k with rfl | rfl | rfl | rfl | hk
 · omega
 · omega
 · omega
 · omega
 · have := mostN_no hk
   unfold rightN at h
   rw [hasI_no hk, this] at h
   simp at h
   omega
def bareN (k : Int) (b c : Nat) : Nat := frontN k + 8 * c + b
end Go.Proofs.YtaeegcohimflbaaGreat
set_option linter.unusedSimpArgs false
namespace Go.Proofs.YtaeegcohimflbaaGreat
open Go.RowKit
theorem quietN_eq {P : Program} {f : FuncId} {args : Array Value} {w : World} {n : Nat} {v : Value}
 (h : Calls P f args (w.drewN n) fun e w' => e = .returned v /\ w.drewN n = w') : Calls P f args (w.drewN n) fun e w'' => e = .returned v /\ ∃ m, w'' = w.drewN m :=
 h.mono fun _ _ ⟨he, hm⟩ => ⟨he, n, hm.symm⟩
theorem quietN_eq2 {P : Program} {f : FuncId} {args : Array Value} {w : World} {n k : Nat} {v : Value}
 (h : Calls P f args (w.drewN (n + k)) fun e w' => e = .returned v /\ w.drewN (n + k) = w') : Calls P f args (w.drewN (n + k)) fun e w'' => e = .returned v /\ ∃ m, w'' = w.drewN (n + m) :=
 h.mono fun _ _ ⟨he, hm⟩ => ⟨he, k, hm.symm⟩
theorem owords_any (k : Int) (w : World) : Calls Tryz.prog 86 #[.int .i64 k] w fun e w' => e = .returned (.int .i64 (kwN k)) /\ w = w' := by
 rcases kind_cases k with rfl | rfl | rfl | rfl | ⟨h1, h2, h3, h4⟩
 rotate_left 4
 · rw [kwN_no ⟨h1, h2, h3, h4⟩]
   go_enter Tryz.func86, Tryz.ntmps86
   go_wp2
   go_ret
   exact ⟨rfl, rfl⟩
 all_goals
   go_enter Tryz.func86, Tryz.ntmps86
   go_wp2
   go_ret
   exact ⟨rfl, rfl⟩
theorem omost_any (k : Int) (w : World) : Calls Tryz.prog 152 #[.int .i64 k] w fun e w' => e = .returned (.int .i64 (mostN k)) /\ w = w' := by
 rcases kind_cases k with rfl | rfl | rfl | rfl | ⟨h1, h2, h3, h4⟩
 rotate_left 4
 · rw [mostN_no ⟨h1, h2, h3, h4⟩]
   go_enter Tryz.func152, Tryz.ntmps152
   go_wp2
   go_ret
   exact ⟨rfl, rfl⟩
 all_goals
   go_enter Tryz.func152, Tryz.ntmps152
   go_wp2
   go_ret
   exact ⟨rfl, rfl⟩
theorem ohas_any (k : Int) (w : World) : Calls Tryz.prog 139 #[.int .i64 k] w fun e w' => e = .returned (.bool (hasI k)) /\ w = w' := by
 rcases kind_cases k with rfl | rfl | rfl | rfl | ⟨h1, h2, h3, h4⟩
 rotate_left 4
 · rw [hasI_no ⟨h1, h2, h3, h4⟩]
   have e3 : (k == 3) = false := by simpa using h3
   have e4 : (k == 4) = false := by simpa using h4
   clear h1 h2 h3 h4
   go_enter Tryz.func139, Tryz.ntmps139
   go_wp2
   go_ret
   exact ⟨rfl, rfl⟩
 all_goals
   go_enter Tryz.func139, Tryz.ntmps139
   go_wp2
   go_ret
   exact ⟨rfl, rfl⟩
theorem oat_any (i : Int) (w : World) (h0 : 0 <= i) (h : i <= 1099511627776) : Calls Tryz.prog 103 #[.int .i64 i] w fun e w' => e = .returned (.int .i64 (16 + 8 * i)) /\ w = w' := by
 go_enter Tryz.func103, Tryz.ntmps103
 go_wp2
 go_ret
 exact ⟨ret_int (by omega), rfl⟩
theorem ofront_any (k : Int) (w : World) : Calls Tryz.prog 138 #[.int .i64 k] w fun e w' => e = .returned (.int .i64 (frontN k)) /\ w = w' := by
 have hk := kwN_le k
 go_enter Tryz.func138, Tryz.ntmps138
 go_wp2_with (first
   | (go_at_call 86; refine (owords_any k _).mono ?_; rintro e w1 ⟨rfl, rfl⟩)
   | (go_at_call 103; refine (oat_any _ _ (by omega) (by omega)).mono ?_; rintro e w1 ⟨rfl, rfl⟩))
 go_ret
 exact ⟨ret_int (by unfold frontN; omega), rfl⟩
theorem oitem_any (k i : Int) (w : World) (h0 : 0 <= i) (h : i <= 1099511627776) : Calls Tryz.prog 104 #[.int .i64 k, .int .i64 i] w fun e w' => e = .returned (.int .i64 (frontN k + 8 * i)) /\ w = w' := by
 have hk := frontN_le k
 go_enter Tryz.func104, Tryz.ntmps104
 go_wp2_with (go_at_call 138; refine (ofront_any k _).mono ?_; rintro e w1 ⟨rfl, rfl⟩)
 go_ret
 exact ⟨ret_int (by omega), rfl⟩
theorem rwordsk_any (k : Int) (w : World) : Calls Tryz.prog 105 #[.int .i64 k] w fun e w' => e = .returned (.int .i64 (kwN k)) /\ w = w' := by
 rcases kind_cases k with rfl | rfl | rfl | rfl | ⟨h1, h2, h3, h4⟩
 rotate_left 4
 · rw [kwN_no ⟨h1, h2, h3, h4⟩]
   have e1 : (k == 1) = false := by simpa using h1
   have e2 : (k == 2) = false := by simpa using h2
   have e3 : (k == 3) = false := by simpa using h3
   have e4 : (k == 4) = false := by simpa using h4
   clear h1 h2 h3 h4
   go_enter Tryz.func105, Tryz.ntmps105
   go_wp2
   go_ret
   exact ⟨rfl, rfl⟩
 all_goals
   go_enter Tryz.func105, Tryz.ntmps105
   go_wp2
   go_ret
   exact ⟨rfl, rfl⟩
abbrev obV (k : Int) (A : Option Addr) (n c : Nat) (B : Option Addr) (m d : Nat) (C : Option Addr) (p q : Nat) : Value := .agg #[.int .i64 k, .slice A n c, .slice B m d, .slice C p q]
theorem rightN_eq (k : Int) (a b c x y : Nat) (h : Hid ((hasI k = true /\ x = c /\ y = b) ∨ (hasI k = false /\ x = b /\ y = c))) (t : Bool) (ht : t = (decide (a = kwN k) && decide (y = 0) && decide (1 <= x) && decide (x <= mostN k))) : t = rightN k a b c := by
 subst ht
 unfold rightN
 rcases h.out with ⟨h1, rfl, rfl⟩ | ⟨h1, rfl, rfl⟩ <;> rw [h1] <;> rfl
set_option maxHeartbeats 2000000 in
theorem oright_any (k : Int) (A : Option Addr) (n c : Nat) (B : Option Addr) (m d : Nat) (C : Option Addr) (p q : Nat) (w : World) (hn : n <= 9223372036854775807) (hm : m <= 9223372036854775807) (hp : p <= 9223372036854775807) :
 Calls Tryz.prog 121 #[obV k A n c B m d C p q] w fun e w' => e = .returned (.bool (rightN k n m p)) /\ Below w.heap.size w w' := by
 have K0 := kwN_le k
 have M0 := mostN_le k
 have HW := Lib.hid (owords_any k)
 have HM := Lib.hid (omost_any k)
 have HH := Lib.hid (ohas_any k)
 have HR := Lib.hid (rightN_eq k n m p)
 generalize kwN k = K at *
 generalize mostN k = M at *
 generalize hasI k = b at *
 cases b
 · rcases (show n ≠ K ∨ (n = K /\ p ≠ 0) ∨ (n = K /\ p = 0 /\ m = 0) ∨ (n = K /\ p = 0 /\ 1 <= m /\ M < m) ∨ (n = K /\ p = 0 /\ 1 <= m /\ m <= M) by omega) with h1 | ⟨rfl, h1⟩ | ⟨rfl, rfl, rfl⟩ | ⟨rfl, rfl, h2, h1⟩ | ⟨rfl, rfl, h2, h1⟩
   · have HF : Hid (n ≠ K) := h1
     have t1 : ((n : Int) == (K : Int)) = false := by simp; omega
     have t2 : decide ((n : Int) = (K : Int)) = false := by simp; omega
     have HR2 := Lib.hid (HR.out _ _ (.inr ⟨rfl, rfl, rfl⟩))
     clear HR
     clear h1
     go_enter Tryz.func121, Tryz.ntmps121
     go_wp2
     go_quiet (fail)
     go_wp2_with (go_at_call 139; refine (HH.out _).mono ?_; rintro e w1 ⟨rfl, rfl⟩)
     go_quiet ((first
       | (go_at_call 86; exact quietN_eq2 (HW.out _))
       | (go_at_call 152; exact quietN_eq2 (HM.out _))))
     go_wp2
     go_ret
     exact ⟨ret_bool (HR2.out _ (by have h := HF.out; simp; try omega)), below_drewn (below_drewn ((Below.refl _ _).alloc (Nat.le_refl _) _) _) _⟩
   · have HF : Hid (p ≠ 0) := h1
     have t1 : ((p : Int) == 0) = false := by simp; omega
     have t2 : decide ((p : Int) = 0) = false := by simp; omega
     have HR2 := Lib.hid (HR.out _ _ (.inr ⟨rfl, rfl, rfl⟩))
     clear HR
     clear h1
     go_enter Tryz.func121, Tryz.ntmps121
     go_wp2
     go_quiet (fail)
     go_wp2_with (go_at_call 139; refine (HH.out _).mono ?_; rintro e w1 ⟨rfl, rfl⟩)
     go_quiet ((first
       | (go_at_call 86; exact quietN_eq2 (HW.out _))
       | (go_at_call 152; exact quietN_eq2 (HM.out _))))
     go_wp2
     go_ret
     exact ⟨ret_bool (HR2.out _ (by have h := HF.out; simp; try omega)), below_drewn (below_drewn ((Below.refl _ _).alloc (Nat.le_refl _) _) _) _⟩
   · have HF : Hid True := trivial
     have HR2 := Lib.hid (HR.out _ _ (.inr ⟨rfl, rfl, rfl⟩))
     clear HR
     skip
     go_enter Tryz.func121, Tryz.ntmps121
     go_wp2
     go_quiet (fail)
     go_wp2_with (go_at_call 139; refine (HH.out _).mono ?_; rintro e w1 ⟨rfl, rfl⟩)
     go_quiet ((first
       | (go_at_call 86; exact quietN_eq2 (HW.out _))
       | (go_at_call 152; exact quietN_eq2 (HM.out _))))
     go_wp2
     go_ret
     exact ⟨ret_bool (HR2.out _ (by have h := HF.out; simp; try omega)), below_drewn (below_drewn ((Below.refl _ _).alloc (Nat.le_refl _) _) _) _⟩
   · have HF : Hid (1 <= m /\ M < m) := ⟨h2, h1⟩
     have t2 : (1 : Int) <= (m : Int) := by omega
     have t1 : decide ((m : Int) <= (M : Int)) = false := by simp; omega
     have HR2 := Lib.hid (HR.out _ _ (.inr ⟨rfl, rfl, rfl⟩))
     clear HR
     clear h1 h2
     go_enter Tryz.func121, Tryz.ntmps121
     go_wp2
     go_quiet (fail)
     go_wp2_with (go_at_call 139; refine (HH.out _).mono ?_; rintro e w1 ⟨rfl, rfl⟩)
     go_quiet ((first
       | (go_at_call 86; exact quietN_eq2 (HW.out _))
       | (go_at_call 152; exact quietN_eq2 (HM.out _))))
     go_wp2
     go_ret
     exact ⟨ret_bool (HR2.out _ (by have h := HF.out; simp; try omega)), below_drewn (below_drewn ((Below.refl _ _).alloc (Nat.le_refl _) _) _) _⟩
   · have HF : Hid (1 <= m /\ m <= M) := ⟨h2, h1⟩
     have t2 : (1 : Int) <= (m : Int) := by omega
     have t1 : (m : Int) <= (M : Int) := by omega
     have HR2 := Lib.hid (HR.out _ _ (.inr ⟨rfl, rfl, rfl⟩))
     clear HR
     clear h1 h2
     go_enter Tryz.func121, Tryz.ntmps121
     go_wp2
     go_quiet (fail)
     go_wp2_with (go_at_call 139; refine (HH.out _).mono ?_; rintro e w1 ⟨rfl, rfl⟩)
     go_quiet ((first
       | (go_at_call 86; exact quietN_eq2 (HW.out _))
       | (go_at_call 152; exact quietN_eq2 (HM.out _))))
     go_wp2
     go_ret
     exact ⟨ret_bool (HR2.out _ (by have h := HF.out; simp; try omega)), below_drewn (below_drewn ((Below.refl _ _).alloc (Nat.le_refl _) _) _) _⟩
 · rcases (show n ≠ K ∨ (n = K /\ m ≠ 0) ∨ (n = K /\ m = 0 /\ p = 0) ∨ (n = K /\ m = 0 /\ 1 <= p /\ M < p) ∨ (n = K /\ m = 0 /\ 1 <= p /\ p <= M) by omega) with h1 | ⟨rfl, h1⟩ | ⟨rfl, rfl, rfl⟩ | ⟨rfl, rfl, h2, h1⟩ | ⟨rfl, rfl, h2, h1⟩
   · have HF : Hid (n ≠ K) := h1
     have t1 : ((n : Int) == (K : Int)) = false := by simp; omega
     have t2 : decide ((n : Int) = (K : Int)) = false := by simp; omega
     have HR2 := Lib.hid (HR.out _ _ (.inl ⟨rfl, rfl, rfl⟩))
     clear HR
     clear h1
     go_enter Tryz.func121, Tryz.ntmps121
     go_wp2
     go_quiet (fail)
     go_wp2_with (go_at_call 139; refine (HH.out _).mono ?_; rintro e w1 ⟨rfl, rfl⟩)
     go_quiet ((first
       | (go_at_call 86; exact quietN_eq2 (HW.out _))
       | (go_at_call 152; exact quietN_eq2 (HM.out _))))
     go_wp2
     go_ret
     exact ⟨ret_bool (HR2.out _ (by have h := HF.out; simp; try omega)), below_drewn (below_drewn ((Below.refl _ _).alloc (Nat.le_refl _) _) _) _⟩
   · have HF : Hid (m ≠ 0) := h1
     have t1 : ((m : Int) == 0) = false := by simp; omega
     have t2 : decide ((m : Int) = 0) = false := by simp; omega
     have HR2 := Lib.hid (HR.out _ _ (.inl ⟨rfl, rfl, rfl⟩))
     clear HR
     clear h1
     go_enter Tryz.func121, Tryz.ntmps121
     go_wp2
     go_quiet (fail)
     go_wp2_with (go_at_call 139; refine (HH.out _).mono ?_; rintro e w1 ⟨rfl, rfl⟩)
     go_quiet ((first
       | (go_at_call 86; exact quietN_eq2 (HW.out _))
       | (go_at_call 152; exact quietN_eq2 (HM.out _))))
     go_wp2
     go_ret
     exact ⟨ret_bool (HR2.out _ (by have h := HF.out; simp; try omega)), below_drewn (below_drewn ((Below.refl _ _).alloc (Nat.le_refl _) _) _) _⟩
   · have HF : Hid True := trivial
     have HR2 := Lib.hid (HR.out _ _ (.inl ⟨rfl, rfl, rfl⟩))
     clear HR
     skip
     go_enter Tryz.func121, Tryz.ntmps121
     go_wp2
     go_quiet (fail)
     go_wp2_with (go_at_call 139; refine (HH.out _).mono ?_; rintro e w1 ⟨rfl, rfl⟩)
     go_quiet ((first
       | (go_at_call 86; exact quietN_eq2 (HW.out _))
       | (go_at_call 152; exact quietN_eq2 (HM.out _))))
     go_wp2
     go_ret
     exact ⟨ret_bool (HR2.out _ (by have h := HF.out; simp; try omega)), below_drewn (below_drewn ((Below.refl _ _).alloc (Nat.le_refl _) _) _) _⟩
   · have HF : Hid (1 <= p /\ M < p) := ⟨h2, h1⟩
     have t2 : (1 : Int) <= (p : Int) := by omega
     have t1 : decide ((p : Int) <= (M : Int)) = false := by simp; omega
     have HR2 := Lib.hid (HR.out _ _ (.inl ⟨rfl, rfl, rfl⟩))
     clear HR
     clear h1 h2
     go_enter Tryz.func121, Tryz.ntmps121
     go_wp2
     go_quiet (fail)
     go_wp2_with (go_at_call 139; refine (HH.out _).mono ?_; rintro e w1 ⟨rfl, rfl⟩)
     go_quiet ((first
       | (go_at_call 86; exact quietN_eq2 (HW.out _))
       | (go_at_call 152; exact quietN_eq2 (HM.out _))))
     go_wp2
     go_ret
     exact ⟨ret_bool (HR2.out _ (by have h := HF.out; simp; try omega)), below_drewn (below_drewn ((Below.refl _ _).alloc (Nat.le_refl _) _) _) _⟩
   · have HF : Hid (1 <= p /\ p <= M) := ⟨h2, h1⟩
     have t2 : (1 : Int) <= (p : Int) := by omega
     have t1 : (p : Int) <= (M : Int) := by omega
     have HR2 := Lib.hid (HR.out _ _ (.inl ⟨rfl, rfl, rfl⟩))
     clear HR
     clear h1 h2
     go_enter Tryz.func121, Tryz.ntmps121
     go_wp2
     go_quiet (fail)
     go_wp2_with (go_at_call 139; refine (HH.out _).mono ?_; rintro e w1 ⟨rfl, rfl⟩)
     go_quiet ((first
       | (go_at_call 86; exact quietN_eq2 (HW.out _))
       | (go_at_call 152; exact quietN_eq2 (HM.out _))))
     go_wp2
     go_ret
     exact ⟨ret_bool (HR2.out _ (by have h := HF.out; simp; try omega)), below_drewn (below_drewn ((Below.refl _ _).alloc (Nat.le_refl _) _) _) _⟩
set_option maxHeartbeats 4000000 in
theorem rright_any (k : Int) (A : Option Addr) (n c : Nat) (B : Option Addr) (m d : Nat) (C : Option Addr) (p q : Nat) (w : World) (hn : n <= 9223372036854775807) (hm : m <= 9223372036854775807) (hp : p <= 9223372036854775807) :
 Calls Tryz.prog 141 #[obV k A n c B m d C p q] w fun e w' => e = .returned (.bool (rightN k n m p)) /\ Below w.heap.size w w' := by
 rcases kind_cases k with rfl | rfl | rfl | rfl | hk
 rotate_left 4
 · have HW := Lib.hid (rwordsk_any k)
   have HR : Hid (false = rightN k n m p) := by
     show _ = _
     unfold rightN
     rw [hasI_no hk, mostN_no hk]
     simp
     omega
   rw [kwN_no hk] at HW
   clear hk
   go_enter Tryz.func141, Tryz.ntmps141
   go_wp2
   go_quiet ((go_at_call 105; exact quietN_eq (HW.out _)))
   go_wp2
   go_ret
   exact ⟨ret_bool HR.out, below_drewn ((Below.refl _ _).alloc (Nat.le_refl _) _) _⟩
 · rcases (show n ≠ 5 ∨ (n = 5 /\ p ≠ 0) ∨ (n = 5 /\ p = 0 /\ m = 0) ∨ (n = 5 /\ p = 0 /\ 1 <= m /\ 1024 < m) ∨ (n = 5 /\ p = 0 /\ 1 <= m /\ m <= 1024) by omega) with h1 | ⟨rfl, h1⟩ | ⟨rfl, rfl, rfl⟩ | ⟨rfl, rfl, h2, h1⟩ | ⟨rfl, rfl, h2, h1⟩
   · have HF : Hid (false = rightN 1 n m p) := by show _ = _; simp [rightN, hasI, kwN, mostN]; omega
     have t1 : ((n : Int) == 5) = false := by simp; omega
     have t2 : decide ((n : Int) = 5) = false := by simp; omega
     have HW : Hid (∀ w, Calls Tryz.prog 105 #[.int .i64 1] w fun e w' => e = .returned (.int .i64 5) /\ w = w') := rwordsk_any 1
     clear h1
     go_enter Tryz.func141, Tryz.ntmps141
     go_wp2
     go_quiet ((go_at_call 105; exact quietN_eq (HW.out _)))
     go_wp2
     go_ret
     exact ⟨ret_bool HF.out, below_drewn ((Below.refl _ _).alloc (Nat.le_refl _) _) _⟩
   · have HF : Hid (false = rightN 1 5 m p) := by show _ = _; simp [rightN, hasI, kwN, mostN]; omega
     have t1 : ((p : Int) == 0) = false := by simp; omega
     have t2 : decide ((p : Int) = 0) = false := by simp; omega
     have HW : Hid (∀ w, Calls Tryz.prog 105 #[.int .i64 1] w fun e w' => e = .returned (.int .i64 5) /\ w = w') := rwordsk_any 1
     clear h1
     go_enter Tryz.func141, Tryz.ntmps141
     go_wp2
     go_quiet ((go_at_call 105; exact quietN_eq (HW.out _)))
     go_wp2
     go_quiet (fail)
     go_wp2
     go_ret
     exact ⟨ret_bool HF.out, below_drewn ((Below.refl _ _).alloc (Nat.le_refl _) _) _⟩
   · have HF : Hid (false = rightN 1 5 0 0) := by show _ = _; simp [rightN, hasI, kwN, mostN]
     have HW : Hid (∀ w, Calls Tryz.prog 105 #[.int .i64 1] w fun e w' => e = .returned (.int .i64 5) /\ w = w') := rwordsk_any 1
     skip
     go_enter Tryz.func141, Tryz.ntmps141
     go_wp2
     go_quiet ((go_at_call 105; exact quietN_eq (HW.out _)))
     go_wp2
     go_quiet (fail)
     go_wp2
     go_ret
     exact ⟨ret_bool HF.out, below_drewn ((Below.refl _ _).alloc (Nat.le_refl _) _) _⟩
   · have HF : Hid (false = rightN 1 5 m 0) := by show _ = _; simp [rightN, hasI, kwN, mostN]; omega
     have t2 : (1 : Int) <= (m : Int) := by omega
     have t1 : decide ((m : Int) <= 1024) = false := by simp; omega
     have HW : Hid (∀ w, Calls Tryz.prog 105 #[.int .i64 1] w fun e w' => e = .returned (.int .i64 5) /\ w = w') := rwordsk_any 1
     clear h1 h2
     go_enter Tryz.func141, Tryz.ntmps141
     go_wp2
     go_quiet ((go_at_call 105; exact quietN_eq (HW.out _)))
     go_wp2
     go_quiet (fail)
     go_wp2
     go_ret
     exact ⟨ret_bool HF.out, below_drewn ((Below.refl _ _).alloc (Nat.le_refl _) _) _⟩
   · have HF : Hid (true = rightN 1 5 m 0) := by show _ = _; simp [rightN, hasI, kwN, mostN]; omega
     have t2 : (1 : Int) <= (m : Int) := by omega
     have t1 : (m : Int) <= 1024 := by omega
     have HW : Hid (∀ w, Calls Tryz.prog 105 #[.int .i64 1] w fun e w' => e = .returned (.int .i64 5) /\ w = w') := rwordsk_any 1
     clear h1 h2
     go_enter Tryz.func141, Tryz.ntmps141
     go_wp2
     go_quiet ((go_at_call 105; exact quietN_eq (HW.out _)))
     go_wp2
     go_quiet (fail)
     go_wp2
     go_ret
     exact ⟨ret_bool HF.out, below_drewn ((Below.refl _ _).alloc (Nat.le_refl _) _) _⟩
 · rcases (show n ≠ 3 ∨ (n = 3 /\ p ≠ 0) ∨ (n = 3 /\ p = 0 /\ m = 0) ∨ (n = 3 /\ p = 0 /\ 1 <= m /\ 64 < m) ∨ (n = 3 /\ p = 0 /\ 1 <= m /\ m <= 64) by omega) with h1 | ⟨rfl, h1⟩ | ⟨rfl, rfl, rfl⟩ | ⟨rfl, rfl, h2, h1⟩ | ⟨rfl, rfl, h2, h1⟩
   · have HF : Hid (false = rightN 2 n m p) := by show _ = _; simp [rightN, hasI, kwN, mostN]; omega
     have t1 : ((n : Int) == 3) = false := by simp; omega
     have t2 : decide ((n : Int) = 3) = false := by simp; omega
     have HW : Hid (∀ w, Calls Tryz.prog 105 #[.int .i64 2] w fun e w' => e = .returned (.int .i64 3) /\ w = w') := rwordsk_any 2
     clear h1
     go_enter Tryz.func141, Tryz.ntmps141
     go_wp2
     go_quiet ((go_at_call 105; exact quietN_eq (HW.out _)))
     go_wp2
     go_ret
     exact ⟨ret_bool HF.out, below_drewn ((Below.refl _ _).alloc (Nat.le_refl _) _) _⟩
   · have HF : Hid (false = rightN 2 3 m p) := by show _ = _; simp [rightN, hasI, kwN, mostN]; omega
     have t1 : ((p : Int) == 0) = false := by simp; omega
     have t2 : decide ((p : Int) = 0) = false := by simp; omega
     have HW : Hid (∀ w, Calls Tryz.prog 105 #[.int .i64 2] w fun e w' => e = .returned (.int .i64 3) /\ w = w') := rwordsk_any 2
     clear h1
     go_enter Tryz.func141, Tryz.ntmps141
     go_wp2
     go_quiet ((go_at_call 105; exact quietN_eq (HW.out _)))
     go_wp2
     go_quiet (fail)
     go_wp2
     go_ret
     exact ⟨ret_bool HF.out, below_drewn ((Below.refl _ _).alloc (Nat.le_refl _) _) _⟩
   · have HF : Hid (false = rightN 2 3 0 0) := by show _ = _; simp [rightN, hasI, kwN, mostN]
     have HW : Hid (∀ w, Calls Tryz.prog 105 #[.int .i64 2] w fun e w' => e = .returned (.int .i64 3) /\ w = w') := rwordsk_any 2
     skip
     go_enter Tryz.func141, Tryz.ntmps141
     go_wp2
     go_quiet ((go_at_call 105; exact quietN_eq (HW.out _)))
     go_wp2
     go_quiet (fail)
     go_wp2
     go_ret
     exact ⟨ret_bool HF.out, below_drewn ((Below.refl _ _).alloc (Nat.le_refl _) _) _⟩
   · have HF : Hid (false = rightN 2 3 m 0) := by show _ = _; simp [rightN, hasI, kwN, mostN]; omega
     have t2 : (1 : Int) <= (m : Int) := by omega
     have t1 : decide ((m : Int) <= 64) = false := by simp; omega
     have HW : Hid (∀ w, Calls Tryz.prog 105 #[.int .i64 2] w fun e w' => e = .returned (.int .i64 3) /\ w = w') := rwordsk_any 2
     clear h1 h2
     go_enter Tryz.func141, Tryz.ntmps141
     go_wp2
     go_quiet ((go_at_call 105; exact quietN_eq (HW.out _)))
     go_wp2
     go_quiet (fail)
     go_wp2
     go_ret
     exact ⟨ret_bool HF.out, below_drewn ((Below.refl _ _).alloc (Nat.le_refl _) _) _⟩
   · have HF : Hid (true = rightN 2 3 m 0) := by show _ = _; simp [rightN, hasI, kwN, mostN]; omega
     have t2 : (1 : Int) <= (m : Int) := by omega
     have t1 : (m : Int) <= 64 := by omega
     have HW : Hid (∀ w, Calls Tryz.prog 105 #[.int .i64 2] w fun e w' => e = .returned (.int .i64 3) /\ w = w') := rwordsk_any 2
     clear h1 h2
     go_enter Tryz.func141, Tryz.ntmps141
     go_wp2
     go_quiet ((go_at_call 105; exact quietN_eq (HW.out _)))
     go_wp2
     go_quiet (fail)
     go_wp2
     go_ret
     exact ⟨ret_bool HF.out, below_drewn ((Below.refl _ _).alloc (Nat.le_refl _) _) _⟩
 · rcases (show n ≠ 5 ∨ (n = 5 /\ m ≠ 0) ∨ (n = 5 /\ m = 0 /\ p = 0) ∨ (n = 5 /\ m = 0 /\ 1 <= p /\ 64 < p) ∨ (n = 5 /\ m = 0 /\ 1 <= p /\ p <= 64) by omega) with h1 | ⟨rfl, h1⟩ | ⟨rfl, rfl, rfl⟩ | ⟨rfl, rfl, h2, h1⟩ | ⟨rfl, rfl, h2, h1⟩
   · have HF : Hid (false = rightN 3 n m p) := by show _ = _; simp [rightN, hasI, kwN, mostN]; omega
     have t1 : ((n : Int) == 5) = false := by simp; omega
     have t2 : decide ((n : Int) = 5) = false := by simp; omega
     have HW : Hid (∀ w, Calls Tryz.prog 105 #[.int .i64 3] w fun e w' => e = .returned (.int .i64 5) /\ w = w') := rwordsk_any 3
     clear h1
     go_enter Tryz.func141, Tryz.ntmps141
     go_wp2
     go_quiet ((go_at_call 105; exact quietN_eq (HW.out _)))
     go_wp2
     go_ret
     exact ⟨ret_bool HF.out, below_drewn ((Below.refl _ _).alloc (Nat.le_refl _) _) _⟩
   · have HF : Hid (false = rightN 3 5 m p) := by show _ = _; simp [rightN, hasI, kwN, mostN]; omega
     have t1 : ((m : Int) == 0) = false := by simp; omega
     have t2 : decide ((m : Int) = 0) = false := by simp; omega
     have HW : Hid (∀ w, Calls Tryz.prog 105 #[.int .i64 3] w fun e w' => e = .returned (.int .i64 5) /\ w = w') := rwordsk_any 3
     clear h1
     go_enter Tryz.func141, Tryz.ntmps141
     go_wp2
     go_quiet ((go_at_call 105; exact quietN_eq (HW.out _)))
     go_wp2
     go_quiet (fail)
     go_wp2
     go_ret
     exact ⟨ret_bool HF.out, below_drewn ((Below.refl _ _).alloc (Nat.le_refl _) _) _⟩
   · have HF : Hid (false = rightN 3 5 0 0) := by show _ = _; simp [rightN, hasI, kwN, mostN]
     have HW : Hid (∀ w, Calls Tryz.prog 105 #[.int .i64 3] w fun e w' => e = .returned (.int .i64 5) /\ w = w') := rwordsk_any 3
     skip
     go_enter Tryz.func141, Tryz.ntmps141
     go_wp2
     go_quiet ((go_at_call 105; exact quietN_eq (HW.out _)))
     go_wp2
     go_quiet (fail)
     go_wp2
     go_ret
     exact ⟨ret_bool HF.out, below_drewn ((Below.refl _ _).alloc (Nat.le_refl _) _) _⟩
   · have HF : Hid (false = rightN 3 5 0 p) := by show _ = _; simp [rightN, hasI, kwN, mostN]; omega
     have t2 : (1 : Int) <= (p : Int) := by omega
     have t1 : decide ((p : Int) <= 64) = false := by simp; omega
     have HW : Hid (∀ w, Calls Tryz.prog 105 #[.int .i64 3] w fun e w' => e = .returned (.int .i64 5) /\ w = w') := rwordsk_any 3
     clear h1 h2
     go_enter Tryz.func141, Tryz.ntmps141
     go_wp2
     go_quiet ((go_at_call 105; exact quietN_eq (HW.out _)))
     go_wp2
     go_quiet (fail)
     go_wp2
     go_ret
     exact ⟨ret_bool HF.out, below_drewn ((Below.refl _ _).alloc (Nat.le_refl _) _) _⟩
   · have HF : Hid (true = rightN 3 5 0 p) := by show _ = _; simp [rightN, hasI, kwN, mostN]; omega
     have t2 : (1 : Int) <= (p : Int) := by omega
     have t1 : (p : Int) <= 64 := by omega
     have HW : Hid (∀ w, Calls Tryz.prog 105 #[.int .i64 3] w fun e w' => e = .returned (.int .i64 5) /\ w = w') := rwordsk_any 3
     clear h1 h2
     go_enter Tryz.func141, Tryz.ntmps141
     go_wp2
     go_quiet ((go_at_call 105; exact quietN_eq (HW.out _)))
     go_wp2
     go_quiet (fail)
     go_wp2
     go_ret
     exact ⟨ret_bool HF.out, below_drewn ((Below.refl _ _).alloc (Nat.le_refl _) _) _⟩
 · rcases (show n ≠ 1 ∨ (n = 1 /\ m ≠ 0) ∨ (n = 1 /\ m = 0 /\ p = 0) ∨ (n = 1 /\ m = 0 /\ 1 <= p /\ 1024 < p) ∨ (n = 1 /\ m = 0 /\ 1 <= p /\ p <= 1024) by omega) with h1 | ⟨rfl, h1⟩ | ⟨rfl, rfl, rfl⟩ | ⟨rfl, rfl, h2, h1⟩ | ⟨rfl, rfl, h2, h1⟩
   · have HF : Hid (false = rightN 4 n m p) := by show _ = _; simp [rightN, hasI, kwN, mostN]; omega
     have t1 : ((n : Int) == 1) = false := by simp; omega
     have t2 : decide ((n : Int) = 1) = false := by simp; omega
     have HW : Hid (∀ w, Calls Tryz.prog 105 #[.int .i64 4] w fun e w' => e = .returned (.int .i64 1) /\ w = w') := rwordsk_any 4
     clear h1
     go_enter Tryz.func141, Tryz.ntmps141
     go_wp2
     go_quiet ((go_at_call 105; exact quietN_eq (HW.out _)))
     go_wp2
     go_ret
     exact ⟨ret_bool HF.out, below_drewn ((Below.refl _ _).alloc (Nat.le_refl _) _) _⟩
   · have HF : Hid (false = rightN 4 1 m p) := by show _ = _; simp [rightN, hasI, kwN, mostN]; omega
     have t1 : ((m : Int) == 0) = false := by simp; omega
     have t2 : decide ((m : Int) = 0) = false := by simp; omega
     have HW : Hid (∀ w, Calls Tryz.prog 105 #[.int .i64 4] w fun e w' => e = .returned (.int .i64 1) /\ w = w') := rwordsk_any 4
     clear h1
     go_enter Tryz.func141, Tryz.ntmps141
     go_wp2
     go_quiet ((go_at_call 105; exact quietN_eq (HW.out _)))
     go_wp2
     go_quiet (fail)
     go_wp2
     go_ret
     exact ⟨ret_bool HF.out, below_drewn ((Below.refl _ _).alloc (Nat.le_refl _) _) _⟩
   · have HF : Hid (false = rightN 4 1 0 0) := by show _ = _; simp [rightN, hasI, kwN, mostN]
     have HW : Hid (∀ w, Calls Tryz.prog 105 #[.int .i64 4] w fun e w' => e = .returned (.int .i64 1) /\ w = w') := rwordsk_any 4
     skip
     go_enter Tryz.func141, Tryz.ntmps141
     go_wp2
     go_quiet ((go_at_call 105; exact quietN_eq (HW.out _)))
     go_wp2
     go_quiet (fail)
     go_wp2
     go_ret
     exact ⟨ret_bool HF.out, below_drewn ((Below.refl _ _).alloc (Nat.le_refl _) _) _⟩
   · have HF : Hid (false = rightN 4 1 0 p) := by show _ = _; simp [rightN, hasI, kwN, mostN]; omega
     have t2 : (1 : Int) <= (p : Int) := by omega
     have t1 : decide ((p : Int) <= 1024) = false := by simp; omega
     have HW : Hid (∀ w, Calls Tryz.prog 105 #[.int .i64 4] w fun e w' => e = .returned (.int .i64 1) /\ w = w') := rwordsk_any 4
     clear h1 h2
     go_enter Tryz.func141, Tryz.ntmps141
     go_wp2
     go_quiet ((go_at_call 105; exact quietN_eq (HW.out _)))
     go_wp2
     go_quiet (fail)
     go_wp2
     go_ret
     exact ⟨ret_bool HF.out, below_drewn ((Below.refl _ _).alloc (Nat.le_refl _) _) _⟩
   · have HF : Hid (true = rightN 4 1 0 p) := by show _ = _; simp [rightN, hasI, kwN, mostN]; omega
     have t2 : (1 : Int) <= (p : Int) := by omega
     have t1 : (p : Int) <= 1024 := by omega
     have HW : Hid (∀ w, Calls Tryz.prog 105 #[.int .i64 4] w fun e w' => e = .returned (.int .i64 1) /\ w = w') := rwordsk_any 4
     clear h1 h2
     go_enter Tryz.func141, Tryz.ntmps141
     go_wp2
     go_quiet ((go_at_call 105; exact quietN_eq (HW.out _)))
     go_wp2
     go_quiet (fail)
     go_wp2
     go_ret
     exact ⟨ret_bool HF.out, below_drewn ((Below.refl _ _).alloc (Nat.le_refl _) _) _⟩
theorem obare_any (k : Int) (A : Option Addr) (n c : Nat) (B : Option Addr) (m d : Nat) (C : Option Addr) (p q : Nat) (w : World) (hm : m <= 1099511627776) (hp : p <= 1099511627776) :
 Calls Tryz.prog 102 #[obV k A n c B m d C p q] w fun e w' => e = .returned (.int .i64 (bareN k m p)) /\ Below w.heap.size w w' := by
 have hk := frontN_le k
 go_enter Tryz.func102, Tryz.ntmps102
 go_wp2
 go_quiet ((go_at_call 104; exact quietN_eq (oitem_any k _ _ (by omega) (by omega))))
 go_wp2
 go_ret
 exact ⟨ret_int (by unfold bareN; omega), below_drewn ((Below.refl _ _).alloc (Nat.le_refl _) _) _⟩
theorem osize_any (k : Int) (A : Option Addr) (n c : Nat) (B : Option Addr) (m d : Nat) (C : Option Addr) (p q : Nat) (w : World) (hm : m <= 1099511627776) (hp : p <= 1099511627776) :
 Calls Tryz.prog 59 #[obV k A n c B m d C p q] w fun e w' => e = .returned (.int .i64 (algn (bareN k m p))) /\ Below w.heap.size w w' := by
 have hk := frontN_le k
 have hb : bareN k m p <= 100000000000000 := by unfold bareN; omega
 go_enter Tryz.func59, Tryz.ntmps59
 go_wp2_with (first
   | (go_at_call 102; refine (obare_any k A n c B m d C p q _ hm hp).mono ?_; rintro e w1 ⟨rfl, hb1⟩)
   | (go_at_call 101; refine (align_any _ _ (by omega) (by omega)).mono ?_; rintro e w2 ⟨rfl, rfl⟩))
 go_ret
 exact ⟨rfl, ((Below.refl _ _).alloc (Nat.le_refl _) _).trans (hb1.mono (by simp))⟩
structure ObR (w : World) (L : Nat) (A : Option Addr) (n c : Nat) (ws : List Int) (B : Option Addr) (m d : Nat) (rs : List Int) (C : Option Addr) (p q : Nat) (is : List Int) : Prop where
 wr : Reads w L 1 A n (cellsOf .u64 ws)
 rr : Reads w L 1 B m (cellsOf .u8 rs)
 ir : Reads w L 1 C p (cellsOf .u64 is)
 wc : n <= c /\ c <= 9223372036854775807
 rc : m <= d /\ d <= 9223372036854775807
 ic : p <= q /\ q <= 9223372036854775807
section
variable {w w' : World} {L L' : Nat} {A : Option Addr} {n c : Nat} {ws : List Int} {B : Option Addr} {m d : Nat} {rs : List Int} {C : Option Addr} {p q : Nat} {is : List Int}
theorem ObR.below (h : ObR w L A n c ws B m d rs C p q is) (hb : Below w.heap.size w w') (hL : L <= w.heap.size) : ObR w' L A n c ws B m d rs C p q is :=
 ⟨h.wr.keep fun p hp => hb.cell (by omega), h.rr.keep fun p hp => hb.cell (by omega), h.ir.keep fun p hp => hb.cell (by omega), h.wc, h.rc, h.ic⟩
end
def headO (k : Int) (ws rs is : List Int) : List Int := (((wordsB [k, (bareN k rs.length is.length : Nat)]) ++ wordsB ws) ++ rs) ++ wordsB is
def encO (k : Int) (ws rs is : List Int) : List Int := headO k ws rs is ++ List.replicate (padn (headO k ws rs is).length 8) 0
def encR (k : Int) (ws rs is : List Int) : List Int := if rightN k ws.length rs.length is.length then encO k ws rs is else []
theorem headO_length (k : Int) (ws rs is : List Int) : (headO k ws rs is).length = 16 + 8 * ws.length + rs.length + 8 * is.length := by
 simp only [headO, List.length_append, wordsB_length, List.length_cons, List.length_nil]
theorem headO_bytes {k : Int} {ws rs is : List Int} (h : AreB rs) : AreB (headO k ws rs is) := (((wordsB_bytes _).append (wordsB_bytes _)).append h).append (wordsB_bytes _)
theorem encO_bytes {k : Int} {ws rs is : List Int} (h : AreB rs) : AreB (encO k ws rs is) := (headO_bytes h).append (AreB.zeros _)
theorem encR_bytes {k : Int} {ws rs is : List Int} (h : AreB rs) : AreB (encR k ws rs is) := by
 unfold encR
 split
 · exact encO_bytes h
 · exact AreB.nil
abbrev ObAt (w : World) (g : Nat) (k : Int) (A : Option Addr) (n c : Nat) (B : Option Addr) (m d : Nat) (C : Option Addr) (p q : Nat) : Prop :=
 w.cell? ⟨g, 0, none⟩ = some (.int .i64 k) /\ w.cell? ⟨g, 1, none⟩ = some (.slice A n c) /\ w.cell? ⟨g, 2, none⟩ = some (.slice B m d) /\ w.cell? ⟨g, 3, none⟩ = some (.slice C p q)
theorem obAt_of {w w' : World} {t : TypeId} {k : Int} {A : Option Addr} {n c : Nat} {B : Option Addr} {m d : Nat} {C : Option Addr} {p q : Nat}
 (h : Below (w.alloc (.cells #[.int .i64 k, .slice A n c, .slice B m d, .slice C p q] t)).heap.size (w.alloc (.cells #[.int .i64 k, .slice A n c, .slice B m d, .slice C p q] t)) w') : ObAt w' w.heap.size k A n c B m d C p q := by
 have hb := (Blk.new w t #[.int .i64 k, .slice A n c, .slice B m d, .slice C p q]).below h (by simp)
 exact ⟨by rw [hb.cell]; rfl, by rw [hb.cell]; rfl, by rw [hb.cell]; rfl, by rw [hb.cell]; rfl⟩
set_option maxRecDepth 100000 in
set_option maxHeartbeats 2000000 in
theorem oenc_yes {L : Nat} (k : Int) (A : Option Addr) (n c : Nat) (ws : List Int) (B : Option Addr) (m d : Nat) (rs : List Int) (C : Option Addr) (p q : Nat) (is : List Int) (w : World) (h : ObR w L A n c ws B m d rs C p q is) (hL : L <= w.heap.size) (hr : rightN k n m p = true) :
 Calls Tryz.prog 122 #[obV k A n c B m d C p q] w (Told (encO k ws rs is) w) := by
 have hk := rightN_kind hr
 obtain ⟨-, l2, l3, l4⟩ := rightN_len hr
 have R1 := Lib.hid (oright_any k A n c B m d C p q)
 rw [hr] at R1
 have HB := Lib.hid (fun w => obare_any k A n c B m d C p q w (by omega) (by omega))
 have HBN : bareN k m p <= 10000 := by have := frontN_le k; unfold bareN; omega
 obtain ⟨s, hs⟩ : ∃ s, Hid (bareN k m p = s) := ⟨_, rfl⟩
 rw [hs.out] at HB HBN
 have hlw := h.wr.len
 have hlr := h.rr.len
 have hli := h.ir.len
 have L1 : Hid (([] ++ wordsB [k, (s : Int)]).length = 16) := by show _ = _; simp [wordsB_length]
 have L2 : Hid (([] ++ wordsB [k, (s : Int)] ++ wordsB ws).length = 16 + 8 * n) := by show _ = _; rw [List.length_append, L1.out, wordsB_length, hlw]
 have L3 : Hid (([] ++ wordsB [k, (s : Int)] ++ wordsB ws ++ rs).length = 16 + 8 * n + m) := by show _ = _; rw [List.length_append, L2.out, hlr]
 have L4 : Hid (([] ++ wordsB [k, (s : Int)] ++ wordsB ws ++ rs ++ wordsB is).length = 16 + 8 * n + m + 8 * p) := by show _ = _; rw [List.length_append, L3.out, wordsB_length, hli]
 have HZ : Hid ([] ++ wordsB [k, (s : Int)] ++ wordsB ws ++ rs ++ wordsB is ++ List.replicate (padn ([] ++ wordsB [k, (s : Int)] ++ wordsB ws ++ rs ++ wordsB is).length 8) 0 = encO k ws rs is) := by
   show _ = _
   unfold encO headO
   rw [hlr, hli, hs.out]
   rfl
 have H0 := Lib.hid h
 clear h hr hlw hlr hli
 have hwk : IntKind.u64.wrap k = k := by rw [IntKind.wrap_u64]; omega
 have hws : IntKind.u64.wrap (s : Int) = s := by rw [IntKind.wrap_u64]; omega
 have T8 : (8 : Int) <= 4096 := by omega
 go_enter Tryz.func122, Tryz.ntmps122
 go_wp2_with (go_at_call 121; go_loud (refine (R1.out _ (by omega) (by omega) (by omega)).mono ?_; rintro e wR ⟨rfl, hbR⟩; have HbR : Below w.heap.size w wR := ((Below.refl _ _).alloc (Nat.le_refl _) _).trans (hbR.mono (by simp)); have HO := Lib.hid (fun wx (hx : Below wR.heap.size wR wx) => obAt_of (hbR.trans (hx.mono hbR.size))); have W0 := (nob wR).below (below_drewn (Below.refl _ _) 1); have HK := Lib.hid (HO.out _ W0.bel); have H1 := Lib.hid (H0.out.below HbR hL); have hL2 : L <= wR.heap.size := Nat.le_trans hL HbR.size; clear hbR))
 have hg : wR.heap.size <= wR.heap.size := Nat.le_refl _
 go_region_held3 (fun w' => ObAt w' w.heap.size k A n c B m d C p q)
   (first | assumption | exact HK.out | exact HO.out _ (W3.bel.alloc W3.bel.size _))
   (first
     | (go_at_call 102; go_loud (refine (HB.out _).mono ?_; rintro e w3 ⟨rfl, hb3⟩; have W3 := W0.below hb3; have hk3 := HO.out _ W3.bel; clear hb3))
     | (go_at_call 75; go_loud (have W4 := W3.below ((Below.refl _ _).alloc (Nat.le_refl _) (.cells #[.int .u64 k, .int .u64 s] 24)); have hr4 : Reads (w3.alloc (.cells #[.int .u64 k, .int .u64 s] 24)) (w3.heap.size + 1) 1 (some ⟨w3.heap.size, 0, none⟩) 2 (cellsOf .u64 [k, (s : Int)]) := Reads.newN _ _ _; refine (words_any _ _ _ _ 2 2 [k, (s : Int)] _ W4.wr hr4 (by simp) (fun _ ad e => by (injection e with e); subst e; rintro (e2 | e2); (have h9 := W3.wr.blk.lt; have e3 : w3.heap.size = wR.heap.size := e2; omega); (simp [Value.ownBlock] at e2)) (by simp)).mono ?_; rintro e w5 ⟨rfl, hp5⟩; obtain ⟨v5, W5⟩ := W4.step hg hp5; have hk5 := HO.out _ W5.bel; clear hp5 hr4)))
 clear W0 W3 W4 HK hk3
 have m1 : True := trivial
 go_wp2_with (first
   | (go_at_call 75; clear m1; refine (words_any _ v5 _ A n c ws _ W5.wr (H1.out.below W5.bel hL2).wr (Nat.le_trans hL2 W5.bel.size) (W5.dis hg H0.out.wr hL2) (by rw [L1.out]; omega)).mono ?_; rintro e w6 ⟨rfl, hp6⟩; obtain ⟨v6, W6⟩ := W5.step hg hp6; obtain ⟨k60, k61, k62, k63⟩ := HO.out _ W6.bel; clear hp6)
   | (go_at_call 74; refine (raw_any _ v6 _ B m d rs _ W6.wr (H1.out.below W6.bel hL2).rr (by rw [L2.out]; omega)).mono ?_; rintro e w7 ⟨rfl, hp7⟩; obtain ⟨v7, W7⟩ := W6.step hg hp7; obtain ⟨k70, k71, k72, k73⟩ := HO.out _ W7.bel; clear hp7)
   | (go_at_call 75; refine (words_any _ v7 _ C p q is _ W7.wr (H1.out.below W7.bel hL2).ir (Nat.le_trans hL2 W7.bel.size) (W7.dis hg H0.out.ir hL2) (by rw [L3.out]; omega)).mono ?_; rintro e w8 ⟨rfl, hp8⟩; obtain ⟨v8, W8⟩ := W7.step hg hp8; clear hp8)
   | (go_at_call 79; refine (pad_any _ v8 _ 8 _ W8.wr T8 (by omega) (by rw [L4.out]; omega)).mono ?_; rintro e w9 ⟨rfl, hp9⟩; rw [HZ.out] at hp9; obtain ⟨v9, W9⟩ := W8.step hg hp9; clear hp9)
   | (go_at_call 78; refine (wdone_any _ v9 _ _ W9.wr (by rw [<- HZ.out, List.length_append, L4.out, List.length_replicate]; have := padn_lt (16 + 8 * n + m + 8 * p) T8; omega)).mono ?_; rintro e w10 ⟨A', c', rfl, ho, hb, h1, h2⟩))
 go_ret
 have hb9 := HbR.trans (W9.bel.mono HbR.size)
 exact ⟨A', _, c', rfl, rfl, own_base ho hb9.size, hb9.trans (hb.mono hb9.size), h1, by unfold maxLen at h2; omega⟩
theorem oenc_no {L : Nat} (k : Int) (A : Option Addr) (n c : Nat) (ws : List Int) (B : Option Addr) (m d : Nat) (rs : List Int) (C : Option Addr) (p q : Nat) (is : List Int) (w : World) (h : ObR w L A n c ws B m d rs C p q is) (hr : rightN k n m p = false) :
 Calls Tryz.prog 122 #[obV k A n c B m d C p q] w (Told [] w) := by
 have h1 := h.wc
 have h2 := h.rc
 have h3 := h.ic
 have R1 := Lib.hid (oright_any k A n c B m d C p q)
 rw [hr] at R1
 clear h hr
 go_enter Tryz.func122, Tryz.ntmps122
 go_wp2_with (go_at_call 121; refine (R1.out _ (by omega) (by omega) (by omega)).mono ?_; rintro e wR ⟨rfl, hbR⟩)
 go_ret
 exact Told.nil _ _ (((Below.refl _ _).alloc (Nat.le_refl _) _).trans (hbR.mono (by simp)))
theorem wordsB_two (a b : Int) : wordsB [a, b] = bts a 8 ++ bts b 8 := by simp [wordsB]
set_option maxRecDepth 100000 in
set_option maxHeartbeats 4000000 in
theorem roenc_yes {L : Nat} (k : Int) (A : Option Addr) (n c : Nat) (ws : List Int) (B : Option Addr) (m d : Nat) (rs : List Int) (C : Option Addr) (p q : Nat) (is : List Int) (w : World) (h : ObR w L A n c ws B m d rs C p q is) (hL : L <= w.heap.size) (hr : rightN k n m p = true)
 (hw1 : ∀ z ∈ ws, 0 <= z /\ z < 18446744073709551616) (hw2 : ∀ z ∈ is, 0 <= z /\ z < 18446744073709551616) :
 Calls Tryz.prog 106 #[obV k A n c B m d C p q] w (Told (encO k ws rs is) w) := by
 obtain ⟨i0, hi, hz0, hz1, hz2⟩ := info_parts byteInfo
 have hk := rightN_kind hr
 obtain ⟨hn, l2, l3, l4⟩ := rightN_len hr
 have R1 := Lib.hid (rright_any k A n c B m d C p q)
 rw [hr] at R1
 obtain ⟨s, hs⟩ : ∃ s : Nat, 16 + 8 * n + m + 8 * p = s := ⟨_, rfl⟩
 have hsb : bareN k m p = s := by unfold bareN frontN; rw [<- hn]; omega
 have hs1 : s <= 10000 := by omega
 have hlw := h.wr.len
 have hlr := h.rr.len
 have hli := h.ir.len
 have HLW := Lib.hid hlw
 have HLI := Lib.hid hli
 have HZ : Hid (∀ z : Nat, z = padn s 8 -> bts k 8 ++ bts (s : Int) 8 ++ wordsB ws ++ rs ++ wordsB is ++ List.replicate z 0 = encO k ws rs is) := fun z hz => by
   unfold encO
   rw [headO_length, hlw, hlr, hli, hs, hz]
   unfold headO
   rw [wordsB_two, hlr, hli, hsb]
 have HS := Lib.hid hs
 have H0 := Lib.hid h
 have HW1 : Hid (∀ j, 0 <= ws.getD j 0 /\ ws.getD j 0 < 18446744073709551616) := fun j => by
   rw [List.getD_eq_getElem?_getD]
   by_cases hj : j < ws.length
   · rw [List.getElem?_eq_getElem hj]; exact hw1 _ (List.getElem_mem hj)
   · rw [List.getElem?_eq_none (by omega)]; simp
 have HW2 : Hid (∀ j, 0 <= is.getD j 0 /\ is.getD j 0 < 18446744073709551616) := fun j => by
   rw [List.getD_eq_getElem?_getD]
   by_cases hj : j < is.length
   · rw [List.getElem?_eq_getElem hj]; exact hw2 _ (List.getElem_mem hj)
   · rw [List.getElem?_eq_none (by omega)]; simp
 clear h hr hlw hlr hli hw1 hw2 hsb hn
 have hwk : IntKind.u64.wrap k = k := by rw [IntKind.wrap_u64]; omega
 have hws : IntKind.u64.wrap (s : Int) = s := by rw [IntKind.wrap_u64]; omega
 have hsz : (16 : Int) + 8 * n + m + 8 * p = s := by omega
 clear hs
 have HK8 : Hid (0 <= k /\ k < 18446744073709551616) := ⟨by omega, by omega⟩
 have HS8 : Hid (0 <= (s : Int) /\ (s : Int) < 18446744073709551616) := ⟨by omega, by omega⟩
 have s2 : 8 + 8 <= maxLen := by decide
 go_enter Tryz.func106, Tryz.ntmps106
 have m1 : True := trivial
 go_wp2_with (first
   | (go_at_call 141; refine (R1.out _ (by omega) (by omega) (by omega)).mono ?_; rintro e wR ⟨rfl, hbR⟩; have HbR : Below w.heap.size w wR := ((Below.refl _ _).alloc (Nat.le_refl _) _).trans (hbR.mono (by simp)); have HO := Lib.hid (fun wx (hx : Below wR.heap.size wR wx) => obAt_of (hbR.trans (hx.mono hbR.size))); obtain ⟨k00, k01, k02, k03⟩ := HO.out _ (Below.refl _ _); have H1 := Lib.hid (H0.out.below HbR hL); have hL2 : L <= wR.heap.size := Nat.le_trans hL HbR.size; clear hbR)
   | (go_at_call 93; clear m1; refine (rbytes8 k _ HK8).mono ?_; rintro e w1 ⟨A1, c1, rfl, ho1, hb1⟩)
   | (go_at_call 93; refine (rbytes8 s _ HS8).mono ?_; rintro e w2 ⟨A2, c2, rfl, ho2, hb2⟩; have O1 : OutB wR (.slice A1 8 c1) 8 (bts k 8) w2 := OutB.below ⟨ho1, hb1⟩ hb2; have ho1' := O1.own; have R2 := Reads.of_own ho2; have hb12 := O1.bel)
   | (at_builtin; refine wpList_append_any _ rfl _ _ _ rfl wR.heap.size 5 i0 (.int .u8 0) 1 1 Tryz.underlying22 hi hz0 hz1 hz2 rfl (Nat.lt_succ_self 0) (.slice A1 8 c1) 8 (cellsOf .u8 (bts k 8)) rfl ho1' w2.heap.size A2 8 c2 (cellsOf .u8 (bts s 8)) rfl R2 (cellsOf_one _ _) s2 (by omega) hb12.size ?_; intro v3 w3 ho3 hg3 hat3; have O3 := O1.app ho3 hg3; clear ho3 hg3 hat3 O1 R2 ho1' ho1 ho2 hb1 hb2 hb12 k00 k01 k02 k03))
 go_loopw [4, 5] (fun v i wr => ∃ j : Nat, j <= n /\ i = .int .i64 j /\ OutB wR v (16 + 8 * j) (bts k 8 ++ bts (s : Int) 8 ++ wordsB (ws.take j)) wr) (fun _ i _ => n - (intOf i).toNat)
 case atStart => exact ⟨0, Nat.zero_le _, rfl, by simpa [wordsB] using O3⟩
 case round =>
   clear O3
   obtain ⟨j, hj, rfl, hO⟩ := hrel
   obtain ⟨k00, k01, k02, k03⟩ := HO.out _ hO.bel
   by_cases hlt : j < n
   · have hww := (H1.out.below hO.bel hL2).wr
     have HT := Lib.hid (wordsB_take (l := ws) (k := j) (by rw [HLW.out]; exact hlt))
     obtain ⟨b, off, e, hbb, hcc⟩ := hww.plain (by omega)
     have hcell := hcc j hlt
     have hxw : Hid _ := HW1.out j
     generalize ws.getD j 0 = x at hcell HT hxw
     subst e
     clear hcc hww
     obtain ⟨A1, c1, rfl, _, _⟩ := own_form hO.own
     have s3 : 16 + 8 * j + 8 <= maxLen := by unfold maxLen; omega
     go_wp2_with (first
       | (go_at_call 93; refine (rbytes8 x _ hxw).mono ?_; rintro e w1 ⟨A2, c2, rfl, ho2, hb2⟩; have O1 := hO.below hb2; have ho1 := O1.own; have R2 := Reads.of_own ho2; have hb12 := O1.bel)
       | (at_builtin; refine wpList_append_any _ rfl _ _ _ rfl wR.heap.size 5 i0 (.int .u8 0) 1 1 Tryz.underlying22 hi hz0 hz1 hz2 rfl (Nat.lt_succ_self 0) (.slice A1 (16 + 8 * j) c1) (16 + 8 * j) (cellsOf .u8 (bts k 8 ++ bts (s : Int) 8 ++ wordsB (ws.take j))) rfl ho1 w1.heap.size A2 8 c2 (cellsOf .u8 (bts x 8)) rfl R2 (cellsOf_one _ _) s3 (by omega) hb12.size ?_; intro v3 w3 ho3 hg3 hat3; have O3 := O1.app ho3 hg3; clear ho3 hg3 hat3 O1 R2 ho1 ho2 hb2 hb12))
     go_roundw
     case rel =>
       rw [List.append_assoc, <- HT.out] at O3
       exact ⟨j + 1, by omega, by go_num, O3⟩
     case measure => simp [intOf]; omega
   · have e : j = n := by omega
     subst e
     rw [List.take_of_length_le (by rw [HLW.out]; exact Nat.le_refl _)] at hO
     obtain ⟨A1, c1, rfl, _, _⟩ := own_form hO.own
     have ho1 := hO.own
     have hrr := (H1.out.below hO.bel hL2).rr
     have s3 : 16 + 8 * j + m <= maxLen := by unfold maxLen; omega
     go_wp2_with (at_builtin; refine wpList_append_any _ rfl _ _ _ rfl wR.heap.size 5 i0 (.int .u8 0) 1 1 Tryz.underlying22 hi hz0 hz1 hz2 rfl (Nat.lt_succ_self 0) (.slice A1 (16 + 8 * j) c1) (16 + 8 * j) (cellsOf .u8 (bts k 8 ++ bts (s : Int) 8 ++ wordsB ws)) rfl ho1 L B m d (cellsOf .u8 rs) rfl hrr (cellsOf_one _ _) s3 (by omega) hO.bel.size ?_; intro v3 w3 ho3 hg3 hat3; have O3 := hO.app ho3 hg3; clear ho3 hg3 hat3 ho1 hrr)
     clear hO k00 k01 k02 k03
     go_loopw [4, 6] (fun v i wr => ∃ j2 : Nat, j2 <= p /\ i = .int .i64 j2 /\ OutB wR v (16 + 8 * j + m + 8 * j2) (bts k 8 ++ bts (s : Int) 8 ++ wordsB ws ++ rs ++ wordsB (is.take j2)) wr) (fun _ i _ => p - (intOf i).toNat)
     case atStart => exact ⟨0, Nat.zero_le _, rfl, by simpa [wordsB] using O3⟩
     case round =>
       clear O3
       obtain ⟨j2, hj2, rfl, hO⟩ := hrel
       obtain ⟨k00, k01, k02, k03⟩ := HO.out _ hO.bel
       by_cases hlt : j2 < p
       · have hww := (H1.out.below hO.bel hL2).ir
         have HT := Lib.hid (wordsB_take (l := is) (k := j2) (by rw [HLI.out]; exact hlt))
         obtain ⟨b, off, e, hbb, hcc⟩ := hww.plain (by omega)
         have hcell := hcc j2 hlt
         have hxw : Hid _ := HW2.out j2
         generalize is.getD j2 0 = x at hcell HT hxw
         subst e
         clear hcc hww
         obtain ⟨A1, c1, rfl, _, _⟩ := own_form hO.own
         have s3 : 16 + 8 * j + m + 8 * j2 + 8 <= maxLen := by unfold maxLen; omega
         go_wp2_with (first
           | (go_at_call 93; refine (rbytes8 x _ hxw).mono ?_; rintro e w1 ⟨A2, c2, rfl, ho2, hb2⟩; have O1 := hO.below hb2; have ho1 := O1.own; have R2 := Reads.of_own ho2; have hb12 := O1.bel)
           | (at_builtin; refine wpList_append_any _ rfl _ _ _ rfl wR.heap.size 5 i0 (.int .u8 0) 1 1 Tryz.underlying22 hi hz0 hz1 hz2 rfl (Nat.lt_succ_self 0) (.slice A1 (16 + 8 * j + m + 8 * j2) c1) (16 + 8 * j + m + 8 * j2) (cellsOf .u8 (bts k 8 ++ bts (s : Int) 8 ++ wordsB ws ++ rs ++ wordsB (is.take j2))) rfl ho1 w1.heap.size A2 8 c2 (cellsOf .u8 (bts x 8)) rfl R2 (cellsOf_one _ _) s3 (by omega) hb12.size ?_; intro v3 w3 ho3 hg3 hat3; have O3 := O1.app ho3 hg3; clear ho3 hg3 hat3 O1 R2 ho1 ho2 hb2 hb12))
         go_roundw
         case rel =>
           rw [List.append_assoc, <- HT.out] at O3
           exact ⟨j2 + 1, by omega, by go_num, O3⟩
         case measure => simp [intOf]; omega
       · have e : j2 = p := by omega
         subst e
         rw [List.take_of_length_le (by rw [HLI.out]; exact Nat.le_refl _), HS.out] at hO
         go_wp2
         clear k00 k01 k02 k03
         go_loopw [4] (fun v wr => ∃ z N : Nat, Hid (N = s + z /\ z <= padn s 8) /\ OutB wR v N (bts k 8 ++ bts (s : Int) 8 ++ wordsB ws ++ rs ++ wordsB is ++ List.replicate z 0) wr) (fun v _ => s + 8 - vlen v)
         case atStart => exact ⟨0, s, ⟨rfl, Nat.zero_le _⟩, by simpa using hO⟩
         case round =>
           clear hO
           obtain ⟨z, N, hN, hO⟩ := hrel
           have hNb : N <= 10008 := by have h := hN.out; have := padn_eight s; omega
           obtain ⟨A1, c1, rfl, _, _⟩ := own_form hO.own
           have ho1 := hO.own
           by_cases hz : N % 8 = 0
           · have t1 : ((N : Int) % 8 == 0) = true := by simp; omega
             have t2 : (N : Int) % 8 = 0 := by omega
             have HZZ := Lib.hid hz
             clear hz
             go_wp2
             go_ret
             have e : z = padn s 8 := by have h := hN.out; have h2 := HZZ.out; have := padn_eight s; omega
             have hO2 := hO.own
             rw [HZ.out z e] at hO2
             exact ⟨A1, N, c1, rfl, by have := hO2.1; rw [cellsOf_length] at this; omega, own_base hO2 HbR.size, HbR.trans (hO.bel.mono HbR.size), by assumption, Nat.le_trans (show c1 <= maxLen by assumption) (by unfold maxLen; omega)⟩
           · have t1 : ((N : Int) % 8 == 0) = false := by simp; omega
             have t2 : ¬ (N : Int) % 8 = 0 := by omega
             have HZZ := Lib.hid hz
             clear hz
             have s3 : N + 1 <= maxLen := by unfold maxLen; omega
             have s4 : wR.heap.size <= (wr.alloc (.cells #[Value.int IntKind.u8 0] 5)).heap.size := by have := hO.bel.size; simp; omega
             have O1 := hO.below (wy := wr.alloc (.cells #[Value.int IntKind.u8 0] 5)) ((Below.refl _ _).alloc (Nat.le_refl _) _)
             go_wp2_with (at_builtin; refine wpList_append_any _ rfl _ _ _ rfl wR.heap.size 5 i0 (.int .u8 0) 1 1 Tryz.underlying22 hi hz0 hz1 hz2 rfl (Nat.lt_succ_self 0) (.slice A1 N c1) N (cellsOf .u8 (bts k 8 ++ bts (s : Int) 8 ++ wordsB ws ++ rs ++ wordsB is ++ List.replicate z 0)) rfl O1.own (wr.heap.size + 1) _ 1 1 (cellsOf .u8 [0]) rfl (Reads.new1 _ _ _) (one_oneCell _ _) s3 (by omega) s4 ?_; intro v3 w3 ho3 hg3 hat3; have O3 := O1.app ho3 hg3; clear ho3 hg3 hat3)
             obtain ⟨A3, c3, rfl, _, _⟩ := own_form O3.own
             go_roundw
             case rel =>
               rw [List.append_assoc, <- List.replicate_succ'] at O3
               exact ⟨z + 1, N + 1, by show _ /\ _; have h := hN.out; have h2 := HZZ.out; have := padn_eight s; omega, O3⟩
             case measure => have h := hN.out; have h2 := HZZ.out; have := padn_eight s; simp [vlen]; omega
theorem roenc_no {L : Nat} (k : Int) (A : Option Addr) (n c : Nat) (ws : List Int) (B : Option Addr) (m d : Nat) (rs : List Int) (C : Option Addr) (p q : Nat) (is : List Int) (w : World) (h : ObR w L A n c ws B m d rs C p q is) (hr : rightN k n m p = false) :
 Calls Tryz.prog 106 #[obV k A n c B m d C p q] w (Told [] w) := by
 have h1 := h.wc
 have h2 := h.rc
 have h3 := h.ic
 have R1 := Lib.hid (rright_any k A n c B m d C p q)
 rw [hr] at R1
 clear h hr
 go_enter Tryz.func106, Tryz.ntmps106
 go_wp2_with (go_at_call 141; refine (R1.out _ (by omega) (by omega) (by omega)).mono ?_; rintro e wR ⟨rfl, hbR⟩)
 go_ret
 exact Told.nil _ _ (((Below.refl _ _).alloc (Nat.le_refl _) _).trans (hbR.mono (by simp)))
theorem roenc_any {L : Nat} (k : Int) (A : Option Addr) (n c : Nat) (ws : List Int) (B : Option Addr) (m d : Nat) (rs : List Int) (C : Option Addr) (p q : Nat) (is : List Int) (w : World) (h : ObR w L A n c ws B m d rs C p q is) (hL : L <= w.heap.size)
 (hw1 : ∀ z ∈ ws, 0 <= z /\ z < 18446744073709551616) (hw2 : ∀ z ∈ is, 0 <= z /\ z < 18446744073709551616) :
 Calls Tryz.prog 106 #[obV k A n c B m d C p q] w (Told (encR k ws rs is) w) := by
 have e1 := h.wr.len
 have e2 := h.rr.len
 have e3 := h.ir.len
 by_cases hr : rightN k n m p = true
 · have e : encR k ws rs is = encO k ws rs is := by unfold encR; rw [e1, e2, e3, hr]; rfl
   rw [e]
   exact roenc_yes k A n c ws B m d rs C p q is w h hL hr hw1 hw2
 · have hr : rightN k n m p = false := by simpa using hr
   have e : encR k ws rs is = [] := by unfold encR; rw [e1, e2, e3, hr]; rfl
   rw [e]
   exact roenc_no k A n c ws B m d rs C p q is w h hr
end Go.Proofs.YtaeegcohimflbaaGreat
