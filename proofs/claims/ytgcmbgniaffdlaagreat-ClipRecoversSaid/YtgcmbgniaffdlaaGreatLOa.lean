import Derived.Test.YtgcmbgniaffdlaaGreatLLe
set_option linter.unusedVariables false
set_option maxRecDepth 100000
namespace Go.Proofs.YtgcmbgniaffdlaaGreat
def kwN (k : Int) : Nat := if k = 1 then 5 else if k = 2 then 3 else if k = 3 then 5 else if k = 4 then 1 else 0
def mostN (k : Int) : Nat := if k = 1 then 1024 else if k = 2 then 64 else if k = 3 then 64 else if k = 4 then 1024 else 0
def hasI (k : Int) : Bool := k == 3 || k == 4
def frontN (k : Int) : Nat := 16 + 8 * kwN k
theorem kind_cases (k : Int) : k = 1 ∨ k = 2 ∨ k = 3 ∨ k = 4 ∨ (k ≠ 1 /\ k ≠ 2 /\ k ≠ 3 /\ k ≠ 4) := by omega
theorem kwN_no {k : Int} (h : k ≠ 1 /\ k ≠ 2 /\ k ≠ 3 /\ k ≠ 4) : kwN k = 0 := by simp [kwN, h]
theorem mostN_no {k : Int} (h : k ≠ 1 /\ k ≠ 2 /\ k ≠ 3 /\ k ≠ 4) : mostN k = 0 := by simp [mostN, h]
theorem hasI_no {k : Int} (h : k ≠ 1 /\ k ≠ 2 /\ k ≠ 3 /\ k ≠ 4) : hasI k = false := by
 obtain ⟨_, _, h3, h4⟩ := h
 simp [hasI, h3, h4]
theorem kwN_le (k : Int) : kwN k <= 5 := by unfold kwN; split <;> (try split) <;> (try split) <;> (try split) <;> omega
theorem mostN_le (k : Int) : mostN k <= 1024 := by unfold mostN; split <;> (try split) <;> (try split) <;> (try split) <;> omega
theorem frontN_le (k : Int) : frontN k <= 56 := by have := kwN_le k; unfold frontN; omega
def rightN (k : Int) (a b c : Nat) : Bool :=
 if hasI k then decide (a = kwN k) && decide (b = 0) && decide (1 <= c) && decide (c <= mostN k) else decide (a = kwN k) && decide (c = 0) && decide (1 <= b) && decide (b <= mostN k)
theorem rightN_len {k : Int} {a b c : Nat} (h : rightN k a b c = true) : a = kwN k /\ b <= 1024 /\ c <= 1024 /\ a <= 5 := by
 have h1 := mostN_le k
 have h2 := kwN_le k
 unfold rightN at h
 split at h <;> simp at h <;> omega
theorem rightN_kind {k : Int} {a b c : Nat} (h : rightN k a b c = true) : 1 <= k /\ k <= 4 := by
 rcases kind_cases k with rfl | rfl | rfl | rfl | hk
 · omega
 · omega
 · omega
 · omega
 · have := mostN_no hk
   unfold rightN at h
   rw [hasI_no hk, this] at h
   simp at h
   omega
def bareN (k : Int) (b c : Nat) : Nat := frontN k + 8 * c + b
end Go.Proofs.YtgcmbgniaffdlaaGreat
set_option linter.unusedSimpArgs false
namespace Go.Proofs.YtgcmbgniaffdlaaGreat
open Go.RowKit
theorem quietN_eq {P : Program} {f : FuncId} {args : Array Value} {w : World} {n : Nat} {v : Value}
 (h : Calls P f args (w.drewN n) fun e w' => e = .returned v /\ w.drewN n = w') : Calls P f args (w.drewN n) fun e w'' => e = .returned v /\ ∃ m, w'' = w.drewN m :=
 h.mono fun _ _ ⟨he, hm⟩ => ⟨he, n, hm.symm⟩
theorem quietN_eq2 {P : Program} {f : FuncId} {args : Array Value} {w : World} {n k : Nat} {v : Value}
 (h : Calls P f args (w.drewN (n + k)) fun e w' => e = .returned v /\ w.drewN (n + k) = w') : Calls P f args (w.drewN (n + k)) fun e w'' => e = .returned v /\ ∃ m, w'' = w.drewN (n + m) :=
 h.mono fun _ _ ⟨he, hm⟩ => ⟨he, k, hm.symm⟩
theorem owords_any (k : Int) (w : World) : Calls Tryz.prog 90 #[.int .i64 k] w fun e w' => e = .returned (.int .i64 (kwN k)) /\ w = w' := by
 rcases kind_cases k with rfl | rfl | rfl | rfl | ⟨h1, h2, h3, h4⟩
 rotate_left 4
 · rw [kwN_no ⟨h1, h2, h3, h4⟩]
   go_enter Tryz.func90, Tryz.ntmps90
   go_wp2
   go_ret
   exact ⟨rfl, rfl⟩
 all_goals
   go_enter Tryz.func90, Tryz.ntmps90
   go_wp2
   go_ret
   exact ⟨rfl, rfl⟩
theorem omost_any (k : Int) (w : World) : Calls Tryz.prog 185 #[.int .i64 k] w fun e w' => e = .returned (.int .i64 (mostN k)) /\ w = w' := by
 rcases kind_cases k with rfl | rfl | rfl | rfl | ⟨h1, h2, h3, h4⟩
 rotate_left 4
 · rw [mostN_no ⟨h1, h2, h3, h4⟩]
   go_enter Tryz.func185, Tryz.ntmps185
   go_wp2
   go_ret
   exact ⟨rfl, rfl⟩
 all_goals
   go_enter Tryz.func185, Tryz.ntmps185
   go_wp2
   go_ret
   exact ⟨rfl, rfl⟩
theorem ohas_any (k : Int) (w : World) : Calls Tryz.prog 166 #[.int .i64 k] w fun e w' => e = .returned (.bool (hasI k)) /\ w = w' := by
 rcases kind_cases k with rfl | rfl | rfl | rfl | ⟨h1, h2, h3, h4⟩
 rotate_left 4
 · rw [hasI_no ⟨h1, h2, h3, h4⟩]
   have e3 : (k == 3) = false := by simpa using h3
   have e4 : (k == 4) = false := by simpa using h4
   clear h1 h2 h3 h4
   go_enter Tryz.func166, Tryz.ntmps166
   go_wp2
   go_ret
   exact ⟨rfl, rfl⟩
 all_goals
   go_enter Tryz.func166, Tryz.ntmps166
   go_wp2
   go_ret
   exact ⟨rfl, rfl⟩
theorem oat_any (i : Int) (w : World) (h0 : 0 <= i) (h : i <= 1099511627776) : Calls Tryz.prog 128 #[.int .i64 i] w fun e w' => e = .returned (.int .i64 (16 + 8 * i)) /\ w = w' := by
 go_enter Tryz.func128, Tryz.ntmps128
 go_wp2
 go_ret
 exact ⟨ret_int (by omega), rfl⟩
theorem ofront_any (k : Int) (w : World) : Calls Tryz.prog 165 #[.int .i64 k] w fun e w' => e = .returned (.int .i64 (frontN k)) /\ w = w' := by
 have hk := kwN_le k
 go_enter Tryz.func165, Tryz.ntmps165
 go_wp2_with (first
   | (go_at_call 90; refine (owords_any k _).mono ?_; rintro e w1 ⟨rfl, rfl⟩)
   | (go_at_call 128; refine (oat_any _ _ (by omega) (by omega)).mono ?_; rintro e w1 ⟨rfl, rfl⟩))
 go_ret
 exact ⟨ret_int (by unfold frontN; omega), rfl⟩
theorem oitem_any (k i : Int) (w : World) (h0 : 0 <= i) (h : i <= 1099511627776) : Calls Tryz.prog 144 #[.int .i64 k, .int .i64 i] w fun e w' => e = .returned (.int .i64 (frontN k + 8 * i)) /\ w = w' := by
 have hk := frontN_le k
 go_enter Tryz.func144, Tryz.ntmps144
 go_wp2_with (go_at_call 165; refine (ofront_any k _).mono ?_; rintro e w1 ⟨rfl, rfl⟩)
 go_ret
 exact ⟨ret_int (by omega), rfl⟩
abbrev obV (k : Int) (A : Option Addr) (n c : Nat) (B : Option Addr) (m d : Nat) (C : Option Addr) (p q : Nat) : Value := .agg #[.int .i64 k, .slice A n c, .slice B m d, .slice C p q]
theorem rightN_eq (k : Int) (a b c x y : Nat) (h : Hid ((hasI k = true /\ x = c /\ y = b) ∨ (hasI k = false /\ x = b /\ y = c))) (t : Bool) (ht : t = (decide (a = kwN k) && decide (y = 0) && decide (1 <= x) && decide (x <= mostN k))) : t = rightN k a b c := by
 subst ht
 unfold rightN
 rcases h.out with ⟨h1, rfl, rfl⟩ | ⟨h1, rfl, rfl⟩ <;> rw [h1] <;> rfl
set_option maxHeartbeats 2000000 in
theorem oright_any (k : Int) (A : Option Addr) (n c : Nat) (B : Option Addr) (m d : Nat) (C : Option Addr) (p q : Nat) (w : World) (hn : n <= 9223372036854775807) (hm : m <= 9223372036854775807) (hp : p <= 9223372036854775807) :
 Calls Tryz.prog 139 #[obV k A n c B m d C p q] w fun e w' => e = .returned (.bool (rightN k n m p)) /\ Below w.heap.size w w' := by
 have K0 := kwN_le k
 have M0 := mostN_le k
 have HW := Lib.hid (owords_any k)
 have HM := Lib.hid (omost_any k)
 have HH := Lib.hid (ohas_any k)
 have HR := Lib.hid (rightN_eq k n m p)
 generalize kwN k = K at *
 generalize mostN k = M at *
 generalize hasI k = b at *
 cases b
 · rcases (show n ≠ K ∨ (n = K /\ p ≠ 0) ∨ (n = K /\ p = 0 /\ m = 0) ∨ (n = K /\ p = 0 /\ 1 <= m /\ M < m) ∨ (n = K /\ p = 0 /\ 1 <= m /\ m <= M) by omega) with h1 | ⟨rfl, h1⟩ | ⟨rfl, rfl, rfl⟩ | ⟨rfl, rfl, h2, h1⟩ | ⟨rfl, rfl, h2, h1⟩
   · have HF : Hid (n ≠ K) := h1
     have t1 : ((n : Int) == (K : Int)) = false := by simp; omega
     have t2 : decide ((n : Int) = (K : Int)) = false := by simp; omega
     have HR2 := Lib.hid (HR.out _ _ (.inr ⟨rfl, rfl, rfl⟩))
     clear HR
     clear h1
     go_enter Tryz.func139, Tryz.ntmps139
     go_wp2
     go_quiet (fail)
     go_wp2_with (go_at_call 166; refine (HH.out _).mono ?_; rintro e w1 ⟨rfl, rfl⟩)
     go_quiet ((first
       | (go_at_call 90; exact quietN_eq2 (HW.out _))
       | (go_at_call 185; exact quietN_eq2 (HM.out _))))
     go_wp2
     go_ret
     exact ⟨ret_bool (HR2.out _ (by have h := HF.out; simp; try omega)), below_drewn (below_drewn ((Below.refl _ _).alloc (Nat.le_refl _) _) _) _⟩
   · have HF : Hid (p ≠ 0) := h1
     have t1 : ((p : Int) == 0) = false := by simp; omega
     have t2 : decide ((p : Int) = 0) = false := by simp; omega
     have HR2 := Lib.hid (HR.out _ _ (.inr ⟨rfl, rfl, rfl⟩))
     clear HR
     clear h1
     go_enter Tryz.func139, Tryz.ntmps139
     go_wp2
     go_quiet (fail)
     go_wp2_with (go_at_call 166; refine (HH.out _).mono ?_; rintro e w1 ⟨rfl, rfl⟩)
     go_quiet ((first
       | (go_at_call 90; exact quietN_eq2 (HW.out _))
       | (go_at_call 185; exact quietN_eq2 (HM.out _))))
     go_wp2
     go_ret
     exact ⟨ret_bool (HR2.out _ (by have h := HF.out; simp; try omega)), below_drewn (below_drewn ((Below.refl _ _).alloc (Nat.le_refl _) _) _) _⟩
   · have HF : Hid True := trivial
     have HR2 := Lib.hid (HR.out _ _ (.inr ⟨rfl, rfl, rfl⟩))
     clear HR
     skip
     go_enter Tryz.func139, Tryz.ntmps139
     go_wp2
     go_quiet (fail)
     go_wp2_with (go_at_call 166; refine (HH.out _).mono ?_; rintro e w1 ⟨rfl, rfl⟩)
     go_quiet ((first
       | (go_at_call 90; exact quietN_eq2 (HW.out _))
       | (go_at_call 185; exact quietN_eq2 (HM.out _))))
     go_wp2
     go_ret
     exact ⟨ret_bool (HR2.out _ (by have h := HF.out; simp; try omega)), below_drewn (below_drewn ((Below.refl _ _).alloc (Nat.le_refl _) _) _) _⟩
   · have HF : Hid (1 <= m /\ M < m) := ⟨h2, h1⟩
     have t2 : (1 : Int) <= (m : Int) := by omega
     have t1 : decide ((m : Int) <= (M : Int)) = false := by simp; omega
     have HR2 := Lib.hid (HR.out _ _ (.inr ⟨rfl, rfl, rfl⟩))
     clear HR
     clear h1 h2
     go_enter Tryz.func139, Tryz.ntmps139
     go_wp2
     go_quiet (fail)
     go_wp2_with (go_at_call 166; refine (HH.out _).mono ?_; rintro e w1 ⟨rfl, rfl⟩)
     go_quiet ((first
       | (go_at_call 90; exact quietN_eq2 (HW.out _))
       | (go_at_call 185; exact quietN_eq2 (HM.out _))))
     go_wp2
     go_ret
     exact ⟨ret_bool (HR2.out _ (by have h := HF.out; simp; try omega)), below_drewn (below_drewn ((Below.refl _ _).alloc (Nat.le_refl _) _) _) _⟩
   · have HF : Hid (1 <= m /\ m <= M) := ⟨h2, h1⟩
     have t2 : (1 : Int) <= (m : Int) := by omega
     have t1 : (m : Int) <= (M : Int) := by omega
     have HR2 := Lib.hid (HR.out _ _ (.inr ⟨rfl, rfl, rfl⟩))
     clear HR
     clear h1 h2
     go_enter Tryz.func139, Tryz.ntmps139
     go_wp2
     go_quiet (fail)
     go_wp2_with (go_at_call 166; refine (HH.out _).mono ?_; rintro e w1 ⟨rfl, rfl⟩)
     go_quiet ((first
       | (go_at_call 90; exact quietN_eq2 (HW.out _))
       | (go_at_call 185; exact quietN_eq2 (HM.out _))))
     go_wp2
     go_ret
     exact ⟨ret_bool (HR2.out _ (by have h := HF.out; simp; try omega)), below_drewn (below_drewn ((Below.refl _ _).alloc (Nat.le_refl _) _) _) _⟩
 · rcases (show n ≠ K ∨ (n = K /\ m ≠ 0) ∨ (n = K /\ m = 0 /\ p = 0) ∨ (n = K /\ m = 0 /\ 1 <= p /\ M < p) ∨ (n = K /\ m = 0 /\ 1 <= p /\ p <= M) by omega) with h1 | ⟨rfl, h1⟩ | ⟨rfl, rfl, rfl⟩ | ⟨rfl, rfl, h2, h1⟩ | ⟨rfl, rfl, h2, h1⟩
   · have HF : Hid (n ≠ K) := h1
     have t1 : ((n : Int) == (K : Int)) = false := by simp; omega
     have t2 : decide ((n : Int) = (K : Int)) = false := by simp; omega
     have HR2 := Lib.hid (HR.out _ _ (.inl ⟨rfl, rfl, rfl⟩))
     clear HR
     clear h1
     go_enter Tryz.func139, Tryz.ntmps139
     go_wp2
     go_quiet (fail)
     go_wp2_with (go_at_call 166; refine (HH.out _).mono ?_; rintro e w1 ⟨rfl, rfl⟩)
     go_quiet ((first
       | (go_at_call 90; exact quietN_eq2 (HW.out _))
       | (go_at_call 185; exact quietN_eq2 (HM.out _))))
     go_wp2
     go_ret
     exact ⟨ret_bool (HR2.out _ (by have h := HF.out; simp; try omega)), below_drewn (below_drewn ((Below.refl _ _).alloc (Nat.le_refl _) _) _) _⟩
   · have HF : Hid (m ≠ 0) := h1
     have t1 : ((m : Int) == 0) = false := by simp; omega
     have t2 : decide ((m : Int) = 0) = false := by simp; omega
     have HR2 := Lib.hid (HR.out _ _ (.inl ⟨rfl, rfl, rfl⟩))
     clear HR
     clear h1
     go_enter Tryz.func139, Tryz.ntmps139
     go_wp2
     go_quiet (fail)
     go_wp2_with (go_at_call 166; refine (HH.out _).mono ?_; rintro e w1 ⟨rfl, rfl⟩)
     go_quiet ((first
       | (go_at_call 90; exact quietN_eq2 (HW.out _))
       | (go_at_call 185; exact quietN_eq2 (HM.out _))))
     go_wp2
     go_ret
     exact ⟨ret_bool (HR2.out _ (by have h := HF.out; simp; try omega)), below_drewn (below_drewn ((Below.refl _ _).alloc (Nat.le_refl _) _) _) _⟩
   · have HF : Hid True := trivial
     have HR2 := Lib.hid (HR.out _ _ (.inl ⟨rfl, rfl, rfl⟩))
     clear HR
     skip
     go_enter Tryz.func139, Tryz.ntmps139
     go_wp2
     go_quiet (fail)
     go_wp2_with (go_at_call 166; refine (HH.out _).mono ?_; rintro e w1 ⟨rfl, rfl⟩)
     go_quiet ((first
       | (go_at_call 90; exact quietN_eq2 (HW.out _))
       | (go_at_call 185; exact quietN_eq2 (HM.out _))))
     go_wp2
     go_ret
     exact ⟨ret_bool (HR2.out _ (by have h := HF.out; simp; try omega)), below_drewn (below_drewn ((Below.refl _ _).alloc (Nat.le_refl _) _) _) _⟩
   · have HF : Hid (1 <= p /\ M < p) := ⟨h2, h1⟩
     have t2 : (1 : Int) <= (p : Int) := by omega
     have t1 : decide ((p : Int) <= (M : Int)) = false := by simp; omega
     have HR2 := Lib.hid (HR.out _ _ (.inl ⟨rfl, rfl, rfl⟩))
     clear HR
     clear h1 h2
     go_enter Tryz.func139, Tryz.ntmps139
     go_wp2
     go_quiet (fail)
     go_wp2_with (go_at_call 166; refine (HH.out _).mono ?_; rintro e w1 ⟨rfl, rfl⟩)
     go_quiet ((first
       | (go_at_call 90; exact quietN_eq2 (HW.out _))
       | (go_at_call 185; exact quietN_eq2 (HM.out _))))
     go_wp2
     go_ret
     exact ⟨ret_bool (HR2.out _ (by have h := HF.out; simp; try omega)), below_drewn (below_drewn ((Below.refl _ _).alloc (Nat.le_refl _) _) _) _⟩
   · have HF : Hid (1 <= p /\ p <= M) := ⟨h2, h1⟩
     have t2 : (1 : Int) <= (p : Int) := by omega
     have t1 : (p : Int) <= (M : Int) := by omega
     have HR2 := Lib.hid (HR.out _ _ (.inl ⟨rfl, rfl, rfl⟩))
     clear HR
     clear h1 h2
     go_enter Tryz.func139, Tryz.ntmps139
     go_wp2
     go_quiet (fail)
     go_wp2_with (go_at_call 166; refine (HH.out _).mono ?_; rintro e w1 ⟨rfl, rfl⟩)
     go_quiet ((first
       | (go_at_call 90; exact quietN_eq2 (HW.out _))
       | (go_at_call 185; exact quietN_eq2 (HM.out _))))
     go_wp2
     go_ret
     exact ⟨ret_bool (HR2.out _ (by have h := HF.out; simp; try omega)), below_drewn (below_drewn ((Below.refl _ _).alloc (Nat.le_refl _) _) _) _⟩
theorem obare_any (k : Int) (A : Option Addr) (n c : Nat) (B : Option Addr) (m d : Nat) (C : Option Addr) (p q : Nat) (w : World) (hm : m <= 1099511627776) (hp : p <= 1099511627776) :
 Calls Tryz.prog 148 #[obV k A n c B m d C p q] w fun e w' => e = .returned (.int .i64 (bareN k m p)) /\ Below w.heap.size w w' := by
 have hk := frontN_le k
 go_enter Tryz.func148, Tryz.ntmps148
 go_wp2
 go_quiet ((go_at_call 144; exact quietN_eq (oitem_any k _ _ (by omega) (by omega))))
 go_wp2
 go_ret
 exact ⟨ret_int (by unfold bareN; omega), below_drewn ((Below.refl _ _).alloc (Nat.le_refl _) _) _⟩
theorem osize_any (k : Int) (A : Option Addr) (n c : Nat) (B : Option Addr) (m d : Nat) (C : Option Addr) (p q : Nat) (w : World) (hm : m <= 1099511627776) (hp : p <= 1099511627776) :
 Calls Tryz.prog 96 #[obV k A n c B m d C p q] w fun e w' => e = .returned (.int .i64 (algn (bareN k m p))) /\ Below w.heap.size w w' := by
 have hk := frontN_le k
 have hb : bareN k m p <= 100000000000000 := by unfold bareN; omega
 go_enter Tryz.func96, Tryz.ntmps96
 go_wp2_with (first
   | (go_at_call 148; refine (obare_any k A n c B m d C p q _ hm hp).mono ?_; rintro e w1 ⟨rfl, hb1⟩)
   | (go_at_call 147; refine (align_any _ _ (by omega) (by omega)).mono ?_; rintro e w2 ⟨rfl, rfl⟩))
 go_ret
 exact ⟨rfl, ((Below.refl _ _).alloc (Nat.le_refl _) _).trans (hb1.mono (by simp))⟩
structure ObR (w : World) (L : Nat) (A : Option Addr) (n c : Nat) (ws : List Int) (B : Option Addr) (m d : Nat) (rs : List Int) (C : Option Addr) (p q : Nat) (is : List Int) : Prop where
 wr : Reads w L 1 A n (cellsOf .u64 ws)
 rr : Reads w L 1 B m (cellsOf .u8 rs)
 ir : Reads w L 1 C p (cellsOf .u64 is)
 wc : n <= c /\ c <= 9223372036854775807
 rc : m <= d /\ d <= 9223372036854775807
 ic : p <= q /\ q <= 9223372036854775807
section
variable {w w' : World} {L L' : Nat} {A : Option Addr} {n c : Nat} {ws : List Int} {B : Option Addr} {m d : Nat} {rs : List Int} {C : Option Addr} {p q : Nat} {is : List Int}
theorem ObR.below (h : ObR w L A n c ws B m d rs C p q is) (hb : Below w.heap.size w w') (hL : L <= w.heap.size) : ObR w' L A n c ws B m d rs C p q is :=
 ⟨h.wr.keep fun p hp => hb.cell (by omega), h.rr.keep fun p hp => hb.cell (by omega), h.ir.keep fun p hp => hb.cell (by omega), h.wc, h.rc, h.ic⟩
end
def headO (k : Int) (ws rs is : List Int) : List Int := (((wordsB [k, (bareN k rs.length is.length : Nat)]) ++ wordsB ws) ++ rs) ++ wordsB is
def encO (k : Int) (ws rs is : List Int) : List Int := headO k ws rs is ++ List.replicate (padn (headO k ws rs is).length 8) 0
theorem headO_length (k : Int) (ws rs is : List Int) : (headO k ws rs is).length = 16 + 8 * ws.length + rs.length + 8 * is.length := by
 simp only [headO, List.length_append, wordsB_length, List.length_cons, List.length_nil]
theorem headO_bytes {k : Int} {ws rs is : List Int} (h : AreB rs) : AreB (headO k ws rs is) := (((wordsB_bytes _).append (wordsB_bytes _)).append h).append (wordsB_bytes _)
theorem encO_bytes {k : Int} {ws rs is : List Int} (h : AreB rs) : AreB (encO k ws rs is) := (headO_bytes h).append (AreB.zeros _)
abbrev ObAt (w : World) (g : Nat) (k : Int) (A : Option Addr) (n c : Nat) (B : Option Addr) (m d : Nat) (C : Option Addr) (p q : Nat) : Prop :=
 w.cell? ⟨g, 0, none⟩ = some (.int .i64 k) /\ w.cell? ⟨g, 1, none⟩ = some (.slice A n c) /\ w.cell? ⟨g, 2, none⟩ = some (.slice B m d) /\ w.cell? ⟨g, 3, none⟩ = some (.slice C p q)
theorem obAt_of {w w' : World} {t : TypeId} {k : Int} {A : Option Addr} {n c : Nat} {B : Option Addr} {m d : Nat} {C : Option Addr} {p q : Nat}
 (h : Below (w.alloc (.cells #[.int .i64 k, .slice A n c, .slice B m d, .slice C p q] t)).heap.size (w.alloc (.cells #[.int .i64 k, .slice A n c, .slice B m d, .slice C p q] t)) w') : ObAt w' w.heap.size k A n c B m d C p q := by
 have hb := (Blk.new w t #[.int .i64 k, .slice A n c, .slice B m d, .slice C p q]).below h (by simp)
 exact ⟨by rw [hb.cell]; rfl, by rw [hb.cell]; rfl, by rw [hb.cell]; rfl, by rw [hb.cell]; rfl⟩
set_option maxRecDepth 100000 in
set_option maxHeartbeats 2000000 in
theorem oenc_yes {L : Nat} (k : Int) (A : Option Addr) (n c : Nat) (ws : List Int) (B : Option Addr) (m d : Nat) (rs : List Int) (C : Option Addr) (p q : Nat) (is : List Int) (w : World) (h : ObR w L A n c ws B m d rs C p q is) (hL : L <= w.heap.size) (hr : rightN k n m p = true) :
 Calls Tryz.prog 140 #[obV k A n c B m d C p q] w (Told (encO k ws rs is) w) := by
 have hk := rightN_kind hr
 obtain ⟨-, l2, l3, l4⟩ := rightN_len hr
 have R1 := Lib.hid (oright_any k A n c B m d C p q)
 rw [hr] at R1
 have HB := Lib.hid (fun w => obare_any k A n c B m d C p q w (by omega) (by omega))
 have HBN : bareN k m p <= 10000 := by have := frontN_le k; unfold bareN; omega
 obtain ⟨s, hs⟩ : ∃ s, Hid (bareN k m p = s) := ⟨_, rfl⟩
 rw [hs.out] at HB HBN
 have hlw := h.wr.len
 have hlr := h.rr.len
 have hli := h.ir.len
 have L1 : Hid (([] ++ wordsB [k, (s : Int)]).length = 16) := by show _ = _; simp [wordsB_length]
 have L2 : Hid (([] ++ wordsB [k, (s : Int)] ++ wordsB ws).length = 16 + 8 * n) := by show _ = _; rw [List.length_append, L1.out, wordsB_length, hlw]
 have L3 : Hid (([] ++ wordsB [k, (s : Int)] ++ wordsB ws ++ rs).length = 16 + 8 * n + m) := by show _ = _; rw [List.length_append, L2.out, hlr]
 have L4 : Hid (([] ++ wordsB [k, (s : Int)] ++ wordsB ws ++ rs ++ wordsB is).length = 16 + 8 * n + m + 8 * p) := by show _ = _; rw [List.length_append, L3.out, wordsB_length, hli]
 have HZ : Hid ([] ++ wordsB [k, (s : Int)] ++ wordsB ws ++ rs ++ wordsB is ++ List.replicate (padn ([] ++ wordsB [k, (s : Int)] ++ wordsB ws ++ rs ++ wordsB is).length 8) 0 = encO k ws rs is) := by
   show _ = _
   unfold encO headO
   rw [hlr, hli, hs.out]
   rfl
 have H0 := Lib.hid h
 clear h hr hlw hlr hli
 have hwk : IntKind.u64.wrap k = k := by rw [IntKind.wrap_u64]; omega
 have hws : IntKind.u64.wrap (s : Int) = s := by rw [IntKind.wrap_u64]; omega
 have T8 : (8 : Int) <= 4096 := by omega
 go_enter Tryz.func140, Tryz.ntmps140
 go_wp2_with (go_at_call 139; go_loud (refine (R1.out _ (by omega) (by omega) (by omega)).mono ?_; rintro e wR ⟨rfl, hbR⟩; have HbR : Below w.heap.size w wR := ((Below.refl _ _).alloc (Nat.le_refl _) _).trans (hbR.mono (by simp)); have HO := Lib.hid (fun wx (hx : Below wR.heap.size wR wx) => obAt_of (hbR.trans (hx.mono hbR.size))); have W0 := (nob wR).below (below_drewn (Below.refl _ _) 1); have HK := Lib.hid (HO.out _ W0.bel); have H1 := Lib.hid (H0.out.below HbR hL); have hL2 : L <= wR.heap.size := Nat.le_trans hL HbR.size; clear hbR))
 have hg : wR.heap.size <= wR.heap.size := Nat.le_refl _
 go_region_held3 (fun w' => ObAt w' w.heap.size k A n c B m d C p q)
   (first | assumption | exact HK.out | exact HO.out _ (W3.bel.alloc W3.bel.size _))
   (first
     | (go_at_call 148; go_loud (refine (HB.out _).mono ?_; rintro e w3 ⟨rfl, hb3⟩; have W3 := W0.below hb3; have hk3 := HO.out _ W3.bel; clear hb3))
     | (go_at_call 79; go_loud (have W4 := W3.below ((Below.refl _ _).alloc (Nat.le_refl _) (.cells #[.int .u64 k, .int .u64 s] 27)); have hr4 : Reads (w3.alloc (.cells #[.int .u64 k, .int .u64 s] 27)) (w3.heap.size + 1) 1 (some ⟨w3.heap.size, 0, none⟩) 2 (cellsOf .u64 [k, (s : Int)]) := Reads.newN _ _ _; refine (words_any _ _ _ _ 2 2 [k, (s : Int)] _ W4.wr hr4 (by simp) (fun _ ad e => by (injection e with e); subst e; rintro (e2 | e2); (have h9 := W3.wr.blk.lt; have e3 : w3.heap.size = wR.heap.size := e2; omega); (simp [Value.ownBlock] at e2)) (by simp)).mono ?_; rintro e w5 ⟨rfl, hp5⟩; obtain ⟨v5, W5⟩ := W4.step hg hp5; have hk5 := HO.out _ W5.bel; clear hp5 hr4)))
 clear W0 W3 W4 HK hk3
 have m1 : True := trivial
 go_wp2_with (first
   | (go_at_call 79; clear m1; refine (words_any _ v5 _ A n c ws _ W5.wr (H1.out.below W5.bel hL2).wr (Nat.le_trans hL2 W5.bel.size) (W5.dis hg H0.out.wr hL2) (by rw [L1.out]; omega)).mono ?_; rintro e w6 ⟨rfl, hp6⟩; obtain ⟨v6, W6⟩ := W5.step hg hp6; obtain ⟨k60, k61, k62, k63⟩ := HO.out _ W6.bel; clear hp6)
   | (go_at_call 78; refine (raw_any _ v6 _ B m d rs _ W6.wr (H1.out.below W6.bel hL2).rr (by rw [L2.out]; omega)).mono ?_; rintro e w7 ⟨rfl, hp7⟩; obtain ⟨v7, W7⟩ := W6.step hg hp7; obtain ⟨k70, k71, k72, k73⟩ := HO.out _ W7.bel; clear hp7)
   | (go_at_call 79; refine (words_any _ v7 _ C p q is _ W7.wr (H1.out.below W7.bel hL2).ir (Nat.le_trans hL2 W7.bel.size) (W7.dis hg H0.out.ir hL2) (by rw [L3.out]; omega)).mono ?_; rintro e w8 ⟨rfl, hp8⟩; obtain ⟨v8, W8⟩ := W7.step hg hp8; clear hp8)
   | (go_at_call 83; refine (pad_any _ v8 _ 8 _ W8.wr T8 (by omega) (by rw [L4.out]; omega)).mono ?_; rintro e w9 ⟨rfl, hp9⟩; rw [HZ.out] at hp9; obtain ⟨v9, W9⟩ := W8.step hg hp9; clear hp9)
   | (go_at_call 82; refine (wdone_any _ v9 _ _ W9.wr (by rw [<- HZ.out, List.length_append, L4.out, List.length_replicate]; have := padn_lt (16 + 8 * n + m + 8 * p) T8; omega)).mono ?_; rintro e w10 ⟨A', c', rfl, ho, hb, h1, h2⟩))
 go_ret
 have hb9 := HbR.trans (W9.bel.mono HbR.size)
 exact ⟨A', _, c', rfl, rfl, own_base ho hb9.size, hb9.trans (hb.mono hb9.size), h1, by unfold maxLen at h2; omega⟩
theorem wordsB_two (a b : Int) : wordsB [a, b] = bts a 8 ++ bts b 8 := by simp [wordsB]
end Go.Proofs.YtgcmbgniaffdlaaGreat
