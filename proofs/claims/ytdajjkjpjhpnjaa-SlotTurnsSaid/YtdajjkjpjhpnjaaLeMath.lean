/-
  PLAIN ARITHMETIC FOR LAYER 1, of no program: the number of a list of bytes (the least one first), the bytes of a number, the next multiple of eight.
-/
import Derived.Laws.BitsAllLaws
set_option linter.unusedVariables false
set_option maxRecDepth 100000
namespace Go.Proofs.Ytdajjkjpjhpnjaa

/-- The number that a list of bytes is, the least one first. -/
def lev : List Int → Int
  | [] => 0
  | z :: r => z + 256 * lev r

/-- The k least bytes of a number, the least one first. -/
def enb : Nat → Int → List Int
  | 0, _ => []
  | k + 1, n => n % 256 :: enb k (n / 256)

/-- The bytes of Go's Bytes(n, width). -/
def bts (n width : Int) : List Int := enb (min width.toNat 8) n

/-- Is there a number of that width at that place? -/
def gok (len : Nat) (i width : Int) : Bool := (width == 1 || width == 2 || width == 4 || width == 8) && decide (0 ≤ i) && decide (i ≤ (len : Int) - width)

/-- The number at that place; 0 where there is none. -/
def gnum (zs : List Int) (i width : Int) : Int := if gok zs.length i width then lev ((zs.drop i.toNat).take width.toNat) else 0

/-- The next multiple of eight. -/
def algn (n : Int) : Int := if n < 0 then 0 else (n + 7) / 8 * 8

def AreB (l : List Int) : Prop := ∀ z ∈ l, 0 ≤ z ∧ z < 256

theorem AreB.nil : AreB [] := fun _ h => by cases h
theorem AreB.cons {z : Int} {l : List Int} (h : 0 ≤ z ∧ z < 256) (hl : AreB l) : AreB (z :: l) := fun x hx => by
  rcases List.mem_cons.1 hx with rfl | hx
  · exact h
  · exact hl x hx
theorem AreB.append {a b : List Int} (ha : AreB a) (hb : AreB b) : AreB (a ++ b) := fun x hx => by
  rcases List.mem_append.1 hx with h | h
  · exact ha x h
  · exact hb x h
theorem AreB.drop {l : List Int} (h : AreB l) (k : Nat) : AreB (l.drop k) := fun x hx => h x (List.mem_of_mem_drop hx)
theorem AreB.take {l : List Int} (h : AreB l) (k : Nat) : AreB (l.take k) := fun x hx => h x (List.mem_of_mem_take hx)
theorem AreB.get {l : List Int} (h : AreB l) (i : Nat) : 0 ≤ l.getD i 0 ∧ l.getD i 0 < 256 := by
  by_cases hi : i < l.length
  · rw [List.getD_eq_getElem?_getD, List.getElem?_eq_getElem hi]
    exact h _ (List.getElem_mem hi)
  · rw [List.getD_eq_getElem?_getD, List.getElem?_eq_none (by omega)]
    simp
theorem AreB.zeros (n : Nat) : AreB (List.replicate n 0) := fun x hx => by
  rw [List.eq_of_mem_replicate hx]; omega

theorem enb_length : ∀ (k : Nat) (n : Int), (enb k n).length = k
  | 0, _ => rfl
  | k + 1, n => by simp [enb, enb_length k]
theorem enb_bytes : ∀ (k : Nat) (n : Int), AreB (enb k n)
  | 0, _ => AreB.nil
  | k + 1, n => AreB.cons (by omega) (enb_bytes k _)
theorem enb_get : ∀ (k i : Nat) (n : Int), i < k → (enb k n).getD i 0 = n / 256 ^ i % 256
  | 0, _, _, h => by omega
  | k + 1, 0, n, _ => by simp [enb]
  | k + 1, i + 1, n, h => by
    simp only [enb, List.getD_cons_succ]
    rw [enb_get k i (n / 256) (by omega)]
    congr 1
    rw [Int.pow_succ, Int.mul_comm, ← Int.ediv_ediv_of_nonneg (by omega)]
theorem enb_snoc : ∀ (k : Nat) (n : Int), enb (k + 1) n = enb k n ++ [n / 256 ^ k % 256]
  | 0, n => by simp [enb]
  | k + 1, n => by
    rw [enb, enb_snoc k (n / 256), enb, List.cons_append]
    congr 3
    rw [Int.pow_succ, Int.mul_comm, ← Int.ediv_ediv_of_nonneg (by omega)]
theorem bts_length (n w : Int) : (bts n w).length = min w.toNat 8 := enb_length _ _
theorem bts_bytes (n w : Int) : AreB (bts n w) := enb_bytes _ _
theorem bts_le (n w : Int) : (bts n w).length ≤ 8 := by rw [bts_length]; omega

theorem lev_bound : ∀ l : List Int, AreB l → 0 ≤ lev l ∧ lev l < 256 ^ l.length
  | [], _ => by simp [lev]
  | z :: r, h => by
    have h1 := h z (by simp)
    have h2 := lev_bound r fun x hx => h x (by simp [hx])
    simp only [lev, List.length_cons, Int.pow_succ]
    omega
theorem lev_append : ∀ a b : List Int, lev (a ++ b) = lev a + 256 ^ a.length * lev b
  | [], b => by simp [lev]
  | z :: r, b => by
    simp only [List.cons_append, lev, lev_append r b, List.length_cons, Int.pow_succ, Int.mul_add, Int.add_assoc]
    congr 2
    rw [← Int.mul_assoc, Int.mul_comm 256]
theorem lev_snoc (l : List Int) (x : Int) : lev (l ++ [x]) = lev l + 256 ^ l.length * x := by rw [lev_append]; simp [lev]
theorem enb_lev : ∀ l : List Int, AreB l → enb l.length (lev l) = l
  | [], _ => rfl
  | z :: r, h => by
    have h1 := h z (by simp)
    have h2 := enb_lev r fun x hx => h x (by simp [hx])
    simp only [List.length_cons, enb, lev]
    rw [show (z + 256 * lev r) % 256 = z by omega, show (z + 256 * lev r) / 256 = lev r by omega, h2]
theorem lev_enb : ∀ (k : Nat) (n : Int), 0 ≤ n → n < 256 ^ k → lev (enb k n) = n
  | 0, n, h0, h1 => by simp at h1; simp [enb, lev]; omega
  | k + 1, n, h0, h1 => by
    rw [Int.pow_succ] at h1
    simp only [enb, lev]
    rw [lev_enb k (n / 256) (by omega) (by omega)]
    omega

theorem pow256_le (k : Nat) (h : k ≤ 8) : (1 : Int) ≤ 256 ^ k ∧ (256 : Int) ^ k ≤ 18446744073709551616 := by
  match k, h with
  | 0, _ | 1, _ | 2, _ | 3, _ | 4, _ | 5, _ | 6, _ | 7, _ | 8, _ => decide
  | k + 9, h => omega

theorem pow_cast (k : Nat) : ((2 ^ (8 * k) : Nat) : Int) = 256 ^ k := by
  rw [Nat.pow_mul, Int.natCast_pow]
  rfl

/-- A byte, put above k bytes. -/
theorem or_shift (k : Nat) (hk : k ≤ 7) (a x : Int) (ha : 0 ≤ a) (ha' : a < 256 ^ k) (hx : 0 ≤ x) (hx' : x < 256) :
    bits .or .u64 a (256 ^ k * x) = a + 256 ^ k * x := by
  have hp := pow256_le k (by omega)
  have hp1 := pow256_le (k + 1) (by omega)
  rw [Int.pow_succ] at hp1
  have hm0 : (0 : Int) ≤ 256 ^ k * x := Int.mul_nonneg (by omega) hx
  have hm1 : (256 : Int) ^ k * x ≤ 256 ^ k * 255 := Int.mul_le_mul_of_nonneg_left (by omega) (by omega)
  have hm : a + 256 ^ k * x < 18446744073709551616 := by omega
  rw [u64_or _ _ ha (by omega) hm0 (by omega)]
  obtain ⟨n, rfl⟩ := Int.eq_ofNat_of_zero_le ha
  obtain ⟨y, rfl⟩ := Int.eq_ofNat_of_zero_le hx
  have he : ((256 : Int) ^ k * (y : Int)).toNat = 2 ^ (8 * k) * y := by
    rw [← pow_cast, ← Int.natCast_mul, Int.toNat_natCast]
  have hn : n < 2 ^ (8 * k) := by
    rw [← pow_cast] at ha'
    omega
  rw [he, Int.toNat_natCast, Nat.or_comm, nat_join (8 * k) _ _ (Nat.mul_mod_right _ _) hn, ← pow_cast, ← Int.natCast_mul]
  omega

theorem or_step {k : Nat} (hk : k ≤ 7) {a x : Int} (ha : 0 ≤ a ∧ a < 256 ^ k) (hx : 0 ≤ x ∧ x < 256) :
    bits .or .u64 a (IntKind.u64.wrap (x * 2 ^ (8 * k))) = a + 256 ^ k * x := by
  have hp := pow256_le (k + 1) (by omega)
  have hp0 := pow256_le k (by omega)
  rw [Int.pow_succ] at hp
  have e : x * 2 ^ (8 * k) = 256 ^ k * x := by rw [← pow_cast, Int.natCast_pow, Int.mul_comm]; rfl
  have hm0 : (0 : Int) ≤ 256 ^ k * x := Int.mul_nonneg (by omega) hx.1
  have hm1 : (256 : Int) ^ k * x ≤ 256 ^ k * 255 := Int.mul_le_mul_of_nonneg_left (by omega) (by omega)
  rw [e, IntKind.wrap_u64, Int.emod_eq_of_lt hm0 (by omega)]
  exact or_shift k hk a x ha.1 ha.2 hx.1 hx.2

theorem take_step {zs : List Int} {j k : Nat} (h : j + k < zs.length) : (zs.drop j).take (k + 1) = (zs.drop j).take k ++ [zs.getD (j + k) 0] := by
  rw [List.take_succ_eq_append_getElem (by rw [List.length_drop]; omega), List.getElem_drop, List.getD_eq_getElem?_getD, List.getElem?_eq_getElem h]
  rfl
theorem lev_step {zs : List Int} {j k : Nat} (h : j + k < zs.length) : lev ((zs.drop j).take (k + 1)) = lev ((zs.drop j).take k) + 256 ^ k * zs.getD (j + k) 0 := by
  rw [take_step h, lev_snoc, List.length_take, List.length_drop, Nat.min_eq_left (by omega)]

/-- The scale behind k rounds. -/
def IsSc (k : Nat) (sc : Int) : Prop := k ≤ 7 → sc = 256 ^ k
theorem isSc_step {k : Nat} {sc : Int} (h : IsSc k sc) : IsSc (k + 1) (IntKind.u64.wrap (sc * 256)) := fun hk => by
  have hp := pow256_le (k + 1) (by omega)
  have hp2 := pow256_le (k + 2) (by omega)
  have h3 : (256 : Int) ^ (k + 2) = 256 ^ (k + 1) * 256 := Int.pow_succ ..
  rw [h (by omega), ← Int.pow_succ, IntKind.wrap_u64]
  exact Int.emod_eq_of_lt (by omega) (by omega)
theorem sc_step {k : Nat} (hk : k ≤ 7) {a x sc : Int} (ha : 0 ≤ a ∧ a < 256 ^ k) (hx : 0 ≤ x ∧ x < 256) (hs : sc = 256 ^ k) :
    IntKind.u64.wrap (a + IntKind.u64.wrap (sc * x)) = a + 256 ^ k * x := by
  subst hs
  have hp := pow256_le (k + 1) (by omega)
  have hp0 := pow256_le k (by omega)
  rw [Int.pow_succ] at hp
  have hm0 : (0 : Int) ≤ 256 ^ k * x := Int.mul_nonneg (by omega) hx.1
  have hm1 : (256 : Int) ^ k * x ≤ 256 ^ k * 255 := Int.mul_le_mul_of_nonneg_left (by omega) (by omega)
  rw [IntKind.wrap_u64, IntKind.wrap_u64, Int.emod_eq_of_lt hm0 (by omega), Int.emod_eq_of_lt (by omega) (by omega)]

theorem enb_fill {k m : Nat} (h : k < m) (n : Int) : (enb k n ++ List.replicate (m - k) 0).set k (n / 2 ^ (8 * k) % 256) = enb (k + 1) n ++ List.replicate (m - (k + 1)) 0 := by
  rw [List.set_append_right _ _ (by rw [enb_length]; omega), enb_length, Nat.sub_self, enb_snoc, List.append_assoc]
  congr 1
  obtain ⟨j, hj⟩ : ∃ j, m - k = j + 1 := ⟨m - k - 1, by omega⟩
  rw [hj, List.replicate_succ, List.set_cons_zero, show m - (k + 1) = j by omega, ← pow_cast, Int.natCast_pow]
  rfl

theorem wrap_small (n : Nat) (h : n < 9223372036854775808) : IntKind.i64.wrap (n : Int) = (n : Int) := by
  have e : (n : Int) % 2 ^ 64 = n := Int.emod_eq_of_lt (by omega) (by omega)
  simp only [IntKind.wrap, IntKind.bits, IntKind.signed, e]
  rw [if_neg]
  simp
  omega

theorem andNot_seven (i : Int) (h0 : 0 ≤ i) (h : i < 9223372036854775808) : bits .andNot .i64 i 7 = i / 8 * 8 := by
  obtain ⟨n, rfl⟩ := Int.eq_ofNat_of_zero_le h0
  show IntKind.i64.wrap ((BitVec.ofInt 64 (n : Int) &&& ~~~BitVec.ofInt 64 ((7 : Nat) : Int)).toNat : Int) = _
  rw [BitVec.toNat_and, BitVec.toNat_not, ofInt_u64 n (by omega), ofInt_u64 7 (by omega)]
  have e : 2 ^ 64 - 1 - 7 = 18446744073709551608 := by decide
  rw [e, nat_hi64_3, Nat.mod_eq_of_lt (by omega)]
  rw [wrap_small _ (by omega)]
  omega

theorem div_256 {q : Int} (h : 0 ≤ q ∧ q < 18446744073709551616) : IntKind.u64.wrap (q.tdiv 256) = q / 256 := by
  rw [IntKind.wrap_u64, Int.tdiv_eq_ediv_of_nonneg h.1]; omega

theorem div_pow {n : Int} (h : 0 ≤ n ∧ n < 18446744073709551616) (k : Nat) : 0 ≤ n / 256 ^ k ∧ n / 256 ^ k < 18446744073709551616 := by
  have hp : (0 : Int) < 256 ^ k := Int.pow_pos (by omega)
  exact ⟨Int.ediv_nonneg h.1 (Int.le_of_lt hp), Int.lt_of_le_of_lt (Int.ediv_le_self _ h.1) h.2⟩

theorem algn_at {n : Int} (h0 : 0 ≤ n) : algn n = (n + 7) / 8 * 8 := by unfold algn; rw [if_neg (by omega)]

end Go.Proofs.Ytdajjkjpjhpnjaa
