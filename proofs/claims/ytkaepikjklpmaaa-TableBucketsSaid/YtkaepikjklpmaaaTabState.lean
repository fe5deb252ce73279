/-
  LAYER 13: an image with tables as the statements hold it; Add and Find of it; the example.
-/
import Derived.Test.YtkaepikjklpmaaaTabAdd
set_option linter.unusedVariables false
set_option maxRecDepth 100000
set_option linter.unusedSimpArgs false
namespace Go.Proofs.Ytkaepikjklpmaaa
open Go.RowKit

/-- An image in memory whose tables hold these rows. -/
structure TS (w : World) (base : Nat) (S : Nat → Prop) (p : Nat) (k d f : Int) (lim : Nat) (l : List TRow) (tl cnt : Nat) : Prop where
  ex : ∃ m bv sv, IX w base S p 0 k d f 0 m bv sv ∧ TB k d f m.b l ∧ AreB m.b ∧ m.lim = lim ∧ m.b.length = tl ∧ m.words.length ≤ cnt ∧ m.was.length ≤ 1099511627776
  key : IsU k
  small : lim ≤ 1048576 ∧ cnt ≤ 1000000000

section
variable {w w' : World} {base p : Nat} {S : Nat → Prop} {k d f : Int} {lim : Nat} {l : List TRow} {tl cnt : Nat}

theorem TS.keep {T : Nat → Prop} (h : TS w base S p k d f lim l tl cnt) (hc : Chg T w w') (hT : ∀ j, S j → ¬ T j) : TS w' base S p k d f lim l tl cnt := by
  obtain ⟨⟨m, bv, sv, H, r⟩, hk, hs⟩ := h
  exact ⟨⟨m, bv, sv, H.keep hc hT, r⟩, hk, hs⟩
theorem TS.below (h : TS w base S p k d f lim l tl cnt) (hb : Below w.heap.size w w') : TS w' base S p k d f lim l tl cnt := h.keep (Chg.of_below hb (Nat.le_refl _) (fun _ => False)) (fun _ _ e => e)
theorem TS.mono {T : Nat → Prop} (h : TS w base S p k d f lim l tl cnt) (hS : ∀ j, S j → T j) (hT : ∀ j, T j → base ≤ j ∧ j < w.heap.size) : TS w base T p k d f lim l tl cnt := by
  obtain ⟨⟨m, bv, sv, H, r⟩, hk, hs⟩ := h
  exact ⟨⟨m, bv, sv, H.mono hS hT, r⟩, hk, hs⟩
theorem TS.foot (h : TS w base S p k d f lim l tl cnt) : ∀ j, S j → base ≤ j ∧ j < w.heap.size := by
  obtain ⟨⟨m, bv, sv, H, r⟩, -, -⟩ := h
  exact H.foot
theorem TS.bas (h : TS w base S p k d f lim l tl cnt) : base ≤ w.heap.size := by
  obtain ⟨⟨m, bv, sv, H, r⟩, -, -⟩ := h
  exact H.bas
theorem TS.mostT (h : TS w base S p k d f lim l tl cnt) : tl ≤ 1099511627776 := by
  obtain ⟨⟨m, bv, sv, H, T, -, -, e, -, -⟩, -, -⟩ := h
  rw [← e]; exact T.most
theorem TS.tail (h : TS w base S p k d f lim l tl cnt) : Calls Try.prog 11 #[.pointer (some ⟨p, 0, none⟩)] w fun e w' => e = .returned (.int .i64 tl) ∧ w = w' := by
  obtain ⟨⟨m, bv, sv, H, T, -, -, e, -, -⟩, -, -⟩ := h
  obtain ⟨A, c, rfl, -, -, -⟩ := H.reads
  rw [← e]
  exact itail_any p _ A c w (nine H.blk).1.2.2.2.2.2.2.1

theorem tfind_ts {B : Nat} (h : TS w base S p k d f lim l tl cnt) (kd : Nat) (hkd : kd = 1 ∨ kd = 2) (A : Option Addr) (n c : Nat) (zs : List Int) (hr : Reads w B 1 A n (cellsOf .u8 zs)) (hB : B ≤ w.heap.size) (hz : AreB zs) (hl : n ≤ c) (hcap : c ≤ 9223372036854775807) (hn : n ≤ 140737488355328) :
    Calls Try.prog 15 #[.pointer (some ⟨p, 0, none⟩), .int .i64 kd, .slice A n c] w fun e w' => e = .returned (.tuple #[.int .i64 ((findR l kd zs).getD 0 : Nat), .bool (findR l kd zs).isSome]) ∧ Below w.heap.size w w' := by
  obtain ⟨⟨m, bv, sv, H, T, hb, -, -, -, -⟩, hk, -⟩ := h
  exact tfind_any kd hkd A n c zs w H hb hk T hr hB hz hl hcap hn
theorem tsum_ts {B : Nat} (h : TS w base S p k d f lim l tl cnt) (A : Option Addr) (n c : Nat) (zs : List Int) (hr : Reads w B 1 A n (cellsOf .u8 zs)) (hB : B ≤ w.heap.size) (hz : AreB zs) (hl : n ≤ c) (hcap : c ≤ 9223372036854775807) (hn : n ≤ 140737488355328) :
    Calls Try.prog 13 #[.pointer (some ⟨p, 0, none⟩), .slice A n c] w fun e w' => e = .returned (.int .u64 (hsh k zs)) ∧ Below w.heap.size w w' := by
  obtain ⟨⟨m, bv, sv, H, T, hb, -, -, -, -⟩, hk, -⟩ := h
  exact tsum_any A n c zs w H hk hr hB hz hl hcap hn

/-- What Add tells, and what it leaves. -/
def AddTold (base : Nat) (S : Nat → Prop) (p : Nat) (k d f : Int) (lim : Nat) (l : List TRow) (tl cnt : Nat) (kd : Nat) (zs : List Int) (w : World) (e : Ending) (w' : World) : Prop :=
  (∃ a, findR l kd zs = some a ∧ e = .returned (.tuple #[.int .i64 (a : Nat), .bool false, .int .i64 0]) ∧ Below w.heap.size w w') ∨
  (findR l kd zs = none ∧ lim < tl + tlen kd zs.length ∧ e = .returned (.tuple #[.int .i64 0, .bool false, .int .i64 21]) ∧ Below w.heap.size w w') ∨
  (findR l kd zs = none ∧ tl + tlen kd zs.length ≤ lim ∧ e = .returned (.tuple #[.int .i64 (tl : Nat), .bool true, .int .i64 0]) ∧ Chg S w w' ∧ TS w' base (grow S w w') p k d f lim (l ++ [⟨kd, zs, tl⟩]) (tl + tlen kd zs.length) (cnt + 1))

theorem tadd_ts {B : Nat} (h : TS w base S p k d f lim l tl cnt) (hc1 : cnt + 1 ≤ 1000000000) (kd : Nat) (hkd : kd = 1 ∨ kd = 2) (A : Option Addr) (n c : Nat) (zs : List Int) (hr : Reads w B 1 A n (cellsOf .u8 zs)) (hB : B ≤ w.heap.size) (hz : AreB zs) (hl : n ≤ c) (hcap : c ≤ 9223372036854775807) (hn : n ≤ 140737488355328) (hrt : rightN kd (kwN kd) zs.length 0 = true) :
    Calls Try.prog 12 #[.pointer (some ⟨p, 0, none⟩), .int .i64 kd, .slice A n c] w (AddTold base S p k d f lim l tl cnt kd zs w) := by
  obtain ⟨⟨m, bv, sv, H, T, hb, rfl, rfl, hw, hwas⟩, hk, hs⟩ := h
  refine (tadd_any kd hkd A n c zs w H hb hk T hs.1 (by omega) hwas hr hB hz hl hcap hn hrt).mono ?_
  rintro e w' (h1 | h2 | ⟨h3, h4, rfl, h5⟩)
  · exact .inl h1
  · exact .inr (.inl h2)
  · refine .inr (.inr ⟨h3, h4, rfl, h5.1, ?_⟩)
    obtain ⟨hq1, hq2⟩ := bktN_eq T.hD T.hF (kd := kd) (hsh_isU k zs)
    have hfine : (⟨kd, zs, m.b.length⟩ : TRow).Fine := ⟨hkd, hrt, hz, T.al⟩
    obtain ⟨c5, bv5, sv5, H5⟩ := h5
    have hT := T.add (r := ⟨kd, zs, m.b.length⟩) hfine rfl (by show m.b.length + tlen kd zs.length ≤ _; have := hs.1; omega) (i := bktN d f kd (hsh k zs)) hq1
    obtain ⟨k1, k2, k3, k4⟩ := T.link hkd hq2
    have hx : (tO k ⟨kd, zs, m.b.length⟩ 0).length = tlen kd zs.length := tO_length hfine
    have hxB : AreB (tO k ⟨kd, zs, m.b.length⟩ 0) := encO_bytes hz
    refine ⟨⟨_, bv5, sv5, H5, hT, ?_, rfl, ?_, ?_, hwas⟩, hk, hs.1, hc1⟩
    · exact splice_bytes (hb.append hxB) (bts_bytes _ _) _
    · show (splice (m.b ++ tO k ⟨kd, zs, m.b.length⟩ 0) _ _).length = _
      rw [splice_len _ _ _ (by rw [List.length_append, bts8_length]; omega), List.length_append, hx]
    · show (if _ < m.was.length then m.words ++ [_] else m.words).length ≤ _
      split
      · rw [List.length_append]; simp; omega
      · omega
end

theorem AddTold.old {base p : Nat} {S : Nat → Prop} {k d f : Int} {lim : Nat} {l : List TRow} {tl cnt kd a : Nat} {zs : List Int} {w w' : World} {e : Ending} (h : AddTold base S p k d f lim l tl cnt kd zs w e w') (hf : findR l kd zs = some a) :
    e = .returned (.tuple #[.int .i64 (a : Nat), .bool false, .int .i64 0]) ∧ Below w.heap.size w w' := by
  rcases h with ⟨b, h1, h2, h3⟩ | ⟨h1, -⟩ | ⟨h1, -⟩
  · rw [hf] at h1; injection h1 with h1; subst h1; exact ⟨h2, h3⟩
  · rw [hf] at h1; cases h1
  · rw [hf] at h1; cases h1
theorem AddTold.full {base p : Nat} {S : Nat → Prop} {k d f : Int} {lim : Nat} {l : List TRow} {tl cnt kd : Nat} {zs : List Int} {w w' : World} {e : Ending} (h : AddTold base S p k d f lim l tl cnt kd zs w e w') (hf : findR l kd zs = none) (hl : lim < tl + tlen kd zs.length) :
    e = .returned (.tuple #[.int .i64 0, .bool false, .int .i64 21]) ∧ Below w.heap.size w w' := by
  rcases h with ⟨b, h1, -⟩ | ⟨-, -, h1⟩ | ⟨-, h1, -⟩
  · rw [hf] at h1; cases h1
  · exact h1
  · omega
theorem AddTold.new {base p : Nat} {S : Nat → Prop} {k d f : Int} {lim : Nat} {l : List TRow} {tl cnt kd : Nat} {zs : List Int} {w w' : World} {e : Ending} (h : AddTold base S p k d f lim l tl cnt kd zs w e w') (hf : findR l kd zs = none) (hl : tl + tlen kd zs.length ≤ lim) :
    e = .returned (.tuple #[.int .i64 (tl : Nat), .bool true, .int .i64 0]) ∧ Chg S w w' ∧ TS w' base (grow S w w') p k d f lim (l ++ [⟨kd, zs, tl⟩]) (tl + tlen kd zs.length) (cnt + 1) := by
  rcases h with ⟨b, h1, -⟩ | ⟨-, h1, -⟩ | ⟨-, -, h1⟩
  · rw [hf] at h1; cases h1
  · omega
  · exact h1

theorem nz_newB {k d f : Int} {j : Nat} (hj : 64 ≤ j) : nz (newB 0 k d f 0) j = 0 := by
  unfold newB
  rw [nz_append, encH_length, if_neg (by omega)]
  exact nz_of_all (fun z hz => (List.mem_replicate.1 hz).2) _

/-- A new image. -/
theorem tnew_ts {base : Nat} (G : Nat) (k d f : Int) (lm : Nat) (w : World) (hk : IsU k) (hd : 1 ≤ d ∧ d ≤ 256) (hf : 1 ≤ f ∧ f ≤ 256) (ht : IsTable w G) (hbas : base ≤ w.heap.size) (hlm : lm ≤ 1048576) :
    Calls Try.prog 22 #[.pointer (some ⟨G, 0, none⟩), hdV 0 k d f 0, .int .i64 lm] w fun e w' => ∃ p, e = .returned (.pointer (some ⟨p, 0, none⟩)) ∧ Below w.heap.size w w' ∧ TS w' base (fun j => w.heap.size ≤ j ∧ j < w'.heap.size) p k d f lm [] (newK d f) 0 := by
  have hr : rightH d f = true := by simp [rightH]; omega
  refine (inew_yes (base := base) G 0 k d f 0 lm w hr ht hbas).mono ?_
  rintro e w' ⟨p, bv, sv, rfl, hb, H⟩
  have hlen : (newB 0 k d f 0).length = newK d f := newB_length hr
  have := newK_val hd hf
  refine ⟨p, rfl, hb, ⟨_, bv, sv, H, TB.nothing hd hf hlen (fun j hj => nz_newB (by omega)), newB_bytes _ _ _ _ _, rfl, hlen, by simp, by show (newB 0 k d f 0).length ≤ _; rw [hlen]; omega⟩, hk, hlm, by omega⟩

end Go.Proofs.Ytkaepikjklpmaaa
