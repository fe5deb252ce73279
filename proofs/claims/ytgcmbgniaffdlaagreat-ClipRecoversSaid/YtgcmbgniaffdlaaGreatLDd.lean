import Derived.Test.YtgcmbgniaffdlaaGreatDaBase
set_option linter.unusedVariables false
set_option maxRecDepth 100000
set_option linter.unusedSimpArgs false
namespace Go.Proofs.YtgcmbgniaffdlaaGreat
open Go.RowKit
section
variable {base p : Nat} {S : Nat -> Prop} {i k d f h : Int} {m : IM} {bv sv : Value}
theorem idone_any (w : World) (H : IX w base S p i k d f h m bv sv) :
 Calls Tryz.prog 14 #[.pointer (some ⟨p, 0, none⟩)] w fun e w' => e = .returned (.tuple #[]) /\ IXT base S p i k d f h m.done w w' := by
 obtain ⟨A, c, rfl, -, -, -⟩ := H.reads
 obtain ⟨⟨-, -, -, -, -, -, c6, c7, c8⟩, -, f6, f7, f8⟩ := nine H.blk
 have HD := Lib.hid H.setDone
 obtain ⟨n, hn⟩ : ∃ n, n = m.b.length := ⟨_, rfl⟩
 rw [<- hn] at c6 HD
 clear H hn
 go_enter Tryz.func14, Tryz.ntmps14
 go_wp2
 go_end0
 exact ⟨rfl, HD.out⟩
theorem zeroW_snoc (b : List Int) (ws : List Nat) (q : Nat) : zeroW b (ws ++ [q]) = splice (zeroW b ws) q (List.replicate 8 0) := by simp [zeroW]
theorem bts_zero : bts 0 8 = List.replicate 8 0 := by decide
structure BackAt (w wr : World) (base : Nat) (S : Nat -> Prop) (p : Nat) (i k d f h : Int) (m : IM) (bv sv : Value) (q : Nat) : Prop where
 ix : IX wr base S p i k d f h { m with b := zeroW m.b (m.words.take q) } bv sv
 chg : Chg S w wr
theorem BackAt.next {w wr w' : World} {q a : Nat} (H : BackAt w wr base S p i k d f h m bv sv q) (hq : m.words[q]? = some a) (hc : Chg (fun j => bv.ownBlock = some j) wr w')
 (hx : IX w' base S p i k d f h { m with b := splice (zeroW m.b (m.words.take q)) a (bts 0 8) } bv sv) : BackAt w w' base S p i k d f h m bv sv (q + 1) := by
 obtain ⟨hlt, he⟩ := List.getElem?_eq_some_iff.1 hq
 refine ⟨?_, H.chg.trans hc (fun j _ e => H.ix.inb j e)⟩
 rw [List.take_succ_eq_append_getElem hlt, he, zeroW_snoc, <- bts_zero]
 exact hx
set_option maxHeartbeats 2000000 in
theorem iback_any (w : World) (H : IX w base S p i k d f h m bv sv) (hg : m.Good) (hl : m.b.length <= 1099511627776) (hN : m.words.length <= 1000000000) :
 Calls Tryz.prog 48 #[.pointer (some ⟨p, 0, none⟩)] w fun e w' => e = .returned (.tuple #[]) /\ IXT base S p i k d f h m.back w w' := by
 obtain ⟨A, c, rfl, q1, q2, -⟩ := H.reads
 obtain ⟨As, cs, rfl, s1, s2, s3⟩ := H.places
 obtain ⟨⟨-, -, -, -, -, -, c6, c7, c8⟩, -, f6, f7, f8⟩ := nine H.blk
 obtain ⟨n, hn⟩ : ∃ n, n = m.words.length := ⟨_, rfl⟩
 have HS : Hid (BackAt w w base S p i k d f h m (.slice A m.b.length c) (.slice As n cs) 0) := ⟨by simpa [zeroW, hn] using H, Chg.refl _ _⟩
 have HF := Lib.hid (And.intro H.foot H.bas)
 have HG := Lib.hid hg
 have hcap : (m.was.length : Int) <= (c : Int) := by have := hg.le; omega
 rw [<- hn] at c8 hN
 obtain ⟨o, ho⟩ : ∃ o, o = m.was.length := ⟨_, rfl⟩
 obtain ⟨L, hL⟩ : ∃ L, L = m.b.length := ⟨_, rfl⟩
 rw [<- ho] at c7 hcap
 rw [<- hL] at c6 HS
 have HO := Lib.hid ho
 have HLL := Lib.hid hL
 have HNN := Lib.hid hn
 clear H q1 q2 s1 s2 s3 hn hg c6 c7 f6 f7 f8 ho hL
 go_enter Tryz.func48, Tryz.ntmps48
 go_wp2
 go_loopw [11] (fun z wr => ∃ q : Nat, q <= n /\ z = .int .i64 q /\ Hid (BackAt w wr base S p i k d f h m (.slice A L c) (.slice As n cs) q)) (fun z _ => n - (intOf z).toNat)
 case atStart => exact ⟨0, Nat.zero_le _, rfl, HS⟩
 case round =>
   clear HS c8
   obtain ⟨q, hq, rfl, HB⟩ := hrel
   by_cases hlt : q < n
   · obtain ⟨a, ha⟩ : ∃ a, m.words[q]? = some a := ⟨_, List.getElem?_eq_getElem (by have := HNN.out; omega)⟩
     have hset := HB.out.ix.set
     rw [show (IM.mk (zeroW m.b (m.words.take q)) m.was m.words m.lim).words.length = n from HNN.out.symm] at hset
     obtain ⟨bb, off, rfl, -, hcell⟩ := (Reads.of_own hset).plain (by omega)
     have hc := hcell q hlt
     rw [nats_get (by have := HNN.out; show q < m.words.length; omega)] at hc
     rw [show (IM.mk (zeroW m.b (m.words.take q)) m.was m.words m.lim).words.getD q 0 = a by show m.words.getD q 0 = a; simp [List.getD_eq_getElem?_getD, ha]] at hc
     have hw := HG.out.ws a (List.mem_of_getElem? ha)
     have hzl : (zeroW m.b (m.words.take q)).length = m.b.length := zeroW_length _ _ (fun x hx => (HG.out.ws x (List.mem_of_mem_take hx)).2.1)
     have LL := Lib.hid (ilay_any a 0 wr HB.out.ix (by rw [show (IM.mk (zeroW m.b (m.words.take q)) m.was m.words m.lim).b.length = m.b.length from hzl]; exact hw.2.1))
     have HA := Lib.hid ha
     have t1 : (q : Int) < (n : Int) := by omega
     clear hset hcell hw hzl ha
     go_wp2_with (go_at_call 95; go_loud (refine LL.out.mono ?_; rintro e w1 ⟨rfl, hc1, hx1⟩; have HN2 := Lib.hid (HB.out.next HA.out hc1 hx1); clear hc1 hx1))
     go_roundw
     case rel => exact ⟨q + 1, by omega, by go_num, HN2⟩
     case measure => simp [intOf]; omega
   · obtain rfl : q = n := by omega
     have t1 : ¬ (q : Int) < (q : Int) := by omega
     obtain ⟨⟨-, -, -, -, -, -, c6, c7, c8⟩, -, f6, f7, f8⟩ := nine HB.out.ix.blk
     rw [show (IM.mk (zeroW m.b (m.words.take q)) m.was m.words m.lim).was.length = o from HO.out.symm] at c7
     go_wp2
     go_region
     all_goals
       go_end0
       have hzl : (zeroW m.b m.words).length = m.b.length := zeroW_length _ _ (fun x hx => (HG.out.ws x hx).2.1)
       have hx := HB.out.ix
       rw [show m.words.take q = m.words from List.take_of_length_le (by have := HNN.out; omega)] at hx
       have hb := (hx.drewN 1).setBack (by rw [show (IM.mk (zeroW m.b m.words) m.was m.words m.lim).b.length = m.b.length from hzl]; exact HG.out.le) HG.out.undo rfl
       rw [show (IM.mk (zeroW m.b m.words) m.was m.words m.lim).was.length = o from HO.out.symm] at hb
       refine ⟨rfl, ?_⟩
       exact (hb.later (HB.out.chg.drewN 1) HF.out.1 HF.out.2)
end
end Go.Proofs.YtgcmbgniaffdlaaGreat
