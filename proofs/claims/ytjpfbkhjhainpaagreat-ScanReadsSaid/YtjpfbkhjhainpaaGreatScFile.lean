/-
  LAYER 17, PLAIN: what stands in a file of entries, as scan reads it.
-/
import Derived.Test.YtjpfbkhjhainpaaGreatScEnts
set_option linter.unusedVariables false
set_option maxRecDepth 100000
set_option linter.unusedSimpArgs false
namespace Go.Proofs.YtjpfbkhjhainpaaGreat
open Go.RowKit Go.Shelf

/-- An object of a file, as it stands there. -/
def srG (b : List Int) (r : GO) : SR := ⟨r.at_, r.k, sizA b r.at_⟩
structure SrG (b : List Int) (r : GO) : Prop where
  is_ : (srG b r).Is b
  fin : (srG b r).fin = r.at_ + r.len
  wds : (srG b r).wds b = r.ws
  raw : (srG b r).raw b = r.raw
  its : (srG b r).its b = r.its
theorem GB.srG {lo : Nat} {b : List Int} {l : List GO} (h : GB lo b l) {r : GO} (hr : r ∈ l) : SrG b r := by
  have hf := h.fine r hr
  obtain ⟨s, d1, d2, d3, d4, d5, d6⟩ := HoldsB.dec (h.held r hr) hf.1.al hf.1.right hf.1.us hf.1.is
  have e : sizA b r.at_ = s := by
    have h9 := d1.sd
    unfold sizA
    rw [h9]; simp
  have e2 : Go.Proofs.YtjpfbkhjhainpaaGreat.srG b r = ⟨r.at_, r.k, s⟩ := by unfold Go.Proofs.YtjpfbkhjhainpaaGreat.srG; rw [e]
  constructor
  · rw [e2]; exact ⟨d1, d2⟩
  · rw [e2]
    show r.at_ + (s + padn s 8) = r.at_ + (encO r.k r.ws r.raw r.its).length
    rw [d3]
  · rw [e2]; exact d4
  · rw [e2]; exact d5
  · rw [e2]; exact d6
/-- Objects that fill all up to the end. -/
theorem scan_fill {b : List Int} : ∀ {l : List GO} {a : Nat}, fillG a b.length l → (∀ r ∈ l, SrG b r) → scanAt b a (l.map (srG b)) ∧ lastE a (l.map (srG b)) = b.length
  | [], a, h, _ => by
    have h' : a = b.length := h
    refine ⟨fun j k s e hd => ?_, by rw [h']; rfl⟩
    have := hd.room
    omega
  | r :: l, a, h, hf => by
    have hr := hf r (by simp)
    have h1 := scan_fill h.2 (fun q hq => hf q (by simp [hq]))
    have e : (srG b r).fin = a + r.len := by rw [hr.fin, h.1]
    refine ⟨⟨by show (a : Int) = (r.at_ : Int); rw [h.1], hr.is_, ?_⟩, ?_⟩
    · show scanAt b ((srG b r).fin : Int) (l.map (srG b))
      rw [e]; exact h1.1
    · show lastE ((srG b r).fin : Int) (l.map (srG b)) = _
      rw [e]; exact h1.2
theorem ents_map (b : List Int) (l : List GO) : entsS (l.map (srG b)) = (l.filter fun r => r.k == 3).map (srG b) := by
  unfold entsS
  rw [List.filter_map]
  rfl
section
variable {k d f : Int} {b : List Int} {l : List GO} {R : List DR} {O : List GO} {Lr : List Int} {E : List (List (List Int))}
theorem EV.srG (V : EV k d f b l R O Lr) {o : GO} (ho : o ∈ O) : SrG b o := by
  rw [← V.ent] at ho
  exact V.db.gb.srG (List.mem_filter.1 ho).1
/-- THE FILE, read through. -/
theorem EV.scan (V : EV k d f b l R O Lr) : ∃ L, scanAt b (newK d f : Nat) L ∧ lastE (newK d f : Nat) L = b.length ∧ entsS L = O.map (Go.Proofs.YtjpfbkhjhainpaaGreat.srG b) := by
  have h := scan_fill V.db.gb.fill (fun r hr => V.db.gb.srG hr)
  exact ⟨_, h.1, h.2, by rw [ents_map, V.ent]⟩
/-- A datum of an entry. -/
theorem EV.datum (V : EV k d f b l R O Lr) (H : EL R O Lr E) {zs : List (List Int)} (hz : zs ∈ E) {z : List Int} (h : z ∈ zs) : ∃ o2 ∈ l, o2.k = 1 ∧ o2.raw = z ∧ findD R z = some o2.at_ := by
  obtain ⟨a, ha⟩ := Option.isSome_iff_exists.1 (H.known zs hz z h)
  obtain ⟨j, r, hr, e1, e2⟩ := findD_at ha
  obtain ⟨o2, -, h2, h3, h4, h5, -⟩ := V.rows.obj hr
  exact ⟨o2, h2, h3, h4.trans e1, by rw [ha, h5, e2]⟩
theorem EL.row (H : EL R O Lr E) {i : Nat} {o : GO} {zs : List (List Int)} (ho : O[i]? = some o) (hz : E[i]? = some zs) : o.its = zs.map fun z => (((findD R z).getD 0 : Nat) : Int) := by
  have h9 := congrArg (fun l : List (List Int) => l[i]?) H.its
  simp only [List.getElem?_map, ho, hz, Option.map_some] at h9
  injection h9
theorem EL.other (H : EL R O Lr E) {i : Nat} {o : GO} (ho : O[i]? = some o) : ∃ zs, E[i]? = some zs ∧ zs ∈ E := by
  have hl := H.len
  have hi := (List.getElem?_eq_some_iff.1 ho).1
  have e : E[i]? = some (E[i]'(by omega)) := List.getElem?_eq_getElem _
  exact ⟨_, e, List.getElem_mem _⟩
/-- Each entry's items can be read. -/
theorem EV.okE (V : EV k d f b l R O Lr) (H : EL R O Lr E) {o : GO} (ho : o ∈ O) : OkE b (newK d f : Nat) (Go.Proofs.YtjpfbkhjhainpaaGreat.srG b o) := by
  intro p hp
  rw [(V.srG ho).its] at hp
  obtain ⟨i, hi⟩ := List.getElem?_of_mem ho
  obtain ⟨zs, hz, hzm⟩ := H.other hi
  have hp2 := hp
  rw [H.row hi hz] at hp2
  obtain ⟨z, hzz, rfl⟩ := List.mem_map.1 hp2
  obtain ⟨o2, hm, hk, hraw, hf⟩ := V.datum H hzm hzz
  have hah := V.ahead o ho _ hp
  have hg := V.db.gb.srG hm
  rw [hf] at hah ⊢
  have hlo := (V.db.gb.fine o2 hm).2.1
  refine ⟨?_, ?_, hah, ?_⟩
  · show ((newK d f : Nat) : Int) ≤ ((o2.at_ : Nat) : Int); omega
  · show (0 : Int) ≤ ((o2.at_ : Nat) : Int); omega
  · have h9 := hg.is_
    unfold Go.Proofs.YtjpfbkhjhainpaaGreat.srG at h9
    rw [hk] at h9
    exact h9
/-- What they read as. -/
theorem EV.itemsT (V : EV k d f b l R O Lr) (H : EL R O Lr E) {i : Nat} {o : GO} {zs : List (List Int)} (ho : O[i]? = some o) (hz : E[i]? = some zs) : Go.Proofs.YtjpfbkhjhainpaaGreat.itemsT b o.its = zs.map strOfNums := by
  rw [H.row ho hz]
  unfold Go.Proofs.YtjpfbkhjhainpaaGreat.itemsT
  rw [List.map_map]
  refine List.map_congr_left fun z hzz => ?_
  obtain ⟨o2, hm, hk, hraw, hf⟩ := V.datum H (List.mem_of_getElem? hz) hzz
  have hg := (V.db.gb.srG hm).raw
  unfold Go.Proofs.YtjpfbkhjhainpaaGreat.srG SR.raw at hg
  rw [hk, hraw] at hg
  show strOfNums (itemZ b (((findD R z).getD 0 : Nat) : Int)) = _
  rw [hf]
  exact congrArg strOfNums hg
/-- They are the records that were put. -/
theorem EV.ensR {lw : List RC} (V : EV k d f b l R O Lr) (H : EL R O Lr (lw.map fun r => r.its.map nums)) {xo : List ByteArray → Int} (hob : ∀ (i : Nat) (o : GO) (r : RC), O[i]? = some o → lw[i]? = some r → o.ws = [r.seq, r.real, r.mono, r.boot, xo r.its]) : EnsR b (O.map (Go.Proofs.YtjpfbkhjhainpaaGreat.srG b)) lw := by
  have hl := H.len
  rw [List.length_map] at hl
  refine ⟨by rw [List.length_map, hl], fun i rc hrc => ?_⟩
  have hi := (List.getElem?_eq_some_iff.1 hrc).1
  obtain ⟨o, ho⟩ : ∃ o, O[i]? = some o := ⟨_, List.getElem?_eq_getElem (by omega)⟩
  have hw := hob i o rc ho hrc
  have hg := V.srG (List.mem_of_getElem? ho)
  refine ⟨Go.Proofs.YtjpfbkhjhainpaaGreat.srG b o, by rw [List.getElem?_map, ho]; rfl, ?_⟩
  have hz : (lw.map fun r => r.its.map nums)[i]? = some (rc.its.map nums) := by rw [List.getElem?_map, hrc]; rfl
  refine ⟨by rw [hg.wds, hw]; rfl, by rw [hg.wds, hw]; rfl, by rw [hg.wds, hw]; rfl, by rw [hg.wds, hw]; rfl, ?_⟩
  rw [hg.its, V.itemsT H ho hz, List.map_map]
  have e : (strOfNums ∘ nums) = id := by funext s; exact str_nums s
  rw [e, List.map_id]
end
end Go.Proofs.YtjpfbkhjhainpaaGreat
