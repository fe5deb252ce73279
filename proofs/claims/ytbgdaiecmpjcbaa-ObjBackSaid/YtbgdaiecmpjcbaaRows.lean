/-
  No cell of these rows narrows 'for every input' (looked for: loops, veiled, ifaces, maps, wideKeys, modest, calm, conditions, laid).
  DERIVED. THE GIVEN ROWS OF THIS SEAT. 4 by the template 'for every input the law returns true; each argument reads behind the call as it read before'; 0 by the template 'total and deterministic' (their statements: YtbgdaiecmpjcbaaTotals.lean).
  GIVEN WITH THE SEED: the statements are not yours to turn. If you find one false, say at which input.
  Laid BY PROGRAM, IN A SANDBOX (cutbox-rows.mjs): the forced cells as the released guide's own fill.sh prints them over the translation f866402e0e1737ea… (all of the seat's roots in one cut). By AI agents, Wed Nov 11 2026. No macro, syntax, notation, axiom, sorry.
-/
import Derived.Test.YtbgdaiecmpjcbaaChecked
import GoSem.Claim
import GoSem.ClaimJoined
import GoSem.ClaimMapViews
import Derived.JoinedTies
import Derived.KernelRfl
namespace Go.Proofs.Ytbgdaiecmpjcbaa
/- THE CELL 'sum', in the pinned program and in every row, IS THE sha256 OF THE DUMP (.gsa) THAT YtbgdaiecmpjcbaaProg.lean LOADS. Nothing in Lean hashes anything: it is a label: what it is worth is what the hold of that sum in a sandbox is worth. -/
noncomputable def Try.pinned : Pinned := { name := "ytbgdaiecmpjcbaa", sum := "f866402e0e1737ea45028d4bec1f58a4cb176321773dc0134491ed240873380f", checked := Try.checked }
namespace Rows
def none {H : Type} : Left H := { results := [], args := [] }

/-- 'logbooklaw09.ObjWrites': WHATEVER THE INPUT: true; the input reads as it did. -/
def objWritesSpec : ChangeSpec := { name := "objWrites", fn := fun _ => fun
  | [d1, d2, d3] => { results := [.lit (.bool true)], args := [d1, d2, d3] }
  | _ => none }
def objWritesRow : OpenClaim := { program := "ytbgdaiecmpjcbaa", sum := "f866402e0e1737ea45028d4bec1f58a4cb176321773dc0134491ed240873380f", func := "logbook/logbooklaw09.ObjWrites", spec := "objWrites", apart := false }
def ObjWritesSaid : Prop := objWritesRow.holds Try.pinned (OpenSpec.ofChange objWritesSpec)

/-- ITS FALSE NEIGHBOUR: 'it returns false'. Refute it at one input. -/
def objWritesWrong : ChangeSpec := { name := "objWrites", fn := fun _ => fun
  | [d1, d2, d3] => { results := [.lit (.bool false)], args := [d1, d2, d3] }
  | _ => none }
def ObjWritesWrongFalsely : Prop := objWritesRow.holds Try.pinned (OpenSpec.ofChange objWritesWrong)

/-- 'logbooklaw09.ObjReads': WHATEVER THE INPUT: true; the input reads as it did. -/
def objReadsSpec : ChangeSpec := { name := "objReads", fn := fun _ => fun
  | [d1, d2] => { results := [.lit (.bool true)], args := [d1, d2] }
  | _ => none }
def objReadsRow : OpenClaim := { program := "ytbgdaiecmpjcbaa", sum := "f866402e0e1737ea45028d4bec1f58a4cb176321773dc0134491ed240873380f", func := "logbook/logbooklaw09.ObjReads", spec := "objReads", apart := false }
def ObjReadsSaid : Prop := objReadsRow.holds Try.pinned (OpenSpec.ofChange objReadsSpec)

/-- ITS FALSE NEIGHBOUR: 'it returns false'. Refute it at one input. -/
def objReadsWrong : ChangeSpec := { name := "objReads", fn := fun _ => fun
  | [d1, d2] => { results := [.lit (.bool false)], args := [d1, d2] }
  | _ => none }
def ObjReadsWrongFalsely : Prop := objReadsRow.holds Try.pinned (OpenSpec.ofChange objReadsWrong)

/-- 'logbooklaw09.ObjBack': WHATEVER THE INPUT: true; the input reads as it did. -/
def objBackSpec : ChangeSpec := { name := "objBack", fn := fun _ => fun
  | [d1, d2, d3] => { results := [.lit (.bool true)], args := [d1, d2, d3] }
  | _ => none }
def objBackRow : OpenClaim := { program := "ytbgdaiecmpjcbaa", sum := "f866402e0e1737ea45028d4bec1f58a4cb176321773dc0134491ed240873380f", func := "logbook/logbooklaw09.ObjBack", spec := "objBack", apart := false }
def ObjBackSaid : Prop := objBackRow.holds Try.pinned (OpenSpec.ofChange objBackSpec)

/-- ITS FALSE NEIGHBOUR: 'it returns false'. Refute it at one input. -/
def objBackWrong : ChangeSpec := { name := "objBack", fn := fun _ => fun
  | [d1, d2, d3] => { results := [.lit (.bool false)], args := [d1, d2, d3] }
  | _ => none }
def ObjBackWrongFalsely : Prop := objBackRow.holds Try.pinned (OpenSpec.ofChange objBackWrong)

/-- 'logbooklaw09.ObjSames': WHATEVER THE INPUT: true; the input reads as it did. -/
def objSamesSpec : ChangeSpec := { name := "objSames", fn := fun _ => fun
  | [d1, d2] => { results := [.lit (.bool true)], args := [d1, d2] }
  | _ => none }
def objSamesRow : OpenClaim := { program := "ytbgdaiecmpjcbaa", sum := "f866402e0e1737ea45028d4bec1f58a4cb176321773dc0134491ed240873380f", func := "logbook/logbooklaw09.ObjSames", spec := "objSames", apart := false }
def ObjSamesSaid : Prop := objSamesRow.holds Try.pinned (OpenSpec.ofChange objSamesSpec)

/-- ITS FALSE NEIGHBOUR: 'it returns false'. Refute it at one input. -/
def objSamesWrong : ChangeSpec := { name := "objSames", fn := fun _ => fun
  | [d1, d2] => { results := [.lit (.bool false)], args := [d1, d2] }
  | _ => none }
def ObjSamesWrongFalsely : Prop := objSamesRow.holds Try.pinned (OpenSpec.ofChange objSamesWrong)

/- THE SECOND FORM. 'bulk': how many values and letters a reading holds, each counted each time it is reached (what is shared counts as often as it is met; a slice's spare places count too). A statement '..UptoSaid' is the law's where the arguments, and the package variables that the reading takes, are together of bulk at most 1048576: NARROWER than '..Said'. Prove '..Said' where nothing that the law and all that it calls make is longer than what came in: it says more and counts as full. Else prove '..UptoSaid'. A law counts once. -/
mutual
def uptoBulk {H : Type} : DataW H → Nat
  | .lit (.string bytes) => bytes.length + 1
  | .lit _ => 1
  | .nil => 1
  | .ptr d => uptoBulk d + 1
  | .slice elems spare => uptoBulkAll elems + uptoBulkAll spare + 1
  | .agg parts => uptoBulkAll parts + 1
  | .iface _ d => uptoBulk d + 1
  | .map entries => uptoBulkEntries entries + 1
  | .held _ => 1
def uptoBulkAll {H : Type} : List (DataW H) → Nat
  | [] => 0
  | d :: r => uptoBulk d + uptoBulkAll r
def uptoBulkEntries {H : Type} : List (Lit × DataW H) → Nat
  | [] => 0
  | x :: r => uptoBulkEntry x + uptoBulkEntries r
def uptoBulkEntry {H : Type} : Lit × DataW H → Nat
  | (.string bytes, d) => bytes.length + uptoBulk d + 1
  | (_, d) => uptoBulk d + 1
 end
def uptoSmall : (H : Type) → List (DataW H) → Bool := fun _ ds => decide (uptoBulkAll ds ≤ 1048576)
def OpenSpec.upto (s : _root_.Go.ChangeSpec) : _root_.Go.OpenSpec := { _root_.Go.OpenSpec.ofChange s with cond := some uptoSmall }

/-- 'logbooklaw09.ObjWrites', WHERE WHAT IT READS IS OF BULK AT MOST 1048576: true; the input reads as it did. -/
def objWritesUptoRow : OpenClaim := { program := "ytbgdaiecmpjcbaa", sum := "f866402e0e1737ea45028d4bec1f58a4cb176321773dc0134491ed240873380f", func := "logbook/logbooklaw09.ObjWrites", spec := "objWrites", apart := false, narrowed := true }
def ObjWritesUptoSaid : Prop := objWritesUptoRow.holds Try.pinned (OpenSpec.upto objWritesSpec)

/-- 'logbooklaw09.ObjReads', WHERE WHAT IT READS IS OF BULK AT MOST 1048576: true; the input reads as it did. -/
def objReadsUptoRow : OpenClaim := { program := "ytbgdaiecmpjcbaa", sum := "f866402e0e1737ea45028d4bec1f58a4cb176321773dc0134491ed240873380f", func := "logbook/logbooklaw09.ObjReads", spec := "objReads", apart := false, narrowed := true }
def ObjReadsUptoSaid : Prop := objReadsUptoRow.holds Try.pinned (OpenSpec.upto objReadsSpec)

/-- 'logbooklaw09.ObjBack', WHERE WHAT IT READS IS OF BULK AT MOST 1048576: true; the input reads as it did. -/
def objBackUptoRow : OpenClaim := { program := "ytbgdaiecmpjcbaa", sum := "f866402e0e1737ea45028d4bec1f58a4cb176321773dc0134491ed240873380f", func := "logbook/logbooklaw09.ObjBack", spec := "objBack", apart := false, narrowed := true }
def ObjBackUptoSaid : Prop := objBackUptoRow.holds Try.pinned (OpenSpec.upto objBackSpec)

/-- 'logbooklaw09.ObjSames', WHERE WHAT IT READS IS OF BULK AT MOST 1048576: true; the input reads as it did. -/
def objSamesUptoRow : OpenClaim := { program := "ytbgdaiecmpjcbaa", sum := "f866402e0e1737ea45028d4bec1f58a4cb176321773dc0134491ed240873380f", func := "logbook/logbooklaw09.ObjSames", spec := "objSames", apart := false, narrowed := true }
def ObjSamesUptoSaid : Prop := objSamesUptoRow.holds Try.pinned (OpenSpec.upto objSamesSpec)

end Rows
end Go.Proofs.Ytbgdaiecmpjcbaa
