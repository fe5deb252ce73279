/-
  No cell of these rows narrows 'for every input' (looked for: loops, veiled, ifaces, maps, wideKeys, modest, calm, conditions, laid).
  DERIVED. THE GIVEN ROWS OF THIS SEAT. 3 by the template 'for every input the law returns true; each argument reads behind the call as it read before'; 0 by the template 'total and deterministic' (their statements: YtaeegcohimflbaaGreatTotals.lean).
  GIVEN WITH THE SEED: the statements are not yours to turn. If you find one false, say at which input.
  Laid BY PROGRAM, IN A SANDBOX (cutbox-rows.mjs): the forced cells as the released guide's own fill.sh prints them over the translation ca5233aee5f9b1e4… (all of the seat's roots in one cut). By AI agents, Wed Nov 11 2026. No macro, syntax, notation, axiom, sorry.
-/
import Derived.Test.YtaeegcohimflbaaGreatChecked
import GoSem.Claim
import GoSem.ClaimJoined
import GoSem.ClaimMapViews
import Derived.JoinedTies
import Derived.KernelRfl
namespace Go.Proofs.YtaeegcohimflbaaGreat
/- THE CELL 'sum', in the pinned program and in every row, IS THE sha256 OF THE DUMP (.gsa) THAT YtaeegcohimflbaaGreatProg.lean LOADS. Nothing in Lean hashes anything: it is a label: what it is worth is what the hold of that sum in a sandbox is worth. -/
noncomputable def Tryz.pinned : Pinned := { name := "ytaeegcohimflbaagreat", sum := "ca5233aee5f9b1e457aaa7ce4f21e65d9211f0f17706280cd186a12348db2759", checked := Tryz.checked }
namespace Rows
def none {H : Type} : Left H := { results := [], args := [] }

/-- 'logbooklaw18.ClipCuts': WHATEVER THE INPUT: true; the input reads as it did. -/
def clipCutsSpec : ChangeSpec := { name := "clipCuts", fn := fun _ => fun
  | [d1, d2, d3, d4] => { results := [.lit (.bool true)], args := [d1, d2, d3, d4] }
  | _ => none }
def clipCutsRow : OpenClaim := { program := "ytaeegcohimflbaagreat", sum := "ca5233aee5f9b1e457aaa7ce4f21e65d9211f0f17706280cd186a12348db2759", func := "logbook/logbooklaw18.ClipCuts", spec := "clipCuts", inPlace := ["internal/bytealg.IndexByteString", "internal/bytealg.IndexString", "internal/bytealg.abigen_runtime_cmpstring"], unfollowed := true, recurses := true, named := ["internal/bytealg.MaxLen"], apart := false }
def ClipCutsSaid : Prop := clipCutsRow.holds Tryz.pinned (OpenSpec.ofChange clipCutsSpec)

/-- ITS FALSE NEIGHBOUR: 'it returns false'. Refute it at one input. -/
def clipCutsWrong : ChangeSpec := { name := "clipCuts", fn := fun _ => fun
  | [d1, d2, d3, d4] => { results := [.lit (.bool false)], args := [d1, d2, d3, d4] }
  | _ => none }
def ClipCutsWrongFalsely : Prop := clipCutsRow.holds Tryz.pinned (OpenSpec.ofChange clipCutsWrong)

/-- 'logbooklaw18.ClipOpens': WHATEVER THE INPUT: true; the input reads as it did. -/
def clipOpensSpec : ChangeSpec := { name := "clipOpens", fn := fun _ => fun
  | [d] => { results := [.lit (.bool true)], args := [d] }
  | _ => none }
def clipOpensRow : OpenClaim := { program := "ytaeegcohimflbaagreat", sum := "ca5233aee5f9b1e457aaa7ce4f21e65d9211f0f17706280cd186a12348db2759", func := "logbook/logbooklaw18.ClipOpens", spec := "clipOpens", inPlace := ["internal/bytealg.IndexByteString", "internal/bytealg.IndexString", "internal/bytealg.abigen_runtime_cmpstring"], unfollowed := true, recurses := true, named := ["internal/bytealg.MaxLen"], apart := false }
def ClipOpensSaid : Prop := clipOpensRow.holds Tryz.pinned (OpenSpec.ofChange clipOpensSpec)

/-- ITS FALSE NEIGHBOUR: 'it returns false'. Refute it at one input. -/
def clipOpensWrong : ChangeSpec := { name := "clipOpens", fn := fun _ => fun
  | [d] => { results := [.lit (.bool false)], args := [d] }
  | _ => none }
def ClipOpensWrongFalsely : Prop := clipOpensRow.holds Tryz.pinned (OpenSpec.ofChange clipOpensWrong)

/-- 'logbooklaw18.ClipRecovers': WHATEVER THE INPUT: true; the input reads as it did. -/
def clipRecoversSpec : ChangeSpec := { name := "clipRecovers", fn := fun _ => fun
  | [d1, d2, d3, d4, d5, d6] => { results := [.lit (.bool true)], args := [d1, d2, d3, d4, d5, d6] }
  | _ => none }
def clipRecoversRow : OpenClaim := { program := "ytaeegcohimflbaagreat", sum := "ca5233aee5f9b1e457aaa7ce4f21e65d9211f0f17706280cd186a12348db2759", func := "logbook/logbooklaw18.ClipRecovers", spec := "clipRecovers", inPlace := ["internal/bytealg.IndexByteString", "internal/bytealg.IndexString", "internal/bytealg.abigen_runtime_cmpstring"], unfollowed := true, recurses := true, named := ["internal/bytealg.MaxLen"], apart := false }
def ClipRecoversSaid : Prop := clipRecoversRow.holds Tryz.pinned (OpenSpec.ofChange clipRecoversSpec)

/-- ITS FALSE NEIGHBOUR: 'it returns false'. Refute it at one input. -/
def clipRecoversWrong : ChangeSpec := { name := "clipRecovers", fn := fun _ => fun
  | [d1, d2, d3, d4, d5, d6] => { results := [.lit (.bool false)], args := [d1, d2, d3, d4, d5, d6] }
  | _ => none }
def ClipRecoversWrongFalsely : Prop := clipRecoversRow.holds Tryz.pinned (OpenSpec.ofChange clipRecoversWrong)

/- THE SECOND FORM. 'bulk': how many values and letters a reading holds, each counted each time it is reached (what is shared counts as often as it is met; a slice's spare places count too). A statement '..UptoSaid' is the law's where the arguments, and the package variables that the reading takes, are together of bulk at most 1048576: NARROWER than '..Said'. Prove '..Said' where nothing that the law and all that it calls make is longer than what came in: it says more and counts as full. Else prove '..UptoSaid'. A law counts once. -/
mutual
def uptoBulk {H : Type} : DataW H → Nat
  | .lit (.string bytes) => bytes.length + 1
  | .lit _ => 1
  | .nil => 1
  | .ptr d => uptoBulk d + 1
  | .slice elems spare => uptoBulkAll elems + uptoBulkAll spare + 1
  | .agg parts => uptoBulkAll parts + 1
  | .iface _ d => uptoBulk d + 1
  | .map entries => uptoBulkEntries entries + 1
  | .held _ => 1
def uptoBulkAll {H : Type} : List (DataW H) → Nat
  | [] => 0
  | d :: r => uptoBulk d + uptoBulkAll r
def uptoBulkEntries {H : Type} : List (Lit × DataW H) → Nat
  | [] => 0
  | x :: r => uptoBulkEntry x + uptoBulkEntries r
def uptoBulkEntry {H : Type} : Lit × DataW H → Nat
  | (.string bytes, d) => bytes.length + uptoBulk d + 1
  | (_, d) => uptoBulk d + 1
 end
def uptoSmall : (H : Type) → List (DataW H) → Bool := fun _ ds => decide (uptoBulkAll ds ≤ 1048576)
def OpenSpec.upto (s : _root_.Go.ChangeSpec) : _root_.Go.OpenSpec := { _root_.Go.OpenSpec.ofChange s with cond := some uptoSmall }

/-- 'logbooklaw18.ClipCuts', WHERE WHAT IT READS IS OF BULK AT MOST 1048576: true; the input reads as it did. -/
def clipCutsUptoRow : OpenClaim := { program := "ytaeegcohimflbaagreat", sum := "ca5233aee5f9b1e457aaa7ce4f21e65d9211f0f17706280cd186a12348db2759", func := "logbook/logbooklaw18.ClipCuts", spec := "clipCuts", inPlace := ["internal/bytealg.IndexByteString", "internal/bytealg.IndexString", "internal/bytealg.abigen_runtime_cmpstring"], unfollowed := true, recurses := true, named := ["internal/bytealg.MaxLen"], apart := false, narrowed := true }
def ClipCutsUptoSaid : Prop := clipCutsUptoRow.holds Tryz.pinned (OpenSpec.upto clipCutsSpec)

/-- 'logbooklaw18.ClipOpens', WHERE WHAT IT READS IS OF BULK AT MOST 1048576: true; the input reads as it did. -/
def clipOpensUptoRow : OpenClaim := { program := "ytaeegcohimflbaagreat", sum := "ca5233aee5f9b1e457aaa7ce4f21e65d9211f0f17706280cd186a12348db2759", func := "logbook/logbooklaw18.ClipOpens", spec := "clipOpens", inPlace := ["internal/bytealg.IndexByteString", "internal/bytealg.IndexString", "internal/bytealg.abigen_runtime_cmpstring"], unfollowed := true, recurses := true, named := ["internal/bytealg.MaxLen"], apart := false, narrowed := true }
def ClipOpensUptoSaid : Prop := clipOpensUptoRow.holds Tryz.pinned (OpenSpec.upto clipOpensSpec)

/-- 'logbooklaw18.ClipRecovers', WHERE WHAT IT READS IS OF BULK AT MOST 1048576: true; the input reads as it did. -/
def clipRecoversUptoRow : OpenClaim := { program := "ytaeegcohimflbaagreat", sum := "ca5233aee5f9b1e457aaa7ce4f21e65d9211f0f17706280cd186a12348db2759", func := "logbook/logbooklaw18.ClipRecovers", spec := "clipRecovers", inPlace := ["internal/bytealg.IndexByteString", "internal/bytealg.IndexString", "internal/bytealg.abigen_runtime_cmpstring"], unfollowed := true, recurses := true, named := ["internal/bytealg.MaxLen"], apart := false, narrowed := true }
def ClipRecoversUptoSaid : Prop := clipRecoversUptoRow.holds Tryz.pinned (OpenSpec.upto clipRecoversSpec)

end Rows
end Go.Proofs.YtaeegcohimflbaaGreat
