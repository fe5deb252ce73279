/-
  No cell of these rows narrows 'for every input' (looked for: loops, veiled, ifaces, maps, wideKeys, modest, calm, conditions, laid).
  DERIVED. THE GIVEN ROWS OF THIS SEAT. 4 by the template 'for every input the law returns true; each argument reads behind the call as it read before'; 0 by the template 'total and deterministic' (their statements: YtgcmbgniaffdlaaGreatTotals.lean).
  GIVEN WITH THE SEED: the statements are not yours to turn. If you find one false, say at which input.
  Laid BY PROGRAM, IN A SANDBOX (cutbox-rows.mjs): the forced cells as the released guide's own fill.sh prints them over the translation 44a5e821301ac372… (all of the seat's roots in one cut). By AI agents, Wed Nov 11 2026. No macro, syntax, notation, axiom, sorry.
-/
import Derived.Test.YtgcmbgniaffdlaaGreatChecked
import GoSem.Claim
import GoSem.ClaimJoined
import GoSem.ClaimMapViews
import Derived.JoinedTies
import Derived.KernelRfl
namespace Go.Proofs.YtgcmbgniaffdlaaGreat
/- THE CELL 'sum', in the pinned program and in every row, IS THE sha256 OF THE DUMP (.gsa) THAT YtgcmbgniaffdlaaGreatProg.lean LOADS. Nothing in Lean hashes anything: it is a label: what it is worth is what the hold of that sum in a sandbox is worth. -/
noncomputable def Tryz.pinned : Pinned := { name := "ytgcmbgniaffdlaagreat", sum := "44a5e821301ac37280c841f33785c6f10786c7e727125be2fc597632de7e849d", checked := Tryz.checked }
namespace Rows
def none {H : Type} : Left H := { results := [], args := [] }

/-- 'logbooklaw18.ClipRecovers': WHATEVER THE INPUT: true; the input reads as it did. -/
def clipRecoversSpec : ChangeSpec := { name := "clipRecovers", fn := fun _ => fun
  | [d1, d2, d3, d4, d5, d6] => { results := [.lit (.bool true)], args := [d1, d2, d3, d4, d5, d6] }
  | _ => none }
def clipRecoversRow : OpenClaim := { program := "ytgcmbgniaffdlaagreat", sum := "44a5e821301ac37280c841f33785c6f10786c7e727125be2fc597632de7e849d", func := "logbook/logbooklaw18.ClipRecovers", spec := "clipRecovers", inPlace := ["internal/bytealg.IndexByteString", "internal/bytealg.IndexString", "internal/bytealg.abigen_runtime_cmpstring"], unfollowed := true, recurses := true, named := ["internal/bytealg.MaxLen"], apart := false }
def ClipRecoversSaid : Prop := clipRecoversRow.holds Tryz.pinned (OpenSpec.ofChange clipRecoversSpec)

/-- ITS FALSE NEIGHBOUR: 'it returns false'. Refute it at one input. -/
def clipRecoversWrong : ChangeSpec := { name := "clipRecovers", fn := fun _ => fun
  | [d1, d2, d3, d4, d5, d6] => { results := [.lit (.bool false)], args := [d1, d2, d3, d4, d5, d6] }
  | _ => none }
def ClipRecoversWrongFalsely : Prop := clipRecoversRow.holds Tryz.pinned (OpenSpec.ofChange clipRecoversWrong)

/-- 'logbooklaw19.VerifyMakes': WHATEVER THE INPUT: true; the input reads as it did. -/
def verifyMakesSpec : ChangeSpec := { name := "verifyMakes", fn := fun _ => fun
  | [d1, d2, d3, d4] => { results := [.lit (.bool true)], args := [d1, d2, d3, d4] }
  | _ => none }
def verifyMakesRow : OpenClaim := { program := "ytgcmbgniaffdlaagreat", sum := "44a5e821301ac37280c841f33785c6f10786c7e727125be2fc597632de7e849d", func := "logbook/logbooklaw19.VerifyMakes", spec := "verifyMakes", inPlace := ["internal/bytealg.IndexByteString", "internal/bytealg.IndexString", "internal/bytealg.abigen_runtime_cmpstring"], unfollowed := true, recurses := true, named := ["internal/bytealg.MaxLen"], apart := false }
def VerifyMakesSaid : Prop := verifyMakesRow.holds Tryz.pinned (OpenSpec.ofChange verifyMakesSpec)

/-- ITS FALSE NEIGHBOUR: 'it returns false'. Refute it at one input. -/
def verifyMakesWrong : ChangeSpec := { name := "verifyMakes", fn := fun _ => fun
  | [d1, d2, d3, d4] => { results := [.lit (.bool false)], args := [d1, d2, d3, d4] }
  | _ => none }
def VerifyMakesWrongFalsely : Prop := verifyMakesRow.holds Tryz.pinned (OpenSpec.ofChange verifyMakesWrong)

/-- 'logbooklaw19.VerifyMeans': WHATEVER THE INPUT: true; the input reads as it did. -/
def verifyMeansSpec : ChangeSpec := { name := "verifyMeans", fn := fun _ => fun
  | [d1, d2] => { results := [.lit (.bool true)], args := [d1, d2] }
  | _ => none }
def verifyMeansRow : OpenClaim := { program := "ytgcmbgniaffdlaagreat", sum := "44a5e821301ac37280c841f33785c6f10786c7e727125be2fc597632de7e849d", func := "logbook/logbooklaw19.VerifyMeans", spec := "verifyMeans", inPlace := ["internal/bytealg.IndexByteString", "internal/bytealg.IndexString", "internal/bytealg.abigen_runtime_cmpstring"], unfollowed := true, recurses := true, named := ["internal/bytealg.MaxLen"], apart := false }
def VerifyMeansSaid : Prop := verifyMeansRow.holds Tryz.pinned (OpenSpec.ofChange verifyMeansSpec)

/-- ITS FALSE NEIGHBOUR: 'it returns false'. Refute it at one input. -/
def verifyMeansWrong : ChangeSpec := { name := "verifyMeans", fn := fun _ => fun
  | [d1, d2] => { results := [.lit (.bool false)], args := [d1, d2] }
  | _ => none }
def VerifyMeansWrongFalsely : Prop := verifyMeansRow.holds Tryz.pinned (OpenSpec.ofChange verifyMeansWrong)

/-- 'logbooklaw19.VerifyLoose': WHATEVER THE INPUT: true; the input reads as it did. -/
def verifyLooseSpec : ChangeSpec := { name := "verifyLoose", fn := fun _ => fun
  | [d1, d2, d3, d4] => { results := [.lit (.bool true)], args := [d1, d2, d3, d4] }
  | _ => none }
def verifyLooseRow : OpenClaim := { program := "ytgcmbgniaffdlaagreat", sum := "44a5e821301ac37280c841f33785c6f10786c7e727125be2fc597632de7e849d", func := "logbook/logbooklaw19.VerifyLoose", spec := "verifyLoose", inPlace := ["internal/bytealg.IndexByteString", "internal/bytealg.IndexString", "internal/bytealg.abigen_runtime_cmpstring"], unfollowed := true, recurses := true, named := ["internal/bytealg.MaxLen"], apart := false }
def VerifyLooseSaid : Prop := verifyLooseRow.holds Tryz.pinned (OpenSpec.ofChange verifyLooseSpec)

/-- ITS FALSE NEIGHBOUR: 'it returns false'. Refute it at one input. -/
def verifyLooseWrong : ChangeSpec := { name := "verifyLoose", fn := fun _ => fun
  | [d1, d2, d3, d4] => { results := [.lit (.bool false)], args := [d1, d2, d3, d4] }
  | _ => none }
def VerifyLooseWrongFalsely : Prop := verifyLooseRow.holds Tryz.pinned (OpenSpec.ofChange verifyLooseWrong)

/- THE SECOND FORM. 'bulk': how many values and letters a reading holds, each counted each time it is reached (what is shared counts as often as it is met; a slice's spare places count too). A statement '..UptoSaid' is the law's where the arguments, and the package variables that the reading takes, are together of bulk at most 1048576: NARROWER than '..Said'. Prove '..Said' where nothing that the law and all that it calls make is longer than what came in: it says more and counts as full. Else prove '..UptoSaid'. A law counts once. -/
mutual
def uptoBulk {H : Type} : DataW H → Nat
  | .lit (.string bytes) => bytes.length + 1
  | .lit _ => 1
  | .nil => 1
  | .ptr d => uptoBulk d + 1
  | .slice elems spare => uptoBulkAll elems + uptoBulkAll spare + 1
  | .agg parts => uptoBulkAll parts + 1
  | .iface _ d => uptoBulk d + 1
  | .map entries => uptoBulkEntries entries + 1
  | .held _ => 1
def uptoBulkAll {H : Type} : List (DataW H) → Nat
  | [] => 0
  | d :: r => uptoBulk d + uptoBulkAll r
def uptoBulkEntries {H : Type} : List (Lit × DataW H) → Nat
  | [] => 0
  | x :: r => uptoBulkEntry x + uptoBulkEntries r
def uptoBulkEntry {H : Type} : Lit × DataW H → Nat
  | (.string bytes, d) => bytes.length + uptoBulk d + 1
  | (_, d) => uptoBulk d + 1
 end
def uptoSmall : (H : Type) → List (DataW H) → Bool := fun _ ds => decide (uptoBulkAll ds ≤ 1048576)
def OpenSpec.upto (s : _root_.Go.ChangeSpec) : _root_.Go.OpenSpec := { _root_.Go.OpenSpec.ofChange s with cond := some uptoSmall }

/-- 'logbooklaw18.ClipRecovers', WHERE WHAT IT READS IS OF BULK AT MOST 1048576: true; the input reads as it did. -/
def clipRecoversUptoRow : OpenClaim := { program := "ytgcmbgniaffdlaagreat", sum := "44a5e821301ac37280c841f33785c6f10786c7e727125be2fc597632de7e849d", func := "logbook/logbooklaw18.ClipRecovers", spec := "clipRecovers", inPlace := ["internal/bytealg.IndexByteString", "internal/bytealg.IndexString", "internal/bytealg.abigen_runtime_cmpstring"], unfollowed := true, recurses := true, named := ["internal/bytealg.MaxLen"], apart := false, narrowed := true }
def ClipRecoversUptoSaid : Prop := clipRecoversUptoRow.holds Tryz.pinned (OpenSpec.upto clipRecoversSpec)

/-- 'logbooklaw19.VerifyMakes', WHERE WHAT IT READS IS OF BULK AT MOST 1048576: true; the input reads as it did. -/
def verifyMakesUptoRow : OpenClaim := { program := "ytgcmbgniaffdlaagreat", sum := "44a5e821301ac37280c841f33785c6f10786c7e727125be2fc597632de7e849d", func := "logbook/logbooklaw19.VerifyMakes", spec := "verifyMakes", inPlace := ["internal/bytealg.IndexByteString", "internal/bytealg.IndexString", "internal/bytealg.abigen_runtime_cmpstring"], unfollowed := true, recurses := true, named := ["internal/bytealg.MaxLen"], apart := false, narrowed := true }
def VerifyMakesUptoSaid : Prop := verifyMakesUptoRow.holds Tryz.pinned (OpenSpec.upto verifyMakesSpec)

/-- 'logbooklaw19.VerifyMeans', WHERE WHAT IT READS IS OF BULK AT MOST 1048576: true; the input reads as it did. -/
def verifyMeansUptoRow : OpenClaim := { program := "ytgcmbgniaffdlaagreat", sum := "44a5e821301ac37280c841f33785c6f10786c7e727125be2fc597632de7e849d", func := "logbook/logbooklaw19.VerifyMeans", spec := "verifyMeans", inPlace := ["internal/bytealg.IndexByteString", "internal/bytealg.IndexString", "internal/bytealg.abigen_runtime_cmpstring"], unfollowed := true, recurses := true, named := ["internal/bytealg.MaxLen"], apart := false, narrowed := true }
def VerifyMeansUptoSaid : Prop := verifyMeansUptoRow.holds Tryz.pinned (OpenSpec.upto verifyMeansSpec)

/-- 'logbooklaw19.VerifyLoose', WHERE WHAT IT READS IS OF BULK AT MOST 1048576: true; the input reads as it did. -/
def verifyLooseUptoRow : OpenClaim := { program := "ytgcmbgniaffdlaagreat", sum := "44a5e821301ac37280c841f33785c6f10786c7e727125be2fc597632de7e849d", func := "logbook/logbooklaw19.VerifyLoose", spec := "verifyLoose", inPlace := ["internal/bytealg.IndexByteString", "internal/bytealg.IndexString", "internal/bytealg.abigen_runtime_cmpstring"], unfollowed := true, recurses := true, named := ["internal/bytealg.MaxLen"], apart := false, narrowed := true }
def VerifyLooseUptoSaid : Prop := verifyLooseUptoRow.holds Tryz.pinned (OpenSpec.upto verifyLooseSpec)

end Rows
end Go.Proofs.YtgcmbgniaffdlaaGreat
