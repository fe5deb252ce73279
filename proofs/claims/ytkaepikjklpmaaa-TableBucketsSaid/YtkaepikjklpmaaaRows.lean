/-
  No cell of these rows narrows 'for every input' (looked for: loops, veiled, ifaces, maps, wideKeys, modest, calm, conditions, laid).
  DERIVED. THE GIVEN ROWS OF THIS SEAT. 3 by the template 'for every input the law returns true; each argument reads behind the call as it read before'; 0 by the template 'total and deterministic' (their statements: YtkaepikjklpmaaaTotals.lean).
  GIVEN WITH THE SEED: the statements are not yours to turn. If you find one false, say at which input.
  Laid BY PROGRAM, IN A SANDBOX (cutbox-rows.mjs): the forced cells as the released guide's own fill.sh prints them over the translation cd37097f1afc7ef3… (all of the seat's roots in one cut). By AI agents, Wed Nov 11 2026. No macro, syntax, notation, axiom, sorry.
-/
import Derived.Test.YtkaepikjklpmaaaChecked
import GoSem.Claim
import GoSem.ClaimJoined
import GoSem.ClaimMapViews
import Derived.JoinedTies
import Derived.KernelRfl
namespace Go.Proofs.Ytkaepikjklpmaaa
/- THE CELL 'sum', in the pinned program and in every row, IS THE sha256 OF THE DUMP (.gsa) THAT YtkaepikjklpmaaaProg.lean LOADS. Nothing in Lean hashes anything: it is a label: what it is worth is what the hold of that sum in a sandbox is worth. -/
noncomputable def Try.pinned : Pinned := { name := "ytkaepikjklpmaaa", sum := "cd37097f1afc7ef39074ff01aa9e488aec3572aaeb1502469bff9dcdf2cc8b64", checked := Try.checked }
namespace Rows
def none {H : Type} : Left H := { results := [], args := [] }

/-- 'logbooklaw13.TableAdds': WHATEVER THE INPUT: true; the input reads as it did. -/
def tableAddsSpec : ChangeSpec := { name := "tableAdds", fn := fun _ => fun
  | [d1, d2, d3, d4, d5, d6] => { results := [.lit (.bool true)], args := [d1, d2, d3, d4, d5, d6] }
  | _ => none }
def tableAddsRow : OpenClaim := { program := "ytkaepikjklpmaaa", sum := "cd37097f1afc7ef39074ff01aa9e488aec3572aaeb1502469bff9dcdf2cc8b64", func := "logbook/logbooklaw13.TableAdds", spec := "tableAdds", unfollowed := true, recurses := true, apart := false }
def TableAddsSaid : Prop := tableAddsRow.holds Try.pinned (OpenSpec.ofChange tableAddsSpec)

/-- ITS FALSE NEIGHBOUR: 'it returns false'. Refute it at one input. -/
def tableAddsWrong : ChangeSpec := { name := "tableAdds", fn := fun _ => fun
  | [d1, d2, d3, d4, d5, d6] => { results := [.lit (.bool false)], args := [d1, d2, d3, d4, d5, d6] }
  | _ => none }
def TableAddsWrongFalsely : Prop := tableAddsRow.holds Try.pinned (OpenSpec.ofChange tableAddsWrong)

/-- 'logbooklaw13.TableBuckets': WHATEVER THE INPUT: true; the input reads as it did. -/
def tableBucketsSpec : ChangeSpec := { name := "tableBuckets", fn := fun _ => fun
  | [d1, d2, d3] => { results := [.lit (.bool true)], args := [d1, d2, d3] }
  | _ => none }
def tableBucketsRow : OpenClaim := { program := "ytkaepikjklpmaaa", sum := "cd37097f1afc7ef39074ff01aa9e488aec3572aaeb1502469bff9dcdf2cc8b64", func := "logbook/logbooklaw13.TableBuckets", spec := "tableBuckets", unfollowed := true, recurses := true, apart := false }
def TableBucketsSaid : Prop := tableBucketsRow.holds Try.pinned (OpenSpec.ofChange tableBucketsSpec)

/-- ITS FALSE NEIGHBOUR: 'it returns false'. Refute it at one input. -/
def tableBucketsWrong : ChangeSpec := { name := "tableBuckets", fn := fun _ => fun
  | [d1, d2, d3] => { results := [.lit (.bool false)], args := [d1, d2, d3] }
  | _ => none }
def TableBucketsWrongFalsely : Prop := tableBucketsRow.holds Try.pinned (OpenSpec.ofChange tableBucketsWrong)

/-- 'logbooklaw13.TableFollows': WHATEVER THE INPUT: true; the input reads as it did. -/
def tableFollowsSpec : ChangeSpec := { name := "tableFollows", fn := fun _ => fun
  | [d1, d2, d3] => { results := [.lit (.bool true)], args := [d1, d2, d3] }
  | _ => none }
def tableFollowsRow : OpenClaim := { program := "ytkaepikjklpmaaa", sum := "cd37097f1afc7ef39074ff01aa9e488aec3572aaeb1502469bff9dcdf2cc8b64", func := "logbook/logbooklaw13.TableFollows", spec := "tableFollows", unfollowed := true, recurses := true, apart := false }
def TableFollowsSaid : Prop := tableFollowsRow.holds Try.pinned (OpenSpec.ofChange tableFollowsSpec)

/-- ITS FALSE NEIGHBOUR: 'it returns false'. Refute it at one input. -/
def tableFollowsWrong : ChangeSpec := { name := "tableFollows", fn := fun _ => fun
  | [d1, d2, d3] => { results := [.lit (.bool false)], args := [d1, d2, d3] }
  | _ => none }
def TableFollowsWrongFalsely : Prop := tableFollowsRow.holds Try.pinned (OpenSpec.ofChange tableFollowsWrong)

/- THE SECOND FORM. 'bulk': how many values and letters a reading holds, each counted each time it is reached (what is shared counts as often as it is met; a slice's spare places count too). A statement '..UptoSaid' is the law's where the arguments, and the package variables that the reading takes, are together of bulk at most 1048576: NARROWER than '..Said'. Prove '..Said' where nothing that the law and all that it calls make is longer than what came in: it says more and counts as full. Else prove '..UptoSaid'. A law counts once. -/
mutual
def uptoBulk {H : Type} : DataW H → Nat
  | .lit (.string bytes) => bytes.length + 1
  | .lit _ => 1
  | .nil => 1
  | .ptr d => uptoBulk d + 1
  | .slice elems spare => uptoBulkAll elems + uptoBulkAll spare + 1
  | .agg parts => uptoBulkAll parts + 1
  | .iface _ d => uptoBulk d + 1
  | .map entries => uptoBulkEntries entries + 1
  | .held _ => 1
def uptoBulkAll {H : Type} : List (DataW H) → Nat
  | [] => 0
  | d :: r => uptoBulk d + uptoBulkAll r
def uptoBulkEntries {H : Type} : List (Lit × DataW H) → Nat
  | [] => 0
  | x :: r => uptoBulkEntry x + uptoBulkEntries r
def uptoBulkEntry {H : Type} : Lit × DataW H → Nat
  | (.string bytes, d) => bytes.length + uptoBulk d + 1
  | (_, d) => uptoBulk d + 1
 end
def uptoSmall : (H : Type) → List (DataW H) → Bool := fun _ ds => decide (uptoBulkAll ds ≤ 1048576)
def OpenSpec.upto (s : _root_.Go.ChangeSpec) : _root_.Go.OpenSpec := { _root_.Go.OpenSpec.ofChange s with cond := some uptoSmall }

/-- 'logbooklaw13.TableAdds', WHERE WHAT IT READS IS OF BULK AT MOST 1048576: true; the input reads as it did. -/
def tableAddsUptoRow : OpenClaim := { program := "ytkaepikjklpmaaa", sum := "cd37097f1afc7ef39074ff01aa9e488aec3572aaeb1502469bff9dcdf2cc8b64", func := "logbook/logbooklaw13.TableAdds", spec := "tableAdds", unfollowed := true, recurses := true, apart := false, narrowed := true }
def TableAddsUptoSaid : Prop := tableAddsUptoRow.holds Try.pinned (OpenSpec.upto tableAddsSpec)

/-- 'logbooklaw13.TableBuckets', WHERE WHAT IT READS IS OF BULK AT MOST 1048576: true; the input reads as it did. -/
def tableBucketsUptoRow : OpenClaim := { program := "ytkaepikjklpmaaa", sum := "cd37097f1afc7ef39074ff01aa9e488aec3572aaeb1502469bff9dcdf2cc8b64", func := "logbook/logbooklaw13.TableBuckets", spec := "tableBuckets", unfollowed := true, recurses := true, apart := false, narrowed := true }
def TableBucketsUptoSaid : Prop := tableBucketsUptoRow.holds Try.pinned (OpenSpec.upto tableBucketsSpec)

/-- 'logbooklaw13.TableFollows', WHERE WHAT IT READS IS OF BULK AT MOST 1048576: true; the input reads as it did. -/
def tableFollowsUptoRow : OpenClaim := { program := "ytkaepikjklpmaaa", sum := "cd37097f1afc7ef39074ff01aa9e488aec3572aaeb1502469bff9dcdf2cc8b64", func := "logbook/logbooklaw13.TableFollows", spec := "tableFollows", unfollowed := true, recurses := true, apart := false, narrowed := true }
def TableFollowsUptoSaid : Prop := tableFollowsUptoRow.holds Try.pinned (OpenSpec.upto tableFollowsSpec)

end Rows
end Go.Proofs.Ytkaepikjklpmaaa
