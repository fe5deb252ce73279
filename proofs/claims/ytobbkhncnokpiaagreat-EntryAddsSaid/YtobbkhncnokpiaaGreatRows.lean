/-
  No cell of these rows narrows 'for every input' (looked for: loops, veiled, ifaces, maps, wideKeys, modest, calm, conditions, laid).
  DERIVED. THE GIVEN ROWS OF THIS SEAT. 4 by the template 'for every input the law returns true; each argument reads behind the call as it read before'; 0 by the template 'total and deterministic' (their statements: YtobbkhncnokpiaaGreatTotals.lean).
  GIVEN WITH THE SEED: the statements are not yours to turn. If you find one false, say at which input.
  Laid BY PROGRAM, IN A SANDBOX (cutbox-rows.mjs): the forced cells as the released guide's own fill.sh prints them over the translation e167d5c125d4d209… (all of the seat's roots in one cut). By AI agents, Wed Nov 11 2026. No macro, syntax, notation, axiom, sorry.
-/
import Derived.Test.YtobbkhncnokpiaaGreatChecked
import GoSem.Claim
import GoSem.ClaimJoined
import GoSem.ClaimMapViews
import Derived.JoinedTies
import Derived.KernelRfl
namespace Go.Proofs.YtobbkhncnokpiaaGreat
/- THE CELL 'sum', in the pinned program and in every row, IS THE sha256 OF THE DUMP (.gsa) THAT YtobbkhncnokpiaaGreatProg.lean LOADS. Nothing in Lean hashes anything: it is a label: what it is worth is what the hold of that sum in a sandbox is worth. -/
noncomputable def Tryz.pinned : Pinned := { name := "ytobbkhncnokpiaagreat", sum := "e167d5c125d4d20918527f1b23197c599515a0dbec9d2e82a38de7a8cc46e79e", checked := Tryz.checked }
namespace Rows
def none {H : Type} : Left H := { results := [], args := [] }

/-- 'logbooklaw16.EntryAdds': WHATEVER THE INPUT: true; the input reads as it did. -/
def entryAddsSpec : ChangeSpec := { name := "entryAdds", fn := fun _ => fun
  | [d1, d2, d3] => { results := [.lit (.bool true)], args := [d1, d2, d3] }
  | _ => none }
def entryAddsRow : OpenClaim := { program := "ytobbkhncnokpiaagreat", sum := "e167d5c125d4d20918527f1b23197c599515a0dbec9d2e82a38de7a8cc46e79e", func := "logbook/logbooklaw16.EntryAdds", spec := "entryAdds", inPlace := ["internal/bytealg.IndexByteString", "internal/bytealg.IndexString", "internal/bytealg.abigen_runtime_cmpstring"], unfollowed := true, recurses := true, named := ["internal/bytealg.MaxLen"], apart := false }
def EntryAddsSaid : Prop := entryAddsRow.holds Tryz.pinned (OpenSpec.ofChange entryAddsSpec)

/-- ITS FALSE NEIGHBOUR: 'it returns false'. Refute it at one input. -/
def entryAddsWrong : ChangeSpec := { name := "entryAdds", fn := fun _ => fun
  | [d1, d2, d3] => { results := [.lit (.bool false)], args := [d1, d2, d3] }
  | _ => none }
def EntryAddsWrongFalsely : Prop := entryAddsRow.holds Tryz.pinned (OpenSpec.ofChange entryAddsWrong)

/-- 'logbooklaw16.EntryItems': WHATEVER THE INPUT: true; the input reads as it did. -/
def entryItemsSpec : ChangeSpec := { name := "entryItems", fn := fun _ => fun
  | [d1, d2] => { results := [.lit (.bool true)], args := [d1, d2] }
  | _ => none }
def entryItemsRow : OpenClaim := { program := "ytobbkhncnokpiaagreat", sum := "e167d5c125d4d20918527f1b23197c599515a0dbec9d2e82a38de7a8cc46e79e", func := "logbook/logbooklaw16.EntryItems", spec := "entryItems", inPlace := ["internal/bytealg.IndexByteString", "internal/bytealg.IndexString", "internal/bytealg.abigen_runtime_cmpstring"], unfollowed := true, recurses := true, named := ["internal/bytealg.MaxLen"], apart := false }
def EntryItemsSaid : Prop := entryItemsRow.holds Tryz.pinned (OpenSpec.ofChange entryItemsSpec)

/-- ITS FALSE NEIGHBOUR: 'it returns false'. Refute it at one input. -/
def entryItemsWrong : ChangeSpec := { name := "entryItems", fn := fun _ => fun
  | [d1, d2] => { results := [.lit (.bool false)], args := [d1, d2] }
  | _ => none }
def EntryItemsWrongFalsely : Prop := entryItemsRow.holds Tryz.pinned (OpenSpec.ofChange entryItemsWrong)

/-- 'logbooklaw16.EntrySearches': WHATEVER THE INPUT: true; the input reads as it did. -/
def entrySearchesSpec : ChangeSpec := { name := "entrySearches", fn := fun _ => fun
  | [d1, d2] => { results := [.lit (.bool true)], args := [d1, d2] }
  | _ => none }
def entrySearchesRow : OpenClaim := { program := "ytobbkhncnokpiaagreat", sum := "e167d5c125d4d20918527f1b23197c599515a0dbec9d2e82a38de7a8cc46e79e", func := "logbook/logbooklaw16.EntrySearches", spec := "entrySearches", inPlace := ["internal/bytealg.IndexByteString", "internal/bytealg.IndexString", "internal/bytealg.abigen_runtime_cmpstring"], unfollowed := true, recurses := true, named := ["internal/bytealg.MaxLen"], apart := false }
def EntrySearchesSaid : Prop := entrySearchesRow.holds Tryz.pinned (OpenSpec.ofChange entrySearchesSpec)

/-- ITS FALSE NEIGHBOUR: 'it returns false'. Refute it at one input. -/
def entrySearchesWrong : ChangeSpec := { name := "entrySearches", fn := fun _ => fun
  | [d1, d2] => { results := [.lit (.bool false)], args := [d1, d2] }
  | _ => none }
def EntrySearchesWrongFalsely : Prop := entrySearchesRow.holds Tryz.pinned (OpenSpec.ofChange entrySearchesWrong)

/-- 'logbooklaw16.EntrySames': WHATEVER THE INPUT: true; the input reads as it did. -/
def entrySamesSpec : ChangeSpec := { name := "entrySames", fn := fun _ => fun
  | [d1, d2] => { results := [.lit (.bool true)], args := [d1, d2] }
  | _ => none }
def entrySamesRow : OpenClaim := { program := "ytobbkhncnokpiaagreat", sum := "e167d5c125d4d20918527f1b23197c599515a0dbec9d2e82a38de7a8cc46e79e", func := "logbook/logbooklaw16.EntrySames", spec := "entrySames", inPlace := ["internal/bytealg.IndexByteString", "internal/bytealg.IndexString", "internal/bytealg.abigen_runtime_cmpstring"], unfollowed := true, recurses := true, named := ["internal/bytealg.MaxLen"], apart := false }
def EntrySamesSaid : Prop := entrySamesRow.holds Tryz.pinned (OpenSpec.ofChange entrySamesSpec)

/-- ITS FALSE NEIGHBOUR: 'it returns false'. Refute it at one input. -/
def entrySamesWrong : ChangeSpec := { name := "entrySames", fn := fun _ => fun
  | [d1, d2] => { results := [.lit (.bool false)], args := [d1, d2] }
  | _ => none }
def EntrySamesWrongFalsely : Prop := entrySamesRow.holds Tryz.pinned (OpenSpec.ofChange entrySamesWrong)

/- THE SECOND FORM. 'bulk': how many values and letters a reading holds, each counted each time it is reached (what is shared counts as often as it is met; a slice's spare places count too). A statement '..UptoSaid' is the law's where the arguments, and the package variables that the reading takes, are together of bulk at most 1048576: NARROWER than '..Said'. Prove '..Said' where nothing that the law and all that it calls make is longer than what came in: it says more and counts as full. Else prove '..UptoSaid'. A law counts once. -/
mutual
def uptoBulk {H : Type} : DataW H → Nat
  | .lit (.string bytes) => bytes.length + 1
  | .lit _ => 1
  | .nil => 1
  | .ptr d => uptoBulk d + 1
  | .slice elems spare => uptoBulkAll elems + uptoBulkAll spare + 1
  | .agg parts => uptoBulkAll parts + 1
  | .iface _ d => uptoBulk d + 1
  | .map entries => uptoBulkEntries entries + 1
  | .held _ => 1
def uptoBulkAll {H : Type} : List (DataW H) → Nat
  | [] => 0
  | d :: r => uptoBulk d + uptoBulkAll r
def uptoBulkEntries {H : Type} : List (Lit × DataW H) → Nat
  | [] => 0
  | x :: r => uptoBulkEntry x + uptoBulkEntries r
def uptoBulkEntry {H : Type} : Lit × DataW H → Nat
  | (.string bytes, d) => bytes.length + uptoBulk d + 1
  | (_, d) => uptoBulk d + 1
 end
def uptoSmall : (H : Type) → List (DataW H) → Bool := fun _ ds => decide (uptoBulkAll ds ≤ 1048576)
def OpenSpec.upto (s : _root_.Go.ChangeSpec) : _root_.Go.OpenSpec := { _root_.Go.OpenSpec.ofChange s with cond := some uptoSmall }

/-- 'logbooklaw16.EntryAdds', WHERE WHAT IT READS IS OF BULK AT MOST 1048576: true; the input reads as it did. -/
def entryAddsUptoRow : OpenClaim := { program := "ytobbkhncnokpiaagreat", sum := "e167d5c125d4d20918527f1b23197c599515a0dbec9d2e82a38de7a8cc46e79e", func := "logbook/logbooklaw16.EntryAdds", spec := "entryAdds", inPlace := ["internal/bytealg.IndexByteString", "internal/bytealg.IndexString", "internal/bytealg.abigen_runtime_cmpstring"], unfollowed := true, recurses := true, named := ["internal/bytealg.MaxLen"], apart := false, narrowed := true }
def EntryAddsUptoSaid : Prop := entryAddsUptoRow.holds Tryz.pinned (OpenSpec.upto entryAddsSpec)

/-- 'logbooklaw16.EntryItems', WHERE WHAT IT READS IS OF BULK AT MOST 1048576: true; the input reads as it did. -/
def entryItemsUptoRow : OpenClaim := { program := "ytobbkhncnokpiaagreat", sum := "e167d5c125d4d20918527f1b23197c599515a0dbec9d2e82a38de7a8cc46e79e", func := "logbook/logbooklaw16.EntryItems", spec := "entryItems", inPlace := ["internal/bytealg.IndexByteString", "internal/bytealg.IndexString", "internal/bytealg.abigen_runtime_cmpstring"], unfollowed := true, recurses := true, named := ["internal/bytealg.MaxLen"], apart := false, narrowed := true }
def EntryItemsUptoSaid : Prop := entryItemsUptoRow.holds Tryz.pinned (OpenSpec.upto entryItemsSpec)

/-- 'logbooklaw16.EntrySearches', WHERE WHAT IT READS IS OF BULK AT MOST 1048576: true; the input reads as it did. -/
def entrySearchesUptoRow : OpenClaim := { program := "ytobbkhncnokpiaagreat", sum := "e167d5c125d4d20918527f1b23197c599515a0dbec9d2e82a38de7a8cc46e79e", func := "logbook/logbooklaw16.EntrySearches", spec := "entrySearches", inPlace := ["internal/bytealg.IndexByteString", "internal/bytealg.IndexString", "internal/bytealg.abigen_runtime_cmpstring"], unfollowed := true, recurses := true, named := ["internal/bytealg.MaxLen"], apart := false, narrowed := true }
def EntrySearchesUptoSaid : Prop := entrySearchesUptoRow.holds Tryz.pinned (OpenSpec.upto entrySearchesSpec)

/-- 'logbooklaw16.EntrySames', WHERE WHAT IT READS IS OF BULK AT MOST 1048576: true; the input reads as it did. -/
def entrySamesUptoRow : OpenClaim := { program := "ytobbkhncnokpiaagreat", sum := "e167d5c125d4d20918527f1b23197c599515a0dbec9d2e82a38de7a8cc46e79e", func := "logbook/logbooklaw16.EntrySames", spec := "entrySames", inPlace := ["internal/bytealg.IndexByteString", "internal/bytealg.IndexString", "internal/bytealg.abigen_runtime_cmpstring"], unfollowed := true, recurses := true, named := ["internal/bytealg.MaxLen"], apart := false, narrowed := true }
def EntrySamesUptoSaid : Prop := entrySamesUptoRow.holds Tryz.pinned (OpenSpec.upto entrySamesSpec)

end Rows
end Go.Proofs.YtobbkhncnokpiaaGreat
