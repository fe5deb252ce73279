/-
  NO CONTRACT OF THE LIBRARY IS WANTED IN THIS SEAT: an empty text, for the imports of those that ask for one.
-/
import Derived.Shelf.Lay
import Derived.Shelf.LaySoft
import Derived.Shelf.Strings.Search1
import Derived.Shelf.Small.Strs
import Derived.Shelf.Slices.CompactS
import Derived.Shelf.Slices.Clone
import Derived.Shelf.SlSortCmp.NoneTotal
import Derived.Test.YtjpfbkhjhainpaaProg
namespace Go.Proofs
end Go.Proofs
