/- slices.insertionSortCmpFunc at this program: the library's contract, laid. -/
import Derived.Test.YtclmjopppaknjaaHChk
import Derived.Shelf.SlSortCmp.Insertion
import Derived.Shelf.Lay
import Derived.Ground.SlsfProg
namespace Go.Proofs.Ytclmjopppaknjaa
open Go.RowKit Go.Shelf Go.Lib Go.Sort
shelf_lay_g SlLaysF.n20 Slsf 20 at Try 76 as Try.insF
end Go.Proofs.Ytclmjopppaknjaa
