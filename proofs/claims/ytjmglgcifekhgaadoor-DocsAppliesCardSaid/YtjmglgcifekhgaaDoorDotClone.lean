/- slices.Clone of dots. -/
import Derived.Test.YtjmglgcifekhgaaDoorDotMem
import Derived.Shelf.SlicesE.Clone
import Derived.Test.YtjmglgcifekhgaaDoorProg
namespace Go.Proofs
open Go.Shelf
end Go.Proofs
namespace Go.Proofs.YtjmglgcifekhgaaDoor
open Go Go.RowKit
set_option linter.unusedVariables false
end Go.Proofs.YtjmglgcifekhgaaDoor
