/- A raw circuit as a value: its lists are slices that read as its numbers. -/
import Derived.Test.YtkimhlomadmnkaaDoorRawSpec
namespace Go.Proofs.YtkimhlomadmnkaaDoor
open Go Go.RowKit

end Go.Proofs.YtkimhlomadmnkaaDoor
