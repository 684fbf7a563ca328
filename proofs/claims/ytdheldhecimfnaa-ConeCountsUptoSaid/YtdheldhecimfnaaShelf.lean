/- No library function has a contract to be laid in this seat: this text only stands where the others import it. -/
import Derived.Test.YtdheldhecimfnaaProg
namespace Go.Proofs
end Go.Proofs
