/- The numbers of a circuit's lists are of 32 bits. -/
import Derived.Test.YtcoehbkjccfhlaaNSpec
import Derived.Test.YtcoehbkjccfhlaaRows
import Derived.BigQuiet
import Derived.Deep.AppendLies
import Derived.Deep.QuietTactic
import Derived.Deep.RegionLaw
import Derived.Deep.RegionWith
import Derived.KernelRfl
import Derived.Laws.EntriesVeiled
import Derived.Lib.ConvBytes
import Derived.Lib.Hide
import Derived.Lib.SlBytesRow
import Derived.Lib.SmallJoins
import Derived.Shelf.Bytes.SlSmallAll
import Derived.WalkKit
import Derived.WalkLawsBesides
import Derived.WalkSpells
namespace Go.Proofs.Ytcoehbkjccfhlaa
open Go Go.RowKit Go.Joins
/-- The numbers of a circuit's lists are of 32 bits, resets of 8. -/
structure Wide (c : NormC) : Prop where
  lats : ∀ p ∈ c.lats, p.1 < 4294967296 ∧ p.2 < 256
  gates : ∀ p ∈ c.gates, p.1 < 4294967296 ∧ p.2 < 4294967296
  outs : ∀ x ∈ c.outs, x < 4294967296
  bads : ∀ x ∈ c.bads, x < 4294967296
  cons : ∀ x ∈ c.cons, x < 4294967296
end Go.Proofs.Ytcoehbkjccfhlaa
