/- The numbers of a circuit's lists are of 32 bits. -/
import Derived.Test.YtglhnmbfkbjemaaDoorBInC
namespace Go.Proofs.YtglhnmbfkbjemaaDoor
open Go Go.RowKit Go.Joins
/-- The numbers of a circuit's lists are of 32 bits, resets of 8. -/
structure Wide (c : NormC) : Prop where
  lats : ∀ p ∈ c.lats, p.1 < 4294967296 ∧ p.2 < 256
  gates : ∀ p ∈ c.gates, p.1 < 4294967296 ∧ p.2 < 4294967296
  outs : ∀ x ∈ c.outs, x < 4294967296
  bads : ∀ x ∈ c.bads, x < 4294967296
  cons : ∀ x ∈ c.cons, x < 4294967296
end Go.Proofs.YtglhnmbfkbjemaaDoor
