/- norm.literal, by its contract. -/
import Derived.Test.YtcoehbkjccfhlaaRows
import Derived.BigQuiet
import Derived.Deep.AppendLies
import Derived.Deep.QuietTactic
import Derived.Deep.RegionLaw
import Derived.Deep.RegionWith
import Derived.KernelRfl
import Derived.Laws.EntriesVeiled
import Derived.Lib.ConvBytes
import Derived.Lib.Hide
import Derived.Lib.SlBytesRow
import Derived.Lib.SmallJoins
import Derived.Shelf.Bytes.SlSmallAll
import Derived.WalkKit
import Derived.WalkLawsBesides
import Derived.WalkSpells
namespace Go.Proofs.Ytcoehbkjccfhlaa
open Go Go.RowKit Go.Joins
theorem literal_any (v : Nat) (hv : v ≤ 1000000000) (w : World) : Calls Try.prog 71 #[.int .i64 v] w fun e w' => e = .returned (.int .u32 ((2 * v : Nat) : Int)) ∧ w = w' := by
  have h0 : (0 : Int) ≤ v := by omega
  have h1 : (v : Int) ≤ 1000000000 := by omega
  have W1 : IntKind.u32.wrap (v : Int) = (v : Int) := by rw [IntKind.wrap_u32]; omega
  have W2 : IntKind.u32.wrap (2 * (v : Int)) = 2 * (v : Int) := by rw [IntKind.wrap_u32]; omega
  go_enter Try.func71, Try.ntmps71
  go_wp2
  go_ret
  simp
theorem literal_at (z : Int) (v : Nat) (hz : z = (v : Int)) (hv : v ≤ 1000000000) (w : World) : Calls Try.prog 71 #[.int .i64 z] w fun e w' => e = .returned (.int .u32 ((2 * v : Nat) : Int)) ∧ w = w' := by
  subst hz; exact literal_any v hv w
end Go.Proofs.Ytcoehbkjccfhlaa
