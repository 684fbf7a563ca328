/- What a closure of package enc does with a clause, told for both of them. -/
import Derived.Test.YtcoehbkjccfhlaaNBase
import Derived.Test.YtcoehbkjccfhlaaCuInts
import Derived.Test.YtcoehbkjccfhlaaCuLists
import Derived.Test.YtcoehbkjccfhlaaEnPure
import Derived.Test.YtcoehbkjccfhlaaEnSt
import Derived.Test.YtcoehbkjccfhlaaEnPut2
import Derived.Test.YtcoehbkjccfhlaaRows
import Derived.BigQuiet
import Derived.Deep.AppendLies
import Derived.Deep.CutRange
import Derived.Deep.QuietTactic
import Derived.Deep.RegionHeld3
import Derived.Deep.RegionLaw
import Derived.Deep.RegionWith
import Derived.KernelRfl
import Derived.Laws.EntriesVeiled
import Derived.Laws.Tables
import Derived.Lib.ConvBytes
import Derived.Lib.Hide
import Derived.Lib.SlBytesRow
import Derived.Lib.SmallJoins
import Derived.Maps.AppendAt
import Derived.Shelf.Bytes.SlSmallAll
import Derived.WalkKit
import Derived.WalkLawsBesides
import Derived.WalkSpells
namespace Go.Proofs.Ytcoehbkjccfhlaa
open Go Go.RowKit Go.Joins

/-- The box B holds these lists; where there is a block F with the first switch, it is as it was. -/
structure EnX (F : Option (Nat × Nat)) (w0 : World) (B : Nat) (L : List (List Int)) (w : World) : Prop where
  st : EnSt w0 B L w
  fst : ∀ p, F = some p → w.heap[p.1]? = some (.cells #[.int .i64 (p.2 : Int)] 3 (0, 0)) ∧ p.1 ≠ B ∧ p.2 ≤ 100000000
def phiE (F : Option (Nat × Nat)) (t : TCl) : List Int := match F with
  | none => bareE t
  | some p => withE p.2 t
section
variable {F : Option (Nat × Nat)} {w0 w w' : World} {B : Nat} {L L' : List (List Int)}
theorem EnX.below (h : EnX F w0 B L w) (hb : Below w.heap.size w w') : EnX F w0 B L w' :=
  ⟨h.st.below hb, fun p hp => ⟨heap_below (h.fst p hp).1 hb, (h.fst p hp).2⟩⟩
theorem EnX.go (h : EnX F w0 B L w) (h' : EnSt w0 B L' w') (hg : EnGo B w w') : EnX F w0 B L' w' :=
  ⟨h', fun p hp => ⟨hg.at_ (h.fst p hp).1 (h.fst p hp).2.1 (by decide), (h.fst p hp).2⟩⟩
end
/-- A clause of one, two, three literals that was written out behind W. -/
theorem oneZ_of (w0 W : World) (hb : w0.heap.size ≤ W.heap.size) (xs : List Int) (n : Nat) (C : Array Value) (hC : C = (zvs xs).toArray) (hn : n = xs.length) (hs : xs.length ≤ 1000) : OneZ w0 (W.alloc (.cells C 3)) (some ⟨W.heap.size, 0, none⟩, n, n) xs :=
  .inr (row_zlit w0 W hb xs n C hC hn hs)
theorem doC_any (g : Int) (C : List Int) (b off n : Nat) (w0 w : World) (B : Nat) (L : List (List Int)) (H : EnX none w0 B L w) (hL : L.length ≤ 100000000) (hC : OneZ w0 w (some ⟨b, off, none⟩, n, n) C) (_hg : -1 ≤ g ∧ g ≤ 100000000) (_hn : n ≤ 1000) :
    Calls Try.prog 40 #[.int .i64 g, .slice (some ⟨b, off, none⟩) n n, .pointer (some ⟨B, 0, none⟩)] w fun e w' => e = .returned (.tuple #[]) ∧ EnX none w0 B (L ++ [phiE none (g, C)]) w' ∧ EnGo B w w' :=
  (put_any14 g C _ n n w0 w B L H.st hL hC).mono fun _ _ ⟨h1, h2, h3⟩ => ⟨h1, H.go h2 h3, h3⟩
theorem doR_any (g : Int) (C : List Int) (b off n : Nat) (w0 w : World) (B Fb first : Nat) (L : List (List Int)) (H : EnX (some (Fb, first)) w0 B L w) (hL : L.length ≤ 100000000) (hC : OneZ w0 w (some ⟨b, off, none⟩, n, n) C) (hg : -1 ≤ g ∧ g ≤ 100000000) (hn : n ≤ 1000) :
    Calls Try.prog 42 #[.int .i64 g, .slice (some ⟨b, off, none⟩) n n, .pointer (some ⟨Fb, 0, none⟩), .pointer (some ⟨B, 0, none⟩)] w fun e w' => e = .returned (.tuple #[]) ∧ EnX (some (Fb, first)) w0 B (L ++ [phiE (some (Fb, first)) (g, C)]) w' ∧ EnGo B w w' :=
  (rel_any14 g C b off n w0 w B Fb first L H.st hL hC (H.fst _ rfl).1 (H.fst _ rfl).2.2 hg hn).mono fun _ _ ⟨h1, h2, h3⟩ => ⟨h1, H.go h2 h3, h3⟩
end Go.Proofs.Ytcoehbkjccfhlaa
