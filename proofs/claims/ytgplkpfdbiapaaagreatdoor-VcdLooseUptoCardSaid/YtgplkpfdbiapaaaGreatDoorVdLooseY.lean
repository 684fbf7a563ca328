/- The law VcdLoose: what was read stays where another row grows; how much is read at most. -/
import Derived.Test.YtgplkpfdbiapaaaGreatDoorLib
import Derived.Test.YtgplkpfdbiapaaaGreatDoorOwn
import Derived.Test.YtgplkpfdbiapaaaGreatDoorNBase
import Derived.Test.YtgplkpfdbiapaaaGreatDoorNTrace
import Derived.Test.YtgplkpfdbiapaaaGreatDoorNHeap
import Derived.Test.YtgplkpfdbiapaaaGreatDoorVdSpec
import Derived.Test.YtgplkpfdbiapaaaGreatDoorVG
import Derived.Test.YtgplkpfdbiapaaaGreatDoorVdRep
import Derived.Test.YtgplkpfdbiapaaaGreatDoorVdHold
import Derived.Test.YtgplkpfdbiapaaaGreatDoorRows
import Derived.Test.YtgplkpfdbiapaaaGreatDoorShelf
import Derived.BigQuiet
import Derived.Deep.AppendLies
import Derived.Deep.CutRange
import Derived.Deep.QuietTactic
import Derived.Deep.RegionHeld3
import Derived.Deep.RegionLaw
import Derived.Deep.RegionWith
import Derived.KernelRfl
import Derived.Laws.CopyOwn
import Derived.Laws.EntriesVeiled
import Derived.Laws.IdiomCopy
import Derived.Laws.OwnMore
import Derived.Laws.Tables
import Derived.Lib.AppendStr
import Derived.Lib.AppendZeros
import Derived.Lib.BufferWrite
import Derived.Lib.ConvBytes
import Derived.Lib.Hide
import Derived.Lib.ItoaNum
import Derived.Lib.MakeNoZero
import Derived.Lib.ParseIntBCases
import Derived.Lib.SlBytesRow
import Derived.Lib.SmallJoins
import Derived.Maps.AppendAt
import Derived.Maps.Own
import Derived.Maps.OwnOps
import Derived.Maps.OwnSet
import Derived.OrdersHeld
import Derived.Shelf.Bytes.SlSmallAll
import Derived.Shelf.Pu.Lower
import Derived.Shelf.Pu.ToError
import Derived.Shelf.Pu.ToErrorRange
import Derived.WalkKit
import Derived.WalkLawsBesides
import Derived.WalkSpells
namespace Go.Proofs.YtgplkpfdbiapaaaGreatDoor
open Go Go.RowKit Go.Joins Go.Shelf Go.Maps

theorem ownsN_aside {w w' : World} {base k : Nat} {e : TypeId} {v : Value} {n : Nat} {xs : List Value} {row : Option Nat} (h : w.ownsRow base e k v n xs) (hg : w.grownBy w' row) (hr : ∀ q, row = some q → q < base) : w'.ownsRow base e k v n xs := by
  refine ⟨h.1, ?_⟩
  rcases h.2 with h2 | ⟨g, cap, cur, hv, hb, hh, r⟩
  · exact .inl h2
  · exact .inr ⟨g, cap, cur, hv, hb, heap_grown hh hg (fun e => by have := hr _ e; omega), r⟩
theorem Row.aside {ok : Value → Prop} {w w' : World} {base : Nat} {e : TypeId} {v : Value} {n : Nat} {xs : List Value} {row : Option Nat} (h : Row ok w base e v n xs) (hg : w.grownBy w' row) (hr : ∀ q, row = some q → q < base) : Row ok w' base e v n xs := by
  refine ⟨h.1, ?_⟩
  rcases h.2 with h2 | ⟨g, cap, cur, hv, hb, hh, r⟩
  · exact .inl h2
  · exact .inr ⟨g, cap, cur, hv, hb, heap_grown hh hg (fun e => by have := hr _ e; omega), r⟩
theorem OwnW.aside {w w' : World} {base : Nat} {v : Value} {ss : List Slc} {L : List (List UInt8 × List UInt8)} {row : Option Nat} (h : OwnW w base v ss L) (hg : w.grownBy w' row) (hr : ∀ q, row = some q → q < base) : OwnW w' base v ss L :=
  ⟨h.lens, ownsN_aside h.row hg hr, fun j hj => ownsN_aside (h.rows j hj) hg hr, h.apart⟩
theorem Row.onward {ok : Value → Prop} {w w' : World} {base : Nat} {e : TypeId} {v : Value} {n : Nat} {xs : List Value} (h : Row ok w base e v n xs) (hb : Below w.heap.size w w') : Row ok w' base e v n xs := by
  refine ⟨h.1, ?_⟩
  rcases h.2 with h2 | ⟨g, cap, cur, hv, hg, hh, r⟩
  · exact .inl h2
  · exact .inr ⟨g, cap, cur, hv, hg, heap_below hh hb, r⟩
/-- Between base and the world's own end all stays. -/
def MidSame (base : Nat) (w w' : World) : Prop := ∀ k, base ≤ k → k < w.heap.size → w'.heap[k]? = w.heap[k]?
theorem MidSame.refl (base : Nat) (w : World) : MidSame base w w := fun _ _ _ => rfl
theorem MidSame.below {base : Nat} {w w' w'' : World} (h : MidSame base w w') (hb : Below w'.heap.size w' w'') (hs : w.heap.size ≤ w'.heap.size) : MidSame base w w'' := fun k h1 h2 => (hb.block k (by omega)).trans (h k h1 h2)
theorem MidSame.grown {base : Nat} {w w' w'' : World} {row : Option Nat} (h : MidSame base w w') (hg : w'.grownBy w'' row) (hs : w.heap.size ≤ w'.heap.size) (hr : ∀ q, row = some q → q < base ∨ w.heap.size ≤ q) : MidSame base w w'' := fun k h1 h2 =>
  (hg.block k (by omega) (fun e => by rcases hr k e.symm with h' | h' <;> omega)).trans (h k h1 h2)
theorem ownsN_mid {w w' : World} {base k : Nat} {e : TypeId} {v : Value} {n : Nat} {xs : List Value} (h : w.ownsRow base e k v n xs) (hm : MidSame base w w') : w'.ownsRow base e k v n xs := by
  refine ⟨h.1, ?_⟩
  rcases h.2 with h2 | ⟨g, cap, cur, hv, hb, hh, r⟩
  · exact .inl h2
  · exact .inr ⟨g, cap, cur, hv, hb, (hm g hb (heap_lt hh)).trans hh, r⟩
theorem Row.mid {ok : Value → Prop} {w w' : World} {base : Nat} {e : TypeId} {v : Value} {n : Nat} {xs : List Value} (h : Row ok w base e v n xs) (hm : MidSame base w w') : Row ok w' base e v n xs := by
  refine ⟨h.1, ?_⟩
  rcases h.2 with h2 | ⟨g, cap, cur, hv, hb, hh, r⟩
  · exact .inl h2
  · exact .inr ⟨g, cap, cur, hv, hb, (hm g hb (heap_lt hh)).trans hh, r⟩
theorem OwnW.mid {w w' : World} {base : Nat} {v : Value} {ss : List Slc} {L : List (List UInt8 × List UInt8)} (h : OwnW w base v ss L) (hm : MidSame base w w') : OwnW w' base v ss L :=
  ⟨h.lens, ownsN_mid h.row hm, fun j hj => ownsN_mid (h.rows j hj) hm, h.apart⟩
def AnyB : Value → Prop := fun _ => True
theorem Row.ofOwnsB {w : World} {base : Nat} {e : TypeId} {v : Value} {n : Nat} {xs : List Value} (h : w.ownsRow base e 1 v n xs) : Row AnyB w base e v n xs := by
  refine ⟨by have := h.1; omega, ?_⟩
  rcases h.2 with h2 | ⟨g, cap, cur, hv, hg, hh, hn, hc, hs, ht⟩
  · exact .inl h2
  · exact .inr ⟨g, cap, cur, hv, hg, hh, hn, hc, by omega, by simpa using ht, fun _ _ => trivial⟩
theorem run_ok : ∀ (ws : List (List UInt8)) (s : VSt) (r : VRd), OkV s r → ∃ s', OkV s' (runV s r ws)
  | [], s, r, h => ⟨_, step_ok s r [] h⟩
  | w :: ws, s, r, h => by
    rw [runV]
    split
    · exact ⟨_, step_ok s r w h⟩
    · exact run_ok ws _ _ (step_ok s r w h)
theorem read_small (bs : List UInt8) : (readV bs).1.length ≤ 4096 ∧ (readV bs).2.1.length ≤ 32768 := by
  obtain ⟨s', h⟩ := run_ok (wordsV bs) .decl r0V ok_start
  unfold readV
  split
  · exact ⟨Nat.zero_le _, Nat.zero_le _⟩
  · split
    · exact ⟨Nat.zero_le _, Nat.zero_le _⟩
    · exact ⟨h.times, by rw [List.length_map]; exact h.many⟩
theorem kTail_cells : Lib.strCells { data := #[36, 99, 111, 109, 109, 101, 110, 116, 32, 119, 104, 97, 116, 32, 36, 101, 110, 100] } = kTail.map bv := by rfl
end Go.Proofs.YtgplkpfdbiapaaaGreatDoor
