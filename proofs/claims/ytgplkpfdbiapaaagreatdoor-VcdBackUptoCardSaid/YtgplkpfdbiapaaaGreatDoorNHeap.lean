/- container/heap at package norm's queue, by contracts. -/
import Derived.Test.YtgplkpfdbiapaaaGreatDoorLib
import Derived.Test.YtgplkpfdbiapaaaGreatDoorOwn
import Derived.Test.YtgplkpfdbiapaaaGreatDoorNBase
import Derived.Test.YtgplkpfdbiapaaaGreatDoorRows
import Derived.BigQuiet
import Derived.Deep.AppendLies
import Derived.Deep.QuietTactic
import Derived.Deep.RegionLaw
import Derived.Deep.RegionWith
import Derived.KernelRfl
import Derived.Laws.EntriesVeiled
import Derived.Lib.ConvBytes
import Derived.Lib.Hide
import Derived.Lib.SlBytesRow
import Derived.Lib.SmallJoins
import Derived.Shelf.Bytes.SlSmallAll
import Derived.WalkKit
import Derived.WalkLawsBesides
import Derived.WalkSpells
namespace Go.Proofs.YtgplkpfdbiapaaaGreatDoor
open Go Go.RowKit Go.Joins

/-- What a call on the queue keeps. -/
structure QKeep (q : Nat) (w w' : World) : Prop where
  low : Below q w w'
  oth : ∀ D C t fr, w.heap[D]? = some (.cells C t fr) → D ≠ q → t ≠ 3 → w'.heap[D]? = some (.cells C t fr)
theorem QKeep.refl (q : Nat) (w : World) : QKeep q w w := ⟨Below.refl _ _, fun _ _ _ _ h _ _ => h⟩
theorem QKeep.trans {q : Nat} {a b c : World} (h : QKeep q a b) (k : QKeep q b c) : QKeep q a c := ⟨h.low.trans k.low, fun D C t fr hD h1 h2 => k.oth D C t fr (h.oth D C t fr hD h1 h2) h1 h2⟩
section
variable (n q : Nat) (w : World)
variable (v : Value) (h : w.cell? ⟨q, 0, .none⟩ = some v)
include h
theorem load_k {α : Type} (k : Value → Sem α) : (Sem.load .plain ⟨q, 0, .none⟩ k).run Tryz.prog w = (k v).run Tryz.prog w := by
  simp only [Sem.run, h]
end

theorem QKeep.drewN (q : Nat) (w : World) (n : Nat) (hq : q < w.heap.size) : QKeep q w (w.drewN n) := ⟨(ext_drewN w n).mono (Nat.le_of_lt hq), fun _ _ _ _ hD _ _ => hD⟩
/-- A number's cell, in a row. -/
theorem Sees.int {w : World} {b off n c : Nat} {xs : List Nat} (h : Sees w (some ⟨b, off, .none⟩) n c (xs.map iv)) (j : Nat) (hj : j < n) : w.cell? ⟨b, off + j, .none⟩ = some (.int .i64 (xs.getD j 0 : Nat)) := by
  have hl : xs.length = n := by have := h.len; simpa using this
  rw [(h.cell j hj).2]
  simp [iv, List.getD, List.getElem?_eq_getElem (show j < xs.length by omega)]

theorem Row.set {ok : Value → Prop} {w : World} {base : Nat} {e : TypeId} {g n cap : Nat} {xs : List Value} (h : Row ok w base e (.slice (some ⟨g, 0, .none⟩) n cap) n xs) (i : Nat) (u : Value) (hu : ok u) :
    Row ok (w.setCell ⟨g, i, .none⟩ u) base e (.slice (some ⟨g, 0, .none⟩) n cap) n (xs.set i u) := by
  refine ⟨by simpa using h.1, ?_⟩
  rcases h.2 with ⟨h1, _⟩ | ⟨g', cap', cur, he, hb, hg, hn, hm, hs, ht, ha⟩
  · cases h1
  · cases he
    refine .inr ⟨g, cap, _, rfl, hb, block_setCell hg (i := i) u, hn, hm, by simpa using hs, ?_, ?_⟩
    · rw [Array.toList_setIfInBounds, List.take_set, ht]
    · intro x hx
      rw [Array.toList_setIfInBounds] at hx
      rcases List.mem_or_eq_of_mem_set hx with hx | hx
      · exact ha x hx
      · rw [hx]; exact hu
theorem Row.unfrozen {ok : Value → Prop} {w : World} {base : Nat} {e : TypeId} {g n cap : Nat} {xs : List Value} (h : Row ok w base e (.slice (some ⟨g, 0, .none⟩) n cap) n xs) (k : Nat) : w.frozen? ⟨g, k, .none⟩ = false := by
  rcases h.2 with ⟨h1, _⟩ | ⟨g', cap', cur, he, hb, hg, _⟩
  · cases h1
  · cases he; exact unfrozen_of_block hg k
theorem Row.block {ok : Value → Prop} {w : World} {base : Nat} {e : TypeId} {g n cap : Nat} {xs : List Value} (h : Row ok w base e (.slice (some ⟨g, 0, .none⟩) n cap) n xs) : base ≤ g ∧ ∃ cur, w.heap[g]? = some (.cells cur e (0, 0)) := by
  rcases h.2 with ⟨h1, _⟩ | ⟨g', cap', cur, he, hb, hg, _⟩
  · cases h1
  · cases he; exact ⟨hb, cur, hg⟩
theorem Row.addr {ok : Value → Prop} {w : World} {base : Nat} {e : TypeId} {v : Value} {n : Nat} {xs : List Value} (h : Row ok w base e v n xs) (h0 : 0 < n) : ∃ g cap, v = .slice (some ⟨g, 0, .none⟩) n cap ∧ n ≤ cap := by
  rcases h.2 with ⟨_, h1⟩ | ⟨g', cap', cur, he, hb, hg, hn, _⟩
  · omega
  · exact ⟨g', cap', he, hn⟩

theorem iv_get (l : List Nat) (i : Nat) (x : Nat) : (l.map iv).set i (iv x) = (l.set i x).map iv := by rw [List.map_set]

end Go.Proofs.YtgplkpfdbiapaaaGreatDoor
