/- slices.Clone of latches, of gates, of bytes, by their contracts. -/
import Derived.Test.YtgplkpfdbiapaaaGreatDoorLib
import Derived.Test.YtgplkpfdbiapaaaGreatDoorOwn
import Derived.BigQuiet
import Derived.Deep.AppendLies
import Derived.Deep.QuietTactic
import Derived.Deep.RegionLaw
import Derived.Deep.RegionWith
import Derived.Lib.ConvBytes
import Derived.Lib.Hide
import Derived.Lib.SlBytesRow
import Derived.Lib.SmallJoins
import Derived.Shelf.Bytes.SlSmallAll
import Derived.WalkKit
import Derived.WalkLawsBesides
import Derived.WalkSpells
import Derived.Test.YtgplkpfdbiapaaaGreatDoorRows
import Derived.KernelRfl
import Derived.Laws.EntriesVeiled
import Derived.Test.YtgplkpfdbiapaaaGreatDoorNBase
import Derived.Test.YtgplkpfdbiapaaaGreatDoorNVal
import Derived.Lib.AppendStr
/- append to a row of the call's own at a step of a region that draws its order. -/
namespace Go.Proofs.YtgplkpfdbiapaaaGreatDoor
open Go Go.RowKit

section
variable {P : Program} (ok : Value → Prop) (w : World)
theorem step_append_row {ops : Array Oper} {o : Oper} {a : Act} {K : Act → World → Prop} {Q : Exit → Act → World → Prop} {E : Prop} (hgd : o.guard = none) (s x : Operand) (t : TypeId)
    (ho : o.op = .call { callee := .builtin .append, args := #[s, x], argTypes := #[t, t] })
    (base : Nat) (e : TypeId) (i : TypeInfo) (z : Value) (bytes : Nat) (ht : P.underlying t = some (.slice e)) (hi : P.info? e = some i) (hz : i.zero = some z)
    (hsize : i.size = 1) (hby : i.bytes = bytes) (hzs : z.cells = #[z]) (hok : ok z)
    (v : Value) (n : Nat) (xs : List Value) (hs : a.eval s = v) (hown : Row ok w base e v n xs)
    (ad : Option Addr) (m c : Nat) (news : List Value) (hx : a.eval x = .slice ad m c) (hsee : Sees w ad m c news) (h1 : ∀ u ∈ news, u.oneCell' = true) (hoks : ∀ u ∈ news, ok u)
    (h63 : n + m ≤ maxLen) (hbytes : (n + m) * bytes ≤ 140737488355328) (hbase : base ≤ w.heap.size)
    (h : ∀ v' w', Row ok w' base e v' (n + m) (xs ++ news) → w.grownBy w' v.ownBlock → K (a.put o.dst v') w') :
    if Region.wanted o (yielded ops a.tmps) = true then Oper.wp P o a w K Q else E := by
  have hw : Region.wanted o (yielded ops a.tmps) = true := by simp [Region.wanted, hgd]
  rw [if_pos hw]
  obtain ⟨v', w', hr, h2, h3, _⟩ := run_append_row (P := P) ok w base t o.type e i z bytes ht hi hz hsize hby hzs hok v n xs hown ad m c news hsee h1 hoks h63 hbytes hbase
  unfold Oper.wp execOp
  simp only [ho, resolve, invoke, builtin, Sem.run_bind, Sem.run_pure, Result.andThen_ok, List.map_toArray, List.map_cons, List.map_nil, hs, hx, hr]
  exact h v' w' h2 h3

/-- append to a full slice that is only read: a row of its own. -/
theorem run_append_full (base : Nat) (t ty e : TypeId) (i : TypeInfo) (z : Value) (bytes : Nat) (ht : P.underlying t = some (.slice e)) (hi : P.info? e = some i) (hz : i.zero = some z)
    (hsize : i.size = 1) (hby : i.bytes = bytes) (hzs : z.cells = #[z]) (hok : ok z)
    (a0 : Option Addr) (n : Nat) (xs : List Value) (hold : Sees w a0 n n xs) (h0 : 0 < n) (hxo : ∀ u ∈ xs, ok u)
    (a : Option Addr) (m c : Nat) (news : List Value) (hsee : Sees w a m c news) (hm : 0 < m) (hoks : ∀ u ∈ news, ok u)
    (h63 : n + m ≤ maxLen) (hbytes : (n + m) * bytes ≤ 140737488355328) (hbase : base ≤ w.heap.size) :
    ∃ v' w', (Builtin.append_ #[t, t] ty #[.slice a0 n n, .slice a m c]).run P w = .ok v' w' ∧ Row ok w' base e v' (n + m) (xs ++ news) ∧ Below w.heap.size w w' := by
  subst hby
  have hl := hsee.len
  have hxl := hold.len
  have hsmall : n + m ≤ 9223372036854775807 := by simp only [maxLen] at h63; omega
  have hlen : (xs ++ news).length = n + m := by rw [List.length_append, hxl, hl]
  obtain ⟨b, off, rfl, hlt, hc⟩ := hsee.real (by omega)
  obtain ⟨b0, off0, rfl, hlt0, hc0⟩ := hold.real h0
  have hadd : ∀ (b off j : Nat), (⟨b, off, none⟩ : Addr).add j = ⟨b, off + j, none⟩ := by intro b off j; unfold Addr.add; split <;> simp_all
  have hnews : ∀ j u, news[j]? = some u → w.cell? ((⟨b, off, none⟩ : Addr).add j) = some u := by
    intro j u hj
    have hjn : j < m := by rw [← hl]; exact (List.getElem?_eq_some_iff.1 hj).1
    rw [hadd, hc j hjn, hj]
  have holds : ∀ j u, xs[j]? = some u → w.cell? ((⟨b0, off0, none⟩ : Addr).add j) = some u := by
    intro j u hj
    have hjn : j < n := by rw [← hxl]; exact (List.getElem?_eq_some_iff.1 hj).1
    rw [hadd, hc0 j hjn, hj]
  have hr := run_append_grow (P := P) w t ty e i z ht hi hz ⟨b0, off0, none⟩ n n xs (by rw [hxl, hsize]; omega) holds ⟨b, off, none⟩ m c news (by rw [hl, hsize]; omega) hnews (by omega) (by omega) (growslice_fits (by omega) hbytes)
  have hge := grownCap_ge w (n + m) n e
  have hcm : grownCap w (n + m) n e ≤ maxLen := grownCap_le_maxLen w (n + m) n e h63
  refine ⟨_, _, hr, ⟨hlen, .inr ⟨w.heap.size, _, _, rfl, hbase, heap_alloc_new w.drew _, hge, hcm, ?_, ?_, ?_⟩⟩, ((Below.refl _ w).drew).alloc (Nat.le_refl _) _⟩
  · simp only [Array.size_append, List.size_toArray, size_zeroCells, hzs, hxl, hl]
    simp
    omega
  · simp only [Array.toList_append, List.append_assoc]
    rw [← List.append_assoc, ← hlen]
    exact List.take_left
  · intro u hu
    simp only [Array.toList_append, List.mem_append] at hu
    rcases hu with (hu | hu) | hu
    · exact hxo u hu
    · exact hoks u hu
    · rw [mem_zeroCells hzs hu]; exact hok

theorem step_append_full {ops : Array Oper} {o : Oper} {a : Act} {K : Act → World → Prop} {Q : Exit → Act → World → Prop} {E : Prop} (hgd : o.guard = none) (s x : Operand) (t : TypeId)
    (ho : o.op = .call { callee := .builtin .append, args := #[s, x], argTypes := #[t, t] })
    (base : Nat) (e : TypeId) (i : TypeInfo) (z : Value) (bytes : Nat) (ht : P.underlying t = some (.slice e)) (hi : P.info? e = some i) (hz : i.zero = some z)
    (hsize : i.size = 1) (hby : i.bytes = bytes) (hzs : z.cells = #[z]) (hok : ok z)
    (a0 : Option Addr) (n : Nat) (xs : List Value) (hs : a.eval s = .slice a0 n n) (hold : Sees w a0 n n xs) (h0 : 0 < n) (hxo : ∀ u ∈ xs, ok u)
    (ad : Option Addr) (m c : Nat) (news : List Value) (hx : a.eval x = .slice ad m c) (hsee : Sees w ad m c news) (hm : 0 < m) (hoks : ∀ u ∈ news, ok u)
    (h63 : n + m ≤ maxLen) (hbytes : (n + m) * bytes ≤ 140737488355328) (hbase : base ≤ w.heap.size)
    (h : ∀ v' w', Row ok w' base e v' (n + m) (xs ++ news) → Below w.heap.size w w' → K (a.put o.dst v') w') :
    if Region.wanted o (yielded ops a.tmps) = true then Oper.wp P o a w K Q else E := by
  have hw : Region.wanted o (yielded ops a.tmps) = true := by simp [Region.wanted, hgd]
  rw [if_pos hw]
  obtain ⟨v', w', hr, h2, h3⟩ := run_append_full (P := P) ok w base t o.type e i z bytes ht hi hz hsize hby hzs hok a0 n xs hold h0 hxo ad m c news hsee hm hoks h63 hbytes hbase
  unfold Oper.wp execOp
  simp only [ho, resolve, invoke, builtin, Sem.run_bind, Sem.run_pure, Result.andThen_ok, List.map_toArray, List.map_cons, List.map_nil, hs, hx, hr]
  exact h v' w' h2 h3
end
end Go.Proofs.YtgplkpfdbiapaaaGreatDoor
/- slices.ContainsFunc at the closures of raw.May. -/
namespace Go.Proofs.YtgplkpfdbiapaaaGreatDoor
open Go Go.RowKit Go.Joins

/-- The place of the first one that holds. -/
def firstAt {α : Type} (p : α → Bool) (l : List α) : Int := match l.findIdx? p with | none => -1 | some k => (k : Int)
theorem firstAt_none {α : Type} {p : α → Bool} {l : List α} (h : ∀ x ∈ l, p x = false) : firstAt p l = -1 := by
  have : l.findIdx? p = none := List.findIdx?_eq_none_iff.2 h
  simp [firstAt, this]
theorem any_none {α : Type} {p : α → Bool} {l : List α} (h : ∀ x ∈ l, p x = false) : l.any p = false := by
  rw [List.any_eq_false]; intro x hx; simp [h x hx]

theorem getD_mem {α : Type} {l : List α} {k : Nat} {d : α} (h : k < l.length) : l.getD k d ∈ l := by
  simp [List.getD, List.getElem?_eq_getElem h]
theorem all_of_getD {α : Type} {l : List α} {d : α} {P : α → Prop} (h : ∀ k, k < l.length → P (l.getD k d)) : ∀ x ∈ l, P x := by
  intro x hx
  obtain ⟨k, hk, rfl⟩ := List.getElem_of_mem hx
  have := h k hk
  simpa [List.getD, List.getElem?_eq_getElem hk] using this

def IdxPost {α : Type} (p : α → Bool) (l : List α) (w : World) (e : Ending) (w' : World) : Prop :=
  ∃ z : Int, e = .returned (.int .i64 z) ∧ -1 ≤ z ∧ (0 ≤ z ↔ l.any p = true) ∧ Below w.heap.size w w'

end Go.Proofs.YtgplkpfdbiapaaaGreatDoor
/- Cells by a function of the place. -/
namespace Go.Proofs.YtgplkpfdbiapaaaGreatDoor
open Go Go.RowKit

/-- N cells, by a function of their places. -/
def fcells (N : Nat) (f : Nat → Value) : Array Value := ((List.range N).map f).toArray
theorem fcells_get (N : Nat) (f : Nat → Value) (i : Nat) (h : i < N) : (fcells N f)[i]? = some (f i) := by
  simp [fcells, h]
theorem fcells_set (N : Nat) (f : Nat → Value) (i : Nat) (x : Value) : (fcells N f).setIfInBounds i x = fcells N (fun j => if j = i then x else f j) := by
  apply Array.ext_getElem?
  intro j
  rw [Array.getElem?_setIfInBounds]
  by_cases h : j < N
  · rw [fcells_get N f j h, fcells_get N (fun j => if j = i then x else f j) j h]
    by_cases e : i = j
    · subst e; simp [fcells, h]
    · rw [if_neg e, if_neg (fun h => e h.symm)]
  · have e1 : ∀ g : Nat → Value, (fcells N g)[j]? = none := fun g => by simp [fcells]; omega
    rw [e1, e1]
    split
    · rw [if_neg (by simp [fcells]; omega)]
    · rfl
theorem fcells_congr {N : Nat} {f g : Nat → Value} (h : ∀ i, i < N → f i = g i) : fcells N f = fcells N g := by
  unfold fcells
  congr 1
  exact List.map_congr_left (fun i hi => h i (List.mem_range.1 hi))
theorem fcells_size (N : Nat) (f : Nat → Value) : (fcells N f).size = N := by simp [fcells]
theorem fcells_zero (N : Nat) (z : Value) : zeros z N = fcells N (fun _ => z) := by
  apply Array.ext_getElem?
  intro j
  by_cases h : j < N
  · rw [fcells_get N _ j h]; simp [zeros, h]
  · simp [zeros, fcells, h]
end Go.Proofs.YtgplkpfdbiapaaaGreatDoor
namespace Go.Proofs.YtgplkpfdbiapaaaGreatDoor
open Go Go.RowKit Go.Joins

theorem info_byte : (Tryz.prog.info? 5).map (fun i => (i.zero, i.size, i.bytes)) = some (some (.int .u8 0), 1, 1) := by kernel_rfl
theorem owns_made0 (w : World) (e : TypeId) (k : Nat) : (w.alloc (.cells #[] e)).ownsRow w.heap.size e k (.slice (some ⟨w.heap.size, 0, none⟩) 0 0) 0 [] :=
  ⟨by simp, .inr ⟨w.heap.size, 0, #[], rfl, Nat.le_refl _, heap_alloc_new w _, Nat.le_refl _, Nat.zero_le _, by simp, by simp⟩⟩
theorem Sees.news {w : World} {ad : Addr} {n c : Nat} {xs : List Value} (h : Sees w (some ad) n c xs) : ∀ j u, xs[j]? = some u → w.cell? (ad.add j) = some u := by
  intro j u hj
  have hjn : j < n := by rw [← h.len]; exact (List.getElem?_eq_some_iff.1 hj).1
  obtain ⟨b, off, e, _, hc⟩ := h.real (by omega)
  cases e
  have hadd : (⟨b, off, none⟩ : Addr).add j = ⟨b, off + j, none⟩ := by unfold Addr.add; split <;> simp_all
  rw [hadd, hc j hjn, hj]
theorem prCs_one8 : ∀ (l : List (Nat × Nat)), ∀ u ∈ prCs nv8 l, u.oneCell' = true
  | [], u, h => by cases h
  | p :: r, u, h => by
    rw [prCs] at h
    rcases List.mem_cons.1 h with rfl | h
    · rfl
    · rcases List.mem_cons.1 h with rfl | h
      · rfl
      · exact prCs_one8 r u h
theorem prCs_one32 : ∀ (l : List (Nat × Nat)), ∀ u ∈ prCs nv32 l, u.oneCell' = true
  | [], u, h => by cases h
  | p :: r, u, h => by
    rw [prCs] at h
    rcases List.mem_cons.1 h with rfl | h
    · rfl
    · rcases List.mem_cons.1 h with rfl | h
      · rfl
      · exact prCs_one32 r u h

end Go.Proofs.YtgplkpfdbiapaaaGreatDoor
