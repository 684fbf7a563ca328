/- slices.Clone of latches, of gates, of bytes, by their contracts. -/
import Derived.Test.YtdheldhecimfnaaLib
import Derived.Test.YtdheldhecimfnaaOwn
import Derived.Test.YtdheldhecimfnaaOwnStr
import Derived.Test.YtdheldhecimfnaaNBase
import Derived.Test.YtdheldhecimfnaaNVal
import Derived.Test.YtdheldhecimfnaaRows
import Derived.BigQuiet
import Derived.Deep.AppendLies
import Derived.Deep.QuietTactic
import Derived.Deep.RegionLaw
import Derived.Deep.RegionWith
import Derived.KernelRfl
import Derived.Laws.EntriesVeiled
import Derived.Lib.AppendStr
import Derived.Lib.ConvBytes
import Derived.Lib.Hide
import Derived.Lib.SlBytesRow
import Derived.Lib.SmallJoins
import Derived.Shelf.Bytes.SlSmallAll
import Derived.WalkKit
import Derived.WalkLawsBesides
import Derived.WalkSpells
namespace Go.Proofs.Ytdheldhecimfnaa
open Go Go.RowKit Go.Joins

theorem info_byte : (Try.prog.info? 5).map (fun i => (i.zero, i.size, i.bytes)) = some (some (.int .u8 0), 1, 1) := by kernel_rfl
theorem owns_made0 (w : World) (e : TypeId) (k : Nat) : (w.alloc (.cells #[] e)).ownsRow w.heap.size e k (.slice (some ⟨w.heap.size, 0, none⟩) 0 0) 0 [] :=
  ⟨by simp, .inr ⟨w.heap.size, 0, #[], rfl, Nat.le_refl _, heap_alloc_new w _, Nat.le_refl _, Nat.zero_le _, by simp, by simp⟩⟩
theorem Sees.news {w : World} {ad : Addr} {n c : Nat} {xs : List Value} (h : Sees w (some ad) n c xs) : ∀ j u, xs[j]? = some u → w.cell? (ad.add j) = some u := by
  intro j u hj
  have hjn : j < n := by rw [← h.len]; exact (List.getElem?_eq_some_iff.1 hj).1
  obtain ⟨b, off, e, _, hc⟩ := h.real (by omega)
  cases e
  have hadd : (⟨b, off, none⟩ : Addr).add j = ⟨b, off + j, none⟩ := by unfold Addr.add; split <;> simp_all
  rw [hadd, hc j hjn, hj]
theorem prCs_one8 : ∀ (l : List (Nat × Nat)), ∀ u ∈ prCs nv8 l, u.oneCell' = true
  | [], u, h => by cases h
  | p :: r, u, h => by
    rw [prCs] at h
    rcases List.mem_cons.1 h with rfl | h
    · rfl
    · rcases List.mem_cons.1 h with rfl | h
      · rfl
      · exact prCs_one8 r u h
theorem prCs_one32 : ∀ (l : List (Nat × Nat)), ∀ u ∈ prCs nv32 l, u.oneCell' = true
  | [], u, h => by cases h
  | p :: r, u, h => by
    rw [prCs] at h
    rcases List.mem_cons.1 h with rfl | h
    · rfl
    · rcases List.mem_cons.1 h with rfl | h
      · rfl
      · exact prCs_one32 r u h

set_option maxRecDepth 100000 in
theorem clone_u8 (bs : List UInt8) (a : Option Addr) (n c : Nat) (w : World) (h : Sees w a n c (bs.map bv)) (hn : n ≤ 1000000000) :
    Calls Try.prog 64 #[.slice a n c] w fun e w' => ∃ v, e = .returned v ∧ Row isByte w' w.heap.size 5 v n (bs.map bv) ∧ Below w.heap.size w w' := by
  obtain ⟨i0, hi, hz0, hz1, hz2⟩ := info_parts info_byte
  have q := fun (w : World) (a : Option Addr) (n c n' c' : Nat) => Lib.run_eql_slice_nil (P := Try.prog) w 27 5 a n c n' c' Try.underlying27
  have H := Lib.hid h
  have HOK : Hid (∀ u ∈ bs.map bv, isByte u) := isByte_all bs
  clear h
  cases a with
  | none =>
    go_enter Try.func64, Try.ntmps64
    go_wp2
    go_ret
    have h := H.out
    have h0 : n = 0 := by have := h.cap; have := h.nilc rfl; omega
    subst h0
    have hx : bs.map bv = [] := List.eq_nil_of_length_eq_zero h.len
    exact ⟨_, rfl, by rw [hx]; exact Row.nil _ _ _ _, Below.refl _ _⟩
  | some ad =>
    go_enter Try.func64, Try.ntmps64
    go_wp2_with (at_builtin; refine wpList_append_row isByte _ rfl _ _ 27 rfl w.heap.size 5 i0 (.int .u8 0) 1 Try.underlying27 hi hz0 hz1 hz2 rfl isByte_zero _ _ _ rfl (Row.made #[] 0 (Nat.le_refl _) (Nat.zero_le _) (Nat.zero_le _) (by simp)) (some ad) n c (bs.map bv) rfl ?qc1 (bv_one bs) HOK.out ?qc4 ?qc5 ?qc6 ?_)
    case qc1 => exact H.out.below ((Below.refl _ _).alloc (Nat.le_refl _) _)
    case qc4 => unfold maxLen; omega
    case qc5 => omega
    case qc6 => simp
    intro v' w1 hown hgrow hnil
    go_wp2
    go_ret
    exact ⟨v', rfl, by simpa using hown, ((Below.refl _ w).alloc (Nat.le_refl _) _).grown hgrow (by simp) (by intro k hk; simp [Value.ownBlock] at hk; omega)⟩
end Go.Proofs.Ytdheldhecimfnaa
