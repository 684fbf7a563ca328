/- clause.Order, by its contract. -/
import Derived.Test.YtdngaohjocokiaaLib
import Derived.Test.YtdngaohjocokiaaNBase
import Derived.Test.YtdngaohjocokiaaCuPure
import Derived.Test.YtdngaohjocokiaaCuInts
import Derived.Test.YtdngaohjocokiaaCuMay
import Derived.Test.YtdngaohjocokiaaCuSort
import Derived.Test.YtdngaohjocokiaaCuOrd
import Derived.Test.YtdngaohjocokiaaRows
import Derived.Test.YtdngaohjocokiaaShelf
import Derived.BigQuiet
import Derived.Deep.AppendLies
import Derived.Deep.QuietTactic
import Derived.Deep.RegionLaw
import Derived.Deep.RegionWith
import Derived.KernelRfl
import Derived.Laws.EntriesVeiled
import Derived.Lib.ConvBytes
import Derived.Lib.Hide
import Derived.Lib.SlBytesRow
import Derived.Lib.SlicesCompact
import Derived.Lib.SmallJoins
import Derived.Shelf.Bytes.SlSmallAll
import Derived.Sort.Statements
import Derived.WalkKit
import Derived.WalkLawsBesides
import Derived.WalkSpells
namespace Go.Proofs.Ytdngaohjocokiaa
open Go Go.RowKit Go.Joins Go.Lib Go.Sort

/-- A list of ints in new memory, that may be written. -/
structure NewZ (w : World) (base : Nat) (a : Option Addr) (n c : Nat) (C : List Int) : Prop where
  sees : Sees w a n c (zvs C)
  blk : 0 < n → ∃ g off Cur, a = some ⟨g, off, none⟩ ∧ base ≤ g ∧ w.heap[g]? = some (.cells Cur 3 (0, 0)) ∧ ∀ j, j < n → Cur[off + j]? = some (.int .i64 (C.getD j 0))
theorem NewZ.nil (w : World) (base : Nat) (a : Option Addr) (c : Nat) (h : a = none → c = 0) : NewZ w base a 0 c [] := ⟨Sees.nil _ _ _ h, fun h => absurd h (by omega)⟩
/-- One clause, as a list of clauses. -/
theorem seesZ_one (w : World) (a : Option Addr) (n c : Nat) (l : List Int) (h : Sees w a n c (zvs l)) :
    SeesZ (w.alloc (.cells #[.slice a n c] 23)) (some ⟨w.heap.size, 0, none⟩) 1 1 [(a, n, c)] [l] := by
  refine ⟨sees_lit w _ _ _ _ 1 (by rfl) (by rfl), rfl, fun k hk => ?_⟩
  have : k = 0 := by simpa using hk
  subst this
  exact h.below (ext_alloc _ _)
/-- What Order answers. -/
def OrderPost (l : List Int) (vars : Int) (w : World) (e : Ending) (w' : World) : Prop :=
  Below w.heap.size w w' ∧
  ((mayS [l] vars = false ∧ e = .returned (.tuple #[.slice none 0 0, .bool false, .int .i64 2])) ∨
   (mayS [l] vars = true ∧ orderS l = none ∧ e = .returned (.tuple #[.slice none 0 0, .bool true, .int .i64 0])) ∨
   (mayS [l] vars = true ∧ ∃ C a n c, orderS l = some C ∧ e = .returned (.tuple #[.slice a n c, .bool false, .int .i64 0]) ∧ n ≤ 4096 ∧ NewZ w' w.heap.size a n c C))
theorem may_one {l : List Int} {vars : Int} (h : mayS [l] vars = true) : 0 ≤ vars ∧ vars ≤ 4194304 ∧ l.length ≤ 4096 ∧ ∀ x ∈ l, x ≠ 0 ∧ x ≤ vars ∧ -vars ≤ x := by
  obtain ⟨h1, h2, _, h3⟩ := mayS_iff.1 h
  exact ⟨h1, h2, h3 l (by simp)⟩
set_option maxRecDepth 100000 in
/-- slices.Clone: the same ints in new memory. -/
theorem clone_any11 (l : List Int) (a : Option Addr) (n c : Nat) (w : World) (h : Sees w a n c (zvs l)) (hn : n ≤ 4096) :
    Calls Try.prog 36 #[.slice a n c] w fun e w' => ∃ a' c', e = .returned (.slice a' n c') ∧ NewZ w' w.heap.size a' n c' l ∧ Below w.heap.size w w' ∧ (0 < n → ∃ g Cur, a' = some ⟨g, 0, none⟩ ∧ w.heap.size ≤ g ∧ Seg w' g 0 n l Cur ∧ n ≤ c') := by
  have hl := h.zlen
  cases a with
  | none =>
    have hc := h.nilc rfl
    have hn0 : n = 0 := by have := h.cap; omega
    subst hn0; subst hc
    have : l = [] := List.eq_nil_of_length_eq_zero hl
    subst this
    refine (Try.slices_Clone_int_nil 0 0 w).mono ?_
    rintro e w' ⟨rfl, rfl⟩
    exact ⟨none, 0, rfl, NewZ.nil _ _ _ _ (fun _ => rfl), Below.refl _ _, fun h => absurd h (by omega)⟩
  | some p =>
    by_cases hn0 : n = 0
    · subst hn0
      have : l = [] := List.eq_nil_of_length_eq_zero hl
      subst this
      refine (Try.slices_Clone_int_zero p c w).mono ?_
      rintro e w' ⟨v, rfl, ho, hv, hb⟩
      rcases ho.2 with ⟨rfl, _⟩ | ⟨g, cap, cur, rfl, hg, _⟩
      · exact absurd rfl hv
      · exact ⟨_, _, rfl, NewZ.nil _ _ _ _ (fun e => by cases e), hb, fun h => absurd h (by omega)⟩
    · obtain ⟨b, off, e, hlt⟩ := h.addr (by omega)
      cases e
      refine (Try.slices_Clone_int b off n c l w (by omega) (by omega) fun j hj => h.z_at j (by omega)).mono ?_
      rintro e w' ⟨v, rfl, ho, hv, hb⟩
      rcases ho.2 with ⟨rfl, _⟩ | ⟨g, cap, cur, rfl, hg, hh, hnc, hm, hcs, ht⟩
      · exact absurd rfl hv
      · have hat : ∀ j, j < n → cur[0 + j]? = some (.int .i64 (l.getD j 0)) := fun j hj => by
          have e1 : (cur.toList.take (n * 1))[j]? = cur[j]? := by rw [List.getElem?_take_of_lt (by omega)]; simp
          rw [Nat.zero_add, ← e1, ht, List.take_of_length_le (by omega)]
          simp [List.getD, List.getElem?_eq_getElem (show j < l.length by omega)]
        have hsg : Seg w' g 0 n l cur := ⟨hh, by omega, hl, hat⟩
        exact ⟨_, _, rfl, ⟨hsg.sees hnc, fun _ => ⟨g, 0, cur, rfl, hg, hh, hat⟩⟩, hb, fun _ => ⟨g, cur, rfl, hg, hsg, hnc⟩⟩

set_option maxRecDepth 100000 in
set_option maxHeartbeats 3200000 in
theorem order_any11 (l : List Int) (vars : Int) (a : Option Addr) (n c : Nat) (w : World) (h : Sees w a n c (zvs l)) (hn : n ≤ 9223372036854775807) :
    Calls Try.prog 16 #[.slice a n c, .int .i64 vars] w (OrderPost l vars w) := by
  have hl := h.zlen
  have HM := Lib.hid (may11_any [l] (some ⟨w.heap.size, 0, none⟩) 1 1 [(a, n, c)] vars _ (seesZ_one w a n c l h) (by omega) (fun x hx => by
    have : x = l := by simpa using hx
    subst this; omega))
  obtain ⟨q, hq⟩ : ∃ q, q = mayS [l] vars := ⟨_, rfl⟩
  rw [← hq] at HM
  cases q with
  | false =>
    have HQ := Lib.hid hq
    clear h hl hq
    go_enter Try.func16, Try.ntmps16
    go_wp2_with fail
    refine HM.out.mono ?_
    rintro e w1 ⟨rfl, hb⟩
    have HB := Lib.hid (ext_trans (ext_alloc w _) hb)
    clear hb
    go_wp2
    go_ret3
    exact ⟨HB.out, .inl ⟨HQ.out.symm, rfl⟩⟩
  | true =>
    obtain ⟨hv0, hv1, hl4, hlit⟩ := may_one hq.symm
    have HQ := Lib.hid hq
    have HS := Lib.hid h
    have HL := Lib.hid hl
    have hn4 : n ≤ 4096 := by omega
    have HV : Hid ((∀ x ∈ l, -9223372036854775807 ≤ x ∧ x ≤ 9223372036854775807) ∧ (0 : Int) ∉ l) := ⟨fun x hx => by have := hlit x hx; omega, fun hx => (hlit 0 hx).1 rfl⟩
    clear h hl hq hv0 hv1 hl4 hlit
    go_enter Try.func16, Try.ntmps16
    go_wp2_with fail
    refine HM.out.mono ?_
    rintro e w1 ⟨rfl, hb⟩
    have HB := Lib.hid (ext_trans (ext_alloc w _) hb)
    clear hb
    have HCL := Lib.hid (clone_any11 l a n c w1 (HS.out.below HB.out) hn4)
    go_wp2_with fail
    refine HCL.out.mono ?_
    rintro e w2 ⟨a2, c2, rfl, hnew, hb2, hseg⟩
    have HB2 := Lib.hid (ext_trans HB.out hb2)
    have HSG := Lib.hid hseg
    have HSZ : Hid (w.heap.size ≤ w1.heap.size) := HB.out.size
    clear hb2 hseg
    by_cases h0 : n = 0
    · subst h0
      have hl0 : l = [] := List.eq_nil_of_length_eq_zero HL.out
      have HNW : Hid (NewZ w2 w.heap.size a2 0 c2 []) := NewZ.nil _ _ _ _ hnew.sees.nilc
      have HO := Lib.hid (ordered_zero a2 c2 w2)
      have HL0 := Lib.hid hl0
      clear hnew hl0
      go_wp2_with fail
      refine HO.out.mono ?_
      rintro e w3 ⟨rfl, rfl⟩
      go_wp2
      go_ret3
      exact ⟨HB2.out, .inr (.inr ⟨HQ.out.symm, [], a2, 0, c2, by rw [HL0.out]; rfl, rfl, by omega, HNW.out⟩)⟩
    · obtain ⟨g, Cur, rfl, hg, hsg, hcap⟩ := HSG.out (by omega)
      have HO := Lib.hid (ordered_any g 0 n c2 l Cur w2 hsg hcap hn4 (by omega) HV.out.1 HV.out.2)
      have HG : Hid (w.heap.size ≤ g) := Nat.le_trans HSZ.out hg
      clear hnew hg hsg hcap
      go_wp2_with fail
      refine HO.out.mono ?_
      rintro e w3 ⟨Cur3, hb3, hk3, hg3, hres⟩
      have HBF : Hid (Below w.heap.size w w3) := HB2.out.grown hg3 (Nat.le_trans HG.out (Nat.le_refl _) |> fun _ => HB2.out.size) (fun k hk => by cases hk; exact HG.out)
      have HB3 := Lib.hid hb3
      have HRS := Lib.hid hres
      clear hb3 hk3 hg3 hres
      rcases HRS.out with ⟨h1, h2⟩ | ⟨C, h1, h2, h3, h4⟩
      · subst h2
        have H1 := Lib.hid h1
        clear h1 HRS
        go_wp2
        go_ret3
        exact ⟨HBF.out, .inr (.inl ⟨HQ.out.symm, H1.out, rfl⟩)⟩
      · subst h2
        have H1 := Lib.hid h1
        have H3 := Lib.hid h3
        have HNW : Hid (n ≤ c2 → NewZ w3 w.heap.size (some ⟨g, 0, none⟩) C.length c2 C) := fun hcap => ⟨⟨zvs_len C, by omega, (fun e => by cases e), fun _ => ⟨g, 0, rfl, heap_lt HB3.out, fun j hj => by
          rw [cell_of_block HB3.out, h4 j hj]
          simp [zvs, List.getD, List.getElem?_eq_getElem hj]⟩⟩, fun _ => ⟨g, 0, Cur3, rfl, HG.out, HB3.out, h4⟩⟩
        obtain ⟨m, hm⟩ : ∃ m, m = C.length := ⟨_, rfl⟩
        rw [← hm] at HNW ⊢
        have HM3 : Hid (m ≤ n) := by show _ ≤ _; rw [hm]; exact h3
        have HCP : Hid (n ≤ c2) := by
          obtain ⟨_, _, e, _, _, hc⟩ := HSG.out (by omega)
          exact hc
        clear h1 h3 h4 HRS hm
        go_wp2
        go_ret3
        exact ⟨HBF.out, .inr (.inr ⟨HQ.out.symm, C, _, m, c2, H1.out, rfl, by have := HM3.out; omega, HNW.out HCP.out⟩)⟩
end Go.Proofs.Ytdngaohjocokiaa
