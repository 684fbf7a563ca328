/- inquestref00.Ints, by its contract. -/
import Derived.Test.YtgpkghlhlabjcaaNSpec
import Derived.Test.YtgpkghlhlabjcaaNTrace
import Derived.Test.YtgpkghlhlabjcaaNCirc
import Derived.Test.YtgpkghlhlabjcaaNHeap
import Derived.Test.YtgpkghlhlabjcaaNHeap2
import Derived.Test.YtgpkghlhlabjcaaSSpec
import Derived.Test.YtgpkghlhlabjcaaSRun
import Derived.Test.YtgpkghlhlabjcaaSSurely
import Derived.Test.YtgpkghlhlabjcaaSRead
import Derived.Test.YtgpkghlhlabjcaaRows
import Derived.Test.YtgpkghlhlabjcaaShelf
import Derived.BigQuiet
import Derived.Deep.AppendLies
import Derived.Deep.CutRange
import Derived.Deep.QuietTactic
import Derived.Deep.RegionHeld3
import Derived.Deep.RegionLaw
import Derived.Deep.RegionWith
import Derived.KernelRfl
import Derived.Laws.Bits64b
import Derived.Laws.BitsAllLaws
import Derived.Laws.BitsLemmas
import Derived.Laws.EntriesVeiled
import Derived.Laws.Tables
import Derived.Lib.AppendStr
import Derived.Lib.AppendZeros
import Derived.Lib.ConvBytes
import Derived.Lib.Hide
import Derived.Lib.SlBytesRow
import Derived.Lib.SmallJoins
import Derived.LoopIn
import Derived.LoopNIn
import Derived.Maps.AppendAt
import Derived.OrdersHeld
import Derived.OrdersIn
import Derived.OwnWalkIn
import Derived.RangeFuncBox
import Derived.RangeFuncCalls
import Derived.RangeFuncLeaves
import Derived.RangeFuncNested
import Derived.RangeFuncWrites
import Derived.Shelf.Abstract
import Derived.Shelf.Bytes.SlSmallAll
import Derived.Shelf.RegionOpen
import Derived.Sort.CutIn
import Derived.Stop.RegionWithIn
import Derived.TacticsInMore
import Derived.WalkKit
import Derived.WalkLawsBesides
import Derived.WalkSpells
import Derived.Test.YtgpkghlhlabjcaaLib
import Derived.Test.YtgpkghlhlabjcaaNBase
import Derived.Test.YtgpkghlhlabjcaaRawPred
import Derived.Test.YtgpkghlhlabjcaaNOwnLL
import Derived.Maps.Own
import Derived.Maps.OwnOps
import Derived.Maps.OwnSet
import Derived.Test.YtgpkghlhlabjcaaOwn
import Derived.Test.YtgpkghlhlabjcaaOwnStr
import Derived.Test.YtgpkghlhlabjcaaRawMay
import Derived.Test.YtgpkghlhlabjcaaNOwnsN
import Derived.Test.YtgpkghlhlabjcaaNStep
import Derived.Test.YtgpkghlhlabjcaaNVal
import Derived.Test.YtgpkghlhlabjcaaNOwns
import Derived.Test.YtgpkghlhlabjcaaTBits
import Derived.Test.YtgpkghlhlabjcaaSVerd
import Derived.Test.YtgpkghlhlabjcaaNCopyTr
import Derived.Test.YtgpkghlhlabjcaaSRefCopy
import Derived.Test.YtgpkghlhlabjcaaLpE
import Derived.Test.YtgpkghlhlabjcaaLpLat
import Derived.BigRegion
import Derived.Test.YtgpkghlhlabjcaaNPeel
/- Package loop, on plain lists: the states of a trace, the last frame with a state, what comes again, what remains. -/
namespace Go.Proofs.Ytgpkghlhlabjcaa
open Go Go.RowKit Go.Joins

/-- The last of the first k frames that has this state (0 if none has). -/
def lastN (S : List (List UInt8)) (s : List UInt8) : Nat → Nat
  | 0 => 0
  | k + 1 => if S.getD k [] = s then k else lastN S s k
/-- The last frame with the state of frame i. -/
def lastI (S : List (List UInt8)) (i : Nat) : Nat := lastN S (S.getD i []) S.length
theorem lastN_lt {S : List (List UInt8)} {s : List UInt8} : ∀ {k : Nat}, 0 < k → lastN S s k < k
  | k + 1, _ => by
    unfold lastN
    split
    · omega
    · cases k with
      | zero => simp [lastN]
      | succ k => have := lastN_lt (S := S) (s := s) (k := k + 1) (by omega); omega
theorem lastN_ge {S : List (List UInt8)} {s : List UInt8} {i : Nat} : ∀ {k : Nat}, i < k → S.getD i [] = s → i ≤ lastN S s k ∧ S.getD (lastN S s k) [] = s
  | k + 1, h, e => by
    unfold lastN
    split
    · rename_i h1; exact ⟨by omega, h1⟩
    · rename_i h1
      have : i ≠ k := fun h2 => h1 (by rw [← h2]; exact e)
      exact lastN_ge (by omega) e
theorem lastN_none {S : List (List UInt8)} {s : List UInt8} : ∀ {k j : Nat}, lastN S s k < j → j < k → S.getD j [] ≠ s
  | k + 1, j, h, hj => by
    unfold lastN at h
    split at h
    · omega
    · rename_i h1
      by_cases e : j = k
      · subst e; exact h1
      · exact lastN_none h (by omega)
theorem lastI_ge {S : List (List UInt8)} {i : Nat} (h : i < S.length) : i ≤ lastI S i := (lastN_ge h rfl).1
theorem lastI_same {S : List (List UInt8)} {i : Nat} (h : i < S.length) : S.getD (lastI S i) [] = S.getD i [] := (lastN_ge h rfl).2
theorem lastI_lt {S : List (List UInt8)} {i : Nat} (h : i < S.length) : lastI S i < S.length := lastN_lt (by omega)
theorem lastI_none {S : List (List UInt8)} {i j : Nat} (h : lastI S i < j) (hj : j < S.length) : S.getD j [] ≠ S.getD i [] := lastN_none h hj

/-- What remains from frame i on. -/
def remL (S : List (List UInt8)) : Nat → Nat → List Nat
  | 0, _ => []
  | f + 1, i => if i < S.length then lastI S i :: remL S f (lastI S i + 1) else []
def remS (S : List (List UInt8)) : List Nat := remL S S.length 0
theorem remL_end {S : List (List UInt8)} (f i : Nat) (h : S.length ≤ i) : remL S f i = [] := by
  cases f with
  | zero => rfl
  | succ f => unfold remL; rw [if_neg (by omega)]
theorem remL_go {S : List (List UInt8)} {f i : Nat} (h : i < S.length) (hf : S.length ≤ i + f) : ∃ g, S.length ≤ lastI S i + 1 + g ∧ remL S f i = lastI S i :: remL S g (lastI S i + 1) := by
  cases f with
  | zero => omega
  | succ f =>
    have := lastI_ge h
    exact ⟨f, by omega, by rw [remL, if_pos h]⟩
theorem remL_lt {S : List (List UInt8)} : ∀ (f i : Nat), ∀ x ∈ remL S f i, x < S.length
  | 0, _, x, h => by cases h
  | f + 1, i, x, h => by
    rw [remL] at h
    split at h
    · rename_i h1
      rcases List.mem_cons.1 h with rfl | h2
      · exact lastI_lt h1
      · exact remL_lt f _ x h2
    · cases h
theorem remL_len {S : List (List UInt8)} : ∀ (f i : Nat), i ≤ S.length → (remL S f i).length + i ≤ S.length
  | 0, i, h => by simp [remL]; exact h
  | f + 1, i, h => by
    rw [remL]
    split
    · rename_i h1
      have h2 := lastI_ge h1
      have h3 := remL_len (S := S) f (lastI S i + 1) (lastI_lt h1)
      simp only [List.length_cons]
      omega
    · simpa using h
theorem remS_len (S : List (List UInt8)) : (remS S).length ≤ S.length := by have := remL_len (S := S) S.length 0 (Nat.zero_le _); simpa [remS] using this

/-- The first frame whose state comes again. -/
def againO (S : List (List UInt8)) : Option Nat := (List.range S.length).find? fun i => decide (i < lastI S i)
def againE (S : List (List UInt8)) : Ending := match againO S with
  | some i => .returned (.tuple #[.int .i64 (i : Int), .int .i64 (lastI S i : Int), .bool true])
  | none => .returned (.tuple #[.int .i64 0, .int .i64 0, .bool false])
theorem again_hit {S : List (List UInt8)} {k : Nat} (h : ∀ j, j < k → lastI S j ≤ j) (hk : k < S.length) (hl : k < lastI S k) : againE S = .returned (.tuple #[.int .i64 (k : Int), .int .i64 (lastI S k : Int), .bool true]) := by
  have e : againO S = some k := by
    unfold againO
    rw [List.find?_range_eq_some]
    refine ⟨by simpa using hl, by simpa using hk, fun j hj => ?_⟩
    have := h j hj
    simp; omega
  unfold againE
  rw [e]
theorem again_miss {S : List (List UInt8)} (h : ∀ j, j < S.length → lastI S j ≤ j) : againE S = .returned (.tuple #[.int .i64 0, .int .i64 0, .bool false]) := by
  have e : againO S = none := by
    unfold againO
    rw [List.find?_range_eq_none]
    intro j hj
    have := h j hj
    simp; omega
  unfold againE
  rw [e]

/-- The latches in a frame. -/
def stAt (c : NormC) (t : TraceC) (k : Nat) : List UInt8 := k1.after c t.init (t.frames.take k)
def statesL (c : NormC) (t : TraceC) : List (List UInt8) := (List.range t.frames.length).map (stAt c (readT t))
/-- The states, if the trace fits. -/
def statesO (c : NormC) (t : TraceC) : List (List UInt8) := if fitsS c t = true then statesL c t else []
theorem statesL_len (c : NormC) (t : TraceC) : (statesL c t).length = t.frames.length := by simp [statesL]
theorem statesL_at (c : NormC) (t : TraceC) {k : Nat} (h : k < t.frames.length) : (statesL c t).getD k [] = stAt c (readT t) k := by simp [statesL, List.getD, h]
theorem k1_gates_pre : ∀ (l : List (Nat × Nat)) (vars : List UInt8), ∃ r, k1.gates l vars = vars ++ r
  | [], vars => ⟨[], by simp [Kd.gates]⟩
  | g :: r, vars => by
    obtain ⟨q, hq⟩ := k1_gates_pre r (vars ++ [k1.an (k1.val vars g.1) (k1.val vars g.2)])
    exact ⟨[k1.an (k1.val vars g.1) (k1.val vars g.2)] ++ q, by rw [Kd.gates, hq, List.append_assoc]⟩
theorem stAt_len {c : NormC} {t : TraceC} (h : FitsC c t) (k : Nat) : (stAt c t k).length = c.lats.length := k1.after_len c _ _ h.init
theorem varsAt_state {c : NormC} {t : TraceC} (h : FitsC c t) {k : Nat} (hk : k < t.frames.length) : ((varsAt c t k).drop (1 + c.ins.toNat)).take c.lats.length = stAt c t k := by
  have hi := h.frames k hk
  have hl := stAt_len h k
  have hn : c.ins.toNat = (t.frames.getD k []).length := by omega
  have e : varsAt c t k = k1.gates c.gates (k1.z :: (t.frames.getD k [] ++ stAt c t k)) := rfl
  obtain ⟨r, hr⟩ := k1_gates_pre c.gates (k1.z :: (t.frames.getD k [] ++ stAt c t k))
  rw [e, hr, hn, Nat.add_comm, List.cons_append, List.drop_succ_cons, List.append_assoc, List.drop_left, ← hl, List.take_left]
theorem stAt_succ {c : NormC} {t : TraceC} {k : Nat} (hk : k < t.frames.length) : stAt c t (k + 1) = k1.next c (k1.vars c (stAt c t k) (t.frames.getD k [])) := by
  unfold stAt
  rw [List.take_add_one, List.getElem?_eq_getElem hk]
  simp only [Option.toList_some]
  rw [Kd.after_snoc]
  simp [List.getD, List.getElem?_eq_getElem hk]

/-- Does the trace fail? -/
def failsB (c : NormC) (t : TraceC) : Bool := decide ((k1.verdict c t.bad.toNat (readT t).init (readT t).frames).toNat = 1)
/-- What remains of a trace. -/
def cutT (c : NormC) (t : TraceC) : TraceC := ⟨t.bad, zeroL t.init, (remS (statesL c t)).map fun k => zeroL (t.frames.getD k [])⟩
/-- What Cut answers. -/
def cutO (c : NormC) (t : TraceC) : TraceC × List Nat × Int := if fitsS c t = true then (if failsB c t = true then (cutT c t, remS (statesL c t), 0) else (⟨0, [], []⟩, [], 10)) else (⟨0, [], []⟩, [], 2)
end Go.Proofs.Ytgpkghlhlabjcaa
/- loop.lasts, loop.remaining, by their contracts. -/
namespace Go.Proofs.Ytgpkghlhlabjcaa
open Go Go.RowKit Go.Joins Go.Maps

/-- What the map reads as behind k rounds. -/
def lastD (S : List (List UInt8)) : Nat → DataW Unit
  | 0 => .map []
  | k + 1 => (lastD S k).put (.string (S.getD k [])) (.lit (.int .i64 (k : Int)))
theorem lastD_map (S : List (List UInt8)) : ∀ k, IsMap (lastD S k)
  | 0 => isMap_empty
  | k + 1 => (lastD_map S k).put _ _
theorem lastD_at (S : List (List UInt8)) (s : List UInt8) : ∀ k, (lastD S k).atKey (.string s) (.lit (.int .i64 0)) = .lit (.int .i64 (lastN S s k : Int))
  | 0 => rfl
  | k + 1 => by
    rw [lastD, lastN]
    by_cases e : S.getD k [] = s
    · rw [if_pos e, ← e]
      exact atKey_put_same (lastD_map S k) (by trivial) _ _
    · rw [if_neg e, atKey_put_other (fun h => e (by cases h; rfl))]
      exact lastD_at S s k
theorem lawS : Keyed Try.prog 9 := string_keyed Try.underlying9
theorem zeroI64 (w : World) : (zeroValue 3).run Try.prog w = .ok (.int .i64 0) w := by kernel_rfl
theorem keyStr (s : List UInt8) (h : s.length ≤ 1048576) : keyOf Try.prog 9 (.string (str s)) = some (.string s) := by
  have := Go.WideMaps.keyOf_string_mk (P := Try.prog) Try.underlying9 (s := str s) (by unfold maxLen; simp [str, ByteArray.size]; omega)
  rw [this]
  simp [str]
/-- Block b is a map from each state to the last of the first k frames that has it. -/
def IsLast (w : World) (b : Nat) (S : List (List UInt8)) (k : Nat) : Prop := w.ownsMap Try.prog 9 (plainElem Try.prog 3) b k (lastD S k)
theorem ownsMap_below {w w' : World} {P : Program} {k : TypeId} {R : Value → Option (DataW Unit × List MemPlace)} {b n : Nat} {D : DataW Unit} (h : w.ownsMap P k R b n D) (hb : Below w.heap.size w w') : w'.ownsMap P k R b n D := by
  obtain ⟨es, cl, h1, h2⟩ := h
  exact ⟨es, cl, heap_below h1 hb, h2⟩
theorem IsLast.below {w w' : World} {b : Nat} {S : List (List UInt8)} {k : Nat} (h : IsLast w b S k) (hb : Below w.heap.size w w') : IsLast w' b S k := ownsMap_below h hb
set_option maxRecDepth 100000 in
set_option maxHeartbeats 1600000 in
theorem lasts_any (S : List (List UInt8)) (ss : List Slc) (a : Option Addr) (n c : Nat) (w : World) (h : SeesF w a n c ss S) (hn : n ≤ 1048576) (hs : smallF ss) :
    Calls Try.prog 24 #[.slice a n c] w fun e w' => e = .returned (.map (some w.heap.size)) ∧ IsLast w' w.heap.size S n ∧ Below w.heap.size w w' := by
  have hmm := @run_makeMap Try.prog
  have H := Lib.hid h
  have HS := Lib.hid hs
  have HL := Lib.hid h.n_eq
  clear h hs
  go_enter Try.func24, Try.ntmps24
  go_wp2
  go_loopw [9, 4, 5] (fun i _ _ wr => ∃ k : Nat, k ≤ n ∧ i = .int .i64 k ∧ Hid (IsLast wr w.heap.size S k) ∧ Hid (Below w.heap.size w wr)) (fun i _ _ _ => n - (intOf i).toNat)
  case atStart => exact ⟨0, Nat.zero_le _, rfl, World.ownsMap_made _ _ _ _, ext_alloc _ _⟩
  case round =>
    obtain ⟨k, hk, rfl, hI, hB⟩ := hrel
    by_cases hlt : k < n
    · have hS := H.out.below hB.out
      obtain ⟨b, off, rfl, _⟩ := H.out.row.addr (show 0 < n by omega)
      have hcx := hS.cellAt k hlt
      have hsee := hS.each k (by rw [HL.out]; exact hlt)
      have hsl : (ss.getD k slc0).2.1 ≤ 1048576 := HS.out _ (getD_mem (by rw [hS.len, HL.out]; exact hlt))
      obtain ⟨x, hx⟩ : ∃ x, x = ss.getD k slc0 := ⟨_, rfl⟩
      rw [← hx] at hcx hsee hsl
      obtain ⟨xa, xn, xc⟩ := x
      simp only at hcx hsee hsl
      obtain ⟨s, hse⟩ : ∃ s, s = S.getD k [] := ⟨_, rfl⟩
      rw [← hse] at hsee
      have hcv := hsee.str (P := Try.prog) 27 5 9 Try.underlying27 Try.underlying5 Try.underlying9
      have hky := keyStr s (by rw [hsee.lenMap]; exact hsl)
      have W1 : IntKind.i64.wrap ((k : Int) + 1) = (k : Int) + 1 := IntWalk.i64_in _ (by omega)
      have HK := Lib.hid hky
      have HD : Hid (lastD S (k + 1) = (lastD S k).put (.string s) (.lit (.int .i64 (k : Int)))) := by unfold Hid; rw [hse]; rfl
      have HB := Lib.hid hB.out
      have HI := Lib.hid hI.out
      clear hS hx hse hsee hsl hky hB hI
      go_wp2_with (at_mapUpdate; refine wpList_mapUpdate_own _ rfl _ _ _ 56 rfl 9 3 lawS Try.underlying56 _ w.heap.size k _ rfl HI.out (by unfold maxLen; omega) _ _ _ rfl rfl HK.out _ [] (plainElem_int Try.underlying3 (WalkArith.wf_i64 (by omega))) ?_)
      intro w1 h1 g1
      have HI1 : Hid (IsLast w1 w.heap.size S (k + 1)) := by unfold Hid IsLast; rw [HD.out]; exact h1
      have HB1 := Lib.hid (HB.out.grown g1 HB.out.size (by intro q hq; cases hq; exact Nat.le_refl _))
      clear h1 g1
      go_wp2
      go_roundw
      case rel => exact ⟨k + 1, by omega, by go_num, HI1.out, HB1.out⟩
      case measure => simp [intOf]; omega
    · obtain rfl : n = k := by omega
      go_wp2
      go_ret
      exact ⟨rfl, hI.out, hB.out⟩
end Go.Proofs.Ytgpkghlhlabjcaa
/- loop.follow, by its contract. -/
namespace Go.Proofs.Ytgpkghlhlabjcaa
open Go Go.RowKit Go.Joins

theorem cell_set5 {w : World} {G b k : Nat} {v u0 u1 u2 u3 u4 : Value} (h : w.cell? ⟨b, k, none⟩ = some v) (hne : b ≠ G) :
    (((((w.setCell ⟨G, 0, .none⟩ u0).setCell ⟨G, 1, .none⟩ u1).setCell ⟨G, 2, .none⟩ u2).setCell ⟨G, 3, .none⟩ u3).setCell ⟨G, 4, .none⟩ u4).cell? ⟨b, k, none⟩ = some v := by
  have ne : ∀ j, (⟨G, j, none⟩ : Addr) ≠ ⟨b, k, none⟩ := fun j e => hne (by cases e; rfl)
  rw [World.cell?_setCell_other _ _ _ _ (ne 4), World.cell?_setCell_other _ _ _ _ (ne 3), World.cell?_setCell_other _ _ _ _ (ne 2), World.cell?_setCell_other _ _ _ _ (ne 1), World.cell?_setCell_other _ _ _ _ (ne 0)]
  exact h
theorem five_set {X : World} {g : Nat} {C : Array Value} {t : TypeId} (h : X.heap[g]? = some (.cells C t (0, 0))) (hC : C.size = 5) (u0 u1 u2 u3 u4 : Value) :
    (((((X.setCell ⟨g, 0, .none⟩ u0).setCell ⟨g, 1, .none⟩ u1).setCell ⟨g, 2, .none⟩ u2).setCell ⟨g, 3, .none⟩ u3).setCell ⟨g, 4, .none⟩ u4).heap[g]? = some (.cells #[u0, u1, u2, u3, u4] t (0, 0)) := by
  obtain ⟨l⟩ := C
  match l, hC with
  | [_, _, _, _, _], _ =>
    have h0 := block_setCell h (i := 0) u0
    have h1 := block_setCell h0 (i := 1) u1
    have h2 := block_setCell h1 (i := 2) u2
    have h3 := block_setCell h2 (i := 3) u3
    have h4 := block_setCell h3 (i := 4) u4
    simpa using h4
theorem set5_t {B : Nat} {w X : World} (g : Nat) (hg : B ≤ g) (h : Below B w X) {u0 u1 u2 u3 u4 : Value} : Below B w (((((X.setCell ⟨g, 0, .none⟩ u0).setCell ⟨g, 1, .none⟩ u1).setCell ⟨g, 2, .none⟩ u2).setCell ⟨g, 3, .none⟩ u3).setCell ⟨g, 4, .none⟩ u4) := ((((h.setCell hg _).setCell hg _).setCell hg _).setCell hg _).setCell hg _
theorem set5_other {X : World} (g D : Nat) (hD : D ≠ g) (u0 u1 u2 u3 u4 : Value) : (((((X.setCell ⟨g, 0, .none⟩ u0).setCell ⟨g, 1, .none⟩ u1).setCell ⟨g, 2, .none⟩ u2).setCell ⟨g, 3, .none⟩ u3).setCell ⟨g, 4, .none⟩ u4).heap[D]? = X.heap[D]? := by
  rw [Below.heap_setCell _ ⟨g, 4, .none⟩ _ D hD, Below.heap_setCell _ ⟨g, 3, .none⟩ _ D hD, Below.heap_setCell _ ⟨g, 2, .none⟩ _ D hD, Below.heap_setCell _ ⟨g, 1, .none⟩ _ D hD, Below.heap_setCell _ ⟨g, 0, .none⟩ _ D hD]
theorem OwnTr.move {w w' : World} {base B : Nat} {s : TSlots} {t : TraceC} (h : OwnTr w base s t) (hk : ∀ D, base ≤ D → w'.heap[D]? = w.heap[D]?) (hB : B ≤ base) : OwnTr w' B s t := by
  obtain ⟨F, h1, h2, h3⟩ := h.blk
  have row : ∀ {v : Value} {n : Nat} {xs : List Value}, Row isByte w base 5 v n xs → Row isByte w' B 5 v n xs := fun hr =>
    Row.base_le (hr.other fun q hq => hk q (hr.own.lt q hq).1) hB
  exact ⟨row h.o1, ⟨F, Nat.le_trans hB h1, h2, (hk F h1).trans h3⟩, h.n2, h.c2, h.len, fun j hj => row (h.rows j hj)⟩
def pathV (bad : Int) (s : TSlots) (a : Option Addr) (n c : Nat) (b : Bool) : Value := .agg #[.int .i64 bad, .slice s.a1 s.n1 s.c1, .slice s.a2 s.n2 s.c2, .slice a n c, .bool b]
/-- What follow answers. -/
def FollowPost (c : NormC) (t : TraceC) (w : World) (e : Ending) (w' : World) : Prop :=
  (fitsS c t = true → ∃ (s : TSlots) (a : Option Addr) (cc : Nat) (ss : List Slc), e = .returned (.tuple #[pathV t.bad s a t.frames.length cc (failsB c t), .int .i64 0]) ∧ OwnTr w' w.heap.size s (readT t) ∧ s.small ∧ OwnLL w' w.heap.size a t.frames.length cc ss (statesL c t)) ∧
  (fitsS c t = false → e = .returned (.tuple #[pathV 0 ⟨none, 0, 0, none, 0, 0, []⟩ none 0 0 false, .int .i64 2])) ∧ Below w.heap.size w w'

theorem latL_states {c : NormC} {t : TraceC} (h : FitsC c (readT t)) : latL c.ins.toNat c.lats.length (runL c (readT t)) = statesL c t := by
  have hn : (readT t).frames.length = t.frames.length := by simp [readT]
  unfold latL runL statesL
  rw [List.map_map, hn]
  refine List.map_congr_left fun k hk => ?_
  have hk' : k < t.frames.length := by simpa using hk
  exact varsAt_state h (by rw [hn]; exact hk')

set_option maxRecDepth 100000 in
set_option maxHeartbeats 3200000 in
theorem follow_any (c : NormC) (t : TraceC) (s : CSlots) (st : TSlots) (w : World) (h : SeesCir w s c) (ht : SeesTr w st t) (hs : s.small) (hst : st.small) (hlo : -9223372036854775808 ≤ c.ins) (hhi : c.ins < 9223372036854775808) (hb1 : -9223372036854775808 ≤ t.bad ∧ t.bad < 9223372036854775808) :
    Calls Try.prog 21 #[cirV c.ins s, traceV t.bad st] w (FollowPost c t w) := by
  have HFA := Lib.hid (fun W (hb : Below w.heap.size w W) => fails_any c t s st W (h.below hb) (ht.below hb) hs hst hlo hhi hb1)
  have HRD := Lib.hid (fun W (hb : Below w.heap.size w W) => read_any t st W (ht.below hb) hst)
  have HRUN : Hid (∀ (st' : TSlots) W, Below w.heap.size w W → SeesTr W st' (readT t) → st'.small → Calls Try.prog 31 #[cirV c.ins s, traceV t.bad st'] W (RunPost c (readT t) W)) :=
    fun st' W hb h1 h2 => run_any2 c (readT t) s st' W (h.below hb) h1 hs h2 hlo hhi hb1
  have hn1 : c.lats.length = s.n1 := h.s1.1
  have HLT : Hid (fitsS c t = true → ∀ (a : Option Addr) (cc : Nat) (ss : List Slc) W, SeesF W a t.frames.length cc ss (runL c (readT t)) → Calls Try.prog 32 #[cirV c.ins s, .slice a t.frames.length cc] W fun e w' => ∃ (a2 : Option Addr) (c2 : Nat) (ss2 : List Slc), e = .returned (.slice a2 t.frames.length c2) ∧ OwnLL w' W.heap.size a2 t.frames.length c2 ss2 (statesL c t) ∧ Below W.heap.size W w') := by
    intro hq a cc ss W hW
    have hF := fits_iff.1 hq
    have hR := hF.read
    have hnl : (readT t).frames.length = t.frames.length := by simp [readT]
    have hi0 : (0 : Int) ≤ c.ins := by have := hF.frames 0 hF.one; omega
    have hfew := hF.may.few
    unfold varsN at hfew
    have hva : ∀ k, k < t.frames.length → ((runL c (readT t)).getD k []).length = 1 + varsN c := fun k hk => by
      have : (runL c (readT t)).getD k [] = varsAt c (readT t) k := by simp [runL, List.getD, hnl, hk]
      rw [this]
      exact varsAt_len c (readT t) hR.init hR.frames k (by rw [hnl]; exact hk)
    have hp := latches_any c.ins.toNat s (runL c (readT t)) ss a t.frames.length cc W hW (by have := hF.few; omega) (fun k hk => by rw [hva k hk]; unfold varsN; omega) (fun k hk => by rw [hva k hk]; unfold varsN; omega) (by omega)
    rw [← hn1, latL_states hR, Int.toNat_of_nonneg hi0] at hp
    exact hp
  have HRP : Hid (∀ W e W', RunPost c (readT t) W e W' → fitsS c t = true → ∃ (a : Option Addr) (cc : Nat) (ss : List Slc), e = .returned (.tuple #[.slice a t.frames.length cc, .int .i64 0]) ∧ SeesF W' a t.frames.length cc ss (runL c (readT t)) ∧ Below W.heap.size W W') := by
    intro W e W' hp hq
    have hF := fits_iff.1 hq
    have hnl : (readT t).frames.length = t.frames.length := by simp [readT]
    obtain ⟨p1, _, p3⟩ := hp
    obtain ⟨v, ss, rfl, q1, q2, q3⟩ := p1 (fits_iff.2 hF.read)
    rw [hnl] at q1 q2 q3
    obtain ⟨a, cc, rfl⟩ := ownsN_form q2
    refine ⟨a, cc, ss, rfl, ⟨(owns_sees_slice q2).2, by rw [q1]; simp [runL, hnl], fun k hk => ?_⟩, p3⟩
    have hk' : k < t.frames.length := by simpa [runL, hnl] using hk
    have e1 : (runL c (readT t)).getD k [] = varsAt c (readT t) k := by simp [runL, List.getD, hnl, hk']
    rw [e1]
    exact (row_sees_slice (q3 k hk')).2
  have HFE : Hid (failsE c t = if fitsS c t = true then .returned (.tuple #[.bool (failsB c t), .int .i64 0]) else .returned (.tuple #[.bool false, .int .i64 2])) := rfl
  obtain ⟨E, hE⟩ : ∃ E, E = failsE c t := ⟨_, rfl⟩
  rw [← hE] at HFE HFA
  have HP : Hid (∀ e w', FollowPost c t w e w' ↔ ((fitsS c t = true → ∃ (s : TSlots) (a : Option Addr) (cc : Nat) (ss : List Slc), e = .returned (.tuple #[pathV t.bad s a t.frames.length cc (failsB c t), .int .i64 0]) ∧ OwnTr w' w.heap.size s (readT t) ∧ s.small ∧ OwnLL w' w.heap.size a t.frames.length cc ss (statesL c t)) ∧ (fitsS c t = false → e = .returned (.tuple #[pathV 0 ⟨none, 0, 0, none, 0, 0, []⟩ none 0 0 false, .int .i64 2])) ∧ Below w.heap.size w w')) := fun _ _ => Iff.rfl
  obtain ⟨q, hq⟩ : ∃ q, q = fitsS c t := ⟨_, rfl⟩
  rw [← hq] at HLT HRP HFE HP
  obtain ⟨fb, hfb⟩ : ∃ b, b = failsB c t := ⟨_, rfl⟩
  rw [← hfb] at HFE HP
  obtain ⟨n, hn⟩ : ∃ n, n = t.frames.length := ⟨_, rfl⟩
  rw [← hn] at HLT HRP HP
  clear hE hq hfb hn h ht hs hst hlo hhi hb1 hn1
  unfold cirV traceV at *
  go_enter Try.func21, Try.ntmps21
  go_upto_region 1 with fail
  generalize hW : World.alloc (World.alloc (World.alloc w _) _) _ = W1
  have hb : Below w.heap.size w W1 := by subst hW; exact ext_trans (ext_alloc _ _) (ext_trans (ext_alloc _ _) (ext_alloc _ _))
  have hx : W1.heap[w.heap.size]? = some (.cells #[.int .i64 c.ins, .slice s.a1 s.n1 s.c1, .slice s.a2 s.n2 s.c2, .slice s.a3 s.n3 s.c3, .slice s.a4 s.n4 s.c4, .slice s.a5 s.n5 s.c5] 26 (0, 0)) := by subst hW; exact heap_below (heap_below (heap_new _ _ _ rfl) (ext_alloc _ _)) (ext_alloc _ _)
  have hy : W1.heap[w.heap.size + 1]? = some (.cells #[.int .i64 t.bad, .slice st.a1 st.n1 st.c1, .slice st.a2 st.n2 st.c2] 30 (0, 0)) := by subst hW; exact heap_below (heap_new _ _ _ (by simp)) (ext_alloc _ _)
  have hz : W1.heap[w.heap.size + 1 + 1]? = some (.cells #[.int .i64 0, .slice none 0 0, .slice none 0 0, .slice none 0 0, .bool false] 53 (0, 0)) := by subst hW; exact heap_new _ _ _ (by simp)
  have HB := Lib.hid hb
  have HX := Lib.hid hx
  have HY := Lib.hid hy
  have HZ := Lib.hid hz
  clear hW hb hx hy hz
  have p0 := cell_of_block HX.out 0
  have p1 := cell_of_block HX.out 1
  have p2 := cell_of_block HX.out 2
  have p3 := cell_of_block HX.out 3
  have p4 := cell_of_block HX.out 4
  have p5 := cell_of_block HX.out 5
  have r0 := cell_of_block HY.out 0
  have r1 := cell_of_block HY.out 1
  have r2 := cell_of_block HY.out 2
  go_wp2_with fail
  refine (HFA.out W1 HB.out).mono ?_
  rintro e W2 ⟨he, hb⟩
  have HX2 := Lib.hid (heap_below HX.out hb)
  have HY2 := Lib.hid (heap_below HY.out hb)
  have HZ2 := Lib.hid (heap_below HZ.out hb)
  have HB2 := Lib.hid (ext_trans HB.out hb)
  have he2 := he.trans HFE.out
  subst he2
  clear p0 p1 p2 p3 p4 p5 r0 r1 r2 HX HY HB HZ hb he HFE
  cases q with
  | false =>
    rw [if_neg (by decide)]
    have z0 := cell_of_block HZ2.out 0
    have y0 := unfrozen_of_block HZ2.out 0
    have z1 := cell_of_block HZ2.out 1
    have y1 := unfrozen_of_block HZ2.out 1
    have z2 := cell_of_block HZ2.out 2
    have y2 := unfrozen_of_block HZ2.out 2
    have z3 := cell_of_block HZ2.out 3
    have y3 := unfrozen_of_block HZ2.out 3
    have z4 := cell_of_block HZ2.out 4
    have y4 := unfrozen_of_block HZ2.out 4
    go_wp2
    refine bodyPost_ret (v := .tuple #[pathV 0 ⟨none, 0, 0, none, 0, 0, []⟩ none 0 0 false, .int .i64 2]) ?_ rfl ?_
    · have h6 := five_set HZ2.out rfl (.int .i64 0) (.slice none 0 0) (.slice none 0 0) (.slice none 0 0) (.bool false)
      have g0 := cell_of_block h6 0
      have g1 := cell_of_block h6 1
      have g2 := cell_of_block h6 2
      have g3 := cell_of_block h6 3
      have g4 := cell_of_block h6 4
      simp [results, Try.results21, go_sem, g0, g1, g2, g3, g4]
      rfl
    · exact (HP.out _ _).2 ⟨(fun h => by cases h), (fun _ => rfl), set5_t (w.heap.size + 1 + 1) (by omega) HB2.out⟩
  | true =>
    rw [if_pos rfl]
    have r0 := cell_of_block HY2.out 0
    have r1 := cell_of_block HY2.out 1
    have r2 := cell_of_block HY2.out 2
    go_wp2_with fail
    refine (HRD.out W2 HB2.out).mono ?_
    rintro e W3 ⟨s', rfl, ho, hsm, hb⟩
    clear r0 r1 r2
    have HO3 := Lib.hid ho
    have HSM := Lib.hid hsm
    have hYlt := heap_lt HZ2.out
    have hx := heap_below HX2.out hb
    have hy := heap_below HY2.out hb
    have hz := heap_below HZ2.out hb
    have hB3 := ext_trans HB2.out hb
    have z0 := cell_of_block hy 0
    have y0 := unfrozen_of_block hy 0
    have z1 := cell_of_block hy 1
    have y1 := unfrozen_of_block hy 1
    have z2 := cell_of_block hy 2
    have y2 := unfrozen_of_block hy 2
    have HH := Lib.hid (And.intro hx (And.intro hy (And.intro hz (And.intro hB3 hYlt))))
    clear ho hsm hb hx hy hz hB3 hYlt HX2 HY2 HZ2 HB2 HRD HFA
    go_upto_region 5 with fail
    generalize hW : World.setCell (World.setCell (World.setCell W3 _ _) _ _) _ _ = W4
    have hx4 : W4.heap[w.heap.size]? = some (.cells #[.int .i64 c.ins, .slice s.a1 s.n1 s.c1, .slice s.a2 s.n2 s.c2, .slice s.a3 s.n3 s.c3, .slice s.a4 s.n4 s.c4, .slice s.a5 s.n5 s.c5] 26 (0, 0)) := by subst hW; exact (set3_other (w.heap.size + 1) w.heap.size (by omega) _ _ _).trans HH.out.1
    have hy4 : W4.heap[w.heap.size + 1]? = some (.cells #[.int .i64 t.bad, .slice s'.a1 s'.n1 s'.c1, .slice s'.a2 s'.n2 s'.c2] 30 (0, 0)) := by subst hW; exact tri_set_t HH.out.2.1 rfl _ _ _
    have hz4 : W4.heap[w.heap.size + 1 + 1]? = some (.cells #[.int .i64 0, .slice none 0 0, .slice none 0 0, .slice none 0 0, .bool false] 53 (0, 0)) := by subst hW; exact (set3_other (w.heap.size + 1) (w.heap.size + 1 + 1) (by omega) _ _ _).trans HH.out.2.2.1
    have hb4 : Below w.heap.size w W4 := by subst hW; exact set3_t (w.heap.size + 1) (by omega) HH.out.2.2.2.1
    have hlt := HH.out.2.2.2.2
    have ho4 : OwnTr W4 (w.heap.size + 1 + 1 + 1) s' (readT t) := by subst hW; exact OwnTr.move HO3.out (fun D hD => set3_other (w.heap.size + 1) D (by omega) _ _ _) (by omega)
    have HR := Lib.hid (HRUN.out s' W4 hb4 ho4.sees HSM.out)
    have HX4 := Lib.hid hx4
    have HY4 := Lib.hid hy4
    have HZ4 := Lib.hid hz4
    have HB4 := Lib.hid hb4
    have HO4 := Lib.hid ho4
    clear hW hx4 hy4 hz4 hb4 hlt ho4 HH HO3 z0 y0 z1 y1 z2 y2 HRUN
    have p0 := cell_of_block HX4.out 0
    have p1 := cell_of_block HX4.out 1
    have p2 := cell_of_block HX4.out 2
    have p3 := cell_of_block HX4.out 3
    have p4 := cell_of_block HX4.out 4
    have p5 := cell_of_block HX4.out 5
    have r0 := cell_of_block HY4.out 0
    have r1 := cell_of_block HY4.out 1
    have r2 := cell_of_block HY4.out 2
    go_wp2_with fail
    refine HR.out.mono ?_
    intro e W5 hp
    obtain ⟨ra, rc, rss, rfl, hsee, hb5⟩ := HRP.out _ _ _ hp (by trivial)
    clear hp p0 p1 p2 p3 p4 p5 r0 r1 r2 HR HRP
    have HLAT := Lib.hid (fun W (hb : Below W5.heap.size W5 W) => HLT.out (by trivial) ra rc rss W (hsee.below hb))
    have HX5 := Lib.hid (heap_below HX4.out hb5)
    have HY5 := Lib.hid (heap_below HY4.out hb5)
    have HZ5 := Lib.hid (heap_below HZ4.out hb5)
    have HB5 := Lib.hid (ext_trans HB4.out hb5)
    have HO5 := Lib.hid (HO4.out.below hb5)
    have HLT5 := Lib.hid (heap_lt HZ5.out)
    clear hb5 hsee HX4 HY4 HZ4 HB4 HO4 HLT
    have p0 : W5.cell? ⟨w.heap.size, 0, none⟩ = some (.int .i64 c.ins) := cell_of_block HX5.out 0
    have p1 : W5.cell? ⟨w.heap.size, 1, none⟩ = some (.slice s.a1 s.n1 s.c1) := cell_of_block HX5.out 1
    have p2 : W5.cell? ⟨w.heap.size, 2, none⟩ = some (.slice s.a2 s.n2 s.c2) := cell_of_block HX5.out 2
    have p3 : W5.cell? ⟨w.heap.size, 3, none⟩ = some (.slice s.a3 s.n3 s.c3) := cell_of_block HX5.out 3
    have p4 : W5.cell? ⟨w.heap.size, 4, none⟩ = some (.slice s.a4 s.n4 s.c4) := cell_of_block HX5.out 4
    have p5 : W5.cell? ⟨w.heap.size, 5, none⟩ = some (.slice s.a5 s.n5 s.c5) := cell_of_block HX5.out 5
    have r0 : W5.cell? ⟨w.heap.size + 1, 0, none⟩ = some (.int .i64 t.bad) := cell_of_block HY5.out 0
    have r1 : W5.cell? ⟨w.heap.size + 1, 1, none⟩ = some (.slice s'.a1 s'.n1 s'.c1) := cell_of_block HY5.out 1
    have r2 : W5.cell? ⟨w.heap.size + 1, 2, none⟩ = some (.slice s'.a2 s'.n2 s'.c2) := cell_of_block HY5.out 2
    go_upto_region 6 with fail
    go_region_held3 (fun w' => w'.cell? ⟨w.heap.size, 0, none⟩ = some (.int .i64 c.ins) ∧ w'.cell? ⟨w.heap.size, 1, none⟩ = some (.slice s.a1 s.n1 s.c1) ∧ w'.cell? ⟨w.heap.size, 2, none⟩ = some (.slice s.a2 s.n2 s.c2) ∧ w'.cell? ⟨w.heap.size, 3, none⟩ = some (.slice s.a3 s.n3 s.c3) ∧ w'.cell? ⟨w.heap.size, 4, none⟩ = some (.slice s.a4 s.n4 s.c4) ∧ w'.cell? ⟨w.heap.size, 5, none⟩ = some (.slice s.a5 s.n5 s.c5) ∧ w'.cell? ⟨w.heap.size + 1, 0, none⟩ = some (.int .i64 t.bad) ∧ w'.cell? ⟨w.heap.size + 1, 1, none⟩ = some (.slice s'.a1 s'.n1 s'.c1) ∧ w'.cell? ⟨w.heap.size + 1, 2, none⟩ = some (.slice s'.a2 s'.n2 s'.c2))
      (first | with_reducible exact ⟨p0, p1, p2, p3, p4, p5, r0, r1, r2⟩ | with_reducible exact ⟨cell_drew p0, cell_drew p1, cell_drew p2, cell_drew p3, cell_drew p4, cell_drew p5, cell_drew r0, cell_drew r1, cell_drew r2⟩ | with_reducible exact ⟨d0, d1, d2, d3, d4, d5, d6, d7, d8⟩ | with_reducible exact ⟨cell_set5 d0 (by omega), cell_set5 d1 (by omega), cell_set5 d2 (by omega), cell_set5 d3 (by omega), cell_set5 d4 (by omega), cell_set5 d5 (by omega), cell_set5 d6 (by omega), cell_set5 d7 (by omega), cell_set5 d8 (by omega)⟩ | go_keep)
      (first | (go_at_call 32; (with_reducible refine (HLAT.out _ (by first | with_reducible exact Below.refl _ W5 | with_reducible exact (Below.refl _ W5).drew)).mono ?_); rintro e s1 ⟨la, lc, lss, rfl, hol, b1⟩; have HB1 : Below W5.heap.size W5 s1 := (by first | exact ext_trans (Below.refl _ W5) b1 | exact ext_trans ((Below.refl _ W5).drew) b1); have d0 := cell_below p0 HB1; have d1 := cell_below p1 HB1; have d2 := cell_below p2 HB1; have d3 := cell_below p3 HB1; have d4 := cell_below p4 HB1; have d5 := cell_below p5 HB1; have d6 := cell_below r0 HB1; have d7 := cell_below r1 HB1; have d8 := cell_below r2 HB1; have HOL := Lib.hid hol; have hz := heap_below HZ5.out HB1; have z0 := cell_of_block hz 0; have y0 := unfrozen_of_block hz 0; have z1 := cell_of_block hz 1; have y1 := unfrozen_of_block hz 1; have z2 := cell_of_block hz 2; have y2 := unfrozen_of_block hz 2; have z3 := cell_of_block hz 3; have y3 := unfrozen_of_block hz 3; have z4 := cell_of_block hz 4; have y4 := unfrozen_of_block hz 4; have HZZ := Lib.hid hz; clear hz hol b1))
    have HQ := Lib.hid HB1
    go_wp2
    refine bodyPost_ret (v := .tuple #[pathV t.bad s' la n lc fb, .int .i64 0]) ?_ rfl ?_
    · have h6 := five_set HZZ.out rfl (.int .i64 t.bad) (.slice s'.a1 s'.n1 s'.c1) (.slice s'.a2 s'.n2 s'.c2) (.slice la n lc) (.bool fb)
      have g0 := cell_of_block h6 0
      have g1 := cell_of_block h6 1
      have g2 := cell_of_block h6 2
      have g3 := cell_of_block h6 3
      have g4 := cell_of_block h6 4
      simp [results, Try.results21, go_sem, g0, g1, g2, g3, g4]
      rfl
    · refine (HP.out _ _).2 ⟨(fun _ => ⟨s', la, lc, lss, rfl, ?_, HSM.out, ?_⟩), (fun h => by cases h), set5_t (w.heap.size + 1 + 1) (by omega) (ext_trans HB5.out HQ.out)⟩
      · exact OwnTr.move (HO5.out.below HQ.out) (fun D hD => set5_other (w.heap.size + 1 + 1) D (by omega) _ _ _ _ _) (by omega)
      · have hl := HLT5.out
        exact OwnLL.move HOL.out (fun D hD => set5_other (w.heap.size + 1 + 1) D (by simp at hD; omega) _ _ _ _ _) (by simp; omega)
end Go.Proofs.Ytgpkghlhlabjcaa
/- loop.States, loop.Again, by their contracts. -/
namespace Go.Proofs.Ytgpkghlhlabjcaa
open Go Go.RowKit Go.Joins Go.Maps

/-- What follow answers, in one. -/
def FolU (c : NormC) (t : TraceC) (w : World) (e : Ending) (w' : World) : Prop :=
  ∃ (bd : Int) (s : TSlots) (a : Option Addr) (n cc : Nat) (ss : List Slc) (fb : Bool), e = .returned (.tuple #[pathV bd s a n cc fb, .int .i64 (if fitsS c t = true then 0 else 2)]) ∧ OwnLL w' w.heap.size a n cc ss (statesO c t) ∧
    (fitsS c t = true → bd = t.bad ∧ OwnTr w' w.heap.size s (readT t) ∧ s.small ∧ fb = failsB c t) ∧ Below w.heap.size w w'
theorem FollowPost.uni {c : NormC} {t : TraceC} {w w' : World} {e : Ending} (h : FollowPost c t w e w') : FolU c t w e w' := by
  obtain ⟨h1, h2, hb⟩ := h
  cases hq : fitsS c t with
  | true =>
    obtain ⟨s, a, cc, ss, rfl, ho, hs, hl⟩ := h1 hq
    refine ⟨t.bad, s, a, t.frames.length, cc, ss, failsB c t, by simp [hq], ?_, fun _ => ⟨rfl, ho, hs, rfl⟩, hb⟩
    rw [show statesO c t = statesL c t from if_pos hq]
    exact hl
  | false =>
    refine ⟨0, _, none, 0, 0, [], false, by simpa [hq] using h2 hq, ?_, (fun h => by rw [hq] at h; cases h), hb⟩
    rw [show statesO c t = [] from if_neg (by rw [hq]; decide)]
    exact OwnLL.nil _ _
theorem statesO_few (c : NormC) (t : TraceC) : (statesO c t).length ≤ 256 := by
  unfold statesO
  split
  · rename_i h
    rw [statesL_len]
    exact (fits_iff.1 h).few
  · simp
theorem statesO_small (c : NormC) (t : TraceC) (j : Nat) : ((statesO c t).getD j []).length ≤ 1048576 := by
  unfold statesO
  split
  · rename_i h
    have hF := fits_iff.1 h
    by_cases hj : j < t.frames.length
    · rw [statesL_at c t hj, stAt_len hF.read]
      have := hF.may.few
      unfold varsN at this
      omega
    · simp [List.getD, List.getElem?_eq_none (show (statesL c t).length ≤ j by rw [statesL_len]; omega)]
  · simp

/-- What States answers. -/
def StsPost (c : NormC) (t : TraceC) (w : World) (e : Ending) (w' : World) : Prop :=
  ∃ (a : Option Addr) (n cc : Nat) (ss : List Slc), e = .returned (.tuple #[.slice a n cc, .int .i64 (if fitsS c t = true then 0 else 2)]) ∧ OwnLL w' w.heap.size a n cc ss (statesO c t) ∧ Below w.heap.size w w'

set_option maxRecDepth 100000 in
set_option maxHeartbeats 3200000 in
theorem states_any (c : NormC) (t : TraceC) (s : CSlots) (st : TSlots) (w : World) (h : SeesCir w s c) (ht : SeesTr w st t) (hs : s.small) (hst : st.small) (hlo : -9223372036854775808 ≤ c.ins) (hhi : c.ins < 9223372036854775808) (hb1 : -9223372036854775808 ≤ t.bad ∧ t.bad < 9223372036854775808) :
    Calls Try.prog 8 #[cirV c.ins s, traceV t.bad st] w (StsPost c t w) := by
  have HFO : Hid (∀ W, Below w.heap.size w W → Calls Try.prog 21 #[cirV c.ins s, traceV t.bad st] W (FolU c t W)) := fun W hb => (follow_any c t s st W (h.below hb) (ht.below hb) hs hst hlo hhi hb1).mono fun _ _ hp => hp.uni
  obtain ⟨ef, hef⟩ : ∃ z : Int, z = (if fitsS c t = true then 0 else 2) := ⟨_, rfl⟩
  obtain ⟨S, hS⟩ : ∃ S, S = statesO c t := ⟨_, rfl⟩
  have HFU : Hid (∀ W e W', FolU c t W e W' → ∃ (bd : Int) (s : TSlots) (a : Option Addr) (n cc : Nat) (ss : List Slc) (fb : Bool), e = .returned (.tuple #[pathV bd s a n cc fb, .int .i64 ef]) ∧ OwnLL W' W.heap.size a n cc ss S ∧ Below W.heap.size W W') := by
    rintro W e W' ⟨bd, s, a, n, cc, ss, fb, h1, h2, _, h4⟩
    rw [hef, hS]
    exact ⟨bd, s, a, n, cc, ss, fb, h1, h2, h4⟩
  have HP : Hid (∀ (a : Option Addr) (n cc : Nat) (ss : List Slc) w', OwnLL w' w.heap.size a n cc ss S → Below w.heap.size w w' → StsPost c t w (.returned (.tuple #[.slice a n cc, .int .i64 ef])) w') := by
    intro a n cc ss w' h1 h2
    rw [hef]
    rw [hS] at h1
    exact ⟨a, n, cc, ss, rfl, h1, h2⟩
  clear hef hS h ht hs hst hlo hhi hb1
  unfold cirV traceV at *
  go_enter Try.func8, Try.ntmps8
  go_upto_region 1 with fail
  generalize hW : World.alloc (World.alloc w _) _ = W1
  have hb : Below w.heap.size w W1 := by subst hW; exact ext_trans (ext_alloc _ _) (ext_alloc _ _)
  have hx : W1.heap[w.heap.size]? = some (.cells #[.int .i64 c.ins, .slice s.a1 s.n1 s.c1, .slice s.a2 s.n2 s.c2, .slice s.a3 s.n3 s.c3, .slice s.a4 s.n4 s.c4, .slice s.a5 s.n5 s.c5] 26 (0, 0)) := by subst hW; exact heap_below (heap_new _ _ _ rfl) (ext_alloc _ _)
  have hy : W1.heap[w.heap.size + 1]? = some (.cells #[.int .i64 t.bad, .slice st.a1 st.n1 st.c1, .slice st.a2 st.n2 st.c2] 30 (0, 0)) := by subst hW; exact heap_new _ _ _ (by simp)
  have HB := Lib.hid hb
  have HX := Lib.hid hx
  have HY := Lib.hid hy
  clear hW hb hx hy
  have p0 := cell_of_block HX.out 0
  have p1 := cell_of_block HX.out 1
  have p2 := cell_of_block HX.out 2
  have p3 := cell_of_block HX.out 3
  have p4 := cell_of_block HX.out 4
  have p5 := cell_of_block HX.out 5
  have r0 := cell_of_block HY.out 0
  have r1 := cell_of_block HY.out 1
  have r2 := cell_of_block HY.out 2
  go_wp2_with fail
  refine (HFO.out W1 HB.out).mono ?_
  intro e W2 hp
  obtain ⟨bd, s', a, n, cc, ss, fb, rfl, ho, hb⟩ := HFU.out _ _ _ hp
  have HO := Lib.hid ho
  have HB2 := Lib.hid (ext_trans HB.out hb)
  have HBB := Lib.hid hb
  clear p0 p1 p2 p3 p4 p5 r0 r1 r2 hp ho hb HX HY HFO HFU
  unfold pathV
  go_upto_region 2 with fail
  generalize hW : World.alloc W2 _ = W3
  have hb3 : Below W2.heap.size W2 W3 := by subst hW; exact ext_alloc _ _
  have hp3 : W3.heap[W2.heap.size]? = some (.cells #[.int .i64 bd, .slice s'.a1 s'.n1 s'.c1, .slice s'.a2 s'.n2 s'.c2, .slice a n cc, .bool fb] 53 (0, 0)) := by subst hW; exact heap_new _ _ _ rfl
  have q3 : W3.cell? ⟨W2.heap.size, 3, none⟩ = some (.slice a n cc) := cell_of_block hp3 3
  have HPP := Lib.hid (HP.out a n cc ss W3 ((HO.out.below hb3).base_le HB.out.size) (ext_trans HB2.out hb3))
  clear hW hb3 hp3
  go_wp2
  refine bodyPost_ret (v := .tuple #[.slice a n cc, .int .i64 ef]) ?_ rfl HPP.out
  simp [results, Try.results8, go_sem]

set_option maxRecDepth 100000 in
set_option maxHeartbeats 3200000 in
theorem again_any (c : NormC) (t : TraceC) (s : CSlots) (st : TSlots) (w : World) (h : SeesCir w s c) (ht : SeesTr w st t) (hs : s.small) (hst : st.small) (hlo : -9223372036854775808 ≤ c.ins) (hhi : c.ins < 9223372036854775808) (hb1 : -9223372036854775808 ≤ t.bad ∧ t.bad < 9223372036854775808) :
    Calls Try.prog 12 #[cirV c.ins s, traceV t.bad st] w fun e w' => e = againE (statesO c t) ∧ Below w.heap.size w w' := by
  have HFO : Hid (∀ W, Below w.heap.size w W → Calls Try.prog 21 #[cirV c.ins s, traceV t.bad st] W (FolU c t W)) := fun W hb => (follow_any c t s st W (h.below hb) (ht.below hb) hs hst hlo hhi hb1).mono fun _ _ hp => hp.uni
  obtain ⟨ef, hef⟩ : ∃ z : Int, z = (if fitsS c t = true then 0 else 2) := ⟨_, rfl⟩
  obtain ⟨S, hS⟩ : ∃ S, S = statesO c t := ⟨_, rfl⟩
  have HFU : Hid (∀ W e W', FolU c t W e W' → ∃ (bd : Int) (s : TSlots) (a : Option Addr) (n cc : Nat) (ss : List Slc) (fb : Bool), e = .returned (.tuple #[pathV bd s a n cc fb, .int .i64 ef]) ∧ OwnLL W' W.heap.size a n cc ss S ∧ Below W.heap.size W W') := by
    rintro W e W' ⟨bd, s, a, n, cc, ss, fb, h1, h2, _, h4⟩
    rw [hef, hS]
    exact ⟨bd, s, a, n, cc, ss, fb, h1, h2, h4⟩
  have HSN : Hid (S.length ≤ 256) := by rw [hS]; exact statesO_few c t
  have HSS : Hid (∀ j, (S.getD j []).length ≤ 1048576) := by rw [hS]; exact statesO_small c t
  obtain ⟨E, hE⟩ : ∃ E, E = againE (statesO c t) := ⟨_, rfl⟩
  have HE : Hid (E = againE S) := by rw [hE, hS]; exact rfl
  rw [← hE]
  clear hef hS hE h ht hs hst hlo hhi hb1
  unfold cirV traceV at *
  go_enter Try.func12, Try.ntmps12
  go_upto_region 1 with fail
  generalize hW : World.alloc (World.alloc w _) _ = W1
  have hb : Below w.heap.size w W1 := by subst hW; exact ext_trans (ext_alloc _ _) (ext_alloc _ _)
  have hx : W1.heap[w.heap.size]? = some (.cells #[.int .i64 c.ins, .slice s.a1 s.n1 s.c1, .slice s.a2 s.n2 s.c2, .slice s.a3 s.n3 s.c3, .slice s.a4 s.n4 s.c4, .slice s.a5 s.n5 s.c5] 26 (0, 0)) := by subst hW; exact heap_below (heap_new _ _ _ rfl) (ext_alloc _ _)
  have hy : W1.heap[w.heap.size + 1]? = some (.cells #[.int .i64 t.bad, .slice st.a1 st.n1 st.c1, .slice st.a2 st.n2 st.c2] 30 (0, 0)) := by subst hW; exact heap_new _ _ _ (by simp)
  have HB := Lib.hid hb
  have HX := Lib.hid hx
  have HY := Lib.hid hy
  clear hW hb hx hy
  have p0 := cell_of_block HX.out 0
  have p1 := cell_of_block HX.out 1
  have p2 := cell_of_block HX.out 2
  have p3 := cell_of_block HX.out 3
  have p4 := cell_of_block HX.out 4
  have p5 := cell_of_block HX.out 5
  have r0 := cell_of_block HY.out 0
  have r1 := cell_of_block HY.out 1
  have r2 := cell_of_block HY.out 2
  go_wp2_with fail
  refine (HFO.out W1 HB.out).mono ?_
  intro e W2 hp
  obtain ⟨bd, s', a, n, cc, ss, fb, rfl, ho, hb⟩ := HFU.out _ _ _ hp
  have HO := Lib.hid ho
  have HB2 := Lib.hid (ext_trans HB.out hb)
  have HBB := Lib.hid hb
  clear p0 p1 p2 p3 p4 p5 r0 r1 r2 hp ho hb HX HY HFO HFU
  unfold pathV
  go_upto_region 2 with fail
  generalize hW : World.alloc W2 _ = W3
  have hb3 : Below W2.heap.size W2 W3 := by subst hW; exact ext_alloc _ _
  have hp3 : W3.heap[W2.heap.size]? = some (.cells #[.int .i64 bd, .slice s'.a1 s'.n1 s'.c1, .slice s'.a2 s'.n2 s'.c2, .slice a n cc, .bool fb] 53 (0, 0)) := by subst hW; exact heap_new _ _ _ rfl
  have q3 : W3.cell? ⟨W2.heap.size, 3, none⟩ = some (.slice a n cc) := cell_of_block hp3 3
  have hol := HO.out.below hb3
  have hn : n ≤ 256 := by rw [← hol.len]; exact HSN.out
  have hsm : smallF ss := hol.small fun j _ => HSS.out j
  have HC := Lib.hid (lasts_any S ss a n cc W3 hol.sees (by omega) hsm)
  have HSE := Lib.hid hol.sees
  have HNL := Lib.hid hol.len
  have HSF := Lib.hid hsm
  have HB3 := Lib.hid (ext_trans HB2.out hb3)
  have HP3 := Lib.hid hp3
  clear hW hb3 hp3 hol hsm HO HBB
  go_wp2_with fail
  refine HC.out.mono ?_
  rintro e W4 ⟨rfl, hm, hb⟩
  have HM := Lib.hid hm
  have q4 := cell_below q3 hb
  have HB4 := Lib.hid (ext_trans HB3.out hb)
  have HSE4 := Lib.hid (HSE.out.below hb)
  obtain ⟨M, hM⟩ : ∃ M, M = W3.heap.size := ⟨_, rfl⟩
  rw [← hM] at HM ⊢
  clear q3 hm hb HC HSE HB3 HP3 hM
  go_wp2
  clear q4
  go_loopw [24, 10, 11, 5] (fun i _ _ z wr => ∃ (k : Nat) (y : Int), k ≤ n ∧ i = .int .i64 k ∧ z = .int .i64 y ∧ Hid (∀ j, j < k → lastI S j ≤ j) ∧ Hid (wr = W4)) (fun i _ _ _ _ => n - (intOf i).toNat)
  case atStart => exact ⟨0, _, Nat.zero_le _, rfl, rfl, fun j hj => absurd hj (by omega), rfl⟩
  case round =>
    obtain ⟨k, y, hk, rfl, rfl, hno, hw⟩ := hrel
    have hw' := hw.out
    subst hw'
    clear hw
    by_cases hlt : k < n
    · obtain ⟨b, off, rfl, _⟩ := HSE4.out.row.addr (show 0 < n by omega)
      have hcx := HSE4.out.cellAt k hlt
      have hsee := HSE4.out.each k (by rw [HNL.out]; exact hlt)
      have hsl : (ss.getD k slc0).2.1 ≤ 1048576 := HSF.out _ (getD_mem (by rw [HSE4.out.len, HNL.out]; exact hlt))
      obtain ⟨x, hx⟩ : ∃ x, x = ss.getD k slc0 := ⟨_, rfl⟩
      rw [← hx] at hcx hsee hsl
      obtain ⟨xa, xn, xc⟩ := x
      simp only at hcx hsee hsl
      obtain ⟨sb, hse⟩ : ∃ sb, sb = S.getD k [] := ⟨_, rfl⟩
      rw [← hse] at hsee
      have hcv := hsee.str (P := Try.prog) 27 5 9 Try.underlying27 Try.underlying5 Try.underlying9
      have hky := keyStr sb (by rw [hsee.lenMap]; exact hsl)
      obtain ⟨m, hm⟩ : ∃ m, m = lastI S k := ⟨_, rfl⟩
      have hat : ∀ cz : Int, (lastD S n).atKey (.string sb) (.lit (.int .i64 0)) = .lit (.int .i64 cz) → cz = (m : Int) := fun cz h => by
        rw [lastD_at] at h
        cases h
        rw [hm]
        unfold lastI
        rw [← hse, HNL.out]
      have HAT := Lib.hid hat
      have HMM := Lib.hid hm
      have HK := Lib.hid hky
      have HKN : Hid (k < S.length) := by unfold Hid; rw [HNL.out]; exact hlt
      have W1' : IntKind.i64.wrap ((k : Int) + 1) = (k : Int) + 1 := IntWalk.i64_in _ (by omega)
      clear hx hse hsee hsl hky hm hat
      go_wp2_with (at_lookup; refine wpList_lookup_own_int _ rfl _ _ 56 rfl 9 3 .i64 lawS Try.underlying56 Try.underlying3 (zeroI64 _) M n _ rfl HM.out _ _ rfl HK.out ?_)
      intro cz hcz _
      obtain rfl := HAT.out cz hcz
      clear hcz HAT
      by_cases hkm : k < m
      · have hgt : (k : Int) < (m : Int) := by omega
        have HH : Hid (E = .returned (.tuple #[.int .i64 (k : Int), .int .i64 (m : Int), .bool true])) := by
          unfold Hid
          rw [HE.out, again_hit hno.out HKN.out (by rw [← HMM.out]; exact hkm), ← HMM.out]
        clear HE hno hkm
        go_wp2
        refine bodyPost_ret (v := .tuple #[.int .i64 (k : Int), .int .i64 (m : Int), .bool true]) ?_ rfl ⟨HH.out.symm, HB4.out⟩
        simp [results, Try.results12, go_sem]
      · have hgt : ¬ ((k : Int) < (m : Int)) := by omega
        have HNO : Hid (∀ j, j < k + 1 → lastI S j ≤ j) := fun j hj => by
          rcases Nat.lt_or_ge j k with h | h
          · exact hno.out j h
          · have : j = k := by omega
            subst this
            rw [← HMM.out]; omega
        clear hno hkm
        go_wp2
        go_roundw
        case rel => exact ⟨k + 1, _, by omega, by go_num, rfl, HNO.out, (by first | exact trivial | rfl)⟩
        case measure => simp [intOf]; omega
    · obtain rfl : k = n := by omega
      have HH : Hid (E = .returned (.tuple #[.int .i64 0, .int .i64 0, .bool false])) := by
        unfold Hid
        rw [HE.out, again_miss (fun j hj => hno.out j (by rw [← HNL.out]; exact hj))]
      clear HE hno
      go_wp2
      refine bodyPost_ret (v := .tuple #[.int .i64 0, .int .i64 0, .bool false]) ?_ rfl ⟨HH.out.symm, HB4.out⟩
      simp [results, Try.results12, go_sem]
end Go.Proofs.Ytgpkghlhlabjcaa
/- loop.remaining, by its contract. -/
namespace Go.Proofs.Ytgpkghlhlabjcaa
open Go Go.RowKit Go.Joins Go.Maps

theorem info_i64 : (Try.prog.info? 3).map (fun i => (i.zero, i.size, i.bytes)) = some (some (.int .i64 0), 1, 8) := by kernel_rfl
/-- A row's own block is no map. -/
theorem owns_notmap {w : World} {base k : Nat} {e : TypeId} {v : Value} {n : Nat} {xs : List Value} (h : w.ownsRow base e k v n xs) {P : Program} {kt : TypeId} {R : Value → Option (DataW Unit × List MemPlace)} {b m : Nat} {D : DataW Unit} (hm : w.ownsMap P kt R b m D) : some b ≠ v.ownBlock := by
  intro he
  obtain ⟨es, cl, h1, _⟩ := hm
  obtain ⟨hl, rest⟩ := h
  rcases rest with ⟨h2, _⟩ | ⟨g, cap, cur, h2, hg, hh, _⟩
  · rw [h2] at he; cases he
  · rw [h2] at he
    have : b = g := by simpa [Value.ownBlock] using he
    subst this
    rw [hh] at h1
    cases h1
/-- What remaining answers. -/
def RemPost (S : List (List UInt8)) (w : World) (e : Ending) (w' : World) : Prop :=
  ∃ (a : Option Addr) (c : Nat), e = .returned (.slice a (remS S).length c) ∧ w'.ownsRow w.heap.size 3 1 (.slice a (remS S).length c) (remS S).length ((remS S).map iv) ∧ Below w.heap.size w w'

set_option maxRecDepth 100000 in
set_option maxHeartbeats 1600000 in
theorem remaining_any (S : List (List UInt8)) (ss : List Slc) (a : Option Addr) (n c : Nat) (w : World) (h : SeesF w a n c ss S) (hn : n ≤ 1048576) (hs : smallF ss) :
    Calls Try.prog 26 #[.slice a n c] w (RemPost S w) := by
  obtain ⟨i0, hi, hz0, hz1, hz2⟩ := info_parts info_i64
  have H := Lib.hid h
  have HS := Lib.hid hs
  have HL := Lib.hid h.n_eq
  have HC := Lib.hid (lasts_any S ss a n c w h hn hs)
  obtain ⟨L, hL⟩ : ∃ L, L = remS S := ⟨_, rfl⟩
  have HPOST : Hid (∀ (a : Option Addr) (c : Nat) w', w'.ownsRow w.heap.size 3 1 (.slice a L.length c) L.length (L.map iv) → Below w.heap.size w w' → RemPost S w (.returned (.slice a L.length c)) w') := fun a c w' h1 h2 => by subst hL; exact ⟨a, c, rfl, h1, h2⟩
  have HLR : Hid (remL S n 0 = L) := by unfold Hid; rw [hL, ← HL.out]; rfl
  clear h hs hL
  go_enter Try.func26, Try.ntmps26
  go_wp2_with fail
  refine HC.out.mono ?_
  rintro e W1 ⟨rfl, hm, hb⟩
  have HM := Lib.hid hm
  have HB := Lib.hid hb
  clear HC hm hb
  go_wp2
  go_loopw [5, 4] (fun i l wr => ∃ (k f : Nat) (ga : Option Addr) (gc : Nat) (d : List Nat), k ≤ n ∧ i = .int .i64 k ∧ l = .slice ga d.length gc ∧ Hid (n ≤ k + f) ∧ Hid (d.length ≤ k) ∧ Hid (d ++ remL S f k = L) ∧ Hid (wr.ownsRow w.heap.size 3 1 (.slice ga d.length gc) d.length (d.map iv)) ∧ Hid (IsLast wr w.heap.size S n) ∧ Hid (Below w.heap.size w wr)) (fun i _ _ => n - (intOf i).toNat)
  case atStart => exact ⟨0, n, none, 0, [], Nat.zero_le _, rfl, rfl, by unfold Hid; omega, Nat.zero_le _, HLR.out, ⟨rfl, .inl ⟨rfl, rfl⟩⟩, HM.out, HB.out⟩
  case round =>
    clear HM HB
    obtain ⟨k, f, ga, gc, d, hk, rfl, rfl, hf, hd, hdL, hO, hM, hB⟩ := hrel
    by_cases hlt : k < n
    · have hS := H.out.below hB.out
      obtain ⟨b, off, rfl, _⟩ := H.out.row.addr (show 0 < n by omega)
      have hcx := hS.cellAt k hlt
      have hsee := hS.each k (by rw [HL.out]; exact hlt)
      have hsl : (ss.getD k slc0).2.1 ≤ 1048576 := HS.out _ (getD_mem (by rw [hS.len, HL.out]; exact hlt))
      obtain ⟨x, hx⟩ : ∃ x, x = ss.getD k slc0 := ⟨_, rfl⟩
      rw [← hx] at hcx hsee hsl
      obtain ⟨xa, xn, xc⟩ := x
      simp only at hcx hsee hsl
      obtain ⟨s, hse⟩ : ∃ s, s = S.getD k [] := ⟨_, rfl⟩
      rw [← hse] at hsee
      have hcv := hsee.str (P := Try.prog) 27 5 9 Try.underlying27 Try.underlying5 Try.underlying9
      have hky := keyStr s (by rw [hsee.lenMap]; exact hsl)
      obtain ⟨m, hm⟩ : ∃ m, m = lastI S k := ⟨_, rfl⟩
      have hkS : k < S.length := by rw [HL.out]; exact hlt
      have hmk : k ≤ m := by rw [hm]; exact lastI_ge hkS
      have hmn : m < n := by have := lastI_lt hkS; rw [HL.out] at this; rw [hm]; exact this
      obtain ⟨f2, hf2, hr2⟩ := remL_go (f := f) hkS (by rw [HL.out]; exact hf.out)
      rw [HL.out] at hf2
      rw [← hm] at hf2 hr2
      have hat : ∀ cz : Int, (lastD S n).atKey (.string s) (.lit (.int .i64 0)) = .lit (.int .i64 cz) → cz = (m : Int) := fun cz h => by
        rw [lastD_at] at h
        cases h
        rw [hm]
        unfold lastI
        rw [← hse, HL.out]
      have HAT := Lib.hid hat
      have HF2 := Lib.hid hf2
      have HR2 : Hid ((d ++ [m]) ++ remL S f2 (m + 1) = L) := by unfold Hid; rw [List.append_assoc]; have := hdL.out; rw [hr2] at this; exact this
      have HMK := Lib.hid hmk
      have HMN := Lib.hid hmn
      have HK := Lib.hid hky
      have HD := Lib.hid hd.out
      have HO := Lib.hid hO.out
      have HM := Lib.hid hM.out
      have HB := Lib.hid hB.out
      have W1 : IntKind.i64.wrap ((m : Int) + 1) = (m : Int) + 1 := IntWalk.i64_in _ (by omega)
      clear hS hx hse hsee hsl hky hB hM hO hd hf hdL hm hkS hmk hmn hf2 hr2 hat
      go_wp2_with (at_lookup; refine wpList_lookup_own_int _ rfl _ _ 56 rfl 9 3 .i64 lawS Try.underlying56 Try.underlying3 (zeroI64 _) w.heap.size n _ rfl HM.out _ _ rfl HK.out ?_)
      intro cz hcz _
      obtain rfl := HAT.out cz hcz
      clear hcz HAT
      go_wp2_with (at_builtin; refine wpList_append_own_at _ rfl _ _ 41 rfl w.heap.size 3 i0 (.int .i64 0) 1 8 Try.underlying41 hi hz0 hz1 hz2 rfl (by decide) (.slice ga d.length gc) d.length (d.map iv) rfl (ownsN_below HO.out (ext_alloc _ _)) ⟨wr.heap.size, 0, none⟩ 1 1 [.int .i64 (m : Int)] rfl rfl (cell_one_new _ _ _) (by simp [Value.oneCell']) ?c4 ?c5 ?c6 ?_)
      case c4 => have := HD.out; unfold maxLen; omega
      case c5 => have := HD.out; omega
      case c6 => have := HB.out.size; simp; omega
      intro v' w1 hown' hgrow _ _
      have hal := ext_alloc wr (.cells #[.int .i64 (m : Int)] 3)
      have hro := ownsN_below HO.out hal
      have hmo := HM.out.below hal
      have hb0 := ext_trans HB.out hal
      generalize hWA : wr.alloc (.cells #[.int .i64 (m : Int)] 3) = WA at hgrow hal hro hmo hb0
      have HB1 := Lib.hid (hb0.grown hgrow hb0.size (fun q hq => (hro.lt q hq).1))
      have HM1 : Hid (IsLast w1 w.heap.size S n) := World.ownsMap.kept hmo hgrow (owns_notmap hro hmo)
      have e1 : d.map iv ++ [.int .i64 (m : Int)] = (d ++ [m]).map iv := by simp [iv]
      rw [e1] at hown'
      have HO1 : Hid (w1.ownsRow w.heap.size 3 1 v' (d ++ [m]).length ((d ++ [m]).map iv)) := by unfold Hid; simpa using hown'
      obtain ⟨gx, gxc, rfl⟩ := ownsN_form HO1.out
      have HDD : Hid ((d ++ [m]).length ≤ m + 1) := by have := HD.out; have := HMK.out; unfold Hid; simp; omega
      obtain ⟨d2, hd2⟩ : ∃ d2, d2 = d ++ [m] := ⟨_, rfl⟩
      rw [← hd2] at HO1 HR2 HDD ⊢
      clear hal hro hmo hb0 hWA hown' hgrow e1 hd2
      go_wp2
      go_roundw
      case rel => exact ⟨m + 1, f2, gx, gxc, d2, by have := HMN.out; omega, by go_num, rfl, by have := HF2.out; unfold Hid; omega, HDD.out, HR2.out, HO1.out, HM1.out, HB1.out⟩
      case measure => have := HMK.out; simp [intOf]; omega
    · obtain rfl : k = n := by omega
      have e : d = L := by have := hdL.out; rw [remL_end f k (by rw [HL.out]; exact Nat.le_refl _), List.append_nil] at this; exact this
      have HP := HPOST.out ga gc wr (by rw [← e]; exact hO.out) hB.out
      rw [← e] at HP
      have HPP := Lib.hid HP
      clear e HP
      go_wp2
      go_ret
      exact HPP.out
end Go.Proofs.Ytgpkghlhlabjcaa
/- loop.Cut, by its contract. -/
namespace Go.Proofs.Ytgpkghlhlabjcaa
open Go Go.RowKit Go.Joins Go.Maps

/-- What Cut answers. -/
def CutPost (c : NormC) (t : TraceC) (w : World) (e : Ending) (w' : World) : Prop :=
  ∃ (x : TSlots) (la : Option Addr) (lc : Nat), e = .returned (.tuple #[traceV (cutO c t).1.bad x, .slice la (cutO c t).2.1.length lc, .int .i64 (cutO c t).2.2]) ∧ Sees w' la (cutO c t).2.1.length lc ((cutO c t).2.1.map iv) ∧ OwnTA w' w.heap.size x (cutO c t).1 ∧ x.small ∧ Below w.heap.size w w'
/-- What was picked of the frames' slices. -/
def pickS (s : TSlots) (L : List Nat) : List Slc := L.map fun i => s.ss.getD i slc0
theorem pickS_snoc (s : TSlots) (L : List Nat) (k : Nat) (h : k < L.length) : pickS s (L.take (k + 1)) = pickS s (L.take k) ++ [s.ss.getD (L.getD k 0) slc0] := by
  unfold pickS
  rw [take_snocN L k h, List.map_append]
  rfl
/-- While frames are picked. -/
structure CuInv (w : World) (C : Nat) (bad : Int) (iv0 : Value) (s : TSlots) (L : List Nat) (k : Nat) (va : Option Addr) (vc : Nat) (W : World) : Prop where
  box : W.heap[C]? = some (.cells #[.int .i64 bad, iv0, .slice va k vc] 30 (0, 0))
  row : W.ownsRow C 27 1 (.slice va k vc) k ((pickS s (L.take k)).map slV)
  low : Below C w W
theorem Sees.int_at {w : World} {b off n c : Nat} {L : List Nat} (h : Sees w (some ⟨b, off, .none⟩) n c (L.map iv)) (j : Nat) (hj : j < n) : w.cell? ⟨b, off + j, .none⟩ = some (.int .i64 (L.getD j 0 : Nat)) := by
  have hl : L.length = n := h.lenMap
  rw [(h.cell j hj).2]
  simp [iv, List.getD, List.getElem?_eq_getElem (show j < L.length by omega)]

set_option maxRecDepth 100000 in
set_option maxHeartbeats 3200000 in
theorem cut_any (c : NormC) (t : TraceC) (s : CSlots) (st : TSlots) (w : World) (h : SeesCir w s c) (ht : SeesTr w st t) (hs : s.small) (hst : st.small) (hlo : -9223372036854775808 ≤ c.ins) (hhi : c.ins < 9223372036854775808) (hb1 : -9223372036854775808 ≤ t.bad ∧ t.bad < 9223372036854775808) :
    Calls Try.prog 14 #[cirV c.ins s, traceV t.bad st] w (CutPost c t w) := by
  obtain ⟨iS, hiS, hzS0, hzS1, hzS2⟩ := info_parts info_u8s
  have HFO : Hid (∀ W, Below w.heap.size w W → Calls Try.prog 21 #[cirV c.ins s, traceV t.bad st] W (FolU c t W)) := fun W hb => (follow_any c t s st W (h.below hb) (ht.below hb) hs hst hlo hhi hb1).mono fun _ _ hp => hp.uni
  obtain ⟨S, hS⟩ : ∃ S, S = statesO c t := ⟨_, rfl⟩
  obtain ⟨q, hq⟩ : ∃ q, q = fitsS c t := ⟨_, rfl⟩
  obtain ⟨fb, hfb⟩ : ∃ b, b = failsB c t := ⟨_, rfl⟩
  have HFU : Hid (∀ W e W', FolU c t W e W' → ∃ (bd : Int) (s : TSlots) (a : Option Addr) (n cc : Nat) (ss : List Slc) (b : Bool), e = .returned (.tuple #[pathV bd s a n cc b, .int .i64 (if q = true then 0 else 2)]) ∧ OwnLL W' W.heap.size a n cc ss S ∧ (q = true → bd = t.bad ∧ OwnTr W' W.heap.size s (readT t) ∧ s.small ∧ b = fb) ∧ Below W.heap.size W W') := by
    rw [hS, hq, hfb]; exact fun _ _ _ h => h
  have HSN : Hid (S.length ≤ 256) := by rw [hS]; exact statesO_few c t
  have HSS : Hid (∀ j, (S.getD j []).length ≤ 1048576) := by rw [hS]; exact statesO_small c t
  have HSL : Hid (q = true → S.length = t.frames.length) := by rw [hS, hq]; exact fun h => by rw [show statesO c t = statesL c t from if_pos h]; exact statesL_len c t
  have HNO : Hid (∀ w', q = false → Below w.heap.size w w' → CutPost c t w (.returned (.tuple #[traceV 0 ⟨none, 0, 0, none, 0, 0, []⟩, .slice none 0 0, .int .i64 2])) w') := by
    rw [hq]; intro w' h1 h2
    have e : cutO c t = (⟨0, [], []⟩, [], 2) := if_neg (by rw [h1]; decide)
    refine ⟨_, none, 0, ?_, ?_, ?_, tslots_nil, h2⟩ <;> rw [e]
    · rfl
    · exact Sees.nil _ _ _ (fun _ => rfl)
    · exact ownTA_nil _ _
  have HNF : Hid (∀ w', q = true → fb = false → Below w.heap.size w w' → CutPost c t w (.returned (.tuple #[traceV 0 ⟨none, 0, 0, none, 0, 0, []⟩, .slice none 0 0, .int .i64 10])) w') := by
    rw [hq, hfb]; intro w' h1 h0 h2
    have e : cutO c t = (⟨0, [], []⟩, [], 10) := (if_pos h1).trans (if_neg (by rw [h0]; decide))
    refine ⟨_, none, 0, ?_, ?_, ?_, tslots_nil, h2⟩ <;> rw [e]
    · rfl
    · exact Sees.nil _ _ _ (fun _ => rfl)
    · exact ownTA_nil _ _
  have HYES : Hid (∀ w' (x : TSlots) la lc, q = true → fb = true → Sees w' la (remS S).length lc ((remS S).map iv) → OwnTA w' w.heap.size x ⟨t.bad, zeroL t.init, (remS S).map fun k => zeroL (t.frames.getD k [])⟩ → x.small → Below w.heap.size w w' → CutPost c t w (.returned (.tuple #[traceV t.bad x, .slice la (remS S).length lc, .int .i64 0])) w') := by
    rw [hq, hfb]; intro w' x la lc h1 h2 h3 h4 h5 h6
    have e0 : S = statesL c t := by rw [hS]; exact if_pos h1
    have e : cutO c t = (cutT c t, remS (statesL c t), 0) := (if_pos h1).trans (if_pos h2)
    rw [e0] at h3 h4 ⊢
    refine ⟨x, la, lc, ?_, ?_, ?_, h5, h6⟩ <;> rw [e]
    · rfl
    · exact h3
    · exact h4
  have HHS : Hid (s.small) := hs
  clear hS hq hfb h ht hs hst hlo hhi hb1
  unfold cirV traceV at *
  go_enter Try.func14, Try.ntmps14
  go_upto_region 1 with fail
  generalize hW : World.alloc (World.alloc (World.alloc w _) _) _ = W1
  have hb : Below w.heap.size w W1 := by subst hW; exact ext_trans (ext_alloc _ _) (ext_trans (ext_alloc _ _) (ext_alloc _ _))
  have hx : W1.heap[w.heap.size]? = some (.cells #[.int .i64 c.ins, .slice s.a1 s.n1 s.c1, .slice s.a2 s.n2 s.c2, .slice s.a3 s.n3 s.c3, .slice s.a4 s.n4 s.c4, .slice s.a5 s.n5 s.c5] 26 (0, 0)) := by subst hW; exact heap_below (heap_below (heap_new _ _ _ rfl) (ext_alloc _ _)) (ext_alloc _ _)
  have hy : W1.heap[w.heap.size + 1]? = some (.cells #[.int .i64 t.bad, .slice st.a1 st.n1 st.c1, .slice st.a2 st.n2 st.c2] 30 (0, 0)) := by subst hW; exact heap_below (heap_new _ _ _ (by simp)) (ext_alloc _ _)
  have hz : W1.heap[w.heap.size + 1 + 1]? = some (.cells #[.int .i64 0, .slice none 0 0, .slice none 0 0] 30 (0, 0)) := by subst hW; exact heap_new _ _ _ (by simp)
  have HB := Lib.hid hb
  have HX := Lib.hid hx
  have HY := Lib.hid hy
  have HZ := Lib.hid hz
  clear hW hb hx hy hz
  have HW1 : Hid (w.heap.size + 1 + 1 < W1.heap.size) := heap_lt HZ.out
  have p0 := cell_of_block HX.out 0
  have p1 := cell_of_block HX.out 1
  have p2 := cell_of_block HX.out 2
  have p3 := cell_of_block HX.out 3
  have p4 := cell_of_block HX.out 4
  have p5 := cell_of_block HX.out 5
  have r0 := cell_of_block HY.out 0
  have r1 := cell_of_block HY.out 1
  have r2 := cell_of_block HY.out 2
  go_wp2_with fail
  refine (HFO.out W1 HB.out).mono ?_
  intro e W2 hp
  obtain ⟨bd, s', a, n, cc, ss, fb2, rfl, ho, hyes, hb⟩ := HFU.out _ _ _ hp
  have HO := Lib.hid ho
  have HB2 := Lib.hid (ext_trans HB.out hb)
  have HZ2 := Lib.hid (heap_below HZ.out hb)
  have HYES2 := Lib.hid hyes
  clear p0 p1 p2 p3 p4 p5 r0 r1 r2 hp ho hb hyes HX HY HZ HFO HFU
  unfold pathV
  go_upto_region 2 with fail
  generalize hW : World.alloc W2 _ = W3
  have hb3 : Below W2.heap.size W2 W3 := by subst hW; exact ext_alloc _ _
  have hp3 : W3.heap[W2.heap.size]? = some (.cells #[.int .i64 bd, .slice s'.a1 s'.n1 s'.c1, .slice s'.a2 s'.n2 s'.c2, .slice a n cc, .bool fb2] 53 (0, 0)) := by subst hW; exact heap_new _ _ _ rfl
  obtain ⟨P, hP⟩ : ∃ P, P = W2.heap.size := ⟨_, rfl⟩
  have hPR : w.heap.size + 1 + 1 < P := by rw [hP]; exact heap_lt HZ2.out
  have HB3 := Lib.hid (ext_trans HB2.out hb3)
  have HZ3 := Lib.hid (heap_below HZ2.out hb3)
  have HO3 := Lib.hid (HO.out.below hb3)
  have HYES3 : Hid (q = true → bd = t.bad ∧ OwnTr W3 W1.heap.size s' (readT t) ∧ s'.small ∧ fb2 = fb) := fun hq => by
    obtain ⟨h1, h2, h3, h4⟩ := HYES2.out hq
    exact ⟨h1, h2.below hb3, h3, h4⟩
  rw [← hP] at hp3 ⊢
  have HP3 := Lib.hid hp3
  clear hW hb3 hp3 hP HB2 HZ2 HO HYES2
  cases q with
  | false =>
    rw [if_neg (by decide)]
    have z0 := cell_of_block HZ3.out 0
    have y0 := unfrozen_of_block HZ3.out 0
    have z1 := cell_of_block HZ3.out 1
    have y1 := unfrozen_of_block HZ3.out 1
    have z2 := cell_of_block HZ3.out 2
    have y2 := unfrozen_of_block HZ3.out 2
    go_wp2
    refine bodyPost_ret (v := .tuple #[traceV 0 ⟨none, 0, 0, none, 0, 0, []⟩, .slice none 0 0, .int .i64 2]) ?_ rfl ?_
    · have h6 := tri_set_t HZ3.out rfl (.int .i64 0) (.slice none 0 0) (.slice none 0 0)
      have g0 := cell_of_block h6 0
      have g1 := cell_of_block h6 1
      have g2 := cell_of_block h6 2
      simp [results, Try.results14, go_sem, g0, g1, g2]
      rfl
    · exact HNO.out _ (by trivial) (set3_t (w.heap.size + 1 + 1) (by omega) HB3.out)
  | true =>
  rw [if_pos rfl]
  obtain ⟨rfl, ho, hsm, rfl⟩ := HYES3.out (by trivial)
  have HOT := Lib.hid ho
  have HSM := Lib.hid hsm
  clear ho hsm HYES3 HNO
  have f4 : W3.cell? ⟨P, 4, none⟩ = some (.bool fb2) := cell_of_block HP3.out 4
  cases fb2 with
  | false =>
    have z0 := cell_of_block HZ3.out 0
    have y0 := unfrozen_of_block HZ3.out 0
    have z1 := cell_of_block HZ3.out 1
    have y1 := unfrozen_of_block HZ3.out 1
    have z2 := cell_of_block HZ3.out 2
    have y2 := unfrozen_of_block HZ3.out 2
    go_wp2
    refine bodyPost_ret (v := .tuple #[traceV 0 ⟨none, 0, 0, none, 0, 0, []⟩, .slice none 0 0, .int .i64 10]) ?_ rfl ?_
    · have h6 := tri_set_t HZ3.out rfl (.int .i64 0) (.slice none 0 0) (.slice none 0 0)
      have g0 := cell_of_block h6 0
      have g1 := cell_of_block h6 1
      have g2 := cell_of_block h6 2
      simp [results, Try.results14, go_sem, g0, g1, g2]
      rfl
    · exact HNF.out _ (by trivial) (by trivial) (set3_t (w.heap.size + 1 + 1) (by omega) HB3.out)
  | true =>
  have f3 : W3.cell? ⟨P, 3, none⟩ = some (.slice a n cc) := cell_of_block HP3.out 3
  have hn : n ≤ 256 := by rw [← HO3.out.len]; exact HSN.out
  have HNS : Hid (S.length = n) := HO3.out.len
  have hsm2 : smallF ss := HO3.out.small fun j _ => HSS.out j
  have HRM := Lib.hid (remaining_any S ss a n cc W3 HO3.out.sees (by omega) hsm2)
  have HNT : Hid (n = t.frames.length) := by unfold Hid; rw [← HNS.out]; exact HSL.out (by trivial)
  clear hsm2 HNF HO3
  go_wp2_with fail
  refine HRM.out.mono ?_
  rintro e W4 ⟨la, lc, rfl, hl, hb⟩
  obtain ⟨L, hL⟩ : ∃ L, L = remS S := ⟨_, rfl⟩
  have HLT : Hid (∀ k, k < L.length → L.getD k 0 < n) := fun k hk => by
    rw [← HNS.out]
    exact remL_lt S.length 0 _ (by rw [hL] at hk ⊢; exact getD_mem hk)
  have HLN : Hid (L.length ≤ n) := by unfold Hid; rw [hL, ← HNS.out]; exact remS_len S
  rw [← hL] at hl HYES ⊢
  have HLS := Lib.hid ((owns_sees_slice hl).2)
  have HLO := Lib.hid hl
  have HW3 : Hid (w.heap.size + 1 + 1 < W3.heap.size) := heap_lt HZ3.out
  have HB4 := Lib.hid (ext_trans HB3.out hb)
  have HZ4 := Lib.hid (heap_below HZ3.out hb)
  have HP4 := Lib.hid (heap_below HP3.out hb)
  have HOT4 := Lib.hid (HOT.out.below hb)
  clear f3 f4 HRM hl hb hL HB3 HZ3 HP3 HOT
  have g0 : W4.cell? ⟨P, 0, none⟩ = some (.int .i64 t.bad) := cell_of_block HP4.out 0
  have g1 : W4.cell? ⟨P, 1, none⟩ = some (.slice s'.a1 s'.n1 s'.c1) := cell_of_block HP4.out 1
  obtain ⟨m, hm⟩ : ∃ m, m = L.length := ⟨_, rfl⟩
  rw [← hm] at HLS HLT HLN HYES HLO ⊢
  have HMM := Lib.hid hm
  clear hm
  go_upto_region 8 with fail
  generalize hW : World.alloc W4 _ = W5
  obtain ⟨C, hC⟩ : ∃ C, C = W4.heap.size := ⟨_, rfl⟩
  have hc5 : W5.heap[C]? = some (.cells #[.int .i64 t.bad, .slice s'.a1 s'.n1 s'.c1, .slice none 0 0] 30 (0, 0)) := by subst hW; rw [hC]; exact heap_new _ _ _ rfl
  have hb5 : Below C W4 W5 := by subst hW; rw [hC]; exact ext_alloc _ _
  have HI : Hid (CuInv W4 C t.bad (.slice s'.a1 s'.n1 s'.c1) s' L 0 none 0 W5) := ⟨hc5, ⟨rfl, .inl ⟨rfl, rfl⟩⟩, hb5⟩
  have hPC : P < C := by rw [hC]; exact heap_lt HP4.out
  have HCC : Hid (C = W4.heap.size) := hC
  rw [← hC]
  clear hW hC hc5 hb5 g0 g1
  have hm256 : m ≤ 256 := Nat.le_trans HLN.out hn
  go_wp2
  go_loopw [39, 12] (fun i _ wr => ∃ (k : Nat) (va : Option Addr) (vc : Nat), k ≤ m ∧ i = .int .i64 k ∧ Hid (CuInv W4 C t.bad (.slice s'.a1 s'.n1 s'.c1) s' L k va vc wr)) (fun i _ _ => m - (intOf i).toNat)
  case atStart => exact ⟨0, none, 0, Nat.zero_le _, rfl, HI.out⟩
  case round =>
    clear HI
    obtain ⟨k, va, vc, hk, rfl, hI⟩ := hrel
    have hlow : Below W4.heap.size W4 wr := by rw [← HCC.out]; exact hI.out.low
    have HLOW := Lib.hid hlow
    by_cases hlt : k < m
    · obtain ⟨lb, lo, rfl, _⟩ := HLS.out.addr (show 0 < m by omega)
      have hli := (HLS.out.below hlow).int_at k hlt
      have hlk := HLT.out k hlt
      have hsk := pickS_snoc s' L k (by rw [← HMM.out]; exact hlt)
      obtain ⟨i, hi⟩ : ∃ i, i = L.getD k 0 := ⟨_, rfl⟩
      rw [← hi] at hli hlk hsk
      have hotr := HOT4.out.below hlow
      obtain ⟨F, hF1, hF2, hF3⟩ := hotr.blk
      have hsn2 : s'.n2 = n := by rw [HNT.out, hotr.n2]; simp [readT]
      have hsl : s'.ss.length = n := by rw [HNT.out, hotr.len]; simp [readT]
      have hFl : F < C := by
        rw [HCC.out]
        obtain ⟨F2, k1, k2, k3⟩ := HOT4.out.blk
        rw [hF2] at k2; cases k2
        exact heap_lt k3
      have hcx : wr.cell? ⟨F, i, none⟩ = some (slV (s'.ss.getD i slc0)) := by
        rw [cell_of_block hF3]
        simp [List.getD, List.getElem?_eq_getElem (show i < s'.ss.length by omega)]
      obtain ⟨x, hx⟩ : ∃ x : Slc, x = s'.ss.getD i slc0 := ⟨_, rfl⟩
      rw [← hx] at hcx hsk
      obtain ⟨xa, xn, xc⟩ := x
      simp only [slV] at hcx
      have p0 : wr.cell? ⟨C, 2, none⟩ = some (.slice va k vc) := cell_of_block hI.out.box 2
      have p1 : wr.cell? ⟨P, 2, none⟩ = some (.slice (some ⟨F, 0, none⟩) n s'.c2) := by
        have := cell_of_block (heap_below HP4.out hlow) 2
        rw [← hF2, ← hsn2]; exact this
      have p2 : wr.cell? ⟨F, i, none⟩ = some (.slice xa xn xc) := hcx
      have HI1 := Lib.hid hI.out
      have HSK := Lib.hid hsk
      have HFL := Lib.hid hFl
      have hI1 : ((i : Nat) : Int) < (n : Int) := by omega
      have hI2 : (0 : Int) ≤ (i : Int) := by omega
      have W1' : IntKind.i64.wrap ((k : Int) + 1) = (k : Int) + 1 := IntWalk.i64_in _ (by omega)
      have HKN : Hid (k < m ∧ m ≤ 256) := ⟨hlt, hm256⟩
      clear hlow hlk hsk hi hotr hF1 hF2 hF3 hsn2 hsl hFl hcx hx hI
      go_upto_region 11 with fail
      have HS0 := Lib.hid (And.intro p0 (And.intro p1 p2))
      have HSD := Lib.hid (keep3c HS0.out ((Below.refl _ wr).drew))
      have HYD := Lib.hid ((Below.refl wr.heap.size wr).drew)
      refine wp_region_noPanic ?_
      refine wp_region_peelN 11 (by kernel_rfl) rfl (by simp only [List.getElem?_toArray, List.getElem?_cons_zero, List.getElem?_cons_succ]; rfl) (by kernel_rfl) ?_
      simp only [List.pop_toArray, List.dropLast_cons_cons, List.dropLast_singleton]
      refine wpAny_of_held (S := fun w' => w'.cell? ⟨C, 2, none⟩ = some (.slice va k vc) ∧ w'.cell? ⟨P, 2, none⟩ = some (.slice (some ⟨F, 0, none⟩) n s'.c2) ∧ w'.cell? ⟨F, i, none⟩ = some (.slice xa xn xc)) _ _ _ _ ?_
      refine wpAnyH_take (i := 0) (v := ?_) (by simp only [List.getElem?_toArray, List.getElem?_cons_zero]; rfl) (by kernel_rfl) (by kernel_rfl) (by kernel_rfl) (fun _ _ _ h => h) (Or.inl ⟨by rfl, ?_⟩) HSD.out ?_
      rotate_left
      · intro w hSw
        (try dsimp only at hSw)
        obtain ⟨q0_, q1_, q2_⟩ := hSw
        go_simp
        try with_reducible rfl
      try simp only [Act.put, List.setIfInBounds_toArray, List.set_cons_zero, List.set_cons_succ]
      refine wpAnyH_take (i := 1) (v := ?_) (by simp only [List.getElem?_toArray, List.getElem?_cons_zero, List.getElem?_cons_succ]; rfl) (by kernel_rfl) (by kernel_rfl) (by kernel_rfl) (fun _ _ _ h => h) (Or.inl ⟨by rfl, ?_⟩) HSD.out ?_
      rotate_left
      · intro w hSw
        (try dsimp only at hSw)
        obtain ⟨q0_, q1_, q2_⟩ := hSw
        go_simp
        try with_reducible rfl
      try simp only [Act.put, List.setIfInBounds_toArray, List.set_cons_zero, List.set_cons_succ]
      refine wpAnyH_take (i := 2) (v := ?_) (by simp only [List.getElem?_toArray, List.getElem?_cons_zero, List.getElem?_cons_succ]; rfl) (by kernel_rfl) (by kernel_rfl) (by kernel_rfl) (fun _ _ _ h => h) (Or.inl ⟨by rfl, ?_⟩) HSD.out ?_
      rotate_left
      · intro w hSw
        (try dsimp only at hSw)
        obtain ⟨q0_, q1_, q2_⟩ := hSw
        go_simp
        try with_reducible rfl
      try simp only [Act.put, List.setIfInBounds_toArray, List.set_cons_zero, List.set_cons_succ]
      refine wpAnyH_take (i := 3) (v := ?_) (by simp only [List.getElem?_toArray, List.getElem?_cons_zero, List.getElem?_cons_succ]; rfl) (by kernel_rfl) (by kernel_rfl) (by kernel_rfl) (fun _ _ _ h => h) (Or.inl ⟨by rfl, ?_⟩) HSD.out ?_
      rotate_left
      · intro w hSw
        (try dsimp only at hSw)
        obtain ⟨q0_, q1_, q2_⟩ := hSw
        go_simp
        try with_reducible rfl
      try simp only [Act.put, List.setIfInBounds_toArray, List.set_cons_zero, List.set_cons_succ]
      refine wpAnyH_take (i := 4) (v := ?_) (by simp only [List.getElem?_toArray, List.getElem?_cons_zero, List.getElem?_cons_succ]; rfl) (by kernel_rfl) (by kernel_rfl) (by kernel_rfl) (fun _ _ _ h => h) (Or.inl ⟨by rfl, ?_⟩) HSD.out ?_
      rotate_left
      · intro w hSw
        (try dsimp only at hSw)
        obtain ⟨q0_, q1_, q2_⟩ := hSw
        go_simp
        try with_reducible rfl
      try simp only [Act.put, List.setIfInBounds_toArray, List.set_cons_zero, List.set_cons_succ]
      refine wpAnyH_take (i := 5) (v := ?_) (by simp only [List.getElem?_toArray, List.getElem?_cons_zero, List.getElem?_cons_succ]; rfl) (by kernel_rfl) (by kernel_rfl) (by kernel_rfl) (fun _ _ _ h => h) (Or.inl ⟨by rfl, ?_⟩) HSD.out ?_
      rotate_left
      · intro w hSw
        (try dsimp only at hSw)
        obtain ⟨q0_, q1_, q2_⟩ := hSw
        go_simp
        try with_reducible rfl
      try simp only [Act.put, List.setIfInBounds_toArray, List.set_cons_zero, List.set_cons_succ]
      refine wpAnyH_take (i := 6) (v := ?_) (by simp only [List.getElem?_toArray, List.getElem?_cons_zero, List.getElem?_cons_succ]; rfl) (by kernel_rfl) (by kernel_rfl) (by kernel_rfl) (fun _ _ _ h => h) (Or.inl ⟨by rfl, ?_⟩) HSD.out ?_
      rotate_left
      · intro w hSw
        (try dsimp only at hSw)
        obtain ⟨q0_, q1_, q2_⟩ := hSw
        go_simp
        try with_reducible rfl
      try simp only [Act.put, List.setIfInBounds_toArray, List.set_cons_zero, List.set_cons_succ]
      refine wpAnyH_take (i := 7) (v := ?_) (by simp only [List.getElem?_toArray, List.getElem?_cons_zero, List.getElem?_cons_succ]; rfl) (by kernel_rfl) (by kernel_rfl) (by kernel_rfl) (fun _ _ _ h => h) (Or.inl ⟨by rfl, ?_⟩) HSD.out ?_
      rotate_left
      · intro w hSw
        (try dsimp only at hSw)
        obtain ⟨q0_, q1_, q2_⟩ := hSw
        go_simp
        try with_reducible rfl
      try simp only [Act.put, List.setIfInBounds_toArray, List.set_cons_zero, List.set_cons_succ]
      refine wpAnyH_ready (rs := [8]) (by kernel_rfl) (by simp) ?_
      refine AllReadyH.cons (by simp only [List.getElem?_toArray, List.getElem?_cons_zero, List.getElem?_cons_succ]; rfl) (fun K hK => ?_) AllReadyH.nil
      go_simp
      have HS4 := Lib.hid (keep3c HSD.out (ext_alloc wr.drew (.cells #[.slice xa xn xc] 27)))
      refine hK.out _ _ HS4.out (fun _ => ?_)
      clear hK K
      try simp only [Act.put, List.setIfInBounds_toArray, List.set_cons_zero, List.set_cons_succ]
      have HB4b := Lib.hid (ext_trans HYD.out (ext_alloc wr.drew (.cells #[.slice xa xn xc] 27)))
      have HOW := Lib.hid (ownsN_below HI1.out.row HB4b.out)
      refine wpAnyH_ready (rs := [9]) (by kernel_rfl) (by simp) ?_
      refine AllReadyH.cons (by simp only [List.getElem?_toArray, List.getElem?_cons_zero, List.getElem?_cons_succ]; rfl) (fun K hK => ?_) AllReadyH.nil
      refine step_append_own_at rfl _ _ 28 rfl C 27 iS (.slice none 0 0) 1 24 Try.underlying28 hiS hzS0 hzS1 hzS2 rfl (by decide) (.slice va k vc) k ((pickS s' (L.take k)).map slV) (by simp [Act.eval]) HOW.out ⟨wr.heap.size, 0, none⟩ 1 1 [.slice xa xn xc] (by simp [Act.eval]) rfl (cell_one_new _ _ _) (by simp [Value.oneCell']) (by unfold maxLen; have := HKN.out; omega) (by have := HKN.out; omega) (Nat.le_trans (show C ≤ wr.heap.size by rw [HCC.out]; exact HLOW.out.size) HB4b.out.size) ?_
      intro v5 w5 r5 g5
      obtain ⟨fa, fc, rfl⟩ := ownsN_form r5
      have hx5 := heap_grown (heap_below HI1.out.box HB4b.out) g5 (ownsN_notown HOW.out (heap_below HI1.out.box HB4b.out) (by decide))
      have hl5 : Below C W4 w5 := (HI1.out.low.trans (HB4b.out.mono (by have h1 := HLOW.out.size; have h3 := HCC.out; omega))).grown g5 (Nat.le_trans (show C ≤ wr.heap.size by rw [HCC.out]; exact HLOW.out.size) HB4b.out.size) (fun q hq => (HOW.out.lt q hq).1)
      have hl5' : Below W4.heap.size W4 w5 := by rw [← HCC.out]; exact hl5
      have ht5 := heap_below HP4.out hl5'
      have HS5 : Hid (w5.cell? ⟨C, 2, none⟩ = some (.slice va k vc) ∧ w5.cell? ⟨P, 2, none⟩ = some (.slice (some ⟨F, 0, none⟩) n s'.c2) ∧ w5.cell? ⟨F, i, none⟩ = some (.slice xa xn xc)) := by
        refine ⟨cell_of_block hx5 2, ?_, ?_⟩
        · have e1 := (hl5'.cell (p := ⟨P, 2, none⟩) (heap_lt HP4.out))
          have e2 := (HLOW.out.cell (p := ⟨P, 2, none⟩) (heap_lt HP4.out))
          exact e1.trans (e2.symm.trans HS0.out.2.1)
        · have hF := HFL.out
          rw [HCC.out] at hF
          have e1 := (hl5'.cell (p := ⟨F, i, none⟩) hF)
          have e2 := (HLOW.out.cell (p := ⟨F, i, none⟩) hF)
          exact e1.trans (e2.symm.trans HS0.out.2.2)
      have HX5 := Lib.hid hx5
      have HL5 := Lib.hid hl5
      have d1 := cell_of_block hx5 2
      have d2 := unfrozen_of_block hx5 2
      have R5 := Lib.hid r5
      clear r5 g5 hx5 ht5 hl5 hl5'
      refine hK.out _ _ HS5.out (fun _ => ?_)
      clear hK K
      try simp only [Act.put, List.setIfInBounds_toArray, List.set_cons_zero, List.set_cons_succ]
      refine wpAnyH_take (i := 10) (v := ?_) (by simp only [List.getElem?_toArray, List.getElem?_cons_zero, List.getElem?_cons_succ]; rfl) (by kernel_rfl) (by kernel_rfl) (by kernel_rfl) (fun _ _ _ h => h) (Or.inl ⟨by rfl, ?_⟩) HS5.out ?_
      rotate_left
      · intro w hSw
        (try dsimp only at hSw)
        obtain ⟨q0_, q1_, q2_⟩ := hSw
        go_simp
        try with_reducible rfl
      try simp only [Act.put, List.setIfInBounds_toArray, List.set_cons_zero, List.set_cons_succ]
      refine wpAnyH_done (by kernel_rfl) ?_ _
      unfold LastQ wpOp
      simp only [List.getElem?_toArray, List.getElem?_cons_zero, List.getElem?_cons_succ]
      rw [if_pos (by rfl)]
      refine Or.inl ?_
      go_simp
      refine NoPanic.normal ?_
      have HNEW : Hid (CuInv W4 C t.bad (.slice s'.a1 s'.n1 s'.c1) s' L (k + 1) fa fc (w5.setCell ⟨C, 2, none⟩ (.slice fa (k + 1) fc))) := by
        refine ⟨block_setCell HX5.out (i := 2) _, ?_, HL5.out.setCell (Nat.le_refl C) _⟩
        rw [HSK.out]
        have r6 := R5.out
        rw [show (pickS s' (L.take k) ++ [(xa, xn, xc)]).map slV = (pickS s' (L.take k)).map slV ++ [.slice xa xn xc] by simp [slV]]
        refine ownsN_other r6 fun q hq => Below.heap_setCell w5 ⟨C, 2, none⟩ _ q (fun e => ?_)
        exact ownsN_notown r6 HX5.out (by decide) (by rw [hq, show q = C from e])
      clear p0 p1 p2 HS0 HSD HS4 HS5 d1 d2 HI1
      go_wp2
      go_roundw
      case rel => exact ⟨k + 1, fa, fc, by omega, by go_num, HNEW.out⟩
      case measure => simp [intOf]; omega
    · obtain rfl : k = m := by omega
      have hz := heap_below HZ4.out hlow
      have HZ5 := Lib.hid hz
      have z0 := cell_of_block hz 0
      have y0 := unfrozen_of_block hz 0
      have z1 := cell_of_block hz 1
      have y1 := unfrozen_of_block hz 1
      have z2 := cell_of_block hz 2
      have y2 := unfrozen_of_block hz 2
      have p0 : wr.cell? ⟨C, 0, none⟩ = some (.int .i64 t.bad) := cell_of_block hI.out.box 0
      have p1 : wr.cell? ⟨C, 1, none⟩ = some (.slice s'.a1 s'.n1 s'.c1) := cell_of_block hI.out.box 1
      have p2 : wr.cell? ⟨C, 2, none⟩ = some (.slice va k vc) := cell_of_block hI.out.box 2
      have HI1 := Lib.hid hI.out
      have HTA : Hid (OwnTA wr W1.heap.size ⟨s'.a1, s'.n1, s'.c1, va, k, vc, pickS s' L⟩ ⟨t.bad, zeroL t.init, L.map fun k => zeroL (t.frames.getD k [])⟩) := by
        have hot := HOT4.out.below hlow
        refine ⟨hot.o1, by simp [HMM.out], by simp [pickS, HMM.out], ?_, fun j hj => ?_⟩
        · have h1 := hI.out.row
          rw [HMM.out, List.take_length, ← HMM.out] at h1
          refine ownsN_base_le h1 ?_
          obtain ⟨F2, k1, k2, k3⟩ := HOT4.out.blk
          have := heap_lt k3
          rw [HCC.out]; omega
        · have hj' : j < L.length := by rw [← HMM.out]; exact hj
          have h1 := HLT.out j (by rw [← HMM.out] at hj'; exact hj')
          have h2 := hot.rows (L.getD j 0) (by rw [show (readT t).frames.length = t.frames.length by simp [readT], ← HNT.out]; exact h1)
          rw [readT_frame] at h2
          have e1 : (pickS s' L).getD j slc0 = s'.ss.getD (L.getD j 0) slc0 := by simp [pickS, List.getD, List.getElem?_eq_getElem hj']
          have e2 : (L.map fun k => zeroL (t.frames.getD k [])).getD j [] = zeroL (t.frames.getD (L.getD j 0) []) := by simp [List.getD, List.getElem?_eq_getElem hj']
          show Row isByte wr W1.heap.size _ (slV ((pickS s' L).getD j slc0)) ((L.map fun k => zeroL (t.frames.getD k [])).getD j []).length (((L.map fun k => zeroL (t.frames.getD k [])).getD j []).map bv)
          rw [e1, e2]
          exact h2
      have HSMX : Hid (TSlots.small ⟨s'.a1, s'.n1, s'.c1, va, k, vc, pickS s' L⟩) := by
        refine ⟨HSM.out.n1, by show k ≤ 1048576; omega, fun x hx => ?_⟩
        obtain ⟨i, hi, rfl⟩ := List.mem_map.1 hx
        have hss : s'.ss.length = n := by rw [HNT.out, HOT4.out.len]; simp [readT]
        obtain ⟨j, hj, rfl⟩ := List.mem_iff_getElem.1 hi
        have h1 := HLT.out j (by rw [HMM.out]; exact hj)
        have e1 : L.getD j 0 = L[j] := by simp [List.getD, List.getElem?_eq_getElem hj]
        rw [e1] at h1
        exact HSM.out.each _ (getD_mem (by rw [hss]; exact h1))
      have HLO2 := Lib.hid (ownsN_below HLO.out hlow)
      have HBW := Lib.hid (ext_trans HB4.out hlow)
      clear hz hlow hI
      go_wp2
      refine bodyPost_ret (v := .tuple #[traceV t.bad ⟨s'.a1, s'.n1, s'.c1, va, k, vc, pickS s' L⟩, .slice la k lc, .int .i64 0]) ?_ rfl ?_
      · have h6 := tri_set_t HZ5.out rfl (.int .i64 t.bad) (.slice s'.a1 s'.n1 s'.c1) (.slice va k vc)
        have g0 := cell_of_block h6 0
        have g1 := cell_of_block h6 1
        have g2 := cell_of_block h6 2
        simp [results, Try.results14, go_sem, g0, g1, g2]
        rfl
      · have h1 := HW1.out
        have h3 := HW3.out
        refine HYES.out _ _ la lc (by trivial) (by trivial) ?_ ?_ HSMX.out (set3_t (w.heap.size + 1 + 1) (by omega) HBW.out)
        · refine (owns_sees_slice (ownsN_other HLO2.out fun q hq => set3_other (w.heap.size + 1 + 1) q ?_ _ _ _)).2
          have := (HLO2.out.lt q hq).1
          omega
        · exact OwnTA.move HTA.out (fun D hD => set3_other (w.heap.size + 1 + 1) D (by omega) _ _ _) (by omega)
end Go.Proofs.Ytgpkghlhlabjcaa
namespace Go.Proofs.Ytgpkghlhlabjcaa
open Go Go.RowKit Go.Joins

theorem Sees.i64_at {w : World} {b off n c : Nat} {L : List Nat} (h : Sees w (some ⟨b, off, .none⟩) n c (L.map iv)) (j : Nat) (hj : j < n) : w.cell? ⟨b, off + j, .none⟩ = some (.int .i64 (L.getD j 0 : Nat)) := by
  have hl : L.length = n := h.lenMap
  rw [(h.cell j hj).2]
  simp [iv, List.getD, List.getElem?_eq_getElem (show j < L.length by omega)]

set_option maxRecDepth 100000 in
set_option maxHeartbeats 1600000 in
/-- The same list twice. -/
theorem ints_any (L : List Nat) (a a' : Option Addr) (n c c' : Nat) (w : World) (h : Sees w a n c (L.map iv)) (h' : Sees w a' n c' (L.map iv)) (hn : n ≤ 1048576) :
    Calls Try.prog 17 #[.slice a n c, .slice a' n c'] w fun e w' => e = .returned (.bool true) ∧ Below w.heap.size w w' := by
  have H := Lib.hid h
  have H' := Lib.hid h'
  clear h h'
  go_enter Try.func17, Try.ntmps17
  go_wp2
  go_loopw [9, 5, 6] (fun i _ _ wr => ∃ k : Nat, k ≤ n ∧ i = .int .i64 k ∧ Hid (Below w.heap.size w wr)) (fun i _ _ _ => n - (intOf i).toNat)
  case atStart => exact ⟨0, Nat.zero_le _, rfl, Below.refl _ _⟩
  case round =>
    obtain ⟨k, hk, rfl, hB⟩ := hrel
    by_cases hlt : k < n
    · obtain ⟨b1, o1, rfl, _⟩ := H.out.addr (show 0 < n by omega)
      obtain ⟨b2, o2, rfl, _⟩ := H'.out.addr (show 0 < n by omega)
      have hc1 := (H.out.below hB.out).i64_at k hlt
      have hc2 := (H'.out.below hB.out).i64_at k hlt
      obtain ⟨x, hx⟩ : ∃ x, x = L.getD k 0 := ⟨_, rfl⟩
      rw [← hx] at hc1 hc2
      have hI1 : ((k : Nat) : Int) < (n : Int) := by omega
      have hI2 : (0 : Int) ≤ (k : Int) := by omega
      have W1 : IntKind.i64.wrap ((k : Int) + 1) = (k : Int) + 1 := IntWalk.i64_in _ (by omega)
      have HB := Lib.hid hB.out
      clear hx hB
      go_wp2
      all_goals (try go_quiet (fail))
      all_goals (try go_wp2)
      all_goals go_roundw
      case rel => exact ⟨k + 1, by omega, by go_num, HB.out⟩
      case measure => simp [intOf]; omega
    · obtain rfl : k = n := by omega
      go_wp2
      go_ret
      exact ⟨rfl, hB.out⟩
end Go.Proofs.Ytgpkghlhlabjcaa
