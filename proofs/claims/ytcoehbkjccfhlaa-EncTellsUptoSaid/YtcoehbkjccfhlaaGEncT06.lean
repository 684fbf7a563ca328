/- Steps of drawn regions; small facts of worlds and rows. -/
import Derived.Test.YtcoehbkjccfhlaaGEncT00
import Derived.Test.YtcoehbkjccfhlaaGEncT01
import Derived.Test.YtcoehbkjccfhlaaGEncT02
import Derived.Test.YtcoehbkjccfhlaaGEncT05
import Derived.Test.YtcoehbkjccfhlaaRows
import Derived.BigQuiet
import Derived.Deep.AppendLies
import Derived.Deep.QuietTactic
import Derived.Deep.RegionLaw
import Derived.Deep.RegionWith
import Derived.KernelRfl
import Derived.Laws.EntriesVeiled
import Derived.Lib.ConvBytes
import Derived.Lib.Hide
import Derived.Lib.SlBytesRow
import Derived.Lib.SmallJoins
import Derived.Shelf.Bytes.SlSmallAll
import Derived.WalkKit
import Derived.WalkLawsBesides
import Derived.WalkSpells
import Derived.Lib.AppendStr
import Derived.Deep.RegionHeld3
import Derived.Laws.Tables
import Derived.Maps.AppendAt
/- inquestref00.Tables, inquestref03.SameTrace: are two traces the same? -/
namespace Go.Proofs.Ytcoehbkjccfhlaa
open Go Go.RowKit Go.Joins

theorem info_tab : (Try.prog.info? 27).map (fun i => (i.zero, i.size, i.bytes)) = some (some (.slice none 0 0), 1, 24) := by kernel_rfl
theorem size_tab : ∀ w, (sizeOf 27).run Try.prog w = .ok 1 w := fun w => by
  obtain ⟨i0, hi, hz0, hz1, hz2⟩ := info_parts info_tab
  simp [sizeOf, typeInfo, hi, hz1]
theorem Sees.slice_at {w : World} {b off n c : Nat} {ss : List Slc} (h : Sees w (some ⟨b, off, .none⟩) n c (ss.map slV)) (j : Nat) (hj : j < n) :
    w.cell? ⟨b, off + j, .none⟩ = some (.slice (ss.getD j slc0).1 (ss.getD j slc0).2.1 (ss.getD j slc0).2.2) := by
  have hl : ss.length = n := h.lenMap
  rw [(h.cell j hj).2]
  simp [slV, List.getD, List.getElem?_eq_getElem (show j < ss.length by omega)]
theorem bytes_at (bs cs : List UInt8) (a a' : Option Addr) (n c n' c' : Nat) (w : World) (h : Sees w a n c (bs.map bv)) (h' : Sees w a' n' c' (cs.map bv)) :
    Calls Try.prog 52 #[.slice a n c, .slice a' n' c'] w fun e w' => e = .returned (.bool (decide (bs = cs))) ∧ w' = w := by
  refine (bytes_any bs cs a a' n c n' c' w h h').mono fun e w' hp => ?_
  obtain ⟨h1, rfl⟩ := hp
  exact ⟨by rw [show decide (bs = cs) = (bs == cs) by by_cases e : bs = cs <;> simp [e]]; exact h1, rfl⟩

/-- Where k lines have been held against each other. -/
structure TabI (w : World) (ss ss' : List Slc) (fs gs : List (List UInt8)) (n k : Nat) (a1 : Option Addr) (c1 : Nat) (a2 : Option Addr) (c2 : Nat) (wr : World) : Prop where
  s1 : Sees wr a1 (n - k) c1 ((ss.drop k).map slV)
  s2 : Sees wr a2 (n - k) c2 ((ss'.drop k).map slV)
  eq : ∀ j, j < k → fs.getD j [] = gs.getD j []
  bel : Below w.heap.size w wr
def slenT : Value → Nat | .slice _ m _ => m | _ => 0

set_option maxRecDepth 100000 in
set_option maxHeartbeats 1600000 in
theorem tables_any (fs gs : List (List UInt8)) (ss ss' : List Slc) (a a' : Option Addr) (n c n' c' : Nat) (w : World) (h : SeesF w a n c ss fs) (h' : SeesF w a' n' c' ss' gs) (hn : n ≤ 1048576) :
    Calls Try.prog 53 #[.slice a n c, .slice a' n' c'] w fun e w' => e = .returned (.bool (decide (fs = gs))) ∧ Below w.heap.size w w' := by
  have hl := h.n_eq
  have hl' := h'.n_eq
  obtain ⟨q, hq⟩ : ∃ q, q = decide (fs = gs) := ⟨_, rfl⟩
  have NO : fs ≠ gs → q = false := fun h => by rw [hq]; simpa using h
  rw [← hq]
  by_cases hne : n = n'
  · subst hne
    have YES : (∀ j, j < n → fs.getD j [] = gs.getD j []) → q = true := fun h => by
      rw [hq, decide_eq_true_eq]
      apply List.ext_getElem (by omega)
      intro i h1 h2
      have := h i (by omega)
      simpa [List.getD, List.getElem?_eq_getElem h1, List.getElem?_eq_getElem h2] using this
    have H := Lib.hid h
    have H' := Lib.hid h'
    have HL := Lib.hid hl
    have HL' := Lib.hid hl'
    have HNO := Lib.hid NO
    have HYES := Lib.hid YES
    clear h h' hl hl' NO YES hq
    go_enter Try.func53, Try.ntmps53
    go_wp2
    go_loopw [0, 1] (fun a b wr => ∃ (k : Nat) (a1 : Option Addr) (c1 : Nat) (a2 : Option Addr) (c2 : Nat), k ≤ n ∧ a = .slice a1 (n - k) c1 ∧ b = .slice a2 (n - k) c2 ∧ Hid (TabI w ss ss' fs gs n k a1 c1 a2 c2 wr))
      (fun a _ _ => slenT a)
    case atStart => exact ⟨0, _, _, _, _, Nat.zero_le _, rfl, rfl, ⟨H.out.row, H'.out.row, fun j hj => absurd hj (by omega), Below.refl _ _⟩⟩
    case round =>
      obtain ⟨k, a1, c1, a2, c2, hk, rfl, rfl, hI⟩ := hrel
      obtain ⟨s1, s2, heq, hbel⟩ := hI.out
      clear hI
      by_cases hlt : k < n
      · obtain ⟨b1, o1, rfl, _⟩ := s1.addr (by omega)
        obtain ⟨b2, o2, rfl, _⟩ := s2.addr (by omega)
        obtain ⟨x, hx⟩ : ∃ x : Slc, x = ss.getD k slc0 := ⟨_, rfl⟩
        obtain ⟨y, hy⟩ : ∃ y : Slc, y = ss'.getD k slc0 := ⟨_, rfl⟩
        have hsx := (H.out.below hbel).each k (by rw [HL.out]; exact hlt)
        have hsy := (H'.out.below hbel).each k (by rw [HL'.out]; exact hlt)
        rw [← hx] at hsx
        rw [← hy] at hsy
        have hc1 : wr.cell? ⟨b1, o1, none⟩ = some (.slice x.1 x.2.1 x.2.2) := by
          have := s1.slice_at 0 (by omega)
          rw [hx, ← show (ss.drop k).getD 0 slc0 = ss.getD k slc0 by simp [List.getD]]
          exact this
        have hc2 : wr.cell? ⟨b2, o2, none⟩ = some (.slice y.1 y.2.1 y.2.2) := by
          have := s2.slice_at 0 (by omega)
          rw [hy, ← show (ss'.drop k).getD 0 slc0 = ss'.getD k slc0 by simp [List.getD]]
          exact this
        obtain ⟨xa, xn, xc⟩ := x
        obtain ⟨ya, yn, yc⟩ := y
        simp only at hsx hsy hc1 hc2
        obtain ⟨p, hp⟩ : ∃ p, p = decide (fs.getD k [] = gs.getD k []) := ⟨_, rfl⟩
        have HCALL : Hid (∀ m, Calls Try.prog 52 #[.slice xa xn xc, .slice ya yn yc] (wr.drewN m) fun e w' => e = .returned (.bool p) ∧ w' = wr.drewN m) := fun m => by
          rw [hp]
          exact bytes_at _ _ xa ya xn xc yn yc (wr.drewN m) (hsx.below (ext_drewN wr m)) (hsy.below (ext_drewN wr m))
        obtain ⟨a3, ec3, see3⟩ := s1.cut 1 (n - k) (by omega) (Nat.le_refl _)
        obtain ⟨a4, ec4, see4⟩ := s2.cut 1 (n - k) (by omega) (Nat.le_refl _)
        have q1 := fun W => (run_from (P := Try.prog) Try.underlying28 size_tab W (some ⟨b1, o1, none⟩) (n - k) c1 1 1 rfl (by omega)).trans (congrArg (fun v => Result.ok v W) ec3)
        have q2 := fun W => (run_from (P := Try.prog) Try.underlying28 size_tab W (some ⟨b2, o2, none⟩) (n - k) c2 1 1 rfl (by omega)).trans (congrArg (fun v => Result.ok v W) ec4)
        have S3 : Hid (Sees wr a3 (n - (k + 1)) (c1 - 1) ((ss.drop (k + 1)).map slV)) := by
          have e : (List.map slV (ss.drop k)).take (n - k) = List.map slV (ss.drop k) := List.take_of_length_le (by rw [s1.len]; exact Nat.le_refl _)
          rw [e, ← List.map_drop, List.drop_drop] at see3
          exact see3
        have S4 : Hid (Sees wr a4 (n - (k + 1)) (c2 - 1) ((ss'.drop (k + 1)).map slV)) := by
          have e : (List.map slV (ss'.drop k)).take (n - k) = List.map slV (ss'.drop k) := List.take_of_length_le (by rw [s2.len]; exact Nat.le_refl _)
          rw [e, ← List.map_drop, List.drop_drop] at see4
          exact see4
        have HP := Lib.hid hp
        have HBL := Lib.hid hbel
        have HEQ := Lib.hid heq
        have hpos : (0 : Int) < ((n - k : Nat) : Int) := by omega
        clear ec3 ec4 see3 see4 hx hy hp heq s1 s2 hsx hsy hbel
        cases p with
        | true =>
          go_wp2
          go_quiet ((go_at_call 52; exact Calls.quiet_of_same (HCALL.out _)))
          go_wp2
          go_quiet (fail)
          go_wp2
          go_roundw
          case rel =>
            refine ⟨k + 1, _, _, _, _, by omega, rfl, rfl, ⟨S3.out.below (ext_trans (ext_drewN _ _) (ext_drewN _ _)), S4.out.below (ext_trans (ext_drewN _ _) (ext_drewN _ _)), fun j hj => ?_, ext_trans HBL.out (ext_trans (ext_drewN _ _) (ext_drewN _ _))⟩⟩
            rcases Nat.lt_or_ge j k with h | h
            · exact HEQ.out j h
            · have : j = k := by omega
              subst this
              exact of_decide_eq_true HP.out.symm
          case measure => simp [slenT]; omega
        | false =>
          have HF : Hid (q = false) := HNO.out fun e => by
            have := HP.out
            rw [e] at this
            simp at this
          go_wp2
          go_quiet ((go_at_call 52; exact Calls.quiet_of_same (HCALL.out _)))
          go_wp2
          go_ret
          exact ⟨by rw [HF.out]; rfl, ext_trans HBL.out (ext_drewN _ _)⟩
      · have hkn : k = n := by omega
        subst hkn
        have HT : Hid (q = true) := HYES.out heq
        have HBL := Lib.hid hbel
        clear heq s1 s2 hbel
        go_wp2
        go_ret
        exact ⟨by rw [HT.out]; rfl, HBL.out⟩
  · have hb : ((n : Int) != (n' : Int)) = true := by simp; omega
    have hb' : ((n : Int) == (n' : Int)) = false := by simp; omega
    have HF : Hid (q = false) := NO fun e => hne (by rw [← hl, ← hl', e])
    clear h h' hl hl' NO hq hne
    go_enter Try.func53, Try.ntmps53
    go_wp2
    go_ret
    exact ⟨by rw [HF.out]; rfl, Below.refl _ _⟩

set_option maxRecDepth 100000 in
set_option maxHeartbeats 1600000 in
theorem sametr_any (t u : TraceC) (s s' : TSlots) (w : World) (h : SeesTr w s t) (h' : SeesTr w s' u) (hs : s.small) (hb1 : -9223372036854775808 ≤ t.bad ∧ t.bad < 9223372036854775808) (hb2 : -9223372036854775808 ≤ u.bad ∧ u.bad < 9223372036854775808) :
    Calls Try.prog 24 #[traceV t.bad s, traceV u.bad s'] w fun e w' => e = .returned (.bool (decide (t = u))) ∧ Below w.heap.size w w' := by
  obtain ⟨a1, n1, c1, a2, n2, c2, ss⟩ := s
  obtain ⟨a1', n1', c1', a2', n2', c2', ss'⟩ := s'
  obtain ⟨z, init, fs⟩ := t
  obtain ⟨z', init', fs'⟩ := u
  have hn2 := hs.n2
  simp only at hn2 hb1 hb2
  obtain ⟨q, hq⟩ : ∃ q, q = decide ((⟨z, init, fs⟩ : TraceC) = ⟨z', init', fs'⟩) := ⟨_, rfl⟩
  have hiff : q = (decide (z = z') && (decide (init = init') && decide (fs = fs'))) := by
    rw [hq]
    by_cases e1 : z = z' <;> by_cases e2 : init = init' <;> by_cases e3 : fs = fs' <;> simp [e1, e2, e3]
  rw [← hq]
  have EB : Hid (∀ W, Below w.heap.size w W → Calls Try.prog 52 #[.slice a1 n1 c1, .slice a1' n1' c1'] W fun e w' => e = .returned (.bool (decide (init = init'))) ∧ w' = W) := fun W hb => bytes_at _ _ a1 a1' n1 c1 n1' c1' W (h.s1.below hb) (h'.s1.below hb)
  have ET : Hid (∀ W, Below w.heap.size w W → Calls Try.prog 53 #[.slice a2 n2 c2, .slice a2' n2' c2'] W fun e w' => e = .returned (.bool (decide (fs = fs'))) ∧ Below W.heap.size W w') := fun W hb => tables_any fs fs' ss ss' a2 a2' n2 c2 n2' c2' W (h.s2.below hb) (h'.s2.below hb) hn2
  obtain ⟨q2, hq2⟩ : ∃ q, q = decide (init = init') := ⟨_, rfl⟩
  obtain ⟨q3, hq3⟩ : ∃ q, q = decide (fs = fs') := ⟨_, rfl⟩
  rw [← hq2] at EB hiff
  rw [← hq3] at ET hiff
  have HI := Lib.hid hiff
  clear hq hq2 hq3 hiff h h' hs
  unfold traceV
  by_cases h0 : z = z'
  case neg =>
    have e0 : (z == z') = false := by simpa using h0
    have HF : Hid (q = false) := by show _ = _; rw [HI.out]; simp [h0]
    clear h0
    go_enter Try.func24, Try.ntmps24
    go_wp2
    go_ret
    exact ⟨by rw [HF.out]; rfl, ext_trans (ext_alloc _ _) (ext_alloc _ _)⟩
  subst h0
  have HQ : Hid (q = (q2 && q3)) := by show _ = _; rw [HI.out]; simp
  clear HI
  go_enter Try.func24, Try.ntmps24
  go_wp2_with fail
  refine (EB.out _ (ext_trans (ext_alloc _ _) (ext_alloc _ _))).mono ?_
  rintro e W1 ⟨rfl, rfl⟩
  cases q2 with
  | false =>
    go_wp2
    go_ret
    exact ⟨by rw [HQ.out]; rfl, ext_trans (ext_alloc _ _) (ext_alloc _ _)⟩
  | true =>
    go_wp2_with fail
    refine (ET.out _ (ext_trans (ext_alloc _ _) (ext_alloc _ _))).mono ?_
    rintro e W2 ⟨rfl, hb⟩
    have HB := Lib.hid (ext_trans (ext_trans (ext_alloc _ _) (ext_alloc _ _)) hb)
    clear hb
    go_wp2
    go_ret
    exact ⟨by rw [HQ.out]; simp, HB.out⟩
end Go.Proofs.Ytcoehbkjccfhlaa
/- append of a string's bytes to a row of the call's own all cells of which are of one kind. -/
namespace Go.Proofs.Ytcoehbkjccfhlaa
open Go Go.RowKit

section
variable {P : Program} (ok : Value → Prop) (w : World)

theorem run_append_row_string (base : Nat) (t u ty e : TypeId) (i : TypeInfo) (ht : P.underlying t = some (.slice e)) (hu : P.underlying u = some .string) (hi : P.info? e = some i) (hz : i.zero = some (.int .u8 0))
    (hsize : i.size = 1) (hby : i.bytes = 1) (hok : ok (.int .u8 0))
    (v : Value) (n : Nat) (xs : List Value) (hown : Row ok w base e v n xs) (s : ByteArray) (hoks : ∀ u ∈ Lib.strCells s, ok u)
    (h63 : n + s.size ≤ maxLen) (hbytes : n + s.size ≤ 140737488355328) (hbase : base ≤ w.heap.size) :
    ∃ v' w', (Builtin.append_ #[t, u] ty #[v, .string s]).run P w = .ok v' w' ∧ Row ok w' base e v' (n + s.size) (xs ++ Lib.strCells s) ∧ w.grownBy w' v.ownBlock ∧ (v' = .slice none 0 0 ↔ v = .slice none 0 0 ∧ s.size = 0) := by
  have hsmall : n + s.size ≤ 9223372036854775807 := by simp only [maxLen] at h63; omega
  have hxl := hown.1
  have hsl := Lib.strCells_length s
  have hlen : (xs ++ Lib.strCells s).length = n + s.size := by rw [List.length_append, hxl, hsl]
  have hz1 : (Value.int IntKind.u8 0).cells = #[.int .u8 0] := rfl
  have grown : ∀ (old : Nat), old < n + s.size → ∀ (row : Option Nat),
      Row ok (w.drew.alloc (.cells (xs.toArray ++ (Lib.strCells s).toArray ++ Builtin.zeroCells (Value.int IntKind.u8 0).cells (grownCap w (n + s.size) old e - (n + s.size))) e)) base e
        (.slice (some ⟨w.heap.size, 0, none⟩) (n + s.size) (grownCap w (n + s.size) old e)) (n + s.size) (xs ++ Lib.strCells s) ∧
      w.grownBy (w.drew.alloc (.cells (xs.toArray ++ (Lib.strCells s).toArray ++ Builtin.zeroCells (Value.int IntKind.u8 0).cells (grownCap w (n + s.size) old e - (n + s.size))) e)) row := by
    intro old ho row
    have hge := grownCap_ge w (n + s.size) old e
    have hcm : grownCap w (n + s.size) old e ≤ maxLen := grownCap_le_maxLen w (n + s.size) old e h63
    have hxo : ∀ u ∈ xs, ok u := by
      intro u hu
      rcases hown.2 with ⟨_, h0⟩ | ⟨g, cap, cur, _, _, _, _, _, _, htake, hall⟩
      · have : xs = [] := List.eq_nil_of_length_eq_zero (by rw [hown.1, h0])
        rw [this] at hu; cases hu
      · rw [← htake] at hu
        exact hall u (List.mem_of_mem_take hu)
    refine ⟨⟨hlen, .inr ⟨w.heap.size, _, _, rfl, hbase, heap_alloc_new w.drew _, hge, hcm, ?_, ?_, ?_⟩⟩, ⟨rfl, rfl, rfl, by simp, fun k hk _ => heap_alloc_old w.drew _ hk⟩⟩
    · simp only [Array.size_append, List.size_toArray, size_zeroCells, hz1, hxl, hsl]
      simp
      omega
    · simp only [Array.toList_append, List.append_assoc]
      rw [← List.append_assoc, ← hlen]
      exact List.take_left
    · intro u hu
      simp only [Array.toList_append, List.mem_append] at hu
      rcases hu with (hu | hu) | hu
      · exact hxo u hu
      · exact hoks u hu
      · rw [mem_zeroCells hz1 hu]; exact hok
  rcases hown.2 with ⟨rfl, rfl⟩ | ⟨g, cap, cur, rfl, hbg, hg, hnc, hcm, hcs, htake, hall⟩
  · have hx : xs = [] := List.eq_nil_of_length_eq_zero hxl
    subst hx
    by_cases hs0 : s.size = 0
    · have hc : Lib.strCells s = [] := List.eq_nil_of_length_eq_zero (by rw [hsl, hs0])
      refine ⟨.slice none 0 0, w, ?_, by rw [hs0, hc]; exact Row.nil ok w base e, ⟨rfl, rfl, rfl, Nat.le_refl _, fun _ _ _ => rfl⟩, by simp [hs0]⟩
      have hf : (Builtin.firstCells 1 0 (.string s)).run P w = .ok #[] w := by
        have := Lib.run_firstCells_string (P := P) w 1 s
        rw [hs0, hc] at this
        exact this
      simp [Builtin.append_, run_underlying ht, run_underlying hu, sizeOf, typeInfo, hi, hsize, Builtin.lenOf, hs0, hf]
    · have hr := run_append_nil_string (P := P) w t u ty e i _ ht hu hi hz s (by omega) (by omega) (by rw [hby]; omega)
      have hgr := grown 0 (by omega) (Value.ownBlock (.slice none 0 0))
      have hcc : (s.data.map (fun b => Value.int .u8 (b.toNat : Int))) = (Lib.strCells s).toArray := by
        apply Array.ext'
        simp [Lib.strCells]
      rw [hcc] at hr
      simp only [Nat.zero_add, List.nil_append, Array.empty_append] at hgr ⊢
      exact ⟨_, _, hr, hgr.1, hgr.2, by simp [hs0]⟩
  · by_cases hroom : n + s.size ≤ cap
    · have hr := Lib.run_append_room_string (P := P) w t u ty e i ht hu hi hsize g n cap cur hg s hroom (by omega)
      refine ⟨_, _, hr, ⟨hlen, .inr ⟨g, cap, _, rfl, hbg, setRow_heap w g cur _ e _ hg, hroom, hcm, ?_, ?_, ?_⟩⟩, ⟨rfl, rfl, rfl, by simp, fun k _ hk => setRow_other w g k _ (fun e => hk (by simp [Value.ownBlock, e]))⟩, by simp⟩
      · simp only [List.size_toArray, List.length_append, List.length_take, List.length_drop, Array.length_toList]
        omega
      · rw [htake, ← hlen]
        exact List.take_left
      · intro u hu
        simp only [List.mem_append] at hu
        rcases hu with (hu | hu) | hu
        · exact hall u (List.mem_of_mem_take hu)
        · exact hoks u hu
        · exact hall u (List.mem_of_mem_drop hu)
    · have holds : ∀ j u, xs[j]? = some u → w.cell? ((⟨g, 0, none⟩ : Addr).add j) = some u := hown.own.cells (g := g) rfl
      have hr := Lib.run_append_grow_string (P := P) w t u ty e i (.int .u8 0) ht hu hi hz ⟨g, 0, none⟩ n cap xs (by rw [hxl, hsize]; omega) holds s (by omega) (by omega) (by rw [hby]; exact growslice_fits (by omega) (by omega))
      have hgr := grown cap (by omega) (Value.ownBlock (.slice (some ⟨g, 0, none⟩) n cap))
      exact ⟨_, _, hr, hgr.1, hgr.2, by simp⟩

theorem wpList_append_row_string {ops : Array Oper} {rest : List Oper} {o : Oper} {a : Act} {Q : Exit → Act → World → Prop} (hgd : o.guard = none) (sl x : Operand) (t u : TypeId)
    (ho : o.op = .call { callee := .builtin .append, args := #[sl, x], argTypes := #[t, u] })
    (base : Nat) (e : TypeId) (i : TypeInfo) (ht : P.underlying t = some (.slice e)) (hu : P.underlying u = some .string) (hi : P.info? e = some i) (hz : i.zero = some (.int .u8 0))
    (hsize : i.size = 1) (hby : i.bytes = 1) (hok : ok (.int .u8 0))
    (v : Value) (n : Nat) (xs : List Value) (hs : a.eval sl = v) (hown : Row ok w base e v n xs) (s : ByteArray) (hx : a.eval x = .string s) (hoks : ∀ u ∈ Lib.strCells s, ok u)
    (h63 : n + s.size ≤ maxLen) (hbytes : n + s.size ≤ 140737488355328) (hbase : base ≤ w.heap.size)
    (h : ∀ v' w', Row ok w' base e v' (n + s.size) (xs ++ Lib.strCells s) → w.grownBy w' v.ownBlock → (v' = .slice none 0 0 ↔ v = .slice none 0 0 ∧ s.size = 0) → wpList P ops Q rest (a.put o.dst v') w') : wpList P ops Q (o :: rest) a w := by
  refine wpList_plain hgd fun K hK => ?_
  obtain ⟨v', w', hr, h2, h3, h4⟩ := run_append_row_string (P := P) ok w base t u o.type e i ht hu hi hz hsize hby hok v n xs hown s hoks h63 hbytes hbase
  unfold Oper.wp execOp
  simp only [ho, resolve, invoke, builtin, Sem.run_bind, Sem.run_pure, Result.andThen_ok, List.map_toArray, List.map_cons, List.map_nil, hs, hx, hr]
  exact hK _ _ (h v' w' h2 h3 h4)
end

/-- A cell that holds a byte. -/
def isByte (u : Value) : Prop := ∃ b : UInt8, u = bv b
theorem isByte_zero : isByte (.int .u8 0) := ⟨0, rfl⟩
theorem isByte_all (bs : List UInt8) : ∀ u ∈ bs.map bv, isByte u := by
  intro u hu
  obtain ⟨x, _, rfl⟩ := List.mem_map.1 hu
  exact ⟨x, rfl⟩
theorem isByte_str (s : ByteArray) : ∀ u ∈ Lib.strCells s, isByte u := by
  intro u hu
  simp only [Lib.strCells, List.mem_map] at hu
  obtain ⟨b, _, rfl⟩ := hu
  exact ⟨b, rfl⟩
theorem strCells_str (bs : List UInt8) : Lib.strCells (str bs) = bs.map bv := by simp [Lib.strCells, str, bv]
theorem size_str (bs : List UInt8) : (str bs).size = bs.length := by simp [str, ByteArray.size]

/-- A string's cell. -/
def sv (l : List UInt8) : Value := .string (str l)
theorem sv_one (ls : List (List UInt8)) : ∀ u ∈ ls.map sv, u.oneCell' = true := by
  intro u hu
  obtain ⟨x, _, rfl⟩ := List.mem_map.1 hu
  rfl
/-- A new block of one cell, as a slice. -/
theorem sees_one (w : World) (x : Value) (e : TypeId) : Sees (w.alloc (.cells #[x] e)) (some ⟨w.heap.size, 0, none⟩) 1 1 [x] := by
  refine ⟨rfl, Nat.le_refl _, (fun e => by cases e), fun _ => ⟨w.heap.size, 0, rfl, by simp, fun j hj => ?_⟩⟩
  have : j = 0 := by omega
  subst this
  rw [World.cell?_alloc_at _ _ _ _ rfl]
  rfl
/-- Anything goes. -/
def anyCell (_ : Value) : Prop := True

end Go.Proofs.Ytcoehbkjccfhlaa
/- slices.ContainsFunc at the closures of raw.May. -/
namespace Go.Proofs.Ytcoehbkjccfhlaa
open Go Go.RowKit Go.Joins

/-- The place of the first one that holds. -/
def firstAt {α : Type} (p : α → Bool) (l : List α) : Int := match l.findIdx? p with | none => -1 | some k => (k : Int)
theorem firstAt_none {α : Type} {p : α → Bool} {l : List α} (h : ∀ x ∈ l, p x = false) : firstAt p l = -1 := by
  have : l.findIdx? p = none := List.findIdx?_eq_none_iff.2 h
  simp [firstAt, this]
theorem any_none {α : Type} {p : α → Bool} {l : List α} (h : ∀ x ∈ l, p x = false) : l.any p = false := by
  rw [List.any_eq_false]; intro x hx; simp [h x hx]

theorem getD_mem {α : Type} {l : List α} {k : Nat} {d : α} (h : k < l.length) : l.getD k d ∈ l := by
  simp [List.getD, List.getElem?_eq_getElem h]
theorem all_of_getD {α : Type} {l : List α} {d : α} {P : α → Prop} (h : ∀ k, k < l.length → P (l.getD k d)) : ∀ x ∈ l, P x := by
  intro x hx
  obtain ⟨k, hk, rfl⟩ := List.getElem_of_mem hx
  have := h k hk
  simpa [List.getD, List.getElem?_eq_getElem hk] using this

def IdxPost {α : Type} (p : α → Bool) (l : List α) (w : World) (e : Ending) (w' : World) : Prop :=
  ∃ z : Int, e = .returned (.int .i64 z) ∧ -1 ≤ z ∧ (0 ≤ z ↔ l.any p = true) ∧ Below w.heap.size w w'

end Go.Proofs.Ytcoehbkjccfhlaa
namespace Go.Proofs.Ytcoehbkjccfhlaa
open Go Go.RowKit Go.Joins
theorem ownsN_other {w w' : World} {base k : Nat} {e : TypeId} {v : Value} {n : Nat} {xs : List Value} (h : w.ownsRow base e k v n xs) (hk : ∀ k, v.ownBlock = some k → w'.heap[k]? = w.heap[k]?) : w'.ownsRow base e k v n xs := by
  refine ⟨h.1, ?_⟩
  rcases h.2 with h2 | ⟨g, cap, cur, rfl, hg, hh, r⟩
  · exact .inl h2
  · exact .inr ⟨g, cap, cur, rfl, hg, (hk g rfl).trans hh, r⟩
theorem below_step {B : Nat} {a b c : World} (h : Below B a b) (k : Below b.heap.size b c) (hs : B ≤ b.heap.size) : Below B a c := h.trans (k.mono hs)
theorem heap_newD (X : World) (o : Obj) : (X.alloc o).drew.heap[X.heap.size]? = some o := heap_new X o _ rfl
/-- A struct is stored into its own block, at a step of a region that draws its order. -/
theorem step_store_row {P : Program} {ops : Array Oper} {o : Oper} {a : Act} {w : World} {K : Act → World → Prop} {Q : Exit → Act → World → Prop} {E : Prop} (hgd : o.guard = none) {ty : TypeId} (x y : Operand) (ho : o.op = .store ty x y)
    (g : Nat) (cells : Array Value) (hx : a.eval x = .pointer (some ⟨g, 0, none⟩)) (hy : a.eval y = .agg cells) {t : TypeId} {old : Array Value} (hg : w.heap[g]? = some (.cells old t (0, 0))) (hi : (P.info? ty).map (·.size) = some cells.size)
    (hold : old.size = cells.size) (h1 : cells.all (·.oneCell') = true) (h : K (a.put o.dst undef) (w.setRow g cells)) :
    if Region.wanted o (yielded ops a.tmps) = true then Oper.wp P o a w K Q else E := by
  have hw : Region.wanted o (yielded ops a.tmps) = true := by simp [Region.wanted, hgd]
  rw [if_pos hw]
  exact wp_store_row ty x y ho g cells hx hy t old hg hi hold h1 h
theorem step_append_own_at {P : Program} {ops : Array Oper} {o : Oper} {a : Act} {w : World} {K : Act → World → Prop} {Q : Exit → Act → World → Prop} {E : Prop} (hgd : o.guard = none) (s x : Operand) (t : TypeId)
    (ho : o.op = .call { callee := .builtin .append, args := #[s, x], argTypes := #[t, t] })
    (base : Nat) (e : TypeId) (i : TypeInfo) (z : Value) (size bytes : Nat) (ht : P.underlying t = some (.slice e)) (hi : P.info? e = some i) (hz : i.zero = some z)
    (hsize : i.size = size) (hby : i.bytes = bytes) (hzs : z.cells.size = size) (hsz : 0 < size)
    (v : Value) (n : Nat) (xs : List Value) (hs : a.eval s = v) (hown : w.ownsRow base e size v n xs)
    (ad : Addr) (m c : Nat) (news : List Value) (hx : a.eval x = .slice (some ad) m c) (hl : news.length = m * size) (hnews : ∀ j u, news[j]? = some u → w.cell? (ad.add j) = some u) (h1 : ∀ u ∈ news, u.oneCell' = true)
    (h63 : n + m ≤ maxLen) (hbytes : (n + m) * bytes ≤ 140737488355328) (hbase : base ≤ w.heap.size)
    (h : ∀ v' w', w'.ownsRow base e size v' (n + m) (xs ++ news) → w.grownBy w' v.ownBlock → K (a.put o.dst v') w') :
    if Region.wanted o (yielded ops a.tmps) = true then Oper.wp P o a w K Q else E := by
  have hw : Region.wanted o (yielded ops a.tmps) = true := by simp [Region.wanted, hgd]
  rw [if_pos hw]
  obtain ⟨v', w', hr, h2, h3, _⟩ := run_append_own_at (P := P) w base t o.type e i z size bytes ht hi hz hsize hby hzs hsz v n xs hown ad m c news hl hnews h1 h63 hbytes hbase
  unfold Oper.wp execOp
  simp only [ho, resolve, invoke, builtin, Sem.run_bind, Sem.run_pure, Result.andThen_ok, List.map_toArray, List.map_cons, List.map_nil, hs, hx, hr]
  exact h v' w' h2 h3
theorem row_grown {ok : Value → Prop} {w w' : World} {base : Nat} {e : TypeId} {v : Value} {n : Nat} {xs : List Value} (h : Row ok w base e v n xs) {base2 k m : Nat} {T : TypeId} {u : Value} {ys : List Value} (hr : w.ownsRow base2 T k u m ys) (hg : w.grownBy w' u.ownBlock) (ht : e ≠ T) : Row ok w' base e v n xs := by
  refine h.other fun j hj => ?_
  have hlt := (h.own.lt j hj).2
  refine hg.block j hlt ?_
  intro e'
  rcases h.2 with ⟨rfl, _⟩ | ⟨g, cap, cur, rfl, _, hh, _⟩
  · cases hj
  · have : g = j := by simpa [Value.ownBlock] using hj
    subst this
    exact (ownsN_notown hr hh ht) e'.symm
theorem owns_grown {w w' : World} {base kk : Nat} {e : TypeId} {v : Value} {n : Nat} {xs : List Value} (h : w.ownsRow base e kk v n xs) {base2 k m : Nat} {T : TypeId} {u : Value} {ys : List Value} (hr : w.ownsRow base2 T k u m ys) (hg : w.grownBy w' u.ownBlock) (ht : e ≠ T) : w'.ownsRow base e kk v n xs := by
  refine ownsN_other h fun j hj => ?_
  have hlt := (h.lt j hj).2
  refine hg.block j hlt ?_
  intro e'
  rcases h.2 with ⟨rfl, _⟩ | ⟨g, cap, cur, rfl, _, hh, _⟩
  · cases hj
  · have : g = j := by simpa [Value.ownBlock] using hj
    subst this
    exact (ownsN_notown hr hh ht) e'.symm
/-- Below base nothing has turned but U and T. -/
structure But2 (base U T : Nat) (w w' : World) : Prop where
  os : w'.os = w.os
  tape : w'.tape = w.tape
  output : w'.output = w.output
  size : w.heap.size ≤ w'.heap.size
  block : ∀ D, D < base → D ≠ U → D ≠ T → w'.heap[D]? = w.heap[D]?
theorem But2.refl (base U T : Nat) (w : World) : But2 base U T w w := ⟨rfl, rfl, rfl, Nat.le_refl _, fun _ _ _ _ => rfl⟩
theorem But2.trans {base U T : Nat} {a b c : World} (h : But2 base U T a b) (k : But2 base U T b c) : But2 base U T a c :=
  ⟨k.os.trans h.os, k.tape.trans h.tape, k.output.trans h.output, Nat.le_trans h.size k.size, fun D h1 h2 h3 => (k.block D h1 h2 h3).trans (h.block D h1 h2 h3)⟩
theorem But2.of_below {base U T : Nat} {w w' : World} (h : Below base w w') : But2 base U T w w' := ⟨h.os, h.tape, h.output, h.size, fun D h1 _ _ => h.block D h1⟩
theorem But2.low {base U T B : Nat} {w w' : World} (h : But2 base U T w w') (hB : B ≤ base) (hU : B ≤ U) (hT : B ≤ T) : Below B w w' :=
  ⟨h.os, h.tape, h.output, h.size, fun D hD => h.block D (by omega) (by omega) (by omega)⟩
theorem But2.at {base U T : Nat} {w w' : World} (h : But2 base U T w w') {D : Nat} {o : Obj} (hD : w.heap[D]? = some o) (h1 : D < base) (h2 : D ≠ U) (h3 : D ≠ T) : w'.heap[D]? = some o := (h.block D h1 h2 h3).trans hD
theorem below_undrew {w w' : World} (h : Below w.drew.heap.size w.drew w') : Below w.heap.size w w' := (Below.refl _ w).drew.trans h
theorem cell_set6 {w : World} {G b k : Nat} {v u0 u1 u2 u3 u4 u5 : Value} (h : w.cell? ⟨b, k, none⟩ = some v) (hne : b ≠ G) :
    ((((((w.setCell ⟨G, 0, .none⟩ u0).setCell ⟨G, 1, .none⟩ u1).setCell ⟨G, 2, .none⟩ u2).setCell ⟨G, 3, .none⟩ u3).setCell ⟨G, 4, .none⟩ u4).setCell ⟨G, 5, .none⟩ u5).cell? ⟨b, k, none⟩ = some v := by
  have ne : ∀ j, (⟨G, j, none⟩ : Addr) ≠ ⟨b, k, none⟩ := fun j e => hne (by cases e; rfl)
  rw [World.cell?_setCell_other _ _ _ _ (ne 5), World.cell?_setCell_other _ _ _ _ (ne 4), World.cell?_setCell_other _ _ _ _ (ne 3), World.cell?_setCell_other _ _ _ _ (ne 2), World.cell?_setCell_other _ _ _ _ (ne 1), World.cell?_setCell_other _ _ _ _ (ne 0)]
  exact h
theorem cell_drew {w : World} {a : Addr} {v : Value} (h : w.cell? a = some v) : w.drew.cell? a = some v := h
theorem cell_row {w : World} {G b k : Nat} {v : Value} {C : Array Value} (h : w.cell? ⟨b, k, none⟩ = some v) (hne : b ≠ G) : (w.setRow G C).cell? ⟨b, k, none⟩ = some v := by
  have one : (w.setRow G C).cell? ⟨b, k, none⟩ = w.cell? ⟨b, k, none⟩ := World.cell?_of_block (setRow_other w G b C hne)
  exact one.trans h
/-- Cells of numbers. -/
def ncells (t : List Nat) : Array Value := (t.map nv32).toArray
theorem ncells_get (t : List Nat) (i : Nat) (h : i < t.length) : (ncells t)[i]? = some (.int .u32 (t.getD i 0 : Nat)) := by
  simp [ncells, nv32, List.getD, List.getElem?_eq_getElem h]
theorem ncells_set (t : List Nat) (i x : Nat) : (ncells t).setIfInBounds i (.int .u32 x) = ncells (t.set i x) := by
  apply Array.ext'
  simp [ncells, nv32]
theorem ncells_zero (m : Nat) : zeros (.int .u32 0) m = ncells (List.replicate m 0) := by
  simp [zeros, ncells, nv32]
theorem run_make_u32 {P : Program} {t e : TypeId} {i : TypeInfo} {z : Value} {bytes : Nat} (ht : P.underlying t = some (.slice e)) (hi : P.info? e = some i) (hz : i.zero = some z)
    (hsize : i.size = 1) (hby : i.bytes = bytes) (hzs : z.cells = #[z]) (m : Nat) (y : Int) (hy : y = (m : Int)) (hb : (bytes : Int) * (m : Int) ≤ 281474976710656) (hm : m ≤ 1000000000000) (W : World) :
    (Instr.makeSlice t (.int .u32 y) (.int .u32 y)).run P W = .ok (.slice (some ⟨W.heap.size, 0, none⟩) m m) (W.alloc (.cells (zeros z m) e)) := by
  subst hy
  have h := run_make (P := P) W t e i z ht hi hz .u32 .u32 (m : Int) (m : Int) (by omega) (Int.le_refl _) (by rw [hby]; exact hb) (by omega)
  rw [h, hzs, hsize, Int.toNat_natCast, Nat.mul_one]
  have e : madeCells #[z] m = zeros z m := by
    apply Array.ext'
    rw [toList_madeCells_one]; simp [zeros]
  rw [e]
end Go.Proofs.Ytcoehbkjccfhlaa
