/- ConeTells returns true for every circuit, literals, trace, bad literal and number of frames where what it reads is of bulk at most 1048576: what counts is the document's. Condition: the bound. -/
import Derived.Test.YtdheldhecimfnaaLib
import Derived.Test.YtdheldhecimfnaaNBase
import Derived.Test.YtdheldhecimfnaaNTrace
import Derived.Test.YtdheldhecimfnaaBytes
import Derived.Test.YtdheldhecimfnaaRows
import Derived.BigQuiet
import Derived.Deep.AppendLies
import Derived.Deep.QuietTactic
import Derived.Deep.RegionLaw
import Derived.Deep.RegionWith
import Derived.KernelRfl
import Derived.Laws.EntriesVeiled
import Derived.Lib.ConvBytes
import Derived.Lib.Hide
import Derived.Lib.SlBytesRow
import Derived.Lib.SmallJoins
import Derived.Shelf.Bytes.SlSmallAll
import Derived.WalkKit
import Derived.WalkLawsBesides
import Derived.WalkSpells
import Derived.Test.YtdheldhecimfnaaCnB
import Derived.Test.YtdheldhecimfnaaCnA
import Derived.Test.YtdheldhecimfnaaCnBools
import Derived.Test.YtdheldhecimfnaaCnT
import Derived.Deep.CutRange
import Derived.Test.YtdheldhecimfnaaNOpen
import Derived.Test.YtdheldhecimfnaaNOpenC
import Derived.Test.YtdheldhecimfnaaPost0
import Derived.Test.YtdheldhecimfnaaPost
import Derived.JoinedCond
/- inquestref00.Tables, inquestref03.SameTrace: are two traces the same? -/
namespace Go.Proofs.Ytdheldhecimfnaa
open Go Go.RowKit Go.Joins

theorem info_tab : (Try.prog.info? 27).map (fun i => (i.zero, i.size, i.bytes)) = some (some (.slice none 0 0), 1, 24) := by kernel_rfl
theorem size_tab : ∀ w, (sizeOf 27).run Try.prog w = .ok 1 w := fun w => by
  obtain ⟨i0, hi, hz0, hz1, hz2⟩ := info_parts info_tab
  simp [sizeOf, typeInfo, hi, hz1]
theorem Sees.slice_at {w : World} {b off n c : Nat} {ss : List Slc} (h : Sees w (some ⟨b, off, .none⟩) n c (ss.map slV)) (j : Nat) (hj : j < n) :
    w.cell? ⟨b, off + j, .none⟩ = some (.slice (ss.getD j slc0).1 (ss.getD j slc0).2.1 (ss.getD j slc0).2.2) := by
  have hl : ss.length = n := h.lenMap
  rw [(h.cell j hj).2]
  simp [slV, List.getD, List.getElem?_eq_getElem (show j < ss.length by omega)]
theorem bytes_at (bs cs : List UInt8) (a a' : Option Addr) (n c n' c' : Nat) (w : World) (h : Sees w a n c (bs.map bv)) (h' : Sees w a' n' c' (cs.map bv)) :
    Calls Try.prog 40 #[.slice a n c, .slice a' n' c'] w fun e w' => e = .returned (.bool (decide (bs = cs))) ∧ w' = w := by
  refine (bytes_any bs cs a a' n c n' c' w h h').mono fun e w' hp => ?_
  obtain ⟨h1, rfl⟩ := hp
  exact ⟨by rw [show decide (bs = cs) = (bs == cs) by by_cases e : bs = cs <;> simp [e]]; exact h1, rfl⟩

/-- Where k lines have been held against each other. -/
structure TabI (w : World) (ss ss' : List Slc) (fs gs : List (List UInt8)) (n k : Nat) (a1 : Option Addr) (c1 : Nat) (a2 : Option Addr) (c2 : Nat) (wr : World) : Prop where
  s1 : Sees wr a1 (n - k) c1 ((ss.drop k).map slV)
  s2 : Sees wr a2 (n - k) c2 ((ss'.drop k).map slV)
  eq : ∀ j, j < k → fs.getD j [] = gs.getD j []
  bel : Below w.heap.size w wr
def slenT : Value → Nat | .slice _ m _ => m | _ => 0

set_option maxRecDepth 100000 in
set_option maxHeartbeats 1600000 in
theorem tables_any (fs gs : List (List UInt8)) (ss ss' : List Slc) (a a' : Option Addr) (n c n' c' : Nat) (w : World) (h : SeesF w a n c ss fs) (h' : SeesF w a' n' c' ss' gs) (hn : n ≤ 1048576) :
    Calls Try.prog 41 #[.slice a n c, .slice a' n' c'] w fun e w' => e = .returned (.bool (decide (fs = gs))) ∧ Below w.heap.size w w' := by
  have hl := h.n_eq
  have hl' := h'.n_eq
  obtain ⟨q, hq⟩ : ∃ q, q = decide (fs = gs) := ⟨_, rfl⟩
  have NO : fs ≠ gs → q = false := fun h => by rw [hq]; simpa using h
  rw [← hq]
  by_cases hne : n = n'
  · subst hne
    have YES : (∀ j, j < n → fs.getD j [] = gs.getD j []) → q = true := fun h => by
      rw [hq, decide_eq_true_eq]
      apply List.ext_getElem (by omega)
      intro i h1 h2
      have := h i (by omega)
      simpa [List.getD, List.getElem?_eq_getElem h1, List.getElem?_eq_getElem h2] using this
    have H := Lib.hid h
    have H' := Lib.hid h'
    have HL := Lib.hid hl
    have HL' := Lib.hid hl'
    have HNO := Lib.hid NO
    have HYES := Lib.hid YES
    clear h h' hl hl' NO YES hq
    go_enter Try.func41, Try.ntmps41
    go_wp2
    go_loopw [0, 1] (fun a b wr => ∃ (k : Nat) (a1 : Option Addr) (c1 : Nat) (a2 : Option Addr) (c2 : Nat), k ≤ n ∧ a = .slice a1 (n - k) c1 ∧ b = .slice a2 (n - k) c2 ∧ Hid (TabI w ss ss' fs gs n k a1 c1 a2 c2 wr))
      (fun a _ _ => slenT a)
    case atStart => exact ⟨0, _, _, _, _, Nat.zero_le _, rfl, rfl, ⟨H.out.row, H'.out.row, fun j hj => absurd hj (by omega), Below.refl _ _⟩⟩
    case round =>
      obtain ⟨k, a1, c1, a2, c2, hk, rfl, rfl, hI⟩ := hrel
      obtain ⟨s1, s2, heq, hbel⟩ := hI.out
      clear hI
      by_cases hlt : k < n
      · obtain ⟨b1, o1, rfl, _⟩ := s1.addr (by omega)
        obtain ⟨b2, o2, rfl, _⟩ := s2.addr (by omega)
        obtain ⟨x, hx⟩ : ∃ x : Slc, x = ss.getD k slc0 := ⟨_, rfl⟩
        obtain ⟨y, hy⟩ : ∃ y : Slc, y = ss'.getD k slc0 := ⟨_, rfl⟩
        have hsx := (H.out.below hbel).each k (by rw [HL.out]; exact hlt)
        have hsy := (H'.out.below hbel).each k (by rw [HL'.out]; exact hlt)
        rw [← hx] at hsx
        rw [← hy] at hsy
        have hc1 : wr.cell? ⟨b1, o1, none⟩ = some (.slice x.1 x.2.1 x.2.2) := by
          have := s1.slice_at 0 (by omega)
          rw [hx, ← show (ss.drop k).getD 0 slc0 = ss.getD k slc0 by simp [List.getD]]
          exact this
        have hc2 : wr.cell? ⟨b2, o2, none⟩ = some (.slice y.1 y.2.1 y.2.2) := by
          have := s2.slice_at 0 (by omega)
          rw [hy, ← show (ss'.drop k).getD 0 slc0 = ss'.getD k slc0 by simp [List.getD]]
          exact this
        obtain ⟨xa, xn, xc⟩ := x
        obtain ⟨ya, yn, yc⟩ := y
        simp only at hsx hsy hc1 hc2
        obtain ⟨p, hp⟩ : ∃ p, p = decide (fs.getD k [] = gs.getD k []) := ⟨_, rfl⟩
        have HCALL : Hid (∀ m, Calls Try.prog 40 #[.slice xa xn xc, .slice ya yn yc] (wr.drewN m) fun e w' => e = .returned (.bool p) ∧ w' = wr.drewN m) := fun m => by
          rw [hp]
          exact bytes_at _ _ xa ya xn xc yn yc (wr.drewN m) (hsx.below (ext_drewN wr m)) (hsy.below (ext_drewN wr m))
        obtain ⟨a3, ec3, see3⟩ := s1.cut 1 (n - k) (by omega) (Nat.le_refl _)
        obtain ⟨a4, ec4, see4⟩ := s2.cut 1 (n - k) (by omega) (Nat.le_refl _)
        have q1 := fun W => (run_from (P := Try.prog) Try.underlying28 size_tab W (some ⟨b1, o1, none⟩) (n - k) c1 1 1 rfl (by omega)).trans (congrArg (fun v => Result.ok v W) ec3)
        have q2 := fun W => (run_from (P := Try.prog) Try.underlying28 size_tab W (some ⟨b2, o2, none⟩) (n - k) c2 1 1 rfl (by omega)).trans (congrArg (fun v => Result.ok v W) ec4)
        have S3 : Hid (Sees wr a3 (n - (k + 1)) (c1 - 1) ((ss.drop (k + 1)).map slV)) := by
          have e : (List.map slV (ss.drop k)).take (n - k) = List.map slV (ss.drop k) := List.take_of_length_le (by rw [s1.len]; exact Nat.le_refl _)
          rw [e, ← List.map_drop, List.drop_drop] at see3
          exact see3
        have S4 : Hid (Sees wr a4 (n - (k + 1)) (c2 - 1) ((ss'.drop (k + 1)).map slV)) := by
          have e : (List.map slV (ss'.drop k)).take (n - k) = List.map slV (ss'.drop k) := List.take_of_length_le (by rw [s2.len]; exact Nat.le_refl _)
          rw [e, ← List.map_drop, List.drop_drop] at see4
          exact see4
        have HP := Lib.hid hp
        have HBL := Lib.hid hbel
        have HEQ := Lib.hid heq
        have hpos : (0 : Int) < ((n - k : Nat) : Int) := by omega
        clear ec3 ec4 see3 see4 hx hy hp heq s1 s2 hsx hsy hbel
        cases p with
        | true =>
          go_wp2
          go_quiet ((go_at_call 40; exact Calls.quiet_of_same (HCALL.out _)))
          go_wp2
          go_quiet (fail)
          go_wp2
          go_roundw
          case rel =>
            refine ⟨k + 1, _, _, _, _, by omega, rfl, rfl, ⟨S3.out.below (ext_trans (ext_drewN _ _) (ext_drewN _ _)), S4.out.below (ext_trans (ext_drewN _ _) (ext_drewN _ _)), fun j hj => ?_, ext_trans HBL.out (ext_trans (ext_drewN _ _) (ext_drewN _ _))⟩⟩
            rcases Nat.lt_or_ge j k with h | h
            · exact HEQ.out j h
            · have : j = k := by omega
              subst this
              exact of_decide_eq_true HP.out.symm
          case measure => simp [slenT]; omega
        | false =>
          have HF : Hid (q = false) := HNO.out fun e => by
            have := HP.out
            rw [e] at this
            simp at this
          go_wp2
          go_quiet ((go_at_call 40; exact Calls.quiet_of_same (HCALL.out _)))
          go_wp2
          go_ret
          exact ⟨by rw [HF.out]; rfl, ext_trans HBL.out (ext_drewN _ _)⟩
      · have hkn : k = n := by omega
        subst hkn
        have HT : Hid (q = true) := HYES.out heq
        have HBL := Lib.hid hbel
        clear heq s1 s2 hbel
        go_wp2
        go_ret
        exact ⟨by rw [HT.out]; rfl, HBL.out⟩
  · have hb : ((n : Int) != (n' : Int)) = true := by simp; omega
    have hb' : ((n : Int) == (n' : Int)) = false := by simp; omega
    have HF : Hid (q = false) := NO fun e => hne (by rw [← hl, ← hl', e])
    clear h h' hl hl' NO hq hne
    go_enter Try.func41, Try.ntmps41
    go_wp2
    go_ret
    exact ⟨by rw [HF.out]; rfl, Below.refl _ _⟩

set_option maxRecDepth 100000 in
set_option maxHeartbeats 1600000 in
theorem sametr_any (t u : TraceC) (s s' : TSlots) (w : World) (h : SeesTr w s t) (h' : SeesTr w s' u) (hs : s.small) (hb1 : -9223372036854775808 ≤ t.bad ∧ t.bad < 9223372036854775808) (hb2 : -9223372036854775808 ≤ u.bad ∧ u.bad < 9223372036854775808) :
    Calls Try.prog 18 #[traceV t.bad s, traceV u.bad s'] w fun e w' => e = .returned (.bool (decide (t = u))) ∧ Below w.heap.size w w' := by
  obtain ⟨a1, n1, c1, a2, n2, c2, ss⟩ := s
  obtain ⟨a1', n1', c1', a2', n2', c2', ss'⟩ := s'
  obtain ⟨z, init, fs⟩ := t
  obtain ⟨z', init', fs'⟩ := u
  have hn2 := hs.n2
  simp only at hn2 hb1 hb2
  obtain ⟨q, hq⟩ : ∃ q, q = decide ((⟨z, init, fs⟩ : TraceC) = ⟨z', init', fs'⟩) := ⟨_, rfl⟩
  have hiff : q = (decide (z = z') && (decide (init = init') && decide (fs = fs'))) := by
    rw [hq]
    by_cases e1 : z = z' <;> by_cases e2 : init = init' <;> by_cases e3 : fs = fs' <;> simp [e1, e2, e3]
  rw [← hq]
  have EB : Hid (∀ W, Below w.heap.size w W → Calls Try.prog 40 #[.slice a1 n1 c1, .slice a1' n1' c1'] W fun e w' => e = .returned (.bool (decide (init = init'))) ∧ w' = W) := fun W hb => bytes_at _ _ a1 a1' n1 c1 n1' c1' W (h.s1.below hb) (h'.s1.below hb)
  have ET : Hid (∀ W, Below w.heap.size w W → Calls Try.prog 41 #[.slice a2 n2 c2, .slice a2' n2' c2'] W fun e w' => e = .returned (.bool (decide (fs = fs'))) ∧ Below W.heap.size W w') := fun W hb => tables_any fs fs' ss ss' a2 a2' n2 c2 n2' c2' W (h.s2.below hb) (h'.s2.below hb) hn2
  obtain ⟨q2, hq2⟩ : ∃ q, q = decide (init = init') := ⟨_, rfl⟩
  obtain ⟨q3, hq3⟩ : ∃ q, q = decide (fs = fs') := ⟨_, rfl⟩
  rw [← hq2] at EB hiff
  rw [← hq3] at ET hiff
  have HI := Lib.hid hiff
  clear hq hq2 hq3 hiff h h' hs
  unfold traceV
  by_cases h0 : z = z'
  case neg =>
    have e0 : (z == z') = false := by simpa using h0
    have HF : Hid (q = false) := by show _ = _; rw [HI.out]; simp [h0]
    clear h0
    go_enter Try.func18, Try.ntmps18
    go_wp2
    go_ret
    exact ⟨by rw [HF.out]; rfl, ext_trans (ext_alloc _ _) (ext_alloc _ _)⟩
  subst h0
  have HQ : Hid (q = (q2 && q3)) := by show _ = _; rw [HI.out]; simp
  clear HI
  go_enter Try.func18, Try.ntmps18
  go_wp2_with fail
  refine (EB.out _ (ext_trans (ext_alloc _ _) (ext_alloc _ _))).mono ?_
  rintro e W1 ⟨rfl, rfl⟩
  cases q2 with
  | false =>
    go_wp2
    go_ret
    exact ⟨by rw [HQ.out]; rfl, ext_trans (ext_alloc _ _) (ext_alloc _ _)⟩
  | true =>
    go_wp2_with fail
    refine (ET.out _ (ext_trans (ext_alloc _ _) (ext_alloc _ _))).mono ?_
    rintro e W2 ⟨rfl, hb⟩
    have HB := Lib.hid (ext_trans (ext_trans (ext_alloc _ _) (ext_alloc _ _)) hb)
    clear hb
    go_wp2
    go_ret
    exact ⟨by rw [HQ.out]; simp, HB.out⟩
end Go.Proofs.Ytdheldhecimfnaa
/- The law ConeTells, walked. -/
namespace Go.Proofs.Ytdheldhecimfnaa
open Go Go.RowKit Go.Joins

/-- What marks, and which error, are asked for. -/
def OfR (nd : Nat → Nat × Nat) (c : NormC) (lits : List Nat) (M : List Bool) (er : Int) : Prop := (toldB c lits = false ∧ M = [] ∧ er = 2) ∨ (toldB c lits = true ∧ IsCone nd lits (1 + varsN c) M ∧ er = 0)
theorem OfR.uniq {nd : Nat → Nat × Nat} {c : NormC} {lits : List Nat} {M M' : List Bool} {er er' : Int} (h : OfR nd c lits M er) (h' : OfR nd c lits M' er') : M' = M ∧ er' = er := by
  rcases h with ⟨h1, rfl, rfl⟩ | ⟨h1, h2, rfl⟩ <;> rcases h' with ⟨h3, rfl, rfl⟩ | ⟨h3, h4, rfl⟩
  · exact ⟨rfl, rfl⟩
  · rw [h1] at h3; cases h3
  · rw [h1] at h3; cases h3
  · exact ⟨h4.uniq h2, rfl⟩
theorem OfPost.sees {nd : Nat → Nat × Nat} {c : NormC} {lits : List Nat} {w : World} {e : Ending} {w' : World} (h : OfPost nd c lits w e w') : ∃ (a : Option Addr) (n : Nat) (er : Int) (M : List Bool), e = .returned (.tuple #[.slice a n n, .int .i64 er]) ∧ OfR nd c lits M er ∧ Sees w' a n n (M.map Value.bool) ∧ n ≤ 1000000 ∧ Below w.heap.size w w' := by
  rcases h with ⟨h1, h2, h3⟩ | ⟨h1, M, g, h2, h3, h4, h5, h6⟩
  · exact ⟨none, 0, 2, [], h2, .inl ⟨h1, rfl, rfl⟩, Sees.nil _ _ _ (fun _ => rfl), Nat.zero_le _, h3⟩
  · have := (toldB_iff.1 h1).1.few
    exact ⟨some ⟨g, 0, none⟩, 1 + varsN c, 0, M, h2, .inr ⟨h1, h3, rfl⟩, sees_bcells h4 h3.len, by omega, h6⟩
/-- What frames, and which error, are asked for. -/
def FrR (c : NormC) (bad frames : Int) (n : Nat) (ms : List (List Bool)) (er : Int) : Prop := (frOk c bad frames = false ∧ n = 0 ∧ er = 2) ∨ (frOk c bad frames = true ∧ frames = (n : Int) ∧ er = 0 ∧ IsFr c bad.toNat n ms)
theorem FrR.uniq {c : NormC} {bad frames : Int} {n n' : Nat} {ms ms' : List (List Bool)} {er er' : Int} (h : FrR c bad frames n ms er) (h' : FrR c bad frames n' ms' er') : n' = n ∧ er' = er ∧ (0 < n → ms' = ms) := by
  rcases h with ⟨h1, rfl, rfl⟩ | ⟨h1, h2, rfl, h5⟩ <;> rcases h' with ⟨h3, rfl, rfl⟩ | ⟨h3, h4, rfl, h6⟩
  · exact ⟨rfl, rfl, fun h => absurd h (by omega)⟩
  · rw [h1] at h3; cases h3
  · rw [h1] at h3; cases h3
  · obtain rfl : n' = n := by omega
    exact ⟨rfl, rfl, fun _ => h6.uniq h5⟩
/-- A list of rows of marks is read so. -/
def RowsR (W : World) (a : Option Addr) (n N : Nat) (ms : List (List Bool)) : Prop := ∀ f, f < n → ∃ F G, a = some ⟨F, 0, none⟩ ∧ W.cell? ⟨F, f, none⟩ = some (.slice (some ⟨G, 0, none⟩) N N) ∧ W.heap[G]? = some (.cells (bcells (ms.getD f [])) 4 (0, 0)) ∧ (ms.getD f []).length = N
theorem RowsR.below {W W' : World} {a : Option Addr} {n N : Nat} {ms : List (List Bool)} (h : RowsR W a n N ms) (hb : Below W.heap.size W W') : RowsR W' a n N ms := fun f hf => by
  obtain ⟨F, G, h1, h2, h3, h4⟩ := h f hf
  exact ⟨F, G, h1, cell_below h2 hb, heap_below h3 hb, h4⟩
theorem FrPost.sees {c : NormC} {bad frames : Int} {w : World} {e : Ending} {w' : World} (h : FrPost c bad frames w e w') : ∃ (a : Option Addr) (n : Nat) (er : Int) (ms : List (List Bool)), e = .returned (.tuple #[.slice a n n, .int .i64 er]) ∧ FrR c bad frames n ms er ∧ RowsR w' a n (1 + varsN c) ms ∧ n ≤ 256 ∧ Below w.heap.size w w' := by
  rcases h with ⟨h1, h2, h3⟩ | ⟨h1, ms, G, F, n, h2, h3, h4, h5, h6, h7, h8⟩
  · exact ⟨none, 0, 2, [], h2, .inl ⟨h1, rfl, rfl⟩, fun f hf => absurd hf (by omega), Nat.zero_le _, h3⟩
  · refine ⟨some ⟨F, 0, none⟩, n, 0, ms, h3, .inr ⟨h1, h2, rfl, h4⟩, fun f hf => ⟨F, G f, rfl, ?_, (h6 f hf).1, (h4.cone f hf).len⟩, ?_, h8⟩
    · have := (cell_of_block h5 f).trans (fcells_get _ _ _ hf)
      rw [if_pos (Nat.zero_le _)] at this
      exact this
    · have h9 := (frOk_cases c bad frames).2.2.2.2.1
      rcases Nat.lt_or_ge 256 n with h10 | h10
      · rw [h9 (by omega)] at h1; cases h1
      · exact h10
/-- What trace, and which error, are asked for. -/
def FreeR (c : NormC) (t u : TraceC) (er : Int) : Prop := (fitsS c t = false ∧ u = ⟨0, [], []⟩ ∧ er = 2) ∨ (fitsS c t = true ∧ er = 0 ∧ ∃ ms, IsFr c t.bad.toNat t.frames.length ms ∧ u = freeT c t ms)
theorem FreeR.uniq {c : NormC} {t u u' : TraceC} {er er' : Int} (h : FreeR c t u er) (h' : FreeR c t u' er') : u' = u ∧ er' = er := by
  rcases h with ⟨h1, rfl, rfl⟩ | ⟨h1, rfl, ms, h2, rfl⟩ <;> rcases h' with ⟨h3, rfl, rfl⟩ | ⟨h3, rfl, ms', h4, rfl⟩
  · exact ⟨rfl, rfl⟩
  · rw [h1] at h3; cases h3
  · rw [h1] at h3; cases h3
  · rw [h4.uniq h2]; exact ⟨rfl, rfl⟩
theorem FreePost.sees {c : NormC} {t : TraceC} {w : World} {e : Ending} {w' : World} (h : FreePost c t w e w') : ∃ (s' : TSlots) (u : TraceC) (er : Int), e = .returned (.tuple #[traceV u.bad s', .int .i64 er]) ∧ FreeR c t u er ∧ (u.bad = 0 ∨ u.bad = t.bad) ∧ SeesTr w' s' u ∧ s'.small ∧ Below w.heap.size w w' := by
  rcases h with ⟨h1, h2, h3⟩ | ⟨h1, ms, s', h2, h3, h4, h5, h6⟩
  · exact ⟨⟨none, 0, 0, none, 0, 0, []⟩, ⟨0, [], []⟩, 2, h2, .inl ⟨h1, rfl, rfl⟩, .inl rfl, ⟨Sees.nil _ _ _ (fun _ => rfl), ⟨Sees.nil _ _ _ (fun _ => rfl), rfl, fun k hk => absurd hk (by simp)⟩⟩, ⟨Nat.zero_le _, Nat.zero_le _, fun x hx => by cases hx⟩, h3⟩
  · exact ⟨s', freeT c t ms, 0, h3, .inr ⟨h1, rfl, ms, h2, rfl⟩, .inr rfl, h4, h5, h6⟩

/-- What lies in memory: the circuit's box and the trace's. -/
structure TSt (z bad : Int) (s : CSlots) (st : TSlots) (w W : World) : Prop where
  low : Below w.heap.size w W
  cir : W.heap[w.heap.size]? = some (.cells (cirCells z s) 26 (0, 0))
  tr : W.heap[w.heap.size + 1]? = some (.cells #[.int .i64 bad, .slice st.a1 st.n1 st.c1, .slice st.a2 st.n2 st.c2] 30 (0, 0))
theorem TSt.below {z bad : Int} {s : CSlots} {st : TSlots} {w W W' : World} (h : TSt z bad s st w W) (hb : Below W.heap.size W W') : TSt z bad s st w W' := ⟨ext_trans h.low hb, heap_below h.cir hb, heap_below h.tr hb⟩
theorem keep2t {w w' : World} {a0 a1 : Addr} {v0 v1 : Value} (h : w.cell? a0 = some v0 ∧ w.cell? a1 = some v1) (hb : Below w.heap.size w w') : w'.cell? a0 = some v0 ∧ w'.cell? a1 = some v1 := by
  obtain ⟨h0, h1⟩ := h
  have one : ∀ {a : Addr} {v : Value}, w.cell? a = some v → w'.cell? a = some v := fun {a v} h => (hb.cell (World.block_lt_of_cell? _ _ h)).trans h
  exact ⟨one h0, one h1⟩

set_option maxRecDepth 100000 in
set_option maxHeartbeats 12800000 in
theorem tells9_any (c : NormC) (lits : List Nat) (t : TraceC) (bd frames : Int) (s : CSlots) (la : Option Addr) (ln lc : Nat) (st : TSlots) (w : World) (h : SeesCir w s c) (hl : Sees w la ln lc (lits.map nv32)) (ht : SeesTr w st t) (hs : s.small) (hst : st.small) (hlo : -9223372036854775808 ≤ c.ins) (hhi : c.ins < 9223372036854775808) (hb1 : -9223372036854775808 ≤ t.bad ∧ t.bad < 9223372036854775808) (hln : ln ≤ 1048576) (h32 : ∀ x ∈ lits, x < 4294967296) (hw : Wide c) :
    Calls Try.prog 3 #[cirV c.ins s, .slice la ln lc, traceV t.bad st, .int .i64 bd, .int .i64 frames] w fun e w' => e = .returned (.bool true) ∧ Below w.heap.size w w' := by
  have HGR := Lib.hid (fun W (hb : Below w.heap.size w W) => great9_any c t s st W (h.below hb) (ht.below hb))
  have HLV := Lib.hid lives9_any
  have HO1 := Lib.hid (fun W (hb : Below w.heap.size w W) => of9_any c lits s la ln lc W (h.below hb) hs hlo hhi (hl.below hb) hln h32)
  have HO2 := Lib.hid (fun W (hb : Below w.heap.size w W) => rof_any c lits s la ln lc W (h.below hb) hs hlo hhi hw (hl.below hb) hln h32)
  have HE1 := Lib.hid (fun W (hb : Below w.heap.size w W) => ever9_any c lits s la ln lc W (h.below hb) hs hlo hhi (hl.below hb) hln h32)
  have HE2 := Lib.hid (fun W (hb : Below w.heap.size w W) => rever_any c lits s la ln lc W (h.below hb) hs hlo hhi hw (hl.below hb) hln h32)
  have HF1 := Lib.hid (fun W (hb : Below w.heap.size w W) => frames9_any c bd frames s W (h.below hb) hs hlo hhi)
  have HF2 := Lib.hid (fun W (hb : Below w.heap.size w W) => rframes_any c bd frames s W (h.below hb) hs hlo hhi hw)
  have HCP := Lib.hid (fun W (hb : Below w.heap.size w W) => refcopy_any t st W (ht.below hb) hst)
  have HX1 := Lib.hid (fun W (s' : TSlots) (hb : Below w.heap.size w W) (hst' : SeesTr W s' t) (hsm : s'.small) => free9_any c t s s' W (h.below hb) hst' hs hsm hlo hhi hb1)
  have HX2 := Lib.hid (fun W (hb : Below w.heap.size w W) => rfree_any c t s st W (h.below hb) (ht.below hb) hs hst hlo hhi hw hb1)
  have HT := Lib.hid ht
  have HB1 := Lib.hid hb1
  have HSTM := Lib.hid hst
  obtain ⟨z, hz⟩ : ∃ z, z = c.ins := ⟨_, rfl⟩
  obtain ⟨bad, hbad⟩ : ∃ bad, bad = t.bad := ⟨_, rfl⟩
  have HBAD := Lib.hid hbad
  rw [← hz] at HO1 HO2 HE1 HE2 HF1 HF2
  rw [← hz, ← hbad] at HGR HX1 HX2 ⊢
  rw [← hbad] at HCP
  obtain ⟨gq, hgq⟩ : ∃ q, q = great9 c t := ⟨_, rfl⟩
  rw [← hgq] at HGR
  clear hz hbad hgq h hl ht hs hst hlo hhi hb1 h32 hw
  unfold cirV traceV at *
  go_enter Try.func3, Try.ntmps3
  go_upto_region 1 with fail
  generalize hW : World.alloc (World.alloc w _) _ = W1
  have HS1 : Hid (TSt z bad s st w W1) := ⟨by subst hW; exact ext_trans (ext_alloc _ _) (ext_alloc _ _), by subst hW; exact heap_below (heap_new _ _ _ rfl) (ext_alloc _ _), by subst hW; exact heap_new _ _ _ (by simp)⟩
  clear hW
  have p0 : W1.cell? ⟨w.heap.size, 0, none⟩ = some (.int .i64 z) := cell_of_block HS1.out.cir 0
  have p1 : W1.cell? ⟨w.heap.size, 1, none⟩ = some (.slice s.a1 s.n1 s.c1) := cell_of_block HS1.out.cir 1
  have p2 : W1.cell? ⟨w.heap.size, 2, none⟩ = some (.slice s.a2 s.n2 s.c2) := cell_of_block HS1.out.cir 2
  have p3 : W1.cell? ⟨w.heap.size, 3, none⟩ = some (.slice s.a3 s.n3 s.c3) := cell_of_block HS1.out.cir 3
  have p4 : W1.cell? ⟨w.heap.size, 4, none⟩ = some (.slice s.a4 s.n4 s.c4) := cell_of_block HS1.out.cir 4
  have p5 : W1.cell? ⟨w.heap.size, 5, none⟩ = some (.slice s.a5 s.n5 s.c5) := cell_of_block HS1.out.cir 5
  have t0 : W1.cell? ⟨w.heap.size + 1, 0, none⟩ = some (.int .i64 bad) := cell_of_block HS1.out.tr 0
  have t1 : W1.cell? ⟨w.heap.size + 1, 1, none⟩ = some (.slice st.a1 st.n1 st.c1) := cell_of_block HS1.out.tr 1
  have t2 : W1.cell? ⟨w.heap.size + 1, 2, none⟩ = some (.slice st.a2 st.n2 st.c2) := cell_of_block HS1.out.tr 2
  go_wp2_with fail
  refine (HGR.out W1 HS1.out.low).mono ?_
  rintro e W2 ⟨rfl, hb⟩
  have HS2 := Lib.hid (HS1.out.below hb)
  clear hb HS1 HGR p0 p1 p2 p3 p4 p5 t0 t1 t2
  cases gq with
  | true =>
    go_wp2_with fail
    refine (HLV.out W2).mono ?_
    rintro e W3 ⟨rfl, hb⟩
    have HB3 := Lib.hid (ext_trans HS2.out.low hb)
    clear hb
    go_wp2
    go_ret
    exact ⟨rfl, HB3.out⟩
  | false =>
  by_cases hl300 : 300 < ln
  · have e1 : decide ((300 : Int) < (ln : Int)) = true := by simp; omega
    have e1' : decide (300 < ln) = true := by simpa using hl300
    go_wp2_with fail
    refine (HLV.out W2).mono ?_
    rintro e W3 ⟨rfl, hb⟩
    have HB3 := Lib.hid (ext_trans HS2.out.low hb)
    clear hb
    go_wp2
    go_ret
    exact ⟨rfl, HB3.out⟩
  have e1 : decide ((300 : Int) < (ln : Int)) = false := by simp; omega
  have e1' : decide (300 < ln) = false := by simpa using hl300
  have p0 : W2.cell? ⟨w.heap.size, 0, none⟩ = some (.int .i64 z) := cell_of_block HS2.out.cir 0
  have p1 : W2.cell? ⟨w.heap.size, 1, none⟩ = some (.slice s.a1 s.n1 s.c1) := cell_of_block HS2.out.cir 1
  have p2 : W2.cell? ⟨w.heap.size, 2, none⟩ = some (.slice s.a2 s.n2 s.c2) := cell_of_block HS2.out.cir 2
  have p3 : W2.cell? ⟨w.heap.size, 3, none⟩ = some (.slice s.a3 s.n3 s.c3) := cell_of_block HS2.out.cir 3
  have p4 : W2.cell? ⟨w.heap.size, 4, none⟩ = some (.slice s.a4 s.n4 s.c4) := cell_of_block HS2.out.cir 4
  have p5 : W2.cell? ⟨w.heap.size, 5, none⟩ = some (.slice s.a5 s.n5 s.c5) := cell_of_block HS2.out.cir 5
  go_wp2_with fail
  clear e1 e1'
  refine (HO1.out W2 HS2.out.low).mono ?_
  rintro e W3 he
  obtain ⟨a1, n1, er, M, rfl, hR, hse, hn, hb⟩ := he.sees
  have HS3 := Lib.hid (HS2.out.below hb)
  have HR1 := Lib.hid hR
  have HM1 := Lib.hid hse
  have HN1 := Lib.hid hn
  clear he hb hR hse hn HS2 p0 p1 p2 p3 p4 p5 HO1
  have p0 : W3.cell? ⟨w.heap.size, 0, none⟩ = some (.int .i64 z) := cell_of_block HS3.out.cir 0
  have p1 : W3.cell? ⟨w.heap.size, 1, none⟩ = some (.slice s.a1 s.n1 s.c1) := cell_of_block HS3.out.cir 1
  have p2 : W3.cell? ⟨w.heap.size, 2, none⟩ = some (.slice s.a2 s.n2 s.c2) := cell_of_block HS3.out.cir 2
  have p3 : W3.cell? ⟨w.heap.size, 3, none⟩ = some (.slice s.a3 s.n3 s.c3) := cell_of_block HS3.out.cir 3
  have p4 : W3.cell? ⟨w.heap.size, 4, none⟩ = some (.slice s.a4 s.n4 s.c4) := cell_of_block HS3.out.cir 4
  have p5 : W3.cell? ⟨w.heap.size, 5, none⟩ = some (.slice s.a5 s.n5 s.c5) := cell_of_block HS3.out.cir 5
  go_wp2_with fail
  refine (HO2.out W3 HS3.out.low).mono ?_
  rintro e W4 he
  obtain ⟨a2, n2, er2, M2, rfl, hR, hse, hn, hb⟩ := he.sees
  obtain ⟨rfl, rfl⟩ := HR1.out.uniq hR
  have HS4 := Lib.hid (HS3.out.below hb)
  have HBL := Lib.hid (bools_any M2 M2 a1 a2 n1 n1 n2 n2 W4 (HM1.out.below hb) hse (by have := HN1.out; omega))
  clear he hb hR hse hn HS3 p0 p1 p2 p3 p4 p5 HO2
  rw [decide_eq_true rfl] at HBL
  go_wp2_with fail
  refine HBL.out.mono ?_
  rintro e W4' ⟨rfl, hw4⟩
  obtain rfl := hw4.symm
  clear hw4 HBL HM1 HN1 HR1
  have p0 : W4.cell? ⟨w.heap.size, 0, none⟩ = some (.int .i64 z) := cell_of_block HS4.out.cir 0
  have p1 : W4.cell? ⟨w.heap.size, 1, none⟩ = some (.slice s.a1 s.n1 s.c1) := cell_of_block HS4.out.cir 1
  have p2 : W4.cell? ⟨w.heap.size, 2, none⟩ = some (.slice s.a2 s.n2 s.c2) := cell_of_block HS4.out.cir 2
  have p3 : W4.cell? ⟨w.heap.size, 3, none⟩ = some (.slice s.a3 s.n3 s.c3) := cell_of_block HS4.out.cir 3
  have p4 : W4.cell? ⟨w.heap.size, 4, none⟩ = some (.slice s.a4 s.n4 s.c4) := cell_of_block HS4.out.cir 4
  have p5 : W4.cell? ⟨w.heap.size, 5, none⟩ = some (.slice s.a5 s.n5 s.c5) := cell_of_block HS4.out.cir 5
  go_wp2_with fail
  refine (HE1.out W4 HS4.out.low).mono ?_
  rintro e W5 he
  obtain ⟨a3, n3, er3, M3, rfl, hR, hse, hn, hb⟩ := he.sees
  have HS5 := Lib.hid (HS4.out.below hb)
  have HR1 := Lib.hid hR
  have HM1 := Lib.hid hse
  have HN1 := Lib.hid hn
  clear he hb hR hse hn HS4 p0 p1 p2 p3 p4 p5 HE1
  have p0 : W5.cell? ⟨w.heap.size, 0, none⟩ = some (.int .i64 z) := cell_of_block HS5.out.cir 0
  have p1 : W5.cell? ⟨w.heap.size, 1, none⟩ = some (.slice s.a1 s.n1 s.c1) := cell_of_block HS5.out.cir 1
  have p2 : W5.cell? ⟨w.heap.size, 2, none⟩ = some (.slice s.a2 s.n2 s.c2) := cell_of_block HS5.out.cir 2
  have p3 : W5.cell? ⟨w.heap.size, 3, none⟩ = some (.slice s.a3 s.n3 s.c3) := cell_of_block HS5.out.cir 3
  have p4 : W5.cell? ⟨w.heap.size, 4, none⟩ = some (.slice s.a4 s.n4 s.c4) := cell_of_block HS5.out.cir 4
  have p5 : W5.cell? ⟨w.heap.size, 5, none⟩ = some (.slice s.a5 s.n5 s.c5) := cell_of_block HS5.out.cir 5
  go_wp2_with fail
  refine (HE2.out W5 HS5.out.low).mono ?_
  rintro e W6 he
  obtain ⟨a4, n4, er4, M4, rfl, hR, hse, hn, hb⟩ := he.sees
  obtain ⟨rfl, rfl⟩ := HR1.out.uniq hR
  have HS6 := Lib.hid (HS5.out.below hb)
  have HBL := Lib.hid (bools_any M4 M4 a3 a4 n3 n3 n4 n4 W6 (HM1.out.below hb) hse (by have := HN1.out; omega))
  clear he hb hR hse hn HS5 p0 p1 p2 p3 p4 p5 HE2
  rw [decide_eq_true rfl] at HBL
  go_wp2_with fail
  refine HBL.out.mono ?_
  rintro e W6' ⟨rfl, hw4⟩
  obtain rfl := hw4.symm
  clear hw4 HBL HM1 HN1 HR1
  have p0 : W6.cell? ⟨w.heap.size, 0, none⟩ = some (.int .i64 z) := cell_of_block HS6.out.cir 0
  have p1 : W6.cell? ⟨w.heap.size, 1, none⟩ = some (.slice s.a1 s.n1 s.c1) := cell_of_block HS6.out.cir 1
  have p2 : W6.cell? ⟨w.heap.size, 2, none⟩ = some (.slice s.a2 s.n2 s.c2) := cell_of_block HS6.out.cir 2
  have p3 : W6.cell? ⟨w.heap.size, 3, none⟩ = some (.slice s.a3 s.n3 s.c3) := cell_of_block HS6.out.cir 3
  have p4 : W6.cell? ⟨w.heap.size, 4, none⟩ = some (.slice s.a4 s.n4 s.c4) := cell_of_block HS6.out.cir 4
  have p5 : W6.cell? ⟨w.heap.size, 5, none⟩ = some (.slice s.a5 s.n5 s.c5) := cell_of_block HS6.out.cir 5
  go_wp2_with fail
  refine (HF1.out W6 HS6.out.low).mono ?_
  rintro e W7 he
  obtain ⟨fa, fn, er5, ms, rfl, hR, hrr, hn, hb⟩ := he.sees
  have HS7 := Lib.hid (HS6.out.below hb)
  have HR1 := Lib.hid hR
  have HRR1 := Lib.hid hrr
  have hfn : fn ≤ 256 := hn
  clear he hb hR hrr hn HS6 p0 p1 p2 p3 p4 p5 HF1
  have p0 : W7.cell? ⟨w.heap.size, 0, none⟩ = some (.int .i64 z) := cell_of_block HS7.out.cir 0
  have p1 : W7.cell? ⟨w.heap.size, 1, none⟩ = some (.slice s.a1 s.n1 s.c1) := cell_of_block HS7.out.cir 1
  have p2 : W7.cell? ⟨w.heap.size, 2, none⟩ = some (.slice s.a2 s.n2 s.c2) := cell_of_block HS7.out.cir 2
  have p3 : W7.cell? ⟨w.heap.size, 3, none⟩ = some (.slice s.a3 s.n3 s.c3) := cell_of_block HS7.out.cir 3
  have p4 : W7.cell? ⟨w.heap.size, 4, none⟩ = some (.slice s.a4 s.n4 s.c4) := cell_of_block HS7.out.cir 4
  have p5 : W7.cell? ⟨w.heap.size, 5, none⟩ = some (.slice s.a5 s.n5 s.c5) := cell_of_block HS7.out.cir 5
  go_wp2_with fail
  refine (HF2.out W7 HS7.out.low).mono ?_
  rintro e W8 he
  obtain ⟨fb, fn2, er6, ms2, rfl, hR, hrr, hn, hb⟩ := he.sees
  obtain ⟨rfl, rfl, hms⟩ := HR1.out.uniq hR
  have HMS := Lib.hid hms
  have HS8 := Lib.hid (HS7.out.below hb)
  have HRA := Lib.hid (HRR1.out.below hb)
  have HRB := Lib.hid hrr
  obtain ⟨N, hN⟩ : ∃ N, N = 1 + varsN c := ⟨_, rfl⟩
  rw [← hN] at HRA HRB
  have hNs : Hid (0 < fn2 → N ≤ 1000000) := fun h0 => by
    rcases HR1.out with ⟨_, h1, _⟩ | ⟨h1, _⟩
    · omega
    · have h2 := (frOk_cases c bd frames).1
      cases hq : mayC c with
      | false => rw [h2 hq] at h1; cases h1
      | true => have := (mayC_iff.1 hq).few; omega
  clear he hb hR hrr hn HS7 p0 p1 p2 p3 p4 p5 HF2 HR1 HRR1 hms hN
  go_wp2
  go_loopw [98, 17] (fun iv _ wr => ∃ k : Nat, k ≤ fn2 ∧ iv = .int .i64 k ∧ Hid (Below W8.heap.size W8 wr)) (fun iv _ _ => fn2 - (intOf iv).toNat)
  case atStart => exact ⟨0, Nat.zero_le _, rfl, Below.refl _ _⟩
  case round =>
    obtain ⟨k, hk, rfl, hB⟩ := hrel
    have HBK := Lib.hid hB.out
    clear hB
    by_cases hlt : k < fn2
    · obtain ⟨F, G, hfa, r1, g1, l1⟩ := HRA.out.below HBK.out k hlt
      obtain ⟨F', G', hfb, r2, g2, l2⟩ := HRB.out.below HBK.out k hlt
      have hme := HMS.out (by omega)
      rw [hme] at g2 l2
      have hNb := hNs.out (by omega)
      subst hfa
      subst hfb
      have HG := Lib.hid (And.intro g1 (And.intro g2 (And.intro l1 l2)))
      have HS0 := Lib.hid (And.intro r1 r2)
      have W1' : IntKind.i64.wrap ((k : Int) + 1) = (k : Int) + 1 := IntWalk.i64_in _ (by omega)
      have hkz : (0 : Int) ≤ (k : Int) := by omega
      have hkn : (k : Int) < (fn2 : Int) := by omega
      clear g1 g2 l1 l2 r1 r2 hme
      go_upto_region 18 with fail
      refine wp_region_noPanic ?_
      refine wp_region_held (S := fun w' => w'.cell? ⟨F, k, none⟩ = some (.slice (some ⟨G, 0, none⟩) N N) ∧ w'.cell? ⟨F', k, none⟩ = some (.slice (some ⟨G', 0, none⟩) N N)) (by kernel_rfl) ?_
      generalize hYY : ({ wr with drawn := wr.drawn + 1 } : World) = Y0
      have hY0 : Below wr.heap.size wr Y0 := by subst hYY; exact (Below.refl _ _).drew
      have HPY := Lib.hid (keep2t HS0.out hY0)
      have HBY := Lib.hid (ext_trans HBK.out hY0)
      have HBL := Lib.hid (bools_any _ _ _ _ N N N N Y0 (sees_bcells (heap_below HG.out.1 hY0) HG.out.2.2.1) (sees_bcells (heap_below HG.out.2.1 hY0) HG.out.2.2.2) (by omega))
      rw [decide_eq_true rfl] at HBL
      clear hYY hY0 HS0 HBK HG
      refine wpAnyH_take (i := 0) (v := ?_) (by simp only [List.getElem?_toArray, List.getElem?_cons_zero]; rfl) (by kernel_rfl) (by kernel_rfl) (by kernel_rfl) (fun _ _ _ h => h) (Or.inl ⟨by rfl, ?_⟩) HPY.out ?_
      rotate_left
      · intro w hSw
        (try dsimp only at hSw)
        obtain ⟨q0_, q1_⟩ := hSw
        go_simp
        try with_reducible rfl
      try simp only [Act.put, List.setIfInBounds_toArray, List.set_cons_zero, List.set_cons_succ]
      refine wpAnyH_take (i := 1) (v := ?_) (by simp only [List.getElem?_toArray, List.getElem?_cons_zero, List.getElem?_cons_succ]; rfl) (by kernel_rfl) (by kernel_rfl) (by kernel_rfl) (fun _ _ _ h => h) (Or.inl ⟨by rfl, ?_⟩) HPY.out ?_
      rotate_left
      · intro w hSw
        (try dsimp only at hSw)
        obtain ⟨q0_, q1_⟩ := hSw
        go_simp
        try with_reducible rfl
      try simp only [Act.put, List.setIfInBounds_toArray, List.set_cons_zero, List.set_cons_succ]
      refine wpAnyH_take (i := 2) (v := ?_) (by simp only [List.getElem?_toArray, List.getElem?_cons_zero, List.getElem?_cons_succ]; rfl) (by kernel_rfl) (by kernel_rfl) (by kernel_rfl) (fun _ _ _ h => h) (Or.inl ⟨by rfl, ?_⟩) HPY.out ?_
      rotate_left
      · intro w hSw
        (try dsimp only at hSw)
        obtain ⟨q0_, q1_⟩ := hSw
        go_simp
        try with_reducible rfl
      try simp only [Act.put, List.setIfInBounds_toArray, List.set_cons_zero, List.set_cons_succ]
      refine wpAnyH_take (i := 3) (v := ?_) (by simp only [List.getElem?_toArray, List.getElem?_cons_zero, List.getElem?_cons_succ]; rfl) (by kernel_rfl) (by kernel_rfl) (by kernel_rfl) (fun _ _ _ h => h) (Or.inl ⟨by rfl, ?_⟩) HPY.out ?_
      rotate_left
      · intro w hSw
        (try dsimp only at hSw)
        obtain ⟨q0_, q1_⟩ := hSw
        go_simp
        try with_reducible rfl
      try simp only [Act.put, List.setIfInBounds_toArray, List.set_cons_zero, List.set_cons_succ]
      refine wpAnyH_take (i := 4) (v := ?_) (by simp only [List.getElem?_toArray, List.getElem?_cons_zero, List.getElem?_cons_succ]; rfl) (by kernel_rfl) (by kernel_rfl) (by kernel_rfl) (fun _ _ _ h => h) (Or.inl ⟨by rfl, ?_⟩) HPY.out ?_
      rotate_left
      · intro w hSw
        (try dsimp only at hSw)
        obtain ⟨q0_, q1_⟩ := hSw
        go_simp
        try with_reducible rfl
      try simp only [Act.put, List.setIfInBounds_toArray, List.set_cons_zero, List.set_cons_succ]
      refine wpAnyH_take (i := 5) (v := ?_) (by simp only [List.getElem?_toArray, List.getElem?_cons_zero, List.getElem?_cons_succ]; rfl) (by kernel_rfl) (by kernel_rfl) (by kernel_rfl) (fun _ _ _ h => h) (Or.inl ⟨by rfl, ?_⟩) HPY.out ?_
      rotate_left
      · intro w hSw
        (try dsimp only at hSw)
        obtain ⟨q0_, q1_⟩ := hSw
        go_simp
        try with_reducible rfl
      try simp only [Act.put, List.setIfInBounds_toArray, List.set_cons_zero, List.set_cons_succ]
      refine wpAnyH_take (i := 6) (v := ?_) (by simp only [List.getElem?_toArray, List.getElem?_cons_zero, List.getElem?_cons_succ]; rfl) (by kernel_rfl) (by kernel_rfl) (by kernel_rfl) (fun _ _ _ h => h) (Or.inl ⟨by rfl, ?_⟩) HPY.out ?_
      rotate_left
      · intro w hSw
        (try dsimp only at hSw)
        obtain ⟨q0_, q1_⟩ := hSw
        go_simp
        try with_reducible rfl
      try simp only [Act.put, List.setIfInBounds_toArray, List.set_cons_zero, List.set_cons_succ]
      refine wpAnyH_take (i := 7) (v := ?_) (by simp only [List.getElem?_toArray, List.getElem?_cons_zero, List.getElem?_cons_succ]; rfl) (by kernel_rfl) (by kernel_rfl) (by kernel_rfl) (fun _ _ _ h => h) (Or.inl ⟨by rfl, ?_⟩) HPY.out ?_
      rotate_left
      · intro w hSw
        (try dsimp only at hSw)
        obtain ⟨q0_, q1_⟩ := hSw
        go_simp
        try with_reducible rfl
      try simp only [Act.put, List.setIfInBounds_toArray, List.set_cons_zero, List.set_cons_succ]
      refine wpAnyH_ready (rs := [8]) (by kernel_rfl) (by simp) ?_
      refine AllReadyH.cons (by simp only [List.getElem?_toArray, List.getElem?_cons_zero, List.getElem?_cons_succ]; rfl) (fun K hK => ?_) AllReadyH.nil
      go_simp
      refine HBL.out.mono ?_
      rintro e Y1 ⟨rfl, hy1⟩
      obtain rfl := hy1.symm
      clear hy1
      refine hK.out _ _ HPY.out (fun _ => ?_)
      clear hK K
      try simp only [Act.put, List.setIfInBounds_toArray, List.set_cons_zero, List.set_cons_succ]
      refine wpAnyH_take (i := 9) (v := ?_) (by simp only [List.getElem?_toArray, List.getElem?_cons_zero, List.getElem?_cons_succ]; rfl) (by kernel_rfl) (by kernel_rfl) (by kernel_rfl) (fun _ _ _ h => h) (Or.inl ⟨by rfl, ?_⟩) HPY.out ?_
      rotate_left
      · intro w hSw
        (try dsimp only at hSw)
        obtain ⟨q0_, q1_⟩ := hSw
        go_simp
        try with_reducible rfl
      try simp only [Act.put, List.setIfInBounds_toArray, List.set_cons_zero, List.set_cons_succ]
      refine wpAnyH_done (by kernel_rfl) ?_ _
      refine NoPanic.normal ?_
      go_wp2
      go_roundw
      case rel => exact ⟨k + 1, by omega, by go_num, HBY.out⟩
      case measure => simp [intOf]; omega
    · obtain rfl : k = fn2 := by omega
      have HS9 := Lib.hid (HS8.out.below HBK.out)
      clear HS8 HBK HRA HRB
      have t0 : wr.cell? ⟨w.heap.size + 1, 0, none⟩ = some (.int .i64 bad) := cell_of_block HS9.out.tr 0
      have t1 : wr.cell? ⟨w.heap.size + 1, 1, none⟩ = some (.slice st.a1 st.n1 st.c1) := cell_of_block HS9.out.tr 1
      have t2 : wr.cell? ⟨w.heap.size + 1, 2, none⟩ = some (.slice st.a2 st.n2 st.c2) := cell_of_block HS9.out.tr 2
      go_wp2_with fail
      refine (HCP.out wr HS9.out.low).mono ?_
      rintro e V1 ⟨so, rfl, ho, hsm, hb⟩
      have HSA := Lib.hid (HS9.out.below hb)
      have HTO := Lib.hid ho.sees
      have HSO := Lib.hid hsm
      clear ho hsm hb HS9 HCP t0 t1 t2
      go_upto_region 22 with fail
      generalize hW : World.alloc V1 _ = V2
      have hb2 : Below V1.heap.size V1 V2 := by subst hW; exact ext_alloc _ _
      have hob : V2.heap[V1.heap.size]? = some (.cells #[.int .i64 bad, .slice so.a1 so.n1 so.c1, .slice so.a2 so.n2 so.c2] 30 (0, 0)) := by subst hW; exact heap_new _ _ _ rfl
      obtain ⟨OB, hOB⟩ : ∃ OB, OB = V1.heap.size := ⟨_, rfl⟩
      rw [← hOB] at hob ⊢
      have HOB := Lib.hid hob
      have HSB := Lib.hid (HSA.out.below hb2)
      have HTO2 := Lib.hid (HTO.out.below hb2)
      clear hW hb2 hob hOB HSA HTO
      have p0 : V2.cell? ⟨w.heap.size, 0, none⟩ = some (.int .i64 z) := cell_of_block HSB.out.cir 0
      have p1 : V2.cell? ⟨w.heap.size, 1, none⟩ = some (.slice s.a1 s.n1 s.c1) := cell_of_block HSB.out.cir 1
      have p2 : V2.cell? ⟨w.heap.size, 2, none⟩ = some (.slice s.a2 s.n2 s.c2) := cell_of_block HSB.out.cir 2
      have p3 : V2.cell? ⟨w.heap.size, 3, none⟩ = some (.slice s.a3 s.n3 s.c3) := cell_of_block HSB.out.cir 3
      have p4 : V2.cell? ⟨w.heap.size, 4, none⟩ = some (.slice s.a4 s.n4 s.c4) := cell_of_block HSB.out.cir 4
      have p5 : V2.cell? ⟨w.heap.size, 5, none⟩ = some (.slice s.a5 s.n5 s.c5) := cell_of_block HSB.out.cir 5
      have o0 := cell_of_block HOB.out 0
      have o1 := cell_of_block HOB.out 1
      have o2 := cell_of_block HOB.out 2
      go_wp2_with fail
      refine (HX1.out V2 so HSB.out.low HTO2.out HSO.out).mono ?_
      rintro e V3 he
      obtain ⟨sx, u, ex, rfl, hR, hub, hse, hsm, hb⟩ := he.sees
      have HRX := Lib.hid hR
      have HUB := Lib.hid hub
      have HTX := Lib.hid hse
      have HSX := Lib.hid hsm
      have HSC := Lib.hid (HSB.out.below hb)
      have HOB3 := Lib.hid (heap_below HOB.out hb)
      have HTO3 := Lib.hid (HTO2.out.below hb)
      clear he hR hub hse hsm hb HSB HOB HTO2 p0 p1 p2 p3 p4 p5 o0 o1 o2 HX1
      unfold traceV
      obtain ⟨ub, hubb⟩ : ∃ ub, ub = u.bad := ⟨_, rfl⟩
      rw [← hubb]
      have HUBB := Lib.hid hubb
      clear hubb
      go_upto_region 23 with fail
      generalize hW : World.alloc V3 _ = V4
      have hb2 : Below V3.heap.size V3 V4 := by subst hW; exact ext_alloc _ _
      have hob : V4.heap[V3.heap.size]? = some (.cells #[.int .i64 ub, .slice sx.a1 sx.n1 sx.c1, .slice sx.a2 sx.n2 sx.c2] 30 (0, 0)) := by subst hW; exact heap_new _ _ _ rfl
      obtain ⟨XB, hXB⟩ : ∃ XB, XB = V3.heap.size := ⟨_, rfl⟩
      rw [← hXB] at hob ⊢
      have HXB := Lib.hid hob
      have HSD := Lib.hid (HSC.out.below hb2)
      have HOB4 := Lib.hid (heap_below HOB3.out hb2)
      have HTO4 := Lib.hid (HTO3.out.below hb2)
      have HTX4 := Lib.hid (HTX.out.below hb2)
      clear hW hb2 hob hXB HSC HOB3 HTO3 HTX
      have p0 : V4.cell? ⟨w.heap.size, 0, none⟩ = some (.int .i64 z) := cell_of_block HSD.out.cir 0
      have p1 : V4.cell? ⟨w.heap.size, 1, none⟩ = some (.slice s.a1 s.n1 s.c1) := cell_of_block HSD.out.cir 1
      have p2 : V4.cell? ⟨w.heap.size, 2, none⟩ = some (.slice s.a2 s.n2 s.c2) := cell_of_block HSD.out.cir 2
      have p3 : V4.cell? ⟨w.heap.size, 3, none⟩ = some (.slice s.a3 s.n3 s.c3) := cell_of_block HSD.out.cir 3
      have p4 : V4.cell? ⟨w.heap.size, 4, none⟩ = some (.slice s.a4 s.n4 s.c4) := cell_of_block HSD.out.cir 4
      have p5 : V4.cell? ⟨w.heap.size, 5, none⟩ = some (.slice s.a5 s.n5 s.c5) := cell_of_block HSD.out.cir 5
      have t0 : V4.cell? ⟨w.heap.size + 1, 0, none⟩ = some (.int .i64 bad) := cell_of_block HSD.out.tr 0
      have t1 : V4.cell? ⟨w.heap.size + 1, 1, none⟩ = some (.slice st.a1 st.n1 st.c1) := cell_of_block HSD.out.tr 1
      have t2 : V4.cell? ⟨w.heap.size + 1, 2, none⟩ = some (.slice st.a2 st.n2 st.c2) := cell_of_block HSD.out.tr 2
      go_wp2_with fail
      refine (HX2.out V4 HSD.out.low).mono ?_
      rintro e V5 he
      obtain ⟨sy, u2, ey, rfl, hR, _, hse, hsm, hb⟩ := he.sees
      obtain ⟨rfl, rfl⟩ := HRX.out.uniq hR
      have HTY := Lib.hid hse
      have HSE := Lib.hid (HSD.out.below hb)
      have HOB5 := Lib.hid (heap_below HOB4.out hb)
      have HTO5 := Lib.hid (HTO4.out.below hb)
      have HXB5 := Lib.hid (heap_below HXB.out hb)
      have HTX5 := Lib.hid (HTX4.out.below hb)
      clear he hR hse hsm hb HSD HOB4 HTO4 HXB HTX4 p0 p1 p2 p3 p4 p5 t0 t1 t2 HX2 HRX
      unfold traceV
      rw [← HUBB.out]
      go_upto_region 24 with fail
      generalize hW : World.alloc V5 _ = V6
      have hb2 : Below V5.heap.size V5 V6 := by subst hW; exact ext_alloc _ _
      have hob : V6.heap[V5.heap.size]? = some (.cells #[.int .i64 ub, .slice sy.a1 sy.n1 sy.c1, .slice sy.a2 sy.n2 sy.c2] 30 (0, 0)) := by subst hW; exact heap_new _ _ _ rfl
      obtain ⟨YB, hYB⟩ : ∃ YB, YB = V5.heap.size := ⟨_, rfl⟩
      rw [← hYB] at hob ⊢
      have HYB := Lib.hid hob
      have HSF := Lib.hid (HSE.out.below hb2)
      have HOB6 := Lib.hid (heap_below HOB5.out hb2)
      have HTO6 := Lib.hid (HTO5.out.below hb2)
      have HXB6 := Lib.hid (heap_below HXB5.out hb2)
      have hbd : -9223372036854775808 ≤ u2.bad ∧ u2.bad < 9223372036854775808 := by
        rcases HUB.out with h | h
        · rw [h]; omega
        · rw [h]; exact HB1.out
      have HSAM := Lib.hid (sametr_any u2 u2 sx sy V6 (HTX5.out.below hb2) (HTY.out.below hb2) HSX.out hbd hbd)
      clear hbd
      rw [decide_eq_true rfl, ← HUBB.out] at HSAM
      unfold traceV at HSAM
      clear hW hb2 hob hYB HSE HOB5 HTO5 HXB5 HTX5 HTY
      have x0 := cell_of_block HXB6.out 0
      have x1 := cell_of_block HXB6.out 1
      have x2 := cell_of_block HXB6.out 2
      have y0 := cell_of_block HYB.out 0
      have y1 := cell_of_block HYB.out 1
      have y2 := cell_of_block HYB.out 2
      go_wp2_with fail
      refine HSAM.out.mono ?_
      rintro e V7 ⟨rfl, hb⟩
      have HSG := Lib.hid (HSF.out.below hb)
      have HOB7 := Lib.hid (heap_below HOB6.out hb)
      have HTO7 := Lib.hid (HTO6.out.below hb)
      have HSA2 := Lib.hid (sametr_any t t so st V7 HTO7.out (HT.out.below HSG.out.low) HSO.out HB1.out HB1.out)
      rw [decide_eq_true rfl, ← HBAD.out] at HSA2
      unfold traceV at HSA2
      clear hb HSF HOB6 HTO6 HSAM x0 x1 x2 y0 y1 y2
      have o0 := cell_of_block HOB7.out 0
      have o1 := cell_of_block HOB7.out 1
      have o2 := cell_of_block HOB7.out 2
      have t0 : V7.cell? ⟨w.heap.size + 1, 0, none⟩ = some (.int .i64 bad) := cell_of_block HSG.out.tr 0
      have t1 : V7.cell? ⟨w.heap.size + 1, 1, none⟩ = some (.slice st.a1 st.n1 st.c1) := cell_of_block HSG.out.tr 1
      have t2 : V7.cell? ⟨w.heap.size + 1, 2, none⟩ = some (.slice st.a2 st.n2 st.c2) := cell_of_block HSG.out.tr 2
      go_wp2_with fail
      refine HSA2.out.mono ?_
      rintro e V8 ⟨rfl, hb⟩
      have HBL := Lib.hid (ext_trans HSG.out.low hb)
      clear hb HSG HOB7 o0 o1 o2 t0 t1 t2 HSA2
      go_wp2_with fail
      refine (HLV.out V8).mono ?_
      rintro e V9 ⟨rfl, hb⟩
      have HB9 := Lib.hid (ext_trans HBL.out hb)
      clear hb
      go_wp2
      go_ret
      exact ⟨rfl, HB9.out⟩
end Go.Proofs.Ytdheldhecimfnaa
namespace Go.Proofs.Ytdheldhecimfnaa.coneTells
open Go Go.ChangeShapes Go.WideShapes Go.ChangeAt Go.RowKit

set_option maxRecDepth 100000 in
set_option maxHeartbeats 1600000 in
theorem contract (H : Type) (enc : TypeId × Value → H) (W : World) (base : Nat) (args : Array Value) (ds gs : List (DataW H)) (before : List MemPlace)
    (hval : ∀ (j : Nat) t v, Try.f3.params[j]? = some t → args[j]? = some v → Value.okWide Try.prog W .any base t v)
    (hW : DataW.Whole enc Try.prog Try.f3.params.toList Rows.coneTellsSpec.vars false W args.toList ds gs before)
    (hk : Rows.uptoSmall H (ds ++ gs) = true) :
    Calls Try.prog 3 args W fun e W' => ∃ v, e = .returned v ∧ Rows.coneTellsSpec.post enc Try.prog Try.f3 false true false false W args v W' := by
  have hW' := hW
  obtain ⟨p, q, hA0, hV, rfl, hfz, hnd⟩ := hW
  have hA : DataW.TrodAll enc Try.prog W 0 (fun _ => true) true Try.f3.params.toList args.toList ds p := hA0
  rw [Try.params3] at hA hval
  obtain ⟨v0, vs0, d0, ds0, p0, q0, hargs, rfl, rfl, h0, r0⟩ := trodAll_cons hA
  obtain ⟨v1, vs1, d1, ds1, p1, q1, rfl, rfl, rfl, h1, r1⟩ := trodAll_cons r0
  obtain ⟨v2, vs2, d2, ds2, p2, q2, rfl, rfl, rfl, h2, r2⟩ := trodAll_cons r1
  obtain ⟨v3, vs3, d3, ds3, p3, q3, rfl, rfl, rfl, h3, r3⟩ := trodAll_cons r2
  obtain ⟨v4, vs4, d4, ds4, p4, q4, rfl, rfl, rfl, h4, r4⟩ := trodAll_cons r3
  obtain ⟨rfl, rfl, rfl⟩ := trodAll_nil r4
  obtain rfl : args = #[v0, v1, v2, v3, v4] := by cases args; simp_all
  obtain ⟨rfl, rfl⟩ := trodVars_none hV
  have hb := bulk_bound hk
  have hb0 := bulk_part (d := d0) (l := [d0, d1, d2, d3, d4] ++ []) (by simp)
  have hb1 := bulk_part (d := d1) (l := [d0, d1, d2, d3, d4] ++ []) (by simp)
  have hb2 := bulk_part (d := d2) (l := [d0, d1, d2, d3, d4] ++ []) (by simp)
  obtain ⟨c0, s0, rfl, hs0, lo0, hi0, m01, m02, m03, m04, m05, w01, w02, w03, w04, w05⟩ := open_cir (hval 0 26 _ rfl rfl) h0
  have sm0 : s0.small := ⟨by omega, by omega, by omega, by omega, by omega⟩
  have wd0 : Wide c0 := ⟨w01, w02, w03, w04, w05⟩
  obtain ⟨a1, n1, c1, xs1, rfl, hs1, hn1, hx1⟩ := open_u32s (hval 1 24 _ rfl rfl) h1
  obtain ⟨t2, s2, rfl, hs2, lo2, hi2, m21, m22, m23⟩ := open_trace (hval 2 30 _ rfl rfl) h2
  have sm2 : s2.small := ⟨by omega, by omega, fun x hx => by have := m23 x hx; omega⟩
  obtain ⟨z3, rfl, rfl, rfl, wz3⟩ := open_int Try.underlying3 (hval 3 3 v3 rfl rfl) h3
  have hz3 := bounds_i64 wz3
  obtain ⟨z4, rfl, rfl, rfl, wz4⟩ := open_int Try.underlying3 (hval 4 3 v4 rfl rfl) h4
  have hz4 := bounds_i64 wz4
  clear hA0 hA
  refine (tells9_any c0 xs1 t2 z3 z4 s0 a1 n1 c1 s2 W hs0 hs1 hs2 sm0 sm2 lo0 hi0 ⟨lo2, hi2⟩ (by omega) hx1 wd0).mono fun e W' ⟨he, hbel⟩ => ?_
  subst he
  exact ⟨_, rfl, law_end laidOut (by decide +kernel) rfl rfl Try.underlying4 hW' rfl rfl rfl hbel⟩

set_option maxRecDepth 100000 in
theorem lifted (os : Os) (started : os.Started) (H : Type) (enc : TypeId × Value → H) (F : Stop.Interp) :
    ReturnsInHanded {} Try.checked os 3 .any ((Rows.OpenSpec.upto Rows.coneTellsSpec).pre6 enc Try.prog Try.f3 Rows.coneTellsUptoRow.domain false) (((Rows.OpenSpec.upto Rows.coneTellsSpec).at F).post enc Try.prog Try.f3 false true false false) := by
  refine returnsInHanded_of_cond (C := Try.checked) (s := Rows.OpenSpec.upto Rows.coneTellsSpec) (k := Rows.uptoSmall) rfl own started (by kernel_rfl) Try.func3
    (OpenSpec.witness (enc := enc) (C := Try.checked) (s := Rows.OpenSpec.upto Rows.coneTellsSpec) (k := Rows.uptoSmall) rfl false ⟨#[], #[.agg #[.int .i64 0, .slice none 0 0, .slice none 0 0, .slice none 0 0, .slice none 0 0, .slice none 0 0], .slice none 0 0, .agg #[.int .i64 0, .slice none 0 0, .slice none 0 0], .int .i64 0, .int .i64 0], []⟩ 8 (by kernel_rfl) (by kernel_rfl) (by kernel_rfl)
      (x := ([.agg [.lit (.int .i64 0), .nil, .nil, .nil, .nil, .nil], .nil, .agg [.lit (.int .i64 0), .nil, .nil], .lit (.int .i64 0), .lit (.int .i64 0)], [], [])) (by kernel_rfl) rfl (by kernel_rfl)) ?_
  intro W base args ds gs before hval hW _ hk _
  exact contract H enc W base args ds gs before hval hW hk

theorem proved : Rows.ConeTellsUptoSaid :=
  OpenClaim.holds_of_cond 3 Try.f3 rfl rfl rfl rfl rfl rfl rfl ⟨rfl, rfl, rfl, rfl, rfl⟩ rfl rfl rfl rfl rfl (by kernel_rfl) Try.func3 (by kernel_rfl)
    (of_decide_eq_true (by kernel_rfl)) (by unfold Func.isWrapper; first | (rw [if_pos (by decide +kernel)]; kernel_rfl) | (rw [if_neg (by decide +kernel)]; exact ⟨rfl, rfl⟩))
    (fun os started H enc _ F => lifted os started H enc F)
end Go.Proofs.Ytdheldhecimfnaa.coneTells
