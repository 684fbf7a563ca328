/- Lists of ints that the call makes, one behind the other. -/
import Derived.Test.YtcoehbkjccfhlaaGEncT01
import Derived.Test.YtcoehbkjccfhlaaGEncT02
import Derived.Test.YtcoehbkjccfhlaaGEncT07
import Derived.Test.YtcoehbkjccfhlaaGEncT03
import Derived.Test.YtcoehbkjccfhlaaNRefMay3
import Derived.Test.YtcoehbkjccfhlaaRows
import Derived.BigQuiet
import Derived.Deep.AppendLies
import Derived.Deep.CutRange
import Derived.Deep.QuietTactic
import Derived.Deep.RegionHeld3
import Derived.Deep.RegionLaw
import Derived.Deep.RegionWith
import Derived.KernelRfl
import Derived.Laws.EntriesVeiled
import Derived.Laws.Tables
import Derived.Lib.ConvBytes
import Derived.Lib.Hide
import Derived.Lib.SlBytesRow
import Derived.Lib.SmallJoins
import Derived.Maps.AppendAt
import Derived.Shelf.Bytes.SlSmallAll
import Derived.WalkKit
import Derived.WalkLawsBesides
import Derived.WalkSpells
import Derived.Test.YtcoehbkjccfhlaaNSmall
import Derived.Test.YtcoehbkjccfhlaaNMayC
import Derived.Test.YtcoehbkjccfhlaaGEncT00
import Derived.Test.YtcoehbkjccfhlaaGEncT05
/- inquestref03.Vars, by its contract. -/
namespace Go.Proofs.Ytcoehbkjccfhlaa
open Go Go.RowKit Go.Joins
def varsC (c : NormC) : Nat := if mayC c then varsN c else 0
theorem varsC_yes {c : NormC} (h : mayC c = true) {i n1 n2 : Nat} (h0 : (i : Int) = c.ins) (h1 : c.lats.length = n1) (h2 : c.gates.length = n2) : varsC c = i + n1 + n2 ∧ i + n1 + n2 ≤ 16384 := by
  have hf := (mayC_iff.1 h).few
  unfold varsC
  rw [if_pos h]
  unfold varsN at hf ⊢
  rw [← h0, h1, h2] at hf ⊢
  simp only [Int.toNat_natCast] at hf ⊢
  exact ⟨trivial, hf⟩
set_option maxRecDepth 100000 in
set_option maxHeartbeats 1600000 in
theorem refvars_any (c : NormC) (s : CSlots) (w : World) (h : SeesCir w s c) (hs : s.small) (hlo : -9223372036854775808 ≤ c.ins) (hhi : c.ins < 9223372036854775808) (hw : Wide c) :
    Calls Try.prog 33 #[cirV c.ins s] w fun e w' => e = .returned (.int .i64 ((varsC c : Nat) : Int)) ∧ Below w.heap.size w w' := by
  have HMAY := Lib.hid (fun W (hb : Below w.heap.size w W) => refmay3_any c s W (h.below hb) hs hlo hhi hw)
  have YES := Lib.hid (fun (hm : mayC c = true) (i : Nat) (h0 : (i : Int) = c.ins) => varsC_yes hm h0 h.s1.1 h.s2.1)
  have POS := Lib.hid (fun (hm : mayC c = true) => (mayC_iff.1 hm).pos)
  have NO : Hid (mayC c = false → varsC c = 0) := fun h => by unfold varsC; rw [h]; rfl
  obtain ⟨a1, n1, c1, a2, n2, c2, a3, n3, c3, a4, n4, c4, a5, n5, c5⟩ := s
  obtain ⟨z, hz⟩ : ∃ z, z = c.ins := ⟨_, rfl⟩
  obtain ⟨v, hv⟩ : ∃ v, v = varsC c := ⟨_, rfl⟩
  obtain ⟨q, hq⟩ : ∃ q, q = mayC c := ⟨_, rfl⟩
  rw [← hz, ← hv]
  rw [← hz, ← hq] at HMAY
  rw [← hz, ← hv, ← hq] at YES
  rw [← hz, ← hq] at POS
  rw [← hq, ← hv] at NO
  clear hz hv hq h hs hlo hhi
  unfold cirV at *
  go_enter Try.func33, Try.ntmps33
  go_upto_region 1 with fail
  generalize hW : World.alloc _ _ = W1
  have B1 : Below w.heap.size w W1 := by subst hW; exact ext_alloc _ _
  have hX : W1.heap[w.heap.size]? = some (.cells #[.int .i64 z, .slice a1 n1 c1, .slice a2 n2 c2, .slice a3 n3 c3, .slice a4 n4 c4, .slice a5 n5 c5] 26 (0, 0)) := by subst hW; exact heap_new _ _ _ rfl
  have HX := Lib.hid hX
  have HB := Lib.hid B1
  clear hW B1 hX
  have p0 := cell_of_block HX.out 0
  have p1 := cell_of_block HX.out 1
  have p2 := cell_of_block HX.out 2
  have p3 := cell_of_block HX.out 3
  have p4 := cell_of_block HX.out 4
  have p5 := cell_of_block HX.out 5
  go_wp2_with fail
  refine (HMAY.out W1 HB.out).mono ?_
  rintro e W2 ⟨rfl, hb⟩
  have HX2 := Lib.hid (heap_below HX.out hb)
  have HB2 := Lib.hid (ext_trans HB.out hb)
  clear hb p0 p1 p2 p3 p4 p5
  cases q with
  | false =>
    have N := Lib.hid (NO.out rfl)
    go_wp2
    go_ret
    exact ⟨by rw [N.out]; rfl, HB2.out⟩
  | true =>
    obtain ⟨i, hi⟩ := Int.eq_ofNat_of_zero_le (POS.out rfl)
    have hy := YES.out rfl i hi.symm
    have hi16 : i + n1 + n2 ≤ 16384 := hy.2
    have HY := Lib.hid hy.1
    clear hy
    subst hi
    have U1 : IntKind.i64.wrap ((i : Int) + (n1 : Int)) = (i : Int) + (n1 : Int) := IntWalk.i64_in _ (by omega)
    have U2 : IntKind.i64.wrap ((i : Int) + (n1 : Int) + (n2 : Int)) = (i : Int) + (n1 : Int) + (n2 : Int) := IntWalk.i64_in _ (by omega)
    have p0 := cell_of_block HX2.out 0
    have p1 := cell_of_block HX2.out 1
    have p2 := cell_of_block HX2.out 2
    go_wp2
    go_ret
    exact ⟨by rw [HY.out]; simp, HB2.out⟩
end Go.Proofs.Ytcoehbkjccfhlaa
/- norm.Vars and inquestref03.Vars, by their contracts. -/
namespace Go.Proofs.Ytcoehbkjccfhlaa
open Go Go.RowKit Go.Joins

set_option maxRecDepth 100000 in
set_option maxHeartbeats 1600000 in
theorem vars_any (c : NormC) (s : CSlots) (w : World) (h : SeesCir w s c) (hs : s.small) (hlo : -9223372036854775808 ≤ c.ins) (hhi : c.ins < 9223372036854775808) :
    Calls Try.prog 59 #[cirV c.ins s] w fun e w' => e = .returned (.int .i64 ((varsC c : Nat) : Int)) ∧ Below w.heap.size w w' := by
  have HMAY := Lib.hid (fun W (hb : Below w.heap.size w W) => may3_any c s W (h.below hb) hs hlo hhi)
  have HCNT := Lib.hid (fun (j : Nat) (hj : j ≤ 1048576) W => count_any j s hj hs W)
  have YES := Lib.hid (fun (hm : mayC c = true) (i : Nat) (h0 : (i : Int) = c.ins) => varsC_yes hm h0 h.s1.1 h.s2.1)
  have POS := Lib.hid (fun (hm : mayC c = true) => (mayC_iff.1 hm).pos)
  have NO : Hid (mayC c = false → varsC c = 0) := fun h => by unfold varsC; rw [h]; rfl
  obtain ⟨a1, n1, c1, a2, n2, c2, a3, n3, c3, a4, n4, c4, a5, n5, c5⟩ := s
  obtain ⟨z, hz⟩ : ∃ z, z = c.ins := ⟨_, rfl⟩
  obtain ⟨v, hv⟩ : ∃ v, v = varsC c := ⟨_, rfl⟩
  obtain ⟨q, hq⟩ : ∃ q, q = mayC c := ⟨_, rfl⟩
  rw [← hz, ← hv]
  rw [← hz, ← hq] at HMAY
  rw [← hz, ← hv, ← hq] at YES
  rw [← hz, ← hq] at POS
  rw [← hq, ← hv] at NO
  clear hz hv hq h hs hlo hhi
  unfold cirV at *
  go_enter Try.func59, Try.ntmps59
  go_upto_region 1 with fail
  generalize hW : World.alloc _ _ = W1
  have B1 : Below w.heap.size w W1 := by subst hW; exact ext_alloc _ _
  have hX : W1.heap[w.heap.size]? = some (.cells #[.int .i64 z, .slice a1 n1 c1, .slice a2 n2 c2, .slice a3 n3 c3, .slice a4 n4 c4, .slice a5 n5 c5] 26 (0, 0)) := by subst hW; exact heap_new _ _ _ rfl
  have HX := Lib.hid hX
  have HB := Lib.hid B1
  clear hW B1 hX
  have p0 := cell_of_block HX.out 0
  have p1 := cell_of_block HX.out 1
  have p2 := cell_of_block HX.out 2
  have p3 := cell_of_block HX.out 3
  have p4 := cell_of_block HX.out 4
  have p5 := cell_of_block HX.out 5
  go_wp2_with fail
  refine (HMAY.out W1 HB.out).mono ?_
  rintro e W2 ⟨rfl, hb⟩
  have HX2 := Lib.hid (heap_below HX.out hb)
  have HB2 := Lib.hid (ext_trans HB.out hb)
  clear hb p0 p1 p2 p3 p4 p5
  cases q with
  | false =>
    have N := Lib.hid (NO.out rfl)
    go_wp2
    go_ret
    exact ⟨by rw [N.out]; rfl, HB2.out⟩
  | true =>
    obtain ⟨i, hi⟩ := Int.eq_ofNat_of_zero_le (POS.out rfl)
    have hy := YES.out rfl i hi.symm
    have hi16 : i ≤ 1048576 := by omega
    have HY := Lib.hid hy.1
    clear hy
    subst hi
    have p0 := cell_of_block HX2.out 0
    have p1 := cell_of_block HX2.out 1
    have p2 := cell_of_block HX2.out 2
    have p3 := cell_of_block HX2.out 3
    have p4 := cell_of_block HX2.out 4
    have p5 := cell_of_block HX2.out 5
    go_wp2_with fail
    refine (HCNT.out i hi16 W2).mono ?_
    rintro e W3 ⟨rfl, hb⟩
    have HB3 := Lib.hid (ext_trans HB2.out hb)
    clear hb
    go_wp2
    go_ret
    exact ⟨by rw [HY.out]; simp, HB3.out⟩
end Go.Proofs.Ytcoehbkjccfhlaa
namespace Go.Proofs.Ytcoehbkjccfhlaa
open Go Go.RowKit Go.Joins

/-- A list that lies in old memory, or that the call made. -/
def OneZ (w0 w : World) (s : ZSlc) (C : List Int) : Prop := Sees w0 s.1 s.2.1 s.2.2 (zvs C) ∨ Row isZ w w0.heap.size 3 (zsV s) C.length (zvs C)
theorem OneZ.sees {w0 w : World} {s : ZSlc} {C : List Int} (h : OneZ w0 w s C) (hb : Below w0.heap.size w0 w) : Sees w s.1 s.2.1 s.2.2 (zvs C) := by
  rcases h with h | h
  · exact h.below hb
  · obtain ⟨a, c, e, _, hs⟩ := h.sees
    obtain ⟨a', n', c'⟩ := s
    unfold zsV at e
    cases e
    exact hs
theorem Row.apart {ok ok' : Value → Prop} {w w' : World} {base base' : Nat} {e e' : TypeId} {v v' : Value} {n n' : Nat} {xs xs' : List Value} (h : Row ok w base e v n xs) (h' : Row ok' w base' e' v' n' xs') (he : e ≠ e') (hg : w.grownBy w' v'.ownBlock) : Row ok w' base e v n xs := by
  refine h.other fun k hk => ?_
  rcases h.2 with ⟨rfl, _⟩ | ⟨g, cap, cur, rfl, _, hb, _⟩
  · cases hk
  · have : g = k := by simpa [Value.ownBlock] using hk
    subst this
    exact (heap_grown hb hg (h'.not_own hb he)).trans hb.symm
structure ListsZ (w0 : World) (v : Value) (ss : List ZSlc) (L : List (List Int)) (w : World) : Prop where
  bel : Below w0.heap.size w0 w
  row : Row (fun _ => True) w w0.heap.size 45 v ss.length (ss.map zsV)
  len : ss.length = L.length
  each : ∀ j, j < L.length → OneZ w0 w (ss.getD j zs0) (L.getD j [])
section
variable {w0 w w1 w' : World} {v v' : Value} {ss : List ZSlc} {L : List (List Int)}
theorem ListsZ.nil (w : World) : ListsZ w (.slice none 0 0) [] [] w := ⟨Below.refl _ _, Row.nil _ _ _ _, rfl, fun j hj => absurd hj (by simp)⟩
theorem ListsZ.onward (h : ListsZ w0 v ss L w) (hb : Below w.heap.size w w1) : ListsZ w0 v ss L w1 :=
  ⟨h.bel.trans (hb.mono h.bel.size), h.row.below hb, h.len, fun j hj => (h.each j hj).imp id (fun hr => hr.below hb)⟩
theorem ListsZ.more (h : ListsZ w0 v ss L w) (hb : Below w.heap.size w w1) {s : ZSlc} {C : List Int} (hs : OneZ w0 w1 s C)
    (hrow : Row (fun _ => True) w' w0.heap.size 45 v' (ss.length + 1) (ss.map zsV ++ [zsV s])) (hg : w1.grownBy w' v.ownBlock) : ListsZ w0 v' (ss ++ [s]) (L ++ [C]) w' := by
  have h1 := h.onward hb
  refine ⟨h1.bel.grown hg h1.bel.size (fun j hj => (h1.row.own.lt j hj).1), by simpa using hrow, by simp [h.len], fun j hj => ?_⟩
  by_cases hj2 : j < L.length
  · rw [getD_appL (by rw [h.len]; exact hj2), getD_appL hj2]
    exact (h1.each j hj2).imp id (fun hr => hr.apart h1.row (by decide) hg)
  · have : j = L.length := by simp at hj; omega
    subst this
    have e2 : (ss ++ [s]).getD L.length zs0 = s := by rw [← h.len]; exact getD_appE
    rw [getD_appE, e2]
    exact hs.imp id (fun hr => hr.apart h1.row (by decide) hg)
/-- Old lists, all at once, behind nothing. -/
theorem ListsZ.all {a : Option Addr} {n c : Nat} (h : SeesZ w0 a n c ss L) (hb : Below w0.heap.size w0 w) (hrow : Row (fun _ => True) w w0.heap.size 45 v ss.length (ss.map zsV)) : ListsZ w0 v ss L w :=
  ⟨hb, hrow, h.len, fun j hj => .inl (h.each j hj)⟩
theorem ListsZ.done (h : ListsZ w0 v ss L w) : ∃ a c, v = .slice a L.length c ∧ SeesZ w a L.length c ss L := by
  obtain ⟨a, c, e, _, hs⟩ := h.row.sees
  rw [h.len] at e hs
  exact ⟨a, c, e, hs, h.len, fun j hj => (h.each j hj).sees h.bel⟩
/-- A list that the call wrote out. -/
theorem oneZ_lit (hb : w0.heap.size ≤ w.heap.size) (x : Int) : OneZ w0 (w.alloc (.cells #[.int .i64 x] 3)) (some ⟨w.heap.size, 0, none⟩, 1, 1) [x] :=
  .inr (Row.made_at #[.int .i64 x] 1 _ _ _ rfl rfl rfl hb (by simp [maxLen]) (by simp) (by intro u hu; simp at hu; subst hu; exact ⟨x, rfl⟩))
end
end Go.Proofs.Ytcoehbkjccfhlaa
