/- LoopTells returns true for every circuit and trace where what it reads is of bulk at most 1048576: what the program's package loop answers is what the reference answers. Condition: the bound. -/
import Derived.Test.YtgpkghlhlabjcaaOwn
import Derived.Test.YtgpkghlhlabjcaaOwnStr
import Derived.Test.YtgpkghlhlabjcaaNBase
import Derived.Test.YtgpkghlhlabjcaaNStep
import Derived.Test.YtgpkghlhlabjcaaNTrace
import Derived.Test.YtgpkghlhlabjcaaLpE
import Derived.Test.YtgpkghlhlabjcaaRows
import Derived.Test.YtgpkghlhlabjcaaShelf
import Derived.BigQuiet
import Derived.Deep.AppendLies
import Derived.Deep.CutRange
import Derived.Deep.QuietTactic
import Derived.Deep.RegionHeld3
import Derived.Deep.RegionLaw
import Derived.Deep.RegionWith
import Derived.KernelRfl
import Derived.Laws.Bits64b
import Derived.Laws.BitsAllLaws
import Derived.Laws.BitsLemmas
import Derived.Laws.EntriesVeiled
import Derived.Laws.Tables
import Derived.Lib.AppendStr
import Derived.Lib.AppendZeros
import Derived.Lib.ConvBytes
import Derived.Lib.Hide
import Derived.Lib.SlBytesConst
import Derived.Lib.SlBytesRow
import Derived.Lib.SmallJoins
import Derived.LoopIn
import Derived.LoopNIn
import Derived.Maps.AppendAt
import Derived.OrdersHeld
import Derived.OrdersIn
import Derived.OwnWalkIn
import Derived.RangeFuncBox
import Derived.RangeFuncCalls
import Derived.RangeFuncLeaves
import Derived.RangeFuncNested
import Derived.RangeFuncWrites
import Derived.Shelf.Abstract
import Derived.Shelf.Bytes.SlSmallAll
import Derived.Shelf.RegionOpen
import Derived.Sort.CutIn
import Derived.Stop.RegionWithIn
import Derived.TacticsInMore
import Derived.WalkKit
import Derived.WalkLawsBesides
import Derived.WalkSpells
import Derived.Test.YtgpkghlhlabjcaaLib
import Derived.Test.YtgpkghlhlabjcaaNSpec
import Derived.Test.YtgpkghlhlabjcaaNVal
import Derived.Test.YtgpkghlhlabjcaaNCirc
import Derived.Test.YtgpkghlhlabjcaaNOwns
import Derived.Test.YtgpkghlhlabjcaaNHeap
import Derived.Test.YtgpkghlhlabjcaaNWide
import Derived.Test.YtgpkghlhlabjcaaTBits
import Derived.Test.YtgpkghlhlabjcaaSRefCopy
import Derived.Test.YtgpkghlhlabjcaaNOwnLL
import Derived.Test.YtgpkghlhlabjcaaSSurely
import Derived.Test.YtgpkghlhlabjcaaLpA
import Derived.Test.YtgpkghlhlabjcaaLpBB
import Derived.Test.YtgpkghlhlabjcaaLpC
import Derived.BigRegion
import Derived.Maps.Own
import Derived.Maps.OwnOps
import Derived.Maps.OwnSet
import Derived.Test.YtgpkghlhlabjcaaRawMay
import Derived.Test.YtgpkghlhlabjcaaPost
import Derived.ChangeSame
import Derived.Deep.DeepHandedRow
import Derived.Deep.Fields
import Derived.Deep.Slices
import Derived.Lib.LaidTab
import Derived.OpenShut
import Derived.ProofKit
import Derived.Stop.LaidErr
import Derived.Test.YtgpkghlhlabjcaaPost0
import Derived.Test.YtgpkghlhlabjcaaNOpenC
import Derived.Test.YtgpkghlhlabjcaaLpLat
import Derived.JoinedCond
/- While rows are burnt. -/
namespace Go.Proofs.Ytgpkghlhlabjcaa
open Go Go.RowKit Go.Joins
theorem owns_burnt {w w' : World} {base b k : Nat} {e : TypeId} {v : Value} {n : Nat} {xs : List Value} (h : w.ownsRow base e k v n xs) (hB : Burnt w w' b) (he : e ≠ 5) : w'.ownsRow base e k v n xs := by
  refine ownsN_other h fun q hq => ?_
  obtain ⟨hl, rest⟩ := h
  rcases rest with ⟨h1, _⟩ | ⟨g, cap, cur, h1, hg, hh, _⟩
  · rw [h1] at hq; cases hq
  · rw [h1] at hq
    have : g = q := by simpa [Value.ownBlock] using hq
    subst this
    exact (hB.other g _ e _ hh he).trans hh.symm
/-- While the rows are burnt. -/
structure BuInv (B : Nat) (WB : World) (a : Option Addr) (n c : Nat) (ss : List Slc) (W : World) : Prop where
  list : W.ownsRow B 27 1 (.slice a n c) n (ss.map slV)
  rows : ∀ j, j < n → ∃ m ys, Row isByte W B 5 (slV (ss.getD j slc0)) m ys
  low : Below WB.heap.size WB W
theorem BuInv.step {B : Nat} {WB : World} {a : Option Addr} {n c : Nat} {ss : List Slc} {W W' : World} (h : BuInv B WB a n c ss W) (hb : Burnt W W' B) (hB : WB.heap.size ≤ B) : BuInv B WB a n c ss W' :=
  ⟨owns_burnt h.list hb (by decide), fun j hj => by
    obtain ⟨m, ys, hr⟩ := h.rows j hj
    obtain ⟨zs, hz⟩ := hb.rows _ _ _ _ hr
    exact ⟨m, zs, hz⟩, h.low.trans (hb.below.mono hB)⟩
end Go.Proofs.Ytgpkghlhlabjcaa
/- The law LoopTells, walked. -/
namespace Go.Proofs.Ytgpkghlhlabjcaa
open Go Go.RowKit Go.Joins

theorem again_form (S : List (List UInt8)) : ∃ (z1 z2 : Int) (ab : Bool), againE S = .returned (.tuple #[.int .i64 z1, .int .i64 z2, .bool ab]) := by
  unfold againE
  split
  · exact ⟨_, _, _, rfl⟩
  · exact ⟨_, _, _, rfl⟩
theorem cutO_few (c : NormC) (t : TraceC) : (cutO c t).2.1.length ≤ 256 := by
  unfold cutO
  split
  · rename_i h
    split
    · have h1 := remS_len (statesL c t)
      rw [statesL_len] at h1
      have := (fits_iff.1 h).few
      show (remS (statesL c t)).length ≤ 256
      omega
    · simp
  · simp
theorem cutO_bad (c : NormC) (t : TraceC) (hb : -9223372036854775808 ≤ t.bad ∧ t.bad < 9223372036854775808) : -9223372036854775808 ≤ (cutO c t).1.bad ∧ (cutO c t).1.bad < 9223372036854775808 := by
  unfold cutO
  split
  · split
    · exact hb
    · simp
  · simp
theorem Sees.slc_at {w : World} {b off n c : Nat} {ss : List Slc} (h : Sees w (some ⟨b, off, .none⟩) n c (ss.map slV)) (j : Nat) (hj : j < n) : w.cell? ⟨b, off + j, .none⟩ = some (slV (ss.getD j slc0)) := by
  have hl : ss.length = n := h.lenMap
  rw [(h.cell j hj).2]
  simp [List.getD, List.getElem?_eq_getElem (show j < ss.length by omega)]
/-- While the frames of a trace behind a box are burnt. -/
structure Bu2 (B : Nat) (WB : World) (P : Nat) (bad : Int) (x : TSlots) (W : World) : Prop where
  bu : BuInv B WB x.a2 x.n2 x.c2 x.ss W
  box : W.heap[P]? = some (.cells #[.int .i64 bad, .slice x.a1 x.n1 x.c1, .slice x.a2 x.n2 x.c2] 30 (0, 0))
  ini : ∃ m ys, Row isByte W B 5 (.slice x.a1 x.n1 x.c1) m ys
theorem Bu2.step {B : Nat} {WB : World} {P : Nat} {bad : Int} {x : TSlots} {W W' : World} (h : Bu2 B WB P bad x W) (hb : Burnt W W' B) (hB : WB.heap.size ≤ B) : Bu2 B WB P bad x W' :=
  ⟨h.bu.step hb hB, hb.other _ _ _ _ h.box (by decide), by obtain ⟨m, ys, hr⟩ := h.ini; obtain ⟨zs, hz⟩ := hb.rows _ _ _ _ hr; exact ⟨m, zs, hz⟩⟩

set_option maxRecDepth 100000 in
set_option maxHeartbeats 6400000 in
theorem tells8_any (c : NormC) (t : TraceC) (s : CSlots) (st : TSlots) (w : World) (h : SeesCir w s c) (ht : SeesTr w st t) (hs : s.small) (hst : st.small) (hlo : -9223372036854775808 ≤ c.ins) (hhi : c.ins < 9223372036854775808) (hb1 : -9223372036854775808 ≤ t.bad ∧ t.bad < 9223372036854775808) (hw : Wide c) :
    Calls Try.prog 3 #[cirV c.ins s, traceV t.bad st] w fun e w' => e = .returned (.bool true) ∧ Below w.heap.size w w' := by
  have HGR := Lib.hid (fun W (hb : Below w.heap.size w W) => great8_any c t s st W (h.below hb) (ht.below hb))
  have HLV := Lib.hid lives8_any
  have HCP := Lib.hid (fun W (hb : Below w.heap.size w W) => refcopy_any t st W (ht.below hb) hst)
  obtain ⟨S, hS⟩ : ∃ S, S = statesO c t := ⟨_, rfl⟩
  obtain ⟨ef, hef⟩ : ∃ z : Int, z = (if fitsS c t = true then 0 else 2) := ⟨_, rfl⟩
  have HSN : Hid (S.length ≤ 256) := by rw [hS]; exact statesO_few c t
  have HST1 : Hid (∀ (st' : TSlots) W, Below w.heap.size w W → SeesTr W st' t → st'.small → Calls Try.prog 8 #[cirV c.ins s, traceV t.bad st'] W fun e W' => ∃ (a : Option Addr) (n cc : Nat) (ss : List Slc), e = .returned (.tuple #[.slice a n cc, .int .i64 ef]) ∧ OwnLL W' W.heap.size a n cc ss S ∧ Below W.heap.size W W') := by
    rw [hS, hef]; exact fun st' W hb h1 h2 => states_any c t s st' W (h.below hb) h1 hs h2 hlo hhi hb1
  have HST2 : Hid (∀ W, Below w.heap.size w W → Calls Try.prog 9 #[cirV c.ins s, traceV t.bad st] W fun e W' => ∃ (a : Option Addr) (n cc : Nat) (ss : List Slc), e = .returned (.tuple #[.slice a n cc, .int .i64 ef]) ∧ SeesF W' a n cc ss S ∧ Below W.heap.size W W') := by
    rw [hS, hef]
    exact fun W hb => (rstates_any c t s st W (h.below hb) (ht.below hb) hs hst hlo hhi hb1 hw).mono fun _ _ ⟨a, n, cc, ss, h1, h2, _, h4⟩ => ⟨a, n, cc, ss, h1, h2.sees, h4⟩
  obtain ⟨z1, z2, ab, hAE⟩ := again_form (statesO c t)
  have HAG1 : Hid (∀ (st' : TSlots) W, Below w.heap.size w W → SeesTr W st' t → st'.small → Calls Try.prog 12 #[cirV c.ins s, traceV t.bad st'] W fun e W' => e = .returned (.tuple #[.int .i64 z1, .int .i64 z2, .bool ab]) ∧ Below W.heap.size W W') := by
    rw [← hAE]; exact fun st' W hb h1 h2 => again_any c t s st' W (h.below hb) h1 hs h2 hlo hhi hb1
  have HAG2 : Hid (∀ W, Below w.heap.size w W → Calls Try.prog 13 #[cirV c.ins s, traceV t.bad st] W fun e W' => e = .returned (.tuple #[.int .i64 z1, .int .i64 z2, .bool ab]) ∧ Below W.heap.size W W') := by
    rw [← hAE]; exact fun W hb => ragain_any c t s st W (h.below hb) (ht.below hb) hs hst hlo hhi hb1 hw
  have hLF := cutO_few c t
  have hTB := cutO_bad c t hb1
  have HCU1 : Hid (∀ (st' : TSlots) W, Below w.heap.size w W → SeesTr W st' t → st'.small → Calls Try.prog 14 #[cirV c.ins s, traceV t.bad st'] W fun e W' => ∃ (x : TSlots) (la : Option Addr) (lc : Nat), e = .returned (.tuple #[traceV (cutO c t).1.bad x, .slice la (cutO c t).2.1.length lc, .int .i64 (cutO c t).2.2]) ∧ Sees W' la (cutO c t).2.1.length lc ((cutO c t).2.1.map iv) ∧ OwnTA W' W.heap.size x (cutO c t).1 ∧ x.small ∧ Below W.heap.size W W') :=
    fun st' W hb h1 h2 => cut_any c t s st' W (h.below hb) h1 hs h2 hlo hhi hb1
  have HCU2 : Hid (∀ W, Below w.heap.size w W → Calls Try.prog 15 #[cirV c.ins s, traceV t.bad st] W fun e W' => ∃ (x : TSlots) (la : Option Addr) (lc : Nat), e = .returned (.tuple #[traceV (cutO c t).1.bad x, .slice la (cutO c t).2.1.length lc, .int .i64 (cutO c t).2.2]) ∧ Sees W' la (cutO c t).2.1.length lc ((cutO c t).2.1.map iv) ∧ SeesTr W' x (cutO c t).1 ∧ x.small ∧ Below W.heap.size W W') :=
    fun W hb => rcut_any c t s st W (h.below hb) (ht.below hb) hs hst hlo hhi hb1 hw
  obtain ⟨T, hT⟩ : ∃ T, T = (cutO c t).1 := ⟨_, rfl⟩
  obtain ⟨L, hL⟩ : ∃ L, L = (cutO c t).2.1 := ⟨_, rfl⟩
  obtain ⟨er, her⟩ : ∃ z, z = (cutO c t).2.2 := ⟨_, rfl⟩
  rw [← hT, ← hL, ← her] at HCU1 HCU2
  rw [← hT] at hTB
  rw [← hL] at hLF
  obtain ⟨m, hm⟩ : ∃ m, m = L.length := ⟨_, rfl⟩
  rw [← hm] at HCU1 HCU2 hLF
  have HSR : Hid (∀ (x y : TSlots) W, SeesTr W x T → SeesTr W y T → x.small → Calls Try.prog 16 #[traceV T.bad x, traceV T.bad y] W fun e w' => e = .returned (.bool true) ∧ Below W.heap.size W w') := fun x y W h1 h2 h3 => by
    have h4 := sametr_any T T x y W h1 h2 h3 hTB hTB
    rw [show decide (T = T) = true from decide_eq_true rfl] at h4
    exact h4
  have HSO : Hid (∀ (x : TSlots) W, Below w.heap.size w W → SeesTr W x t → x.small → Calls Try.prog 16 #[traceV t.bad x, traceV t.bad st] W fun e w' => e = .returned (.bool true) ∧ Below W.heap.size W w') := fun x W hb h1 h3 => by
    have h4 := sametr_any t t x st W h1 (ht.below hb) h3 hb1 hb1
    rw [show decide (t = t) = true from decide_eq_true rfl] at h4
    exact h4
  obtain ⟨bd, hbd⟩ : ∃ z, z = T.bad := ⟨_, rfl⟩
  rw [← hbd] at HCU1 HCU2 HSR
  have HTB : Hid (∀ (ss ss' : List Slc) (xa : Option Addr) (xn xc : Nat) (ya : Option Addr) (yn yc : Nat) W, SeesF W xa xn xc ss S → SeesF W ya yn yc ss' S → Calls Try.prog 10 #[.slice xa xn xc, .slice ya yn yc] W fun e w' => e = .returned (.bool true) ∧ Below W.heap.size W w') := fun ss ss' xa xn xc ya yn yc W h1 h2 => by
    have h4 := tables_any S S ss ss' xa ya xn xc yn yc W h1 h2 (by have := h1.n_eq; have := HSN.out; omega)
    rw [show decide (S = S) = true from decide_eq_true rfl] at h4
    exact h4
  have HIN : Hid (∀ (a a' : Option Addr) (c c' : Nat) W, Sees W a m c (L.map iv) → Sees W a' m c' (L.map iv) → Calls Try.prog 17 #[.slice a m c, .slice a' m c'] W fun e w' => e = .returned (.bool true) ∧ Below W.heap.size W w') := fun a a' c c' W h1 h2 => ints_any L a a' m c c' W h1 h2 (by omega)
  obtain ⟨gq, hgq⟩ : ∃ g, g = great8 c t := ⟨_, rfl⟩
  rw [← hgq] at HGR
  clear hgq hS hef hAE hLF hTB hT hL her hm hbd h ht hs hst hlo hhi hb1 hw
  unfold cirV traceV at *
  go_enter Try.func3, Try.ntmps3
  go_upto_region 1 with fail
  generalize hW : World.alloc (World.alloc w _) _ = W1
  have hb : Below w.heap.size w W1 := by subst hW; exact ext_trans (ext_alloc _ _) (ext_alloc _ _)
  have hx : W1.heap[w.heap.size]? = some (.cells #[.int .i64 c.ins, .slice s.a1 s.n1 s.c1, .slice s.a2 s.n2 s.c2, .slice s.a3 s.n3 s.c3, .slice s.a4 s.n4 s.c4, .slice s.a5 s.n5 s.c5] 26 (0, 0)) := by subst hW; exact heap_below (heap_new _ _ _ rfl) (ext_alloc _ _)
  have hy : W1.heap[w.heap.size + 1]? = some (.cells #[.int .i64 t.bad, .slice st.a1 st.n1 st.c1, .slice st.a2 st.n2 st.c2] 30 (0, 0)) := by subst hW; exact heap_new _ _ _ (by simp)
  have HB := Lib.hid hb
  have HX := Lib.hid hx
  have HY := Lib.hid hy
  clear hW hb hx hy
  have p0 := cell_of_block (heap_below HX.out (Below.refl _ _)) 0
  have p1 := cell_of_block (heap_below HX.out (Below.refl _ _)) 1
  have p2 := cell_of_block (heap_below HX.out (Below.refl _ _)) 2
  have p3 := cell_of_block (heap_below HX.out (Below.refl _ _)) 3
  have p4 := cell_of_block (heap_below HX.out (Below.refl _ _)) 4
  have p5 := cell_of_block (heap_below HX.out (Below.refl _ _)) 5
  have r0 := cell_of_block (heap_below HY.out (Below.refl _ _)) 0
  have r1 := cell_of_block (heap_below HY.out (Below.refl _ _)) 1
  have r2 := cell_of_block (heap_below HY.out (Below.refl _ _)) 2
  go_wp2_with fail
  refine (HGR.out W1 HB.out).mono ?_
  rintro e W2 ⟨rfl, hb⟩
  have HBW := Lib.hid (ext_trans HB.out hb)
  have HB2 := Lib.hid hb
  clear hb
  clear p0 p1 p2 p3 p4 p5
  clear r0 r1 r2
  cases gq with
  | true =>
    go_wp2_with fail
    refine (HLV.out _).mono ?_
    rintro e W3 ⟨rfl, hb⟩
    have HB3 := Lib.hid (ext_trans HBW.out hb)
    clear hb
    go_wp2
    go_ret
    exact ⟨rfl, HB3.out⟩
  | false =>
  have r0 := cell_of_block (heap_below HY.out HB2.out) 0
  have r1 := cell_of_block (heap_below HY.out HB2.out) 1
  have r2 := cell_of_block (heap_below HY.out HB2.out) 2
  go_wp2_with fail
  refine (HCP.out W2 HBW.out).mono ?_
  rintro e W3 ⟨s', rfl, hO, hs', hb⟩
  have HBW3 := Lib.hid (ext_trans HBW.out hb)
  have HB3 := Lib.hid (ext_trans HB2.out hb)
  have HO3 := Lib.hid hO
  have HS' := Lib.hid hs'
  obtain ⟨b1, m1, d1, b2, m2, d2, ss'⟩ := s'
  clear r0 r1 r2 hb hO hs' HB2 HBW
  simp only at *
  go_upto_region 4 with fail
  generalize hW : World.alloc W3 _ = WB
  have hb : Below W3.heap.size W3 WB := by subst hW; exact ext_alloc _ _
  have hz : WB.heap[W3.heap.size]? = some (.cells #[.int .i64 t.bad, .slice b1 m1 d1, .slice b2 m2 d2] 30 (0, 0)) := by subst hW; exact heap_new _ _ _ rfl
  obtain ⟨Z, hZ⟩ : ∃ Z, Z = W3.heap.size := ⟨_, rfl⟩
  rw [← hZ] at hz
  try rw [← hZ]
  have HT := Lib.hid (HO3.out.below hb).sees
  have HXn := Lib.hid (heap_below HX.out (ext_trans HB3.out hb))
  have HYn := Lib.hid (heap_below HY.out (ext_trans HB3.out hb))
  have HZ := Lib.hid hz
  have HBW := Lib.hid (ext_trans HBW3.out hb)
  clear HX HY HO3 HB3 HBW3 hW hb hz hZ HB
  have HX := HXn
  have HY := HYn
  clear HXn HYn
  have p0 := cell_of_block (heap_below HX.out (Below.refl _ _)) 0
  have p1 := cell_of_block (heap_below HX.out (Below.refl _ _)) 1
  have p2 := cell_of_block (heap_below HX.out (Below.refl _ _)) 2
  have p3 := cell_of_block (heap_below HX.out (Below.refl _ _)) 3
  have p4 := cell_of_block (heap_below HX.out (Below.refl _ _)) 4
  have p5 := cell_of_block (heap_below HX.out (Below.refl _ _)) 5
  have z0 := cell_of_block (heap_below HZ.out (Below.refl _ _)) 0
  have z1 := cell_of_block (heap_below HZ.out (Below.refl _ _)) 1
  have z2 := cell_of_block (heap_below HZ.out (Below.refl _ _)) 2
  go_wp2_with fail
  refine (HST1.out ⟨b1, m1, d1, b2, m2, d2, ss'⟩ WB HBW.out HT.out HS'.out).mono ?_
  rintro e W4 ⟨la, ln, lc, ls, rfl, hl, hb⟩
  have HB4 := Lib.hid hb
  have HL4 := Lib.hid hl
  clear hb hl
  clear p0 p1 p2 p3 p4 p5
  clear z0 z1 z2
  have p0 := cell_of_block (heap_below HX.out HB4.out) 0
  have p1 := cell_of_block (heap_below HX.out HB4.out) 1
  have p2 := cell_of_block (heap_below HX.out HB4.out) 2
  have p3 := cell_of_block (heap_below HX.out HB4.out) 3
  have p4 := cell_of_block (heap_below HX.out HB4.out) 4
  have p5 := cell_of_block (heap_below HX.out HB4.out) 5
  have r0 := cell_of_block (heap_below HY.out HB4.out) 0
  have r1 := cell_of_block (heap_below HY.out HB4.out) 1
  have r2 := cell_of_block (heap_below HY.out HB4.out) 2
  go_wp2_with fail
  refine (HST2.out W4 (ext_trans HBW.out HB4.out)).mono ?_
  rintro e W5 ⟨ka, kn, kc, ks, rfl, hk, hb⟩
  have HB5 := Lib.hid (ext_trans HB4.out hb)
  have HL5 := Lib.hid (HL4.out.below hb)
  have HK5 := Lib.hid hk
  clear hb hk HL4
  clear p0 p1 p2 p3 p4 p5
  clear r0 r1 r2
  go_wp2_with fail
  refine (HTB.out _ _ _ _ _ _ _ _ W5 HL5.out.sees HK5.out).mono ?_
  rintro e W6 ⟨rfl, hb⟩
  have HB6 := Lib.hid (ext_trans HB5.out hb)
  have HL6 := Lib.hid (HL5.out.below hb)
  have HLN : Hid (ln ≤ 256) := by unfold Hid; rw [← HL5.out.len]; exact HSN.out
  have HBI : Hid (BuInv WB.heap.size WB la ln lc ls W6) := ⟨HL6.out.row, fun j hj => ⟨_, _, HL6.out.rows j hj⟩, HB6.out⟩
  clear hb HL5 HK5 HB4 HB5 HL6
  go_wp2
  go_loopw [51, 10] (fun i _ wr => ∃ k : Nat, k ≤ ln ∧ i = .int .i64 k ∧ Hid (BuInv WB.heap.size WB la ln lc ls wr)) (fun i _ _ => ln - (intOf i).toNat)
  case atStart => exact ⟨0, Nat.zero_le _, rfl, HBI.out⟩
  case round =>
    obtain ⟨k, hk, rfl, hI⟩ := hrel
    by_cases hlt : k < ln
    · obtain ⟨lb, lo, rfl, _⟩ := (owns_sees_slice hI.out.list).2.addr (show 0 < ln by omega)
      have hcx := (owns_sees_slice hI.out.list).2.slc_at k hlt
      obtain ⟨q, ys, hr⟩ := hI.out.rows k hlt
      obtain ⟨x, hx⟩ : ∃ x : Slc, x = ls.getD k slc0 := ⟨_, rfl⟩
      rw [← hx] at hcx hr
      obtain ⟨xa, xn, xc⟩ := x
      simp only [slV] at hcx hr
      have HBU := Lib.hid (burn_any ys _ q WB.heap.size wr hr)
      have hI1 : ((k : Nat) : Int) < (ln : Int) := by omega
      have hI0 : (0 : Int) ≤ (k : Int) := by omega
      have W1' : IntKind.i64.wrap ((k : Int) + 1) = (k : Int) + 1 := IntWalk.i64_in _ (by have := HLN.out; omega)
      clear hx hr
      go_wp2_with fail
      refine HBU.out.mono ?_
      rintro e wn ⟨rfl, hbu⟩
      have HI2 := Lib.hid (hI.out.step hbu (Nat.le_refl _))
      clear hcx hbu hI HBU
      go_wp2
      go_roundw
      case rel => exact ⟨k + 1, by omega, by go_num, HI2.out⟩
      case measure => simp [intOf]; omega
    · obtain rfl : k = ln := by omega
      have HB7 := Lib.hid hI.out.low
      clear hI hlt HBI
      have p0 := cell_of_block (heap_below HX.out HB7.out) 0
      have p1 := cell_of_block (heap_below HX.out HB7.out) 1
      have p2 := cell_of_block (heap_below HX.out HB7.out) 2
      have p3 := cell_of_block (heap_below HX.out HB7.out) 3
      have p4 := cell_of_block (heap_below HX.out HB7.out) 4
      have p5 := cell_of_block (heap_below HX.out HB7.out) 5
      have z0 := cell_of_block (heap_below HZ.out HB7.out) 0
      have z1 := cell_of_block (heap_below HZ.out HB7.out) 1
      have z2 := cell_of_block (heap_below HZ.out HB7.out) 2
      go_wp2_with fail
      refine (HAG1.out ⟨b1, m1, d1, b2, m2, d2, ss'⟩ wr (ext_trans HBW.out HB7.out) (HT.out.below HB7.out) HS'.out).mono ?_
      rintro e W8 ⟨rfl, hb⟩
      have HB8 := Lib.hid (ext_trans HB7.out hb)
      clear hb
      clear p0 p1 p2 p3 p4 p5
      clear z0 z1 z2
      have p0 := cell_of_block (heap_below HX.out HB8.out) 0
      have p1 := cell_of_block (heap_below HX.out HB8.out) 1
      have p2 := cell_of_block (heap_below HX.out HB8.out) 2
      have p3 := cell_of_block (heap_below HX.out HB8.out) 3
      have p4 := cell_of_block (heap_below HX.out HB8.out) 4
      have p5 := cell_of_block (heap_below HX.out HB8.out) 5
      have r0 := cell_of_block (heap_below HY.out HB8.out) 0
      have r1 := cell_of_block (heap_below HY.out HB8.out) 1
      have r2 := cell_of_block (heap_below HY.out HB8.out) 2
      go_wp2_with fail
      refine (HAG2.out W8 (ext_trans HBW.out HB8.out)).mono ?_
      rintro e W9 ⟨rfl, hb⟩
      have HB9 := Lib.hid (ext_trans HB8.out hb)
      clear hb
      clear p0 p1 p2 p3 p4 p5
      clear r0 r1 r2
      have p0 := cell_of_block (heap_below HX.out HB9.out) 0
      have p1 := cell_of_block (heap_below HX.out HB9.out) 1
      have p2 := cell_of_block (heap_below HX.out HB9.out) 2
      have p3 := cell_of_block (heap_below HX.out HB9.out) 3
      have p4 := cell_of_block (heap_below HX.out HB9.out) 4
      have p5 := cell_of_block (heap_below HX.out HB9.out) 5
      have z0 := cell_of_block (heap_below HZ.out HB9.out) 0
      have z1 := cell_of_block (heap_below HZ.out HB9.out) 1
      have z2 := cell_of_block (heap_below HZ.out HB9.out) 2
      go_wp2_with fail
      refine (HCU1.out ⟨b1, m1, d1, b2, m2, d2, ss'⟩ W9 (ext_trans HBW.out HB9.out) (HT.out.below HB9.out) HS'.out).mono ?_
      rintro e W10 ⟨x, ia, ic, rfl, hi, hx, hxs, hb⟩
      have HB10 := Lib.hid (ext_trans HB9.out hb)
      have HI10 := Lib.hid hi
      have HX10 := Lib.hid hx
      have HXS := Lib.hid hxs
      clear hb hi hx hxs
      clear p0 p1 p2 p3 p4 p5
      clear z0 z1 z2
      go_upto_region 18 with fail
      generalize hW : World.alloc W10 _ = W11
      have hb : Below W10.heap.size W10 W11 := by subst hW; exact ext_alloc _ _
      have hp : W11.heap[W10.heap.size]? = some (.cells #[.int .i64 bd, .slice x.a1 x.n1 x.c1, .slice x.a2 x.n2 x.c2] 30 (0, 0)) := by subst hW; exact heap_new _ _ _ rfl
      obtain ⟨P, hP⟩ : ∃ P, P = W10.heap.size := ⟨_, rfl⟩
      rw [← hP] at hp
      try rw [← hP]
      have HP11 := Lib.hid hp
      have HB11 := Lib.hid (ext_trans HB10.out hb)
      have HI11 := Lib.hid (HI10.out.below hb)
      have HX11 := Lib.hid (HX10.out.below hb)
      clear hW hb hp hP HB10 HI10 HX10
      have p0 := cell_of_block (heap_below HX.out HB11.out) 0
      have p1 := cell_of_block (heap_below HX.out HB11.out) 1
      have p2 := cell_of_block (heap_below HX.out HB11.out) 2
      have p3 := cell_of_block (heap_below HX.out HB11.out) 3
      have p4 := cell_of_block (heap_below HX.out HB11.out) 4
      have p5 := cell_of_block (heap_below HX.out HB11.out) 5
      have r0 := cell_of_block (heap_below HY.out HB11.out) 0
      have r1 := cell_of_block (heap_below HY.out HB11.out) 1
      have r2 := cell_of_block (heap_below HY.out HB11.out) 2
      go_wp2_with fail
      refine (HCU2.out W11 (ext_trans HBW.out HB11.out)).mono ?_
      rintro e W12 ⟨y, ja, jc, rfl, hj, hy, hys, hb⟩
      have HB12 := Lib.hid (ext_trans HB11.out hb)
      have HI12 := Lib.hid (HI11.out.below hb)
      have HX12 := Lib.hid (HX11.out.below hb)
      have HP12 := Lib.hid (heap_below HP11.out hb)
      have HJ12 := Lib.hid hj
      have HY12 := Lib.hid hy
      clear hb hj hy hys HB11 HI11 HX11 HP11
      clear p0 p1 p2 p3 p4 p5
      clear r0 r1 r2
      go_upto_region 19 with fail
      generalize hW : World.alloc W12 _ = W13
      have hb : Below W12.heap.size W12 W13 := by subst hW; exact ext_alloc _ _
      have hp : W13.heap[W12.heap.size]? = some (.cells #[.int .i64 bd, .slice y.a1 y.n1 y.c1, .slice y.a2 y.n2 y.c2] 30 (0, 0)) := by subst hW; exact heap_new _ _ _ rfl
      have HB13 := Lib.hid (ext_trans HB12.out hb)
      have HI13 := Lib.hid (HI12.out.below hb)
      have HX13 := Lib.hid (HX12.out.below hb)
      have HP13 := Lib.hid (heap_below HP12.out hb)
      have HJ13 := Lib.hid (HJ12.out.below hb)
      have HY13 := Lib.hid (HY12.out.below hb)
      have q0 : W13.cell? ⟨P, 0, none⟩ = some (.int .i64 bd) := cell_of_block HP13.out 0
      have q1 : W13.cell? ⟨P, 1, none⟩ = some (.slice x.a1 x.n1 x.c1) := cell_of_block HP13.out 1
      have q2 : W13.cell? ⟨P, 2, none⟩ = some (.slice x.a2 x.n2 x.c2) := cell_of_block HP13.out 2
      have s0 := cell_of_block hp 0
      have s1 := cell_of_block hp 1
      have s2 := cell_of_block hp 2
      clear hW hb hp HB12 HI12 HX12 HP12 HJ12 HY12
      go_wp2_with fail
      refine (HSR.out x y W13 HX13.out.sees HY13.out HXS.out).mono ?_
      rintro e W14 ⟨rfl, hb⟩
      have HB14 := Lib.hid (ext_trans HB13.out hb)
      have HI14 := Lib.hid (HI13.out.below hb)
      have HX14 := Lib.hid (HX13.out.below hb)
      have HP14 := Lib.hid (heap_below HP13.out hb)
      have HJ14 := Lib.hid (HJ13.out.below hb)
      clear hb q0 q1 q2 s0 s1 s2 HB13 HI13 HX13 HP13 HJ13 HY13
      go_wp2_with fail
      refine (HIN.out _ _ _ _ W14 HI14.out HJ14.out).mono ?_
      rintro e W15 ⟨rfl, hb⟩
      have HB15 := Lib.hid (ext_trans HB14.out hb)
      have HX15 := Lib.hid (HX14.out.below hb)
      have HP15 := Lib.hid (heap_below HP14.out hb)
      have HXN : Hid (x.n2 ≤ 1048576) := HXS.out.n2
      have HBS := Lib.hid HB9.out.size
      have HBI : Hid (Bu2 W9.heap.size WB P bd x W15) := by
        have hn : T.frames.length = x.n2 := HX15.out.ll.len
        exact ⟨⟨HX15.out.ll.row, fun j hj => ⟨_, _, HX15.out.ll.rows j hj⟩, HB15.out⟩, HP15.out, ⟨_, _, HX15.out.o1⟩⟩
      have q2 : W15.cell? ⟨P, 2, none⟩ = some (.slice x.a2 x.n2 x.c2) := cell_of_block HP15.out 2
      clear hb HB14 HI14 HX14 HP14 HJ14 HX15 HP15 HB15 HB9 HB8 HB7
      go_wp2
      clear q2
      go_loopw [119, 21] (fun i _ wr => ∃ k : Nat, k ≤ x.n2 ∧ i = .int .i64 k ∧ Hid (Bu2 W9.heap.size WB P bd x wr)) (fun i _ _ => x.n2 - (intOf i).toNat)
      case atStart => exact ⟨0, Nat.zero_le _, rfl, HBI.out⟩
      case round =>
        obtain ⟨k, hk, rfl, hI⟩ := hrel
        have q2 : wr.cell? ⟨P, 2, none⟩ = some (.slice x.a2 x.n2 x.c2) := cell_of_block hI.out.box 2
        by_cases hlt : k < x.n2
        · obtain ⟨lb, lo, hxa, _⟩ := (owns_sees_slice hI.out.bu.list).2.addr (show 0 < x.n2 by omega)
          have hls := (owns_sees_slice hI.out.bu.list).2
          rw [hxa] at hls q2
          have hcx := hls.slc_at k hlt
          obtain ⟨q, ys, hr⟩ := hI.out.bu.rows k hlt
          obtain ⟨f, hf⟩ : ∃ f : Slc, f = x.ss.getD k slc0 := ⟨_, rfl⟩
          rw [← hf] at hcx hr
          obtain ⟨xa, xn, xc⟩ := f
          simp only [slV] at hcx hr
          have HBU := Lib.hid (burn_any ys _ q W9.heap.size wr hr)
          have hI1 : ((k : Nat) : Int) < (x.n2 : Int) := by omega
          have hI0 : (0 : Int) ≤ (k : Int) := by omega
          have W1' : IntKind.i64.wrap ((k : Int) + 1) = (k : Int) + 1 := IntWalk.i64_in _ (by have := HXN.out; omega)
          clear hf hr hls hxa
          go_wp2_with fail
          refine HBU.out.mono ?_
          rintro e wn ⟨rfl, hbu⟩
          have HI2 := Lib.hid (hI.out.step hbu HBS.out)
          clear hcx hbu hI HBU q2
          go_wp2
          go_roundw
          case rel => exact ⟨k + 1, by omega, by go_num, HI2.out⟩
          case measure => simp [intOf]; omega
        · obtain rfl : k = x.n2 := by omega
          obtain ⟨q, ys, hr⟩ := hI.out.ini
          have HBU := Lib.hid (burn_any ys _ q W9.heap.size wr hr)
          have q1 : wr.cell? ⟨P, 1, none⟩ = some (.slice x.a1 x.n1 x.c1) := cell_of_block hI.out.box 1
          clear q2 hr hlt
          go_wp2_with fail
          refine HBU.out.mono ?_
          rintro e W16 ⟨rfl, hbu⟩
          have HI2 := Lib.hid (hI.out.step hbu HBS.out).bu.low
          clear hbu hI HBU q1 HBI
          have r0 := cell_of_block (heap_below HY.out HI2.out) 0
          have r1 := cell_of_block (heap_below HY.out HI2.out) 1
          have r2 := cell_of_block (heap_below HY.out HI2.out) 2
          have z0 := cell_of_block (heap_below HZ.out HI2.out) 0
          have z1 := cell_of_block (heap_below HZ.out HI2.out) 1
          have z2 := cell_of_block (heap_below HZ.out HI2.out) 2
          go_wp2_with fail
          refine (HSO.out ⟨b1, m1, d1, b2, m2, d2, ss'⟩ W16 (ext_trans HBW.out HI2.out) (HT.out.below HI2.out) HS'.out).mono ?_
          rintro e W17 ⟨rfl, hb⟩
          have HB17 := Lib.hid (ext_trans HI2.out hb)
          clear r0 r1 r2 z0 z1 z2 hb
          go_wp2_with fail
          refine (HLV.out _).mono ?_
          rintro e W18 ⟨rfl, hb⟩
          have HB18 := Lib.hid (ext_trans HBW.out (ext_trans HB17.out hb))
          clear hb
          go_wp2
          go_ret
          exact ⟨rfl, HB18.out⟩
end Go.Proofs.Ytgpkghlhlabjcaa
/- A circuit and a trace that came in: their lists are slices that read as numbers. -/
namespace Go.Proofs.Ytgpkghlhlabjcaa
open Go Go.ChangeShapes Go.WideShapes Go.ChangeAt Go.RowKit Go.WideElems Go.Deep Go.Joins

section
variable {H : Type} {enc : TypeId × Value → H} {W : World}

set_option maxRecDepth 100000 in
/-- A list of bytes, by its reading. -/
theorem open_bytes {fuel : Nat} {v : Value} {x : DataW H × List MemPlace} (h : DataW.trod enc Try.prog W 0 (fun _ => true) true fuel 27 [v] = some x) :
    ∃ a n c bs, v = .slice a n c ∧ Sees W a n c (List.map bv bs) ∧ n ≤ Rows.uptoBulk x.1 := by
  rcases open_ints Try.underlying27 Try.underlying5 (by kernel_rfl) h with ⟨hcs, hx⟩ | ⟨a, len', cap', zs, hcs, _, hl, hm, hz, hx, hcell, hwz⟩
  · cases hcs
    exact ⟨_, _, _, [], rfl, Sees.nil _ _ _ (fun _ => rfl), by omega⟩
  · cases hcs
    subst hx
    simp only [if_true] at hz
    have hbs : ((zs.take len').map fun z => UInt8.ofNat z.toNat).map bv = (zs.take len').map (Value.int .u8) := by
      rw [List.map_map]
      apply List.map_congr_left
      intro z hz'
      have hw := bounds_u8 (hwz z (List.mem_of_mem_take hz'))
      show bv (UInt8.ofNat z.toNat) = _
      unfold bv
      congr 1
      rw [UInt8.toNat_ofNat']
      omega
    have hbulk : len' ≤ Rows.uptoBulk (DataW.slice (H := H) (lits .u8 (zs.take len')) (lits .u8 (zs.drop len'))) := by
      have h2 := bulk_slice (lits (H := H) .u8 (zs.take len')) (lits .u8 (zs.drop len'))
      have h3 : (lits (H := H) .u8 (zs.take len')).length = len' := by simp [lits]; omega
      omega
    refine ⟨_, _, _, (zs.take len').map fun z => UInt8.ofNat z.toNat, rfl, ⟨by simp; omega, hl, (fun e => by cases e), fun h0 => ?_⟩, hbulk⟩
    obtain ⟨b, off, rfl, hc⟩ := ints_at hcell (by omega)
    refine ⟨b, off, rfl, World.block_lt_of_cell? W ⟨b, off + 0, none⟩ (hc 0 (by omega)), fun j hj => ?_⟩
    rw [hbs, hc j (by omega)]
    simp [List.getD, List.getElem?_eq_getElem (show j < zs.length by omega), List.getElem?_take_of_lt hj]

set_option maxRecDepth 100000 in
/-- Lists of bytes, by their reading. -/
theorem open_frames {fuel : Nat} {v : Value} {x : DataW H × List MemPlace} (h : DataW.trod enc Try.prog W 0 (fun _ => true) true fuel 28 [v] = some x) :
    ∃ a n c ss fs, v = .slice a n c ∧ SeesF W a n c ss fs ∧ n ≤ Rows.uptoBulk x.1 ∧ ∀ s ∈ ss, s.2.1 ≤ Rows.uptoBulk x.1 := by
  rcases Go.Deep.open_slice Try.underlying28 h with ⟨hcs, hx⟩ | ⟨a, len, cap, m, nf, D, Pl, hcs, _, hl, hm, hmm, hx, hi⟩
  · cases hcs
    exact ⟨none, 0, 0, [], [], rfl, ⟨Sees.nil _ _ _ (fun _ => rfl), rfl, fun k hk => absurd hk (by simp)⟩, Nat.zero_le _, by simp⟩
  · cases hcs
    have hC : Try.prog.cellsOf 27 = 1 := by kernel_rfl
    have hmc : m = cap := by rw [hmm]; simp
    subst hx
    have key : ∀ i, ∃ t : Slc × List UInt8, i < len → (W.cell? (a.add i) = some (slV t.1) ∧ Sees W t.1.1 t.1.2.1 t.1.2.2 (t.2.map bv) ∧ t.1.2.1 ≤ Rows.uptoBulk (D i)) := by
      intro i
      by_cases hil : i < len
      · obtain ⟨cs', hc, ht'⟩ := hi i (by omega)
        rw [hC] at hc
        obtain ⟨_, hcl, hat⟩ := World.cells?_some hc
        match cs', hcl with
        | [u], _ =>
          obtain ⟨a', n', c', bs, rfl, hs, hb⟩ := open_bytes ht'
          refine ⟨((a', n', c'), bs), fun _ => ⟨?_, hs, hb⟩⟩
          have h0 := hat 0 (by omega)
          rw [Nat.mul_one] at h0
          have hz : (a.add i).add 0 = a.add i := by unfold Addr.add; split <;> simp_all
          rw [hz] at h0
          simpa [slV] using h0
      · exact ⟨(slc0, []), fun h => absurd h hil⟩
    obtain ⟨F, hF⟩ : ∃ F : Nat → Slc × List UInt8, ∀ i, i < len → (W.cell? (a.add i) = some (slV (F i).1) ∧ Sees W (F i).1.1 (F i).1.2.1 (F i).1.2.2 ((F i).2.map bv) ∧ (F i).1.2.1 ≤ Rows.uptoBulk (D i)) := ⟨fun i => Classical.choose (key i), fun i => Classical.choose_spec (key i)⟩
    have hat : ∀ {α : Type} (f : Nat → α) (d : α) (k : Nat), k < len → ((List.range len).map f).getD k d = f k := fun f d k hk => by simp [List.getD, hk]
    have hbk : ∀ i, i < len → Rows.uptoBulk (D i) ≤ Rows.uptoBulk (DataW.slice ((List.range len).map D) ((List.range (m - len)).map fun j => D (len + j))) := fun i hi' => by
      have := bulk_part (show D i ∈ (List.range len).map D by simp; exact ⟨i, hi', rfl⟩)
      simp only [Rows.uptoBulk]
      omega
    refine ⟨some a, len, cap, (List.range len).map fun i => (F i).1, (List.range len).map fun i => (F i).2, rfl, ⟨⟨by simp, hl, (fun e => by cases e), fun h0 => ?_⟩, by simp, fun k hk => ?_⟩, ?_, ?_⟩
    · obtain ⟨b, off, spot⟩ := a
      have h00 := (hF 0 h0).1
      have hspot : spot = none := by simpa [Addr.add] using World.cell?_spot h00
      subst hspot
      have hadd : ∀ j, (⟨b, off, none⟩ : Addr).add j = ⟨b, off + j, none⟩ := by intro j; unfold Addr.add; split <;> simp_all
      refine ⟨b, off, rfl, ?_, fun j hj => ?_⟩
      · rw [hadd] at h00
        exact cell_lt h00
      · rw [← hadd, (hF j hj).1]
        simp [hj]
    · have hk' : k < len := by simpa using hk
      rw [hat _ _ k hk', hat _ _ k hk']
      exact (hF k hk').2.1
    · have h2 := bulk_slice ((List.range len).map D) ((List.range (m - len)).map fun j => D (len + j))
      simpa using h2
    · intro s hs
      simp only [List.mem_map, List.mem_range] at hs
      obtain ⟨i, hi', rfl⟩ := hs
      exact Nat.le_trans (hF i hi').2.2 (hbk i hi')

set_option maxRecDepth 100000 in
/-- A trace that came in. -/
theorem open_trace {v : Value} {d : DataW H} {p : List MemPlace} {base : Nat} (hv : Value.okWide Try.prog W .any base 30 v) (h : DataW.Trod enc Try.prog W 0 (fun _ => true) true 30 v d p) :
    ∃ (t : TraceC) (s : TSlots), v = traceV t.bad s ∧ SeesTr W s t ∧ -9223372036854775808 ≤ t.bad ∧ t.bad < 9223372036854775808 ∧ s.n1 ≤ Rows.uptoBulk d ∧ s.n2 ≤ Rows.uptoBulk d ∧ ∀ x ∈ s.ss, x.2.1 ≤ Rows.uptoBulk d := by
  obtain ⟨cs, rfl, hsz⟩ := okWide_struct Try.underlying30 hv
  have hC : Try.prog.cellsOf 30 = 3 := by kernel_rfl
  have k22 : Try.prog.cellsOf 3 = 1 := by kernel_rfl
  obtain ⟨l⟩ := cs
  match l, hsz.trans hC with
  | [v0, v1, v2], _ =>
    obtain ⟨fuel, hf⟩ := h
    obtain ⟨xs, n, _, hx, _, hlen, hg⟩ := DataW.trod_struct Try.underlying30 hf
    match xs, hlen with
    | [y0, y1, y2], _ =>
      simp only [Prod.mk.injEq] at hx
      have g0 := hg 0 _ rfl
      have g1 := hg 1 _ rfl
      have g2 := hg 2 _ rfl
      simp only [Value.cells] at g0 g1 g2
      obtain ⟨z, hz, _, hw⟩ := DataW.trod_int Try.underlying3 g0
      obtain ⟨a1, n1, c1, l1, e1, s1, b1⟩ := open_bytes (v := v1) g1
      obtain ⟨a2, n2, c2, ss, fs, e2, s2, b2, q2⟩ := open_frames (v := v2) g2
      subst e1; subst e2
      have hz2 : List.take (Try.prog.cellsOf 3) [v0, .slice a1 n1 c1, .slice a2 n2 c2] = [.int .i64 z] := hz
      have hv0 : v0 = .int .i64 z := by rw [k22] at hz2; simpa using hz2
      have hbz := bounds_i64 hw
      have hd : d = .agg [y0.1, y1.1, y2.1] := by simpa using hx.1
      have hbk : ∀ y ∈ [y0.1, y1.1, y2.1], Rows.uptoBulk y ≤ Rows.uptoBulk d := fun y hy => by
        have := bulk_part hy
        rw [hd]
        simp only [Rows.uptoBulk]
        omega
      refine ⟨⟨z, l1, fs⟩, ⟨a1, n1, c1, a2, n2, c2, ss⟩, ?_, ⟨s1, s2⟩, by simp only; omega, by simp only; omega, Nat.le_trans b1 (hbk _ (by simp)), Nat.le_trans b2 (hbk _ (by simp)), fun x hx' => Nat.le_trans (q2 x hx') (hbk _ (by simp))⟩
      unfold traceV
      rw [hv0]
end
end Go.Proofs.Ytgpkghlhlabjcaa
namespace Go.Proofs.Ytgpkghlhlabjcaa.loopTells
open Go Go.ChangeShapes Go.WideShapes Go.ChangeAt Go.RowKit

set_option maxRecDepth 100000 in
set_option maxHeartbeats 1600000 in
theorem contract (H : Type) (enc : TypeId × Value → H) (W : World) (base : Nat) (args : Array Value) (ds gs : List (DataW H)) (before : List MemPlace)
    (hval : ∀ (j : Nat) t v, Try.f3.params[j]? = some t → args[j]? = some v → Value.okWide Try.prog W .any base t v)
    (hW : DataW.Whole enc Try.prog Try.f3.params.toList Rows.loopTellsSpec.vars false W args.toList ds gs before)
    (hk : Rows.uptoSmall H (ds ++ gs) = true) :
    Calls Try.prog 3 args W fun e W' => ∃ v, e = .returned v ∧ Rows.loopTellsSpec.post enc Try.prog Try.f3 false true false false W args v W' := by
  have hW' := hW
  obtain ⟨p, q, hA0, hV, rfl, hfz, hnd⟩ := hW
  have hA : DataW.TrodAll enc Try.prog W 0 (fun _ => true) true Try.f3.params.toList args.toList ds p := hA0
  rw [Try.params3] at hA hval
  obtain ⟨v0, vs0, d0, ds0, p0, q0, hargs, rfl, rfl, h0, r0⟩ := trodAll_cons hA
  obtain ⟨v1, vs1, d1, ds1, p1, q1, rfl, rfl, rfl, h1, r1⟩ := trodAll_cons r0
  obtain ⟨rfl, rfl, rfl⟩ := trodAll_nil r1
  obtain rfl : args = #[v0, v1] := by cases args; simp_all
  obtain ⟨rfl, rfl⟩ := trodVars_none hV
  have hb := bulk_bound hk
  have hb0 := bulk_part (d := d0) (l := [d0, d1] ++ []) (by simp)
  obtain ⟨c0, s0, rfl, hs0, lo0, hi0, m01, m02, m03, m04, m05, w01, w02, w03, w04, w05⟩ := open_cir (hval 0 26 _ rfl rfl) h0
  have sm0 : s0.small := ⟨by omega, by omega, by omega, by omega, by omega⟩
  have wd0 : Wide c0 := ⟨w01, w02, w03, w04, w05⟩
  have hb1 := bulk_part (d := d1) (l := [d0, d1] ++ []) (by simp)
  obtain ⟨t1, s1, rfl, hs1, lo1, hi1, m11, m12, m13⟩ := open_trace (hval 1 30 _ rfl rfl) h1
  have sm1 : s1.small := ⟨by omega, by omega, fun x hx => by have := m13 x hx; omega⟩
  clear hA0 hA
  refine (tells8_any c0 t1 s0 s1 W hs0 hs1 sm0 sm1 lo0 hi0 ⟨lo1, hi1⟩ wd0).mono fun e W' ⟨he, hbel⟩ => ?_
  subst he
  exact ⟨_, rfl, law_end laidOut (by decide +kernel) rfl rfl Try.underlying4 hW' rfl rfl rfl hbel⟩

set_option maxRecDepth 100000 in
theorem lifted (os : Os) (started : os.Started) (H : Type) (enc : TypeId × Value → H) (F : Stop.Interp) :
    ReturnsInHanded {} Try.checked os 3 .any ((Rows.OpenSpec.upto Rows.loopTellsSpec).pre6 enc Try.prog Try.f3 Rows.loopTellsUptoRow.domain false) (((Rows.OpenSpec.upto Rows.loopTellsSpec).at F).post enc Try.prog Try.f3 false true false false) := by
  refine returnsInHanded_of_cond (C := Try.checked) (s := Rows.OpenSpec.upto Rows.loopTellsSpec) (k := Rows.uptoSmall) rfl own started (by kernel_rfl) Try.func3
    (OpenSpec.witness (enc := enc) (C := Try.checked) (s := Rows.OpenSpec.upto Rows.loopTellsSpec) (k := Rows.uptoSmall) rfl false ⟨#[], #[.agg #[.int .i64 0, .slice none 0 0, .slice none 0 0, .slice none 0 0, .slice none 0 0, .slice none 0 0], .agg #[.int .i64 0, .slice none 0 0, .slice none 0 0]], []⟩ 8 (by kernel_rfl) (by kernel_rfl) (by kernel_rfl)
      (x := ([.agg [.lit (.int .i64 0), .nil, .nil, .nil, .nil, .nil], .agg [.lit (.int .i64 0), .nil, .nil]], [], [])) (by kernel_rfl) rfl (by kernel_rfl)) ?_
  intro W base args ds gs before hval hW _ hk _
  exact contract H enc W base args ds gs before hval hW hk

theorem proved : Rows.LoopTellsUptoSaid :=
  OpenClaim.holds_of_cond 3 Try.f3 rfl rfl rfl rfl rfl rfl rfl ⟨rfl, rfl, rfl, rfl, rfl⟩ rfl rfl rfl rfl rfl (by kernel_rfl) Try.func3 (by kernel_rfl)
    (of_decide_eq_true (by kernel_rfl)) (by unfold Func.isWrapper; first | (rw [if_pos (by decide +kernel)]; kernel_rfl) | (rw [if_neg (by decide +kernel)]; exact ⟨rfl, rfl⟩))
    (fun os started H enc _ F => lifted os started H enc F)
end Go.Proofs.Ytgpkghlhlabjcaa.loopTells
