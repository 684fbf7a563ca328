/- cone.nexts, by its contract. -/
import Derived.Test.YtdheldhecimfnaaLib
import Derived.Test.YtdheldhecimfnaaNBase
import Derived.Test.YtdheldhecimfnaaNOwnsN
import Derived.Test.YtdheldhecimfnaaNSpec
import Derived.Test.YtdheldhecimfnaaNVal
import Derived.Test.YtdheldhecimfnaaNTrace
import Derived.Test.YtdheldhecimfnaaNCirc
import Derived.Test.YtdheldhecimfnaaCnSpec
import Derived.Test.YtdheldhecimfnaaCnSmall
import Derived.Test.YtdheldhecimfnaaRows
import Derived.BigQuiet
import Derived.Deep.AppendLies
import Derived.Deep.CutRange
import Derived.Deep.QuietTactic
import Derived.Deep.RegionHeld3
import Derived.Deep.RegionLaw
import Derived.Deep.RegionWith
import Derived.KernelRfl
import Derived.Laws.EntriesVeiled
import Derived.Laws.Tables
import Derived.Lib.AppendStr
import Derived.Lib.ConvBytes
import Derived.Lib.Hide
import Derived.Lib.SlBytesRow
import Derived.Lib.SmallJoins
import Derived.Maps.AppendAt
import Derived.OrdersHeld
import Derived.Shelf.Bytes.SlSmallAll
import Derived.WalkKit
import Derived.WalkLawsBesides
import Derived.WalkSpells
namespace Go.Proofs.Ytdheldhecimfnaa
open Go Go.RowKit Go.Joins

theorem Sees.bool_at {w : World} {b off n c : Nat} {M : List Bool} (h : Sees w (some ⟨b, off, .none⟩) n c (M.map Value.bool)) (j : Nat) (hj : j < n) : w.cell? ⟨b, off + j, .none⟩ = some (.bool (M.getD j false)) := by
  have hl : M.length = n := h.lenMap
  rw [(h.cell j hj).2]
  simp [List.getD, List.getElem?_eq_getElem (show j < M.length by omega)]
/-- What nexts answers. -/
def NextsPost (L : List Nat) (w : World) (e : Ending) (w' : World) : Prop :=
  ∃ (a : Option Addr) (c : Nat), e = .returned (.slice a L.length c) ∧ w'.ownsRow w.heap.size 53 1 (.slice a L.length c) L.length (L.map nv32) ∧ Below w.heap.size w w'

set_option maxRecDepth 100000 in
set_option maxHeartbeats 3200000 in
theorem nexts_any (c : NormC) (M : List Bool) (s : CSlots) (a : Option Addr) (n cp : Nat) (w : World) (h : SeesCir w s c) (hs : s.small) (hm : MayC c) (hl : Sees w a n cp (M.map Value.bool)) (hn : n = 1 + varsN c) :
    Calls Try.prog 36 #[cirV c.ins s, .slice a n cp] w (NextsPost (nxL c M) w) := by
  obtain ⟨i0, hi, hz0, hz1, hz2⟩ := info_parts info_u32
  obtain ⟨i, hii, hi2, hL, hG⟩ := insN hm
  have HF := fun W => cfirstLatch_any i s (by omega) W
  have hl1 : c.lats.length = s.n1 := h.s1.1
  have hfew := hm.few
  obtain ⟨FL, hFL⟩ : ∃ FL, FL = 1 + i := ⟨_, rfl⟩
  rw [← hFL] at HF
  have hLL : fstL c = FL := by rw [hL, hFL]
  have hvn : FL + s.n1 ≤ n := by unfold varsN at hn; unfold fstL at hLL; omega
  have hFLs : FL ≤ 20000 := by omega
  have hns : s.n1 ≤ 1048576 := hs.n1
  have HS := Lib.hid h
  have HM := Lib.hid hl
  have HPOST : Hid (∀ (a : Option Addr) (cc : Nat) w', w'.ownsRow w.heap.size 53 1 (.slice a (nxP c M s.n1).length cc) (nxP c M s.n1).length ((nxP c M s.n1).map nv32) → Below w.heap.size w w' → NextsPost (nxL c M) w (.returned (.slice a (nxP c M s.n1).length cc)) w') := fun a cc w' h1 h2 => by
    rw [← hl1, nxP_all] at h1 ⊢
    exact ⟨a, cc, rfl, h1, h2⟩
  have HYES : Hid (∀ k, M.getD (FL + k) false = true → nxP c M (k + 1) = nxP c M k ++ [(c.lats.getD k (0, 0)).1]) := fun k hk => nxP_yes (by rw [hLL]; exact hk)
  have HNO : Hid (∀ k, M.getD (FL + k) false = false → nxP c M (k + 1) = nxP c M k) := fun k hk => nxP_no (by rw [hLL]; exact hk)
  have HPL : Hid (∀ k, (nxP c M k).length ≤ k) := nxP_len c M
  rw [hii]
  have HFF := Lib.hid HF
  clear hii hL hG hl1 hFL hLL h hs hm hfew HF hl hn
  obtain ⟨a1, n1, c1, a2, n2, c2, a3, n3, c3, a4, n4, c4, a5, n5, c5⟩ := s
  simp only at hvn hns HPOST
  unfold cirV at *
  go_enter Try.func36, Try.ntmps36
  go_upto_region 1 with fail
  generalize hW : World.alloc w _ = W1
  have hX : W1.heap[w.heap.size]? = some (.cells #[.int .i64 i, .slice a1 n1 c1, .slice a2 n2 c2, .slice a3 n3 c3, .slice a4 n4 c4, .slice a5 n5 c5] 26 (0, 0)) := by subst hW; exact heap_new _ _ _ rfl
  have HX := Lib.hid hX
  have HB := Lib.hid (show Below w.heap.size w W1 by subst hW; exact ext_alloc _ _)
  clear hW hX
  have p1 : W1.cell? ⟨w.heap.size, 1, none⟩ = some (.slice a1 n1 c1) := cell_of_block HX.out 1
  go_wp2
  clear p1
  go_loopw [11, 6, 7, 5] (fun iv _ _ lv wr => ∃ (k : Nat) (va : Option Addr) (vc : Nat), k ≤ n1 ∧ iv = .int .i64 k ∧ lv = .slice va (nxP c M k).length vc ∧ Hid (wr.ownsRow w.heap.size 53 1 (.slice va (nxP c M k).length vc) (nxP c M k).length ((nxP c M k).map nv32)) ∧ Hid (wr.heap[w.heap.size]? = some (.cells #[.int .i64 i, .slice a1 n1 c1, .slice a2 n2 c2, .slice a3 n3 c3, .slice a4 n4 c4, .slice a5 n5 c5] 26 (0, 0))) ∧ Hid (Below w.heap.size w wr)) (fun iv _ _ _ _ => n1 - (intOf iv).toNat)
  case atStart => exact ⟨0, none, 0, Nat.zero_le _, rfl, rfl, ⟨rfl, .inl ⟨rfl, rfl⟩⟩, HX.out, HB.out⟩
  case round =>
    clear HX HB
    obtain ⟨k, va, vc, hk, rfl, rfl, hR, hX, hB⟩ := hrel
    obtain ⟨d, hd⟩ : ∃ d, d = nxP c M k := ⟨_, rfl⟩
    have hdk : d.length ≤ k := by rw [hd]; exact HPL.out k
    have HD := Lib.hid hd
    rw [← hd] at hR ⊢
    clear hd
    by_cases hlt : k < n1
    · obtain ⟨b, off, rfl, hbw⟩ := HS.out.s1.addr (show 0 < n1 by omega)
      obtain ⟨q0, q1⟩ := (HS.out.s1.below hB.out).cells k hlt (0, 0)
      obtain ⟨x, hx⟩ : ∃ x, x = (c.lats.getD k (0, 0)).1 := ⟨_, rfl⟩
      obtain ⟨y, hy⟩ : ∃ y, y = (c.lats.getD k (0, 0)).2 := ⟨_, rfl⟩
      rw [← hx] at q0
      rw [← hy] at q1
      unfold nv32 at q0
      unfold nv8 at q1
      obtain ⟨mb, mo, rfl, hmw⟩ := HM.out.addr (show 0 < n by omega)
      obtain ⟨ix, hix⟩ : ∃ ix, ix = FL + k := ⟨_, rfl⟩
      have hixn : ix < n := by omega
      have W1' : IntKind.i64.wrap ((FL : Int) + (k : Int)) = (ix : Int) := by rw [hix, IntWalk.i64_in _ (by omega)]; omega
      have W2' : IntKind.i64.wrap ((k : Int) + 1) = (k : Int) + 1 := IntWalk.i64_in _ (by omega)
      obtain ⟨q, hq⟩ : ∃ q, q = M.getD ix false := ⟨_, rfl⟩
      have HQ : Hid (q = M.getD (FL + k) false) := by unfold Hid; rw [hq, hix]
      have HQ2 : Hid (M.getD ix false = q) := hq.symm
      have HXE := Lib.hid hx
      obtain ⟨wl, hwl⟩ : ∃ wl, wl = wr.alloc (.cells #[.int .u32 (x : Int), .int .u8 (y : Int)] 55) := ⟨_, rfl⟩
      have hal : Below wr.heap.size wr wl := by rw [hwl]; exact ext_alloc _ _
      have hlb : wl.heap[wr.heap.size]? = some (.cells #[.int .u32 (x : Int), .int .u8 (y : Int)] 55 (0, 0)) := by rw [hwl]; exact heap_new _ _ _ rfl
      obtain ⟨LB, hLB⟩ : ∃ LB, LB = wr.heap.size := ⟨_, rfl⟩
      have HWL : Hid (wr.alloc (.cells #[.int .u32 (x : Int), .int .u8 (y : Int)] 55) = wl) := hwl.symm
      have HLB : Hid (wr.heap.size = LB) := hLB.symm
      rw [← hLB] at hlb
      have HLX := Lib.hid hlb
      have HX2 := Lib.hid (heap_below hX.out hal)
      have HR2 := Lib.hid (ownsN_below hR.out hal)
      have HB2 := Lib.hid (ext_trans hB.out hal)
      clear hx hy hbw hmw hix hq hwl hal hlb hLB hX hR hB
      go_upto_region 5 with fail
      rw [HWL.out, HLB.out]
      clear q0 q1 HWL HLB
      have p0 : wl.cell? ⟨w.heap.size, 0, none⟩ = some (.int .i64 i) := cell_of_block HX2.out 0
      have p1 : wl.cell? ⟨w.heap.size, 1, none⟩ = some (.slice (some ⟨b, off, none⟩) n1 c1) := cell_of_block HX2.out 1
      have p2 : wl.cell? ⟨w.heap.size, 2, none⟩ = some (.slice a2 n2 c2) := cell_of_block HX2.out 2
      have p3 : wl.cell? ⟨w.heap.size, 3, none⟩ = some (.slice a3 n3 c3) := cell_of_block HX2.out 3
      have p4 : wl.cell? ⟨w.heap.size, 4, none⟩ = some (.slice a4 n4 c4) := cell_of_block HX2.out 4
      have p5 : wl.cell? ⟨w.heap.size, 5, none⟩ = some (.slice a5 n5 c5) := cell_of_block HX2.out 5
      go_wp2_with fail
      refine (HFF.out wl).mono ?_
      rintro e w3 ⟨rfl, hb⟩
      have HX3 := Lib.hid (heap_below HX2.out hb)
      have HR3 := Lib.hid (ownsN_below HR2.out hb)
      have HB3 := Lib.hid (ext_trans HB2.out hb)
      have HL3 := Lib.hid (heap_below HLX.out hb)
      clear hb p0 p1 p2 p3 p4 p5 HX2 HR2 HB2 HLX
      have hcm := (HM.out.below HB3.out).bool_at ix hixn
      rw [HQ2.out] at hcm
      cases q with
      | false =>
        have HE : Hid (nxP c M (k + 1) = d) := by unfold Hid; rw [HNO.out k HQ.out.symm]; exact HD.out.symm
        clear HQ HQ2
        go_wp2
        go_roundw
        case rel => exact ⟨k + 1, va, vc, by omega, by go_num, by rw [HE.out], by rw [HE.out]; exact HR3.out, HX3.out, HB3.out⟩
        case measure => simp [intOf]; omega
      | true =>
        have HE : Hid (nxP c M (k + 1) = d ++ [x]) := by unfold Hid; rw [HYES.out k HQ.out.symm, ← HXE.out]; rw [HD.out]
        have l0 : w3.cell? ⟨LB, 0, none⟩ = some (.int .u32 (x : Int)) := cell_of_block HL3.out 0
        clear HQ HQ2 HXE
        go_wp2_with (at_builtin; refine wpList_append_own_at _ rfl _ _ 24 rfl w.heap.size 53 i0 (.int .u32 0) 1 4 Try.underlying24 hi hz0 hz1 hz2 rfl (by decide) (.slice va d.length vc) d.length (d.map nv32) rfl (ownsN_below HR3.out (ext_alloc _ _)) ⟨w3.heap.size, 0, none⟩ 1 1 [.int .u32 (x : Int)] rfl rfl (cell_one_new _ _ _) (by simp [Value.oneCell']) ?c4 ?c5 ?c6 ?_)
        case c4 => unfold maxLen; omega
        case c5 => omega
        case c6 => have := HB3.out.size; simp; omega
        intro v' w4 hown' hgrow _ _
        have hal := ext_alloc w3 (.cells #[.int .u32 (x : Int)] 53)
        have hro := ownsN_below HR3.out hal
        have hxo := heap_below HX3.out hal
        have hb0 := ext_trans HB3.out hal
        generalize hWA : w3.alloc (.cells #[.int .u32 (x : Int)] 53) = WA at hgrow hal hro hxo hb0
        have HB4 := Lib.hid (hb0.grown hgrow hb0.size (fun q hq => (hro.lt q hq).1))
        have HX4 := Lib.hid (heap_grown hxo hgrow (ownsN_notown hro hxo (by decide)))
        have e1 : d.map nv32 ++ [.int .u32 (x : Int)] = (d ++ [x]).map nv32 := by simp [nv32]
        rw [e1] at hown'
        have HO1 : Hid (w4.ownsRow w.heap.size 53 1 v' (d ++ [x]).length ((d ++ [x]).map nv32)) := by unfold Hid; simpa using hown'
        obtain ⟨gx, gxc, rfl⟩ := ownsN_form HO1.out
        rw [← HE.out] at HO1 ⊢
        clear hal hro hxo hb0 hWA hown' hgrow e1 l0
        go_wp2
        go_roundw
        case rel => exact ⟨k + 1, gx, gxc, by omega, by go_num, rfl, HO1.out, HX4.out, HB4.out⟩
        case measure => simp [intOf]; omega
    · obtain rfl : k = n1 := by omega
      have HP := HPOST.out va vc wr (by rw [← HD.out]; exact hR.out) hB.out
      rw [← HD.out] at HP
      have HPP := Lib.hid HP
      clear HP
      go_wp2
      go_ret
      exact HPP.out
end Go.Proofs.Ytdheldhecimfnaa
