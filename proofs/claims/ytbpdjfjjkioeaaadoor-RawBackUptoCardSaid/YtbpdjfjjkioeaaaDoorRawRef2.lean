/- The reference's Same, at what is the same. -/
import Derived.Test.YtbpdjfjjkioeaaaDoorRawText2
namespace Go.Proofs.YtbpdjfjjkioeaaaDoor
open Go Go.RowKit Go.Joins

theorem eqn_same (xs : List Nat) (a a' : Option Addr) (n c n' c' : Nat) (w : World) (h : Sees w a n c (xs.map nv32)) (h' : Sees w a' n' c' (xs.map nv32)) (hn : n ≤ 1000000000) :
    Calls Tryd.prog 23 #[.slice a n c, .slice a' n' c'] w fun e w' => e = .returned (.bool true) ∧ Below w.heap.size w w' := by
  refine (eqnums_any xs xs a a' n c n' c' w h h' hn).mono fun e w' hp => ?_
  obtain ⟨h1, q, rfl⟩ := hp
  exact ⟨by simpa using h1, ext_drewN w q⟩

set_option maxRecDepth 100000 in
set_option maxHeartbeats 1600000 in
theorem ref2_yes (r : RawC) (s s' : Slots) (w : World) (h : SeesRaw w s r) (h' : SeesRaw w s' r) (hf1 : s.n1 ≤ 1000000) (hf2 : s.n2 ≤ 1000000) (hf3 : s.n3 ≤ 1000000) (hf4 : s.n4 ≤ 1000000) (hf5 : s.n5 ≤ 1000000) (hf6 : s.n6 ≤ 1000000) :
    Calls Tryd.prog 22 #[rawV r.max s, rawV r.max s'] w fun e w' => e = .returned (.bool true) ∧ Below w.heap.size w w' := by
  obtain ⟨m, hm⟩ : ∃ m, m = r.max := ⟨_, rfl⟩
  rw [← hm]
  clear hm
  obtain ⟨a1, n1, c1, a2, n2, c2, a3, n3, c3, a4, n4, c4, a5, n5, c5, a6, n6, c6⟩ := s
  obtain ⟨a1', n1', c1', a2', n2', c2', a3', n3', c3', a4', n4', c4', a5', n5', c5', a6', n6', c6'⟩ := s'
  simp only at hf1 hf2 hf3 hf4 hf5 hf6
  have e2 : n2 = n2' := h.s2.1.symm.trans h'.s2.1
  have e6 : n6 = n6' := h.s6.1.symm.trans h'.s6.1
  subst e2
  subst e6
  have HS := Lib.hid h
  have HS' := Lib.hid h'
  clear h h'
  unfold rawV
  go_enter Tryd.func22, Tryd.ntmps22
  have B0 : Below w.heap.size w ((w.alloc (.cells #[.int .u32 m, .slice a1 n1 c1, .slice a2 n2 c2, .slice a3 n3 c3, .slice a4 n4 c4, .slice a5 n5 c5, .slice a6 n6 c6] 27)).alloc (.cells #[.int .u32 m, .slice a1' n1' c1', .slice a2' n2 c2', .slice a3' n3' c3', .slice a4' n4' c4', .slice a5' n5' c5', .slice a6' n6 c6'] 27)) := ext_trans (ext_alloc _ _) (ext_alloc _ _)
  have hx : Hid (((w.alloc (.cells #[.int .u32 m, .slice a1 n1 c1, .slice a2 n2 c2, .slice a3 n3 c3, .slice a4 n4 c4, .slice a5 n5 c5, .slice a6 n6 c6] 27)).alloc (.cells #[.int .u32 m, .slice a1' n1' c1', .slice a2' n2 c2', .slice a3' n3' c3', .slice a4' n4' c4', .slice a5' n5' c5', .slice a6' n6 c6'] 27)).heap[w.heap.size]? = some (.cells #[.int .u32 m, .slice a1 n1 c1, .slice a2 n2 c2, .slice a3 n3 c3, .slice a4 n4 c4, .slice a5 n5 c5, .slice a6 n6 c6] 27 (0, 0))) := heap_below (heap_new _ _ _ rfl) (ext_alloc _ _)
  have hy : Hid (((w.alloc (.cells #[.int .u32 m, .slice a1 n1 c1, .slice a2 n2 c2, .slice a3 n3 c3, .slice a4 n4 c4, .slice a5 n5 c5, .slice a6 n6 c6] 27)).alloc (.cells #[.int .u32 m, .slice a1' n1' c1', .slice a2' n2 c2', .slice a3' n3' c3', .slice a4' n4' c4', .slice a5' n5' c5', .slice a6' n6 c6'] 27)).heap[w.heap.size + 1]? = some (.cells #[.int .u32 m, .slice a1' n1' c1', .slice a2' n2 c2', .slice a3' n3' c3', .slice a4' n4' c4', .slice a5' n5' c5', .slice a6' n6 c6'] 27 (0, 0))) := heap_new _ _ _ (by simp)
  replace B0 := Lib.hid B0
  go_wp2
  go_loopw [5] (fun i wr => ∃ k : Nat, k ≤ n2 ∧ i = .int .i64 k ∧ Hid (Below w.heap.size w wr) ∧ Hid (wr.heap[w.heap.size]? = some (.cells #[.int .u32 m, .slice a1 n1 c1, .slice a2 n2 c2, .slice a3 n3 c3, .slice a4 n4 c4, .slice a5 n5 c5, .slice a6 n6 c6] 27 (0, 0))) ∧ Hid (wr.heap[w.heap.size + 1]? = some (.cells #[.int .u32 m, .slice a1' n1' c1', .slice a2' n2 c2', .slice a3' n3' c3', .slice a4' n4' c4', .slice a5' n5' c5', .slice a6' n6 c6'] 27 (0, 0))))
    (fun i _ => n2 - (intOf i).toNat)
  case atStart => exact ⟨0, Nat.zero_le _, rfl, B0.out, hx.out, hy.out⟩
  case round =>
    clear B0 hx hy
    obtain ⟨k, hk, rfl, hb, hx, hy⟩ := hrel
    have p := cell_of_block hx.out 2
    have p' := cell_of_block hy.out 2
    by_cases hlt : k < n2
    · obtain ⟨b, off, rfl, hbw⟩ := HS.out.s2.addr (show 0 < n2 by omega)
      obtain ⟨b', off', rfl, hbw'⟩ := HS'.out.s2.addr (show 0 < n2 by omega)
      obtain ⟨qx, qy, qz⟩ := (HS.out.s2.below hb.out).cells k hlt (0, 0, 0)
      obtain ⟨qx', qy', qz'⟩ := (HS'.out.s2.below hb.out).cells k hlt (0, 0, 0)
      obtain ⟨t, ht⟩ : ∃ t, t = r.lats.getD k (0, 0, 0) := ⟨_, rfl⟩
      rw [← ht] at qx qy qz qx' qy' qz'
      clear ht
      obtain ⟨x, y, z⟩ := t
      unfold nv32 at qx qy qz qx' qy' qz'
      have W1 : IntKind.i64.wrap ((k : Int) + 1) = (k : Int) + 1 := IntWalk.i64_in _ (by omega)
      go_wp2
      go_quiet (fail)
      go_wp2
      go_roundw
      case rel => rename_i nq; exact ⟨k + 1, by omega, by go_num, ext_trans hb.out (ext_drewN _ nq), hx.out, hy.out⟩
      case measure => simp [intOf]; omega
    · obtain rfl : n2 = k := by omega
      obtain ⟨V2, hV⟩ : ∃ V, V = wr := ⟨_, rfl⟩
      subst hV
      clear hlt hk
      have B0 := hb.out
      clear hb
      replace B0 := Lib.hid B0
      go_wp2
      clear p p'
      go_loopw [6] (fun i wr => ∃ k : Nat, k ≤ n6 ∧ i = .int .i64 k ∧ Hid (Below w.heap.size w wr) ∧ Hid (wr.heap[w.heap.size]? = some (.cells #[.int .u32 m, .slice a1 n1 c1, .slice a2 n2 c2, .slice a3 n3 c3, .slice a4 n4 c4, .slice a5 n5 c5, .slice a6 n6 c6] 27 (0, 0))) ∧ Hid (wr.heap[w.heap.size + 1]? = some (.cells #[.int .u32 m, .slice a1' n1' c1', .slice a2' n2 c2', .slice a3' n3' c3', .slice a4' n4' c4', .slice a5' n5' c5', .slice a6' n6 c6'] 27 (0, 0))))
        (fun i _ => n6 - (intOf i).toNat)
      case atStart => exact ⟨0, Nat.zero_le _, rfl, B0.out, hx.out, hy.out⟩
      case round =>
        clear B0 hx hy
        obtain ⟨k, hk, rfl, hb, hx, hy⟩ := hrel
        have p := cell_of_block hx.out 6
        have p' := cell_of_block hy.out 6
        by_cases hlt : k < n6
        · obtain ⟨b, off, rfl, hbw⟩ := HS.out.s6.addr (show 0 < n6 by omega)
          obtain ⟨b', off', rfl, hbw'⟩ := HS'.out.s6.addr (show 0 < n6 by omega)
          obtain ⟨qx, qy, qz⟩ := (HS.out.s6.below hb.out).cells k hlt (0, 0, 0)
          obtain ⟨qx', qy', qz'⟩ := (HS'.out.s6.below hb.out).cells k hlt (0, 0, 0)
          obtain ⟨t, ht⟩ : ∃ t, t = r.gates.getD k (0, 0, 0) := ⟨_, rfl⟩
          rw [← ht] at qx qy qz qx' qy' qz'
          clear ht
          obtain ⟨x, y, z⟩ := t
          unfold nv32 at qx qy qz qx' qy' qz'
          have W1 : IntKind.i64.wrap ((k : Int) + 1) = (k : Int) + 1 := IntWalk.i64_in _ (by omega)
          go_wp2
          go_quiet (fail)
          go_wp2
          go_roundw
          case rel => rename_i nq; exact ⟨k + 1, by omega, by go_num, ext_trans hb.out (ext_drewN _ nq), hx.out, hy.out⟩
          case measure => simp [intOf]; omega
        · obtain rfl : n6 = k := by omega
          obtain ⟨V6, hV⟩ : ∃ V, V = wr := ⟨_, rfl⟩
          subst hV
          clear hlt hk
          have B0 := hb.out
          clear hb
          have p2 := p
          clear p p'
          have B6 := B0
          clear B0
          have hx6 := hx.out
          have hy6 := hy.out
          clear hx hy
          have p := cell_of_block hx6 1
          have p' := cell_of_block hy6 1
          have HX := Lib.hid hx6
          have HY := Lib.hid hy6
          have HB := Lib.hid B6
          clear hx6 hy6 B6
          go_wp2_with fail
          refine (eqn_same r.ins a1 a1' n1 c1 n1' c1' V6 (HS.out.s1.below HB.out) (HS'.out.s1.below HB.out) (by omega)).mono ?_
          rintro e U1 ⟨rfl, hb⟩
          have BB1 := ext_trans HB.out hb
          have hx6 := heap_below HX.out hb
          have hy6 := heap_below HY.out hb
          clear hb HX HY HB p p'
          have p := cell_of_block hx6 3
          have p' := cell_of_block hy6 3
          have HX := Lib.hid hx6
          have HY := Lib.hid hy6
          have HB := Lib.hid BB1
          clear hx6 hy6 BB1
          go_wp2_with fail
          refine (eqn_same r.outs a3 a3' n3 c3 n3' c3' U1 (HS.out.s3.below HB.out) (HS'.out.s3.below HB.out) (by omega)).mono ?_
          rintro e U3 ⟨rfl, hb⟩
          have BB3 := ext_trans HB.out hb
          have hx6 := heap_below HX.out hb
          have hy6 := heap_below HY.out hb
          clear hb HX HY HB p p'
          have p := cell_of_block hx6 4
          have p' := cell_of_block hy6 4
          have HX := Lib.hid hx6
          have HY := Lib.hid hy6
          have HB := Lib.hid BB3
          clear hx6 hy6 BB3
          go_wp2_with fail
          refine (eqn_same r.bads a4 a4' n4 c4 n4' c4' U3 (HS.out.s4.below HB.out) (HS'.out.s4.below HB.out) (by omega)).mono ?_
          rintro e U4 ⟨rfl, hb⟩
          have BB4 := ext_trans HB.out hb
          have hx6 := heap_below HX.out hb
          have hy6 := heap_below HY.out hb
          clear hb HX HY HB p p'
          have p := cell_of_block hx6 5
          have p' := cell_of_block hy6 5
          have HX := Lib.hid hx6
          have HY := Lib.hid hy6
          have HB := Lib.hid BB4
          clear hx6 hy6 BB4
          go_wp2_with fail
          refine (eqn_same r.cons a5 a5' n5 c5 n5' c5' U4 (HS.out.s5.below HB.out) (HS'.out.s5.below HB.out) (by omega)).mono ?_
          rintro e U5 ⟨rfl, hb⟩
          have BB5 := ext_trans HB.out hb
          have hx6 := heap_below HX.out hb
          have hy6 := heap_below HY.out hb
          clear hb HX HY HB p p'
          have HB := Lib.hid BB5
          clear hx6 hy6 BB5
          go_wp2
          go_ret
          exact ⟨rfl, HB.out⟩
end Go.Proofs.YtbpdjfjjkioeaaaDoor
