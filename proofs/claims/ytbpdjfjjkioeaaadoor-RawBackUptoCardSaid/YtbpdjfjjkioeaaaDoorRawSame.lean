/- slices.Equal and raw.Same, at what is the same. -/
import Derived.Test.YtbpdjfjjkioeaaaDoorRawCounts
namespace Go.Proofs.YtbpdjfjjkioeaaaDoor
open Go Go.RowKit Go.Joins

set_option maxRecDepth 100000 in
set_option maxHeartbeats 800000 in
theorem equal_u32 (xs : List Nat) (a a' : Option Addr) (n c n' c' : Nat) (w : World) (h : Sees w a n c (xs.map nv32)) (h' : Sees w a' n' c' (xs.map nv32)) (hn : n ≤ 140737488355328) :
    Calls Tryd.prog 32 #[.slice a n c, .slice a' n' c'] w fun e w' => e = .returned (.bool true) ∧ Below w.heap.size w w' := by
  have hl := h.lenMap
  have hl' := h'.lenMap
  have hnn : n' = n := by omega
  subst hnn
  have HS := Lib.hid h
  have HS' := Lib.hid h'
  clear h h' hl hl'
  go_enter Tryd.func32, Tryd.ntmps32
  go_wp2
  go_loopw [13] (fun i wr => ∃ k : Nat, k ≤ n' ∧ i = .int .i64 k ∧ Hid (Below w.heap.size w wr)) (fun i _ => n' - (intOf i).toNat)
  case atStart => exact ⟨0, Nat.zero_le _, rfl, Below.refl _ _⟩
  case round =>
    obtain ⟨k, hk, rfl, hb⟩ := hrel
    by_cases hlt : k < n'
    · obtain ⟨b, off, rfl, hbw⟩ := HS.out.addr (by omega)
      obtain ⟨b', off', rfl, hbw'⟩ := HS'.out.addr (by omega)
      have hx := (HS.out.below hb.out).num k hlt
      have hx' := (HS'.out.below hb.out).num k hlt
      obtain ⟨x, hxx⟩ : ∃ x, x = xs.getD k 0 := ⟨_, rfl⟩
      rw [← hxx] at hx hx'
      clear hxx
      have W1 : IntKind.i64.wrap ((k : Int) + 1) = (k : Int) + 1 := IntWalk.i64_in _ (by omega)
      go_wp2
      go_quiet (fail)
      go_wp2
      go_roundw
      case rel => rename_i nq; exact ⟨k + 1, by omega, by go_num, ext_trans hb.out (ext_drewN _ nq)⟩
      case measure => simp [intOf]; omega
    · go_wp2
      go_ret
      exact ⟨rfl, hb.out⟩

set_option maxRecDepth 100000 in
set_option maxHeartbeats 800000 in
theorem equal_lat (xs : List Tri) (a a' : Option Addr) (n c n' c' : Nat) (w : World) (h : Sees3 w a n c xs) (h' : Sees3 w a' n' c' xs) (hn : n ≤ 140737488355328) :
    Calls Tryd.prog 33 #[.slice a n c, .slice a' n' c'] w fun e w' => e = .returned (.bool true) ∧ Below w.heap.size w w' := by
  have hl := h.1
  have hl' := h'.1
  have hnn : n' = n := by omega
  subst hnn
  have HS := Lib.hid h
  have HS' := Lib.hid h'
  clear h h' hl hl'
  go_enter Tryd.func33, Tryd.ntmps33
  go_wp2
  go_loopw [13] (fun i wr => ∃ k : Nat, k ≤ n' ∧ i = .int .i64 k ∧ Hid (Below w.heap.size w wr)) (fun i _ => n' - (intOf i).toNat)
  case atStart => exact ⟨0, Nat.zero_le _, rfl, Below.refl _ _⟩
  case round =>
    obtain ⟨k, hk, rfl, hb⟩ := hrel
    by_cases hlt : k < n'
    · obtain ⟨b, off, rfl, hbw⟩ := HS.out.addr (by omega)
      obtain ⟨b', off', rfl, hbw'⟩ := HS'.out.addr (by omega)
      obtain ⟨hx, hy, hz⟩ := (HS.out.below hb.out).cells k hlt (0, 0, 0)
      obtain ⟨hx', hy', hz'⟩ := (HS'.out.below hb.out).cells k hlt (0, 0, 0)
      obtain ⟨t, ht⟩ : ∃ t, t = xs.getD k (0, 0, 0) := ⟨_, rfl⟩
      rw [← ht] at hx hy hz hx' hy' hz'
      clear ht
      obtain ⟨x, y, z⟩ := t
      unfold nv32 at hx hy hz hx' hy' hz'
      have W1 : IntKind.i64.wrap ((k : Int) + 1) = (k : Int) + 1 := IntWalk.i64_in _ (by omega)
      go_wp2
      go_quiet (fail)
      go_wp2
      go_roundw
      case rel => rename_i nq; exact ⟨k + 1, by omega, by go_num, ext_trans hb.out (ext_drewN _ nq)⟩
      case measure => simp [intOf]; omega
    · go_wp2
      go_ret
      exact ⟨rfl, hb.out⟩
set_option maxRecDepth 100000 in
set_option maxHeartbeats 800000 in
theorem equal_gate (xs : List Tri) (a a' : Option Addr) (n c n' c' : Nat) (w : World) (h : Sees3 w a n c xs) (h' : Sees3 w a' n' c' xs) (hn : n ≤ 140737488355328) :
    Calls Tryd.prog 34 #[.slice a n c, .slice a' n' c'] w fun e w' => e = .returned (.bool true) ∧ Below w.heap.size w w' := by
  have hl := h.1
  have hl' := h'.1
  have hnn : n' = n := by omega
  subst hnn
  have HS := Lib.hid h
  have HS' := Lib.hid h'
  clear h h' hl hl'
  go_enter Tryd.func34, Tryd.ntmps34
  go_wp2
  go_loopw [13] (fun i wr => ∃ k : Nat, k ≤ n' ∧ i = .int .i64 k ∧ Hid (Below w.heap.size w wr)) (fun i _ => n' - (intOf i).toNat)
  case atStart => exact ⟨0, Nat.zero_le _, rfl, Below.refl _ _⟩
  case round =>
    obtain ⟨k, hk, rfl, hb⟩ := hrel
    by_cases hlt : k < n'
    · obtain ⟨b, off, rfl, hbw⟩ := HS.out.addr (by omega)
      obtain ⟨b', off', rfl, hbw'⟩ := HS'.out.addr (by omega)
      obtain ⟨hx, hy, hz⟩ := (HS.out.below hb.out).cells k hlt (0, 0, 0)
      obtain ⟨hx', hy', hz'⟩ := (HS'.out.below hb.out).cells k hlt (0, 0, 0)
      obtain ⟨t, ht⟩ : ∃ t, t = xs.getD k (0, 0, 0) := ⟨_, rfl⟩
      rw [← ht] at hx hy hz hx' hy' hz'
      clear ht
      obtain ⟨x, y, z⟩ := t
      unfold nv32 at hx hy hz hx' hy' hz'
      have W1 : IntKind.i64.wrap ((k : Int) + 1) = (k : Int) + 1 := IntWalk.i64_in _ (by omega)
      go_wp2
      go_quiet (fail)
      go_wp2
      go_roundw
      case rel => rename_i nq; exact ⟨k + 1, by omega, by go_num, ext_trans hb.out (ext_drewN _ nq)⟩
      case measure => simp [intOf]; omega
    · go_wp2
      go_ret
      exact ⟨rfl, hb.out⟩

set_option maxRecDepth 100000 in
set_option maxHeartbeats 1600000 in
theorem same_yes (r : RawC) (s s' : Slots) (w : World) (h : SeesRaw w s r) (h' : SeesRaw w s' r) (hf : s.fit) :
    Calls Tryd.prog 9 #[rawV r.max s, rawV r.max s'] w fun e w' => e = .returned (.bool true) ∧ Below w.heap.size w w' := by
  obtain ⟨m, hm⟩ : ∃ m, m = r.max := ⟨_, rfl⟩
  rw [← hm]
  clear hm
  obtain ⟨a1, n1, c1, a2, n2, c2, a3, n3, c3, a4, n4, c4, a5, n5, c5, a6, n6, c6⟩ := s
  obtain ⟨a1', n1', c1', a2', n2', c2', a3', n3', c3', a4', n4', c4', a5', n5', c5', a6', n6', c6'⟩ := s'
  obtain ⟨hf1, hf2, hf3, hf4, hf5, hf6⟩ := hf
  simp only [lenMax] at hf1 hf2 hf3 hf4 hf5 hf6
  have HS := Lib.hid h
  have HS' := Lib.hid h'
  clear h h'
  unfold rawV
  go_enter Tryd.func9, Tryd.ntmps9
  go_wp2_with fail
  generalize hW : World.alloc (World.alloc w _) _ = W0
  have B0 : Below w.heap.size w W0 := by subst hW; exact ext_trans (ext_alloc _ _) (ext_alloc _ _)
  have hx : W0.heap[w.heap.size]? = some (.cells #[.int .u32 m, .slice a1 n1 c1, .slice a2 n2 c2, .slice a3 n3 c3, .slice a4 n4 c4, .slice a5 n5 c5, .slice a6 n6 c6] 27 (0, 0)) := by subst hW; exact heap_below (heap_new _ _ _ rfl) (ext_alloc _ _)
  have hy : W0.heap[w.heap.size + 1]? = some (.cells #[.int .u32 m, .slice a1' n1' c1', .slice a2' n2' c2', .slice a3' n3' c3', .slice a4' n4' c4', .slice a5' n5' c5', .slice a6' n6' c6'] 27 (0, 0)) := by subst hW; exact heap_new _ _ _ (by simp)
  clear hW
  refine (equal_u32 r.ins a1 a1' n1 c1 n1' c1' W0 (HS.out.s1.below B0) (HS'.out.s1.below B0) hf1).mono ?_
  rintro e W1 ⟨rfl, hb⟩
  have B1 := ext_trans B0 hb
  replace hx := heap_below hx hb
  replace hy := heap_below hy hb
  clear hb B0
  have p := cell_of_block hx 2
  have p' := cell_of_block hy 2
  have HX := Lib.hid hx
  have HY := Lib.hid hy
  have HB := Lib.hid B1
  clear hx hy B1
  go_wp2_with fail
  have hx := HX.out
  have hy := HY.out
  have B1 := HB.out
  clear HX HY HB p p'
  refine (equal_lat r.lats a2 a2' n2 c2 n2' c2' W1 (HS.out.s2.below B1) (HS'.out.s2.below B1) hf2).mono ?_
  rintro e W2 ⟨rfl, hb⟩
  have B2 := ext_trans B1 hb
  replace hx := heap_below hx hb
  replace hy := heap_below hy hb
  clear hb B1
  have p := cell_of_block hx 3
  have p' := cell_of_block hy 3
  have HX := Lib.hid hx
  have HY := Lib.hid hy
  have HB := Lib.hid B2
  clear hx hy B2
  go_wp2_with fail
  have hx := HX.out
  have hy := HY.out
  have B2 := HB.out
  clear HX HY HB p p'
  refine (equal_u32 r.outs a3 a3' n3 c3 n3' c3' W2 (HS.out.s3.below B2) (HS'.out.s3.below B2) hf3).mono ?_
  rintro e W3 ⟨rfl, hb⟩
  have B3 := ext_trans B2 hb
  replace hx := heap_below hx hb
  replace hy := heap_below hy hb
  clear hb B2
  have p := cell_of_block hx 4
  have p' := cell_of_block hy 4
  have HX := Lib.hid hx
  have HY := Lib.hid hy
  have HB := Lib.hid B3
  clear hx hy B3
  go_wp2_with fail
  have hx := HX.out
  have hy := HY.out
  have B3 := HB.out
  clear HX HY HB p p'
  refine (equal_u32 r.bads a4 a4' n4 c4 n4' c4' W3 (HS.out.s4.below B3) (HS'.out.s4.below B3) hf4).mono ?_
  rintro e W4 ⟨rfl, hb⟩
  have B4 := ext_trans B3 hb
  replace hx := heap_below hx hb
  replace hy := heap_below hy hb
  clear hb B3
  have p := cell_of_block hx 5
  have p' := cell_of_block hy 5
  have HX := Lib.hid hx
  have HY := Lib.hid hy
  have HB := Lib.hid B4
  clear hx hy B4
  go_wp2_with fail
  have hx := HX.out
  have hy := HY.out
  have B4 := HB.out
  clear HX HY HB p p'
  refine (equal_u32 r.cons a5 a5' n5 c5 n5' c5' W4 (HS.out.s5.below B4) (HS'.out.s5.below B4) hf5).mono ?_
  rintro e W5 ⟨rfl, hb⟩
  have B5 := ext_trans B4 hb
  replace hx := heap_below hx hb
  replace hy := heap_below hy hb
  clear hb B4
  have p := cell_of_block hx 6
  have p' := cell_of_block hy 6
  have HX := Lib.hid hx
  have HY := Lib.hid hy
  have HB := Lib.hid B5
  clear hx hy B5
  go_wp2_with fail
  have hx := HX.out
  have hy := HY.out
  have B5 := HB.out
  clear HX HY HB p p'
  refine (equal_gate r.gates a6 a6' n6 c6 n6' c6' W5 (HS.out.s6.below B5) (HS'.out.s6.below B5) hf6).mono ?_
  rintro e W6 ⟨rfl, hb⟩
  have B6 := ext_trans B5 hb
  replace hx := heap_below hx hb
  replace hy := heap_below hy hb
  clear hb B5
  have HB := Lib.hid B6
  clear hx hy B6
  go_wp2
  go_ret
  exact ⟨rfl, HB.out⟩
end Go.Proofs.YtbpdjfjjkioeaaaDoor
