/- The small functions of norm.renumbered, and its closures, by their contracts. -/
import Derived.Test.YtkbdebdhebphpaaNInOrder
namespace Go.Proofs.Ytkbdebdhebphpaa
open Go Go.RowKit Go.Joins

theorem literal_any (v : Nat) (hv : v ≤ 1000000000) (w : World) : Calls Try.prog 33 #[.int .i64 v] w fun e w' => e = .returned (.int .u32 ((2 * v : Nat) : Int)) ∧ w = w' := by
  have h0 : (0 : Int) ≤ v := by omega
  have h1 : (v : Int) ≤ 1000000000 := by omega
  have W1 : IntKind.u32.wrap (v : Int) = (v : Int) := by rw [IntKind.wrap_u32]; omega
  have W2 : IntKind.u32.wrap (2 * (v : Int)) = 2 * (v : Int) := by rw [IntKind.wrap_u32]; omega
  go_enter Try.func33, Try.ntmps33
  go_wp2
  go_ret
  simp

theorem reset_any (x y z : Nat) (hx : x < 4294967296) (w : World) : Calls Try.prog 89 #[.agg #[.int .u32 x, .int .u32 y, .int .u32 z]] w fun e w' => e = .returned (.int .u8 (resetS (x, y, z) : Nat)) ∧ Below w.heap.size w w' := by
  by_cases h : z = x
  · subst h
    have e : resetS (z, y, z) = 2 := by simp [resetS]
    have E := Lib.hid e
    clear e
    go_enter Try.func89, Try.ntmps89
    go_wp2
    go_ret
    exact ⟨by rw [E.out]; rfl, ext_alloc _ _⟩
  · have e1 : ((z : Int) == (x : Int)) = false := by simp; omega
    have e : resetS (x, y, z) = z % 256 := by simp [resetS, h]
    have W1 : IntKind.u8.wrap (z : Int) = ((z % 256 : Nat) : Int) := by rw [IntKind.wrap_u8]; omega
    have E := Lib.hid e
    have H := Lib.hid h
    clear e h
    go_enter Try.func89, Try.ntmps89
    go_wp2
    go_ret
    exact ⟨by rw [E.out]; rfl, ext_alloc _ _⟩

/-- Cells of numbers. -/
def ncells (t : List Nat) : Array Value := (t.map nv32).toArray
theorem ncells_get (t : List Nat) (i : Nat) (h : i < t.length) : (ncells t)[i]? = some (.int .u32 (t.getD i 0 : Nat)) := by
  simp [ncells, nv32, List.getD, List.getElem?_eq_getElem h]
theorem ncells_set (t : List Nat) (i x : Nat) : (ncells t).setIfInBounds i (.int .u32 x) = ncells (t.set i x) := by
  apply Array.ext'
  simp [ncells, nv32]
theorem ncells_zero (m : Nat) : zeros (.int .u32 0) m = ncells (List.replicate m 0) := by
  simp [zeros, ncells, nv32]

/-- What the closures capture: the table at D behind B. -/
structure ToW (B D : Nat) (t : List Nat) (w : World) : Prop where
  var : w.heap[B]? = some (.cells #[.slice (some ⟨D, 0, .none⟩) t.length t.length] 24 (0, 0))
  tab : w.heap[D]? = some (.cells (ncells t) 33 (0, 0))
theorem ToW.below {B D : Nat} {t : List Nat} {w w' : World} (h : ToW B D t w) (hb : Below w.heap.size w w') : ToW B D t w' := ⟨heap_below h.var hb, heap_below h.tab hb⟩

set_option maxRecDepth 100000 in
theorem now_any (x B D : Nat) (t : List Nat) (w : World) (h : ToW B D t w) (hx : x / 2 < t.length) (hx32 : x < 4294967296) (ht : ∀ i, t.getD i 0 ≤ 1000000000) :
    Calls Try.prog 87 #[.int .u32 x, .pointer (some ⟨B, 0, .none⟩)] w fun e w' => e = .returned (.int .u32 (nowS t x : Nat)) ∧ w = w' := by
  have c1 : w.cell? ⟨B, 0, none⟩ = some (.slice (some ⟨D, 0, .none⟩) t.length t.length) := cell_of_block h.var 0
  have c2 := (cell_of_block h.tab (x / 2)).trans (ncells_get t (x / 2) hx)
  have e : nowS t x = t.getD (x / 2) 0 + x % 2 := rfl
  have hq := ht (x / 2)
  obtain ⟨q, hqq⟩ : ∃ q, q = t.getD (x / 2) 0 := ⟨_, rfl⟩
  rw [← hqq] at c2 e hq
  rw [e]
  have B1 := u32_and1 x hx32
  have W1 : IntKind.u32.wrap ((q : Int) + ((x % 2 : Nat) : Int)) = ((q + x % 2 : Nat) : Int) := by rw [IntKind.wrap_u32]; omega
  clear e hqq h
  go_enter Try.func87, Try.ntmps87
  go_wp2
  go_ret
  simp

/-- The closure that each calls. -/
def nowF (B : Nat) : Value := .func (.func 87) #[] #[.pointer (some ⟨B, 0, .none⟩)]
theorem fcells_list (l : List Nat) (g : Nat → Nat) (n : Nat) (hn : l.length = n) : (fcells n (fun i => nv32 (g (l.getD i 0)))).toList = (l.map g).map nv32 := by
  subst hn
  unfold fcells
  apply List.ext_getElem?
  intro i
  by_cases h : i < l.length
  · simp [h, List.getD]
  · simp [h]

set_option maxRecDepth 100000 in
set_option maxHeartbeats 1600000 in
theorem each_any (l t : List Nat) (F B D : Nat) (a : Option Addr) (n c : Nat) (w : World) (h : Sees w a n c (l.map nv32)) (hn : n ≤ 1048576) (hF : w.heap[F]? = some (.cells #[nowF B] 101 (0, 0))) (hT : ToW B D t w) (hl : ∀ x ∈ l, x / 2 < t.length ∧ x < 4294967296) (ht : ∀ i, t.getD i 0 ≤ 1000000000) :
    Calls Try.prog 88 #[.slice a n c, .pointer (some ⟨F, 0, .none⟩)] w fun e w' => ∃ v, e = .returned v ∧ Row isU32 w' w.heap.size 33 v n ((l.map (nowS t)).map nv32) ∧ Below w.heap.size w w' := by
  obtain ⟨i0, hi, hz0, hz1, hz2⟩ := info_parts info_u32
  have hll := h.lenMap
  have mk := fun W => run_make_n (P := Try.prog) Try.underlying24 hi hz0 hz1 hz2 rfl n (by omega) (by omega) W
  rw [fcells_zero] at mk
  have HS := Lib.hid h
  have HL := Lib.hid hll
  have HF := Lib.hid hF
  have HT := Lib.hid hT
  have HLT := Lib.hid hl
  have HTT := Lib.hid ht
  clear h hll hF hT hl ht
  go_enter Try.func88, Try.ntmps88
  go_wp2
  go_loopw [12] (fun i wr => ∃ k : Nat, k ≤ n ∧ i = .int .i64 k ∧ Hid (wr.heap[w.heap.size]? = some (.cells (fcells n (fun i => if i < k then nv32 (nowS t (l.getD i 0)) else nv32 0)) 33 (0, 0))) ∧ Hid (Below w.heap.size w wr))
    (fun i _ => n - (intOf i).toNat)
  case atStart =>
    refine ⟨0, Nat.zero_le _, rfl, ?_, ext_alloc _ _⟩
    show _ = _
    rw [heap_new _ _ _ rfl]
    congr 2
  case round =>
    obtain ⟨k, hk, rfl, hO, hB⟩ := hrel
    by_cases hlt : k < n
    · obtain ⟨b, off, rfl, hbw⟩ := HS.out.addr (by omega)
      have hcx := (HS.out.below hB.out).num k hlt
      have hx3 := HLT.out (l.getD k 0) (getD_mem (by rw [HL.out]; exact hlt))
      obtain ⟨x, hx⟩ : ∃ x, x = l.getD k 0 := ⟨_, rfl⟩
      rw [← hx] at hcx hx3
      have hcf : wr.cell? ⟨F, 0, none⟩ = some (.func (.func 87) #[] #[.pointer (some ⟨B, 0, .none⟩)]) := cell_of_block (heap_below HF.out hB.out) 0
      have hco := (cell_of_block hO.out k).trans (fcells_get _ _ _ hlt)
      have hfo := unfrozen_of_block hO.out k
      rw [if_neg (by omega)] at hco
      unfold nv32 at hco
      have W1 : IntKind.i64.wrap ((k : Int) + 1) = (k : Int) + 1 := IntWalk.i64_in _ (by omega)
      have HNOW := Lib.hid (now_any x B D t wr (HT.out.below hB.out) hx3.1 hx3.2 HTT.out)
      obtain ⟨y, hy⟩ : ∃ y, y = nowS t x := ⟨_, rfl⟩
      rw [← hy] at HNOW
      have HX := Lib.hid hx
      have HY := Lib.hid hy
      clear hx hx3 hy
      go_wp2_with fail
      refine HNOW.out.mono ?_
      rintro e w2 ⟨rfl, rfl⟩
      have HO2 : Hid ((wr.setCell ⟨w.heap.size, k, .none⟩ (.int .u32 y)).heap[w.heap.size]? = some (.cells (fcells n (fun i => if i < k + 1 then nv32 (nowS t (l.getD i 0)) else nv32 0)) 33 (0, 0))) := by
        have h1 := block_setCell hO.out (i := k) (.int .u32 y)
        rw [fcells_set] at h1
        show _ = _
        rw [h1]
        congr 2
        refine fcells_congr (fun j _ => ?_)
        by_cases e : j = k
        · rw [if_pos e, if_pos (by omega), e, ← HX.out, ← HY.out]; rfl
        · rw [if_neg e]
          by_cases e2 : j < k
          · rw [if_pos e2, if_pos (by omega)]
          · rw [if_neg e2, if_neg (by omega)]
      have HB2 : Hid (Below w.heap.size w (wr.setCell ⟨w.heap.size, k, .none⟩ (.int .u32 y))) := hB.out.setCell (p := ⟨w.heap.size, k, .none⟩) (Nat.le_refl _) _
      clear hO hB
      go_wp2
      go_roundw
      case rel => exact ⟨k + 1, by omega, by go_num, HO2, HB2⟩
      case measure => simp [intOf]; omega
    · obtain rfl : n = k := by omega
      go_wp2
      go_ret
      have hO' : wr.heap[w.heap.size]? = some (.cells (fcells n (fun i => nv32 (nowS t (l.getD i 0)))) 33 (0, 0)) := by
        rw [hO.out]
        congr 2
        exact fcells_congr (fun j hj => by rw [if_pos hj])
      refine ⟨_, rfl, ⟨by simp [HL.out], .inr ⟨w.heap.size, n, _, rfl, Nat.le_refl _, hO', Nat.le_refl _, by unfold maxLen; omega, fcells_size _ _, ?_, ?_⟩⟩, hB.out⟩
      · rw [fcells_list l (nowS t) n HL.out, List.take_of_length_le (by simp [HL.out])]
      · intro u hu
        rw [fcells_list l (nowS t) n HL.out] at hu
        obtain ⟨y, hy, rfl⟩ := List.mem_map.1 hu
        obtain ⟨x, hx, rfl⟩ := List.mem_map.1 hy
        refine ⟨nowS t x, ?_, rfl⟩
        have := HTT.out (x / 2)
        unfold nowS
        omega
end Go.Proofs.Ytkbdebdhebphpaa
