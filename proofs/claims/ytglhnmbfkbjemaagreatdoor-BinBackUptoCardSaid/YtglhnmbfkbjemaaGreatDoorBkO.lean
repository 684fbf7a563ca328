/- norm.renumbered, by its contract. -/
import Derived.Test.YtglhnmbfkbjemaaGreatDoorBkE
import Derived.Test.YtglhnmbfkbjemaaGreatDoorBkJ
import Derived.Test.YtglhnmbfkbjemaaGreatDoorNInOrder
import Derived.Deep.RegionHeld3
import Derived.Test.YtglhnmbfkbjemaaGreatDoorBkK
import Derived.Deep.CutRange
/- The small functions of norm.renumbered, and its closures, by their contracts. -/
namespace Go.Proofs.YtglhnmbfkbjemaaGreatDoor
open Go Go.RowKit Go.Joins
theorem reset_any (x y z : Nat) (hx : x < 4294967296) (w : World) : Calls Tryz.prog 106 #[.agg #[.int .u32 x, .int .u32 y, .int .u32 z]] w fun e w' => e = .returned (.int .u8 (resetS (x, y, z) : Nat)) ∧ Below w.heap.size w w' := by
  by_cases h : z = x
  · subst h
    have e : resetS (z, y, z) = 2 := by simp [resetS]
    have E := Lib.hid e
    clear e
    go_enter Tryz.func106, Tryz.ntmps106
    go_wp2
    go_ret
    exact ⟨by rw [E.out]; rfl, ext_alloc _ _⟩
  · have e1 : ((z : Int) == (x : Int)) = false := by simp; omega
    have e : resetS (x, y, z) = z % 256 := by simp [resetS, h]
    have W1 : IntKind.u8.wrap (z : Int) = ((z % 256 : Nat) : Int) := by rw [IntKind.wrap_u8]; omega
    have E := Lib.hid e
    have H := Lib.hid h
    clear e h
    go_enter Tryz.func106, Tryz.ntmps106
    go_wp2
    go_ret
    exact ⟨by rw [E.out]; rfl, ext_alloc _ _⟩
structure ToW (B D : Nat) (t : List Nat) (w : World) : Prop where
  var : w.heap[B]? = some (.cells #[.slice (some ⟨D, 0, .none⟩) t.length t.length] 24 (0, 0))
  tab : w.heap[D]? = some (.cells (ncells t) 35 (0, 0))
theorem ToW.below {B D : Nat} {t : List Nat} {w w' : World} (h : ToW B D t w) (hb : Below w.heap.size w w') : ToW B D t w' := ⟨heap_below h.var hb, heap_below h.tab hb⟩
set_option maxRecDepth 100000 in
theorem now_any (x B D : Nat) (t : List Nat) (w : World) (h : ToW B D t w) (hx : x / 2 < t.length) (hx32 : x < 4294967296) (ht : ∀ i, t.getD i 0 ≤ 1000000000) :
    Calls Tryz.prog 104 #[.int .u32 x, .pointer (some ⟨B, 0, .none⟩)] w fun e w' => e = .returned (.int .u32 (nowS t x : Nat)) ∧ w = w' := by
  have c1 : w.cell? ⟨B, 0, none⟩ = some (.slice (some ⟨D, 0, .none⟩) t.length t.length) := cell_of_block h.var 0
  have c2 := (cell_of_block h.tab (x / 2)).trans (ncells_get t (x / 2) hx)
  have e : nowS t x = t.getD (x / 2) 0 + x % 2 := rfl
  have hq := ht (x / 2)
  obtain ⟨q, hqq⟩ : ∃ q, q = t.getD (x / 2) 0 := ⟨_, rfl⟩
  rw [← hqq] at c2 e hq
  rw [e]
  have B1 := u32_and1 x hx32
  have W1 : IntKind.u32.wrap ((q : Int) + ((x % 2 : Nat) : Int)) = ((q + x % 2 : Nat) : Int) := by rw [IntKind.wrap_u32]; omega
  clear e hqq h
  go_enter Tryz.func104, Tryz.ntmps104
  go_wp2
  go_ret
  simp
def nowF (B : Nat) : Value := .func (.func 104) #[] #[.pointer (some ⟨B, 0, .none⟩)]
theorem fcells_list (l : List Nat) (g : Nat → Nat) (n : Nat) (hn : l.length = n) : (fcells n (fun i => nv32 (g (l.getD i 0)))).toList = (l.map g).map nv32 := by
  subst hn
  unfold fcells
  apply List.ext_getElem?
  intro i
  by_cases h : i < l.length
  · simp [h, List.getD]
  · simp [h]
set_option maxRecDepth 100000 in
set_option maxHeartbeats 1600000 in
theorem each_any (l t : List Nat) (F B D : Nat) (a : Option Addr) (n c : Nat) (w : World) (h : Sees w a n c (l.map nv32)) (hn : n ≤ 1048576) (hF : w.heap[F]? = some (.cells #[nowF B] 100 (0, 0))) (hT : ToW B D t w) (hl : ∀ x ∈ l, x / 2 < t.length ∧ x < 4294967296) (ht : ∀ i, t.getD i 0 ≤ 1000000000) :
    Calls Tryz.prog 105 #[.slice a n c, .pointer (some ⟨F, 0, .none⟩)] w fun e w' => ∃ v, e = .returned v ∧ Row isU32 w' w.heap.size 35 v n ((l.map (nowS t)).map nv32) ∧ Below w.heap.size w w' := by
  obtain ⟨i0, hi, hz0, hz1, hz2⟩ := info_parts info_u32
  have hll := h.lenMap
  have mk := fun W => run_make_n (P := Tryz.prog) Tryz.underlying24 hi hz0 hz1 hz2 rfl n (by omega) (by omega) W
  rw [fcells_zero] at mk
  have HS := Lib.hid h
  have HL := Lib.hid hll
  have HF := Lib.hid hF
  have HT := Lib.hid hT
  have HLT := Lib.hid hl
  have HTT := Lib.hid ht
  clear h hll hF hT hl ht
  go_enter Tryz.func105, Tryz.ntmps105
  go_wp2
  go_loopw [12] (fun i wr => ∃ k : Nat, k ≤ n ∧ i = .int .i64 k ∧ Hid (wr.heap[w.heap.size]? = some (.cells (fcells n (fun i => if i < k then nv32 (nowS t (l.getD i 0)) else nv32 0)) 35 (0, 0))) ∧ Hid (Below w.heap.size w wr))
    (fun i _ => n - (intOf i).toNat)
  case atStart =>
    refine ⟨0, Nat.zero_le _, rfl, ?_, ext_alloc _ _⟩
    show _ = _
    rw [heap_new _ _ _ rfl]
    congr 2
  case round =>
    obtain ⟨k, hk, rfl, hO, hB⟩ := hrel
    by_cases hlt : k < n
    · obtain ⟨b, off, rfl, hbw⟩ := HS.out.addr (by omega)
      have hcx := (HS.out.below hB.out).num k hlt
      have hx3 := HLT.out (l.getD k 0) (getD_mem (by rw [HL.out]; exact hlt))
      obtain ⟨x, hx⟩ : ∃ x, x = l.getD k 0 := ⟨_, rfl⟩
      rw [← hx] at hcx hx3
      have hcf : wr.cell? ⟨F, 0, none⟩ = some (.func (.func 104) #[] #[.pointer (some ⟨B, 0, .none⟩)]) := cell_of_block (heap_below HF.out hB.out) 0
      have hco := (cell_of_block hO.out k).trans (fcells_get _ _ _ hlt)
      have hfo := unfrozen_of_block hO.out k
      rw [if_neg (by omega)] at hco
      unfold nv32 at hco
      have W1 : IntKind.i64.wrap ((k : Int) + 1) = (k : Int) + 1 := IntWalk.i64_in _ (by omega)
      have HNOW := Lib.hid (now_any x B D t wr (HT.out.below hB.out) hx3.1 hx3.2 HTT.out)
      obtain ⟨y, hy⟩ : ∃ y, y = nowS t x := ⟨_, rfl⟩
      rw [← hy] at HNOW
      have HX := Lib.hid hx
      have HY := Lib.hid hy
      clear hx hx3 hy
      go_wp2_with fail
      refine HNOW.out.mono ?_
      rintro e w2 ⟨rfl, rfl⟩
      have HO2 : Hid ((wr.setCell ⟨w.heap.size, k, .none⟩ (.int .u32 y)).heap[w.heap.size]? = some (.cells (fcells n (fun i => if i < k + 1 then nv32 (nowS t (l.getD i 0)) else nv32 0)) 35 (0, 0))) := by
        have h1 := block_setCell hO.out (i := k) (.int .u32 y)
        rw [fcells_set] at h1
        show _ = _
        rw [h1]
        congr 2
        refine fcells_congr (fun j _ => ?_)
        by_cases e : j = k
        · rw [if_pos e, if_pos (by omega), e, ← HX.out, ← HY.out]; rfl
        · rw [if_neg e]
          by_cases e2 : j < k
          · rw [if_pos e2, if_pos (by omega)]
          · rw [if_neg e2, if_neg (by omega)]
      have HB2 : Hid (Below w.heap.size w (wr.setCell ⟨w.heap.size, k, .none⟩ (.int .u32 y))) := hB.out.setCell (p := ⟨w.heap.size, k, .none⟩) (Nat.le_refl _) _
      clear hO hB
      go_wp2
      go_roundw
      case rel => exact ⟨k + 1, by omega, by go_num, HO2, HB2⟩
      case measure => simp [intOf]; omega
    · obtain rfl : n = k := by omega
      go_wp2
      go_ret
      have hO' : wr.heap[w.heap.size]? = some (.cells (fcells n (fun i => nv32 (nowS t (l.getD i 0)))) 35 (0, 0)) := by
        rw [hO.out]
        congr 2
        exact fcells_congr (fun j hj => by rw [if_pos hj])
      refine ⟨_, rfl, ⟨by simp [HL.out], .inr ⟨w.heap.size, n, _, rfl, Nat.le_refl _, hO', Nat.le_refl _, by unfold maxLen; omega, fcells_size _ _, ?_, ?_⟩⟩, hB.out⟩
      · rw [fcells_list l (nowS t) n HL.out, List.take_of_length_le (by simp [HL.out])]
      · intro u hu
        rw [fcells_list l (nowS t) n HL.out] at hu
        obtain ⟨y, hy, rfl⟩ := List.mem_map.1 hu
        obtain ⟨x, hx, rfl⟩ := List.mem_map.1 hy
        refine ⟨nowS t x, ?_, rfl⟩
        have := HTT.out (x / 2)
        unfold nowS
        omega
end Go.Proofs.YtglhnmbfkbjemaaGreatDoor
namespace Go.Proofs.YtglhnmbfkbjemaaGreatDoor
open Go Go.RowKit Go.Joins
abbrev RS (w : World) (R : Nat) (v1 v3 v4 v5 : Value) : Prop := w.cell? ⟨R, 1, none⟩ = some v1 ∧ w.cell? ⟨R, 3, none⟩ = some v3 ∧ w.cell? ⟨R, 4, none⟩ = some v4 ∧ w.cell? ⟨R, 5, none⟩ = some v5
theorem keeps_alloc {w : World} {R : Nat} {v1 v3 v4 v5 : Value} {o : Obj} (h : RS w R v1 v3 v4 v5) : RS (w.alloc o) R v1 v3 v4 v5 :=
  ⟨cell_old h.1, cell_old h.2.1, cell_old h.2.2.1, cell_old h.2.2.2⟩
theorem row_set6 {ok : Value → Prop} {w : World} {base : Nat} {e : TypeId} {v : Value} {n : Nat} {xs : List Value} (h : Row ok w base e v n xs) {G : Nat} {C : Array Value} {t : TypeId} {fr : Nat × Nat} (hz : w.heap[G]? = some (.cells C t fr)) (ht : t ≠ e) {u0 u1 u2 u3 u4 u5 : Value} :
    Row ok ((((((w.setCell ⟨G, 0, .none⟩ u0).setCell ⟨G, 1, .none⟩ u1).setCell ⟨G, 2, .none⟩ u2).setCell ⟨G, 3, .none⟩ u3).setCell ⟨G, 4, .none⟩ u4).setCell ⟨G, 5, .none⟩ u5) base e v n xs :=
  h.other fun k hk => set6_other G k (fun e => (h.not_own hz ht) (by rw [hk, e])) _ _ _ _ _ _
theorem keeps_drew {w : World} {R : Nat} {v1 v3 v4 v5 : Value} (h : RS w R v1 v3 v4 v5) : RS w.drew R v1 v3 v4 v5 := h
theorem keeps_set6 {w : World} {R G : Nat} {v1 v3 v4 v5 u0 u1 u2 u3 u4 u5 : Value} (h : w.cell? ⟨R, 1, none⟩ = some v1 ∧ w.cell? ⟨R, 3, none⟩ = some v3 ∧ w.cell? ⟨R, 4, none⟩ = some v4 ∧ w.cell? ⟨R, 5, none⟩ = some v5) (hne : R ≠ G) :
    ((((((w.setCell ⟨G, 0, none⟩ u0).setCell ⟨G, 1, none⟩ u1).setCell ⟨G, 2, none⟩ u2).setCell ⟨G, 3, none⟩ u3).setCell ⟨G, 4, none⟩ u4).setCell ⟨G, 5, none⟩ u5).cell? ⟨R, 1, none⟩ = some v1 ∧ ((((((w.setCell ⟨G, 0, none⟩ u0).setCell ⟨G, 1, none⟩ u1).setCell ⟨G, 2, none⟩ u2).setCell ⟨G, 3, none⟩ u3).setCell ⟨G, 4, none⟩ u4).setCell ⟨G, 5, none⟩ u5).cell? ⟨R, 3, none⟩ = some v3 ∧ ((((((w.setCell ⟨G, 0, none⟩ u0).setCell ⟨G, 1, none⟩ u1).setCell ⟨G, 2, none⟩ u2).setCell ⟨G, 3, none⟩ u3).setCell ⟨G, 4, none⟩ u4).setCell ⟨G, 5, none⟩ u5).cell? ⟨R, 4, none⟩ = some v4 ∧ ((((((w.setCell ⟨G, 0, none⟩ u0).setCell ⟨G, 1, none⟩ u1).setCell ⟨G, 2, none⟩ u2).setCell ⟨G, 3, none⟩ u3).setCell ⟨G, 4, none⟩ u4).setCell ⟨G, 5, none⟩ u5).cell? ⟨R, 5, none⟩ = some v5 := by
  have one : ∀ k, ((((((w.setCell ⟨G, 0, none⟩ u0).setCell ⟨G, 1, none⟩ u1).setCell ⟨G, 2, none⟩ u2).setCell ⟨G, 3, none⟩ u3).setCell ⟨G, 4, none⟩ u4).setCell ⟨G, 5, none⟩ u5).cell? ⟨R, k, none⟩ = w.cell? ⟨R, k, none⟩ := fun k => by
    have ne : ∀ j, (⟨G, j, none⟩ : Addr) ≠ ⟨R, k, none⟩ := fun j e => hne (by cases e; rfl)
    rw [World.cell?_setCell_other _ _ _ _ (ne 5), World.cell?_setCell_other _ _ _ _ (ne 4), World.cell?_setCell_other _ _ _ _ (ne 3), World.cell?_setCell_other _ _ _ _ (ne 2), World.cell?_setCell_other _ _ _ _ (ne 1), World.cell?_setCell_other _ _ _ _ (ne 0)]
  exact ⟨(one 1).trans h.1, (one 3).trans h.2.1, (one 4).trans h.2.2.1, (one 5).trans h.2.2.2⟩
theorem keeps_row {w : World} {R G : Nat} {v1 v3 v4 v5 : Value} {C : Array Value} (h : RS w R v1 v3 v4 v5) (hne : R ≠ G) : RS (w.setRow G C) R v1 v3 v4 v5 := by
  have one : ∀ k, (w.setRow G C).cell? ⟨R, k, none⟩ = w.cell? ⟨R, k, none⟩ := fun k => World.cell?_of_block (setRow_other w G R C hne)
  exact ⟨(one 1).trans h.1, (one 3).trans h.2.1, (one 4).trans h.2.2.1, (one 5).trans h.2.2.2⟩
theorem own2_snoc (K : Nat → Value) (T : TypeId) {w : World} {base : Nat} {v : Value} {xs : List (Nat × Nat)} {a b : Nat} {n : Nat} {L : List Value} (h : w.ownsRow base T 2 v n L) (hn : n = xs.length + 1) (hL : L = prCs K xs ++ [nv32 a, K b]) : own2 K T w base v (xs ++ [(a, b)]) := by
  subst hn; subst hL
  unfold own2
  rw [prCs_append, List.length_append]
  exact h
theorem mapk_snoc {α : Type} (f : Tri → α) (l : List Tri) (k : Nat) (t : Tri) (h : k < l.length) (ht : t = l.getD k (0, 0, 0)) : (l.take (k + 1)).map f = (l.take k).map f ++ [f t] := by
  rw [ht]; exact map_take_snoc f l k h
abbrev RL (w : World) (F g : Nat) (f u0 u1 u2 : Value) : Prop := w.cell? ⟨F, 0, none⟩ = some f ∧ w.cell? ⟨g, 0, none⟩ = some u0 ∧ w.cell? ⟨g, 1, none⟩ = some u1 ∧ w.cell? ⟨g, 2, none⟩ = some u2
theorem rl_of {w : World} {F g : Nat} {f u0 u1 u2 : Value} {t1 t2 : TypeId} {fr1 fr2 : Nat × Nat} (h1 : w.heap[F]? = some (.cells #[f] t1 fr1)) (h2 : w.heap[g]? = some (.cells #[u0, u1, u2] t2 fr2)) : RL w F g f u0 u1 u2 :=
  ⟨cell_of_block h1 0, cell_of_block h2 0, cell_of_block h2 1, cell_of_block h2 2⟩
def SLat (C F g : Nat) (v1 f u0 u1 u2 : Value) (w : World) : Prop := w.cell? ⟨C, 1, none⟩ = some v1 ∧ RL w F g f u0 u1 u2
structure Fill (base C : Nat) (n1 : Nat) (v1 v2 v3 v4 v5 : Value) (ls gs : List (Nat × Nat)) (o3 o4 o5 : List Nat) (w : World) : Prop where
  var : w.heap[C]? = some (.cells #[.int .i64 n1, v1, v2, v3, v4, v5] 26 (0, 0))
  f1 : own2 nv8 61 w base v1 ls
  f2 : own2 nv32 46 w base v2 gs
  f3 : Row isU32 w base 35 v3 o3.length (o3.map nv32)
  f4 : Row isU32 w base 35 v4 o4.length (o4.map nv32)
  f5 : Row isU32 w base 35 v5 o5.length (o5.map nv32)
theorem Fill.below {base C n1 : Nat} {v1 v2 v3 v4 v5 : Value} {ls gs : List (Nat × Nat)} {o3 o4 o5 : List Nat} {w w' : World} (h : Fill base C n1 v1 v2 v3 v4 v5 ls gs o3 o4 o5 w) (hb : Below w.heap.size w w') : Fill base C n1 v1 v2 v3 v4 v5 ls gs o3 o4 o5 w' :=
  ⟨heap_below h.var hb, own2_below h.f1 hb, own2_below h.f2 hb, h.f3.below hb, h.f4.below hb, h.f5.below hb⟩
theorem Fill.lat {base C n1 : Nat} {v1 v2 v3 v4 v5 v' : Value} {ls gs : List (Nat × Nat)} {o3 o4 o5 : List Nat} {w w1 w2 : World} {a b n : Nat} {L : List Value} (h : Fill base C n1 v1 v2 v3 v4 v5 ls gs o3 o4 o5 w) (hb : Below w.heap.size w w1) (hg : w1.grownBy w2 v1.ownBlock)
    (hr : w2.ownsRow base 61 2 v' n L) (hn : n = ls.length + 1) (hL : L = prCs nv8 ls ++ [nv32 a, nv8 b]) :
    Fill base C n1 v' v2 v3 v4 v5 (ls ++ [(a, b)]) gs o3 o4 o5 (w2.setCell ⟨C, 1, .none⟩ v') := by
  have h1 := h.below hb
  have hC := heap_grown h1.var hg (ownsN_notown h1.f1 h1.var (by decide))
  have keep : ∀ k, k ≠ C → (w2.setCell ⟨C, 1, .none⟩ v').heap[k]? = w2.heap[k]? := fun k hk => Below.heap_setCell w2 ⟨C, 1, .none⟩ v' k hk
  have row3 : ∀ {v : Value} {o : List Nat}, Row isU32 w1 base 35 v o.length (o.map nv32) → Row isU32 (w2.setCell ⟨C, 1, .none⟩ v') base 35 v o.length (o.map nv32) := fun hrow => by
    have h2 := row_grown hrow h1.f1 hg (by decide)
    exact h2.other fun k hk => keep k (fun e => (h2.not_own hC (by decide)) (by rw [hk, e]))
  refine ⟨by simpa using block_setCell hC (i := 1) v', ?_, ?_, row3 h1.f3, row3 h1.f4, row3 h1.f5⟩
  · have h2 := own2_snoc nv8 _ hr hn hL
    exact ownsN_other h2 fun k hk => keep k (fun e => (ownsN_notown h2 hC (by decide)) (by rw [hk, e]))
  · have h2 := owns_grown h1.f2 h1.f1 hg (by decide)
    exact ownsN_other h2 fun k hk => keep k (fun e => (ownsN_notown h2 hC (by decide)) (by rw [hk, e]))
theorem Fill.gate {base C n1 : Nat} {v1 v2 v3 v4 v5 v' : Value} {ls gs : List (Nat × Nat)} {o3 o4 o5 : List Nat} {w w1 w2 : World} {a b n : Nat} {L : List Value} (h : Fill base C n1 v1 v2 v3 v4 v5 ls gs o3 o4 o5 w) (hb : Below w.heap.size w w1) (hg : w1.grownBy w2 v2.ownBlock)
    (hr : w2.ownsRow base 46 2 v' n L) (hn : n = gs.length + 1) (hL : L = prCs nv32 gs ++ [nv32 a, nv32 b]) :
    Fill base C n1 v1 v' v3 v4 v5 ls (gs ++ [(a, b)]) o3 o4 o5 (w2.setCell ⟨C, 2, .none⟩ v') := by
  have h1 := h.below hb
  have hC := heap_grown h1.var hg (ownsN_notown h1.f2 h1.var (by decide))
  have keep : ∀ k, k ≠ C → (w2.setCell ⟨C, 2, .none⟩ v').heap[k]? = w2.heap[k]? := fun k hk => Below.heap_setCell w2 ⟨C, 2, .none⟩ v' k hk
  have row3 : ∀ {v : Value} {o : List Nat}, Row isU32 w1 base 35 v o.length (o.map nv32) → Row isU32 (w2.setCell ⟨C, 2, .none⟩ v') base 35 v o.length (o.map nv32) := fun hrow => by
    have h2 := row_grown hrow h1.f2 hg (by decide)
    exact h2.other fun k hk => keep k (fun e => (h2.not_own hC (by decide)) (by rw [hk, e]))
  refine ⟨by simpa using block_setCell hC (i := 2) v', ?_, ?_, row3 h1.f3, row3 h1.f4, row3 h1.f5⟩
  · have h2 := owns_grown h1.f1 h1.f2 hg (by decide)
    exact ownsN_other h2 fun k hk => keep k (fun e => (ownsN_notown h2 hC (by decide)) (by rw [hk, e]))
  · have h2 := own2_snoc nv32 _ hr hn hL
    exact ownsN_other h2 fun k hk => keep k (fun e => (ownsN_notown h2 hC (by decide)) (by rw [hk, e]))
theorem fill_below {base C f : Nat} {w w1 w2 : World} {T : TypeId} {k n : Nat} {v v' : Value} {L : List Value} (hb : Below w.heap.size w w1) (hbase : base ≤ w.heap.size) (hC : base ≤ C) (h : w1.ownsRow base T k v n L) (hg : w1.grownBy w2 v.ownBlock) : Below base w (w2.setCell ⟨C, f, .none⟩ v') :=
  ((hb.mono hbase).trans (ownsN_low h hg (Nat.le_trans hbase hb.size))).setCell hC _
def RenPost (r : RawC) (w : World) (e : Ending) (w' : World) : Prop :=
  ∃ s, e = .returned (cirV r.ins.length s) ∧ OwnCir w' w.heap.size s (renumS r) ∧ Below w.heap.size w w'
theorem own_set6 {K : Nat → Value} {T : TypeId} {w : World} {base : Nat} {v : Value} {xs : List (Nat × Nat)} (h : own2 K T w base v xs) {G B : Nat} (hG : G < base) (hB : B ≤ base) {u0 u1 u2 u3 u4 u5 : Value} :
    own2 K T ((((((w.setCell ⟨G, 0, .none⟩ u0).setCell ⟨G, 1, .none⟩ u1).setCell ⟨G, 2, .none⟩ u2).setCell ⟨G, 3, .none⟩ u3).setCell ⟨G, 4, .none⟩ u4).setCell ⟨G, 5, .none⟩ u5) B v xs :=
  ownsN_base (ownsN_other h fun k hk => set6_other G k (by have := (h.lt k hk).1; omega) _ _ _ _ _ _) hB
theorem rowb_set6 {w : World} {base : Nat} {v : Value} {n : Nat} {xs : List Value} (h : Row isU32 w base 35 v n xs) {G B : Nat} (hG : G < base) (hB : B ≤ base) {u0 u1 u2 u3 u4 u5 : Value} :
    Row isU32 ((((((w.setCell ⟨G, 0, .none⟩ u0).setCell ⟨G, 1, .none⟩ u1).setCell ⟨G, 2, .none⟩ u2).setCell ⟨G, 3, .none⟩ u3).setCell ⟨G, 4, .none⟩ u4).setCell ⟨G, 5, .none⟩ u5) B 35 v n xs :=
  Row.base_le (h.other fun k hk => set6_other G k (by have := (h.own.lt k hk).1; omega) _ _ _ _ _ _) hB
theorem ren_end {r : RawC} {w w3 wr : World} {C n1 n2 n3 n4 n5 n6 : Nat} {e1 e2 e3 e4 e5 : Option Addr} {d1 d2 d3 d4 d5 : Nat}
    (h : Fill w3.heap.size C n1 (.slice e1 n2 d1) (.slice e2 n6 d2) (.slice e3 n3 d3) (.slice e4 n4 d4) (.slice e5 n5 d5) (r.lats.map (latS3 (toS r))) (r.gates.map (gateS3 (toS r))) (r.outs.map (nowS (toS r))) (r.bads.map (nowS (toS r))) (r.cons.map (nowS (toS r))) wr)
    (h1 : r.ins.length = n1) (h3 : w.heap.size + 1 < w3.heap.size) (hb : Below w.heap.size w wr) {u0 u1 u2 u3 u4 u5 : Value} :
    RenPost r w (.returned (cirV n1 ⟨e1, n2, d1, e2, n6, d2, e3, n3, d3, e4, n4, d4, e5, n5, d5⟩)) ((((((wr.setCell ⟨w.heap.size + 1, 0, .none⟩ u0).setCell ⟨w.heap.size + 1, 1, .none⟩ u1).setCell ⟨w.heap.size + 1, 2, .none⟩ u2).setCell ⟨w.heap.size + 1, 3, .none⟩ u3).setCell ⟨w.heap.size + 1, 4, .none⟩ u4).setCell ⟨w.heap.size + 1, 5, .none⟩ u5) :=
  ⟨_, by rw [h1], ⟨own_set6 (B := w.heap.size) h.f1 (by omega) (by omega), own_set6 (B := w.heap.size) h.f2 (by omega) (by omega), rowb_set6 (B := w.heap.size) h.f3 (by omega) (by omega), rowb_set6 (B := w.heap.size) h.f4 (by omega) (by omega), rowb_set6 (B := w.heap.size) h.f5 (by omega) (by omega)⟩, set6 _ (by omega) hb⟩
set_option maxRecDepth 100000 in
set_option maxHeartbeats 6400000 in
theorem ren_any (r : RawC) (s : Slots) (w : World) (h : SeesRaw w s r) (hf : s.small) (hm : r.max ≤ 16384) (hown : ∀ x ∈ ownsL r, x ≤ 2 * r.max + 1) (href : ∀ x ∈ refsL r, x ≤ 2 * r.max + 1) (hres : ∀ l ∈ r.lats, l.1 < 4294967296 ∧ l.2.2 < 4294967296) :
    Calls Tryz.prog 71 #[rawV r.max s] w (RenPost r w) := by
  obtain ⟨i0, hi, hz0, hz1, hz2⟩ := info_parts info_u32
  obtain ⟨il, hil, hzl0, hzl1, hzl2⟩ := info_parts info_latch
  obtain ⟨ig, hig, hzg0, hzg1, hzg2⟩ := info_parts info_cgate
  have HO := fun W hb => owns_any r s W (h.below hb) hf (fun x hx => by have := hown x (by unfold ownsL; simp [hx]); omega)
  obtain ⟨a1, n1, c1, a2, n2, c2, a3, n3, c3, a4, n4, c4, a5, n5, c5, a6, n6, c6⟩ := s
  obtain ⟨hf1, hf2, hf3, hf4, hf5, hf6⟩ := hf
  simp only at hf1 hf2 hf3 hf4 hf5 hf6
  have l1 : r.ins.length = n1 := h.s1.lenMap
  have l2 : r.lats.length = n2 := h.s2.1
  have l3 : r.outs.length = n3 := h.s3.lenMap
  have l4 : r.bads.length = n4 := h.s4.lenMap
  have l5 : r.cons.length = n5 := h.s5.lenMap
  have l6 : r.gates.length = n6 := h.s6.1
  obtain ⟨m, hmm⟩ : ∃ m, m = r.max := ⟨_, rfl⟩
  obtain ⟨O, hOO⟩ : ∃ O, O = ownsL r := ⟨_, rfl⟩
  obtain ⟨N, hN⟩ : ∃ N, N = O.length := ⟨_, rfl⟩
  have hNl : N ≤ 4000000 := by rw [hN, hOO]; simp [ownsL]; omega
  have htoS : toS r = toF (List.replicate (m + 1) 0) 0 O := by unfold toS; rw [← hmm, ← hOO]
  have htl : (toS r).length = m + 1 := by rw [htoS, toF_len]; simp
  have htle : ∀ i, (toS r).getD i 0 ≤ 1000000000 := by
    rw [htoS]
    refine toF_le O _ 0 1000000000 (fun k => ?_) (by omega)
    simp only [List.getD, List.getElem?_replicate]
    split <;> simp
  rw [← hmm, ← hOO, ← hN] at HO
  rw [← hOO] at hown
  rw [← hmm] at hm hown href ⊢
  have L1 := Lib.hid l1
  have L2 := Lib.hid l2
  have L3 := Lib.hid l3
  have L4 := Lib.hid l4
  have L5 := Lib.hid l5
  have L6 := Lib.hid l6
  have HS := Lib.hid h
  have HM := Lib.hid hmm
  have HN := Lib.hid hN
  have HOW := Lib.hid HO
  have HLO := Lib.hid hown
  have HLR := Lib.hid href
  have HRS := Lib.hid hres
  have HTS := Lib.hid htoS
  have HTL := Lib.hid htl
  have HTE := Lib.hid htle
  clear l1 l2 l3 l4 l5 l6 h hmm hOO hN HO hown href hres htoS htl htle
  have mk := fun W => run_make_u32 (P := Tryz.prog) Tryz.underlying24 hi hz0 hz1 hz2 rfl (m + 1) ((m : Int) + 1) (by omega) (by omega) (by omega) W
  rw [ncells_zero] at mk
  have W0 : IntKind.u32.wrap ((m : Int) + 1) = (m : Int) + 1 := by rw [IntKind.wrap_u32]; omega
  unfold rawV
  go_enter Tryz.func71, Tryz.ntmps71
  go_wp2_with fail
  generalize hW : World.alloc (World.alloc (World.alloc (World.alloc w _) _) _) _ = W1
  have B1 : Below w.heap.size w W1 := by subst hW; exact ext_trans (ext_alloc _ _) (ext_trans (ext_alloc _ _) (ext_trans (ext_alloc _ _) (ext_alloc _ _)))
  have hX : W1.heap[w.heap.size]? = some (.cells #[.int .u32 m, .slice a1 n1 c1, .slice a2 n2 c2, .slice a3 n3 c3, .slice a4 n4 c4, .slice a5 n5 c5, .slice a6 n6 c6] 39 (0, 0)) := by
    subst hW; exact heap_below (heap_below (heap_below (heap_new _ _ _ rfl) (ext_alloc _ _)) (ext_alloc _ _)) (ext_alloc _ _)
  have hR : W1.heap[w.heap.size + 1]? = some (.cells #[.int .i64 0, .slice none 0 0, .slice none 0 0, .slice none 0 0, .slice none 0 0, .slice none 0 0] 26 (0, 0)) := by
    subst hW; exact heap_below (heap_below (heap_new _ _ _ (by simp)) (ext_alloc _ _)) (ext_alloc _ _)
  have hD : W1.heap[w.heap.size + 1 + 1]? = some (.cells (ncells (List.replicate (m + 1) 0)) 35 (0, 0)) := by
    subst hW; exact heap_below (heap_new _ _ _ (by simp)) (ext_alloc _ _)
  have hB : W1.heap[w.heap.size + 1 + 1 + 1]? = some (.cells #[.slice (some ⟨w.heap.size + 1 + 1, 0, .none⟩) (m + 1) (m + 1)] 24 (0, 0)) := by
    subst hW; exact heap_new _ _ _ (by simp)
  clear hW mk W0
  refine (HOW.out W1 B1).mono ?_
  rintro e W2 ⟨v, rfl, hrow, hb⟩
  obtain ⟨D, hDD⟩ : ∃ D, D = w.heap.size + 1 + 1 := ⟨_, rfl⟩
  obtain ⟨B, hBB⟩ : ∃ B, B = D + 1 := ⟨_, rfl⟩
  rw [← hDD] at hD hB ⊢
  rw [← hBB] at hB ⊢
  have hDw : w.heap.size + 1 < D := by omega
  have hDB : D < B := by omega
  have hBs : B < W1.heap.size := heap_lt hB
  have hB2s : B < W2.heap.size := Nat.lt_of_lt_of_le hBs hb.size
  have HX := Lib.hid (heap_below hX hb)
  have HR := Lib.hid (heap_below hR hb)
  have HD := Lib.hid (heap_below hD hb)
  have HB := Lib.hid (heap_below hB hb)
  have HBL := Lib.hid (ext_trans B1 hb)
  have HROW := Lib.hid hrow
  obtain ⟨va, vc, rfl⟩ := ownsN_form hrow
  clear hX hR hD hB B1 hb hrow hDD hBB HOW
  go_wp2
  go_loopw [22] (fun i wr => ∃ (k : Nat) (t : List Nat), k ≤ N ∧ i = .int .i64 k ∧ Hid (toS r = toF t k (O.drop k)) ∧ Hid (t.length = m + 1) ∧ Hid (wr.heap[D]? = some (.cells (ncells t) 35 (0, 0))) ∧ Hid (But2 W2.heap.size D D W2 wr))
    (fun i _ => N - (intOf i).toNat)
  case atStart => exact ⟨0, List.replicate (m + 1) 0, Nat.zero_le _, rfl, HTS.out, by show _ = _; simp, HD.out, But2.refl _ _ _ _⟩
  case round =>
    clear HD
    obtain ⟨k, t, hk, rfl, ht, htl, hD, hBt⟩ := hrel
    have hru : wr.ownsRow W1.heap.size 35 1 (.slice va N vc) N (O.map nv32) := ownsN_other HROW.out (fun k hk => by
      have h1 := HROW.out.lt k hk
      exact hBt.out.block k h1.2 (by omega) (by omega))
    by_cases hlt : k < N
    · obtain ⟨a', c', ev, _, hs⟩ := Sees.owned hru
      cases ev
      obtain ⟨b, off, rfl, hbw⟩ := hs.addr (by omega)
      have hcx := hs.num k hlt
      have hx2 := HLO.out (O.getD k 0) (getD_mem (by rw [← HN.out]; exact hlt))
      obtain ⟨x, hx⟩ : ∃ x, x = O.getD k 0 := ⟨_, rfl⟩
      rw [← hx] at hcx hx2
      have hdrop : O.drop k = x :: O.drop (k + 1) := by
        rw [List.drop_eq_getElem_cons (by rw [← HN.out]; exact hlt), hx]
        congr 1
        simp [List.getD, List.getElem?_eq_getElem (show k < O.length by rw [← HN.out]; exact hlt)]
      have hxm : x / 2 < m + 1 := by omega
      have hcD := (cell_of_block hD.out (x / 2)).trans (ncells_get t (x / 2) (by rw [htl.out]; exact hxm))
      have hfD := unfrozen_of_block hD.out (x / 2)
      have hcB : wr.cell? ⟨B, 0, none⟩ = some (.slice (some ⟨D, 0, .none⟩) (m + 1) (m + 1)) := cell_of_block (hBt.out.at HB.out hB2s (by omega) (by omega)) 0
      have HT2 : Hid (toS r = toF (t.set (x / 2) (2 * (1 + k))) (k + 1) (O.drop (k + 1))) := by
        show _ = _
        rw [ht.out, hdrop, toF]
      have HD2 : Hid ((wr.setCell ⟨D, x / 2, .none⟩ (.int .u32 ((2 * (1 + k) : Nat) : Int))).heap[D]? = some (.cells (ncells (t.set (x / 2) (2 * (1 + k)))) 35 (0, 0))) := by
        have h1 := block_setCell hD.out (i := x / 2) (.int .u32 ((2 * (1 + k) : Nat) : Int))
        rw [ncells_set] at h1
        exact h1
      have HB2 : Hid (But2 W2.heap.size D D W2 (wr.setCell ⟨D, x / 2, .none⟩ (.int .u32 ((2 * (1 + k) : Nat) : Int)))) :=
        ⟨hBt.out.os, hBt.out.tape, hBt.out.output, by have := hBt.out.size; simpa using this, fun E h1 h2 h3 => (Below.heap_setCell wr ⟨D, x / 2, .none⟩ _ E h2).trans (hBt.out.block E h1 h2 h3)⟩
      have W1' : IntKind.i64.wrap ((k : Int) + 1) = (k : Int) + 1 := IntWalk.i64_in _ (by omega)
      have W2' : IntKind.i64.wrap (1 + (k : Int)) = 1 + (k : Int) := IntWalk.i64_in _ (by omega)
      have HL2 : Hid ((t.set (x / 2) (2 * (1 + k))).length = m + 1) := by show _ = _; rw [List.length_set]; exact htl.out
      have HLIT := Lib.hid (fun W => literal_at (1 + (k : Int)) (1 + k) (by omega) (by omega) W)
      clear hx hdrop hs hru hD hBt ht htl
      go_wp2
      go_region_with (go_at_call 43; refine (HLIT.out _).mono ?_; rintro e w1 ⟨rfl, rfl⟩)
      all_goals go_wp2
      all_goals go_roundw
      all_goals have eN : ((2 * (1 + k) : Nat) : Int) = 2 * (1 + (k : Int)) := by omega
      all_goals rw [eN] at HD2 HB2
      case rel => exact ⟨k + 1, _, by omega, by go_num, HT2.out, HL2.out, HD2.out, HB2.out.trans (But2.of_below (Below.refl _ _).drew)⟩
      case measure => simp [intOf]; omega
      case rel => exact ⟨k + 1, _, by omega, by go_num, HT2.out, HL2.out, HD2.out, HB2.out.trans (But2.of_below (Below.refl _ _).drew)⟩
      case measure => simp [intOf]; omega
    · obtain rfl : N = k := by omega
      have ht2 : toS r = t := by
        have h1 := ht.out
        rw [List.drop_of_length_le (by rw [← HN.out]; exact Nat.le_refl _), toF] at h1
        exact h1
      obtain ⟨F, hF⟩ : ∃ F, F = wr.heap.size := ⟨_, rfl⟩
      have hF2 : wr.heap.size = F := hF.symm
      have hBF : B < F := by rw [hF]; exact Nat.lt_of_lt_of_le hB2s hBt.out.size
      have hlowW : Below w.heap.size w wr := HBL.out.trans (hBt.out.low (by omega) (by omega) (by omega))
      have hTW : ToW B D (toS r) wr := by
        refine ⟨?_, ?_⟩
        · have := hBt.out.at HB.out hB2s (by omega) (by omega)
          rw [HTL.out]
          exact this
        · rw [ht2]; exact hD.out
      have hXw := hBt.out.at HX.out (by omega) (by omega) (by omega)
      have hRw := hBt.out.at HR.out (by omega) (by omega) (by omega)
      have HTW := Lib.hid hTW
      have HXW := Lib.hid hXw
      have HRW := Lib.hid hRw
      have HLW := Lib.hid hlowW
      have HF2 := Lib.hid hF2
      clear hF hTW hXw hRw hlowW hru ht htl hD hBt ht2 hlt hk
      go_wp2
      generalize hW : World.alloc wr _ = W3
      have B3 : Below wr.heap.size wr W3 := by subst hW; exact ext_alloc _ _
      have hFv : W3.heap[F]? = some (.cells #[nowF B] 100 (0, 0)) := by subst hW; exact heap_new _ _ _ HF2.out.symm
      clear hW
      have hsz3 := heap_lt hFv
      have p1 := cell_of_block (heap_below HXW.out B3) 1
      have p3 := cell_of_block (heap_below HXW.out B3) 3
      have p4 := cell_of_block (heap_below HXW.out B3) 4
      have p5 := cell_of_block (heap_below HXW.out B3) 5
      have hl3 : Below w.heap.size w W3 := HLW.out.trans (B3.mono HLW.out.size)
      have hwB : w.heap.size < W3.heap.size := by omega
      have KEEPS : ∀ W : World, Below W3.heap.size W3 W → (W.cell? ⟨w.heap.size, 1, none⟩ = some (.slice a1 n1 c1) ∧ W.cell? ⟨w.heap.size, 3, none⟩ = some (.slice a3 n3 c3) ∧ W.cell? ⟨w.heap.size, 4, none⟩ = some (.slice a4 n4 c4) ∧ W.cell? ⟨w.heap.size, 5, none⟩ = some (.slice a5 n5 c5)) := fun W hb =>
        ⟨(hb.cell (p := ⟨w.heap.size, 1, none⟩) hwB).trans p1, (hb.cell (p := ⟨w.heap.size, 3, none⟩) hwB).trans p3, (hb.cell (p := ⟨w.heap.size, 4, none⟩) hwB).trans p4, (hb.cell (p := ⟨w.heap.size, 5, none⟩) hwB).trans p5⟩
      have EACH : ∀ (l : List Nat) (a : Option Addr) (n c : Nat), Sees w a n c (l.map nv32) → n ≤ 1048576 → (∀ x ∈ l, x ≤ 2 * m + 1) → ∀ W, Below W3.heap.size W3 W → Calls Tryz.prog 105 #[.slice a n c, .pointer (some ⟨F, 0, .none⟩)] W fun e w' => ∃ v, e = .returned v ∧ Row isU32 w' W.heap.size 35 v n ((l.map (nowS (toS r))).map nv32) ∧ Below W.heap.size W w' := by
        intro l a n c hs hn hl W hb
        exact each_any l (toS r) F B D a n c W ((hs.below hl3).below hb) hn (heap_below hFv hb) ((HTW.out.below B3).below hb) (fun x hx => by have := hl x hx; rw [HTL.out]; omega) HTE.out
      have E3 := Lib.hid (EACH r.outs a3 n3 c3 HS.out.s3 hf3 (fun x hx => HLR.out x (by unfold refsL; simp [hx])))
      have E4 := Lib.hid (EACH r.bads a4 n4 c4 HS.out.s4 hf4 (fun x hx => HLR.out x (by unfold refsL; simp [hx])))
      have E5 := Lib.hid (EACH r.cons a5 n5 c5 HS.out.s5 hf5 (fun x hx => HLR.out x (by unfold refsL; simp [hx])))
      have KP := Lib.hid KEEPS
      have PS := Lib.hid (KEEPS W3 (Below.refl _ _))
      have HB3 := Lib.hid B3
      have HFV := Lib.hid hFv
      have P1 := Lib.hid p1
      have P3 := Lib.hid p3
      have P4 := Lib.hid p4
      have P5 := Lib.hid p5
      have HL3 := Lib.hid hl3
      have ne1 := World.new_ne W3 ⟨w.heap.size, 1, none⟩ p1
      clear KEEPS EACH B3 hFv p1 p3 p4 p5 hl3
      go_upto_region 9 with fail
      go_cut [8] from 37 (fun cp wx => ∃ (C : Nat) (v3 v4 v5 : Value), cp = .pointer (some ⟨C, 0, .none⟩) ∧ W3.heap.size ≤ C ∧ Hid (wx.heap[C]? = some (.cells #[.int .i64 n1, .slice none 0 0, .slice none 0 0, v3, v4, v5] 26 (0, 0))) ∧ Hid (Row isU32 wx W3.heap.size 35 v3 n3 ((r.outs.map (nowS (toS r))).map nv32)) ∧ Hid (Row isU32 wx W3.heap.size 35 v4 n4 ((r.bads.map (nowS (toS r))).map nv32)) ∧ Hid (Row isU32 wx W3.heap.size 35 v5 n5 ((r.cons.map (nowS (toS r))).map nv32)) ∧ Hid (Below W3.heap.size W3 wx))
      case first =>
        go_region_held3 (fun w' => w'.cell? ⟨w.heap.size, 1, none⟩ = some (.slice a1 n1 c1) ∧ w'.cell? ⟨w.heap.size, 3, none⟩ = some (.slice a3 n3 c3) ∧ w'.cell? ⟨w.heap.size, 4, none⟩ = some (.slice a4 n4 c4) ∧ w'.cell? ⟨w.heap.size, 5, none⟩ = some (.slice a5 n5 c5))
          (first | with_reducible exact PS.out | with_reducible exact keeps_drew PS.out | with_reducible exact GS5.out | with_reducible exact GS4.out | with_reducible exact GS3.out | with_reducible exact keeps_alloc GS5.out | with_reducible exact keeps_alloc GS4.out | with_reducible exact keeps_alloc GS3.out | with_reducible exact keeps_alloc PS.out | with_reducible exact keeps_drew (keeps_alloc PS.out) | with_reducible exact keeps_drew (keeps_alloc GS3.out) | with_reducible exact keeps_drew (keeps_alloc GS4.out) | with_reducible exact keeps_drew (keeps_alloc GS5.out) | with_reducible exact keeps_row GS5.out (by first | (have := hzs; omega)) | with_reducible exact keeps_row (keeps_alloc GS5.out) (by have := BB5.out.size; omega) | with_reducible exact keeps_row (keeps_drew (keeps_alloc GS5.out)) (by have := BB5.out.size; omega) | with_reducible exact keeps_set6 GS5.out (by first | (have := BB4.out.size; omega) | (have := BB3.out.size; omega) | omega) | go_keep)
          (first
            | (go_at_call 105; (with_reducible refine (E3.out _ (by first | with_reducible exact (Below.refl W3.heap.size W3) | with_reducible exact (Below.refl W3.heap.size W3).drew | with_reducible exact (Below.refl W3.heap.size W3).alloc (Below.refl W3.heap.size W3).size _ | with_reducible exact ((Below.refl W3.heap.size W3).alloc (Below.refl W3.heap.size W3).size _).drew | with_reducible exact ((Below.refl W3.heap.size W3).drew).alloc (Below.refl W3.heap.size W3).size _)).mono ?_); rintro e s3 ⟨v3, rfl, r3, b3⟩; have bb3 : Below W3.heap.size W3 s3 := below_step (by first | with_reducible exact (Below.refl W3.heap.size W3) | with_reducible exact (Below.refl W3.heap.size W3).drew | with_reducible exact (Below.refl W3.heap.size W3).alloc (Below.refl W3.heap.size W3).size _ | with_reducible exact ((Below.refl W3.heap.size W3).alloc (Below.refl W3.heap.size W3).size _).drew | with_reducible exact ((Below.refl W3.heap.size W3).drew).alloc (Below.refl W3.heap.size W3).size _) b3 (Below.size (by first | with_reducible exact (Below.refl W3.heap.size W3) | with_reducible exact (Below.refl W3.heap.size W3).drew | with_reducible exact (Below.refl W3.heap.size W3).alloc (Below.refl W3.heap.size W3).size _ | with_reducible exact ((Below.refl W3.heap.size W3).alloc (Below.refl W3.heap.size W3).size _).drew | with_reducible exact ((Below.refl W3.heap.size W3).drew).alloc (Below.refl W3.heap.size W3).size _)); have GS3 := Lib.hid (KP.out s3 bb3); have BB3 := Lib.hid bb3; have rr3 := r3.base_le (base' := W3.heap.size) (Below.size (by first | with_reducible exact (Below.refl W3.heap.size W3) | with_reducible exact (Below.refl W3.heap.size W3).drew | with_reducible exact (Below.refl W3.heap.size W3).alloc (Below.refl W3.heap.size W3).size _ | with_reducible exact ((Below.refl W3.heap.size W3).alloc (Below.refl W3.heap.size W3).size _).drew | with_reducible exact ((Below.refl W3.heap.size W3).drew).alloc (Below.refl W3.heap.size W3).size _)); have R3 := Lib.hid rr3; obtain ⟨sa3, sc3, rfl⟩ := r3.form; (first | (have hz : s3.heap[W3.heap.size]? = some (.cells #[.int .i64 0, .slice none 0 0, .slice none 0 0, .slice none 0 0, .slice none 0 0, .slice none 0 0] 26 (0, 0)) := (by with_reducible first | exact heap_below (heap_newD W3 (.cells #[.int .i64 0, .slice none 0 0, .slice none 0 0, .slice none 0 0, .slice none 0 0, .slice none 0 0] 26)) b3 | exact heap_below (heap_new W3 (.cells #[.int .i64 0, .slice none 0 0, .slice none 0 0, .slice none 0 0, .slice none 0 0, .slice none 0 0] 26) _ rfl) b3); have hzs : W3.heap.size ≤ W3.heap.size := (Below.size (by first | with_reducible exact (Below.refl W3.heap.size W3))); have HZ := Lib.hid hz; clear hz) | (have hz := heap_below HZ.out (below_step (by first | with_reducible exact (Below.refl W3.heap.size W3) | with_reducible exact (Below.refl W3.heap.size W3).drew | with_reducible exact (Below.refl W3.heap.size W3).alloc (Below.refl W3.heap.size W3).size _ | with_reducible exact ((Below.refl W3.heap.size W3).alloc (Below.refl W3.heap.size W3).size _).drew | with_reducible exact ((Below.refl W3.heap.size W3).drew).alloc (Below.refl W3.heap.size W3).size _) b3 (Below.size (by first | with_reducible exact (Below.refl W3.heap.size W3) | with_reducible exact (Below.refl W3.heap.size W3).drew | with_reducible exact (Below.refl W3.heap.size W3).alloc (Below.refl W3.heap.size W3).size _ | with_reducible exact ((Below.refl W3.heap.size W3).alloc (Below.refl W3.heap.size W3).size _).drew | with_reducible exact ((Below.refl W3.heap.size W3).drew).alloc (Below.refl W3.heap.size W3).size _))); have HZ := Lib.hid hz; clear hz) | skip); clear r3 b3 bb3 rr3)
            | (go_at_call 105; (with_reducible refine (E4.out _ (by first | with_reducible exact BB3.out | with_reducible exact BB3.out.drew | with_reducible exact BB3.out.alloc BB3.out.size _ | with_reducible exact (BB3.out.alloc BB3.out.size _).drew | with_reducible exact (BB3.out.drew).alloc BB3.out.size _)).mono ?_); rintro e s4 ⟨v4, rfl, r4, b4⟩; have bb4 : Below W3.heap.size W3 s4 := below_step (by first | with_reducible exact BB3.out | with_reducible exact BB3.out.drew | with_reducible exact BB3.out.alloc BB3.out.size _ | with_reducible exact (BB3.out.alloc BB3.out.size _).drew | with_reducible exact (BB3.out.drew).alloc BB3.out.size _) b4 (Below.size (by first | with_reducible exact BB3.out | with_reducible exact BB3.out.drew | with_reducible exact BB3.out.alloc BB3.out.size _ | with_reducible exact (BB3.out.alloc BB3.out.size _).drew | with_reducible exact (BB3.out.drew).alloc BB3.out.size _)); have GS4 := Lib.hid (KP.out s4 bb4); have BB4 := Lib.hid bb4; have rr4 := r4.base_le (base' := W3.heap.size) (Below.size (by first | with_reducible exact BB3.out | with_reducible exact BB3.out.drew | with_reducible exact BB3.out.alloc BB3.out.size _ | with_reducible exact (BB3.out.alloc BB3.out.size _).drew | with_reducible exact (BB3.out.drew).alloc BB3.out.size _)); have R4 := Lib.hid rr4; have R3 := Lib.hid (R3.out.below (below_step (by first | with_reducible exact (Below.refl s3.heap.size s3) | with_reducible exact (Below.refl s3.heap.size s3).drew | with_reducible exact (Below.refl s3.heap.size s3).alloc (Below.refl s3.heap.size s3).size _ | with_reducible exact ((Below.refl s3.heap.size s3).alloc (Below.refl s3.heap.size s3).size _).drew | with_reducible exact ((Below.refl s3.heap.size s3).drew).alloc (Below.refl s3.heap.size s3).size _) b4 (Below.size (by first | with_reducible exact (Below.refl s3.heap.size s3) | with_reducible exact (Below.refl s3.heap.size s3).drew | with_reducible exact (Below.refl s3.heap.size s3).alloc (Below.refl s3.heap.size s3).size _ | with_reducible exact ((Below.refl s3.heap.size s3).alloc (Below.refl s3.heap.size s3).size _).drew | with_reducible exact ((Below.refl s3.heap.size s3).drew).alloc (Below.refl s3.heap.size s3).size _)))); obtain ⟨sa4, sc4, rfl⟩ := r4.form; (first | (have hz : s4.heap[s3.heap.size]? = some (.cells #[.int .i64 0, .slice none 0 0, .slice none 0 0, .slice none 0 0, .slice none 0 0, .slice none 0 0] 26 (0, 0)) := (by with_reducible first | exact heap_below (heap_newD s3 (.cells #[.int .i64 0, .slice none 0 0, .slice none 0 0, .slice none 0 0, .slice none 0 0, .slice none 0 0] 26)) b4 | exact heap_below (heap_new s3 (.cells #[.int .i64 0, .slice none 0 0, .slice none 0 0, .slice none 0 0, .slice none 0 0, .slice none 0 0] 26) _ rfl) b4); have hzs : W3.heap.size ≤ s3.heap.size := (Below.size (by first | with_reducible exact BB3.out)); have HZ := Lib.hid hz; clear hz) | (have hz := heap_below HZ.out (below_step (by first | with_reducible exact (Below.refl s3.heap.size s3) | with_reducible exact (Below.refl s3.heap.size s3).drew | with_reducible exact (Below.refl s3.heap.size s3).alloc (Below.refl s3.heap.size s3).size _ | with_reducible exact ((Below.refl s3.heap.size s3).alloc (Below.refl s3.heap.size s3).size _).drew | with_reducible exact ((Below.refl s3.heap.size s3).drew).alloc (Below.refl s3.heap.size s3).size _) b4 (Below.size (by first | with_reducible exact (Below.refl s3.heap.size s3) | with_reducible exact (Below.refl s3.heap.size s3).drew | with_reducible exact (Below.refl s3.heap.size s3).alloc (Below.refl s3.heap.size s3).size _ | with_reducible exact ((Below.refl s3.heap.size s3).alloc (Below.refl s3.heap.size s3).size _).drew | with_reducible exact ((Below.refl s3.heap.size s3).drew).alloc (Below.refl s3.heap.size s3).size _))); have HZ := Lib.hid hz; clear hz) | skip); clear r4 b4 bb4 rr4)
            | (go_at_call 105; (with_reducible refine (E5.out _ (by first | with_reducible exact BB4.out | with_reducible exact BB4.out.drew | with_reducible exact BB4.out.alloc BB4.out.size _ | with_reducible exact (BB4.out.alloc BB4.out.size _).drew | with_reducible exact (BB4.out.drew).alloc BB4.out.size _)).mono ?_); rintro e s5 ⟨v5, rfl, r5, b5⟩; have bb5 : Below W3.heap.size W3 s5 := below_step (by first | with_reducible exact BB4.out | with_reducible exact BB4.out.drew | with_reducible exact BB4.out.alloc BB4.out.size _ | with_reducible exact (BB4.out.alloc BB4.out.size _).drew | with_reducible exact (BB4.out.drew).alloc BB4.out.size _) b5 (Below.size (by first | with_reducible exact BB4.out | with_reducible exact BB4.out.drew | with_reducible exact BB4.out.alloc BB4.out.size _ | with_reducible exact (BB4.out.alloc BB4.out.size _).drew | with_reducible exact (BB4.out.drew).alloc BB4.out.size _)); have GS5 := Lib.hid (KP.out s5 bb5); have BB5 := Lib.hid bb5; have rr5 := r5.base_le (base' := W3.heap.size) (Below.size (by first | with_reducible exact BB4.out | with_reducible exact BB4.out.drew | with_reducible exact BB4.out.alloc BB4.out.size _ | with_reducible exact (BB4.out.alloc BB4.out.size _).drew | with_reducible exact (BB4.out.drew).alloc BB4.out.size _)); have R5 := Lib.hid rr5; have R3 := Lib.hid (R3.out.below (below_step (by first | with_reducible exact (Below.refl s4.heap.size s4) | with_reducible exact (Below.refl s4.heap.size s4).drew | with_reducible exact (Below.refl s4.heap.size s4).alloc (Below.refl s4.heap.size s4).size _ | with_reducible exact ((Below.refl s4.heap.size s4).alloc (Below.refl s4.heap.size s4).size _).drew | with_reducible exact ((Below.refl s4.heap.size s4).drew).alloc (Below.refl s4.heap.size s4).size _) b5 (Below.size (by first | with_reducible exact (Below.refl s4.heap.size s4) | with_reducible exact (Below.refl s4.heap.size s4).drew | with_reducible exact (Below.refl s4.heap.size s4).alloc (Below.refl s4.heap.size s4).size _ | with_reducible exact ((Below.refl s4.heap.size s4).alloc (Below.refl s4.heap.size s4).size _).drew | with_reducible exact ((Below.refl s4.heap.size s4).drew).alloc (Below.refl s4.heap.size s4).size _)))); have R4 := Lib.hid (R4.out.below (below_step (by first | with_reducible exact (Below.refl s4.heap.size s4) | with_reducible exact (Below.refl s4.heap.size s4).drew | with_reducible exact (Below.refl s4.heap.size s4).alloc (Below.refl s4.heap.size s4).size _ | with_reducible exact ((Below.refl s4.heap.size s4).alloc (Below.refl s4.heap.size s4).size _).drew | with_reducible exact ((Below.refl s4.heap.size s4).drew).alloc (Below.refl s4.heap.size s4).size _) b5 (Below.size (by first | with_reducible exact (Below.refl s4.heap.size s4) | with_reducible exact (Below.refl s4.heap.size s4).drew | with_reducible exact (Below.refl s4.heap.size s4).alloc (Below.refl s4.heap.size s4).size _ | with_reducible exact ((Below.refl s4.heap.size s4).alloc (Below.refl s4.heap.size s4).size _).drew | with_reducible exact ((Below.refl s4.heap.size s4).drew).alloc (Below.refl s4.heap.size s4).size _)))); obtain ⟨sa5, sc5, rfl⟩ := r5.form; (first | (have hz : s5.heap[s4.heap.size]? = some (.cells #[.int .i64 0, .slice none 0 0, .slice none 0 0, .slice none 0 0, .slice none 0 0, .slice none 0 0] 26 (0, 0)) := (by with_reducible first | exact heap_below (heap_newD s4 (.cells #[.int .i64 0, .slice none 0 0, .slice none 0 0, .slice none 0 0, .slice none 0 0, .slice none 0 0] 26)) b5 | exact heap_below (heap_new s4 (.cells #[.int .i64 0, .slice none 0 0, .slice none 0 0, .slice none 0 0, .slice none 0 0, .slice none 0 0] 26) _ rfl) b5); have hzs : W3.heap.size ≤ s4.heap.size := (Below.size (by first | with_reducible exact BB4.out)); have z0 := (cell_of_block hz 0 : _ = some (Value.int .i64 0)); have y0 := unfrozen_of_block hz 0; have z1 := (cell_of_block hz 1 : _ = some (Value.slice none 0 0)); have y1 := unfrozen_of_block hz 1; have z2 := (cell_of_block hz 2 : _ = some (Value.slice none 0 0)); have y2 := unfrozen_of_block hz 2; have z3 := (cell_of_block hz 3 : _ = some (Value.slice none 0 0)); have y3 := unfrozen_of_block hz 3; have z4 := (cell_of_block hz 4 : _ = some (Value.slice none 0 0)); have y4 := unfrozen_of_block hz 4; have z5 := (cell_of_block hz 5 : _ = some (Value.slice none 0 0)); have y5 := unfrozen_of_block hz 5; have HZ := Lib.hid hz; clear hz) | (have hz := heap_below HZ.out (below_step (by first | with_reducible exact (Below.refl s4.heap.size s4) | with_reducible exact (Below.refl s4.heap.size s4).drew | with_reducible exact (Below.refl s4.heap.size s4).alloc (Below.refl s4.heap.size s4).size _ | with_reducible exact ((Below.refl s4.heap.size s4).alloc (Below.refl s4.heap.size s4).size _).drew | with_reducible exact ((Below.refl s4.heap.size s4).drew).alloc (Below.refl s4.heap.size s4).size _) b5 (Below.size (by first | with_reducible exact (Below.refl s4.heap.size s4) | with_reducible exact (Below.refl s4.heap.size s4).drew | with_reducible exact (Below.refl s4.heap.size s4).alloc (Below.refl s4.heap.size s4).size _ | with_reducible exact ((Below.refl s4.heap.size s4).alloc (Below.refl s4.heap.size s4).size _).drew | with_reducible exact ((Below.refl s4.heap.size s4).drew).alloc (Below.refl s4.heap.size s4).size _))); have z0 := (cell_of_block hz 0 : _ = some (Value.int .i64 0)); have y0 := unfrozen_of_block hz 0; have z1 := (cell_of_block hz 1 : _ = some (Value.slice none 0 0)); have y1 := unfrozen_of_block hz 1; have z2 := (cell_of_block hz 2 : _ = some (Value.slice none 0 0)); have y2 := unfrozen_of_block hz 2; have z3 := (cell_of_block hz 3 : _ = some (Value.slice none 0 0)); have y3 := unfrozen_of_block hz 3; have z4 := (cell_of_block hz 4 : _ = some (Value.slice none 0 0)); have y4 := unfrozen_of_block hz 4; have z5 := (cell_of_block hz 5 : _ = some (Value.slice none 0 0)); have y5 := unfrozen_of_block hz 5; have HZ := Lib.hid hz; clear hz) | skip); clear r5 b5 bb5 rr5))
        all_goals go_wp2_with fail
        all_goals go_meet
        all_goals first
          | exact ⟨_, _, _, _, rfl, BB5.out.size, heap_new _ _ _ rfl, R3.out.below (ext_alloc _ _), R4.out.below (ext_alloc _ _), R5.out.below (ext_alloc _ _), BB5.out.alloc BB5.out.size _⟩
          | exact ⟨_, _, _, _, rfl, (by first | exact BB4.out.size | exact BB3.out.size | exact Nat.le_refl _), cir_set HZ.out rfl _ _ _ _ _ _, row_set6 R3.out HZ.out (by decide), row_set6 R4.out HZ.out (by decide), row_set6 R5.out HZ.out (by decide), set6 _ (by first | exact BB4.out.size | exact BB3.out.size | exact Nat.le_refl _) BB5.out⟩
      case rest =>
        obtain ⟨C, v3, v4, v5, rfl, hCs, hC, hr3, hr4, hr5, hb⟩ := hcut
        have hfill : Fill W3.heap.size C n1 (.slice none 0 0) (.slice none 0 0) v3 v4 v5 [] [] (r.outs.map (nowS (toS r))) (r.bads.map (nowS (toS r))) (r.cons.map (nowS (toS r))) wc :=
          ⟨hC.out, own2_nil _ _ _ _, own2_nil _ _ _ _, by rw [List.length_map, L3.out]; exact hr3.out, by rw [List.length_map, L4.out]; exact hr4.out, by rw [List.length_map, L5.out]; exact hr5.out⟩
        have hXc := heap_below HXW.out (HB3.out.trans (hb.out.mono HB3.out.size))
        have p2 := cell_of_block hXc 2
        have HFI := Lib.hid hfill
        have HB := Lib.hid hb.out
        clear hC hr3 hr4 hr5 hb hfill hXc E3 E4 E5
        go_wp2
        clear p2
        go_loopw [56] (fun i wr => ∃ (k : Nat) (v1 : Value), k ≤ n2 ∧ i = .int .i64 k ∧ Hid (Fill W3.heap.size C n1 v1 (.slice none 0 0) v3 v4 v5 ((r.lats.take k).map (latS3 (toS r))) [] (r.outs.map (nowS (toS r))) (r.bads.map (nowS (toS r))) (r.cons.map (nowS (toS r))) wr) ∧ Hid (Below W3.heap.size W3 wr))
          (fun i _ => n2 - (intOf i).toNat)
        case atStart => exact ⟨0, _, Nat.zero_le _, rfl, HFI.out, HB.out⟩
        case round =>
          clear HFI HB
          obtain ⟨k, v1, hk, rfl, hI, hB⟩ := hrel
          by_cases hlt2 : k < n2
          · obtain ⟨b, off, rfl, hbw⟩ := HS.out.s2.addr (show 0 < n2 by omega)
            obtain ⟨qx, qy, qz⟩ := ((HS.out.s2.below HL3.out).below hB.out).cells k hlt2 (0, 0, 0)
            obtain ⟨t, ht⟩ : ∃ t, t = r.lats.getD k (0, 0, 0) := ⟨_, rfl⟩
            have htm : t ∈ r.lats := by rw [ht]; exact getD_mem (by rw [L2.out]; exact hlt2)
            have hrs := HRS.out t htm
            have hnx := HLR.out t.2.1 (by unfold refsL; simp; exact Or.inr (Or.inr (Or.inr (Or.inl ⟨t.1, t.2.2, htm⟩))))
            rw [← ht] at qx qy qz
            have HTT := Lib.hid ht
            clear ht htm
            obtain ⟨x, y, z⟩ := t
            unfold nv32 at qx qy qz
            simp only at hrs hnx
            have W1' : IntKind.i64.wrap ((k : Int) + 1) = (k : Int) + 1 := IntWalk.i64_in _ (by omega)
            obtain ⟨y', hy'⟩ : ∃ y', y' = nowS (toS r) y := ⟨_, rfl⟩
            obtain ⟨z', hz'⟩ : ∃ z', z' = resetS (x, y, z) := ⟨_, rfl⟩
            have HNOW : Hid (∀ W, Below W3.heap.size W3 W → Calls Tryz.prog 104 #[.int .u32 y, .pointer (some ⟨B, 0, .none⟩)] W fun e w' => e = .returned (.int .u32 y') ∧ W = w') := by
              intro W hb
              rw [hy']
              exact now_any y B D (toS r) W ((HTW.out.below HB3.out).below hb) (by rw [HTL.out]; omega) (by omega) HTE.out
            have HRES : Hid (∀ W, Calls Tryz.prog 106 #[.agg #[.int .u32 x, .int .u32 y, .int .u32 z]] W fun e w' => e = .returned (.int .u8 z') ∧ Below W.heap.size W w') := by
              intro W
              rw [hz']
              exact reset_any x y z hrs.1 W
            have HY' := Lib.hid hy'
            have HZ' := Lib.hid hz'
            obtain ⟨va1, vc1, hv1⟩ := own2_form hI.out.f1
            have hlen1 : ((r.lats.take k).map (latS3 (toS r))).length = k := by rw [List.length_map, List.length_take, L2.out]; omega
            rw [hlen1] at hv1
            subst hv1
            have hcC : wr.cell? ⟨C, 1, none⟩ = some (.slice va1 k vc1) := cell_of_block hI.out.var 1
            have hcF : wr.cell? ⟨F, 0, none⟩ = some (.func (.func 104) #[] #[.pointer (some ⟨B, 0, .none⟩)]) := cell_of_block (heap_below HFV.out hB.out) 0
            have HLEN := Lib.hid hlen1
            clear hy' hz' hrs hnx hlen1
            go_wp2
            generalize hX0 : World.alloc wr _ = X0
            have B0 : Below wr.heap.size wr X0 := by subst hX0; exact ext_alloc _ _
            have hg : X0.heap[wr.heap.size]? = some (.cells #[.int .u32 x, .int .u32 y, .int .u32 z] 55 (0, 0)) := by subst hX0; exact heap_new _ _ _ rfl
            clear hX0
            have hgb := hg
            have hFC : F ≠ C := by omega
            have hgC : wr.heap.size ≠ C := by have := heap_lt hI.out.var; omega
            have cC := cell_below hcC B0
            have cF := cell_below hcF B0
            have g0 : X0.cell? ⟨wr.heap.size, 0, none⟩ = some (.int .u32 x) := cell_of_block hg 0
            have g1 : X0.cell? ⟨wr.heap.size, 1, none⟩ = some (.int .u32 y) := cell_of_block hg 1
            have g2 : X0.cell? ⟨wr.heap.size, 2, none⟩ = some (.int .u32 z) := cell_of_block hg 2
            have HB0 := Lib.hid B0
            have hbX : Below W3.heap.size W3 X0 := hB.out.trans (B0.mono hB.out.size)
            have HBX := Lib.hid hbX
            obtain ⟨L, hL⟩ : ∃ L, L = prCs nv8 ((r.lats.take k).map (latS3 (toS r))) := ⟨_, rfl⟩
            have hown0 := hI.out.f1
            unfold own2 at hown0
            rw [← hL, HLEN.out] at hown0
            have HLL := Lib.hid hL
            have HOWN0 := Lib.hid hown0
            have HTK : Hid ((r.lats.take (k + 1)).map (latS3 (toS r)) = (r.lats.take k).map (latS3 (toS r)) ++ [(y', z')]) := by
              show _ = _
              rw [mapk_snoc (latS3 (toS r)) r.lats k (x, y, z) (by rw [L2.out]; exact hlt2) HTT.out, latS3, HY'.out, HZ'.out]
            have hq4 : k + 1 ≤ maxLen := by unfold maxLen; omega
            have hq5 : (k + 1) * 8 ≤ 140737488355328 := by omega
            have hCw := heap_lt hI.out.var
            clear hg hcC hcF B0 hbX hL hown0
            have hX0s := HB0.out.size
            have hBs3 := hB.out.size
            have hgbk := hgb
            clear hgb hFC hgC
            have hgb2 : X0.heap[wr.heap.size]? = some (.cells #[.int .u32 x, .int .u32 y, .int .u32 z] 55 (0, 0)) := hgbk
            have HGB := Lib.hid hgb2
            have HFX := Lib.hid (heap_below HFV.out HBX.out)
            have HELD : Hid (SLat C F wr.heap.size (.slice va1 k vc1) (.func (.func 104) #[] #[.pointer (some ⟨B, 0, .none⟩)]) (.int .u32 x) (.int .u32 y) (.int .u32 z) X0.drew) := ⟨cC, cF, g0, g1, g2⟩
            clear hgb2 hgbk cC cF g0 g1 g2
            refine wp_region_noPanic ?_
            refine wp_region_peelN 12 (by kernel_rfl) rfl (by simp only [List.getElem?_toArray, List.getElem?_cons_zero, List.getElem?_cons_succ]; rfl) (by kernel_rfl) ?_
            simp only [List.pop_toArray, List.dropLast_cons_cons, List.dropLast_singleton]
            refine wpAny_of_held (S := SLat C F wr.heap.size (.slice va1 k vc1) (.func (.func 104) #[] #[.pointer (some ⟨B, 0, .none⟩)]) (.int .u32 x) (.int .u32 y) (.int .u32 z)) _ _ _ _ ?_
            refine wpAnyH_take (i := 0) (v := ?_) (by simp only [List.getElem?_toArray, List.getElem?_cons_zero]; rfl) (by kernel_rfl) (by kernel_rfl) (by kernel_rfl) (fun _ _ _ h => h) (Or.inl ⟨by rfl, ?_⟩) HELD.out ?_
            rotate_left
            · intro w hSw
              obtain ⟨q0, q1, q2, q3, q4⟩ := hSw
              go_simp
              try with_reducible rfl
            try simp only [Act.put, List.setIfInBounds_toArray, List.set_cons_zero, List.set_cons_succ]
            refine wpAnyH_take (i := 1) (v := ?_) (by simp only [List.getElem?_toArray, List.getElem?_cons_zero, List.getElem?_cons_succ]; rfl) (by kernel_rfl) (by kernel_rfl) (by kernel_rfl) (fun _ _ _ h => h) (Or.inl ⟨by rfl, ?_⟩) HELD.out ?_
            rotate_left
            · intro w hSw
              obtain ⟨q0, q1, q2, q3, q4⟩ := hSw
              go_simp
              try with_reducible rfl
            try simp only [Act.put, List.setIfInBounds_toArray, List.set_cons_zero, List.set_cons_succ]
            refine wpAnyH_take (i := 2) (v := ?_) (by simp only [List.getElem?_toArray, List.getElem?_cons_zero, List.getElem?_cons_succ]; rfl) (by kernel_rfl) (by kernel_rfl) (by kernel_rfl) (fun _ _ _ h => h) (Or.inl ⟨by rfl, ?_⟩) HELD.out ?_
            rotate_left
            · intro w hSw
              obtain ⟨q0, q1, q2, q3, q4⟩ := hSw
              go_simp
              try with_reducible rfl
            try simp only [Act.put, List.setIfInBounds_toArray, List.set_cons_zero, List.set_cons_succ]
            refine wpAnyH_take (i := 3) (v := ?_) (by simp only [List.getElem?_toArray, List.getElem?_cons_zero, List.getElem?_cons_succ]; rfl) (by kernel_rfl) (by kernel_rfl) (by kernel_rfl) (fun _ _ _ h => h) (Or.inl ⟨by rfl, ?_⟩) HELD.out ?_
            rotate_left
            · intro w hSw
              obtain ⟨q0, q1, q2, q3, q4⟩ := hSw
              go_simp
              try with_reducible rfl
            try simp only [Act.put, List.setIfInBounds_toArray, List.set_cons_zero, List.set_cons_succ]
            refine wpAnyH_take (i := 4) (v := ?_) (by simp only [List.getElem?_toArray, List.getElem?_cons_zero, List.getElem?_cons_succ]; rfl) (by kernel_rfl) (by kernel_rfl) (by kernel_rfl) (fun _ _ _ h => h) (Or.inl ⟨by rfl, ?_⟩) HELD.out ?_
            rotate_left
            · intro w hSw
              obtain ⟨q0, q1, q2, q3, q4⟩ := hSw
              go_simp
              try with_reducible rfl
            try simp only [Act.put, List.setIfInBounds_toArray, List.set_cons_zero, List.set_cons_succ]
            refine wpAnyH_take (i := 6) (v := ?_) (by simp only [List.getElem?_toArray, List.getElem?_cons_zero, List.getElem?_cons_succ]; rfl) (by kernel_rfl) (by kernel_rfl) (by kernel_rfl) (fun _ _ _ h => h) (Or.inl ⟨by rfl, ?_⟩) HELD.out ?_
            rotate_left
            · intro w hSw
              obtain ⟨q0, q1, q2, q3, q4⟩ := hSw
              go_simp
              try with_reducible rfl
            try simp only [Act.put, List.setIfInBounds_toArray, List.set_cons_zero, List.set_cons_succ]
            refine wpAnyH_ready (rs := [5]) (by kernel_rfl) (by simp) ?_
            refine AllReadyH.cons (by simp only [List.getElem?_toArray, List.getElem?_cons_zero, List.getElem?_cons_succ]; rfl) (fun K hK => ?_) AllReadyH.nil
            go_simp
            refine (HNOW.out _ HBX.out.drew).mono ?_
            rintro e w1 ⟨rfl, rfl⟩
            refine hK.out _ _ HELD.out (fun _ => ?_)
            clear hK K
            try simp only [Act.put, List.setIfInBounds_toArray, List.set_cons_zero, List.set_cons_succ]
            refine wpAnyH_ready (rs := [7]) (by kernel_rfl) (by simp) ?_
            refine AllReadyH.cons (by simp only [List.getElem?_toArray, List.getElem?_cons_zero, List.getElem?_cons_succ]; rfl) (fun K hK => ?_) AllReadyH.nil
            go_simp
            refine (HRES.out _).mono ?_
            rintro e s1 ⟨rfl, b1⟩
            have hb1 : Below X0.heap.size X0 s1 := below_step (Below.refl X0.heap.size X0).drew b1 (Nat.le_refl _)
            have hF1 := heap_below HFX.out hb1
            have hg1 := heap_below HGB.out hb1
            have hC1 := heap_below hI.out.var (below_step HB0.out hb1 HB0.out.size)
            have HELD : Hid (SLat C F wr.heap.size (.slice va1 k vc1) (.func (.func 104) #[] #[.pointer (some ⟨B, 0, .none⟩)]) (.int .u32 x) (.int .u32 y) (.int .u32 z) s1) := ⟨cell_of_block hC1 1, rl_of hF1 hg1⟩
            have HB1 := Lib.hid hb1
            clear hF1 hg1 hC1 b1 hb1
            refine hK.out _ _ HELD.out (fun _ => ?_)
            clear hK K
            try simp only [Act.put, List.setIfInBounds_toArray, List.set_cons_zero, List.set_cons_succ]
            refine wpAnyH_take (i := 8) (v := ?_) (by simp only [List.getElem?_toArray, List.getElem?_cons_zero, List.getElem?_cons_succ]; rfl) (by kernel_rfl) (by kernel_rfl) (by kernel_rfl) (fun _ _ _ h => h) (Or.inl ⟨by rfl, ?_⟩) HELD.out ?_
            rotate_left
            · intro w hSw
              obtain ⟨q0, q1, q2, q3, q4⟩ := hSw
              go_simp
              try with_reducible rfl
            try simp only [Act.put, List.setIfInBounds_toArray, List.set_cons_zero, List.set_cons_succ]
            refine wpAnyH_ready (rs := [9]) (by kernel_rfl) (by simp) ?_
            refine AllReadyH.cons (by simp only [List.getElem?_toArray, List.getElem?_cons_zero, List.getElem?_cons_succ]; rfl) (fun K hK => ?_) AllReadyH.nil
            go_simp
            generalize hS2 : World.alloc s1 _ = s2
            have hbs : Below X0.heap.size X0 s2 := by subst hS2; exact below_step HB1.out (ext_alloc _ _) HB1.out.size
            have hnews : ∀ j u, [Value.int .u32 y', Value.int .u8 z'][j]? = some u → s2.cell? ((⟨s1.heap.size, 0, none⟩ : Addr).add j) = some u := by
              subst hS2; exact World.news_of_block (heap_new s1 (.cells #[.int .u32 y', .int .u8 z'] 61) s1.heap.size rfl)
            clear hS2
            have hbb := below_step HB0.out hbs HB0.out.size
            have HO1 := Lib.hid (ownsN_below HOWN0.out hbb)
            have HC1 := Lib.hid (heap_below hI.out.var hbb)
            have HF1 := Lib.hid (heap_below HFX.out hbs)
            have HG1 := Lib.hid (heap_below HGB.out hbs)
            have HNEWS := Lib.hid hnews
            have HBB := Lib.hid hbb
            have hq6 : W3.heap.size ≤ s2.heap.size := Nat.le_trans hB.out.size hbb.size
            have HELD : Hid (SLat C F wr.heap.size (.slice va1 k vc1) (.func (.func 104) #[] #[.pointer (some ⟨B, 0, .none⟩)]) (.int .u32 x) (.int .u32 y) (.int .u32 z) s2) := ⟨cell_of_block HC1.out 1, rl_of HF1.out HG1.out⟩
            clear hbs hbb hnews
            refine hK.out _ _ HELD.out (fun _ => ?_)
            clear hK K
            try simp only [Act.put, List.setIfInBounds_toArray, List.set_cons_zero, List.set_cons_succ]
            refine wpAnyH_ready (rs := [10]) (by kernel_rfl) (by simp) ?_
            refine AllReadyH.cons (by simp only [List.getElem?_toArray, List.getElem?_cons_zero, List.getElem?_cons_succ]; rfl) (fun K hK => ?_) AllReadyH.nil
            refine step_append_own_at rfl _ _ 22 rfl W3.heap.size 61 il (.agg #[.int .u32 0, .int .u8 0]) 2 8 Tryz.underlying22 hil hzl0 hzl1 hzl2 rfl (by omega) _ _ L rfl HO1.out _ 1 1 [.int .u32 y', .int .u8 z'] rfl rfl HNEWS.out (by intro u hu; simp at hu; rcases hu with rfl | rfl <;> rfl) hq4 hq5 hq6 ?_
            intro v2 w2 r2 hg2
            obtain ⟨a2, c2', rfl⟩ := ownsN_form r2
            have hC2 := heap_grown HC1.out hg2 (ownsN_notown HO1.out HC1.out (by decide))
            have hF2' := heap_grown HF1.out hg2 (ownsN_notown HO1.out HF1.out (by decide))
            have hg2' := heap_grown HG1.out hg2 (ownsN_notown HO1.out HG1.out (by decide))
            have hc2 : w2.cell? ⟨C, 1, none⟩ = some (.slice va1 k vc1) := cell_of_block hC2 1
            have hf2 : w2.frozen? ⟨C, 1, none⟩ = false := unfrozen_of_block hC2 1
            have HELD : Hid (SLat C F wr.heap.size (.slice va1 k vc1) (.func (.func 104) #[] #[.pointer (some ⟨B, 0, .none⟩)]) (.int .u32 x) (.int .u32 y) (.int .u32 z) w2) := ⟨hc2, rl_of hF2' hg2'⟩
            have HG2 := Lib.hid hg2
            have R2 := Lib.hid r2
            clear hg2 r2 hC2 hF2' hg2'
            refine hK.out _ _ HELD.out (fun _ => ?_)
            clear hK K
            try simp only [Act.put, List.setIfInBounds_toArray, List.set_cons_zero, List.set_cons_succ]
            refine wpAnyH_take (i := 11) (v := ?_) (by simp only [List.getElem?_toArray, List.getElem?_cons_zero, List.getElem?_cons_succ]; rfl) (by kernel_rfl) (by kernel_rfl) (by kernel_rfl) (fun _ _ _ h => h) (Or.inl ⟨by rfl, ?_⟩) HELD.out ?_
            rotate_left
            · intro w hSw
              obtain ⟨q0, q1, q2, q3, q4⟩ := hSw
              go_simp
              try with_reducible rfl
            try simp only [Act.put, List.setIfInBounds_toArray, List.set_cons_zero, List.set_cons_succ]
            refine wpAnyH_done (by kernel_rfl) ?_ _
            unfold LastQ wpOp
            simp only [List.getElem?_toArray, List.getElem?_cons_zero, List.getElem?_cons_succ]
            rw [if_pos (by rfl)]
            refine Or.inl ?_
            go_simp
            refine NoPanic.normal ?_
            have HF9 := Lib.hid (Fill.lat (a := y') (b := z') hI.out HBB.out HG2.out R2.out (by rw [HLEN.out]) (by rw [HLL.out]; rfl))
            rw [← HTK.out] at HF9
            have HB9 := Lib.hid (hB.out.trans (fill_below (base := W3.heap.size) (v' := .slice a2 (k + 1) c2') (C := C) (f := 1) HBB.out hBs3 hCs HO1.out HG2.out))
            clear hI hB
            go_wp2
            go_roundw
            case rel => exact ⟨k + 1, _, by omega, by go_num, HF9.out, HB9.out⟩
            case measure => simp [intOf]; omega
          · obtain rfl : n2 = k := by omega
            have hfill : Fill W3.heap.size C n1 v1 (.slice none 0 0) v3 v4 v5 (r.lats.map (latS3 (toS r))) ((r.gates.take 0).map (gateS3 (toS r))) (r.outs.map (nowS (toS r))) (r.bads.map (nowS (toS r))) (r.cons.map (nowS (toS r))) wr := by
              have h1 := hI.out
              rw [List.take_of_length_le (by rw [L2.out]; exact Nat.le_refl _)] at h1
              exact h1
            have hXc := heap_below HXW.out (HB3.out.trans (hB.out.mono HB3.out.size))
            have p6 := cell_of_block hXc 6
            have HFI := Lib.hid hfill
            have HB := Lib.hid hB.out
            clear hI hB hfill hXc hlt2 hk
            go_wp2
            clear p6
            go_loopw [76] (fun i wr => ∃ (k : Nat) (v2 : Value), k ≤ n6 ∧ i = .int .i64 k ∧ Hid (Fill W3.heap.size C n1 v1 v2 v3 v4 v5 (r.lats.map (latS3 (toS r))) ((r.gates.take k).map (gateS3 (toS r))) (r.outs.map (nowS (toS r))) (r.bads.map (nowS (toS r))) (r.cons.map (nowS (toS r))) wr) ∧ Hid (Below W3.heap.size W3 wr))
              (fun i _ => n6 - (intOf i).toNat)
            case atStart => exact ⟨0, _, Nat.zero_le _, rfl, HFI.out, HB.out⟩
            case round =>
              clear HFI HB
              obtain ⟨k, v2, hk, rfl, hI, hB⟩ := hrel
              by_cases hlt2 : k < n6
              · obtain ⟨b, off, rfl, hbw⟩ := HS.out.s6.addr (show 0 < n6 by omega)
                obtain ⟨qx, qy, qz⟩ := ((HS.out.s6.below HL3.out).below hB.out).cells k hlt2 (0, 0, 0)
                obtain ⟨t, ht⟩ : ∃ t, t = r.gates.getD k (0, 0, 0) := ⟨_, rfl⟩
                have htm : t ∈ r.gates := by rw [ht]; exact getD_mem (by rw [L6.out]; exact hlt2)
                have hny := HLR.out t.2.1 (by unfold refsL; simp; exact Or.inr (Or.inr (Or.inr (Or.inr ⟨t.1, t.2.1, t.2.2, htm, by simp [gate1]⟩))))
                have hnz := HLR.out t.2.2 (by unfold refsL; simp; exact Or.inr (Or.inr (Or.inr (Or.inr ⟨t.1, t.2.1, t.2.2, htm, by simp [gate1]⟩))))
                rw [← ht] at qx qy qz
                have HTT := Lib.hid ht
                clear ht htm
                obtain ⟨x, y, z⟩ := t
                unfold nv32 at qx qy qz
                simp only at hny hnz
                have W1' : IntKind.i64.wrap ((k : Int) + 1) = (k : Int) + 1 := IntWalk.i64_in _ (by omega)
                obtain ⟨y', hy'⟩ : ∃ y', y' = nowS (toS r) y := ⟨_, rfl⟩
                obtain ⟨z', hz'⟩ : ∃ z', z' = nowS (toS r) z := ⟨_, rfl⟩
                have HNY : Hid (∀ W, Below W3.heap.size W3 W → Calls Tryz.prog 104 #[.int .u32 y, .pointer (some ⟨B, 0, .none⟩)] W fun e w' => e = .returned (.int .u32 y') ∧ W = w') := by
                  intro W hb
                  rw [hy']
                  exact now_any y B D (toS r) W ((HTW.out.below HB3.out).below hb) (by rw [HTL.out]; omega) (by omega) HTE.out
                have HNZ : Hid (∀ W, Below W3.heap.size W3 W → Calls Tryz.prog 104 #[.int .u32 z, .pointer (some ⟨B, 0, .none⟩)] W fun e w' => e = .returned (.int .u32 z') ∧ W = w') := by
                  intro W hb
                  rw [hz']
                  exact now_any z B D (toS r) W ((HTW.out.below HB3.out).below hb) (by rw [HTL.out]; omega) (by omega) HTE.out
                have HY' := Lib.hid hy'
                have HZ' := Lib.hid hz'
                obtain ⟨va1, vc1, hv1⟩ := own2_form hI.out.f2
                have hlen1 : ((r.gates.take k).map (gateS3 (toS r))).length = k := by rw [List.length_map, List.length_take, L6.out]; omega
                rw [hlen1] at hv1
                subst hv1
                have HLEN := Lib.hid hlen1
                clear hy' hz' hny hnz hlen1
                go_wp2
                generalize hX0 : World.alloc wr _ = X0
                have B0 : Below wr.heap.size wr X0 := by subst hX0; exact ext_alloc _ _
                have hg : X0.heap[wr.heap.size]? = some (.cells #[.int .u32 x, .int .u32 y, .int .u32 z] 58 (0, 0)) := by subst hX0; exact heap_new _ _ _ rfl
                clear hX0
                have hbX : Below W3.heap.size W3 X0 := hB.out.trans (B0.mono hB.out.size)
                have cF : X0.cell? ⟨F, 0, none⟩ = some (.func (.func 104) #[] #[.pointer (some ⟨B, 0, .none⟩)]) := cell_of_block (heap_below HFV.out hbX) 0
                have cC : X0.cell? ⟨C, 2, none⟩ = some (.slice va1 k vc1) := cell_of_block (heap_below hI.out.var B0) 2
                have fC : X0.frozen? ⟨C, 2, none⟩ = false := unfrozen_of_block (heap_below hI.out.var B0) 2
                have g1 : X0.cell? ⟨wr.heap.size, 1, none⟩ = some (.int .u32 y) := cell_of_block hg 1
                have g2 : X0.cell? ⟨wr.heap.size, 2, none⟩ = some (.int .u32 z) := cell_of_block hg 2
                have HBX := Lib.hid hbX
                have HB0 := Lib.hid B0
                clear hg B0 hbX
                have HG3 : Hid (X0.drew.cell? ⟨F, 0, none⟩ = some (.func (.func 104) #[] #[.pointer (some ⟨B, 0, .none⟩)]) ∧ X0.drew.cell? ⟨wr.heap.size, 1, none⟩ = some (.int .u32 y) ∧ X0.drew.cell? ⟨wr.heap.size, 2, none⟩ = some (.int .u32 z)) := ⟨cF, g1, g2⟩
                go_region_held3 (fun w' => w'.cell? ⟨F, 0, none⟩ = some (.func (.func 104) #[] #[.pointer (some ⟨B, 0, .none⟩)]) ∧ w'.cell? ⟨wr.heap.size, 1, none⟩ = some (.int .u32 y) ∧ w'.cell? ⟨wr.heap.size, 2, none⟩ = some (.int .u32 z))
                  (with_reducible exact HG3.out)
                  (first
                  | (go_at_call 104; (with_reducible refine (HNY.out _ (by with_reducible exact HBX.out.drew)).mono ?_); rintro e w1 ⟨rfl, rfl⟩)
                  | (go_at_call 104; (with_reducible refine (HNZ.out _ (by with_reducible exact HBX.out.drew)).mono ?_); rintro e w1 ⟨rfl, rfl⟩))
                obtain ⟨L, hL⟩ : ∃ L, L = prCs nv32 ((r.gates.take k).map (gateS3 (toS r))) := ⟨_, rfl⟩
                have hown0 := hI.out.f2
                unfold own2 at hown0
                rw [← hL, HLEN.out] at hown0
                obtain ⟨S2, hS2⟩ : ∃ S2, S2 = (X0.alloc (.cells #[.int .u32 (max (y' : Int) (z' : Int)), .int .u32 (min (y' : Int) (z' : Int))] 46)).drew := ⟨_, rfl⟩
                have hbs : Below X0.heap.size X0 S2 := by rw [hS2]; exact (ext_alloc _ _).drew
                have hbb := below_step HB0.out hbs HB0.out.size
                have hnews : ∀ j u, [Value.int .u32 (max (y' : Int) (z' : Int)), Value.int .u32 (min (y' : Int) (z' : Int))][j]? = some u → S2.cell? ((⟨X0.heap.size, 0, none⟩ : Addr).add j) = some u := by
                  rw [hS2]; exact World.news_of_block (heap_new X0 (.cells #[.int .u32 (max (y' : Int) (z' : Int)), .int .u32 (min (y' : Int) (z' : Int))] 46) X0.heap.size rfl)
                have ho1 := ownsN_below hown0 hbb
                have hq6 : W3.heap.size ≤ S2.heap.size := Nat.le_trans hB.out.size hbb.size
                have hq4 : k + 1 ≤ maxLen := by unfold maxLen; omega
                have hq5 : (k + 1) * 8 ≤ 140737488355328 := by omega
                have HLL := Lib.hid hL
                have HBB := Lib.hid hbb
                have HC1 := Lib.hid (heap_below hI.out.var hbb)
                have HO1 := Lib.hid ho1
                have HO2 := Lib.hid ho1
                have HNW := Lib.hid hnews
                have HQ6 := Lib.hid hq6
                rw [hS2] at HO2 HNW HQ6
                have HS2 := Lib.hid hS2
                have hBs3 := hB.out.size
                have HTK : Hid ((r.gates.take (k + 1)).map (gateS3 (toS r)) = (r.gates.take k).map (gateS3 (toS r)) ++ [(max y' z', min y' z')]) := by
                  show _ = _
                  rw [mapk_snoc (gateS3 (toS r)) r.gates k (x, y, z) (by rw [L6.out]; exact hlt2) HTT.out, gateS3, HY'.out, HZ'.out]
                clear hL hown0 hbs hbb hnews ho1 hq6 hS2
                go_wp2_with (at_builtin; refine wpList_append_own_at _ rfl _ _ 23 rfl W3.heap.size 46 ig (.agg #[.int .u32 0, .int .u32 0]) 2 8 Tryz.underlying23 hig hzg0 hzg1 hzg2 rfl (by omega) _ _ L rfl HO2.out ⟨X0.heap.size, 0, none⟩ 1 1 [.int .u32 (max (y' : Int) (z' : Int)), .int .u32 (min (y' : Int) (z' : Int))] rfl rfl ?c1 ?c2 ?c4 ?c5 ?c6 ?_)
                case c1 => exact HNW.out
                case c2 => first | rfl | exact ⟨rfl, rfl⟩ | (intro u hu; simp at hu; rcases hu with rfl | rfl <;> rfl)
                case c4 => exact hq4
                case c5 => exact hq5
                case c6 => exact HQ6.out
                intro v2 w2 r2 hg2' _ _
                have hg2 : S2.grownBy w2 (Value.slice va1 k vc1).ownBlock := by rw [HS2.out]; exact hg2'
                obtain ⟨a2, c2', rfl⟩ := ownsN_form r2
                have hC2 := heap_grown HC1.out hg2 (ownsN_notown HO1.out HC1.out (by decide))
                have hc2 : w2.cell? ⟨C, 2, none⟩ = some (.slice va1 k vc1) := cell_of_block hC2 2
                have hf2 : w2.frozen? ⟨C, 2, none⟩ = false := unfrozen_of_block hC2 2
                have HF9 := Lib.hid (Fill.gate (a := max y' z') (b := min y' z') hI.out HBB.out hg2 r2 (by rw [HLEN.out]) (by
                  rw [HLL.out]
                  unfold nv32
                  rw [show ((max y' z' : Nat) : Int) = max (y' : Int) (z' : Int) by omega, show ((min y' z' : Nat) : Int) = min (y' : Int) (z' : Int) by omega]))
                rw [← HTK.out] at HF9
                have HB9 := Lib.hid (hB.out.trans (fill_below (base := W3.heap.size) (v' := .slice a2 (k + 1) c2') (C := C) (f := 2) HBB.out hBs3 hCs HO1.out hg2))
                clear hI hB hg2 hg2' hC2 r2
                go_wp2
                go_roundw
                case rel => exact ⟨k + 1, _, by omega, by go_num, HF9.out, HB9.out⟩
                case measure => simp [intOf]; omega
              · obtain rfl : n6 = k := by omega
                have hfill := hI.out
                rw [List.take_of_length_le (by rw [L6.out]; exact Nat.le_refl _)] at hfill
                have hbW := hB.out
                obtain ⟨e1, d1, hv1⟩ := own2_form hfill.f1
                obtain ⟨e2, d2, hv2⟩ := own2_form hfill.f2
                obtain ⟨e3, d3, hv3⟩ := hfill.f3.form
                obtain ⟨e4, d4, hv4⟩ := hfill.f4.form
                obtain ⟨e5, d5, hv5⟩ := hfill.f5.form
                rw [List.length_map, L2.out] at hv1
                rw [List.length_map, L6.out] at hv2
                rw [List.length_map, L3.out] at hv3
                rw [List.length_map, L4.out] at hv4
                rw [List.length_map, L5.out] at hv5
                subst hv1
                subst hv2
                subst hv3
                subst hv4
                subst hv5
                have q0 := cell_of_block hfill.var 0
                have q1 := cell_of_block hfill.var 1
                have q2 := cell_of_block hfill.var 2
                have q3 := cell_of_block hfill.var 3
                have q4 := cell_of_block hfill.var 4
                have q5 := cell_of_block hfill.var 5
                have hRw := heap_below HRW.out (HB3.out.trans (hbW.mono HB3.out.size))
                have z0 := cell_of_block hRw 0
                have z1 := cell_of_block hRw 1
                have z2 := cell_of_block hRw 2
                have z3 := cell_of_block hRw 3
                have z4 := cell_of_block hRw 4
                have z5 := cell_of_block hRw 5
                have y0 := unfrozen_of_block hRw 0
                have y1 := unfrozen_of_block hRw 1
                have y2 := unfrozen_of_block hRw 2
                have y3 := unfrozen_of_block hRw 3
                have y4 := unfrozen_of_block hRw 4
                have y5 := unfrozen_of_block hRw 5
                have HFIN := Lib.hid hfill
                have HBW := Lib.hid hbW
                have HRR := Lib.hid hRw
                clear hI hB hfill hbW hRw
                clear P1 P3 P4 P5 ne1
                go_wp2
                refine bodyPost_ret (v := cirV n1 ⟨e1, n2, d1, e2, n6, d2, e3, n3, d3, e4, n4, d4, e5, n5, d5⟩) ?_ rfl ?_
                · have h6 := cir_set HRR.out rfl (.int .i64 n1) (.slice e1 n2 d1) (.slice e2 n6 d2) (.slice e3 n3 d3) (.slice e4 n4 d4) (.slice e5 n5 d5)
                  have g0 := cell_of_block h6 0
                  have g1 := cell_of_block h6 1
                  have g2 := cell_of_block h6 2
                  have g3 := cell_of_block h6 3
                  have g4 := cell_of_block h6 4
                  have g5 := cell_of_block h6 5
                  simp [results, Tryz.results71, go_sem, g0, g1, g2, g3, g4, g5]
                  rfl
                · exact ren_end HFIN.out L1.out (show w.heap.size + 1 < W3.heap.size by omega) (HL3.out.trans (HBW.out.mono (by omega)))
end Go.Proofs.YtglhnmbfkbjemaaGreatDoor
