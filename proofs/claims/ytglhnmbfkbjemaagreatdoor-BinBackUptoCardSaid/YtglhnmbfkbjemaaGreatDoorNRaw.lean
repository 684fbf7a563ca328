/- norm.Raw, by its contract. -/
import Derived.Test.YtglhnmbfkbjemaaGreatDoorBkJ
import Derived.Test.YtglhnmbfkbjemaaGreatDoorBkE
import Derived.Test.YtglhnmbfkbjemaaGreatDoorBkI
import Derived.Test.YtglhnmbfkbjemaaGreatDoorBkK
import Derived.Deep.CutRange
namespace Go.Proofs.YtglhnmbfkbjemaaGreatDoor
open Go Go.RowKit Go.Joins
def zeroRawV : Value := .agg #[.int .u32 0, .slice none 0 0, .slice none 0 0, .slice none 0 0, .slice none 0 0, .slice none 0 0, .slice none 0 0]
def RawPost (c : NormC) (w : World) (e : Ending) (w' : World) : Prop :=
  Below w.heap.size w w' ∧ ((mayC c = true ∧ ∃ s, e = .returned (.tuple #[rawV (varsN c) s, .int .i64 0]) ∧ SeesRaw w' s (rawS c) ∧ Row isU32 w' w.heap.size 35 (.slice s.a3 s.n3 s.c3) c.outs.length (c.outs.map nv32) ∧ Row isU32 w' w.heap.size 35 (.slice s.a4 s.n4 s.c4) c.bads.length (c.bads.map nv32)) ∨
    (mayC c = false ∧ e = .returned (.tuple #[zeroRawV, .int .i64 2])))
theorem cell_set7 {w : World} {G b k : Nat} {v u0 u1 u2 u3 u4 u5 u6 : Value} (h : w.cell? ⟨b, k, none⟩ = some v) (hne : b ≠ G) :
    (((((((w.setCell ⟨G, 0, .none⟩ u0).setCell ⟨G, 1, .none⟩ u1).setCell ⟨G, 2, .none⟩ u2).setCell ⟨G, 3, .none⟩ u3).setCell ⟨G, 4, .none⟩ u4).setCell ⟨G, 5, .none⟩ u5).setCell ⟨G, 6, .none⟩ u6).cell? ⟨b, k, none⟩ = some v := by
  have ne : ∀ j, (⟨G, j, none⟩ : Addr) ≠ ⟨b, k, none⟩ := fun j e => hne (by cases e; rfl)
  rw [World.cell?_setCell_other _ _ _ _ (ne 6)]
  exact cell_set6 h hne
theorem set7_other {X : World} (g D : Nat) (hD : D ≠ g) (u0 u1 u2 u3 u4 u5 u6 : Value) :
    (((((((X.setCell ⟨g, 0, .none⟩ u0).setCell ⟨g, 1, .none⟩ u1).setCell ⟨g, 2, .none⟩ u2).setCell ⟨g, 3, .none⟩ u3).setCell ⟨g, 4, .none⟩ u4).setCell ⟨g, 5, .none⟩ u5).setCell ⟨g, 6, .none⟩ u6).heap[D]? = X.heap[D]? := by
  rw [Below.heap_setCell _ ⟨g, 6, .none⟩ _ D hD]
  exact set6_other g D hD _ _ _ _ _ _
theorem row_set7 {ok : Value → Prop} {w : World} {base : Nat} {e : TypeId} {v : Value} {n : Nat} {xs : List Value} (h : Row ok w base e v n xs) {G : Nat} {C : Array Value} {t : TypeId} {fr : Nat × Nat} (hz : w.heap[G]? = some (.cells C t fr)) (ht : t ≠ e) {u0 u1 u2 u3 u4 u5 u6 : Value} :
    Row ok (((((((w.setCell ⟨G, 0, .none⟩ u0).setCell ⟨G, 1, .none⟩ u1).setCell ⟨G, 2, .none⟩ u2).setCell ⟨G, 3, .none⟩ u3).setCell ⟨G, 4, .none⟩ u4).setCell ⟨G, 5, .none⟩ u5).setCell ⟨G, 6, .none⟩ u6) base e v n xs :=
  h.other fun k hk => set7_other G k (fun e => (h.not_own hz ht) (by rw [hk, e])) _ _ _ _ _ _ _
theorem cell_set3 {w : World} {G b k : Nat} {v u0 u1 u2 : Value} (h : w.cell? ⟨b, k, none⟩ = some v) (hne : b ≠ G) :
    (((w.setCell ⟨G, 0, .none⟩ u0).setCell ⟨G, 1, .none⟩ u1).setCell ⟨G, 2, .none⟩ u2).cell? ⟨b, k, none⟩ = some v := by
  have ne : ∀ j, (⟨G, j, none⟩ : Addr) ≠ ⟨b, k, none⟩ := fun j e => hne (by cases e; rfl)
  rw [World.cell?_setCell_other _ _ _ _ (ne 2), World.cell?_setCell_other _ _ _ _ (ne 1), World.cell?_setCell_other _ _ _ _ (ne 0)]
  exact h
theorem tri_set {X : World} {g : Nat} {C : Array Value} {t : TypeId} (h : X.heap[g]? = some (.cells C t (0, 0))) (hC : C.size = 3) (u0 u1 u2 : Value) :
    (((X.setCell ⟨g, 0, .none⟩ u0).setCell ⟨g, 1, .none⟩ u1).setCell ⟨g, 2, .none⟩ u2).heap[g]? = some (.cells #[u0, u1, u2] t (0, 0)) := by
  obtain ⟨l⟩ := C
  match l, hC with
  | [_, _, _], _ =>
    have h0 := block_setCell h (i := 0) u0
    have h1 := block_setCell h0 (i := 1) u1
    have h2 := block_setCell h1 (i := 2) u2
    simpa using h2
theorem set3 {B : Nat} {w X : World} (g : Nat) (hg : B ≤ g) (h : Below B w X) {u0 u1 u2 : Value} : Below B w (((X.setCell ⟨g, 0, .none⟩ u0).setCell ⟨g, 1, .none⟩ u1).setCell ⟨g, 2, .none⟩ u2) := ((h.setCell hg _).setCell hg _).setCell hg _
structure RInv (w3 : World) (RB m : Nat) (v1 v2 v3 v4 v5 v6 : Value) (is : List Nat) (ls gs : List Tri) (w : World) : Prop where
  var : w.heap[RB]? = some (.cells #[.int .u32 m, v1, v2, v3, v4, v5, v6] 39 (0, 0))
  f1 : w.ownsRow w3.heap.size 35 1 v1 is.length (is.map nv32)
  f2 : own3 55 w w3.heap.size v2 ls
  f6 : own3 58 w w3.heap.size v6 gs
  but : But2 w3.heap.size RB RB w3 w
theorem RInv.below {w3 : World} {RB m : Nat} {v1 v2 v3 v4 v5 v6 : Value} {is : List Nat} {ls gs : List Tri} {w w' : World} (h : RInv w3 RB m v1 v2 v3 v4 v5 v6 is ls gs w) (hb : Below w.heap.size w w') : RInv w3 RB m v1 v2 v3 v4 v5 v6 is ls gs w' :=
  ⟨heap_below h.var hb, ownsN_below h.f1 hb, own3_below h.f2 hb, own3_below h.f6 hb, h.but.trans (But2.of_below (hb.mono h.but.size))⟩
theorem owns_setR {w : World} {base k : Nat} {e : TypeId} {v : Value} {n : Nat} {xs : List Value} (h : w.ownsRow base e k v n xs) {RB j : Nat} (hRB : RB < base) (u : Value) : (w.setCell ⟨RB, j, .none⟩ u).ownsRow base e k v n xs :=
  ownsN_other h fun q hq => Below.heap_setCell w ⟨RB, j, .none⟩ u q (show q ≠ RB from fun e => by have := (h.lt q hq).1; omega)
theorem but_step {base U : Nat} {w3 w w1 w2 : World} (h : But2 base U U w3 w) (hb : Below w.heap.size w w1) {e : TypeId} {k n : Nat} {v : Value} {L : List Value} (hr : w1.ownsRow base e k v n L) (hg : w1.grownBy w2 v.ownBlock) (j : Nat) (u : Value) (hs : base ≤ w.heap.size) : But2 base U U w3 (w2.setCell ⟨U, j, .none⟩ u) := by
  have h1 : But2 base U U w3 w2 := h.trans (But2.of_below ((hb.mono hs).trans (ownsN_low hr hg (Nat.le_trans hs hb.size))))
  refine ⟨h1.os, h1.tape, h1.output, by have := h1.size; simpa using this, fun D d1 d2 d3 => ?_⟩
  rw [Below.heap_setCell w2 ⟨U, j, .none⟩ u D d2]
  exact h1.block D d1 d2 d3
section
variable {w3 : World} {RB m : Nat} {v1 v2 v3 v4 v5 v6 v' : Value} {is : List Nat} {ls gs : List Tri} {w w1 w2 : World}
theorem RInv.grow_ins (h : RInv w3 RB m v1 v2 v3 v4 v5 v6 is ls gs w) (hRB : RB < w3.heap.size) (hb : Below w.heap.size w w1) (hg : w1.grownBy w2 v1.ownBlock) {x n : Nat} {L : List Value} (hr : w2.ownsRow w3.heap.size 35 1 v' n L) (hn : n = is.length + 1) (hL : L = is.map nv32 ++ [nv32 x]) :
    RInv w3 RB m v' v2 v3 v4 v5 v6 (is ++ [x]) ls gs (w2.setCell ⟨RB, 1, .none⟩ v') := by
  have h1 := h.below hb
  have hC := heap_grown h1.var hg (fun e => by have := (h1.f1.lt RB e).1; omega)
  refine ⟨by simpa using block_setCell hC (i := 1) v', ?_, owns_setR (owns_grown h1.f2 h1.f1 hg (by decide)) hRB _, owns_setR (owns_grown h1.f6 h1.f1 hg (by decide)) hRB _, but_step h.but hb h1.f1 hg 1 v' h.but.size⟩
  have e : (is ++ [x]).length = n := by simp [hn]
  rw [e, List.map_append, List.map_cons, List.map_nil, ← hL]
  exact owns_setR hr hRB _
theorem RInv.grow_lat (h : RInv w3 RB m v1 v2 v3 v4 v5 v6 is ls gs w) (hRB : RB < w3.heap.size) (hb : Below w.heap.size w w1) (hg : w1.grownBy w2 v2.ownBlock) {x : Tri} {n : Nat} {L : List Value} (hr : w2.ownsRow w3.heap.size 55 3 v' n L) (hn : n = ls.length + 1) (hL : L = triCs ls ++ triC x) :
    RInv w3 RB m v1 v' v3 v4 v5 v6 is (ls ++ [x]) gs (w2.setCell ⟨RB, 2, .none⟩ v') := by
  have h1 := h.below hb
  have hC := heap_grown h1.var hg (fun e => by have := (World.ownsRow.lt h1.f2 RB e).1; omega)
  refine ⟨by simpa using block_setCell hC (i := 2) v', owns_setR (owns_grown h1.f1 h1.f2 hg (by decide)) hRB _, ?_, owns_setR (owns_grown h1.f6 h1.f2 hg (by decide)) hRB _, but_step h.but hb h1.f2 hg 2 v' h.but.size⟩
  unfold own3
  have e : (ls ++ [x]).length = n := by simp [hn]
  rw [e, triCs_append, triCs, triCs, List.append_nil, ← hL]
  exact owns_setR hr hRB _
theorem RInv.grow_gate (h : RInv w3 RB m v1 v2 v3 v4 v5 v6 is ls gs w) (hRB : RB < w3.heap.size) (hb : Below w.heap.size w w1) (hg : w1.grownBy w2 v6.ownBlock) {x : Tri} {n : Nat} {L : List Value} (hr : w2.ownsRow w3.heap.size 58 3 v' n L) (hn : n = gs.length + 1) (hL : L = triCs gs ++ triC x) :
    RInv w3 RB m v1 v2 v3 v4 v5 v' is ls (gs ++ [x]) (w2.setCell ⟨RB, 6, .none⟩ v') := by
  have h1 := h.below hb
  have hC := heap_grown h1.var hg (fun e => by have := (World.ownsRow.lt h1.f6 RB e).1; omega)
  refine ⟨by simpa using block_setCell hC (i := 6) v', owns_setR (owns_grown h1.f1 h1.f6 hg (by decide)) hRB _, owns_setR (owns_grown h1.f2 h1.f6 hg (by decide)) hRB _, ?_, but_step h.but hb h1.f6 hg 6 v' h.but.size⟩
  unfold own3
  have e : (gs ++ [x]).length = n := by simp [hn]
  rw [e, triCs_append, triCs, triCs, List.append_nil, ← hL]
  exact owns_setR hr hRB _
end
theorem owns_set7 {w : World} {base k n : Nat} {e : TypeId} {v : Value} {xs : List Value} (h : w.ownsRow base e k v n xs) {G : Nat} (hG : G < base) {u0 u1 u2 u3 u4 u5 u6 : Value} :
    (((((((w.setCell ⟨G, 0, .none⟩ u0).setCell ⟨G, 1, .none⟩ u1).setCell ⟨G, 2, .none⟩ u2).setCell ⟨G, 3, .none⟩ u3).setCell ⟨G, 4, .none⟩ u4).setCell ⟨G, 5, .none⟩ u5).setCell ⟨G, 6, .none⟩ u6).ownsRow base e k v n xs :=
  ownsN_other h fun q hq => set7_other G q (by have := (h.lt q hq).1; omega) _ _ _ _ _ _ _
theorem rowb_set7 {w : World} {base B n : Nat} {e : TypeId} {v : Value} {xs : List Value} (h : Row isU32 w base e v n xs) {G : Nat} (hG : G < base) (hB : B ≤ base) {u0 u1 u2 u3 u4 u5 u6 : Value} :
    Row isU32 (((((((w.setCell ⟨G, 0, .none⟩ u0).setCell ⟨G, 1, .none⟩ u1).setCell ⟨G, 2, .none⟩ u2).setCell ⟨G, 3, .none⟩ u3).setCell ⟨G, 4, .none⟩ u4).setCell ⟨G, 5, .none⟩ u5).setCell ⟨G, 6, .none⟩ u6) B e v n xs :=
  Row.base_le (h.other fun q hq => set7_other G q (by have := (h.own.lt q hq).1; omega) _ _ _ _ _ _ _) hB
theorem owns1_sees {w : World} {base m : Nat} {e : TypeId} {a : Option Addr} {n c : Nat} {xs : List Value} (h : w.ownsRow base e 1 (.slice a n c) m xs) : Sees w a n c xs := by
  obtain ⟨a', c', e, _, hs⟩ := Sees.owned h
  cases e
  exact hs
theorem own3_sees_slice {T : TypeId} {w : World} {base : Nat} {a : Option Addr} {n c : Nat} {xs : List Tri} (h : own3 T w base (.slice a n c) xs) : Sees3 w a n c xs := by
  obtain ⟨a', c', e, hs⟩ := own3_sees h
  cases e
  exact hs
theorem tenAt {w s w2 : World} {base n : Nat} {e : TypeId} {k : Nat} {v : Value} {L : List Value} {u0 u1 : Value} (h0 : w.ownsRow base e k v n L) (hg : s.grownBy w2 v.ownBlock) (c0 : s.cell? ⟨w.heap.size, 0, none⟩ = some u0) (c1 : s.cell? ⟨w.heap.size, 1, none⟩ = some u1) :
    w2.cell? ⟨w.heap.size, 0, none⟩ = some u0 ∧ w2.cell? ⟨w.heap.size, 1, none⟩ = some u1 := by
  have hlt : w.heap.size < s.heap.size := cell_lt c0
  have hne : v.ownBlock ≠ some w.heap.size := fun e => by have := (h0.lt _ e).2; omega
  have hh := hg.block w.heap.size hlt (fun e => hne e.symm)
  have one : ∀ j, w2.cell? ⟨w.heap.size, j, none⟩ = s.cell? ⟨w.heap.size, j, none⟩ := fun j => World.cell?_of_block hh
  exact ⟨(one 0).trans c0, (one 1).trans c1⟩
theorem rowAt {w3 w : World} {base RB : Nat} {e : TypeId} {v : Value} {n : Nat} {xs : List Value} (h : Row isU32 w3 base e v n xs) (hb : But2 w3.heap.size RB RB w3 w) {C : Array Value} {t : TypeId} (hR : w3.heap[RB]? = some (.cells C t (0, 0))) (ht : t ≠ e) : Row isU32 w base e v n xs :=
  h.other fun k hk => hb.block k (h.own.lt k hk).2 (fun e => h.not_own hR ht (by rw [hk, e])) (fun e => h.not_own hR ht (by rw [hk, e]))
set_option maxRecDepth 100000 in
set_option maxHeartbeats 6400000 in
theorem raw3_any (c : NormC) (s : CSlots) (w : World) (h : SeesCir w s c) (hs : s.small) (hlo : -9223372036854775808 ≤ c.ins) (hhi : c.ins < 9223372036854775808) (hw : Wide c) :
    Calls Tryz.prog 16 #[cirV c.ins s] w (RawPost c w) := by
  have HMAY := Lib.hid (fun W (hb : Below w.heap.size w W) => may3_any c s W (h.below hb) hs hlo hhi)
  have HCNT := Lib.hid (fun (j : Nat) (hj : j ≤ 1048576) W => count_any j s hj hs W)
  have HFL := Lib.hid (fun (j : Nat) (hj : j ≤ 1048576) W => firstLatch_any j s hj W)
  have HFG := Lib.hid (fun (j : Nat) (hj : j ≤ 1048576) W => firstGate_any j s hj hs W)
  obtain ⟨il, hil, hzl0, hzl1, hzl2⟩ := info_parts info_lat
  obtain ⟨ig, hig, hzg0, hzg1, hzg2⟩ := info_parts info_gate
  obtain ⟨i0, hi, hz0, hz1, hz2⟩ := info_parts info_u32
  obtain ⟨a1, n1, c1, a2, n2, c2, a3, n3, c3, a4, n4, c4, a5, n5, c5⟩ := s
  obtain ⟨hs1, hs2, hs3, hs4, hs5⟩ := hs
  simp only at hs1 hs2 hs3 hs4 hs5 HCNT HFL HFG HMAY
  have l1 : c.lats.length = n1 := h.s1.1
  have l2 : c.gates.length = n2 := h.s2.1
  have l3 : c.outs.length = n3 := h.s3.lenMap
  have l4 : c.bads.length = n4 := h.s4.lenMap
  have l5 : c.cons.length = n5 := h.s5.lenMap
  obtain ⟨z, hz⟩ : ∃ z, z = c.ins := ⟨_, rfl⟩
  rw [← hz] at hlo hhi HMAY ⊢
  have L1 := Lib.hid l1
  have L2 := Lib.hid l2
  have L3 := Lib.hid l3
  have L4 := Lib.hid l4
  have L5 := Lib.hid l5
  have HS := Lib.hid h
  have HW := Lib.hid hw
  have HZI := Lib.hid hz
  clear l1 l2 l3 l4 l5 h hw hz
  unfold cirV at *
  go_enter Tryz.func16, Tryz.ntmps16
  go_wp2_with fail
  generalize hW : World.alloc (World.alloc w _) _ = W0
  have B0 : Below w.heap.size w W0 := by subst hW; exact ext_trans (ext_alloc _ _) (ext_alloc _ _)
  have hX : W0.heap[w.heap.size]? = some (.cells #[.int .i64 z, .slice a1 n1 c1, .slice a2 n2 c2, .slice a3 n3 c3, .slice a4 n4 c4, .slice a5 n5 c5] 26 (0, 0)) := by
    subst hW; exact heap_below (heap_new _ _ _ rfl) (ext_alloc _ _)
  have hR : W0.heap[w.heap.size + 1]? = some (.cells #[.int .u32 0, .slice none 0 0, .slice none 0 0, .slice none 0 0, .slice none 0 0, .slice none 0 0, .slice none 0 0] 39 (0, 0)) := by
    subst hW; exact heap_new _ _ _ (by simp)
  clear hW
  refine (HMAY.out W0 B0).mono ?_
  obtain ⟨q, hq⟩ : ∃ q, q = mayC c := ⟨_, rfl⟩
  rw [← hq]
  have HQ := Lib.hid hq
  clear hq HMAY
  rintro e W1 ⟨rfl, hb⟩
  have hX1 := heap_below hX hb
  have hR1 := heap_below hR hb
  have B1 := ext_trans B0 hb
  clear hX hR B0 hb
  cases q with
  | false =>
    have z0 := cell_of_block hR1 0
    have z1 := cell_of_block hR1 1
    have z2 := cell_of_block hR1 2
    have z3 := cell_of_block hR1 3
    have z4 := cell_of_block hR1 4
    have z5 := cell_of_block hR1 5
    have z6 := cell_of_block hR1 6
    have y0 := unfrozen_of_block hR1 0
    have y1 := unfrozen_of_block hR1 1
    have y2 := unfrozen_of_block hR1 2
    have y3 := unfrozen_of_block hR1 3
    have y4 := unfrozen_of_block hR1 4
    have y5 := unfrozen_of_block hR1 5
    have y6 := unfrozen_of_block hR1 6
    have HR := Lib.hid hR1
    have HBL := Lib.hid B1
    clear hR1 B1 hX1
    go_wp2
    refine bodyPost_ret (v := .tuple #[zeroRawV, .int .i64 2]) ?_ rfl ?_
    · have h6 := raw_set HR.out rfl (.int .u32 0) (.slice none 0 0) (.slice none 0 0) (.slice none 0 0) (.slice none 0 0) (.slice none 0 0) (.slice none 0 0)
      have g0 := cell_of_block h6 0
      have g1 := cell_of_block h6 1
      have g2 := cell_of_block h6 2
      have g3 := cell_of_block h6 3
      have g4 := cell_of_block h6 4
      have g5 := cell_of_block h6 5
      have g6 := cell_of_block h6 6
      simp [results, Tryz.results16, go_sem, g0, g1, g2, g3, g4, g5, g6]
      rfl
    · refine ⟨?_, Or.inr ⟨HQ.out.symm, rfl⟩⟩
      with_reducible exact set7 (w.heap.size + 1) (Nat.le_succ _) HBL.out
  | true =>
    have hmc : MayC c := mayC_iff.1 HQ.out.symm
    obtain ⟨i, hii⟩ : ∃ i : Nat, z = (i : Int) := Int.eq_ofNat_of_zero_le (by have := hmc.pos; rw [HZI.out]; exact this)
    subst hii
    have hfew := hmc.few
    have hvn : varsN c = i + n1 + n2 := by unfold varsN; rw [← HZI.out, L1.out, L2.out]; simp
    obtain ⟨m, hm⟩ : ∃ m, m = i + n1 + n2 := ⟨_, rfl⟩
    have hm4 : m ≤ 16384 := by omega
    have hi4 : i ≤ 16384 := by omega
    have HM : Hid (varsN c = m) := by show _ = _; rw [hvn, hm]
    have HCN : Hid (∀ W, Calls Tryz.prog 41 #[cirV i ⟨a1, n1, c1, a2, n2, c2, a3, n3, c3, a4, n4, c4, a5, n5, c5⟩] W fun e w' => e = .returned (.int .i64 (m : Int)) ∧ Below W.heap.size W w') := fun W => by rw [hm]; exact HCNT.out i (by omega) W
    have HFL2 := Lib.hid (HFL.out i (by omega))
    have HFG2 := Lib.hid (HFG.out i (by omega))
    have HMC := Lib.hid hmc
    have nlt : i + n1 + n2 ≤ 16384 := by omega
    clear hmc hfew hvn hm HCNT HFL HFG
    unfold cirV at *
    have p0 : W1.cell? ⟨w.heap.size, 0, none⟩ = some (.int .i64 i) := cell_of_block hX1 0
    have p1 : W1.cell? ⟨w.heap.size, 1, none⟩ = some (.slice a1 n1 c1) := cell_of_block hX1 1
    have p2 : W1.cell? ⟨w.heap.size, 2, none⟩ = some (.slice a2 n2 c2) := cell_of_block hX1 2
    have p3 : W1.cell? ⟨w.heap.size, 3, none⟩ = some (.slice a3 n3 c3) := cell_of_block hX1 3
    have p4 : W1.cell? ⟨w.heap.size, 4, none⟩ = some (.slice a4 n4 c4) := cell_of_block hX1 4
    have p5 : W1.cell? ⟨w.heap.size, 5, none⟩ = some (.slice a5 n5 c5) := cell_of_block hX1 5
    have E1 : Hid (∀ W, Below W1.heap.size W1 W → Calls Tryz.prog 41 #[.agg #[.int .i64 i, .slice a1 n1 c1, .slice a2 n2 c2, .slice a3 n3 c3, .slice a4 n4 c4, .slice a5 n5 c5]] W fun e w' => e = .returned (.int .i64 (m : Int)) ∧ Below W.heap.size W w') := fun W _ => HCN.out W
    have E2 : Hid (∀ W, Below W1.heap.size W1 W → Calls Tryz.prog 42 #[.slice a3 n3 c3] W fun e w' => ∃ v, e = .returned v ∧ Row isU32 w' W.heap.size 35 v n3 (c.outs.map nv32) ∧ Below W.heap.size W w') := fun W hb => clone_u32 c.outs a3 n3 c3 W (HS.out.s3.below (ext_trans B1 hb)) (by omega) HW.out.outs
    have E3 : Hid (∀ W, Below W1.heap.size W1 W → Calls Tryz.prog 42 #[.slice a4 n4 c4] W fun e w' => ∃ v, e = .returned v ∧ Row isU32 w' W.heap.size 35 v n4 (c.bads.map nv32) ∧ Below W.heap.size W w') := fun W hb => clone_u32 c.bads a4 n4 c4 W (HS.out.s4.below (ext_trans B1 hb)) (by omega) HW.out.bads
    have E4 : Hid (∀ W, Below W1.heap.size W1 W → Calls Tryz.prog 42 #[.slice a5 n5 c5] W fun e w' => ∃ v, e = .returned v ∧ Row isU32 w' W.heap.size 35 v n5 (c.cons.map nv32) ∧ Below W.heap.size W w') := fun W hb => clone_u32 c.cons a5 n5 c5 W (HS.out.s5.below (ext_trans B1 hb)) (by omega) HW.out.cons
    have HX := Lib.hid hX1
    have HR := Lib.hid hR1
    have HB1' := Lib.hid B1
    have hltR : w.heap.size + 1 < W1.heap.size := heap_lt hR1
    have ne1 := World.new_ne W1 ⟨w.heap.size, 0, none⟩ p0
    have CV : IntKind.u32.wrap (m : Int) = (m : Int) := by rw [IntKind.wrap_u32]; omega
    have nq0_0 : w.heap.size ≠ W1.heap.size := by omega
    clear hX1 hR1 B1
    go_wp2_with fail
    go_upto_region 3 with fail
    go_cut [4] from 15 (fun cp wx => ∃ (RB : Nat) (v3 v4 v5 : Value), cp = .pointer (some ⟨RB, 0, .none⟩) ∧ W1.heap.size ≤ RB ∧ Hid (wx.heap[RB]? = some (.cells #[.int .u32 m, .slice none 0 0, .slice none 0 0, v3, v4, v5, .slice none 0 0] 39 (0, 0))) ∧ Hid (Row isU32 wx W1.heap.size 35 v3 n3 (c.outs.map nv32)) ∧ Hid (Row isU32 wx W1.heap.size 35 v4 n4 (c.bads.map nv32)) ∧ Hid (Row isU32 wx W1.heap.size 35 v5 n5 (c.cons.map nv32)) ∧ Hid (Below W1.heap.size W1 wx))
    case first =>
      go_region_held3 (fun w' => w'.cell? ⟨w.heap.size, 0, none⟩ = some (.int .i64 i) ∧ w'.cell? ⟨w.heap.size, 1, none⟩ = some (.slice a1 n1 c1) ∧ w'.cell? ⟨w.heap.size, 2, none⟩ = some (.slice a2 n2 c2) ∧ w'.cell? ⟨w.heap.size, 3, none⟩ = some (.slice a3 n3 c3) ∧ w'.cell? ⟨w.heap.size, 4, none⟩ = some (.slice a4 n4 c4) ∧ w'.cell? ⟨w.heap.size, 5, none⟩ = some (.slice a5 n5 c5))
        (first | with_reducible exact ⟨d4_0, d4_1, d4_2, d4_3, d4_4, d4_5⟩ | with_reducible exact ⟨cell_drew d4_0, cell_drew d4_1, cell_drew d4_2, cell_drew d4_3, cell_drew d4_4, cell_drew d4_5⟩ | with_reducible exact ⟨cell_old d4_0, cell_old d4_1, cell_old d4_2, cell_old d4_3, cell_old d4_4, cell_old d4_5⟩ | with_reducible exact ⟨cell_drew (cell_old d4_0), cell_drew (cell_old d4_1), cell_drew (cell_old d4_2), cell_drew (cell_old d4_3), cell_drew (cell_old d4_4), cell_drew (cell_old d4_5)⟩ | with_reducible exact ⟨cell_old (cell_drew d4_0), cell_old (cell_drew d4_1), cell_old (cell_drew d4_2), cell_old (cell_drew d4_3), cell_old (cell_drew d4_4), cell_old (cell_drew d4_5)⟩ | with_reducible exact ⟨d3_0, d3_1, d3_2, d3_3, d3_4, d3_5⟩ | with_reducible exact ⟨cell_drew d3_0, cell_drew d3_1, cell_drew d3_2, cell_drew d3_3, cell_drew d3_4, cell_drew d3_5⟩ | with_reducible exact ⟨cell_old d3_0, cell_old d3_1, cell_old d3_2, cell_old d3_3, cell_old d3_4, cell_old d3_5⟩ | with_reducible exact ⟨cell_drew (cell_old d3_0), cell_drew (cell_old d3_1), cell_drew (cell_old d3_2), cell_drew (cell_old d3_3), cell_drew (cell_old d3_4), cell_drew (cell_old d3_5)⟩ | with_reducible exact ⟨cell_old (cell_drew d3_0), cell_old (cell_drew d3_1), cell_old (cell_drew d3_2), cell_old (cell_drew d3_3), cell_old (cell_drew d3_4), cell_old (cell_drew d3_5)⟩ | with_reducible exact ⟨d2_0, d2_1, d2_2, d2_3, d2_4, d2_5⟩ | with_reducible exact ⟨cell_drew d2_0, cell_drew d2_1, cell_drew d2_2, cell_drew d2_3, cell_drew d2_4, cell_drew d2_5⟩ | with_reducible exact ⟨cell_old d2_0, cell_old d2_1, cell_old d2_2, cell_old d2_3, cell_old d2_4, cell_old d2_5⟩ | with_reducible exact ⟨cell_drew (cell_old d2_0), cell_drew (cell_old d2_1), cell_drew (cell_old d2_2), cell_drew (cell_old d2_3), cell_drew (cell_old d2_4), cell_drew (cell_old d2_5)⟩ | with_reducible exact ⟨cell_old (cell_drew d2_0), cell_old (cell_drew d2_1), cell_old (cell_drew d2_2), cell_old (cell_drew d2_3), cell_old (cell_drew d2_4), cell_old (cell_drew d2_5)⟩ | with_reducible exact ⟨d1_0, d1_1, d1_2, d1_3, d1_4, d1_5⟩ | with_reducible exact ⟨cell_drew d1_0, cell_drew d1_1, cell_drew d1_2, cell_drew d1_3, cell_drew d1_4, cell_drew d1_5⟩ | with_reducible exact ⟨cell_old d1_0, cell_old d1_1, cell_old d1_2, cell_old d1_3, cell_old d1_4, cell_old d1_5⟩ | with_reducible exact ⟨cell_drew (cell_old d1_0), cell_drew (cell_old d1_1), cell_drew (cell_old d1_2), cell_drew (cell_old d1_3), cell_drew (cell_old d1_4), cell_drew (cell_old d1_5)⟩ | with_reducible exact ⟨cell_old (cell_drew d1_0), cell_old (cell_drew d1_1), cell_old (cell_drew d1_2), cell_old (cell_drew d1_3), cell_old (cell_drew d1_4), cell_old (cell_drew d1_5)⟩ | with_reducible exact ⟨p0, p1, p2, p3, p4, p5⟩ | with_reducible exact ⟨cell_drew p0, cell_drew p1, cell_drew p2, cell_drew p3, cell_drew p4, cell_drew p5⟩ | with_reducible exact ⟨cell_old p0, cell_old p1, cell_old p2, cell_old p3, cell_old p4, cell_old p5⟩ | with_reducible exact ⟨cell_drew (cell_old p0), cell_drew (cell_old p1), cell_drew (cell_old p2), cell_drew (cell_old p3), cell_drew (cell_old p4), cell_drew (cell_old p5)⟩ | with_reducible exact ⟨cell_old (cell_drew p0), cell_old (cell_drew p1), cell_old (cell_drew p2), cell_old (cell_drew p3), cell_old (cell_drew p4), cell_old (cell_drew p5)⟩ | with_reducible exact ⟨cell_set7 (d4_0) nq0_0, cell_set7 (d4_1) nq0_0, cell_set7 (d4_2) nq0_0, cell_set7 (d4_3) nq0_0, cell_set7 (d4_4) nq0_0, cell_set7 (d4_5) nq0_0⟩ | with_reducible exact ⟨cell_set7 (cell_old d4_0) nq0_0, cell_set7 (cell_old d4_1) nq0_0, cell_set7 (cell_old d4_2) nq0_0, cell_set7 (cell_old d4_3) nq0_0, cell_set7 (cell_old d4_4) nq0_0, cell_set7 (cell_old d4_5) nq0_0⟩ | with_reducible exact ⟨cell_set7 (cell_drew (cell_old d4_0)) nq0_0, cell_set7 (cell_drew (cell_old d4_1)) nq0_0, cell_set7 (cell_drew (cell_old d4_2)) nq0_0, cell_set7 (cell_drew (cell_old d4_3)) nq0_0, cell_set7 (cell_drew (cell_old d4_4)) nq0_0, cell_set7 (cell_drew (cell_old d4_5)) nq0_0⟩ | with_reducible exact ⟨cell_set7 (d4_0) nq1_0, cell_set7 (d4_1) nq1_0, cell_set7 (d4_2) nq1_0, cell_set7 (d4_3) nq1_0, cell_set7 (d4_4) nq1_0, cell_set7 (d4_5) nq1_0⟩ | with_reducible exact ⟨cell_set7 (cell_old d4_0) nq1_0, cell_set7 (cell_old d4_1) nq1_0, cell_set7 (cell_old d4_2) nq1_0, cell_set7 (cell_old d4_3) nq1_0, cell_set7 (cell_old d4_4) nq1_0, cell_set7 (cell_old d4_5) nq1_0⟩ | with_reducible exact ⟨cell_set7 (cell_drew (cell_old d4_0)) nq1_0, cell_set7 (cell_drew (cell_old d4_1)) nq1_0, cell_set7 (cell_drew (cell_old d4_2)) nq1_0, cell_set7 (cell_drew (cell_old d4_3)) nq1_0, cell_set7 (cell_drew (cell_old d4_4)) nq1_0, cell_set7 (cell_drew (cell_old d4_5)) nq1_0⟩ | with_reducible exact ⟨cell_set7 (d4_0) nq2_0, cell_set7 (d4_1) nq2_0, cell_set7 (d4_2) nq2_0, cell_set7 (d4_3) nq2_0, cell_set7 (d4_4) nq2_0, cell_set7 (d4_5) nq2_0⟩ | with_reducible exact ⟨cell_set7 (cell_old d4_0) nq2_0, cell_set7 (cell_old d4_1) nq2_0, cell_set7 (cell_old d4_2) nq2_0, cell_set7 (cell_old d4_3) nq2_0, cell_set7 (cell_old d4_4) nq2_0, cell_set7 (cell_old d4_5) nq2_0⟩ | with_reducible exact ⟨cell_set7 (cell_drew (cell_old d4_0)) nq2_0, cell_set7 (cell_drew (cell_old d4_1)) nq2_0, cell_set7 (cell_drew (cell_old d4_2)) nq2_0, cell_set7 (cell_drew (cell_old d4_3)) nq2_0, cell_set7 (cell_drew (cell_old d4_4)) nq2_0, cell_set7 (cell_drew (cell_old d4_5)) nq2_0⟩ | with_reducible exact ⟨cell_set7 (d4_0) nq3_0, cell_set7 (d4_1) nq3_0, cell_set7 (d4_2) nq3_0, cell_set7 (d4_3) nq3_0, cell_set7 (d4_4) nq3_0, cell_set7 (d4_5) nq3_0⟩ | with_reducible exact ⟨cell_set7 (cell_old d4_0) nq3_0, cell_set7 (cell_old d4_1) nq3_0, cell_set7 (cell_old d4_2) nq3_0, cell_set7 (cell_old d4_3) nq3_0, cell_set7 (cell_old d4_4) nq3_0, cell_set7 (cell_old d4_5) nq3_0⟩ | with_reducible exact ⟨cell_set7 (cell_drew (cell_old d4_0)) nq3_0, cell_set7 (cell_drew (cell_old d4_1)) nq3_0, cell_set7 (cell_drew (cell_old d4_2)) nq3_0, cell_set7 (cell_drew (cell_old d4_3)) nq3_0, cell_set7 (cell_drew (cell_old d4_4)) nq3_0, cell_set7 (cell_drew (cell_old d4_5)) nq3_0⟩ | with_reducible exact ⟨cell_set7 (d4_0) nq4_0, cell_set7 (d4_1) nq4_0, cell_set7 (d4_2) nq4_0, cell_set7 (d4_3) nq4_0, cell_set7 (d4_4) nq4_0, cell_set7 (d4_5) nq4_0⟩ | with_reducible exact ⟨cell_set7 (cell_old d4_0) nq4_0, cell_set7 (cell_old d4_1) nq4_0, cell_set7 (cell_old d4_2) nq4_0, cell_set7 (cell_old d4_3) nq4_0, cell_set7 (cell_old d4_4) nq4_0, cell_set7 (cell_old d4_5) nq4_0⟩ | with_reducible exact ⟨cell_set7 (cell_drew (cell_old d4_0)) nq4_0, cell_set7 (cell_drew (cell_old d4_1)) nq4_0, cell_set7 (cell_drew (cell_old d4_2)) nq4_0, cell_set7 (cell_drew (cell_old d4_3)) nq4_0, cell_set7 (cell_drew (cell_old d4_4)) nq4_0, cell_set7 (cell_drew (cell_old d4_5)) nq4_0⟩ | with_reducible exact ⟨cell_row (d4_0) nq0_0, cell_row (d4_1) nq0_0, cell_row (d4_2) nq0_0, cell_row (d4_3) nq0_0, cell_row (d4_4) nq0_0, cell_row (d4_5) nq0_0⟩ | with_reducible exact ⟨cell_row (cell_old d4_0) nq0_0, cell_row (cell_old d4_1) nq0_0, cell_row (cell_old d4_2) nq0_0, cell_row (cell_old d4_3) nq0_0, cell_row (cell_old d4_4) nq0_0, cell_row (cell_old d4_5) nq0_0⟩ | with_reducible exact ⟨cell_row (cell_drew (cell_old d4_0)) nq0_0, cell_row (cell_drew (cell_old d4_1)) nq0_0, cell_row (cell_drew (cell_old d4_2)) nq0_0, cell_row (cell_drew (cell_old d4_3)) nq0_0, cell_row (cell_drew (cell_old d4_4)) nq0_0, cell_row (cell_drew (cell_old d4_5)) nq0_0⟩ | with_reducible exact ⟨cell_row (d4_0) nq1_0, cell_row (d4_1) nq1_0, cell_row (d4_2) nq1_0, cell_row (d4_3) nq1_0, cell_row (d4_4) nq1_0, cell_row (d4_5) nq1_0⟩ | with_reducible exact ⟨cell_row (cell_old d4_0) nq1_0, cell_row (cell_old d4_1) nq1_0, cell_row (cell_old d4_2) nq1_0, cell_row (cell_old d4_3) nq1_0, cell_row (cell_old d4_4) nq1_0, cell_row (cell_old d4_5) nq1_0⟩ | with_reducible exact ⟨cell_row (cell_drew (cell_old d4_0)) nq1_0, cell_row (cell_drew (cell_old d4_1)) nq1_0, cell_row (cell_drew (cell_old d4_2)) nq1_0, cell_row (cell_drew (cell_old d4_3)) nq1_0, cell_row (cell_drew (cell_old d4_4)) nq1_0, cell_row (cell_drew (cell_old d4_5)) nq1_0⟩ | with_reducible exact ⟨cell_row (d4_0) nq2_0, cell_row (d4_1) nq2_0, cell_row (d4_2) nq2_0, cell_row (d4_3) nq2_0, cell_row (d4_4) nq2_0, cell_row (d4_5) nq2_0⟩ | with_reducible exact ⟨cell_row (cell_old d4_0) nq2_0, cell_row (cell_old d4_1) nq2_0, cell_row (cell_old d4_2) nq2_0, cell_row (cell_old d4_3) nq2_0, cell_row (cell_old d4_4) nq2_0, cell_row (cell_old d4_5) nq2_0⟩ | with_reducible exact ⟨cell_row (cell_drew (cell_old d4_0)) nq2_0, cell_row (cell_drew (cell_old d4_1)) nq2_0, cell_row (cell_drew (cell_old d4_2)) nq2_0, cell_row (cell_drew (cell_old d4_3)) nq2_0, cell_row (cell_drew (cell_old d4_4)) nq2_0, cell_row (cell_drew (cell_old d4_5)) nq2_0⟩ | with_reducible exact ⟨cell_row (d4_0) nq3_0, cell_row (d4_1) nq3_0, cell_row (d4_2) nq3_0, cell_row (d4_3) nq3_0, cell_row (d4_4) nq3_0, cell_row (d4_5) nq3_0⟩ | with_reducible exact ⟨cell_row (cell_old d4_0) nq3_0, cell_row (cell_old d4_1) nq3_0, cell_row (cell_old d4_2) nq3_0, cell_row (cell_old d4_3) nq3_0, cell_row (cell_old d4_4) nq3_0, cell_row (cell_old d4_5) nq3_0⟩ | with_reducible exact ⟨cell_row (cell_drew (cell_old d4_0)) nq3_0, cell_row (cell_drew (cell_old d4_1)) nq3_0, cell_row (cell_drew (cell_old d4_2)) nq3_0, cell_row (cell_drew (cell_old d4_3)) nq3_0, cell_row (cell_drew (cell_old d4_4)) nq3_0, cell_row (cell_drew (cell_old d4_5)) nq3_0⟩ | with_reducible exact ⟨cell_row (d4_0) nq4_0, cell_row (d4_1) nq4_0, cell_row (d4_2) nq4_0, cell_row (d4_3) nq4_0, cell_row (d4_4) nq4_0, cell_row (d4_5) nq4_0⟩ | with_reducible exact ⟨cell_row (cell_old d4_0) nq4_0, cell_row (cell_old d4_1) nq4_0, cell_row (cell_old d4_2) nq4_0, cell_row (cell_old d4_3) nq4_0, cell_row (cell_old d4_4) nq4_0, cell_row (cell_old d4_5) nq4_0⟩ | with_reducible exact ⟨cell_row (cell_drew (cell_old d4_0)) nq4_0, cell_row (cell_drew (cell_old d4_1)) nq4_0, cell_row (cell_drew (cell_old d4_2)) nq4_0, cell_row (cell_drew (cell_old d4_3)) nq4_0, cell_row (cell_drew (cell_old d4_4)) nq4_0, cell_row (cell_drew (cell_old d4_5)) nq4_0⟩ | go_keep)
        (first
          | (go_at_call 41; (with_reducible refine (E1.out _ (by first | with_reducible exact (Below.refl W1.heap.size W1) | with_reducible exact (Below.refl W1.heap.size W1).drew | with_reducible exact (Below.refl W1.heap.size W1).alloc (Below.refl W1.heap.size W1).size _ | with_reducible exact ((Below.refl W1.heap.size W1).alloc (Below.refl W1.heap.size W1).size _).drew | with_reducible exact ((Below.refl W1.heap.size W1).drew).alloc (Below.refl W1.heap.size W1).size _)).mono ?_); rintro e s1 ⟨rfl, b1⟩; have HB1 : Below W1.heap.size W1 s1 := below_step (by first | with_reducible exact (Below.refl W1.heap.size W1) | with_reducible exact (Below.refl W1.heap.size W1).drew | with_reducible exact (Below.refl W1.heap.size W1).alloc (Below.refl W1.heap.size W1).size _ | with_reducible exact ((Below.refl W1.heap.size W1).alloc (Below.refl W1.heap.size W1).size _).drew | with_reducible exact ((Below.refl W1.heap.size W1).drew).alloc (Below.refl W1.heap.size W1).size _) b1 (Below.size (by first | with_reducible exact (Below.refl W1.heap.size W1) | with_reducible exact (Below.refl W1.heap.size W1).drew | with_reducible exact (Below.refl W1.heap.size W1).alloc (Below.refl W1.heap.size W1).size _ | with_reducible exact ((Below.refl W1.heap.size W1).alloc (Below.refl W1.heap.size W1).size _).drew | with_reducible exact ((Below.refl W1.heap.size W1).drew).alloc (Below.refl W1.heap.size W1).size _)); have BS1 : Below W1.heap.size W1 s1 := below_step (by first | with_reducible exact (Below.refl W1.heap.size W1) | with_reducible exact (Below.refl W1.heap.size W1).drew | with_reducible exact (Below.refl W1.heap.size W1).alloc (Below.refl W1.heap.size W1).size _ | with_reducible exact ((Below.refl W1.heap.size W1).alloc (Below.refl W1.heap.size W1).size _).drew | with_reducible exact ((Below.refl W1.heap.size W1).drew).alloc (Below.refl W1.heap.size W1).size _) b1 (Below.size (by first | with_reducible exact (Below.refl W1.heap.size W1) | with_reducible exact (Below.refl W1.heap.size W1).drew | with_reducible exact (Below.refl W1.heap.size W1).alloc (Below.refl W1.heap.size W1).size _ | with_reducible exact ((Below.refl W1.heap.size W1).alloc (Below.refl W1.heap.size W1).size _).drew | with_reducible exact ((Below.refl W1.heap.size W1).drew).alloc (Below.refl W1.heap.size W1).size _)); have d1_0 := cell_below p0 HB1; have d1_1 := cell_below p1 HB1; have d1_2 := cell_below p2 HB1; have d1_3 := cell_below p3 HB1; have d1_4 := cell_below p4 HB1; have d1_5 := cell_below p5 HB1; skip; have nq1_0 : w.heap.size ≠ s1.heap.size := (by have := HB1.size; omega); (first | (have hz : s1.heap[W1.heap.size]? = some (.cells #[.int .u32 0, .slice none 0 0, .slice none 0 0, .slice none 0 0, .slice none 0 0, .slice none 0 0, .slice none 0 0] 39 (0, 0)) := (by with_reducible first | exact heap_below (heap_newD W1 (.cells #[.int .u32 0, .slice none 0 0, .slice none 0 0, .slice none 0 0, .slice none 0 0, .slice none 0 0, .slice none 0 0] 39)) b1 | exact heap_below (heap_new W1 (.cells #[.int .u32 0, .slice none 0 0, .slice none 0 0, .slice none 0 0, .slice none 0 0, .slice none 0 0, .slice none 0 0] 39) _ rfl) b1); have hzs : W1.heap.size ≤ W1.heap.size := Below.size (Below.refl W1.heap.size W1); have HZ := Lib.hid hz; clear hz) | (have hz := heap_below HZ.out BS1; have HZ := Lib.hid hz; clear hz) | skip); clear b1)
          | (go_at_call 42; (with_reducible refine (E2.out _ (by first | with_reducible exact HB1 | with_reducible exact HB1.drew | with_reducible exact HB1.alloc HB1.size _ | with_reducible exact (HB1.alloc HB1.size _).drew | with_reducible exact (HB1.drew).alloc HB1.size _)).mono ?_); rintro e s2 ⟨v2, rfl, r2, b2⟩; have HB2 : Below W1.heap.size W1 s2 := below_step (by first | with_reducible exact HB1 | with_reducible exact HB1.drew | with_reducible exact HB1.alloc HB1.size _ | with_reducible exact (HB1.alloc HB1.size _).drew | with_reducible exact (HB1.drew).alloc HB1.size _) b2 (Below.size (by first | with_reducible exact HB1 | with_reducible exact HB1.drew | with_reducible exact HB1.alloc HB1.size _ | with_reducible exact (HB1.alloc HB1.size _).drew | with_reducible exact (HB1.drew).alloc HB1.size _)); have BS2 : Below s1.heap.size s1 s2 := below_step (by first | with_reducible exact (Below.refl s1.heap.size s1) | with_reducible exact (Below.refl s1.heap.size s1).drew | with_reducible exact (Below.refl s1.heap.size s1).alloc (Below.refl s1.heap.size s1).size _ | with_reducible exact ((Below.refl s1.heap.size s1).alloc (Below.refl s1.heap.size s1).size _).drew | with_reducible exact ((Below.refl s1.heap.size s1).drew).alloc (Below.refl s1.heap.size s1).size _) b2 (Below.size (by first | with_reducible exact (Below.refl s1.heap.size s1) | with_reducible exact (Below.refl s1.heap.size s1).drew | with_reducible exact (Below.refl s1.heap.size s1).alloc (Below.refl s1.heap.size s1).size _ | with_reducible exact ((Below.refl s1.heap.size s1).alloc (Below.refl s1.heap.size s1).size _).drew | with_reducible exact ((Below.refl s1.heap.size s1).drew).alloc (Below.refl s1.heap.size s1).size _)); have d2_0 := cell_below p0 HB2; have d2_1 := cell_below p1 HB2; have d2_2 := cell_below p2 HB2; have d2_3 := cell_below p3 HB2; have d2_4 := cell_below p4 HB2; have d2_5 := cell_below p5 HB2; have R2 := Lib.hid (r2.base_le (base' := W1.heap.size) (Below.size (by first | with_reducible exact HB1 | with_reducible exact HB1.drew | with_reducible exact HB1.alloc HB1.size _ | with_reducible exact (HB1.alloc HB1.size _).drew | with_reducible exact (HB1.drew).alloc HB1.size _))); obtain ⟨e2, f2, rfl⟩ := r2.form; clear r2; have nq2_0 : w.heap.size ≠ s2.heap.size := (by have := HB2.size; omega); (first | (have hz : s2.heap[s1.heap.size]? = some (.cells #[.int .u32 0, .slice none 0 0, .slice none 0 0, .slice none 0 0, .slice none 0 0, .slice none 0 0, .slice none 0 0] 39 (0, 0)) := (by with_reducible first | exact heap_below (heap_newD s1 (.cells #[.int .u32 0, .slice none 0 0, .slice none 0 0, .slice none 0 0, .slice none 0 0, .slice none 0 0, .slice none 0 0] 39)) b2 | exact heap_below (heap_new s1 (.cells #[.int .u32 0, .slice none 0 0, .slice none 0 0, .slice none 0 0, .slice none 0 0, .slice none 0 0, .slice none 0 0] 39) _ rfl) b2); have hzs : W1.heap.size ≤ s1.heap.size := Below.size HB1; have HZ := Lib.hid hz; clear hz) | (have hz := heap_below HZ.out BS2; have HZ := Lib.hid hz; clear hz) | skip); clear b2)
          | (go_at_call 42; (with_reducible refine (E3.out _ (by first | with_reducible exact HB2 | with_reducible exact HB2.drew | with_reducible exact HB2.alloc HB2.size _ | with_reducible exact (HB2.alloc HB2.size _).drew | with_reducible exact (HB2.drew).alloc HB2.size _)).mono ?_); rintro e s3 ⟨v3, rfl, r3, b3⟩; have HB3 : Below W1.heap.size W1 s3 := below_step (by first | with_reducible exact HB2 | with_reducible exact HB2.drew | with_reducible exact HB2.alloc HB2.size _ | with_reducible exact (HB2.alloc HB2.size _).drew | with_reducible exact (HB2.drew).alloc HB2.size _) b3 (Below.size (by first | with_reducible exact HB2 | with_reducible exact HB2.drew | with_reducible exact HB2.alloc HB2.size _ | with_reducible exact (HB2.alloc HB2.size _).drew | with_reducible exact (HB2.drew).alloc HB2.size _)); have BS3 : Below s2.heap.size s2 s3 := below_step (by first | with_reducible exact (Below.refl s2.heap.size s2) | with_reducible exact (Below.refl s2.heap.size s2).drew | with_reducible exact (Below.refl s2.heap.size s2).alloc (Below.refl s2.heap.size s2).size _ | with_reducible exact ((Below.refl s2.heap.size s2).alloc (Below.refl s2.heap.size s2).size _).drew | with_reducible exact ((Below.refl s2.heap.size s2).drew).alloc (Below.refl s2.heap.size s2).size _) b3 (Below.size (by first | with_reducible exact (Below.refl s2.heap.size s2) | with_reducible exact (Below.refl s2.heap.size s2).drew | with_reducible exact (Below.refl s2.heap.size s2).alloc (Below.refl s2.heap.size s2).size _ | with_reducible exact ((Below.refl s2.heap.size s2).alloc (Below.refl s2.heap.size s2).size _).drew | with_reducible exact ((Below.refl s2.heap.size s2).drew).alloc (Below.refl s2.heap.size s2).size _)); have d3_0 := cell_below p0 HB3; have d3_1 := cell_below p1 HB3; have d3_2 := cell_below p2 HB3; have d3_3 := cell_below p3 HB3; have d3_4 := cell_below p4 HB3; have d3_5 := cell_below p5 HB3; have R3 := Lib.hid (r3.base_le (base' := W1.heap.size) (Below.size (by first | with_reducible exact HB2 | with_reducible exact HB2.drew | with_reducible exact HB2.alloc HB2.size _ | with_reducible exact (HB2.alloc HB2.size _).drew | with_reducible exact (HB2.drew).alloc HB2.size _))); obtain ⟨e3, f3, rfl⟩ := r3.form; clear r3; have R2 := Lib.hid (R2.out.below BS3); have nq3_0 : w.heap.size ≠ s3.heap.size := (by have := HB3.size; omega); (first | (have hz : s3.heap[s2.heap.size]? = some (.cells #[.int .u32 0, .slice none 0 0, .slice none 0 0, .slice none 0 0, .slice none 0 0, .slice none 0 0, .slice none 0 0] 39 (0, 0)) := (by with_reducible first | exact heap_below (heap_newD s2 (.cells #[.int .u32 0, .slice none 0 0, .slice none 0 0, .slice none 0 0, .slice none 0 0, .slice none 0 0, .slice none 0 0] 39)) b3 | exact heap_below (heap_new s2 (.cells #[.int .u32 0, .slice none 0 0, .slice none 0 0, .slice none 0 0, .slice none 0 0, .slice none 0 0, .slice none 0 0] 39) _ rfl) b3); have hzs : W1.heap.size ≤ s2.heap.size := Below.size HB2; have HZ := Lib.hid hz; clear hz) | (have hz := heap_below HZ.out BS3; have HZ := Lib.hid hz; clear hz) | skip); clear b3)
          | (go_at_call 42; (with_reducible refine (E4.out _ (by first | with_reducible exact HB3 | with_reducible exact HB3.drew | with_reducible exact HB3.alloc HB3.size _ | with_reducible exact (HB3.alloc HB3.size _).drew | with_reducible exact (HB3.drew).alloc HB3.size _)).mono ?_); rintro e s4 ⟨v4, rfl, r4, b4⟩; have HB4 : Below W1.heap.size W1 s4 := below_step (by first | with_reducible exact HB3 | with_reducible exact HB3.drew | with_reducible exact HB3.alloc HB3.size _ | with_reducible exact (HB3.alloc HB3.size _).drew | with_reducible exact (HB3.drew).alloc HB3.size _) b4 (Below.size (by first | with_reducible exact HB3 | with_reducible exact HB3.drew | with_reducible exact HB3.alloc HB3.size _ | with_reducible exact (HB3.alloc HB3.size _).drew | with_reducible exact (HB3.drew).alloc HB3.size _)); have BS4 : Below s3.heap.size s3 s4 := below_step (by first | with_reducible exact (Below.refl s3.heap.size s3) | with_reducible exact (Below.refl s3.heap.size s3).drew | with_reducible exact (Below.refl s3.heap.size s3).alloc (Below.refl s3.heap.size s3).size _ | with_reducible exact ((Below.refl s3.heap.size s3).alloc (Below.refl s3.heap.size s3).size _).drew | with_reducible exact ((Below.refl s3.heap.size s3).drew).alloc (Below.refl s3.heap.size s3).size _) b4 (Below.size (by first | with_reducible exact (Below.refl s3.heap.size s3) | with_reducible exact (Below.refl s3.heap.size s3).drew | with_reducible exact (Below.refl s3.heap.size s3).alloc (Below.refl s3.heap.size s3).size _ | with_reducible exact ((Below.refl s3.heap.size s3).alloc (Below.refl s3.heap.size s3).size _).drew | with_reducible exact ((Below.refl s3.heap.size s3).drew).alloc (Below.refl s3.heap.size s3).size _)); have d4_0 := cell_below p0 HB4; have d4_1 := cell_below p1 HB4; have d4_2 := cell_below p2 HB4; have d4_3 := cell_below p3 HB4; have d4_4 := cell_below p4 HB4; have d4_5 := cell_below p5 HB4; have R4 := Lib.hid (r4.base_le (base' := W1.heap.size) (Below.size (by first | with_reducible exact HB3 | with_reducible exact HB3.drew | with_reducible exact HB3.alloc HB3.size _ | with_reducible exact (HB3.alloc HB3.size _).drew | with_reducible exact (HB3.drew).alloc HB3.size _))); obtain ⟨e4, f4, rfl⟩ := r4.form; clear r4; have R2 := Lib.hid (R2.out.below BS4); have R3 := Lib.hid (R3.out.below BS4); have nq4_0 : w.heap.size ≠ s4.heap.size := (by have := HB4.size; omega); (first | (have hz : s4.heap[s3.heap.size]? = some (.cells #[.int .u32 0, .slice none 0 0, .slice none 0 0, .slice none 0 0, .slice none 0 0, .slice none 0 0, .slice none 0 0] 39 (0, 0)) := (by with_reducible first | exact heap_below (heap_newD s3 (.cells #[.int .u32 0, .slice none 0 0, .slice none 0 0, .slice none 0 0, .slice none 0 0, .slice none 0 0, .slice none 0 0] 39)) b4 | exact heap_below (heap_new s3 (.cells #[.int .u32 0, .slice none 0 0, .slice none 0 0, .slice none 0 0, .slice none 0 0, .slice none 0 0, .slice none 0 0] 39) _ rfl) b4); have hzs : W1.heap.size ≤ s3.heap.size := Below.size HB3; have z0 := (cell_of_block hz 0 : _ = some (Value.int .u32 0)); have y0 := unfrozen_of_block hz 0; have z1 := (cell_of_block hz 1 : _ = some (Value.slice none 0 0)); have y1 := unfrozen_of_block hz 1; have z2 := (cell_of_block hz 2 : _ = some (Value.slice none 0 0)); have y2 := unfrozen_of_block hz 2; have z3 := (cell_of_block hz 3 : _ = some (Value.slice none 0 0)); have y3 := unfrozen_of_block hz 3; have z4 := (cell_of_block hz 4 : _ = some (Value.slice none 0 0)); have y4 := unfrozen_of_block hz 4; have z5 := (cell_of_block hz 5 : _ = some (Value.slice none 0 0)); have y5 := unfrozen_of_block hz 5; have z6 := (cell_of_block hz 6 : _ = some (Value.slice none 0 0)); have y6 := unfrozen_of_block hz 6; have HZ := Lib.hid hz; clear hz) | (have hz := heap_below HZ.out BS4; have z0 := (cell_of_block hz 0 : _ = some (Value.int .u32 0)); have y0 := unfrozen_of_block hz 0; have z1 := (cell_of_block hz 1 : _ = some (Value.slice none 0 0)); have y1 := unfrozen_of_block hz 1; have z2 := (cell_of_block hz 2 : _ = some (Value.slice none 0 0)); have y2 := unfrozen_of_block hz 2; have z3 := (cell_of_block hz 3 : _ = some (Value.slice none 0 0)); have y3 := unfrozen_of_block hz 3; have z4 := (cell_of_block hz 4 : _ = some (Value.slice none 0 0)); have y4 := unfrozen_of_block hz 4; have z5 := (cell_of_block hz 5 : _ = some (Value.slice none 0 0)); have y5 := unfrozen_of_block hz 5; have z6 := (cell_of_block hz 6 : _ = some (Value.slice none 0 0)); have y6 := unfrozen_of_block hz 6; have HZ := Lib.hid hz; clear hz) | skip); clear b4))
      all_goals go_wp2_with fail
      all_goals go_meet
      all_goals first
        | exact ⟨_, _, _, _, rfl, HB4.size, heap_new _ _ _ rfl, R2.out.below (ext_alloc _ _), R3.out.below (ext_alloc _ _), R4.out.below (ext_alloc _ _), HB4.alloc HB4.size _⟩
        | exact ⟨_, _, _, _, rfl, (by first | exact HB3.size | exact HB2.size | exact HB1.size | exact Nat.le_refl _), raw_set HZ.out rfl _ _ _ _ _ _ _, row_set7 R2.out HZ.out (by decide), row_set7 R3.out HZ.out (by decide), row_set7 R4.out HZ.out (by decide), set7 _ (by first | exact HB3.size | exact HB2.size | exact HB1.size | exact Nat.le_refl _) HB4⟩
    case rest =>
      obtain ⟨RB, v3, v4, v5, rfl, hRB1, hvar, hr3, hr4, hr5, hbx⟩ := hcut
      have hRB := heap_lt hvar.out
      have HVAR := Lib.hid hvar.out
      have hXc := heap_below HX.out hbx.out
      have hRc := heap_below HR.out hbx.out
      have HBC := Lib.hid (ext_trans HB1'.out hbx.out)
      have HI0 : Hid (RInv wc RB m (.slice none 0 0) (.slice none 0 0) v3 v4 v5 (.slice none 0 0) ((List.range 0).map fun q => 2 * (1 + q)) [] [] wc) :=
        ⟨hvar.out, ownsN_nil _ _ _ _, own3_nil _ _ _, own3_nil _ _ _, But2.refl _ _ _ _⟩
      have HXC := Lib.hid hXc
      have HRC := Lib.hid hRc
      have HR3 := Lib.hid hr3.out
      have HR4 := Lib.hid hr4.out
      have HR5 := Lib.hid hr5.out
      have p0 : wc.cell? ⟨w.heap.size, 0, none⟩ = some (.int .i64 i) := cell_of_block hXc 0
      have hwc : w.heap.size + 1 < wc.heap.size := heap_lt hRc
      have hwRB : w.heap.size + 1 < RB := by omega
      clear hvar hr3 hr4 hr5 hbx hXc hRc E1 E2 E3 E4 ne1 CV nq0_0
      go_wp2
      clear p0
      go_loopw [30] (fun j wr => ∃ (k : Nat) (v1 : Value), k ≤ i ∧ j = .int .i64 k ∧ Hid (RInv wc RB m v1 (.slice none 0 0) v3 v4 v5 (.slice none 0 0) ((List.range k).map fun q => 2 * (1 + q)) [] [] wr))
        (fun j _ => i - (intOf j).toNat)
      case atStart => exact ⟨0, _, Nat.zero_le _, rfl, HI0.out⟩
      case round =>
        clear HI0
        obtain ⟨k, v1, hk, rfl, hI⟩ := hrel
        by_cases hlt : k < i
        · obtain ⟨va, vc, hv1⟩ := ownsN_form hI.out.f1
          have hlen : ((List.range k).map fun q => 2 * (1 + q)).length = k := by simp
          rw [hlen] at hv1
          subst hv1
          have W1' : IntKind.i64.wrap ((k : Int) + 1) = (k : Int) + 1 := IntWalk.i64_in _ (by omega)
          have W2' : IntKind.i64.wrap (1 + (k : Int)) = 1 + (k : Int) := IntWalk.i64_in _ (by omega)
          have HLIT := Lib.hid (fun W => literal_at (1 + (k : Int)) (1 + k) (by omega) (by omega) W)
          obtain ⟨x, hx⟩ : ∃ x, x = 2 * (1 + k) := ⟨_, rfl⟩
          rw [← hx] at HLIT
          have HXX := Lib.hid hx
          have HLEN := Lib.hid hlen
          have cR : wr.cell? ⟨RB, 1, none⟩ = some (.slice va k vc) := cell_of_block hI.out.var 1
          obtain ⟨L, hL⟩ : ∃ L, L = ((List.range k).map fun q => 2 * (1 + q)).map nv32 := ⟨_, rfl⟩
          have hown0 := hI.out.f1
          rw [← hL, hlen] at hown0
          have HL := Lib.hid hL
          have HOWN0 := Lib.hid hown0
          have hq4 : k + 1 ≤ maxLen := by unfold maxLen; omega
          have hq5 : (k + 1) * 4 ≤ 140737488355328 := by omega
          have hws := hI.out.but.size
          have HELD : Hid (wr.drew.cell? ⟨RB, 1, none⟩ = some (.slice va k vc)) := cR
          clear hx hlen hL hown0 cR
          go_wp2
          refine wp_region_noPanic ?_
          refine wp_region_peelN 8 (by kernel_rfl) rfl (by simp only [List.getElem?_toArray, List.getElem?_cons_zero, List.getElem?_cons_succ]; rfl) (by kernel_rfl) ?_
          simp only [List.pop_toArray, List.dropLast_cons_cons, List.dropLast_singleton]
          refine wpAny_of_held (S := fun w' => w'.cell? ⟨RB, 1, none⟩ = some (.slice va k vc)) _ _ _ _ ?_
          refine wpAnyH_take (i := 0) (v := ?_) (by simp only [List.getElem?_toArray, List.getElem?_cons_zero]; rfl) (by kernel_rfl) (by kernel_rfl) (by kernel_rfl) (fun _ _ _ h => h) (Or.inl ⟨by rfl, ?_⟩) HELD.out ?_
          rotate_left
          · intro w hSw
            (try dsimp only at hSw)
            have q0 := hSw
            go_simp
            try with_reducible rfl
          try simp only [Act.put, List.setIfInBounds_toArray, List.set_cons_zero, List.set_cons_succ]
          refine wpAnyH_take (i := 1) (v := ?_) (by simp only [List.getElem?_toArray, List.getElem?_cons_zero, List.getElem?_cons_succ]; rfl) (by kernel_rfl) (by kernel_rfl) (by kernel_rfl) (fun _ _ _ h => h) (Or.inl ⟨by rfl, ?_⟩) HELD.out ?_
          rotate_left
          · intro w hSw
            (try dsimp only at hSw)
            have q0 := hSw
            go_simp
            try with_reducible rfl
          try simp only [Act.put, List.setIfInBounds_toArray, List.set_cons_zero, List.set_cons_succ]
          refine wpAnyH_take (i := 2) (v := ?_) (by simp only [List.getElem?_toArray, List.getElem?_cons_zero, List.getElem?_cons_succ]; rfl) (by kernel_rfl) (by kernel_rfl) (by kernel_rfl) (fun _ _ _ h => h) (Or.inl ⟨by rfl, ?_⟩) HELD.out ?_
          rotate_left
          · intro w hSw
            (try dsimp only at hSw)
            have q0 := hSw
            go_simp
            try with_reducible rfl
          try simp only [Act.put, List.setIfInBounds_toArray, List.set_cons_zero, List.set_cons_succ]
          refine wpAnyH_take (i := 3) (v := ?_) (by simp only [List.getElem?_toArray, List.getElem?_cons_zero, List.getElem?_cons_succ]; rfl) (by kernel_rfl) (by kernel_rfl) (by kernel_rfl) (fun _ _ _ h => h) (Or.inl ⟨by rfl, ?_⟩) HELD.out ?_
          rotate_left
          · intro w hSw
            (try dsimp only at hSw)
            have q0 := hSw
            go_simp
            try with_reducible rfl
          try simp only [Act.put, List.setIfInBounds_toArray, List.set_cons_zero, List.set_cons_succ]
          refine wpAnyH_ready (rs := [4]) (by kernel_rfl) (by simp) ?_
          refine AllReadyH.cons (by simp only [List.getElem?_toArray, List.getElem?_cons_zero, List.getElem?_cons_succ]; rfl) (fun K hK => ?_) AllReadyH.nil
          go_simp
          refine (HLIT.out _).mono ?_
          rintro e w1 ⟨rfl, rfl⟩
          refine hK.out _ _ HELD.out (fun _ => ?_)
          clear hK K
          try simp only [Act.put, List.setIfInBounds_toArray, List.set_cons_zero, List.set_cons_succ]
          refine wpAnyH_ready (rs := [5]) (by kernel_rfl) (by simp) ?_
          refine AllReadyH.cons (by simp only [List.getElem?_toArray, List.getElem?_cons_zero, List.getElem?_cons_succ]; rfl) (fun K hK => ?_) AllReadyH.nil
          go_simp
          generalize hS2 : World.drew _ = s2
          have hbs : Below wr.heap.size wr s2 := by subst hS2; exact (ext_alloc _ _).drew
          have hnews : ∀ j u, [Value.int .u32 x][j]? = some u → s2.cell? ((⟨wr.heap.size, 0, none⟩ : Addr).add j) = some u := by
            subst hS2; exact World.news_of_block (heap_new wr (.cells #[.int .u32 x] 35) wr.heap.size rfl)
          clear hS2
          have HO1 := Lib.hid (ownsN_below HOWN0.out hbs)
          have HC1 := Lib.hid (heap_below hI.out.var hbs)
          have HNEWS := Lib.hid hnews
          have HBS := Lib.hid hbs
          have hq6 : wc.heap.size ≤ s2.heap.size := Nat.le_trans hws hbs.size
          have HELD : Hid (s2.cell? ⟨RB, 1, none⟩ = some (.slice va k vc)) := cell_of_block HC1.out 1
          clear hbs hnews
          refine hK.out _ _ HELD.out (fun _ => ?_)
          clear hK K
          try simp only [Act.put, List.setIfInBounds_toArray, List.set_cons_zero, List.set_cons_succ]
          refine wpAnyH_ready (rs := [6]) (by kernel_rfl) (by simp) ?_
          refine AllReadyH.cons (by simp only [List.getElem?_toArray, List.getElem?_cons_zero, List.getElem?_cons_succ]; rfl) (fun K hK => ?_) AllReadyH.nil
          refine step_append_own_at rfl _ _ 24 rfl wc.heap.size 35 i0 (.int .u32 0) 1 4 Tryz.underlying24 hi hz0 hz1 hz2 rfl (by omega) _ _ L rfl HO1.out _ 1 1 [.int .u32 x] rfl rfl HNEWS.out (by intro u hu; simp at hu; subst hu; rfl) hq4 hq5 hq6 ?_
          intro v2 w2 r2 hg2
          obtain ⟨a2', c2', rfl⟩ := ownsN_form r2
          have hC2 := heap_grown HC1.out hg2 (fun e => by have := (HO1.out.lt RB e).1; omega)
          have hc2 : w2.cell? ⟨RB, 1, none⟩ = some (.slice va k vc) := cell_of_block hC2 1
          have hf2 : w2.frozen? ⟨RB, 1, none⟩ = false := unfrozen_of_block hC2 1
          have HELD : Hid (w2.cell? ⟨RB, 1, none⟩ = some (.slice va k vc)) := hc2
          have HG2 := Lib.hid hg2
          have R2 := Lib.hid r2
          clear hg2 r2 hC2
          refine hK.out _ _ HELD.out (fun _ => ?_)
          clear hK K
          try simp only [Act.put, List.setIfInBounds_toArray, List.set_cons_zero, List.set_cons_succ]
          refine wpAnyH_take (i := 7) (v := ?_) (by simp only [List.getElem?_toArray, List.getElem?_cons_zero, List.getElem?_cons_succ]; rfl) (by kernel_rfl) (by kernel_rfl) (by kernel_rfl) (fun _ _ _ h => h) (Or.inl ⟨by rfl, ?_⟩) HELD.out ?_
          rotate_left
          · intro w hSw
            (try dsimp only at hSw)
            have q0 := hSw
            go_simp
            try with_reducible rfl
          try simp only [Act.put, List.setIfInBounds_toArray, List.set_cons_zero, List.set_cons_succ]
          refine wpAnyH_done (by kernel_rfl) ?_ _
          unfold LastQ wpOp
          simp only [List.getElem?_toArray, List.getElem?_cons_zero, List.getElem?_cons_succ]
          rw [if_pos (by rfl)]
          refine Or.inl ?_
          go_simp
          refine NoPanic.normal ?_
          have HF9 := Lib.hid (RInv.grow_ins (x := x) hI.out hRB HBS.out HG2.out R2.out (by rw [HLEN.out]) (by rw [HL.out]; rfl))
          have EL : Hid (((List.range k).map fun q => 2 * (1 + q)) ++ [x] = (List.range (k + 1)).map fun q => 2 * (1 + q)) := by
            show _ = _
            rw [List.range_succ, List.map_append, HXX.out]; rfl
          rw [EL.out] at HF9
          clear hI
          go_wp2
          go_roundw
          case rel => exact ⟨k + 1, _, by omega, by go_num, HF9.out⟩
          case measure => simp [intOf]; omega
        · obtain rfl : i = k := by omega
          obtain ⟨wo, hwo⟩ : ∃ wo : World, wo = wr := ⟨_, rfl⟩
          subst hwo
          have HI1 : Hid (RInv wc RB m v1 (.slice none 0 0) v3 v4 v5 (.slice none 0 0) ((List.range i).map fun q => 2 * (1 + q)) ((upFrom latR (1 + i) c.lats).take 0) [] wo) := hI.out
          have hXo := hI.out.but.at HXC.out (by omega) (by omega) (by omega)
          have p1 : wo.cell? ⟨w.heap.size, 1, none⟩ = some (.slice a1 n1 c1) := cell_of_block hXo 1
          clear hI hXo hlt hk
          go_wp2
          clear p1
          go_loopw [45] (fun j wr => ∃ (k : Nat) (v2 : Value), k ≤ n1 ∧ j = .int .i64 k ∧ Hid (RInv wc RB m v1 v2 v3 v4 v5 (.slice none 0 0) ((List.range i).map fun q => 2 * (1 + q)) ((upFrom latR (1 + i) c.lats).take k) [] wr))
            (fun j _ => n1 - (intOf j).toNat)
          case atStart => exact ⟨0, _, Nat.zero_le _, rfl, HI1.out⟩
          case round =>
            clear HI1
            obtain ⟨k, v2, hk, rfl, hI⟩ := hrel
            by_cases hlt : k < n1
            · have hbc : Below w.heap.size w wr := HBC.out.trans (hI.out.but.low (by omega) (by omega) (by omega))
              obtain ⟨b, off, rfl, hbw⟩ := HS.out.s1.addr (show 0 < n1 by omega)
              obtain ⟨qx, qy⟩ := (HS.out.s1.below hbc).cells k hlt (0, 0)
              obtain ⟨t, ht⟩ : ∃ t, t = c.lats.getD k (0, 0) := ⟨_, rfl⟩
              have htm : t ∈ c.lats := by rw [ht]; exact getD_mem (by rw [L1.out]; exact hlt)
              have hy2 := (HMC.out.lats t htm).2
              rw [← ht] at qx qy
              have HTT := Lib.hid ht
              clear ht htm
              obtain ⟨x, y⟩ := t
              simp only [nv32, nv8] at qx qy hy2
              obtain ⟨va, vc, hv2⟩ := own3_form hI.out.f2
              have hlen : ((upFrom latR (1 + i) c.lats).take k).length = k := by rw [List.length_take, upFrom_len, L1.out]; omega
              rw [hlen] at hv2
              subst hv2
              have HLEN := Lib.hid hlen
              have hXr := hI.out.but.at HXC.out (by omega) (by omega) (by omega)
              have W1' : IntKind.i64.wrap ((k : Int) + 1) = (k : Int) + 1 := IntWalk.i64_in _ (by omega)
              have W2' : IntKind.i64.wrap (1 + (i : Int) + (k : Int)) = 1 + (i : Int) + (k : Int) := IntWalk.i64_in _ (by omega)
              have HXR := Lib.hid hXr
              have HBR := Lib.hid hbc
              clear hlen hXr hbc
              go_wp2
              generalize hX0 : World.alloc wr _ = X0
              have B0 : Below wr.heap.size wr X0 := by subst hX0; exact ext_alloc _ _
              have hg : X0.heap[wr.heap.size]? = some (.cells #[.int .u32 x, .int .u8 y] 61 (0, 0)) := by subst hX0; exact heap_new _ _ _ rfl
              clear hX0
              have hX0s := heap_lt hg
              have c0 : X0.cell? ⟨w.heap.size, 0, none⟩ = some (.int .i64 i) := cell_of_block (heap_below HXR.out B0) 0
              have c1' : X0.cell? ⟨w.heap.size, 1, none⟩ = some (.slice (some ⟨b, off, none⟩) n1 c1) := cell_of_block (heap_below HXR.out B0) 1
              have c2' : X0.cell? ⟨w.heap.size, 2, none⟩ = some (.slice a2 n2 c2) := cell_of_block (heap_below HXR.out B0) 2
              have c3' : X0.cell? ⟨w.heap.size, 3, none⟩ = some (.slice a3 n3 c3) := cell_of_block (heap_below HXR.out B0) 3
              have c4' : X0.cell? ⟨w.heap.size, 4, none⟩ = some (.slice a4 n4 c4) := cell_of_block (heap_below HXR.out B0) 4
              have c5' : X0.cell? ⟨w.heap.size, 5, none⟩ = some (.slice a5 n5 c5) := cell_of_block (heap_below HXR.out B0) 5
              have g0 : X0.cell? ⟨wr.heap.size, 0, none⟩ = some (.int .u32 x) := cell_of_block hg 0
              have g1 : X0.cell? ⟨wr.heap.size, 1, none⟩ = some (.int .u8 y) := cell_of_block hg 1
              have hwwr : w.heap.size < wr.heap.size := heap_lt HXR.out
              have nq0_0 : w.heap.size ≠ X0.heap.size := by omega
              have nq0_1 : wr.heap.size ≠ X0.heap.size := by omega
              have CV : IntKind.u32.wrap (y : Int) = (y : Int) := by rw [IntKind.wrap_u32]; omega
              obtain ⟨lit, hlit⟩ : ∃ lit, lit = 2 * (1 + i + k) := ⟨_, rfl⟩
              have E1 : Hid (∀ W, Below X0.heap.size X0 W → Calls Tryz.prog 44 #[.agg #[.int .i64 i, .slice (some ⟨b, off, none⟩) n1 c1, .slice a2 n2 c2, .slice a3 n3 c3, .slice a4 n4 c4, .slice a5 n5 c5]] W fun e w' => e = .returned (.int .i64 ((1 + i : Nat) : Int)) ∧ Below W.heap.size W w') := fun W _ => HFL2.out W
              have E2 : Hid (∀ W, Below X0.heap.size X0 W → Calls Tryz.prog 43 #[.int .i64 (1 + (i : Int) + (k : Int))] W fun e w' => e = .returned (.int .u32 lit) ∧ Below W.heap.size W w') := fun W _ => by
                rw [hlit]
                exact (literal_at (1 + (i : Int) + (k : Int)) (1 + i + k) (by omega) (by omega) W).mono fun e w' ⟨h1, h2⟩ => ⟨h1, by rw [← h2]; exact Below.refl _ _⟩
              have HLT := Lib.hid hlit
              have HG := Lib.hid hg
              have HB0 := Lib.hid B0
              clear hlit hg B0
              go_region_held3 (fun w' => w'.cell? ⟨w.heap.size, 0, none⟩ = some (.int .i64 i) ∧ w'.cell? ⟨w.heap.size, 1, none⟩ = some (.slice (some ⟨b, off, none⟩) n1 c1) ∧ w'.cell? ⟨w.heap.size, 2, none⟩ = some (.slice a2 n2 c2) ∧ w'.cell? ⟨w.heap.size, 3, none⟩ = some (.slice a3 n3 c3) ∧ w'.cell? ⟨w.heap.size, 4, none⟩ = some (.slice a4 n4 c4) ∧ w'.cell? ⟨w.heap.size, 5, none⟩ = some (.slice a5 n5 c5) ∧ w'.cell? ⟨wr.heap.size, 0, none⟩ = some (.int .u32 x) ∧ w'.cell? ⟨wr.heap.size, 1, none⟩ = some (.int .u8 y))
                (first | with_reducible exact ⟨d2_0, d2_1, d2_2, d2_3, d2_4, d2_5, d2_6, d2_7⟩ | with_reducible exact ⟨cell_drew d2_0, cell_drew d2_1, cell_drew d2_2, cell_drew d2_3, cell_drew d2_4, cell_drew d2_5, cell_drew d2_6, cell_drew d2_7⟩ | with_reducible exact ⟨cell_old d2_0, cell_old d2_1, cell_old d2_2, cell_old d2_3, cell_old d2_4, cell_old d2_5, cell_old d2_6, cell_old d2_7⟩ | with_reducible exact ⟨cell_drew (cell_old d2_0), cell_drew (cell_old d2_1), cell_drew (cell_old d2_2), cell_drew (cell_old d2_3), cell_drew (cell_old d2_4), cell_drew (cell_old d2_5), cell_drew (cell_old d2_6), cell_drew (cell_old d2_7)⟩ | with_reducible exact ⟨cell_old (cell_drew d2_0), cell_old (cell_drew d2_1), cell_old (cell_drew d2_2), cell_old (cell_drew d2_3), cell_old (cell_drew d2_4), cell_old (cell_drew d2_5), cell_old (cell_drew d2_6), cell_old (cell_drew d2_7)⟩ | with_reducible exact ⟨d1_0, d1_1, d1_2, d1_3, d1_4, d1_5, d1_6, d1_7⟩ | with_reducible exact ⟨cell_drew d1_0, cell_drew d1_1, cell_drew d1_2, cell_drew d1_3, cell_drew d1_4, cell_drew d1_5, cell_drew d1_6, cell_drew d1_7⟩ | with_reducible exact ⟨cell_old d1_0, cell_old d1_1, cell_old d1_2, cell_old d1_3, cell_old d1_4, cell_old d1_5, cell_old d1_6, cell_old d1_7⟩ | with_reducible exact ⟨cell_drew (cell_old d1_0), cell_drew (cell_old d1_1), cell_drew (cell_old d1_2), cell_drew (cell_old d1_3), cell_drew (cell_old d1_4), cell_drew (cell_old d1_5), cell_drew (cell_old d1_6), cell_drew (cell_old d1_7)⟩ | with_reducible exact ⟨cell_old (cell_drew d1_0), cell_old (cell_drew d1_1), cell_old (cell_drew d1_2), cell_old (cell_drew d1_3), cell_old (cell_drew d1_4), cell_old (cell_drew d1_5), cell_old (cell_drew d1_6), cell_old (cell_drew d1_7)⟩ | with_reducible exact ⟨c0, c1', c2', c3', c4', c5', g0, g1⟩ | with_reducible exact ⟨cell_drew c0, cell_drew c1', cell_drew c2', cell_drew c3', cell_drew c4', cell_drew c5', cell_drew g0, cell_drew g1⟩ | with_reducible exact ⟨cell_old c0, cell_old c1', cell_old c2', cell_old c3', cell_old c4', cell_old c5', cell_old g0, cell_old g1⟩ | with_reducible exact ⟨cell_drew (cell_old c0), cell_drew (cell_old c1'), cell_drew (cell_old c2'), cell_drew (cell_old c3'), cell_drew (cell_old c4'), cell_drew (cell_old c5'), cell_drew (cell_old g0), cell_drew (cell_old g1)⟩ | with_reducible exact ⟨cell_old (cell_drew c0), cell_old (cell_drew c1'), cell_old (cell_drew c2'), cell_old (cell_drew c3'), cell_old (cell_drew c4'), cell_old (cell_drew c5'), cell_old (cell_drew g0), cell_old (cell_drew g1)⟩ | with_reducible exact ⟨cell_set3 (d2_0) nq0_0, cell_set3 (d2_1) nq0_0, cell_set3 (d2_2) nq0_0, cell_set3 (d2_3) nq0_0, cell_set3 (d2_4) nq0_0, cell_set3 (d2_5) nq0_0, cell_set3 (d2_6) nq0_1, cell_set3 (d2_7) nq0_1⟩ | with_reducible exact ⟨cell_set3 (cell_old d2_0) nq0_0, cell_set3 (cell_old d2_1) nq0_0, cell_set3 (cell_old d2_2) nq0_0, cell_set3 (cell_old d2_3) nq0_0, cell_set3 (cell_old d2_4) nq0_0, cell_set3 (cell_old d2_5) nq0_0, cell_set3 (cell_old d2_6) nq0_1, cell_set3 (cell_old d2_7) nq0_1⟩ | with_reducible exact ⟨cell_set3 (cell_drew (cell_old d2_0)) nq0_0, cell_set3 (cell_drew (cell_old d2_1)) nq0_0, cell_set3 (cell_drew (cell_old d2_2)) nq0_0, cell_set3 (cell_drew (cell_old d2_3)) nq0_0, cell_set3 (cell_drew (cell_old d2_4)) nq0_0, cell_set3 (cell_drew (cell_old d2_5)) nq0_0, cell_set3 (cell_drew (cell_old d2_6)) nq0_1, cell_set3 (cell_drew (cell_old d2_7)) nq0_1⟩ | with_reducible exact ⟨cell_set3 (d2_0) nq1_0, cell_set3 (d2_1) nq1_0, cell_set3 (d2_2) nq1_0, cell_set3 (d2_3) nq1_0, cell_set3 (d2_4) nq1_0, cell_set3 (d2_5) nq1_0, cell_set3 (d2_6) nq1_1, cell_set3 (d2_7) nq1_1⟩ | with_reducible exact ⟨cell_set3 (cell_old d2_0) nq1_0, cell_set3 (cell_old d2_1) nq1_0, cell_set3 (cell_old d2_2) nq1_0, cell_set3 (cell_old d2_3) nq1_0, cell_set3 (cell_old d2_4) nq1_0, cell_set3 (cell_old d2_5) nq1_0, cell_set3 (cell_old d2_6) nq1_1, cell_set3 (cell_old d2_7) nq1_1⟩ | with_reducible exact ⟨cell_set3 (cell_drew (cell_old d2_0)) nq1_0, cell_set3 (cell_drew (cell_old d2_1)) nq1_0, cell_set3 (cell_drew (cell_old d2_2)) nq1_0, cell_set3 (cell_drew (cell_old d2_3)) nq1_0, cell_set3 (cell_drew (cell_old d2_4)) nq1_0, cell_set3 (cell_drew (cell_old d2_5)) nq1_0, cell_set3 (cell_drew (cell_old d2_6)) nq1_1, cell_set3 (cell_drew (cell_old d2_7)) nq1_1⟩ | with_reducible exact ⟨cell_set3 (d2_0) nq2_0, cell_set3 (d2_1) nq2_0, cell_set3 (d2_2) nq2_0, cell_set3 (d2_3) nq2_0, cell_set3 (d2_4) nq2_0, cell_set3 (d2_5) nq2_0, cell_set3 (d2_6) nq2_1, cell_set3 (d2_7) nq2_1⟩ | with_reducible exact ⟨cell_set3 (cell_old d2_0) nq2_0, cell_set3 (cell_old d2_1) nq2_0, cell_set3 (cell_old d2_2) nq2_0, cell_set3 (cell_old d2_3) nq2_0, cell_set3 (cell_old d2_4) nq2_0, cell_set3 (cell_old d2_5) nq2_0, cell_set3 (cell_old d2_6) nq2_1, cell_set3 (cell_old d2_7) nq2_1⟩ | with_reducible exact ⟨cell_set3 (cell_drew (cell_old d2_0)) nq2_0, cell_set3 (cell_drew (cell_old d2_1)) nq2_0, cell_set3 (cell_drew (cell_old d2_2)) nq2_0, cell_set3 (cell_drew (cell_old d2_3)) nq2_0, cell_set3 (cell_drew (cell_old d2_4)) nq2_0, cell_set3 (cell_drew (cell_old d2_5)) nq2_0, cell_set3 (cell_drew (cell_old d2_6)) nq2_1, cell_set3 (cell_drew (cell_old d2_7)) nq2_1⟩ | with_reducible exact ⟨cell_row (d2_0) nq0_0, cell_row (d2_1) nq0_0, cell_row (d2_2) nq0_0, cell_row (d2_3) nq0_0, cell_row (d2_4) nq0_0, cell_row (d2_5) nq0_0, cell_row (d2_6) nq0_1, cell_row (d2_7) nq0_1⟩ | with_reducible exact ⟨cell_row (cell_old d2_0) nq0_0, cell_row (cell_old d2_1) nq0_0, cell_row (cell_old d2_2) nq0_0, cell_row (cell_old d2_3) nq0_0, cell_row (cell_old d2_4) nq0_0, cell_row (cell_old d2_5) nq0_0, cell_row (cell_old d2_6) nq0_1, cell_row (cell_old d2_7) nq0_1⟩ | with_reducible exact ⟨cell_row (cell_drew (cell_old d2_0)) nq0_0, cell_row (cell_drew (cell_old d2_1)) nq0_0, cell_row (cell_drew (cell_old d2_2)) nq0_0, cell_row (cell_drew (cell_old d2_3)) nq0_0, cell_row (cell_drew (cell_old d2_4)) nq0_0, cell_row (cell_drew (cell_old d2_5)) nq0_0, cell_row (cell_drew (cell_old d2_6)) nq0_1, cell_row (cell_drew (cell_old d2_7)) nq0_1⟩ | with_reducible exact ⟨cell_row (d2_0) nq1_0, cell_row (d2_1) nq1_0, cell_row (d2_2) nq1_0, cell_row (d2_3) nq1_0, cell_row (d2_4) nq1_0, cell_row (d2_5) nq1_0, cell_row (d2_6) nq1_1, cell_row (d2_7) nq1_1⟩ | with_reducible exact ⟨cell_row (cell_old d2_0) nq1_0, cell_row (cell_old d2_1) nq1_0, cell_row (cell_old d2_2) nq1_0, cell_row (cell_old d2_3) nq1_0, cell_row (cell_old d2_4) nq1_0, cell_row (cell_old d2_5) nq1_0, cell_row (cell_old d2_6) nq1_1, cell_row (cell_old d2_7) nq1_1⟩ | with_reducible exact ⟨cell_row (cell_drew (cell_old d2_0)) nq1_0, cell_row (cell_drew (cell_old d2_1)) nq1_0, cell_row (cell_drew (cell_old d2_2)) nq1_0, cell_row (cell_drew (cell_old d2_3)) nq1_0, cell_row (cell_drew (cell_old d2_4)) nq1_0, cell_row (cell_drew (cell_old d2_5)) nq1_0, cell_row (cell_drew (cell_old d2_6)) nq1_1, cell_row (cell_drew (cell_old d2_7)) nq1_1⟩ | with_reducible exact ⟨cell_row (d2_0) nq2_0, cell_row (d2_1) nq2_0, cell_row (d2_2) nq2_0, cell_row (d2_3) nq2_0, cell_row (d2_4) nq2_0, cell_row (d2_5) nq2_0, cell_row (d2_6) nq2_1, cell_row (d2_7) nq2_1⟩ | with_reducible exact ⟨cell_row (cell_old d2_0) nq2_0, cell_row (cell_old d2_1) nq2_0, cell_row (cell_old d2_2) nq2_0, cell_row (cell_old d2_3) nq2_0, cell_row (cell_old d2_4) nq2_0, cell_row (cell_old d2_5) nq2_0, cell_row (cell_old d2_6) nq2_1, cell_row (cell_old d2_7) nq2_1⟩ | with_reducible exact ⟨cell_row (cell_drew (cell_old d2_0)) nq2_0, cell_row (cell_drew (cell_old d2_1)) nq2_0, cell_row (cell_drew (cell_old d2_2)) nq2_0, cell_row (cell_drew (cell_old d2_3)) nq2_0, cell_row (cell_drew (cell_old d2_4)) nq2_0, cell_row (cell_drew (cell_old d2_5)) nq2_0, cell_row (cell_drew (cell_old d2_6)) nq2_1, cell_row (cell_drew (cell_old d2_7)) nq2_1⟩ | go_keep)
                (first
                  | (go_at_call 44; (with_reducible refine (E1.out _ (by first | with_reducible exact (Below.refl X0.heap.size X0) | with_reducible exact (Below.refl X0.heap.size X0).drew | with_reducible exact (Below.refl X0.heap.size X0).alloc (Below.refl X0.heap.size X0).size _ | with_reducible exact ((Below.refl X0.heap.size X0).alloc (Below.refl X0.heap.size X0).size _).drew | with_reducible exact ((Below.refl X0.heap.size X0).drew).alloc (Below.refl X0.heap.size X0).size _)).mono ?_); rintro e s1 ⟨rfl, b1⟩; have HB1 : Below X0.heap.size X0 s1 := below_step (by first | with_reducible exact (Below.refl X0.heap.size X0) | with_reducible exact (Below.refl X0.heap.size X0).drew | with_reducible exact (Below.refl X0.heap.size X0).alloc (Below.refl X0.heap.size X0).size _ | with_reducible exact ((Below.refl X0.heap.size X0).alloc (Below.refl X0.heap.size X0).size _).drew | with_reducible exact ((Below.refl X0.heap.size X0).drew).alloc (Below.refl X0.heap.size X0).size _) b1 (Below.size (by first | with_reducible exact (Below.refl X0.heap.size X0) | with_reducible exact (Below.refl X0.heap.size X0).drew | with_reducible exact (Below.refl X0.heap.size X0).alloc (Below.refl X0.heap.size X0).size _ | with_reducible exact ((Below.refl X0.heap.size X0).alloc (Below.refl X0.heap.size X0).size _).drew | with_reducible exact ((Below.refl X0.heap.size X0).drew).alloc (Below.refl X0.heap.size X0).size _)); have BS1 : Below X0.heap.size X0 s1 := below_step (by first | with_reducible exact (Below.refl X0.heap.size X0) | with_reducible exact (Below.refl X0.heap.size X0).drew | with_reducible exact (Below.refl X0.heap.size X0).alloc (Below.refl X0.heap.size X0).size _ | with_reducible exact ((Below.refl X0.heap.size X0).alloc (Below.refl X0.heap.size X0).size _).drew | with_reducible exact ((Below.refl X0.heap.size X0).drew).alloc (Below.refl X0.heap.size X0).size _) b1 (Below.size (by first | with_reducible exact (Below.refl X0.heap.size X0) | with_reducible exact (Below.refl X0.heap.size X0).drew | with_reducible exact (Below.refl X0.heap.size X0).alloc (Below.refl X0.heap.size X0).size _ | with_reducible exact ((Below.refl X0.heap.size X0).alloc (Below.refl X0.heap.size X0).size _).drew | with_reducible exact ((Below.refl X0.heap.size X0).drew).alloc (Below.refl X0.heap.size X0).size _)); have d1_0 := cell_below c0 HB1; have d1_1 := cell_below c1' HB1; have d1_2 := cell_below c2' HB1; have d1_3 := cell_below c3' HB1; have d1_4 := cell_below c4' HB1; have d1_5 := cell_below c5' HB1; have d1_6 := cell_below g0 HB1; have d1_7 := cell_below g1 HB1; skip; have nq1_0 : w.heap.size ≠ s1.heap.size := (by have := HB1.size; omega); have nq1_1 : wr.heap.size ≠ s1.heap.size := (by have := HB1.size; omega); (first | (have hz : s1.heap[X0.heap.size]? = some (.cells #[.int .u32 0, .int .u32 0, .int .u32 0] 55 (0, 0)) := (by with_reducible first | exact heap_below (heap_newD X0 (.cells #[.int .u32 0, .int .u32 0, .int .u32 0] 55)) b1 | exact heap_below (heap_new X0 (.cells #[.int .u32 0, .int .u32 0, .int .u32 0] 55) _ rfl) b1); have hzs : X0.heap.size ≤ X0.heap.size := Below.size (Below.refl X0.heap.size X0); have HZ := Lib.hid hz; clear hz) | (have hz := heap_below HZ.out BS1; have HZ := Lib.hid hz; clear hz) | skip); clear b1)
                  | (go_at_call 43; (with_reducible refine (E2.out _ (by first | with_reducible exact HB1 | with_reducible exact HB1.drew | with_reducible exact HB1.alloc HB1.size _ | with_reducible exact (HB1.alloc HB1.size _).drew | with_reducible exact (HB1.drew).alloc HB1.size _)).mono ?_); rintro e s2 ⟨rfl, b2⟩; have HB2 : Below X0.heap.size X0 s2 := below_step (by first | with_reducible exact HB1 | with_reducible exact HB1.drew | with_reducible exact HB1.alloc HB1.size _ | with_reducible exact (HB1.alloc HB1.size _).drew | with_reducible exact (HB1.drew).alloc HB1.size _) b2 (Below.size (by first | with_reducible exact HB1 | with_reducible exact HB1.drew | with_reducible exact HB1.alloc HB1.size _ | with_reducible exact (HB1.alloc HB1.size _).drew | with_reducible exact (HB1.drew).alloc HB1.size _)); have BS2 : Below s1.heap.size s1 s2 := below_step (by first | with_reducible exact (Below.refl s1.heap.size s1) | with_reducible exact (Below.refl s1.heap.size s1).drew | with_reducible exact (Below.refl s1.heap.size s1).alloc (Below.refl s1.heap.size s1).size _ | with_reducible exact ((Below.refl s1.heap.size s1).alloc (Below.refl s1.heap.size s1).size _).drew | with_reducible exact ((Below.refl s1.heap.size s1).drew).alloc (Below.refl s1.heap.size s1).size _) b2 (Below.size (by first | with_reducible exact (Below.refl s1.heap.size s1) | with_reducible exact (Below.refl s1.heap.size s1).drew | with_reducible exact (Below.refl s1.heap.size s1).alloc (Below.refl s1.heap.size s1).size _ | with_reducible exact ((Below.refl s1.heap.size s1).alloc (Below.refl s1.heap.size s1).size _).drew | with_reducible exact ((Below.refl s1.heap.size s1).drew).alloc (Below.refl s1.heap.size s1).size _)); have d2_0 := cell_below c0 HB2; have d2_1 := cell_below c1' HB2; have d2_2 := cell_below c2' HB2; have d2_3 := cell_below c3' HB2; have d2_4 := cell_below c4' HB2; have d2_5 := cell_below c5' HB2; have d2_6 := cell_below g0 HB2; have d2_7 := cell_below g1 HB2; skip; have nq2_0 : w.heap.size ≠ s2.heap.size := (by have := HB2.size; omega); have nq2_1 : wr.heap.size ≠ s2.heap.size := (by have := HB2.size; omega); (first | (have hz : s2.heap[s1.heap.size]? = some (.cells #[.int .u32 0, .int .u32 0, .int .u32 0] 55 (0, 0)) := (by with_reducible first | exact heap_below (heap_newD s1 (.cells #[.int .u32 0, .int .u32 0, .int .u32 0] 55)) b2 | exact heap_below (heap_new s1 (.cells #[.int .u32 0, .int .u32 0, .int .u32 0] 55) _ rfl) b2); have hzs : X0.heap.size ≤ s1.heap.size := Below.size HB1; have z0 := (cell_of_block hz 0 : _ = some (Value.int .u32 0)); have y0 := unfrozen_of_block hz 0; have z1 := (cell_of_block hz 1 : _ = some (Value.int .u32 0)); have y1 := unfrozen_of_block hz 1; have z2 := (cell_of_block hz 2 : _ = some (Value.int .u32 0)); have y2 := unfrozen_of_block hz 2; have HZ := Lib.hid hz; clear hz) | (have hz := heap_below HZ.out BS2; have z0 := (cell_of_block hz 0 : _ = some (Value.int .u32 0)); have y0 := unfrozen_of_block hz 0; have z1 := (cell_of_block hz 1 : _ = some (Value.int .u32 0)); have y1 := unfrozen_of_block hz 1; have z2 := (cell_of_block hz 2 : _ = some (Value.int .u32 0)); have y2 := unfrozen_of_block hz 2; have HZ := Lib.hid hz; clear hz) | skip); clear b2))
              all_goals first
                | (have hz' : s2.heap[s1.heap.size]? = some (.cells #[.int .u32 0, .int .u32 0, .int .u32 0] 55 (0, 0)) := (by with_reducible exact HZ.out)
                   have hG := tri_set hz' rfl (.int .u32 lit) (.int .u32 x) (.int .u32 y)
                   have hGe := HB1.size
                   have hXV := set3 (u0 := .int .u32 lit) (u1 := .int .u32 x) (u2 := .int .u32 y) s1.heap.size hGe HB2
                   clear hz'
                   generalize World.setCell (World.setCell (World.setCell s2 ⟨s1.heap.size, 0, none⟩ _) _ _) _ _ = V at hG hXV ⊢
                   generalize s1.heap.size = G at hG hGe ⊢)
                | (have hz' : s2.heap[X0.heap.size]? = some (.cells #[.int .u32 0, .int .u32 0, .int .u32 0] 55 (0, 0)) := (by with_reducible exact HZ.out)
                   have hG := tri_set hz' rfl (.int .u32 lit) (.int .u32 x) (.int .u32 y)
                   have hGe := Nat.le_refl X0.heap.size
                   have hXV := set3 (u0 := .int .u32 lit) (u1 := .int .u32 x) (u2 := .int .u32 y) X0.heap.size hGe HB2
                   clear hz'
                   generalize World.setCell (World.setCell (World.setCell s2 ⟨X0.heap.size, 0, none⟩ _) _ _) _ _ = V at hG hXV ⊢
                   generalize hGG : X0.heap.size = G at hG ⊢
                   have hGe : X0.heap.size ≤ G := by omega)
                | (have hG := heap_new s2 (.cells #[.int .u32 lit, .int .u32 x, .int .u32 y] 55) _ rfl
                   have hXV : Below X0.heap.size X0 (s2.alloc (.cells #[.int .u32 lit, .int .u32 x, .int .u32 y] 55)) := ext_trans HB2 (ext_alloc _ _)
                   have hGe := HB2.size
                   generalize s2.alloc _ = V at hG hXV ⊢
                   generalize s2.heap.size = G at hG hGe ⊢)
              all_goals
                have hVr := ext_trans HB0.out hXV
                have gy : V.cell? ⟨wr.heap.size, 1, none⟩ = some (.int .u8 y) := cell_of_block (heap_below HG.out hXV) 1
                have k0 : V.cell? ⟨G, 0, none⟩ = some (.int .u32 lit) := cell_of_block hG 0
                have k2 : V.cell? ⟨G, 2, none⟩ = some (.int .u32 y) := cell_of_block hG 2
                have fk2 : V.frozen? ⟨G, 2, none⟩ = false := unfrozen_of_block hG 2
                have HVR := Lib.hid hVr
                have HGG := Lib.hid hG
                have hGr : wr.heap.size ≤ G := by omega
                clear hVr hG hXV c0 c1' c2' c3' c4' c5' g0 g1 E1 E2
                (try clear d1_0); (try clear d1_1); (try clear d1_2); (try clear d1_3); (try clear d1_4); (try clear d1_5); (try clear d1_6); (try clear d1_7); (try clear d2_0); (try clear d2_1); (try clear d2_2); (try clear d2_3); (try clear d2_4); (try clear d2_5); (try clear d2_6); (try clear d2_7); (try clear z0); (try clear z1); (try clear z2); (try clear y0); (try clear y1); (try clear y2); (try clear hzs); (try clear hGG); (try clear BS1); (try clear BS2); (try clear HB1); (try clear HB2); (try clear HZ); (try clear nq0_0); (try clear nq0_1); (try clear nq1_0); (try clear nq1_1); (try clear nq2_0); (try clear nq2_1)
              all_goals
                by_cases hy : y = 2
                · have ey : ((y : Int) == 2) = true := by rw [hy]; rfl
                  have HRR : Hid (lit = if y = 2 then lit else y) := by show _ = _; rw [if_pos hy]
                  clear hy
                  go_upto_region 15 with fail
                  generalize hV2 : World.setCell V _ _ = V2
                  have HG2 : Hid (V2.heap[G]? = some (.cells #[.int .u32 lit, .int .u32 x, .int .u32 lit] 55 (0, 0))) := by
                    show _ = _
                    subst hV2
                    simpa using block_setCell HGG.out (i := 2) (.int .u32 lit)
                  have HV2 : Hid (Below wr.heap.size wr V2) := by
                    show Below _ _ _
                    subst hV2
                    exact HVR.out.setCell (p := ⟨G, 2, none⟩) hGr _
                  obtain ⟨rr, hrr⟩ : ∃ rr, rr = lit := ⟨_, rfl⟩
                  have HRR2 : Hid (rr = if y = 2 then lit else y) := by show _ = _; rw [hrr]; exact HRR.out
                  have HG3 : Hid (V2.heap[G]? = some (.cells #[.int .u32 lit, .int .u32 x, .int .u32 rr] 55 (0, 0))) := by
                    show _ = _
                    rw [hrr]
                    exact HG2.out
                  clear hV2 gy k0 k2 fk2 HG2 HRR hrr ey HVR HGG
                  have cR : V2.cell? ⟨RB, 2, none⟩ = some (.slice va k vc) := cell_of_block (heap_below hI.out.var HV2.out) 2
                  have k0 : V2.cell? ⟨G, 0, none⟩ = some (.int .u32 lit) := cell_of_block HG3.out 0
                  have k1 : V2.cell? ⟨G, 1, none⟩ = some (.int .u32 x) := cell_of_block HG3.out 1
                  have k2 : V2.cell? ⟨G, 2, none⟩ = some (.int .u32 rr) := cell_of_block HG3.out 2
                  obtain ⟨L, hL⟩ : ∃ L, L = triCs ((upFrom latR (1 + i) c.lats).take k) := ⟨_, rfl⟩
                  have hown0 := hI.out.f2
                  unfold own3 at hown0
                  rw [← hL, HLEN.out] at hown0
                  have HL := Lib.hid hL
                  have HOA : Hid (∀ o, (V2.alloc o).ownsRow wc.heap.size 55 3 (.slice va k vc) k L) := fun o => ownsN_below hown0 (ext_trans HV2.out (ext_alloc _ _))
                  have hws := hI.out.but.size
                  have hVs := HV2.out.size
                  have HOWN0 := Lib.hid hown0
                  clear hL hown0
                  go_wp2_with (at_builtin; refine wpList_append_own_at _ rfl _ _ 36 rfl wc.heap.size 55 il (.agg #[.int .u32 0, .int .u32 0, .int .u32 0]) 3 12 Tryz.underlying36 hil hzl0 hzl1 hzl2 rfl (by omega) _ _ L rfl (HOA.out _) ⟨V2.heap.size, 0, none⟩ 1 1 [.int .u32 lit, .int .u32 x, .int .u32 rr] rfl rfl ?c1 ?c2 ?c4 ?c5 ?c6 ?_)
                  case c1 => exact World.news_of_block (heap_new V2 (.cells #[.int .u32 lit, .int .u32 x, .int .u32 rr] 55) V2.heap.size rfl)
                  case c2 => intro u hu; simp at hu; rcases hu with rfl | rfl | rfl <;> rfl
                  case c4 => unfold maxLen; omega
                  case c5 => omega
                  case c6 => simp; omega
                  intro v' w1 hrow1 hgrow1 _ _
                  obtain ⟨a', c', rfl⟩ := ownsN_form hrow1
                  have hbb := ext_trans HV2.out (ext_alloc V2 (.cells #[.int .u32 lit, .int .u32 x, .int .u32 rr] 55))
                  have hC2 := heap_grown (heap_below hI.out.var hbb) hgrow1 (fun e => by have := (HOWN0.out.lt RB e).1; omega)
                  have HF9 := Lib.hid (RInv.grow_lat (x := (lit, x, rr)) hI.out hRB hbb hgrow1 hrow1 (by rw [HLEN.out]) (by rw [HL.out]; rfl))
                  have EL : Hid ((upFrom latR (1 + i) c.lats).take k ++ [(lit, x, rr)] = (upFrom latR (1 + i) c.lats).take (k + 1)) := by
                    show _ = _
                    rw [upFrom_take _ _ _ _ (by rw [L1.out]; exact hlt), ← HTT.out, HRR2.out, HLT.out]
                    rfl
                  rw [EL.out] at HF9
                  have hcR : w1.cell? ⟨RB, 2, none⟩ = some (.slice va k vc) := cell_of_block hC2 2
                  have hfR : w1.frozen? ⟨RB, 2, none⟩ = false := unfrozen_of_block hC2 2
                  clear hI hrow1 hgrow1 hbb hC2 cR k0 k1 k2
                  go_wp2
                  go_roundw
                  case rel => exact ⟨k + 1, _, by omega, by go_num, HF9.out⟩
                  case measure => simp [intOf]; omega
                · have ey : ((y : Int) == 2) = false := by simp; omega
                  obtain ⟨rr, hrr⟩ : ∃ rr, rr = y := ⟨_, rfl⟩
                  have HRR2 : Hid (rr = if y = 2 then lit else y) := by show _ = _; rw [if_neg hy]; exact hrr
                  clear hy
                  go_upto_region 15 with fail
                  obtain ⟨V2, hV2⟩ : ∃ V2, V2 = V := ⟨_, rfl⟩
                  subst hV2
                  have HV2 := HVR
                  have HG3 : Hid (V2.heap[G]? = some (.cells #[.int .u32 lit, .int .u32 x, .int .u32 rr] 55 (0, 0))) := by
                    show _ = _
                    rw [hrr]
                    exact HGG.out
                  clear gy k0 k2 fk2 hrr ey HVR HGG
                  have cR : V2.cell? ⟨RB, 2, none⟩ = some (.slice va k vc) := cell_of_block (heap_below hI.out.var HV2.out) 2
                  have k0 : V2.cell? ⟨G, 0, none⟩ = some (.int .u32 lit) := cell_of_block HG3.out 0
                  have k1 : V2.cell? ⟨G, 1, none⟩ = some (.int .u32 x) := cell_of_block HG3.out 1
                  have k2 : V2.cell? ⟨G, 2, none⟩ = some (.int .u32 rr) := cell_of_block HG3.out 2
                  obtain ⟨L, hL⟩ : ∃ L, L = triCs ((upFrom latR (1 + i) c.lats).take k) := ⟨_, rfl⟩
                  have hown0 := hI.out.f2
                  unfold own3 at hown0
                  rw [← hL, HLEN.out] at hown0
                  have HL := Lib.hid hL
                  have HOA : Hid (∀ o, (V2.alloc o).ownsRow wc.heap.size 55 3 (.slice va k vc) k L) := fun o => ownsN_below hown0 (ext_trans HV2.out (ext_alloc _ _))
                  have hws := hI.out.but.size
                  have hVs := HV2.out.size
                  have HOWN0 := Lib.hid hown0
                  clear hL hown0
                  go_wp2_with (at_builtin; refine wpList_append_own_at _ rfl _ _ 36 rfl wc.heap.size 55 il (.agg #[.int .u32 0, .int .u32 0, .int .u32 0]) 3 12 Tryz.underlying36 hil hzl0 hzl1 hzl2 rfl (by omega) _ _ L rfl (HOA.out _) ⟨V2.heap.size, 0, none⟩ 1 1 [.int .u32 lit, .int .u32 x, .int .u32 rr] rfl rfl ?c1 ?c2 ?c4 ?c5 ?c6 ?_)
                  case c1 => exact World.news_of_block (heap_new V2 (.cells #[.int .u32 lit, .int .u32 x, .int .u32 rr] 55) V2.heap.size rfl)
                  case c2 => intro u hu; simp at hu; rcases hu with rfl | rfl | rfl <;> rfl
                  case c4 => unfold maxLen; omega
                  case c5 => omega
                  case c6 => simp; omega
                  intro v' w1 hrow1 hgrow1 _ _
                  obtain ⟨a', c', rfl⟩ := ownsN_form hrow1
                  have hbb := ext_trans HV2.out (ext_alloc V2 (.cells #[.int .u32 lit, .int .u32 x, .int .u32 rr] 55))
                  have hC2 := heap_grown (heap_below hI.out.var hbb) hgrow1 (fun e => by have := (HOWN0.out.lt RB e).1; omega)
                  have HF9 := Lib.hid (RInv.grow_lat (x := (lit, x, rr)) hI.out hRB hbb hgrow1 hrow1 (by rw [HLEN.out]) (by rw [HL.out]; rfl))
                  have EL : Hid ((upFrom latR (1 + i) c.lats).take k ++ [(lit, x, rr)] = (upFrom latR (1 + i) c.lats).take (k + 1)) := by
                    show _ = _
                    rw [upFrom_take _ _ _ _ (by rw [L1.out]; exact hlt), ← HTT.out, HRR2.out, HLT.out]
                    rfl
                  rw [EL.out] at HF9
                  have hcR : w1.cell? ⟨RB, 2, none⟩ = some (.slice va k vc) := cell_of_block hC2 2
                  have hfR : w1.frozen? ⟨RB, 2, none⟩ = false := unfrozen_of_block hC2 2
                  clear hI hrow1 hgrow1 hbb hC2 cR k0 k1 k2
                  go_wp2
                  go_roundw
                  case rel => exact ⟨k + 1, _, by omega, by go_num, HF9.out⟩
                  case measure => simp [intOf]; omega
            · obtain rfl : n1 = k := by omega
              obtain ⟨wp, hwp⟩ : ∃ wp : World, wp = wr := ⟨_, rfl⟩
              subst hwp
              have HI2 : Hid (RInv wc RB m v1 v2 v3 v4 v5 (.slice none 0 0) ((List.range i).map fun q => 2 * (1 + q)) (upFrom latR (1 + i) c.lats) ((upFrom gateR (1 + i + n1) c.gates).take 0) wp) := by
                have := hI.out
                rw [List.take_of_length_le (by rw [upFrom_len, L1.out]; exact Nat.le_refl _)] at this
                exact this
              have hXo := hI.out.but.at HXC.out (by omega) (by omega) (by omega)
              have p2 : wp.cell? ⟨w.heap.size, 2, none⟩ = some (.slice a2 n2 c2) := cell_of_block hXo 2
              clear hI hXo hlt hk
              go_wp2
              clear p2
              go_loopw [77] (fun j wr => ∃ (k : Nat) (v6 : Value), k ≤ n2 ∧ j = .int .i64 k ∧ Hid (RInv wc RB m v1 v2 v3 v4 v5 v6 ((List.range i).map fun q => 2 * (1 + q)) (upFrom latR (1 + i) c.lats) ((upFrom gateR (1 + i + n1) c.gates).take k) wr))
                (fun j _ => n2 - (intOf j).toNat)
              case atStart => exact ⟨0, _, Nat.zero_le _, rfl, HI2.out⟩
              case round =>
                clear HI2
                obtain ⟨k, v6, hk, rfl, hI⟩ := hrel
                by_cases hlt : k < n2
                · have hbc : Below w.heap.size w wr := HBC.out.trans (hI.out.but.low (by omega) (by omega) (by omega))
                  obtain ⟨b, off, rfl, hbw⟩ := HS.out.s2.addr (show 0 < n2 by omega)
                  obtain ⟨qx, qy⟩ := (HS.out.s2.below hbc).cells k hlt (0, 0)
                  obtain ⟨t, ht⟩ : ∃ t, t = c.gates.getD k (0, 0) := ⟨_, rfl⟩
                  rw [← ht] at qx qy
                  have HTT := Lib.hid ht
                  clear ht
                  obtain ⟨x, y⟩ := t
                  simp only [nv32] at qx qy
                  obtain ⟨va, vc, hv6⟩ := own3_form hI.out.f6
                  have hlen : ((upFrom gateR (1 + i + n1) c.gates).take k).length = k := by rw [List.length_take, upFrom_len, L2.out]; omega
                  rw [hlen] at hv6
                  subst hv6
                  have hXr := hI.out.but.at HXC.out (by omega) (by omega) (by omega)
                  have W1' : IntKind.i64.wrap ((k : Int) + 1) = (k : Int) + 1 := IntWalk.i64_in _ (by omega)
                  have W2' : IntKind.i64.wrap (1 + (i : Int) + (n1 : Int) + (k : Int)) = 1 + (i : Int) + (n1 : Int) + (k : Int) := IntWalk.i64_in _ (by omega)
                  have HXR := Lib.hid hXr
                  have HLEN := Lib.hid hlen
                  obtain ⟨L, hL⟩ : ∃ L, L = triCs ((upFrom gateR (1 + i + n1) c.gates).take k) := ⟨_, rfl⟩
                  have hown0 := hI.out.f6
                  unfold own3 at hown0
                  rw [← hL, hlen] at hown0
                  have HL := Lib.hid hL
                  have HOWN0 := Lib.hid hown0
                  have hq4 : k + 1 ≤ maxLen := by unfold maxLen; omega
                  have hq5 : (k + 1) * 12 ≤ 140737488355328 := by omega
                  have hws := hI.out.but.size
                  clear hlen hXr hbc hL hown0
                  go_wp2
                  generalize hX0 : World.alloc wr _ = X0
                  have B0 : Below wr.heap.size wr X0 := by subst hX0; exact ext_alloc _ _
                  have hg : X0.heap[wr.heap.size]? = some (.cells #[.int .u32 x, .int .u32 y] 46 (0, 0)) := by subst hX0; exact heap_new _ _ _ rfl
                  clear hX0
                  obtain ⟨lit, hlit⟩ : ∃ lit, lit = 2 * (1 + i + n1 + k) := ⟨_, rfl⟩
                  have HLIT : Hid (∀ W, Calls Tryz.prog 43 #[.int .i64 (1 + (i : Int) + (n1 : Int) + (k : Int))] W fun e w' => e = .returned (.int .u32 lit) ∧ W = w') := fun W => by
                    rw [hlit]
                    exact literal_at (1 + (i : Int) + (n1 : Int) + (k : Int)) (1 + i + n1 + k) (by omega) (by omega) W
                  have HELDB : Hid (∀ W, Below X0.heap.size X0 W → (W.cell? ⟨RB, 6, none⟩ = some (.slice va k vc) ∧ W.cell? ⟨w.heap.size, 0, none⟩ = some (.int .i64 i) ∧ W.cell? ⟨w.heap.size, 1, none⟩ = some (.slice a1 n1 c1) ∧ W.cell? ⟨w.heap.size, 2, none⟩ = some (.slice (some ⟨b, off, none⟩) n2 c2) ∧ W.cell? ⟨w.heap.size, 3, none⟩ = some (.slice a3 n3 c3) ∧ W.cell? ⟨w.heap.size, 4, none⟩ = some (.slice a4 n4 c4) ∧ W.cell? ⟨w.heap.size, 5, none⟩ = some (.slice a5 n5 c5) ∧ W.cell? ⟨wr.heap.size, 0, none⟩ = some (.int .u32 x) ∧ W.cell? ⟨wr.heap.size, 1, none⟩ = some (.int .u32 y))) := fun W hb =>
                    ⟨cell_of_block (heap_below hI.out.var (ext_trans B0 hb)) 6, cell_of_block (heap_below HXR.out (ext_trans B0 hb)) 0, cell_of_block (heap_below HXR.out (ext_trans B0 hb)) 1, cell_of_block (heap_below HXR.out (ext_trans B0 hb)) 2, cell_of_block (heap_below HXR.out (ext_trans B0 hb)) 3, cell_of_block (heap_below HXR.out (ext_trans B0 hb)) 4, cell_of_block (heap_below HXR.out (ext_trans B0 hb)) 5, cell_of_block (heap_below hg hb) 0, cell_of_block (heap_below hg hb) 1⟩
                  have HELD := Lib.hid (HELDB.out X0.drew (Below.refl _ _).drew)
                  have HLT := Lib.hid hlit
                  have HB0 := Lib.hid B0
                  clear hlit hg B0 qx qy
                  refine wp_region_noPanic ?_
                  refine wp_region_peelN 15 (by kernel_rfl) rfl (by simp only [List.getElem?_toArray, List.getElem?_cons_zero, List.getElem?_cons_succ]; rfl) (by kernel_rfl) ?_
                  simp only [List.pop_toArray, List.dropLast_cons_cons, List.dropLast_singleton]
                  refine wpAny_of_held (S := fun w' => w'.cell? ⟨RB, 6, none⟩ = some (.slice va k vc) ∧ w'.cell? ⟨w.heap.size, 0, none⟩ = some (.int .i64 i) ∧ w'.cell? ⟨w.heap.size, 1, none⟩ = some (.slice a1 n1 c1) ∧ w'.cell? ⟨w.heap.size, 2, none⟩ = some (.slice (some ⟨b, off, none⟩) n2 c2) ∧ w'.cell? ⟨w.heap.size, 3, none⟩ = some (.slice a3 n3 c3) ∧ w'.cell? ⟨w.heap.size, 4, none⟩ = some (.slice a4 n4 c4) ∧ w'.cell? ⟨w.heap.size, 5, none⟩ = some (.slice a5 n5 c5) ∧ w'.cell? ⟨wr.heap.size, 0, none⟩ = some (.int .u32 x) ∧ w'.cell? ⟨wr.heap.size, 1, none⟩ = some (.int .u32 y)) _ _ _ _ ?_
                  refine wpAnyH_take (i := 0) (v := ?_) (by simp only [List.getElem?_toArray, List.getElem?_cons_zero]; rfl) (by kernel_rfl) (by kernel_rfl) (by kernel_rfl) (fun _ _ _ h => h) (Or.inl ⟨by rfl, ?_⟩) HELD.out ?_
                  rotate_left
                  · intro w hSw
                    (try dsimp only at hSw)
                    obtain ⟨q0, q1, q2, q3, q4, q5, q6, q7, q8⟩ := hSw
                    go_simp
                    try with_reducible rfl
                  try simp only [Act.put, List.setIfInBounds_toArray, List.set_cons_zero, List.set_cons_succ]
                  refine wpAnyH_take (i := 1) (v := ?_) (by simp only [List.getElem?_toArray, List.getElem?_cons_zero, List.getElem?_cons_succ]; rfl) (by kernel_rfl) (by kernel_rfl) (by kernel_rfl) (fun _ _ _ h => h) (Or.inl ⟨by rfl, ?_⟩) HELD.out ?_
                  rotate_left
                  · intro w hSw
                    (try dsimp only at hSw)
                    obtain ⟨q0, q1, q2, q3, q4, q5, q6, q7, q8⟩ := hSw
                    go_simp
                    try with_reducible rfl
                  try simp only [Act.put, List.setIfInBounds_toArray, List.set_cons_zero, List.set_cons_succ]
                  refine wpAnyH_take (i := 2) (v := ?_) (by simp only [List.getElem?_toArray, List.getElem?_cons_zero, List.getElem?_cons_succ]; rfl) (by kernel_rfl) (by kernel_rfl) (by kernel_rfl) (fun _ _ _ h => h) (Or.inl ⟨by rfl, ?_⟩) HELD.out ?_
                  rotate_left
                  · intro w hSw
                    (try dsimp only at hSw)
                    obtain ⟨q0, q1, q2, q3, q4, q5, q6, q7, q8⟩ := hSw
                    go_simp
                    try with_reducible rfl
                  try simp only [Act.put, List.setIfInBounds_toArray, List.set_cons_zero, List.set_cons_succ]
                  refine wpAnyH_take (i := 4) (v := ?_) (by simp only [List.getElem?_toArray, List.getElem?_cons_zero, List.getElem?_cons_succ]; rfl) (by kernel_rfl) (by kernel_rfl) (by kernel_rfl) (fun _ _ _ h => h) (Or.inl ⟨by rfl, ?_⟩) HELD.out ?_
                  rotate_left
                  · intro w hSw
                    (try dsimp only at hSw)
                    obtain ⟨q0, q1, q2, q3, q4, q5, q6, q7, q8⟩ := hSw
                    go_simp
                    try with_reducible rfl
                  try simp only [Act.put, List.setIfInBounds_toArray, List.set_cons_zero, List.set_cons_succ]
                  refine wpAnyH_take (i := 7) (v := ?_) (by simp only [List.getElem?_toArray, List.getElem?_cons_zero, List.getElem?_cons_succ]; rfl) (by kernel_rfl) (by kernel_rfl) (by kernel_rfl) (fun _ _ _ h => h) (Or.inl ⟨by rfl, ?_⟩) HELD.out ?_
                  rotate_left
                  · intro w hSw
                    (try dsimp only at hSw)
                    obtain ⟨q0, q1, q2, q3, q4, q5, q6, q7, q8⟩ := hSw
                    go_simp
                    try with_reducible rfl
                  try simp only [Act.put, List.setIfInBounds_toArray, List.set_cons_zero, List.set_cons_succ]
                  refine wpAnyH_take (i := 8) (v := ?_) (by simp only [List.getElem?_toArray, List.getElem?_cons_zero, List.getElem?_cons_succ]; rfl) (by kernel_rfl) (by kernel_rfl) (by kernel_rfl) (fun _ _ _ h => h) (Or.inl ⟨by rfl, ?_⟩) HELD.out ?_
                  rotate_left
                  · intro w hSw
                    (try dsimp only at hSw)
                    obtain ⟨q0, q1, q2, q3, q4, q5, q6, q7, q8⟩ := hSw
                    go_simp
                    try with_reducible rfl
                  try simp only [Act.put, List.setIfInBounds_toArray, List.set_cons_zero, List.set_cons_succ]
                  refine wpAnyH_take (i := 9) (v := ?_) (by simp only [List.getElem?_toArray, List.getElem?_cons_zero, List.getElem?_cons_succ]; rfl) (by kernel_rfl) (by kernel_rfl) (by kernel_rfl) (fun _ _ _ h => h) (Or.inl ⟨by rfl, ?_⟩) HELD.out ?_
                  rotate_left
                  · intro w hSw
                    (try dsimp only at hSw)
                    obtain ⟨q0, q1, q2, q3, q4, q5, q6, q7, q8⟩ := hSw
                    go_simp
                    try with_reducible rfl
                  try simp only [Act.put, List.setIfInBounds_toArray, List.set_cons_zero, List.set_cons_succ]
                  refine wpAnyH_take (i := 10) (v := ?_) (by simp only [List.getElem?_toArray, List.getElem?_cons_zero, List.getElem?_cons_succ]; rfl) (by kernel_rfl) (by kernel_rfl) (by kernel_rfl) (fun _ _ _ h => h) (Or.inl ⟨by rfl, ?_⟩) HELD.out ?_
                  rotate_left
                  · intro w hSw
                    (try dsimp only at hSw)
                    obtain ⟨q0, q1, q2, q3, q4, q5, q6, q7, q8⟩ := hSw
                    go_simp
                    try with_reducible rfl
                  try simp only [Act.put, List.setIfInBounds_toArray, List.set_cons_zero, List.set_cons_succ]
                  refine wpAnyH_ready (rs := [3]) (by kernel_rfl) (by simp) ?_
                  refine AllReadyH.cons (by simp only [List.getElem?_toArray, List.getElem?_cons_zero, List.getElem?_cons_succ]; rfl) (fun K hK => ?_) AllReadyH.nil
                  go_simp
                  refine (HFG2.out _).mono ?_
                  rintro e s1 ⟨rfl, b1⟩
                  have hb1 : Below X0.heap.size X0 s1 := below_step (Below.refl X0.heap.size X0).drew b1 (Nat.le_refl _)
                  have HELD := Lib.hid (HELDB.out s1 hb1)
                  have HB1 := Lib.hid hb1
                  clear b1 hb1
                  refine hK.out _ _ HELD.out (fun _ => ?_)
                  clear hK K
                  try simp only [Act.put, List.setIfInBounds_toArray, List.set_cons_zero, List.set_cons_succ]
                  refine wpAnyH_take (i := 5) (v := ?_) (by simp only [List.getElem?_toArray, List.getElem?_cons_zero, List.getElem?_cons_succ]; rfl) (by kernel_rfl) (by kernel_rfl) (by kernel_rfl) (fun _ _ _ h => h) (Or.inl ⟨by rfl, ?_⟩) HELD.out ?_
                  rotate_left
                  · intro w hSw
                    (try dsimp only at hSw)
                    obtain ⟨q0, q1, q2, q3, q4, q5, q6, q7, q8⟩ := hSw
                    go_simp
                    try with_reducible rfl
                  try simp only [Act.put, List.setIfInBounds_toArray, List.set_cons_zero, List.set_cons_succ]
                  refine wpAnyH_ready (rs := [6]) (by kernel_rfl) (by simp) ?_
                  refine AllReadyH.cons (by simp only [List.getElem?_toArray, List.getElem?_cons_zero, List.getElem?_cons_succ]; rfl) (fun K hK => ?_) AllReadyH.nil
                  go_simp
                  refine (HLIT.out _).mono ?_
                  rintro e w1 ⟨rfl, rfl⟩
                  refine hK.out _ _ HELD.out (fun _ => ?_)
                  clear hK K
                  try simp only [Act.put, List.setIfInBounds_toArray, List.set_cons_zero, List.set_cons_succ]
                  refine wpAnyH_take (i := 11) (v := ?_) (by simp only [List.getElem?_toArray, List.getElem?_cons_zero, List.getElem?_cons_succ]; rfl) (by kernel_rfl) (by kernel_rfl) (by kernel_rfl) (fun _ _ _ h => h) (Or.inl ⟨by rfl, ?_⟩) HELD.out ?_
                  rotate_left
                  · intro w hSw
                    (try dsimp only at hSw)
                    obtain ⟨q0, q1, q2, q3, q4, q5, q6, q7, q8⟩ := hSw
                    go_simp
                    try with_reducible rfl
                  try simp only [Act.put, List.setIfInBounds_toArray, List.set_cons_zero, List.set_cons_succ]
                  refine wpAnyH_ready (rs := [12]) (by kernel_rfl) (by simp) ?_
                  refine AllReadyH.cons (by simp only [List.getElem?_toArray, List.getElem?_cons_zero, List.getElem?_cons_succ]; rfl) (fun K hK => ?_) AllReadyH.nil
                  go_simp
                  generalize hS2 : World.alloc s1 _ = s2
                  have hbs1 : Below X0.heap.size X0 s2 := by subst hS2; exact ext_trans HB1.out (ext_alloc _ _)
                  have hnews : ∀ j u, [Value.int .u32 lit, Value.int .u32 x, Value.int .u32 y][j]? = some u → s2.cell? ((⟨s1.heap.size, 0, none⟩ : Addr).add j) = some u := by
                    subst hS2; exact World.news_of_block (heap_new s1 (.cells #[.int .u32 lit, .int .u32 x, .int .u32 y] 58) s1.heap.size rfl)
                  clear hS2
                  have hbs := ext_trans HB0.out hbs1
                  have HO1 := Lib.hid (ownsN_below HOWN0.out hbs)
                  have HC1 := Lib.hid (heap_below hI.out.var hbs)
                  have HNEWS := Lib.hid hnews
                  have HBS := Lib.hid hbs
                  have hq6 : wc.heap.size ≤ s2.heap.size := Nat.le_trans hws hbs.size
                  have HELD := Lib.hid (HELDB.out s2 hbs1)
                  have HBX := Lib.hid hbs1
                  clear hbs hnews hbs1
                  refine hK.out _ _ HELD.out (fun _ => ?_)
                  clear hK K
                  try simp only [Act.put, List.setIfInBounds_toArray, List.set_cons_zero, List.set_cons_succ]
                  refine wpAnyH_ready (rs := [13]) (by kernel_rfl) (by simp) ?_
                  refine AllReadyH.cons (by simp only [List.getElem?_toArray, List.getElem?_cons_zero, List.getElem?_cons_succ]; rfl) (fun K hK => ?_) AllReadyH.nil
                  refine step_append_own_at rfl _ _ 37 rfl wc.heap.size 58 ig (.agg #[.int .u32 0, .int .u32 0, .int .u32 0]) 3 12 Tryz.underlying37 hig hzg0 hzg1 hzg2 rfl (by omega) _ _ L rfl HO1.out _ 1 1 [.int .u32 lit, .int .u32 x, .int .u32 y] rfl rfl HNEWS.out (by intro u hu; simp at hu; rcases hu with rfl | rfl | rfl <;> rfl) hq4 hq5 hq6 ?_
                  intro v2' w2 r2 hg2
                  obtain ⟨a2', c2', rfl⟩ := ownsN_form r2
                  have hC2 := heap_grown HC1.out hg2 (fun e => by have := (HO1.out.lt RB e).1; omega)
                  have hXw := heap_grown (heap_below HXR.out HBS.out) hg2 (fun e => by have := (HO1.out.lt _ e).1; omega)
                  have hc2 : w2.cell? ⟨RB, 6, none⟩ = some (.slice va k vc) := cell_of_block hC2 6
                  have hf2 : w2.frozen? ⟨RB, 6, none⟩ = false := unfrozen_of_block hC2 6
                  have hTw : w2.cell? ⟨wr.heap.size, 0, none⟩ = some (.int .u32 x) ∧ w2.cell? ⟨wr.heap.size, 1, none⟩ = some (.int .u32 y) := tenAt HOWN0.out hg2 HELD.out.2.2.2.2.2.2.2.1 HELD.out.2.2.2.2.2.2.2.2
                  have HELD : Hid (w2.cell? ⟨RB, 6, none⟩ = some (.slice va k vc) ∧ w2.cell? ⟨w.heap.size, 0, none⟩ = some (.int .i64 i) ∧ w2.cell? ⟨w.heap.size, 1, none⟩ = some (.slice a1 n1 c1) ∧ w2.cell? ⟨w.heap.size, 2, none⟩ = some (.slice (some ⟨b, off, none⟩) n2 c2) ∧ w2.cell? ⟨w.heap.size, 3, none⟩ = some (.slice a3 n3 c3) ∧ w2.cell? ⟨w.heap.size, 4, none⟩ = some (.slice a4 n4 c4) ∧ w2.cell? ⟨w.heap.size, 5, none⟩ = some (.slice a5 n5 c5) ∧ w2.cell? ⟨wr.heap.size, 0, none⟩ = some (.int .u32 x) ∧ w2.cell? ⟨wr.heap.size, 1, none⟩ = some (.int .u32 y)) := ⟨hc2, cell_of_block hXw 0, cell_of_block hXw 1, cell_of_block hXw 2, cell_of_block hXw 3, cell_of_block hXw 4, cell_of_block hXw 5, hTw.1, hTw.2⟩
                  have HG2 := Lib.hid hg2
                  have R2 := Lib.hid r2
                  clear hg2 r2 hC2 hXw hTw
                  refine hK.out _ _ HELD.out (fun _ => ?_)
                  clear hK K
                  try simp only [Act.put, List.setIfInBounds_toArray, List.set_cons_zero, List.set_cons_succ]
                  refine wpAnyH_take (i := 14) (v := ?_) (by simp only [List.getElem?_toArray, List.getElem?_cons_zero, List.getElem?_cons_succ]; rfl) (by kernel_rfl) (by kernel_rfl) (by kernel_rfl) (fun _ _ _ h => h) (Or.inl ⟨by rfl, ?_⟩) HELD.out ?_
                  rotate_left
                  · intro w hSw
                    (try dsimp only at hSw)
                    obtain ⟨q0, q1, q2, q3, q4, q5, q6, q7, q8⟩ := hSw
                    go_simp
                    try with_reducible rfl
                  try simp only [Act.put, List.setIfInBounds_toArray, List.set_cons_zero, List.set_cons_succ]
                  refine wpAnyH_done (by kernel_rfl) ?_ _
                  unfold LastQ wpOp
                  simp only [List.getElem?_toArray, List.getElem?_cons_zero, List.getElem?_cons_succ]
                  rw [if_pos (by rfl)]
                  refine Or.inl ?_
                  go_simp
                  refine NoPanic.normal ?_
                  have HF9 := Lib.hid (RInv.grow_gate (x := (lit, x, y)) hI.out hRB HBS.out HG2.out R2.out (by rw [HLEN.out]) (by rw [HL.out]; rfl))
                  have EL : Hid ((upFrom gateR (1 + i + n1) c.gates).take k ++ [(lit, x, y)] = (upFrom gateR (1 + i + n1) c.gates).take (k + 1)) := by
                    show _ = _
                    rw [upFrom_take _ _ _ _ (by rw [L2.out]; exact hlt), ← HTT.out, HLT.out]
                    rfl
                  rw [EL.out] at HF9
                  clear hI
                  go_wp2
                  go_roundw
                  case rel => exact ⟨k + 1, _, by omega, by go_num, HF9.out⟩
                  case measure => simp [intOf]; omega
                · obtain rfl : n2 = k := by omega
                  have hI' := hI.out
                  rw [List.take_of_length_le (by rw [upFrom_len, L2.out]; exact Nat.le_refl _)] at hI'
                  obtain ⟨e1, d1, hv1⟩ := ownsN_form hI'.f1
                  obtain ⟨e2, d2, hv2⟩ := own3_form hI'.f2
                  obtain ⟨e6, d6, hv6⟩ := own3_form hI'.f6
                  rw [List.length_map, List.length_range] at hv1
                  rw [upFrom_len, L1.out] at hv2
                  rw [upFrom_len, L2.out] at hv6
                  subst hv1
                  subst hv2
                  subst hv6
                  have hR3 := rowAt HR3.out hI'.but HVAR.out (by decide)
                  have hR4 := rowAt HR4.out hI'.but HVAR.out (by decide)
                  have hR5 := rowAt HR5.out hI'.but HVAR.out (by decide)
                  obtain ⟨e3, d3, hv3⟩ := hR3.form
                  obtain ⟨e4, d4, hv4⟩ := hR4.form
                  obtain ⟨e5, d5, hv5⟩ := hR5.form
                  subst hv3
                  subst hv4
                  subst hv5
                  have hrs : rawS c = ⟨m, (List.range i).map fun q => 2 * (1 + q), upFrom latR (1 + i) c.lats, c.outs, c.bads, c.cons, upFrom gateR (1 + i + n1) c.gates⟩ := by
                    unfold rawS
                    rw [HM.out, ← HZI.out, L1.out]
                    simp
                  have hzr := hI'.but.at HRC.out (by omega) (by omega) (by omega)
                  have hbl : Below w.heap.size w wr := HBC.out.trans (hI'.but.low (by omega) (by omega) (by omega))
                  have hXo := hI'.but.at HXC.out (by omega) (by omega) (by omega)
                  have t0 : wr.cell? ⟨RB, 0, none⟩ = some (.int .u32 m) := cell_of_block hI'.var 0
                  have t1 : wr.cell? ⟨RB, 1, none⟩ = some (.slice e1 i d1) := cell_of_block hI'.var 1
                  have t2 : wr.cell? ⟨RB, 2, none⟩ = some (.slice e2 n1 d2) := cell_of_block hI'.var 2
                  have t3 : wr.cell? ⟨RB, 3, none⟩ = some (.slice e3 n3 d3) := cell_of_block hI'.var 3
                  have t4 : wr.cell? ⟨RB, 4, none⟩ = some (.slice e4 n4 d4) := cell_of_block hI'.var 4
                  have t5 : wr.cell? ⟨RB, 5, none⟩ = some (.slice e5 n5 d5) := cell_of_block hI'.var 5
                  have t6 : wr.cell? ⟨RB, 6, none⟩ = some (.slice e6 n2 d6) := cell_of_block hI'.var 6
                  have z0 := cell_of_block hzr 0
                  have z1 := cell_of_block hzr 1
                  have z2 := cell_of_block hzr 2
                  have z3 := cell_of_block hzr 3
                  have z4 := cell_of_block hzr 4
                  have z5 := cell_of_block hzr 5
                  have z6 := cell_of_block hzr 6
                  have y0 := unfrozen_of_block hzr 0
                  have y1 := unfrozen_of_block hzr 1
                  have y2 := unfrozen_of_block hzr 2
                  have y3 := unfrozen_of_block hzr 3
                  have y4 := unfrozen_of_block hzr 4
                  have y5 := unfrozen_of_block hzr 5
                  have y6 := unfrozen_of_block hzr 6
                  have HI9 := Lib.hid hI'
                  have HZR := Lib.hid hzr
                  have HBL := Lib.hid hbl
                  have HRS := Lib.hid hrs
                  have R3 := Lib.hid hR3
                  have R4 := Lib.hid hR4
                  have R5 := Lib.hid hR5
                  have hwcs := hI'.but.size
                  clear hI hI' hzr hbl hXo hrs hR3 hR4 hR5 hlt hk
                  go_wp2
                  refine bodyPost_ret (v := .tuple #[rawV m ⟨e1, i, d1, e2, n1, d2, e3, n3, d3, e4, n4, d4, e5, n5, d5, e6, n2, d6⟩, .int .i64 0]) ?_ rfl ?_
                  · have h6 := raw_set HZR.out rfl (.int .u32 m) (.slice e1 i d1) (.slice e2 n1 d2) (.slice e3 n3 d3) (.slice e4 n4 d4) (.slice e5 n5 d5) (.slice e6 n2 d6)
                    have g0 := cell_of_block h6 0
                    have g1 := cell_of_block h6 1
                    have g2 := cell_of_block h6 2
                    have g3 := cell_of_block h6 3
                    have g4 := cell_of_block h6 4
                    have g5 := cell_of_block h6 5
                    have g6 := cell_of_block h6 6
                    simp [results, Tryz.results16, go_sem, g0, g1, g2, g3, g4, g5, g6]
                    rfl
                  · have q3 := rowb_set7 (B := w.heap.size) R3.out hltR (by omega) (u0 := .int .u32 m) (u1 := .slice e1 i d1) (u2 := .slice e2 n1 d2) (u3 := .slice e3 n3 d3) (u4 := .slice e4 n4 d4) (u5 := .slice e5 n5 d5) (u6 := .slice e6 n2 d6)
                    have q4 := rowb_set7 (B := w.heap.size) R4.out hltR (by omega) (u0 := .int .u32 m) (u1 := .slice e1 i d1) (u2 := .slice e2 n1 d2) (u3 := .slice e3 n3 d3) (u4 := .slice e4 n4 d4) (u5 := .slice e5 n5 d5) (u6 := .slice e6 n2 d6)
                    have q5 := rowb_set7 (B := w.heap.size) R5.out hltR (by omega) (u0 := .int .u32 m) (u1 := .slice e1 i d1) (u2 := .slice e2 n1 d2) (u3 := .slice e3 n3 d3) (u4 := .slice e4 n4 d4) (u5 := .slice e5 n5 d5) (u6 := .slice e6 n2 d6)
                    refine ⟨set7 (w.heap.size + 1) (Nat.le_succ _) HBL.out, Or.inl ⟨HQ.out.symm, _, by rw [HM.out], ?_, by rw [L3.out]; exact q3, by rw [L4.out]; exact q4⟩⟩
                    rw [HRS.out]
                    exact ⟨owns1_sees (owns_set7 HI9.out.f1 hwc), own3_sees_slice (owns_set7 HI9.out.f2 hwc), (row_sees_slice q3).2, (row_sees_slice q4).2, (row_sees_slice q5).2, own3_sees_slice (owns_set7 HI9.out.f6 hwc)⟩
end Go.Proofs.YtglhnmbfkbjemaaGreatDoor
