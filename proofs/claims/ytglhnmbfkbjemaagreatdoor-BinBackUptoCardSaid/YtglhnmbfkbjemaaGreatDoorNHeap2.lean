/- The queue's own Push and Pop, and the library's. -/
import Derived.Test.YtglhnmbfkbjemaaGreatDoorNHeap
namespace Go.Proofs.YtglhnmbfkbjemaaGreatDoor
open Go Go.RowKit Go.Joins
theorem info_int : (Tryz.prog.info? 3).map (fun i => (i.zero, i.size, i.bytes)) = some (some (.int .i64 0), 1, 8) := by kernel_rfl
theorem size_int : ∀ w, (sizeOf 3).run Tryz.prog w = .ok 1 w := fun w => by
  obtain ⟨i0, hi, hz0, hz1, hz2⟩ := info_parts info_int
  simp [sizeOf, typeInfo, hi, hz1]
theorem sees_new1 (w : World) (e : TypeId) (u : Value) : Sees (w.alloc (.cells #[u] e)) (some ⟨w.heap.size, 0, none⟩) 1 1 [u] := sees_lit w e (0, 0) #[u] [u] 1 rfl rfl
theorem Row.take {ok : Value → Prop} {w : World} {base : Nat} {e : TypeId} {g n cap : Nat} {xs : List Value} (h : Row ok w base e (.slice (some ⟨g, 0, .none⟩) n cap) n xs) (m : Nat) (hm : m ≤ n) :
    Row ok w base e (.slice (some ⟨g, 0, .none⟩) m cap) m (xs.take m) := by
  have hl := h.1
  refine ⟨by simp; omega, ?_⟩
  rcases h.2 with ⟨h1, _⟩ | ⟨g', cap', cur, he, hb, hg, hn, hc, hs, ht, ha⟩
  · cases h1
  · cases he
    exact .inr ⟨g, cap, cur, rfl, hb, hg, by omega, hc, hs, by rw [← ht, List.take_take, Nat.min_eq_left hm], ha⟩
theorem sliced_upto (g m c : Nat) : sliced (some ⟨g, 0, .none⟩) 0 m c 1 = .slice (some ⟨g, 0, .none⟩) m c := by
  simp [sliced, Addr.add]
theorem push_end {w w1 w2 : World} {q : Nat} {v v2 : Value} {l l2 : List Nat} {n2 : Nat} {xs2 : List Value} (hv : QV w q v l) (hb : Below w.heap.size w w1) (hg : w1.grownBy w2 v.ownBlock) (r2 : Row isI64 w2 (q + 1) 3 v2 n2 xs2) (hn : n2 = l2.length) (hx : xs2 = l2.map iv) :
    QV (w2.setCell ⟨q, 0, .none⟩ v2) q v2 l2 ∧ QKeep q w (w2.setCell ⟨q, 0, .none⟩ v2) := by
  subst hn; subst hx
  have r1 := hv.row.below hb
  have h1 := heap_below hv.var hb
  have h2 := heap_grown h1 hg (r1.not_own h1 (by decide))
  refine ⟨⟨block_setCell h2 (i := 0) v2, r2.other fun k hk => Below.heap_setCell w2 ⟨q, 0, .none⟩ v2 k (fun e => (r2.not_own h2 (by decide)) (by rw [hk, e]))⟩, ⟨?_, ?_⟩⟩
  · refine Below.setCell ?_ (Nat.le_refl q) v2
    exact ((hb.mono (Nat.le_of_lt hv.lt)).grown hg (Nat.le_trans (Nat.le_of_lt hv.lt) hb.size) (fun k hk => by have := (r1.own.lt k hk).1; omega))
  · intro D C t fr hD hq ht
    have d1 := heap_below hD hb
    have d2 := heap_grown d1 hg (r1.not_own d1 ht)
    exact (Below.heap_setCell w2 ⟨q, 0, .none⟩ v2 D hq).trans d2
set_option maxRecDepth 100000 in
set_option maxHeartbeats 800000 in
theorem rpush_q (q x : Nat) (v : Value) (l : List Nat) (w : World) (h : QV w q v l) (hn : l.length ≤ 1000000000) :
    Calls Tryz.prog 152 #[.pointer (some ⟨q, 0, .none⟩), .iface 3 (.int .i64 x)] w fun e w' => e = .returned (.tuple #[]) ∧ ∃ v', QV w' q v' (l ++ [x]) ∧ QKeep q w w' := by
  obtain ⟨i0, hi, hz0, hz1, hz2⟩ := info_parts info_int
  have hc := h.cell
  have hf := unfrozen_of_block h.var 0
  obtain ⟨a, c, rfl⟩ := h.row.form
  have H := Lib.hid h
  clear h
  have hq4 : l.length + 1 ≤ maxLen := by unfold maxLen; omega
  have hq5 : (l.length + 1) * 8 ≤ 140737488355328 := by omega
  obtain ⟨W1, hW1⟩ : ∃ W1, W1 = (w.alloc (.cells #[.int .i64 x] 3)).drew := ⟨_, rfl⟩
  have hb : Below w.heap.size w W1 := by rw [hW1]; exact (((Below.refl _ w)).alloc (Nat.le_refl _) _).drew
  have hq6 : q + 1 ≤ W1.heap.size := Nat.le_trans H.out.lt hb.size
  have HR := Lib.hid (H.out.row.below hb)
  have HS : Hid (Sees W1 (some ⟨w.heap.size, 0, none⟩) 1 1 [.int .i64 x]) := by
    rw [hW1]
    exact (sees_new1 w 3 (.int .i64 x)).below ((Below.refl _ _).drew)
  have HB := Lib.hid hb
  clear hb
  have HW := Lib.hid hW1
  rw [hW1] at HR HS hq6
  clear hW1
  have hcA : (w.alloc (.cells #[.int .i64 x] 3)).cell? ⟨q, 0, none⟩ = some (.slice a l.length c) := (((Below.refl w.heap.size w).alloc (Nat.le_refl _) _).cell (p := ⟨q, 0, none⟩) H.out.lt).trans hc
  have ta : ∀ W, (Instr.typeAssert (.iface 3 (.int .i64 x)) 20 3 false).run Tryz.prog W = .ok (.int .i64 x) W := fun _ => by kernel_rfl
  go_enter Tryz.func152, Tryz.ntmps152
  go_region_law (refine step_append_row isI64 _ rfl _ _ 149 rfl (q + 1) 3 i0 (.int .i64 0) 8 Tryz.underlying149 hi hz0 hz1 hz2 rfl ⟨0, rfl⟩ _ _ _ (by simp [Act.eval]) HR.out _ _ _ _ (by simp [Act.eval]) HS.out (by intro u hu; simp at hu; subst hu; rfl) (by intro u hu; simp at hu; subst hu; exact ⟨x, rfl⟩) hq4 hq5 hq6 ?_; intro v2 w2 r2 hg2; obtain ⟨a2, c2, rfl⟩ := r2.form; have hg3 : W1.grownBy w2 (Value.slice a l.length c).ownBlock := (by rw [HW.out]; exact hg2); have h1 := heap_below H.out.var HB.out; have hh2 := heap_grown h1 hg3 ((H.out.row.below HB.out).not_own h1 (by decide)); have hc2 : w2.cell? ⟨q, 0, none⟩ = some (.slice a l.length c) := cell_of_block hh2 0; have hf2 : w2.frozen? ⟨q, 0, none⟩ = false := unfrozen_of_block hh2 0; have HG2 := Lib.hid hg3; have R2 := Lib.hid r2; clear hg2 hg3 r2 hh2 h1)
  all_goals go_wp2
  all_goals go_end0
  all_goals exact ⟨rfl, _, push_end (l2 := l ++ [x]) H.out HB.out HG2.out R2.out (by simp) (by simp [iv])⟩
set_option maxRecDepth 100000 in
set_option maxHeartbeats 800000 in
theorem rpop_q (q m : Nat) (v : Value) (l : List Nat) (w : World) (h : QV w q v l) (hl : l.length = m + 1) (hn : m ≤ 1000000000) :
    Calls Tryz.prog 151 #[.pointer (some ⟨q, 0, .none⟩)] w fun e w' => e = .returned (.iface 3 (.int .i64 (l.getD m 0 : Nat))) ∧ ∃ v', QV w' q v' (l.take m) ∧ QKeep q w w' := by
  have hc := h.cell
  have hf := unfrozen_of_block h.var 0
  obtain ⟨g, cap, rfl, hcap⟩ := h.row.addr (by omega)
  obtain ⟨a, c, e, _, hs⟩ := h.row.sees
  cases e
  have hx := hs.int m (by omega)
  rw [Nat.zero_add] at hx
  rw [hl] at hc hcap
  obtain ⟨x, hxx⟩ : ∃ x, x = l.getD m 0 := ⟨_, rfl⟩
  rw [← hxx] at hx ⊢
  have H := Lib.hid h
  have HL := Lib.hid hl
  clear h hl hs hxx
  have W1 : IntKind.i64.wrap ((m + 1 : Nat) - 1 : Int) = (m : Int) := (IntWalk.i64_in _ (by omega)).trans (by omega)
  have W1' : ((m + 1 : Nat) : Int) - 1 = (m : Int) := by omega
  have sl := fun W => (run_upto (P := Tryz.prog) Tryz.underlying149 size_int W (some ⟨g, 0, none⟩) (m + 1) cap m m rfl (by omega)).trans (congrArg (fun v => Result.ok v W) (sliced_upto g m cap))
  go_enter Tryz.func151, Tryz.ntmps151
  go_wp2
  go_ret
  refine ⟨rfl, _, push_end (l2 := l.take m) H.out (Below.refl _ _) ⟨rfl, rfl, rfl, Nat.le_refl _, fun _ _ _ => rfl⟩ (H.out.row.take m (by have := HL.out; omega)) (by have := HL.out; simp; omega) (by rw [List.map_take])⟩
set_option maxRecDepth 100000 in
theorem hpush_q (q x : Nat) (l : List Nat) (w : World) (h : QP w q l) (hh : HeapN l l.length) (hn : l.length ≤ 1000000) :
    Calls Tryz.prog 101 #[qI q, .iface 3 (.int .i64 x)] w fun e w' => e = .returned (.tuple #[]) ∧ ∃ l', QP w' q l' ∧ HeapN l' l'.length ∧ l'.Perm (x :: l) ∧ QKeep q w w' := by
  obtain ⟨v, h1, h2⟩ := h
  have h : QV w q v l := ⟨h1, h2⟩
  have H := Lib.hid h
  have HH := Lib.hid hh
  clear h h1 h2 hh
  have m1 := fun n => meth_push n q w
  unfold qI
  go_enter Tryz.func101, Tryz.ntmps101
  go_wp2_with fail
  refine (rpush_q q x v l w H.out (by omega)).mono ?_
  rintro e w1 ⟨rfl, v1, hv1, hk1⟩
  have HV1 := Lib.hid hv1
  have HK1 := Lib.hid hk1
  have hc1 := hv1.cell
  obtain ⟨a1, c1, rfl⟩ := hv1.row.form
  have m2 := fun n => meth_len n q w1 _ hc1
  clear hv1 hk1 m1
  have el : (l ++ [x]).length = l.length + 1 := by simp
  have W1 : IntKind.i64.wrap ((l.length : Int) + 1 - 1) = (l.length : Int) := (IntWalk.i64_in _ (by omega)).trans (by omega)
  go_wp2_with fail
  refine (rlen_any a1 _ c1 w1).mono ?_
  rintro e w2 ⟨rfl, rfl⟩
  clear m2
  go_wp2_with fail
  refine (up_q q (l.length + 1) l.length _ (l ++ [x]) w1 HV1.out el (by omega) (by omega) (up_begin HH.out rfl)).mono ?_
  rintro e w2 ⟨rfl, l', hv2, hp, hh2, hk2⟩
  have HV2 := Lib.hid hv2
  have HK2 := Lib.hid (HK1.out.trans hk2)
  have HP := Lib.hid hp
  have HH2 := Lib.hid hh2
  clear hv2 hp hh2 hk2
  go_wp2
  go_end0
  have e3 : l'.length = l.length + 1 := by rw [HP.out.length_eq]; exact el
  exact ⟨rfl, l', ⟨_, HV2.out.var, HV2.out.row⟩, by rw [e3]; exact HH2.out, HP.out.trans (List.perm_append_comm (l₁ := l) (l₂ := [x])), HK2.out⟩
set_option maxRecDepth 100000 in
set_option maxHeartbeats 800000 in
theorem hpop_q (q m : Nat) (l : List Nat) (w : World) (h : QP w q l) (hh : HeapN l l.length) (hl : l.length = m + 1) (hn : m ≤ 1000000) :
    Calls Tryz.prog 103 #[qI q] w fun e w' => e = .returned (.iface 3 (.int .i64 (l.getD 0 0 : Nat))) ∧ ∃ l', QP w' q l' ∧ HeapN l' l'.length ∧ l.Perm (l.getD 0 0 :: l') ∧ QKeep q w w' := by
  obtain ⟨x, hx⟩ : ∃ x, x = l.getD 0 0 := ⟨_, rfl⟩
  rw [← hx]
  have HX := Lib.hid hx
  clear hx
  obtain ⟨v, h1, h2⟩ := h
  have h : QV w q v l := ⟨h1, h2⟩
  have hc := h.cell
  obtain ⟨a, c, rfl⟩ := h.row.form
  have H := Lib.hid h
  rw [hl] at hh
  have HH := Lib.hid hh
  have HL := Lib.hid hl
  have m1 := fun n => meth_len n q w _ hc
  clear h h1 h2 hh
  unfold qI
  have W1 : IntKind.i64.wrap ((m : Int) + 1 - 1) = (m : Int) := (IntWalk.i64_in _ (by omega)).trans (by omega)
  rw [hl] at m1 hc
  go_enter Tryz.func103, Tryz.ntmps103
  go_wp2_with fail
  refine (rlen_any a _ c w).mono ?_
  rintro e w2 ⟨rfl, rfl⟩
  have m2 := fun n => meth_swap n q w _ hc
  clear m1
  go_wp2_with fail
  rw [← hl]
  refine (swap_q H.out 0 m (by omega) (by omega)).mono ?_
  rintro e w2 ⟨rfl, hv2, hk2⟩
  have HV2 := Lib.hid hv2
  have HK2 := Lib.hid hk2
  clear hv2 hk2 m2
  go_wp2_with fail
  refine (down_q q m _ (swapL l 0 m) w2 HV2.out (by rw [swapL_len]; omega) (by rw [swapL_len]; omega) (down_begin HH.out HL.out)).mono ?_
  rintro e w3 ⟨b3, rfl, l3, hv3, hp3, hl3, hs3, hh3, hk3⟩
  have HV3 := Lib.hid hv3
  have HK3 := Lib.hid (HK2.out.trans hk3)
  have HP3 := Lib.hid (hp3.trans (swapL_perm l 0 m (by omega) (by omega)))
  have HH3 := Lib.hid hh3
  have el : l3.length = m + 1 := by rw [hl3, swapL_len]; exact hl
  have ex : l3.getD m 0 = x := by
    rw [HX.out, hs3 m (Nat.le_refl _), swapL_get _ _ _ _ (by omega) (by omega), if_pos rfl]
  have EL := Lib.hid el
  have EX := Lib.hid ex
  have m3 := fun n => meth_pop n q w3
  clear hv3 hk3 hp3 hl3 hs3 hh3 el ex
  go_wp2_with fail
  refine (rpop_q q m _ l3 w3 HV3.out EL.out (by omega)).mono ?_
  rw [EX.out]
  rintro e w4 ⟨rfl, v4, hv4, hk4⟩
  have HV4 := Lib.hid hv4
  have HK4 := Lib.hid (HK3.out.trans hk4)
  clear hv4 hk4 m3
  go_wp2
  go_ret
  have e5 : (l3.take m).length = m := by have := EL.out; simp; omega
  refine ⟨rfl, l3.take m, ⟨_, HV4.out.var, HV4.out.row⟩, by rw [e5]; exact heap_take HH3.out, ?_, HK4.out⟩
  rw [← EX.out]
  exact heap_last EL.out HP3.out
end Go.Proofs.YtglhnmbfkbjemaaGreatDoor
