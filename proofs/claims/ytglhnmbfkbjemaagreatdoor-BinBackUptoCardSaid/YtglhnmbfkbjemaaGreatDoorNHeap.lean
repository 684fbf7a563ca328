/- container/heap at package norm's queue, by contracts. -/
import Derived.Test.YtglhnmbfkbjemaaGreatDoorBkA
namespace Go.Proofs.YtglhnmbfkbjemaaGreatDoor
open Go Go.RowKit Go.Joins
def QP (w : World) (q : Nat) (l : List Nat) : Prop := ∃ v, w.heap[q]? = some (.cells #[v] 149 (0, 0)) ∧ Row isI64 w (q + 1) 3 v l.length (l.map iv)
structure QKeep (q : Nat) (w w' : World) : Prop where
  low : Below q w w'
  oth : ∀ D C t fr, w.heap[D]? = some (.cells C t fr) → D ≠ q → t ≠ 3 → w'.heap[D]? = some (.cells C t fr)
theorem QKeep.refl (q : Nat) (w : World) : QKeep q w w := ⟨Below.refl _ _, fun _ _ _ _ h _ _ => h⟩
theorem QKeep.trans {q : Nat} {a b c : World} (h : QKeep q a b) (k : QKeep q b c) : QKeep q a c := ⟨h.low.trans k.low, fun D C t fr hD h1 h2 => k.oth D C t fr (h.oth D C t fr hD h1 h2) h1 h2⟩
def qI (q : Nat) : Value := .iface 151 (.pointer (some ⟨q, 0, .none⟩))
section
variable (n q : Nat) (w : World)
set_option maxRecDepth 100000 in
theorem meth_push : (method (n + 1) 151 (.pointer (some ⟨q, 0, .none⟩)) "Push").run Tryz.prog w = .ok (152, .pointer (some ⟨q, 0, .none⟩)) w := by kernel_rfl
set_option maxRecDepth 100000 in
theorem meth_pop : (method (n + 1) 151 (.pointer (some ⟨q, 0, .none⟩)) "Pop").run Tryz.prog w = .ok (151, .pointer (some ⟨q, 0, .none⟩)) w := by kernel_rfl
variable (v : Value) (h : w.cell? ⟨q, 0, .none⟩ = some v)
include h
theorem load_k {α : Type} (k : Value → Sem α) : (Sem.load .plain ⟨q, 0, .none⟩ k).run Tryz.prog w = (k v).run Tryz.prog w := by
  simp only [Sem.run, h]
set_option maxRecDepth 100000 in
theorem meth_len : (method (n + 1) 151 (.pointer (some ⟨q, 0, .none⟩)) "Len").run Tryz.prog w = .ok (102, v) w := by
  refine Eq.trans (?_ : _ = (Sem.load .plain ⟨q, 0, .none⟩ (fun r => Sem.pure (102, r))).run Tryz.prog w) (load_k q w v h _)
  kernel_rfl
set_option maxRecDepth 100000 in
theorem meth_less : (method (n + 1) 151 (.pointer (some ⟨q, 0, .none⟩)) "Less").run Tryz.prog w = .ok (149, v) w := by
  refine Eq.trans (?_ : _ = (Sem.load .plain ⟨q, 0, .none⟩ (fun r => Sem.pure (149, r))).run Tryz.prog w) (load_k q w v h _)
  kernel_rfl
set_option maxRecDepth 100000 in
theorem meth_swap : (method (n + 1) 151 (.pointer (some ⟨q, 0, .none⟩)) "Swap").run Tryz.prog w = .ok (150, v) w := by
  refine Eq.trans (?_ : _ = (Sem.load .plain ⟨q, 0, .none⟩ (fun r => Sem.pure (150, r))).run Tryz.prog w) (load_k q w v h _)
  kernel_rfl
end
theorem QP.drewN {w : World} {q : Nat} {l : List Nat} (h : QP w q l) (n : Nat) : QP (w.drewN n) q l := by
  obtain ⟨v, h1, h2⟩ := h
  exact ⟨v, h1, h2.below (ext_drewN w n)⟩
theorem QKeep.drewN (q : Nat) (w : World) (n : Nat) (hq : q < w.heap.size) : QKeep q w (w.drewN n) := ⟨(ext_drewN w n).mono (Nat.le_of_lt hq), fun _ _ _ _ hD _ _ => hD⟩
theorem QP.lt {w : World} {q : Nat} {l : List Nat} (h : QP w q l) : q < w.heap.size := by
  obtain ⟨v, h1, h2⟩ := h
  exact heap_lt h1
theorem Sees.int {w : World} {b off n c : Nat} {xs : List Nat} (h : Sees w (some ⟨b, off, .none⟩) n c (xs.map iv)) (j : Nat) (hj : j < n) : w.cell? ⟨b, off + j, .none⟩ = some (.int .i64 (xs.getD j 0 : Nat)) := by
  have hl : xs.length = n := by have := h.len; simpa using this
  rw [(h.cell j hj).2]
  simp [iv, List.getD, List.getElem?_eq_getElem (show j < xs.length by omega)]
theorem rlen_any (a : Option Addr) (n c : Nat) (w : World) : Calls Tryz.prog 102 #[.slice a n c] w fun e w' => e = .returned (.int .i64 n) ∧ w = w' := by
  go_enter Tryz.func102, Tryz.ntmps102
  go_wp2
  go_ret
  exact ⟨rfl, rfl⟩
set_option maxRecDepth 100000 in
theorem rless_any (a : Option Addr) (n c i j : Nat) (l : List Nat) (w : World) (h : Sees w a n c (l.map iv)) (hi : i < n) (hj : j < n) :
    Calls Tryz.prog 149 #[.slice a n c, .int .i64 i, .int .i64 j] w fun e w' => e = .returned (.bool (decide (l.getD i 0 < l.getD j 0))) ∧ ∃ q, w' = w.drewN q := by
  obtain ⟨b, off, rfl, hb⟩ := h.addr (by omega)
  have hx := h.int i hi
  have hy := h.int j hj
  obtain ⟨x, hxx⟩ : ∃ x, x = l.getD i 0 := ⟨_, rfl⟩
  obtain ⟨y, hyy⟩ : ∃ y, y = l.getD j 0 := ⟨_, rfl⟩
  rw [← hxx] at hx
  rw [← hyy] at hy
  rw [← hxx, ← hyy]
  clear h hxx hyy hb
  go_enter Tryz.func149, Tryz.ntmps149
  go_wp2
  go_quiet (fail)
  go_wp2
  go_ret
  refine ⟨?_, _, rfl⟩
  simp
set_option maxRecDepth 100000 in
theorem rswap_any (g n c i j : Nat) (l : List Nat) (w : World) (h : Sees w (some ⟨g, 0, .none⟩) n c (l.map iv)) (hf : ∀ k, w.frozen? ⟨g, k, .none⟩ = false) (hi : i < n) (hj : j < n) :
    Calls Tryz.prog 150 #[.slice (some ⟨g, 0, .none⟩) n c, .int .i64 i, .int .i64 j] w fun e w' => e = .returned (.tuple #[]) ∧ ∃ q, w' = ((w.setCell ⟨g, i, .none⟩ (iv (l.getD j 0))).setCell ⟨g, j, .none⟩ (iv (l.getD i 0))).drewN q := by
  have hx := h.int i hi
  have hy := h.int j hj
  obtain ⟨x, hxx⟩ : ∃ x, x = l.getD i 0 := ⟨_, rfl⟩
  obtain ⟨y, hyy⟩ : ∃ y, y = l.getD j 0 := ⟨_, rfl⟩
  rw [← hxx] at hx
  rw [← hyy] at hy
  rw [← hxx, ← hyy]
  rw [Nat.zero_add] at hx hy
  have fi := hf i
  have fj := hf j
  obtain ⟨z, hz⟩ : ∃ z, (w.setCell ⟨g, i, .none⟩ (.int .i64 y)).cell? ⟨g, j, .none⟩ = some z := by
    by_cases e : i = j
    · subst e; exact ⟨_, World.cell?_setCell_same' w _ _ (by rw [hx]; rfl)⟩
    · exact ⟨_, (World.cell?_setCell_other w _ _ _ (fun h => e (by cases h; rfl))).trans hy⟩
  clear h hxx hyy hf
  go_enter Tryz.func150, Tryz.ntmps150
  go_region
  all_goals go_wp2
  all_goals go_end0
  all_goals exact ⟨rfl, 1, rfl⟩
theorem Row.set {ok : Value → Prop} {w : World} {base : Nat} {e : TypeId} {g n cap : Nat} {xs : List Value} (h : Row ok w base e (.slice (some ⟨g, 0, .none⟩) n cap) n xs) (i : Nat) (u : Value) (hu : ok u) :
    Row ok (w.setCell ⟨g, i, .none⟩ u) base e (.slice (some ⟨g, 0, .none⟩) n cap) n (xs.set i u) := by
  refine ⟨by simpa using h.1, ?_⟩
  rcases h.2 with ⟨h1, _⟩ | ⟨g', cap', cur, he, hb, hg, hn, hm, hs, ht, ha⟩
  · cases h1
  · cases he
    refine .inr ⟨g, cap, _, rfl, hb, block_setCell hg (i := i) u, hn, hm, by simpa using hs, ?_, ?_⟩
    · rw [Array.toList_setIfInBounds, List.take_set, ht]
    · intro x hx
      rw [Array.toList_setIfInBounds] at hx
      rcases List.mem_or_eq_of_mem_set hx with hx | hx
      · exact ha x hx
      · rw [hx]; exact hu
theorem Row.unfrozen {ok : Value → Prop} {w : World} {base : Nat} {e : TypeId} {g n cap : Nat} {xs : List Value} (h : Row ok w base e (.slice (some ⟨g, 0, .none⟩) n cap) n xs) (k : Nat) : w.frozen? ⟨g, k, .none⟩ = false := by
  rcases h.2 with ⟨h1, _⟩ | ⟨g', cap', cur, he, hb, hg, _⟩
  · cases h1
  · cases he; exact unfrozen_of_block hg k
theorem Row.block {ok : Value → Prop} {w : World} {base : Nat} {e : TypeId} {g n cap : Nat} {xs : List Value} (h : Row ok w base e (.slice (some ⟨g, 0, .none⟩) n cap) n xs) : base ≤ g ∧ ∃ cur, w.heap[g]? = some (.cells cur e (0, 0)) := by
  rcases h.2 with ⟨h1, _⟩ | ⟨g', cap', cur, he, hb, hg, _⟩
  · cases h1
  · cases he; exact ⟨hb, cur, hg⟩
theorem Row.addr {ok : Value → Prop} {w : World} {base : Nat} {e : TypeId} {v : Value} {n : Nat} {xs : List Value} (h : Row ok w base e v n xs) (h0 : 0 < n) : ∃ g cap, v = .slice (some ⟨g, 0, .none⟩) n cap ∧ n ≤ cap := by
  rcases h.2 with ⟨_, h1⟩ | ⟨g', cap', cur, he, hb, hg, hn, _⟩
  · omega
  · exact ⟨g', cap', he, hn⟩
structure QV (w : World) (q : Nat) (v : Value) (l : List Nat) : Prop where
  var : w.heap[q]? = some (.cells #[v] 149 (0, 0))
  row : Row isI64 w (q + 1) 3 v l.length (l.map iv)
theorem QV.drewN {w : World} {q : Nat} {v : Value} {l : List Nat} (h : QV w q v l) (n : Nat) : QV (w.drewN n) q v l := ⟨h.var, h.row.below (ext_drewN w n)⟩
theorem QV.lt {w : World} {q : Nat} {v : Value} {l : List Nat} (h : QV w q v l) : q < w.heap.size := heap_lt h.var
theorem QV.cell {w : World} {q : Nat} {v : Value} {l : List Nat} (h : QV w q v l) : w.cell? ⟨q, 0, .none⟩ = some v := cell_of_block h.var 0
theorem less_q {w : World} {q : Nat} {v : Value} {l : List Nat} (h : QV w q v l) (i j : Nat) (hi : i < l.length) (hj : j < l.length) :
    Calls Tryz.prog 149 #[v, .int .i64 i, .int .i64 j] w fun e w' => e = .returned (.bool (decide (l.getD i 0 < l.getD j 0))) ∧ QV w' q v l ∧ QKeep q w w' := by
  obtain ⟨a, c, rfl, _, hs⟩ := h.row.sees
  refine (rless_any a l.length c i j l w hs hi hj).mono ?_
  rintro e w' ⟨rfl, nq, rfl⟩
  exact ⟨rfl, h.drewN nq, QKeep.drewN q w nq h.lt⟩
theorem iv_get (l : List Nat) (i : Nat) (x : Nat) : (l.map iv).set i (iv x) = (l.set i x).map iv := by rw [List.map_set]
theorem swap_q {w : World} {q : Nat} {v : Value} {l : List Nat} (h : QV w q v l) (i j : Nat) (hi : i < l.length) (hj : j < l.length) :
    Calls Tryz.prog 150 #[v, .int .i64 i, .int .i64 j] w fun e w' => e = .returned (.tuple #[]) ∧ QV w' q v (swapL l i j) ∧ QKeep q w w' := by
  obtain ⟨g, cap, rfl, hcap⟩ := h.row.addr (by omega)
  obtain ⟨a, c, e, _, hs⟩ := h.row.sees
  cases e
  refine (rswap_any g l.length cap i j l w hs h.row.unfrozen hi hj).mono ?_
  rintro e w' ⟨rfl, nq, rfl⟩
  obtain ⟨hb, cur, hg⟩ := h.row.block
  have hqg : q ≠ g := by omega
  have r1 := h.row.set i (iv (l.getD j 0)) ⟨_, rfl⟩
  have r2 := r1.set j (iv (l.getD i 0)) ⟨_, rfl⟩
  refine ⟨rfl, QV.drewN ⟨?_, ?_⟩ nq, QKeep.trans (b := (w.setCell ⟨g, i, .none⟩ (iv (l.getD j 0))).setCell ⟨g, j, .none⟩ (iv (l.getD i 0))) ⟨?_, ?_⟩ (QKeep.drewN q _ nq (by simpa using h.lt))⟩
  · rw [Below.heap_setCell _ ⟨g, j, .none⟩ _ q hqg, Below.heap_setCell _ ⟨g, i, .none⟩ _ q hqg]; exact h.var
  · rw [swapL_len]
    have e : (swapL l i j).map iv = ((l.map iv).set i (iv (l.getD j 0))).set j (iv (l.getD i 0)) := by rw [iv_get, iv_get]; rfl
    rw [e]
    exact r2
  · exact ((Below.refl q w).setCell (by show q ≤ g; omega) _).setCell (by show q ≤ g; omega) _
  · intro D C t fr hD hq ht
    have hDg : D ≠ g := by
      intro e; subst e
      rw [hg] at hD; cases hD; exact ht rfl
    rw [Below.heap_setCell _ ⟨g, j, .none⟩ _ D hDg, Below.heap_setCell _ ⟨g, i, .none⟩ _ D hDg]; exact hD
set_option maxRecDepth 100000 in
theorem up_q (q n j0 : Nat) (v : Value) (l : List Nat) (w : World) (h : QV w q v l) (hl : l.length = n) (hj : j0 < n) (hn : n ≤ 140737488355328) (hu : UpInv l n j0) :
    Calls Tryz.prog 118 #[qI q, .int .i64 j0] w fun e w' => e = .returned (.tuple #[]) ∧ ∃ l', QV w' q v l' ∧ l'.Perm l ∧ HeapN l' n ∧ QKeep q w w' := by
  unfold qI
  have H := Lib.hid h
  have HL := Lib.hid hl
  have HU := Lib.hid hu
  clear h hl hu
  go_enter Tryz.func118, Tryz.ntmps118
  go_wp2
  go_loopw [1] (fun jv wr => ∃ (j : Nat) (l' : List Nat), jv = .int .i64 j ∧ j < n ∧ Hid (QV wr q v l') ∧ Hid (UpInv l' n j) ∧ Hid (l'.Perm l) ∧ Hid (l'.length = n) ∧ Hid (QKeep q w wr)) (fun jv _ => (intOf jv).toNat)
  case atStart => exact ⟨j0, l, rfl, hj, H.out, HU.out, List.Perm.refl _, HL.out, QKeep.refl _ _⟩
  case round =>
    obtain ⟨j, l', rfl, hjn, hv, hui, hp, hll, hk⟩ := hrel
    have hc := hv.out.cell
    have W1 : IntKind.i64.wrap ((j : Int) - 1) = (j : Int) - 1 := IntWalk.i64_in _ (by omega)
    by_cases h0 : j = 0
    · subst h0
      go_wp2
      go_end0
      exact ⟨rfl, l', hv.out, hp.out, up_done0 hui.out, hk.out⟩
    · obtain ⟨i, hi⟩ : ∃ i, i = (j - 1) / 2 := ⟨_, rfl⟩
      have e0 : wrap64 (((j : Int) - 1).tdiv 2) = (i : Int) := by
        rw [Int.tdiv_eq_ediv_of_nonneg (by omega), show ((j : Int) - 1) / 2 = (i : Int) by omega]
        unfold wrap64
        omega
      have e1 : ((i : Int) == (j : Int)) = false := by simp; omega
      have h1 : (1 : Int) ≤ j := by omega
      have m1 := fun n => meth_less n q wr v hc
      have HI := Lib.hid hi
      have H0 := Lib.hid h0
      have HJ := Lib.hid hjn
      clear hi h0 hc hjn
      go_wp2_with fail
      refine (less_q hv.out j i (by have := hll.out; have := HJ.out; omega) (by have := hll.out; have := HJ.out; have := HI.out; omega)).mono ?_
      rintro e w1 ⟨rfl, hv1, hk1⟩
      have hc1 := hv1.cell
      have HV1 := Lib.hid hv1
      have HK1 := Lib.hid (hk.out.trans hk1)
      clear hv1 hk1 m1
      by_cases hlt : l'.getD j 0 < l'.getD i 0
      · have d1 : decide (l'.getD j 0 < l'.getD i 0) = true := by simpa using hlt
        rw [d1]
        have HLT := Lib.hid hlt
        have m2 := fun n => meth_swap n q w1 v hc1
        clear hlt d1
        go_wp2_with fail
        refine (swap_q HV1.out i j (by have := hll.out; have := HJ.out; have := HI.out; omega) (by have := hll.out; have := HJ.out; omega)).mono ?_
        rintro e w2 ⟨rfl, hv2, hk2⟩
        have HV2 := Lib.hid hv2
        have HK2 := Lib.hid (HK1.out.trans hk2)
        clear hv2 hk2 m2 hc1
        go_wp2
        go_roundw
        case rel =>
          refine ⟨i, swapL l' i j, rfl, by have := HJ.out; have := HI.out; omega, HV2.out, ?_, ?_, ?_, HK2.out⟩
          · have h1 := up_step hui.out hll.out.symm (by have := H0.out; omega) HJ.out (by rw [← HI.out]; exact HLT.out)
            rw [← HI.out] at h1
            exact h1
          · exact (swapL_perm l' i j (by have := hll.out; have := HJ.out; have := HI.out; omega) (by have := hll.out; have := HJ.out; omega)).trans hp.out
          · exact (swapL_len l' i j).trans hll.out
        case measure => have := HI.out; have := H0.out; simp [intOf]; omega
      · have d1 : decide (l'.getD j 0 < l'.getD i 0) = false := by simpa using hlt
        rw [d1]
        have HLT := Lib.hid hlt
        clear hlt d1
        go_wp2
        go_end0
        exact ⟨rfl, l', HV1.out, hp.out, up_done hui.out (by rw [← HI.out]; have := HLT.out; omega), HK1.out⟩
set_option maxRecDepth 100000 in
set_option maxHeartbeats 1600000 in
theorem down_q (q n : Nat) (v : Value) (l : List Nat) (w : World) (h : QV w q v l) (hl : n ≤ l.length) (hn : l.length ≤ 140737488355328) (hd : DownInv l n 0) :
    Calls Tryz.prog 119 #[qI q, .int .i64 0, .int .i64 n] w fun e w' => ∃ b, e = .returned (.bool b) ∧ ∃ l', QV w' q v l' ∧ l'.Perm l ∧ l'.length = l.length ∧ (∀ k, n ≤ k → l'.getD k 0 = l.getD k 0) ∧ HeapN l' n ∧ QKeep q w w' := by
  unfold qI
  have H := Lib.hid h
  have HD := Lib.hid hd
  clear h hd
  go_enter Tryz.func119, Tryz.ntmps119
  go_wp2
  go_loopw [7] (fun jv wr => ∃ (i : Nat) (l' : List Nat), jv = .int .i64 i ∧ (i = 0 ∨ i < n) ∧ Hid (QV wr q v l') ∧ Hid (DownInv l' n i) ∧ Hid (l'.Perm l) ∧ Hid (l'.length = l.length) ∧ Hid (∀ k, n ≤ k → l'.getD k 0 = l.getD k 0) ∧ Hid (QKeep q w wr)) (fun jv _ => n - (intOf jv).toNat)
  case atStart => exact ⟨0, l, rfl, .inl rfl, H.out, HD.out, List.Perm.refl _, rfl, fun _ _ => rfl, QKeep.refl _ _⟩
  case round =>
    obtain ⟨i, l', rfl, hin, hv, hdi, hp, hll, hsame, hk⟩ := hrel
    have hi2 : i ≤ 140737488355328 := by omega
    have W1 : IntKind.i64.wrap (2 * (i : Int)) = 2 * (i : Int) := IntWalk.i64_in _ (by omega)
    have W2 : IntKind.i64.wrap (2 * (i : Int) + 1) = 2 * (i : Int) + 1 := IntWalk.i64_in _ (by omega)
    have W3 : IntKind.i64.wrap (2 * (i : Int) + 1 + 1) = 2 * (i : Int) + 1 + 1 := IntWalk.i64_in _ (by omega)
    by_cases ha : n ≤ 2 * i + 1
    · have e1 : decide ((n : Int) ≤ 2 * (i : Int) + 1) = true := by simp; omega
      go_wp2
      go_ret
      exact ⟨_, rfl, l', hv.out, hp.out, hll.out, hsame.out, down_leaf hdi.out ha, hk.out⟩
    · have e1 : decide ((n : Int) ≤ 2 * (i : Int) + 1) = false := by simp; omega
      have e2 : decide (2 * (i : Int) + 1 < 0) = false := by simp; omega
      have m1 := fun n => meth_less n q wr v hv.out.cell
      by_cases hb : 2 * i + 2 < n
      · have e3 : decide (2 * (i : Int) + 1 + 1 < (n : Int)) = true := by simp; omega
        go_wp2_with fail
        rw [show (2 * (i : Int) + 1 + 1) = ((2 * i + 2 : Nat) : Int) by omega, show (2 * (i : Int) + 1) = ((2 * i + 1 : Nat) : Int) by omega]
        refine (less_q hv.out (2 * i + 2) (2 * i + 1) (by have := hll.out; omega) (by have := hll.out; omega)).mono ?_
        rintro e w1 ⟨rfl, hv1, hk1⟩
        have HV1 := Lib.hid hv1
        have HK1 := Lib.hid (hk.out.trans hk1)
        clear hv1 hk1 m1
        by_cases hlt1 : l'.getD (2 * i + 2) 0 < l'.getD (2 * i + 1) 0
        · have d1 : decide (l'.getD (2 * i + 2) 0 < l'.getD (2 * i + 1) 0) = true := by simpa using hlt1
          have HMIN : Hid (∀ k, 0 < k → k < n → (k - 1) / 2 = i → l'.getD (2 * i + 2) 0 ≤ l'.getD k 0) := fun k h0 hk hp => by
            have : k = 2 * i + 1 ∨ k = 2 * i + 2 := by omega
            rcases this with rfl | rfl <;> omega
          rw [d1]
          clear hlt1 d1
          have m3 := fun n => meth_less n q w1 v HV1.out.cell
          go_wp2_with fail
          rw [show (2 * (i : Int) + 2 : Int) = ((2 * i + 2 : Nat) : Int) by omega]
          refine (less_q HV1.out (2 * i + 2) i (by have := hll.out; omega) (by have := hll.out; omega)).mono ?_
          rintro e w3 ⟨rfl, hv3, hk3⟩
          have HV3 := Lib.hid hv3
          have HK3 := Lib.hid (HK1.out.trans hk3)
          have hc3 := hv3.cell
          clear hv3 hk3 m3
          by_cases hlt : l'.getD (2 * i + 2) 0 < l'.getD i 0
          · have d3 : decide (l'.getD (2 * i + 2) 0 < l'.getD i 0) = true := by simpa using hlt
            rw [d3]
            have HLT := Lib.hid hlt
            have m4 := fun n => meth_swap n q w3 v hc3
            clear hlt d3
            go_wp2_with fail
            rw [show (2 * (i : Int) + 2 : Int) = ((2 * i + 2 : Nat) : Int) by omega]
            refine (swap_q HV3.out i (2 * i + 2) (by have := hll.out; omega) (by have := hll.out; omega)).mono ?_
            rintro e w4 ⟨rfl, hv4, hk4⟩
            have HV4 := Lib.hid hv4
            have HK4 := Lib.hid (HK3.out.trans hk4)
            clear hv4 hk4 m4 hc3
            go_wp2
            go_roundw
            case rel =>
              refine ⟨2 * i + 2, swapL l' i (2 * i + 2), by go_num, by omega, HV4.out, ?_, ?_, ?_, ?_, HK4.out⟩
              · exact down_step hdi.out (by have := hll.out; omega) (by omega) (by omega) (by omega) HMIN.out HLT.out
              · exact (swapL_perm l' i (2 * i + 2) (by have := hll.out; omega) (by have := hll.out; omega)).trans hp.out
              · exact (swapL_len l' i (2 * i + 2)).trans hll.out
              · intro k hk0
                rw [swapL_get _ _ _ _ (by have := hll.out; omega) (by have := hll.out; omega), if_neg (by omega), if_neg (by omega)]
                exact hsame.out k hk0
            case measure => simp [intOf]; omega
          · have d3 : decide (l'.getD (2 * i + 2) 0 < l'.getD i 0) = false := by simpa using hlt
            rw [d3]
            have HLT := Lib.hid hlt
            clear hlt d3
            go_wp2
            go_ret
            exact ⟨_, rfl, l', HV3.out, hp.out, hll.out, hsame.out, down_done hdi.out HMIN.out (by have := HLT.out; omega), HK3.out⟩
        · have d1 : decide (l'.getD (2 * i + 2) 0 < l'.getD (2 * i + 1) 0) = false := by simpa using hlt1
          have HMIN : Hid (∀ k, 0 < k → k < n → (k - 1) / 2 = i → l'.getD (2 * i + 1) 0 ≤ l'.getD k 0) := fun k h0 hk hp => by
            have : k = 2 * i + 1 ∨ k = 2 * i + 2 := by omega
            rcases this with rfl | rfl <;> omega
          rw [d1]
          clear hlt1 d1
          have m3 := fun n => meth_less n q w1 v HV1.out.cell
          go_wp2_with fail
          rw [show (2 * (i : Int) + 1 : Int) = ((2 * i + 1 : Nat) : Int) by omega]
          refine (less_q HV1.out (2 * i + 1) i (by have := hll.out; omega) (by have := hll.out; omega)).mono ?_
          rintro e w3 ⟨rfl, hv3, hk3⟩
          have HV3 := Lib.hid hv3
          have HK3 := Lib.hid (HK1.out.trans hk3)
          have hc3 := hv3.cell
          clear hv3 hk3 m3
          by_cases hlt : l'.getD (2 * i + 1) 0 < l'.getD i 0
          · have d3 : decide (l'.getD (2 * i + 1) 0 < l'.getD i 0) = true := by simpa using hlt
            rw [d3]
            have HLT := Lib.hid hlt
            have m4 := fun n => meth_swap n q w3 v hc3
            clear hlt d3
            go_wp2_with fail
            rw [show (2 * (i : Int) + 1 : Int) = ((2 * i + 1 : Nat) : Int) by omega]
            refine (swap_q HV3.out i (2 * i + 1) (by have := hll.out; omega) (by have := hll.out; omega)).mono ?_
            rintro e w4 ⟨rfl, hv4, hk4⟩
            have HV4 := Lib.hid hv4
            have HK4 := Lib.hid (HK3.out.trans hk4)
            clear hv4 hk4 m4 hc3
            go_wp2
            go_roundw
            case rel =>
              refine ⟨2 * i + 1, swapL l' i (2 * i + 1), by go_num, by omega, HV4.out, ?_, ?_, ?_, ?_, HK4.out⟩
              · exact down_step hdi.out (by have := hll.out; omega) (by omega) (by omega) (by omega) HMIN.out HLT.out
              · exact (swapL_perm l' i (2 * i + 1) (by have := hll.out; omega) (by have := hll.out; omega)).trans hp.out
              · exact (swapL_len l' i (2 * i + 1)).trans hll.out
              · intro k hk0
                rw [swapL_get _ _ _ _ (by have := hll.out; omega) (by have := hll.out; omega), if_neg (by omega), if_neg (by omega)]
                exact hsame.out k hk0
            case measure => simp [intOf]; omega
          · have d3 : decide (l'.getD (2 * i + 1) 0 < l'.getD i 0) = false := by simpa using hlt
            rw [d3]
            have HLT := Lib.hid hlt
            clear hlt d3
            go_wp2
            go_ret
            exact ⟨_, rfl, l', HV3.out, hp.out, hll.out, hsame.out, down_done hdi.out HMIN.out (by have := HLT.out; omega), HK3.out⟩
      · have e3 : decide (2 * (i : Int) + 1 + 1 < (n : Int)) = false := by simp; omega
        have HMIN : Hid (∀ k, 0 < k → k < n → (k - 1) / 2 = i → l'.getD (2 * i + 1) 0 ≤ l'.getD k 0) := fun k h0 hk hp => by
          have : k = 2 * i + 1 := by omega
          rw [this]; exact Nat.le_refl _
        clear m1
        have m3 := fun n => meth_less n q wr v hv.out.cell
        go_wp2_with fail
        rw [show (2 * (i : Int) + 1 : Int) = ((2 * i + 1 : Nat) : Int) by omega]
        refine (less_q hv.out (2 * i + 1) i (by have := hll.out; omega) (by have := hll.out; omega)).mono ?_
        rintro e w3 ⟨rfl, hv3, hk3⟩
        have HV3 := Lib.hid hv3
        have HK3 := Lib.hid (hk.out.trans hk3)
        have hc3 := hv3.cell
        clear hv3 hk3 m3
        by_cases hlt : l'.getD (2 * i + 1) 0 < l'.getD i 0
        · have d3 : decide (l'.getD (2 * i + 1) 0 < l'.getD i 0) = true := by simpa using hlt
          rw [d3]
          have HLT := Lib.hid hlt
          have m4 := fun n => meth_swap n q w3 v hc3
          clear hlt d3
          go_wp2_with fail
          rw [show (2 * (i : Int) + 1 : Int) = ((2 * i + 1 : Nat) : Int) by omega]
          refine (swap_q HV3.out i (2 * i + 1) (by have := hll.out; omega) (by have := hll.out; omega)).mono ?_
          rintro e w4 ⟨rfl, hv4, hk4⟩
          have HV4 := Lib.hid hv4
          have HK4 := Lib.hid (HK3.out.trans hk4)
          clear hv4 hk4 m4 hc3
          go_wp2
          go_roundw
          case rel =>
            refine ⟨2 * i + 1, swapL l' i (2 * i + 1), by go_num, by omega, HV4.out, ?_, ?_, ?_, ?_, HK4.out⟩
            · exact down_step hdi.out (by have := hll.out; omega) (by omega) (by omega) (by omega) HMIN.out HLT.out
            · exact (swapL_perm l' i (2 * i + 1) (by have := hll.out; omega) (by have := hll.out; omega)).trans hp.out
            · exact (swapL_len l' i (2 * i + 1)).trans hll.out
            · intro k hk0
              rw [swapL_get _ _ _ _ (by have := hll.out; omega) (by have := hll.out; omega), if_neg (by omega), if_neg (by omega)]
              exact hsame.out k hk0
          case measure => simp [intOf]; omega
        · have d3 : decide (l'.getD (2 * i + 1) 0 < l'.getD i 0) = false := by simpa using hlt
          rw [d3]
          have HLT := Lib.hid hlt
          clear hlt d3
          go_wp2
          go_ret
          exact ⟨_, rfl, l', HV3.out, hp.out, hll.out, hsame.out, down_done hdi.out HMIN.out (by have := HLT.out; omega), HK3.out⟩
end Go.Proofs.YtglhnmbfkbjemaaGreatDoor
