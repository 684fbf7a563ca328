/- The reference's Frames, by its contract. -/
import Derived.Test.YtdheldhecimfnaaCnB
import Derived.Test.YtdheldhecimfnaaCnNexts
import Derived.Test.YtdheldhecimfnaaNRefMay3
import Derived.Test.YtdheldhecimfnaaNRefVars
import Derived.Test.YtdheldhecimfnaaNStep
import Derived.Test.YtdheldhecimfnaaNTwo
import Derived.Test.YtdheldhecimfnaaNBools
import Derived.Deep.CutRange
import Derived.Deep.RegionHeld3
import Derived.OrdersHeld
import Derived.Test.YtdheldhecimfnaaNPeel
import Derived.Test.YtdheldhecimfnaaCnSpec
import Derived.Test.YtdheldhecimfnaaNVal
import Derived.Test.YtdheldhecimfnaaNTrace
import Derived.Test.YtdheldhecimfnaaCnSmall
import Derived.Test.YtdheldhecimfnaaCnA
/- The reference's told and nexts, by their contracts. -/
namespace Go.Proofs.Ytdheldhecimfnaa
open Go Go.RowKit Go.Joins

/-- Seven cells are kept. -/
theorem keep7t {w w' : World} {a0 a1 a2 a3 a4 a5 a6 : Addr} {v0 v1 v2 v3 v4 v5 v6 : Value} (h : w.cell? a0 = some v0 ∧ w.cell? a1 = some v1 ∧ w.cell? a2 = some v2 ∧ w.cell? a3 = some v3 ∧ w.cell? a4 = some v4 ∧ w.cell? a5 = some v5 ∧ w.cell? a6 = some v6) (hb : Below w.heap.size w w') :
    w'.cell? a0 = some v0 ∧ w'.cell? a1 = some v1 ∧ w'.cell? a2 = some v2 ∧ w'.cell? a3 = some v3 ∧ w'.cell? a4 = some v4 ∧ w'.cell? a5 = some v5 ∧ w'.cell? a6 = some v6 := by
  obtain ⟨h0, h1, h2, h3, h4, h5, h6⟩ := h
  have one : ∀ {a : Addr} {v : Value}, w.cell? a = some v → w'.cell? a = some v := fun {a v} h => (hb.cell (World.block_lt_of_cell? _ _ h)).trans h
  exact ⟨one h0, one h1, one h2, one h3, one h4, one h5, one h6⟩

set_option maxRecDepth 100000 in
set_option maxHeartbeats 3200000 in
theorem told9_any (c : NormC) (lits : List Nat) (s : CSlots) (a : Option Addr) (n cp : Nat) (w : World) (h : SeesCir w s c) (hs : s.small) (hlo : -9223372036854775808 ≤ c.ins) (hhi : c.ins < 9223372036854775808) (hw : Wide c) (hl : Sees w a n cp (lits.map nv32)) (hn : n ≤ 1048576) (h32 : ∀ x ∈ lits, x < 4294967296) :
    Calls Try.prog 27 #[cirV c.ins s, .slice a n cp] w fun e w' => e = .returned (.bool (toldB c lits)) ∧ Below w.heap.size w w' := by
  have HVARS := Lib.hid (fun W (hb : Below w.heap.size w W) => refvars_any c s W (h.below hb) hs hlo hhi hw)
  have HMAY := Lib.hid (fun W (hb : Below w.heap.size w W) => refmay3_any c s W (h.below hb) hs hlo hhi hw)
  have YES : Hid (mayC c = true → toldB c lits = !lits.any (missC (varsC c))) := told_miss
  have NO : Hid (mayC c = false → toldB c lits = false) := fun h => by unfold toldB; rw [h]; rfl
  have HL := Lib.hid hl
  have HLN : Hid (lits.length = n) := hl.lenMap
  have H32 := Lib.hid h32
  have hV4 : varsC c ≤ 16384 := by
    unfold varsC
    split
    · rename_i h1; exact (mayC_iff.1 h1).few
    · omega
  obtain ⟨z, hz⟩ : ∃ z, z = c.ins := ⟨_, rfl⟩
  obtain ⟨V, hv⟩ : ∃ v, v = varsC c := ⟨_, rfl⟩
  obtain ⟨q, hq⟩ : ∃ q, q = mayC c := ⟨_, rfl⟩
  obtain ⟨T, hT⟩ : ∃ T, T = toldB c lits := ⟨_, rfl⟩
  rw [← hz, ← hT]
  rw [← hz, ← hv] at HVARS
  rw [← hz, ← hq] at HMAY
  rw [← hq, ← hT, ← hv] at YES
  rw [← hq, ← hT] at NO
  rw [← hv] at hV4
  have HRES : Hid (∀ k, k < n → missC V (lits.getD k 0) = true → T = false) := fun k hk hm => by
    cases q with
    | false => exact NO.out rfl
    | true =>
      rw [YES.out rfl, List.any_eq_true.2 ⟨_, getD_mem (by rw [HLN.out]; exact hk), hm⟩]; rfl
  have HEND : Hid ((∀ k, k < n → missC V (lits.getD k 0) = false) → T = q) := fun hm => by
    cases q with
    | false => exact NO.out rfl
    | true => rw [YES.out rfl, any_none (all_of_getD (d := 0) (fun j hj => hm j (by rw [← HLN.out]; exact hj)))]; rfl
  clear hz hv hq hT h hs hlo hhi hl h32 YES NO hw
  unfold cirV at *
  go_enter Try.func27, Try.ntmps27
  go_upto_region 1 with fail
  generalize hW : World.alloc _ _ = W1
  have hX : W1.heap[w.heap.size]? = some (.cells (cirCells z s) 26 (0, 0)) := by subst hW; exact heap_new _ _ _ rfl
  have HX := Lib.hid hX
  have HB := Lib.hid (show Below w.heap.size w W1 by subst hW; exact ext_alloc _ _)
  clear hW hX
  go_wp2
  go_loopw [5] (fun iv wr => ∃ k : Nat, k ≤ n ∧ iv = .int .i64 k ∧ Hid (∀ j, j < k → missC V (lits.getD j 0) = false) ∧ Hid (wr.heap[w.heap.size]? = some (.cells (cirCells z s) 26 (0, 0))) ∧ Hid (Below w.heap.size w wr)) (fun iv _ => n - (intOf iv).toNat)
  case atStart => exact ⟨0, Nat.zero_le _, rfl, fun j hj => absurd hj (by omega), HX.out, HB.out⟩
  case round =>
    clear HX HB
    obtain ⟨k, hk, rfl, hno, hX, hB⟩ := hrel
    have p0 : wr.cell? ⟨w.heap.size, 0, none⟩ = some (.int .i64 z) := cell_of_block hX.out 0
    have p1 : wr.cell? ⟨w.heap.size, 1, none⟩ = some (.slice s.a1 s.n1 s.c1) := cell_of_block hX.out 1
    have p2 : wr.cell? ⟨w.heap.size, 2, none⟩ = some (.slice s.a2 s.n2 s.c2) := cell_of_block hX.out 2
    have p3 : wr.cell? ⟨w.heap.size, 3, none⟩ = some (.slice s.a3 s.n3 s.c3) := cell_of_block hX.out 3
    have p4 : wr.cell? ⟨w.heap.size, 4, none⟩ = some (.slice s.a4 s.n4 s.c4) := cell_of_block hX.out 4
    have p5 : wr.cell? ⟨w.heap.size, 5, none⟩ = some (.slice s.a5 s.n5 s.c5) := cell_of_block hX.out 5
    by_cases hlt : k < n
    · obtain ⟨b, off, rfl, _⟩ := HL.out.addr (show 0 < n by omega)
      have hcx := (HL.out.below hB.out).num k hlt
      have hx32 := H32.out (lits.getD k 0) (getD_mem (by rw [HLN.out]; exact hlt))
      have hres := HRES.out k hlt
      obtain ⟨x, hx⟩ : ∃ x, x = lits.getD k 0 := ⟨_, rfl⟩
      rw [← hx] at hcx hx32 hres
      obtain ⟨y, hy⟩ : ∃ y, y = x / 2 := ⟨_, rfl⟩
      have hyx : (x : Int) / 2 = (y : Int) := by omega
      have m1 : (x : Int) / 2 % 4294967296 = (y : Int) := by omega
      have hy32 : y < 4294967296 := by omega
      have W1' : wrap64 ((y : Nat) : Int) = (y : Int) := IntWalk.wrap64_in _ (by omega)
      have W2' : IntKind.i64.wrap ((k : Int) + 1) = (k : Int) + 1 := IntWalk.i64_in _ (by omega)
      have HV := Lib.hid (fun W (hb : Below wr.heap.size wr W) => HVARS.out W (ext_trans hB.out hb))
      have HS0 := Lib.hid (And.intro p0 (And.intro p1 (And.intro p2 (And.intro p3 (And.intro p4 (And.intro p5 hcx))))))
      have HSD := Lib.hid (keep7t HS0.out ((Below.refl _ wr).drew))
      have hkz : (0 : Int) ≤ (k : Int) := by omega
      have hkn : (k : Int) < (n : Int) := by omega
      have HM : Hid (missC V (lits.getD k 0) = decide (V < y)) := by unfold Hid missC; rw [← hx, hy]
      have HRS : Hid (decide (V < y) = true → T = false) := fun h => hres (by have := HM.out; rw [← hx] at this; rw [this]; exact h)
      clear hx hy hres hx32
      go_upto_region 4 with fail
      go_cut [20] from 6 to 20 (fun v20 wx => v20 = .bool (decide (V < y)) ∧ Hid (Below wr.heap.size wr wx))
      case first =>
        refine wp_region_noPanic ?_
        refine wp_region_held (S := fun w' => w'.cell? ⟨w.heap.size, 0, none⟩ = some (.int .i64 z) ∧ w'.cell? ⟨w.heap.size, 1, none⟩ = some (.slice s.a1 s.n1 s.c1) ∧ w'.cell? ⟨w.heap.size, 2, none⟩ = some (.slice s.a2 s.n2 s.c2) ∧ w'.cell? ⟨w.heap.size, 3, none⟩ = some (.slice s.a3 s.n3 s.c3) ∧ w'.cell? ⟨w.heap.size, 4, none⟩ = some (.slice s.a4 s.n4 s.c4) ∧ w'.cell? ⟨w.heap.size, 5, none⟩ = some (.slice s.a5 s.n5 s.c5) ∧ w'.cell? ⟨b, off + k, none⟩ = some (.int .u32 (x : Int))) (by kernel_rfl) ?_
        generalize hY : ({ wr with drawn := wr.drawn + 1 } : World) = Y0
        have hY0 : Below wr.heap.size wr Y0 := by subst hY; exact (Below.refl _ _).drew
        have HPY := Lib.hid (keep7t HS0.out hY0)
        have HY0 := Lib.hid hY0
        clear hY hY0 HSD p0 p1 p2 p3 p4 p5 hcx
        refine wpAnyH_take (i := 0) (v := ?_) (by simp only [List.getElem?_toArray, List.getElem?_cons_zero]; rfl) (by kernel_rfl) (by kernel_rfl) (by kernel_rfl) (fun _ _ _ h => h) (Or.inl ⟨by rfl, ?_⟩) HPY.out ?_
        rotate_left
        · intro w hSw
          (try dsimp only at hSw)
          obtain ⟨q0_, q1_, q2_, q3_, q4_, q5_, q6_⟩ := hSw
          go_simp
          try with_reducible rfl
        try simp only [Act.put, List.setIfInBounds_toArray, List.set_cons_zero, List.set_cons_succ]
        refine wpAnyH_take (i := 1) (v := ?_) (by simp only [List.getElem?_toArray, List.getElem?_cons_zero, List.getElem?_cons_succ]; rfl) (by kernel_rfl) (by kernel_rfl) (by kernel_rfl) (fun _ _ _ h => h) (Or.inl ⟨by rfl, ?_⟩) HPY.out ?_
        rotate_left
        · intro w hSw
          (try dsimp only at hSw)
          obtain ⟨q0_, q1_, q2_, q3_, q4_, q5_, q6_⟩ := hSw
          go_simp
          try with_reducible rfl
        try simp only [Act.put, List.setIfInBounds_toArray, List.set_cons_zero, List.set_cons_succ]
        refine wpAnyH_take (i := 2) (v := ?_) (by simp only [List.getElem?_toArray, List.getElem?_cons_zero, List.getElem?_cons_succ]; rfl) (by kernel_rfl) (by kernel_rfl) (by kernel_rfl) (fun _ _ _ h => h) (Or.inl ⟨by rfl, ?_⟩) HPY.out ?_
        rotate_left
        · intro w hSw
          (try dsimp only at hSw)
          obtain ⟨q0_, q1_, q2_, q3_, q4_, q5_, q6_⟩ := hSw
          go_simp
          try with_reducible rfl
        try simp only [Act.put, List.setIfInBounds_toArray, List.set_cons_zero, List.set_cons_succ]
        refine wpAnyH_take (i := 3) (v := ?_) (by simp only [List.getElem?_toArray, List.getElem?_cons_zero, List.getElem?_cons_succ]; rfl) (by kernel_rfl) (by kernel_rfl) (by kernel_rfl) (fun _ _ _ h => h) (Or.inl ⟨by rfl, ?_⟩) HPY.out ?_
        rotate_left
        · intro w hSw
          (try dsimp only at hSw)
          obtain ⟨q0_, q1_, q2_, q3_, q4_, q5_, q6_⟩ := hSw
          go_simp
          try with_reducible rfl
        try simp only [Act.put, List.setIfInBounds_toArray, List.set_cons_zero, List.set_cons_succ]
        refine wpAnyH_take (i := 4) (v := ?_) (by simp only [List.getElem?_toArray, List.getElem?_cons_zero, List.getElem?_cons_succ]; rfl) (by kernel_rfl) (by kernel_rfl) (by kernel_rfl) (fun _ _ _ h => h) (Or.inl ⟨by rfl, ?_⟩) HPY.out ?_
        rotate_left
        · intro w hSw
          (try dsimp only at hSw)
          obtain ⟨q0_, q1_, q2_, q3_, q4_, q5_, q6_⟩ := hSw
          go_simp
          try with_reducible rfl
        try simp only [Act.put, List.setIfInBounds_toArray, List.set_cons_zero, List.set_cons_succ]
        refine wpAnyH_take (i := 5) (v := ?_) (by simp only [List.getElem?_toArray, List.getElem?_cons_zero, List.getElem?_cons_succ]; rfl) (by kernel_rfl) (by kernel_rfl) (by kernel_rfl) (fun _ _ _ h => h) (Or.inl ⟨by rfl, ?_⟩) HPY.out ?_
        rotate_left
        · intro w hSw
          (try dsimp only at hSw)
          obtain ⟨q0_, q1_, q2_, q3_, q4_, q5_, q6_⟩ := hSw
          go_simp
          try with_reducible rfl
        try simp only [Act.put, List.setIfInBounds_toArray, List.set_cons_zero, List.set_cons_succ]
        refine wpAnyH_take (i := 6) (v := ?_) (by simp only [List.getElem?_toArray, List.getElem?_cons_zero, List.getElem?_cons_succ]; rfl) (by kernel_rfl) (by kernel_rfl) (by kernel_rfl) (fun _ _ _ h => h) (Or.inl ⟨by rfl, ?_⟩) HPY.out ?_
        rotate_left
        · intro w hSw
          (try dsimp only at hSw)
          obtain ⟨q0_, q1_, q2_, q3_, q4_, q5_, q6_⟩ := hSw
          go_simp
          try with_reducible rfl
        try simp only [Act.put, List.setIfInBounds_toArray, List.set_cons_zero, List.set_cons_succ]
        refine wpAnyH_ready (rs := [7]) (by kernel_rfl) (by simp) ?_
        refine AllReadyH.cons (by simp only [List.getElem?_toArray, List.getElem?_cons_zero, List.getElem?_cons_succ]; rfl) (fun K hK => ?_) AllReadyH.nil
        go_simp
        refine (HV.out Y0 HY0.out).mono ?_
        rintro e W4 ⟨rfl, hb⟩
        have HP4 := Lib.hid (keep7t HPY.out hb)
        have HB4 := Lib.hid (ext_trans HY0.out hb)
        clear hb
        refine hK.out _ _ HP4.out (fun _ => ?_)
        clear hK K
        try simp only [Act.put, List.setIfInBounds_toArray, List.set_cons_zero, List.set_cons_succ]
        refine wpAnyH_take (i := 8) (v := ?_) (by simp only [List.getElem?_toArray, List.getElem?_cons_zero, List.getElem?_cons_succ]; rfl) (by kernel_rfl) (by kernel_rfl) (by kernel_rfl) (fun _ _ _ h => h) (Or.inl ⟨by rfl, ?_⟩) HP4.out ?_
        rotate_left
        · intro w hSw
          (try dsimp only at hSw)
          obtain ⟨q0_, q1_, q2_, q3_, q4_, q5_, q6_⟩ := hSw
          go_simp
          try with_reducible rfl
        try simp only [Act.put, List.setIfInBounds_toArray, List.set_cons_zero, List.set_cons_succ]
        refine wpAnyH_done (by kernel_rfl) ?_ _
        refine NoPanic.normal ?_
        go_wp2_with fail
        go_meet
        refine ⟨?_, HB4.out⟩
        have e1 : IntKind.u32.wrap (y : Int) = (y : Int) := IntWalk.u32_in _ ⟨by omega, by omega⟩
        have e2 : IntKind.i64.wrap (y : Int) = (y : Int) := IntWalk.i64_in _ ⟨by omega, by omega⟩
        rw [e1, e2]
        exact congrArg Value.bool (decide_eq_decide.2 (by omega))
      case rest =>
        obtain ⟨rfl, hbx⟩ := hcut
        obtain ⟨q2, hq2⟩ : ∃ q, q = decide (V < y) := ⟨_, rfl⟩
        rw [← hq2] at HM HRS ⊢
        have HX2 := Lib.hid (heap_below hX.out hbx.out)
        have HB2 := Lib.hid (ext_trans hB.out hbx.out)
        have HNO := Lib.hid hno.out
        clear hq2 hX hB hno hbx HS0 HSD p0 p1 p2 p3 p4 p5 hcx
        cases q2 with
        | true =>
          have HT := Lib.hid (HRS.out rfl)
          go_wp2
          go_ret
          exact ⟨by rw [HT.out]; rfl, HB2.out⟩
        | false =>
          go_wp2
          go_roundw
          case rel =>
            refine ⟨k + 1, by omega, by go_num, fun j hj => ?_, HX2.out, HB2.out⟩
            rcases Nat.lt_or_ge j k with h | h
            · exact HNO.out j h
            · obtain rfl : j = k := by omega
              exact HM.out
          case measure => simp [intOf]; omega
    · obtain rfl : n = k := by omega
      have HE := Lib.hid (HEND.out hno.out)
      go_wp2_with fail
      refine (HMAY.out wr hB.out).mono ?_
      rintro e W5 ⟨rfl, hb⟩
      have HB5 := Lib.hid (ext_trans hB.out hb)
      clear hb p0 p1 p2 p3 p4 p5
      go_wp2
      go_ret
      exact ⟨by rw [HE.out]; rfl, HB5.out⟩
end Go.Proofs.Ytdheldhecimfnaa
/- The reference's marks, on plain lists. -/
namespace Go.Proofs.Ytdheldhecimfnaa
open Go Go.RowKit

/-- One literal is marked. -/
def markM (M : List Bool) (x : Nat) : List Bool := if 1 < x then M.set (x / 2) true else M
theorem markM_len (M : List Bool) (x : Nat) : (markM M x).length = M.length := by unfold markM; split <;> simp
theorem markM_at {M : List Bool} {x v : Nat} (hx : x / 2 < M.length) : (markM M x).getD v false = true ↔ M.getD v false = true ∨ (0 < x / 2 ∧ v = x / 2) := by
  unfold markM
  split
  · rename_i h
    by_cases e : x / 2 = v
    · subst e
      simp [List.getD, hx]
      omega
    · have e2 : v ≠ x / 2 := fun h => e h.symm
      simp [List.getD, e, e2]
  · rename_i h
    have : ¬ 0 < x / 2 := by omega
    simp [this]
theorem markM_le {M : List Bool} {x v : Nat} (hx : x / 2 < M.length) (h : M.getD v false = true) : (markM M x).getD v false = true := (markM_at hx).2 (.inl h)
theorem markM_it {M : List Bool} {x : Nat} (hx : x / 2 < M.length) (h : 0 < x / 2) : (markM M x).getD (x / 2) false = true := (markM_at hx).2 (.inr ⟨h, rfl⟩)

/-- Literals, one behind the other. -/
def marksM : List Bool → List Nat → List Bool
  | M, [] => M
  | M, x :: r => marksM (markM M x) r
theorem marksM_snoc : ∀ (l : List Nat) (M : List Bool) (x : Nat), marksM M (l ++ [x]) = markM (marksM M l) x
  | [], M, x => rfl
  | y :: r, M, x => by rw [List.cons_append, marksM, marksM_snoc r]; rfl
theorem marksM_len : ∀ (l : List Nat) (M : List Bool), (marksM M l).length = M.length
  | [], M => rfl
  | y :: r, M => by rw [marksM, marksM_len r, markM_len]
theorem marksM_at : ∀ (l : List Nat) (M : List Bool) (v : Nat), (∀ x ∈ l, x / 2 < M.length) → ((marksM M l).getD v false = true ↔ M.getD v false = true ∨ ∃ x ∈ l, 0 < x / 2 ∧ v = x / 2)
  | [], M, v, _ => by simp [marksM]
  | y :: r, M, v, h => by
    rw [marksM, marksM_at r (markM M y) v (fun x hx => by rw [markM_len]; exact h x (List.mem_cons_of_mem _ hx)), markM_at (h y (List.mem_cons_self))]
    constructor
    · rintro ((h1 | h1) | ⟨x, h1, h2⟩)
      · exact .inl h1
      · exact .inr ⟨y, List.mem_cons_self, h1⟩
      · exact .inr ⟨x, List.mem_cons_of_mem _ h1, h2⟩
    · rintro (h1 | ⟨x, h1, h2⟩)
      · exact .inl (.inl h1)
      · rcases List.mem_cons.1 h1 with rfl | h1
        · exact .inl (.inr h2)
        · exact .inr ⟨x, h1, h2⟩

/-- The gates below the k-th, from the last one on. -/
def gBack (c : NormC) : Nat → List Bool → List Bool
  | 0, M => M
  | k + 1, M => gBack c k (if M.getD (fstG c + k) false = true then markM (markM M (c.gates.getD k (0, 0)).1) (c.gates.getD k (0, 0)).2 else M)
def gAll (c : NormC) (M : List Bool) : List Bool := gBack c c.gates.length M
section
variable {c : NormC}
theorem inW_gate {k : Nat} : inW c (fstG c + k) = c.gates.getD k (0, 0) := by
  unfold inW
  rw [if_pos (by omega), Nat.add_sub_cancel_left]
theorem gate_lt (h : MayC c) {k : Nat} (hk : k < c.gates.length) : (c.gates.getD k (0, 0)).1 / 2 < fstG c + k ∧ (c.gates.getD k (0, 0)).2 / 2 < fstG c + k := by
  have h1 := h.gates k hk
  unfold fstG
  omega
theorem gBack_len : ∀ (k : Nat) (M : List Bool), (gBack c k M).length = M.length
  | 0, M => rfl
  | k + 1, M => by
    rw [gBack, gBack_len k]
    split
    · rw [markM_len, markM_len]
    · rfl
/-- What a step does. -/
theorem gStep (h : MayC c) {k : Nat} (hk : k < c.gates.length) {M : List Bool} (hM : M.length = 1 + varsN c) (v : Nat) :
    (if M.getD (fstG c + k) false = true then markM (markM M (c.gates.getD k (0, 0)).1) (c.gates.getD k (0, 0)).2 else M).getD v false = true ↔
      M.getD v false = true ∨ (M.getD (fstG c + k) false = true ∧ ((0 < (c.gates.getD k (0, 0)).1 / 2 ∧ v = (c.gates.getD k (0, 0)).1 / 2) ∨ (0 < (c.gates.getD k (0, 0)).2 / 2 ∧ v = (c.gates.getD k (0, 0)).2 / 2))) := by
  have hl := gate_lt h hk
  have hv : fstG c + k < 1 + varsN c := by unfold fstG varsN; omega
  split
  · rename_i h1
    rw [markM_at (by rw [markM_len]; omega), markM_at (by omega)]
    constructor
    · rintro ((h2 | h2) | h2)
      · exact .inl h2
      · exact .inr ⟨h1, .inl h2⟩
      · exact .inr ⟨h1, .inr h2⟩
    · rintro (h2 | ⟨_, h2 | h2⟩)
      · exact .inl (.inl h2)
      · exact .inl (.inr h2)
      · exact .inr h2
  · rename_i h1
    exact ⟨fun h => .inl h, fun h => h.elim id (fun h => absurd h.1 h1)⟩
theorem gBack_ge (h : MayC c) : ∀ (k : Nat) (M : List Bool), k ≤ c.gates.length → M.length = 1 + varsN c → ∀ v, M.getD v false = true → (gBack c k M).getD v false = true
  | 0, M, _, _, v, hv => hv
  | k + 1, M, hk, hM, v, hv => by
    rw [gBack]
    refine gBack_ge h k _ (by omega) ?_ v ((gStep h (by omega) hM v).2 (.inl hv))
    split
    · rw [markM_len, markM_len]; exact hM
    · exact hM
/-- No more than a set that is closed. -/
theorem gBack_sub (h : MayC c) {S : Nat → Prop} (h1 : ∀ u, S u → 0 < (inW c u).1 / 2 → S ((inW c u).1 / 2)) (h2 : ∀ u, S u → 0 < (inW c u).2 / 2 → S ((inW c u).2 / 2)) : ∀ (k : Nat) (M : List Bool), k ≤ c.gates.length → M.length = 1 + varsN c → (∀ v, M.getD v false = true → S v) → ∀ v, (gBack c k M).getD v false = true → S v
  | 0, M, _, _, hS, v, hv => hS v hv
  | k + 1, M, hk, hM, hS, v, hv => by
    rw [gBack] at hv
    refine gBack_sub h h1 h2 k _ (by omega) ?_ (fun u hu => ?_) v hv
    · split
      · rw [markM_len, markM_len]; exact hM
      · exact hM
    · rcases (gStep h (by omega) hM u).1 hu with h3 | ⟨h3, h4⟩
      · exact hS u h3
      · have h5 := hS _ h3
        have h6 := h1 _ h5
        have h7 := h2 _ h5
        rw [inW_gate] at h6 h7
        rcases h4 with ⟨h8, rfl⟩ | ⟨h8, rfl⟩
        · exact h6 h8
        · exact h7 h8
/-- What is marked needs nothing that isn't. -/
def ClosedW (c : NormC) (M : List Bool) (b : Nat) : Prop := ∀ u, b ≤ u → M.getD u false = true → (0 < (inW c u).1 / 2 → M.getD ((inW c u).1 / 2) false = true) ∧ (0 < (inW c u).2 / 2 → M.getD ((inW c u).2 / 2) false = true)
theorem gBack_closed (h : MayC c) : ∀ (k : Nat) (M : List Bool), k ≤ c.gates.length → M.length = 1 + varsN c → ClosedW c M (fstG c + k) → ClosedW c (gBack c k M) (fstG c)
  | 0, M, _, _, hC => hC
  | k + 1, M, hk, hM, hC => by
    rw [gBack]
    refine gBack_closed h k _ (by omega) ?_ (fun u hu hm => ?_)
    · split
      · rw [markM_len, markM_len]; exact hM
      · exact hM
    · have hl := gate_lt h (show k < c.gates.length by omega)
      have gs := fun v => gStep h (show k < c.gates.length by omega) hM v
      rcases (gs u).1 hm with h3 | ⟨h3, h4⟩
      · rcases Nat.lt_or_ge (fstG c + k) u with h5 | h5
        · have h6 := hC u (by omega) h3
          exact ⟨fun h0 => (gs _).2 (.inl (h6.1 h0)), fun h0 => (gs _).2 (.inl (h6.2 h0))⟩
        · obtain rfl : u = fstG c + k := by omega
          rw [inW_gate]
          exact ⟨fun h0 => (gs _).2 (.inr ⟨h3, .inl ⟨h0, rfl⟩⟩), fun h0 => (gs _).2 (.inr ⟨h3, .inr ⟨h0, rfl⟩⟩)⟩
      · rcases h4 with ⟨_, rfl⟩ | ⟨_, rfl⟩ <;> omega
theorem gAll_closed (h : MayC c) {M : List Bool} (hM : M.length = 1 + varsN c) : ClosedW c (gAll c M) 0 := by
  have h1 := gBack_closed h c.gates.length M (Nat.le_refl _) hM (fun u hu hm => by
    have := getD_true_lt hm
    rw [hM] at this
    unfold fstG varsN at *
    omega)
  intro u _ hm
  rcases Nat.lt_or_ge u (fstG c) with h2 | h2
  · have : inW c u = (0, 0) := by unfold inW; rw [if_neg (by omega)]
    rw [this]
    exact ⟨fun h0 => by simp at h0, fun h0 => by simp at h0⟩
  · exact h1 u h2 hm
/-- What the reference's Of marks. -/
theorem ref_of {lits : List Nat} (h : MayC c) (hl : ∀ x ∈ lits, x / 2 ≤ varsN c) : IsCone (inW c) lits (1 + varsN c) (gAll c (marksM (List.replicate (1 + varsN c) false) lits)) := by
  have hz : ∀ v, (List.replicate (1 + varsN c) false).getD v false = false := fun v => by simp [List.getD, List.getElem?_replicate]; split <;> simp
  have hl' : ∀ x ∈ lits, x / 2 < (List.replicate (1 + varsN c) false).length := fun x hx => by have := hl x hx; simp; omega
  have hM : (marksM (List.replicate (1 + varsN c) false) lits).length = 1 + varsN c := by rw [marksM_len]; simp
  have hcl := gAll_closed h hM
  refine IsCone.of (by unfold gAll; rw [gBack_len]; exact hM) (fun v _ hv => ?_) (fun x hx h0 => ?_) (fun u hu h0 => (hcl u (Nat.zero_le _) hu).1 h0) (fun u hu h0 => (hcl u (Nat.zero_le _) hu).2 h0)
  · refine gBack_sub h (S := Rch (inW c) lits) (fun u hu h0 => hu.fst h0) (fun u hu h0 => hu.snd h0) _ _ (Nat.le_refl _) hM (fun u hu => ?_) v hv
    rcases (marksM_at lits _ u hl').1 hu with h1 | ⟨x, h1, h2, rfl⟩
    · rw [hz] at h1; cases h1
    · exact Rch.root h1 h2
  · exact gBack_ge h _ _ (Nat.le_refl _) hM _ ((marksM_at lits _ _ hl').2 (.inr ⟨x, hx, h0, rfl⟩))

/-- What holds in the reference's search across: all is marked that is reached so far, and no more. -/
structure EvI (c : NormC) (lits : List Nat) (M : List Bool) : Prop where
  len : M.length = 1 + varsN c
  roots : ∀ x ∈ lits, 0 < x / 2 → M.getD (x / 2) false = true
  closed : ClosedW c M 0
  snd : ∀ v, M.getD v false = true → Rch (inA c) lits v
theorem EvI.start {lits : List Nat} {M : List Bool} (h : IsCone (inW c) lits (1 + varsN c) M) (hm : MayC c) (hl : ∀ x ∈ lits, x / 2 ≤ varsN c) : EvI c lits M := by
  have lt : ∀ u, M.getD u false = true → u < 1 + varsN c := fun u hu => by rw [← h.len]; exact getD_true_lt hu
  refine ⟨h.len, fun x hx h0 => (h.iff _ (by have := hl x hx; omega)).2 (Rch.root hx h0), fun u _ hu => ?_, fun v hv => rch_across ((h.iff v (lt v hv)).1 hv)⟩
  have h1 := (h.iff u (lt u hu)).1 hu
  have h2 := inW_lt hm u
  exact ⟨fun h0 => (h.iff _ (by omega)).2 (h1.fst h0), fun h0 => (h.iff _ (by omega)).2 (h1.snd h0)⟩
theorem next_lt (hm : MayC c) (M : List Bool) : ∀ x ∈ nxL c M, x / 2 < 1 + varsN c := fun x hx => by
  obtain ⟨i, hi, _, rfl⟩ := mem_nxL.1 hx
  have := (hm.lats _ (getD_mem (d := (0, 0)) hi)).1
  omega
theorem EvI.step {lits : List Nat} {M : List Bool} (h : EvI c lits M) (hm : MayC c) : EvI c lits (gAll c (marksM M (nxL c M))) ∧ (∀ v, M.getD v false = true → (gAll c (marksM M (nxL c M))).getD v false = true) ∧ (∀ x ∈ nxL c M, 0 < x / 2 → (gAll c (marksM M (nxL c M))).getD (x / 2) false = true) := by
  have hl : ∀ x ∈ nxL c M, x / 2 < M.length := fun x hx => by rw [h.len]; exact next_lt hm M x hx
  have hM : (marksM M (nxL c M)).length = 1 + varsN c := by rw [marksM_len]; exact h.len
  have ge : ∀ v, (marksM M (nxL c M)).getD v false = true → (gAll c (marksM M (nxL c M))).getD v false = true := fun v hv => gBack_ge hm _ _ (Nat.le_refl _) hM v hv
  have up : ∀ v, M.getD v false = true → (gAll c (marksM M (nxL c M))).getD v false = true := fun v hv => ge v ((marksM_at _ _ v hl).2 (.inl hv))
  refine ⟨⟨by unfold gAll; rw [gBack_len]; exact hM, fun x hx h0 => up _ (h.roots x hx h0), gAll_closed hm hM, fun v hv => ?_⟩, up, fun x hx h0 => ge _ ((marksM_at _ _ _ hl).2 (.inr ⟨x, hx, h0, rfl⟩))⟩
  have nomix : ∀ u, 0 < (inW c u).1 / 2 ∨ 0 < (inW c u).2 / 2 → inA c u = inW c u := fun u hu => by
    unfold inA
    rw [if_neg]
    intro h1
    unfold inW at hu
    rw [if_neg (by omega)] at hu
    simp at hu
  refine gBack_sub hm (S := Rch (inA c) lits) (fun u hu h0 => ?_) (fun u hu h0 => ?_) _ _ (Nat.le_refl _) hM (fun u hu => ?_) v hv
  · have e := nomix u (.inl h0)
    rw [← e] at h0 ⊢
    exact hu.fst h0
  · have e := nomix u (.inr h0)
    rw [← e] at h0 ⊢
    exact hu.snd h0
  · rcases (marksM_at _ _ u hl).1 hu with h1 | ⟨x, h1, h2, rfl⟩
    · exact h.snd u h1
    · obtain ⟨i, hi, h3, rfl⟩ := mem_nxL.1 h1
      have e : (inA c (fstL c + i)).1 = (c.lats.getD i (0, 0)).1 := by
        unfold inA
        rw [if_pos ⟨by omega, by unfold fstL fstG; omega⟩, Nat.add_sub_cancel_left]
      have := (h.snd _ h3).fst (by rw [e]; exact h2)
      rw [e] at this
      exact this
theorem cnt1 (x : Bool) (r : List Bool) : (x :: r).count true = r.count true + (if x = true then 1 else 0) := by cases x <;> simp
/-- Where no more are marked, all is. -/
theorem EvI.done {lits : List Nat} {M P : List Bool} (h : EvI c lits M) (hP : P.length = 1 + varsN c) (hup : ∀ v, P.getD v false = true → M.getD v false = true) (hnx : ∀ x ∈ nxL c P, 0 < x / 2 → M.getD (x / 2) false = true) (hc : M.count true ≤ P.count true) : IsCone (inA c) lits (1 + varsN c) M := by
  have key : ∀ (a b : List Bool), a.length = b.length → (∀ v, a.getD v false = true → b.getD v false = true) → b.count true ≤ a.count true → a = b := by
    intro a
    induction a with
    | nil => intro b hl _ _; cases b with
      | nil => rfl
      | cons y t => simp at hl
    | cons x r ih =>
      intro b hl hv hcn
      cases b with
      | nil => simp at hl
      | cons y t =>
        have hr : ∀ v, r.getD v false = true → t.getD v false = true := fun v h => by have := hv (v + 1) (by simpa using h); simpa using this
        have hle : ∀ (a b : List Bool), a.length = b.length → (∀ v, a.getD v false = true → b.getD v false = true) → a.count true ≤ b.count true := by
          intro a
          induction a with
          | nil => intro b _ _; simp
          | cons x r ih =>
            intro b hl hv
            cases b with
            | nil => simp at hl
            | cons y t =>
              have h1 := ih t (by simpa using hl) (fun v h => by have := hv (v + 1) (by simpa using h); simpa using this)
              have h2 := hv 0
              simp only [List.getD_cons_zero] at h2
              rw [cnt1 x r, cnt1 y t]
              cases x with
              | false => simp only [Bool.false_eq_true, if_false]; omega
              | true => rw [h2 rfl]; simp only [if_true]; omega
        have h1 := hle r t (by simpa using hl) hr
        have h2 := hv 0
        simp only [List.getD_cons_zero] at h2
        rw [cnt1 x r, cnt1 y t] at hcn
        have h3 : x = y ∧ t.count true ≤ r.count true := by
          cases x with
          | false =>
            cases y with
            | false => exact ⟨rfl, by simpa using hcn⟩
            | true => simp only [Bool.false_eq_true, if_false, if_true] at hcn; omega
          | true =>
            rw [h2 rfl] at hcn ⊢
            exact ⟨rfl, by simpa using hcn⟩
        rw [h3.1, ih t (by simpa using hl) hr h3.2]
  have e := key P M (by rw [hP, h.len]) hup hc
  subst e
  have lt : ∀ u, P.getD u false = true → u < 1 + varsN c := fun u hu => by rw [← hP]; exact getD_true_lt hu
  refine IsCone.of h.len (fun v _ hv => h.snd v hv) h.roots (fun u hu h0 => ?_) (fun u hu h0 => ?_)
  · unfold inA at h0 ⊢
    split at h0
    · rename_i h1
      rw [if_pos h1]
      refine hnx _ (mem_nxL.2 ⟨u - fstL c, by unfold fstL fstG at *; omega, ?_, rfl⟩) h0
      rw [show fstL c + (u - fstL c) = u by omega]
      exact hu
    · rename_i h1
      rw [if_neg h1]
      exact (h.closed u (Nat.zero_le _) hu).1 h0
  · unfold inA at h0 ⊢
    split at h0
    · simp at h0
    · rename_i h1
      rw [if_neg h1]
      exact (h.closed u (Nat.zero_le _) hu).2 h0
end
end Go.Proofs.Ytdheldhecimfnaa
/- The reference's mark, many and gates, by their contracts. -/
namespace Go.Proofs.Ytdheldhecimfnaa
open Go Go.RowKit Go.Joins

theorem mark_grown (w : World) (g i : Nat) (v : Value) : w.grownBy (w.setCell ⟨g, i, none⟩ v) (some g) :=
  ⟨rfl, rfl, rfl, ((Below.refl 0 w).setCell (p := ⟨g, i, none⟩) (Nat.zero_le _) v).size, fun D _ hr => Below.heap_setCell w ⟨g, i, none⟩ v D (fun e => hr (by rw [e]))⟩
set_option maxRecDepth 100000 in
theorem mark9_any (g n : Nat) (M : List Bool) (x : Nat) (w : World) (h : w.heap[g]? = some (.cells (bcells M) 4 (0, 0))) (hl : M.length = n) (hn : n ≤ 1000000) (hx : x / 2 < n) :
    Calls Try.prog 28 #[.slice (some ⟨g, 0, none⟩) n n, .int .u32 (x : Int)] w fun e w' => e = .returned (.tuple #[]) ∧ w'.heap[g]? = some (.cells (bcells (markM M x)) 4 (0, 0)) ∧ w.grownBy w' (some g) := by
  by_cases h1 : 1 < x
  · have e1 : decide ((1 : Int) < (x : Int)) = true := by simp; omega
    have e2 : markM M x = M.set (x / 2) true := if_pos h1
    have h2 := block_setCell h (i := x / 2) (.bool true)
    rw [bcells_set] at h2
    have H2 := Lib.hid h2
    have E2 := Lib.hid e2
    have c1 := (cell_of_block h (x / 2)).trans (bcells_get M (x / 2) (by rw [hl]; exact hx))
    have c2 := unfrozen_of_block h (x / 2)
    have hz : (0 : Int) ≤ (x : Int) / 2 := by omega
    have m1 : x / 2 % 4294967296 = x / 2 := by omega
    have m2 : (x : Int) / 2 % 4294967296 = (x : Int) / 2 := by omega
    clear h h2 e2 hl
    go_enter Try.func28, Try.ntmps28
    go_wp2
    go_end0
    exact ⟨rfl, by rw [E2.out]; exact H2.out, mark_grown w g (x / 2) _⟩
  · have e1 : decide ((1 : Int) < (x : Int)) = false := by simp; omega
    have e1' : decide (1 < x) = false := by simpa using h1
    have e2 : markM M x = M := if_neg h1
    have E2 := Lib.hid e2
    have H := Lib.hid h
    clear h hl h1 e2
    go_enter Try.func28, Try.ntmps28
    go_wp2
    go_end0
    exact ⟨rfl, by rw [E2.out]; exact H.out, World.grownBy.refl _ _⟩

theorem count_take {M : List Bool} {k : Nat} (h : k < M.length) : (M.take (k + 1)).count true = (M.take k).count true + (if M.getD k false = true then 1 else 0) := by
  rw [List.take_succ_eq_append_getElem h, List.count_append]
  have e : M.getD k false = M[k] := by simp [List.getD, List.getElem?_eq_getElem h]
  rw [e]
  cases M[k] <;> simp
set_option maxRecDepth 100000 in
theorem many9_any (g n : Nat) (M : List Bool) (w : World) (h : w.heap[g]? = some (.cells (bcells M) 4 (0, 0))) (hl : M.length = n) (hn : n ≤ 1000000) :
    Calls Try.prog 31 #[.slice (some ⟨g, 0, none⟩) n n] w fun e w' => e = .returned (.int .i64 ((M.count true : Nat) : Int)) ∧ w' = w := by
  have H := Lib.hid h
  have HL := Lib.hid hl
  clear h hl
  go_enter Try.func31, Try.ntmps31
  go_wp2
  go_loop [4, 3] (fun iv nv => ∃ (k m : Nat), k ≤ n ∧ iv = .int .i64 k ∧ nv = .int .i64 (m : Int) ∧ m ≤ k ∧ Hid (m = (M.take k).count true)) (fun iv _ => n - (intOf iv).toNat)
  case atStart => exact ⟨0, 0, Nat.zero_le _, rfl, rfl, Nat.le_refl _, rfl⟩
  case round =>
    obtain ⟨k, m, hk, rfl, rfl, hmk, hm⟩ := hrel
    by_cases hlt : k < n
    · have c1 := (cell_of_block H.out k).trans (bcells_get M k (by rw [HL.out]; exact hlt))
      obtain ⟨q, hq⟩ : ∃ q, q = M.getD k false := ⟨_, rfl⟩
      rw [← hq] at c1
      have hc := count_take (show k < M.length by rw [HL.out]; exact hlt)
      rw [← hq] at hc
      have HC := Lib.hid hc
      have W1 : IntKind.i64.wrap ((k : Int) + 1) = (k : Int) + 1 := IntWalk.i64_in _ (by omega)
      have W2 : IntKind.i64.wrap ((m : Int) + 1) = (m : Int) + 1 := IntWalk.i64_in _ (by omega)
      clear hq hc
      cases q with
      | false =>
        have HM : Hid (m = (M.take (k + 1)).count true) := by unfold Hid; rw [HC.out, ← hm.out]; rfl
        go_wp2
        go_round
        case rel => exact ⟨k + 1, m, by omega, by go_num, rfl, by omega, HM.out⟩
        case measure => simp [intOf]; omega
      | true =>
        have HM : Hid (m + 1 = (M.take (k + 1)).count true) := by unfold Hid; rw [HC.out, ← hm.out]; rfl
        go_wp2
        go_round
        case rel => exact ⟨k + 1, m + 1, by omega, by go_num, by go_num, by omega, HM.out⟩
        case measure => simp [intOf]; omega
    · obtain rfl : n = k := by omega
      have HM : Hid (m = M.count true) := by unfold Hid; rw [hm.out, List.take_of_length_le (by rw [HL.out]; exact Nat.le_refl _)]
      clear hm
      go_wp2
      go_ret
      exact ⟨by rw [← HM.out]; rfl, rfl⟩

/-- What the marks of a search lie in. -/
structure MSt (w0 : World) (g : Nat) (M : List Bool) (w : World) : Prop where
  low : Below w0.heap.size w0 w
  blk : w.heap[g]? = some (.cells (bcells M) 4 (0, 0))
theorem MSt.below {w0 : World} {g : Nat} {M : List Bool} {w w' : World} (h : MSt w0 g M w) (hb : Below w.heap.size w w') : MSt w0 g M w' := ⟨ext_trans h.low hb, heap_below h.blk hb⟩
theorem MSt.turn {w0 : World} {g : Nat} {M M' : List Bool} {w w' : World} (h : MSt w0 g M w) (hg : w.grownBy w' (some g)) (h0 : w0.heap.size ≤ g) (hb : w'.heap[g]? = some (.cells (bcells M') 4 (0, 0))) : MSt w0 g M' w' :=
  ⟨h.low.grown hg h.low.size (fun k e => by cases e; exact h0), hb⟩
theorem grown_trans {a b d : World} {r : Option Nat} (h : a.grownBy b r) (k : b.grownBy d r) : a.grownBy d r :=
  ⟨k.os.trans h.os, k.tape.trans h.tape, k.output.trans h.output, Nat.le_trans h.size k.size, fun D hD hr => (k.block D (Nat.lt_of_lt_of_le hD h.size) hr).trans (h.block D hD hr)⟩
theorem grown_of_below {a b : World} (h : Below a.heap.size a b) (r : Option Nat) : a.grownBy b r := ⟨h.os, h.tape, h.output, h.size, fun D hD _ => h.block D hD⟩

set_option maxRecDepth 100000 in
set_option maxHeartbeats 3200000 in
theorem gates9_any (c : NormC) (s : CSlots) (w0 : World) (g : Nat) (M : List Bool) (w : World) (h : SeesCir w0 s c) (hs : s.small) (hm : MayC c) (hst : MSt w0 g M w) (hg : w0.heap.size ≤ g) (hl : M.length = 1 + varsN c) :
    Calls Try.prog 29 #[cirV c.ins s, .slice (some ⟨g, 0, none⟩) (1 + varsN c) (1 + varsN c)] w fun e w' => e = .returned (.tuple #[]) ∧ w'.heap[g]? = some (.cells (bcells (gAll c M)) 4 (0, 0)) ∧ w.grownBy w' (some g) := by
  obtain ⟨i, hii, hi2, hL, hG⟩ := insN hm
  have hl1 : c.lats.length = s.n1 := h.s1.1
  have hl2 : c.gates.length = s.n2 := h.s2.1
  have hfew := hm.few
  obtain ⟨FG, hFG⟩ : ∃ FG, FG = 1 + i + s.n1 := ⟨_, rfl⟩
  have hGG : fstG c = FG := by rw [hG, hFG, hl1]
  obtain ⟨N, hN⟩ : ∃ N, N = 1 + varsN c := ⟨_, rfl⟩
  rw [← hN] at hl ⊢
  have hFN : FG + s.n2 = N := by unfold varsN at hN; unfold fstG at hGG; omega
  have hN2 : N ≤ 16385 := by omega
  have HS := Lib.hid h
  have HM := Lib.hid hm
  have hgw : g < w.heap.size := heap_lt hst.blk
  have HST := Lib.hid hst
  have HLt : Hid (∀ k, k < s.n2 → (c.gates.getD k (0, 0)).1 / 2 < N ∧ (c.gates.getD k (0, 0)).2 / 2 < N) := fun k hk => by
    have h1 := gate_lt hm (show k < c.gates.length by omega)
    omega
  have HALL : Hid (gBack c s.n2 M = gAll c M) := by unfold Hid gAll; rw [hl2]
  have HSTEP : Hid (∀ k (P : List Bool), gBack c (k + 1) P = gBack c k (if P.getD (FG + k) false = true then markM (markM P (c.gates.getD k (0, 0)).1) (c.gates.getD k (0, 0)).2 else P)) := fun k P => by rw [gBack, hGG]
  have hs1 := hs.n1
  have hs2 := hs.n2
  rw [hii]
  have HN := Lib.hid (And.intro hFN hl)
  have W1 : IntKind.i64.wrap ((1 : Int) + (i : Int)) = (1 : Int) + (i : Int) := IntWalk.i64_in _ (by omega)
  have W2 : IntKind.i64.wrap ((1 : Int) + (i : Int) + (s.n1 : Int)) = (FG : Int) := by rw [IntWalk.i64_in _ (by omega)]; omega
  have W3 : IntKind.i64.wrap ((s.n2 : Int) - 1) = (s.n2 : Int) - 1 := IntWalk.i64_in _ (by omega)
  clear hii hL hG hl1 hl2 hFG hGG hN h hs hm hst hfew hFN hl
  unfold cirV
  go_enter Try.func29, Try.ntmps29
  go_upto_region 1 with fail
  generalize hW : World.alloc w _ = V
  have hX : V.heap[w.heap.size]? = some (.cells (cirCells (i : Int) s) 26 (0, 0)) := by subst hW; exact heap_new _ _ _ rfl
  have hbV : Below w.heap.size w V := by subst hW; exact ext_alloc _ _
  have HX := Lib.hid hX
  have HBV := Lib.hid hbV
  have HSV := Lib.hid (HST.out.below hbV)
  clear hW hX hbV HST
  have p0 : V.cell? ⟨w.heap.size, 0, none⟩ = some (.int .i64 (i : Int)) := cell_of_block HX.out 0
  have p1 : V.cell? ⟨w.heap.size, 1, none⟩ = some (.slice s.a1 s.n1 s.c1) := cell_of_block HX.out 1
  have p2 : V.cell? ⟨w.heap.size, 2, none⟩ = some (.slice s.a2 s.n2 s.c2) := cell_of_block HX.out 2
  go_wp2
  clear p0 p1 p2 W1 W2 W3
  go_loopw [5] (fun iv wr => ∃ (k : Nat) (z : Int) (P : List Bool), k ≤ s.n2 ∧ z + 1 = (k : Int) ∧ iv = .int .i64 z ∧ Hid (gBack c k P = gAll c M) ∧ Hid (P.length = N) ∧ Hid (MSt w0 g P wr) ∧ Hid (V.grownBy wr (some g))) (fun iv _ => (intOf iv + 1).toNat)
  case atStart => exact ⟨s.n2, (s.n2 : Int) - 1, M, Nat.le_refl _, by omega, rfl, HALL.out, HN.out.2, HSV.out, World.grownBy.refl _ _⟩
  case round =>
    clear HSV HALL
    obtain ⟨k, z, P, hk, hz, rfl, hP, hPl, hS, hV⟩ := hrel
    by_cases hlt : 0 < k
    · obtain ⟨j, rfl⟩ : ∃ j, k = j + 1 := ⟨k - 1, by omega⟩
      obtain rfl : z = (j : Int) := by omega
      clear hz hlt
      have hj : j < s.n2 := hk
      obtain ⟨gb, go, hga, _⟩ := HS.out.s2.addr (show 0 < s.n2 by omega)
      have hgs := HS.out.s2.below hS.out.low
      rw [hga] at hgs
      obtain ⟨q0, q1⟩ := hgs.cells j hj (0, 0)
      have hlt2 := HLt.out j hj
      obtain ⟨x, hx⟩ : ∃ x, x = (c.gates.getD j (0, 0)).1 := ⟨_, rfl⟩
      obtain ⟨y, hy⟩ : ∃ y, y = (c.gates.getD j (0, 0)).2 := ⟨_, rfl⟩
      have hst := HSTEP.out j P
      rw [← hx] at q0 hlt2 hst
      rw [← hy] at q1 hlt2 hst
      unfold nv32 at q0 q1
      obtain ⟨ix, hix⟩ : ∃ ix, ix = FG + j := ⟨_, rfl⟩
      have hixn : ix < N := by have := HN.out.1; omega
      rw [← hix] at hst
      have cm := (cell_of_block hS.out.blk ix).trans (bcells_get P ix (by rw [hPl.out]; exact hixn))
      obtain ⟨q, hq⟩ : ∃ q, q = P.getD ix false := ⟨_, rfl⟩
      rw [← hq] at cm hst
      have hgX : (some g : Option Nat) ≠ some w.heap.size := fun e => by cases e; omega
      have hXr := heap_grown HX.out hV.out hgX
      have p2 : wr.cell? ⟨w.heap.size, 2, none⟩ = some (.slice s.a2 s.n2 s.c2) := cell_of_block hXr 2
      rw [hga] at p2
      have hjz : (0 : Int) ≤ (j : Int) := by omega
      have hjn : (j : Int) < (s.n2 : Int) := by omega
      have W1' : IntKind.i64.wrap ((FG : Int) + (j : Int)) = (ix : Int) := by rw [hix, IntWalk.i64_in _ (by omega)]; omega
      have W2' : IntKind.i64.wrap ((j : Int) - 1) = (j : Int) - 1 := IntWalk.i64_in _ (by omega)
      have hST := Lib.hid hst
      have HS1 := Lib.hid hS.out
      have HV1 := Lib.hid hV.out
      have HP1 := Lib.hid hP.out
      have HPL := Lib.hid hPl.out
      have HL2 := Lib.hid hlt2
      have HGA := Lib.hid hga
      have HY := Lib.hid hy
      clear hx hy hq hix hst hS hV hP hPl hlt2 hXr hgs hga
      cases q with
      | false =>
        have HP2 : Hid (gBack c j P = gAll c M) := by have := HP1.out; rw [hST.out, if_neg (by decide)] at this; exact this
        go_wp2
        go_roundw
        case rel => exact ⟨j, (j : Int) - 1, P, by omega, by omega, rfl, HP2.out, HPL.out, HS1.out, HV1.out⟩
        case measure => simp [intOf]
      | true =>
        have HP2 : Hid (gBack c j (markM (markM P x) y) = gAll c M) := by have := HP1.out; rw [hST.out, if_pos rfl] at this; exact this
        go_wp2_with fail
        refine (mark9_any g N P x wr HS1.out.blk HPL.out (by omega) HL2.out.1).mono ?_
        rintro e w1 ⟨rfl, hb1, hg1⟩
        have HS2 := Lib.hid (HS1.out.turn hg1 hg hb1)
        have HV2 := Lib.hid (grown_trans HV1.out hg1)
        have HPL2 : Hid ((markM P x).length = N) := by unfold Hid; rw [markM_len]; exact HPL.out
        clear hb1 hg1 q0 q1 p2 cm
        have hgs := HS.out.s2.below HS2.out.low
        rw [HGA.out] at hgs
        obtain ⟨_, q1⟩ := hgs.cells j hj (0, 0)
        rw [← HY.out] at q1
        unfold nv32 at q1
        have p2 : w1.cell? ⟨w.heap.size, 2, none⟩ = some (.slice s.a2 s.n2 s.c2) := cell_of_block (heap_grown HX.out HV2.out hgX) 2
        rw [HGA.out] at p2
        clear hgs
        go_wp2_with fail
        refine (mark9_any g N (markM P x) y w1 HS2.out.blk HPL2.out (by omega) HL2.out.2).mono ?_
        rintro e w2 ⟨rfl, hb2, hg2⟩
        have HS3 := Lib.hid (HS2.out.turn hg2 hg hb2)
        have HV3 := Lib.hid (grown_trans HV2.out hg2)
        have HPL3 : Hid ((markM (markM P x) y).length = N) := by unfold Hid; rw [markM_len]; exact HPL2.out
        clear hb2 hg2 q1 p2
        go_wp2
        go_roundw
        case rel => exact ⟨j, (j : Int) - 1, _, by omega, by omega, rfl, HP2.out, HPL3.out, HS3.out, HV3.out⟩
        case measure => simp [intOf]
    · obtain rfl : k = 0 := by omega
      have hzn : z < 0 := by omega
      have HP : Hid (P = gAll c M) := hP.out
      have HS9 := Lib.hid hS.out
      have HV9 := Lib.hid hV.out
      clear hP hS hV
      go_wp2
      go_end0
      exact ⟨rfl, by rw [← HP.out]; exact HS9.out.blk, grown_trans (grown_of_below HBV.out _) HV9.out⟩
end Go.Proofs.Ytdheldhecimfnaa
/- The reference's nexts, by its contract. -/
namespace Go.Proofs.Ytdheldhecimfnaa
open Go Go.RowKit Go.Joins

set_option maxRecDepth 100000 in
set_option maxHeartbeats 3200000 in
theorem rnexts_any (c : NormC) (M : List Bool) (s : CSlots) (a : Option Addr) (n cp : Nat) (w : World) (h : SeesCir w s c) (hs : s.small) (hm : MayC c) (hl : Sees w a n cp (M.map Value.bool)) (hn : n = 1 + varsN c) :
    Calls Try.prog 32 #[cirV c.ins s, .slice a n cp] w (NextsPost (nxL c M) w) := by
  obtain ⟨i0, hi, hz0, hz1, hz2⟩ := info_parts info_u32
  obtain ⟨i, hii, hi2, hL, hG⟩ := insN hm
  have hl1 : c.lats.length = s.n1 := h.s1.1
  have hfew := hm.few
  obtain ⟨FL, hFL⟩ : ∃ FL, FL = 1 + i := ⟨_, rfl⟩
  have hLL : fstL c = FL := by rw [hL, hFL]
  have hvn : FL + s.n1 ≤ n := by unfold varsN at hn; unfold fstL at hLL; omega
  have hFLs : FL ≤ 20000 := by omega
  have hns : s.n1 ≤ 1048576 := hs.n1
  have HS := Lib.hid h
  have HM := Lib.hid hl
  have HPOST : Hid (∀ (a : Option Addr) (cc : Nat) w', w'.ownsRow w.heap.size 53 1 (.slice a (nxP c M s.n1).length cc) (nxP c M s.n1).length ((nxP c M s.n1).map nv32) → Below w.heap.size w w' → NextsPost (nxL c M) w (.returned (.slice a (nxP c M s.n1).length cc)) w') := fun a cc w' h1 h2 => by
    rw [← hl1, nxP_all] at h1 ⊢
    exact ⟨a, cc, rfl, h1, h2⟩
  have HYES : Hid (∀ k, M.getD (FL + k) false = true → nxP c M (k + 1) = nxP c M k ++ [(c.lats.getD k (0, 0)).1]) := fun k hk => nxP_yes (by rw [hLL]; exact hk)
  have HNO : Hid (∀ k, M.getD (FL + k) false = false → nxP c M (k + 1) = nxP c M k) := fun k hk => nxP_no (by rw [hLL]; exact hk)
  have HPL : Hid (∀ k, (nxP c M k).length ≤ k) := nxP_len c M
  have W0 : IntKind.i64.wrap ((1 : Int) + (i : Int)) = (FL : Int) := by rw [hFL, IntWalk.i64_in _ (by omega)]; omega
  rw [hii]
  clear hii hL hG hl1 hFL hLL h hs hm hfew hl hn
  obtain ⟨a1, n1, c1, a2, n2, c2, a3, n3, c3, a4, n4, c4, a5, n5, c5⟩ := s
  simp only at hvn hns HPOST
  unfold cirV at *
  go_enter Try.func32, Try.ntmps32
  go_upto_region 1 with fail
  generalize hW : World.alloc w _ = W1
  have hX : W1.heap[w.heap.size]? = some (.cells #[.int .i64 i, .slice a1 n1 c1, .slice a2 n2 c2, .slice a3 n3 c3, .slice a4 n4 c4, .slice a5 n5 c5] 26 (0, 0)) := by subst hW; exact heap_new _ _ _ rfl
  have HX := Lib.hid hX
  have HB := Lib.hid (show Below w.heap.size w W1 by subst hW; exact ext_alloc _ _)
  clear hW hX
  go_wp2
  go_loopw [6, 5] (fun iv lv wr => ∃ (k : Nat) (va : Option Addr) (vc : Nat), k ≤ n1 ∧ iv = .int .i64 k ∧ lv = .slice va (nxP c M k).length vc ∧ Hid (wr.ownsRow w.heap.size 53 1 (.slice va (nxP c M k).length vc) (nxP c M k).length ((nxP c M k).map nv32)) ∧ Hid (wr.heap[w.heap.size]? = some (.cells #[.int .i64 i, .slice a1 n1 c1, .slice a2 n2 c2, .slice a3 n3 c3, .slice a4 n4 c4, .slice a5 n5 c5] 26 (0, 0))) ∧ Hid (Below w.heap.size w wr)) (fun iv _ _ => n1 - (intOf iv).toNat)
  case atStart => exact ⟨0, none, 0, Nat.zero_le _, rfl, rfl, ⟨rfl, .inl ⟨rfl, rfl⟩⟩, HX.out, HB.out⟩
  case round =>
    clear HX HB
    obtain ⟨k, va, vc, hk, rfl, rfl, hR, hX, hB⟩ := hrel
    obtain ⟨d, hd⟩ : ∃ d, d = nxP c M k := ⟨_, rfl⟩
    have hdk : d.length ≤ k := by rw [hd]; exact HPL.out k
    have HD := Lib.hid hd
    rw [← hd] at hR ⊢
    clear hd
    have HXK := Lib.hid hX.out
    have HRK := Lib.hid hR.out
    have HBK := Lib.hid hB.out
    clear hX hR hB
    have p0 : wr.cell? ⟨w.heap.size, 0, none⟩ = some (.int .i64 i) := cell_of_block HXK.out 0
    have p1 : wr.cell? ⟨w.heap.size, 1, none⟩ = some (.slice a1 n1 c1) := cell_of_block HXK.out 1
    by_cases hlt : k < n1
    · obtain ⟨b, off, hba, hbw⟩ := HS.out.s1.addr (show 0 < n1 by omega)
      simp only at hba
      subst hba
      obtain ⟨q0, q1⟩ := (HS.out.s1.below HBK.out).cells k hlt (0, 0)
      obtain ⟨x, hx⟩ : ∃ x, x = (c.lats.getD k (0, 0)).1 := ⟨_, rfl⟩
      rw [← hx] at q0
      unfold nv32 at q0
      obtain ⟨mb, mo, rfl, hmw⟩ := HM.out.addr (show 0 < n by omega)
      obtain ⟨ix, hix⟩ : ∃ ix, ix = FL + k := ⟨_, rfl⟩
      have hixn : ix < n := by omega
      have W1' : IntKind.i64.wrap ((FL : Int) + (k : Int)) = (ix : Int) := by rw [hix, IntWalk.i64_in _ (by omega)]; omega
      have W2' : IntKind.i64.wrap ((k : Int) + 1) = (k : Int) + 1 := IntWalk.i64_in _ (by omega)
      obtain ⟨q, hq⟩ : ∃ q, q = M.getD ix false := ⟨_, rfl⟩
      have HQ : Hid (q = M.getD (FL + k) false) := by unfold Hid; rw [hq, hix]
      have hcm := (HM.out.below HBK.out).bool_at ix hixn
      rw [← hq] at hcm
      have HXE := Lib.hid hx
      clear hx hbw hmw hix hq q1
      cases q with
      | false =>
        have HE : Hid (nxP c M (k + 1) = d) := by unfold Hid; rw [HNO.out k HQ.out.symm]; exact HD.out.symm
        clear HQ
        go_wp2
        go_roundw
        case rel => exact ⟨k + 1, va, vc, by omega, by go_num, by rw [HE.out], by rw [HE.out]; exact HRK.out, HXK.out, HBK.out⟩
        case measure => simp [intOf]; omega
      | true =>
        have HE : Hid (nxP c M (k + 1) = d ++ [x]) := by unfold Hid; rw [HYES.out k HQ.out.symm, ← HXE.out]; rw [HD.out]
        clear HQ HXE
        go_wp2_with (at_builtin; refine wpList_append_own_at _ rfl _ _ 24 rfl w.heap.size 53 i0 (.int .u32 0) 1 4 Try.underlying24 hi hz0 hz1 hz2 rfl (by decide) (.slice va d.length vc) d.length (d.map nv32) rfl (ownsN_below HRK.out (ext_alloc _ _)) ⟨wr.heap.size, 0, none⟩ 1 1 [.int .u32 (x : Int)] rfl rfl (cell_one_new _ _ _) (by simp [Value.oneCell']) ?c4 ?c5 ?c6 ?_)
        case c4 => unfold maxLen; omega
        case c5 => omega
        case c6 => have := HBK.out.size; simp; omega
        intro v' w4 hown' hgrow _ _
        have hal := ext_alloc wr (.cells #[.int .u32 (x : Int)] 53)
        have hro := ownsN_below HRK.out hal
        have hxo := heap_below HXK.out hal
        have hb0 := ext_trans HBK.out hal
        generalize hWA : wr.alloc (.cells #[.int .u32 (x : Int)] 53) = WA at hgrow hal hro hxo hb0
        have HB4 := Lib.hid (hb0.grown hgrow hb0.size (fun q hq => (hro.lt q hq).1))
        have HX4 := Lib.hid (heap_grown hxo hgrow (ownsN_notown hro hxo (by decide)))
        have e1 : d.map nv32 ++ [.int .u32 (x : Int)] = (d ++ [x]).map nv32 := by simp [nv32]
        rw [e1] at hown'
        have HO1 : Hid (w4.ownsRow w.heap.size 53 1 v' (d ++ [x]).length ((d ++ [x]).map nv32)) := by unfold Hid; simpa using hown'
        obtain ⟨gx, gxc, rfl⟩ := ownsN_form HO1.out
        rw [← HE.out] at HO1 ⊢
        clear hal hro hxo hb0 hWA hown' hgrow e1 p0 p1 q0
        go_wp2
        go_roundw
        case rel => exact ⟨k + 1, gx, gxc, by omega, by go_num, rfl, HO1.out, HX4.out, HB4.out⟩
        case measure => simp [intOf]; omega
    · obtain rfl : k = n1 := by omega
      have HP := HPOST.out va vc wr (by rw [← HD.out]; exact HRK.out) HBK.out
      rw [← HD.out] at HP
      have HPP := Lib.hid HP
      clear HP
      go_wp2
      go_ret
      exact HPP.out
end Go.Proofs.Ytdheldhecimfnaa
/- The reference's Of, by its contract. -/
namespace Go.Proofs.Ytdheldhecimfnaa
open Go Go.RowKit Go.Joins

theorem marks_take {L : List Nat} {k : Nat} (M : List Bool) (h : k < L.length) : marksM M (L.take (k + 1)) = markM (marksM M (L.take k)) (L.getD k 0) := by
  rw [List.take_succ_eq_append_getElem h, marksM_snoc]
  simp [List.getD, List.getElem?_eq_getElem h]

set_option maxRecDepth 100000 in
set_option maxHeartbeats 3200000 in
theorem rof_any (c : NormC) (lits : List Nat) (s : CSlots) (a : Option Addr) (n cp : Nat) (w : World) (h : SeesCir w s c) (hs : s.small) (hlo : -9223372036854775808 ≤ c.ins) (hhi : c.ins < 9223372036854775808) (hw : Wide c) (hl : Sees w a n cp (lits.map nv32)) (hn : n ≤ 1048576) (h32 : ∀ x ∈ lits, x < 4294967296) :
    Calls Try.prog 9 #[cirV c.ins s, .slice a n cp] w (OfPost (inW c) c lits w) := by
  obtain ⟨i0, hi, hz0, hz1, hz2⟩ := info_parts info_bool
  have HEX := Lib.hid (fun W (hb : Below w.heap.size w W) => told9_any c lits s a n cp W (h.below hb) hs hlo hhi hw (hl.below hb) hn h32)
  have HVA := Lib.hid (fun W (hb : Below w.heap.size w W) => refvars_any c s W (h.below hb) hs hlo hhi hw)
  obtain ⟨N, hN⟩ : ∃ N, N = 1 + varsN c := ⟨_, rfl⟩
  have HGA := Lib.hid (fun (ht : toldB c lits = true) g M W (hst : MSt w g M W) (hg : w.heap.size ≤ g) (hl : M.length = 1 + varsN c) => gates9_any c s w g M W h hs (toldB_iff.1 ht).1 hst hg hl)
  have HCO : Hid (toldB c lits = true → IsCone (inW c) lits N (gAll c (marksM (List.replicate N false) lits))) := fun ht => by
    subst hN
    have h1 := toldB_iff.1 ht
    have e : varsC c = varsN c := by unfold varsC; rw [if_pos (mayC_iff.2 h1.1)]
    exact ref_of h1.1 (fun x hx => by have := h1.2 x hx; omega)
  have HLT : Hid (toldB c lits = true → varsC c + 1 = N ∧ N ≤ 16385 ∧ ∀ x ∈ lits, x / 2 < N) := fun ht => by
    subst hN
    have h1 := toldB_iff.1 ht
    have e : varsC c = varsN c := by unfold varsC; rw [if_pos (mayC_iff.2 h1.1)]
    have := h1.1.few
    exact ⟨by omega, by omega, fun x hx => by have := h1.2 x hx; omega⟩
  have PNO : Hid (toldB c lits = false → ∀ w', Below w.heap.size w w' → OfPost (inW c) c lits w (.returned (.tuple #[.slice none 0 0, .int .i64 2])) w') := fun ht w' hb => .inl ⟨ht, rfl, hb⟩
  have PYES : Hid (toldB c lits = true → ∀ w' M g, IsCone (inW c) lits N M → w'.heap[g]? = some (.cells (bcells M) 4 (0, 0)) → w.heap.size ≤ g → Below w.heap.size w w' → OfPost (inW c) c lits w (.returned (.tuple #[.slice (some ⟨g, 0, none⟩) N N, .int .i64 0])) w') := fun ht w' M g h1 h2 h3 h4 => by subst hN; exact .inr ⟨ht, M, g, rfl, h1, h2, h3, h4⟩
  rw [← hN] at HGA
  obtain ⟨z, hz⟩ : ∃ z, z = c.ins := ⟨_, rfl⟩
  obtain ⟨q, hq⟩ : ∃ q, q = toldB c lits := ⟨_, rfl⟩
  obtain ⟨V, hV⟩ : ∃ V, V = varsC c := ⟨_, rfl⟩
  rw [← hz] at HEX HVA HGA ⊢
  rw [← hq] at HEX HGA HCO HLT PNO PYES
  rw [← hV] at HVA HLT
  have HLEN : Hid (lits.length = n) := hl.lenMap
  have HL := Lib.hid hl
  clear hz hq hV h hs hlo hhi hl hN hw h32
  unfold cirV at *
  go_enter Try.func9, Try.ntmps9
  go_upto_region 1 with fail
  generalize hW : World.alloc _ _ = W1
  have B1 : Below w.heap.size w W1 := by subst hW; exact ext_alloc _ _
  have hX : W1.heap[w.heap.size]? = some (.cells #[.int .i64 z, .slice s.a1 s.n1 s.c1, .slice s.a2 s.n2 s.c2, .slice s.a3 s.n3 s.c3, .slice s.a4 s.n4 s.c4, .slice s.a5 s.n5 s.c5] 26 (0, 0)) := by subst hW; exact heap_new _ _ _ rfl
  have HX := Lib.hid hX
  have HB := Lib.hid B1
  clear hW B1 hX
  have p0 := cell_of_block HX.out 0
  have p1 := cell_of_block HX.out 1
  have p2 := cell_of_block HX.out 2
  have p3 := cell_of_block HX.out 3
  have p4 := cell_of_block HX.out 4
  have p5 := cell_of_block HX.out 5
  go_wp2_with fail
  refine (HEX.out W1 HB.out).mono ?_
  rintro e W2 ⟨rfl, hb⟩
  have HX2 := Lib.hid (heap_below HX.out hb)
  have HB2 := Lib.hid (ext_trans HB.out hb)
  clear hb p0 p1 p2 p3 p4 p5 HX HB HEX
  cases q with
  | false =>
    have HP := Lib.hid (PNO.out rfl W2 HB2.out)
    go_wp2
    go_ret2
    exact HP.out
  | true =>
    have HP := Lib.hid (PYES.out rfl)
    have HC := Lib.hid (HCO.out rfl)
    have HG := Lib.hid (HGA.out rfl)
    have hlt := HLT.out rfl
    have HLT2 := Lib.hid hlt.2.2
    have hN2 := hlt.2.1
    have W0 : IntKind.i64.wrap ((V : Int) + 1) = (N : Int) := by rw [IntWalk.i64_in _ (by omega)]; omega
    clear hlt PNO PYES HCO HLT HGA
    have p0 := cell_of_block HX2.out 0
    have p1 := cell_of_block HX2.out 1
    have p2 := cell_of_block HX2.out 2
    have p3 := cell_of_block HX2.out 3
    have p4 := cell_of_block HX2.out 4
    have p5 := cell_of_block HX2.out 5
    go_wp2_with fail
    refine (HVA.out W2 HB2.out).mono ?_
    rintro e W3 ⟨rfl, hb⟩
    have HX3 := Lib.hid (heap_below HX2.out hb)
    have HB3 := Lib.hid (ext_trans HB2.out hb)
    clear hb p0 p1 p2 p3 p4 p5 HX2 HB2 HVA
    have mk := fun W => run_make_n (P := Try.prog) Try.underlying33 hi hz0 hz1 hz2 rfl N (by omega) (by omega) W
    rw [bcells_zero] at mk
    go_upto_region 4 with fail
    have hw1 := ext_alloc W3 (.cells (bcells (List.replicate N false)) 4)
    have hr1 : (W3.alloc (.cells (bcells (List.replicate N false)) 4)).heap[W3.heap.size]? = some (.cells (bcells (List.replicate N false)) 4 (0, 0)) := heap_new _ _ _ rfl
    have hg0 := HB3.out.size
    generalize hWA : W3.alloc (.cells (bcells (List.replicate N false)) 4) = WA at hw1 hr1 ⊢
    obtain ⟨g, hg⟩ : ∃ g, g = W3.heap.size := ⟨_, rfl⟩
    have hgX : w.heap.size ≠ g := by have := heap_lt HX3.out; omega
    have HGX : Hid ((some g : Option Nat) ≠ some w.heap.size) := fun e => by cases e; exact hgX rfl
    rw [← hg] at hr1 hg0 ⊢
    have HST := Lib.hid (show MSt w g (List.replicate N false) WA from ⟨ext_trans HB3.out hw1, hr1⟩)
    have HX4 := Lib.hid (heap_below HX3.out hw1)
    obtain ⟨Z, hZ⟩ : ∃ Z, Z = List.replicate N false := ⟨_, rfl⟩
    have HZL : Hid (Z.length = N) := by unfold Hid; rw [hZ]; simp
    rw [← hZ] at HST HC
    clear hw1 hr1 hWA hg hgX mk W0 HX3 HB3 hZ
    go_wp2
    go_loopw [7] (fun iv wr => ∃ k : Nat, k ≤ n ∧ iv = .int .i64 k ∧ Hid (MSt w g (marksM Z (lits.take k)) wr) ∧ Hid (wr.heap[w.heap.size]? = some (.cells #[.int .i64 z, .slice s.a1 s.n1 s.c1, .slice s.a2 s.n2 s.c2, .slice s.a3 s.n3 s.c3, .slice s.a4 s.n4 s.c4, .slice s.a5 s.n5 s.c5] 26 (0, 0)))) (fun iv _ => n - (intOf iv).toNat)
    case atStart => exact ⟨0, Nat.zero_le _, rfl, HST.out, HX4.out⟩
    case round =>
      clear HST HX4
      obtain ⟨k, hk, rfl, hS, hX⟩ := hrel
      obtain ⟨P, hP⟩ : ∃ P, P = marksM Z (lits.take k) := ⟨_, rfl⟩
      have HPL : Hid (P.length = N) := by unfold Hid; rw [hP, marksM_len]; exact HZL.out
      have HSK := Lib.hid hS.out
      have HXK := Lib.hid hX.out
      rw [← hP] at HSK
      have HPE := Lib.hid hP
      clear hP hS hX
      by_cases hlt : k < n
      · obtain ⟨b, off, rfl, _⟩ := HL.out.addr (show 0 < n by omega)
        have hcx := (HL.out.below HSK.out.low).num k hlt
        have hx32 := HLT2.out (lits.getD k 0) (getD_mem (by rw [HLEN.out]; exact hlt))
        obtain ⟨x, hx⟩ : ∃ x, x = lits.getD k 0 := ⟨_, rfl⟩
        rw [← hx] at hcx hx32
        have HM1 : Hid (marksM Z (lits.take (k + 1)) = markM P x) := by unfold Hid; rw [marks_take Z (by rw [HLEN.out]; exact hlt), ← HPE.out, ← hx]
        have HXX := Lib.hid hx32
        clear hx hx32
        have W1' : IntKind.i64.wrap ((k : Int) + 1) = (k : Int) + 1 := IntWalk.i64_in _ (by omega)
        go_wp2_with fail
        refine (mark9_any g N P x wr HSK.out.blk HPL.out (by omega) HXX.out).mono ?_
        rintro e w5 ⟨rfl, hb5, hg5⟩
        have HS5 := Lib.hid (HSK.out.turn hg5 hg0 hb5)
        have HX5 := Lib.hid (heap_grown HXK.out hg5 HGX.out)
        clear hb5 hg5 hcx
        go_wp2
        go_roundw
        case rel => exact ⟨k + 1, by omega, by go_num, by rw [HM1.out]; exact HS5.out, HX5.out⟩
        case measure => simp [intOf]; omega
      · obtain rfl : n = k := by omega
        have HPF : Hid (P = marksM Z lits) := by unfold Hid; rw [HPE.out, List.take_of_length_le (by rw [HLEN.out]; exact Nat.le_refl _)]
        have HGG := Lib.hid (HG.out g P wr HSK.out hg0 HPL.out)
        have p0 := cell_of_block HXK.out 0
        have p1 := cell_of_block HXK.out 1
        have p2 := cell_of_block HXK.out 2
        have p3 := cell_of_block HXK.out 3
        have p4 := cell_of_block HXK.out 4
        have p5 := cell_of_block HXK.out 5
        go_wp2_with fail
        refine HGG.out.mono ?_
        rintro e w5 ⟨rfl, hb5, hg5⟩
        have HPP := Lib.hid (HP.out w5 (gAll c P) g (by rw [HPF.out]; exact HC.out) hb5 hg0 (HSK.out.low.grown hg5 HSK.out.low.size (fun k e => by cases e; exact hg0)))
        clear hb5 hg5 p0 p1 p2 p3 p4 p5 HGG
        go_wp2
        go_ret2
        exact HPP.out
end Go.Proofs.Ytdheldhecimfnaa
/- The reference's Ever, by its contract. -/
namespace Go.Proofs.Ytdheldhecimfnaa
open Go Go.RowKit Go.Joins

theorem owns_kept {w w' : World} {base g : Nat} {v : Value} {n : Nat} {xs : List Value} {C : Array Value} (h : w.ownsRow base 53 1 v n xs) (hb : w.heap[g]? = some (.cells C 4 (0, 0))) (hg : w.grownBy w' (some g)) : w'.ownsRow base 53 1 v n xs :=
  ownsN_other h fun q hq => hg.block q (h.lt q hq).2 (fun e => ownsN_notown h hb (by decide) (hq.trans e))
theorem nxL_few (c : NormC) (M : List Bool) (h : MayC c) : (nxL c M).length ≤ 16384 := by
  have h1 := h.few
  have h2 := nxP_len c M c.lats.length
  rw [nxP_all] at h2
  unfold varsN at h1
  omega

set_option maxRecDepth 100000 in
set_option maxHeartbeats 3200000 in
theorem rever_any (c : NormC) (lits : List Nat) (s : CSlots) (a : Option Addr) (n cp : Nat) (w : World) (h : SeesCir w s c) (hs : s.small) (hlo : -9223372036854775808 ≤ c.ins) (hhi : c.ins < 9223372036854775808) (hw : Wide c) (hl : Sees w a n cp (lits.map nv32)) (hn : n ≤ 1048576) (h32 : ∀ x ∈ lits, x < 4294967296) :
    Calls Try.prog 12 #[cirV c.ins s, .slice a n cp] w (OfPost (inA c) c lits w) := by
  obtain ⟨N, hN⟩ : ∃ N, N = 1 + varsN c := ⟨_, rfl⟩
  have HOF := Lib.hid (fun W (hb : Below w.heap.size w W) => rof_any c lits s a n cp W (h.below hb) hs hlo hhi hw (hl.below hb) hn h32)
  have HGA := Lib.hid (fun (ht : toldB c lits = true) g M W (hst : MSt w g M W) (hg : w.heap.size ≤ g) (hl : M.length = N) => gates9_any c s w g M W h hs (toldB_iff.1 ht).1 hst hg (by rw [← hN]; exact hl))
  have HNX := Lib.hid (fun (ht : toldB c lits = true) g M W (hst : MSt w g M W) (hl : M.length = N) => rnexts_any c M s (some ⟨g, 0, none⟩) N N W (h.below hst.low) hs (toldB_iff.1 ht).1 (sees_bcells hst.blk hl) hN)
  have HFEW : Hid (toldB c lits = true → N ≤ 16385 ∧ ∀ M, (nxL c M).length ≤ 16384) := fun ht => by
    have h1 := toldB_iff.1 ht
    have := h1.1.few
    exact ⟨by omega, fun M => nxL_few c M h1.1⟩
  have HST : Hid (toldB c lits = true → ∀ M, IsCone (inW c) lits N M → EvI c lits M) := fun ht M hM => by
    subst hN
    have h1 := toldB_iff.1 ht
    have e : varsC c = varsN c := by unfold varsC; rw [if_pos (mayC_iff.2 h1.1)]
    exact EvI.start hM h1.1 (fun x hx => by have := h1.2 x hx; omega)
  have HSP : Hid (toldB c lits = true → ∀ M, EvI c lits M → EvI c lits (gAll c (marksM M (nxL c M))) ∧ (∀ v, M.getD v false = true → (gAll c (marksM M (nxL c M))).getD v false = true) ∧ (∀ x ∈ nxL c M, 0 < x / 2 → (gAll c (marksM M (nxL c M))).getD (x / 2) false = true)) := fun ht M hM => hM.step (toldB_iff.1 ht).1
  have HDN : Hid (∀ M P : List Bool, EvI c lits M → P.length = N → (∀ v, P.getD v false = true → M.getD v false = true) → (∀ x ∈ nxL c P, 0 < x / 2 → M.getD (x / 2) false = true) → M.count true ≤ P.count true → IsCone (inA c) lits N M) := fun M P h1 h2 h3 h4 h5 => by
    subst hN
    exact h1.done h2 h3 h4 h5
  have HLX : Hid (toldB c lits = true → ∀ M, ∀ x ∈ nxL c M, x / 2 < N) := fun ht M x hx => by
    rw [hN]; exact next_lt (toldB_iff.1 ht).1 M x hx
  have HEL : Hid (∀ M, EvI c lits M → M.length = N) := fun M hM => by rw [hN]; exact hM.len
  have PNO : Hid (toldB c lits = false → ∀ w', Below w.heap.size w w' → OfPost (inA c) c lits w (.returned (.tuple #[.slice none 0 0, .int .i64 2])) w') := fun ht w' hb => .inl ⟨ht, rfl, hb⟩
  have PYES : Hid (toldB c lits = true → ∀ w' M g, IsCone (inA c) lits N M → w'.heap[g]? = some (.cells (bcells M) 4 (0, 0)) → w.heap.size ≤ g → Below w.heap.size w w' → OfPost (inA c) c lits w (.returned (.tuple #[.slice (some ⟨g, 0, none⟩) N N, .int .i64 0])) w') := fun ht w' M g h1 h2 h3 h4 => by subst hN; exact .inr ⟨ht, M, g, rfl, h1, h2, h3, h4⟩
  rw [← hN] at HGA
  have HNN := Lib.hid hN
  obtain ⟨z, hz⟩ : ∃ z, z = c.ins := ⟨_, rfl⟩
  rw [← hz] at HOF HGA HNX ⊢
  clear hz h hs hlo hhi hl hN hw h32 hn
  unfold cirV at *
  go_enter Try.func12, Try.ntmps12
  go_upto_region 1 with fail
  generalize hW : World.alloc _ _ = W1
  have B1 : Below w.heap.size w W1 := by subst hW; exact ext_alloc _ _
  have hX : W1.heap[w.heap.size]? = some (.cells #[.int .i64 z, .slice s.a1 s.n1 s.c1, .slice s.a2 s.n2 s.c2, .slice s.a3 s.n3 s.c3, .slice s.a4 s.n4 s.c4, .slice s.a5 s.n5 s.c5] 26 (0, 0)) := by subst hW; exact heap_new _ _ _ rfl
  have HX := Lib.hid hX
  have HB := Lib.hid B1
  clear hW B1 hX
  have p0 := cell_of_block HX.out 0
  have p1 := cell_of_block HX.out 1
  have p2 := cell_of_block HX.out 2
  have p3 := cell_of_block HX.out 3
  have p4 := cell_of_block HX.out 4
  have p5 := cell_of_block HX.out 5
  go_wp2_with fail
  refine (HOF.out W1 HB.out).mono ?_
  rintro e W2 he
  obtain ⟨ga, gn, er, M0, rfl, her, h2, h0, hb⟩ := he.any
  have HX2 := Lib.hid (heap_below HX.out hb)
  have HB2 := Lib.hid (ext_trans HB.out hb)
  clear hb p0 p1 p2 p3 p4 p5 HOF he
  rcases her with rfl | rfl
  · obtain ⟨ht, rfl, hcone, g, rfl, hblk, hg0⟩ := h0 rfl
    have HP := Lib.hid (PYES.out ht)
    have HSP2 := Lib.hid (HSP.out ht)
    have HLX2 := Lib.hid (HLX.out ht)
    have hfw := HFEW.out ht
    have hN2 := hfw.1
    have HFW := Lib.hid hfw.2
    rw [← HNN.out] at hcone ⊢
    have HE0 := Lib.hid (HST.out ht M0 hcone)
    have hgl : w.heap.size ≤ g := Nat.le_trans HB.out.size hg0
    have hgX : w.heap.size ≠ g := by have := heap_lt HX.out; omega
    have HGX : Hid ((some g : Option Nat) ≠ some w.heap.size) := fun e => by cases e; exact hgX rfl
    have HS0 := Lib.hid (show MSt w g M0 W2 from ⟨HB2.out, hblk⟩)
    have HGG := Lib.hid (fun M W hst hl => HGA.out ht g M W hst hgl hl)
    have HNG := Lib.hid (fun M W hst hl => HNX.out ht g M W hst hl)
    clear h2 h0 hcone hblk hg0 hgX hfw PYES PNO HSP HLX HFEW HST HGA HNX HB2 HX HB HNN ht
    go_wp2
    go_loopw [8, 9, 10] (fun nv _ _ wr => ∃ (zn : Int) (M : List Bool), nv = .int .i64 zn ∧ -1 ≤ zn ∧ zn ≤ (N : Int) ∧ Hid (EvI c lits M) ∧ Hid (zn = -1 ∨ ∃ P : List Bool, zn = ((P.count true : Nat) : Int) ∧ P.length = N ∧ (∀ v, P.getD v false = true → M.getD v false = true) ∧ ∀ x ∈ nxL c P, 0 < x / 2 → M.getD (x / 2) false = true) ∧ Hid (MSt w g M wr) ∧ Hid (wr.heap[w.heap.size]? = some (.cells #[.int .i64 z, .slice s.a1 s.n1 s.c1, .slice s.a2 s.n2 s.c2, .slice s.a3 s.n3 s.c3, .slice s.a4 s.n4 s.c4, .slice s.a5 s.n5 s.c5] 26 (0, 0)))) (fun nv _ _ _ => ((N : Int) - intOf nv).toNat)
    case atStart => exact ⟨-1, M0, rfl, by omega, by omega, HE0.out, .inl rfl, HS0.out, HX2.out⟩
    case round =>
      clear HS0 HX2 HE0
      obtain ⟨zn, M, rfl, hz1, hz2, hE, hZ, hS, hX⟩ := hrel
      obtain ⟨m, hm⟩ : ∃ m, m = M.count true := ⟨_, rfl⟩
      have HML := Lib.hid (HEL.out M hE.out)
      have hmN : m ≤ N := by rw [hm, ← HML.out]; exact List.count_le_length
      have HMN := Lib.hid (many9_any g N M wr hS.out.blk HML.out (by omega))
      rw [← hm] at HMN
      have HE := Lib.hid hE.out
      have HZ := Lib.hid hZ.out
      have HSK := Lib.hid hS.out
      have HXK := Lib.hid hX.out
      have HME := Lib.hid hm
      clear hm hE hZ hS hX
      go_wp2_with fail
      refine HMN.out.mono ?_
      rintro e w5 ⟨rfl, hw5⟩
      obtain rfl := hw5.symm
      clear hw5
      by_cases hlt : zn < (m : Int)
      · go_wp2_with fail
        refine HMN.out.mono ?_
        rintro e w6 ⟨rfl, hw6⟩
        obtain rfl := hw6.symm
        have hsp := HSP2.out M HE.out
        have HNX := Lib.hid (HNG.out M wr HSK.out HML.out)
        have hlx := HLX2.out M
        have hfw := HFW.out M
        obtain ⟨L, hL⟩ : ∃ L, L = nxL c M := ⟨_, rfl⟩
        rw [← hL] at hsp HNX hlx hfw
        obtain ⟨ln, hln⟩ : ∃ ln, ln = L.length := ⟨_, rfl⟩
        rw [← hln] at hfw
        have HSPL := Lib.hid hsp
        have HLX3 := Lib.hid hlx
        have HLN := Lib.hid hln
        have HLE := Lib.hid hL
        clear hw6 hsp hlx hln hL
        have p0 := cell_of_block HXK.out 0
        have p1 := cell_of_block HXK.out 1
        have p2 := cell_of_block HXK.out 2
        have p3 := cell_of_block HXK.out 3
        have p4 := cell_of_block HXK.out 4
        have p5 := cell_of_block HXK.out 5
        go_wp2_with fail
        refine HNX.out.mono ?_
        rintro e w7 ⟨na, nc, rfl, hno, hb⟩
        rw [← HLN.out] at hno ⊢
        obtain ⟨D, hD⟩ : ∃ D, D = wr.heap.size := ⟨_, rfl⟩
        rw [← hD] at hno
        have HNO := Lib.hid hno
        have HS7 := Lib.hid (HSK.out.below hb)
        have HX7 := Lib.hid (heap_below HXK.out hb)
        clear hno hb hD p0 p1 p2 p3 p4 p5 HSK HXK
        go_wp2
        go_loopw [10] (fun iv wr => ∃ k : Nat, k ≤ ln ∧ iv = .int .i64 k ∧ Hid (MSt w g (marksM M (L.take k)) wr) ∧ Hid (wr.ownsRow D 53 1 (.slice na ln nc) ln (L.map nv32)) ∧ Hid (wr.heap[w.heap.size]? = some (.cells #[.int .i64 z, .slice s.a1 s.n1 s.c1, .slice s.a2 s.n2 s.c2, .slice s.a3 s.n3 s.c3, .slice s.a4 s.n4 s.c4, .slice s.a5 s.n5 s.c5] 26 (0, 0)))) (fun iv _ => ln - (intOf iv).toNat)
        case atStart => exact ⟨0, Nat.zero_le _, rfl, HS7.out, HNO.out, HX7.out⟩
        case round =>
          clear HS7 HNO HX7
          obtain ⟨k, hk, rfl, hS, hR, hX⟩ := hrel
          obtain ⟨P, hP⟩ : ∃ P, P = marksM M (L.take k) := ⟨_, rfl⟩
          have HPL : Hid (P.length = N) := by unfold Hid; rw [hP, marksM_len]; exact HML.out
          have HSP := Lib.hid hS.out
          have HRP := Lib.hid hR.out
          have HXP := Lib.hid hX.out
          rw [← hP] at HSP
          have HPE := Lib.hid hP
          clear hP hS hX hR
          by_cases hkl : k < ln
          · obtain ⟨a', c', e', _, hsee⟩ := Sees.owned HRP.out
            cases e'
            obtain ⟨b, off, rfl, _⟩ := hsee.addr (show 0 < ln by omega)
            have hcx := hsee.num k hkl
            have hxN := HLX3.out (L.getD k 0) (getD_mem (by rw [← HLN.out]; exact hkl))
            obtain ⟨x, hx⟩ : ∃ x, x = L.getD k 0 := ⟨_, rfl⟩
            rw [← hx] at hcx hxN
            have HM1 : Hid (marksM M (L.take (k + 1)) = markM P x) := by unfold Hid; rw [marks_take M (by rw [← HLN.out]; exact hkl), ← HPE.out, ← hx]
            have HXX := Lib.hid hxN
            clear hx hxN hsee
            have W1' : IntKind.i64.wrap ((k : Int) + 1) = (k : Int) + 1 := IntWalk.i64_in _ (by omega)
            go_wp2_with fail
            refine (mark9_any g N P x wr HSP.out.blk HPL.out (by omega) HXX.out).mono ?_
            rintro e w8 ⟨rfl, hb8, hg8⟩
            have HS8 := Lib.hid (HSP.out.turn hg8 hgl hb8)
            have HX8 := Lib.hid (heap_grown HXP.out hg8 HGX.out)
            have HR8 := Lib.hid (owns_kept HRP.out HSP.out.blk hg8)
            clear hb8 hg8 hcx
            go_wp2
            go_roundw
            case rel => exact ⟨k + 1, by omega, by go_num, by rw [HM1.out]; exact HS8.out, HR8.out, HX8.out⟩
            case measure => simp [intOf]; omega
          · obtain rfl : k = ln := by omega
            have HPF : Hid (P = marksM M L) := by unfold Hid; rw [HPE.out, List.take_of_length_le (by rw [← HLN.out]; exact Nat.le_refl _)]
            have HGC := Lib.hid (HGG.out P wr HSP.out HPL.out)
            have p0 := cell_of_block HXP.out 0
            have p1 := cell_of_block HXP.out 1
            have p2 := cell_of_block HXP.out 2
            have p3 := cell_of_block HXP.out 3
            have p4 := cell_of_block HXP.out 4
            have p5 := cell_of_block HXP.out 5
            go_wp2_with fail
            refine HGC.out.mono ?_
            rintro e w9 ⟨rfl, hb9, hg9⟩
            have HS9 := Lib.hid (HSP.out.turn hg9 hgl hb9)
            have HX9 := Lib.hid (heap_grown HXP.out hg9 HGX.out)
            clear hb9 hg9 p0 p1 p2 p3 p4 p5 HGC
            go_wp2
            go_roundw
            case rel =>
              refine ⟨(m : Int), gAll c P, rfl, by omega, by omega, by rw [HPF.out]; exact HSPL.out.1, .inr ⟨M, by rw [HME.out], HML.out, by rw [HPF.out]; exact HSPL.out.2.1, ?_⟩, HS9.out, HX9.out⟩
              rw [← HLE.out, HPF.out]
              exact HSPL.out.2.2
            case measure => simp only [intOf]; omega
      · have HFIN : Hid (IsCone (inA c) lits N M) := by
          rcases HZ.out with h1 | ⟨P, h1, h2, h3, h4⟩
          · exfalso; omega
          · refine HDN.out M P HE.out h2 h3 h4 ?_
            rw [← HME.out]
            omega
        have HPP := Lib.hid (HP.out wr M g HFIN.out HSK.out.blk hgl HSK.out.low)
        clear HFIN
        go_wp2
        go_ret2
        exact HPP.out
  · obtain ⟨ht, rfl, rfl⟩ := h2 rfl
    have HPP := Lib.hid (PNO.out ht W2 HB2.out)
    clear h0 h2 ht
    go_wp2
    go_ret2
    exact HPP.out
end Go.Proofs.Ytdheldhecimfnaa
namespace Go.Proofs.Ytdheldhecimfnaa
open Go Go.RowKit Go.Joins

def AnyV : Value → Prop := fun _ => True
theorem Row.ofOwns {w : World} {base : Nat} {e : TypeId} {v : Value} {n : Nat} {xs : List Value} (h : w.ownsRow base e 1 v n xs) : Row AnyV w base e v n xs := by
  refine ⟨by have := h.1; omega, ?_⟩
  rcases h.2 with h2 | ⟨g, cap, cur, hv, hg, hh, hn, hc, hs, ht⟩
  · exact .inl h2
  · exact .inr ⟨g, cap, cur, hv, hg, hh, hn, hc, by omega, by simpa using ht, fun _ _ => trivial⟩

/-- What holds between two frames of the reference: from frame a on all are done. -/
structure GCore (c : NormC) (s : CSlots) (nb n : Nat) (w : World) (F a : Nat) (G : Nat → Nat) (ms : Nat → List Bool) (W : World) : Prop where
  low : Below w.heap.size w W
  cir : W.heap[w.heap.size]? = some (.cells (cirCells c.ins s) 26 (0, 0))
  row : W.heap[F]? = some (.cells (rowsB n (1 + varsN c) a G) 33 (0, 0))
  rows : ∀ f, a ≤ f → f < n → W.heap[G f]? = some (.cells (bcells (ms f)) 4 (0, 0)) ∧ w.heap.size ≤ G f
  cone : ∀ f, a ≤ f → f < n → IsCone (inW c) ((if f + 1 = n then [c.bads.getD nb 0] else nxL c (ms (f + 1))) ++ c.cons) (1 + varsN c) (ms f)
section
variable {c : NormC} {s : CSlots} {nb n : Nat} {w : World} {F a : Nat} {G : Nat → Nat} {ms : Nat → List Bool} {W W' : World}
theorem GCore.below (h : GCore c s nb n w F a G ms W) (hb : Below W.heap.size W W') : GCore c s nb n w F a G ms W' :=
  ⟨ext_trans h.low hb, heap_below h.cir hb, heap_below h.row hb, fun f h1 h2 => ⟨heap_below (h.rows f h1 h2).1 hb, (h.rows f h1 h2).2⟩, h.cone⟩
theorem GCore.grown (h : GCore c s nb n w F a G ms W) {v : Value} {m : Nat} {xs : List Value} (hr : W.ownsRow w.heap.size 53 1 v m xs) (hg : W.grownBy W' v.ownBlock) : GCore c s nb n w F a G ms W' :=
  ⟨h.low.grown hg h.low.size (fun k hk => (hr.lt k hk).1), heap_grown h.cir hg (ownsN_notown hr h.cir (by decide)), heap_grown h.row hg (ownsN_notown hr h.row (by decide)), fun f h1 h2 => ⟨heap_grown (h.rows f h1 h2).1 hg (ownsN_notown hr (h.rows f h1 h2).1 (by decide)), (h.rows f h1 h2).2⟩, h.cone⟩
end
theorem GCore.setF {c : NormC} {s : CSlots} {nb n : Nat} {w : World} {F j : Nat} {G : Nat → Nat} {ms : Nat → List Bool} {W : World} (h : GCore c s nb n w F (j + 1) G ms W) (hF : w.heap.size ≤ F) {M : List Bool} {g : Nat}
    (hM : IsCone (inW c) ((if j + 1 = n then [c.bads.getD nb 0] else nxL c (ms (j + 1))) ++ c.cons) (1 + varsN c) M) (hg : W.heap[g]? = some (.cells (bcells M) 4 (0, 0))) (hgl : w.heap.size ≤ g) :
    GCore c s nb n w F j (fun f => if f = j then g else G f) (fun f => if f = j then M else ms f) (W.setCell ⟨F, j, none⟩ (.slice (some ⟨g, 0, none⟩) (1 + varsN c) (1 + varsN c))) := by
  have oth : ∀ {D : Nat} {C : Array Value} {t : TypeId} {fr : Nat × Nat}, W.heap[D]? = some (.cells C t fr) → t ≠ 33 → (W.setCell ⟨F, j, none⟩ (.slice (some ⟨g, 0, none⟩) (1 + varsN c) (1 + varsN c))).heap[D]? = some (.cells C t fr) := fun hD ht => (Below.heap_setCell W ⟨F, j, none⟩ _ _ (heap_apart hD h.row ht)).trans hD
  refine ⟨h.low.setCell (p := ⟨F, j, none⟩) hF _, oth h.cir (by decide), ?_, fun f h1 h2 => ?_, fun f h1 h2 => ?_⟩
  · have := block_setCell h.row (i := j) (.slice (some ⟨g, 0, none⟩) (1 + varsN c) (1 + varsN c))
    rw [rowsB_set] at this
    exact this
  · by_cases e : f = j
    · subst e
      simp only [if_pos]
      exact ⟨oth hg (by decide), hgl⟩
    · simp only [if_neg e]
      exact ⟨oth (h.rows f (by omega) h2).1 (by decide), (h.rows f (by omega) h2).2⟩
  · by_cases e : f = j
    · subst e
      simp only [if_pos, if_neg (show f + 1 ≠ f by omega)]
      exact hM
    · simp only [if_neg e, if_neg (show f + 1 ≠ j by omega)]
      exact h.cone f (by omega) h2

set_option maxRecDepth 100000 in
set_option maxHeartbeats 6400000 in
theorem rframes_any (c : NormC) (bad frames : Int) (s : CSlots) (w : World) (h : SeesCir w s c) (hs : s.small) (hlo : -9223372036854775808 ≤ c.ins) (hhi : c.ins < 9223372036854775808) (hw : Wide c) :
    Calls Try.prog 14 #[cirV c.ins s, .int .i64 bad, .int .i64 frames] w (FrPost c bad frames w) := by
  obtain ⟨i0, hi, hz0, hz1, hz2⟩ := info_parts info_bools
  obtain ⟨iu, hu, hu0, hu1, hu2⟩ := info_parts info_u32
  have HMAY := Lib.hid (fun W (hb : Below w.heap.size w W) => refmay3_any c s W (h.below hb) hs hlo hhi hw)
  have HOF := Lib.hid (fun (L : List Nat) (a : Option Addr) (m cp : Nat) W (hb : Below w.heap.size w W) (hl : Sees W a m cp (L.map nv32)) (hm : m ≤ 1048576) (h32 : ∀ x ∈ L, x < 4294967296) => rof_any c L s a m cp W (h.below hb) hs hlo hhi hw hl hm h32)
  obtain ⟨F1, F2, F3, F4, F5, F6⟩ := frOk_cases c bad frames
  have HERR : Hid (frOk c bad frames = false → ∀ w', Below w.heap.size w w' → FrPost c bad frames w (.returned (.tuple #[.slice none 0 0, .int .i64 2])) w') := fun h w' hb => .inl ⟨h, rfl, hb⟩
  have HOK : Hid (∀ (n nb : Nat), frames = (n : Int) → bad = (nb : Int) → frOk c bad frames = true → ∀ (w' : World) (ms : List (List Bool)) (G : Nat → Nat) (F N : Nat), N = 1 + varsN c → IsFr c nb n ms → w'.heap[F]? = some (.cells (rowsB n N 0 G) 33 (0, 0)) → (∀ f, f < n → w'.heap[G f]? = some (.cells (bcells (ms.getD f [])) 4 (0, 0)) ∧ w.heap.size ≤ G f) → w.heap.size ≤ F → Below w.heap.size w w' → FrPost c bad frames w (.returned (.tuple #[.slice (some ⟨F, 0, none⟩) n n, .int .i64 0])) w') := fun n nb h1 h2 h3 w' ms G F N hN h4 h5 h6 h7 h8 => by
    subst hN
    exact .inr ⟨h3, ms, G, F, n, h1, rfl, by rw [h2]; exact h4, h5, h6, h7, h8⟩
  have HQ : Hid (mayC c = true → MayC c) := mayC_iff.1
  have HL4 : Hid (c.bads.length = s.n4) := h.s4.lenMap
  have HNXT := Lib.hid (fun (hm : MayC c) (g : Nat) (M : List Bool) W (hb : Below w.heap.size w W) (hg : W.heap[g]? = some (.cells (bcells M) 4 (0, 0))) (hl : M.length = 1 + varsN c) => rnexts_any c M s (some ⟨g, 0, none⟩) (1 + varsN c) (1 + varsN c) W (h.below hb) hs hm (sees_bcells hg hl) rfl)
  obtain ⟨q, hq⟩ : ∃ q, q = mayC c := ⟨_, rfl⟩
  rw [← hq] at HMAY F1 F6 HQ
  rw [HL4.out] at F3 F6
  have G1 := Lib.hid F1
  have G2 := Lib.hid F2
  have G3 := Lib.hid F3
  have G4 := Lib.hid F4
  have G5 := Lib.hid F5
  have G6 := Lib.hid F6
  have HC := Lib.hid h
  clear hq h hs hlo hhi hw F1 F2 F3 F4 F5 F6
  unfold cirV at *
  go_enter Try.func14, Try.ntmps14
  go_upto_region 1 with fail
  generalize hW : World.alloc w _ = W1
  have hX : W1.heap[w.heap.size]? = some (.cells (cirCells c.ins s) 26 (0, 0)) := by subst hW; exact heap_new _ _ _ rfl
  have HX := Lib.hid hX
  have HB := Lib.hid (show Below w.heap.size w W1 by subst hW; exact ext_alloc _ _)
  clear hW hX
  have p0 : W1.cell? ⟨w.heap.size, 0, none⟩ = some (.int .i64 c.ins) := cell_of_block HX.out 0
  have p1 : W1.cell? ⟨w.heap.size, 1, none⟩ = some (.slice s.a1 s.n1 s.c1) := cell_of_block HX.out 1
  have p2 : W1.cell? ⟨w.heap.size, 2, none⟩ = some (.slice s.a2 s.n2 s.c2) := cell_of_block HX.out 2
  have p3 : W1.cell? ⟨w.heap.size, 3, none⟩ = some (.slice s.a3 s.n3 s.c3) := cell_of_block HX.out 3
  have p4 : W1.cell? ⟨w.heap.size, 4, none⟩ = some (.slice s.a4 s.n4 s.c4) := cell_of_block HX.out 4
  have p5 : W1.cell? ⟨w.heap.size, 5, none⟩ = some (.slice s.a5 s.n5 s.c5) := cell_of_block HX.out 5
  go_wp2_with fail
  refine (HMAY.out W1 HB.out).mono ?_
  rintro e W2 ⟨rfl, hb⟩
  have HX2 := Lib.hid (heap_below HX.out hb)
  have HB2 := Lib.hid (ext_trans HB.out hb)
  clear hb p0 p1 p2 p3 p4 p5 HX HB HMAY
  cases q with
  | false =>
    have HP := Lib.hid (HERR.out (G1.out rfl) W2 HB2.out)
    go_wp2
    go_ret2
    exact HP.out
  | true =>
    have HM := Lib.hid (HQ.out rfl)
    by_cases hb1 : bad < 0
    · have HP := Lib.hid (HERR.out (G2.out hb1) W2 HB2.out)
      go_wp2
      go_ret2
      exact HP.out
    · obtain ⟨nb, rfl⟩ := Int.eq_ofNat_of_zero_le (Int.not_lt.1 hb1)
      clear hb1
      have p4 : W2.cell? ⟨w.heap.size, 4, none⟩ = some (.slice s.a4 s.n4 s.c4) := cell_of_block HX2.out 4
      by_cases hb2 : (s.n4 : Int) ≤ (nb : Int)
      · have HP := Lib.hid (HERR.out (G3.out hb2) W2 HB2.out)
        go_wp2
        go_ret2
        exact HP.out
      · have hb3 : (nb : Int) < (s.n4 : Int) := by omega
        clear hb2
        by_cases hf1 : frames < 1
        · have HP := Lib.hid (HERR.out (G4.out hf1) W2 HB2.out)
          go_wp2
          go_ret2
          exact HP.out
        · obtain ⟨n, rfl⟩ := Int.eq_ofNat_of_zero_le (show 0 ≤ frames by omega)
          have hn1 : (1 : Int) ≤ (n : Int) := by omega
          clear hf1
          by_cases hf2 : (256 : Int) < (n : Int)
          · have HP := Lib.hid (HERR.out (G5.out hf2) W2 HB2.out)
            go_wp2
            go_ret2
            exact HP.out
          · have hn2 : (n : Int) ≤ 256 := by omega
            clear hf2
            have HP := Lib.hid (HOK.out n nb rfl rfl (G6.out rfl (by omega) hb3 hn1 hn2))
            obtain ⟨b4, o4, ha4, _⟩ := HC.out.s4.addr (show 0 < s.n4 by omega)
            have e1 : decide ((nb : Int) < 0) = false := by simp
            have e2 : decide (s.n4 ≤ nb) = false := by simp; omega
            have e2' : decide ((s.n4 : Int) ≤ (nb : Int)) = false := by simp; omega
            have e3 : decide ((n : Int) < 1) = false := by simp; omega
            have e3' : decide (n < 1) = false := by simp; omega
            have e4 : decide ((256 : Int) < (n : Int)) = false := by simp; omega
            have e4' : decide (256 < n) = false := by simp; omega
            have mk := fun W => run_make_n (P := Try.prog) Try.underlying38 hi hz0 hz1 hz2 rfl n (by omega) (by omega) W
            rw [fcells_zero] at mk
            go_upto_region 4 with fail
            clear p4 e1 e2 e2' e3 e3' e4 e4'
            have hal2 := ext_alloc W2 (.cells (fcells n fun _ => .slice none 0 0) 33)
            have hF := heap_new W2 (.cells (fcells n fun _ => .slice none 0 0) 33) W2.heap.size rfl
            generalize hWA : W2.alloc (.cells (fcells n fun _ => .slice none 0 0) 33) = W3 at hal2 hF ⊢
            have HX3 := Lib.hid (heap_below HX2.out hal2)
            have HB3 := Lib.hid (ext_trans HB2.out hal2)
            have HF3 := Lib.hid hF
            obtain ⟨F, hFF⟩ : ∃ F, F = W2.heap.size := ⟨_, rfl⟩
            rw [← hFF] at HF3 ⊢
            have HFG : Hid (w.heap.size ≤ F) := by have := HB2.out.size; unfold Hid; omega
            clear hal2 hF hWA mk HX2 HB2 hFF
            have q4 := HC.out.s4.below HB3.out
            have p4 : W3.cell? ⟨w.heap.size, 4, none⟩ = some (.slice s.a4 s.n4 s.c4) := cell_of_block HX3.out 4
            rw [ha4] at q4 p4
            have q4n := q4.num nb (by omega)
            obtain ⟨x, hx⟩ : ∃ x, x = c.bads.getD nb 0 := ⟨_, rfl⟩
            rw [← hx] at q4n
            have HXE := Lib.hid hx
            clear q4 hx
            have W0 : IntKind.i64.wrap ((n : Int) - 1) = (n : Int) - 1 := IntWalk.i64_in _ (by omega)
            go_upto_region 5 with fail
            rw [← ha4]
            clear ha4
            have hal2 := ext_alloc W3 (.cells #[.int .u32 (x : Int)] 53)
            have hF := heap_new W3 (.cells #[.int .u32 (x : Int)] 53) W3.heap.size rfl
            generalize hWA : W3.alloc (.cells #[.int .u32 (x : Int)] 53) = W4 at hal2 hF ⊢
            obtain ⟨XB, hXB⟩ : ∃ XB, XB = W3.heap.size := ⟨_, rfl⟩
            rw [← hXB] at hF ⊢
            have HROWL : Hid (Row AnyV W4 w.heap.size 53 (.slice (some ⟨XB, 0, none⟩) 1 1) 1 ([c.bads.getD nb 0].map nv32)) := by
              rw [← HXE.out]
              have := HB3.out.size
              exact ⟨rfl, .inr ⟨XB, 1, #[.int .u32 (x : Int)], rfl, by omega, hF, Nat.le_refl _, by unfold maxLen; omega, rfl, rfl, fun _ _ => trivial⟩⟩
            have hrow0 : W4.heap[F]? = some (.cells (rowsB n (1 + varsN c) n (fun _ => 0)) 33 (0, 0)) := by
              have e : rowsB n (1 + varsN c) n (fun _ => 0) = fcells n fun _ => .slice none 0 0 := fcells_congr fun i hi => if_neg (by omega)
              rw [e]
              exact heap_below HF3.out hal2
            have HI4 : Hid (GCore c s nb n w F n (fun _ => 0) (fun _ => []) W4) :=
              ⟨ext_trans HB3.out hal2, heap_below HX3.out hal2, hrow0, fun f h1 h2 => absurd h1 (by omega), fun f h1 h2 => absurd h1 (by omega)⟩
            have hcon : Hid (∀ x ∈ c.cons, x ≤ 2 * varsN c + 1) := HM.out.cons
            have hbx : Hid (c.bads.getD nb 0 ≤ 2 * varsN c + 1) := HM.out.bads _ (getD_mem (by rw [HL4.out]; omega))
            have hNfew : Hid (varsN c ≤ 16384) := HM.out.few
            have hlen5 : c.cons.length = s.n5 := HC.out.s5.lenMap
            have h5 : s.n5 ≤ 1024 := by rw [← hlen5]; exact HM.out.lens.2.2
            have hvc : Hid (varsC c = varsN c) := by unfold Hid varsC; rw [if_pos (mayC_iff.2 HM.out)]
            have HNX := Lib.hid (HNXT.out HM.out)
            have HLE : Hid (∀ (a : Nat) (ms : Nat → List Bool), ∀ x ∈ (if a = n then [c.bads.getD nb 0] else nxL c (ms a)), x ≤ 2 * varsN c + 1) := by
              intro a ms x hx
              split at hx
              · rw [List.mem_singleton.1 hx]; exact hbx.out
              · exact nxL_le HM.out _ x hx
            have HLL : Hid (∀ (a : Nat) (ms : Nat → List Bool), (if a = n then [c.bads.getD nb 0] else nxL c (ms a)).length ≤ 20000) := by
              intro a ms
              split
              · simp
              · have h1 := nxL_len c (ms a); have h2 := hNfew.out; unfold varsN at h2; omega
            have HTOLD : Hid (∀ L : List Nat, (∀ x ∈ L, x ≤ 2 * varsN c + 1) → toldB c L = true) := fun L hL => toldB_iff.2 ⟨HM.out, fun x hx => by have := hL x hx; omega⟩
            clear hal2 hF hWA hrow0 HX3 HB3 HF3 hXB q4n p4 HXE hvc hlen5 HNXT
            go_wp2
            clear W0
            go_loopw [10, 9] (fun iv rv wr => ∃ (a m : Nat) (z : Int) (G : Nat → Nat) (ms : Nat → List Bool) (L : List Nat) (va : Option Addr) (vc : Nat), a ≤ n ∧ z + 1 = (a : Int) ∧ iv = .int .i64 z ∧ rv = .slice va m vc ∧ m ≤ 20000 ∧ Hid (L.length = m) ∧ Hid (L = (if a = n then [c.bads.getD nb 0] else nxL c (ms a))) ∧ Hid (Row AnyV wr w.heap.size 53 (.slice va m vc) m (L.map nv32)) ∧ Hid (GCore c s nb n w F a G ms wr)) (fun iv _ _ => (intOf iv + 1).toNat)
            case atStart => exact ⟨n, 1, (n : Int) - 1, fun _ => 0, fun _ => [], [c.bads.getD nb 0], some ⟨XB, 0, none⟩, 1, Nat.le_refl _, by omega, rfl, rfl, by omega, rfl, by rw [if_pos rfl]; rfl, HROWL.out, HI4.out⟩
            case round =>
              clear HROWL HI4
              obtain ⟨a, m, z, G, ms, L, va, vc, ha, hz, rfl, rfl, hm, hLm, hL, hR, hI⟩ := hrel
              have HLM := Lib.hid hLm.out
              have HLE1 := Lib.hid hL.out
              have HR := Lib.hid hR.out
              have HI := Lib.hid hI.out
              clear hLm hL hR hI
              by_cases hlt : 0 < a
              · obtain ⟨j, rfl⟩ : ∃ j, a = j + 1 := ⟨a - 1, by omega⟩
                obtain rfl : z = (j : Int) := by omega
                clear hz hlt
                have hj : j < n := ha
                have p5 : wr.cell? ⟨w.heap.size, 5, none⟩ = some (.slice s.a5 s.n5 s.c5) := cell_of_block HI.out.cir 5
                go_wp2_with (at_builtin; refine wpList_append_row AnyV _ rfl _ _ 24 rfl w.heap.size 53 iu (.int .u32 0) 4 Try.underlying24 hu hu0 hu1 hu2 rfl trivial _ _ _ rfl HR.out s.a5 s.n5 s.c5 (c.cons.map nv32) rfl (HC.out.s5.below HI.out.low) (nv32_one _) (fun _ _ => trivial) ?c1 ?c2 ?c3 ?_)
                case c1 => unfold maxLen; omega
                case c2 => omega
                case c3 => exact HI.out.low.size
                intro v1 V1 hr1 hg1 _
                have HI1 := Lib.hid (HI.out.grown HR.out.own hg1)
                obtain ⟨ra, rc, rfl, _, hsee⟩ := Sees.owned hr1.own
                rw [← List.map_append] at hsee
                have HSEE := Lib.hid hsee
                clear hr1 hg1 hsee p5
                have HLA : Hid (∀ x ∈ L ++ c.cons, x ≤ 2 * varsN c + 1) := by
                  intro x hx
                  rcases List.mem_append.1 hx with h1 | h1
                  · rw [HLE1.out] at h1; exact HLE.out _ _ x h1
                  · exact hcon.out x h1
                have HOFC := Lib.hid (HOF.out (L ++ c.cons) ra (m + s.n5) rc V1 HI1.out.low HSEE.out (by omega) (fun x hx => by have := HLA.out x hx; have := hNfew.out; omega))
                have HTT := Lib.hid (HTOLD.out _ HLA.out)
                have p0 : V1.cell? ⟨w.heap.size, 0, none⟩ = some (.int .i64 c.ins) := cell_of_block HI1.out.cir 0
                have p1 : V1.cell? ⟨w.heap.size, 1, none⟩ = some (.slice s.a1 s.n1 s.c1) := cell_of_block HI1.out.cir 1
                have p2 : V1.cell? ⟨w.heap.size, 2, none⟩ = some (.slice s.a2 s.n2 s.c2) := cell_of_block HI1.out.cir 2
                have p3 : V1.cell? ⟨w.heap.size, 3, none⟩ = some (.slice s.a3 s.n3 s.c3) := cell_of_block HI1.out.cir 3
                have p4 : V1.cell? ⟨w.heap.size, 4, none⟩ = some (.slice s.a4 s.n4 s.c4) := cell_of_block HI1.out.cir 4
                have p5 : V1.cell? ⟨w.heap.size, 5, none⟩ = some (.slice s.a5 s.n5 s.c5) := cell_of_block HI1.out.cir 5
                go_wp2_with fail
                refine HOFC.out.mono ?_
                rintro e V2 he
                rcases he with ⟨h1, _⟩ | ⟨_, M, g, rfl, hM, hblk, hgl, hb2⟩
                · have := HTT.out
                  rw [h1] at this
                  cases this
                have HI2 := Lib.hid (HI1.out.below hb2)
                have HML : Hid (M.length = 1 + varsN c) := hM.len
                have HG0 : Hid (w.heap.size ≤ g) := Nat.le_trans HI1.out.low.size hgl
                have HI3 := Lib.hid (HI2.out.setF HFG.out (by rw [← HLE1.out]; exact hM) hblk HG0.out)
                have c1 := (cell_of_block HI2.out.row j).trans (fcells_get n _ j hj)
                rw [if_neg (by omega)] at c1
                have c2 := unfrozen_of_block HI2.out.row j
                have hjz : (0 : Int) ≤ (j : Int) := by omega
                have hjn : (j : Int) < (n : Int) := by omega
                have W1' : IntKind.i64.wrap ((j : Int) - 1) = (j : Int) - 1 := IntWalk.i64_in _ (by omega)
                have HJ := Lib.hid hj
                clear hM hblk hgl hb2 p0 p1 p2 p3 p4 p5 HOFC HTT HSEE HLA HI1 hj
                go_upto_region 10 with fail
                clear c1 c2
                generalize hWX : World.setCell V2 _ _ = V3 at HI3 ⊢
                clear hWX HI2
                have r0 : V3.cell? ⟨F, j, none⟩ = some (.slice (some ⟨g, 0, none⟩) (1 + varsN c) (1 + varsN c)) := ((cell_of_block HI3.out.row j).trans (fcells_get n _ j HJ.out)).trans (by simp)
                have p0 : V3.cell? ⟨w.heap.size, 0, none⟩ = some (.int .i64 c.ins) := cell_of_block HI3.out.cir 0
                have p1 : V3.cell? ⟨w.heap.size, 1, none⟩ = some (.slice s.a1 s.n1 s.c1) := cell_of_block HI3.out.cir 1
                have p2 : V3.cell? ⟨w.heap.size, 2, none⟩ = some (.slice s.a2 s.n2 s.c2) := cell_of_block HI3.out.cir 2
                have p3 : V3.cell? ⟨w.heap.size, 3, none⟩ = some (.slice s.a3 s.n3 s.c3) := cell_of_block HI3.out.cir 3
                have p4 : V3.cell? ⟨w.heap.size, 4, none⟩ = some (.slice s.a4 s.n4 s.c4) := cell_of_block HI3.out.cir 4
                have p5 : V3.cell? ⟨w.heap.size, 5, none⟩ = some (.slice s.a5 s.n5 s.c5) := cell_of_block HI3.out.cir 5
                have HS0 := Lib.hid (And.intro p0 (And.intro p1 (And.intro p2 (And.intro p3 (And.intro p4 (And.intro p5 r0))))))
                refine wp_region_noPanic ?_
                refine wp_region_held (S := fun w' => w'.cell? ⟨w.heap.size, 0, none⟩ = some (.int .i64 c.ins) ∧ w'.cell? ⟨w.heap.size, 1, none⟩ = some (.slice s.a1 s.n1 s.c1) ∧ w'.cell? ⟨w.heap.size, 2, none⟩ = some (.slice s.a2 s.n2 s.c2) ∧ w'.cell? ⟨w.heap.size, 3, none⟩ = some (.slice s.a3 s.n3 s.c3) ∧ w'.cell? ⟨w.heap.size, 4, none⟩ = some (.slice s.a4 s.n4 s.c4) ∧ w'.cell? ⟨w.heap.size, 5, none⟩ = some (.slice s.a5 s.n5 s.c5) ∧ w'.cell? ⟨F, j, none⟩ = some (.slice (some ⟨g, 0, none⟩) (1 + varsN c) (1 + varsN c))) (by kernel_rfl) ?_
                generalize hY : ({ V3 with drawn := V3.drawn + 1 } : World) = Y0
                have hY0 : Below V3.heap.size V3 Y0 := by subst hY; exact (Below.refl _ _).drew
                have HPY := Lib.hid (keep7t HS0.out hY0)
                have HIY := Lib.hid (HI3.out.below hY0)
                clear hY hY0 p0 p1 p2 p3 p4 p5 r0 HS0 HI3
                have hgY := (HIY.out.rows j (Nat.le_refl _) HJ.out).1
                simp only [if_pos] at hgY
                have HNC := Lib.hid (HNX.out g M Y0 HIY.out.low hgY HML.out)
                clear hgY
                refine wpAnyH_take (i := 0) (v := ?_) (by simp only [List.getElem?_toArray, List.getElem?_cons_zero]; rfl) (by kernel_rfl) (by kernel_rfl) (by kernel_rfl) (fun _ _ _ h => h) (Or.inl ⟨by rfl, ?_⟩) HPY.out ?_
                rotate_left
                · intro w hSw
                  (try dsimp only at hSw)
                  obtain ⟨q0_, q1_, q2_, q3_, q4_, q5_, q6_⟩ := hSw
                  go_simp
                  try with_reducible rfl
                try simp only [Act.put, List.setIfInBounds_toArray, List.set_cons_zero, List.set_cons_succ]
                refine wpAnyH_take (i := 1) (v := ?_) (by simp only [List.getElem?_toArray, List.getElem?_cons_zero, List.getElem?_cons_succ]; rfl) (by kernel_rfl) (by kernel_rfl) (by kernel_rfl) (fun _ _ _ h => h) (Or.inl ⟨by rfl, ?_⟩) HPY.out ?_
                rotate_left
                · intro w hSw
                  (try dsimp only at hSw)
                  obtain ⟨q0_, q1_, q2_, q3_, q4_, q5_, q6_⟩ := hSw
                  go_simp
                  try with_reducible rfl
                try simp only [Act.put, List.setIfInBounds_toArray, List.set_cons_zero, List.set_cons_succ]
                refine wpAnyH_take (i := 2) (v := ?_) (by simp only [List.getElem?_toArray, List.getElem?_cons_zero, List.getElem?_cons_succ]; rfl) (by kernel_rfl) (by kernel_rfl) (by kernel_rfl) (fun _ _ _ h => h) (Or.inl ⟨by rfl, ?_⟩) HPY.out ?_
                rotate_left
                · intro w hSw
                  (try dsimp only at hSw)
                  obtain ⟨q0_, q1_, q2_, q3_, q4_, q5_, q6_⟩ := hSw
                  go_simp
                  try with_reducible rfl
                try simp only [Act.put, List.setIfInBounds_toArray, List.set_cons_zero, List.set_cons_succ]
                refine wpAnyH_take (i := 3) (v := ?_) (by simp only [List.getElem?_toArray, List.getElem?_cons_zero, List.getElem?_cons_succ]; rfl) (by kernel_rfl) (by kernel_rfl) (by kernel_rfl) (fun _ _ _ h => h) (Or.inl ⟨by rfl, ?_⟩) HPY.out ?_
                rotate_left
                · intro w hSw
                  (try dsimp only at hSw)
                  obtain ⟨q0_, q1_, q2_, q3_, q4_, q5_, q6_⟩ := hSw
                  go_simp
                  try with_reducible rfl
                try simp only [Act.put, List.setIfInBounds_toArray, List.set_cons_zero, List.set_cons_succ]
                refine wpAnyH_take (i := 4) (v := ?_) (by simp only [List.getElem?_toArray, List.getElem?_cons_zero, List.getElem?_cons_succ]; rfl) (by kernel_rfl) (by kernel_rfl) (by kernel_rfl) (fun _ _ _ h => h) (Or.inl ⟨by rfl, ?_⟩) HPY.out ?_
                rotate_left
                · intro w hSw
                  (try dsimp only at hSw)
                  obtain ⟨q0_, q1_, q2_, q3_, q4_, q5_, q6_⟩ := hSw
                  go_simp
                  try with_reducible rfl
                try simp only [Act.put, List.setIfInBounds_toArray, List.set_cons_zero, List.set_cons_succ]
                refine wpAnyH_ready (rs := [5]) (by kernel_rfl) (by simp) ?_
                refine AllReadyH.cons (by simp only [List.getElem?_toArray, List.getElem?_cons_zero, List.getElem?_cons_succ]; rfl) (fun K hK => ?_) AllReadyH.nil
                go_simp
                refine HNC.out.mono ?_
                rintro e W4 ⟨na, nc, rfl, hno, hb⟩
                have HP4 := Lib.hid (keep7t HPY.out hb)
                have HI4 := Lib.hid (HIY.out.below hb)
                have HRN := Lib.hid (Row.ofOwns (ownsN_base hno HIY.out.low.size))
                clear hno hb
                refine hK.out _ _ HP4.out (fun _ => ?_)
                clear hK K
                try simp only [Act.put, List.setIfInBounds_toArray, List.set_cons_zero, List.set_cons_succ]
                refine wpAnyH_take (i := 6) (v := ?_) (by simp only [List.getElem?_toArray, List.getElem?_cons_zero, List.getElem?_cons_succ]; rfl) (by kernel_rfl) (by kernel_rfl) (by kernel_rfl) (fun _ _ _ h => h) (Or.inl ⟨by rfl, ?_⟩) HP4.out ?_
                rotate_left
                · intro w hSw
                  (try dsimp only at hSw)
                  obtain ⟨q0_, q1_, q2_, q3_, q4_, q5_, q6_⟩ := hSw
                  go_simp
                  try with_reducible rfl
                try simp only [Act.put, List.setIfInBounds_toArray, List.set_cons_zero, List.set_cons_succ]
                refine wpAnyH_done (by kernel_rfl) ?_ _
                refine NoPanic.normal ?_
                go_wp2
                go_roundw
                case rel =>
                  have hle := HLL.out j (fun f => if f = j then M else ms f)
                  rw [if_neg (show j ≠ n by omega)] at hle
                  simp only [if_pos] at hle
                  refine ⟨j, (nxL c M).length, (j : Int) - 1, _, _, nxL c M, na, nc, by omega, by omega, rfl, rfl, hle, rfl, ?_, HRN.out, HI4.out⟩
                  rw [if_neg (show j ≠ n by omega)]
                  unfold Hid
                  simp
                case measure => simp [intOf]
              · obtain rfl : a = 0 := by omega
                have hzn : z < 0 := by omega
                have HPP := Lib.hid (HP.out wr ((List.range n).map ms) G F _ rfl ⟨by simp, fun f hf => by
                  have hms : ∀ f, f < n → ((List.range n).map ms).getD f [] = ms f := fun f hf => by simp [List.getD, hf]
                  rw [hms f hf]
                  unfold rootsAt
                  have := HI.out.cone f (Nat.zero_le _) hf
                  by_cases e : f + 1 = n
                  · rw [if_pos e] at this ⊢; exact this
                  · rw [if_neg e] at this ⊢
                    rw [hms (f + 1) (by omega)]
                    exact this⟩ HI.out.row (fun f hf => by
                  have hms : ∀ f, f < n → ((List.range n).map ms).getD f [] = ms f := fun f hf => by simp [List.getD, hf]
                  rw [hms f hf]
                  exact HI.out.rows f (Nat.zero_le _) hf) HFG.out HI.out.low)
                go_wp2
                go_ret2
                exact HPP.out
end Go.Proofs.Ytdheldhecimfnaa
