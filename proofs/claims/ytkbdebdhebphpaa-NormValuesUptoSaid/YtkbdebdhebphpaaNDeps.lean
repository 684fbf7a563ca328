/- norm.dependences, by its contract. -/
import Derived.Test.YtkbdebdhebphpaaNDefs
import Derived.Test.YtkbdebdhebphpaaNOrder
namespace Go.Proofs.Ytkbdebdhebphpaa
open Go Go.RowKit Go.Joins

/-- N cells, by a function of their places. -/
def fcells (N : Nat) (f : Nat → Value) : Array Value := ((List.range N).map f).toArray
theorem fcells_get (N : Nat) (f : Nat → Value) (i : Nat) (h : i < N) : (fcells N f)[i]? = some (f i) := by
  simp [fcells, h]
theorem fcells_set (N : Nat) (f : Nat → Value) (i : Nat) (x : Value) : (fcells N f).setIfInBounds i x = fcells N (fun j => if j = i then x else f j) := by
  apply Array.ext_getElem?
  intro j
  rw [Array.getElem?_setIfInBounds]
  by_cases h : j < N
  · rw [fcells_get N f j h, fcells_get N (fun j => if j = i then x else f j) j h]
    by_cases e : i = j
    · subst e; simp [fcells, h]
    · rw [if_neg e, if_neg (fun h => e h.symm)]
  · have e1 : ∀ g : Nat → Value, (fcells N g)[j]? = none := fun g => by simp [fcells]; omega
    rw [e1, e1]
    split
    · rw [if_neg (by simp [fcells]; omega)]
    · rfl
theorem fcells_congr {N : Nat} {f g : Nat → Value} (h : ∀ i, i < N → f i = g i) : fcells N f = fcells N g := by
  unfold fcells
  congr 1
  exact List.map_congr_left (fun i hi => h i (List.mem_range.1 hi))
theorem fcells_size (N : Nat) (f : Nat → Value) : (fcells N f).size = N := by simp [fcells]
theorem fcells_zero (N : Nat) (z : Value) : zeros z N = fcells N (fun _ => z) := by
  apply Array.ext_getElem?
  intro j
  by_cases h : j < N
  · rw [fcells_get N _ j h]; simp [zeros, h]
  · simp [zeros, fcells, h]

/-- Below base nothing has turned but U and T. -/
structure But2 (base U T : Nat) (w w' : World) : Prop where
  os : w'.os = w.os
  tape : w'.tape = w.tape
  output : w'.output = w.output
  size : w.heap.size ≤ w'.heap.size
  block : ∀ D, D < base → D ≠ U → D ≠ T → w'.heap[D]? = w.heap[D]?
theorem But2.refl (base U T : Nat) (w : World) : But2 base U T w w := ⟨rfl, rfl, rfl, Nat.le_refl _, fun _ _ _ _ => rfl⟩
theorem But2.trans {base U T : Nat} {a b c : World} (h : But2 base U T a b) (k : But2 base U T b c) : But2 base U T a c :=
  ⟨k.os.trans h.os, k.tape.trans h.tape, k.output.trans h.output, Nat.le_trans h.size k.size, fun D h1 h2 h3 => (k.block D h1 h2 h3).trans (h.block D h1 h2 h3)⟩
theorem But2.of_below {base U T : Nat} {w w' : World} (h : Below base w w') : But2 base U T w w' := ⟨h.os, h.tape, h.output, h.size, fun D h1 _ _ => h.block D h1⟩
theorem But2.low {base U T B : Nat} {w w' : World} (h : But2 base U T w w') (hB : B ≤ base) (hU : B ≤ U) (hT : B ≤ T) : Below B w w' :=
  ⟨h.os, h.tape, h.output, h.size, fun D hD => h.block D (by omega) (by omega) (by omega)⟩
theorem But2.at {base U T : Nat} {w w' : World} (h : But2 base U T w w') {D : Nat} {o : Obj} (hD : w.heap[D]? = some o) (h1 : D < base) (h2 : D ≠ U) (h3 : D ≠ T) : w'.heap[D]? = some o := (h.block D h1 h2 h3).trans hD

/-- Users and waits, by the first t slots. -/
structure Dep (gs : List Tri) (m n U T base t : Nat) (w : World) (uv : Nat → Value) : Prop where
  users : w.heap[U]? = some (.cells (fcells (m + 1) uv) 108 (0, 0))
  rows : ∀ v, v ≤ m → w.ownsRow base 3 1 (uv v) (usersT gs t v).length ((usersT gs t v).map iv)
  apart : ∀ v1 v2 k, v1 ≤ m → v2 ≤ m → v1 ≠ v2 → (uv v1).ownBlock = some k → (uv v2).ownBlock ≠ some k
  waits : w.heap[T]? = some (.cells (fcells n (fun i => iv (waitsT gs t i))) 3 (0, 0))

theorem Dep.below {gs : List Tri} {m n U T base t : Nat} {w w' : World} {uv : Nat → Value} (h : Dep gs m n U T base t w uv) (hb : Below w.heap.size w w') : Dep gs m n U T base t w' uv :=
  ⟨heap_below h.users hb, fun v hv => ownsN_below (h.rows v hv) hb, h.apart, heap_below h.waits hb⟩
theorem Dep.no {gs : List Tri} {m n U T base t : Nat} {w : World} {uv : Nat → Value} (h : Dep gs m n U T base t w uv) (hg : isG gs (litV gs t) = false) : Dep gs m n U T base (t + 1) w uv := by
  refine ⟨h.users, fun v hv => ?_, h.apart, ?_⟩
  · rw [usersT_no hg]; exact h.rows v hv
  · rw [h.waits]
    congr 2
    exact fcells_congr (fun i _ => by rw [waitsT_no hg])

theorem Dep.yes {gs : List Tri} {m n U T base t : Nat} {w w1 w2 : World} {uv : Nat → Value} {v i : Nat} {v' : Value} {l2 : Nat} {xs2 : List Value} (h : Dep gs m n U T base t w uv) (hg : isG gs (litV gs t) = true) (hv : v = litV gs t) (hi : i = t / 2) (hvm : v ≤ m)
    (hU : U < base) (hT : T < base) (hUT : U ≠ T) (hbase : base ≤ w.heap.size) (hb : Below w.heap.size w w1) (hgr : w1.grownBy w2 (uv v).ownBlock) (row : w2.ownsRow base 3 1 v' l2 xs2) (hl2 : l2 = (usersT gs t v).length + 1) (hx2 : xs2 = (usersT gs t v).map iv ++ [iv i])
    (hown : v'.ownBlock = (uv v).ownBlock ∨ v'.ownBlock = some w1.heap.size) :
    Dep gs m n U T base (t + 1) ((w2.setCell ⟨U, v, .none⟩ v').setCell ⟨T, i, .none⟩ (iv (waitsT gs t i + 1))) (fun j => if j = v then v' else uv j) ∧ But2 base U T w ((w2.setCell ⟨U, v, .none⟩ v').setCell ⟨T, i, .none⟩ (iv (waitsT gs t i + 1))) := by
  subst hl2; subst hx2
  have r1 := fun u hu => ownsN_below (h.rows u hu) hb
  have u1 := heap_below h.users hb
  have t1 := heap_below h.waits hb
  have ownge : ∀ u, u ≤ m → ∀ k, (uv u).ownBlock = some k → base ≤ k ∧ k < w.heap.size := fun u hu k hk => (h.rows u hu).lt k hk
  have u2 := heap_grown u1 hgr (fun e => by have := (ownge v hvm U e).1; omega)
  have t2 := heap_grown t1 hgr (fun e => by have := (ownge v hvm T e).1; omega)
  have hs1 := hb.size
  have hs2 := hgr.size
  -- rows in the last world
  have keep : ∀ D, D ≠ U → D ≠ T → ((w2.setCell ⟨U, v, .none⟩ v').setCell ⟨T, i, .none⟩ (iv (waitsT gs t i + 1))).heap[D]? = w2.heap[D]? := fun D h1 h2 => by
    rw [Below.heap_setCell _ ⟨T, i, .none⟩ _ D h2, Below.heap_setCell _ ⟨U, v, .none⟩ _ D h1]
  refine ⟨⟨?_, fun u hu => ?_, fun v1 v2 k h1 h2 hne hk => ?_, ?_⟩, ?_⟩
  · rw [Below.heap_setCell _ ⟨T, i, .none⟩ _ U hUT]
    have := block_setCell u2 (i := v) v'
    rw [fcells_set] at this
    exact this
  · by_cases e : u = v
    · rw [if_pos e, e, usersT_yes hg, if_pos hv, ← hi]
      rw [List.length_append, List.map_append]
      exact ownsN_other row (fun k hk => keep k (fun e => by have := (row.lt k hk).1; omega) (fun e => by have := (row.lt k hk).1; omega))
    · rw [if_neg e, usersT_yes hg, if_neg (fun h => e (h.trans hv.symm))]
      refine ownsN_other (h.rows u hu) (fun k hk => ?_)
      have hk2 := ownge u hu k hk
      rw [keep k (by omega) (by omega), hgr.block k (by omega) (fun e2 => (h.apart u v k hu hvm e hk) e2.symm), hb.block k hk2.2]
  · by_cases e1 : v1 = v
    · rw [if_pos e1] at hk
      rw [if_neg (fun e => hne (e1.trans e.symm))]
      intro hk2
      rcases hown with ho | ho
      · rw [ho, ← e1] at hk
        exact h.apart v1 v2 k h1 h2 hne hk hk2
      · rw [ho] at hk
        have := (ownge v2 h2 k hk2).2
        cases hk
        omega
    · rw [if_neg e1] at hk
      by_cases e2 : v2 = v
      · rw [if_pos e2]
        intro hk2
        rcases hown with ho | ho
        · rw [ho, ← e2] at hk2
          exact h.apart v1 v2 k h1 h2 hne hk hk2
        · rw [ho] at hk2
          have := (ownge v1 h1 k hk).2
          cases hk2
          omega
      · rw [if_neg e2]
        exact h.apart v1 v2 k h1 h2 hne hk
  · have t3 : (w2.setCell ⟨U, v, .none⟩ v').heap[T]? = some (.cells (fcells n (fun i => iv (waitsT gs t i))) 3 (0, 0)) := by
      rw [Below.heap_setCell _ ⟨U, v, .none⟩ _ T (fun e => hUT e.symm)]; exact t2
    have := block_setCell t3 (i := i) (iv (waitsT gs t i + 1))
    rw [fcells_set] at this
    rw [this]
    congr 2
    refine fcells_congr (fun j _ => ?_)
    rw [waitsT_yes hg, ← hi]
    by_cases e : j = i
    · rw [if_pos e, if_pos e, e]
    · rw [if_neg e, if_neg e]
  · refine ⟨?_, ?_, ?_, ?_, fun D hD h1 h2 => ?_⟩
    · exact hgr.os.trans hb.os
    · exact hgr.tape.trans hb.tape
    · exact hgr.output.trans hb.output
    · have : ((w2.setCell ⟨U, v, .none⟩ v').setCell ⟨T, i, .none⟩ (iv (waitsT gs t i + 1))).heap.size = w2.heap.size := by simp
      omega
    · rw [keep D h1 h2, hgr.block D (by omega) (fun e => by have := (ownge v hvm D e.symm).1; omega), hb.block D (by omega)]

/-- Which variables are gates', by a list of bools. -/
def igF : List Bool → List Tri → List Bool
  | d, [] => d
  | d, g :: r => igF (d.set (g.1 / 2) true) r
theorem igF_len : ∀ (gs : List Tri) (d : List Bool), (igF d gs).length = d.length
  | [], _ => rfl
  | g :: r, d => by rw [igF, igF_len r]; simp
theorem igF_get : ∀ (gs : List Tri) (d : List Bool) (v : Nat), v < d.length → (igF d gs).getD v false = (d.getD v false || isG gs v)
  | [], d, v, _ => by simp [igF, isG]
  | g :: r, d, v, h => by
    rw [igF, igF_get r _ v (by simpa using h)]
    have e : isG (g :: r) v = ((g.1 / 2 == v) || isG r v) := by simp [isG]
    rw [e, ← Bool.or_assoc]
    congr 1
    by_cases e : g.1 / 2 = v
    · subst e; simp [List.getD, h]
    · have : (g.1 / 2 == v) = false := by simpa using e
      simp [List.getD, e, this]
theorem igF_snoc (d : List Bool) : ∀ (l : List Tri) (g : Tri), igF d (l ++ [g]) = (igF d l).set (g.1 / 2) true := by
  intro l
  induction l generalizing d with
  | nil => intro g; rfl
  | cons h t ih => intro g; rw [List.cons_append, igF, igF, ih]

theorem info_ints : (Try.prog.info? 108).map (fun i => (i.zero, i.size, i.bytes)) = some (some (.slice none 0 0), 1, 24) := by kernel_rfl
/-- A gate's two literals, by place. -/
theorem lit_index (a b x j : Nat) (hj : j < 2) (hx : x = if j = 0 then a else b) (W : World) : (Instr.index 121 (.agg #[.int .u32 a, .int .u32 b]) (.int .i64 j)).run Try.prog W = .ok (.int .u32 x) W := by
  subst hx
  match j, hj with
  | 0, _ => exact Eq.trans (by kernel_rfl : _ = Result.ok (.int .u32 (a : Int)) W) rfl
  | 1, _ => exact Eq.trans (by kernel_rfl : _ = Result.ok (.int .u32 (b : Int)) W) rfl

/-- What dependences answers. -/
def DepsPost (r : RawC) (w : World) (e : Ending) (w' : World) : Prop :=
  ∃ U T base uv, e = .returned (.tuple #[.slice (some ⟨U, 0, .none⟩) (r.max + 1) (r.max + 1), .slice (some ⟨T, 0, .none⟩) r.gates.length r.gates.length]) ∧ Dep r.gates r.max r.gates.length U T base (2 * r.gates.length) w' uv ∧ U < base ∧ T < base ∧ U ≠ T ∧ base ≤ w'.heap.size ∧ w.heap.size ≤ U ∧ w.heap.size ≤ T ∧ Below w.heap.size w w'

set_option maxRecDepth 100000 in
set_option maxHeartbeats 3200000 in
theorem deps_any (r : RawC) (s : Slots) (w : World) (h : SeesRaw w s r) (hf : s.small) (hm : r.max ≤ 16384) (hlit : ∀ g ∈ r.gates, g.1 / 2 ≤ r.max ∧ g.2.1 / 2 ≤ r.max ∧ g.2.2 / 2 ≤ r.max) :
    Calls Try.prog 83 #[rawV r.max s] w (DepsPost r w) := by
  obtain ⟨i0, hi, hz0, hz1, hz2⟩ := info_parts info_bool
  obtain ⟨i3, hi3, hz30, hz31, hz32⟩ := info_parts info_int
  obtain ⟨i8, hi8, hz80, hz81, hz82⟩ := info_parts info_ints
  obtain ⟨a1, n1, c1, a2, n2, c2, a3, n3, c3, a4, n4, c4, a5, n5, c5, a6, n6, c6⟩ := s
  obtain ⟨hf1, hf2, hf3, hf4, hf5, hf6⟩ := hf
  simp only at hf1 hf2 hf3 hf4 hf5 hf6
  obtain ⟨m, hmm⟩ : ∃ m, m = r.max := ⟨_, rfl⟩
  have l6 : r.gates.length = n6 := h.s6.1
  have HM := Lib.hid hmm
  have L6 := Lib.hid l6
  have HS := Lib.hid h
  have HLT := Lib.hid hlit
  rw [← hmm] at hm ⊢
  clear hmm l6 h hlit
  have mk := fun W => run_make_u32 (P := Try.prog) Try.underlying52 hi hz0 hz1 hz2 rfl (m + 1) ((m : Int) + 1) (by omega) (by omega) (by omega) W
  rw [bcells_zero] at mk
  have mk8 := fun W => run_make_u32 (P := Try.prog) Try.underlying107 hi8 hz80 hz81 hz82 rfl (m + 1) ((m : Int) + 1) (by omega) (by omega) (by omega) W
  rw [fcells_zero] at mk8
  have mk3 := fun W => run_make_n (P := Try.prog) Try.underlying108 hi3 hz30 hz31 hz32 rfl n6 (by omega) (by omega) W
  rw [fcells_zero] at mk3
  have W0 : IntKind.u32.wrap ((m : Int) + 1) = (m : Int) + 1 := by
    have h0 : (0 : Int) ≤ m := by omega
    unfold IntKind.wrap; simp [IntKind.signed, IntKind.bits]; omega
  unfold rawV
  go_enter Try.func83, Try.ntmps83
  go_wp2
  go_loopw [19] (fun i wr => ∃ k : Nat, k ≤ n6 ∧ i = .int .i64 k ∧ Hid (wr.heap[w.heap.size + 1]? = some (.cells (bcells (igF (List.replicate (m + 1) false) (r.gates.take k))) 4 (0, 0))) ∧ Hid (Below w.heap.size w wr) ∧ Hid (wr.heap[w.heap.size]? = some (.cells #[.int .u32 m, .slice a1 n1 c1, .slice a2 n2 c2, .slice a3 n3 c3, .slice a4 n4 c4, .slice a5 n5 c5, .slice a6 n6 c6] 37 (0, 0))))
    (fun i _ => n6 - (intOf i).toNat)
  case atStart =>
    refine ⟨0, Nat.zero_le _, rfl, ?_, ?_, ?_⟩
    · show _ = _
      exact heap_new _ _ _ (by simp)
    · exact ext_trans (ext_alloc _ _) (ext_alloc _ _)
    · show _ = _
      exact heap_below (heap_new _ _ _ rfl) (ext_alloc _ _)
  case round =>
    obtain ⟨k, hk, rfl, hG, hB, hX⟩ := hrel
    by_cases hlt2 : k < n6
    · obtain ⟨b, off, rfl, hbw⟩ := HS.out.s6.addr (show 0 < n6 by omega)
      obtain ⟨qx, qy, qz⟩ := (HS.out.s6.below hB.out).cells k hlt2 (0, 0, 0)
      obtain ⟨t, ht⟩ : ∃ t, t = r.gates.getD k (0, 0, 0) := ⟨_, rfl⟩
      have htm : t ∈ r.gates := by rw [ht]; exact getD_mem (by rw [L6.out]; exact hlt2)
      have hb3 := HLT.out t htm
      rw [← ht] at qx qy qz
      have HT := Lib.hid ht
      clear ht htm
      obtain ⟨x, y, z⟩ := t
      unfold nv32 at qx qy qz
      simp only at hb3
      obtain ⟨hb3, _, _⟩ := hb3
      rw [← HM.out] at hb3
      have hxm : x / 2 < m + 1 := by omega
      have W1' : IntKind.i64.wrap ((k : Int) + 1) = (k : Int) + 1 := IntWalk.i64_in _ (by omega)
      obtain ⟨d, hd⟩ : ∃ d, d = igF (List.replicate (m + 1) false) (r.gates.take k) := ⟨_, rfl⟩
      rw [← hd] at hG
      have hdl : d.length = m + 1 := by rw [hd, igF_len]; simp
      have hcd := (cell_of_block hG.out (x / 2)).trans (bcells_get d (x / 2) (by omega))
      have hfd := unfrozen_of_block hG.out (x / 2)
      have HD := Lib.hid hd
      have HDL := Lib.hid hdl
      obtain ⟨q, hq⟩ : ∃ q, q = d.getD (x / 2) false := ⟨_, rfl⟩
      rw [← hq] at hcd
      have hcd2 := cell_below hcd (ext_alloc wr (.cells #[.int .u32 x, .int .u32 y, .int .u32 z] 59))
      have hlt3 := heap_lt hG.out
      have HG1 : Hid (((wr.setCell ⟨w.heap.size + 1, x / 2, .none⟩ (.bool true)).alloc (.cells #[.int .u32 x, .int .u32 y, .int .u32 z] 59)).heap[w.heap.size + 1]? = some (.cells (bcells (igF (List.replicate (m + 1) false) (r.gates.take (k + 1)))) 4 (0, 0))) := by
        have h1 := block_setCell hG.out (i := x / 2) (.bool true)
        rw [bcells_set] at h1
        have e : igF (List.replicate (m + 1) false) (r.gates.take (k + 1)) = d.set (x / 2) true := by
          rw [List.take_succ_eq_append_getElem (by rw [L6.out]; exact hlt2), igF_snoc, ← hd]
          have : r.gates[k]'(by rw [L6.out]; exact hlt2) = (x, y, z) := by
            have := HT.out
            simp [List.getD, List.getElem?_eq_getElem (show k < r.gates.length by rw [L6.out]; exact hlt2)] at this
            exact this.symm
          rw [this]
        show _ = _
        rw [e]
        exact heap_below h1 (ext_alloc _ _)
      have HB1 : Hid (Below w.heap.size w ((wr.setCell ⟨w.heap.size + 1, x / 2, .none⟩ (.bool true)).alloc (.cells #[.int .u32 x, .int .u32 y, .int .u32 z] 59))) :=
        (hB.out.setCell (p := ⟨w.heap.size + 1, x / 2, .none⟩) (by show w.heap.size ≤ w.heap.size + 1; omega) _).alloc (by have := hB.out.size; simp; omega) _
      have HX1 : Hid (((wr.setCell ⟨w.heap.size + 1, x / 2, .none⟩ (.bool true)).alloc (.cells #[.int .u32 x, .int .u32 y, .int .u32 z] 59)).heap[w.heap.size]? = some (.cells #[.int .u32 m, .slice a1 n1 c1, .slice a2 n2 c2, .slice a3 n3 c3, .slice a4 n4 c4, .slice a5 n5 c5, .slice (some ⟨b, off, .none⟩) n6 c6] 37 (0, 0))) := by
        refine heap_below ?_ (ext_alloc _ _)
        exact (Below.heap_setCell wr ⟨w.heap.size + 1, x / 2, .none⟩ _ w.heap.size (by show w.heap.size ≠ w.heap.size + 1; omega)).trans hX.out
      clear hd hdl hq hG hB hX
      go_wp2
      go_roundw
      case rel => exact ⟨k + 1, by omega, by go_num, HG1, HB1, HX1⟩
      case measure => simp [intOf]; omega
    · obtain rfl : n6 = k := by omega
      have hG2 := hG.out
      rw [List.take_of_length_le (by rw [L6.out]; exact Nat.le_refl _)] at hG2
      have p0 := cell_of_block hX.out 0
      have p6 := cell_of_block hX.out 6
      have p0b := cell_below p0 (ext_alloc wr (.cells (fcells (m + 1) fun _ => .slice none 0 0) 108))
      have p6b := cell_below p6 (ext_alloc wr (.cells (fcells (m + 1) fun _ => .slice none 0 0) 108))
      have p6c := cell_below p6b (ext_alloc (wr.alloc (.cells (fcells (m + 1) fun _ => .slice none 0 0) 108)) (.cells (fcells n6 fun _ => .int .i64 0) 3))
      have HG := Lib.hid hG2
      have HB := Lib.hid hB.out
      have HX := Lib.hid hX.out
      obtain ⟨U, hU⟩ : ∃ U, U = wr.heap.size := ⟨_, rfl⟩
      have hUw : w.heap.size + 1 < U := by rw [hU]; exact heap_lt hG2
      have HU := Lib.hid hU
      clear hG hB hX hG2 hlt2 hk hU
      go_wp2
      clear p0 p6 p0b p6b p6c
      generalize hW : World.alloc (World.alloc wr _) _ = W2
      have B2 : Below wr.heap.size wr W2 := by subst hW; exact ext_trans (ext_alloc _ _) (ext_alloc _ _)
      have hus : W2.heap[U]? = some (.cells (fcells (m + 1) fun _ => .slice none 0 0) 108 (0, 0)) := by subst hW; exact heap_below (heap_new _ _ _ HU.out) (ext_alloc _ _)
      have hws : W2.heap[U + 1]? = some (.cells (fcells n6 fun _ => .int .i64 0) 3 (0, 0)) := by subst hW; exact heap_new _ _ _ (by rw [HU.out]; simp)
      have hsz : W2.heap.size = U + 1 + 1 := by subst hW; rw [HU.out]; simp
      clear hW
      obtain ⟨T, hT⟩ : ∃ T, T = U + 1 := ⟨_, rfl⟩
      obtain ⟨base, hba⟩ : ∃ base, base = U + 1 + 1 := ⟨_, rfl⟩
      have hUb : U < base := by omega
      have hTb : T < base := by omega
      have hUT : U ≠ T := by omega
      have hwU : w.heap.size + 1 < U := hUw
      have hwT : w.heap.size + 1 < T := by omega
      have hwb : w.heap.size + 1 < base := by omega
      rw [← hba] at hsz
      rw [← hT] at hws
      have HGT := Lib.hid (heap_below HG.out B2)
      have HX2 := Lib.hid (heap_below HX.out B2)
      have HBW := Lib.hid (ext_trans HB.out B2)
      have hdep : Dep r.gates m n6 U T base (2 * 0) W2 (fun _ => .slice none 0 0) := by
        refine ⟨hus, fun v _ => ?_, fun v1 v2 k _ _ _ h => by simp [Value.ownBlock] at h, hws⟩
        exact ownsN_nil _ _ _ _
      have HDEP := Lib.hid hdep
      have HSZ := Lib.hid hsz
      rw [← HU.out, ← hT]
      have HTT := Lib.hid hT
      clear B2 hus hws hdep hsz hba hT HU HG HX HB mk mk8 mk3
      go_loopw [40] (fun i wr => ∃ (k : Nat) (uv : Nat → Value), k ≤ n6 ∧ i = .int .i64 k ∧ Hid (Dep r.gates m n6 U T base (2 * k) wr uv) ∧ Hid (But2 base U T W2 wr))
        (fun i _ => n6 - (intOf i).toNat)
      case atStart => exact ⟨0, _, Nat.zero_le _, rfl, HDEP.out, But2.refl _ _ _ _⟩
      case round =>
        clear HDEP
        obtain ⟨k, uv, hk, rfl, hD, hBB⟩ := hrel
        by_cases hlt2 : k < n6
        · obtain ⟨b, off, rfl, hbw⟩ := HS.out.s6.addr (show 0 < n6 by omega)
          have hlow : Below w.heap.size w wr := HBW.out.trans (hBB.out.low (by omega) (by omega) (by omega))
          obtain ⟨qx, qy, qz⟩ := (HS.out.s6.below hlow).cells k hlt2 (0, 0, 0)
          obtain ⟨t, ht⟩ : ∃ t, t = r.gates.getD k (0, 0, 0) := ⟨_, rfl⟩
          have htm : t ∈ r.gates := by rw [ht]; exact getD_mem (by rw [L6.out]; exact hlt2)
          have hb3 := HLT.out t htm
          rw [← ht] at qx qy qz
          have HT := Lib.hid ht
          clear ht htm
          obtain ⟨x, y, z⟩ := t
          unfold nv32 at qx qy qz
          simp only at hb3
          obtain ⟨_, hy3, hz3⟩ := hb3
          rw [← HM.out] at hy3 hz3
          have HY3 := Lib.hid hy3
          have HZ3 := Lib.hid hz3
          have W1' : IntKind.i64.wrap ((k : Int) + 1) = (k : Int) + 1 := IntWalk.i64_in _ (by omega)
          clear hlow hy3 hz3
          go_wp2
          go_loopw [50] (fun jv wi => ∃ (j : Nat) (uv' : Nat → Value), j ≤ 2 ∧ jv = .int .i64 j ∧ Hid (Dep r.gates m n6 U T base (2 * k + j) wi uv') ∧ Hid (But2 base U T W2 wi))
            (fun jv _ => 2 - (intOf jv).toNat)
          case atStart =>
            refine ⟨0, uv, by omega, rfl, ?_, ?_⟩
            · exact hD.out.below (ext_alloc _ _)
            · exact hBB.out.trans (But2.of_below ((ext_alloc _ _).mono (by have := hBB.out.size; have := HSZ.out; omega)))
          case round =>
            clear hD hBB
            obtain ⟨j, uv, hj, rfl, hD, hBB⟩ := hrel
            by_cases hj2 : j < 2
            · obtain ⟨u, hu⟩ : ∃ u, u = if j = 0 then y else z := ⟨_, rfl⟩
              have ix := fun W => lit_index y z u j hj2 hu W
              have huM : u / 2 ≤ m := by
                rw [hu]
                split
                · exact HY3.out
                · exact HZ3.out
              have huM1 : u / 2 < m + 1 := by omega
              have hul : litV r.gates (2 * k + j) = u / 2 := by
                unfold litV
                rw [show (2 * k + j) / 2 = k by omega, show gAt r.gates k = (x, y, z) from HT.out.symm, hu]
                by_cases e : j = 0
                · rw [if_pos (by omega), if_pos e]
                · rw [if_neg (by omega), if_neg e]
              have Wj : IntKind.i64.wrap ((j : Int) + 1) = (j : Int) + 1 := IntWalk.i64_in _ (by omega)
              have hgc := cell_of_block (hBB.out.at HGT.out (by omega) (by omega) (by omega)) (u / 2)
              rw [bcells_get _ _ (by rw [igF_len]; simp; omega), igF_get _ _ _ (by simp; omega)] at hgc
              have erep : (List.replicate (m + 1) false).getD (u / 2) false = false := by
                simp only [List.getD, List.getElem?_replicate]
                split <;> rfl
              rw [erep, Bool.false_or] at hgc
              obtain ⟨q, hq⟩ : ∃ q, q = isG r.gates (u / 2) := ⟨_, rfl⟩
              rw [← hq] at hgc
              have HUL := Lib.hid hul
              have HQ := Lib.hid hq
              clear hu hul erep hq
              cases q with
              | false =>
                have HD1 : Hid (Dep r.gates m n6 U T base (2 * k + (j + 1)) wr uv) := hD.out.no (by rw [HUL.out]; exact HQ.out.symm)
                have HBB := Lib.hid hBB.out
                clear hD hBB
                go_wp2
                go_roundw
                case rel => exact ⟨j + 1, uv, by omega, by go_num, HD1, HBB⟩
                case measure => simp [intOf]; omega
              | true =>
                have hrow := hD.out.rows (u / 2) huM
                obtain ⟨a, c, hva⟩ := ownsN_form hrow
                have hcu := (cell_of_block hD.out.users (u / 2)).trans (fcells_get _ _ _ huM1)
                rw [hva] at hcu hrow
                obtain ⟨N, hN⟩ : ∃ N, N = (usersT r.gates (2 * k + j) (u / 2)).length := ⟨_, rfl⟩
                have hNl : N ≤ 2 * k + j := by rw [hN]; exact usersT_len _ _ _
                rw [← hN] at hcu hrow hva
                obtain ⟨L, hL⟩ : ∃ L, L = (usersT r.gates (2 * k + j) (u / 2)).map iv := ⟨_, rfl⟩
                rw [← hL] at hrow
                obtain ⟨cc, hcc⟩ : ∃ cc, cc = waitsT r.gates (2 * k + j) k := ⟨_, rfl⟩
                have hccl : cc ≤ 2 * k + j := by rw [hcc]; exact waitsT_len _ _ _
                have hbs : base ≤ wr.heap.size := by have := hBB.out.size; have := HSZ.out; omega
                have HROW := Lib.hid hrow
                have HN := Lib.hid hN
                have HL := Lib.hid hL
                have HCC := Lib.hid hcc
                have HVA := Lib.hid hva
                have Wc : IntKind.i64.wrap ((cc : Int) + 1) = (cc : Int) + 1 := IntWalk.i64_in _ (by omega)
                clear hrow hN hL hcc hva
                go_wp2_with (at_builtin; refine wpList_append_own_at _ rfl _ _ 108 rfl base 3 i3 (.int .i64 0) 1 8 Try.underlying108 hi3 hz30 hz31 hz32 rfl (by omega) _ _ L rfl (ownsN_below HROW.out (ext_alloc _ _)) ⟨wr.heap.size, 0, none⟩ 1 1 [iv k] rfl rfl ?c1 ?c2 ?c4 ?c5 ?c6 ?_)
                case c1 => exact World.news_of_block (heap_new wr (.cells #[.int .i64 k] 3) wr.heap.size rfl)
                case c2 => first | rfl | (intro u hu; simp at hu; subst hu; rfl)
                case c4 => unfold maxLen; omega
                case c5 => omega
                case c6 => exact Nat.le_trans hbs (ext_alloc _ _).size
                intro v' w2 hrow2 hgr _ hown
                have hb1 : Below wr.heap.size wr (wr.alloc (.cells #[.int .i64 k] 3)) := ext_alloc _ _
                have hgr' : (wr.alloc (.cells #[.int .i64 k] 3)).grownBy w2 (uv (u / 2)).ownBlock := by rw [HVA.out]; exact hgr
                have hU2 := heap_grown (heap_below hD.out.users hb1) hgr' (fun e => by have := ((hD.out.rows (u / 2) huM).lt U e).1; omega)
                have hT2 := heap_grown (heap_below hD.out.waits hb1) hgr' (fun e => by have := ((hD.out.rows (u / 2) huM).lt T e).1; omega)
                obtain ⟨a2, c2', hv2⟩ := ownsN_form hrow2
                have hyes := Dep.yes (v := u / 2) (i := k) hD.out (by rw [HUL.out]; exact HQ.out.symm) HUL.out.symm (by omega) huM hUb hTb hUT hbs hb1 hgr' hrow2 (by rw [HN.out]) (by rw [HL.out]) (by rw [HVA.out]; simpa using hown)
                rw [← HCC.out] at hyes
                rw [hv2] at hyes
                have hcu2 := (cell_of_block hU2 (u / 2)).trans (fcells_get _ _ _ huM1)
                rw [HVA.out] at hcu2
                have hfu2 := unfrozen_of_block hU2 (u / 2)
                have hT3 : (w2.setCell ⟨U, u / 2, .none⟩ v').heap[T]? = some (.cells (fcells n6 (fun i => iv (waitsT r.gates (2 * k + j) i))) 3 (0, 0)) := (Below.heap_setCell w2 ⟨U, u / 2, .none⟩ v' T (fun e => hUT e.symm)).trans hT2
                have hct := (cell_of_block hT3 k).trans (fcells_get _ _ _ hlt2)
                rw [← HCC.out] at hct
                unfold iv at hct
                have hft := unfrozen_of_block hT3 k
                subst hv2
                have HYES := Lib.hid hyes.1
                have HBB := Lib.hid (hBB.out.trans hyes.2)
                clear hD hBB hb1 hgr hgr' hU2 hT2 hT3 hyes hrow2 hown
                go_wp2
                go_roundw
                case rel => exact ⟨j + 1, _, by omega, by go_num, HYES.out, HBB.out⟩
                case measure => simp [intOf]; omega
            · obtain rfl : j = 2 := by omega
              have HD1 : Hid (Dep r.gates m n6 U T base (2 * (k + 1)) wr uv) := hD.out
              have HBB := Lib.hid hBB.out
              clear hD hBB
              go_wp2
              go_roundw
              case rel => exact ⟨k + 1, uv, by omega, by go_num, HD1, HBB⟩
              case measure => simp [intOf]; omega
        · obtain rfl : n6 = k := by omega
          have hl := hBB.out.low (B := w.heap.size) (by omega) (by omega) (by omega)
          have HDD := Lib.hid hD.out
          have HLL := Lib.hid (HBW.out.trans hl)
          have hsz2 := hBB.out.size
          clear hD hBB hl
          go_wp2
          go_ret2
          refine ⟨U, T, base, uv, ?_, ?_, hUb, hTb, hUT, by have := HSZ.out; omega, by omega, by omega, HLL.out⟩
          · rw [← HM.out, L6.out]
            rfl
          · rw [← HM.out, L6.out]
            exact HDD.out
end Go.Proofs.Ytkbdebdhebphpaa
