/- raw.literal, raw.gate and raw.latch, by their contracts. -/
import Derived.Test.YtglhnmbfkbjemaaGreatDoorBkC
import Derived.Test.YtglhnmbfkbjemaaGreatDoorBkD
namespace Go.Proofs.YtglhnmbfkbjemaaGreatDoor
open Go Go.RowKit Go.Joins
theorem ri_nums_len {bs : List UInt8} {least many : Int} {most : Nat} (h : numsErr bs least many most = 0) : least ≤ ((numsOf bs most).length : Int) ∧ ((numsOf bs most).length : Int) ≤ many := by
  unfold numsErr at h
  unfold numsOf
  cases hw : wordsOf bs with
  | none => rw [hw] at h; cases h
  | some W =>
    rw [hw] at h
    simp only at h
    split at h
    · cases h
    · rename_i h2
      simp only [Option.getD_some, List.length_map]
      omega
def ItemPost {α : Type} (val : α → Value) (zero : Value) (s : Except Int α) (w : World) (e : Ending) (w' : World) : Prop :=
  Below w.heap.size w w' ∧ ((∃ x, s = .ok x ∧ e = .returned (.tuple #[val x, .int .i64 0])) ∨ (∃ er, s = .error er ∧ er ≠ 0 ∧ e = .returned (.tuple #[zero, .int .i64 er])))
def triV (t : Tri) : Value := .agg #[.int .u32 t.1, .int .u32 t.2.1, .int .u32 t.2.2]
theorem ri_literal_any (bs : List UInt8) (most : Nat) (a : Option Addr) (n c : Nat) (w : World) (h : Sees w a n c (bs.map bv)) (hn : n ≤ 100000000) (hm : most < 4294967296) :
    Calls Tryz.prog 61 #[.slice a n c, .int .u32 most] w (ItemPost nv32 (.int .u32 0) (litS bs most) w) := by
  by_cases h0 : numsErr bs 1 1 most = 0
  · have hs : litS bs most = .ok ((numsOf bs most).getD 0 0) := by unfold litS; rw [if_pos h0]
    have hl := ri_nums_len h0
    have HN := Lib.hid (numbers_yes bs (numsOf bs most) a n c 1 1 most w h hn hm h0 rfl)
    have HS := Lib.hid hs
    have hl1 : (numsOf bs most).length = 1 := by omega
    have HL := Lib.hid hl1
    clear h h0 hs hl hl1
    go_enter Tryz.func61, Tryz.ntmps61
    go_wp2_with fail
    refine HN.out.mono ?_
    rintro e w1 ⟨v, rfl, r, hb⟩
    rw [HL.out] at r
    obtain ⟨a1, c1, rfl, _, s1⟩ := r.sees
    obtain ⟨b, off, rfl, hlt⟩ := s1.addr (by omega)
    have hc0 : w1.cell? ⟨b, off, none⟩ = some (.int .u32 ((numsOf bs most).getD 0 0 : Nat)) := s1.num 0 (by omega)
    obtain ⟨x, hx⟩ : ∃ x, x = (numsOf bs most).getD 0 0 := ⟨_, rfl⟩
    rw [← hx] at hc0 HS
    have HB := Lib.hid hb
    clear hx r s1 hb
    go_wp2
    go_ret2
    exact ⟨HB.out, Or.inl ⟨x, HS.out, rfl⟩⟩
  · obtain ⟨er, he⟩ : ∃ er, er = numsErr bs 1 1 most := ⟨_, rfl⟩
    have hs : litS bs most = .error er := by unfold litS; rw [if_neg h0, he]
    rw [← he] at h0
    have HN := Lib.hid (numbers_no bs er a n c 1 1 most w h hn hm he.symm h0)
    have HS := Lib.hid hs
    have H0 := Lib.hid h0
    have e1 : (er != 0) = true := by simp [h0]
    have e2 : (er == 0) = false := by simp [h0]
    clear h h0 hs he
    go_enter Tryz.func61, Tryz.ntmps61
    go_wp2_with fail
    refine HN.out.mono ?_
    rintro e w1 ⟨rfl, hb⟩
    have HB := Lib.hid hb
    clear hb
    go_wp2
    go_ret2
    exact ⟨HB.out, Or.inr ⟨er, HS.out, H0.out, rfl⟩⟩
theorem gate_any (bs : List UInt8) (most : Nat) (a : Option Addr) (n c : Nat) (w : World) (h : Sees w a n c (bs.map bv)) (hn : n ≤ 100000000) (hm : most < 4294967296) :
    Calls Tryz.prog 65 #[.slice a n c, .int .u32 most] w (ItemPost triV (.agg #[.int .u32 0, .int .u32 0, .int .u32 0]) (gateS bs most) w) := by
  by_cases h0 : numsErr bs 3 3 most = 0
  · have hs : gateS bs most = .ok (triOf (numsOf bs most)) := by unfold gateS; rw [if_pos h0]
    have hl := ri_nums_len h0
    have HN := Lib.hid (fun o : Obj => numbers_yes bs (numsOf bs most) a n c 3 3 most (w.alloc o) (h.below (ext_alloc _ _)) hn hm h0 rfl)
    have HS := Lib.hid hs
    have hl1 : (numsOf bs most).length = 3 := by omega
    have HL := Lib.hid hl1
    clear h h0 hs hl hl1
    go_enter Tryz.func65, Tryz.ntmps65
    go_wp2_with fail
    refine (HN.out _).mono ?_
    rintro e w1 ⟨v, rfl, r, hb⟩
    rw [HL.out] at r
    obtain ⟨a1, c1, rfl, _, s1⟩ := r.sees
    obtain ⟨b, off, rfl, hlt⟩ := s1.addr (by omega)
    have hc0 : w1.cell? ⟨b, off, none⟩ = some (.int .u32 ((numsOf bs most).getD 0 0 : Nat)) := s1.num 0 (by omega)
    have hc1 := s1.num 1 (by omega)
    have hc2 := s1.num 2 (by omega)
    obtain ⟨x, hx⟩ : ∃ x, x = (numsOf bs most).getD 0 0 := ⟨_, rfl⟩
    obtain ⟨y, hy⟩ : ∃ x, x = (numsOf bs most).getD 1 0 := ⟨_, rfl⟩
    obtain ⟨z, hz⟩ : ∃ x, x = (numsOf bs most).getD 2 0 := ⟨_, rfl⟩
    rw [← hx] at hc0
    rw [← hy] at hc1
    rw [← hz] at hc2
    unfold triOf at HS
    rw [← hx, ← hy, ← hz] at HS
    have hres : w1.heap[w.heap.size]? = some (.cells #[.int .u32 0, .int .u32 0, .int .u32 0] 58 (0, 0)) := heap_below (heap_new _ _ _ rfl) hb
    have hd0 := cell_of_block hres 0
    have hd1 := cell_of_block hres 1
    have hd2 := cell_of_block hres 2
    have hf0 := unfrozen_of_block hres 0
    have hf1 := unfrozen_of_block hres 1
    have hf2 := unfrozen_of_block hres 2
    have HB := Lib.hid (ext_behind hb)
    have HRES := Lib.hid hres
    clear hx hy hz r s1 hb hres
    go_wp2
    go_region
    go_wp2
    refine bodyPost_ret (v := .tuple #[triV (x, y, z), .int .i64 0]) ?_ rfl ?_
    · have h1 := block_setCell HRES.out (i := 0) (.int .u32 x)
      have h2 := block_setCell h1 (i := 1) (.int .u32 y)
      have h3 := block_setCell h2 (i := 2) (.int .u32 z)
      have g0 := cell_of_block h3 0
      have g1 := cell_of_block h3 1
      have g2 := cell_of_block h3 2
      simp [results, Tryz.results65, go_sem, g0, g1, g2]
      rfl
    · exact ⟨(((HB.out.setCell (Nat.le_refl _) _).setCell (Nat.le_refl _) _).setCell (Nat.le_refl _) _).drew, Or.inl ⟨(x, y, z), HS.out, rfl⟩⟩
  · obtain ⟨er, he⟩ : ∃ er, er = numsErr bs 3 3 most := ⟨_, rfl⟩
    have hs : gateS bs most = .error er := by unfold gateS; rw [if_neg h0, he]
    rw [← he] at h0
    have HN := Lib.hid (fun o : Obj => numbers_no bs er a n c 3 3 most (w.alloc o) (h.below (ext_alloc _ _)) hn hm he.symm h0)
    have HS := Lib.hid hs
    have H0 := Lib.hid h0
    have e1 : (er != 0) = true := by simp [h0]
    have e2 : (er == 0) = false := by simp [h0]
    clear h h0 hs he
    go_enter Tryz.func65, Tryz.ntmps65
    go_wp2_with fail
    refine (HN.out _).mono ?_
    rintro e w1 ⟨rfl, hb⟩
    have hres : w1.heap[w.heap.size]? = some (.cells #[.int .u32 0, .int .u32 0, .int .u32 0] 58 (0, 0)) := heap_below (heap_new _ _ _ rfl) hb
    have hd0 := cell_of_block hres 0
    have hd1 := cell_of_block hres 1
    have hd2 := cell_of_block hres 2
    have hf0 := unfrozen_of_block hres 0
    have hf1 := unfrozen_of_block hres 1
    have hf2 := unfrozen_of_block hres 2
    have HB := Lib.hid (ext_behind hb)
    have HRES := Lib.hid hres
    clear hb hres
    go_wp2
    refine bodyPost_ret (v := .tuple #[.agg #[.int .u32 0, .int .u32 0, .int .u32 0], .int .i64 er]) ?_ rfl ?_
    · have h1 := block_setCell HRES.out (i := 0) (.int .u32 0)
      have h2 := block_setCell h1 (i := 1) (.int .u32 0)
      have h3 := block_setCell h2 (i := 2) (.int .u32 0)
      have g0 := cell_of_block h3 0
      have g1 := cell_of_block h3 1
      have g2 := cell_of_block h3 2
      simp [results, Tryz.results65, go_sem, g0, g1, g2]
    · exact ⟨((HB.out.setCell (Nat.le_refl _) _).setCell (Nat.le_refl _) _).setCell (Nat.le_refl _) _, Or.inr ⟨er, HS.out, H0.out, rfl⟩⟩
theorem ri_latch_any (bs : List UInt8) (most : Nat) (a : Option Addr) (n c : Nat) (w : World) (h : Sees w a n c (bs.map bv)) (hn : n ≤ 100000000) (hm : most < 4294967296) :
    Calls Tryz.prog 63 #[.slice a n c, .int .u32 most] w (ItemPost triV (.agg #[.int .u32 0, .int .u32 0, .int .u32 0]) (latS bs most) w) := by
  by_cases h0 : numsErr bs 2 3 most = 0
  · have hl := ri_nums_len h0
    by_cases h3 : (numsOf bs most).length = 3
    · have hl1 : (numsOf bs most).length = 3 := by omega
      have HL := Lib.hid hl1
      have HN := Lib.hid (fun o : Obj => numbers_yes bs (numsOf bs most) a n c 2 3 most (w.alloc o) (h.below (ext_alloc _ _)) hn hm h0 rfl)
      have hlat : latOf (numsOf bs most) = ((numsOf bs most).getD 0 0, (numsOf bs most).getD 1 0, (numsOf bs most).getD 2 0) := by unfold latOf; rw [hl1]; rfl
      have hs : latS bs most = if mayReset (latOf (numsOf bs most)) = true then .ok (latOf (numsOf bs most)) else .error 5 := by unfold latS; rw [if_pos h0]
      rw [hlat] at hs
      have HS := Lib.hid hs
      clear h h0 hs hl hl1 hlat
      go_enter Tryz.func63, Tryz.ntmps63
      go_wp2_with fail
      refine (HN.out _).mono ?_
      rintro e w1 ⟨v, rfl, r, hb⟩
      rw [HL.out] at r
      obtain ⟨a1, c1, rfl, _, s1⟩ := r.sees
      obtain ⟨b, off, rfl, hlt⟩ := s1.addr (by omega)
      have hc0 : w1.cell? ⟨b, off, none⟩ = some (.int .u32 ((numsOf bs most).getD 0 0 : Nat)) := s1.num 0 (by omega)
      have hc1 := s1.num 1 (by omega)
      have hc2 := s1.num 2 (by omega)
      obtain ⟨x, hx⟩ : ∃ x, x = (numsOf bs most).getD 0 0 := ⟨_, rfl⟩
      obtain ⟨y, hy⟩ : ∃ x, x = (numsOf bs most).getD 1 0 := ⟨_, rfl⟩
      obtain ⟨z, hz⟩ : ∃ x, x = (numsOf bs most).getD 2 0 := ⟨_, rfl⟩
      rw [← hz] at hc2
      rw [← hx] at hc0
      rw [← hy] at hc1
      rw [← hx, ← hy, ← hz] at HS
      have hres : w1.heap[w.heap.size]? = some (.cells #[.int .u32 0, .int .u32 0, .int .u32 0] 55 (0, 0)) := heap_below (heap_new _ _ _ rfl) hb
      have hlt1 := heap_lt hres
      have HB := Lib.hid (ext_behind hb)
      have HRES := Lib.hid hres
      clear hx hy hz r s1 hb hres
      go_wp2
      go_region
      go_wp2_with fail
      refine (mayReset_any x y z _).mono ?_
      generalize hW : World.drew _ = W2
      have hr2 : W2.heap[w.heap.size]? = some (.cells #[.int .u32 0, .int .u32 0, .int .u32 0] 55 (0, 0)) := by subst hW; exact heap_below HRES.out (ext_alloc _ _).drew
      have hd2 : W2.heap[w1.heap.size]? = some (.cells #[.int .u32 x, .int .u32 y, .int .u32 (z : Int)] 55 (0, 0)) := by subst hW; exact heap_new _ _ _ rfl
      have hb2 : Below w.heap.size w W2 := by subst hW; exact (ext_trans HB.out (ext_alloc _ _)).drew
      have HR2 := Lib.hid hr2
      have HD2 := Lib.hid hd2
      have HB2 := Lib.hid hb2
      clear hW hr2 hd2 hb2 hc0 hc1 hc2
      obtain ⟨q, hq⟩ : ∃ q, q = mayReset (x, y, z) := ⟨_, rfl⟩
      rw [← hq]
      rw [← hq] at HS
      clear hq
      rintro e w3 ⟨rfl, hb3⟩
      have hr3 := heap_below HR2.out hb3
      have hd3 := heap_below HD2.out hb3
      have hd0 := cell_of_block hd3 0
      have hd1 := cell_of_block hd3 1
      have hd2 := cell_of_block hd3 2
      have hr0 := cell_of_block hr3 0
      have hr1 := cell_of_block hr3 1
      have hr2 := cell_of_block hr3 2
      have hf0 := unfrozen_of_block hr3 0
      have hf1 := unfrozen_of_block hr3 1
      have hf2 := unfrozen_of_block hr3 2
      have HR3 := Lib.hid hr3
      have HB3 := Lib.hid (ext_trans HB2.out hb3)
      clear hr3 hd3 hb3
      cases q with
      | true =>
        go_wp2
        refine bodyPost_ret (v := .tuple #[triV (x, y, z), .int .i64 0]) ?_ rfl ?_
        · have h1 := block_setCell HR3.out (i := 0) (.int .u32 x)
          have h2 := block_setCell h1 (i := 1) (.int .u32 y)
          have h3 := block_setCell h2 (i := 2) (.int .u32 (z : Int))
          have g0 := cell_of_block h3 0
          have g1 := cell_of_block h3 1
          have g2 := cell_of_block h3 2
          simp [results, Tryz.results63, go_sem, g0, g1, g2]
          rfl
        · exact ⟨((HB3.out.setCell (Nat.le_refl _) _).setCell (Nat.le_refl _) _).setCell (Nat.le_refl _) _, Or.inl ⟨(x, y, z), HS.out, rfl⟩⟩
      | false =>
        go_wp2
        refine bodyPost_ret (v := .tuple #[.agg #[.int .u32 0, .int .u32 0, .int .u32 0], .int .i64 5]) ?_ rfl ?_
        · have h1 := block_setCell HR3.out (i := 0) (.int .u32 0)
          have h2 := block_setCell h1 (i := 1) (.int .u32 0)
          have h3 := block_setCell h2 (i := 2) (.int .u32 0)
          have g0 := cell_of_block h3 0
          have g1 := cell_of_block h3 1
          have g2 := cell_of_block h3 2
          simp [results, Tryz.results63, go_sem, g0, g1, g2]
        · exact ⟨((HB3.out.setCell (Nat.le_refl _) _).setCell (Nat.le_refl _) _).setCell (Nat.le_refl _) _, Or.inr ⟨5, HS.out, by decide, rfl⟩⟩
    · have hl1 : (numsOf bs most).length = 2 := by omega
      have HL := Lib.hid hl1
      have HN := Lib.hid (fun o : Obj => numbers_yes bs (numsOf bs most) a n c 2 3 most (w.alloc o) (h.below (ext_alloc _ _)) hn hm h0 rfl)
      have hlat : latOf (numsOf bs most) = ((numsOf bs most).getD 0 0, (numsOf bs most).getD 1 0, 0) := by unfold latOf; rw [hl1]; rfl
      have hs : latS bs most = if mayReset (latOf (numsOf bs most)) = true then .ok (latOf (numsOf bs most)) else .error 5 := by unfold latS; rw [if_pos h0]
      rw [hlat] at hs
      have HS := Lib.hid hs
      clear h h0 hs hl hl1 hlat
      go_enter Tryz.func63, Tryz.ntmps63
      go_wp2_with fail
      refine (HN.out _).mono ?_
      rintro e w1 ⟨v, rfl, r, hb⟩
      rw [HL.out] at r
      obtain ⟨a1, c1, rfl, _, s1⟩ := r.sees
      obtain ⟨b, off, rfl, hlt⟩ := s1.addr (by omega)
      have hc0 : w1.cell? ⟨b, off, none⟩ = some (.int .u32 ((numsOf bs most).getD 0 0 : Nat)) := s1.num 0 (by omega)
      have hc1 := s1.num 1 (by omega)
      obtain ⟨x, hx⟩ : ∃ x, x = (numsOf bs most).getD 0 0 := ⟨_, rfl⟩
      obtain ⟨y, hy⟩ : ∃ x, x = (numsOf bs most).getD 1 0 := ⟨_, rfl⟩
      rw [← hx] at hc0
      rw [← hy] at hc1
      rw [← hx, ← hy] at HS
      have hres : w1.heap[w.heap.size]? = some (.cells #[.int .u32 0, .int .u32 0, .int .u32 0] 55 (0, 0)) := heap_below (heap_new _ _ _ rfl) hb
      have hlt1 := heap_lt hres
      have HB := Lib.hid (ext_behind hb)
      have HRES := Lib.hid hres
      clear hx hy r s1 hb hres
      go_wp2
      go_region
      go_wp2_with fail
      refine (mayReset_any x y 0 _).mono ?_
      generalize hW : World.drew _ = W2
      have hr2 : W2.heap[w.heap.size]? = some (.cells #[.int .u32 0, .int .u32 0, .int .u32 0] 55 (0, 0)) := by subst hW; exact heap_below HRES.out (ext_alloc _ _).drew
      have hd2 : W2.heap[w1.heap.size]? = some (.cells #[.int .u32 x, .int .u32 y, .int .u32 0] 55 (0, 0)) := by subst hW; exact heap_new _ _ _ rfl
      have hb2 : Below w.heap.size w W2 := by subst hW; exact (ext_trans HB.out (ext_alloc _ _)).drew
      have HR2 := Lib.hid hr2
      have HD2 := Lib.hid hd2
      have HB2 := Lib.hid hb2
      clear hW hr2 hd2 hb2 hc0 hc1
      obtain ⟨q, hq⟩ : ∃ q, q = mayReset (x, y, 0) := ⟨_, rfl⟩
      rw [← hq]
      rw [← hq] at HS
      clear hq
      rintro e w3 ⟨rfl, hb3⟩
      have hr3 := heap_below HR2.out hb3
      have hd3 := heap_below HD2.out hb3
      have hd0 := cell_of_block hd3 0
      have hd1 := cell_of_block hd3 1
      have hd2 := cell_of_block hd3 2
      have hr0 := cell_of_block hr3 0
      have hr1 := cell_of_block hr3 1
      have hr2 := cell_of_block hr3 2
      have hf0 := unfrozen_of_block hr3 0
      have hf1 := unfrozen_of_block hr3 1
      have hf2 := unfrozen_of_block hr3 2
      have HR3 := Lib.hid hr3
      have HB3 := Lib.hid (ext_trans HB2.out hb3)
      clear hr3 hd3 hb3
      cases q with
      | true =>
        go_wp2
        refine bodyPost_ret (v := .tuple #[triV (x, y, 0), .int .i64 0]) ?_ rfl ?_
        · have h1 := block_setCell HR3.out (i := 0) (.int .u32 x)
          have h2 := block_setCell h1 (i := 1) (.int .u32 y)
          have h3 := block_setCell h2 (i := 2) (.int .u32 0)
          have g0 := cell_of_block h3 0
          have g1 := cell_of_block h3 1
          have g2 := cell_of_block h3 2
          simp [results, Tryz.results63, go_sem, g0, g1, g2]
          rfl
        · exact ⟨((HB3.out.setCell (Nat.le_refl _) _).setCell (Nat.le_refl _) _).setCell (Nat.le_refl _) _, Or.inl ⟨(x, y, 0), HS.out, rfl⟩⟩
      | false =>
        go_wp2
        refine bodyPost_ret (v := .tuple #[.agg #[.int .u32 0, .int .u32 0, .int .u32 0], .int .i64 5]) ?_ rfl ?_
        · have h1 := block_setCell HR3.out (i := 0) (.int .u32 0)
          have h2 := block_setCell h1 (i := 1) (.int .u32 0)
          have h3 := block_setCell h2 (i := 2) (.int .u32 0)
          have g0 := cell_of_block h3 0
          have g1 := cell_of_block h3 1
          have g2 := cell_of_block h3 2
          simp [results, Tryz.results63, go_sem, g0, g1, g2]
        · exact ⟨((HB3.out.setCell (Nat.le_refl _) _).setCell (Nat.le_refl _) _).setCell (Nat.le_refl _) _, Or.inr ⟨5, HS.out, by decide, rfl⟩⟩
  · obtain ⟨er, he⟩ : ∃ er, er = numsErr bs 2 3 most := ⟨_, rfl⟩
    have hs : latS bs most = .error er := by unfold latS; rw [if_neg h0, he]
    rw [← he] at h0
    have HN := Lib.hid (fun o : Obj => numbers_no bs er a n c 2 3 most (w.alloc o) (h.below (ext_alloc _ _)) hn hm he.symm h0)
    have HS := Lib.hid hs
    have H0 := Lib.hid h0
    have e1 : (er != 0) = true := by simp [h0]
    have e2 : (er == 0) = false := by simp [h0]
    clear h h0 hs he
    go_enter Tryz.func63, Tryz.ntmps63
    go_wp2_with fail
    refine (HN.out _).mono ?_
    rintro e w1 ⟨rfl, hb⟩
    have hres : w1.heap[w.heap.size]? = some (.cells #[.int .u32 0, .int .u32 0, .int .u32 0] 55 (0, 0)) := heap_below (heap_new _ _ _ rfl) hb
    have hd0 := cell_of_block hres 0
    have hd1 := cell_of_block hres 1
    have hd2 := cell_of_block hres 2
    have hf0 := unfrozen_of_block hres 0
    have hf1 := unfrozen_of_block hres 1
    have hf2 := unfrozen_of_block hres 2
    have HB := Lib.hid (ext_behind hb)
    have HRES := Lib.hid hres
    clear hb hres
    go_wp2
    refine bodyPost_ret (v := .tuple #[.agg #[.int .u32 0, .int .u32 0, .int .u32 0], .int .i64 er]) ?_ rfl ?_
    · have h1 := block_setCell HRES.out (i := 0) (.int .u32 0)
      have h2 := block_setCell h1 (i := 1) (.int .u32 0)
      have h3 := block_setCell h2 (i := 2) (.int .u32 0)
      have g0 := cell_of_block h3 0
      have g1 := cell_of_block h3 1
      have g2 := cell_of_block h3 2
      simp [results, Tryz.results63, go_sem, g0, g1, g2]
    · exact ⟨((HB.out.setCell (Nat.le_refl _) _).setCell (Nat.le_refl _) _).setCell (Nat.le_refl _) _, Or.inr ⟨er, HS.out, H0.out, rfl⟩⟩
end Go.Proofs.YtglhnmbfkbjemaaGreatDoor
