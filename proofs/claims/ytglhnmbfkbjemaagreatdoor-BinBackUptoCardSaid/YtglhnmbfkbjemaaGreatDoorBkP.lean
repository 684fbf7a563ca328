/- What may be is small. -/
import Derived.Test.YtglhnmbfkbjemaaGreatDoorBkO
import Derived.Test.YtglhnmbfkbjemaaGreatDoorBkF
import Derived.Test.YtglhnmbfkbjemaaGreatDoorBkL
import Derived.Test.YtglhnmbfkbjemaaGreatDoorRawGet
import Derived.Test.YtglhnmbfkbjemaaGreatDoorBkI
/- norm.Of, by its contract. -/
namespace Go.Proofs.YtglhnmbfkbjemaaGreatDoor
open Go Go.RowKit Go.Joins
def OfPost (r : RawC) (w : World) (e : Ending) (w' : World) : Prop :=
  Below w.heap.size w w' ∧ ((∃ c s, ofS r = .ok c ∧ e = .returned (.tuple #[cirV c.ins s, .int .i64 0]) ∧ OwnCir w' w.heap.size s c) ∨
    (∃ er, ofS r = .error er ∧ er ≠ 0 ∧ e = .returned (.tuple #[zeroCir, .int .i64 er])))
structure Lits (r : RawC) : Prop where
  max : r.max ≤ 16384
  owns : ∀ x ∈ ownsL r, x ≤ 2 * r.max + 1
  refs : ∀ x ∈ refsL r, x ≤ 2 * r.max + 1
  reset : ∀ l ∈ r.lats, l.1 < 4294967296 ∧ l.2.2 < 4294967296
  few : r.gates.length ≤ 16384
theorem lits_of {r : RawC} (h : mayRaw r = true) : Lits r := by
  unfold mayRaw at h
  simp only [Bool.and_eq_true, Bool.not_eq_true', Bool.or_eq_false_iff, decide_eq_false_iff_not, badList, List.any_eq_false] at h
  obtain ⟨⟨h1, h2⟩, ⟨_, h3⟩, ⟨_, h4⟩, ⟨_, h5⟩, h6, h7, h8⟩ := h
  have ab : ∀ x, above r.max x ≠ true → x ≤ 2 * r.max + 1 := fun x hx => by
    unfold above at hx
    simpa using hx
  have hl : ∀ l ∈ r.lats, l.1 ≤ 2 * r.max + 1 ∧ l.2.1 ≤ 2 * r.max + 1 ∧ l.2.2 ≤ 2 * r.max + 1 := fun l hl => by
    have h := h7 l hl
    simp only [badLatch, Bool.or_eq_true, not_or, Bool.not_eq_true', Bool.not_eq_true] at h
    have hr : mayReset l = true := by simpa using h.2
    have h1' := ab l.1 (by simpa using h.1.1)
    refine ⟨h1', ab l.2.1 (by simpa using h.1.2), ?_⟩
    simp only [mayReset, Bool.or_eq_true, decide_eq_true_eq] at hr
    omega
  have hg : ∀ g ∈ r.gates, g.1 ≤ 2 * r.max + 1 ∧ g.2.1 ≤ 2 * r.max + 1 ∧ g.2.2 ≤ 2 * r.max + 1 := fun g hg => by
    have h := h8 g hg
    simp only [badGate, Bool.or_eq_true, not_or] at h
    exact ⟨ab g.1 h.1.1, ab g.2.1 h.1.2, ab g.2.2 h.2⟩
  refine ⟨by omega, fun x hx => ?_, fun x hx => ?_, fun l hl' => by have := hl l hl'; omega, by omega⟩
  · unfold ownsL at hx
    simp only [List.mem_append, List.mem_map] at hx
    rcases hx with hx | ⟨l, hl', rfl⟩ | ⟨g, hg', rfl⟩
    · exact ab x (h6 x hx)
    · exact (hl l hl').1
    · exact (hg g hg').1
  · unfold refsL at hx
    simp only [List.mem_append, List.mem_map, List.mem_flatMap] at hx
    rcases hx with (hx | hx | hx) | ⟨l, hl', rfl⟩ | ⟨g, hg', hx⟩
    · exact ab x (h3 x hx)
    · exact ab x (h4 x hx)
    · exact ab x (h5 x hx)
    · exact (hl l hl').2.1
    · simp only [gate1, List.mem_cons, List.not_mem_nil, or_false] at hx
      rcases hx with rfl | rfl
      · exact (hg g hg').2.1
      · exact (hg g hg').2.2
theorem defsF_apart : ∀ (l : List Nat) (d e : List Bool), defsF d l = some e → (∀ x ∈ l, x / 2 < d.length) → (∀ x ∈ l, d.getD (x / 2) false = false) ∧ l.Pairwise (fun a b => a / 2 ≠ b / 2)
  | [], _, _, _, _ => ⟨by simp, List.Pairwise.nil⟩
  | x :: r, d, e, h, hb => by
    unfold defsF at h
    split at h
    · cases h
    · split at h
      · cases h
      · rename_i h1 h2
        have ih := defsF_apart r _ e h (fun y hy => by rw [List.length_set]; exact hb y (by simp [hy]))
        have hset : ∀ y ∈ r, (d.set (x / 2) true).getD (y / 2) false = false → x / 2 ≠ y / 2 ∧ d.getD (y / 2) false = false := fun y hy h3 => by
          by_cases e : x / 2 = y / 2
          · rw [e] at h3
            have := hb y (by simp [hy])
            simp [List.getD, this] at h3
          · refine ⟨e, ?_⟩
            simpa [List.getD, List.getElem?_set, e] using h3
        refine ⟨fun y hy => ?_, List.pairwise_cons.2 ⟨fun y hy => (hset y hy (ih.1 y hy)).1, ih.2⟩⟩
        rcases List.mem_cons.1 hy with rfl | hy
        · simpa using h2
        · exact (hset y hy (ih.1 y hy)).2
theorem apart_of {r : RawC} {d : List Bool} (hl : Lits r) (h : defsS r = some d) : Apart r.gates := by
  have hp := (defsF_apart (ownsL r) _ d h (fun x hx => by have := hl.owns x hx; simp [defs0]; omega)).2
  unfold ownsL at hp
  have hp2 := ((List.pairwise_append.1 ((List.pairwise_append.1 hp).2.1)).2.1)
  rw [List.pairwise_map] at hp2
  intro i j hi hj e
  rcases Nat.lt_trichotomy i j with h' | h' | h'
  · exfalso
    have := List.pairwise_iff_getElem.1 hp2 i j hi hj h'
    unfold varAt gAt at e
    simp [List.getD, List.getElem?_eq_getElem hi, List.getElem?_eq_getElem hj] at e
    exact this e
  · exact h'
  · exfalso
    have := List.pairwise_iff_getElem.1 hp2 j i hj hi h'
    unfold varAt gAt at e
    simp [List.getD, List.getElem?_eq_getElem hi, List.getElem?_eq_getElem hj] at e
    exact this e.symm
theorem orderF_mem (gs : List Tri) : ∀ (f : Nat) (nd : List Nat), (orderF gs f nd).length ≤ f ∧ ∀ g ∈ orderF gs f nd, g ∈ gs
  | 0, nd => by simp [orderF]
  | f + 1, nd => by
    unfold orderF
    split
    · simp
    · rename_i i hi
      have ih := orderF_mem gs f (nd ++ [varAt gs i])
      have hin : i < gs.length := by
        have := List.mem_of_find?_eq_some hi
        exact List.mem_range.1 this
      refine ⟨by simp; exact ih.1, fun g hg => ?_⟩
      rcases List.mem_cons.1 hg with rfl | hg
      · exact getD_mem hin
      · exact ih.2 g hg
theorem flat_gate : ∀ (gs : List Tri), (gs.flatMap gate1).length = 2 * gs.length
  | [] => rfl
  | g :: r => by rw [List.flatMap_cons, List.length_append, flat_gate r]; simp [gate1]; omega
theorem own_sub {r : RawC} {gs : List Tri} {m : Nat} (hg : ∀ g ∈ gs, g ∈ r.gates) (h : ∀ x ∈ ownsL r, x ≤ m) : ∀ x ∈ ownsL { r with gates := gs }, x ≤ m := fun x hx => h x (by
  unfold ownsL at hx ⊢
  simp only [List.mem_append, List.mem_map] at hx ⊢
  rcases hx with hx | hx | ⟨g, hg', rfl⟩
  · exact Or.inl hx
  · exact Or.inr (Or.inl hx)
  · exact Or.inr (Or.inr ⟨g, hg g hg', rfl⟩))
theorem ref_sub {r : RawC} {gs : List Tri} {m : Nat} (hg : ∀ g ∈ gs, g ∈ r.gates) (h : ∀ x ∈ refsL r, x ≤ m) : ∀ x ∈ refsL { r with gates := gs }, x ≤ m := fun x hx => h x (by
  unfold refsL at hx ⊢
  simp only [List.mem_append, List.mem_map, List.mem_flatMap] at hx ⊢
  rcases hx with hx | hx | ⟨g, hg', hx⟩
  · exact Or.inl hx
  · exact Or.inr (Or.inl hx)
  · exact Or.inr (Or.inr ⟨g, hg g hg', hx⟩))
theorem cir_set6 {w : World} {base : Nat} {s : CSlots} {c : NormC} (h : OwnCir w base s c) {G B : Nat} (hG : G < base) (hB : B ≤ base) {u0 u1 u2 u3 u4 u5 : Value} :
    OwnCir ((((((w.setCell ⟨G, 0, .none⟩ u0).setCell ⟨G, 1, .none⟩ u1).setCell ⟨G, 2, .none⟩ u2).setCell ⟨G, 3, .none⟩ u3).setCell ⟨G, 4, .none⟩ u4).setCell ⟨G, 5, .none⟩ u5) B s c :=
  ⟨own_set6 h.o1 hG hB, own_set6 h.o2 hG hB, rowb_set6 h.o3 hG hB, rowb_set6 h.o4 hG hB, rowb_set6 h.o5 hG hB⟩
set_option maxRecDepth 100000 in
set_option maxHeartbeats 6400000 in
theorem of_any (r : RawC) (s : Slots) (w : World) (h : SeesRaw w s r) (hf : s.small) :
    Calls Tryz.prog 30 #[rawV r.max s] w (OfPost r w) := by
  have hfit : s.fit := by
    have := hf.n1; have := hf.n2; have := hf.n3; have := hf.n4; have := hf.n5; have := hf.n6
    unfold Slots.fit lenMax
    omega
  have HMAY := Lib.hid (fun W hb => may_any r s W (h.below hb) hfit)
  have HDEF := Lib.hid (fun W hb (l : Lits r) => defs_any r s W (h.below hb) hf l.max l.owns)
  have HREF := Lib.hid (fun W hb (l : Lits r) => refs_any r s W (h.below hb) hf (fun x hx => by have := l.refs x (by unfold refsL; simp [hx]); have := l.max; omega) (fun x hx => by have := l.refs x (by unfold refsL; simp [hx]); have := l.max; omega) (fun x hx => by have := l.refs x (by unfold refsL; simp [hx]); have := l.max; omega))
  have HORD := Lib.hid (fun W hb (l : Lits r) (ha : Apart r.gates) => inorder_any r s W (h.below hb) hf l.max (fun g hg => by
    have h1 := l.owns g.1 (by unfold ownsL; simp; exact Or.inr (Or.inr ⟨g.2.1, g.2.2, hg⟩))
    have h2 := l.refs g.2.1 (by unfold refsL; simp; exact Or.inr (Or.inr (Or.inr (Or.inr ⟨g.1, g.2.1, g.2.2, hg, by simp [gate1]⟩))))
    have h3 := l.refs g.2.2 (by unfold refsL; simp; exact Or.inr (Or.inr (Or.inr (Or.inr ⟨g.1, g.2.1, g.2.2, hg, by simp [gate1]⟩))))
    omega) ha (by have := l.few; omega))
  obtain ⟨m, hmm⟩ : ∃ m, m = r.max := ⟨_, rfl⟩
  obtain ⟨a1, n1, c1, a2, n2, c2, a3, n3, c3, a4, n4, c4, a5, n5, c5, a6, n6, c6⟩ := s
  have l6 : r.gates.length = n6 := h.s6.1
  rw [← hmm] at HMAY HDEF HREF HORD ⊢
  have HM := Lib.hid hmm
  have L6 := Lib.hid l6
  have HS := Lib.hid h
  have HSM := Lib.hid hf
  clear hmm h hf hfit l6
  unfold rawV at *
  go_enter Tryz.func30, Tryz.ntmps30
  go_wp2_with fail
  generalize hW : World.alloc (World.alloc w _) _ = W1
  have B1 : Below w.heap.size w W1 := by subst hW; exact ext_trans (ext_alloc _ _) (ext_alloc _ _)
  have hX : W1.heap[w.heap.size]? = some (.cells #[.int .u32 m, .slice a1 n1 c1, .slice a2 n2 c2, .slice a3 n3 c3, .slice a4 n4 c4, .slice a5 n5 c5, .slice a6 n6 c6] 39 (0, 0)) := by
    subst hW; exact heap_below (heap_new _ _ _ rfl) (ext_alloc _ _)
  have hR : W1.heap[w.heap.size + 1]? = some (.cells #[.int .i64 0, .slice none 0 0, .slice none 0 0, .slice none 0 0, .slice none 0 0, .slice none 0 0] 26 (0, 0)) := by
    subst hW; exact heap_new _ _ _ (by simp)
  clear hW
  refine (HMAY.out W1 B1).mono ?_
  rintro e W2 ⟨rfl, hb⟩
  obtain ⟨q, hq⟩ : ∃ q, q = mayRaw r := ⟨_, rfl⟩
  rw [← hq]
  have hX2 := heap_below hX hb
  have hR2 := heap_below hR hb
  have B2 := ext_trans B1 hb
  have HQ := Lib.hid hq
  clear hX hR B1 hb hq HMAY
  cases q with
  | false =>
    have HG : Hid (ofS r = .error 2) := by show _ = _; unfold ofS; rw [if_pos HQ.out.symm]
    have z0 := cell_of_block hR2 0
    have z1 := cell_of_block hR2 1
    have z2 := cell_of_block hR2 2
    have z3 := cell_of_block hR2 3
    have z4 := cell_of_block hR2 4
    have z5 := cell_of_block hR2 5
    have y0 := unfrozen_of_block hR2 0
    have y1 := unfrozen_of_block hR2 1
    have y2 := unfrozen_of_block hR2 2
    have y3 := unfrozen_of_block hR2 3
    have y4 := unfrozen_of_block hR2 4
    have y5 := unfrozen_of_block hR2 5
    have HR := Lib.hid hR2
    have HBL := Lib.hid B2
    clear hR2 B2 hX2
    go_wp2
    refine bodyPost_ret (v := .tuple #[zeroCir, .int .i64 2]) ?_ rfl ?_
    · have h6 := cir_set HR.out rfl (.int .i64 0) (.slice none 0 0) (.slice none 0 0) (.slice none 0 0) (.slice none 0 0) (.slice none 0 0)
      have g0 := cell_of_block h6 0
      have g1 := cell_of_block h6 1
      have g2 := cell_of_block h6 2
      have g3 := cell_of_block h6 3
      have g4 := cell_of_block h6 4
      have g5 := cell_of_block h6 5
      simp [results, Tryz.results30, go_sem, g0, g1, g2, g3, g4, g5]
      rfl
    · refine ⟨?_, Or.inr ⟨2, HG.out, by decide, rfl⟩⟩
      with_reducible exact set6 (w.heap.size + 1) (Nat.le_succ _) HBL.out
  | true =>
    have hl : Lits r := lits_of HQ.out.symm
    have p0 := cell_of_block hX2 0
    have p1 := cell_of_block hX2 1
    have p2 := cell_of_block hX2 2
    have p3 := cell_of_block hX2 3
    have p4 := cell_of_block hX2 4
    have p5 := cell_of_block hX2 5
    have p6 := cell_of_block hX2 6
    have HX := Lib.hid hX2
    have HR := Lib.hid hR2
    have HBL := Lib.hid B2
    have HL := Lib.hid hl
    clear hR2 B2 hX2 hl
    go_wp2_with fail
    refine (HDEF.out _ HBL.out HL.out).mono ?_
    rintro e W3 ⟨hb3, hcase⟩
    have hR3 := heap_below HR.out hb3
    have hX3 := heap_below HX.out hb3
    have B3 := ext_trans HBL.out hb3
    clear p0 p1 p2 p3 p4 p5 p6 HR HX HBL hb3 HDEF
    rcases hcase with ⟨hd, rfl⟩ | ⟨d, D, hd, hdl, rfl, hD⟩
    · have HG : Hid (ofS r = .error 8) := by show _ = _; unfold ofS; rw [if_neg (by rw [← HQ.out]; decide), hd]
      have hR4 := heap_below hR3 (ext_alloc W3 (.cells #[.slice none 0 0] 112 (0, 0)))
      have B4 := ext_trans B3 (ext_alloc W3 (.cells #[.slice none 0 0] 112 (0, 0)))
      clear hR3 B3 hX3 hd
      have z0 := cell_of_block hR4 0
      have z1 := cell_of_block hR4 1
      have z2 := cell_of_block hR4 2
      have z3 := cell_of_block hR4 3
      have z4 := cell_of_block hR4 4
      have z5 := cell_of_block hR4 5
      have y0 := unfrozen_of_block hR4 0
      have y1 := unfrozen_of_block hR4 1
      have y2 := unfrozen_of_block hR4 2
      have y3 := unfrozen_of_block hR4 3
      have y4 := unfrozen_of_block hR4 4
      have y5 := unfrozen_of_block hR4 5
      have HR := Lib.hid hR4
      have HBL := Lib.hid B4
      clear hR4 B4
      go_wp2
      refine bodyPost_ret (v := .tuple #[zeroCir, .int .i64 8]) ?_ rfl ?_
      · have h6 := cir_set HR.out rfl (.int .i64 0) (.slice none 0 0) (.slice none 0 0) (.slice none 0 0) (.slice none 0 0) (.slice none 0 0)
        have g0 := cell_of_block h6 0
        have g1 := cell_of_block h6 1
        have g2 := cell_of_block h6 2
        have g3 := cell_of_block h6 3
        have g4 := cell_of_block h6 4
        have g5 := cell_of_block h6 5
        simp [results, Tryz.results30, go_sem, g0, g1, g2, g3, g4, g5]
        rfl
      · refine ⟨?_, Or.inr ⟨8, HG.out, by decide, rfl⟩⟩
        with_reducible exact set6 (w.heap.size + 1) (Nat.le_succ _) HBL.out
    · have hex := ext_alloc W3 (.cells #[.slice (some ⟨D, 0, .none⟩) (r.max + 1) (r.max + 1)] 112 (0, 0))
      rw [← HM.out] at hex hdl ⊢
      have hR4 := heap_below hR3 hex
      have hX4 := heap_below hX3 hex
      have hD4 := heap_below hD hex
      have B4 := ext_trans B3 hex
      have hC4 := heap_new W3 (.cells #[.slice (some ⟨D, 0, .none⟩) (m + 1) (m + 1)] 112 (0, 0)) W3.heap.size rfl
      have p0 := cell_of_block hX4 0
      have p1 := cell_of_block hX4 1
      have p2 := cell_of_block hX4 2
      have p3 := cell_of_block hX4 3
      have p4 := cell_of_block hX4 4
      have p5 := cell_of_block hX4 5
      have p6 := cell_of_block hX4 6
      have HR := Lib.hid hR4
      have HX := Lib.hid hX4
      have HDD := Lib.hid hD4
      have HC := Lib.hid hC4
      have HBL := Lib.hid B4
      have HD := Lib.hid hd
      have HDL := Lib.hid hdl
      have HW3 := Lib.hid B3.size
      clear hR3 hX3 hD B3 hex hR4 hX4 hD4 B4 hC4 hd hdl
      go_wp2_with fail
      refine (HREF.out _ HBL.out HL.out).mono ?_
      rintro e W5 ⟨v, rfl, hrow, hb5⟩
      have hR5 := heap_below HR.out hb5
      have hX5 := heap_below HX.out hb5
      have hD5 := heap_below HDD.out hb5
      have hC5 := heap_below HC.out hb5
      have B5 := ext_trans HBL.out hb5
      clear p0 p1 p2 p3 p4 p5 p6 HR HX HBL hb5 HREF HDD HC
      obtain ⟨va, vc, rfl, _, hsee⟩ := Sees.owned hrow
      have hlen : (refsL r).length ≤ 140737488355328 := by
        have l2 : r.lats.length = n2 := HS.out.s2.1
        have l3 : r.outs.length = n3 := HS.out.s3.lenMap
        have l4 : r.bads.length = n4 := HS.out.s4.lenMap
        have l5 : r.cons.length = n5 := HS.out.s5.lenMap
        have e6 := flat_gate r.gates
        have f2 := HSM.out.n2; have f3 := HSM.out.n3; have f4 := HSM.out.n4; have f5 := HSM.out.n5; have f6 := HSM.out.n6
        have l6 := L6.out
        simp only at f2 f3 f4 f5 f6
        unfold refsL
        simp only [List.length_append, List.length_map]
        omega
      have HMS := Lib.hid (has_missing (missing d) W3.heap.size (refsL r) va _ vc hlen W5 hsee (fun x hx => missing_at x W3.heap.size D d (m + 1) W5 (by rw [HDL.out]; exact hC5) hD5 (by have := HL.out.refs x hx; rw [HDL.out, HM.out]; omega)))
      obtain ⟨q, hq⟩ : ∃ q, q = (refsL r).any (missing d) := ⟨_, rfl⟩
      rw [← hq] at HMS
      have HQ5 := Lib.hid hq
      obtain ⟨N, hN⟩ : ∃ N, N = (refsL r).length := ⟨_, rfl⟩
      rw [← hN] at HMS ⊢
      clear hN hq hlen hrow hsee hD5 hC5
      have HR := Lib.hid hR5
      have HX := Lib.hid hX5
      have HBL := Lib.hid B5
      clear hR5 hX5 B5
      go_wp2_with fail
      refine HMS.out.mono ?_
      rintro e W6 ⟨rfl, rfl⟩
      clear HMS
      cases q with
      | true =>
        have HG : Hid (ofS r = .error 7) := by show _ = _; unfold ofS; rw [if_neg (by rw [← HQ.out]; decide), HD.out]; simp only []; rw [if_pos HQ5.out.symm]
        have hR6 := HR.out
        have B6 := HBL.out
        clear HR HX HBL
        have z0 := cell_of_block hR6 0
        have z1 := cell_of_block hR6 1
        have z2 := cell_of_block hR6 2
        have z3 := cell_of_block hR6 3
        have z4 := cell_of_block hR6 4
        have z5 := cell_of_block hR6 5
        have y0 := unfrozen_of_block hR6 0
        have y1 := unfrozen_of_block hR6 1
        have y2 := unfrozen_of_block hR6 2
        have y3 := unfrozen_of_block hR6 3
        have y4 := unfrozen_of_block hR6 4
        have y5 := unfrozen_of_block hR6 5
        have HR := Lib.hid hR6
        have HBL := Lib.hid B6
        clear hR6 B6
        go_wp2
        refine bodyPost_ret (v := .tuple #[zeroCir, .int .i64 7]) ?_ rfl ?_
        · have h6 := cir_set HR.out rfl (.int .i64 0) (.slice none 0 0) (.slice none 0 0) (.slice none 0 0) (.slice none 0 0) (.slice none 0 0)
          have g0 := cell_of_block h6 0
          have g1 := cell_of_block h6 1
          have g2 := cell_of_block h6 2
          have g3 := cell_of_block h6 3
          have g4 := cell_of_block h6 4
          have g5 := cell_of_block h6 5
          simp [results, Tryz.results30, go_sem, g0, g1, g2, g3, g4, g5]
          rfl
        · refine ⟨?_, Or.inr ⟨7, HG.out, by decide, rfl⟩⟩
          with_reducible exact set6 (w.heap.size + 1) (Nat.le_succ _) HBL.out
      | false =>
        have hX6 := HX.out
        have p0 := cell_of_block hX6 0
        have p1 := cell_of_block hX6 1
        have p2 := cell_of_block hX6 2
        have p3 := cell_of_block hX6 3
        have p4 := cell_of_block hX6 4
        have p5 := cell_of_block hX6 5
        have p6 := cell_of_block hX6 6
        clear hX6
        go_wp2_with fail
        refine (HORD.out _ HBL.out HL.out (apart_of HL.out HD.out)).mono ?_
        rintro e W7 ⟨v, rfl, hown, hb7⟩
        have hR7 := heap_below HR.out hb7
        have hX7 := heap_below HX.out hb7
        have B7 := ext_trans HBL.out hb7
        have hlt5 : w.heap.size + 1 < W5.heap.size := heap_lt HR.out
        have HLT5 := Lib.hid hlt5
        clear p0 p1 p2 p3 p4 p5 p6 HR HX hb7 HORD hlt5
        obtain ⟨ga, gc, rfl, hsg⟩ := own3_sees hown
        obtain ⟨k6, hk6⟩ : ∃ k6, k6 = (inOrderS r.gates).length := ⟨_, rfl⟩
        rw [← hk6] at hsg ⊢
        have HOWN := Lib.hid hown
        have HSG := Lib.hid hsg
        have HK6 := Lib.hid hk6
        clear hown hsg hk6 HBL
        by_cases hlt : k6 < n6
        · have HG : Hid (ofS r = .error 9) := by
            show _ = _; unfold ofS; rw [if_neg (by rw [← HQ.out]; decide), HD.out]; simp only []
            rw [if_neg (by rw [← HQ5.out]; decide), if_pos (by rw [← HK6.out, L6.out]; exact hlt)]
          have p6 := cell_of_block hX7 6
          have z0 := cell_of_block hR7 0
          have z1 := cell_of_block hR7 1
          have z2 := cell_of_block hR7 2
          have z3 := cell_of_block hR7 3
          have z4 := cell_of_block hR7 4
          have z5 := cell_of_block hR7 5
          have y0 := unfrozen_of_block hR7 0
          have y1 := unfrozen_of_block hR7 1
          have y2 := unfrozen_of_block hR7 2
          have y3 := unfrozen_of_block hR7 3
          have y4 := unfrozen_of_block hR7 4
          have y5 := unfrozen_of_block hR7 5
          have HR := Lib.hid hR7
          have HBL := Lib.hid B7
          clear hR7 B7 hX7
          go_wp2
          refine bodyPost_ret (v := .tuple #[zeroCir, .int .i64 9]) ?_ rfl ?_
          · have h6 := cir_set HR.out rfl (.int .i64 0) (.slice none 0 0) (.slice none 0 0) (.slice none 0 0) (.slice none 0 0) (.slice none 0 0)
            have g0 := cell_of_block h6 0
            have g1 := cell_of_block h6 1
            have g2 := cell_of_block h6 2
            have g3 := cell_of_block h6 3
            have g4 := cell_of_block h6 4
            have g5 := cell_of_block h6 5
            simp [results, Tryz.results30, go_sem, g0, g1, g2, g3, g4, g5]
            rfl
          · refine ⟨?_, Or.inr ⟨9, HG.out, by decide, rfl⟩⟩
            with_reducible exact set6 (w.heap.size + 1) (Nat.le_succ _) HBL.out
        · have HG : Hid (ofS r = .ok (renumS { r with gates := inOrderS r.gates })) := by
            show _ = _; unfold ofS; rw [if_neg (by rw [← HQ.out]; decide), HD.out]; simp only []
            rw [if_neg (by rw [← HQ5.out]; decide), if_neg (by rw [← HK6.out, L6.out]; exact hlt)]
          have p6 := cell_of_block hX7 6
          have y6 := unfrozen_of_block hX7 6
          have hX8 := block_setCell hX7 (i := 6) (.slice ga k6 gc)
          have q0 := cell_of_block hX8 0
          have q1 := cell_of_block hX8 1
          have q2 := cell_of_block hX8 2
          have q3 := cell_of_block hX8 3
          have q4 := cell_of_block hX8 4
          have q5 := cell_of_block hX8 5
          have q6 := cell_of_block hX8 6
          have hR8 : (W7.setCell ⟨w.heap.size, 6, .none⟩ (.slice ga k6 gc)).heap[w.heap.size + 1]? = _ := (Below.heap_setCell _ ⟨w.heap.size, 6, .none⟩ _ (w.heap.size + 1) (show w.heap.size + 1 ≠ w.heap.size from by omega)).trans hR7
          have B8 := B7.setCell (p := ⟨w.heap.size, 6, .none⟩) (Nat.le_refl _) (.slice ga k6 gc)
          have HB7 := Lib.hid B7
          have HB8 := Lib.hid B8
          have HR8 := Lib.hid hR8
          clear hX7 hX8 hR7 hR8 B7 B8
          go_wp2_with fail
          obtain ⟨W8, hW8⟩ : ∃ W8, W8 = W7.setCell ⟨w.heap.size, 6, .none⟩ (.slice ga k6 gc) := ⟨_, rfl⟩
          rw [← hW8] at HB8 HR8 ⊢
          have hgo := owns_other HOWN.out (w' := W8) (fun k hk => by rw [hW8]; exact Below.heap_setCell _ ⟨w.heap.size, 6, .none⟩ _ k (show k ≠ w.heap.size from by have := (HOWN.out.lt k hk).1; have := HLT5.out; omega))
          obtain ⟨a', c', ev, hsg8⟩ := own3_sees (T := 58) (base := W5.heap.size) hgo
          cases ev
          rw [← HK6.out] at hsg8
          have hsr := HS.out.below HB8.out
          have hlen := (orderF_mem r.gates r.gates.length []).1
          have hmem := (orderF_mem r.gates r.gates.length []).2
          have hsm := HSM.out
          have HREN : Calls Tryz.prog 71 #[rawV m ⟨a1, n1, c1, a2, n2, c2, a3, n3, c3, a4, n4, c4, a5, n5, c5, ga, k6, gc⟩] W8 (RenPost { r with gates := inOrderS r.gates } W8) := by
            rw [HM.out]
            exact ren_any { r with gates := inOrderS r.gates } ⟨a1, n1, c1, a2, n2, c2, a3, n3, c3, a4, n4, c4, a5, n5, c5, ga, k6, gc⟩ W8 ⟨hsr.s1, hsr.s2, hsr.s3, hsr.s4, hsr.s5, hsg8⟩ ⟨hsm.n1, hsm.n2, hsm.n3, hsm.n4, hsm.n5, by have h1 := hsm.n6; have h2 := HK6.out; have h3 := L6.out; unfold inOrderS at h2; simp only at h1 ⊢; omega⟩ HL.out.max (own_sub hmem HL.out.owns) (ref_sub hmem HL.out.refs) HL.out.reset
          refine HREN.mono ?_
          rintro e W9 ⟨⟨b1, k1, d1, b2, k2, d2, b3, k3, d3, b4, k4, d4, b5, k5, d5⟩, rfl, hoc, hb9⟩
          have hRw := heap_below HR8.out hb9
          have HLT8 := Lib.hid (heap_lt HR8.out)
          have HBW := Lib.hid (ext_trans HB8.out hb9)
          have HOC := Lib.hid hoc
          have z0 := cell_of_block hRw 0
          have z1 := cell_of_block hRw 1
          have z2 := cell_of_block hRw 2
          have z3 := cell_of_block hRw 3
          have z4 := cell_of_block hRw 4
          have z5 := cell_of_block hRw 5
          have y0 := unfrozen_of_block hRw 0
          have y1 := unfrozen_of_block hRw 1
          have y2 := unfrozen_of_block hRw 2
          have y3 := unfrozen_of_block hRw 3
          have y4 := unfrozen_of_block hRw 4
          have y5 := unfrozen_of_block hRw 5
          have HRR := Lib.hid hRw
          clear hW8 HREN hgo hsg8 hsr hlen hmem hsm hoc hb9 hRw
          unfold cirV
          go_wp2
          refine bodyPost_ret (v := .tuple #[cirV r.ins.length ⟨b1, k1, d1, b2, k2, d2, b3, k3, d3, b4, k4, d4, b5, k5, d5⟩, .int .i64 0]) ?_ rfl ?_
          · have h6 := cir_set HRR.out rfl (.int .i64 r.ins.length) (.slice b1 k1 d1) (.slice b2 k2 d2) (.slice b3 k3 d3) (.slice b4 k4 d4) (.slice b5 k5 d5)
            have g0 := cell_of_block h6 0
            have g1 := cell_of_block h6 1
            have g2 := cell_of_block h6 2
            have g3 := cell_of_block h6 3
            have g4 := cell_of_block h6 4
            have g5 := cell_of_block h6 5
            simp [results, Tryz.results30, go_sem, g0, g1, g2, g3, g4, g5]
            rfl
          · refine ⟨?_, Or.inl ⟨_, ⟨b1, k1, d1, b2, k2, d2, b3, k3, d3, b4, k4, d4, b5, k5, d5⟩, HG.out, rfl, ?_⟩⟩
            · with_reducible exact set6 (w.heap.size + 1) (Nat.le_succ _) HBW.out
            · have h0 := HLT8.out
              exact cir_set6 HOC.out (by omega) (by omega)
end Go.Proofs.YtglhnmbfkbjemaaGreatDoor
/- What comes of a raw circuit is valid; of a valid circuit's raw circuit comes the circuit itself. On plain lists. -/
namespace Go.Proofs.YtglhnmbfkbjemaaGreatDoor
open Go Go.RowKit
theorem set_getD (t : List Nat) (i v j : Nat) : (t.set i v).getD j 0 = if i = j ∧ i < t.length then v else t.getD j 0 := by
  by_cases e : i = j
  · subst e
    by_cases h : i < t.length
    · simp [h]
    · simp [List.getD, h]
  · simp [List.getD, e]
theorem bset_getD (t : List Bool) (i : Nat) (v : Bool) (j : Nat) : (t.set i v).getD j false = if i = j ∧ i < t.length then v else t.getD j false := by
  by_cases e : i = j
  · subst e
    by_cases h : i < t.length
    · simp [h]
    · simp [List.getD, h]
  · simp [List.getD, e]
theorem toF_out : ∀ (l : List Nat) (t : List Nat) (i v : Nat), (∀ x ∈ l, x / 2 ≠ v) → (toF t i l).getD v 0 = t.getD v 0
  | [], _, _, _, _ => rfl
  | x :: r, t, i, v, h => by
    rw [toF, toF_out r _ _ v (fun y hy => h y (by simp [hy])), set_getD, if_neg (fun e => h x (by simp) e.1)]
theorem toF_in : ∀ (l : List Nat) (t : List Nat) (i k : Nat), k < l.length → (∀ x ∈ l, x / 2 < t.length) → l.Pairwise (fun a b => a / 2 ≠ b / 2) → (toF t i l).getD (l.getD k 0 / 2) 0 = 2 * (1 + i + k)
  | [], _, _, _, h, _, _ => by simp at h
  | x :: r, t, i, 0, _, hb, hp => by
    rw [toF, toF_out r _ _ _ (fun y hy => by
      have := (List.pairwise_cons.1 hp).1 y hy
      simpa using fun e => this e.symm), set_getD]
    have := hb x (by simp)
    simp [this]
  | x :: r, t, i, k + 1, hk, hb, hp => by
    rw [toF]
    have ih := toF_in r (t.set (x / 2) (2 * (1 + i))) (i + 1) k (by simpa using hk) (fun y hy => by rw [List.length_set]; exact hb y (by simp [hy])) (List.pairwise_cons.1 hp).2
    simp only [List.getD_cons_succ]
    rw [ih]
    omega
theorem defsF_ok : ∀ (l : List Nat) (d : List Bool), (∀ x ∈ l, x % 2 = 0) → l.Pairwise (fun a b => a / 2 ≠ b / 2) → (∀ x ∈ l, d.getD (x / 2) false = false) →
    ∃ e, defsF d l = some e
  | [], d, _, _, _ => ⟨d, rfl⟩
  | x :: r, d, h1, h2, h3 => by
    have hp := List.pairwise_cons.1 h2
    obtain ⟨e, he⟩ := defsF_ok r (d.set (x / 2) true) (fun y hy => h1 y (by simp [hy])) hp.2 (fun y hy => by
      rw [bset_getD, if_neg (fun c => hp.1 y hy c.1)]
      exact h3 y (by simp [hy]))
    refine ⟨e, ?_⟩
    unfold defsF
    rw [if_neg (by have := h1 x (by simp); omega), if_neg (by rw [h3 x (by simp)]; simp)]
    exact he
theorem defsF_get : ∀ (l : List Nat) (d e : List Bool), defsF d l = some e → (∀ x ∈ l, x / 2 < d.length) → ∀ v, (e.getD v false = true ↔ d.getD v false = true ∨ ∃ x ∈ l, x / 2 = v)
  | [], d, e, h, _, v => by
    unfold defsF at h
    cases h
    simp
  | x :: r, d, e, h, hb, v => by
    unfold defsF at h
    split at h
    · cases h
    · split at h
      · cases h
      · have ih := defsF_get r _ e h (fun y hy => by rw [List.length_set]; exact hb y (by simp [hy])) v
        rw [ih, bset_getD]
        have hx := hb x (by simp)
        by_cases c : x / 2 = v
        · rw [if_pos ⟨c, hx⟩]
          exact ⟨fun _ => Or.inr ⟨x, by simp, c⟩, fun _ => Or.inl rfl⟩
        · rw [if_neg (fun h => c h.1)]
          constructor
          · rintro (h | ⟨y, hy, e⟩)
            · exact Or.inl h
            · exact Or.inr ⟨y, by simp [hy], e⟩
          · rintro (h | ⟨y, hy, e⟩)
            · exact Or.inl h
            · rcases List.mem_cons.1 hy with rfl | hy
              · exact absurd e c
              · exact Or.inr ⟨y, hy, e⟩
theorem readyB_iff {gs : List Tri} {nd : List Nat} {i : Nat} : readyB gs nd i = true ↔ varAt gs i ∉ nd ∧ (∀ x ∈ gate1 (gAt gs i), isG gs (x / 2) = true → x / 2 ∈ nd) := by
  unfold readyB wt waitsFor gate1
  simp only [Bool.and_eq_true, Bool.not_eq_true', decide_eq_true_eq, List.mem_cons, List.not_mem_nil, or_false, forall_eq_or_imp, forall_eq, List.contains_eq_mem, decide_eq_false_iff_not]
  refine and_congr_right fun _ => ?_
  constructor
  · intro h
    refine ⟨fun h1 => ?_, fun h1 => ?_⟩
    · by_cases c : (gAt gs i).2.1 / 2 ∈ nd
      · exact c
      · rw [if_pos h1, if_neg c] at h; omega
    · by_cases c : (gAt gs i).2.2 / 2 ∈ nd
      · exact c
      · rw [if_pos h1, if_neg c] at h; omega
  · rintro ⟨h1, h2⟩
    have e1 : (if isG gs ((gAt gs i).2.1 / 2) = true then if (gAt gs i).2.1 / 2 ∈ nd then 0 else 1 else 0) = 0 := by
      by_cases c : isG gs ((gAt gs i).2.1 / 2) = true
      · rw [if_pos c, if_pos (h1 c)]
      · rw [if_neg c]
    have e2 : (if isG gs ((gAt gs i).2.2 / 2) = true then if (gAt gs i).2.2 / 2 ∈ nd then 0 else 1 else 0) = 0 := by
      by_cases c : isG gs ((gAt gs i).2.2 / 2) = true
      · rw [if_pos c, if_pos (h2 c)]
      · rw [if_neg c]
    omega
theorem isG_iff {gs : List Tri} {v : Nat} : isG gs v = true ↔ ∃ g ∈ gs, g.1 / 2 = v := by
  simp [isG]
structure OfOk (r : RawC) (c : NormC) : Prop where
  may : mayRaw r = true
  defs : ∃ d, defsS r = some d ∧ (refsL r).any (missing d) = false
  all : (inOrderS r.gates).length = r.gates.length
  eq : c = renumS { r with gates := inOrderS r.gates }
theorem ofS_ok {r : RawC} {c : NormC} : ofS r = .ok c ↔ OfOk r c := by
  unfold ofS
  have hle : (inOrderS r.gates).length ≤ r.gates.length := (orderF_mem r.gates r.gates.length []).1
  constructor
  · intro h
    split at h
    · cases h
    · rename_i h1
      split at h
      · cases h
      · rename_i d hd
        split at h
        · cases h
        · rename_i h2
          split at h
          · cases h
          · rename_i h3
            exact ⟨by simpa using h1, ⟨d, hd, by simpa using h2⟩, by omega, by cases h; rfl⟩
  · rintro ⟨h1, ⟨d, hd, h2⟩, h3, rfl⟩
    rw [if_neg (by rw [h1]; decide), hd]
    simp only [h2, Bool.false_eq_true, if_false]
    rw [if_neg (by omega)]
theorem owns_raw (c : NormC) : ownsL (rawS c) = (List.range (varsN c)).map fun i => 2 * (1 + i) := by
  have e1 : (upFrom latR (1 + c.ins.toNat) c.lats).map (·.1) = (List.range c.lats.length).map fun i => 2 * (1 + (c.ins.toNat + i)) := by
    unfold upFrom
    rw [List.map_map]
    apply List.map_congr_left
    intro i _
    simp [latR]; omega
  have e2 : (upFrom gateR (1 + c.ins.toNat + c.lats.length) c.gates).map (·.1) = (List.range c.gates.length).map fun i => 2 * (1 + (c.ins.toNat + c.lats.length + i)) := by
    unfold upFrom
    rw [List.map_map]
    apply List.map_congr_left
    intro i _
    simp [gateR]; omega
  unfold ownsL rawS
  simp only
  rw [e1, e2]
  unfold varsN
  rw [List.range_add, List.map_append, List.range_add, List.map_append, List.map_map, List.map_map, List.append_assoc]
  rfl
theorem refs_raw {c : NormC} (h : MayC c) : ∀ x ∈ refsL (rawS c), x ≤ 2 * varsN c + 1 := by
  intro x hx
  have hv : varsN c = c.ins.toNat + c.lats.length + c.gates.length := rfl
  unfold refsL rawS at hx
  simp only [List.mem_append, List.mem_map, List.mem_flatMap] at hx
  rcases hx with (hx | hx | hx) | ⟨l, hl', rfl⟩ | ⟨g, hg', hx⟩
  · exact h.outs x hx
  · exact h.bads x hx
  · exact h.cons x hx
  · obtain ⟨k, hk, rfl⟩ := upFrom_mem hl'
    exact (h.lats _ (show c.lats.getD k (0, 0) ∈ c.lats from getD_mem hk)).1
  · obtain ⟨k, hk, rfl⟩ := upFrom_mem hg'
    have := h.gates k hk
    simp only [gate1, gateR, List.mem_cons, List.not_mem_nil, or_false] at hx
    rcases hx with rfl | rfl <;> omega
theorem order_raw (F : Nat) (gs : List (Nat × Nat)) (h : ∀ k, k < gs.length → (gs.getD k (0, 0)).2 ≤ (gs.getD k (0, 0)).1 ∧ (gs.getD k (0, 0)).1 < 2 * (F + k)) :
    inOrderS (upFrom gateR F gs) = upFrom gateR F gs := by
  have hlen := upFrom_len gateR F gs
  have hat : ∀ k, k < gs.length → gAt (upFrom gateR F gs) k = gateR (F + k) (gs.getD k (0, 0)) := fun k hk => upFrom_at gateR F gs k _ hk
  have hvar : ∀ k, k < gs.length → varAt (upFrom gateR F gs) k = F + k := fun k hk => by unfold varAt; rw [hat k hk]; simp [gateR]
  have key : ∀ f k, f + k = gs.length → orderF (upFrom gateR F gs) f ((List.range k).map (fun i => F + i)) = (upFrom gateR F gs).drop k := by
    intro f
    induction f with
    | zero =>
      intro k hk
      rw [List.drop_of_length_le (by rw [hlen]; omega)]
      rfl
    | succ f ih =>
      intro k hk
      have hkl : k < gs.length := by omega
      have hfind : (List.range (upFrom gateR F gs).length).find? (readyB (upFrom gateR F gs) ((List.range k).map (fun i => F + i))) = some k := by
        rw [List.find?_range_eq_some]
        refine ⟨readyB_iff.2 ⟨?_, fun x hx hg => ?_⟩, by rw [hlen]; simpa using hkl, fun j hj => ?_⟩
        · rw [hvar k hkl]
          simp only [List.mem_map, List.mem_range, not_exists, not_and]
          intro j hj
          omega
        · obtain ⟨g, hg1, hg2⟩ := isG_iff.1 hg
          obtain ⟨j, hj, rfl⟩ := upFrom_mem hg1
          rw [hat k hkl] at hx
          have hk3 := h k hkl
          simp only [gate1, gateR, List.mem_cons, List.not_mem_nil, or_false] at hx hg2
          have hxl : x < 2 * (F + k) := by rcases hx with rfl | rfl <;> omega
          simp only [List.mem_map, List.mem_range]
          exact ⟨j, by omega, by omega⟩
        · cases hb : readyB (upFrom gateR F gs) ((List.range k).map (fun i => F + i)) j with
          | false => rfl
          | true =>
            have := (readyB_iff.1 hb).1
            rw [hvar j (by omega)] at this
            exact absurd (by simp only [List.mem_map, List.mem_range]; exact ⟨j, hj, rfl⟩) this
      unfold orderF
      rw [hfind]
      simp only
      have e : (List.range k).map (fun i => F + i) ++ [varAt (upFrom gateR F gs) k] = (List.range (k + 1)).map (fun i => F + i) := by
        rw [List.range_succ, List.map_append, hvar k hkl]
        rfl
      have hd := List.drop_eq_getElem_cons (show k < (upFrom gateR F gs).length by rw [hlen]; exact hkl)
      rw [e, ih (k + 1) (by omega), hd]
      congr 1
      unfold gAt
      simp [List.getD, List.getElem?_eq_getElem (show k < (upFrom gateR F gs).length by rw [hlen]; exact hkl)]
  have := key gs.length 0 (by omega)
  unfold inOrderS
  rw [hlen]
  simpa using this
theorem of_raw {c : NormC} (h : MayC c) : ofS (rawS c) = .ok c := by
  have hv : varsN c = c.ins.toNat + c.lats.length + c.gates.length := rfl
  have hown := owns_raw c
  have hord : inOrderS (rawS c).gates = (rawS c).gates := order_raw _ _ h.gates
  have hmem : ∀ x ∈ ownsL (rawS c), ∃ i, i < varsN c ∧ x = 2 * (1 + i) := fun x hx => by
    rw [hown] at hx
    simp only [List.mem_map, List.mem_range] at hx
    obtain ⟨i, hi, rfl⟩ := hx
    exact ⟨i, hi, rfl⟩
  have hpair : (ownsL (rawS c)).Pairwise (fun a b => a / 2 ≠ b / 2) := by
    rw [hown, List.pairwise_map]
    exact List.pairwise_lt_range.imp (fun h => by omega)
  have hdlen : (defs0 (rawS c).max).length = varsN c + 1 := by simp [defs0, rawS]
  obtain ⟨d, hd⟩ : ∃ d, defsS (rawS c) = some d := by
    refine defsF_ok _ _ (fun x hx => ?_) hpair (fun x hx => ?_)
    · obtain ⟨i, _, rfl⟩ := hmem x hx; omega
    · obtain ⟨i, hi, rfl⟩ := hmem x hx
      unfold defs0
      rw [bset_getD, if_neg (by omega)]
      simp only [List.getD, List.getElem?_replicate]
      split <;> rfl
  have hget := defsF_get _ _ d hd (fun x hx => by obtain ⟨i, hi, rfl⟩ := hmem x hx; rw [hdlen]; omega)
  have hto : ∀ v, v ≤ varsN c → (toS (rawS c)).getD v 0 = 2 * v := by
    intro v hvv
    unfold toS
    by_cases h0 : v = 0
    · subst h0
      rw [toF_out _ _ _ _ (fun x hx => by obtain ⟨i, _, rfl⟩ := hmem x hx; omega)]
      simp [List.getD]
    · have hin := toF_in (ownsL (rawS c)) (List.replicate ((rawS c).max + 1) 0) 0 (v - 1) (by rw [hown]; simp; omega) (fun x hx => by obtain ⟨i, hi, rfl⟩ := hmem x hx; simp [rawS]; omega) hpair
      have e : (ownsL (rawS c)).getD (v - 1) 0 / 2 = v := by
        rw [hown]
        simp [List.getD, show v - 1 < varsN c by omega]
        omega
      rw [e] at hin
      rw [hin]
      omega
  have hnow : ∀ x, x ≤ 2 * varsN c + 1 → nowS (toS (rawS c)) x = x := fun x hx => by
    unfold nowS
    rw [hto (x / 2) (by omega)]
    omega
  have hmap : ∀ l : List Nat, (∀ x ∈ l, x ≤ 2 * varsN c + 1) → l.map (nowS (toS (rawS c))) = l := fun l hl => by
    conv => rhs; rw [← List.map_id l]
    exact List.map_congr_left fun x hx => hnow x (hl x hx)
  refine ofS_ok.2 ⟨mayRaw_raw h, ⟨d, hd, any_false.2 fun x hx => ?_⟩, by rw [hord], ?_⟩
  · have hx' := refs_raw h x hx
    have : d.getD (x / 2) false = true := by
      rw [hget (x / 2)]
      by_cases h0 : x / 2 = 0
      · refine Or.inl ?_
        rw [h0]
        unfold defs0
        rw [bset_getD, if_pos ⟨rfl, by simp⟩]
      · refine Or.inr ⟨2 * (1 + (x / 2 - 1)), ?_, by omega⟩
        rw [hown]
        simp only [List.mem_map, List.mem_range]
        exact ⟨x / 2 - 1, by omega, rfl⟩
    unfold missing
    rw [this]; rfl
  · rw [hord]
    obtain ⟨ins, lats, gates, outs, bads, cons⟩ := c
    have hi := h.pos
    simp only at hi
    unfold renumS
    rw [show ({ rawS ⟨ins, lats, gates, outs, bads, cons⟩ with gates := (rawS ⟨ins, lats, gates, outs, bads, cons⟩).gates } : RawC) = rawS ⟨ins, lats, gates, outs, bads, cons⟩ from rfl]
    generalize htt : toS (rawS ⟨ins, lats, gates, outs, bads, cons⟩) = T at hnow hmap
    have e3 := hmap outs h.outs
    have e4 := hmap bads h.bads
    have e5 := hmap cons h.cons
    simp only [rawS, NormC.mk.injEq]
    refine ⟨by simp; omega, ?_, ?_, e3.symm, e4.symm, e5.symm⟩
    · apply List.ext_getElem (by simp [upFrom_len])
      intro i h1 h2
      have hp := h.lats _ (List.getElem_mem h1)
      simp only [List.getElem_map, upFrom, List.getElem_range, latR, latS3]
      have e : lats.getD i (0, 0) = lats[i] := by simp [List.getD, List.getElem?_eq_getElem h1]
      simp only [e]
      rw [hnow _ hp.1]
      unfold resetS
      simp only
      refine Prod.ext rfl ?_
      simp only
      have h2 := hp.2
      by_cases h4 : (lats[i]).2 = 2
      · rw [if_pos h4, if_pos rfl]
        exact h4
      · rw [if_neg h4, if_neg (by omega)]
        omega
    · apply List.ext_getElem (by simp [upFrom_len])
      intro i h1 h2
      have hp := h.gates i h1
      have e : gates.getD i (0, 0) = gates[i] := by simp [List.getD, List.getElem?_eq_getElem h1]
      simp only [e] at hp
      simp only [List.getElem_map, upFrom, List.getElem_range, gateR, gateS3]
      simp only [e]
      simp only [varsN] at hnow
      rw [hnow _ (by omega), hnow _ (by omega)]
      exact Prod.ext (by simp only; omega) (by simp only; omega)
end Go.Proofs.YtglhnmbfkbjemaaGreatDoor
/- How long what is put is, where there are few things: on plain lists. -/
namespace Go.Proofs.YtglhnmbfkbjemaaGreatDoor
open Go Go.RowKit Go.Joins
theorem putG_len : ∀ (gs : List (Nat × Nat)) (own : Nat), (putG own gs).length ≤ 10 * gs.length
  | [], _ => by simp [putG]
  | (a, b) :: t, own => by
    have h1 := encL_len (own - a)
    have h2 := encL_len (a - b)
    have h3 := putG_len t (own + 2)
    simp only [putG, List.length_append, List.length_cons]
    omega
theorem ones_len : ∀ (l : List Nat), (∀ x ∈ l, x < 4294967296) → (linesOf (l.map fun x => [x])).length ≤ 22 * l.length
  | [], _ => by simp [linesOf]
  | x :: t, h => by
    have h1 := bodyOf_len [x] (by simpa using h x (by simp))
    have h2 := ones_len t (fun y hy => h y (by simp [hy]))
    simp only [List.map_cons, linesOf, lineOf, List.length_append, List.length_cons, List.length_nil] at h1 h2 ⊢
    omega
theorem bLats_len : ∀ (ls : List (Nat × Nat)) (own : Nat), (∀ p ∈ ls, p.1 < 4294967296 ∧ p.2 ≤ 2) → own + 2 * ls.length < 4294967296 → (bLats own ls).length ≤ 43 * ls.length
  | [], _, _, _ => by simp [bLats]
  | p :: t, own, h, ho => by
    rw [List.length_cons] at ho
    have hp := h p (by simp)
    have e : (blatNums (bLat own p)).length ≤ 2 := by unfold blatNums; split <;> simp
    have hor : blatNums (bLat own p) = [p.1] ∨ blatNums (bLat own p) = [p.1, if p.2 = 2 then own else p.2] := by
      by_cases h0 : (bLat own p).2.2 = 0
      · left; unfold blatNums; rw [if_pos h0]; rfl
      · right; unfold blatNums; rw [if_neg h0]; rfl
    have h1 := bodyOf_len (blatNums (bLat own p)) (by
      intro x hx
      rcases hor with e1 | e1
      · rw [e1] at hx
        have hx := List.mem_singleton.1 hx
        rw [hx]; exact hp.1
      · rw [e1] at hx
        rcases List.mem_cons.1 hx with hx | hx
        · rw [hx]; exact hp.1
        · have hx := List.mem_singleton.1 hx
          rw [hx]
          split <;> omega)
    have h2 := bLats_len t (own + 2) (fun y hy => h y (by simp [hy])) (by omega)
    simp only [bLats, lineOf, List.length_append, List.length_cons, List.length_nil] at h1 h2 ⊢
    omega
theorem putB_len {c : NormC} (h : MayC c) : (putB c).length ≤ 152 + 43 * c.lats.length + 22 * (c.outs.length + c.bads.length + c.cons.length) + 10 * c.gates.length := by
  have hf := h.few
  have hv : varsN c = c.ins.toNat + c.lats.length + c.gates.length := rfl
  have hc := (counts_len (rawS c)).2
  have hb := bodyOf_len (countsOf (rawS c)) (fun x hx => by have := counts_small (valid_of (mayRaw_raw h)) x hx; omega)
  have h1 := bLats_len c.lats (2 * (1 + c.ins.toNat)) (fun p hp => by have := h.lats p hp; omega) (by omega)
  have h2 := ones_len c.outs (fun x hx => by have := h.outs x hx; omega)
  have h3 := ones_len c.bads (fun x hx => by have := h.bads x hx; omega)
  have h4 := ones_len c.cons (fun x hx => by have := h.cons x hx; omega)
  have h5 := putG_len c.gates (2 * (1 + c.ins.toNat + c.lats.length))
  unfold putB
  simp only [List.length_append, lineOf, List.length_cons, List.length_nil, binText]
  omega
theorem textC_len {c : NormC} (h : MayC c) : (textOf (rawS c)).length ≤ 152 + 22 * c.ins.toNat + 64 * (c.lats.length + c.gates.length + c.outs.length + c.bads.length + c.cons.length) := by
  have hv := valid_of (mayRaw_raw h)
  have hc := (counts_len (rawS c)).2
  have hb := bodyOf_len (countsOf (rawS c)) (fun x hx => by have := counts_small hv x hx; omega)
  have h4 : (rawS c).ins.length = c.ins.toNat ∧ (rawS c).lats.length = c.lats.length ∧ (rawS c).gates.length = c.gates.length ∧ (rawS c).outs.length = c.outs.length ∧ (rawS c).bads.length = c.bads.length ∧ (rawS c).cons.length = c.cons.length := by
    simp [rawS, upFrom_len]
  have hmax := hv.max
  have h1 := ones_len (rawS c).ins (fun x hx => by have := hv.i x hx; omega)
  obtain ⟨B, hB⟩ : ∃ B, B = (rawS c).lats.map latNums ++ ((rawS c).outs.map (fun x => [x]) ++ ((rawS c).bads.map (fun x => [x]) ++ ((rawS c).cons.map (fun x => [x]) ++ (rawS c).gates.map triNums))) := ⟨_, rfl⟩
  have hbl : bodyLines (rawS c) = (rawS c).ins.map (fun x => [x]) ++ B := by rw [hB]; rfl
  have h2 := linesOf_len B (fun l hl => by
    have hs := lines_small hv l (by rw [hbl]; exact List.mem_append.2 (Or.inr hl))
    exact ⟨hs.2.1, fun x hx => by have := hs.2.2 x hx; omega⟩)
  have h3 : B.length = (rawS c).lats.length + (rawS c).outs.length + (rawS c).bads.length + (rawS c).cons.length + (rawS c).gates.length := by
    rw [hB]; simp only [List.length_append, List.length_map]; omega
  have h5 : (textOf (rawS c)).length = 4 + ((bodyOf (countsOf (rawS c))).length + 1) + ((linesOf ((rawS c).ins.map fun x => [x])).length + (linesOf B).length) := by
    unfold textOf
    rw [hbl, linesOf_append]
    simp only [List.length_append, lineOf, List.length_cons, List.length_nil, headText]
    omega
  omega
theorem take_putB (c : NormC) (tail : List UInt8) : decide ((putB c ++ tail).take 4 = [97, 97, 103, 32]) = false := by
  simp [putB, binText]
theorem take_text (r : RawC) : decide ((textOf r).take 4 = [97, 97, 103, 32]) = true := by
  simp [textOf, headText]
end Go.Proofs.YtglhnmbfkbjemaaGreatDoor
/- bin.Any, by its contract: the ASCII text of a circuit that may be. -/
namespace Go.Proofs.YtglhnmbfkbjemaaGreatDoor
open Go Go.RowKit Go.Joins
theorem raw_smallB {c : NormC} (h : MayC c) {w : World} {s : Slots} (hs : SeesRaw w s (rawS c)) : s.small := by
  have hf := h.few
  have hl := h.lens
  unfold varsN at hf
  have e1 := hs.s1.lenMap
  have e2 := hs.s2.1
  have e3 := hs.s3.lenMap
  have e4 := hs.s4.lenMap
  have e5 := hs.s5.lenMap
  have e6 := hs.s6.1
  unfold rawS at e1 e2 e3 e4 e5 e6
  simp only [List.length_map, List.length_range, upFrom_len] at e1 e2 e3 e4 e5 e6
  exact ⟨by omega, by omega, by omega, by omega, by omega, by omega⟩
set_option maxRecDepth 100000 in
set_option maxHeartbeats 1600000 in
theorem any_raw (bs : List UInt8) (c0 : NormC) (hm : MayC c0) (hbs : bs = textOf (rawS c0)) (hlen : bs.length ≤ 1048576) (a : Option Addr) (n c : Nat) (w : World) (h : Sees w a n c (bs.map bv)) :
    Calls Tryz.prog 9 #[.slice a n c] w fun e w' => ∃ s : CSlots, e = .returned (.tuple #[cirV c0.ins s, .int .i64 0]) ∧ SeesCir w' s c0 ∧ Below w.heap.size w w' := by
  have hyes : decide (bs.take 4 = aagL) = true := by rw [hbs]; exact take_text _
  have hgs : getS bs = .ok (rawS c0) := by
    have := get_put (valid_of (mayRaw_raw hm)) [] (by rw [List.append_nil, ← hbs]; exact hlen) rfl
    rw [List.append_nil, ← hbs] at this
    exact this
  have hn : bs.length = n := h.lenMap
  have HP := Lib.hid (fun W (hb : Below w.heap.size w W) a' c' (h' : Sees W a' 4 c' (aagL.map bv)) => hasprefix_any bs a a' n c c' W (h.below hb) h')
  rw [hyes] at HP
  have HG := Lib.hid (fun W (hb : Below w.heap.size w W) => get_any bs a n c W (h.below hb) (by omega))
  have HOF := Lib.hid (fun W s (hs : SeesRaw W s (rawS c0)) => of_any (rawS c0) s W hs (raw_smallB hm hs))
  have HGS := Lib.hid hgs
  have HOR := Lib.hid (of_raw hm)
  have kc := Lib.run_convert_bytes_const (P := Tryz.prog) (w.alloc (.cells #[.int .i64 0, .slice none 0 0, .slice none 0 0, .slice none 0 0, .slice none 0 0, .slice none 0 0] 26)) 27 5 #[.int .u8 97, .int .u8 97, .int .u8 103, .int .u8 32] 4 4 Tryz.underlying27 Tryz.underlying5
  rw [show (w.alloc (.cells #[.int .i64 0, .slice none 0 0, .slice none 0 0, .slice none 0 0, .slice none 0 0, .slice none 0 0] 26)).heap.size = w.heap.size + 1 by simp] at kc
  have hs1 : Sees ((w.alloc (.cells #[.int .i64 0, .slice none 0 0, .slice none 0 0, .slice none 0 0, .slice none 0 0, .slice none 0 0] 26)).alloc (.cells #[.int .u8 97, .int .u8 97, .int .u8 103, .int .u8 32] 5 (4, 5))) (some ⟨w.heap.size + 1, 0, none⟩) 4 4 (aagL.map bv) := sees_at _ 5 (4, 5) #[.int .u8 97, .int .u8 97, .int .u8 103, .int .u8 32] (aagL.map bv) 4 (w.heap.size + 1) rfl rfl (by simp)
  have hb1 : Below w.heap.size w ((w.alloc (.cells #[.int .i64 0, .slice none 0 0, .slice none 0 0, .slice none 0 0, .slice none 0 0, .slice none 0 0] 26)).alloc (.cells #[.int .u8 97, .int .u8 97, .int .u8 103, .int .u8 32] 5 (4, 5))) := ext_trans (ext_alloc _ _) (ext_alloc _ _)
  have HP1 := Lib.hid (HP.out _ hb1 _ _ hs1)
  have HB1 := Lib.hid hb1
  obtain ⟨R, hR⟩ : ∃ R, R = rawS c0 := ⟨_, rfl⟩
  rw [← hR] at HOF HGS HOR
  obtain ⟨m, hmm⟩ : ∃ m, m = R.max := ⟨_, rfl⟩
  rw [← hmm] at HOF
  have HMM := Lib.hid hmm
  obtain ⟨z, hz⟩ : ∃ z, z = c0.ins := ⟨_, rfl⟩
  rw [← hz]
  have HZ := Lib.hid hz
  clear hs1 hb1 HP h hyes hgs hn hbs hlen hm hR hmm hz
  go_enter Tryz.func9, Tryz.ntmps9
  go_wp2_with fail
  refine HP1.out.mono ?_
  rintro e w' ⟨rfl, rfl⟩
  clear HP1 kc
  go_wp2_with fail
  refine (HG.out _ HB1.out).mono ?_
  rintro e w2 ⟨hb2, ⟨r2, s2, hg, rfl, hs2⟩ | ⟨er, hg, _, rfl⟩⟩
  rotate_left
  · rw [HGS.out] at hg; cases hg
  rw [HGS.out] at hg
  obtain rfl : R = r2 := by injection hg
  rw [← HMM.out]
  have HX2 := Lib.hid (heap_below ((heap_below (heap_new w (.cells #[.int .i64 0, .slice none 0 0, .slice none 0 0, .slice none 0 0, .slice none 0 0, .slice none 0 0] 26) w.heap.size rfl) (ext_alloc _ (.cells #[.int .u8 97, .int .u8 97, .int .u8 103, .int .u8 32] 5 (4, 5))))) hb2)
  have HB2 := Lib.hid (ext_trans HB1.out hb2)
  obtain ⟨a1, n1, c1, a2, n2, c2, a3, n3, c3, a4, n4, c4, a5, n5, c5, a6, n6, c6⟩ := s2
  have HO := Lib.hid (fun o : Obj => HOF.out (w2.alloc o) _ (hs2.below (ext_alloc _ _)))
  clear hs2 hg hb2 HG HOF HGS HB1
  unfold rawV at HO ⊢
  simp only at HO ⊢
  go_wp2_with fail
  refine (HO.out _).mono ?_
  rintro e w3 ⟨hb3, ⟨c3', s3, hg, rfl, hs3⟩ | ⟨er, hg, _, rfl⟩⟩
  rotate_left
  · rw [HOR.out] at hg; cases hg
  rw [HOR.out] at hg
  obtain rfl : c0 = c3' := by injection hg
  rw [← HZ.out]
  have HS3 := Lib.hid hs3
  have HX := Lib.hid (heap_below (heap_below HX2.out (ext_alloc _ _)) hb3)
  have HB3 := Lib.hid (ext_trans (ext_trans HB2.out (ext_alloc _ _)) hb3)
  have HLT := Lib.hid (show w.heap.size < (w2.alloc (.cells #[.int .u32 m, .slice a1 n1 c1, .slice a2 n2 c2, .slice a3 n3 c3, .slice a4 n4 c4, .slice a5 n5 c5, .slice a6 n6 c6] 39)).heap.size by have := heap_lt HX2.out; simp; omega)
  obtain ⟨p1, q1, r1, p2, q2, r2, p3, q3, r3, p4, q4, r4, p5, q5, r5⟩ := s3
  clear hb3 hg hs3 HO HOR HX2 HB2
  unfold cirV
  simp only
  have x0 := cell_of_block HX.out 0
  have y0 := unfrozen_of_block HX.out 0
  have x1 := cell_of_block HX.out 1
  have y1 := unfrozen_of_block HX.out 1
  have x2 := cell_of_block HX.out 2
  have y2 := unfrozen_of_block HX.out 2
  have x3 := cell_of_block HX.out 3
  have y3 := unfrozen_of_block HX.out 3
  have x4 := cell_of_block HX.out 4
  have y4 := unfrozen_of_block HX.out 4
  have x5 := cell_of_block HX.out 5
  have y5 := unfrozen_of_block HX.out 5
  go_wp2_with fail
  refine bodyPost_ret (v := .tuple #[cirV z ⟨p1, q1, r1, p2, q2, r2, p3, q3, r3, p4, q4, r4, p5, q5, r5⟩, .int .i64 0]) ?_ rfl ?_
  · have h6 := cir_set HX.out rfl (.int .i64 z) (.slice p1 q1 r1) (.slice p2 q2 r2) (.slice p3 q3 r3) (.slice p4 q4 r4) (.slice p5 q5 r5)
    simp [results, Tryz.results9, go_sem, cell_of_block h6 0, cell_of_block h6 1, cell_of_block h6 2, cell_of_block h6 3, cell_of_block h6 4, cell_of_block h6 5]
    rfl
  · exact ⟨_, rfl, seescir_six HS3.out.sees HX.out _ _ _ _ _ _, set6 w.heap.size (Nat.le_refl _) HB3.out⟩
end Go.Proofs.YtglhnmbfkbjemaaGreatDoor
/- The law of bin: great, by its contract. -/
namespace Go.Proofs.YtglhnmbfkbjemaaGreatDoor
open Go Go.RowKit Go.Joins
def greatC4 (c : NormC) : Bool := decide (3000 < c.lats.length + c.gates.length + c.outs.length + c.bads.length + c.cons.length)
set_option maxRecDepth 100000 in
theorem great4_any (c : NormC) (s : CSlots) (w : World) (h : SeesCir w s c) (hs : s.small) :
    Calls Tryz.prog 4 #[cirV c.ins s] w fun e w' => e = .returned (.bool (greatC4 c)) ∧ Below w.heap.size w w' := by
  obtain ⟨a1, n1, c1, a2, n2, c2, a3, n3, c3, a4, n4, c4, a5, n5, c5⟩ := s
  obtain ⟨hs1, hs2, hs3, hs4, hs5⟩ := hs
  simp only at hs1 hs2 hs3 hs4 hs5
  have l1 : c.lats.length = n1 := h.s1.1
  have l2 : c.gates.length = n2 := h.s2.1
  have l3 : c.outs.length = n3 := h.s3.lenMap
  have l4 : c.bads.length = n4 := h.s4.lenMap
  have l5 : c.cons.length = n5 := h.s5.lenMap
  have e : decide ((3000 : Int) < (n1 : Int) + n2 + n3 + n4 + n5) = greatC4 c := by
    unfold greatC4
    rw [l1, l2, l3, l4, l5]
    apply decide_eq_decide.2
    omega
  have E := Lib.hid e
  obtain ⟨z, hz⟩ : ∃ z, z = c.ins := ⟨_, rfl⟩
  rw [← hz]
  clear hz e l1 l2 l3 l4 l5 h
  unfold cirV
  go_enter Tryz.func4, Tryz.ntmps4
  go_wp2
  go_ret
  exact ⟨congrArg (fun b => Ending.returned (.bool b)) E.out, ext_alloc _ _⟩
end Go.Proofs.YtglhnmbfkbjemaaGreatDoor
/- What bin.Put writes, cut short, bin.Get refuses as too short: on plain lists. -/
namespace Go.Proofs.YtglhnmbfkbjemaaGreatDoor
open Go Go.RowKit Go.Joins
theorem dEnc_short (es ef : Int) : ∀ (f n i s k : Nat), n < 128 ^ (f + 1) → i + f = 4 → s + n * 128 ^ i ≤ 4294967295 → k < (dEnc f n).length →
    dGo es ef ((dEnc f n).take k) i s = .error es
  | 0, n, i, s, k, _, _, _, hk => by
    obtain rfl : k = 0 := by simp [dEnc] at hk; omega
    rfl
  | f + 1, n, i, s, k, hn, hf, hm, hk => by
    cases k with
    | zero => rfl
    | succ k =>
      unfold dEnc at hk ⊢
      by_cases h : 128 ≤ n
      · rw [if_pos h] at hk ⊢
        have e := u8_of (n % 128 + 128) (by omega)
        have hp : n * 128 ^ i = n % 128 * 128 ^ i + n / 128 * 128 ^ (i + 1) := by
          have hd : n = n % 128 + 128 * (n / 128) := by omega
          rw [Nat.pow_succ]
          calc n * 128 ^ i = (n % 128 + 128 * (n / 128)) * 128 ^ i := by rw [← hd]
            _ = n % 128 * 128 ^ i + n / 128 * (128 ^ i * 128) := by rw [Nat.add_mul, Nat.mul_comm 128 (n / 128), Nat.mul_assoc, Nat.mul_comm 128 (128 ^ i)]
        have hq : n / 128 < 128 ^ (f + 1) := by
          rw [Nat.pow_succ] at hn
          exact Nat.div_lt_of_lt_mul (by rw [Nat.mul_comm]; exact hn)
        have ih := dEnc_short es ef f (n / 128) (i + 1) (s + n % 128 * 128 ^ i) k hq (by omega) (by omega) (by rw [List.length_cons] at hk; omega)
        rw [List.take_succ_cons]
        unfold dGo
        rw [e, show (n % 128 + 128) % 128 = n % 128 by omega, if_neg (by omega), if_neg (by omega), ih]
      · rw [if_neg h] at hk
        simp at hk
theorem delta_short (n k : Nat) (hn : n ≤ 4294967295) (hk : k < (encL n).length) : deltaL 4 5 ((encL n).take k) = .error 4 :=
  dEnc_short 4 5 4 n 0 0 k (by omega) rfl (by omega) hk
def CutG (G : St → St) (t : List UInt8) : Prop := ∀ (R : List UInt8) (k : Nat), k < (t ++ R).length →
  G (.ok ((t ++ R).take k)) = .error 4 ∨ ∃ k', k' < R.length ∧ G (.ok ((t ++ R).take k)) = .ok (R.take k')
theorem cutG_of {G : St → St} {t : List UInt8} (h1 : ∀ R, G (.ok (t ++ R)) = .ok R) (h2 : ∀ k, k < t.length → G (.ok (t.take k)) = .error 4) : CutG G t := by
  intro R k hk
  by_cases hlt : k < t.length
  · left
    rw [List.take_append_of_le_length (by omega)]
    exact h2 k hlt
  · right
    refine ⟨k - t.length, by rw [List.length_append] at hk; omega, ?_⟩
    rw [List.take_append, List.take_of_length_le (by omega)]
    exact h1 _
theorem CutG.then {G H : St → St} {t u : List UInt8} (h1 : CutG G t) (h2 : CutG H u) (he : H (.error 4) = .error 4) : CutG (fun st => H (G st)) (t ++ u) := by
  intro R k hk
  show H (G _) = _ ∨ ∃ k', _ ∧ H (G _) = _
  rw [List.append_assoc] at hk ⊢
  rcases h1 (u ++ R) k hk with e | ⟨k1, hk1, e⟩
  · rw [e]; exact Or.inl he
  · rw [e]; exact h2 R k1 hk1
theorem cutG_nil : CutG (fun st => st) [] := fun R k hk => Or.inr ⟨k, by simpa using hk, rfl⟩
theorem CutG.short {G : St → St} {t : List UInt8} (h : CutG G t) {k : Nat} (hk : k < t.length) : G (.ok (t.take k)) = .error 4 := by
  rcases h [] k (by simpa using hk) with e | ⟨k', hk', _⟩
  · simpa using e
  · simp at hk'
theorem lineSt_short {most : Nat} {many : Int} (l : List Nat) (k : Nat) (hk : k < (lineOf l).length) : lineSt most many (.ok ((lineOf l).take k)) = ((0, 0), .error 4) := by
  have hs : cutS ((lineOf l).take k) = none := by
    refine cut_short _ fun c hc => ?_
    have hb : (lineOf l).take k = (bodyOf l).take k := by
      unfold lineOf
      rw [List.take_append_of_le_length (by simp [lineOf] at hk; omega)]
    rw [hb] at hc
    exact body_free _ c (List.mem_of_mem_take hc)
  simp only [lineSt, hs]
theorem lineSt_cut {most : Nat} {many : Int} (l : List Nat) (h1 : 1 ≤ l.length) (h2 : (l.length : Int) ≤ many) (h3 : ∀ x ∈ l, x ≤ most) : CutG (fun st => (lineSt most many st).2) (lineOf l) :=
  cutG_of (fun R => by rw [lineSt_nums l R h1 h2 h3]) fun k hk => by rw [lineSt_short l k hk]
theorem litsSt_err {most : Nat} (er : Int) : ∀ k, (litsSt most k (.error er)).2 = .error er
  | 0 => rfl
  | k + 1 => by rw [litsSt]; exact litsSt_err er k
theorem litsSt_cut {most : Nat} : ∀ (xs : List Nat), (∀ x ∈ xs, x ≤ most) → CutG (fun st => (litsSt most xs.length st).2) (linesOf (xs.map fun x => [x]))
  | [], _ => cutG_nil
  | x :: t, h => by
    have h1 := lineSt_cut (most := most) (many := 1) [x] (by simp) (by simp) (by simpa using h x (by simp))
    exact CutG.then h1 (litsSt_cut t fun y hy => h y (by simp [hy])) (litsSt_err 4 _)
theorem latSt_err {most own : Nat} (er : Int) (ho : 2 ≤ own) : (latSt most own (.error er)).2 = .error er := by
  unfold latSt
  have e : lineSt most 2 (.error er) = ((0, 0), .error er) := rfl
  rw [e]
  show (if 0 = own then _ else if 1 < 0 then _ else _ : (Nat × Nat) × St).2 = _
  rw [if_neg (by omega), if_neg (by omega)]
theorem latSt_cut {most own : Nat} {p : Nat × Nat} (ho : 2 ≤ own) (hom : own ≤ most) (h1 : p.1 ≤ most) (h2 : p.2 ≤ 2) : CutG (fun st => (latSt most own st).2) (lineOf (blatNums (bLat own p))) :=
  cutG_of (fun R => by rw [latSt_put R ho hom h1 h2]) fun k hk => by
    unfold latSt
    simp only [lineSt_short _ k hk]
    rw [if_neg (by omega), if_neg (by omega)]
theorem latsSt_err {most : Nat} (er : Int) : ∀ k own, 2 ≤ own → (latsSt most k own (.error er)).2 = .error er
  | 0, _, _ => rfl
  | k + 1, own, h => by rw [latsSt]; simp only; rw [latSt_err er h]; exact latsSt_err er k (own + 2) (by omega)
theorem latsSt_cut {most : Nat} : ∀ (ls : List (Nat × Nat)) (own : Nat), 2 ≤ own → own + 2 * ls.length ≤ most + 2 → (∀ p ∈ ls, p.1 ≤ most ∧ p.2 ≤ 2) → CutG (fun st => (latsSt most ls.length own st).2) (bLats own ls)
  | [], _, _, _, _ => cutG_nil
  | p :: t, own, ho, hm, h => by
    rw [List.length_cons] at hm
    exact CutG.then (latSt_cut ho (by omega) (h p (by simp)).1 (h p (by simp)).2) (latsSt_cut t (own + 2) (by omega) (by omega) fun y hy => h y (by simp [hy])) (latsSt_err 4 _ _ (by omega))
theorem belowSt_put {lit least v : Nat} (R : List UInt8) (hv : v ≤ lit) (hl : least ≤ lit - v) (hb : lit ≤ 4294967295) : belowSt lit least (.ok (encL (lit - v) ++ R)) = (v, .ok R) := by
  simp only [belowSt, below_put R hv hl hb]
theorem belowSt_short {lit least v k : Nat} (hb : lit ≤ 4294967295) (hk : k < (encL (lit - v)).length) : belowSt lit least (.ok ((encL (lit - v)).take k)) = (0, .error 4) := by
  simp only [belowSt, belowL, delta_short _ k (show lit - v ≤ 4294967295 by omega) hk]
theorem gatesSt_err (er : Int) : ∀ k own, (gatesSt k own (.error er)).2 = .error er
  | 0, _ => rfl
  | k + 1, own => by rw [gatesSt]; exact gatesSt_err er k (own + 2)
theorem gatesSt_cut : ∀ (gs : List (Nat × Nat)) (own : Nat), okG own gs → own + 2 * gs.length ≤ 4294967295 → CutG (fun st => (gatesSt gs.length own st).2) (putG own gs)
  | [], _, _, _ => cutG_nil
  | (a, b) :: t, own, h, hb => by
    obtain ⟨h1, h2, h3⟩ := h
    rw [List.length_cons] at hb
    have ih := gatesSt_cut t (own + 2) h3 (by omega)
    have g : CutG (fun st => (belowSt (belowSt own 1 st).1 0 (belowSt own 1 st).2).2) (encL (own - a) ++ encL (a - b)) := by
      refine cutG_of (fun R => ?_) fun k hk => ?_
      · rw [List.append_assoc, belowSt_put _ (show a ≤ own by omega) (show 1 ≤ own - a by omega) (by omega)]
        simp only
        rw [belowSt_put _ h2 (Nat.zero_le _) (by omega)]
      · by_cases hlt : k < (encL (own - a)).length
        · rw [List.take_append_of_le_length (by omega), belowSt_short (by omega) hlt]
          rfl
        · rw [List.take_append, List.take_of_length_le (by omega), belowSt_put _ (show a ≤ own by omega) (show 1 ≤ own - a by omega) (by omega)]
          simp only
          rw [belowSt_short (by omega) (by rw [List.length_append] at hk; omega)]
    have hh := CutG.then g ih (gatesSt_err 4 _ _)
    rw [List.append_assoc] at hh
    exact hh
theorem get_cutB {c : NormC} (h : MayC c) (k : Nat) (hk : k < (putB c).length) (hlen : (putB c).length ≤ 1048576) : getB ((putB c).take k) = .error 4 := by
  have hl : ((putB c).take k).length ≤ 1048576 := by rw [List.length_take]; omega
  obtain ⟨ins, lats, gates, outs, bads, cons⟩ := c
  have hv : varsN ⟨ins, lats, gates, outs, bads, cons⟩ = ins.toNat + lats.length + gates.length := rfl
  have hf := h.few
  have hpos := h.pos
  have hlat := h.lats
  have hou := h.outs
  have hba := h.bads
  have hco := h.cons
  have hga := h.gates
  simp only at hlat hou hba hco hga hpos
  obtain ⟨v, hvv⟩ : ∃ v, v = varsN ⟨ins, lats, gates, outs, bads, cons⟩ := ⟨_, rfl⟩
  rw [← hvv] at hlat hou hba hco hf hv
  obtain ⟨i, hi⟩ : ∃ i, i = ins.toNat := ⟨_, rfl⟩
  rw [← hi] at hv hga
  have h1 := latsSt_cut (most := 2 * v + 1) lats (2 * (1 + i)) (by omega) (by omega) hlat
  have h2 := litsSt_cut (most := 2 * v + 1) outs hou
  have h3 := litsSt_cut (most := 2 * v + 1) bads hba
  have h4 := litsSt_cut (most := 2 * v + 1) cons hco
  have h5 := gatesSt_cut gates (2 * (1 + i + lats.length)) (okG_of _ _ fun k hk => by have := hga k hk; exact ⟨this.1, by omega⟩) (by omega)
  have hall := CutG.then h1 (CutG.then h2 (CutG.then h3 (CutG.then h4 h5 (gatesSt_err 4 _ _)) (by simp only [litsSt_err, gatesSt_err])) (by simp only [litsSt_err, gatesSt_err])) (by simp only [litsSt_err, gatesSt_err])
  obtain ⟨B, hB⟩ : ∃ B, B = bLats (2 * (1 + i)) lats ++ (linesOf (outs.map fun x => [x]) ++ (linesOf (bads.map fun x => [x]) ++ (linesOf (cons.map fun x => [x]) ++ putG (2 * (1 + i + lats.length)) gates))) := ⟨_, rfl⟩
  rw [← hB] at hall
  have he : putB ⟨ins, lats, gates, outs, bads, cons⟩ = (binText ++ bodyOf (countsOf (rawS ⟨ins, lats, gates, outs, bads, cons⟩))) ++ ([10] ++ B) := by
    unfold putB lineOf
    simp only [← hi, List.append_assoc, hB]
  obtain ⟨cs, hcs⟩ : ∃ cs, cs = countsOf (rawS ⟨ins, lats, gates, outs, bads, cons⟩) := ⟨_, rfl⟩
  rw [← hcs] at he
  by_cases hlt : k ≤ (binText ++ bodyOf cs).length
  · have hs : cutS ((putB ⟨ins, lats, gates, outs, bads, cons⟩).take k) = none := by
      refine cut_short _ fun c hc => ?_
      rw [he, List.take_append_of_le_length hlt] at hc
      exact bhead_free _ c (List.mem_of_mem_take hc)
    unfold getB
    rw [if_neg (by omega)]
    unfold headS
    rw [hs]
  · obtain ⟨k0, hk0⟩ : ∃ k0, k = (binText ++ bodyOf cs).length + 1 + k0 := ⟨k - ((binText ++ bodyOf cs).length + 1), by omega⟩
    have hle : k0 < B.length := by
      have := congrArg List.length he
      simp only [List.length_append, List.length_cons, List.length_nil] at this hk hk0 ⊢
      omega
    have ht : (putB ⟨ins, lats, gates, outs, bads, cons⟩).take k = binText ++ (lineOf cs ++ B.take k0) := by
      have e : putB ⟨ins, lats, gates, outs, bads, cons⟩ = (binText ++ lineOf cs) ++ B := by rw [he]; simp [lineOf]
      have el : (binText ++ lineOf cs).length = (binText ++ bodyOf cs).length + 1 := by simp [lineOf]; omega
      rw [e, List.take_append, List.take_of_length_le (by rw [el]; omega), List.append_assoc, el, hk0]
      congr 3
      omega
    have hh := bheadS_put (valid_of (mayRaw_raw h)) (B.take k0)
    rw [← hcs, counts_raw] at hh
    simp only [← hvv, ← hi] at hh
    have hsh := hall.short hle
    unfold getB
    rw [if_neg (by omega), ht, hh]
    simp only [List.getD_cons_zero, List.getD_cons_succ]
    rw [if_neg (by omega), hsh]
end Go.Proofs.YtglhnmbfkbjemaaGreatDoor
namespace Go.Proofs.YtglhnmbfkbjemaaGreatDoor
open Go Go.RowKit Go.Joins
theorem MayC.smallB {c : NormC} (h : MayC c) {w : World} {s : CSlots} (hs : SeesCir w s c) : s.small := by
  have hf := h.few
  have hl := h.lens
  unfold varsN at hf
  have e1 := hs.s1.1
  have e2 := hs.s2.1
  have e3 := hs.s3.lenMap
  have e4 := hs.s4.lenMap
  have e5 := hs.s5.lenMap
  exact ⟨by omega, by omega, by omega, by omega, by omega⟩
end Go.Proofs.YtglhnmbfkbjemaaGreatDoor
