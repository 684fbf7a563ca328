/- norm.Of, by its contract. -/
import Derived.Test.YtkbdebdhebphpaaNRenum
namespace Go.Proofs.Ytkbdebdhebphpaa
open Go Go.RowKit Go.Joins

/-- What Of answers. -/
def OfPost (r : RawC) (w : World) (e : Ending) (w' : World) : Prop :=
  Below w.heap.size w w' ∧ ((∃ c s, ofS r = .ok c ∧ e = .returned (.tuple #[cirV c.ins s, .int .i64 0]) ∧ OwnCir w' w.heap.size s c) ∨
    (∃ er, ofS r = .error er ∧ er ≠ 0 ∧ e = .returned (.tuple #[zeroCir, .int .i64 er])))

/-- What a valid raw circuit's literals keep to. -/
structure Lits (r : RawC) : Prop where
  max : r.max ≤ 16384
  owns : ∀ x ∈ ownsL r, x ≤ 2 * r.max + 1
  refs : ∀ x ∈ refsL r, x ≤ 2 * r.max + 1
  reset : ∀ l ∈ r.lats, l.1 < 4294967296 ∧ l.2.2 < 4294967296
  few : r.gates.length ≤ 16384
theorem lits_of {r : RawC} (h : mayRaw r = true) : Lits r := by
  unfold mayRaw at h
  simp only [Bool.and_eq_true, Bool.not_eq_true', Bool.or_eq_false_iff, decide_eq_false_iff_not, badList, List.any_eq_false] at h
  obtain ⟨⟨h1, h2⟩, ⟨_, h3⟩, ⟨_, h4⟩, ⟨_, h5⟩, h6, h7, h8⟩ := h
  have ab : ∀ x, above r.max x ≠ true → x ≤ 2 * r.max + 1 := fun x hx => by
    unfold above at hx
    simpa using hx
  have hl : ∀ l ∈ r.lats, l.1 ≤ 2 * r.max + 1 ∧ l.2.1 ≤ 2 * r.max + 1 ∧ l.2.2 ≤ 2 * r.max + 1 := fun l hl => by
    have h := h7 l hl
    simp only [badLatch, Bool.or_eq_true, not_or, Bool.not_eq_true', Bool.not_eq_true] at h
    have hr : mayReset l = true := by simpa using h.2
    have h1' := ab l.1 (by simpa using h.1.1)
    refine ⟨h1', ab l.2.1 (by simpa using h.1.2), ?_⟩
    simp only [mayReset, Bool.or_eq_true, decide_eq_true_eq] at hr
    omega
  have hg : ∀ g ∈ r.gates, g.1 ≤ 2 * r.max + 1 ∧ g.2.1 ≤ 2 * r.max + 1 ∧ g.2.2 ≤ 2 * r.max + 1 := fun g hg => by
    have h := h8 g hg
    simp only [badGate, Bool.or_eq_true, not_or] at h
    exact ⟨ab g.1 h.1.1, ab g.2.1 h.1.2, ab g.2.2 h.2⟩
  refine ⟨by omega, fun x hx => ?_, fun x hx => ?_, fun l hl' => by have := hl l hl'; omega, by omega⟩
  · unfold ownsL at hx
    simp only [List.mem_append, List.mem_map] at hx
    rcases hx with hx | ⟨l, hl', rfl⟩ | ⟨g, hg', rfl⟩
    · exact ab x (h6 x hx)
    · exact (hl l hl').1
    · exact (hg g hg').1
  · unfold refsL at hx
    simp only [List.mem_append, List.mem_map, List.mem_flatMap] at hx
    rcases hx with (hx | hx | hx) | ⟨l, hl', rfl⟩ | ⟨g, hg', hx⟩
    · exact ab x (h3 x hx)
    · exact ab x (h4 x hx)
    · exact ab x (h5 x hx)
    · exact (hl l hl').2.1
    · simp only [gate1, List.mem_cons, List.not_mem_nil, or_false] at hx
      rcases hx with rfl | rfl
      · exact (hg g hg').2.1
      · exact (hg g hg').2.2

theorem defsF_apart : ∀ (l : List Nat) (d e : List Bool), defsF d l = some e → (∀ x ∈ l, x / 2 < d.length) → (∀ x ∈ l, d.getD (x / 2) false = false) ∧ l.Pairwise (fun a b => a / 2 ≠ b / 2)
  | [], _, _, _, _ => ⟨by simp, List.Pairwise.nil⟩
  | x :: r, d, e, h, hb => by
    unfold defsF at h
    split at h
    · cases h
    · split at h
      · cases h
      · rename_i h1 h2
        have ih := defsF_apart r _ e h (fun y hy => by rw [List.length_set]; exact hb y (by simp [hy]))
        have hset : ∀ y ∈ r, (d.set (x / 2) true).getD (y / 2) false = false → x / 2 ≠ y / 2 ∧ d.getD (y / 2) false = false := fun y hy h3 => by
          by_cases e : x / 2 = y / 2
          · rw [e] at h3
            have := hb y (by simp [hy])
            simp [List.getD, this] at h3
          · refine ⟨e, ?_⟩
            simpa [List.getD, List.getElem?_set, e] using h3
        refine ⟨fun y hy => ?_, List.pairwise_cons.2 ⟨fun y hy => (hset y hy (ih.1 y hy)).1, ih.2⟩⟩
        rcases List.mem_cons.1 hy with rfl | hy
        · simpa using h2
        · exact (hset y hy (ih.1 y hy)).2

theorem apart_of {r : RawC} {d : List Bool} (hl : Lits r) (h : defsS r = some d) : Apart r.gates := by
  have hp := (defsF_apart (ownsL r) _ d h (fun x hx => by have := hl.owns x hx; simp [defs0]; omega)).2
  unfold ownsL at hp
  have hp2 := ((List.pairwise_append.1 ((List.pairwise_append.1 hp).2.1)).2.1)
  rw [List.pairwise_map] at hp2
  intro i j hi hj e
  rcases Nat.lt_trichotomy i j with h' | h' | h'
  · exfalso
    have := List.pairwise_iff_getElem.1 hp2 i j hi hj h'
    unfold varAt gAt at e
    simp [List.getD, List.getElem?_eq_getElem hi, List.getElem?_eq_getElem hj] at e
    exact this e
  · exact h'
  · exfalso
    have := List.pairwise_iff_getElem.1 hp2 j i hj hi h'
    unfold varAt gAt at e
    simp [List.getD, List.getElem?_eq_getElem hi, List.getElem?_eq_getElem hj] at e
    exact this e.symm

theorem orderF_mem (gs : List Tri) : ∀ (f : Nat) (nd : List Nat), (orderF gs f nd).length ≤ f ∧ ∀ g ∈ orderF gs f nd, g ∈ gs
  | 0, nd => by simp [orderF]
  | f + 1, nd => by
    unfold orderF
    split
    · simp
    · rename_i i hi
      have ih := orderF_mem gs f (nd ++ [varAt gs i])
      have hin : i < gs.length := by
        have := List.mem_of_find?_eq_some hi
        exact List.mem_range.1 this
      refine ⟨by simp; exact ih.1, fun g hg => ?_⟩
      rcases List.mem_cons.1 hg with rfl | hg
      · exact getD_mem hin
      · exact ih.2 g hg

theorem flat_gate : ∀ (gs : List Tri), (gs.flatMap gate1).length = 2 * gs.length
  | [] => rfl
  | g :: r => by rw [List.flatMap_cons, List.length_append, flat_gate r]; simp [gate1]; omega

theorem own_sub {r : RawC} {gs : List Tri} {m : Nat} (hg : ∀ g ∈ gs, g ∈ r.gates) (h : ∀ x ∈ ownsL r, x ≤ m) : ∀ x ∈ ownsL { r with gates := gs }, x ≤ m := fun x hx => h x (by
  unfold ownsL at hx ⊢
  simp only [List.mem_append, List.mem_map] at hx ⊢
  rcases hx with hx | hx | ⟨g, hg', rfl⟩
  · exact Or.inl hx
  · exact Or.inr (Or.inl hx)
  · exact Or.inr (Or.inr ⟨g, hg g hg', rfl⟩))
theorem ref_sub {r : RawC} {gs : List Tri} {m : Nat} (hg : ∀ g ∈ gs, g ∈ r.gates) (h : ∀ x ∈ refsL r, x ≤ m) : ∀ x ∈ refsL { r with gates := gs }, x ≤ m := fun x hx => h x (by
  unfold refsL at hx ⊢
  simp only [List.mem_append, List.mem_map, List.mem_flatMap] at hx ⊢
  rcases hx with hx | hx | ⟨g, hg', hx⟩
  · exact Or.inl hx
  · exact Or.inr (Or.inl hx)
  · exact Or.inr (Or.inr ⟨g, hg g hg', hx⟩))

theorem cir_set6 {w : World} {base : Nat} {s : CSlots} {c : NormC} (h : OwnCir w base s c) {G B : Nat} (hG : G < base) (hB : B ≤ base) {u0 u1 u2 u3 u4 u5 : Value} :
    OwnCir ((((((w.setCell ⟨G, 0, .none⟩ u0).setCell ⟨G, 1, .none⟩ u1).setCell ⟨G, 2, .none⟩ u2).setCell ⟨G, 3, .none⟩ u3).setCell ⟨G, 4, .none⟩ u4).setCell ⟨G, 5, .none⟩ u5) B s c :=
  ⟨own_set6 h.o1 hG hB, own_set6 h.o2 hG hB, rowb_set6 h.o3 hG hB, rowb_set6 h.o4 hG hB, rowb_set6 h.o5 hG hB⟩

set_option maxRecDepth 100000 in
set_option maxHeartbeats 6400000 in
theorem of_any (r : RawC) (s : Slots) (w : World) (h : SeesRaw w s r) (hf : s.small) :
    Calls Try.prog 24 #[rawV r.max s] w (OfPost r w) := by
  have hfit : s.fit := by
    have := hf.n1; have := hf.n2; have := hf.n3; have := hf.n4; have := hf.n5; have := hf.n6
    unfold Slots.fit lenMax
    omega
  have HMAY := Lib.hid (fun W hb => may_any r s W (h.below hb) hfit)
  have HDEF := Lib.hid (fun W hb (l : Lits r) => defs_any r s W (h.below hb) hf l.max l.owns)
  have HREF := Lib.hid (fun W hb (l : Lits r) => refs_any r s W (h.below hb) hf (fun x hx => by have := l.refs x (by unfold refsL; simp [hx]); have := l.max; omega) (fun x hx => by have := l.refs x (by unfold refsL; simp [hx]); have := l.max; omega) (fun x hx => by have := l.refs x (by unfold refsL; simp [hx]); have := l.max; omega))
  have HORD := Lib.hid (fun W hb (l : Lits r) (ha : Apart r.gates) => inorder_any r s W (h.below hb) hf l.max (fun g hg => by
    have h1 := l.owns g.1 (by unfold ownsL; simp; exact Or.inr (Or.inr ⟨g.2.1, g.2.2, hg⟩))
    have h2 := l.refs g.2.1 (by unfold refsL; simp; exact Or.inr (Or.inr (Or.inr (Or.inr ⟨g.1, g.2.1, g.2.2, hg, by simp [gate1]⟩))))
    have h3 := l.refs g.2.2 (by unfold refsL; simp; exact Or.inr (Or.inr (Or.inr (Or.inr ⟨g.1, g.2.1, g.2.2, hg, by simp [gate1]⟩))))
    omega) ha (by have := l.few; omega))
  obtain ⟨m, hmm⟩ : ∃ m, m = r.max := ⟨_, rfl⟩
  obtain ⟨a1, n1, c1, a2, n2, c2, a3, n3, c3, a4, n4, c4, a5, n5, c5, a6, n6, c6⟩ := s
  have l6 : r.gates.length = n6 := h.s6.1
  rw [← hmm] at HMAY HDEF HREF HORD ⊢
  have HM := Lib.hid hmm
  have L6 := Lib.hid l6
  have HS := Lib.hid h
  have HSM := Lib.hid hf
  clear hmm h hf hfit l6
  unfold rawV at *
  go_enter Try.func24, Try.ntmps24
  go_wp2_with fail
  generalize hW : World.alloc (World.alloc w _) _ = W1
  have B1 : Below w.heap.size w W1 := by subst hW; exact ext_trans (ext_alloc _ _) (ext_alloc _ _)
  have hX : W1.heap[w.heap.size]? = some (.cells #[.int .u32 m, .slice a1 n1 c1, .slice a2 n2 c2, .slice a3 n3 c3, .slice a4 n4 c4, .slice a5 n5 c5, .slice a6 n6 c6] 37 (0, 0)) := by
    subst hW; exact heap_below (heap_new _ _ _ rfl) (ext_alloc _ _)
  have hR : W1.heap[w.heap.size + 1]? = some (.cells #[.int .i64 0, .slice none 0 0, .slice none 0 0, .slice none 0 0, .slice none 0 0, .slice none 0 0] 26 (0, 0)) := by
    subst hW; exact heap_new _ _ _ (by simp)
  clear hW
  refine (HMAY.out W1 B1).mono ?_
  rintro e W2 ⟨rfl, hb⟩
  obtain ⟨q, hq⟩ : ∃ q, q = mayRaw r := ⟨_, rfl⟩
  rw [← hq]
  have hX2 := heap_below hX hb
  have hR2 := heap_below hR hb
  have B2 := ext_trans B1 hb
  have HQ := Lib.hid hq
  clear hX hR B1 hb hq HMAY
  cases q with
  | false =>
    have HG : Hid (ofS r = .error 2) := by show _ = _; unfold ofS; rw [if_pos HQ.out.symm]
    have z0 := cell_of_block hR2 0
    have z1 := cell_of_block hR2 1
    have z2 := cell_of_block hR2 2
    have z3 := cell_of_block hR2 3
    have z4 := cell_of_block hR2 4
    have z5 := cell_of_block hR2 5
    have y0 := unfrozen_of_block hR2 0
    have y1 := unfrozen_of_block hR2 1
    have y2 := unfrozen_of_block hR2 2
    have y3 := unfrozen_of_block hR2 3
    have y4 := unfrozen_of_block hR2 4
    have y5 := unfrozen_of_block hR2 5
    have HR := Lib.hid hR2
    have HBL := Lib.hid B2
    clear hR2 B2 hX2
    go_wp2
    refine bodyPost_ret (v := .tuple #[zeroCir, .int .i64 2]) ?_ rfl ?_
    · have h6 := cir_set HR.out rfl (.int .i64 0) (.slice none 0 0) (.slice none 0 0) (.slice none 0 0) (.slice none 0 0) (.slice none 0 0)
      have g0 := cell_of_block h6 0
      have g1 := cell_of_block h6 1
      have g2 := cell_of_block h6 2
      have g3 := cell_of_block h6 3
      have g4 := cell_of_block h6 4
      have g5 := cell_of_block h6 5
      simp [results, Try.results24, go_sem, g0, g1, g2, g3, g4, g5]
      rfl
    · refine ⟨?_, Or.inr ⟨2, HG.out, by decide, rfl⟩⟩
      with_reducible exact set6 (w.heap.size + 1) (Nat.le_succ _) HBL.out
  | true =>
    have hl : Lits r := lits_of HQ.out.symm
    have p0 := cell_of_block hX2 0
    have p1 := cell_of_block hX2 1
    have p2 := cell_of_block hX2 2
    have p3 := cell_of_block hX2 3
    have p4 := cell_of_block hX2 4
    have p5 := cell_of_block hX2 5
    have p6 := cell_of_block hX2 6
    have HX := Lib.hid hX2
    have HR := Lib.hid hR2
    have HBL := Lib.hid B2
    have HL := Lib.hid hl
    clear hR2 B2 hX2 hl
    go_wp2_with fail
    refine (HDEF.out _ HBL.out HL.out).mono ?_
    rintro e W3 ⟨hb3, hcase⟩
    have hR3 := heap_below HR.out hb3
    have hX3 := heap_below HX.out hb3
    have B3 := ext_trans HBL.out hb3
    clear p0 p1 p2 p3 p4 p5 p6 HR HX HBL hb3 HDEF
    rcases hcase with ⟨hd, rfl⟩ | ⟨d, D, hd, hdl, rfl, hD⟩
    · have HG : Hid (ofS r = .error 8) := by show _ = _; unfold ofS; rw [if_neg (by rw [← HQ.out]; decide), hd]
      have hR4 := heap_below hR3 (ext_alloc W3 (.cells #[.slice none 0 0] 52 (0, 0)))
      have B4 := ext_trans B3 (ext_alloc W3 (.cells #[.slice none 0 0] 52 (0, 0)))
      clear hR3 B3 hX3 hd
      have z0 := cell_of_block hR4 0
      have z1 := cell_of_block hR4 1
      have z2 := cell_of_block hR4 2
      have z3 := cell_of_block hR4 3
      have z4 := cell_of_block hR4 4
      have z5 := cell_of_block hR4 5
      have y0 := unfrozen_of_block hR4 0
      have y1 := unfrozen_of_block hR4 1
      have y2 := unfrozen_of_block hR4 2
      have y3 := unfrozen_of_block hR4 3
      have y4 := unfrozen_of_block hR4 4
      have y5 := unfrozen_of_block hR4 5
      have HR := Lib.hid hR4
      have HBL := Lib.hid B4
      clear hR4 B4
      go_wp2
      refine bodyPost_ret (v := .tuple #[zeroCir, .int .i64 8]) ?_ rfl ?_
      · have h6 := cir_set HR.out rfl (.int .i64 0) (.slice none 0 0) (.slice none 0 0) (.slice none 0 0) (.slice none 0 0) (.slice none 0 0)
        have g0 := cell_of_block h6 0
        have g1 := cell_of_block h6 1
        have g2 := cell_of_block h6 2
        have g3 := cell_of_block h6 3
        have g4 := cell_of_block h6 4
        have g5 := cell_of_block h6 5
        simp [results, Try.results24, go_sem, g0, g1, g2, g3, g4, g5]
        rfl
      · refine ⟨?_, Or.inr ⟨8, HG.out, by decide, rfl⟩⟩
        with_reducible exact set6 (w.heap.size + 1) (Nat.le_succ _) HBL.out
    · have hex := ext_alloc W3 (.cells #[.slice (some ⟨D, 0, .none⟩) (r.max + 1) (r.max + 1)] 52 (0, 0))
      rw [← HM.out] at hex hdl ⊢
      have hR4 := heap_below hR3 hex
      have hX4 := heap_below hX3 hex
      have hD4 := heap_below hD hex
      have B4 := ext_trans B3 hex
      have hC4 := heap_new W3 (.cells #[.slice (some ⟨D, 0, .none⟩) (m + 1) (m + 1)] 52 (0, 0)) W3.heap.size rfl
      have p0 := cell_of_block hX4 0
      have p1 := cell_of_block hX4 1
      have p2 := cell_of_block hX4 2
      have p3 := cell_of_block hX4 3
      have p4 := cell_of_block hX4 4
      have p5 := cell_of_block hX4 5
      have p6 := cell_of_block hX4 6
      have HR := Lib.hid hR4
      have HX := Lib.hid hX4
      have HDD := Lib.hid hD4
      have HC := Lib.hid hC4
      have HBL := Lib.hid B4
      have HD := Lib.hid hd
      have HDL := Lib.hid hdl
      have HW3 := Lib.hid B3.size
      clear hR3 hX3 hD B3 hex hR4 hX4 hD4 B4 hC4 hd hdl
      go_wp2_with fail
      refine (HREF.out _ HBL.out HL.out).mono ?_
      rintro e W5 ⟨v, rfl, hrow, hb5⟩
      have hR5 := heap_below HR.out hb5
      have hX5 := heap_below HX.out hb5
      have hD5 := heap_below HDD.out hb5
      have hC5 := heap_below HC.out hb5
      have B5 := ext_trans HBL.out hb5
      clear p0 p1 p2 p3 p4 p5 p6 HR HX HBL hb5 HREF HDD HC
      obtain ⟨va, vc, rfl, _, hsee⟩ := Sees.owned hrow
      have hlen : (refsL r).length ≤ 140737488355328 := by
        have l2 : r.lats.length = n2 := HS.out.s2.1
        have l3 : r.outs.length = n3 := HS.out.s3.lenMap
        have l4 : r.bads.length = n4 := HS.out.s4.lenMap
        have l5 : r.cons.length = n5 := HS.out.s5.lenMap
        have e6 := flat_gate r.gates
        have f2 := HSM.out.n2; have f3 := HSM.out.n3; have f4 := HSM.out.n4; have f5 := HSM.out.n5; have f6 := HSM.out.n6
        have l6 := L6.out
        simp only at f2 f3 f4 f5 f6
        unfold refsL
        simp only [List.length_append, List.length_map]
        omega
      have HMS := Lib.hid (has_missing (missing d) W3.heap.size (refsL r) va _ vc hlen W5 hsee (fun x hx => missing_at x W3.heap.size D d (m + 1) W5 (by rw [HDL.out]; exact hC5) hD5 (by have := HL.out.refs x hx; rw [HDL.out, HM.out]; omega)))
      obtain ⟨q, hq⟩ : ∃ q, q = (refsL r).any (missing d) := ⟨_, rfl⟩
      rw [← hq] at HMS
      have HQ5 := Lib.hid hq
      obtain ⟨N, hN⟩ : ∃ N, N = (refsL r).length := ⟨_, rfl⟩
      rw [← hN] at HMS ⊢
      clear hN hq hlen hrow hsee hD5 hC5
      have HR := Lib.hid hR5
      have HX := Lib.hid hX5
      have HBL := Lib.hid B5
      clear hR5 hX5 B5
      go_wp2_with fail
      refine HMS.out.mono ?_
      rintro e W6 ⟨rfl, rfl⟩
      clear HMS
      cases q with
      | true =>
        have HG : Hid (ofS r = .error 7) := by show _ = _; unfold ofS; rw [if_neg (by rw [← HQ.out]; decide), HD.out]; simp only []; rw [if_pos HQ5.out.symm]
        have hR6 := HR.out
        have B6 := HBL.out
        clear HR HX HBL
        have z0 := cell_of_block hR6 0
        have z1 := cell_of_block hR6 1
        have z2 := cell_of_block hR6 2
        have z3 := cell_of_block hR6 3
        have z4 := cell_of_block hR6 4
        have z5 := cell_of_block hR6 5
        have y0 := unfrozen_of_block hR6 0
        have y1 := unfrozen_of_block hR6 1
        have y2 := unfrozen_of_block hR6 2
        have y3 := unfrozen_of_block hR6 3
        have y4 := unfrozen_of_block hR6 4
        have y5 := unfrozen_of_block hR6 5
        have HR := Lib.hid hR6
        have HBL := Lib.hid B6
        clear hR6 B6
        go_wp2
        refine bodyPost_ret (v := .tuple #[zeroCir, .int .i64 7]) ?_ rfl ?_
        · have h6 := cir_set HR.out rfl (.int .i64 0) (.slice none 0 0) (.slice none 0 0) (.slice none 0 0) (.slice none 0 0) (.slice none 0 0)
          have g0 := cell_of_block h6 0
          have g1 := cell_of_block h6 1
          have g2 := cell_of_block h6 2
          have g3 := cell_of_block h6 3
          have g4 := cell_of_block h6 4
          have g5 := cell_of_block h6 5
          simp [results, Try.results24, go_sem, g0, g1, g2, g3, g4, g5]
          rfl
        · refine ⟨?_, Or.inr ⟨7, HG.out, by decide, rfl⟩⟩
          with_reducible exact set6 (w.heap.size + 1) (Nat.le_succ _) HBL.out
      | false =>
        have hX6 := HX.out
        have p0 := cell_of_block hX6 0
        have p1 := cell_of_block hX6 1
        have p2 := cell_of_block hX6 2
        have p3 := cell_of_block hX6 3
        have p4 := cell_of_block hX6 4
        have p5 := cell_of_block hX6 5
        have p6 := cell_of_block hX6 6
        clear hX6
        go_wp2_with fail
        refine (HORD.out _ HBL.out HL.out (apart_of HL.out HD.out)).mono ?_
        rintro e W7 ⟨v, rfl, hown, hb7⟩
        have hR7 := heap_below HR.out hb7
        have hX7 := heap_below HX.out hb7
        have B7 := ext_trans HBL.out hb7
        have hlt5 : w.heap.size + 1 < W5.heap.size := heap_lt HR.out
        have HLT5 := Lib.hid hlt5
        clear p0 p1 p2 p3 p4 p5 p6 HR HX hb7 HORD hlt5
        obtain ⟨ga, gc, rfl, hsg⟩ := own3_sees hown
        obtain ⟨k6, hk6⟩ : ∃ k6, k6 = (inOrderS r.gates).length := ⟨_, rfl⟩
        rw [← hk6] at hsg ⊢
        have HOWN := Lib.hid hown
        have HSG := Lib.hid hsg
        have HK6 := Lib.hid hk6
        clear hown hsg hk6 HBL
        by_cases hlt : k6 < n6
        · have HG : Hid (ofS r = .error 9) := by
            show _ = _; unfold ofS; rw [if_neg (by rw [← HQ.out]; decide), HD.out]; simp only []
            rw [if_neg (by rw [← HQ5.out]; decide), if_pos (by rw [← HK6.out, L6.out]; exact hlt)]
          have p6 := cell_of_block hX7 6
          have z0 := cell_of_block hR7 0
          have z1 := cell_of_block hR7 1
          have z2 := cell_of_block hR7 2
          have z3 := cell_of_block hR7 3
          have z4 := cell_of_block hR7 4
          have z5 := cell_of_block hR7 5
          have y0 := unfrozen_of_block hR7 0
          have y1 := unfrozen_of_block hR7 1
          have y2 := unfrozen_of_block hR7 2
          have y3 := unfrozen_of_block hR7 3
          have y4 := unfrozen_of_block hR7 4
          have y5 := unfrozen_of_block hR7 5
          have HR := Lib.hid hR7
          have HBL := Lib.hid B7
          clear hR7 B7 hX7
          go_wp2
          refine bodyPost_ret (v := .tuple #[zeroCir, .int .i64 9]) ?_ rfl ?_
          · have h6 := cir_set HR.out rfl (.int .i64 0) (.slice none 0 0) (.slice none 0 0) (.slice none 0 0) (.slice none 0 0) (.slice none 0 0)
            have g0 := cell_of_block h6 0
            have g1 := cell_of_block h6 1
            have g2 := cell_of_block h6 2
            have g3 := cell_of_block h6 3
            have g4 := cell_of_block h6 4
            have g5 := cell_of_block h6 5
            simp [results, Try.results24, go_sem, g0, g1, g2, g3, g4, g5]
            rfl
          · refine ⟨?_, Or.inr ⟨9, HG.out, by decide, rfl⟩⟩
            with_reducible exact set6 (w.heap.size + 1) (Nat.le_succ _) HBL.out
        · have HG : Hid (ofS r = .ok (renumS { r with gates := inOrderS r.gates })) := by
            show _ = _; unfold ofS; rw [if_neg (by rw [← HQ.out]; decide), HD.out]; simp only []
            rw [if_neg (by rw [← HQ5.out]; decide), if_neg (by rw [← HK6.out, L6.out]; exact hlt)]
          have p6 := cell_of_block hX7 6
          have y6 := unfrozen_of_block hX7 6
          have hX8 := block_setCell hX7 (i := 6) (.slice ga k6 gc)
          have q0 := cell_of_block hX8 0
          have q1 := cell_of_block hX8 1
          have q2 := cell_of_block hX8 2
          have q3 := cell_of_block hX8 3
          have q4 := cell_of_block hX8 4
          have q5 := cell_of_block hX8 5
          have q6 := cell_of_block hX8 6
          have hR8 : (W7.setCell ⟨w.heap.size, 6, .none⟩ (.slice ga k6 gc)).heap[w.heap.size + 1]? = _ := (Below.heap_setCell _ ⟨w.heap.size, 6, .none⟩ _ (w.heap.size + 1) (show w.heap.size + 1 ≠ w.heap.size from by omega)).trans hR7
          have B8 := B7.setCell (p := ⟨w.heap.size, 6, .none⟩) (Nat.le_refl _) (.slice ga k6 gc)
          have HB7 := Lib.hid B7
          have HB8 := Lib.hid B8
          have HR8 := Lib.hid hR8
          clear hX7 hX8 hR7 hR8 B7 B8
          go_wp2_with fail
          obtain ⟨W8, hW8⟩ : ∃ W8, W8 = W7.setCell ⟨w.heap.size, 6, .none⟩ (.slice ga k6 gc) := ⟨_, rfl⟩
          rw [← hW8] at HB8 HR8 ⊢
          have hgo := owns_other HOWN.out (w' := W8) (fun k hk => by rw [hW8]; exact Below.heap_setCell _ ⟨w.heap.size, 6, .none⟩ _ k (show k ≠ w.heap.size from by have := (HOWN.out.lt k hk).1; have := HLT5.out; omega))
          obtain ⟨a', c', ev, hsg8⟩ := own3_sees (T := 59) (base := W5.heap.size) hgo
          cases ev
          rw [← HK6.out] at hsg8
          have hsr := HS.out.below HB8.out
          have hlen := (orderF_mem r.gates r.gates.length []).1
          have hmem := (orderF_mem r.gates r.gates.length []).2
          have hsm := HSM.out
          have HREN : Calls Try.prog 62 #[rawV m ⟨a1, n1, c1, a2, n2, c2, a3, n3, c3, a4, n4, c4, a5, n5, c5, ga, k6, gc⟩] W8 (RenPost { r with gates := inOrderS r.gates } W8) := by
            rw [HM.out]
            exact ren_any { r with gates := inOrderS r.gates } ⟨a1, n1, c1, a2, n2, c2, a3, n3, c3, a4, n4, c4, a5, n5, c5, ga, k6, gc⟩ W8 ⟨hsr.s1, hsr.s2, hsr.s3, hsr.s4, hsr.s5, hsg8⟩ ⟨hsm.n1, hsm.n2, hsm.n3, hsm.n4, hsm.n5, by have h1 := hsm.n6; have h2 := HK6.out; have h3 := L6.out; unfold inOrderS at h2; simp only at h1 ⊢; omega⟩ HL.out.max (own_sub hmem HL.out.owns) (ref_sub hmem HL.out.refs) HL.out.reset
          refine HREN.mono ?_
          rintro e W9 ⟨⟨b1, k1, d1, b2, k2, d2, b3, k3, d3, b4, k4, d4, b5, k5, d5⟩, rfl, hoc, hb9⟩
          have hRw := heap_below HR8.out hb9
          have HLT8 := Lib.hid (heap_lt HR8.out)
          have HBW := Lib.hid (ext_trans HB8.out hb9)
          have HOC := Lib.hid hoc
          have z0 := cell_of_block hRw 0
          have z1 := cell_of_block hRw 1
          have z2 := cell_of_block hRw 2
          have z3 := cell_of_block hRw 3
          have z4 := cell_of_block hRw 4
          have z5 := cell_of_block hRw 5
          have y0 := unfrozen_of_block hRw 0
          have y1 := unfrozen_of_block hRw 1
          have y2 := unfrozen_of_block hRw 2
          have y3 := unfrozen_of_block hRw 3
          have y4 := unfrozen_of_block hRw 4
          have y5 := unfrozen_of_block hRw 5
          have HRR := Lib.hid hRw
          clear hW8 HREN hgo hsg8 hsr hlen hmem hsm hoc hb9 hRw
          unfold cirV
          go_wp2
          refine bodyPost_ret (v := .tuple #[cirV r.ins.length ⟨b1, k1, d1, b2, k2, d2, b3, k3, d3, b4, k4, d4, b5, k5, d5⟩, .int .i64 0]) ?_ rfl ?_
          · have h6 := cir_set HRR.out rfl (.int .i64 r.ins.length) (.slice b1 k1 d1) (.slice b2 k2 d2) (.slice b3 k3 d3) (.slice b4 k4 d4) (.slice b5 k5 d5)
            have g0 := cell_of_block h6 0
            have g1 := cell_of_block h6 1
            have g2 := cell_of_block h6 2
            have g3 := cell_of_block h6 3
            have g4 := cell_of_block h6 4
            have g5 := cell_of_block h6 5
            simp [results, Try.results24, go_sem, g0, g1, g2, g3, g4, g5]
            rfl
          · refine ⟨?_, Or.inl ⟨_, ⟨b1, k1, d1, b2, k2, d2, b3, k3, d3, b4, k4, d4, b5, k5, d5⟩, HG.out, rfl, ?_⟩⟩
            · with_reducible exact set6 (w.heap.size + 1) (Nat.le_succ _) HBW.out
            · have h0 := HLT8.out
              exact cir_set6 HOC.out (by omega) (by omega)
end Go.Proofs.Ytkbdebdhebphpaa
