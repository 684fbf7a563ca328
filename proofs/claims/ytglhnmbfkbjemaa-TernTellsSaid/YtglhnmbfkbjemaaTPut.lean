/- tern.put, With, Not, And, Within, by their contracts. -/
import Derived.Test.YtglhnmbfkbjemaaTAt
namespace Go.Proofs.Ytglhnmbfkbjemaa
open Go Go.RowKit Go.Joins

theorem tset {w w1 : World} (hb : Below w.heap.size w w1) {g : Nat} (hg : w.heap.size ≤ g) (u0 u1 : Value) : Below w.heap.size w ((w1.setCell ⟨g, 0, none⟩ u0).setCell ⟨g, 1, none⟩ u1) :=
  (hb.setCell (p := ⟨g, 0, none⟩) hg u0).setCell (p := ⟨g, 1, none⟩) hg u1
/-- Two blocks made. -/
theorem tmade2 {w W : World} {A B : Obj} (h : (w.alloc A).alloc B = W) : W.heap[w.heap.size]? = some A ∧ W.heap[w.heap.size + 1]? = some B ∧ Below w.heap.size w W := by
  subst h
  exact ⟨heap_alloc2_old _ _ _, heap_alloc2_new _ _ _, text_trans (text_alloc _ _) (text_alloc _ _)⟩
/-- Three blocks made. -/
theorem tmade3 {w W : World} {A B C : Obj} (h : ((w.alloc A).alloc B).alloc C = W) : W.heap[w.heap.size]? = some A ∧ W.heap[w.heap.size + 1]? = some B ∧ W.heap[w.heap.size + 2]? = some C ∧ Below w.heap.size w W := by
  obtain ⟨h1, h2, h3⟩ := tmade2 (w := w) (A := A) (B := B) rfl
  subst h
  have hs : ((w.alloc A).alloc B).heap.size = w.heap.size + 2 := by simp
  refine ⟨theap_below h1 (text_alloc _ _), theap_below h2 (text_alloc _ _), ?_, text_trans h3 (text_alloc _ _)⟩
  have := theap_new ((w.alloc A).alloc B) C
  rw [hs] at this
  exact this
theorem zeros_flat (w : World) : Calls Try.prog 27 #[] w fun e w' => e = .returned (.agg #[.int .u64 18446744073709551615, .int .u64 0]) ∧ Below w.heap.size w w' := zeros_any w

set_option maxRecDepth 100000 in
theorem tnot_any (a : W2) (ha : a.in) (w : World) : Calls Try.prog 16 #[wv a] w fun e w' => e = .returned (wv (notW a)) ∧ Below w.heap.size w w' := by
  have HM := Lib.hid (may_any a ha)
  have HZ := Lib.hid zeros_flat
  obtain ⟨z, o⟩ := a
  unfold wv at HM
  have HV : Hid (notW (z, o) = if mayW (z, o) = true then (o, z) else zeroW) := rfl
  obtain ⟨m, hm⟩ : ∃ m, m = mayW (z, o) := ⟨_, rfl⟩
  rw [← hm] at HM HV
  clear hm
  obtain ⟨v, hv⟩ : ∃ v, v = notW (z, o) := ⟨_, rfl⟩
  rw [← hv] at HV ⊢
  clear hv
  obtain ⟨V, hVv⟩ : ∃ V, V = wv v := ⟨_, rfl⟩
  rw [← hVv]
  have HVV := Lib.hid hVv
  clear hVv ha
  show Calls Try.prog 16 #[.agg #[.int .u64 (z : Int), .int .u64 (o : Int)]] w _
  go_enter Try.func16, Try.ntmps16
  go_wp2_with fail
  refine (HM.out _).mono ?_
  generalize hW : World.alloc _ _ = W
  rintro e w1 ⟨rfl, hb1⟩
  have hW0 := tmade2 hW
  clear hW
  have h0 := theap_below hW0.1 hb1
  have h1 := theap_below hW0.2.1 hb1
  have hB := Lib.hid (text_trans hW0.2.2 hb1)
  clear hW0 hb1 HM
  have hc0 := cell_of_block h0 0
  have hc1 := cell_of_block h0 1
  have H1 := Lib.hid h1
  clear h0 h1
  cases m with
  | true =>
    clear HZ
    have f0 := unfrozen_of_block H1.out 0
    have f1 := unfrozen_of_block H1.out 1
    have d0 := cell_of_block H1.out 0
    have d1 := cell_of_block H1.out 1
    go_wp2
    refine bodyPost_ret (v := wv (o, z)) ?_ rfl ?_
    · have h6 := tcell2 H1.out rfl (.int .u64 (o : Int)) (.int .u64 (z : Int))
      simp [results, Try.results16, go_sem, cell_of_block h6 0, cell_of_block h6 1]
      rfl
    · exact ⟨by rw [HVV.out, HV.out]; rfl, tset hB.out (by omega) _ _⟩
  | false =>
    go_wp2_with fail
    refine (HZ.out _).mono ?_
    rintro e w2 ⟨rfl, hb2⟩
    have h2 := theap_below H1.out hb2
    have hB2 := Lib.hid (text_trans hB.out hb2)
    clear hc0 hc1 HZ
    have f0 := unfrozen_of_block h2 0
    have f1 := unfrozen_of_block h2 1
    have d0 := cell_of_block h2 0
    have d1 := cell_of_block h2 1
    have H2 := Lib.hid h2
    clear h2 hb2 H1 hB
    go_wp2
    refine bodyPost_ret (v := wv zeroW) ?_ rfl ?_
    · have h6 := tcell2 H2.out rfl (.int .u64 18446744073709551615) (.int .u64 0)
      simp [results, Try.results16, go_sem, cell_of_block h6 0, cell_of_block h6 1]
      rfl
    · exact ⟨by rw [HVV.out, HV.out]; rfl, tset hB2.out (by omega) _ _⟩

set_option maxRecDepth 100000 in
theorem tand_any (a b : W2) (ha : a.in) (hb : b.in) (w : World) : Calls Try.prog 18 #[wv a, wv b] w fun e w' => e = .returned (wv (andW a b)) ∧ Below w.heap.size w w' := by
  have HM := Lib.hid (may_any a ha)
  have HN := Lib.hid (may_any b hb)
  have HZ := Lib.hid zeros_flat
  obtain ⟨z, o⟩ := a
  obtain ⟨y, u⟩ := b
  unfold wv at HM HN
  have HV : Hid (andW (z, o) (y, u) = if mayW (z, o) = true ∧ mayW (y, u) = true then (z ||| y, o &&& u) else zeroW) := rfl
  have Q1 := or64 ha.1 hb.1
  have Q2 := and64 ha.2 hb.2
  obtain ⟨m, hm⟩ : ∃ m, m = mayW (z, o) := ⟨_, rfl⟩
  obtain ⟨n, hn⟩ : ∃ n, n = mayW (y, u) := ⟨_, rfl⟩
  obtain ⟨x1, hx1⟩ : ∃ x, x = z ||| y := ⟨_, rfl⟩
  obtain ⟨x2, hx2⟩ : ∃ x, x = o &&& u := ⟨_, rfl⟩
  simp only at Q1 Q2
  rw [← hm] at HM HV
  rw [← hn] at HN HV
  rw [← hx1] at Q1 HV
  rw [← hx2] at Q2 HV
  clear hm hn hx1 hx2
  obtain ⟨v, hv⟩ : ∃ v, v = andW (z, o) (y, u) := ⟨_, rfl⟩
  rw [← hv] at HV ⊢
  clear hv
  obtain ⟨V, hVv⟩ : ∃ V, V = wv v := ⟨_, rfl⟩
  rw [← hVv]
  have HVV := Lib.hid hVv
  clear hVv ha hb
  show Calls Try.prog 18 #[.agg #[.int .u64 (z : Int), .int .u64 (o : Int)], .agg #[.int .u64 (y : Int), .int .u64 (u : Int)]] w _
  go_enter Try.func18, Try.ntmps18
  go_wp2_with fail
  refine (HM.out _).mono ?_
  generalize hW : World.alloc _ _ = W
  rintro e w1 ⟨rfl, hb1⟩
  have hW0 := tmade3 hW
  clear hW
  have h0 := theap_below hW0.1 hb1
  have h1 := theap_below hW0.2.1 hb1
  have h2 := theap_below hW0.2.2.1 hb1
  have hB := Lib.hid (text_trans hW0.2.2.2 hb1)
  clear hW0 hb1 HM
  have H0 := Lib.hid h0
  have H1 := Lib.hid h1
  have H2 := Lib.hid h2
  have b0 := cell_of_block h1 0
  have b1 := cell_of_block h1 1
  clear h0 h1 h2
  cases m with
  | false =>
    clear HN
    go_wp2_with fail
    refine (HZ.out _).mono ?_
    rintro e w2 ⟨rfl, hb2⟩
    have h2 := theap_below H2.out hb2
    have hB2 := Lib.hid (text_trans hB.out hb2)
    clear b0 b1 HZ
    have f0 := unfrozen_of_block h2 0
    have f1 := unfrozen_of_block h2 1
    have d0 := cell_of_block h2 0
    have d1 := cell_of_block h2 1
    have HH := Lib.hid h2
    clear h2 hb2 H0 H1 H2 hB
    go_wp2
    refine bodyPost_ret (v := wv zeroW) ?_ rfl ?_
    · have h6 := tcell2 HH.out rfl (.int .u64 18446744073709551615) (.int .u64 0)
      simp [results, Try.results18, go_sem, cell_of_block h6 0, cell_of_block h6 1]
      rfl
    · exact ⟨by rw [HVV.out, HV.out]; rfl, tset hB2.out (by omega) _ _⟩
  | true =>
    go_wp2_with fail
    refine (HN.out _).mono ?_
    rintro e w2 ⟨rfl, hb2⟩
    have h0 := theap_below H0.out hb2
    have h1 := theap_below H1.out hb2
    have h2 := theap_below H2.out hb2
    have hB2 := Lib.hid (text_trans hB.out hb2)
    clear H0 H1 H2 hB hb2 b0 b1 HN
    have H2 := Lib.hid h2
    cases n with
    | false =>
      go_wp2_with fail
      refine (HZ.out _).mono ?_
      rintro e w3 ⟨rfl, hb3⟩
      have h3 := theap_below H2.out hb3
      have hB3 := Lib.hid (text_trans hB2.out hb3)
      clear HZ h0 h1 h2
      have f0 := unfrozen_of_block h3 0
      have f1 := unfrozen_of_block h3 1
      have d0 := cell_of_block h3 0
      have d1 := cell_of_block h3 1
      have HH := Lib.hid h3
      clear h3 hb3 hB2
      go_wp2
      refine bodyPost_ret (v := wv zeroW) ?_ rfl ?_
      · have h6 := tcell2 HH.out rfl (.int .u64 18446744073709551615) (.int .u64 0)
        simp [results, Try.results18, go_sem, cell_of_block h6 0, cell_of_block h6 1]
        rfl
      · exact ⟨by rw [HVV.out, HV.out]; rfl, tset hB3.out (by omega) _ _⟩
    | true =>
      clear HZ
      have f0 := unfrozen_of_block h2 0
      have f1 := unfrozen_of_block h2 1
      have d0 := cell_of_block h2 0
      have d1 := cell_of_block h2 1
      have a0 := cell_of_block h0 0
      have a1 := cell_of_block h0 1
      have b0 := cell_of_block h1 0
      have b1 := cell_of_block h1 1
      clear h0 h1 h2
      go_wp2
      refine bodyPost_ret (v := wv (x1, x2)) ?_ rfl ?_
      · have h6 := tcell2 H2.out rfl (.int .u64 (x1 : Int)) (.int .u64 (x2 : Int))
        simp [results, Try.results18, go_sem, cell_of_block h6 0, cell_of_block h6 1]
        rfl
      · exact ⟨by rw [HVV.out, HV.out]; rfl, tset hB2.out (by omega) _ _⟩
end Go.Proofs.Ytglhnmbfkbjemaa
