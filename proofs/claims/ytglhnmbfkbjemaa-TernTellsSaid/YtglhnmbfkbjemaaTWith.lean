/- tern.Within, put, With, by their contracts. -/
import Derived.Test.YtglhnmbfkbjemaaTPut
import Derived.BigRegion
import Derived.Deep.CutRange
namespace Go.Proofs.Ytglhnmbfkbjemaa
open Go Go.RowKit Go.Joins

set_option maxRecDepth 100000 in
theorem twithin_any (a b : W2) (ha : a.in) (hb : b.in) (w : World) : Calls Try.prog 20 #[wv a, wv b] w fun e w' => e = .returned (.int .u64 (withinW a b : Nat)) ∧ Below w.heap.size w w' := by
  have HM := Lib.hid (may_any a ha)
  have HN := Lib.hid (may_any b hb)
  obtain ⟨z, o⟩ := a
  obtain ⟨y, u⟩ := b
  unfold wv at HM HN
  have HV : Hid (withinW (z, o) (y, u) = if mayW (z, o) = true ∧ mayW (y, u) = true then full &&& (full - ((z &&& (full - y)) ||| (o &&& (full - u)))) else 0) := rfl
  have Q1 := andNot64 ha.1 hb.1
  have Q2 := andNot64 ha.2 hb.2
  simp only at Q1 Q2
  have l1 : z &&& (full - y) < 18446744073709551616 := and_lt ha.1
  have l2 : o &&& (full - u) < 18446744073709551616 := and_lt ha.2
  obtain ⟨m, hm⟩ : ∃ m, m = mayW (z, o) := ⟨_, rfl⟩
  obtain ⟨n, hn⟩ : ∃ n, n = mayW (y, u) := ⟨_, rfl⟩
  obtain ⟨x1, hx1⟩ : ∃ x, x = z &&& (full - y) := ⟨_, rfl⟩
  obtain ⟨x2, hx2⟩ : ∃ x, x = o &&& (full - u) := ⟨_, rfl⟩
  rw [← hm] at HM HV
  rw [← hn] at HN HV
  rw [← hx1] at Q1 HV l1
  rw [← hx2] at Q2 HV l2
  clear hm hn hx1 hx2
  have Q3 := or64 l1 l2
  have l3 := or_lt l1 l2
  obtain ⟨x3, hx3⟩ : ∃ x, x = x1 ||| x2 := ⟨_, rfl⟩
  rw [← hx3] at Q3 HV l3
  have Q4 : bits .andNot .u64 18446744073709551615 (x3 : Int) = ((full &&& (full - x3) : Nat) : Int) := andNot64 (a := full) (by unfold full; omega) l3
  obtain ⟨x4, hx4⟩ : ∃ x, x = full &&& (full - x3) := ⟨_, rfl⟩
  rw [← hx4] at Q4 HV
  clear hx3 hx4 l1 l2 l3
  obtain ⟨v, hv⟩ : ∃ v, v = withinW (z, o) (y, u) := ⟨_, rfl⟩
  rw [← hv] at HV ⊢
  clear hv ha hb
  show Calls Try.prog 20 #[.agg #[.int .u64 (z : Int), .int .u64 (o : Int)], .agg #[.int .u64 (y : Int), .int .u64 (u : Int)]] w _
  go_enter Try.func20, Try.ntmps20
  go_wp2_with fail
  refine (HM.out _).mono ?_
  generalize hW : World.alloc _ _ = W
  rintro e w1 ⟨rfl, hb1⟩
  have hW0 := tmade2 hW
  clear hW
  have h0 := theap_below hW0.1 hb1
  have h1 := theap_below hW0.2.1 hb1
  have hB := Lib.hid (text_trans hW0.2.2 hb1)
  clear hW0 hb1 HM
  have H0 := Lib.hid h0
  have H1 := Lib.hid h1
  have b0 := cell_of_block h1 0
  have b1 := cell_of_block h1 1
  clear h0 h1
  cases m with
  | false =>
    clear HN
    go_wp2
    go_ret
    exact ⟨by rw [HV.out]; rfl, hB.out⟩
  | true =>
    go_wp2_with fail
    refine (HN.out _).mono ?_
    rintro e w2 ⟨rfl, hb2⟩
    have h0 := theap_below H0.out hb2
    have h1 := theap_below H1.out hb2
    have hB2 := Lib.hid (text_trans hB.out hb2)
    clear H0 H1 hB hb2 b0 b1 HN
    have a0 := cell_of_block h0 0
    have a1 := cell_of_block h0 1
    have b0 := cell_of_block h1 0
    have b1 := cell_of_block h1 1
    clear h0 h1
    cases n with
    | false =>
      go_wp2
      go_ret
      exact ⟨by rw [HV.out]; rfl, hB2.out⟩
    | true =>
      go_wp2
      go_ret
      exact ⟨by rw [HV.out]; rfl, hB2.out⟩

theorem tnewD (X : World) (o : Obj) : (X.alloc o).drew.heap[X.heap.size]? = some o := theap_new X o
set_option maxRecDepth 100000 in
theorem put_any (a : W2) (ha : a.in) (k v : Nat) (hk : k < 64) (w : World) : Calls Try.prog 28 #[wv a, .int .i64 (k : Int), .int .u8 (v : Int)] w fun e w' => e = .returned (wv (putW a k v)) ∧ Below w.heap.size w w' := by
  have HM := Lib.hid (bits_any v)
  obtain ⟨z, o⟩ := a
  unfold wv at HM
  have P1 := wrap_pow hk
  have hp := pow_lt hk
  have HV : Hid (putW (z, o) k v = ((z &&& (full - 2 ^ k)) ||| (bz v).toNat * 2 ^ k, (o &&& (full - 2 ^ k)) ||| (bo v).toNat * 2 ^ k)) := rfl
  have sh : ∀ b : Bool, IntKind.u64.wrap (((b.toNat : Nat) : Int) * (2 : Int) ^ k) = ((b.toNat * 2 ^ k : Nat) : Int) := by
    intro b
    cases b
    · simp only [Bool.toNat_false, Int.natCast_zero, Int.zero_mul, Nat.zero_mul]; rfl
    · simp only [Bool.toNat_true, Nat.one_mul]
      rw [show ((1 : Nat) : Int) * (2 : Int) ^ k = (2 : Int) ^ k by omega]
      exact P1
  have S1 := sh (bz v)
  have S2 := sh (bo v)
  have k1 := oneb_lt (bz v) hk
  have k2 := oneb_lt (bo v) hk
  clear sh
  have Q1 := andNot64 ha.1 hp
  have Q2 := andNot64 ha.2 hp
  simp only at Q1 Q2
  have l1 : z &&& (full - 2 ^ k) < 18446744073709551616 := and_lt ha.1
  have l2 : o &&& (full - 2 ^ k) < 18446744073709551616 := and_lt ha.2
  obtain ⟨x1, hx1⟩ : ∃ x, x = z &&& (full - 2 ^ k) := ⟨_, rfl⟩
  obtain ⟨x2, hx2⟩ : ∃ x, x = o &&& (full - 2 ^ k) := ⟨_, rfl⟩
  obtain ⟨y1, hy1⟩ : ∃ x, x = (bz v).toNat * 2 ^ k := ⟨_, rfl⟩
  obtain ⟨y2, hy2⟩ : ∃ x, x = (bo v).toNat * 2 ^ k := ⟨_, rfl⟩
  rw [← hx1] at Q1 HV l1
  rw [← hx2] at Q2 HV l2
  rw [← hy1] at S1 HV k1
  rw [← hy2] at S2 HV k2
  have Q3 := or64 l1 k1
  have Q4 := or64 l2 k2
  obtain ⟨r1, hr1⟩ : ∃ x, x = x1 ||| y1 := ⟨_, rfl⟩
  obtain ⟨r2, hr2⟩ : ∃ x, x = x2 ||| y2 := ⟨_, rfl⟩
  rw [← hr1] at Q3 HV
  rw [← hr2] at Q4 HV
  obtain ⟨p, hp2⟩ : ∃ p : Nat, p = 2 ^ k := ⟨_, rfl⟩
  rw [← hp2] at P1 Q1 Q2
  clear hp2 hr1 hr2 hx1 hx2 hy1 hy2 l1 l2 k1 k2 ha hp
  obtain ⟨V, hVv⟩ : ∃ V, V = wv (putW (z, o) k v) := ⟨_, rfl⟩
  rw [← hVv]
  have HVV := Lib.hid hVv
  clear hVv
  obtain ⟨n1, hn1⟩ : ∃ x : Nat, x = (bz v).toNat := ⟨_, rfl⟩
  obtain ⟨n2, hn2⟩ : ∃ x : Nat, x = (bo v).toNat := ⟨_, rfl⟩
  rw [← hn1] at S1
  rw [← hn2] at S2
  rw [← hn1, ← hn2] at HM
  clear hn1 hn2
  show Calls Try.prog 28 #[.agg #[.int .u64 (z : Int), .int .u64 (o : Int)], .int .i64 (k : Int), .int .u8 (v : Int)] w _
  go_enter Try.func28, Try.ntmps28
  go_wp2_with fail
  generalize hW : World.alloc _ _ = W
  have hW0 := tmade2 hW
  clear hW
  have HW0 := Lib.hid hW0.1
  have HW1 := Lib.hid hW0.2.1
  have HWB := Lib.hid hW0.2.2
  clear hW0
  go_cut [7, 8] from 9 (fun at1 bp wx => ∃ G : Nat, at1 = .int .u64 (p : Int) ∧ bp = .pointer (some ⟨G, 0, none⟩) ∧ Hid (wx.heap[G]? = some (.cells #[.int .u64 (n1 : Int), .int .u64 (n2 : Int)] 24 (0, 0))) ∧ Hid (W.heap.size ≤ G) ∧ Hid (Below W.heap.size W wx))
  case first =>
    go_region_with (go_at_call 30; refine (HM.out _).mono ?_; rintro e w1 ⟨rfl, hb1⟩; try (have hz := theap_below (tnewD W (.cells #[.int .u64 0, .int .u64 0] 24)) hb1; have z0 := cell_of_block hz 0; have z1 := cell_of_block hz 1; have y0 := unfrozen_of_block hz 0; have y1 := unfrozen_of_block hz 1))
    all_goals go_wp2_with fail
    all_goals go_meet
    · have hb := ((Below.refl _ W).drew).trans hb1
      exact ⟨w1.heap.size, rfl, rfl, theap_new _ _, hb.size, text_trans hb (text_alloc _ _)⟩
    · have hb := (((Below.refl _ W).alloc (Nat.le_refl _) (.cells #[.int .u64 0, .int .u64 0] 24)).drew).trans (hb1.mono (by simp))
      exact ⟨W.heap.size, rfl, rfl, tcell2 hz rfl _ _, Nat.le_refl _, tset hb (Nat.le_refl _) _ _⟩
  case rest =>
    obtain ⟨G, rfl, rfl, hG, hGs, hGB⟩ := hcut
    have h0 := theap_below HW0.out hGB.out
    have h1 := theap_below HW1.out hGB.out
    have a0 := cell_of_block h0 0
    have a1 := cell_of_block h0 1
    have H1 := Lib.hid h1
    have f0 := unfrozen_of_block h1 0
    have f1 := unfrozen_of_block h1 1
    have d0 := cell_of_block h1 0
    have d1 := cell_of_block h1 1
    have g0 := cell_of_block hG.out 0
    have g1 := cell_of_block hG.out 1
    have HB := Lib.hid (text_trans HWB.out hGB.out)
    clear h0 h1 hG hGs hGB HM HW0 HW1 HWB
    go_wp2_with fail
    go_region
    go_wp2
    refine bodyPost_ret (v := wv (r1, r2)) ?_ rfl ?_
    · have h6 := tcell2 H1.out rfl (.int .u64 (r1 : Int)) (.int .u64 (r2 : Int))
      simp [results, Try.results28, go_sem, cell_of_block h6 0, cell_of_block h6 1]
      rfl
    · exact ⟨by rw [HVV.out, HV.out], (tset HB.out (by omega) _ _).drew⟩
end Go.Proofs.Ytglhnmbfkbjemaa
