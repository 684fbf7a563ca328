/- tern.With, All, Of, by their contracts. -/
import Derived.Test.YtglhnmbfkbjemaaTWith
namespace Go.Proofs.Ytglhnmbfkbjemaa
open Go Go.RowKit Go.Joins

theorem tset_other {X : World} {g d : Nat} {o : Obj} (h : X.heap[d]? = some o) (hne : g ≠ d) (u0 u1 : Value) : ((X.setCell ⟨g, 0, none⟩ u0).setCell ⟨g, 1, none⟩ u1).heap[d]? = some o :=
  (Below.heap_setCell _ ⟨g, 1, none⟩ u1 d (fun e => hne (by simpa using e.symm))).trans ((Below.heap_setCell _ ⟨g, 0, none⟩ u0 d (fun e => hne (by simpa using e.symm))).trans h)
/-- What With answers. -/
def withR (a : W2) (i : Int) (v : Nat) : W2 × Int := if mayW a = true ∧ (0 ≤ i ∧ i < 64) ∧ v ≤ 2 then (putW a i.toNat v, 0) else ((0, 0), 2)
theorem withR_yes {a : W2} {k v : Nat} (hm : mayW a = true) (hk : k < 64) (hv : v ≤ 2) : withR a (k : Int) v = (putW a k v, 0) := by
  unfold withR; rw [if_pos ⟨hm, by omega, hv⟩]; rfl
theorem withR_no {a : W2} {i : Int} {v : Nat} (h : ¬ (mayW a = true ∧ (0 ≤ i ∧ i < 64) ∧ v ≤ 2)) : withR a i v = ((0, 0), 2) := by
  unfold withR; rw [if_neg h]
def w2E (r : W2 × Int) : Ending := .returned (.tuple #[wv r.1, .int .i64 r.2])

set_option maxRecDepth 100000 in
theorem twith_any (a : W2) (ha : a.in) (i : Int) (v : Nat) (w : World) : Calls Try.prog 14 #[wv a, .int .i64 i, .int .u8 (v : Int)] w fun e w' => e = w2E (withR a i v) ∧ Below w.heap.size w w' := by
  have HM := Lib.hid (may_any a ha)
  have HI := Lib.hid (index_any i)
  have HP := Lib.hid (fun (k : Nat) (hk : k < 64) => put_any a ha k v hk)
  obtain ⟨E, hE⟩ : ∃ E, E = w2E (withR a i v) := ⟨_, rfl⟩
  have HNO : Hid (¬ (mayW a = true ∧ (0 ≤ i ∧ i < 64) ∧ v ≤ 2) → E = .returned (.tuple #[.agg #[.int .u64 0, .int .u64 0], .int .i64 2])) := by
    intro h; rw [hE, withR_no h]; rfl
  have HYES : Hid (∀ k : Nat, mayW a = true → k < 64 → v ≤ 2 → i = (k : Int) → E = .returned (.tuple #[wv (putW a k v), .int .i64 0])) := by
    intro k hm hk hv hi; subst hi; rw [hE, withR_yes hm hk hv]; rfl
  rw [← hE]
  clear hE
  obtain ⟨z, o⟩ := a
  have hwv : wv (z, o) = .agg #[.int .u64 (z : Int), .int .u64 (o : Int)] := rfl
  rw [hwv] at HM HP ⊢
  clear hwv
  obtain ⟨m, hm⟩ : ∃ m, m = mayW (z, o) := ⟨_, rfl⟩
  rw [← hm] at HM HNO HYES
  clear hm
  obtain ⟨q, hq⟩ : ∃ q, q = (decide (0 ≤ i) && decide (i < 64)) := ⟨_, rfl⟩
  rw [← hq] at HI
  have HQ := Lib.hid hq
  clear hq ha
  go_enter Try.func14, Try.ntmps14
  go_wp2_with fail
  refine (HM.out _).mono ?_
  generalize hW : World.alloc _ _ = W
  rintro e w1 ⟨rfl, hb1⟩
  have hW0 := tmade2 hW
  clear hW
  have h0 := theap_below hW0.1 hb1
  have h1 := theap_below hW0.2.1 hb1
  have hB := Lib.hid (text_trans hW0.2.2 hb1)
  clear hW0 hb1 HM
  have a0 := cell_of_block h0 0
  have a1 := cell_of_block h0 1
  have H1 := Lib.hid h1
  have f0 := unfrozen_of_block h1 0
  have f1 := unfrozen_of_block h1 1
  have d0 := cell_of_block h1 0
  have d1 := cell_of_block h1 1
  clear h0 h1
  cases m with
  | false =>
    clear HI HQ HP
    go_wp2
    refine bodyPost_ret (v := .tuple #[.agg #[.int .u64 0, .int .u64 0], .int .i64 2]) ?_ rfl ?_
    · have h6 := tcell2 H1.out rfl (.int .u64 0) (.int .u64 0)
      simp [results, Try.results14, go_sem, cell_of_block h6 0, cell_of_block h6 1]
    · exact ⟨(HNO.out (fun h => by cases h.1)).symm, tset hB.out (by omega) _ _⟩
  | true =>
    go_wp2_with fail
    refine (HI.out _).mono ?_
    rintro e w2 ⟨rfl, rfl⟩
    cases q with
    | false =>
      have hn : ¬ (0 ≤ i ∧ i < 64) := by
        have h := HQ.out
        intro h2
        simp [h2] at h
      have HN := Lib.hid hn
      clear HI HP hn HQ
      go_wp2
      refine bodyPost_ret (v := .tuple #[.agg #[.int .u64 0, .int .u64 0], .int .i64 2]) ?_ rfl ?_
      · have h6 := tcell2 H1.out rfl (.int .u64 0) (.int .u64 0)
        simp [results, Try.results14, go_sem, cell_of_block h6 0, cell_of_block h6 1]
      · exact ⟨(HNO.out (fun h => HN.out h.2.1)).symm, tset hB.out (by omega) _ _⟩
    | true =>
      have hi : 0 ≤ i ∧ i < 64 := by
        have h := HQ.out
        rw [eq_comm, Bool.and_eq_true, decide_eq_true_iff, decide_eq_true_iff] at h
        exact h
      obtain ⟨k, hk⟩ := Int.eq_ofNat_of_zero_le hi.1
      have hk6 : k < 64 := by omega
      have HK := Lib.hid hk6
      clear HI HQ
      subst hk
      by_cases hv : v ≤ 2
      · have e1 : decide ((2 : Int) < (v : Int)) = false := by simp; omega
        have HV := Lib.hid hv
        have HP2 := Lib.hid (HP.out k hk6)
        have HY := Lib.hid (HYES.out k (by trivial) hk6 hv (by trivial))
        obtain ⟨r, hr⟩ : ∃ r, r = putW (z, o) k v := ⟨_, rfl⟩
        rw [← hr] at HP2 HY
        obtain ⟨r1, r2⟩ := r
        have hwv : wv (r1, r2) = .agg #[.int .u64 (r1 : Int), .int .u64 (r2 : Int)] := rfl
        rw [hwv] at HP2 HY
        clear hr hwv hi hv HP hk6 HNO HYES
        go_wp2_with fail
        refine (HP2.out _).mono ?_
        rintro e w3 ⟨rfl, hb3⟩
        have h3 := theap_below H1.out hb3
        have hB3 := Lib.hid (text_trans hB.out hb3)
        clear a0 a1 d0 d1 f0 f1 hb3
        have f0 := unfrozen_of_block h3 0
        have f1 := unfrozen_of_block h3 1
        have d0 := cell_of_block h3 0
        have d1 := cell_of_block h3 1
        have H3 := Lib.hid h3
        clear h3 H1 hB
        go_wp2
        refine bodyPost_ret (v := .tuple #[.agg #[.int .u64 (r1 : Int), .int .u64 (r2 : Int)], .int .i64 0]) ?_ rfl ?_
        · have h6 := tcell2 H3.out rfl (.int .u64 (r1 : Int)) (.int .u64 (r2 : Int))
          simp [results, Try.results14, go_sem, cell_of_block h6 0, cell_of_block h6 1]
        · exact ⟨HY.out.symm, tset hB3.out (by omega) _ _⟩
      · have e1 : decide ((2 : Int) < (v : Int)) = true := by simp; omega
        have HV := Lib.hid hv
        clear hv HP hi HYES
        go_wp2
        refine bodyPost_ret (v := .tuple #[.agg #[.int .u64 0, .int .u64 0], .int .i64 2]) ?_ rfl ?_
        · have h6 := tcell2 H1.out rfl (.int .u64 0) (.int .u64 0)
          simp [results, Try.results14, go_sem, cell_of_block h6 0, cell_of_block h6 1]
        · exact ⟨(HNO.out (fun h => HV.out h.2.2)).symm, tset hB.out (by omega) _ _⟩

/-- What All answers. -/
def allR (v : Nat) : W2 × Int := if v ≤ 2 then (((bz v).toNat * full, (bo v).toNat * full), 0) else ((0, 0), 2)
theorem mul_full (b : Bool) : IntKind.u64.wrap (((b.toNat : Nat) : Int) * 18446744073709551615) = ((b.toNat * full : Nat) : Int) := by cases b <;> rfl

set_option maxRecDepth 100000 in
theorem tall_any (v : Nat) (w : World) : Calls Try.prog 8 #[.int .u8 (v : Int)] w fun e w' => e = w2E (allR v) ∧ Below w.heap.size w w' := by
  have HM := bits_any v
  obtain ⟨E, hE⟩ : ∃ E, E = w2E (allR v) := ⟨_, rfl⟩
  have HNO : Hid (¬ v ≤ 2 → E = .returned (.tuple #[.agg #[.int .u64 0, .int .u64 0], .int .i64 2])) := by
    intro h; rw [hE]; unfold allR; rw [if_neg h]; rfl
  have HYES : Hid (v ≤ 2 → E = .returned (.tuple #[.agg #[.int .u64 (((bz v).toNat * full : Nat) : Int), .int .u64 (((bo v).toNat * full : Nat) : Int)], .int .i64 0])) := by
    intro h; rw [hE]; unfold allR; rw [if_pos h]; rfl
  rw [← hE]
  clear hE
  unfold wv at HM
  have S1 := mul_full (bz v)
  have S2 := mul_full (bo v)
  obtain ⟨y1, hy1⟩ : ∃ x, x = (bz v).toNat * full := ⟨_, rfl⟩
  obtain ⟨y2, hy2⟩ : ∃ x, x = (bo v).toNat * full := ⟨_, rfl⟩
  rw [← hy1] at S1 HYES
  rw [← hy2] at S2 HYES
  clear hy1 hy2
  obtain ⟨n1, hn1⟩ : ∃ x : Nat, x = (bz v).toNat := ⟨_, rfl⟩
  obtain ⟨n2, hn2⟩ : ∃ x : Nat, x = (bo v).toNat := ⟨_, rfl⟩
  rw [← hn1] at S1
  rw [← hn2] at S2
  rw [← hn1, ← hn2] at HM
  clear hn1 hn2
  have HM2 := Lib.hid HM
  clear HM
  go_enter Try.func8, Try.ntmps8
  by_cases hv : v ≤ 2
  · have e1 : decide ((2 : Int) < (v : Int)) = false := by simp; omega
    have HY := Lib.hid (HYES.out hv)
    clear hv HNO HYES
    go_wp2_with fail
    refine (HM2.out _).mono ?_
    generalize hW : World.alloc _ _ = W
    rintro e w1 ⟨rfl, hb1⟩
    have h1 : W.heap[w.heap.size]? = some (.cells #[.int .u64 0, .int .u64 0] 24 (0, 0)) ∧ Below w.heap.size w W := by subst hW; exact ⟨theap_new _ _, text_alloc _ _⟩
    clear hW
    have h3 := theap_below h1.1 hb1
    have hB3 := Lib.hid (text_trans h1.2 hb1)
    clear hb1 h1 HM2
    have hw2 : Hid (∀ x y : Value, (w1.alloc (.cells #[x, y] 24)).heap[w.heap.size]? = some (.cells #[.int .u64 0, .int .u64 0] 24 (0, 0))) := fun x y => theap_below h3 (text_alloc _ _)
    have f0 := unfrozen_of_block h3 0
    have f1 := unfrozen_of_block h3 1
    have d0 := cell_of_block h3 0
    have d1 := cell_of_block h3 1
    have hlt : w.heap.size < w1.heap.size := (Array.getElem?_eq_some_iff.1 h3).1
    have hne : ¬ w.heap.size = w1.heap.size := by omega
    have hne2 : ¬ w1.heap.size = w.heap.size := by omega
    have H3 := Lib.hid h3
    clear h3
    go_wp2
    refine bodyPost_ret (v := .tuple #[.agg #[.int .u64 (y1 : Int), .int .u64 (y2 : Int)], .int .i64 0]) ?_ rfl ?_
    · have h6 := theap_below (tcell2 H3.out rfl (.int .u64 (y1 : Int)) (.int .u64 (y2 : Int))) (text_alloc _ (.cells #[.int .u64 (n1 : Int), .int .u64 (n2 : Int)] 24))
      simp [results, Try.results8, go_sem, cell_of_block h6 0, cell_of_block h6 1]
    · exact ⟨HY.out.symm, text_trans (tset hB3.out (Nat.le_refl _) _ _) (text_alloc _ _)⟩
  · have e1 : decide ((2 : Int) < (v : Int)) = true := by simp; omega
    have HV := Lib.hid hv
    clear hv HYES
    go_wp2
    refine bodyPost_ret (v := .tuple #[.agg #[.int .u64 0, .int .u64 0], .int .i64 2]) ?_ rfl ?_
    · simp [results, Try.results8, go_sem]
    · exact ⟨(HNO.out HV.out).symm, text_alloc _ _⟩

/-- The values of a list put one by one from the i-th place on. -/
def ofGo : W2 → Nat → List UInt8 → Option W2
  | a, _, [] => some a
  | a, i, x :: r => if 2 < x.toNat then none else ofGo (putW a i x.toNat) (i + 1) r
/-- What Of answers. -/
def ofR (l : List UInt8) : W2 × Int := if 64 < l.length then ((0, 0), 2) else match ofGo zeroW 0 l with | some a => (a, 0) | none => ((0, 0), 2)

set_option maxRecDepth 100000 in
set_option maxHeartbeats 1600000 in
theorem tof_any (l : List UInt8) (a : Option Addr) (n c : Nat) (w : World) (hs : Sees w a n c (l.map bv)) : Calls Try.prog 6 #[.slice a n c] w fun e w' => e = w2E (ofR l) ∧ Below w.heap.size w w' := by
  have hl : l.length = n := by have := hs.len; simpa using this
  have HS := Lib.hid hs
  have HL := Lib.hid hl
  have HZ := Lib.hid zeros_flat
  have HP := Lib.hid put_any
  obtain ⟨E, hE⟩ : ∃ E, E = w2E (ofR l) := ⟨_, rfl⟩
  have HLONG : Hid (64 < n → E = .returned (.tuple #[.agg #[.int .u64 0, .int .u64 0], .int .i64 2])) := by
    intro h; rw [hE]; unfold ofR; rw [if_pos (by omega)]; rfl
  have HNO : Hid (¬ 64 < n → ofGo zeroW 0 l = none → E = .returned (.tuple #[.agg #[.int .u64 0, .int .u64 0], .int .i64 2])) := by
    intro h h2; rw [hE]; unfold ofR; rw [if_neg (by omega), h2]; rfl
  have HYES : Hid (∀ r1 r2 : Nat, ¬ 64 < n → ofGo zeroW 0 l = some (r1, r2) → E = .returned (.tuple #[.agg #[.int .u64 (r1 : Int), .int .u64 (r2 : Int)], .int .i64 0])) := by
    intro r1 r2 h h2; rw [hE]; unfold ofR; rw [if_neg (by omega), h2]; rfl
  rw [← hE]
  clear hE hs hl
  go_enter Try.func6, Try.ntmps6
  by_cases h64 : 64 < n
  · have e1 : decide ((64 : Int) < (n : Int)) = true := by simp; omega
    have HY := Lib.hid (HLONG.out h64)
    clear h64 HLONG HNO HYES
    go_wp2
    refine bodyPost_ret (v := .tuple #[.agg #[.int .u64 0, .int .u64 0], .int .i64 2]) ?_ rfl ?_
    · simp [results, Try.results6, go_sem]
    · exact ⟨HY.out.symm, text_alloc _ _⟩
  · have e1 : decide ((64 : Int) < (n : Int)) = false := by simp; omega
    have hn64 : n ≤ 64 := by omega
    have HN := Lib.hid (HNO.out h64)
    have HY := Lib.hid (fun r1 r2 => HYES.out r1 r2 h64)
    clear h64 HLONG HNO HYES
    go_wp2_with fail
    refine (HZ.out _).mono ?_
    generalize hW : World.alloc _ _ = W
    rintro e w1 ⟨rfl, hb1⟩
    have h1 : W.heap[w.heap.size]? = some (.cells #[.int .u64 0, .int .u64 0] 24 (0, 0)) ∧ Below w.heap.size w W := by subst hW; exact ⟨theap_new _ _, text_alloc _ _⟩
    clear hW
    have h3 := theap_below h1.1 hb1
    have hB3 := Lib.hid (text_trans h1.2 hb1)
    have hlt : w.heap.size < w1.heap.size := (Array.getElem?_eq_some_iff.1 h3).1
    have H3 := Lib.hid h3
    clear hb1 h1 h3 HZ
    have HLT := Lib.hid hlt
    obtain ⟨G, hG⟩ : ∃ G, G = w1.heap.size := ⟨_, rfl⟩
    have HG := Lib.hid hG
    have hne : G ≠ w.heap.size := by omega
    have HNE := Lib.hid hne
    have hGw : w.heap.size ≤ G := by omega
    have HGW := Lib.hid hGw
    clear hlt hne hGw
    go_wp2_with fail
    rw [← hG]
    clear hG
    go_loopw [5, 6, 14] (fun _ _ i wr => ∃ k r1 r2 : Nat, k ≤ n ∧ i = .int .i64 k ∧ Hid (wr.heap[G]? = some (.cells #[.int .u64 (r1 : Int), .int .u64 (r2 : Int)] 24 (0, 0))) ∧ Hid (wr.heap[w.heap.size]? = some (.cells #[.int .u64 0, .int .u64 0] 24 (0, 0))) ∧ Hid (W2.in (r1, r2)) ∧ Hid (ofGo zeroW 0 l = ofGo (r1, r2) k (l.drop k)) ∧ Hid (Below w.heap.size w wr)) (fun _ _ i _ => n - (intOf i).toNat)
    case atStart =>
      exact ⟨0, full, 0, Nat.zero_le _, rfl, (by rw [HG.out]; exact theap_new _ _), theap_below H3.out (text_alloc _ _), zeroW_in, rfl, text_trans hB3.out (text_alloc _ _)⟩
    case round =>
      obtain ⟨k, r1, r2, hk, rfl, hc, hr, hin, hgo, hb⟩ := hrel
      by_cases hlt : k < n
      · obtain ⟨b, off, rfl, hbw⟩ := HS.out.addr (by omega)
        have hcx := (HS.out.below hb.out).byte k hlt
        obtain ⟨x, hx⟩ : ∃ x, x = (l.getD k 0).toNat := ⟨_, rfl⟩
        rw [← hx] at hcx
        have hdr : l.drop k = l.getD k 0 :: l.drop (k + 1) := by
          rw [List.drop_eq_getElem_cons (by rw [HL.out]; exact hlt)]; simp [List.getD, List.getElem?_eq_getElem (show k < l.length by rw [HL.out]; exact hlt)]
        have hst : ofGo zeroW 0 l = if 2 < x then none else ofGo (putW (r1, r2) k x) (k + 1) (l.drop (k + 1)) := by
          rw [hgo.out, hdr, ofGo, ← hx]
        have HST := Lib.hid hst
        clear hst hdr hx hbw hgo
        have g0 := cell_of_block hc.out 0
        have g1 := cell_of_block hc.out 1
        have g2 := unfrozen_of_block hc.out 0
        have g3 := unfrozen_of_block hc.out 1
        have f0 := unfrozen_of_block hr.out 0
        have f1 := unfrozen_of_block hr.out 1
        have d0 := cell_of_block hr.out 0
        have d1 := cell_of_block hr.out 1
        have W1 : IntKind.i64.wrap ((k : Int) + 1) = (k : Int) + 1 := IntWalk.i64_in _ (by omega)
        by_cases h2 : 2 < x
        · have e2 : decide ((2 : Int) < (x : Int)) = true := by simp; omega
          have HE := Lib.hid (HN.out (by rw [HST.out, if_pos h2]))
          clear h2 HN HY HP HST
          go_wp2
          refine bodyPost_ret (v := .tuple #[.agg #[.int .u64 0, .int .u64 0], .int .i64 2]) ?_ rfl ?_
          · have h6 := tcell2 hr.out rfl (.int .u64 0) (.int .u64 0)
            simp [results, Try.results6, go_sem, cell_of_block h6 0, cell_of_block h6 1]
          · exact ⟨HE.out.symm, tset hb.out (Nat.le_refl _) _ _⟩
        · have e2 : decide ((2 : Int) < (x : Int)) = false := by simp; omega
          have hk6 : k < 64 := by omega
          have HP2 := HP.out (r1, r2) hin.out k x hk6
          have HGO : Hid (ofGo zeroW 0 l = ofGo (putW (r1, r2) k x) (k + 1) (l.drop (k + 1))) := by show _ = _; rw [HST.out, if_neg h2]
          have HIN : Hid (W2.in (putW (r1, r2) k x)) := putW_in hin.out hk6
          obtain ⟨r, hr3⟩ : ∃ r, r = putW (r1, r2) k x := ⟨_, rfl⟩
          rw [← hr3] at HP2 HGO HIN
          obtain ⟨s1, s2⟩ := r
          have HP3 : Hid (∀ W, Calls Try.prog 28 #[.agg #[.int .u64 (r1 : Int), .int .u64 (r2 : Int)], .int .i64 (k : Int), .int .u8 (x : Int)] W fun e w' => e = .returned (.agg #[.int .u64 (s1 : Int), .int .u64 (s2 : Int)]) ∧ Below W.heap.size W w') := HP2
          clear h2 HN HY HP HP2 HST hr3 hin f0 f1 d0 d1
          go_wp2_with fail
          refine (HP3.out _).mono ?_
          rintro e w2 ⟨rfl, hb2⟩
          have h3 := theap_below hc.out hb2
          have HR2 := Lib.hid (theap_below hr.out hb2)
          have HB2 := Lib.hid (text_trans hb.out hb2)
          have HC2 := Lib.hid h3
          clear g0 g1 g2 g3 hb2 hcx hc hr hb
          have g0 := cell_of_block h3 0
          have g1 := cell_of_block h3 1
          have g2 := unfrozen_of_block h3 0
          have g3 := unfrozen_of_block h3 1
          clear h3
          go_wp2
          go_roundw
          case rel =>
            exact ⟨k + 1, s1, s2, by omega, by go_num, tcell2 HC2.out rfl _ _, tset_other HR2.out HNE.out _ _, HIN.out, HGO.out, tset HB2.out HGW.out _ _⟩
          case measure => simp [intOf]; omega
      · have hkn : k = n := by omega
        subst hkn
        have HE := Lib.hid (HY.out r1 r2 (by rw [hgo.out, List.drop_of_length_le (by rw [HL.out]; exact Nat.le_refl _)]; rfl))
        have g0 := cell_of_block hc.out 0
        have g1 := cell_of_block hc.out 1
        have f0 := unfrozen_of_block hr.out 0
        have f1 := unfrozen_of_block hr.out 1
        have d0 := cell_of_block hr.out 0
        have d1 := cell_of_block hr.out 1
        clear HN HY HP hgo hin
        go_wp2
        refine bodyPost_ret (v := .tuple #[.agg #[.int .u64 (r1 : Int), .int .u64 (r2 : Int)], .int .i64 0]) ?_ rfl ?_
        · have h6 := tcell2 hr.out rfl (.int .u64 (r1 : Int)) (.int .u64 (r2 : Int))
          simp [results, Try.results6, go_sem, cell_of_block h6 0, cell_of_block h6 1]
        · exact ⟨HE.out.symm, tset hb.out (Nat.le_refl _) _ _⟩
end Go.Proofs.Ytglhnmbfkbjemaa
