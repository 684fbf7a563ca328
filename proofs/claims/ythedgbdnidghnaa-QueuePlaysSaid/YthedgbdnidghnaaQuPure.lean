/- The decision queue on plain lists: scores, who waits, the next variable; a heap's row and its places, with a hole that is filled at the end. -/
import Derived.WalkKit
namespace Go.Proofs.Ythedgbdnidghnaa

theorem getD_setQ {α : Type} (l : List α) (i j : Nat) (a d : α) : (l.set i a).getD j d = if j = i ∧ i < l.length then a else l.getD j d := by
  simp only [List.getD, List.getElem?_set]
  by_cases h : i = j
  · subst h
    by_cases h2 : i < l.length
    · simp [h2]
    · simp [h2]
  · rw [if_neg h, if_neg (fun e => h e.1.symm)]
theorem getD_setN {α : Type} (l : List α) (i j : Nat) (a d : α) (h : j ≠ i) : (l.set i a).getD j d = l.getD j d := by rw [getD_setQ, if_neg (fun e => h e.1)]
theorem getD_setE {α : Type} (l : List α) (i : Nat) (a d : α) (h : i < l.length) : (l.set i a).getD i d = a := by rw [getD_setQ, if_pos ⟨rfl, h⟩]

/-- A lesser key is ahead: greater scores first, of equal ones the lesser number. -/
def keyQ (sc : List Nat) (v : Nat) : Nat := (18446744073709551616 - sc.getD v 0) * 4294967296 + v
def ahd (sc : List Nat) (v u : Nat) : Bool := decide (keyQ sc v < keyQ sc u)
theorem key_inj {sc : List Nat} {v u : Nat} (hv : v < 4294967296) (hu : u < 4294967296) (h : keyQ sc v = keyQ sc u) : v = u := by
  unfold keyQ at h; omega
theorem ahd_ne {sc : List Nat} {v u : Nat} (hv : v < 4294967296) (hu : u < 4294967296) (h1 : sc.getD v 0 ≤ 18446744073709551616) (h2 : sc.getD u 0 ≤ 18446744073709551616) (h : sc.getD v 0 ≠ sc.getD u 0) : ahd sc v u = decide (sc.getD u 0 < sc.getD v 0) := by
  unfold ahd keyQ; congr 1; apply propext; constructor <;> intro h' <;> omega
theorem ahd_eq {sc : List Nat} {v u : Nat} (h : sc.getD v 0 = sc.getD u 0) : ahd sc v u = decide (v < u) := by
  unfold ahd keyQ; rw [h]; congr 1; apply propext; constructor <;> intro h' <;> omega

/-- What a queue is: its step, each variable's score, and whether it waits. -/
structure RQ where
  st : Nat
  sc : List Nat
  wt : List Bool
deriving DecidableEq

structure RQ.Ok (r : RQ) (n : Nat) : Prop where
  nm : n ≤ 4194304
  ls : r.sc.length = n + 1
  lw : r.wt.length = n + 1
  w0 : r.wt.getD 0 false = false
  s0 : 1 ≤ r.st
  s1 : r.st ≤ 281474976710656
  sb : ∀ v, r.sc.getD v 0 ≤ 281474976710656

def downR (r : RQ) : RQ := ⟨max (r.st / 16777216) 1, r.sc.map (· / 16777216), r.wt⟩
def addR (r : RQ) (v : Nat) : RQ := ⟨r.st, r.sc.set v (r.sc.getD v 0 + r.st), r.wt⟩
def bumpR (r : RQ) (v : Nat) : RQ := if 281474976710656 < r.sc.getD v 0 + r.st then downR (addR r v) else addR r v
def moreR (r : RQ) : RQ := ⟨r.st + r.st / 8 + 1, r.sc, r.wt⟩
def fadeR (r : RQ) : RQ := if 281474976710656 < r.st + r.st / 8 + 1 then downR (moreR r) else moreR r
def backR (r : RQ) (v : Nat) : RQ := ⟨r.st, r.sc, r.wt.set v true⟩
def takeR (r : RQ) (v : Nat) : RQ := ⟨r.st, r.sc, r.wt.set v false⟩
def lenR (r : RQ) : Nat := r.wt.count true
def newR (n : Nat) : RQ := ⟨1, List.replicate (n + 1) 0, false :: List.replicate n true⟩
def hasR (n : Nat) (v : Int) : Bool := decide (1 ≤ v) && decide (v ≤ n)
def scoreR (sc : List Nat) (n : Nat) (v : Int) : Nat := if hasR n v then sc.getD v.toNat 0 else 0
def waitsR (wt : List Bool) (n : Nat) (v : Int) : Bool := hasR n v && wt.getD v.toNat false
/-- What is told of a number that is, or is no variable. -/
def codeR (n : Nat) (v : Int) : Int := if hasR n v then 0 else 2
theorem has_of {n v : Nat} (h1 : 1 ≤ v) (h2 : v ≤ n) : hasR n (v : Int) = true := by unfold hasR; simp; omega
theorem has_not {n : Nat} {v : Int} (h : ¬ (1 ≤ v ∧ v ≤ n)) : hasR n v = false := by unfold hasR; simp; omega
theorem has_nat {n : Nat} {v : Int} (h : hasR n v = true) : ∃ u : Nat, v = (u : Int) ∧ 1 ≤ u ∧ u ≤ n := by
  unfold hasR at h; simp at h
  obtain ⟨u, rfl⟩ := Int.eq_ofNat_of_zero_le (show 0 ≤ v by omega)
  exact ⟨u, rfl, by omega, by omega⟩
/-- The next variable, of the first k; 0 if none waits. -/
def bestR (r : RQ) : Nat → Nat
  | 0 => 0
  | k + 1 => if r.wt.getD (k + 1) false && (decide (bestR r k = 0) || decide (r.sc.getD (bestR r k) 0 < r.sc.getD (k + 1) 0)) then k + 1 else bestR r k

theorem div_getD (l : List Nat) (v : Nat) : (l.map (· / 16777216)).getD v 0 = l.getD v 0 / 16777216 := by
  simp only [List.getD, List.getElem?_map]
  cases l[v]? <;> simp

theorem RQ.Ok.down {r : RQ} {n : Nat} (nm : n ≤ 4194304) (ls : r.sc.length = n + 1) (lw : r.wt.length = n + 1) (w0 : r.wt.getD 0 false = false) (s1 : r.st ≤ 1125899906842624) (sb : ∀ v, r.sc.getD v 0 ≤ 1125899906842624) : (downR r).Ok n := by
  refine ⟨nm, by simpa [downR] using ls, lw, w0, ?_, ?_, fun v => ?_⟩
  · show 1 ≤ max (r.st / 16777216) 1; omega
  · show max (r.st / 16777216) 1 ≤ _; omega
  · show (r.sc.map (· / 16777216)).getD v 0 ≤ _
    rw [div_getD]; have := sb v; omega
theorem add_sb {r : RQ} {n : Nat} (h : r.Ok n) (v u : Nat) : (addR r v).sc.getD u 0 ≤ 562949953421312 := by
  show (r.sc.set v (r.sc.getD v 0 + r.st)).getD u 0 ≤ _
  rw [getD_setQ]
  have h1 := h.sb u; have h2 := h.sb v; have h3 := h.s1
  split <;> omega
theorem RQ.Ok.bump {r : RQ} {n : Nat} (h : r.Ok n) (v : Nat) : (bumpR r v).Ok n := by
  unfold bumpR
  by_cases hb : 281474976710656 < r.sc.getD v 0 + r.st
  · rw [if_pos hb]
    exact RQ.Ok.down h.nm (by simpa [addR] using h.ls) h.lw h.w0 (by have := h.s1; show r.st ≤ _; omega) (fun u => Nat.le_trans (add_sb h v u) (by omega))
  · rw [if_neg hb]
    refine ⟨h.nm, by simpa [addR] using h.ls, h.lw, h.w0, h.s0, h.s1, fun u => ?_⟩
    show (r.sc.set v (r.sc.getD v 0 + r.st)).getD u 0 ≤ _
    rw [getD_setQ]
    have h1 := h.sb u
    split <;> omega
theorem RQ.Ok.fade {r : RQ} {n : Nat} (h : r.Ok n) : (fadeR r).Ok n := by
  have h1 := h.s1
  unfold fadeR
  by_cases hb : 281474976710656 < r.st + r.st / 8 + 1
  · rw [if_pos hb]
    exact RQ.Ok.down h.nm h.ls h.lw h.w0 (by show r.st + r.st / 8 + 1 ≤ _; omega) (fun u => Nat.le_trans (h.sb u) (by omega))
  · rw [if_neg hb]
    exact ⟨h.nm, h.ls, h.lw, h.w0, by show 1 ≤ r.st + r.st / 8 + 1; omega, by show r.st + r.st / 8 + 1 ≤ _; omega, h.sb⟩
theorem RQ.Ok.back {r : RQ} {n : Nat} (h : r.Ok n) {v : Nat} (h1 : 1 ≤ v) : (backR r v).Ok n :=
  ⟨h.nm, h.ls, by simpa [backR] using h.lw, by show (r.wt.set v true).getD 0 false = false; rw [getD_setN _ _ _ _ _ (by omega)]; exact h.w0, h.s0, h.s1, h.sb⟩
theorem RQ.Ok.take {r : RQ} {n : Nat} (h : r.Ok n) {v : Nat} (h1 : 1 ≤ v) : (takeR r v).Ok n :=
  ⟨h.nm, h.ls, by simpa [takeR] using h.lw, by show (r.wt.set v false).getD 0 false = false; rw [getD_setN _ _ _ _ _ (by omega)]; exact h.w0, h.s0, h.s1, h.sb⟩
theorem RQ.Ok.new {n : Nat} (h : n ≤ 4194304) : (newR n).Ok n := by
  refine ⟨h, by simp [newR], by simp [newR], rfl, Nat.le_refl _, by show 1 ≤ _; omega, fun v => ?_⟩
  simp only [newR, List.getD, List.getElem?_replicate]
  split <;> simp

theorem count_setT (l : List Bool) (v : Nat) (hv : v < l.length) (h : l.getD v false = false) : (l.set v true).count true = l.count true + 1 := by
  have e : l[v] = false := by simpa [List.getD, List.getElem?_eq_getElem hv] using h
  rw [List.count_set hv, e]; simp
theorem count_setF (l : List Bool) (v : Nat) (hv : v < l.length) (h : l.getD v false = true) : (l.set v false).count true = l.count true - 1 := by
  have e : l[v] = true := by simpa [List.getD, List.getElem?_eq_getElem hv] using h
  rw [List.count_set hv, e]; simp
theorem len_room {r : RQ} {n : Nat} (h : r.Ok n) {v : Nat} (h1 : 1 ≤ v) (h2 : v ≤ n) (hw : r.wt.getD v false = false) : lenR r < n := by
  have e1 := count_setT r.wt v (by rw [h.lw]; omega) hw
  have e2 := count_setT (r.wt.set v true) 0 (by simp [h.lw]) (by rw [getD_setN _ _ _ _ _ (by omega)]; exact h.w0)
  have e3 : ((r.wt.set v true).set 0 true).count true ≤ ((r.wt.set v true).set 0 true).length := List.count_le_length
  simp only [List.length_set, h.lw] at e3
  unfold lenR; omega

/-- The next variable. -/
structure IsNext (r : RQ) (n v : Nat) : Prop where
  v1 : 1 ≤ v
  v2 : v ≤ n
  w : r.wt.getD v false = true
  least : ∀ u, 1 ≤ u → u ≤ n → r.wt.getD u false = true → u ≠ v → keyQ r.sc v < keyQ r.sc u

theorem best_spec {r : RQ} {n : Nat} (h : r.Ok n) : ∀ k, k ≤ n → (bestR r k = 0 → ∀ u, 1 ≤ u → u ≤ k → r.wt.getD u false = false) ∧ (bestR r k ≠ 0 → IsNext r k (bestR r k))
  | 0, _ => ⟨fun _ u h1 h2 => absurd h2 (by omega), fun h => absurd rfl h⟩
  | k + 1, hk => by
    have ih := best_spec h k (by omega)
    have nm := h.nm
    by_cases hw : r.wt.getD (k + 1) false = true
    · by_cases hb : bestR r k = 0
      · have e : bestR r (k + 1) = k + 1 := by rw [bestR, hw, hb]; simp
        rw [e]
        refine ⟨fun h => absurd h (by omega), fun _ => ⟨by omega, Nat.le_refl _, hw, fun u h1 h2 h3 h4 => ?_⟩⟩
        rw [ih.1 hb u h1 (by omega)] at h3; cases h3
      · have b := ih.2 hb
        have b1 := b.v1; have b2 := b.v2
        have s1 := h.sb (bestR r k); have s2 := h.sb (k + 1)
        by_cases hs : r.sc.getD (bestR r k) 0 < r.sc.getD (k + 1) 0
        · have e : bestR r (k + 1) = k + 1 := by rw [bestR, hw]; simp only [hs, decide_true, Bool.or_true, Bool.and_true, if_true]
          have hlt : keyQ r.sc (k + 1) < keyQ r.sc (bestR r k) := by unfold keyQ; omega
          rw [e]
          refine ⟨fun h => absurd h (by omega), fun _ => ⟨by omega, Nat.le_refl _, hw, fun u h1 h2 h3 h4 => ?_⟩⟩
          by_cases e2 : u = bestR r k
          · rw [e2]; exact hlt
          · have := b.least u h1 (by omega) h3 e2; omega
        · have e : bestR r (k + 1) = bestR r k := by
            rw [bestR, if_neg]
            have d1 : decide (bestR r k = 0) = false := by simpa using hb
            have d2 : decide (r.sc.getD (bestR r k) 0 < r.sc.getD (k + 1) 0) = false := by simpa using hs
            rw [d1, d2]; simp
          have hlt : keyQ r.sc (bestR r k) < keyQ r.sc (k + 1) := by unfold keyQ; omega
          rw [e]
          refine ⟨fun h => absurd h hb, fun _ => ⟨b.v1, by omega, b.w, fun u h1 h2 h3 h4 => ?_⟩⟩
          by_cases e2 : u = k + 1
          · rw [e2]; exact hlt
          · exact b.least u h1 (by omega) h3 h4
    · have hw' : r.wt.getD (k + 1) false = false := by simpa using hw
      have e : bestR r (k + 1) = bestR r k := by rw [bestR, hw']; simp
      rw [e]
      refine ⟨fun h u h1 h2 => ?_, fun h => ⟨(ih.2 h).v1, by have := (ih.2 h).v2; omega, (ih.2 h).w, fun u h1 h2 h3 h4 => ?_⟩⟩
      · by_cases e2 : u = k + 1
        · rw [e2]; exact hw'
        · exact ih.1 h u h1 (by omega)
      · have : u ≠ k + 1 := by intro e3; rw [e3, hw'] at h3; cases h3
        exact (ih.2 h).least u h1 (by omega) h3 h4
theorem IsNext.uniq {r : RQ} {n v u : Nat} (h : IsNext r n v) (k : IsNext r n u) : v = u := by
  apply Classical.byContradiction
  intro hne
  have a := h.least u k.v1 k.v2 k.w (fun e => hne e.symm)
  have b := k.least v h.v1 h.v2 h.w hne
  omega
theorem IsNext.best {r : RQ} {n v : Nat} (ok : r.Ok n) (h : IsNext r n v) : bestR r n = v := by
  have s := best_spec ok n (Nat.le_refl _)
  by_cases h0 : bestR r n = 0
  · have := s.1 h0 v h.v1 h.v2; rw [h.w] at this; cases this
  · exact (s.2 h0).uniq h
/-- No variable waits. -/
theorem none_count {r : RQ} (h : lenR r = 0) : ∀ v, r.wt.getD v false = false := fun v => by
  unfold lenR at h
  rw [List.count_eq_zero] at h
  cases hv : r.wt.getD v false with
  | false => rfl
  | true =>
    exfalso; apply h
    simp only [List.getD] at hv
    cases e : r.wt[v]? with
    | none => rw [e] at hv; cases hv
    | some b => rw [e] at hv; have : b = true := hv; subst this; exact List.mem_of_getElem? e
theorem best_none {r : RQ} {n : Nat} (ok : r.Ok n) (h : lenR r = 0) : bestR r n = 0 := by
  apply Classical.byContradiction
  intro h0
  have s := ((best_spec ok n (Nat.le_refl _)).2 h0).w
  rw [none_count h] at s; cases s
theorem best_some {r : RQ} {n : Nat} (ok : r.Ok n) (h : lenR r ≠ 0) : bestR r n ≠ 0 := fun h0 => by
  have s := (best_spec ok n (Nat.le_refl _)).1 h0
  apply h
  unfold lenR
  rw [List.count_eq_zero]
  intro hm
  obtain ⟨v, hv⟩ := List.getElem?_of_mem hm
  have hl : v < r.wt.length := (List.getElem?_eq_some_iff.1 hv).1
  have hg : r.wt.getD v false = true := by simp [List.getD, hv]
  by_cases v0 : v = 0
  · subst v0; rw [ok.w0] at hg; cases hg
  · have := s v (by omega) (by rw [ok.lw] at hl; omega); rw [hg] at this; cases this

/-- The heap's row hp, whose first m are the heap, and the places pl, tell of who waits; of z's place nothing is said while it does not wait. -/
structure Pl (n : Nat) (hp : List Nat) (m : Nat) (pl : List Int) (wt : List Bool) (z : Nat) : Prop where
  lh : hp.length = n
  lp : pl.length = n + 1
  mn : m ≤ n
  here : ∀ j, j < m → 1 ≤ hp.getD j 0 ∧ hp.getD j 0 ≤ n ∧ pl.getD (hp.getD j 0) 0 = (j : Int) ∧ wt.getD (hp.getD j 0) false = true
  off : ∀ u, 1 ≤ u → u ≤ n → u ≠ z → wt.getD u false = false → pl.getD u 0 = -1
  on : ∀ u, 1 ≤ u → u ≤ n → wt.getD u false = true → ∃ j, j < m ∧ pl.getD u 0 = (j : Int) ∧ hp.getD j 0 = u
/-- With a hole at i, where v will stand. -/
structure PlH (n : Nat) (hp : List Nat) (m : Nat) (pl : List Int) (wt : List Bool) (z v i : Nat) : Prop where
  lh : hp.length = n
  lp : pl.length = n + 1
  mn : m ≤ n
  im : i < m
  v1 : 1 ≤ v
  v2 : v ≤ n
  vw : wt.getD v false = true
  here : ∀ j, j < m → j ≠ i → 1 ≤ hp.getD j 0 ∧ hp.getD j 0 ≤ n ∧ hp.getD j 0 ≠ v ∧ pl.getD (hp.getD j 0) 0 = (j : Int) ∧ wt.getD (hp.getD j 0) false = true
  off : ∀ u, 1 ≤ u → u ≤ n → u ≠ z → wt.getD u false = false → pl.getD u 0 = -1
  on : ∀ u, 1 ≤ u → u ≤ n → u ≠ v → wt.getD u false = true → ∃ j, j < m ∧ j ≠ i ∧ pl.getD u 0 = (j : Int) ∧ hp.getD j 0 = u

theorem PlH.fill {n : Nat} {hp : List Nat} {m : Nat} {pl : List Int} {wt : List Bool} {z v i : Nat} (h : PlH n hp m pl wt z v i) : Pl n (hp.set i v) m (pl.set v i) wt z := by
  have lh := h.lh; have lp := h.lp; have mn := h.mn; have im := h.im; have v2 := h.v2
  refine ⟨by simpa using lh, by simpa using lp, mn, fun j hj => ?_, fun u h1 h2 h3 h4 => ?_, fun u h1 h2 h3 => ?_⟩
  · by_cases e : j = i
    · subst e
      rw [getD_setE _ _ _ _ (by omega), getD_setE _ _ _ _ (by omega)]
      exact ⟨h.v1, h.v2, rfl, h.vw⟩
    · obtain ⟨a, b, c, d, f⟩ := h.here j hj e
      rw [getD_setN _ _ _ _ _ e, getD_setN _ _ _ _ _ c]
      exact ⟨a, b, d, f⟩
  · have : u ≠ v := by intro e; rw [e, h.vw] at h4; cases h4
    rw [getD_setN _ _ _ _ _ this]
    exact h.off u h1 h2 h3 h4
  · by_cases e : u = v
    · subst e
      exact ⟨i, im, getD_setE _ _ _ _ (by omega), getD_setE _ _ _ _ (by omega)⟩
    · obtain ⟨j, a, b, c, d⟩ := h.on u h1 h2 e h3
      exact ⟨j, a, by rw [getD_setN _ _ _ _ _ e]; exact c, by rw [getD_setN _ _ _ _ _ b]; exact d⟩
theorem PlH.move {n : Nat} {hp : List Nat} {m : Nat} {pl : List Int} {wt : List Bool} {z v i : Nat} (h : PlH n hp m pl wt z v i) {j : Nat} (hj : j < m) (hji : j ≠ i) : PlH n (hp.set i (hp.getD j 0)) m (pl.set (hp.getD j 0) i) wt z v j := by
  have lh := h.lh; have lp := h.lp; have mn := h.mn; have im := h.im; have v2 := h.v2
  obtain ⟨a1, a2, a3, a4, a5⟩ := h.here j hj hji
  refine ⟨by simpa using lh, by simpa using lp, mn, hj, h.v1, h.v2, h.vw, fun k hk hkj => ?_, fun u h1 h2 h3 h4 => ?_, fun u h1 h2 h3 h4 => ?_⟩
  · by_cases e : k = i
    · subst e
      rw [getD_setE _ _ _ _ (by omega), getD_setE _ _ _ _ (by omega)]
      exact ⟨a1, a2, a3, rfl, a5⟩
    · obtain ⟨b1, b2, b3, b4, b5⟩ := h.here k hk e
      have : hp.getD k 0 ≠ hp.getD j 0 := by intro e2; rw [e2, a4] at b4; omega
      rw [getD_setN _ _ _ _ _ e, getD_setN _ _ _ _ _ this]
      exact ⟨b1, b2, b3, b4, b5⟩
  · have : u ≠ hp.getD j 0 := by intro e; rw [e, a5] at h4; cases h4
    rw [getD_setN _ _ _ _ _ this]
    exact h.off u h1 h2 h3 h4
  · obtain ⟨k, b1, b2, b3, b4⟩ := h.on u h1 h2 h3 h4
    by_cases e : k = j
    · subst e
      rw [← b4]
      exact ⟨i, im, fun e => hji e.symm, getD_setE _ _ _ _ (by omega), getD_setE _ _ _ _ (by omega)⟩
    · have : u ≠ hp.getD j 0 := by intro e2; rw [e2, a4] at b3; omega
      exact ⟨k, b1, e, by rw [getD_setN _ _ _ _ _ this]; exact b3, by rw [getD_setN _ _ _ _ _ b2]; exact b4⟩
theorem Pl.ne {n : Nat} {hp : List Nat} {m : Nat} {pl : List Int} {wt : List Bool} {z : Nat} (h : Pl n hp m pl wt z) {j k : Nat} (hj : j < m) (hk : k < m) (hjk : j ≠ k) : hp.getD j 0 ≠ hp.getD k 0 := fun e => by
  have a := (h.here j hj).2.2.1
  rw [e, (h.here k hk).2.2.1] at a; omega
theorem Pl.hole {n : Nat} {hp : List Nat} {m : Nat} {pl : List Int} {wt : List Bool} {z : Nat} (h : Pl n hp m pl wt z) {i v : Nat} (hi : i < m) (hv : hp.getD i 0 = v) : PlH n hp m pl wt z v i := by
  subst hv
  obtain ⟨a1, a2, a3, a4⟩ := h.here i hi
  refine ⟨h.lh, h.lp, h.mn, hi, a1, a2, a4, fun j hj e => ?_, h.off, fun u h1 h2 h3 h4 => ?_⟩
  · obtain ⟨b1, b2, b3, b4⟩ := h.here j hj
    exact ⟨b1, b2, h.ne hj hi e, b3, b4⟩
  · obtain ⟨j, b1, b2, b3⟩ := h.on u h1 h2 h4
    exact ⟨j, b1, fun e => h3 (by rw [← b3, e]), b2, b3⟩
theorem Pl.at_ {n : Nat} {hp : List Nat} {m : Nat} {pl : List Int} {wt : List Bool} {z v : Nat} (h : Pl n hp m pl wt z) (h1 : 1 ≤ v) (h2 : v ≤ n) (hw : wt.getD v false = true) : ∃ i, i < m ∧ pl.getD v 0 = (i : Int) ∧ hp.getD i 0 = v := h.on v h1 h2 hw
/-- 'Back': a hole at the end. -/
theorem Pl.back {n : Nat} {hp : List Nat} {m : Nat} {pl : List Int} {wt : List Bool} {v : Nat} (h : Pl n hp m pl wt 0) (h1 : 1 ≤ v) (h2 : v ≤ n) (hl : wt.length = n + 1) (hw : wt.getD v false = false) (hm : m < n) : PlH n (hp.set m v) (m + 1) pl (wt.set v true) 0 v m := by
  have lh := h.lh
  refine ⟨by simpa using lh, h.lp, hm, by omega, h1, h2, getD_setE _ _ _ _ (by omega), fun j hj e => ?_, fun u a b c d => ?_, fun u a b c d => ?_⟩
  · obtain ⟨b1, b2, b3, b4⟩ := h.here j (by omega)
    have : hp.getD j 0 ≠ v := by intro e; rw [e, hw] at b4; cases b4
    rw [getD_setN _ _ _ _ _ e, getD_setN _ _ _ _ _ this]
    exact ⟨b1, b2, this, b3, b4⟩
  · have : u ≠ v := by intro e; rw [e, getD_setE _ _ _ _ (by omega)] at d; cases d
    rw [getD_setN _ _ _ _ _ this] at d
    exact h.off u a b c d
  · rw [getD_setN _ _ _ _ _ c] at d
    obtain ⟨j, b1, b2, b3⟩ := h.on u a b d
    exact ⟨j, by omega, by omega, b2, by rw [getD_setN _ _ _ _ _ (by omega)]; exact b3⟩
/-- 'Next': the first is taken away, the last will stand elsewhere. -/
theorem Pl.next {n : Nat} {hp : List Nat} {k : Nat} {pl : List Int} {wt : List Bool} {v u : Nat} (h : Pl n hp (k + 1) pl wt 0) (hk : 0 < k) (hv : hp.getD 0 0 = v) (hu : hp.getD k 0 = u) (hl : wt.length = n + 1) : PlH n hp k pl (wt.set v false) v u 0 := by
  obtain ⟨a1, a2, a3, a4⟩ := h.here 0 (by omega)
  obtain ⟨c1, c2, c3, c4⟩ := h.here k (by omega)
  have huv : u ≠ v := by rw [← hu, ← hv]; exact h.ne (by omega) (by omega) (by omega)
  rw [hv] at a1 a2 a3 a4
  rw [hu] at c1 c2 c3 c4
  refine ⟨h.lh, h.lp, by have := h.mn; omega, hk, c1, c2, by rw [getD_setN _ _ _ _ _ huv]; exact c4, fun j hj e => ?_, fun x x1 x2 x3 x4 => ?_, fun x x1 x2 x3 x4 => ?_⟩
  · obtain ⟨b1, b2, b3, b4⟩ := h.here j (by omega)
    have e1 : hp.getD j 0 ≠ u := by rw [← hu]; exact h.ne (by omega) (by omega) (by omega)
    have e2 : hp.getD j 0 ≠ v := by rw [← hv]; exact h.ne (by omega) (by omega) (by omega)
    rw [getD_setN _ _ _ _ _ e2]
    exact ⟨b1, b2, e1, b3, b4⟩
  · rw [getD_setN _ _ _ _ _ x3] at x4
    exact h.off x x1 x2 (by omega) x4
  · have e2 : x ≠ v := by intro e; rw [e, getD_setE _ _ _ _ (by omega)] at x4; cases x4
    rw [getD_setN _ _ _ _ _ e2] at x4
    obtain ⟨j, b1, b2, b3⟩ := h.on x x1 x2 x4
    refine ⟨j, ?_, ?_, b2, b3⟩
    · have : j ≠ k := by intro e; rw [e, hu] at b3; exact x3 b3.symm
      omega
    · intro e; rw [e, hv] at b3; exact e2 b3.symm
theorem Pl.next0 {n : Nat} {hp : List Nat} {pl : List Int} {wt : List Bool} {v : Nat} (h : Pl n hp 1 pl wt 0) (hv : hp.getD 0 0 = v) (hl : wt.length = n + 1) : Pl n hp 0 pl (wt.set v false) v := by
  have hv2 := (h.here 0 (by omega)).2.1
  rw [hv] at hv2
  refine ⟨h.lh, h.lp, by omega, fun j hj => absurd hj (by omega), fun x x1 x2 x3 x4 => ?_, fun x x1 x2 x4 => ?_⟩
  · rw [getD_setN _ _ _ _ _ x3] at x4
    exact h.off x x1 x2 (by omega) x4
  · have e2 : x ≠ v := by intro e; rw [e, getD_setE _ _ _ _ (by omega)] at x4; cases x4
    rw [getD_setN _ _ _ _ _ e2] at x4
    obtain ⟨j, b1, b2, b3⟩ := h.on x x1 x2 x4
    have : j = 0 := by omega
    subst this
    exact absurd (b3.symm.trans hv) e2
theorem Pl.away {n : Nat} {hp : List Nat} {m : Nat} {pl : List Int} {wt : List Bool} {v : Nat} (h : Pl n hp m pl wt v) (h2 : v ≤ n) (hw : wt.getD v false = false) : Pl n hp m (pl.set v (-1)) wt 0 := by
  have lp := h.lp
  have hv2 := h2
  refine ⟨h.lh, by simpa using lp, h.mn, fun j hj => ?_, fun u a b c d => ?_, fun u a b c => ?_⟩
  · obtain ⟨b1, b2, b3, b4⟩ := h.here j hj
    have : hp.getD j 0 ≠ v := by intro e; rw [e, hw] at b4; cases b4
    rw [getD_setN _ _ _ _ _ this]
    exact ⟨b1, b2, b3, b4⟩
  · by_cases e : u = v
    · rw [e, getD_setE _ _ _ _ (by omega)]
    · rw [getD_setN _ _ _ _ _ e]; exact h.off u a b e d
  · have e : u ≠ v := by intro e; rw [e, hw] at c; cases c
    rw [getD_setN _ _ _ _ _ e]; exact h.on u a b c

/-! Order. -/
def HeapF (f : Nat → Nat) (m lo : Nat) : Prop := ∀ k, 0 < k → k < m → lo ≤ (k - 1) / 2 → f ((k - 1) / 2) ≤ f k
def UpF (f : Nat → Nat) (m j : Nat) : Prop := (∀ k, 0 < k → k < m → k ≠ j → f ((k - 1) / 2) ≤ f k) ∧ (∀ k, 0 < k → k < m → (k - 1) / 2 = j → 0 < j → f ((j - 1) / 2) ≤ f k)
def DownF (f : Nat → Nat) (m lo i : Nat) : Prop := (∀ k, 0 < k → k < m → lo ≤ (k - 1) / 2 → (k - 1) / 2 ≠ i → f ((k - 1) / 2) ≤ f k) ∧ (∀ k, 0 < k → k < m → (k - 1) / 2 = i → 0 < i → lo ≤ (i - 1) / 2 → f ((i - 1) / 2) ≤ f k)
/-- Two places exchanged. -/
def swF (f : Nat → Nat) (i j : Nat) (k : Nat) : Nat := if k = j then f i else if k = i then f j else f k
/-- The keys of the heap with v at i. -/
def vwK (sc : List Nat) (hp : List Nat) (v i : Nat) (k : Nat) : Nat := if k = i then keyQ sc v else keyQ sc (hp.getD k 0)
def hpK (sc : List Nat) (hp : List Nat) (k : Nat) : Nat := keyQ sc (hp.getD k 0)

theorem vw_move (sc hp : List Nat) (v i j : Nat) (hij : j ≠ i) (hi : i < hp.length) : vwK sc (hp.set i (hp.getD j 0)) v j = swF (vwK sc hp v i) i j := by
  funext k
  unfold vwK swF
  by_cases e1 : k = j
  · rw [if_pos e1, if_pos e1]
    exact (if_pos rfl).symm
  · rw [if_neg e1, if_neg e1]
    by_cases e2 : k = i
    · rw [e2, getD_setE _ _ _ _ hi, if_pos rfl]
      exact (if_neg hij).symm
    · rw [getD_setN _ _ _ _ _ e2, if_neg e2]
      exact (if_neg e2).symm
theorem vw_fill (sc hp : List Nat) (v i : Nat) (hi : i < hp.length) : hpK sc (hp.set i v) = vwK sc hp v i := by
  funext k
  unfold vwK hpK
  by_cases e : k = i
  · rw [e, getD_setE _ _ _ _ hi, if_pos rfl]
  · rw [getD_setN _ _ _ _ _ e, if_neg e]
theorem vw_own (sc hp : List Nat) (i : Nat) : vwK sc hp (hp.getD i 0) i = hpK sc hp := by
  funext k
  unfold vwK hpK
  by_cases e : k = i
  · rw [e, if_pos rfl]
  · rw [if_neg e]

theorem upF_done0 {f : Nat → Nat} {m : Nat} (h : UpF f m 0) : HeapF f m 0 := fun k h0 hk _ => h.1 k h0 hk (by omega)
theorem upF_done {f : Nat → Nat} {m j : Nat} (h : UpF f m j) (hle : f ((j - 1) / 2) ≤ f j) : HeapF f m 0 := fun k h0 hk _ => by
  by_cases e : k = j
  · subst e; exact hle
  · exact h.1 k h0 hk e
theorem upF_step {f : Nat → Nat} {m j : Nat} (h : UpF f m j) (h0 : 0 < j) (hj : j < m) (hlt : f j < f ((j - 1) / 2)) : UpF (swF f j ((j - 1) / 2)) m ((j - 1) / 2) := by
  unfold swF
  refine ⟨fun k hk0 hkn hki => ?_, fun k hk0 hkn hkp hi0 => ?_⟩
  · dsimp only
    by_cases hkj : k = j
    · subst hkj
      rw [if_pos rfl, if_neg (by omega), if_pos rfl]; omega
    · have h1 := h.1 k hk0 hkn hkj
      rw [if_neg hki, if_neg hkj]
      by_cases hp : (k - 1) / 2 = j
      · rw [if_neg (by omega), if_pos hp]
        exact h.2 k hk0 hkn hp h0
      · by_cases hp2 : (k - 1) / 2 = (j - 1) / 2
        · rw [if_pos hp2]; rw [hp2] at h1; omega
        · rw [if_neg hp2, if_neg hp]; exact h1
  · dsimp only
    have h1 := h.1 ((j - 1) / 2) hi0 (by omega) (by omega)
    rw [if_neg (show ¬ ((j - 1) / 2 - 1) / 2 = (j - 1) / 2 by omega), if_neg (show ¬ ((j - 1) / 2 - 1) / 2 = j by omega)]
    by_cases hkj : k = j
    · rw [if_neg (by omega), if_pos hkj]; exact h1
    · rw [if_neg (by omega), if_neg hkj]
      have h2 := h.1 k hk0 hkn hkj
      rw [hkp] at h2
      omega

theorem downF_leaf {f : Nat → Nat} {m lo i : Nat} (h : DownF f m lo i) (hn : m ≤ 2 * i + 1) : HeapF f m lo := fun k h0 hk hl => h.1 k h0 hk hl (by omega)
theorem downF_done {f : Nat → Nat} {m lo i j : Nat} (h : DownF f m lo i) (hm : ∀ k, 0 < k → k < m → (k - 1) / 2 = i → f j ≤ f k) (hle : f i ≤ f j) : HeapF f m lo := fun k h0 hk hl => by
  by_cases e : (k - 1) / 2 = i
  · have := hm k h0 hk e
    rw [e]; omega
  · exact h.1 k h0 hk hl e
theorem downF_step {f : Nat → Nat} {m lo i j : Nat} (h : DownF f m lo i) (hli : lo ≤ i) (h0 : 0 < j) (hj : j < m) (hp : (j - 1) / 2 = i) (hm : ∀ k, 0 < k → k < m → (k - 1) / 2 = i → f j ≤ f k) (hlt : f j < f i) : DownF (swF f i j) m lo j := by
  unfold swF
  refine ⟨fun k hk0 hkn hkl hkp => ?_, fun k hk0 hkn hkp hj0 hjl => ?_⟩
  · dsimp only
    rw [if_neg hkp]
    by_cases hpi : (k - 1) / 2 = i
    · rw [if_pos hpi]
      by_cases hkj : k = j
      · rw [if_pos hkj]; omega
      · rw [if_neg hkj, if_neg (by omega)]
        exact hm k hk0 hkn hpi
    · rw [if_neg hpi]
      have h1 := h.1 k hk0 hkn hkl hpi
      have hkj : k ≠ j := by intro e; subst e; exact hpi hp
      rw [if_neg hkj]
      by_cases hki : k = i
      · rw [if_pos hki]
        have := h.2 j h0 hj hp (by omega) (by rw [hki] at hkl; exact hkl)
        rw [hki]; exact this
      · rw [if_neg hki]; exact h1
  · dsimp only
    rw [hp, if_neg (by omega), if_pos rfl, if_neg (by omega), if_neg (by omega)]
    have h1 := h.1 k hk0 hkn (by omega) (by omega)
    rw [hkp] at h1
    exact h1
theorem heapF_min {f : Nat → Nat} {m : Nat} (h : HeapF f m 0) : ∀ k, k < m → f 0 ≤ f k := by
  intro k
  induction k using Nat.strongRecOn with
  | ind k ih =>
    intro hk
    by_cases h0 : k = 0
    · subst h0; exact Nat.le_refl _
    · have h1 := ih ((k - 1) / 2) (by omega) (by omega)
      have h2 := h k (by omega) hk (Nat.zero_le _)
      omega

/-- All that is said of a queue: row, how many wait, places. -/
structure Rep (n : Nat) (hp : List Nat) (m : Nat) (pl : List Int) (r : RQ) : Prop where
  ok : r.Ok n
  pl : Pl n hp m pl r.wt 0
  heap : HeapF (hpK r.sc hp) m 0
  len : m = lenR r

theorem Rep.top {n : Nat} {hp : List Nat} {m : Nat} {pl : List Int} {r : RQ} (h : Rep n hp m pl r) (h0 : 0 < m) : IsNext r n (hp.getD 0 0) := by
  obtain ⟨a1, a2, a3, a4⟩ := h.pl.here 0 h0
  refine ⟨a1, a2, a4, fun u u1 u2 u3 u4 => ?_⟩
  obtain ⟨j, b1, b2, b3⟩ := h.pl.on u u1 u2 u3
  have h1 := heapF_min h.heap j b1
  have nm := h.ok.nm
  unfold hpK at h1
  rw [b3] at h1
  have : keyQ r.sc (hp.getD 0 0) ≠ keyQ r.sc u := fun e => u4 (key_inj (by omega) (by omega) e).symm
  omega

/-- 'Next', the order's part. -/
theorem down_next {sc hp : List Nat} {k u : Nat} (h : HeapF (hpK sc hp) (k + 1) 0) : DownF (vwK sc hp u 0) k 0 0 := by
  refine ⟨fun j h0 hj _ hp2 => ?_, fun j _ _ _ h0 => absurd h0 (by omega)⟩
  unfold vwK
  rw [if_neg hp2, if_neg (by omega)]
  exact h j h0 (by omega) (Nat.zero_le _)
/-- 'Back', the order's part. -/
theorem up_back {sc hp : List Nat} {m v : Nat} (h : HeapF (hpK sc hp) m 0) : UpF (vwK sc (hp.set m v) v m) (m + 1) m := by
  refine ⟨fun k h0 hk hne => ?_, fun k h0 hk hp => absurd hk (by omega)⟩
  unfold vwK
  rw [if_neg (by omega), if_neg hne, getD_setN _ _ _ _ _ (by omega), getD_setN _ _ _ _ _ hne]
  exact h k h0 (by omega) (Nat.zero_le _)
theorem key_set {sc : List Nat} {v u s : Nat} (h : u ≠ v) : keyQ (sc.set v s) u = keyQ sc u := by
  unfold keyQ; rw [getD_setN _ _ _ _ _ h]
theorem key_less {sc : List Nat} {v s : Nat} (h : sc.getD v 0 ≤ s) : keyQ (sc.set v s) v ≤ keyQ sc v := by
  unfold keyQ
  rw [getD_setQ]
  split <;> omega
/-- 'Bump', the order's part. -/
theorem up_bump {n : Nat} {hp : List Nat} {m : Nat} {pl : List Int} {r : RQ} (h : Rep n hp m pl r) {v i s : Nat} (hi : i < m) (hv : hp.getD i 0 = v) (hs : r.sc.getD v 0 ≤ s) : UpF (vwK (r.sc.set v s) hp v i) m i := by
  subst hv
  rw [vw_own]
  have ne : ∀ k, k < m → k ≠ i → hpK (r.sc.set (hp.getD i 0) s) hp k = hpK r.sc hp k := fun k hk e => key_set (h.pl.ne hk hi e)
  have le : hpK (r.sc.set (hp.getD i 0) s) hp i ≤ hpK r.sc hp i := key_less hs
  refine ⟨fun k h0 hk hki => ?_, fun k h0 hk hp2 hi0 => ?_⟩
  · have h1 := h.heap k h0 hk (Nat.zero_le _)
    rw [ne k hk hki]
    by_cases e : (k - 1) / 2 = i
    · rw [e] at h1 ⊢; omega
    · rw [ne _ (by omega) e]; exact h1
  · have h1 := h.heap k h0 hk (Nat.zero_le _)
    have h2 := h.heap i hi0 hi (Nat.zero_le _)
    rw [hp2] at h1
    rw [ne k hk (by omega), ne _ (by omega) (by omega)]
    omega
theorem heap_bump {n : Nat} {hp : List Nat} {m : Nat} {pl : List Int} {r : RQ} (h : Rep n hp m pl r) {v s : Nat} (hw : r.wt.getD v false = false) : HeapF (hpK (r.sc.set v s) hp) m 0 := by
  have ne : ∀ k, k < m → hpK (r.sc.set v s) hp k = hpK r.sc hp k := fun k hk => key_set (fun e => by have := (h.pl.here k hk).2.2.2; rw [e, hw] at this; cases this)
  intro k h0 hk _
  rw [ne k hk, ne _ (by omega)]
  exact h.heap k h0 hk (Nat.zero_le _)
/-- 'lessen', a round. -/
theorem heap_half (f : Nat → Nat) (m : Nat) : HeapF f m (m / 2) := fun k h0 hk hl => absurd hl (by omega)
theorem down_round {sc hp : List Nat} {m i : Nat} (h : HeapF (hpK sc hp) m (i + 1)) : DownF (vwK sc hp (hp.getD i 0) i) m i i := by
  rw [vw_own]
  exact ⟨fun k h0 hk hl hne => h k h0 hk (by omega), fun k h0 hk hp hi hl => absurd hl (by omega)⟩
end Go.Proofs.Ythedgbdnidghnaa
