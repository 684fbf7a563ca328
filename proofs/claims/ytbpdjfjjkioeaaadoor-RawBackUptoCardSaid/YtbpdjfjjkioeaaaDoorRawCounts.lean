/- raw.counts, and the law's 'great', by their contracts. -/
import Derived.Test.YtbpdjfjjkioeaaaDoorRawMay
namespace Go.Proofs.YtbpdjfjjkioeaaaDoor
open Go Go.RowKit Go.Joins

/-- A block of another type is not a row's own. -/
theorem Row.not_own {ok : Value → Prop} {w : World} {base : Nat} {e : TypeId} {v : Value} {n : Nat} {xs : List Value} (h : Row ok w base e v n xs) {D : Nat} {C : Array Value} {t : TypeId} {fr : Nat × Nat}
    (hD : w.heap[D]? = some (.cells C t fr)) (ht : t ≠ e) : v.ownBlock ≠ some D := by
  rcases h.2 with ⟨rfl, _⟩ | ⟨g, cap, cur, rfl, _, hg, _⟩
  · intro e; cases e
  · intro he
    have : g = D := by simpa [Value.ownBlock] using he
    subst this
    rw [hg] at hD
    cases hD
    exact ht rfl
theorem Row.other {ok : Value → Prop} {w w' : World} {base : Nat} {e : TypeId} {v : Value} {n : Nat} {xs : List Value} (h : Row ok w base e v n xs) (hk : ∀ k, v.ownBlock = some k → w'.heap[k]? = w.heap[k]?) : Row ok w' base e v n xs := by
  refine ⟨h.1, ?_⟩
  rcases h.2 with h2 | ⟨g, cap, cur, rfl, hb, hg, r⟩
  · exact .inl h2
  · exact .inr ⟨g, cap, cur, rfl, hb, (hk g rfl).trans hg, r⟩

theorem heap_lt {w : World} {D : Nat} {o : Obj} (h : w.heap[D]? = some o) : D < w.heap.size := (Array.getElem?_eq_some_iff.1 h).1
theorem heap_below {w w' : World} {D : Nat} {o : Obj} (h : w.heap[D]? = some o) (hb : Below w.heap.size w w') : w'.heap[D]? = some o := (hb.block D (heap_lt h)).trans h
theorem heap_grown {w w' : World} {D : Nat} {o : Obj} {row : Option Nat} (h : w.heap[D]? = some o) (hg : w.grownBy w' row) (hr : row ≠ some D) : w'.heap[D]? = some o := (hg.block D (heap_lt h) (fun e => hr e.symm)).trans h

theorem Row.made_at {ok : Value → Prop} {w : World} {base : Nat} {e : TypeId} (cur : Array Value) (m g cp : Nat) (xs : List Value) (hg : g = w.heap.size) (hcp : cp = cur.size) (hx : xs = cur.toList.take m) (hb : base ≤ w.heap.size) (hm : cur.size ≤ maxLen) (hn : m ≤ cur.size) (ho : ∀ u ∈ cur.toList, ok u) :
    Row ok (w.alloc (.cells cur e)) base e (.slice (some ⟨g, 0, none⟩) m cp) m xs := by
  subst hg; subst hcp; subst hx; exact Row.made cur m hb hm hn ho
theorem heap_new (w : World) (o : Obj) (g : Nat) (hg : g = w.heap.size) : (w.alloc o).heap[g]? = some o := by subst hg; exact heap_alloc_new _ _
def greatB (r : RawC) : Bool := decide (3000 < r.ins.length + r.lats.length + r.gates.length + r.outs.length + r.bads.length + r.cons.length)

theorem great_any (r : RawC) (s : Slots) (w : World) (h : SeesRaw w s r) (hf : s.fit) :
    Calls Tryd.prog 5 #[rawV r.max s] w fun e w' => e = .returned (.bool (greatB r)) ∧ Below w.heap.size w w' := by
  obtain ⟨a1, n1, c1, a2, n2, c2, a3, n3, c3, a4, n4, c4, a5, n5, c5, a6, n6, c6⟩ := s
  obtain ⟨hf1, hf2, hf3, hf4, hf5, hf6⟩ := hf
  simp only [lenMax] at hf1 hf2 hf3 hf4 hf5 hf6
  have e : decide ((3000 : Int) < (n1 : Int) + (n2 : Int) + (n6 : Int) + (n3 : Int) + (n4 : Int) + (n5 : Int)) = greatB r := by
    have l1 : r.ins.length = n1 := h.s1.lenMap
    have l2 : r.lats.length = n2 := h.s2.1
    have l3 : r.outs.length = n3 := h.s3.lenMap
    have l4 : r.bads.length = n4 := h.s4.lenMap
    have l5 : r.cons.length = n5 := h.s5.lenMap
    have l6 : r.gates.length = n6 := h.s6.1
    unfold greatB
    rw [l1, l2, l3, l4, l5, l6]
    apply decide_eq_decide.2; omega
  have E := Lib.hid e
  clear e h
  unfold rawV
  go_enter Tryd.func5, Tryd.ntmps5
  go_wp2
  go_ret
  exact ⟨congrArg (fun b => Ending.returned (.bool b)) E.out, ext_alloc _ _⟩

theorem take_snocN (l : List Nat) (k : Nat) (h : k < l.length) : l.take (k + 1) = l.take k ++ [l.getD k 0] := by
  rw [List.take_succ_eq_append_getElem h]
  simp [List.getD, List.getElem?_eq_getElem h]
/-- The six lengths, as counts has them. -/
def lensOf (r : RawC) : List Nat := [r.ins.length, r.lats.length, r.outs.length, r.gates.length, r.bads.length, r.cons.length]
def iv (n : Nat) : Value := .int .i64 (n : Int)

set_option maxRecDepth 100000 in
set_option maxHeartbeats 1600000 in
theorem counts_any (r : RawC) (s : Slots) (w : World) (h : SeesRaw w s r) (hm : r.max ≤ 16384) (hl : ∀ x ∈ lensOf r, x ≤ 16384) :
    Calls Tryd.prog 12 #[rawV r.max s] w fun e w' => ∃ a n c, e = .returned (.slice a n c) ∧ n ≤ 7 ∧ Sees w' a n c ((countsOf r).map nv32) ∧ Below w.heap.size w w' := by
  obtain ⟨i0, hi, hz0, hz1, hz2⟩ := info_parts info_u32
  obtain ⟨a1, n1, c1, a2, n2, c2, a3, n3, c3, a4, n4, c4, a5, n5, c5, a6, n6, c6⟩ := s
  have hle : lensOf r = [n1, n2, n3, n6, n4, n5] := by
    have l1 : r.ins.length = n1 := h.s1.lenMap
    have l2 : r.lats.length = n2 := h.s2.1
    have l3 : r.outs.length = n3 := h.s3.lenMap
    have l4 : r.bads.length = n4 := h.s4.lenMap
    have l5 : r.cons.length = n5 := h.s5.lenMap
    have l6 : r.gates.length = n6 := h.s6.1
    unfold lensOf
    rw [l1, l2, l3, l4, l5, l6]
  obtain ⟨m, hmm⟩ : ∃ m, m = r.max := ⟨_, rfl⟩
  rw [← hmm] at hm ⊢
  have hca : countsAll r = m :: lensOf r := by rw [hmm]; rfl
  rw [hle] at hl hca
  have b1 : n1 ≤ 16384 := hl _ (by simp)
  have b2 : n2 ≤ 16384 := hl _ (by simp)
  have b3 : n3 ≤ 16384 := hl _ (by simp)
  have b4 : n4 ≤ 16384 := hl _ (by simp)
  have b5 : n5 ≤ 16384 := hl _ (by simp)
  have b6 : n6 ≤ 16384 := hl _ (by simp)
  have HCA := Lib.hid hca
  have HM := Lib.hid hmm
  clear h hca hmm hl hle
  obtain ⟨A, hA⟩ : ∃ A, A = m :: [n1, n2, n3, n6, n4, n5] := ⟨_, rfl⟩
  have hAl : A.length = 7 := by rw [hA]; rfl
  have hget : ∀ k, k < 6 → (#[iv n1, iv n2, iv n3, iv n6, iv n4, iv n5] : Array Value)[k]? = some (.int .i64 ((A.getD (k + 1) 0 : Nat) : Int)) := by
    intro k hk
    rw [hA]
    match k, hk with
    | 0, _ => rfl
    | 1, _ => rfl
    | 2, _ => rfl
    | 3, _ => rfl
    | 4, _ => rfl
    | 5, _ => rfl
  have hle : ∀ k, A.getD k 0 ≤ 16384 := by
    intro k
    rw [hA]
    match k with
    | 0 => exact hm
    | 1 => exact b1
    | 2 => exact b2
    | 3 => exact b3
    | 4 => exact b6
    | 5 => exact b4
    | 6 => exact b5
    | k + 7 => simp [List.getD]
  have hco : countsOf r = if n5 = 0 then (if n4 = 0 then A.take 5 else A.take 6) else A := by
    have e5 : r.cons.length = n5 := by
      have h := congrArg (fun l : List Nat => l.getD 6 0) HCA.out
      exact h
    have e4 : r.bads.length = n4 := by
      have h := congrArg (fun l : List Nat => l.getD 5 0) HCA.out
      exact h
    unfold countsOf
    rw [HCA.out, e5, e4, ← hA]
  have HCO := Lib.hid hco
  have HG := Lib.hid hget
  have HLE := Lib.hid hle
  have HAL := Lib.hid hAl
  have HA := Lib.hid hA
  clear hget hle hAl hA hco
  unfold rawV
  go_enter Tryd.func12, Tryd.ntmps12
  go_wp2
  go_loopw [3, 5, 29] (fun v nn i wr => ∃ k : Nat, k ≤ 6 ∧ i = .int .i64 k ∧ Hid (Row isU32 wr w.heap.size 22 v (k + 1) ((A.take (k + 1)).map nv32)) ∧
      Hid (wr.heap[w.heap.size + 1 + 1]? = some (.cells #[iv n1, iv n2, iv n3, iv n6, iv n4, iv n5] 3 (0, 0))) ∧ Hid (Below w.heap.size w wr))
    (fun _ _ i _ => 6 - (intOf i).toNat)
  case atStart =>
    refine ⟨0, by omega, rfl, ?_, ?_, ?_⟩
    · have e : (A.take 1).map nv32 = [nv32 m] := by rw [HA.out]; rfl
      show Row _ _ _ _ _ _ _
      rw [Nat.zero_add, e]
      exact (Row.made_at (ok := isU32) (base := w.heap.size) #[nv32 m] 1 (w.heap.size + 1) 1 [nv32 m] (by simp) rfl rfl (by simp) (by simp [maxLen]) (by simp) (fun u hu => ⟨m, by omega, by simpa using hu⟩)).below (ext_alloc _ _)
    · show _ = _
      exact heap_new _ _ _ (by simp)
    · exact ext_trans (ext_alloc _ _) (ext_trans (ext_alloc _ _) (ext_alloc _ _))
  case round =>
    obtain ⟨k, hk, rfl, hrow, hD, hbel⟩ := hrel
    by_cases hlt : k < 6
    · have hcx := (cell_of_block hD.out k).trans (HG.out k hlt)
      have hx := HLE.out (k + 1)
      obtain ⟨x, hxx⟩ : ∃ x, x = A.getD (k + 1) 0 := ⟨_, rfl⟩
      rw [← hxx] at hcx hx
      have HX := Lib.hid hxx
      clear hxx
      obtain ⟨L, hL⟩ : ∃ L, L = (A.take (k + 1)).map nv32 := ⟨_, rfl⟩
      rw [← hL] at hrow
      have HLL := Lib.hid hL
      clear hL
      have W1 : IntKind.i64.wrap ((k : Int) + 1) = (k : Int) + 1 := IntWalk.i64_in _ (by omega)
      go_wp2_with (at_builtin; refine wpList_append_row isU32 _ rfl _ _ 23 rfl w.heap.size 22 i0 (.int .u32 0) 4 Tryd.underlying23 hi hz0 hz1 hz2 rfl ⟨0, by omega, rfl⟩ _ _ _ rfl (hrow.out.below (ext_alloc _ _)) (some ⟨wr.heap.size, 0, none⟩) 1 1 [nv32 x] rfl (sees_one _ _ _) ?c1 ?c2 ?c4 ?c5 ?c6 ?_)
      case c1 => intro u hu; simp at hu; subst hu; rfl
      case c2 => intro u hu; simp at hu; subst hu; exact ⟨x, by omega, rfl⟩
      case c4 => unfold maxLen; omega
      case c5 => omega
      case c6 => have := hbel.out.size; simp; omega
      intro v' w1 hrow1 hgrow1 _
      have hno := (hrow.out.below (ext_alloc wr (.cells #[nv32 x] 22))).not_own (heap_below hD.out (ext_alloc wr (.cells #[nv32 x] 22))) (by decide)
      have hD1 := heap_grown (heap_below hD.out (ext_alloc wr (.cells #[nv32 x] 22))) hgrow1 hno
      have hb1 : Below w.heap.size w w1 := (hbel.out.alloc (by have := hbel.out.size; omega) _).grown hgrow1 (by have := hbel.out.size; simp; omega) (fun k hk => (hrow.out.own.lt k hk).1)
      have R1 : Hid (Row isU32 w1 w.heap.size 22 v' (k + 1 + 1) ((A.take (k + 1 + 1)).map nv32)) := by
        have e : (A.take (k + 1 + 1)).map nv32 = L ++ [nv32 x] := by rw [HLL.out, take_snocN A (k + 1) (by rw [HAL.out]; omega), HX.out]; simp
        show Row _ _ _ _ _ _ _
        rw [e]; exact hrow1
      have D1 := Lib.hid hD1
      have B1 := Lib.hid hb1
      clear hrow1 hgrow1 hno hD1 hb1 hcx
      go_wp2
      go_roundw
      case rel => exact ⟨k + 1, by omega, by go_num, R1, D1, B1⟩
      case measure => simp [intOf]; omega
    · have hk6 : k = 6 := by omega
      subst hk6
      obtain ⟨a, c, rfl, hc, see⟩ := hrow.out.sees
      have eA : A.take 7 = A := List.take_of_length_le (by rw [HAL.out]; exact Nat.le_refl _)
      have see' : Sees wr a 7 c (A.map nv32) := by
        rw [show (6 : Nat) + 1 = 7 from rfl, eA] at see; exact see
      obtain ⟨b, off, rfl, hbw⟩ := see'.addr (by omega)
      have hc7 := see'.cap
      have x6 := see'.num 6 (by omega)
      have x5 := see'.num 5 (by omega)
      have y6 : A.getD 6 0 = n5 := by rw [HA.out]; rfl
      have y5 : A.getD 5 0 = n4 := by rw [HA.out]; rfl
      rw [y6] at x6
      rw [y5] at x5
      obtain ⟨a1', ec1, see1⟩ := see'.cut 0 6 (by omega) (by omega)
      have ec1' : sliced (some ⟨b, off, .none⟩) 0 6 c 1 = .slice a1' 6 c := ec1
      have see1' : Sees wr a1' 6 c ((A.take 6).map nv32) := by rw [List.map_take]; exact see1
      obtain ⟨b', off', rfl, hbw'⟩ := see1'.addr (by omega)
      have x5' := see1'.num 5 (by omega)
      have y5' : (A.take 6).getD 5 0 = n4 := by rw [HA.out]; rfl
      rw [y5'] at x5'
      obtain ⟨a2', ec2, see2⟩ := see1'.cut 0 5 (by omega) (by omega)
      have ec2' : sliced (some ⟨b', off', .none⟩) 0 5 c 1 = .slice a2' 5 c := ec2
      have see2' : Sees wr a2' 5 c ((A.take 5).map nv32) := by
        have e : (A.take 5).map nv32 = List.drop 0 (List.take 5 ((A.take 6).map nv32)) := by rw [HA.out]; rfl
        rw [e]; exact see2
      have q1 := fun W => (run_upto (P := Tryd.prog) Tryd.underlying23 size_u32 W (some ⟨b, off, none⟩) 7 c 6 6 rfl (by omega)).trans (congrArg (fun v => Result.ok v W) ec1')
      have q2 := fun W => (run_upto (P := Tryd.prog) Tryd.underlying23 size_u32 W (some ⟨b', off', none⟩) 6 c 5 5 rfl (by omega)).trans (congrArg (fun v => Result.ok v W) ec2')
      have S0 := Lib.hid see'
      have S1 := Lib.hid see1'
      have S2 := Lib.hid see2'
      clear ec1 ec2 ec1' ec2' see see' see1 see1' see2 see2' y6 y5 y5' eA
      by_cases z5 : n5 = 0
      · by_cases z4 : n4 = 0
        · subst z5
          subst z4
          have eC : countsOf r = A.take 5 := by rw [HCO.out]; simp
          have EC := Lib.hid eC
          clear eC
          go_wp2
          refine wp_loop_rounds 3 ?_
          rw [rounds_succ]
          go_wp2
          rw [rounds_succ]
          go_wp2
          rw [rounds_succ]
          go_wp2
          go_ret
          exact ⟨a2', 5, c, rfl, by omega, by rw [EC.out]; exact S2.out, hbel.out⟩
        · subst z5
          have eC : countsOf r = A.take 6 := by rw [HCO.out]; simp [z4]
          have EC := Lib.hid eC
          have e4 : ((n4 : Int) == 0) = false := by simp; omega
          have Z4 := Lib.hid z4
          clear eC z4
          go_wp2
          refine wp_loop_rounds 3 ?_
          rw [rounds_succ]
          go_wp2
          rw [rounds_succ]
          go_wp2
          go_ret
          exact ⟨_, 6, c, rfl, by omega, by rw [EC.out]; exact S1.out, hbel.out⟩
      · have eC : countsOf r = A := by rw [HCO.out]; simp [z5]
        have EC := Lib.hid eC
        have e5 : ((n5 : Int) == 0) = false := by simp; omega
        have Z5 := Lib.hid z5
        clear eC z5
        go_wp2
        refine wp_loop_rounds 3 ?_
        rw [rounds_succ]
        go_wp2
        go_ret
        exact ⟨_, 7, c, rfl, by omega, by rw [EC.out]; exact S0.out, hbel.out⟩
end Go.Proofs.YtbpdjfjjkioeaaaDoor
