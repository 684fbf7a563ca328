/- The tallies' laws on plain lists; inquestref00.Ints of lists of any length. -/
import Derived.Test.YtionibckeicncaaLib
import Derived.Test.YtionibckeicncaaNTrace
import Derived.Test.YtionibckeicncaaCuPure
import Derived.Test.YtionibckeicncaaCuInts
import Derived.Test.YtionibckeicncaaEnInts
import Derived.Test.YtionibckeicncaaTaP
import Derived.Test.YtionibckeicncaaTaQ
import Derived.Test.YtionibckeicncaaTaC
import Derived.Test.YtionibckeicncaaTaA
import Derived.Test.YtionibckeicncaaTaS
import Derived.Test.YtionibckeicncaaRows
import Derived.Test.YtionibckeicncaaShelf
import Derived.BigQuiet
import Derived.Deep.AppendLies
import Derived.Deep.CutRange
import Derived.Deep.QuietTactic
import Derived.Deep.RegionHeld3
import Derived.Deep.RegionLaw
import Derived.Deep.RegionWith
import Derived.KernelRfl
import Derived.Laws.EntriesVeiled
import Derived.Laws.Tables
import Derived.Lib.ConvBytes
import Derived.Lib.Hide
import Derived.Lib.SlBytesRow
import Derived.Lib.SlicesCompact
import Derived.Lib.SmallJoins
import Derived.Maps.AppendAt
import Derived.OrdersHeld
import Derived.Shelf.Bytes.SlSmallAll
import Derived.Sort.Statements
import Derived.WalkKit
import Derived.WalkLawsBesides
import Derived.WalkSpells
namespace Go.Proofs.Ytionibckeicncaa
open Go Go.RowKit Go.Joins

set_option maxRecDepth 100000 in
set_option maxHeartbeats 1600000 in
theorem intsT_any (L L' : List Int) (a a' : Option Addr) (n n' c c' : Nat) (w : World) (h : Sees w a n c (zvs L)) (h' : Sees w a' n' c' (zvs L')) (hn : n ≤ 4611686018427387904) (hn' : n' ≤ 4611686018427387904) :
    Calls Try.prog 7 #[.slice a n c, .slice a' n' c'] w fun e w' => e = .returned (.bool (decide (L = L'))) ∧ w' = w := by
  have H := Lib.hid h
  have H' := Lib.hid h'
  have hl := h.zlen
  have hl' := h'.zlen
  have HL := Lib.hid hl
  have HL' := Lib.hid hl'
  clear h h' hl hl'
  obtain ⟨r, hr⟩ : ∃ r, r = decide (L = L') := ⟨_, rfl⟩
  rw [← hr]
  have HR := Lib.hid hr
  clear hr
  go_enter Try.func7, Try.ntmps7
  go_wp2
  go_loopw [9, 5, 6] (fun i _ _ wr => ∃ k : Nat, k ≤ n ∧ i = .int .i64 k ∧ Hid (wr = w) ∧ Hid (k ≤ n' ∧ L.take k = L'.take k)) (fun i _ _ _ => n - (intOf i).toNat)
  case atStart => exact ⟨0, Nat.zero_le _, rfl, rfl, Nat.zero_le _, rfl⟩
  case round =>
    obtain ⟨k, hk, rfl, hw, hS⟩ := hrel
    obtain rfl := hw.out.symm
    clear hw
    by_cases hlt : k < n
    · obtain ⟨b1, o1, rfl, _⟩ := H.out.addr (show 0 < n by omega)
      have hc1 := H.out.z_at k hlt
      by_cases hlt2 : k < n'
      · obtain ⟨b2, o2, rfl, _⟩ := H'.out.addr (show 0 < n' by omega)
        have hc2 := H'.out.z_at k hlt2
        have hnx := fun (e : L.getD k 0 = L'.getD k 0) => take_eq_next hS.out.2 (by rw [HL.out]; exact hlt) (by rw [HL'.out]; exact hlt2) e
        have hno : L.getD k 0 ≠ L'.getD k 0 → r = false := fun e => by
          rw [HR.out]
          simp only [decide_eq_false_iff_not]
          intro e2
          exact e (by rw [e2])
        obtain ⟨x, hx⟩ : ∃ x, x = L.getD k 0 := ⟨_, rfl⟩
        obtain ⟨y, hy⟩ : ∃ y, y = L'.getD k 0 := ⟨_, rfl⟩
        rw [← hx] at hc1
        rw [← hy] at hc2
        rw [← hx, ← hy] at hnx hno
        have hI1 : ((k : Nat) : Int) < (n' : Int) := by omega
        have hI2 : (0 : Int) ≤ (k : Int) := by omega
        have hI3 : ((k : Nat) : Int) < (n : Int) := by omega
        have d1 : decide ((n' : Int) ≤ (k : Int)) = false := by simp; omega
        have d2 : decide (n' ≤ k) = false := by simp; omega
        have W1 : IntKind.i64.wrap ((k : Int) + 1) = (k : Int) + 1 := IntWalk.i64_in _ (by omega)
        by_cases e : x = y
        · subst e
          have HNX : Hid (k + 1 ≤ n' ∧ L.take (k + 1) = L'.take (k + 1)) := ⟨hlt2, hnx rfl⟩
          clear hx hy hnx hno hS
          go_wp2
          go_roundw
          case rel => exact ⟨k + 1, by omega, by go_num, trivial, HNX.out⟩
          case measure => simp [intOf]; omega
        · have HRF := Lib.hid (hno e)
          have e1 : (y == x) = false := by simp; exact fun h => e h.symm
          have e2 : (y != x) = true := by simp [bne, e1]
          clear hx hy hnx hno hS e
          go_wp2
          go_ret
          exact ⟨by rw [HRF.out]; rfl, rfl⟩
      · have HRF : Hid (r = false) := by
          show _ = _
          rw [HR.out]
          simp only [decide_eq_false_iff_not]
          intro e2
          have h1 := HL.out
          have h2 := HL'.out
          rw [e2] at h1
          omega
        have d1 : decide ((n' : Int) ≤ (k : Int)) = true := by simp; omega
        have d2 : decide (n' ≤ k) = true := by simp; omega
        have hI2 : (0 : Int) ≤ (k : Int) := by omega
        have hI3 : ((k : Nat) : Int) < (n : Int) := by omega
        clear hS
        go_wp2
        go_ret
        exact ⟨by rw [HRF.out]; rfl, rfl⟩
    · obtain rfl : n = k := by omega
      have HRE : Hid (r = decide (n = n')) := by
        show _ = _
        rw [HR.out]
        have h1 := HL.out
        have h2 := HL'.out
        have h3 := hS.out
        by_cases e : n = n'
        · have e2 : L = L' := by
            have := h3.2
            rwa [← h1, List.take_length, h1, e, ← h2, List.take_length] at this
          rw [decide_eq_true e2, decide_eq_true e]
        · have e2 : L ≠ L' := fun e2 => e (by rw [← h1, ← h2, e2])
          rw [decide_eq_false e2, decide_eq_false e]
      clear hS
      have e1 : ((n : Int) == (n' : Int)) = decide (n = n') := by rw [Bool.eq_iff_iff]; simp; omega
      have e2 : (n == n') = decide (n = n') := by rw [Bool.eq_iff_iff]; simp
      go_wp2
      go_ret
      exact ⟨by rw [HRE.out]; first | rfl | (congr 3; first | exact e1 | exact e2), rfl⟩

theorem said_mem {M : List Bool} {x : Int} : ∀ {k : Nat}, x ∈ saidL M k ↔ ∃ j, 1 ≤ j ∧ j ≤ k ∧ x = if M.getD j false then (j : Int) else -(j : Int)
  | 0 => by simp [saidL]; intro j h1 h2; omega
  | k + 1 => by
    rw [saidL, List.mem_append, said_mem (k := k), List.mem_singleton]
    constructor
    · rintro (⟨j, h1, h2, h3⟩ | h)
      · exact ⟨j, h1, by omega, h3⟩
      · exact ⟨k + 1, by omega, Nat.le_refl _, h⟩
    · rintro ⟨j, h1, h2, h3⟩
      by_cases e : j = k + 1
      · subst e; exact .inr h3
      · exact .inl ⟨j, h1, by omega, h3⟩
theorem said_lt {M : List Bool} {k : Nat} {x : Int} (h : x ∈ saidL M k) : x ≠ 0 ∧ x.natAbs ≤ k := by
  obtain ⟨j, h1, h2, rfl⟩ := said_mem.1 h
  split <;> exact ⟨by omega, by omega⟩
theorem true_lit {M : List Bool} {j : Nat} (h1 : 1 ≤ j) (h2 : j < M.length) : trueS M (j : Int) = M.getD j false := by
  unfold trueS
  rw [Int.natAbs_natCast, decide_eq_true (show 0 < j by omega), decide_eq_true h2, decide_eq_true (show (0 : Int) < (j : Int) by omega)]
  simp
/-- The literals that a model says hold in it. -/
theorem said_true {M E : List Bool} {k : Nat} (hk : k < M.length) : ∀ x ∈ saidL M k, trueS (M ++ E) x = true := by
  intro x hx
  have hl := said_lt hx
  rw [trueS_app (by omega)]
  obtain ⟨j, h1, h2, rfl⟩ := said_mem.1 hx
  have ht := true_lit h1 (show j < M.length by omega)
  cases hq : M.getD j false with
  | true => simp only [if_true]; rw [ht, hq]
  | false =>
    simp only [Bool.false_eq_true, if_false]
    rw [trueS_neg ⟨by omega, by omega⟩, ht, hq]
    rfl
/-- A model in which they hold is the same below. -/
theorem said_same {M M' : List Bool} {k : Nat} (h2 : k < M'.length) (h : ∀ x ∈ saidL M k, trueS M' x = true) : ∀ j, 1 ≤ j → j ≤ k → M'.getD j false = M.getD j false := by
  intro j h3 h4
  have hx := h _ (said_mem.2 ⟨j, h3, h4, rfl⟩)
  have ht := true_lit (M := M') h3 (by omega)
  cases hq : M.getD j false with
  | true => rw [hq] at hx; simp only [if_true] at hx; rw [← ht]; exact hx
  | false =>
    rw [hq] at hx
    simp only [Bool.false_eq_true, if_false] at hx
    rw [trueS_neg ⟨by omega, by omega⟩, ht] at hx
    cases hm : M'.getD j false with
    | false => rfl
    | true => rw [hm] at hx; cases hx
theorem same_true {M M' : List Bool} {k : Nat} (h1 : k < M.length) (h2 : k < M'.length) (h : ∀ j, 1 ≤ j → j ≤ k → M'.getD j false = M.getD j false) {x : Int} (hx : Lt (k + 1) x) : trueS M' x = trueS M x := by
  obtain ⟨h0, hl⟩ := hx
  unfold trueS
  rw [decide_eq_true (show x.natAbs < M'.length by omega), decide_eq_true (show x.natAbs < M.length by omega), h x.natAbs (by omega) (by omega)]
theorem same_count {M M' : List Bool} {k : Nat} (h1 : k < M.length) (h2 : k < M'.length) (h : ∀ j, 1 ≤ j → j ≤ k → M'.getD j false = M.getD j false) : ∀ {l : List Int}, (∀ x ∈ l, Lt (k + 1) x) → l.countP (trueS M') = l.countP (trueS M)
  | [], _ => rfl
  | a :: r, hl => by rw [List.countP_cons, List.countP_cons, same_true h1 h2 h (hl a (List.mem_cons_self ..)), same_count h1 h2 h (fun x hx => hl x (List.mem_cons_of_mem _ hx))]
/-- What the laws stand on: literals of variables up to V, few of them. -/
structure TalF (lits : List Int) (V most : Nat) (T : Tly) (v : Nat) : Prop where
  nx : T.next = v + 1
  few : v ≤ 100 ∧ V ≤ v
  may1 : mayS T.cls (v : Int) = true
  may2 : mayS [T.out] (v : Int) = true
  small : SmallZ T.cls
  ncls : T.cls.length ≤ 1000
  len : T.out.length = min lits.length most
  ninf : lits.length ≤ 8
  outs : ∀ x ∈ T.out, Lt T.next x
  yes : ∀ M : List Bool, M.length = V + 1 → CanP T.cls (saidL M V) v
  no : ∀ M : List Bool, M.length = V + 1 → ∀ i, i < T.out.length → ¬ CanP T.cls (saidL M V ++ [if i < lits.countP (trueS M) then -(T.out.getD i 0) else T.out.getD i 0]) v
  bar : ∀ M : List Bool, M.length = V + 1 → ∀ k, (CanP T.cls (saidL M V ++ (if k < T.out.length then [-(T.out.getD k 0)] else [])) v ↔ lits.countP (trueS M) ≤ k) ∨ ¬ (k < most)
theorem mayG {G : List Int} {v : Nat} (hv : v ≤ 100) (hl : G.length ≤ 1000) (h : ∀ x ∈ G, x ≠ 0 ∧ x.natAbs ≤ v) : mayS [G] (v : Int) = true := by
  rw [mayS_iff]
  refine ⟨by omega, by omega, by simp, fun c hc => ?_⟩
  obtain rfl := List.mem_singleton.1 hc
  exact ⟨by omega, fun x hx => by have := h x hx; exact ⟨this.1, by omega, by omega⟩⟩
theorem talF {lits : List Int} {V most : Nat} (hV : V ≤ 6) (hn : lits.length ≤ 8) (hl : ∀ x ∈ lits, Lt (V + 1) x) : TalF lits V most (outsF lits.length most lits (V + 1)) ((outsF lits.length most lits (V + 1)).next - 1) := by
  have hsz := outsF_size lits.length most lits (V + 1) (by omega)
  have hle := sizeF_le lits.length lits.length most
  have hnn : lits.length * lits.length ≤ 8 * 8 := Nat.mul_le_mul hn hn
  have hlt := outsF_lt lits.length most lits (V + 1) (by omega) (by omega) hl
  have hln := outsF_len lits.length most lits (V + 1) (by omega)
  have hso := outs_sound lits.length most lits (V + 1)
  have hex := outs_exist lits.length most lits (V + 1)
  obtain ⟨T, hT⟩ : ∃ T, T = outsF lits.length most lits (V + 1) := ⟨_, rfl⟩
  rw [← hT] at hsz hlt hln ⊢
  simp only [← hT] at hso hex
  obtain ⟨v, hv⟩ : ∃ v, v = T.next - 1 := ⟨_, rfl⟩
  rw [← hv]
  have e1 : T.next = v + 1 := by omega
  have hm1 : mayS T.cls (v : Int) = true := by
    rw [mayS_iff]
    refine ⟨by omega, by omega, by omega, fun c hc => ?_⟩
    have h1 := hlt.2 c hc
    exact ⟨by omega, fun x hx => by have := h1.2 x hx; unfold Lt at this; exact ⟨this.1, by omega, by omega⟩⟩
  have hsaid : ∀ M : List Bool, ∀ x ∈ saidL M V, x ≠ 0 ∧ x.natAbs ≤ v := fun M x hx => by have := said_lt hx; exact ⟨this.1, by omega⟩
  have hout : ∀ i, i < T.out.length → Lt T.next (T.out.getD i 0) := fun i hi => hlt.1 _ (getD_memT hi)
  have key : ∀ M M' : List Bool, M.length = V + 1 → M'.length = v + 1 → holdsS T.cls M' = true → (∀ x ∈ saidL M V, trueS M' x = true) → ∀ i, i < T.out.length → trueS M' (T.out.getD i 0) = decide (i < lits.countP (trueS M)) := by
    intro M M' lM lM' hL hS i hi
    have hag := said_same (M := M) (M' := M') (k := V) (by omega) hS
    have := hso M' (by omega) (by omega) hl (by omega) (fun c hc => by
      unfold holdsS at hL
      exact List.all_eq_true.1 hL c hc) i hi
    rw [this, same_count (M := M) (M' := M') (k := V) (by omega) (by omega) hag hl]
  refine ⟨e1, ⟨by omega, by omega⟩, hm1, mayG (by omega) (by omega) (fun x hx => by have := hlt.1 x hx; unfold Lt at this; exact ⟨this.1, by omega⟩), fun c hc => by have := hlt.2 c hc; omega, by omega, hln, hn, hlt.1, ?_, ?_, ?_⟩
  · intro M lM
    obtain ⟨E, h1, h2⟩ := hex M (by omega) (by omega) hl lM
    refine ⟨hm1, mayG (by omega) (by rw [saidL_len]; omega) (hsaid M), M ++ E, by omega, ?_, said_true (by omega)⟩
    unfold holdsS
    exact List.all_eq_true.2 h2
  · rintro M lM i hi ⟨_, _, M', lM', hL, hG⟩
    have hk := key M M' lM lM' hL (fun x hx => hG x (List.mem_append.2 (.inl hx))) i hi
    have hx := hG _ (List.mem_append.2 (.inr (List.mem_singleton.2 rfl)))
    by_cases q : i < lits.countP (trueS M)
    · rw [if_pos q, trueS_neg (by rw [lM', ← e1]; exact hout i hi), hk, decide_eq_true q] at hx
      cases hx
    · rw [if_neg q, hk, decide_eq_false q] at hx
      cases hx
  · intro M lM k
    by_cases hkm : k < most
    · refine .inl ?_
      by_cases hk : k < T.out.length
      · rw [if_pos hk]
        constructor
        · rintro ⟨_, _, M', lM', hL, hG⟩
          have hkk := key M M' lM lM' hL (fun x hx => hG x (List.mem_append.2 (.inl hx))) k hk
          have hx := hG _ (List.mem_append.2 (.inr (List.mem_singleton.2 rfl)))
          rw [trueS_neg (by rw [lM', ← e1]; exact hout k hk), hkk] at hx
          by_cases q : k < lits.countP (trueS M)
          · rw [decide_eq_true q] at hx; cases hx
          · omega
        · intro hc
          obtain ⟨E, h1, h2⟩ := hex M (by omega) (by omega) hl lM
          have hL : holdsS T.cls (M ++ E) = true := by unfold holdsS; exact List.all_eq_true.2 h2
          have hS := said_true (M := M) (E := E) (k := V) (by omega)
          have hkk := key M (M ++ E) lM (by omega) hL hS k hk
          refine ⟨hm1, mayG (by omega) (by rw [List.length_append, saidL_len]; simp; omega) (fun x hx => ?_), M ++ E, by omega, hL, fun x hx => ?_⟩
          · rcases List.mem_append.1 hx with hx | hx
            · exact hsaid M x hx
            · obtain rfl := List.mem_singleton.1 hx
              have := (hout k hk).neg
              unfold Lt at this
              exact ⟨this.1, by omega⟩
          · rcases List.mem_append.1 hx with hx | hx
            · exact hS x hx
            · obtain rfl := List.mem_singleton.1 hx
              rw [trueS_neg (by rw [show (M ++ E).length = T.next by omega]; exact hout k hk), hkk, decide_eq_false (by omega)]
              rfl
      · rw [if_neg hk, List.append_nil]
        have hcl := List.countP_le_length (p := trueS M) (l := lits)
        constructor
        · intro _; omega
        · intro _
          obtain ⟨E, h1, h2⟩ := hex M (by omega) (by omega) hl lM
          refine ⟨hm1, mayG (by omega) (by rw [saidL_len]; omega) (hsaid M), M ++ E, by omega, ?_, said_true (by omega)⟩
          unfold holdsS
          exact List.all_eq_true.2 h2
    · exact .inr hkm
end Go.Proofs.Ytionibckeicncaa
