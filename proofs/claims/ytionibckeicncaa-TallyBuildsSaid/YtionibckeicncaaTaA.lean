/- inquestref13: open, more; inquestlaw15: said, hold; by their contracts. -/
import Derived.Test.YtionibckeicncaaLib
import Derived.Test.YtionibckeicncaaOwn
import Derived.Test.YtionibckeicncaaNBase
import Derived.Test.YtionibckeicncaaCuPure
import Derived.Test.YtionibckeicncaaCuInts
import Derived.Test.YtionibckeicncaaCuInv
import Derived.Test.YtionibckeicncaaCuHolds
import Derived.Test.YtionibckeicncaaCuRefA
import Derived.Test.YtionibckeicncaaTaRM
import Derived.Test.YtionibckeicncaaTaC
import Derived.Test.YtionibckeicncaaRows
import Derived.Test.YtionibckeicncaaShelf
import Derived.BigQuiet
import Derived.Deep.AppendLies
import Derived.Deep.QuietTactic
import Derived.Deep.RegionLaw
import Derived.Deep.RegionWith
import Derived.KernelRfl
import Derived.Laws.EntriesVeiled
import Derived.Lib.ConvBytes
import Derived.Lib.Hide
import Derived.Lib.SlBytesRow
import Derived.Lib.SlicesCompact
import Derived.Lib.SmallJoins
import Derived.Shelf.Bytes.SlSmallAll
import Derived.Sort.Statements
import Derived.WalkKit
import Derived.WalkLawsBesides
import Derived.WalkSpells
namespace Go.Proofs.Ytionibckeicncaa
open Go Go.RowKit Go.Joins

theorem any_takeT {p : Int → Bool} {l : List Int} {k : Nat} (h : k < l.length) : (l.take (k + 1)).any p = ((l.take k).any p || p (l.getD k 0)) := by
  rw [take_snocZ l k h, List.any_append]
  simp
def meetV (v : Nat) (y : Int) : Bool := (y == (v : Int)) || (y == -(v : Int))
theorem open_iff (G : List Int) (v : Nat) : openV G v = !G.any (meetV v) := by
  unfold openV
  congr 1
  rw [Bool.eq_iff_iff, Bool.or_eq_true, List.any_eq_true]
  simp only [List.contains_iff_mem, meetV, Bool.or_eq_true, beq_iff_eq]
  constructor
  · rintro (h | h)
    · exact ⟨_, h, .inl rfl⟩
    · exact ⟨_, h, .inr rfl⟩
  · rintro ⟨y, h, rfl | rfl⟩
    · exact .inl h
    · exact .inr h
set_option maxRecDepth 100000 in
set_option maxHeartbeats 3200000 in
theorem refOpen_any (G : List Int) (vars : Nat) (a : Option Addr) (n c : Nat) (w : World) (h : Sees w a n c (zvs G)) (hn : n ≤ 100000000) (hv : vars ≤ 100000) :
    Calls Try.prog 21 #[.slice a n c, .int .i64 vars] w fun e w' => (∃ v : Nat, e = .returned (.int .i64 v) ∧ ((v = 0 ∧ ∀ u, 1 ≤ u → u ≤ vars → openV G u = false) ∨ (1 ≤ v ∧ v ≤ vars ∧ openV G v = true))) ∧ w' = w := by
  have HS := Lib.hid h
  have HL := Lib.hid h.zlen
  clear h
  go_enter Try.func21, Try.ntmps21
  go_wp2
  go_loop [5] (fun i => ∃ v : Nat, 1 ≤ v ∧ v ≤ vars + 1 ∧ i = .int .i64 v ∧ Hid (∀ u, 1 ≤ u → u < v → openV G u = false)) (fun i => vars + 1 - (intOf i).toNat)
  case atStart => exact ⟨1, Nat.le_refl _, by omega, rfl, fun u h1 h2 => absurd h2 (by omega)⟩
  case round =>
    obtain ⟨v, hv1, hv2, rfl, hN⟩ := hrel
    by_cases hlt : v ≤ vars
    · have d1 : decide ((v : Int) ≤ (vars : Int)) = true := by simp; omega
      have d2 : decide (v ≤ vars) = true := by simpa using hlt
      have WN : IntKind.i64.wrap (-(v : Int)) = -(v : Int) := IntWalk.i64_in _ (by omega)
      have W2 : IntKind.i64.wrap ((v : Int) + 1) = (v : Int) + 1 := IntWalk.i64_in _ (by omega)
      have HLT := Lib.hid hlt
      go_wp2_with fail
      go_loop [7, 6] (fun j b => ∃ k : Nat, k ≤ n ∧ j = .int .i64 k ∧ b = .bool ((G.take k).any (meetV v))) (fun j _ => n - (intOf j).toNat)
      case atStart => exact ⟨0, Nat.zero_le _, rfl, by simp⟩
      case round =>
        obtain ⟨k, hk, rfl, rfl⟩ := hrel
        by_cases hlk : k < n
        · obtain ⟨b, off, rfl, _⟩ := HS.out.addr (show 0 < n by omega)
          have hc := HS.out.z_at k hlk
          have hnx : (G.take (k + 1)).any (meetV v) = ((G.take k).any (meetV v) || meetV v (G.getD k 0)) := any_takeT (by rw [HL.out]; exact hlk)
          obtain ⟨y, hy⟩ : ∃ y, y = G.getD k 0 := ⟨_, rfl⟩
          rw [← hy] at hc hnx
          obtain ⟨A, hA⟩ : ∃ A, A = (G.take k).any (meetV v) := ⟨_, rfl⟩
          rw [← hA] at hnx ⊢
          have HNX := Lib.hid hnx
          have hI1 : ((k : Nat) : Int) < (n : Int) := by omega
          have hI2 : (0 : Int) ≤ (k : Int) := by omega
          have W1 : IntKind.i64.wrap ((k : Int) + 1) = (k : Int) + 1 := IntWalk.i64_in _ (by omega)
          clear hnx hA hy
          cases A with
          | true =>
            have HN2 : Hid ((G.take (k + 1)).any (meetV v) = true) := by show _ = _; rw [HNX.out]; rfl
            go_wp2
            go_round
            case rel => exact ⟨k + 1, by omega, by go_num, by rw [HN2.out] <;> rfl⟩
            case measure => simp [intOf]; omega
          | false =>
            cases hq1 : (y == (v : Int)) with
            | true =>
              have HN2 : Hid ((G.take (k + 1)).any (meetV v) = true) := by show _ = _; rw [HNX.out]; unfold meetV; rw [hq1]; rfl
              go_wp2
              go_round
              case rel => exact ⟨k + 1, by omega, by go_num, by rw [HN2.out] <;> rfl⟩
              case measure => simp [intOf]; omega
            | false =>
              obtain ⟨q2, hq2⟩ : ∃ q, q = (y == -(v : Int)) := ⟨_, rfl⟩
              have HN2 : Hid ((G.take (k + 1)).any (meetV v) = q2) := by show _ = _; rw [HNX.out]; unfold meetV; rw [hq1, ← hq2]; rfl
              have hq3 := hq2.symm
              clear hq2
              cases q2 with
              | true =>
                go_wp2
                go_round
                case rel => exact ⟨k + 1, by omega, by go_num, by rw [HN2.out] <;> rfl⟩
                case measure => simp [intOf]; omega
              | false =>
                go_wp2
                go_round
                case rel => exact ⟨k + 1, by omega, by go_num, by rw [HN2.out] <;> rfl⟩
                case measure => simp [intOf]; omega
        · have hAl : (G.take k).any (meetV v) = !openV G v := by rw [List.take_of_length_le (by rw [HL.out]; omega), open_iff, Bool.not_not]
          rw [hAl]
          have d3 : decide ((k : Int) < (n : Int)) = false := by simp; omega
          have d4 : decide (k < n) = false := by simpa using hlk
          obtain ⟨O, hO⟩ : ∃ O, O = openV G v := ⟨_, rfl⟩
          rw [← hO]
          have HO := Lib.hid hO
          clear hAl hO hlk hk
          cases O with
          | true =>
            go_wp2
            go_ret
            exact ⟨⟨v, rfl, .inr ⟨hv1, HLT.out, HO.out.symm⟩⟩, rfl⟩
          | false =>
            have HN2 : Hid (∀ u, 1 ≤ u → u < v + 1 → openV G u = false) := fun u h1 h2 => by
              by_cases e : u = v
              · subst e; exact HO.out.symm
              · exact hN.out u h1 (by omega)
            clear hN
            go_wp2
            go_round
            case rel => exact ⟨v + 1, by omega, by have := HLT.out; omega, by go_num, HN2.out⟩
            case measure => simp [intOf]; have := HLT.out; omega
    · have d1 : decide ((v : Int) ≤ (vars : Int)) = false := by simp; omega
      have d2 : decide (v ≤ vars) = false := by simpa using hlt
      have HLT : Hid (v = vars + 1) := by show _ = _; omega
      clear hlt hv2
      go_wp2
      go_ret
      exact ⟨⟨0, rfl, .inl ⟨rfl, fun u h1 h2 => hN.out u h1 (by rw [HLT.out]; omega)⟩⟩, rfl⟩
set_option maxRecDepth 100000 in
set_option maxHeartbeats 3200000 in
/-- append(nil, l...), and one more. -/
theorem more_any (l : List Int) (x : Int) (a : Option Addr) (n c : Nat) (w : World) (h : Sees w a n c (zvs l)) (hn : n ≤ 100000000) :
    Calls Try.prog 22 #[.slice a n c, .int .i64 x] w fun e w' => ∃ a' c', e = .returned (.slice a' (n + 1) c') ∧ Sees w' a' (n + 1) c' (zvs (l ++ [x])) ∧ Below w.heap.size w w' := by
  obtain ⟨i0, hi, hz0, hz1, hz2⟩ := info_parts info_int
  have HS := Lib.hid h
  have HL := Lib.hid h.zlen
  clear h
  go_enter Try.func22, Try.ntmps22
  go_wp2_with (at_builtin; refine wpList_append_row isZ _ rfl _ _ 22 rfl w.heap.size 3 i0 (.int .i64 0) 8 Try.underlying22 hi hz0 hz1 hz2 rfl isZ_zero (.slice none 0 0) 0 [] rfl (Row.nil _ _ _ _) a n c (zvs l) rfl HS.out (zvs_one _) (isZ_zvs _) ?c1 ?c2 ?c3 ?_)
  case c1 => unfold maxLen; omega
  case c2 => omega
  case c3 => exact Nat.le_refl _
  intro v1 w1 hr1 hg1 _
  have HB1 : Hid (Below w.heap.size w w1) := (Below.refl w.heap.size w).grown hg1 (Nat.le_refl _) (fun j hj => by simp [Value.ownBlock] at hj)
  have HR1 : Hid (Row isZ w1 w.heap.size 3 v1 n (zvs l)) := by
    exact hr1
  clear hr1 hg1
  go_wp2_with (at_builtin; refine wpList_append_row isZ _ rfl _ _ 22 rfl w.heap.size 3 i0 (.int .i64 0) 8 Try.underlying22 hi hz0 hz1 hz2 rfl isZ_zero v1 n (zvs l) rfl (HR1.out.below (ext_alloc _ _)) (some ⟨w1.heap.size, 0, none⟩) 1 1 (zvs [x]) rfl (sees_one_z w1 x) (zvs_one _) (isZ_zvs _) ?d1 ?d2 ?d3 ?_)
  case d1 => unfold maxLen; omega
  case d2 => omega
  case d3 => have := HB1.out.size; simp; omega
  intro v2 w2 hr2 hg2 _
  have hb2 := ext_trans HB1.out (ext_alloc w1 (.cells #[.int .i64 x] 3))
  have HB2 : Hid (Below w.heap.size w w2) := hb2.grown hg2 hb2.size (fun j hj => (HR1.out.own.lt j hj).1)
  have e2 : zvs l ++ zvs [x] = zvs (l ++ [x]) := by simp [zvs]
  rw [e2] at hr2
  obtain ⟨ra, rc, hv, _, hs⟩ := hr2.sees
  have HS2 := Lib.hid hs
  clear hr2 hg2 hb2 hs e2
  subst hv
  go_wp2
  go_ret
  exact ⟨ra, rc, rfl, HS2.out, HB2.out⟩
/-- What a model says of the variables below, as literals. -/
def saidL (M : List Bool) : Nat → List Int
  | 0 => []
  | k + 1 => saidL M k ++ [if M.getD (k + 1) false then ((k + 1 : Nat) : Int) else -((k + 1 : Nat) : Int)]
theorem saidL_len (M : List Bool) : ∀ k, (saidL M k).length = k
  | 0 => rfl
  | k + 1 => by rw [saidL, List.length_append, saidL_len M k]; rfl
set_option maxRecDepth 100000 in
set_option maxHeartbeats 3200000 in
theorem said_any (M : List Bool) (m : Nat) (a : Option Addr) (n c : Nat) (w : World) (h : Sees w a n c (M.map Value.bool)) (hn : n = m + 1) (hm : m ≤ 1000) :
    Calls Try.prog 11 #[.slice a n c, .int .i64 (m + 1 : Nat)] w fun e w' => ∃ v, e = .returned v ∧ Row isZ w' w.heap.size 3 v m (zvs (saidL M m)) ∧ Below w.heap.size w w' := by
  obtain ⟨i0, hi, hz0, hz1, hz2⟩ := info_parts info_int
  have HS := Lib.hid h
  clear h
  obtain ⟨nx, hnx⟩ : ∃ x : Nat, x = m + 1 := ⟨_, rfl⟩
  rw [← hnx] at hn ⊢
  have HNX := Lib.hid hnx
  have HNN := Lib.hid hn
  clear hnx hn
  go_enter Try.func11, Try.ntmps11
  go_wp2_with fail
  go_loopw [6, 5] (fun i l wr => ∃ (k v : Nat) (u : Value), k ≤ m ∧ Hid (v = k + 1) ∧ i = .int .i64 v ∧ l = u ∧ Hid (Row isZ wr w.heap.size 3 u k (zvs (saidL M k))) ∧ Hid (Below w.heap.size w wr)) (fun i _ _ => m + 1 - (intOf i).toNat)
  case atStart => exact ⟨0, 1, _, Nat.zero_le _, rfl, rfl, rfl, Row.nil _ _ _ _, Below.refl _ _⟩
  case round =>
    obtain ⟨k, v, u, hk, hv, rfl, hu, hR, hB⟩ := hrel
    obtain rfl := hu.symm
    have HR := Lib.hid hR.out
    have HB := Lib.hid hB.out
    have HV := Lib.hid hv.out
    clear hR hB hv
    by_cases hlt : k < m
    · have hvn : v < n := by rw [HNN.out, HNX.out, HV.out]; omega
      have hvx : v < nx := by rw [HNX.out, HV.out]; omega
      have hsw := HS.out.below HB.out
      obtain ⟨b, off, rfl, _⟩ := hsw.addr (show 0 < n by omega)
      have hc : wr.cell? ⟨b, off + v, none⟩ = some (.bool (M.getD v false)) := by
        have hl := hsw.lenMap
        rw [(hsw.cell v hvn).2]
        simp [List.getD, List.getElem?_eq_getElem (show v < M.length by omega)]
      obtain ⟨q, hq⟩ : ∃ q, q = M.getD v false := ⟨_, rfl⟩
      rw [← hq] at hc
      have hsd : saidL M (k + 1) = saidL M k ++ [if q then (v : Int) else -(v : Int)] := by rw [saidL, hq, HV.out]
      have HSD := Lib.hid hsd
      have d1 : decide ((v : Int) < (nx : Int)) = true := by simp; omega
      have d2 : decide (v < nx) = true := by simpa using hvx
      have hI1 : (v : Int) < (n : Int) := by omega
      have hI2 : (0 : Int) ≤ (v : Int) := by omega
      have hv5 : v ≤ 2000 := by rw [HV.out]; omega
      have W1 : IntKind.i64.wrap ((v : Int) + 1) = (v : Int) + 1 := IntWalk.i64_in _ (by omega)
      have WN : IntKind.i64.wrap (-(v : Int)) = -(v : Int) := IntWalk.i64_in _ (by omega)
      have HV2 : Hid (v + 1 = k + 1 + 1) := by show _ = _; rw [HV.out]
      clear hsw hq hsd hvn hvx hv5
      cases q with
      | true =>
        go_wp2_with (at_builtin; refine wpList_append_row isZ _ rfl _ _ 22 rfl w.heap.size 3 i0 (.int .i64 0) 8 Try.underlying22 hi hz0 hz1 hz2 rfl isZ_zero u k (zvs (saidL M k)) rfl (HR.out.below (ext_alloc _ _)) (some ⟨wr.heap.size, 0, none⟩) 1 1 (zvs [(v : Int)]) rfl (sees_one_z wr (v : Int)) (zvs_one _) (isZ_zvs _) ?c1 ?c2 ?c3 ?_)
        case c1 => unfold maxLen; omega
        case c2 => omega
        case c3 => have := HB.out.size; simp; omega
        intro v2 w7 hr7 hg7 _
        have hb6 := ext_trans HB.out (ext_alloc wr (.cells #[.int .i64 (v : Int)] 3))
        have HB7 : Hid (Below w.heap.size w w7) := hb6.grown hg7 hb6.size (fun j hj => (HR.out.own.lt j hj).1)
        have HR7 : Hid (Row isZ w7 w.heap.size 3 v2 (k + 1) (zvs (saidL M (k + 1)))) := by
          show Row _ _ _ _ _ _ _
          have e2 : zvs (saidL M (k + 1)) = zvs (saidL M k) ++ zvs [(v : Int)] := by rw [HSD.out]; simp [zvs]
          rw [e2]
          exact hr7
        clear hr7 hg7 hb6
        go_wp2
        go_roundw
        case rel => exact ⟨k + 1, v + 1, v2, by omega, HV2.out, by go_num, rfl, HR7.out, HB7.out⟩
        case measure => simp [intOf]; have := HV.out; omega
      | false =>
        go_wp2_with (at_builtin; refine wpList_append_row isZ _ rfl _ _ 22 rfl w.heap.size 3 i0 (.int .i64 0) 8 Try.underlying22 hi hz0 hz1 hz2 rfl isZ_zero u k (zvs (saidL M k)) rfl (HR.out.below (ext_alloc _ _)) (some ⟨wr.heap.size, 0, none⟩) 1 1 (zvs [-(v : Int)]) rfl (sees_one_z wr (-(v : Int))) (zvs_one _) (isZ_zvs _) ?c1 ?c2 ?c3 ?_)
        case c1 => unfold maxLen; omega
        case c2 => omega
        case c3 => have := HB.out.size; simp; omega
        intro v2 w7 hr7 hg7 _
        have hb6 := ext_trans HB.out (ext_alloc wr (.cells #[.int .i64 (-(v : Int))] 3))
        have HB7 : Hid (Below w.heap.size w w7) := hb6.grown hg7 hb6.size (fun j hj => (HR.out.own.lt j hj).1)
        have HR7 : Hid (Row isZ w7 w.heap.size 3 v2 (k + 1) (zvs (saidL M (k + 1)))) := by
          show Row _ _ _ _ _ _ _
          have e2 : zvs (saidL M (k + 1)) = zvs (saidL M k) ++ zvs [-(v : Int)] := by rw [HSD.out]; simp [zvs]
          rw [e2]
          exact hr7
        clear hr7 hg7 hb6
        go_wp2
        go_roundw
        case rel => exact ⟨k + 1, v + 1, v2, by omega, HV2.out, by go_num, rfl, HR7.out, HB7.out⟩
        case measure => simp [intOf]; have := HV.out; omega
    · have hkm : k = m := by omega
      have hvx : ¬ v < nx := by rw [HNX.out, HV.out]; omega
      have d1 : decide ((v : Int) < (nx : Int)) = false := by simp; omega
      have d2 : decide (v < nx) = false := by simpa using hvx
      have hR2 := HR.out
      rw [hkm] at hR2
      have HS2 := Lib.hid hR2
      have HB2 := Lib.hid HB.out
      clear hR2 HR HB hkm hlt hk hvx
      go_wp2
      go_ret
      exact ⟨_, rfl, HS2.out, HB2.out⟩
set_option maxRecDepth 100000 in
set_option maxHeartbeats 3200000 in
theorem hold_any (l : List Int) (hz : ∀ x ∈ l, InZ x) (M : List Bool) (a : Option Addr) (n c : Nat) (am : Option Addr) (nm cm : Nat) (w : World) (h : Sees w a n c (zvs l)) (hs : Sees w am nm cm (M.map Value.bool)) (hn : n ≤ 100000000) (hnm : nm ≤ 100000000) :
    Calls Try.prog 13 #[.slice a n c, .slice am nm cm] w fun e w' => e = .returned (.int .i64 (l.countP (trueS M) : Nat)) ∧ w' = w := by
  have HS := Lib.hid h
  have HL := Lib.hid h.zlen
  have HM := Lib.hid hs
  have HZ := Lib.hid hz
  clear h hs hz
  go_enter Try.func13, Try.ntmps13
  go_wp2
  go_loop [6, 5] (fun i s => ∃ k m : Nat, k ≤ n ∧ i = .int .i64 k ∧ s = .int .i64 m ∧ Hid (m = (l.take k).countP (trueS M))) (fun i _ => n - (intOf i).toNat)
  case atStart => exact ⟨0, 0, Nat.zero_le _, rfl, rfl, by show _ = _; simp⟩
  case round =>
    obtain ⟨k, m, hk, rfl, rfl, hm⟩ := hrel
    by_cases hlt : k < n
    · obtain ⟨b, off, rfl, _⟩ := HS.out.addr (show 0 < n by omega)
      have hc := HS.out.z_at k hlt
      have hkl : k < l.length := by rw [HL.out]; exact hlt
      have hmem : l.getD k 0 ∈ l := getD_memZ hkl
      have hnx : (l.take (k + 1)).countP (trueS M) = (l.take k).countP (trueS M) + if trueS M (l.getD k 0) then 1 else 0 := by
        rw [take_snocZ l k hkl, List.countP_append, List.countP_cons, List.countP_nil, Nat.zero_add]
      have hle : (l.take k).countP (trueS M) ≤ 100000000 := Nat.le_trans List.countP_le_length (by rw [List.length_take]; omega)
      obtain ⟨y, hy⟩ : ∃ y, y = l.getD k 0 := ⟨_, rfl⟩
      rw [← hy] at hc hmem hnx
      rw [← hm.out] at hnx hle
      have HCALL := Lib.hid (refTrue_any y (HZ.out y hmem) M am nm cm w HM.out (by omega))
      obtain ⟨q, hq⟩ : ∃ q, q = trueS M y := ⟨_, rfl⟩
      rw [← hq] at HCALL hnx
      have HNX := Lib.hid hnx
      have hI1 : ((k : Nat) : Int) < (n : Int) := by omega
      have hI2 : (0 : Int) ≤ (k : Int) := by omega
      have W1 : IntKind.i64.wrap ((k : Int) + 1) = (k : Int) + 1 := IntWalk.i64_in _ (by omega)
      have W2 : IntKind.i64.wrap ((m : Int) + 1) = (m : Int) + 1 := IntWalk.i64_in _ (by omega)
      clear hy hmem hq hnx hkl hm
      cases q with
      | true =>
        have HN2 : Hid (m + 1 = (l.take (k + 1)).countP (trueS M)) := by show _ = _; rw [HNX.out]; simp
        clear HNX
        go_wp2_with fail
        refine HCALL.out.mono ?_
        rintro e w2 ⟨rfl, rfl⟩
        clear HCALL
        go_wp2
        go_round
        case rel => exact ⟨k + 1, m + 1, by omega, by go_num, by go_num, HN2.out⟩
        case measure => simp [intOf]; omega
      | false =>
        have HN2 : Hid (m = (l.take (k + 1)).countP (trueS M)) := by show _ = _; rw [HNX.out]; simp
        clear HNX
        go_wp2_with fail
        refine HCALL.out.mono ?_
        rintro e w2 ⟨rfl, rfl⟩
        clear HCALL
        go_wp2
        go_round
        case rel => exact ⟨k + 1, m, by omega, by go_num, by go_num, HN2.out⟩
        case measure => simp [intOf]; omega
    · have e1 : Hid (l.countP (trueS M) = m) := by show _ = _; rw [hm.out, List.take_of_length_le (by rw [HL.out]; omega)]
      have d1 : decide ((k : Int) < (n : Int)) = false := by simp; omega
      have d2 : decide (k < n) = false := by simpa using hlt
      clear hm hlt hk
      go_wp2
      go_ret
      exact ⟨by rw [e1.out] <;> rfl, rfl⟩
end Go.Proofs.Ytionibckeicncaa
