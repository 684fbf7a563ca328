/- (*builder).merge, by its contract. -/
import Derived.Test.YtionibckeicncaaCuInts
import Derived.Test.YtionibckeicncaaTaRM
import Derived.Test.YtionibckeicncaaTaP
import Derived.Test.YtionibckeicncaaTaG
import Derived.Test.YtionibckeicncaaTaF
import Derived.Test.YtionibckeicncaaTaH
import Derived.Test.YtionibckeicncaaTaI
import Derived.Test.YtionibckeicncaaRows
import Derived.Test.YtionibckeicncaaShelf
import Derived.BigQuiet
import Derived.Deep.AppendLies
import Derived.Deep.CutRange
import Derived.Deep.QuietTactic
import Derived.Deep.RegionHeld3
import Derived.Deep.RegionLaw
import Derived.Deep.RegionWith
import Derived.KernelRfl
import Derived.Laws.EntriesVeiled
import Derived.Lib.ConvBytes
import Derived.Lib.Hide
import Derived.Lib.SlBytesRow
import Derived.Lib.SlicesCompact
import Derived.Lib.SmallJoins
import Derived.OrdersHeld
import Derived.Shelf.Bytes.SlSmallAll
import Derived.Sort.Statements
import Derived.WalkKit
import Derived.WalkLawsBesides
import Derived.WalkSpells
namespace Go.Proofs.Ytionibckeicncaa
open Go Go.RowKit Go.Joins

theorem upT_le {α : Type} {g : Nat → List α} {m : Nat} (k : Nat) (h : ∀ i, i < k → (g i).length ≤ m) : (upT g k).length ≤ k * m := by
  rw [upT_len g (fun i => (g i).length) k (fun _ _ => rfl)]
  exact sumT_le k h
theorem pairC_le (left right both : List Int) (i j : Nat) : (pairC left right both i j).length ≤ 2 := by
  rw [pairC_len]
  split <;> split <;> omega
set_option maxRecDepth 100000 in
set_option maxHeartbeats 6400000 in
theorem merge_any (w0 w : World) (B most next : Nat) (L : List (List Int)) (H : TaSt w0 B most next L w) (left right : List Int) (a1 a2 : Option Addr) (n1 c1 n2 c2 : Nat) (h1 : NewT w 0 a1 n1 c1 left) (h2 : NewT w 0 a2 n2 c2 right)
    (hl : n1 ≤ most) (hn : n1 ≤ 4096 ∧ n2 ≤ 4096 ∧ most ≤ 4096) (hnx : next ≤ 50000000) (hL : L.length ≤ 60000000) (r1 : ∀ x ∈ left, x.natAbs ≤ 100000000) (r2 : ∀ x ∈ right, x.natAbs ≤ 100000000) (m : Nat) (hm : m = min (n1 + n2) most) :
    Calls Try.prog 29 #[.pointer (some ⟨B, 0, none⟩), .slice a1 n1 c1, .slice a2 n2 c2] w fun e w' => ∃ a c, e = .returned (.slice a m c) ∧ NewT w' 0 a m c (freshL next m) ∧ TaSt w0 B most (next + m) (L ++ mergeC left right (freshL next m)) w' ∧ TaGo B w w' := by
  have l1 := h1.sees.zlen
  have l2 := h2.sees.zlen
  obtain ⟨la, ln, lc, lss, _, hbox, _⟩ := H.has
  have p0 := cell_of_block hbox 0
  have HFR := Lib.hid (fresh_any w0 w B most next m L H (by omega) (by omega))
  obtain ⟨s12, hs12⟩ : ∃ x, x = n1 + n2 := ⟨_, rfl⟩
  have w1 : IntKind.i64.wrap ((n1 : Int) + (n2 : Int)) = (s12 : Int) := by rw [show (n1 : Int) + (n2 : Int) = (s12 : Int) by omega]; exact IntWalk.i64_in _ (by omega)
  have m1 : min (s12 : Int) (most : Int) = (m : Int) := by omega
  have hnm : n1 ≤ m := by omega
  have hm4 : m ≤ 4096 := by omega
  obtain ⟨both, hboth⟩ : ∃ l, l = freshL next m := ⟨_, rfl⟩
  have hbl : both.length = m := by rw [hboth]; exact fresh_len _ _
  have r3 : ∀ x ∈ both, x.natAbs ≤ 100000000 := fun x hx => by
    rw [hboth] at hx
    obtain ⟨i, hi, rfl⟩ := fresh_mem.1 hx
    omega
  rw [← hboth] at HFR ⊢
  obtain ⟨nx, hnx2⟩ : ∃ x, x = next + m := ⟨_, rfl⟩
  rw [← hnx2] at HFR ⊢
  have HBX := Lib.hid hbox
  have H1 := Lib.hid h1
  have H2 := Lib.hid h2
  have HR := Lib.hid (And.intro r1 (And.intro r2 r3))
  have HN := Lib.hid (And.intro hn.1 (And.intro hn.2.1 (And.intro hnm hm4)))
  have HLL := Lib.hid hL
  have HLN := Lib.hid (And.intro l1 (And.intro l2 hbl))
  have HMG : Hid (upT (rowC left right both) (n1 + 1) = mergeC left right both) := by show _ = _; unfold mergeC; rw [l1]
  have HLE : Hid (∀ i j, i ≤ n1 → j ≤ n2 + 1 → (L ++ upT (rowC left right both) i ++ upT (pairC left right both i) j).length ≤ 99000000) := fun i j hi hj => by
    have e1 : (upT (rowC left right both) i).length ≤ i * (4097 * 2) := upT_le i (fun k _ => by
      have := upT_le (g := pairC left right both k) (m := 2) (min right.length (both.length - k) + 1) (fun j _ => pairC_le left right both k j)
      unfold rowC
      have h4 : (min right.length (both.length - k) + 1) * 2 ≤ 4097 * 2 := Nat.mul_le_mul_right _ (by omega)
      omega)
    have e2 : (upT (pairC left right both i) j).length ≤ j * 2 := upT_le j (fun j _ => pairC_le left right both i j)
    have e3 : i * (4097 * 2) ≤ 4096 * (4097 * 2) := Nat.mul_le_mul_right _ (by omega)
    rw [List.length_append, List.length_append]
    omega
  clear h1 h2 H hbox hs12 hm hnm hm4 hbl r1 r2 r3 hboth hnx2 l1 l2 hL hl hn hnx
  go_enter Try.func29, Try.ntmps29
  go_wp2_with fail
  refine HFR.out.mono ?_
  rintro e W1 ⟨a3, c3, rfl, hnew, hst, hgo⟩
  have HG1 := Lib.hid hgo
  have HS1 := Lib.hid hst
  have H3 : Hid (∀ W, TaGo B W1 W → NewT W 0 a3 m c3 both) := fun W k => by
    obtain ⟨X, hX⟩ := hst.box
    exact hnew.go k hX
  clear hnew hst hgo HFR p0 m1 w1
  have W0 : IntKind.i64.wrap ((n1 : Int) + 1) = (n1 : Int) + 1 := IntWalk.i64_in _ (by have := HN.out; omega)
  go_wp2_with fail
  go_loopw [25] (fun i wr => ∃ k : Nat, k ≤ n1 + 1 ∧ i = .int .i64 k ∧ Hid (TaSt w0 B most nx (L ++ upT (rowC left right both) k) wr) ∧ Hid (TaGo B W1 wr)) (fun i _ => n1 + 1 - (intOf i).toNat)
  case atStart => exact ⟨0, Nat.zero_le _, rfl, by rw [upT_zero, List.append_nil]; exact HS1.out, TaGo.refl _ _⟩
  case round =>
    obtain ⟨k, hk, rfl, hS, hG⟩ := hrel
    have HS := Lib.hid hS.out
    have HG := Lib.hid hG.out
    clear hS hG
    by_cases hlt : k < n1 + 1
    · have d1 : decide ((k : Int) < (n1 : Int) + 1) = true := by simp; omega
      have hkn := HN.out
      obtain ⟨mi, hmi⟩ : ∃ x, x = m - k := ⟨_, rfl⟩
      have w2 : IntKind.i64.wrap ((m : Int) - (k : Int)) = (mi : Int) := by rw [show (m : Int) - (k : Int) = (mi : Int) by omega]; exact IntWalk.i64_in _ (by omega)
      obtain ⟨k0, hk0⟩ : ∃ x, x = min n2 mi := ⟨_, rfl⟩
      have m2 : min (n2 : Int) (mi : Int) = (k0 : Int) := by omega
      obtain ⟨K, hK⟩ : ∃ x, x = k0 + 1 := ⟨_, rfl⟩
      have w3 : IntKind.i64.wrap ((k0 : Int) + 1) = (K : Int) := by rw [show (k0 : Int) + 1 = (K : Int) by omega]; exact IntWalk.i64_in _ (by omega)
      have hI1 : (k : Int) < (n1 : Int) + 1 := by omega
      have W8 : IntKind.i64.wrap ((k : Int) + 1) = (k : Int) + 1 := IntWalk.i64_in _ (by omega)
      have HKN : Hid (k ≤ n1 ∧ K ≤ n2 + 1 ∧ K ≤ 4097 ∧ k ≤ m ∧ ∀ j, j < K → j ≤ n2 ∧ k + j ≤ m) := ⟨by omega, by omega, by omega, by omega, fun j hj => ⟨by omega, by omega⟩⟩
      have HRC : Hid (upT (pairC left right both k) K = rowC left right both k) := by
        show _ = _
        unfold rowC
        rw [HLN.out.2.1, HLN.out.2.2, ← hmi, ← hk0, ← hK]
      clear hkn hmi hk0 hK
      go_wp2_with fail
      clear w2 m2 w3 d1
      go_loopw [36] (fun j wr => ∃ q : Nat, q ≤ K ∧ j = .int .i64 q ∧ Hid (TaSt w0 B most nx (L ++ upT (rowC left right both) k ++ upT (pairC left right both k) q) wr) ∧ Hid (TaGo B W1 wr)) (fun j _ => K - (intOf j).toNat)
      case atStart => exact ⟨0, Nat.zero_le _, rfl, by rw [upT_zero, List.append_nil]; exact HS.out, HG.out⟩
      case round =>
        clear HS HG
        obtain ⟨q, hq, rfl, hS, hG⟩ := hrel
        have HS := Lib.hid hS.out
        have HG := Lib.hid hG.out
        clear hS hG
        by_cases hlq : q < K
        · have hkq := HKN.out.2.2.2.2 q hlq
          have hle := HLE.out k q HKN.out.1 (by have := HKN.out; omega)
          have HGW := Lib.hid (HG1.out.trans HG.out)
          have n1w := H1.out.go HGW.out HBX.out
          have n2w := H2.out.go HGW.out HBX.out
          have n3w := H3.out wr HG.out
          obtain ⟨kq, hkq2⟩ : ∃ x, x = k + q := ⟨_, rfl⟩
          have w4 : IntKind.i64.wrap ((k : Int) + (q : Int)) = (kq : Int) := by rw [show (k : Int) + (q : Int) = (kq : Int) by omega]; exact IntWalk.i64_in _ (by have := HN.out; have := HKN.out; omega)
          have hI2 : (q : Int) < (K : Int) := by omega
          have W9 : IntKind.i64.wrap ((q : Int) + 1) = (q : Int) + 1 := IntWalk.i64_in _ (by have := HKN.out; omega)
          have HNB : Hid (n1 ≤ 50000 ∧ n2 ≤ 50000 ∧ m ≤ 100000) := by have := HN.out; exact ⟨by omega, by omega, by omega⟩
          have HSN : Hid (L ++ upT (rowC left right both) k ++ upT (pairC left right both k) (q + 1) = L ++ upT (rowC left right both) k ++ upT (pairC left right both k) q ++ pairC left right both k q) := by show _ = _; rw [upT_succ, ← List.append_assoc]
          have HPC : Hid (pairC left right both k q = (if 0 < kq then [alC left right both k q] else []) ++ (if kq < m then [amC left right both k q] else [])) := by show _ = _; unfold pairC; rw [HLN.out.2.2, hkq2]
          obtain ⟨X, hX⟩ : ∃ X, X = L ++ upT (rowC left right both) k ++ upT (pairC left right both k) q := ⟨_, rfl⟩
          rw [← hX] at HS HSN hle
          by_cases q0 : 0 < kq
          · have HAL := Lib.hid (atLeast_any w0 wr B most nx k q X HS.out left right both a1 a2 a3 n1 c1 n2 c2 m c3 n1w n2w n3w HKN.out.1 hkq.1 (by omega) (by omega) HNB.out (by omega) HR.out.1 HR.out.2.1 HR.out.2.2)
            have d0 : decide (0 < kq) = true := by simpa using q0
            have d0' : decide ((0 : Int) < (kq : Int)) = true := by simpa using q0
            rw [if_pos q0] at HPC
            by_cases q1 : kq < m
            · have HAM := Lib.hid (fun W (H : TaSt w0 B most nx (X ++ [alC left right both k q]) W) (k' : TaGo B wr W) => by
                obtain ⟨Y, hY⟩ := HS.out.box
                exact atMost_any w0 W B most nx k q (X ++ [alC left right both k q]) H left right both a1 a2 a3 n1 c1 n2 c2 m c3 (n1w.go k' hY) (n2w.go k' hY) (n3w.go k' hY) HKN.out.1 hkq.1 (by omega) HNB.out (by rw [List.length_append]; simp; omega) HR.out.1 HR.out.2.1 HR.out.2.2)
              have d2 : decide (kq < m) = true := by simpa using q1
              have d2' : decide ((kq : Int) < (m : Int)) = true := by simpa using q1
              rw [if_pos q1] at HPC
              clear n1w n2w n3w hkq hkq2 hle hX q0 q1
              go_wp2_with fail
              refine HAL.out.mono ?_
              rintro e W2 ⟨rfl, hs, hg⟩
              have HS2 := Lib.hid hs
              have HG2 := Lib.hid hg
              clear hs hg HAL
              go_wp2_with fail
              refine (HAM.out W2 HS2.out HG2.out).mono ?_
              rintro e W3 ⟨rfl, hs, hg⟩
              have HS3 : Hid (TaSt w0 B most nx (L ++ upT (rowC left right both) k ++ upT (pairC left right both k) (q + 1)) W3) := by
                show TaSt _ _ _ _ _ _
                rw [HSN.out, HPC.out, ← List.append_assoc]
                exact hs
              have HG3 : Hid (TaGo B W1 W3) := (HG.out.trans HG2.out).trans hg
              clear hs hg HAM HS2 HG2
              go_wp2
              go_roundw
              case rel => exact ⟨q + 1, by omega, by go_num, HS3.out, HG3.out⟩
              case measure => simp [intOf]; omega
            · have d2 : decide (kq < m) = false := by simpa using q1
              have d2' : decide ((kq : Int) < (m : Int)) = false := by simp; omega
              rw [if_neg q1, List.append_nil] at HPC
              clear n1w n2w n3w hkq hkq2 hle hX q0 q1
              go_wp2_with fail
              refine HAL.out.mono ?_
              rintro e W2 ⟨rfl, hs, hg⟩
              have HS3 : Hid (TaSt w0 B most nx (L ++ upT (rowC left right both) k ++ upT (pairC left right both k) (q + 1)) W2) := by
                show TaSt _ _ _ _ _ _
                rw [HSN.out, HPC.out]
                exact hs
              have HG3 : Hid (TaGo B W1 W2) := HG.out.trans hg
              clear hs hg HAL
              go_wp2
              go_roundw
              case rel => exact ⟨q + 1, by omega, by go_num, HS3.out, HG3.out⟩
              case measure => simp [intOf]; omega
          · have d0 : decide (0 < kq) = false := by simpa using q0
            have d0' : decide ((0 : Int) < (kq : Int)) = false := by simp; omega
            rw [if_neg q0, List.nil_append] at HPC
            by_cases q1 : kq < m
            · have HAM := Lib.hid (atMost_any w0 wr B most nx k q X HS.out left right both a1 a2 a3 n1 c1 n2 c2 m c3 n1w n2w n3w HKN.out.1 hkq.1 (by omega) HNB.out (by omega) HR.out.1 HR.out.2.1 HR.out.2.2)
              have d2 : decide (kq < m) = true := by simpa using q1
              have d2' : decide ((kq : Int) < (m : Int)) = true := by simpa using q1
              rw [if_pos q1] at HPC
              clear n1w n2w n3w hkq hkq2 hle hX q0 q1
              go_wp2_with fail
              refine HAM.out.mono ?_
              rintro e W2 ⟨rfl, hs, hg⟩
              have HS3 : Hid (TaSt w0 B most nx (L ++ upT (rowC left right both) k ++ upT (pairC left right both k) (q + 1)) W2) := by
                show TaSt _ _ _ _ _ _
                rw [HSN.out, HPC.out]
                exact hs
              have HG3 : Hid (TaGo B W1 W2) := HG.out.trans hg
              clear hs hg HAM
              go_wp2
              go_roundw
              case rel => exact ⟨q + 1, by omega, by go_num, HS3.out, HG3.out⟩
              case measure => simp [intOf]; omega
            · have d2 : decide (kq < m) = false := by simpa using q1
              have d2' : decide ((kq : Int) < (m : Int)) = false := by simp; omega
              rw [if_neg q1] at HPC
              have HS3 : Hid (TaSt w0 B most nx (L ++ upT (rowC left right both) k ++ upT (pairC left right both k) (q + 1)) wr) := by
                show TaSt _ _ _ _ _ _
                rw [HSN.out, HPC.out, List.append_nil]
                exact HS.out
              clear n1w n2w n3w hkq hkq2 hle hX q0 q1
              go_wp2
              go_roundw
              case rel => exact ⟨q + 1, by omega, by go_num, HS3.out, HG.out⟩
              case measure => simp [intOf]; omega
        · obtain rfl : q = K := by omega
          have HS3 : Hid (TaSt w0 B most nx (L ++ upT (rowC left right both) (k + 1)) wr) := by
            show TaSt _ _ _ _ _ _
            rw [upT_succ, ← HRC.out, ← List.append_assoc]
            exact HS.out
          clear hlq hq HS
          go_wp2
          go_roundw
          case rel => exact ⟨k + 1, by omega, by go_num, HS3.out, HG.out⟩
          case measure => simp [intOf]; omega
    · have hkn : k = n1 + 1 := by omega
      have d1 : decide ((k : Int) < (n1 : Int) + 1) = false := by simp; omega
      have HS3 : Hid (TaSt w0 B most nx (L ++ mergeC left right both) wr) := by
        show TaSt _ _ _ _ _ _
        rw [← HMG.out, ← hkn]
        exact HS.out
      have HG3 := Lib.hid (HG1.out.trans HG.out)
      have HN3 := Lib.hid (H3.out wr HG.out)
      clear hkn hlt hk HS HG
      go_wp2
      go_ret
      exact ⟨a3, c3, rfl, HN3.out, HS3.out, HG3.out⟩
end Go.Proofs.Ytionibckeicncaa
