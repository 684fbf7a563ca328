/- inquestref11.Holds; inquestlaw11.copied; by their contracts. -/
import Derived.Test.YtdngaohjocokiaaLib
import Derived.Test.YtdngaohjocokiaaOwn
import Derived.Test.YtdngaohjocokiaaNBase
import Derived.Test.YtdngaohjocokiaaCuPure
import Derived.Test.YtdngaohjocokiaaCuInts
import Derived.Test.YtdngaohjocokiaaCuInv
import Derived.Test.YtdngaohjocokiaaCuLists
import Derived.Test.YtdngaohjocokiaaCuUnits
import Derived.Test.YtdngaohjocokiaaCuTell
import Derived.Test.YtdngaohjocokiaaCuMust
import Derived.Test.YtdngaohjocokiaaCuHolds
import Derived.Test.YtdngaohjocokiaaCuRefA
import Derived.Test.YtdngaohjocokiaaRows
import Derived.Test.YtdngaohjocokiaaShelf
import Derived.BigQuiet
import Derived.Conc.LoneSelect
import Derived.Deep.AppendLies
import Derived.Deep.CutRange
import Derived.Deep.QuietTactic
import Derived.Deep.RegionHeld3
import Derived.Deep.RegionLaw
import Derived.Deep.RegionWith
import Derived.KernelRfl
import Derived.Laws.CopyOwn
import Derived.Laws.EntriesVeiled
import Derived.Laws.Tables
import Derived.Lib.ConvBytes
import Derived.Lib.Hide
import Derived.Lib.SlBytesRow
import Derived.Lib.SlicesCompact
import Derived.Lib.SmallJoins
import Derived.Maps.AppendAt
import Derived.OrdersHeld
import Derived.Shelf.Bytes.SlSmallAll
import Derived.Sort.Statements
import Derived.WalkKit
import Derived.WalkLawsBesides
import Derived.WalkSpells
namespace Go.Proofs.Ytdngaohjocokiaa
open Go Go.RowKit Go.Joins

theorem any_take {p : Int → Bool} {l : List Int} {k : Nat} (h : k < l.length) : (l.take (k + 1)).any p = ((l.take k).any p || p (l.getD k 0)) := by
  rw [take_snocZ l k h, List.any_append]
  simp
set_option maxRecDepth 100000 in
set_option maxHeartbeats 6400000 in
theorem refHolds_any (L : List (List Int)) (hz : AllInZ L) (a : Option Addr) (n c : Nat) (ss : List ZSlc) (M : List Bool) (am : Option Addr) (nm cm : Nat) (w : World) (h : SeesZ w a n c ss L) (hn : n ≤ 9223372036854775807) (hm : SmallZ L)
    (hsm : Sees w am nm cm (M.map Value.bool)) (hnm : nm ≤ 9223372036854775807) :
    Calls Try.prog 14 #[.slice a n c, .slice am nm cm] w fun e w' => e = .returned (.bool (holdsS L M)) ∧ w' = w := by
  have HS := Lib.hid h
  have HL := Lib.hid h.zlen
  have HZ := Lib.hid hz
  have HSM := Lib.hid hm
  have HM := Lib.hid hsm
  clear h hz hm hsm
  go_enter Try.func14, Try.ntmps14
  go_wp2
  go_loopw [5] (fun i wr => ∃ k : Nat, k ≤ n ∧ i = .int .i64 k ∧ Hid (∀ j, j < k → (L.getD j []).any (trueS M) = true) ∧ Hid (wr = w)) (fun i _ => n - (intOf i).toNat)
  case atStart => exact ⟨0, Nat.zero_le _, rfl, (fun j hj => absurd hj (by omega)), rfl⟩
  case round =>
    obtain ⟨k, hk, rfl, hN, hw⟩ := hrel
    obtain rfl := hw.out.symm
    have HN := Lib.hid hN.out
    clear hw hN
    by_cases hlt : k < n
    · obtain ⟨b, off, rfl, _⟩ := HS.out.addr (show 0 < n by omega)
      have hkl : k < L.length := by rw [HL.out]; exact hlt
      have hc := HS.out.cellAt k hlt
      have he := HS.out.each k hkl
      obtain ⟨⟨sa, sn, sc⟩, hs⟩ : ∃ s, s = ss.getD k zs0 := ⟨_, rfl⟩
      rw [← hs] at hc he
      simp only at hc he
      have HYS := Lib.hid (getD_memL hkl)
      obtain ⟨y, hy⟩ : ∃ y, y = L.getD k [] := ⟨_, rfl⟩
      rw [← hy] at he HYS
      have HE := Lib.hid he
      have HEL := Lib.hid he.zlen
      have hsn : sn ≤ 9223372036854775807 := by rw [← he.zlen]; exact HSM.out _ HYS.out
      have HY := Lib.hid hy
      have hI1 : ((k : Nat) : Int) < (n : Int) := by omega
      have hI2 : (0 : Int) ≤ (k : Int) := by omega
      have W1 : IntKind.i64.wrap ((k : Int) + 1) = (k : Int) + 1 := IntWalk.i64_in _ (by omega)
      clear hs he hy hkl
      go_wp2
      go_loopw [7, 6] (fun i o wr => ∃ (j : Nat) (q : Bool), j ≤ sn ∧ i = .int .i64 j ∧ o = .bool q ∧ Hid (q = (y.take j).any (trueS M)) ∧ Hid (wr = w)) (fun i _ _ => sn - (intOf i).toNat)
      case atStart => exact ⟨0, false, Nat.zero_le _, rfl, rfl, rfl, rfl⟩
      case round =>
        obtain ⟨j, q, hj, rfl, rfl, hQ, hw⟩ := hrel
        obtain rfl := hw.out.symm
        have HQ := Lib.hid hQ.out
        clear hQ hw
        by_cases hlj : j < sn
        · obtain ⟨b2, off2, rfl, _⟩ := HE.out.addr (show 0 < sn by omega)
          have hjl : j < y.length := by rw [HEL.out]; exact hlj
          have hc2 := HE.out.z_at j hlj
          obtain ⟨z, hz⟩ : ∃ z, z = y.getD j 0 := ⟨_, rfl⟩
          rw [← hz] at hc2
          have hI3 : ((j : Nat) : Int) < (sn : Int) := by omega
          have hI4 : (0 : Int) ≤ (j : Int) := by omega
          have W2 : IntKind.i64.wrap ((j : Int) + 1) = (j : Int) + 1 := IntWalk.i64_in _ (by omega)
          have HT := Lib.hid (refTrue_any z (HZ.out y HYS.out z (by rw [hz]; exact getD_memZ hjl)) M am nm cm w HM.out hnm)
          have ha := any_take (p := trueS M) hjl
          rw [← HQ.out, ← hz] at ha
          obtain ⟨t, ht⟩ : ∃ t, t = trueS M z := ⟨_, rfl⟩
          rw [← ht] at HT ha
          have HA : Hid ((q || t) = (y.take (j + 1)).any (trueS M)) := ha.symm
          clear hz ha ht hjl
          cases q with
          | true =>
            go_wp2
            go_roundw
            case rel => exact ⟨j + 1, true, by omega, by go_num, rfl, HA.out, trivial⟩
            case measure => simp [intOf]; omega
          | false =>
            go_wp2_with fail
            refine HT.out.mono ?_
            rintro e w2 ⟨rfl, rfl⟩
            go_wp2
            go_roundw
            case rel => exact ⟨j + 1, t, by omega, by go_num, rfl, by rw [← HA.out]; rfl, trivial⟩
            case measure => simp [intOf]; omega
        · obtain rfl : j = sn := by omega
          have hQ2 : q = y.any (trueS M) := by rw [HQ.out, ← HEL.out, List.take_length]
          cases q with
          | false =>
            have E1 : Hid (holdsS L M = false) := by
              show _ = _
              unfold holdsS
              rw [List.all_eq_false]
              exact ⟨y, HYS.out, by rw [← hQ2]; simp⟩
            clear hQ2
            go_wp2
            go_ret
            exact ⟨by rw [E1.out] <;> rfl, rfl⟩
          | true =>
            have HN2 : Hid (∀ j, j < k + 1 → (L.getD j []).any (trueS M) = true) := fun i hi => by
              by_cases e : i = k
              · rw [e, ← HY.out, ← hQ2]
              · exact HN.out i (by omega)
            clear hQ2
            go_wp2
            go_roundw
            case rel => exact ⟨k + 1, by omega, by go_num, HN2.out, trivial⟩
            case measure => simp [intOf]; omega
    · obtain rfl : k = n := by omega
      have E1 : Hid (holdsS L M = true) := by
        show _ = _
        unfold holdsS
        rw [List.all_eq_true]
        intro x hx
        obtain ⟨i, hi, e⟩ := List.getElem_of_mem hx
        have := HN.out i (by rw [← HL.out]; exact hi)
        simpa [List.getD, List.getElem?_eq_getElem hi, e] using this
      go_wp2
      go_ret
      exact ⟨by rw [E1.out] <;> rfl, rfl⟩
theorem take_snocLL (L : List (List Int)) (k : Nat) (h : k < L.length) : L.take (k + 1) = L.take k ++ [L.getD k []] := by
  rw [List.take_succ_eq_append_getElem h]
  simp [List.getD, List.getElem?_eq_getElem h]
set_option maxRecDepth 100000 in
set_option maxHeartbeats 6400000 in
/-- Clauses of their own memory. -/
theorem copied_any (L : List (List Int)) (a : Option Addr) (n c : Nat) (ss : List ZSlc) (w : World) (h : SeesZ w a n c ss L) (hn : n ≤ 60) (hT : ∀ x ∈ L, x.length ≤ 1000000) :
    Calls Try.prog 8 #[.slice a n c] w fun e w' => ∃ a' c' ss', e = .returned (.slice a' n c') ∧ SeesZ w' a' n c' ss' L ∧ Below w.heap.size w w' := by
  obtain ⟨i0, hi, hz0, hz1, hz2⟩ := info_parts info_int
  obtain ⟨i1, hi1, hz01, hz11, hz21⟩ := info_parts info_ints
  have HS := Lib.hid h
  have HL := Lib.hid h.zlen
  have HTT := Lib.hid hT
  clear h hT
  go_enter Try.func8, Try.ntmps8
  go_wp2
  go_loopw [4, 3] (fun i u wr => ∃ (k : Nat) (v : Value) (us : List ZSlc), k ≤ n ∧ i = .int .i64 k ∧ u = v ∧ Hid (ListsZ w v us (L.take k) wr)) (fun i _ _ => n - (intOf i).toNat)
  case atStart => exact ⟨0, _, [], Nat.zero_le _, rfl, rfl, ListsZ.nil _⟩
  case round =>
    obtain ⟨k, v, us, hk, rfl, hu, hA⟩ := hrel
    obtain rfl := hu.symm
    have HA := Lib.hid hA.out
    have HB := Lib.hid hA.out.bel
    have HSZ := Lib.hid hA.out.bel.size
    clear hA hu
    by_cases hlt : k < n
    · obtain ⟨b, off, rfl, _⟩ := HS.out.addr (show 0 < n by omega)
      have hkl : k < L.length := by rw [HL.out]; exact hlt
      have HUL : Hid (us.length = k) := by show _ = _; rw [HA.out.len, List.length_take]; omega
      have hs0 := HS.out.below HB.out
      have hc := hs0.cellAt k hlt
      have he := hs0.each k hkl
      obtain ⟨⟨sa, sn, sc⟩, hs⟩ : ∃ s, s = ss.getD k zs0 := ⟨_, rfl⟩
      rw [← hs] at hc he
      simp only at hc he
      have hT1 := HTT.out _ (getD_memL hkl)
      have HTK := Lib.hid (take_snocLL L k hkl)
      obtain ⟨y, hy⟩ : ∃ y, y = L.getD k [] := ⟨_, rfl⟩
      rw [← hy] at he HTK hT1
      have HE := Lib.hid he
      have HEL := Lib.hid he.zlen
      have hsn : sn ≤ 1000000 := by rw [← he.zlen]; exact hT1
      have hI1 : ((k : Nat) : Int) < (n : Int) := by omega
      have hI2 : (0 : Int) ≤ (k : Int) := by omega
      have W1 : IntKind.i64.wrap ((k : Int) + 1) = (k : Int) + 1 := IntWalk.i64_in _ (by omega)
      clear hs he hy hkl hs0 hT1
      go_wp2_with (at_builtin; refine wpList_append_row isZ _ rfl _ _ 23 rfl w.heap.size 3 i0 (.int .i64 0) 8 Try.underlying23 hi hz0 hz1 hz2 rfl isZ_zero (.slice none 0 0) 0 [] rfl (Row.nil _ _ _ _) sa sn sc (zvs y) rfl HE.out (zvs_one _) (isZ_zvs _) ?c1 ?c2 ?c3 ?_)
      case c1 => unfold maxLen; omega
      case c2 => omega
      case c3 => exact HSZ.out
      intro v2 w2 hr2 hg2 _
      have hb2 : Below wr.heap.size wr w2 := (Below.refl _ wr).grown hg2 (Nat.le_refl _) (fun j hj => by cases hj)
      have HB2 := Lib.hid hb2
      have HSZ2 : Hid (w.heap.size ≤ w2.heap.size) := Nat.le_trans HSZ.out hb2.size
      have hr2' : Row isZ w2 w.heap.size 3 v2 y.length (zvs y) := by
        have := hr2
        rw [← HEL.out] at this
        simpa using this
      obtain ⟨va, vc, rfl⟩ := hr2'.form
      have HO2 : Hid (OneZ w w2 (va, y.length, vc) y) := .inr hr2'
      obtain ⟨m, hm⟩ : ∃ m, m = y.length := ⟨_, rfl⟩
      rw [← hm] at HO2 ⊢
      clear hr2 hr2' hg2 hb2 hm
      go_wp2_with (at_builtin; refine wpList_append_row (fun _ => True) _ rfl _ _ 22 rfl w.heap.size 23 i1 (.slice none 0 0) 24 Try.underlying22 hi1 hz01 hz11 hz21 rfl trivial v us.length (us.map zsV) rfl (HA.out.row.below (ext_trans HB2.out (ext_alloc _ _))) (some ⟨w2.heap.size, 0, none⟩) 1 1 [.slice va m vc] rfl (sees_lit_g w2 w2.heap.size rfl (va, m, vc)) (by intro u hu; simp at hu; subst hu; rfl) (fun _ _ => trivial) ?d1 ?d2 ?d3 ?_)
      case d1 => have := HUL.out; unfold maxLen; omega
      case d2 => have := HUL.out; omega
      case d3 => have := HSZ2.out; simp; omega
      intro v3 w3 hr3 hg3 _
      have HN : Hid (ListsZ w v3 (us ++ [(va, m, vc)]) (L.take (k + 1)) w3) := by
        show ListsZ _ _ _ _ _
        rw [HTK.out]
        exact HA.out.more (ext_trans HB2.out (ext_alloc _ _)) (HO2.out.imp id (fun hr => hr.below (ext_alloc _ _))) hr3 hg3
      obtain ⟨us2, hus2⟩ : ∃ us2 : List ZSlc, us2 = us ++ [(va, m, vc)] := ⟨_, rfl⟩
      rw [← hus2] at HN
      clear hr3 hg3 hus2
      go_wp2
      go_roundw
      case rel => exact ⟨k + 1, v3, us2, by omega, by go_num, rfl, HN.out⟩
      case measure => simp [intOf]; omega
    · obtain rfl : k = n := by omega
      have hA2 := HA.out
      have e : L.take k = L := by rw [← HL.out, List.take_length]
      rw [e] at hA2
      obtain ⟨ea, ec, rfl, hz⟩ := hA2.done
      have hz2 := hz
      rw [HL.out] at hz2
      have HZ := Lib.hid hz2
      have HEQ := Lib.hid HL.out
      obtain ⟨m, hm⟩ : ∃ m, m = L.length := ⟨_, rfl⟩
      rw [← hm] at HEQ ⊢
      have hmk : m = k := HEQ.out
      subst hmk
      clear hz hz2 hA2 hm e
      go_wp2
      go_ret
      exact ⟨ea, ec, rfl, ⟨us, HZ.out⟩, HB.out⟩
end Go.Proofs.Ytdngaohjocokiaa
