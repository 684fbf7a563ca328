/- inquestlaw11.great, by its contract. -/
import Derived.Test.YtdngaohjocokiaaCuInts
import Derived.Test.YtdngaohjocokiaaCuAllP
import Derived.Test.YtdngaohjocokiaaRows
import Derived.Test.YtdngaohjocokiaaShelf
import Derived.BigQuiet
import Derived.Deep.AppendLies
import Derived.Deep.QuietTactic
import Derived.Deep.RegionLaw
import Derived.Deep.RegionWith
import Derived.KernelRfl
import Derived.Laws.CopyOwn
import Derived.Laws.EntriesVeiled
import Derived.Lib.ConvBytes
import Derived.Lib.Hide
import Derived.Lib.SlBytesRow
import Derived.Lib.SlicesCompact
import Derived.Lib.SmallJoins
import Derived.Shelf.Bytes.SlSmallAll
import Derived.Sort.Statements
import Derived.WalkKit
import Derived.WalkLawsBesides
import Derived.WalkSpells
namespace Go.Proofs.Ytdngaohjocokiaa
open Go Go.RowKit Go.Joins

theorem total_bound (B : Nat) : ∀ (L : List (List Int)), (∀ c ∈ L, c.length ≤ B) → total L ≤ L.length * B
  | [], _ => by simp [total]
  | c :: L, h => by
    have h1 := total_bound B L (fun x hx => h x (by simp [hx]))
    have h2 := h c (by simp)
    have h3 : total (c :: L) = c.length + total L := by simp [total]
    rw [h3, List.length_cons, Nat.add_mul]
    omega
set_option maxRecDepth 100000 in
set_option maxHeartbeats 3200000 in
theorem great11_any (L : List (List Int)) (a : Option Addr) (n c : Nat) (ss : List ZSlc) (w : World) (h : SeesZ w a n c ss L) (hn : n ≤ 9223372036854775807) :
    Calls Try.prog 6 #[.slice a n c] w fun e w' => ∃ b, e = .returned (.bool b) ∧ (b = false → n ≤ 60 ∧ (total L ≤ 9223372036854775807 → total L ≤ 400)) ∧ Below w.heap.size w w' := by
  have HS := Lib.hid h
  have HL := Lib.hid h.zlen
  clear h
  go_enter Try.func6, Try.ntmps6
  go_wp2
  go_loopw [4, 3] (fun i s wr => ∃ (k : Nat) (z : Int), k ≤ n ∧ i = .int .i64 k ∧ s = .int .i64 z ∧ Hid (total L ≤ 9223372036854775807 → z = total (L.take k)) ∧ Hid (wr = w)) (fun i _ _ => n - (intOf i).toNat)
  case atStart => exact ⟨0, 0, Nat.zero_le _, rfl, rfl, fun _ => rfl, rfl⟩
  case round =>
    obtain ⟨k, z, hk, rfl, rfl, hz, hw⟩ := hrel
    obtain rfl := hw.out.symm
    by_cases hlt : k < n
    · obtain ⟨b, off, rfl, _⟩ := HS.out.addr (show 0 < n by omega)
      have hc := HS.out.cellAt k hlt
      have hkl : k < L.length := by rw [HL.out]; exact hlt
      have he := (HS.out.each k hkl).zlen
      obtain ⟨⟨sa, sn, sc⟩, hs⟩ : ∃ s, s = ss.getD k zs0 := ⟨_, rfl⟩
      rw [← hs] at hc he
      simp only at hc he
      have hI1 : ((k : Nat) : Int) < (n : Int) := by omega
      have hI2 : (0 : Int) ≤ (k : Int) := by omega
      have W1 : IntKind.i64.wrap ((k : Int) + 1) = (k : Int) + 1 := IntWalk.i64_in _ (by omega)
      have HZ : Hid (total L ≤ 9223372036854775807 → wrap64 (z + (sn : Int)) = (total (L.take (k + 1)) : Int)) := by
        intro ht
        have h1 := hz.out ht
        have h2 := total_next L k hkl
        have h3 := total_snoc L k hkl
        have e : IntKind.i64.wrap (z + (sn : Int)) = z + (sn : Int) := IntWalk.i64_in _ (by omega)
        rw [IntWalk.i64_left] at e
        rw [e]; omega
      clear hs he hz hw
      go_wp2
      go_roundw
      case rel => exact ⟨k + 1, _, by omega, by go_num, rfl, HZ.out, trivial⟩
      case measure => simp [intOf]; omega
    · obtain rfl : k = n := by omega
      have HZ : Hid (total L ≤ 9223372036854775807 → z = (total L : Int)) := by
        intro ht
        have h1 := hz.out ht
        have e : L.take k = L := by rw [← HL.out, List.take_length]
        rw [e] at h1
        exact h1
      clear hz hw
      by_cases h60 : 60 < k
      · have E1 : decide ((60 : Int) < (k : Int)) = true := by simp; omega
        go_wp2
        go_ret
        exact ⟨true, rfl, (fun h => by cases h), Below.refl _ _⟩
      · have E1 : decide ((60 : Int) < (k : Int)) = false := by simp; omega
        by_cases h400 : 400 < z
        · have E2 : decide ((400 : Int) < z) = true := by simpa using h400
          go_wp2
          go_ret
          exact ⟨true, rfl, (fun h => by cases h), Below.refl _ _⟩
        · have E2 : decide ((400 : Int) < z) = false := by simpa using h400
          go_wp2
          go_ret
          exact .inl ⟨rfl, ⟨by omega, fun ht => by have := HZ.out ht; omega⟩, Below.refl _ _⟩
end Go.Proofs.Ytdngaohjocokiaa
