/- sim: a literal's value (over single values), by its contract. -/
import Derived.Test.YtgpkghlhlabjcaaLib
import Derived.Test.YtgpkghlhlabjcaaNHeap
import Derived.Test.YtgpkghlhlabjcaaTBits
import Derived.Test.YtgpkghlhlabjcaaSSpec
import Derived.Test.YtgpkghlhlabjcaaTMay
import Derived.Test.YtgpkghlhlabjcaaRows
import Derived.BigQuiet
import Derived.Deep.AppendLies
import Derived.Deep.QuietTactic
import Derived.Deep.RegionHeld3
import Derived.Deep.RegionLaw
import Derived.Deep.RegionWith
import Derived.KernelRfl
import Derived.Laws.Bits64b
import Derived.Laws.BitsAllLaws
import Derived.Laws.BitsLemmas
import Derived.Laws.EntriesVeiled
import Derived.Laws.Tables
import Derived.Lib.AppendZeros
import Derived.Lib.ConvBytes
import Derived.Lib.Hide
import Derived.Lib.SlBytesRow
import Derived.Lib.SmallJoins
import Derived.Maps.AppendAt
import Derived.Shelf.Bytes.SlSmallAll
import Derived.WalkKit
import Derived.WalkLawsBesides
import Derived.WalkSpells
namespace Go.Proofs.Ytgpkghlhlabjcaa
open Go Go.RowKit Go.Joins

/-- The kind of single values. -/
def kv1 : Value := .agg #[.int .u8 0, .func (.func 54) #[] #[], .func (.func 55) #[] #[]]

theorem u32_and1' (x : Nat) (h : x < 4294967296) : bits BinOp.and IntKind.u32 (x : Int) 1 = ((x % 2 : Nat) : Int) :=
  bits_mask .u32 32 (by decide) (fun n h0 h1 => by rw [IntKind.wrap_u32]; omega) 1 (by decide) (x : Int) (by omega) (by omega)

set_option maxRecDepth 100000 in
theorem single_any (w : World) : Calls Try.prog 39 #[] w fun e w' => e = .returned kv1 ∧ Below w.heap.size w w' := by
  unfold kv1
  go_enter Try.func39, Try.ntmps39
  go_wp2
  refine bodyPost_ret (v := kv1) ?_ rfl ?_
  · simp [results, Try.results39, go_sem]
    rfl
  · exact ⟨rfl, text_alloc _ _⟩

set_option maxRecDepth 100000 in
theorem value_any (vars : List UInt8) (a : Option Addr) (n c lit : Nat) (w : World) (h : Sees w a n c (vars.map bv)) (h1 : lit / 2 < n) (h2 : lit < 4294967296) :
    Calls Try.prog 56 #[kv1, .slice a n c, .int .u32 lit] w fun e w' => e = .returned (bv (k1.val vars lit)) ∧ Below w.heap.size w w' := by
  obtain ⟨b, off, rfl, hbw⟩ := h.addr (show 0 < n by omega)
  have hcx := h.byte (lit / 2) h1
  obtain ⟨x, hx⟩ : ∃ x, x = vars.getD (lit / 2) 0 := ⟨_, rfl⟩
  have HV : Hid (k1.val vars lit = if lit % 2 = 1 then k1.nt x else x) := by
    show _ = _
    unfold Kd.val
    rw [hx]
    rfl
  rw [← hx] at hcx
  clear hx
  have A1 := u32_and1' lit h2
  unfold kv1
  have D1 : (lit : Int) / 2 = ((lit / 2 : Nat) : Int) := by omega
  obtain ⟨m, hm⟩ : ∃ m, m = lit % 2 := ⟨_, rfl⟩
  obtain ⟨d, hd⟩ : ∃ d, d = lit / 2 := ⟨_, rfl⟩
  rw [← hm] at A1 HV
  rw [← hd] at D1 hcx h1
  clear hm hd
  go_enter Try.func56, Try.ntmps56
  by_cases h3 : m = 1
  · subst h3
    have HN := Lib.hid (not1_any x.toNat)
    have HE : Hid (Value.int .u8 ((not1 x.toNat : Nat) : Int) = bv (k1.val vars lit)) := by show _ = _; rw [HV.out, if_pos rfl, bv_not]
    clear HV
    go_wp2
    have hI : ((d : Nat) : Int) < (n : Int) := by omega
    go_quiet ((go_at_call 54; exact Calls.quiet_of_same (HN.out _)))
    go_wp2
    go_ret
    rename_i nq
    exact ⟨by rw [← HE.out]; rfl, text_trans (text_alloc _ _) (tdrewN _ nq)⟩
  · have e1 : ((m : Int) == 1) = false := by simp; omega
    have HE : Hid (Value.int .u8 (x.toNat : Int) = bv (k1.val vars lit)) := by show _ = _; rw [HV.out, if_neg h3]; rfl
    clear HV h3
    go_wp2
    go_ret
    exact ⟨by rw [← HE.out]; rfl, text_alloc _ _⟩
end Go.Proofs.Ytgpkghlhlabjcaa
