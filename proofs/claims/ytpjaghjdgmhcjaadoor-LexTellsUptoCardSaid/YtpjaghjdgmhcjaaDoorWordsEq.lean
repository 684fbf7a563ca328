/- The law's own comparison of words, by its contract. -/
import Derived.Test.YtpjaghjdgmhcjaaDoorRefWrite
namespace Go.Proofs.YtpjaghjdgmhcjaaDoor
open Go Go.RowKit Go.Joins

set_option maxHeartbeats 1600000 in
theorem words_same (W : List (List UInt8)) (a a' : Option Addr) (n c c' : Nat) (w : World) (h : Sees w a n c (W.map sv)) (h' : Sees w a' n c' (W.map sv)) (hn : n ≤ 1000000000) :
    Calls Tryd.prog 15 #[.slice a n c, .slice a' n c'] w fun e w' => e = .returned (.bool true) ∧ Below w.heap.size w w' := by
  have HS := Lib.hid h
  have HS' := Lib.hid h'
  clear h h'
  go_enter Tryd.func15, Tryd.ntmps15
  go_wp2
  go_loopw [5, 13] (fun _ j wr => ∃ k q : Nat, k ≤ n ∧ j = .int .i64 k ∧ Hid (wr = w.drewN q)) (fun _ j _ => n - (intOf j).toNat)
  case atStart => exact ⟨0, 0, Nat.zero_le _, rfl, rfl⟩
  case round =>
    obtain ⟨k, q, hk, rfl, hw⟩ := hrel
    have hw' := hw.out
    subst hw'
    clear hw
    by_cases hlt : k < n
    · obtain ⟨b1, o1, e1, _⟩ := HS.out.addr (by omega)
      obtain ⟨b2, o2, e2, _⟩ := HS'.out.addr (by omega)
      have s1 := HS.out
      have s2 := HS'.out
      rw [e1] at s1 ⊢
      rw [e2] at s2 ⊢
      obtain ⟨s, hs⟩ : ∃ s : ByteArray, s = str (W.getD k []) := ⟨_, rfl⟩
      have hc1 := sees_str s1 k hlt
      have hc2 := sees_str s2 k hlt
      rw [← hs] at hc1 hc2
      clear s1 s2 hs e1 e2
      have i0 : (0 : Int) ≤ (k : Int) := by omega
      have i1 : (k : Int) < (n : Int) := by omega
      go_wp2
      go_quiet (fail)
      go_wp2
      go_roundw
      case rel => exact ⟨k + 1, _, by omega, by go_num, (by unfold Hid; first | rfl | rw [World.drewN_drewN])⟩
      case measure => simp [intOf]; omega
    · go_wp2
      go_ret
      exact ⟨rfl, ext_drewN w q⟩
end Go.Proofs.YtpjaghjdgmhcjaaDoor
