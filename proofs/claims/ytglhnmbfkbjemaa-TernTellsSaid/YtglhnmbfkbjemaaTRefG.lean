/- The reference's All for words, by its contract. -/
import Derived.Test.YtglhnmbfkbjemaaTRefD
import Derived.Test.YtglhnmbfkbjemaaOwnStr
namespace Go.Proofs.Ytglhnmbfkbjemaa
open Go Go.RowKit Go.Joins

theorem tinfo_u8 : (Try.prog.info? 5).map (fun i => (i.zero, i.size, i.bytes)) = some (some (.int .u8 0), 1, 1) := by kernel_rfl
theorem ofR_all (u : UInt8) : ofR (List.replicate 64 u) = allR u.toNat := by
  by_cases h : u.toNat ≤ 2
  · rcases (show u.toNat = 0 ∨ u.toNat = 1 ∨ u.toNat = 2 by omega) with e | e | e
    · obtain rfl : u = 0 := UInt8.toNat_inj.1 e
      decide +kernel
    · obtain rfl : u = 1 := UInt8.toNat_inj.1 e
      decide +kernel
    · obtain rfl : u = 2 := UInt8.toNat_inj.1 e
      decide +kernel
  · unfold ofR allR
    rw [if_neg h, if_neg (by simp), show List.replicate 64 u = u :: List.replicate 63 u from rfl, ofGo, if_pos (by omega)]

set_option maxRecDepth 100000 in
set_option maxHeartbeats 1600000 in
theorem rall_any (u : UInt8) (w : World) : Calls Try.prog 9 #[bv u] w fun e w' => e = w2E (allR u.toNat) ∧ Below w.heap.size w w' := by
  obtain ⟨i0, hi, hz0, hz1, hz2⟩ := info_parts tinfo_u8
  have HO := Lib.hid (rof_any (List.replicate 64 u))
  rw [ofR_all u] at HO
  obtain ⟨r, hr⟩ : ∃ r, r = allR u.toNat := ⟨_, rfl⟩
  rw [← hr] at HO ⊢
  clear hr
  obtain ⟨⟨r1, r2⟩, er⟩ := r
  have hE : w2E ((r1, r2), er) = .returned (.tuple #[.agg #[.int .u64 (r1 : Int), .int .u64 (r2 : Int)], .int .i64 er]) := rfl
  rw [hE] at HO ⊢
  clear hE
  obtain ⟨x, hx⟩ : ∃ x : Int, bv u = .int .u8 x := ⟨_, rfl⟩
  have HX := Lib.hid hx
  rw [hx]
  clear hx
  go_enter Try.func9, Try.ntmps9
  go_wp2_with fail
  generalize hW : World.alloc _ _ = W
  have h1 : W.heap[w.heap.size]? = some (.cells #[.int .u64 0, .int .u64 0] 24 (0, 0)) ∧ Below w.heap.size w W := by subst hW; exact ⟨theap_new _ _, text_alloc _ _⟩
  have H1 := Lib.hid h1.1
  have HB := Lib.hid h1.2
  clear hW h1
  go_loopw [4, 5] (fun v i wr => ∃ (z : Int) (k : Nat), k ≤ 64 ∧ z = (k : Int) ∧ i = .int .i64 z ∧ Hid (Row isByte wr W.heap.size 5 v k (List.replicate k (bv u))) ∧ Hid (Below W.heap.size W wr)) (fun _ i _ => 64 - (intOf i).toNat)
  case atStart => exact ⟨0, 0, by omega, rfl, rfl, Row.nil _ _ _ _, Below.refl _ _⟩
  case round =>
    obtain ⟨z, k, hk, hz, rfl, hrow, hB⟩ := hrel
    have hws := hB.out.size
    by_cases hlt : k < 64
    · subst hz
      have W1 : IntKind.i64.wrap ((k : Int) + 1) = (k : Int) + 1 := IntWalk.i64_in _ (by omega)
      have HSZ : Hid (W.heap.size ≤ wr.heap.size) := hws
      clear hws HO
      go_wp2_with (at_builtin; refine wpList_append_row isByte _ rfl _ _ 25 rfl W.heap.size 5 i0 (.int .u8 0) 1 Try.underlying25 hi hz0 hz1 hz2 rfl isByte_zero _ _ _ rfl (hrow.out.below ((Below.refl _ _).alloc (Nat.le_refl _) _)) (some ⟨wr.heap.size, 0, none⟩) 1 1 [bv u] rfl (by rw [HX.out]; exact sees_one _ _ _) (bv_one [u]) (isByte_all [u]) ?r4 ?r5 ?r6 ?_)
      case r4 => unfold maxLen; omega
      case r5 => omega
      case r6 => have := HSZ.out; simp; omega
      intro v2 w2 hrow2 hgrow2 _
      have hlt2 := hrow.out.own.lt
      have hb2 : Below W.heap.size W w2 := (hB.out.alloc (by have := HSZ.out; omega) _).grown hgrow2 (by have := HSZ.out; simp; omega) (fun k hk => (hlt2 k hk).1)
      have HR2 := Lib.hid hrow2
      have HB2 := Lib.hid hb2
      clear hrow2 hgrow2 hlt2 hb2
      go_wp2
      go_roundw
      case rel =>
        refine ⟨_, k + 1, by omega, by omega, rfl, ?_, HB2⟩
        show Row isByte w2 W.heap.size 5 v2 (k + 1) (List.replicate (k + 1) (bv u))
        rw [List.replicate_succ']
        exact HR2.out
      case measure => simp [intOf]; omega
    · have hk6 : k = 64 := by omega
      subst hk6
      obtain rfl : z = 64 := by omega
      obtain ⟨a, c, rfl, hc, hsee⟩ := hrow.out.sees
      have hsee2 : Sees wr a 64 c ((List.replicate 64 u).map bv) := by rw [List.map_replicate]; exact hsee
      have HO2 := Lib.hid (HO.out a 64 c wr hsee2)
      have HR := Lib.hid (theap_below H1.out hB.out)
      have HB2 := Lib.hid (text_trans HB.out hB.out)
      clear hk hlt hz hws hrow hsee hsee2 hc HO hB
      go_wp2_with fail
      refine HO2.out.mono ?_
      rintro e w3 ⟨rfl, hb3⟩
      have h3 := theap_below HR.out hb3
      have HB3 := Lib.hid (text_trans HB2.out hb3)
      have f0 := unfrozen_of_block h3 0
      have f1 := unfrozen_of_block h3 1
      have d0 := cell_of_block h3 0
      have d1 := cell_of_block h3 1
      have H3 := Lib.hid h3
      clear h3 hb3
      go_wp2
      refine bodyPost_ret (v := .tuple #[.agg #[.int .u64 (r1 : Int), .int .u64 (r2 : Int)], .int .i64 er]) ?_ rfl ?_
      · have h6 := tcell2 H3.out rfl (.int .u64 (r1 : Int)) (.int .u64 (r2 : Int))
        simp [results, Try.results9, go_sem, cell_of_block h6 0, cell_of_block h6 1]
      · exact ⟨rfl, tset HB3.out (Nat.le_refl _) _ _⟩
end Go.Proofs.Ytglhnmbfkbjemaa
