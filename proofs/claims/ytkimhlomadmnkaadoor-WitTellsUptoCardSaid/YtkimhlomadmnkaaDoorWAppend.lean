/- wit.appendValues, by its contract. -/
import Derived.Test.YtkimhlomadmnkaaDoorWSpec
import Derived.Test.YtkimhlomadmnkaaDoorWrite
import Derived.Lib.LaidTab
namespace Go.Proofs.YtkimhlomadmnkaaDoor
open Go Go.RowKit Go.Joins

/-- The table of digits. -/
def Dig (w : World) : Prop := Lib.TabIs Tryd.prog w "inquest/wit.digits" .u8 [48, 49, 120]
theorem gDig : Tryd.prog.globalNamed "inquest/wit.digits" = some 0 := by kernel_rfl
theorem Dig.below {w w' : World} {B : Nat} (h : Dig w) (hb : Below B w w') (hB : w.heap.size ≤ B) : Dig w' := by
  unfold Dig Lib.TabIs at h ⊢
  unfold World.var? at h ⊢
  rw [gDig] at h ⊢
  simp only [Option.bind_some] at h ⊢
  have hlt : 0 < w.heap.size := by
    rcases Nat.lt_or_ge 0 w.heap.size with h' | h'
    · exact h'
    · simp [Array.getElem?_eq_none h'] at h
  rw [hb.block 0 (by omega)]
  exact h
theorem Dig.at {w : World} (h : Dig w) (u : UInt8) (hu : u.toNat ≤ 2) : w.cell? ⟨0, u.toNat, none⟩ = some (.int .u8 ((digB u).toNat : Int)) := by
  have h1 := Lib.TabIs.cell h gDig u.toNat (by simp; omega)
  rw [h1]
  have hr : u.toNat = 0 ∨ u.toNat = 1 ∨ u.toNat = 2 := by omega
  rcases hr with e | e | e
  · have : u = 0 := UInt8.toNat_inj.1 e
    subst this; rfl
  · have : u = 1 := UInt8.toNat_inj.1 e
    subst this; rfl
  · have : u = 2 := UInt8.toNat_inj.1 e
    subst this; rfl

set_option maxRecDepth 100000 in
set_option maxHeartbeats 1600000 in
theorem appvals_any (B : Nat) (xs l : List UInt8) (v : Value) (a' : Option Addr) (n' c' : Nat) (w : World) (hown : Row isByte w B 5 v xs.length (xs.map bv)) (hBw : B ≤ w.heap.size) (hs : ∀ W, Below B w W → Sees W a' n' c' (l.map bv)) (hx : xs.length ≤ 1000000000) (hn' : n' ≤ 1048577)
    (hbig : ∀ u ∈ l, u.toNat ≤ 2) (hd : ∀ W, Below B w W → Dig W) :
    Calls Tryd.prog 41 #[v, .slice a' n' c'] w fun e w' => ∃ v', e = .returned v' ∧ Row isByte w' B 5 v' (xs ++ lineW l).length ((xs ++ lineW l).map bv) ∧ Below B w w' := by
  obtain ⟨i0, hi, hz0, hz1, hz2⟩ := info_parts info_u8
  have hl := (hs w (Below.refl _ _)).lenMap
  have HS := Lib.hid hs
  have HL := Lib.hid hl
  have HBIG := Lib.hid hbig
  have HD := Lib.hid hd
  have HO := Lib.hid hown
  have HBW := Lib.hid hBw
  have HX := Lib.hid hx
  clear hs hl hbig hd hown hBw hx
  obtain ⟨b0, c0, rfl⟩ := HO.out.form
  obtain ⟨N0, hN0⟩ : ∃ N, N = xs.length := ⟨_, rfl⟩
  rw [← hN0]
  have HN0 := Lib.hid hN0
  clear hN0
  go_enter Tryd.func41, Tryd.ntmps41
  go_wp2
  go_loopw [0, 6, 9] (fun b _ j wr => ∃ (k : Nat) (cur : List UInt8), k ≤ n' ∧ j = .int .i64 k ∧ Hid (cur = xs ++ (l.take k).map digB) ∧ Hid (Row isByte wr B 5 b cur.length (cur.map bv)) ∧ Hid (Below B w wr)) (fun _ _ j _ => n' - (intOf j).toNat)
  case atStart => exact ⟨0, xs, Nat.zero_le _, rfl, (by show xs = _; simp), (by show Row _ _ _ _ _ _ _; rw [HN0.out]; exact HO.out), Below.refl _ _⟩
  case round =>
    obtain ⟨k, cur, hk, rfl, hcur, hR, hB⟩ := hrel
    have hlk : cur.length = xs.length + k := by rw [hcur.out]; simp [HL.out]; omega
    by_cases hlt : k < n'
    · have hsee := HS.out wr hB.out
      obtain ⟨b, off, rfl, hbw⟩ := hsee.addr (by omega)
      have hcx := hsee.byte k hlt
      obtain ⟨u, hu⟩ : ∃ u, u = l.getD k 0 := ⟨_, rfl⟩
      have hu2 : u.toNat ≤ 2 := by
        rw [hu]
        exact HBIG.out _ (by simp [List.getD, List.getElem?_eq_getElem (show k < l.length by rw [HL.out]; exact hlt)])
      rw [← hu] at hcx
      have hdc := (HD.out wr hB.out).at u hu2
      obtain ⟨x, hxx⟩ : ∃ x, x = u.toNat := ⟨_, rfl⟩
      obtain ⟨y, hyy⟩ : ∃ y, y = (digB u).toNat := ⟨_, rfl⟩
      rw [← hxx] at hcx hdc hu2
      rw [← hyy] at hdc
      have HU := Lib.hid hu
      have HY := Lib.hid hyy
      have W1 : IntKind.i64.wrap ((k : Int) + 1) = (k : Int) + 1 := IntWalk.i64_in _ (by omega)
      have hsz := hB.out.size
      have HSZ := Lib.hid hsz
      have HRR := Lib.hid hR.out
      have HBB := Lib.hid hB.out
      have HLK := Lib.hid hlk
      clear hu hyy hsee hR hB hsz hlk hxx
      go_wp2_with (at_builtin; refine wpList_append_row isByte _ rfl _ _ 22 rfl B 5 i0 (.int .u8 0) 1 Tryd.underlying22 hi hz0 hz1 hz2 rfl isByte_zero _ _ _ rfl (HRR.out.below (ext_alloc _ _)) (some ⟨wr.heap.size, 0, none⟩) 1 1 [.int .u8 y] rfl (sees_one _ _ _) (fun z hz => by simp at hz; subst hz; rfl) (fun z hz => by simp at hz; subst hz; exact ⟨digB u, by simp [bv, HY.out]⟩) ?r4 ?r5 ?r6 ?_)
      case r4 => have := HLK.out; have := HX.out; unfold maxLen; omega
      case r5 => have := HLK.out; have := HX.out; omega
      case r6 => have := HSZ.out; have := HBW.out; simp; omega
      intro v2 w2 hrow2 hgrow2 _
      have hlt2 := HRR.out.own.lt
      have hb2 : Below B w w2 := (HBB.out.alloc (Nat.le_trans HBW.out HSZ.out) _).grown hgrow2 (by have := HSZ.out; have := HBW.out; simp; omega) (fun k hk => (hlt2 k hk).1)
      have hc2 : cur ++ [digB u] = xs ++ (l.take (k + 1)).map digB := by
        rw [take_snoc l k (by rw [HL.out]; exact hlt), ← HU.out, hcur.out]; simp
      have HC2 := Lib.hid hc2
      have HR2 : Hid (Row isByte w2 B 5 v2 (cur ++ [digB u]).length ((cur ++ [digB u]).map bv)) := by
        show Row _ _ _ _ _ _ _
        rw [List.length_append, List.map_append]
        have : [digB u].map bv = [.int .u8 (y : Int)] := by simp [bv, HY.out]
        rw [this]
        exact hrow2
      have HB2 := Lib.hid hb2
      clear hrow2 hgrow2 hlt2 hb2 hc2 HRR
      go_wp2
      go_roundw
      case rel => exact ⟨k + 1, _, by omega, by go_num, HC2, HR2, HB2⟩
      case measure => simp [intOf]; omega
    · have hkn : k = n' := by omega
      subst hkn
      have hfull : l.take k = l := List.take_of_length_le (by rw [HL.out]; exact Nat.le_refl _)
      have hcf := hcur.out
      rw [hfull] at hcf
      have HCF := Lib.hid hcf
      have HSZ := Lib.hid hB.out.size
      have HRR := Lib.hid hR.out
      have HBB := Lib.hid hB.out
      have HLK := Lib.hid hlk
      clear hR hB hlk hfull hcf
      go_wp2_with (at_builtin; refine wpList_append_row isByte _ rfl _ _ 22 rfl B 5 i0 (.int .u8 0) 1 Tryd.underlying22 hi hz0 hz1 hz2 rfl isByte_zero _ _ _ rfl (HRR.out.below (ext_alloc _ _)) (some ⟨wr.heap.size, 0, none⟩) 1 1 [bv 10] rfl (sees_one _ _ _) (bv_one [10]) (isByte_all [10]) ?s4 ?s5 ?s6 ?_)
      case s4 => have := HLK.out; have := HX.out; unfold maxLen; omega
      case s5 => have := HLK.out; have := HX.out; omega
      case s6 => have := HSZ.out; have := HBW.out; simp; omega
      intro v2 w2 hrow2 hgrow2 _
      have hlt2 := HRR.out.own.lt
      have hb2 : Below B w w2 := (HBB.out.alloc (Nat.le_trans HBW.out HSZ.out) _).grown hgrow2 (by have := HSZ.out; have := HBW.out; simp; omega) (fun k hk => (hlt2 k hk).1)
      have HR2 : Hid (Row isByte w2 B 5 v2 (xs ++ lineW l).length ((xs ++ lineW l).map bv)) := by
        show Row _ _ _ _ _ _ _
        have e2 : (xs ++ lineW l) = cur ++ [10] := by rw [HCF.out]; simp [lineW]
        rw [e2, List.length_append, List.map_append]
        exact hrow2
      have HB2 := Lib.hid hb2
      clear hrow2 hgrow2 hlt2 hb2 HRR
      go_wp2
      go_ret
      exact ⟨v2, rfl, HR2.out, HB2.out⟩
end Go.Proofs.YtkimhlomadmnkaaDoor
