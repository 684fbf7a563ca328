/- raw.Names, by its contract. -/
import Derived.Test.YtglhnmbfkbjemaaDoorRawIsName
namespace Go.Proofs.YtglhnmbfkbjemaaDoor
open Go Go.RowKit Go.Joins

/-- Names between two lines: what is left says the same as all. -/
def NamesI (many : List Nat) (bs rest : List UInt8) : Prop := rest.length ≤ bs.length ∧ namesErr many bs = namesErr many rest
theorem namesS_fuel (many : List Nat) : ∀ (f g : Nat) (b : List UInt8), b.length ≤ f → b.length ≤ g → namesS many f b = namesS many g b
  | 0, 0, _, _, _ => rfl
  | 0, g + 1, b, h, _ => by
    have : b = [] := List.eq_nil_of_length_eq_zero (by omega)
    subst this; simp [namesS]
  | f + 1, 0, b, _, h => by
    have : b = [] := List.eq_nil_of_length_eq_zero (by omega)
    subst this; simp [namesS]
  | f + 1, g + 1, b, h1, h2 => by
    rw [namesS, namesS]
    by_cases hb : b = []
    · rw [if_pos hb, if_pos hb]
    · rw [if_neg hb, if_neg hb]
      cases hc : cutS b with
      | none => rfl
      | some p =>
        obtain ⟨line, rest⟩ := p
        have hl : rest.length < b.length := by
          unfold cutS at hc
          split at hc
          · cases hc; simp; omega
          · cases hc
        simp only
        rw [namesS_fuel many f g rest (by omega) (by omega)]
theorem names_step (many : List Nat) {b : List UInt8} (hb : b ≠ []) : namesErr many b = match cutS b with
    | none => 4
    | some (line, rest) => if line = [99] then 0 else if nameOk line many = true then namesErr many rest else 5 := by
  unfold namesErr
  obtain ⟨f, hf⟩ : ∃ f, b.length = f + 1 := by
    cases b with
    | nil => exact absurd rfl hb
    | cons x r => exact ⟨r.length, rfl⟩
  rw [hf, namesS, if_neg hb]
  cases hc : cutS b with
  | none => rfl
  | some p =>
    obtain ⟨line, rest⟩ := p
    have hl : rest.length < b.length := by
      unfold cutS at hc
      split at hc
      · cases hc; simp; omega
      · cases hc
    simp only
    rw [namesS_fuel many f rest.length rest (by omega) (Nat.le_refl _)]

set_option maxRecDepth 100000 in
set_option maxHeartbeats 1600000 in
theorem names_any (bs : List UInt8) (m0 m1 m2 m3 m4 : Nat) (a : Option Addr) (n c : Nat) (w : World) (h : Sees w a n c (bs.map bv)) (hn : n ≤ 1000000000) :
    Calls Tryd.prog 16 #[.slice a n c, manyV m0 m1 m2 m3 m4] w fun e w' => e = .returned (.int .i64 (namesErr [m0, m1, m2, m3, m4] bs)) ∧ Below w.heap.size w w' := by
  have hbl := h.lenMap
  subst hbl
  have HS := Lib.hid h
  obtain ⟨er, her⟩ : ∃ er, er = namesErr [m0, m1, m2, m3, m4] bs := ⟨_, rfl⟩
  rw [← her]
  have HE := Lib.hid her
  clear h her
  unfold manyV
  go_enter Tryd.func16, Tryd.ntmps16
  go_wp2
  go_loopw [0] (fun b wr => ∃ (rest : List UInt8) (a' : Option Addr) (c' : Nat), b = .slice a' rest.length c' ∧ Hid (Sees wr a' rest.length c' (rest.map bv)) ∧ Hid (rest.length ≤ bs.length ∧ er = namesErr [m0, m1, m2, m3, m4] rest) ∧
      Hid (wr.heap[w.heap.size]? = some (.cells #[.int .u32 m0, .int .u32 m1, .int .u32 m2, .int .u32 m3, .int .u32 m4] 53 (0, 0))) ∧ Hid (Below w.heap.size w wr))
    (fun b _ => match b with | .slice _ n _ => n | _ => 0)
  case atStart => exact ⟨bs, a, c, rfl, HS.out.below (ext_alloc _ _), ⟨Nat.le_refl _, HE.out⟩, heap_new _ _ _ rfl, ext_alloc _ _⟩
  case round =>
    obtain ⟨rest, a', c', rfl, hs, hI, hbx, hbel⟩ := hrel
    by_cases hr : rest = []
    · subst hr
      have e : er = 0 := by rw [hI.out.2]; rfl
      have E := Lib.hid e
      clear e
      go_wp2
      go_ret
      exact ⟨by rw [E.out]; rfl, hbel.out⟩
    · have hrl : 0 < rest.length := List.length_pos_iff.2 hr
      have hst := names_step [m0, m1, m2, m3, m4] hr
      rw [← hI.out.2] at hst
      have HST := Lib.hid hst
      have hle := hI.out.1
      have HC := Lib.hid (cut_any rest a' rest.length c' wr hs.out (by omega))
      have e0 : ((0 : Int) < (rest.length : Int)) := by omega
      clear hst hr
      go_wp2_with fail
      refine HC.out.mono ?_
      rintro e w2 ⟨hb2, hp⟩
      have HB2 := Lib.hid (ext_trans hbel.out hb2)
      have HBX2 := Lib.hid (heap_below hbx.out hb2)
      rcases hp with ⟨hcs, a3, c3, a4, n4, c4, rfl⟩ | ⟨line, r2, a3, c3, a4, c4, hcs, rfl, hs3, hs4, hbk⟩
      · have e : er = 4 := by rw [HST.out, hcs]
        have E := Lib.hid e
        clear e hcs hb2
        go_wp2
        go_ret
        exact ⟨by rw [E.out]; rfl, HB2.out⟩
      · have hst2 := HST.out
        rw [hcs] at hst2
        have HST2 := Lib.hid hst2
        have hlen : line.length ≤ rest.length ∧ r2.length < rest.length := by
          unfold cutS at hcs
          split at hcs
          · cases hcs; simp; omega
          · cases hcs
        have hstr := hs3.str (P := Tryd.prog) 22 5 9 Tryd.underlying22 Tryd.underlying5 Tryd.underlying9
        have hconst : (⟨#[99]⟩ : ByteArray) = str [99] := rfl
        have HS3 := Lib.hid hs3
        have HS4 := Lib.hid hs4
        have hl1 := hlen.1
        have hl2 := hlen.2
        have HIN := Lib.hid (fun (w' : World) (hb : Below w2.heap.size w2 w') => isName_any line m0 m1 m2 m3 m4 a3 line.length c3 w' (hs3.below hb) (by omega))
        clear hcs hb2 hst2 hlen hs3 hs4 hbk
        have hm0 := cell_of_block HBX2.out 0
        have hm1 := cell_of_block HBX2.out 1
        have hm2 := cell_of_block HBX2.out 2
        have hm3 := cell_of_block HBX2.out 3
        have hm4 := cell_of_block HBX2.out 4
        by_cases hc : line = [99]
        · have e : er = 0 := by rw [HST2.out]; simp [hc]
          have E := Lib.hid e
          have ec : ((str line).toList == [99]) = true := by rw [ByteArray.toList_eq, hc]; rfl
          have HCC := Lib.hid hc
          clear e hc hconst
          go_wp2
          go_ret
          exact ⟨by rw [E.out]; rfl, HB2.out⟩
        · have ec : ((str line).toList == [99]) = false := by
            rw [ByteArray.toList_eq]
            show (line == [99]) = false
            simpa using hc
          obtain ⟨q, hq⟩ : ∃ q, q = nameOk line [m0, m1, m2, m3, m4] := ⟨_, rfl⟩
          have hst3 : er = if q = true then namesErr [m0, m1, m2, m3, m4] r2 else 5 := by rw [HST2.out, hq]; simp [hc]
          have HQ := Lib.hid (HIN.out w2 (Below.refl _ _))
          rw [← hq] at HQ
          have HST3 := Lib.hid hst3
          have HCC := Lib.hid hc
          clear hst3 hc hconst hq
          go_wp2_with fail
          refine HQ.out.mono ?_
          rintro e w3 ⟨rfl, hb3⟩
          have HB3 := Lib.hid (ext_trans HB2.out hb3)
          have HBX3 := Lib.hid (heap_below HBX2.out hb3)
          have HS5 := Lib.hid (HS4.out.below hb3)
          clear hb3 hm0 hm1 hm2 hm3 hm4 hstr
          cases q with
          | true =>
            have e2 : er = namesErr [m0, m1, m2, m3, m4] r2 := by rw [HST3.out]; simp
            have E2 := Lib.hid e2
            clear e2
            go_wp2
            go_roundw
            case rel => exact ⟨r2, a4, c4, rfl, HS5.out, ⟨by omega, E2.out⟩, HBX3.out, HB3.out⟩
            case measure => simp; omega
          | false =>
            have e2 : er = 5 := by rw [HST3.out]; simp
            have E2 := Lib.hid e2
            clear e2
            go_wp2
            go_ret
            exact ⟨by rw [E2.out]; rfl, HB3.out⟩
end Go.Proofs.YtglhnmbfkbjemaaDoor
