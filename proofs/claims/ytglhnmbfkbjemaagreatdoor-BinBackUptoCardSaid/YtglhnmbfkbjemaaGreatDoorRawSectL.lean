/- raw.section at latches's function, by its contract. -/
import Derived.Test.YtglhnmbfkbjemaaGreatDoorBkM
namespace Go.Proofs.YtglhnmbfkbjemaaGreatDoor
open Go Go.RowKit Go.Joins
set_option maxRecDepth 100000 in
set_option maxHeartbeats 3200000 in
theorem sect_lat (bs : List UInt8) (G R f count most : Nat) (CR : Array Value) (a : Option Addr) (n c : Nat) (w : World) (hW : SecW G R f count most 63 w) (h : Sees w a n c (bs.map bv)) (hlow : ∀ b, a.map Addr.block = some b → b < w.heap.size ∧ b ≠ R) (hn : n ≤ 100000000) (hm : most < 4294967296) (hcount : count ≤ 100000000)
    (hR : w.heap[R]? = some (.cells CR 39 (0, 0))) (hf : CR[f]? = some (.slice none 0 0)) :
    Calls Tryz.prog 95 #[.slice a n c, .pointer (some ⟨G + 1, 0, .none⟩), .pointer (some ⟨G + 2, 0, .none⟩), .pointer (some ⟨G + 3, 0, .none⟩), .pointer (some ⟨G, 0, .none⟩)] w
      (SectPost Sees3 a R f CR (sectS latS most count bs) w) := by
  obtain ⟨i0, hi, hz0, hz1, hz2⟩ := info_parts info_lat
  have hbl := h.lenMap
  subst hbl
  have hx1 := hW.g1
  have HW := Lib.hid hW
  have hGlt := cell_lt hW.g0
  have hCR : CR.setIfInBounds f (.slice none 0 0) = CR := by
    apply Array.ext_getElem?
    intro i
    rw [Array.getElem?_setIfInBounds]
    split
    · rename_i e; subst e; split <;> simp_all
    · rfl
  have hst : SectI latS (own3 55) a R f most count CR bs w w (.slice none 0 0) [] bs a c :=
    ⟨Sofar.zero _ _ _ _, h, rfl, own3_nil _ _ _, by rw [hCR]; exact hR, World.grownBy.refl _ _, Nat.le_refl _⟩
  have HST := Lib.hid hst
  have hRlt := heap_lt hR
  have hcf : f < CR.size := (Array.getElem?_eq_some_iff.1 hf).1
  clear hW h hR hf hCR hst
  go_enter Tryz.func95, Tryz.ntmps95
  go_wp2
  clear hx1
  go_loopw [0, 13] (fun b i wr => ∃ (xs : List Tri) (rest : List UInt8) (a' : Option Addr) (c' : Nat) (v : Value), b = .slice a' rest.length c' ∧ i = .int .u32 xs.length ∧
      Hid (SectI latS (own3 55) a R f most count CR bs w wr v xs rest a' c'))
    (fun _ i _ => count - (intOf i).toNat)
  case atStart => exact ⟨[], bs, a, c, .slice none 0 0, rfl, rfl, HST.out⟩
  case round =>
    obtain ⟨xs, rest, a2, c2, v, rfl, rfl, hI⟩ := hrel
    obtain ⟨k, hk⟩ : ∃ k, k = xs.length := ⟨_, rfl⟩
    rw [← hk]
    have HK := Lib.hid hk
    clear hk
    have hkc : k ≤ count := by rw [HK.out]; exact hI.out.far.1
    have hSW := HW.out.but hI.out.but
    have g1 := hSW.g1
    have g2 := hSW.g2
    have g3 := hSW.g3
    have g0 := hSW.g0
    by_cases hlt : k < count
    · have HSW := Lib.hid hSW
      have HC := Lib.hid (cut_any rest a2 rest.length c2 wr hI.out.sees (by have := hI.out.le; omega))
      clear hSW g0 g2 g3
      go_wp2_with fail
      refine HC.out.mono ?_
      rintro e w2 ⟨hb2, hp⟩
      have HB2 := Lib.hid hb2
      rcases hp with ⟨hcs, a3, c3, a4, n4, c4, rfl⟩ | ⟨line, r2, a3, c3, a4, c4, hcs, rfl, hs3, hs4, hbk⟩
      · have HE := Lib.hid (hI.out.far.short (by rw [← HK.out]; exact hlt) hcs)
        have HBX := Lib.hid (heap_below hI.out.box hb2)
        have HBT := Lib.hid (but_below hI.out.but hb2)
        clear hcs hb2 hI
        go_wp2
        go_ret2
        exact ⟨HBT.out, Or.inr ⟨4, _, HE.out, by decide, rfl, HBX.out, by simp⟩⟩
      · have hl := cutS_len hcs
        have hle := hI.out.le
        have HSW2 := Lib.hid (HSW.out.below hb2)
        have g2 := HSW2.out.g2
        have g3 := HSW2.out.g3
        have HLI := Lib.hid (ri_latch_any line most a3 line.length c3 w2 hs3 (by omega) hm)
        have HCS := Lib.hid hcs
        have HS4 := Lib.hid hs4
        have HBK := Lib.hid (hbk.trans hI.out.blk)
        clear hbk
        have HROW := Lib.hid (own3_below hI.out.row hb2)
        have HBX2 := Lib.hid (heap_below hI.out.box hb2)
        have HBT2 := Lib.hid (but_below hI.out.but hb2)
        clear hcs hb2 hs3 hs4
        go_wp2_with fail
        refine HLI.out.mono ?_
        rintro e w3 ⟨hb3, hp⟩
        rcases hp with ⟨x, hx, rfl⟩ | ⟨er, her, h0, rfl⟩
        · have hnx := hI.out.far.next (by rw [← HK.out]; exact hlt) HCS.out hx
          have hsw3 := HSW2.out.below hb3
          have g0 := hsw3.g0
          obtain ⟨va, vc, rfl⟩ := own3_form HROW.out
          obtain ⟨x, y, z⟩ := x
          have hbx3 := heap_below HBX2.out hb3
          have hcR : w3.cell? ⟨R, f, .none⟩ = some (.slice va xs.length vc) := by rw [cell_of_block hbx3 f, Array.getElem?_setIfInBounds]; simp [hcf]
          have hfR := unfrozen_of_block hbx3 f
          have hrow3 := own3_below HROW.out hb3
          have hbt3 := but_below HBT2.out hb3
          have hbl : Below w3.heap.size w3 (((w3.alloc (.cells #[.int .u32 x, .int .u32 y, .int .u32 z] 55)).alloc (.cells #[.int .u32 x, .int .u32 y, .int .u32 z] 55)).drew) := (ext_trans (ext_alloc _ _) (ext_alloc _ _)).drew
          unfold own3 at hrow3
          obtain ⟨L, hL⟩ : ∃ L, L = triCs xs := ⟨_, rfl⟩
          rw [← hL, ← HK.out] at hrow3
          rw [← HK.out] at hcR hbx3
          have HLL := Lib.hid hL
          have HRW := Lib.hid (owns_below hrow3 hbl)
          have HSL := Lib.hid (World.news_of_block (w := ((w3.alloc (.cells #[.int .u32 x, .int .u32 y, .int .u32 z] 55)).alloc (.cells #[.int .u32 x, .int .u32 y, .int .u32 z] 55)).drew) (B := w3.heap.size + 1) (cs := #[.int .u32 x, .int .u32 y, .int .u32 z]) (t := 55) (fr := (0, 0)) (show ((w3.alloc (.cells #[.int .u32 x, .int .u32 y, .int .u32 z] 55)).alloc (.cells #[.int .u32 x, .int .u32 y, .int .u32 z] 55)).heap[w3.heap.size + 1]? = _ from heap_new _ _ _ (by simp)))
          have HBX3 := Lib.hid (heap_below hbx3 hbl)
          have hcRb := cell_below hcR (ext_alloc w3 (.cells #[.int .u32 x, .int .u32 y, .int .u32 z] 55))
          have hg0b := cell_below g0 (ext_alloc w3 (.cells #[.int .u32 x, .int .u32 y, .int .u32 z] 55))
          have hcRa := cell_below hcRb (ext_alloc (w3.alloc (.cells #[.int .u32 x, .int .u32 y, .int .u32 z] 55)) (.cells #[.int .u32 x, .int .u32 y, .int .u32 z] 55))
          have hxb0 : (w3.alloc (.cells #[.int .u32 x, .int .u32 y, .int .u32 z] 55)).cell? ⟨w3.heap.size, 0, none⟩ = some (.int .u32 x) := cell_new _ _ _ _ _ _ _ rfl rfl
          have hxb1 : (w3.alloc (.cells #[.int .u32 x, .int .u32 y, .int .u32 z] 55)).cell? ⟨w3.heap.size, 1, none⟩ = some (.int .u32 y) := cell_new _ _ _ _ _ _ _ rfl rfl
          have hxb2 : (w3.alloc (.cells #[.int .u32 x, .int .u32 y, .int .u32 z] 55)).cell? ⟨w3.heap.size, 2, none⟩ = some (.int .u32 z) := cell_new _ _ _ _ _ _ _ rfl rfl
          have hg0a := cell_below hg0b (ext_alloc (w3.alloc (.cells #[.int .u32 x, .int .u32 y, .int .u32 z] 55)) (.cells #[.int .u32 x, .int .u32 y, .int .u32 z] 55))
          have HG0 := Lib.hid (cell_below g0 hbl)
          have HBT3 := Lib.hid (but_below hbt3 hbl)
          have HNX := Lib.hid hnx
          have HX := Lib.hid hx
          have hkx : (xs ++ [(x, y, z)]).length = k + 1 := by rw [List.length_append, ← HK.out]; rfl
          have HKX := Lib.hid hkx
          clear hkx
          have hsz := hbt3.size
          clear hnx hsw3 hbx3 hrow3 hbt3 hbl hL hx hb3 hI
          have hq4 : k + 1 ≤ maxLen := by unfold maxLen; omega
          have hq5 : (k + 1) * 12 ≤ 140737488355328 := by omega
          have hq6 : w.heap.size ≤ (((w3.alloc (.cells #[.int .u32 x, .int .u32 y, .int .u32 z] 55)).alloc (.cells #[.int .u32 x, .int .u32 y, .int .u32 z] 55)).drew).heap.size := by simp; omega
          unfold triV
          go_wp2
          go_region_law (first
            | (refine step_append_lies _ rfl _ _ 36 rfl w.heap.size 55 i0 (.agg #[.int .u32 0, .int .u32 0, .int .u32 0]) 3 12 Tryz.underlying36 hi hz0 hz1 hz2 rfl (by decide) _ _ _ (by simp [Act.eval]) HRW.out ⟨w3.heap.size + 1, 0, none⟩ 1 1 [.int .u32 x, .int .u32 y, .int .u32 z] (by simp [Act.eval]) rfl HSL.out (by intro u hu; simp at hu; rcases hu with rfl | rfl | rfl <;> rfl) (by decide) hq4 hq5 hq6 _ rfl ?_; intro v4a v4c w4 r4 hg4 _ _; have hh4 := heap_grown HBX3.out hg4 (owns_notown HRW.out HBX3.out (by decide)); have hc4 : w4.cell? ⟨R, f, none⟩ = some (.slice va k vc) := (by rw [cell_of_block hh4 f, Array.getElem?_setIfInBounds]; simp [hcf]); have hf4 : w4.frozen? ⟨R, f, none⟩ = false := unfrozen_of_block hh4 f; have hg04 : w4.cell? ⟨G, 0, none⟩ = some (.pointer (some ⟨R, f, none⟩)) := cell_grown HG0.out hg4 (fun e => by have := (HRW.out.lt G e).1; omega); have HH4 := Lib.hid hh4; have HR4 := Lib.hid r4; have HG4 := Lib.hid hg4; clear hh4 r4 hg4))
          all_goals go_wp2
          all_goals go_roundw
          all_goals first
            | (simp [intOf]; omega)
            | (refine ⟨xs ++ [(x, y, z)], r2, a4, c4, .slice (some ⟨v4a, 0, none⟩) (k + 1) v4c, rfl, ?_, ?_⟩
               · rw [HKX.out]; go_num
               · exact sect_end3 HNX.out HS4.out HBT2.out HBK.out HBT3.out HRW.out HG4.out HR4.out HH4.out (by rw [HKX.out]) (by rw [HLL.out, triCs_append]; rfl) hlow hRlt (by omega))
        · have HE := Lib.hid (hI.out.far.bad (by rw [← HK.out]; exact hlt) HCS.out her)
          have H0 := Lib.hid h0
          have e1 : (er != 0) = true := by simp [h0]
          have e2 : (er == 0) = false := by simp [h0]
          have HBX := Lib.hid (heap_below HBX2.out hb3)
          have HBT := Lib.hid (but_below HBT2.out hb3)
          clear her h0 hb3 hI
          go_wp2
          go_ret2
          exact ⟨but_below HBT.out (ext_alloc _ _), Or.inr ⟨er, _, HE.out, H0.out, rfl, heap_below HBX.out (ext_alloc _ _), by simp⟩⟩
    · have hkk : count = k := by omega
      subst hkk
      have hd := hI.out.far.done HK.out.symm
      have HD := Lib.hid hd
      clear hd hSW g0 g2 g3
      go_wp2
      go_ret2
      obtain ⟨a5, c5, rfl, s5⟩ := own3_sees hI.out.row
      have hown := hI.out.row.lt
      refine ⟨hI.out.but, Or.inl ⟨xs, rest, a5, c5, a2, c2, HD.out, rfl, hI.out.sees, hI.out.blk, hI.out.box, s5, fun b off e => ?_⟩⟩
      subst e
      have := (hown b rfl).1
      omega
end Go.Proofs.YtglhnmbfkbjemaaGreatDoor
