/- clause.allOrdered, by its contract. -/
import Derived.Test.YtdngaohjocokiaaLib
import Derived.Test.YtdngaohjocokiaaOwn
import Derived.Test.YtdngaohjocokiaaNBase
import Derived.Test.YtdngaohjocokiaaCuPure
import Derived.Test.YtdngaohjocokiaaCuInts
import Derived.Test.YtdngaohjocokiaaCuSort
import Derived.Test.YtdngaohjocokiaaCuOrd
import Derived.Test.YtdngaohjocokiaaCuAllP
import Derived.Test.YtdngaohjocokiaaRows
import Derived.Test.YtdngaohjocokiaaShelf
import Derived.BigQuiet
import Derived.Deep.AppendLies
import Derived.Deep.CutRange
import Derived.Deep.QuietTactic
import Derived.Deep.RegionLaw
import Derived.Deep.RegionWith
import Derived.KernelRfl
import Derived.Laws.CopyOwn
import Derived.Laws.EntriesVeiled
import Derived.Lib.ConvBytes
import Derived.Lib.Hide
import Derived.Lib.SlBytesRow
import Derived.Lib.SlicesCompact
import Derived.Lib.SmallJoins
import Derived.Shelf.Bytes.SlSmallAll
import Derived.Sort.Statements
import Derived.WalkKit
import Derived.WalkLawsBesides
import Derived.WalkSpells
namespace Go.Proofs.Ytdngaohjocokiaa
open Go Go.RowKit Go.Joins Go.Lib Go.Sort

/-- ordered, of an empty clause too, wherever it lies. -/
theorem ordered_both (R off o n D : Nat) (c : List Int) (Cur : Array Value) (w : World) (h : Seg w R off n c Cur) (ho : 0 < n → o = off) (hcap : n ≤ D) (hn : n ≤ 4096) (hr : ∀ x ∈ c, -9223372036854775807 ≤ x ∧ x ≤ 9223372036854775807) (h0 : (0 : Int) ∉ c) :
    Calls Try.prog 35 #[.slice (some ⟨R, o, none⟩) n D] w fun e w' => ∃ Cur', w'.heap[R]? = some (.cells Cur' 3 (0, 0)) ∧ Kept off n Cur Cur' ∧ w.grownBy w' (some R) ∧
      ((orderS c = none ∧ e = .returned (.tuple #[.slice none 0 0, .bool true])) ∨
       (∃ C, orderS c = some C ∧ e = .returned (.tuple #[.slice (some ⟨R, o, none⟩) C.length D, .bool false]) ∧ SegOk R (off + n) Cur' (some ⟨R, o, none⟩, C.length, D) C)) := by
  by_cases hn0 : n = 0
  · subst hn0
    have : c = [] := List.eq_nil_of_length_eq_zero h.len
    subst this
    refine (ordered_zero _ _ w).mono ?_
    rintro e w' ⟨rfl, rfl⟩
    exact ⟨Cur, h.blk, ⟨rfl, fun _ _ => rfl⟩, grownBy_refl _ _, .inr ⟨[], orderS_nil, rfl, ⟨rfl, Nat.zero_le _, (fun e => by cases e), fun h => absurd h (by simp)⟩⟩⟩
  · obtain rfl := ho (by omega)
    refine (ordered_any R o n D c Cur w h hcap hn (by omega) hr h0).mono ?_
    rintro e w' ⟨Cur', h1, h2, h3, h4⟩
    refine ⟨Cur', h1, h2, h3, ?_⟩
    rcases h4 with ⟨a, b⟩ | ⟨C, a, b, hle, hc⟩
    · exact .inl ⟨a, b⟩
    · exact .inr ⟨C, a, b, ⟨rfl, Nat.le_trans hle hcap, (fun e => by cases e), fun _ => ⟨o, rfl, by omega, hc⟩⟩⟩
theorem seg_splice {w : World} {R off n : Nat} {c : List Int} {cur : List Value} (hb : w.heap[R]? = some (.cells (splice cur off (zvs c)).toArray 3 (0, 0))) (hn : c.length = n) (hf : off + n ≤ cur.length) :
    Seg w R off n c (splice cur off (zvs c)).toArray ∧ Kept off n cur.toArray (splice cur off (zvs c)).toArray := by
  have hz := zvs_len c
  have hl := length_splice cur off (zvs c) (by omega)
  refine ⟨⟨hb, by simp only [List.size_toArray]; omega, hn, fun j hj => ?_⟩, by simpa using hl, fun j hj => ?_⟩
  · rw [List.getElem?_toArray]
    unfold splice
    rw [List.getElem?_append_right (by rw [List.length_take]; omega), List.length_take, Nat.min_eq_left (by omega), Nat.add_sub_cancel_left, List.getElem?_append_left (by omega)]
    simp [zvs, List.getD, List.getElem?_eq_getElem (show j < c.length by omega)]
  · rw [List.getElem?_toArray, List.getElem?_toArray]
    unfold splice
    rcases hj with hj | hj
    · rw [List.getElem?_append_left (by rw [List.length_take]; omega), List.getElem?_take_of_lt hj]
    · rw [List.getElem?_append_right (by rw [List.length_take]; omega), List.length_take, Nat.min_eq_left (by omega), List.getElem?_append_right (by omega), List.getElem?_drop]
      congr 1
      omega
/-- copy into a block that is known whole: only that block turns. -/
theorem wpList_copy_grown {P : Program} {w : World} {ops : Array Oper} {rest : List Oper} {o : Oper} {a : Act} {Q : Exit → Act → World → Prop} (hgd : o.guard = none) (d s : Operand) (dT sT : TypeId)
    (ho : o.op = .call { callee := .builtin .copy, args := #[d, s], argTypes := #[dT, sT] }) (elem : TypeId) (hu : P.underlying dT = some (.slice elem)) (hsz : (P.info? elem).map (·.size) = some 1)
    (dp sp : Option Addr) (dLen dCap sLen sCap : Nat) (hd : a.eval d = .slice dp dLen dCap) (hs : a.eval s = .slice sp sLen sCap)
    (g off : Nat) (cur : List Value) (t : TypeId) (hg : w.heap[g]? = some (.cells cur.toArray t (0, 0))) (cs : List Value) (hn : cs.length = Nat.min sLen dLen)
    (hpos : 0 < cs.length → dp = some ⟨g, off, none⟩ ∧ ∃ ad, sp = some ad ∧ ∀ j v, cs[j]? = some v → w.cell? (ad.add j) = some v)
    (hfit : off + cs.length ≤ cur.length) (h1 : ∀ v ∈ cs, v.oneCell' = true)
    (h : ∀ w', Hid (w'.heap[g]? = some (.cells (splice cur off cs).toArray t (0, 0))) → Hid (w.grownBy w' (some g)) → wpList P ops Q rest (a.put o.dst (goInt cs.length)) w') :
    wpList P ops Q (o :: rest) a w := by
  by_cases h0 : cs.length = 0
  · obtain rfl : cs = [] := List.eq_nil_of_length_eq_zero h0
    refine wpList_copy_nothing hgd d s dT sT ho elem hu hsz dp sp dLen dCap sLen sCap hd hs (by simpa using hn.symm) ?_
    exact h w (show _ = _ by simpa [splice] using hg) (grownBy_refl _ _)
  · obtain ⟨rfl, ad, rfl, hsrc⟩ := hpos (by omega)
    refine wpList_copy_own hgd d s dT sT ho elem hu hsz g off dLen dCap ad sLen sCap hd hs cur.toArray t hg cs hn hsrc (by simpa using hfit) h1 ?_
    exact h _ (show _ = _ by simpa [splice] using setRow_heap w g _ _ t _ hg) ⟨rfl, rfl, rfl, by simp [World.setRow], fun k _ hne => setRow_other w g k _ (fun e => hne (by rw [e]))⟩
theorem sees_src {w : World} {a : Option Addr} {n c : Nat} {xs : List Value} (h : Sees w a n c xs) (h0 : 0 < xs.length) : ∃ ad, a = some ad ∧ ∀ j v, xs[j]? = some v → w.cell? (ad.add j) = some v := by
  have hl := h.len
  obtain ⟨b, off, e, _, hc⟩ := h.real (by omega)
  refine ⟨_, e, fun j v hv => ?_⟩
  have hj := (List.getElem?_eq_some_iff.1 hv).1
  have hadd : (⟨b, off, none⟩ : Addr).add j = ⟨b, off + j, none⟩ := by unfold Addr.add; split <;> simp_all
  rw [hadd, hc j (by omega), hv]
theorem infoS_int : (Try.prog.info? 3).map (·.size) = some 1 := by kernel_rfl
theorem sliced_uptoZ (R o m D : Nat) : sliced (some ⟨R, o, none⟩) 0 m D 1 = .slice (some ⟨R, o, none⟩) m D := by
  simp [sliced, Addr.add]
theorem sliced_fromZ (R o m D : Nat) : sliced (some ⟨R, o, none⟩) m D D 1 = .slice (some ⟨R, if D = m then o else o + m, none⟩) (D - m) (D - m) := by
  unfold sliced
  by_cases h : D = m
  · simp [h]
  · simp [h, Addr.add]
/-- What allOrdered answers. -/
def AllPost (L : List (List Int)) (w : World) (e : Ending) (w' : World) : Prop :=
  ∃ a n c ss, e = .returned (.slice a n c) ∧ SeesZ w' a n c ss (ordAll L) ∧ Below w.heap.size w w'
set_option maxRecDepth 100000 in
set_option maxHeartbeats 6400000 in
theorem allOrdered_any (L : List (List Int)) (a : Option Addr) (n c : Nat) (ss : List ZSlc) (w : World) (h : SeesZ w a n c ss L) (hn : n ≤ 4096) (hT : total L ≤ 1000000) (hs : ∀ c ∈ L, c.length ≤ 4096) (hr : ∀ c ∈ L, (∀ x ∈ c, -9223372036854775807 ≤ x ∧ x ≤ 9223372036854775807) ∧ (0 : Int) ∉ c) :
    Calls Try.prog 21 #[.slice a n c] w (AllPost L w) := by
  have hl := h.zlen
  have HS := Lib.hid h
  have HL := Lib.hid hl
  have HA := Lib.hid (fun h0 : 0 < n => h.addr h0)
  have HSM := Lib.hid hs
  have HR := Lib.hid hr
  have HT := Lib.hid hT
  clear h hl hs hr hT
  go_enter Try.func21, Try.ntmps21
  go_wp2
  go_loopw [15, 5, 3] (fun i _ t wr => ∃ (k m : Nat), k ≤ n ∧ i = .int .i64 k ∧ t = .int .i64 m ∧ Hid (m = total (L.take k)) ∧ Hid (Below w.heap.size w wr)) (fun i _ _ _ => n - (intOf i).toNat)
  case atStart => exact ⟨0, 0, Nat.zero_le _, rfl, rfl, rfl, Below.refl _ _⟩
  case round =>
    obtain ⟨k, m, hk, rfl, rfl, hm, hB⟩ := hrel
    by_cases hlt : k < n
    · obtain ⟨b, off, rfl, hbw⟩ := HA.out (by omega)
      have hcx := (HS.out.below hB.out).cellAt k hlt
      have hln := ((HS.out.below hB.out).each k (by rw [HL.out]; exact hlt)).zlen
      have htn := total_next L k (by rw [HL.out]; exact hlt)
      have hts := total_snoc L k (by rw [HL.out]; exact hlt)
      obtain ⟨xa, hxa⟩ : ∃ xa, xa = (ss.getD k zs0).1 := ⟨_, rfl⟩
      obtain ⟨xn, hxn⟩ : ∃ xn, xn = (ss.getD k zs0).2.1 := ⟨_, rfl⟩
      obtain ⟨xc, hxc⟩ : ∃ xc, xc = (ss.getD k zs0).2.2 := ⟨_, rfl⟩
      rw [← hxn] at hln
      rw [← hxa, ← hxn, ← hxc] at hcx
      have hmt : m + xn ≤ 1000000 := by have := hm.out; have := HT.out; omega
      have W1 : IntKind.i64.wrap ((k : Int) + 1) = (k : Int) + 1 := IntWalk.i64_in _ (by omega)
      have W2 : IntKind.i64.wrap ((m : Int) + (xn : Int)) = ((m + xn : Nat) : Int) := by rw [IntWalk.i64_in _ (by omega)]; omega
      obtain ⟨m2, hm2⟩ : ∃ m2, m2 = m + xn := ⟨_, rfl⟩
      rw [← hm2] at W2
      have HM2 : Hid (m2 = total (L.take (k + 1))) := by show _ = _; rw [hts, hm2, hm.out, hln]
      have HB := Lib.hid hB.out
      clear hxa hxn hxc hln htn hts hmt hm2 hm hB hbw
      go_wp2
      go_roundw
      case rel => exact ⟨k + 1, m2, by omega, by go_num, rfl, HM2.out, HB.out⟩
      case measure => simp [intOf]; omega
    · have hkn : k = n := by omega
      have HMT : Hid (m = total L) := by show _ = _; rw [hm.out, hkn, ← HL.out, total_all]
      have HB := Lib.hid hB.out
      have I1 : decide ((k : Int) < (n : Int)) = false := by simp; omega
      have I2 : decide (k < n) = false := by simpa using hlt
      obtain ⟨i0, hi, hz0, hz1, hz2⟩ := info_parts info_int
      obtain ⟨i1, hi1, hz01, hz11, hz21⟩ := info_parts info_ints
      have hmT : m ≤ 1000000 := by have := HMT.out; have := HT.out; omega
      have mk1 := fun W => run_make_n (P := Try.prog) (t := 23) (e := 3) Try.underlying23 hi hz0 hz1 hz2 rfl m (by omega) (by omega) W
      have mk2 := fun W => run_make_cap (P := Try.prog) (t := 22) (e := 23) Try.underlying22 hi1 hz01 hz11 hz21 rfl n (n : Int) rfl (by omega) (by omega) W
      clear hkn hm hB hlt
      go_wp2
      have hst : AllAt w L wr.heap.size 0 0 0 (zeros (.int .i64 0) m) (.slice (some ⟨wr.heap.size + 1, 0, none⟩) 0 n) [] ((wr.alloc (.cells (zeros (.int .i64 0) m) 3)).alloc (.cells (zeros (.slice none 0 0) n) 23)) := by
        refine ⟨ext_trans HB.out (ext_trans (ext_alloc _ _) (ext_alloc _ _)), heap_below (heap_alloc_new _ _) (ext_alloc _ _), by rw [size_zeros, HMT.out], rfl, fun _ => rfl, ?_, rfl, fun j hj => absurd hj (by simp)⟩
        exact Row.made_at _ 0 _ _ _ (by simp) (size_zeros _ _).symm (by simp) (by have := HB.out.size; simp; omega) (by rw [size_zeros]; unfold maxLen; omega) (Nat.zero_le _) (fun _ _ => trivial)
      have hRb : w.heap.size ≤ wr.heap.size := HB.out.size
      obtain ⟨R, hRR⟩ : ∃ R, R = wr.heap.size := ⟨_, rfl⟩
      rw [← hRR] at hst hRb ⊢
      generalize ((wr.alloc (.cells (zeros (.int .i64 0) m) 3)).alloc (.cells (zeros (.slice none 0 0) n) 23)) = W2 at hst ⊢
      have HST := Lib.hid hst
      clear hst hRR mk1 mk2 I1 I2 HB hk
      go_loopw [31, 9, 10, 11, 12, 7, 6] (fun i _ _ _ _ out room wr => ∃ (k off o D : Nat) (cur : Array Value) (v : Value) (us : List ZSlc), k ≤ n ∧ i = .int .i64 k ∧ out = v ∧ room = .slice (some ⟨R, o, none⟩) D D ∧ Hid (off + D = total L) ∧ Hid (AllAt w L R k off o cur v us wr)) (fun i _ _ _ _ _ _ _ => n - (intOf i).toNat)
      case atStart => exact ⟨0, 0, 0, m, _, _, [], Nat.zero_le _, rfl, rfl, rfl, by show _ = _; rw [← HMT.out]; omega, HST.out⟩
      case round =>
        obtain ⟨k, off, o, D, cur, v, us, hk, rfl, hv, rfl, hD, hAt⟩ := hrel
        obtain rfl := hv.symm
        by_cases hlt : k < n
        · obtain ⟨b, boff, rfl, hbw⟩ := HA.out (by omega)
          have hkl : k < L.length := by rw [HL.out]; exact hlt
          have hse := HS.out.below hAt.out.bel
          have hcx := hse.cellAt k hlt
          have hsk := hse.each k hkl
          have hln := hsk.zlen
          have hmc := getD_memL hkl
          have htn := total_next L k hkl
          obtain ⟨cc, hcc⟩ : ∃ cc, cc = L.getD k [] := ⟨_, rfl⟩
          obtain ⟨sa, hsa⟩ : ∃ sa, sa = (ss.getD k zs0).1 := ⟨_, rfl⟩
          obtain ⟨sn, hsn⟩ : ∃ sn, sn = (ss.getD k zs0).2.1 := ⟨_, rfl⟩
          obtain ⟨sc, hsc⟩ : ∃ sc, sc = (ss.getD k zs0).2.2 := ⟨_, rfl⟩
          rw [← hcc, ← hsn] at hln
          rw [← hsa, ← hsn, ← hsc] at hcx hsk
          rw [← hcc] at hsk hmc htn
          have hoff := hAt.out.offE
          have hsD : sn ≤ D := by have := hD.out; omega
          have hs4 : sn ≤ 4096 := by rw [← hln]; exact HSM.out cc hmc
          have hD6 : D ≤ 1000000 := by have := hD.out; have := HT.out; omega
          have hbR : wr.heap[R]? = some (.cells cur.toList.toArray 3 (0, 0)) := by rw [Array.toArray_toList]; exact hAt.out.bR
          have hcl : off + sn ≤ cur.toList.length := by rw [Array.length_toList, hAt.out.cl]; have := hD.out; omega
          have hro : 0 < sn → o = off := fun h0 => hAt.out.ro (by have := hD.out; omega)
          have hoD : off + sn < total L → (if D = sn then o else off + sn) = off + sn := fun hx => if_neg (by have := hD.out; omega)
          have W1 : IntKind.i64.wrap ((k : Int) + 1) = (k : Int) + 1 := IntWalk.i64_in _ (by omega)
          have HCC := Lib.hid hcc
          have HLN := Lib.hid hln
          have HSK := Lib.hid hsk
          have HMC := Lib.hid hmc
          have HSD := Lib.hid hsD
          have HBR := Lib.hid hbR
          have HCL := Lib.hid hcl
          have HRO := Lib.hid hro
          have HOD := Lib.hid hoD
          have HDD := Lib.hid hD.out
          have HAT := Lib.hid hAt.out
          have HKL := Lib.hid hkl
          clear hcc hsa hsn hsc hln hsk hse hmc htn hoff hsD hbR hcl hro hoD hD hAt hkl hbw
          go_wp2_with (with_reducible refine wpList_copy_grown rfl (.tmp 35) (.tmp 36) 23 23 rfl 3 Try.underlying23 infoS_int (some ⟨R, o, none⟩) sa D D sn sc rfl rfl R off cur.toList 3 HBR.out (zvs cc) ?c1 ?c2 ?c3 ?c4 ?c5)
          case c1 => rw [zvs_len, HLN.out]; exact (Nat.min_eq_left HSD.out).symm
          case c2 => exact fun h0 => ⟨by rw [HRO.out (by rw [zvs_len, HLN.out] at h0; exact h0)], sees_src HSK.out h0⟩
          case c3 => rw [zvs_len, HLN.out]; exact HCL.out
          case c4 => exact zvs_one cc
          intro w3 hb3 hg3
          rw [zvs_len, HLN.out]
          obtain ⟨hsg, hkp⟩ := seg_splice hb3.out HLN.out HCL.out
          rw [Array.toArray_toList] at hkp
          have sl1 := fun W => (run_upto (P := Try.prog) (t := 23) (e := 3) Try.underlying23 size_int W (some ⟨R, o, none⟩) D D sn (sn : Int) rfl HSD.out).trans (congrArg (fun v => Result.ok v W) (sliced_uptoZ R o sn D))
          have hO2 : (if D = sn then o else o + sn) = if D = sn then o else off + sn := by
            by_cases he : D = sn
            · simp [he]
            · rw [if_neg he, if_neg he, HAT.out.ro (by have := HDD.out; have := HSD.out; omega)]
          have sl2 := fun W => (run_from (P := Try.prog) (t := 23) (e := 3) Try.underlying23 size_int W (some ⟨R, o, none⟩) D D sn (sn : Int) rfl HSD.out).trans (congrArg (fun v => Result.ok v W) (sliced_fromZ R o sn D))
          rw [hO2] at sl2
          obtain ⟨o2, ho2⟩ : ∃ o2, o2 = if D = sn then o else off + sn := ⟨_, rfl⟩
          rw [← ho2] at sl2
          have HO2 : Hid (off + sn < total L → o2 = off + sn) := fun hx => by rw [ho2]; exact HOD.out hx
          obtain ⟨D2, hD2⟩ : ∃ D2, D2 = D - sn := ⟨_, rfl⟩
          rw [← hD2] at sl2
          have HD2 : Hid (off + sn + D2 = total L) := by show _ = _; have := HDD.out; have := HSD.out; omega
          have HO := Lib.hid (ordered_both R off o sn D cc _ w3 hsg HRO.out HSD.out hs4 (HR.out cc HMC.out).1 (HR.out cc HMC.out).2)
          have HKP := Lib.hid hkp
          clear hO2 ho2 hD2 hsg hkp hb3
          go_wp2_with fail
          refine HO.out.mono ?_
          rintro e w4 ⟨Cur4, hb4, hk4, hg4, hres⟩
          have HG4 := Lib.hid (grownBy_trans hg3.out hg4)
          have HK4 := Lib.hid (HKP.out.trans hk4)
          have HB4 := Lib.hid hb4
          have HRES := Lib.hid hres
          have HLK : Hid (sn = (L.getD k []).length) := by show _ = _; rw [← HCC.out, HLN.out]
          clear hb4 hk4 hg4 hres hg3 HO
          rcases HRES.out with ⟨h1, h2⟩ | ⟨C, h1, h2, h3⟩
          · subst h2
            have HN : Hid (AllAt w L R (k + 1) (off + sn) o2 Cur4 v us w4) := HAT.out.talk HKL.out hRb HLK.out (by rw [← HCC.out]; exact h1) HB4.out HK4.out HG4.out HO2.out
            clear h1 HRES
            go_wp2
            go_roundw
            case rel => exact ⟨k + 1, off + sn, o2, D2, Cur4, v, us, by omega, by go_num, rfl, rfl, HD2.out, HN.out⟩
            case measure => simp [intOf]; omega
          · subst h2
            have H1 : Hid (orderS (L.getD k []) = some C) := by show _ = _; rw [← HCC.out]; exact h1
            obtain ⟨m2, hm2⟩ : ∃ m2, m2 = C.length := ⟨_, rfl⟩
            have H3 : Hid (SegOk R (off + sn) Cur4 (some ⟨R, o, none⟩, m2, D) C) := by rw [hm2]; exact h3
            rw [← hm2]
            have hrow : Row (fun _ => True) w4 w.heap.size 23 v us.length (us.map zsV) := HAT.out.row.other fun q hq => HG4.out.block q (HAT.out.row.own.lt q hq).2 (fun e => HAT.out.row.not_own HAT.out.bR (by decide) (by rw [hq, e]))
            have HROW := Lib.hid hrow
            have hul : us.length ≤ n := by
              rw [HAT.out.len]
              refine Nat.le_trans (List.length_filterMap_le _ _) ?_
              rw [List.length_take]; omega
            have HUL := Lib.hid hul
            have H48 : Hid (w.heap.size ≤ w4.heap.size) := Nat.le_trans HAT.out.bel.size HG4.out.size
            clear h1 h3 HRES hm2 hrow hul
            go_wp2_with (at_builtin; refine wpList_append_row (fun _ => True) _ rfl _ _ 22 rfl w.heap.size 23 i1 (.slice none 0 0) 24 Try.underlying22 hi1 hz01 hz11 hz21 rfl trivial v us.length (us.map zsV) rfl (HROW.out.below (ext_alloc _ _)) (some ⟨w4.heap.size, 0, none⟩) 1 1 [.slice (some ⟨R, o, none⟩) m2 D] rfl (sees_lit w4 _ _ _ _ 1 rfl rfl) (by intro u hu; simp at hu; subst hu; rfl) (fun _ _ => trivial) ?c1 ?c2 ?c3 ?_)
            case c1 => have := HUL.out; unfold maxLen; omega
            case c2 => have := HUL.out; omega
            case c3 => have := H48.out; simp; omega
            intro v2 w5 hr5 hg5 _
            have HN : Hid (AllAt w L R (k + 1) (off + sn) o2 Cur4 v2 (us ++ [(some ⟨R, o, none⟩, m2, D)]) w5) := HAT.out.more HKL.out hRb HLK.out H1.out HB4.out HK4.out HG4.out HO2.out H3.out (ext_alloc w4 _) hr5 hg5
            obtain ⟨us2, hus2⟩ : ∃ us2, us2 = us ++ [(some ⟨R, o, none⟩, m2, D)] := ⟨_, rfl⟩
            rw [← hus2] at HN
            clear hr5 hg5 hus2
            go_wp2
            go_roundw
            case rel => exact ⟨k + 1, off + sn, o2, D2, Cur4, v2, us2, by omega, by go_num, rfl, rfl, HD2.out, HN.out⟩
            case measure => simp [intOf]; omega
        · have hkn2 : k = L.length := by rw [HL.out]; omega
          have I1 : decide ((k : Int) < (n : Int)) = false := by simp; omega
          have I2 : decide (k < n) = false := by simpa using hlt
          have hAt2 := hAt.out
          rw [hkn2] at hAt2
          obtain ⟨ea, ec, rfl, hz⟩ := hAt2.done
          have HZ := Lib.hid hz
          have HBE := Lib.hid hAt2.bel
          obtain ⟨un, hun⟩ : ∃ un, un = us.length := ⟨_, rfl⟩
          rw [← hun] at HZ ⊢
          clear hz hAt2 hAt hD hkn2 hun
          go_wp2
          go_ret
          exact ⟨ea, un, ec, us, rfl, HZ.out, HBE.out⟩
end Go.Proofs.Ytdngaohjocokiaa
