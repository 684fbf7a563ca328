/- propagation.tell, by its contract. -/
import Derived.Test.YtdngaohjocokiaaLib
import Derived.Test.YtdngaohjocokiaaNBase
import Derived.Test.YtdngaohjocokiaaCuPure
import Derived.Test.YtdngaohjocokiaaCuInts
import Derived.Test.YtdngaohjocokiaaCuInv
import Derived.Test.YtdngaohjocokiaaCuMay
import Derived.Test.YtdngaohjocokiaaCuRunP
import Derived.Test.YtdngaohjocokiaaCuMem
import Derived.Test.YtdngaohjocokiaaCuRest
import Derived.Test.YtdngaohjocokiaaRows
import Derived.BigQuiet
import Derived.Conc.LoneSelect
import Derived.Deep.AppendLies
import Derived.Deep.CutRange
import Derived.Deep.QuietTactic
import Derived.Deep.RegionLaw
import Derived.Deep.RegionWith
import Derived.KernelRfl
import Derived.Laws.EntriesVeiled
import Derived.Lib.ConvBytes
import Derived.Lib.Hide
import Derived.Lib.SlBytesRow
import Derived.Lib.SmallJoins
import Derived.Shelf.Bytes.SlSmallAll
import Derived.WalkKit
import Derived.WalkLawsBesides
import Derived.WalkSpells
namespace Go.Proofs.Ytdngaohjocokiaa
open Go Go.RowKit Go.Joins

/-- Between two clauses: what is sent, what is left; rem: the clauses that the literal is still to be told to. -/
structure TelAt (wE : World) (y : PLay) (cls : List (List Int)) (given : List Int) (F : List Nat) (C : Array Value) (S0 : List Int) (r : Nat) (rem : List Nat) (S : List Int) (left : List Nat) (w : World) : Prop where
  mem : PAt wE y F C S r left w
  tel : Tel cls given y.vars S left
  pre : S.take r = S0.take r
  len : S0.length ≤ S.length
  cnt : ∀ i, i < cls.length → left.getD i 0 = cntU (cls.getD i []) (S0.take r) + (if i ∈ rem then 1 else 0)
/-- What tell answers, and leaves. -/
def TellPost (wE : World) (y : PLay) (cls : List (List Int)) (given : List Int) (F : List Nat) (C : Array Value) (S0 : List Int) (r : Nat) (e : Ending) (w' : World) : Prop :=
  (e = .returned (.bool false) ∧ Clash cls given ∧ Below wE.heap.size wE w') ∨ (e = .returned (.bool true) ∧ ∃ S left, TelAt wE y cls given F C S0 r [] S left w')

section
variable {wE : World} {y : PLay} {cls : List (List Int)} {given : List Int} {F : List Nat} {K : List (Nat × Nat)} {C : Array Value} {S0 S : List Int} {r : Nat} {rem : List Nat} {left : List Nat} {w : World}
theorem PFix.sees (h : PFix wE y cls given F K C) {i : Nat} (hi : i < cls.length) {W : World} (hb : Below wE.heap.size wE W) : Sees W (y.ss.getD i zs0).1 (y.ss.getD i zs0).2.1 (y.ss.getD i zs0).2.2 (zvs (cls.getD i [])) := (h.cl.below hb).each i hi
theorem PFix.row (h : PFix wE y cls given F K C) {i : Nat} (hi : i < y.nc) {W : World} (hb : Below wE.heap.size wE W) : ∃ b off, y.ac = some ⟨b, off, none⟩ ∧ W.cell? ⟨b, off + i, none⟩ = some (.slice (y.ss.getD i zs0).1 (y.ss.getD i zs0).2.1 (y.ss.getD i zs0).2.2) := by
  obtain ⟨b, off, e, _⟩ := h.cl.addr (show 0 < y.nc by omega)
  refine ⟨b, off, e, ?_⟩
  have := h.cl.below hb
  rw [e] at this
  exact this.cellAt i hi
theorem getD_mem_cls {i : Nat} (hi : i < cls.length) : cls.getD i [] ∈ cls := getD_memL hi
/-- A literal is told to the first clause of those that are left. -/
theorem TelAt.less {i : Nat} (h : TelAt wE y cls given F C S0 r (i :: rem) S left w) (hi : i < cls.length) : left.getD i 0 = cntU (cls.getD i []) (S0.take r) + 1 := by
  rw [h.cnt i hi, if_pos (by simp)]
theorem cnt_after {i x : Nat} (hc : ∀ j, j < cls.length → left.getD j 0 = cntU (cls.getD j []) (S0.take r) + (if j ∈ i :: rem then 1 else 0)) (hi : i < cls.length) (hl : left.length = cls.length) (hn : i ∉ rem) (hx : x = cntU (cls.getD i []) (S0.take r)) :
    ∀ j, j < cls.length → (left.set i x).getD j 0 = cntU (cls.getD j []) (S0.take r) + (if j ∈ rem then 1 else 0) := by
  intro j hj
  by_cases e : i = j
  · subst e
    rw [cu_set_self (by omega), hx, if_neg hn]; rfl
  · rw [cu_set_ne e, hc j hj]
    have : (j ∈ i :: rem) ↔ j ∈ rem := by
      constructor
      · intro h
        rcases List.mem_cons.1 h with h | h
        · exact absurd h.symm e
        · exact h
      · intro h; simp [h]
    simp only [this]
theorem take_put {S : List Int} {r : Nat} (l : Int) (h : r ≤ S.length) : (S ++ [l]).take r = S.take r := List.take_append_of_le_length h
theorem Below_old {wE w w' : World} (h : Below wE.heap.size wE w) (h' : Below w.heap.size w w') : Below wE.heap.size wE w' := h.trans (h'.mono h.size)
end

set_option maxRecDepth 100000 in
set_option maxHeartbeats 6400000 in
theorem tell_any (wE : World) (y : PLay) (cls : List (List Int)) (given : List Int) (F : List Nat) (K : List (Nat × Nat)) (C : Array Value) (S0 : List Int) (r : Nat) (left0 : List Nat) (l : Int) (w : World) (hf : PFix wE y cls given F K C)
    (hr0 : 0 < r) (hr : r ≤ S0.length) (hl : l = S0.getD (r - 1) 0) (hp : PAt wE y F C S0 r left0 w) (ht : Tel cls given y.vars S0 left0) (hc : ∀ i, i < cls.length → left0.getD i 0 = cntU (cls.getD i []) (S0.take (r - 1))) :
    Calls Try.prog 39 #[.pointer (some ⟨y.B, 0, none⟩), .int .i64 l] w (TellPost wE y cls given F C S0 r) := by
  have hncl : cls.length = y.nc := hf.cl.zlen
  have htk : S0.take r = S0.take (r - 1) ++ [l] := by
    have := take_snocZ S0 (r - 1) (by omega)
    rw [show r - 1 + 1 = r by omega] at this
    rw [this, hl]
  have hlS : l ∈ S0 := by rw [hl]; exact getD_memZ (by omega)
  have hvl : VLit y.vars l := ht.sv l hlS
  have hlT : l ∉ S0.take (r - 1) := fun hm => by
    have := ht.nd.sublist (List.take_sublist r S0)
    rw [htk] at this
    have := (List.pairwise_append.1 this).2.2 l hm l (by simp)
    exact this rfl
  obtain ⟨r0, ho, hnd, hocc⟩ := hf.links.occ (-l) hvl.neg
  have hstart : TelAt wE y cls given F C S0 r r0 S0 left0 w := by
    refine ⟨hp, ht, rfl, Nat.le_refl _, fun i hi => ?_⟩
    rw [hc i hi, htk]
    have e : (i ∈ r0) ↔ -l ∈ cls.getD i [] := (hocc i).trans ⟨fun h => h.2, fun h => ⟨hi, h⟩⟩
    have := cnt_put hlT (asc_nodup (hf.asc _ (getD_memL hi)))
    simp only [e]
    omega
  have hrem : ∀ i, i ∈ r0 → i < cls.length ∧ -l ∈ cls.getD i [] := fun i hi => (hocc i).1 hi
  have hlr : l ∈ S0.take r := by rw [htk]; simp
  obtain ⟨q0, hq0⟩ : ∃ q0, q0 = F.getD (placeN (-l)) 0 := ⟨_, rfl⟩
  rw [← hq0] at ho
  obtain ⟨P, hP⟩ : ∃ P, P = placeN (-l) := ⟨_, rfl⟩
  have hPl := placeN_lt hvl.neg.2
  have W1 : IntKind.i64.wrap (-l) = -l := IntWalk.i64_in _ (by have := hvl.2; have := hf.vmax; omega)
  have HP1 := Lib.hid fun W => place_any (-l) (by rw [Int.natAbs_neg]; have := hvl.2; have := hf.vmax; omega) W
  rw [← hP] at HP1 hPl hq0
  obtain ⟨B, hB⟩ : ∃ B, B = y.B := ⟨_, rfl⟩
  obtain ⟨GF, hGF⟩ : ∃ GF, GF = y.gF := ⟨_, rfl⟩
  obtain ⟨GL, hGL⟩ : ∃ GL, GL = y.gL := ⟨_, rfl⟩
  obtain ⟨GK, hGK⟩ : ∃ GK, GK = y.gK := ⟨_, rfl⟩
  obtain ⟨M, hM⟩ : ∃ M, M = y.m := ⟨_, rfl⟩
  obtain ⟨NC, hNC⟩ : ∃ NC, NC = y.nc := ⟨_, rfl⟩
  obtain ⟨NK, hNK⟩ : ∃ NK, NK = y.nk := ⟨_, rfl⟩
  obtain ⟨CK, hCK⟩ : ∃ CK, CK = y.ck := ⟨_, rfl⟩
  obtain ⟨AC, hAC⟩ : ∃ AC, AC = y.ac := ⟨_, rfl⟩
  obtain ⟨CC, hCC⟩ : ∃ CC, CC = y.cc := ⟨_, rfl⟩
  have i1 : (P : Int) < (M : Int) := by rw [hM]; unfold PLay.m; omega
  -- the cells, in letters
  have HBOX : Hid (∀ S r left W, PAt wE y F C S r left W → W.cell? ⟨B, 0, none⟩ = some (.slice AC NC CC) ∧ W.cell? ⟨B, 1, none⟩ = some (.slice (some ⟨GL, 0, none⟩) NC NC) ∧ W.cell? ⟨B, 2, none⟩ = some (.slice (some ⟨GF, 0, none⟩) M M) ∧ W.cell? ⟨B, 3, none⟩ = some (.slice (some ⟨GK, 0, none⟩) NK CK) ∧ W.cell? ⟨GF, P, none⟩ = some (.int .i32 (q0 : Int))) := fun S r left W hW => by
    rw [hB, hGF, hGL, hGK, hM, hNC, hNK, hCK, hAC, hCC, hq0]
    exact ⟨hW.b0, hW.b1, hW.b2, hW.b3, hW.f_at (by rw [hf.links.len]; exact hPl)⟩
  have HLNK : Hid (∀ S r left W (q i nx : Nat), PAt wE y F C S r left W → K[q]? = some (i, nx) → W.cell? ⟨GK, q * 2, none⟩ = some (.int .i32 (i : Int)) ∧ W.cell? ⟨GK, q * 2 + 1, none⟩ = some (.int .i32 (nx : Int)) ∧ (q : Int) < (NK : Int)) := fun S r left W q i nx hW hq => by
    have hqlt := (List.getElem?_eq_some_iff.1 hq).1
    have hg : K.getD q (0, 0) = (i, nx) := by simp [List.getD, hq]
    have := hf.isK q hqlt
    rw [hg] at this
    rw [hGK, hNK, Nat.mul_comm q 2]
    exact ⟨(cell_of_block hW.hK _).trans this.1, (cell_of_block hW.hK _).trans this.2, by have := hf.nk; omega⟩
  have HF := Lib.hid hf
  have HST := Lib.hid hstart
  have HOC := Lib.hid ho
  have HND := Lib.hid hnd
  have HREM := Lib.hid hrem
  have HLR := Lib.hid hlr
  have HB := Lib.hid hB
  have HGL := Lib.hid hGL
  have HNC := Lib.hid hNC
  have HAC := Lib.hid hAC
  have HCC := Lib.hid hCC
  have HNL := Lib.hid hncl
  have HR := Lib.hid hr
  obtain ⟨b0, b1, b2, b3, f0⟩ := HBOX.out S0 r left0 w hp
  rw [← hB]
  clear hf hr0 hl hp ht hc htk hlS hlT ho hnd hocc hstart hrem hlr hq0 hP hPl hB hGF hGL hGK hM hNC hNK hCK hAC hCC hncl hr
  go_enter Try.func39, Try.ntmps39
  go_wp2
  go_quiet ((go_at_call 23; exact Calls.quiet_of_same (HP1.out _)))
  generalize hW2 : w.drewN nq = w2
  have h2 : TelAt wE y cls given F C S0 r r0 S0 left0 w2 := ⟨HST.out.mem.below (show Below w.heap.size w w2 by subst hW2; exact ext_drewN _ _), HST.out.tel, HST.out.pre, HST.out.len, HST.out.cnt⟩
  have H2 := Lib.hid h2
  clear hW2 h2 b0 b1 b2 b3 f0
  go_wp2
  go_loopw [5, 6] (fun q _ wr => ∃ (p : Nat) (rem : List Nat) (S : List Int) (left : List Nat), q = .int .i32 p ∧ Hid (IsOcc K p rem) ∧ Hid (rem.Nodup) ∧ Hid (∀ i, i ∈ rem → i < cls.length ∧ -l ∈ cls.getD i []) ∧ Hid (TelAt wE y cls given F C S0 r rem S left wr)) (fun q _ _ => (intOf q).toNat)
  case atStart => exact ⟨q0, r0, S0, left0, rfl, HOC.out, HND.out, HREM.out, H2.out⟩
  case round =>
    obtain ⟨p, rem, S, left, rfl, hoc, hndr, hrm, hT⟩ := hrel
    by_cases hp0 : 0 < p
    · have hoc2 := hoc.out
      cases hoc2 with
      | nil => exact absurd hp0 (by omega)
      | @cons i nx _ rest _ hk hlt hrest =>
        obtain ⟨k1, k2, i2⟩ := HLNK.out S r left wr p i nx hT.out.mem hk
        obtain ⟨b0, b1, b2, b3, f0⟩ := HBOX.out S r left wr hT.out.mem
        have hi : i < cls.length := (hrm.out i (by simp)).1
        have hle := hT.out.less hi
        obtain ⟨x, hx⟩ : ∃ x, x = cntU (cls.getD i []) (S0.take r) := ⟨_, rfl⟩
        rw [← hx] at hle
        obtain ⟨X1, hX1⟩ : ∃ X1, X1 = x + 1 := ⟨_, rfl⟩
        have c1 := hT.out.mem.l_at (i := i) (by rw [hT.out.tel.llen]; exact hi)
        rw [hle, ← hX1, ← HGL.out] at c1
        have f1 : wr.frozen? ⟨GL, i, none⟩ = false := by rw [HGL.out]; exact unfrozen_of_block hT.out.mem.hL _
        have xb : x ≤ 4096 := by rw [hx]; exact Nat.le_trans (cnt_le _ _) (HF.out.small _ (getD_memL hi))
        have W2 : IntKind.i64.wrap ((X1 : Int) - 1) = (x : Int) := by rw [hX1, IntWalk.i64_in _ (by omega)]; omega
        have i3 : (i : Int) < (NC : Int) := by have := HNL.out; have := HNC.out; omega
        have P0 : decide ((0 : Int) < (p : Int)) = true := by simpa using hp0
        have HX := Lib.hid hx
        have HLE : Hid (left.getD i 0 = x + 1) := hle
        have HI := Lib.hid hi
        have HT := Lib.hid hT.out
        have HRS := Lib.hid hrest
        have HLT := Lib.hid hlt
        have HN2 : Hid (i ∉ rest ∧ rest.Nodup) := List.nodup_cons.1 hndr.out
        have HRM : Hid (∀ j, j ∈ rest → j < cls.length ∧ -l ∈ cls.getD j []) := fun j hj => hrm.out j (by simp [hj])
        have HMI : Hid (-l ∈ cls.getD i []) := (hrm.out i (by simp)).2
        have HK := Lib.hid hk
        clear hx hle hi hT hrest hlt hndr hrm hoc hX1 hk xb
        go_upto_region 6 with fail
        generalize hW5 : wr.setCell ⟨GL, i, none⟩ (.int .i64 (x : Int)) = w5
        have h5 : PAt wE y F C S r (left.set i x) w5 := by
          subst hW5
          rw [HGL.out]
          exact HT.out.mem.less HF.out.gL i x
        clear hW5 k1 k2 b0 b1 b2 b3 f0 c1 f1
        obtain ⟨k1, k2, _⟩ := HLNK.out S r _ w5 p i nx h5 HK.out
        obtain ⟨b0, b1, b2, b3, f0⟩ := HBOX.out S r _ w5 h5
        have c1 := h5.l_at (i := i) (by rw [List.length_set, HT.out.tel.llen]; exact HI.out)
        rw [cu_set_self (by rw [HT.out.tel.llen]; exact HI.out), ← HGL.out] at c1
        have HCN : Hid (∀ j, j < cls.length → (left.set i x).getD j 0 = cntU (cls.getD j []) (S0.take r) + (if j ∈ rest then 1 else 0)) := cnt_after HT.out.cnt HI.out HT.out.tel.llen HN2.out.1 HX.out
        have H5 := Lib.hid h5
        clear h5
        by_cases hx1 : x = 1
        · obtain ⟨ab, ao, hab, hrow⟩ := HF.out.row (i := i) (by have := HNL.out; have := HI.out; omega) (W := w5) H5.out.bel
          rw [← HAC.out] at hab
          subst hab
          obtain ⟨sa, hsa⟩ : ∃ sa, sa = (y.ss.getD i zs0).1 := ⟨_, rfl⟩
          obtain ⟨sn, hsn⟩ : ∃ sn, sn = (y.ss.getD i zs0).2.1 := ⟨_, rfl⟩
          obtain ⟨sc, hsc⟩ : ∃ sc, sc = (y.ss.getD i zs0).2.2 := ⟨_, rfl⟩
          have hse : ∀ W, Below wE.heap.size wE W → Sees W sa sn sc (zvs (cls.getD i [])) := fun W hb => by rw [hsa, hsn, hsc]; exact HF.out.sees HI.out hb
          rw [← hsa, ← hsn, ← hsc] at hrow
          have hmc := getD_memL HI.out
          have hsn2 : sn ≤ 4096 := by rw [← (hse w5 H5.out.bel).zlen]; exact HF.out.small _ hmc
          have hl2 : 2 ≤ (cls.getD i []).length := by
            have := cnt_lt (T := S0.take r) HMI.out (by rw [Int.neg_neg]; exact HLR.out)
            have := HX.out
            omega
          have hx2 : left.getD i 0 = 2 := by have := HLE.out; omega
          have HRES := Lib.hid (deriveRest_any wE y F C S r (left.set i x) (cls.getD i []) sa sn sc w5 H5.out (hse w5 H5.out.bel) hsn2 (HF.out.lits _ hmc) HF.out.vmax HF.out.gD HF.out.gC (Nat.le_trans HR.out HT.out.len)
            (fun z hz h1 h2 => by
              rw [HF.out.capE]
              have a1 := HT.out.tel.toCore.room (HF.out.lits _ hmc z hz) h2 h1
              have a2 := HT.out.tel.fits HI.out hx2 hl2
              omega) hse)
          rw [← HB.out] at HRES
          have HL2 := Lib.hid hl2
          have HX2 := Lib.hid hx2
          have HMC := Lib.hid hmc
          have E1 : ((x : Int) == 1) = true := by simp [hx1]
          have HX1 := Lib.hid hx1
          clear hsa hsn hsc hse hmc hsn2 hl2 hx2 hx1
          go_wp2_with fail
          refine HRES.out.mono ?_
          rintro e w' hpost
          have HPO := Lib.hid hpost
          clear hpost
          rcases HPO.out with ⟨h1, h2, h3⟩ | ⟨z, h1, h2, h3, h4, h5⟩ | ⟨z, h1, h2, h3, h4, h5⟩
          · subst h2
            have HCL : Hid (Clash cls given) := HT.out.tel.toCore.clash2 HMC.out h1
            have HBE := Lib.hid h3.bel
            clear h1 h3 HPO
            go_wp2
            go_ret
            exact .inl ⟨rfl, HCL.out, HBE.out⟩
          · subst h4
            have HTT : Hid (TelAt wE y cls given F C S0 r rest S (left.set i x) w') := by
              refine ⟨h5, ?_, HT.out.pre, HT.out.len, HCN.out⟩
              rw [HX1.out]
              exact (HT.out.tel.fire HI.out HX2.out HL2.out h1 h3).1
            clear h1 h2 h3 h5 HPO k1 k2 b0 b1 b2 b3 f0 c1 hrow
            obtain ⟨k1, k2, _⟩ := HLNK.out S r _ w' p i nx HTT.out.mem HK.out
            obtain ⟨b0, b1, b2, b3, f0⟩ := HBOX.out S r _ w' HTT.out.mem
            go_wp2
            go_roundw
            case rel => exact ⟨nx, rest, S, left.set i x, rfl, HRS.out, HN2.out.2, HRM.out, HTT.out⟩
            case measure => have := HLT.out; simp [intOf]; omega
          · subst h4
            have HTT : Hid (TelAt wE y cls given F C S0 r rest (S ++ [z]) (left.set i x) w') := by
              have hrl : r ≤ S.length := Nat.le_trans HR.out HT.out.len
              refine ⟨h5, ?_, by rw [take_put z hrl]; exact HT.out.pre, by have := HT.out.len; simp; omega, HCN.out⟩
              rw [HX1.out]
              refine HT.out.tel.fireNew HI.out HX2.out HL2.out h1 (HF.out.lits _ HMC.out z h1) h3 h2 (.unit HMC.out h1 fun u hu hne => ?_)
              have ht2 : -z ∉ S0.take r := fun hm => h2 (by rw [← HT.out.pre] at hm; exact List.mem_of_mem_take hm)
              have := cnt_one (T := S0.take r) (by have := HX.out; have := HX1.out; omega) h1 ht2 u hu hne
              rw [← HT.out.pre] at this
              exact HT.out.tel.der _ (List.mem_of_mem_take this)
            clear h1 h2 h3 h5 HPO k1 k2 b0 b1 b2 b3 f0 c1 hrow
            obtain ⟨k1, k2, _⟩ := HLNK.out _ r _ w' p i nx HTT.out.mem HK.out
            obtain ⟨b0, b1, b2, b3, f0⟩ := HBOX.out _ r _ w' HTT.out.mem
            go_wp2
            go_roundw
            case rel => exact ⟨nx, rest, S ++ [z], left.set i x, rfl, HRS.out, HN2.out.2, HRM.out, HTT.out⟩
            case measure => have := HLT.out; simp [intOf]; omega
        · have HTT : Hid (TelAt wE y cls given F C S0 r rest S (left.set i x) w5) := ⟨H5.out, HT.out.tel.keep HI.out HLE.out hx1, HT.out.pre, HT.out.len, HCN.out⟩
          have E1 : ((x : Int) == 1) = false := by simp; omega
          have E2 : (x == 1) = false := by simpa using hx1
          clear hx1
          go_wp2
          go_roundw
          case rel => exact ⟨nx, rest, S, left.set i x, rfl, HRS.out, HN2.out.2, HRM.out, HTT.out⟩
          case measure => have := HLT.out; simp [intOf]; omega
    · have P0 : decide ((0 : Int) < (p : Int)) = false := by simp; omega
      have h0 : p = 0 := by omega
      have HTT : Hid (TelAt wE y cls given F C S0 r [] S left wr) := by
        have hoc2 := hoc.out
        rw [h0] at hoc2
        cases hoc2 with
        | nil => exact hT.out
        | cons h => exact absurd h (by omega)
      subst h0
      clear hoc hndr hrm hT
      go_wp2
      go_ret
      exact .inr ⟨rfl, S, left, HTT.out⟩
end Go.Proofs.Ytdngaohjocokiaa
