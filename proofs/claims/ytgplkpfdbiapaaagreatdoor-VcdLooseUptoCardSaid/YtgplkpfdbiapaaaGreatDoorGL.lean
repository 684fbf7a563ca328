/- vcd's states: what expect and ignore make, by their contracts. -/
import Derived.Test.YtgplkpfdbiapaaaGreatDoorLib
import Derived.Test.YtgplkpfdbiapaaaGreatDoorGA3
import Derived.Test.YtgplkpfdbiapaaaGreatDoorNBase
import Derived.Test.YtgplkpfdbiapaaaGreatDoorGA1
import Derived.Test.YtgplkpfdbiapaaaGreatDoorVdSpec
import Derived.Test.YtgplkpfdbiapaaaGreatDoorGG
import Derived.Test.YtgplkpfdbiapaaaGreatDoorGK
import Derived.Test.YtgplkpfdbiapaaaGreatDoorVdSt1
import Derived.Test.YtgplkpfdbiapaaaGreatDoorRows
import Derived.Test.YtgplkpfdbiapaaaGreatDoorShelf
import Derived.Test.YtgplkpfdbiapaaaGreatDoorShelf2
import Derived.BigQuiet
import Derived.Deep.AppendLies
import Derived.Deep.CutRange
import Derived.Deep.QuietTactic
import Derived.Deep.RegionHeld3
import Derived.Deep.RegionLaw
import Derived.Deep.RegionWith
import Derived.KernelRfl
import Derived.Laws.CopyOwn
import Derived.Laws.EntriesVeiled
import Derived.Laws.IdiomCopy
import Derived.Laws.OwnMore
import Derived.Laws.Runes
import Derived.Laws.Tables
import Derived.Lib.AppendIntMem
import Derived.Lib.AppendStr
import Derived.Lib.AppendZeros
import Derived.Lib.BufferWrite
import Derived.Lib.ConvBytes
import Derived.Lib.DecodeN
import Derived.Lib.Hide
import Derived.Lib.Index
import Derived.Lib.IndexEntry
import Derived.Lib.ItoaNum
import Derived.Lib.MakeNoZero
import Derived.Lib.ParseIntBCases
import Derived.Lib.SlBytesRow
import Derived.Lib.SmallJoins
import Derived.Maps.AppendAt
import Derived.Maps.Own
import Derived.Maps.OwnOps
import Derived.Maps.OwnSet
import Derived.OrdersHeld
import Derived.Shelf.Bytes.SlSmallAll
import Derived.Shelf.Pu.Lower
import Derived.Shelf.Pu.ToError
import Derived.Shelf.Pu.ToErrorRange
import Derived.Shelf.Spec.DecodeRune
import Derived.Shelf.Unicode.DecodeSlow
import Derived.WalkKit
import Derived.WalkLawsBesides
import Derived.WalkSpells
import Derived.Test.YtgplkpfdbiapaaaGreatDoorNHeap
import Derived.Test.YtgplkpfdbiapaaaGreatDoorVdHold
/- vcd's states: declarations, by their contracts. -/
namespace Go.Proofs.YtgplkpfdbiapaaaGreatDoor
open Go Go.RowKit Go.Joins Go.Shelf Go.Maps

set_option maxRecDepth 100000 in
set_option maxHeartbeats 1600000 in
theorem declarations_any (w0 W : World) (G : GapEnv w0) (_GN : NumEnv w0) (R : Nat) (nv : Value) (a : Option Addr) (n c M : Nat) (tv vv : Value) (ss : List Slc) (r : VRd) (bs : List UInt8) (h : RdAt w0 R nv W a n c M tv vv ss r bs) (_ok : OkV .decl r) (hn : n ≤ 8388608) :
    Calls Tryz.prog 24 #[.pointer (some ⟨R, 0, none⟩)] W (fun e w' => ∃ a n c, MvPost w0 R nv W a n c M (stepV .decl r (wordL bs)) (restL bs) e w') := by
  have hw := word_any w0 G W R nv a n c M tv vv ss r bs h (by omega)
  have hlr := rest_le bs
  have hln := h.sees.lenMap
  have hwb := word_le bs
  obtain ⟨wl, hwl⟩ : ∃ wl, wl = wordL bs := ⟨_, rfl⟩
  unfold WordPost sv at hw
  rw [← hwl] at hw hwb ⊢
  obtain ⟨sp, hsp⟩ : ∃ sp, sp = stepV .decl r wl := ⟨_, rfl⟩
  rw [← hsp]
  have HSP := Lib.hid hsp
  obtain ⟨ws, hws⟩ : ∃ ws, ws = str wl := ⟨_, rfl⟩
  rw [← hws] at hw
  have HWS := Lib.hid hws
  have htl : ws.toList = wl := by rw [hws, ByteArray.toList_eq]; rfl
  have hwn : wl.length ≤ 8388608 := by omega
  have HW := Lib.hid hw
  clear hw h hws hwl hsp hlr hln hwb
  go_enter Tryz.func24, Tryz.ntmps24
  go_wp2_with fail
  refine HW.out.mono ?_
  rintro e w1 ⟨rfl, hk1, a1, n1, c1, h1⟩
  have H1 := Lib.hid h1
  have HK1 := Lib.hid hk1
  clear hk1 h1 HW
  by_cases h_kVar : wl = kVar
  · have HS0 : Hid (sp = if r.wav.length = 32768 then failV r 3 else (.exp kWire (.exp kOne .cod), r)) := by unfold Hid; rw [HSP.out, h_kVar]; rfl
    rw [h_kVar] at htl
    unfold kVar at htl
    clear h_kVar
    have c4 := cell_of_block H1.out.box 4
    obtain ⟨va, vc, rfl⟩ := ownsN_form H1.out.cs.wavs.row
    obtain ⟨N, hN⟩ : ∃ N, N = r.wav.length := ⟨_, rfl⟩
    replace c4 : w1.cell? ⟨R, 4, none⟩ = some (.slice va N vc) := by rw [hN]; exact c4
    by_cases h_m : N = 32768
    · have HS : Hid (sp = failV r 3) := by unfold Hid; rw [HS0.out, if_pos (by rw [← hN]; exact h_m)]
      have hmz : ((N : Int) == 32768) = true := beq_iff_eq.2 (by omega)
      clear h_m hN
      have HF := Lib.hid (fail_any H1.out 3)
      try clear hxs
      clear hwn
      go_wp2_with fail
      refine HF.out.mono ?_
      rintro e w2 ⟨v, tv2, vv2, ss2, rfl, k1, k2, k3⟩
      go_wp2
      go_ret
      exact ⟨a1, n1, c1, v, tv2, vv2, ss2, rfl, by rw [HS.out]; exact k1, by rw [HS.out]; exact k2, HK1.out.trans k3⟩
    · have HS : Hid (sp = (.exp kWire (.exp kOne .cod), r)) := by unfold Hid; rw [HS0.out, if_neg (by rw [← hN]; exact h_m)]
      have hmz : ((N : Int) == 32768) = false := beq_eq_false_iff_ne.2 (by omega)
      clear h_m hN
      have HF := Lib.hid (expect_any w1 kOne .cod (.func (.func 45) #[] #[]) (by decide) rfl)
      have hsx : sv kOne = .string ⟨#[49]⟩ := rfl
      rw [hsx] at HF
      clear hwn hsx
      go_wp2_with fail
      refine HF.out.mono ?_
      rintro e w2 ⟨v, rfl, k1, k2⟩
      have HF2 := Lib.hid (expect_any w2 kWire (.exp kOne .cod) v (by decide) k1)
      have hsx : sv kWire = .string ⟨#[119, 105, 114, 101]⟩ := rfl
      rw [hsx] at HF2
      have K2 := Lib.hid k2
      clear hsx k1 k2 HF c4
      go_wp2_with fail
      refine HF2.out.mono ?_
      rintro e w3 ⟨v3, rfl, k3, k4⟩
      go_wp2
      go_ret
      have hb := ext_trans K2.out k4
      exact ⟨a1, n1, c1, v3, tv, _, ss, rfl, by rw [HS.out]; exact k3, by rw [HS.out]; exact H1.out.below hb, HK1.out.trans (KeepV.below hb)⟩
  have n_kVar : (wl == [36, 118, 97, 114]) = false := beq_eq_false_iff_ne.2 h_kVar
  by_cases h_kEnddef : wl = kEnddef
  · have HS : Hid (sp = (.exp kEnd .unt, r)) := by unfold Hid; rw [HSP.out, h_kEnddef]; rfl
    rw [h_kEnddef] at htl
    unfold kEnddef at htl
    clear h_kEnddef
    have HF := Lib.hid (expect_any w1 kEnd .unt (.func (.func 46) #[] #[]) (by decide) rfl)
    have hsx : sv kEnd = .string ⟨#[36, 101, 110, 100]⟩ := rfl
    rw [hsx] at HF
    clear hwn hsx
    go_wp2_with fail
    refine HF.out.mono ?_
    rintro e w2 ⟨v, rfl, k1, k2⟩
    go_wp2
    go_ret
    exact ⟨a1, n1, c1, v, tv, vv, ss, rfl, by rw [HS.out]; exact k1, by rw [HS.out]; exact H1.out.below k2, HK1.out.trans (KeepV.below k2)⟩
  have n_kEnddef : (wl == [36, 101, 110, 100, 100, 101, 102, 105, 110, 105, 116, 105, 111, 110, 115]) = false := beq_eq_false_iff_ne.2 h_kEnddef
  by_cases h_kComment : wl = kComment
  · have HS : Hid (sp = (.ign .decl, r)) := by unfold Hid; rw [HSP.out, h_kComment]; rfl
    rw [h_kComment] at htl
    unfold kComment at htl
    clear h_kComment
    have HF := Lib.hid (ignore_any w1 .decl (.func (.func 24) #[] #[]) rfl)
    clear hwn
    go_wp2_with fail
    refine HF.out.mono ?_
    rintro e w2 ⟨v, rfl, k1, k2⟩
    go_wp2
    go_ret
    exact ⟨a1, n1, c1, v, tv, vv, ss, rfl, by rw [HS.out]; exact k1, by rw [HS.out]; exact H1.out.below k2, HK1.out.trans (KeepV.below k2)⟩
  have n_kComment : (wl == [36, 99, 111, 109, 109, 101, 110, 116]) = false := beq_eq_false_iff_ne.2 h_kComment
  by_cases h_kDate : wl = kDate
  · have HS : Hid (sp = (.ign .decl, r)) := by unfold Hid; rw [HSP.out, h_kDate]; rfl
    rw [h_kDate] at htl
    unfold kDate at htl
    clear h_kDate
    have HF := Lib.hid (ignore_any w1 .decl (.func (.func 24) #[] #[]) rfl)
    clear hwn
    go_wp2_with fail
    refine HF.out.mono ?_
    rintro e w2 ⟨v, rfl, k1, k2⟩
    go_wp2
    go_ret
    exact ⟨a1, n1, c1, v, tv, vv, ss, rfl, by rw [HS.out]; exact k1, by rw [HS.out]; exact H1.out.below k2, HK1.out.trans (KeepV.below k2)⟩
  have n_kDate : (wl == [36, 100, 97, 116, 101]) = false := beq_eq_false_iff_ne.2 h_kDate
  by_cases h_kScope : wl = kScope
  · have HS : Hid (sp = (.ign .decl, r)) := by unfold Hid; rw [HSP.out, h_kScope]; rfl
    rw [h_kScope] at htl
    unfold kScope at htl
    clear h_kScope
    have HF := Lib.hid (ignore_any w1 .decl (.func (.func 24) #[] #[]) rfl)
    clear hwn
    go_wp2_with fail
    refine HF.out.mono ?_
    rintro e w2 ⟨v, rfl, k1, k2⟩
    go_wp2
    go_ret
    exact ⟨a1, n1, c1, v, tv, vv, ss, rfl, by rw [HS.out]; exact k1, by rw [HS.out]; exact H1.out.below k2, HK1.out.trans (KeepV.below k2)⟩
  have n_kScope : (wl == [36, 115, 99, 111, 112, 101]) = false := beq_eq_false_iff_ne.2 h_kScope
  by_cases h_kTimescale : wl = kTimescale
  · have HS : Hid (sp = (.ign .decl, r)) := by unfold Hid; rw [HSP.out, h_kTimescale]; rfl
    rw [h_kTimescale] at htl
    unfold kTimescale at htl
    clear h_kTimescale
    have HF := Lib.hid (ignore_any w1 .decl (.func (.func 24) #[] #[]) rfl)
    clear hwn
    go_wp2_with fail
    refine HF.out.mono ?_
    rintro e w2 ⟨v, rfl, k1, k2⟩
    go_wp2
    go_ret
    exact ⟨a1, n1, c1, v, tv, vv, ss, rfl, by rw [HS.out]; exact k1, by rw [HS.out]; exact H1.out.below k2, HK1.out.trans (KeepV.below k2)⟩
  have n_kTimescale : (wl == [36, 116, 105, 109, 101, 115, 99, 97, 108, 101]) = false := beq_eq_false_iff_ne.2 h_kTimescale
  by_cases h_kUpscope : wl = kUpscope
  · have HS : Hid (sp = (.ign .decl, r)) := by unfold Hid; rw [HSP.out, h_kUpscope]; rfl
    rw [h_kUpscope] at htl
    unfold kUpscope at htl
    clear h_kUpscope
    have HF := Lib.hid (ignore_any w1 .decl (.func (.func 24) #[] #[]) rfl)
    clear hwn
    go_wp2_with fail
    refine HF.out.mono ?_
    rintro e w2 ⟨v, rfl, k1, k2⟩
    go_wp2
    go_ret
    exact ⟨a1, n1, c1, v, tv, vv, ss, rfl, by rw [HS.out]; exact k1, by rw [HS.out]; exact H1.out.below k2, HK1.out.trans (KeepV.below k2)⟩
  have n_kUpscope : (wl == [36, 117, 112, 115, 99, 111, 112, 101]) = false := beq_eq_false_iff_ne.2 h_kUpscope
  by_cases h_kVersion : wl = kVersion
  · have HS : Hid (sp = (.ign .decl, r)) := by unfold Hid; rw [HSP.out, h_kVersion]; rfl
    rw [h_kVersion] at htl
    unfold kVersion at htl
    clear h_kVersion
    have HF := Lib.hid (ignore_any w1 .decl (.func (.func 24) #[] #[]) rfl)
    clear hwn
    go_wp2_with fail
    refine HF.out.mono ?_
    rintro e w2 ⟨v, rfl, k1, k2⟩
    go_wp2
    go_ret
    exact ⟨a1, n1, c1, v, tv, vv, ss, rfl, by rw [HS.out]; exact k1, by rw [HS.out]; exact H1.out.below k2, HK1.out.trans (KeepV.below k2)⟩
  have n_kVersion : (wl == [36, 118, 101, 114, 115, 105, 111, 110]) = false := beq_eq_false_iff_ne.2 h_kVersion
  by_cases he : wl = []
  · have HS : Hid (sp = failV r 4) := by unfold Hid; rw [HSP.out, he]; rfl
    rw [he] at htl
    clear he
    have HF := Lib.hid (fail_any H1.out 4)
    try clear hxs
    clear hwn
    go_wp2_with fail
    refine HF.out.mono ?_
    rintro e w2 ⟨v, tv2, vv2, ss2, rfl, k1, k2, k3⟩
    go_wp2
    go_ret
    exact ⟨a1, n1, c1, v, tv2, vv2, ss2, rfl, by rw [HS.out]; exact k1, by rw [HS.out]; exact k2, HK1.out.trans k3⟩
  have HS : Hid (sp = failV r 5) := by unfold Hid; rw [HSP.out, stepV, if_neg h_kVar, if_neg h_kEnddef, if_neg (by rintro (h | h | h | h | h | h) <;> contradiction), if_neg he]
  have hie : wl.isEmpty = false := by cases wl with | nil => exact absurd rfl he | cons x s => rfl
  have HF := Lib.hid (fail_any H1.out 5)
  try clear hxs
  clear hwn
  go_wp2_with fail
  refine HF.out.mono ?_
  rintro e w2 ⟨v, tv2, vv2, ss2, rfl, k1, k2, k3⟩
  go_wp2
  go_ret
  exact ⟨a1, n1, c1, v, tv2, vv2, ss2, rfl, by rw [HS.out]; exact k1, by rw [HS.out]; exact k2, HK1.out.trans k3⟩
end Go.Proofs.YtgplkpfdbiapaaaGreatDoor
/- vcd's states: code, by their contracts. -/
namespace Go.Proofs.YtgplkpfdbiapaaaGreatDoor
open Go Go.RowKit Go.Joins Go.Shelf Go.Maps

theorem cells_keep {w w' : World} {M : Nat} {S : List (List UInt8)} (h : IsIdx w M S) (hg : w.grownBy w' (some M)) {D : Nat} {C : Array Value} {t : TypeId} {fr : Nat × Nat} (hD : w.heap[D]? = some (.cells C t fr)) : w'.heap[D]? = some (.cells C t fr) := by
  obtain ⟨es, cl, h1, _⟩ := h
  refine heap_grown hD hg ?_
  intro e
  injection e with e
  subst e
  rw [h1] at hD
  cases hD
theorem cells_row {w w' : World} {M : Nat} {S : List (List UInt8)} (h : IsIdx w M S) (hg : w.grownBy w' (some M)) {base k n : Nat} {e : TypeId} {v : Value} {xs : List Value} (hr : w.ownsRow base e k v n xs) : w'.ownsRow base e k v n xs := by
  refine ⟨hr.1, ?_⟩
  rcases hr.2 with h2 | ⟨g, cap, cur, hv, hg2, hh, r⟩
  · exact .inl h2
  · exact .inr ⟨g, cap, cur, hv, hg2, cells_keep h hg hh, r⟩
/-- A code is put. -/
theorem RdAt.code {w0 w w' : World} {R : Nat} {nv : Value} {a : Option Addr} {n c M : Nat} {tv vv : Value} {ss : List Slc} {r : VRd} {bs : List UInt8} {x : List UInt8} (h : RdAt w0 R nv w a n c M tv vv ss r bs) (hi : IsIdx w' M (r.idx ++ [x])) (hg : w.grownBy w' (some M)) :
    RdAt w0 R nv w' a n c M tv vv ss ⟨r.idx ++ [x], r.times, r.wav, r.e⟩ bs ∧ KeepV w w' := by
  have hm := h.cs.map
  refine ⟨⟨cells_keep hm hg h.box, h.hR, h.sees, h.cap, ⟨h.cs.low.grown hg h.cs.low.size (by intro q hq; cases hq; exact h.cs.hM), h.cs.hM, hi, ?_, ⟨h.cs.wavs.lens, cells_row hm hg h.cs.wavs.row, fun j hj => cells_row hm hg (h.cs.wavs.rows j hj), h.cs.wavs.apart⟩⟩⟩, ⟨fun D C t fr hD _ => cells_keep hm hg hD, hg.size⟩⟩
  refine h.cs.times.other fun k hk => ?_
  rcases h.cs.times.2 with ⟨e, _⟩ | ⟨g, cap, cur, e, _, hh, _⟩
  · rw [e] at hk; cases hk
  · rw [e] at hk
    have : g = k := by simpa [Value.ownBlock] using hk
    subst this
    rw [cells_keep hm hg hh, hh]
set_option maxRecDepth 100000 in
set_option maxHeartbeats 1600000 in
theorem code_any (w0 W : World) (G : GapEnv w0) (_GN : NumEnv w0) (R : Nat) (nv : Value) (a : Option Addr) (n c M : Nat) (tv vv : Value) (ss : List Slc) (r : VRd) (bs : List UInt8) (h : RdAt w0 R nv W a n c M tv vv ss r bs) (ok : OkV .cod r) (hn : n ≤ 8388608) :
    Calls Tryz.prog 45 #[.pointer (some ⟨R, 0, none⟩)] W (fun e w' => ∃ a n c, MvPost w0 R nv W a n c M (stepV .cod r (wordL bs)) (restL bs) e w') := by
  have hw := word_any w0 G W R nv a n c M tv vv ss r bs h (by omega)
  have hlr := rest_le bs
  have hln := h.sees.lenMap
  have hwb := word_le bs
  obtain ⟨wl, hwl⟩ : ∃ wl, wl = wordL bs := ⟨_, rfl⟩
  unfold WordPost sv at hw
  rw [← hwl] at hw hwb ⊢
  obtain ⟨sp, hsp⟩ : ∃ sp, sp = stepV .cod r wl := ⟨_, rfl⟩
  rw [← hsp]
  have HSP := Lib.hid hsp
  obtain ⟨ws, hws⟩ : ∃ ws, ws = str wl := ⟨_, rfl⟩
  rw [← hws] at hw
  have HWS := Lib.hid hws
  have htl : ws.toList = wl := by rw [hws, ByteArray.toList_eq]; rfl
  have hwn : wl.length ≤ 8388608 := by omega
  have HW := Lib.hid hw
  clear hw h hws hwl hsp hlr hln hwb
  go_enter Tryz.func45, Tryz.ntmps45
  go_wp2_with fail
  refine HW.out.mono ?_
  rintro e w1 ⟨rfl, hk1, a1, n1, c1, h1⟩
  have H1 := Lib.hid h1
  have HK1 := Lib.hid hk1
  clear hk1 h1 HW
  have c2 := cell_of_block H1.out.box 2
  have hlk := idx_look H1.out.cs.map wl hwn
  rw [← HWS.out] at hlk
  obtain ⟨tb, htb⟩ : ∃ tb, tb = decide (wl ∈ r.idx) := ⟨_, rfl⟩
  rw [← htb] at hlk
  by_cases he : wl = []
  · have HS : Hid (sp = failV r 4) := by unfold Hid; rw [HSP.out, he]; rfl
    rw [he] at htl
    clear he
    have HF := Lib.hid (fail_any H1.out 4)
    clear hwn
    go_wp2_with fail
    refine HF.out.mono ?_
    rintro e w2 ⟨v, tv2, vv2, ss2, rfl, k1, k2, k3⟩
    go_wp2
    go_ret
    exact ⟨a1, n1, c1, v, tv2, vv2, ss2, rfl, by rw [HS.out]; exact k1, by rw [HS.out]; exact k2, HK1.out.trans k3⟩
  have hie : wl.isEmpty = false := by cases wl with | nil => exact absurd rfl he | cons x s => rfl
  have hix := istext_any wl 8 (by omega) w1
  unfold sv at hix
  rw [← HWS.out] at hix
  obtain ⟨bt, hbt⟩ : ∃ bt, bt = isTextV wl 8 := ⟨_, rfl⟩
  rw [← hbt] at hix
  have HIX := Lib.hid hix
  have HBT := Lib.hid hbt
  have HTB := Lib.hid htb
  clear hix hbt htb
  cases bt with
  | false =>
    have HS : Hid (sp = failV r 5) := by unfold Hid; rw [HSP.out, stepV, if_neg he, if_pos HBT.out.symm]
    clear hwn
    go_wp2_with fail
    refine HIX.out.mono ?_
    rintro e w2 ⟨rfl, hb2⟩
    have HF := Lib.hid (fail_any (H1.out.below hb2) 5)
    have HB2 := Lib.hid hb2
    clear hb2 c2 hlk
    go_wp2_with fail
    refine HF.out.mono ?_
    rintro e w3 ⟨v, tv2, vv2, ss2, rfl, k1, k2, k3⟩
    go_wp2
    go_ret
    exact ⟨a1, n1, c1, v, tv2, vv2, ss2, rfl, by rw [HS.out]; exact k1, by rw [HS.out]; exact k2, HK1.out.trans ((KeepV.below HB2.out).trans k3)⟩
  | true =>
    cases tb with
    | true =>
      have HS : Hid (sp = failV r 8) := by unfold Hid; rw [HSP.out, stepV, if_neg he, if_neg (by rw [← HBT.out]; simp), if_pos (of_decide_eq_true HTB.out.symm)]
      clear hwn
      go_wp2_with fail
      refine HIX.out.mono ?_
      rintro e w2 ⟨rfl, hb2⟩
      have HF := Lib.hid (fail_any (H1.out.below hb2) 8)
      have HB2 := Lib.hid hb2
      clear hb2 c2 hlk
      go_wp2_with fail
      refine HF.out.mono ?_
      rintro e w3 ⟨v, tv2, vv2, ss2, rfl, k1, k2, k3⟩
      go_wp2
      go_ret
      exact ⟨a1, n1, c1, v, tv2, vv2, ss2, rfl, by rw [HS.out]; exact k1, by rw [HS.out]; exact k2, HK1.out.trans ((KeepV.below HB2.out).trans k3)⟩
    | false =>
      have HS : Hid (sp = (.nam, ⟨r.idx ++ [wl], r.times, r.wav, r.e⟩)) := by unfold Hid; rw [HSP.out, stepV, if_neg he, if_neg (by rw [← HBT.out]; simp), if_neg (of_decide_eq_false HTB.out.symm)]
      have HWN := Lib.hid hwn
      clear hwn
      go_wp2_with fail
      refine HIX.out.mono ?_
      rintro e w2 ⟨rfl, hb2⟩
      have H2 := Lib.hid (H1.out.below hb2)
      have HK2 := Lib.hid (HK1.out.trans (KeepV.below hb2))
      clear hb2 c2 hlk
      obtain ⟨va, vc, rfl⟩ := ownsN_form H2.out.cs.wavs.row
      have c2 := cell_of_block H2.out.box 2
      have c4 := cell_of_block H2.out.box 4
      have hm := ok.many
      have hil : r.idx.length = r.wav.length := by have := ok.idx rfl; simpa [acV] using this
      obtain ⟨w3, hrun, hidx, hg⟩ := idx_put (W := w2.drew) (show IsIdx w2.drew M r.idx from H2.out.cs.map) wl HWN.out (by omega)
      rw [hil, ← HWS.out] at hrun
      have HE := Lib.hid (RdAt.code (show RdAt w0 R nv w2.drew a1 n1 c1 M tv (.slice va r.wav.length vc) ss r (restL bs) from H2.out.below ((Below.refl _ _).drew)) hidx hg)
      obtain ⟨N, hN⟩ : ∃ N, N = r.wav.length := ⟨_, rfl⟩
      rw [← hN] at hrun
      replace c4 : w2.cell? ⟨R, 4, none⟩ = some (.slice va N vc) := by rw [hN]; exact c4
      have HDR : Hid (KeepV w2 w2.drew) := KeepV.below ((Below.refl _ _).drew)
      clear hm hil hidx hg hN
      go_upto_region 9 with fail
      go_region
      all_goals go_wp2
      all_goals go_ret
      all_goals exact ⟨a1, n1, c1, _, tv, _, ss, rfl, by rw [HS.out]; rfl, by rw [HS.out]; exact HE.out.1, HK2.out.trans (HDR.out.trans HE.out.2)⟩
end Go.Proofs.YtgplkpfdbiapaaaGreatDoor
/- vcd's states: name, by their contracts. -/
namespace Go.Proofs.YtgplkpfdbiapaaaGreatDoor
open Go Go.RowKit Go.Joins Go.Shelf Go.Maps

theorem info_wave : (Tryz.prog.info? 45).map (fun i => (i.zero, i.size, i.bytes)) = some (some (.agg #[.string ⟨#[]⟩, .slice none 0 0]), 2, 40) := by kernel_rfl
theorem cell_two_new (w : World) (x y : Value) (t : TypeId) : ∀ j u, [x, y][j]? = some u → (w.alloc (.cells #[x, y] t)).cell? ((⟨w.heap.size, 0, none⟩ : Addr).add j) = some u := by
  intro j u hj
  have hh := heap_new w (.cells #[x, y] t) _ rfl
  match j, hj with
  | 0, hj => simp at hj; subst hj; exact cell_of_block hh 0
  | 1, hj => simp at hj; subst hj; exact cell_of_block hh 1
theorem snoc_getD {α : Type} (l : List α) (x d : α) (j : Nat) : (l ++ [x]).getD j d = if j = l.length then x else l.getD j d := by
  by_cases e : j = l.length
  · subst e; simp
  · rw [if_neg e]
    rcases Nat.lt_or_ge j l.length with h | h
    · simp [List.getD, List.getElem?_append_left h]
    · simp [List.getD, List.getElem?_append_right h]
      rw [List.getElem?_eq_none (by simp; omega), List.getElem?_eq_none (by omega)]
/-- A wave is put behind the others. -/
theorem RdAt.name {w0 w3 w4 : World} {R : Nat} {nv : Value} {a : Option Addr} {n c M : Nat} {tv vv v4 : Value} {ss : List Slc} {r : VRd} {bs x : List UInt8} (h : RdAt w0 R nv w3 a n c M tv vv ss r bs)
    (hr : w4.ownsRow w0.heap.size 45 2 v4 (r.wav.length + 1) (wcs2 r.wav ss ++ [sv x, .slice none 0 0])) (hg : w3.grownBy w4 vv.ownBlock) :
    RdAt w0 R nv (w4.setCell ⟨R, 4, none⟩ v4) a n c M tv v4 (ss ++ [slc0]) ⟨r.idx, r.times, r.wav ++ [(x, [])], r.e⟩ bs ∧ KeepV w3 (w4.setCell ⟨R, 4, none⟩ v4) ∧
      w4.cell? ⟨R, 4, none⟩ = some vv ∧ w4.frozen? ⟨R, 4, none⟩ = false := by
  have ht : Turns w3 w4 (fun t => t = 45) := Turns.row (P := fun t => t = 45) h.cs.wavs.row hg rfl
  have hb4 := ht.block h.box (by decide)
  have hs : Turns w4 (w4.setCell ⟨R, 4, none⟩ v4) (fun t => t = 66) := Turns.cell (P := fun t => t = 66) hb4 rfl _ _
  have hbx := block_setCell hb4 (i := 4) v4
  have hsn := wcs2_snoc r.wav ss (x, []) slc0 h.cs.wavs.lens
  refine ⟨⟨by simpa using hbx, h.hR, h.sees, h.cap, ⟨?_, h.cs.hM, hs.idx (ht.idx h.cs.map), Turns.row1 (Turns.row1 h.cs.times ht (by decide)) hs (by decide), ⟨by simp [h.cs.wavs.lens], ?_, fun j hj => ?_, fun i j hi hj hij k hk => ?_⟩⟩⟩, (KeepV.turns ht (by decide) (by decide)).trans (KeepV.turns hs (by decide) (by decide)), cell_of_block hb4 4, unfrozen_of_block hb4 4⟩
  · exact (h.cs.low.grown hg h.cs.low.size (fun k hk => (h.cs.wavs.row.lt k hk).1)).grown (Lib.grownBy_setCell w4 R 4 _) (Nat.le_trans h.cs.low.size hg.size) (by intro q hq; cases hq; exact h.hR)
  · have := Turns.rowN hr hs (by decide)
    rw [List.length_append, List.length_singleton, hsn]
    exact this
  · rw [List.length_append, List.length_singleton] at hj
    rw [snoc_getD, snoc_getD, h.cs.wavs.lens]
    by_cases e : j = r.wav.length
    · rw [if_pos e, if_pos e]
      exact ownsN_nil _ _ _ _
    · rw [if_neg e, if_neg e]
      exact Turns.rowN (Turns.rowN (h.cs.wavs.rows j (by omega)) ht (by decide)) hs (by decide)
  · rw [List.length_append, List.length_singleton] at hi hj
    rw [snoc_getD, h.cs.wavs.lens] at hk
    rw [snoc_getD, h.cs.wavs.lens]
    by_cases e1 : i = r.wav.length
    · rw [if_pos e1] at hk; cases hk
    · rw [if_neg e1] at hk
      by_cases e2 : j = r.wav.length
      · rw [if_pos e2]; intro e; cases e
      · rw [if_neg e2]
        exact h.cs.wavs.apart i j (by omega) (by omega) hij k hk
set_option maxRecDepth 100000 in
set_option maxHeartbeats 1600000 in
theorem name_any (w0 W : World) (G : GapEnv w0) (_GN : NumEnv w0) (R : Nat) (nv : Value) (a : Option Addr) (n c M : Nat) (tv vv : Value) (ss : List Slc) (r : VRd) (bs : List UInt8) (h : RdAt w0 R nv W a n c M tv vv ss r bs) (ok : OkV .nam r) (hn : n ≤ 8388608) :
    Calls Tryz.prog 69 #[.pointer (some ⟨R, 0, none⟩)] W (fun e w' => ∃ a n c, MvPost w0 R nv W a n c M (stepV .nam r (wordL bs)) (restL bs) e w') := by
  have hw := word_any w0 G W R nv a n c M tv vv ss r bs h (by omega)
  have hlr := rest_le bs
  have hln := h.sees.lenMap
  have hwb := word_le bs
  obtain ⟨wl, hwl⟩ : ∃ wl, wl = wordL bs := ⟨_, rfl⟩
  unfold WordPost sv at hw
  rw [← hwl] at hw hwb ⊢
  obtain ⟨sp, hsp⟩ : ∃ sp, sp = stepV .nam r wl := ⟨_, rfl⟩
  rw [← hsp]
  have HSP := Lib.hid hsp
  obtain ⟨ws, hws⟩ : ∃ ws, ws = str wl := ⟨_, rfl⟩
  rw [← hws] at hw
  have HWS := Lib.hid hws
  have htl : ws.toList = wl := by rw [hws, ByteArray.toList_eq]; rfl
  have hwn : wl.length ≤ 8388608 := by omega
  have HW := Lib.hid hw
  clear hw h hws hwl hsp hlr hln hwb
  go_enter Tryz.func69, Tryz.ntmps69
  go_wp2_with fail
  refine HW.out.mono ?_
  rintro e w1 ⟨rfl, hk1, a1, n1, c1, h1⟩
  have H1 := Lib.hid h1
  have HK1 := Lib.hid hk1
  clear hk1 h1 HW
  by_cases he : wl = []
  · have HS : Hid (sp = failV r 4) := by unfold Hid; rw [HSP.out, he]; rfl
    rw [he] at htl
    clear he
    have HF := Lib.hid (fail_any H1.out 4)
    clear hwn
    go_wp2_with fail
    refine HF.out.mono ?_
    rintro e w3 ⟨v, tv2, vv2, ss2, rfl, k1, k2, k3⟩
    go_wp2
    go_ret
    exact ⟨a1, n1, c1, v, tv2, vv2, ss2, rfl, by rw [HS.out]; exact k1, by rw [HS.out]; exact k2, HK1.out.trans k3⟩
  have hie : wl.isEmpty = false := by cases wl with | nil => exact absurd rfl he | cons x s => rfl
  have hix := istext_any wl 32 (by omega) w1
  unfold sv at hix
  rw [← HWS.out] at hix
  obtain ⟨bt, hbt⟩ : ∃ bt, bt = isTextV wl 32 := ⟨_, rfl⟩
  rw [← hbt] at hix
  have HIX := Lib.hid hix
  have HBT := Lib.hid hbt
  clear hix hbt
  cases bt with
  | false =>
    have HS : Hid (sp = failV r 5) := by unfold Hid; rw [HSP.out, stepV, if_neg he, if_pos HBT.out.symm]
    clear hwn
    go_wp2_with fail
    refine HIX.out.mono ?_
    rintro e w2 ⟨rfl, hb2⟩
    have HB2 := Lib.hid hb2
    have HF := Lib.hid (fail_any (H1.out.below hb2) 5)
    clear hb2
    go_wp2_with fail
    refine HF.out.mono ?_
    rintro e w3 ⟨v, tv2, vv2, ss2, rfl, k1, k2, k3⟩
    go_wp2
    go_ret
    exact ⟨a1, n1, c1, v, tv2, vv2, ss2, rfl, by rw [HS.out]; exact k1, by rw [HS.out]; exact k2, HK1.out.trans ((KeepV.below HB2.out).trans k3)⟩
  | true =>
    have HS : Hid (sp = (.exp kEnd .decl, ⟨r.idx, r.times, r.wav ++ [(wl, [])], r.e⟩)) := by unfold Hid; rw [HSP.out, stepV, if_neg he, if_neg (by rw [← HBT.out]; simp)]
    clear hwn
    obtain ⟨i0, hin, hz0, hz1, hz2⟩ := info_parts info_wave
    go_wp2_with fail
    refine HIX.out.mono ?_
    rintro e w2 ⟨rfl, hb2⟩
    have hal : Below w2.heap.size w2 (w2.alloc (.cells #[.string ws, .slice none 0 0] 45)) := ext_alloc _ _
    have H2 := Lib.hid (H1.out.below hb2)
    have H3 := Lib.hid (H2.out.below hal)
    have HK3 := Lib.hid (HK1.out.trans ((KeepV.below hb2).trans (KeepV.below hal)))
    obtain ⟨va, vc, rfl⟩ := ownsN_form H3.out.cs.wavs.row
    obtain ⟨N, hN⟩ : ∃ N, N = r.wav.length := ⟨_, rfl⟩
    have HN := Lib.hid hN
    have c4 := cell_of_block H2.out.box 4
    replace c4 : w2.cell? ⟨R, 4, none⟩ = some (.slice va N vc) := by rw [hN]; exact c4
    have hrow := H3.out.cs.wavs.row
    rw [← hN] at hrow
    have HROW := Lib.hid hrow
    have hnews := cell_two_new w2 (.string ws) (.slice none 0 0) 45
    have hq3 : w0.heap.size ≤ (w2.alloc (.cells #[.string ws, .slice none 0 0] 45)).heap.size := Nat.le_trans H2.out.cs.low.size hal.size
    have hroom := ok.room rfl
    have hq1 : N + 1 ≤ maxLen := by unfold maxLen; omega
    have hq2 : (N + 1) * 40 ≤ 140737488355328 := by omega
    have HNEWS := Lib.hid hnews
    clear hb2 hal hN hrow hnews hroom
    go_wp2_with (at_builtin; refine wpList_append_own_at _ rfl _ _ 36 rfl w0.heap.size 45 i0 (.agg #[.string ⟨#[]⟩, .slice none 0 0]) 2 40 Tryz.underlying36 hin hz0 hz1 hz2 rfl (by decide) (.slice va N vc) N (wcs2 r.wav ss) rfl HROW.out ⟨w2.heap.size, 0, none⟩ 1 1 [.string ws, .slice none 0 0] rfl rfl HNEWS.out (by intro z hz; simp at hz; rcases hz with rfl | rfl <;> rfl) hq1 hq2 hq3 ?_)
    intro v4 w4 hr4 hg4 _ _
    rw [HN.out] at hr4 hg4
    obtain ⟨a4, c4z, rfl⟩ := ownsN_form hr4
    have hsv : (Value.string ws : Value) = sv wl := by rw [HWS.out]; rfl
    rw [hsv] at hr4
    have he4 := H3.out.name hr4 hg4
    obtain ⟨e1, e2, c44, f44⟩ := he4
    rw [← HN.out] at c44
    have E1 := Lib.hid e1
    have E2 := Lib.hid (HK3.out.trans e2)
    have HF := Lib.hid (expect_any (w4.setCell ⟨R, 4, none⟩ (.slice a4 (r.wav.length + 1) c4z)) kEnd .decl (.func (.func 24) #[] #[]) (by decide) rfl)
    have hsx : sv kEnd = .string ⟨#[36, 101, 110, 100]⟩ := rfl
    rw [hsx] at HF
    clear hr4 hg4 hsv e1 e2 hsx c4
    go_wp2_with fail
    refine HF.out.mono ?_
    rintro e w6 ⟨v6, rfl, k1, k2⟩
    go_wp2
    go_ret
    exact ⟨a1, n1, c1, v6, tv, _, _, rfl, by rw [HS.out]; exact k1, by rw [HS.out]; exact E1.out.below k2, E2.out.trans (KeepV.below k2)⟩
end Go.Proofs.YtgplkpfdbiapaaaGreatDoor
namespace Go.Proofs.YtgplkpfdbiapaaaGreatDoor
open Go Go.RowKit Go.Joins Go.Shelf Go.Maps

set_option maxRecDepth 100000 in
set_option maxHeartbeats 1600000 in
theorem exp1_any (w0 W : World) (G : GapEnv w0) (R : Nat) (nv : Value) (a : Option Addr) (n c M : Nat) (tv vv : Value) (ss : List Slc) (r : VRd) (bs : List UInt8) (h : RdAt w0 R nv W a n c M tv vv ss r bs) (hn : n ≤ 8388608)
    (x : List UInt8) (t : VSt) (b1 b2 : Nat) (u : Value) (hb1 : W.heap[b1]? = some (.cells #[sv x] 9 (0, 0))) (hb2 : W.heap[b2]? = some (.cells #[u] 64 (0, 0))) (hx : x ≠ []) (hu : IsSt W t u) :
    Calls Tryz.prog 67 #[.pointer (some ⟨R, 0, none⟩), .pointer (some ⟨b1, 0, none⟩), .pointer (some ⟨b2, 0, none⟩)] W (fun e w' => ∃ a n c, MvPost w0 R nv W a n c M (stepV (.exp x t) r (wordL bs)) (restL bs) e w') := by
  have hw := word_any w0 G W R nv a n c M tv vv ss r bs h (by omega)
  obtain ⟨wl, hwl⟩ : ∃ wl, wl = wordL bs := ⟨_, rfl⟩
  unfold WordPost sv at hw
  rw [← hwl] at hw ⊢
  obtain ⟨sp, hsp⟩ : ∃ sp, sp = stepV (.exp x t) r wl := ⟨_, rfl⟩
  rw [← hsp]
  have HSP := Lib.hid hsp
  obtain ⟨ws, hws⟩ : ∃ ws, ws = str wl := ⟨_, rfl⟩
  rw [← hws] at hw
  have htl : ws.toList = wl := by rw [hws, ByteArray.toList_eq]; rfl
  unfold sv at hb1
  obtain ⟨xs, hxs⟩ : ∃ xs, xs = str x := ⟨_, rfl⟩
  rw [← hxs] at hb1
  have hxl : xs.toList = x := by rw [hxs, ByteArray.toList_eq]; rfl
  have HW := Lib.hid hw
  have HB1 := Lib.hid hb1
  have HB2 := Lib.hid hb2
  have HU := Lib.hid hu
  clear hw h hws hwl hsp hxs hb1 hb2 hu
  go_enter Tryz.func67, Tryz.ntmps67
  go_wp2_with fail
  refine HW.out.mono ?_
  rintro e w1 ⟨rfl, hk1, a1, n1, c1, h1⟩
  have H1 := Lib.hid h1
  have HK1 := Lib.hid hk1
  have d1 := cell_of_block (hk1.keep _ _ _ _ HB1.out (Or.inl rfl)) 0
  have d2 := cell_of_block (hk1.keep _ _ _ _ HB2.out (Or.inr rfl)) 0
  have HU1 := Lib.hid (HU.out.keep hk1)
  clear hk1 h1 HW
  by_cases he : wl = []
  · have HS : Hid (sp = failV r 4) := by unfold Hid; rw [HSP.out, stepV, if_pos he]
    have hne : (wl == x) = false := by rw [he]; cases x with | nil => exact absurd rfl hx | cons _ _ => rfl
    have hie : wl.isEmpty = true := by rw [he]; rfl
    have HF := Lib.hid (fail_any H1.out 4)
    clear he
    go_wp2_with fail
    refine HF.out.mono ?_
    rintro e w2 ⟨v, tv2, vv2, ss2, rfl, k1, k2, k3⟩
    go_wp2
    go_ret
    exact ⟨a1, n1, c1, v, tv2, vv2, ss2, rfl, by rw [HS.out]; exact k1, by rw [HS.out]; exact k2, HK1.out.trans k3⟩
  · have hie : wl.isEmpty = false := by cases wl with | nil => exact absurd rfl he | cons x s => rfl
    by_cases hq : wl = x
    · have HS : Hid (sp = (t, r)) := by unfold Hid; rw [HSP.out, stepV, if_neg he, if_pos hq]
      have hne : (wl == x) = true := beq_iff_eq.2 hq
      clear hq
      go_wp2
      go_ret
      exact ⟨a1, n1, c1, u, tv, vv, ss, rfl, by rw [HS.out]; exact HU1.out, by rw [HS.out]; exact H1.out, HK1.out⟩
    · have HS : Hid (sp = failV r 5) := by unfold Hid; rw [HSP.out, stepV, if_neg he, if_neg hq]
      have hne : (wl == x) = false := beq_eq_false_iff_ne.2 hq
      have HF := Lib.hid (fail_any H1.out 5)
      clear hq
      go_wp2_with fail
      refine HF.out.mono ?_
      rintro e w2 ⟨v, tv2, vv2, ss2, rfl, k1, k2, k3⟩
      go_wp2
      go_ret
      exact ⟨a1, n1, c1, v, tv2, vv2, ss2, rfl, by rw [HS.out]; exact k1, by rw [HS.out]; exact k2, HK1.out.trans k3⟩
/-- What a state leaves: the state to go on with; the reader moved on. -/
def StPost (w0 : World) (R : Nat) (nv : Value) (W : World) (M : Nat) (s : VSt) (r : VRd) (bs : List UInt8) (e : Ending) (w' : World) : Prop :=
  ∃ v s' r' bs' a n c tv vv ss, e = .returned v ∧ IsSt w' s' v ∧ RdAt w0 R nv w' a n c M tv vv ss r' bs' ∧ OkV s' r' ∧ outV s r bs = outV s' r' bs' ∧ (finV s' = true ∨ bs'.length < bs.length) ∧ KeepV W w'
theorem StPost.of {w0 : World} {R : Nat} {nv : Value} {W : World} {M : Nat} {s : VSt} {r : VRd} {bs : List UInt8} {e : Ending} {w' : World} (hs : finV s = false) (ok : OkV s r) (h : ∃ a n c, MvPost w0 R nv W a n c M (stepV s r (wordL bs)) (restL bs) e w') : StPost w0 R nv W M s r bs e w' := by
  obtain ⟨a, n, c, v, tv, vv, ss, h1, h2, h3, h4⟩ := h
  refine ⟨v, _, _, restL bs, a, n, c, tv, vv, ss, h1, h2, h3, step_ok s r _ ok, out_step s r bs hs, ?_, h4⟩
  by_cases e : wordL bs = []
  · left; rw [e]; exact step_nil s r
  · right; exact rest_lt bs e
set_option maxRecDepth 100000 in
set_option maxHeartbeats 1600000 in
theorem ign1_any (w0 W : World) (G : GapEnv w0) (R : Nat) (nv : Value) (a : Option Addr) (n c M : Nat) (tv vv : Value) (ss : List Slc) (r : VRd) (bs : List UInt8) (h : RdAt w0 R nv W a n c M tv vv ss r bs) (hn : n ≤ 8388608)
    (t : VSt) (b1 : Nat) (u : Value) (hb1 : W.heap[b1]? = some (.cells #[u] 64 (0, 0))) (hu : IsSt W t u) (ok : OkV (.ign t) r) :
    Calls Tryz.prog 71 #[.pointer (some ⟨R, 0, none⟩), .pointer (some ⟨b1, 0, none⟩)] W (StPost w0 R nv W M (.ign t) r bs) := by
  have hln := h.sees.lenMap
  have hbl : bs.length ≤ 8388608 := by omega
  have H := Lib.hid h
  have HB1 := Lib.hid hb1
  have HU := Lib.hid hu
  have HOK := Lib.hid ok
  clear h hb1 hu ok hn hln
  go_enter Tryz.func71, Tryz.ntmps71
  go_wp2
  go_loopg [5] bs.length (fun g _ wr => ∃ (bk : List UInt8) (a : Option Addr) (n c : Nat), bk.length ≤ g ∧ bk.length ≤ bs.length ∧ Hid (RdAt w0 R nv wr a n c M tv vv ss r bk) ∧ Hid (outV (.ign t) r bs = outV (.ign t) r bk) ∧ Hid (KeepV W wr))
  case atStart => exact ⟨bs, a, n, c, Nat.le_refl _, Nat.le_refl _, H, rfl, KeepV.below (Below.refl _ _)⟩
  case round =>
    obtain ⟨bk, a2, n2, c2, hg, hbk, hR, hO, hK⟩ := hrel
    have hkn := hR.out.sees.lenMap
    have hw := word_any w0 G wr R nv a2 n2 c2 M tv vv ss r bk hR.out (by omega)
    have HO := Lib.hid hO.out
    have HK := Lib.hid hK.out
    obtain ⟨wl, hwl⟩ : ∃ wl, wl = wordL bk := ⟨_, rfl⟩
    have HWL := Lib.hid hwl
    unfold WordPost sv at hw
    rw [← hwl] at hw
    obtain ⟨ws, hws⟩ : ∃ ws, ws = str wl := ⟨_, rfl⟩
    rw [← hws] at hw
    have htl : ws.toList = wl := by rw [hws, ByteArray.toList_eq]; rfl
    have hstep := out_step (.ign t) r bk rfl
    rw [← hwl] at hstep
    have HST := Lib.hid hstep
    have HW := Lib.hid hw
    clear hw hR hO hK hwl hws hstep hkn
    go_wp2_with fail
    refine HW.out.mono ?_
    rintro e w1 ⟨rfl, hk1, a1, n1, c1, h1⟩
    have H1 := Lib.hid h1
    have HK1 := Lib.hid (HK.out.trans hk1)
    have d1 := cell_of_block (HK1.out.keep _ _ _ _ HB1.out (Or.inr rfl)) 0
    clear hk1 h1 HW
    by_cases he : wl = []
    · have HS : Hid (outV (.ign t) r bk = outV (failV r 4).1 (failV r 4).2 (restL bk)) := by unfold Hid; rw [HST.out, stepV, if_pos he]
      have HF := Lib.hid (fail_any H1.out 4)
      rw [he] at htl
      clear he
      go_wp2_with fail
      refine HF.out.mono ?_
      rintro e w2 ⟨v, tv2, vv2, ss2, rfl, k1, k2, k3⟩
      go_wp2
      go_ret
      exact ⟨v, _, _, restL bk, a1, n1, c1, tv2, vv2, ss2, rfl, k1, k2, HOK.out.fail 4, HO.out.trans HS.out, Or.inl rfl, HK1.out.trans k3⟩
    · have hie : wl.isEmpty = false := by cases wl with | nil => exact absurd rfl he | cons x s => rfl
      have hrl : (restL bk).length < bk.length := rest_lt bk (by rw [← HWL.out]; exact he)
      by_cases hq : wl = kEnd
      · have HS : Hid (outV (.ign t) r bk = outV t r (restL bk)) := by unfold Hid; rw [HST.out, stepV, if_neg he, if_pos hq]
        rw [hq] at htl
        unfold kEnd at htl
        clear hq he hie
        go_wp2
        go_ret
        exact ⟨u, t, r, restL bk, a1, n1, c1, tv, vv, ss, rfl, HU.out.keep HK1.out, H1.out, HOK.out.to HOK.out.room (fun _ => HOK.out.idx rfl) HOK.out.late, HO.out.trans HS.out, Or.inr (by omega), HK1.out⟩
      · have HS : Hid (outV (.ign t) r bk = outV (.ign t) r (restL bk)) := by unfold Hid; rw [HST.out, stepV, if_neg he, if_neg hq]
        have hne : (wl == [36, 101, 110, 100]) = false := beq_eq_false_iff_ne.2 hq
        clear hq he
        go_wp2
        go_roundg (restL bk).length
        case measure => omega
        case rel => exact ⟨restL bk, a1, n1, c1, Nat.le_refl _, by omega, H1, HO.out.trans HS.out, HK1⟩
end Go.Proofs.YtgplkpfdbiapaaaGreatDoor
