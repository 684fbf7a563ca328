/- vcd's states: what makes them, and untimed, timed, dumped, by their contracts. -/
import Derived.Test.YtgplkpfdbiapaaaGreatDoorLib
import Derived.Test.YtgplkpfdbiapaaaGreatDoorGA3
import Derived.Test.YtgplkpfdbiapaaaGreatDoorNBase
import Derived.Test.YtgplkpfdbiapaaaGreatDoorVdSpec
import Derived.Test.YtgplkpfdbiapaaaGreatDoorGG
import Derived.Test.YtgplkpfdbiapaaaGreatDoorGK
import Derived.Test.YtgplkpfdbiapaaaGreatDoorRows
import Derived.Test.YtgplkpfdbiapaaaGreatDoorShelf
import Derived.Test.YtgplkpfdbiapaaaGreatDoorShelf2
import Derived.BigQuiet
import Derived.Deep.AppendLies
import Derived.Deep.CutRange
import Derived.Deep.QuietTactic
import Derived.Deep.RegionHeld3
import Derived.Deep.RegionLaw
import Derived.Deep.RegionWith
import Derived.KernelRfl
import Derived.Laws.CopyOwn
import Derived.Laws.EntriesVeiled
import Derived.Laws.IdiomCopy
import Derived.Laws.OwnMore
import Derived.Laws.Runes
import Derived.Laws.Tables
import Derived.Lib.AppendIntMem
import Derived.Lib.AppendStr
import Derived.Lib.AppendZeros
import Derived.Lib.BufferWrite
import Derived.Lib.ConvBytes
import Derived.Lib.DecodeN
import Derived.Lib.Hide
import Derived.Lib.Index
import Derived.Lib.IndexEntry
import Derived.Lib.ItoaNum
import Derived.Lib.MakeNoZero
import Derived.Lib.ParseIntBCases
import Derived.Lib.SlBytesRow
import Derived.Lib.SmallJoins
import Derived.Maps.AppendAt
import Derived.Maps.Own
import Derived.Maps.OwnOps
import Derived.Maps.OwnSet
import Derived.OrdersHeld
import Derived.Shelf.Bytes.SlSmallAll
import Derived.Shelf.Pu.Lower
import Derived.Shelf.Pu.ToError
import Derived.Shelf.Pu.ToErrorRange
import Derived.Shelf.Spec.DecodeRune
import Derived.Shelf.Unicode.DecodeSlow
import Derived.WalkKit
import Derived.WalkLawsBesides
import Derived.WalkSpells
namespace Go.Proofs.YtgplkpfdbiapaaaGreatDoor
open Go Go.RowKit Go.Joins Go.Shelf Go.Maps

theorem rest_le (bs : List UInt8) : (restL bs).length ≤ bs.length := by
  unfold restL
  have h1 := skip_le bs
  have h2 := drop_le (skipV bs)
  omega
theorem word_le (bs : List UInt8) : (wordL bs).length ≤ bs.length := by
  unfold wordL
  have h1 := skip_le bs
  have h2 := take_len (skipV bs)
  omega
theorem IsSt.fn {W : World} : ∀ {t : VSt} {u : Value}, IsSt W t u → u = .nilFunc ∨ ∃ f a b, u = .func f a b
  | .fin, _, h => Or.inl h
  | .decl, _, h => Or.inr ⟨_, _, _, h⟩
  | .exp _ _, _, ⟨_, _, _, h, _⟩ => Or.inr ⟨_, _, _, h⟩
  | .ign _, _, ⟨_, _, h, _⟩ => Or.inr ⟨_, _, _, h⟩
  | .cod, _, h => Or.inr ⟨_, _, _, h⟩
  | .nam, _, h => Or.inr ⟨_, _, _, h⟩
  | .unt, _, h => Or.inr ⟨_, _, _, h⟩
  | .tim, _, h => Or.inr ⟨_, _, _, h⟩
  | .dmp, _, h => Or.inr ⟨_, _, _, h⟩
/-- 'expect(want, then)'. -/
theorem expect_any (W : World) (x : List UInt8) (t : VSt) (u : Value) (hx : x ≠ []) (hu : IsSt W t u) :
    Calls Tryz.prog 44 #[sv x, u] W fun e w' => ∃ v, e = .returned v ∧ IsSt w' (.exp x t) v ∧ Below W.heap.size W w' := by
  have hb : Below W.heap.size W ((W.alloc (.cells #[sv x] 9)).alloc (.cells #[u] 64)) := ext_trans (ext_alloc _ _) (ext_alloc _ _)
  have hv : IsSt ((W.alloc (.cells #[sv x] 9)).alloc (.cells #[u] 64)) (.exp x t) (.func (.func 67) #[] #[.pointer (some ⟨W.heap.size, 0, none⟩), .pointer (some ⟨W.heap.size + 1, 0, none⟩)]) :=
    ⟨_, _, u, rfl, heap_below (heap_new W _ _ rfl) (ext_alloc _ _), heap_new _ _ _ (by simp), hx, hu.keep (KeepV.below hb)⟩
  have hfn := hu.fn
  clear hu
  unfold sv at hb hv ⊢
  obtain ⟨s, hs⟩ : ∃ s, s = str x := ⟨_, rfl⟩
  rw [← hs] at hb hv ⊢
  have HV := Lib.hid hv
  have HB := Lib.hid hb
  clear hs hv hb
  rcases hfn with rfl | ⟨f, ta, tb, rfl⟩
  · go_enter Tryz.func44, Tryz.ntmps44
    go_wp2
    go_ret
    exact ⟨_, rfl, HV.out, HB.out⟩
  · go_enter Tryz.func44, Tryz.ntmps44
    go_wp2
    go_ret
    exact ⟨_, rfl, HV.out, HB.out⟩
/-- 'ignore(then)'. -/
theorem ignore_any (W : World) (t : VSt) (u : Value) (hu : IsSt W t u) :
    Calls Tryz.prog 47 #[u] W fun e w' => ∃ v, e = .returned v ∧ IsSt w' (.ign t) v ∧ Below W.heap.size W w' := by
  have hb : Below W.heap.size W (W.alloc (.cells #[u] 64)) := ext_alloc _ _
  have hv : IsSt (W.alloc (.cells #[u] 64)) (.ign t) (.func (.func 71) #[] #[.pointer (some ⟨W.heap.size, 0, none⟩)]) :=
    ⟨_, u, rfl, heap_new _ _ _ rfl, hu.keep (KeepV.below hb)⟩
  have hfn := hu.fn
  have HV := Lib.hid hv
  have HB := Lib.hid hb
  clear hu hv hb
  rcases hfn with rfl | ⟨f, ta, tb, rfl⟩
  · go_enter Tryz.func47, Tryz.ntmps47
    go_wp2
    go_ret
    exact ⟨_, rfl, HV.out, HB.out⟩
  · go_enter Tryz.func47, Tryz.ntmps47
    go_wp2
    go_ret
    exact ⟨_, rfl, HV.out, HB.out⟩
set_option maxRecDepth 100000 in
set_option maxHeartbeats 1600000 in
theorem untimed_any (w0 W : World) (G : GapEnv w0) (GN : NumEnv w0) (R : Nat) (nv : Value) (a : Option Addr) (n c M : Nat) (tv vv : Value) (ss : List Slc) (r : VRd) (bs : List UInt8) (h : RdAt w0 R nv W a n c M tv vv ss r bs) (ok : OkV .unt r) (hn : n ≤ 8388608) :
    Calls Tryz.prog 46 #[.pointer (some ⟨R, 0, none⟩)] W (fun e w' => ∃ a n c, MvPost w0 R nv W a n c M (stepV .unt r (wordL bs)) (restL bs) e w') := by
  have hw := word_any w0 G W R nv a n c M tv vv ss r bs h (by omega)
  have hlr := rest_le bs
  have hln := h.sees.lenMap
  have hwb := word_le bs
  obtain ⟨wl, hwl⟩ : ∃ wl, wl = wordL bs := ⟨_, rfl⟩
  unfold WordPost sv at hw
  rw [← hwl] at hw hwb ⊢
  obtain ⟨sp, hsp⟩ : ∃ sp, sp = stepV .unt r wl := ⟨_, rfl⟩
  rw [← hsp]
  have HSP := Lib.hid hsp
  obtain ⟨ws, hws⟩ : ∃ ws, ws = str wl := ⟨_, rfl⟩
  rw [← hws] at hw
  have HWS := Lib.hid hws
  have htl : ws.toList = wl := by rw [hws, ByteArray.toList_eq]; rfl
  have hwn : wl.length ≤ 8388608 := by omega
  have HW := Lib.hid hw
  clear hw h hws hwl hsp hlr hln hwb
  go_enter Tryz.func46, Tryz.ntmps46
  go_wp2_with fail
  refine HW.out.mono ?_
  rintro e w1 ⟨rfl, hk1, a1, n1, c1, h1⟩
  have H1 := Lib.hid h1
  have HK1 := Lib.hid hk1
  clear hk1 h1 HW
  by_cases he : wl = []
  · have HS : Hid (sp = (.fin, r)) := by unfold Hid; rw [HSP.out, he]; rfl
    rw [he] at htl
    clear he
    go_wp2
    go_ret
    exact ⟨a1, n1, c1, _, tv, vv, ss, rfl, by rw [HS.out]; exact rfl, by rw [HS.out]; exact H1.out, HK1.out⟩
  by_cases h_kComment : wl = kComment
  · have HS : Hid (sp = (.ign .unt, r)) := by unfold Hid; rw [HSP.out, h_kComment]; rfl
    rw [h_kComment] at htl
    unfold kComment at htl
    clear h_kComment
    have HF := Lib.hid (ignore_any w1 .unt (.func (.func 46) #[] #[]) rfl)
    clear hwn
    go_wp2_with fail
    refine HF.out.mono ?_
    rintro e w2 ⟨v, rfl, k1, k2⟩
    go_wp2
    go_ret
    exact ⟨a1, n1, c1, v, tv, vv, ss, rfl, by rw [HS.out]; exact k1, by rw [HS.out]; exact H1.out.below k2, HK1.out.trans (KeepV.below k2)⟩
  have n_kComment : (wl == [36, 99, 111, 109, 109, 101, 110, 116]) = false := beq_eq_false_iff_ne.2 h_kComment
  obtain ⟨x, s, hxs⟩ : ∃ x s, wl = x :: s := by
    cases wl with
    | nil => exact absurd rfl he
    | cons x s => exact ⟨x, s, rfl⟩
  have q0 := fun W => run_head x s W
  rw [← hxs, ← HWS.out] at q0
  obtain ⟨xz, hxz⟩ : ∃ xz : Int, xz = (x.toNat : Int) := ⟨_, rfl⟩
  rw [← hxz] at q0
  have hxe : ∀ k : UInt8, (x = k ↔ xz = (k.toNat : Int)) := fun k => by rw [hxz]; exact ⟨fun h => by rw [h], fun h => UInt8.toNat_inj.1 (by omega)⟩
  have hie : wl.isEmpty = false := by rw [hxs]; rfl
  by_cases h35 : x = 35
  · have HS : Hid (sp = timeV r s) := by unfold Hid; rw [HSP.out, stepV, if_neg he, if_neg h_kComment, if_pos (by rw [hxs]; exact h35), hxs]; rfl
    have hx35 : (xz == 35) = true := beq_iff_eq.2 ((hxe 35).1 h35)
    have HF := Lib.hid (time_any w0 w1 GN R nv a1 n1 c1 M tv vv ss r x s (restL bs) H1.out ok.times (by have := hwn; rw [hxs] at this; simp at this; omega))
    rw [← hxs, ← HWS.out] at HF
    clear hwn hxs
    go_wp2_with fail
    refine HF.out.mono ?_
    rintro e w2 ⟨v, tv2, vv2, ss2, rfl, k1, k2, k3⟩
    go_wp2
    go_ret
    exact ⟨a1, n1, c1, v, tv2, vv2, ss2, rfl, by rw [HS.out]; exact k1, by rw [HS.out]; exact k2, HK1.out.trans k3⟩
  have hx35 : (xz == 35) = false := beq_eq_false_iff_ne.2 (fun e => h35 ((hxe 35).2 e))
  have HS : Hid (sp = failV r 5) := by unfold Hid; rw [HSP.out, stepV, if_neg he, if_neg h_kComment, if_neg (by rw [hxs]; exact h35)]
  have HF := Lib.hid (fail_any H1.out 5)
  try clear hxs
  clear hwn
  go_wp2_with fail
  refine HF.out.mono ?_
  rintro e w2 ⟨v, tv2, vv2, ss2, rfl, k1, k2, k3⟩
  go_wp2
  go_ret
  exact ⟨a1, n1, c1, v, tv2, vv2, ss2, rfl, by rw [HS.out]; exact k1, by rw [HS.out]; exact k2, HK1.out.trans k3⟩
set_option maxRecDepth 100000 in
set_option maxHeartbeats 1600000 in
theorem timed_any (w0 W : World) (G : GapEnv w0) (GN : NumEnv w0) (R : Nat) (nv : Value) (a : Option Addr) (n c M : Nat) (tv vv : Value) (ss : List Slc) (r : VRd) (bs : List UInt8) (h : RdAt w0 R nv W a n c M tv vv ss r bs) (ok : OkV .tim r) (hn : n ≤ 8388608) :
    Calls Tryz.prog 99 #[.pointer (some ⟨R, 0, none⟩)] W (fun e w' => ∃ a n c, MvPost w0 R nv W a n c M (stepV .tim r (wordL bs)) (restL bs) e w') := by
  have hw := word_any w0 G W R nv a n c M tv vv ss r bs h (by omega)
  have hlr := rest_le bs
  have hln := h.sees.lenMap
  have hwb := word_le bs
  obtain ⟨wl, hwl⟩ : ∃ wl, wl = wordL bs := ⟨_, rfl⟩
  unfold WordPost sv at hw
  rw [← hwl] at hw hwb ⊢
  obtain ⟨sp, hsp⟩ : ∃ sp, sp = stepV .tim r wl := ⟨_, rfl⟩
  rw [← hsp]
  have HSP := Lib.hid hsp
  obtain ⟨ws, hws⟩ : ∃ ws, ws = str wl := ⟨_, rfl⟩
  rw [← hws] at hw
  have HWS := Lib.hid hws
  have htl : ws.toList = wl := by rw [hws, ByteArray.toList_eq]; rfl
  have hwn : wl.length ≤ 8388608 := by omega
  have HW := Lib.hid hw
  clear hw h hws hwl hsp hlr hln hwb
  go_enter Tryz.func99, Tryz.ntmps99
  go_wp2_with fail
  refine HW.out.mono ?_
  rintro e w1 ⟨rfl, hk1, a1, n1, c1, h1⟩
  have H1 := Lib.hid h1
  have HK1 := Lib.hid hk1
  clear hk1 h1 HW
  by_cases he : wl = []
  · have HS : Hid (sp = (.fin, r)) := by unfold Hid; rw [HSP.out, he]; rfl
    rw [he] at htl
    clear he
    go_wp2
    go_ret
    exact ⟨a1, n1, c1, _, tv, vv, ss, rfl, by rw [HS.out]; exact rfl, by rw [HS.out]; exact H1.out, HK1.out⟩
  by_cases h_kComment : wl = kComment
  · have HS : Hid (sp = (.ign .tim, r)) := by unfold Hid; rw [HSP.out, h_kComment]; rfl
    rw [h_kComment] at htl
    unfold kComment at htl
    clear h_kComment
    have HF := Lib.hid (ignore_any w1 .tim (.func (.func 99) #[] #[]) rfl)
    clear hwn
    go_wp2_with fail
    refine HF.out.mono ?_
    rintro e w2 ⟨v, rfl, k1, k2⟩
    go_wp2
    go_ret
    exact ⟨a1, n1, c1, v, tv, vv, ss, rfl, by rw [HS.out]; exact k1, by rw [HS.out]; exact H1.out.below k2, HK1.out.trans (KeepV.below k2)⟩
  have n_kComment : (wl == [36, 99, 111, 109, 109, 101, 110, 116]) = false := beq_eq_false_iff_ne.2 h_kComment
  by_cases h_kDump : wl = kDump
  · have HS : Hid (sp = (.dmp, r)) := by unfold Hid; rw [HSP.out, h_kDump]; rfl
    rw [h_kDump] at htl
    unfold kDump at htl
    clear h_kDump
    go_wp2
    go_ret
    exact ⟨a1, n1, c1, _, tv, vv, ss, rfl, by rw [HS.out]; exact rfl, by rw [HS.out]; exact H1.out, HK1.out⟩
  have n_kDump : (wl == [36, 100, 117, 109, 112, 118, 97, 114, 115]) = false := beq_eq_false_iff_ne.2 h_kDump
  obtain ⟨x, s, hxs⟩ : ∃ x s, wl = x :: s := by
    cases wl with
    | nil => exact absurd rfl he
    | cons x s => exact ⟨x, s, rfl⟩
  have q0 := fun W => run_head x s W
  rw [← hxs, ← HWS.out] at q0
  obtain ⟨xz, hxz⟩ : ∃ xz : Int, xz = (x.toNat : Int) := ⟨_, rfl⟩
  rw [← hxz] at q0
  have hxe : ∀ k : UInt8, (x = k ↔ xz = (k.toNat : Int)) := fun k => by rw [hxz]; exact ⟨fun h => by rw [h], fun h => UInt8.toNat_inj.1 (by omega)⟩
  have hie : wl.isEmpty = false := by rw [hxs]; rfl
  by_cases h35 : x = 35
  · have HS : Hid (sp = timeV r s) := by unfold Hid; rw [HSP.out, stepV, if_neg he, if_neg h_kComment, if_neg h_kDump, if_pos (by rw [hxs]; exact h35), hxs]; rfl
    have hx35 : (xz == 35) = true := beq_iff_eq.2 ((hxe 35).1 h35)
    have HF := Lib.hid (time_any w0 w1 GN R nv a1 n1 c1 M tv vv ss r x s (restL bs) H1.out ok.times (by have := hwn; rw [hxs] at this; simp at this; omega))
    rw [← hxs, ← HWS.out] at HF
    clear hwn hxs
    go_wp2_with fail
    refine HF.out.mono ?_
    rintro e w2 ⟨v, tv2, vv2, ss2, rfl, k1, k2, k3⟩
    go_wp2
    go_ret
    exact ⟨a1, n1, c1, v, tv2, vv2, ss2, rfl, by rw [HS.out]; exact k1, by rw [HS.out]; exact k2, HK1.out.trans k3⟩
  have hx35 : (xz == 35) = false := beq_eq_false_iff_ne.2 (fun e => h35 ((hxe 35).2 e))
  have HS : Hid (sp = changeV r wl .tim) := by unfold Hid; rw [HSP.out, stepV, if_neg he, if_neg h_kComment, if_neg h_kDump, if_neg (by rw [hxs]; exact h35)]
  have HF := Lib.hid (change_any w0 w1 R nv a1 n1 c1 M tv vv ss r x s (restL bs) .tim (.func (.func 99) #[] #[]) H1.out rfl ok rfl rfl rfl (by have := hwn; rw [hxs] at this; simp at this; omega))
  rw [← hxs, ← HWS.out] at HF
  clear hwn hxs
  go_wp2_with fail
  refine HF.out.mono ?_
  rintro e w2 ⟨v, tv2, vv2, ss2, rfl, k1, k2, k3⟩
  go_wp2
  go_ret
  exact ⟨a1, n1, c1, v, tv2, vv2, ss2, rfl, by rw [HS.out]; exact k1, by rw [HS.out]; exact k2, HK1.out.trans k3⟩
set_option maxRecDepth 100000 in
set_option maxHeartbeats 1600000 in
theorem dumped_any (w0 W : World) (G : GapEnv w0) (_GN : NumEnv w0) (R : Nat) (nv : Value) (a : Option Addr) (n c M : Nat) (tv vv : Value) (ss : List Slc) (r : VRd) (bs : List UInt8) (h : RdAt w0 R nv W a n c M tv vv ss r bs) (ok : OkV .dmp r) (hn : n ≤ 8388608) :
    Calls Tryz.prog 119 #[.pointer (some ⟨R, 0, none⟩)] W (fun e w' => ∃ a n c, MvPost w0 R nv W a n c M (stepV .dmp r (wordL bs)) (restL bs) e w') := by
  have hw := word_any w0 G W R nv a n c M tv vv ss r bs h (by omega)
  have hlr := rest_le bs
  have hln := h.sees.lenMap
  have hwb := word_le bs
  obtain ⟨wl, hwl⟩ : ∃ wl, wl = wordL bs := ⟨_, rfl⟩
  unfold WordPost sv at hw
  rw [← hwl] at hw hwb ⊢
  obtain ⟨sp, hsp⟩ : ∃ sp, sp = stepV .dmp r wl := ⟨_, rfl⟩
  rw [← hsp]
  have HSP := Lib.hid hsp
  obtain ⟨ws, hws⟩ : ∃ ws, ws = str wl := ⟨_, rfl⟩
  rw [← hws] at hw
  have HWS := Lib.hid hws
  have htl : ws.toList = wl := by rw [hws, ByteArray.toList_eq]; rfl
  have hwn : wl.length ≤ 8388608 := by omega
  have HW := Lib.hid hw
  clear hw h hws hwl hsp hlr hln hwb
  go_enter Tryz.func119, Tryz.ntmps119
  go_wp2_with fail
  refine HW.out.mono ?_
  rintro e w1 ⟨rfl, hk1, a1, n1, c1, h1⟩
  have H1 := Lib.hid h1
  have HK1 := Lib.hid hk1
  clear hk1 h1 HW
  by_cases he : wl = []
  · have HS : Hid (sp = failV r 4) := by unfold Hid; rw [HSP.out, he]; rfl
    rw [he] at htl
    clear he
    have HF := Lib.hid (fail_any H1.out 4)
    try clear hxs
    clear hwn
    go_wp2_with fail
    refine HF.out.mono ?_
    rintro e w2 ⟨v, tv2, vv2, ss2, rfl, k1, k2, k3⟩
    go_wp2
    go_ret
    exact ⟨a1, n1, c1, v, tv2, vv2, ss2, rfl, by rw [HS.out]; exact k1, by rw [HS.out]; exact k2, HK1.out.trans k3⟩
  by_cases h_kComment : wl = kComment
  · have HS : Hid (sp = (.ign .dmp, r)) := by unfold Hid; rw [HSP.out, h_kComment]; rfl
    rw [h_kComment] at htl
    unfold kComment at htl
    clear h_kComment
    have HF := Lib.hid (ignore_any w1 .dmp (.func (.func 119) #[] #[]) rfl)
    clear hwn
    go_wp2_with fail
    refine HF.out.mono ?_
    rintro e w2 ⟨v, rfl, k1, k2⟩
    go_wp2
    go_ret
    exact ⟨a1, n1, c1, v, tv, vv, ss, rfl, by rw [HS.out]; exact k1, by rw [HS.out]; exact H1.out.below k2, HK1.out.trans (KeepV.below k2)⟩
  have n_kComment : (wl == [36, 99, 111, 109, 109, 101, 110, 116]) = false := beq_eq_false_iff_ne.2 h_kComment
  by_cases h_kEnd : wl = kEnd
  · have HS : Hid (sp = (.tim, r)) := by unfold Hid; rw [HSP.out, h_kEnd]; rfl
    rw [h_kEnd] at htl
    unfold kEnd at htl
    clear h_kEnd
    go_wp2
    go_ret
    exact ⟨a1, n1, c1, _, tv, vv, ss, rfl, by rw [HS.out]; exact rfl, by rw [HS.out]; exact H1.out, HK1.out⟩
  have n_kEnd : (wl == [36, 101, 110, 100]) = false := beq_eq_false_iff_ne.2 h_kEnd
  obtain ⟨x, s, hxs⟩ : ∃ x s, wl = x :: s := by
    cases wl with
    | nil => exact absurd rfl he
    | cons x s => exact ⟨x, s, rfl⟩
  have q0 := fun W => run_head x s W
  rw [← hxs, ← HWS.out] at q0
  obtain ⟨xz, hxz⟩ : ∃ xz : Int, xz = (x.toNat : Int) := ⟨_, rfl⟩
  rw [← hxz] at q0
  have hxe : ∀ k : UInt8, (x = k ↔ xz = (k.toNat : Int)) := fun k => by rw [hxz]; exact ⟨fun h => by rw [h], fun h => UInt8.toNat_inj.1 (by omega)⟩
  have hie : wl.isEmpty = false := by rw [hxs]; rfl
  have HS : Hid (sp = changeV r wl .dmp) := by unfold Hid; rw [HSP.out, stepV, if_neg he, if_neg h_kComment, if_neg h_kEnd]
  have HF := Lib.hid (change_any w0 w1 R nv a1 n1 c1 M tv vv ss r x s (restL bs) .dmp (.func (.func 119) #[] #[]) H1.out rfl ok rfl rfl rfl (by have := hwn; rw [hxs] at this; simp at this; omega))
  rw [← hxs, ← HWS.out] at HF
  clear hwn hxs
  go_wp2_with fail
  refine HF.out.mono ?_
  rintro e w2 ⟨v, tv2, vv2, ss2, rfl, k1, k2, k3⟩
  go_wp2
  go_ret
  exact ⟨a1, n1, c1, v, tv2, vv2, ss2, rfl, by rw [HS.out]; exact k1, by rw [HS.out]; exact k2, HK1.out.trans k3⟩
end Go.Proofs.YtgplkpfdbiapaaaGreatDoor
