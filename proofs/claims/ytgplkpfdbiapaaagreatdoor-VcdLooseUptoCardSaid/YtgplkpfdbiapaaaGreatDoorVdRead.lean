/- vcd.Read, by its contract. -/
import Derived.Test.YtgplkpfdbiapaaaGreatDoorLib
import Derived.Test.YtgplkpfdbiapaaaGreatDoorOwn
import Derived.Test.YtgplkpfdbiapaaaGreatDoorNBase
import Derived.Test.YtgplkpfdbiapaaaGreatDoorGA1
import Derived.Test.YtgplkpfdbiapaaaGreatDoorGA3
import Derived.Test.YtgplkpfdbiapaaaGreatDoorNHeap
import Derived.Test.YtgplkpfdbiapaaaGreatDoorVdSpec
import Derived.Test.YtgplkpfdbiapaaaGreatDoorGG
import Derived.Test.YtgplkpfdbiapaaaGreatDoorVdHold
import Derived.Test.YtgplkpfdbiapaaaGreatDoorGK
import Derived.Test.YtgplkpfdbiapaaaGreatDoorVdSt1
import Derived.Test.YtgplkpfdbiapaaaGreatDoorGL
import Derived.Test.YtgplkpfdbiapaaaGreatDoorRows
import Derived.Test.YtgplkpfdbiapaaaGreatDoorShelf
import Derived.Test.YtgplkpfdbiapaaaGreatDoorShelf2
import Derived.BigQuiet
import Derived.Deep.AppendLies
import Derived.Deep.CutRange
import Derived.Deep.QuietTactic
import Derived.Deep.RegionHeld3
import Derived.Deep.RegionLaw
import Derived.Deep.RegionWith
import Derived.KernelRfl
import Derived.Laws.CopyOwn
import Derived.Laws.EntriesVeiled
import Derived.Laws.IdiomCopy
import Derived.Laws.OwnMore
import Derived.Laws.Runes
import Derived.Laws.Tables
import Derived.Lib.AppendIntMem
import Derived.Lib.AppendStr
import Derived.Lib.AppendZeros
import Derived.Lib.BufferWrite
import Derived.Lib.ConvBytes
import Derived.Lib.DecodeN
import Derived.Lib.Hide
import Derived.Lib.Index
import Derived.Lib.IndexEntry
import Derived.Lib.ItoaNum
import Derived.Lib.MakeNoZero
import Derived.Lib.ParseIntBCases
import Derived.Lib.SlBytesRow
import Derived.Lib.SmallJoins
import Derived.Maps.AppendAt
import Derived.Maps.Own
import Derived.Maps.OwnOps
import Derived.Maps.OwnSet
import Derived.OrdersHeld
import Derived.Shelf.Bytes.SlSmallAll
import Derived.Shelf.Pu.Lower
import Derived.Shelf.Pu.ToError
import Derived.Shelf.Pu.ToErrorRange
import Derived.Shelf.Spec.DecodeRune
import Derived.Shelf.Unicode.DecodeSlow
import Derived.WalkKit
import Derived.WalkLawsBesides
import Derived.WalkSpells
namespace Go.Proofs.YtgplkpfdbiapaaaGreatDoor
open Go Go.RowKit Go.Joins Go.Shelf Go.Maps

/-- The next state is kept. -/
theorem RdAt.next {w0 W : World} {R : Nat} {nv : Value} {a : Option Addr} {n c M : Nat} {tv vv : Value} {ss : List Slc} {r : VRd} {bs : List UInt8} (h : RdAt w0 R nv W a n c M tv vv ss r bs) (v : Value) :
    RdAt w0 R v (W.setCell ⟨R, 1, .none⟩ v) a n c M tv vv ss r bs ∧ KeepV W (W.setCell ⟨R, 1, .none⟩ v) := by
  have hf := h.cs.field (k := 1) (x := v) h.box h.hR
  have hb := block_setCell h.box (i := 1) v
  exact ⟨⟨by simpa using hb, h.hR, h.sees, h.cap, hf.1⟩, hf.2⟩
def rdB (a : Option Addr) (n c H : Nat) : Array Value := #[.slice a n c, .func (.func 24) #[] #[], .map (some H), .slice none 0 0, .slice none 0 0, .int .i64 0]
def holdK (r : VRd) : Nat → VRd
  | 0 => r
  | k + 1 => holdV (holdK r k) k
theorem holdK_times (r : VRd) : ∀ k, (holdK r k).times = r.times
  | 0 => rfl
  | k + 1 => holdK_times r k
theorem holdK_len (r : VRd) : ∀ k, (holdK r k).wav.length = r.wav.length
  | 0 => rfl
  | k + 1 => by rw [holdK]; unfold holdV; simp [holdK_len r k]
theorem holdK_late (r : VRd) : ∀ (k i : Nat), k ≤ i → (holdK r k).wav.getD i ([], []) = r.wav.getD i ([], [])
  | 0, _, _ => rfl
  | k + 1, i, h => by
    rw [holdK]
    unfold holdV
    simp only [List.getD, List.getElem?_set]
    rw [if_neg (by omega)]
    exact holdK_late r k i (by omega)
theorem holdK_early (r : VRd) : ∀ (k i : Nat), i < k → k ≤ r.wav.length → (holdK r k).wav.getD i ([], []) = ((r.wav.getD i ([], [])).1, holdL r.times.length (r.wav.getD i ([], [])).2)
  | 0, _, h, _ => by omega
  | k + 1, i, h, hk => by
    rw [holdK]
    unfold holdV
    by_cases e : k = i
    · subst e
      have hlt : k < (holdK r k).wav.length := by rw [holdK_len]; omega
      simp only [List.getD, List.getElem?_set_self hlt, Option.getD_some]
      have := holdK_late r k k (Nat.le_refl _)
      simp only [List.getD] at this
      rw [this, holdK_times]
    · simp only [List.getD, List.getElem?_set]
      rw [if_neg e]
      exact holdK_early r k i (by omega) (by omega)
theorem holdK_all (r : VRd) : (holdK r r.wav.length).wav = r.wav.map (fun p => (p.1, holdL r.times.length p.2)) := by
  apply List.ext_getElem
  · rw [holdK_len, List.length_map]
  · intro i h1 h2
    rw [holdK_len] at h1
    have := holdK_early r r.wav.length i h1 (Nat.le_refl _)
    simp only [List.getD] at this
    rw [List.getElem?_eq_getElem (by rw [holdK_len]; exact h1), List.getElem?_eq_getElem h1] at this
    simpa using this
theorem neq_fn (f : Fn) (a b : Array Value) (W : World) : (binOp BinOp.neq 64 (.func f a b) .nilFunc).run Tryz.prog W = .ok (.bool true) W := by kernel_rfl
theorem neq_nil (W : World) : (binOp BinOp.neq 64 .nilFunc .nilFunc).run Tryz.prog W = .ok (.bool false) W := by kernel_rfl
/-- The reader as it is made. -/
theorem RdAt.start (w0 : World) (a : Option Addr) (n c : Nat) (bs : List UInt8) (h : Sees w0 a n c (bs.map bv)) (hc : c ≤ maxLen) :
    RdAt w0 (w0.heap.size + 1) (.func (.func 24) #[] #[]) ((w0.alloc (.map #[] 0)).alloc (.cells (rdB a n c w0.heap.size) 66)) a n c w0.heap.size (.slice none 0 0) (.slice none 0 0) [] r0V bs := by
  have hb : Below w0.heap.size w0 ((w0.alloc (.map #[] 0)).alloc (.cells (rdB a n c w0.heap.size) 66)) := ext_trans (ext_alloc _ _) (ext_alloc _ _)
  have hm : IsIdx (w0.alloc (.map #[] 0)) w0.heap.size [] := World.ownsMap_made _ _ _ _
  refine ⟨heap_new _ _ _ (by simp), by omega, h, hc, ⟨hb, Nat.le_refl _, ?_, Row.nil _ _ _ _, OwnW.nil _ _⟩⟩
  obtain ⟨es, cl, h1, h2⟩ := hm
  exact ⟨es, cl, heap_below h1 (ext_alloc _ _), h2⟩
/-- What Read answers, and what it leaves. -/
def ReadPost (bs : List UInt8) (W : World) (e : Ending) (w' : World) : Prop :=
  Below W.heap.size W w' ∧ ∃ tv vv ss, e = .returned (.tuple #[tv, vv, .int .i64 ((readV bs).2.2 : Int)]) ∧ Row isU32 w' W.heap.size 42 tv (readV bs).1.length ((readV bs).1.map nv32) ∧ OwnW w' W.heap.size vv ss (readV bs).2.1
def LoopR (w0 : World) (M R : Nat) (bs : List UInt8) (g : Nat) (wr : World) : Prop :=
  ∃ (v : Value) (s : VSt) (r : VRd) (bk : List UInt8) (a : Option Addr) (n c : Nat) (tv vv : Value) (ss : List Slc), (finV s = true ∨ bk.length ≤ bs.length) ∧ (if finV s = true then 0 else bk.length + 1) ≤ g ∧ RdAt w0 R v wr a n c M tv vv ss r bk ∧ IsSt wr s v ∧ Hid (OkV s r) ∧ Hid (outV .decl r0V bs = outV s r bk)
set_option maxRecDepth 100000 in
set_option maxHeartbeats 3200000 in
theorem read_any (w0 : World) (G : GapEnv w0) (GN : NumEnv w0) (bs : List UInt8) (a : Option Addr) (n c : Nat) (h : Sees w0 a n c (bs.map bv)) (hc : c ≤ maxLen) :
    Calls Tryz.prog 9 #[.slice a n c] w0 (ReadPost bs w0) := by
  have hmm := @run_makeMap Tryz.prog
  have hl := h.lenMap
  by_cases hbig : 8388608 < n
  · have hr : readV bs = ([], [], 3) := by unfold readV; rw [if_pos (by omega)]
    have hbz : (8388608 : Int) < (n : Int) := by omega
    have HR : Hid (ReadPost bs w0 (.returned (.tuple #[.slice none 0 0, .slice none 0 0, .int .i64 3])) w0) := by
      refine ⟨Below.refl _ _, _, _, [], by rw [hr]; rfl, ?_, ?_⟩
      · rw [hr]; exact Row.nil _ _ _ _
      · rw [hr]; exact OwnW.nil _ _
    clear h hc hr hbig
    go_enter Tryz.func9, Tryz.ntmps9
    go_wp2
    go_ret3
    exact HR.out
  · have hbz : ¬ ((8388608 : Int) < (n : Int)) := by omega
    have hst := RdAt.start w0 a n c bs h hc
    have HL := Lib.hid hl
    unfold rdB at hst
    have HS := Lib.hid hst
    clear h hst hl
    go_enter Tryz.func9, Tryz.ntmps9
    go_wp2
    obtain ⟨R, hRR⟩ : ∃ R, R = w0.heap.size + 1 := ⟨_, rfl⟩
    rw [← hRR] at HS ⊢
    clear hRR
    have hs0 : LoopR w0 w0.heap.size R bs (bs.length + 1) ((w0.alloc (.map #[] 0)).alloc (.cells #[.slice a n c, .func (.func 24) #[] #[], .map (some w0.heap.size), .slice none 0 0, .slice none 0 0, .int .i64 0] 66)) :=
      ⟨_, .decl, r0V, bs, a, n, c, _, _, _, Or.inr (Nat.le_refl _), Nat.le_refl _, HS.out, rfl, ok_start, rfl⟩
    have HS0 := Lib.hid hs0
    obtain ⟨M, hM⟩ : ∃ M, M = w0.heap.size := ⟨_, rfl⟩
    rw [← hM] at HS0
    have hbl : bs.length ≤ 8388608 := by have := HL.out; omega
    clear hs0 HS hbz
    go_loopg [18] (bs.length + 1) (fun g _ wr => LoopR w0 M R bs g wr)
    case atStart => rw [hM]; rw [hM] at HS0; exact HS0.out
    case round =>
      obtain ⟨v, s, r, bk, a2, n2, c2, tv, vv, ss, hle, hg, hR, hst, hok, hO⟩ := hrel
      have c1 := cell_of_block hR.box 1
      cases s with
      | fin =>
        have hv : v = .nilFunc := hst
        subst hv
        have HR := Lib.hid hR
        have HOK := Lib.hid hok.out
        have HO := Lib.hid hO.out
        have c5 := cell_of_block hR.box 5
        have hout : outV .decl r0V bs = r := hO.out
        have hrd : readV bs = if r.e ≠ 0 then ([], [], r.e) else (r.times, r.wav.map (fun p => (p.1, holdL r.times.length p.2)), 0) := by
          unfold readV
          rw [if_neg (by have := HL.out; omega), hout]
        have HRD := Lib.hid hrd
        have nq := neq_nil
        by_cases he : r.e = 0
        · have h2 : readV bs = (r.times, r.wav.map (fun p => (p.1, holdL r.times.length p.2)), 0) := by rw [hrd, if_neg (by simpa using he)]
          have H2 := Lib.hid h2
          have hR0 := hR
          obtain ⟨va, vc, rfl⟩ := ownsN_form hR.cs.wavs.row
          have c4 := cell_of_block hR.box 4
          obtain ⟨N, hN⟩ : ∃ N, N = r.wav.length := ⟨_, rfl⟩
          replace c4 : wr.cell? ⟨R, 4, none⟩ = some (.slice va N vc) := by rw [hN]; exact c4
          rw [he] at c5
          have hmany := hok.out.many
          have HNN := Lib.hid hN
          have hN2 : N ≤ 32768 := by omega
          clear hR hst hok hO hle hg hout hrd h2 hR0 he hmany hN HRD
          go_wp2
          go_loopg [28, 6] N (fun g i _ wq => ∃ (k : Nat) (ss : List Slc), k + g = N ∧ i = .int .i64 k ∧ Hid (RdAt w0 R .nilFunc wq a2 n2 c2 M tv (.slice va r.wav.length vc) ss (holdK r k) bk))
          case atStart => exact ⟨0, ss, by omega, rfl, HR⟩
          case round =>
            obtain ⟨k, ss3, hk, rfl, hR3⟩ := hrel
            have HR3 := Lib.hid hR3.out
            clear hR3
            cases gk with
            | zero =>
              obtain rfl : k = N := by omega
              obtain ⟨ta, tc, rfl⟩ := HR3.out.cs.times.form
              have c3 := cell_of_block HR3.out.box 3
              have c4 := cell_of_block HR3.out.box 4
              have HEND : Hid (∀ nn, ReadPost bs w0 (.returned (.tuple #[.slice ta (holdK r k).times.length tc, .slice va r.wav.length vc, .int .i64 0])) (wr.drewN nn)) := by
                intro nn
                have h3 := HR3.out.below (ext_drewN wr nn)
                refine ⟨h3.cs.low, _, _, ss3, by rw [H2.out]; rfl, ?_, ?_⟩
                · rw [H2.out]
                  have := h3.cs.times
                  rw [holdK_times] at this ⊢
                  exact this
                · rw [H2.out]
                  have := h3.cs.wavs
                  rw [HNN.out, holdK_all] at this
                  exact this
              go_upto_region 13 with fail
              go_quiet (fail)
              go_wp2
              go_ret3
              exact HEND.out _
            | succ g =>
              have hkN : k < N := by omega
              have hkz : (k : Int) < (N : Int) := by omega
              have hwl := holdK_len r k
              have hok3 := HOK.out
              have hho := hold_any w0 wr R .nilFunc a2 n2 c2 M tv (.slice va r.wav.length vc) ss3 (holdK r k) k bk HR3.out (by rw [hwl, ← HNN.out]; exact hkN) (by rw [holdK_times]; exact hok3.times) (by
                rw [holdK_times, holdK_late r k k (Nat.le_refl _)]
                exact getD_all (P := fun p : List UInt8 × List UInt8 => p.2.length ≤ r.times.length) hok3.vals (by rw [← HNN.out]; exact hkN)) (by rw [hwl]; exact hok3.many)
              have HHO := Lib.hid hho
              clear hho hok3
              have W1 : IntKind.i64.wrap ((k : Int) + 1) = ((k + 1 : Nat) : Int) := by rw [IntWalk.i64_in _ (by omega)]; omega
              go_wp2_with fail
              refine HHO.out.mono ?_
              rintro e w5 ⟨rfl, k1, ss5, k2⟩
              go_wp2
              go_roundg g
              case measure => omega
              case rel => exact ⟨k + 1, ss5, by omega, rfl, k2⟩
        · have h2 : readV bs = ([], [], r.e) := by rw [hrd, if_pos (by simpa using he)]
          have hez : ((r.e : Int) != 0) = true := by simpa using he
          have hez2 : ¬ ((r.e : Int) = 0) := by omega
          obtain ⟨ez, hezq⟩ : ∃ ez : Int, ez = (r.e : Int) := ⟨_, rfl⟩
          replace c5 : wr.cell? ⟨R, 5, none⟩ = some (.int .i64 ez) := by rw [hezq]; exact c5
          rw [← hezq] at hez hez2
          have HEND : Hid (∀ nn, ReadPost bs w0 (.returned (.tuple #[.slice none 0 0, .slice none 0 0, .int .i64 ez])) (wr.drewN nn)) := by
            intro nn
            refine ⟨(HR.out.below (ext_drewN wr nn)).cs.low, _, _, [], by rw [h2, hezq], ?_, ?_⟩
            · rw [h2]; exact Row.nil _ _ _ _
            · rw [h2]; exact OwnW.nil _ _
          clear hR hst hok hO hle hg hout hrd h2 he hezq
          go_upto_region 7 with fail
          go_quiet (fail)
          go_wp2
          go_ret3
          exact HEND.out _
      | decl =>
        have hle : bk.length ≤ bs.length := by exact hle.resolve_left (fun h => by cases h)
        have hbk : n2 ≤ 8388608 := by have := hR.sees.lenMap; omega
        have hg : bk.length + 1 ≤ gk := hg
        have hc := (declarations_any w0 wr G GN R v a2 n2 c2 M tv vv ss r bk hR hok.out hbk).mono (fun e w' h => StPost.of rfl hok.out h)
        have hv : v = .func (.func 24) #[] #[] := hst
        subst hv
        have HC := Lib.hid hc
        have nq := fun f a b W => neq_fn f a b W
        clear hc
        have HO := Lib.hid hO.out
        have HOK := Lib.hid hok.out
        clear hR hok hO
        go_wp2_with fail
        refine HC.out.mono ?_
        rintro e w1 ⟨v3, s3, r3, bs3, a3, n3, c3, tv3, vv3, ss3, rfl, k1, k2, k3, k4, k5, k6⟩
        clear c1
        have c1 := cell_of_block k2.box 1
        have f1 := unfrozen_of_block k2.box 1
        have HN := Lib.hid (k2.next v3)
        have HST := Lib.hid k1
        have HO3 := Lib.hid (HO.out.trans k4)
        have HK3 := Lib.hid k3
        have hfn := k1.fn
        have hle3 : finV s3 = true ∨ bs3.length ≤ bs.length := by
          rcases k5 with h | h
          · exact Or.inl h
          · right; omega
        have hlen : (if finV s3 = true then 0 else bs3.length + 1) < gk := by
          rcases k5 with h | h
          · rw [if_pos h]; omega
          · split <;> omega
        clear k1 k2 k3 k4 k6 HC HO HOK
        rcases hfn with rfl | ⟨f, ta, tb, rfl⟩
        · go_wp2
          go_roundg (if finV s3 = true then 0 else bs3.length + 1)
          case measure => omega
          case rel => exact ⟨_, s3, r3, bs3, a3, n3, c3, tv3, vv3, ss3, hle3, Nat.le_refl _, HN.out.1, HST.out.keep HN.out.2, HK3, HO3⟩
        · go_wp2
          go_roundg (if finV s3 = true then 0 else bs3.length + 1)
          case measure => omega
          case rel => exact ⟨_, s3, r3, bs3, a3, n3, c3, tv3, vv3, ss3, hle3, Nat.le_refl _, HN.out.1, HST.out.keep HN.out.2, HK3, HO3⟩
      | exp x t =>
        have hle : bk.length ≤ bs.length := by exact hle.resolve_left (fun h => by cases h)
        have hbk : n2 ≤ 8388608 := by have := hR.sees.lenMap; omega
        have hg : bk.length + 1 ≤ gk := hg
        obtain ⟨b1, b2, u, rfl, hb1, hb2, hx, hu⟩ := hst
        have hc := (exp1_any w0 wr G R _ a2 n2 c2 M tv vv ss r bk hR hbk x t b1 b2 u hb1 hb2 hx hu).mono (fun e w' h => StPost.of rfl hok.out h)
        clear hb1 hb2 hx hu
        have HC := Lib.hid hc
        have nq := fun f a b W => neq_fn f a b W
        clear hc
        have HO := Lib.hid hO.out
        have HOK := Lib.hid hok.out
        clear hR hok hO
        go_wp2_with fail
        refine HC.out.mono ?_
        rintro e w1 ⟨v3, s3, r3, bs3, a3, n3, c3, tv3, vv3, ss3, rfl, k1, k2, k3, k4, k5, k6⟩
        clear c1
        have c1 := cell_of_block k2.box 1
        have f1 := unfrozen_of_block k2.box 1
        have HN := Lib.hid (k2.next v3)
        have HST := Lib.hid k1
        have HO3 := Lib.hid (HO.out.trans k4)
        have HK3 := Lib.hid k3
        have hfn := k1.fn
        have hle3 : finV s3 = true ∨ bs3.length ≤ bs.length := by
          rcases k5 with h | h
          · exact Or.inl h
          · right; omega
        have hlen : (if finV s3 = true then 0 else bs3.length + 1) < gk := by
          rcases k5 with h | h
          · rw [if_pos h]; omega
          · split <;> omega
        clear k1 k2 k3 k4 k6 HC HO HOK
        rcases hfn with rfl | ⟨f, ta, tb, rfl⟩
        · go_wp2
          go_roundg (if finV s3 = true then 0 else bs3.length + 1)
          case measure => omega
          case rel => exact ⟨_, s3, r3, bs3, a3, n3, c3, tv3, vv3, ss3, hle3, Nat.le_refl _, HN.out.1, HST.out.keep HN.out.2, HK3, HO3⟩
        · go_wp2
          go_roundg (if finV s3 = true then 0 else bs3.length + 1)
          case measure => omega
          case rel => exact ⟨_, s3, r3, bs3, a3, n3, c3, tv3, vv3, ss3, hle3, Nat.le_refl _, HN.out.1, HST.out.keep HN.out.2, HK3, HO3⟩
      | ign t =>
        have hle : bk.length ≤ bs.length := by exact hle.resolve_left (fun h => by cases h)
        have hbk : n2 ≤ 8388608 := by have := hR.sees.lenMap; omega
        have hg : bk.length + 1 ≤ gk := hg
        obtain ⟨b1, u, rfl, hb1, hu⟩ := hst
        have hc := ign1_any w0 wr G R _ a2 n2 c2 M tv vv ss r bk hR hbk t b1 u hb1 hu hok.out
        clear hb1 hu
        have HC := Lib.hid hc
        have nq := fun f a b W => neq_fn f a b W
        clear hc
        have HO := Lib.hid hO.out
        have HOK := Lib.hid hok.out
        clear hR hok hO
        go_wp2_with fail
        refine HC.out.mono ?_
        rintro e w1 ⟨v3, s3, r3, bs3, a3, n3, c3, tv3, vv3, ss3, rfl, k1, k2, k3, k4, k5, k6⟩
        clear c1
        have c1 := cell_of_block k2.box 1
        have f1 := unfrozen_of_block k2.box 1
        have HN := Lib.hid (k2.next v3)
        have HST := Lib.hid k1
        have HO3 := Lib.hid (HO.out.trans k4)
        have HK3 := Lib.hid k3
        have hfn := k1.fn
        have hle3 : finV s3 = true ∨ bs3.length ≤ bs.length := by
          rcases k5 with h | h
          · exact Or.inl h
          · right; omega
        have hlen : (if finV s3 = true then 0 else bs3.length + 1) < gk := by
          rcases k5 with h | h
          · rw [if_pos h]; omega
          · split <;> omega
        clear k1 k2 k3 k4 k6 HC HO HOK
        rcases hfn with rfl | ⟨f, ta, tb, rfl⟩
        · go_wp2
          go_roundg (if finV s3 = true then 0 else bs3.length + 1)
          case measure => omega
          case rel => exact ⟨_, s3, r3, bs3, a3, n3, c3, tv3, vv3, ss3, hle3, Nat.le_refl _, HN.out.1, HST.out.keep HN.out.2, HK3, HO3⟩
        · go_wp2
          go_roundg (if finV s3 = true then 0 else bs3.length + 1)
          case measure => omega
          case rel => exact ⟨_, s3, r3, bs3, a3, n3, c3, tv3, vv3, ss3, hle3, Nat.le_refl _, HN.out.1, HST.out.keep HN.out.2, HK3, HO3⟩
      | cod =>
        have hle : bk.length ≤ bs.length := by exact hle.resolve_left (fun h => by cases h)
        have hbk : n2 ≤ 8388608 := by have := hR.sees.lenMap; omega
        have hg : bk.length + 1 ≤ gk := hg
        have hc := (code_any w0 wr G GN R v a2 n2 c2 M tv vv ss r bk hR hok.out hbk).mono (fun e w' h => StPost.of rfl hok.out h)
        have hv : v = .func (.func 45) #[] #[] := hst
        subst hv
        have HC := Lib.hid hc
        have nq := fun f a b W => neq_fn f a b W
        clear hc
        have HO := Lib.hid hO.out
        have HOK := Lib.hid hok.out
        clear hR hok hO
        go_wp2_with fail
        refine HC.out.mono ?_
        rintro e w1 ⟨v3, s3, r3, bs3, a3, n3, c3, tv3, vv3, ss3, rfl, k1, k2, k3, k4, k5, k6⟩
        clear c1
        have c1 := cell_of_block k2.box 1
        have f1 := unfrozen_of_block k2.box 1
        have HN := Lib.hid (k2.next v3)
        have HST := Lib.hid k1
        have HO3 := Lib.hid (HO.out.trans k4)
        have HK3 := Lib.hid k3
        have hfn := k1.fn
        have hle3 : finV s3 = true ∨ bs3.length ≤ bs.length := by
          rcases k5 with h | h
          · exact Or.inl h
          · right; omega
        have hlen : (if finV s3 = true then 0 else bs3.length + 1) < gk := by
          rcases k5 with h | h
          · rw [if_pos h]; omega
          · split <;> omega
        clear k1 k2 k3 k4 k6 HC HO HOK
        rcases hfn with rfl | ⟨f, ta, tb, rfl⟩
        · go_wp2
          go_roundg (if finV s3 = true then 0 else bs3.length + 1)
          case measure => omega
          case rel => exact ⟨_, s3, r3, bs3, a3, n3, c3, tv3, vv3, ss3, hle3, Nat.le_refl _, HN.out.1, HST.out.keep HN.out.2, HK3, HO3⟩
        · go_wp2
          go_roundg (if finV s3 = true then 0 else bs3.length + 1)
          case measure => omega
          case rel => exact ⟨_, s3, r3, bs3, a3, n3, c3, tv3, vv3, ss3, hle3, Nat.le_refl _, HN.out.1, HST.out.keep HN.out.2, HK3, HO3⟩
      | nam =>
        have hle : bk.length ≤ bs.length := by exact hle.resolve_left (fun h => by cases h)
        have hbk : n2 ≤ 8388608 := by have := hR.sees.lenMap; omega
        have hg : bk.length + 1 ≤ gk := hg
        have hc := (name_any w0 wr G GN R v a2 n2 c2 M tv vv ss r bk hR hok.out hbk).mono (fun e w' h => StPost.of rfl hok.out h)
        have hv : v = .func (.func 69) #[] #[] := hst
        subst hv
        have HC := Lib.hid hc
        have nq := fun f a b W => neq_fn f a b W
        clear hc
        have HO := Lib.hid hO.out
        have HOK := Lib.hid hok.out
        clear hR hok hO
        go_wp2_with fail
        refine HC.out.mono ?_
        rintro e w1 ⟨v3, s3, r3, bs3, a3, n3, c3, tv3, vv3, ss3, rfl, k1, k2, k3, k4, k5, k6⟩
        clear c1
        have c1 := cell_of_block k2.box 1
        have f1 := unfrozen_of_block k2.box 1
        have HN := Lib.hid (k2.next v3)
        have HST := Lib.hid k1
        have HO3 := Lib.hid (HO.out.trans k4)
        have HK3 := Lib.hid k3
        have hfn := k1.fn
        have hle3 : finV s3 = true ∨ bs3.length ≤ bs.length := by
          rcases k5 with h | h
          · exact Or.inl h
          · right; omega
        have hlen : (if finV s3 = true then 0 else bs3.length + 1) < gk := by
          rcases k5 with h | h
          · rw [if_pos h]; omega
          · split <;> omega
        clear k1 k2 k3 k4 k6 HC HO HOK
        rcases hfn with rfl | ⟨f, ta, tb, rfl⟩
        · go_wp2
          go_roundg (if finV s3 = true then 0 else bs3.length + 1)
          case measure => omega
          case rel => exact ⟨_, s3, r3, bs3, a3, n3, c3, tv3, vv3, ss3, hle3, Nat.le_refl _, HN.out.1, HST.out.keep HN.out.2, HK3, HO3⟩
        · go_wp2
          go_roundg (if finV s3 = true then 0 else bs3.length + 1)
          case measure => omega
          case rel => exact ⟨_, s3, r3, bs3, a3, n3, c3, tv3, vv3, ss3, hle3, Nat.le_refl _, HN.out.1, HST.out.keep HN.out.2, HK3, HO3⟩
      | unt =>
        have hle : bk.length ≤ bs.length := by exact hle.resolve_left (fun h => by cases h)
        have hbk : n2 ≤ 8388608 := by have := hR.sees.lenMap; omega
        have hg : bk.length + 1 ≤ gk := hg
        have hc := (untimed_any w0 wr G GN R v a2 n2 c2 M tv vv ss r bk hR hok.out hbk).mono (fun e w' h => StPost.of rfl hok.out h)
        have hv : v = .func (.func 46) #[] #[] := hst
        subst hv
        have HC := Lib.hid hc
        have nq := fun f a b W => neq_fn f a b W
        clear hc
        have HO := Lib.hid hO.out
        have HOK := Lib.hid hok.out
        clear hR hok hO
        go_wp2_with fail
        refine HC.out.mono ?_
        rintro e w1 ⟨v3, s3, r3, bs3, a3, n3, c3, tv3, vv3, ss3, rfl, k1, k2, k3, k4, k5, k6⟩
        clear c1
        have c1 := cell_of_block k2.box 1
        have f1 := unfrozen_of_block k2.box 1
        have HN := Lib.hid (k2.next v3)
        have HST := Lib.hid k1
        have HO3 := Lib.hid (HO.out.trans k4)
        have HK3 := Lib.hid k3
        have hfn := k1.fn
        have hle3 : finV s3 = true ∨ bs3.length ≤ bs.length := by
          rcases k5 with h | h
          · exact Or.inl h
          · right; omega
        have hlen : (if finV s3 = true then 0 else bs3.length + 1) < gk := by
          rcases k5 with h | h
          · rw [if_pos h]; omega
          · split <;> omega
        clear k1 k2 k3 k4 k6 HC HO HOK
        rcases hfn with rfl | ⟨f, ta, tb, rfl⟩
        · go_wp2
          go_roundg (if finV s3 = true then 0 else bs3.length + 1)
          case measure => omega
          case rel => exact ⟨_, s3, r3, bs3, a3, n3, c3, tv3, vv3, ss3, hle3, Nat.le_refl _, HN.out.1, HST.out.keep HN.out.2, HK3, HO3⟩
        · go_wp2
          go_roundg (if finV s3 = true then 0 else bs3.length + 1)
          case measure => omega
          case rel => exact ⟨_, s3, r3, bs3, a3, n3, c3, tv3, vv3, ss3, hle3, Nat.le_refl _, HN.out.1, HST.out.keep HN.out.2, HK3, HO3⟩
      | tim =>
        have hle : bk.length ≤ bs.length := by exact hle.resolve_left (fun h => by cases h)
        have hbk : n2 ≤ 8388608 := by have := hR.sees.lenMap; omega
        have hg : bk.length + 1 ≤ gk := hg
        have hc := (timed_any w0 wr G GN R v a2 n2 c2 M tv vv ss r bk hR hok.out hbk).mono (fun e w' h => StPost.of rfl hok.out h)
        have hv : v = .func (.func 99) #[] #[] := hst
        subst hv
        have HC := Lib.hid hc
        have nq := fun f a b W => neq_fn f a b W
        clear hc
        have HO := Lib.hid hO.out
        have HOK := Lib.hid hok.out
        clear hR hok hO
        go_wp2_with fail
        refine HC.out.mono ?_
        rintro e w1 ⟨v3, s3, r3, bs3, a3, n3, c3, tv3, vv3, ss3, rfl, k1, k2, k3, k4, k5, k6⟩
        clear c1
        have c1 := cell_of_block k2.box 1
        have f1 := unfrozen_of_block k2.box 1
        have HN := Lib.hid (k2.next v3)
        have HST := Lib.hid k1
        have HO3 := Lib.hid (HO.out.trans k4)
        have HK3 := Lib.hid k3
        have hfn := k1.fn
        have hle3 : finV s3 = true ∨ bs3.length ≤ bs.length := by
          rcases k5 with h | h
          · exact Or.inl h
          · right; omega
        have hlen : (if finV s3 = true then 0 else bs3.length + 1) < gk := by
          rcases k5 with h | h
          · rw [if_pos h]; omega
          · split <;> omega
        clear k1 k2 k3 k4 k6 HC HO HOK
        rcases hfn with rfl | ⟨f, ta, tb, rfl⟩
        · go_wp2
          go_roundg (if finV s3 = true then 0 else bs3.length + 1)
          case measure => omega
          case rel => exact ⟨_, s3, r3, bs3, a3, n3, c3, tv3, vv3, ss3, hle3, Nat.le_refl _, HN.out.1, HST.out.keep HN.out.2, HK3, HO3⟩
        · go_wp2
          go_roundg (if finV s3 = true then 0 else bs3.length + 1)
          case measure => omega
          case rel => exact ⟨_, s3, r3, bs3, a3, n3, c3, tv3, vv3, ss3, hle3, Nat.le_refl _, HN.out.1, HST.out.keep HN.out.2, HK3, HO3⟩
      | dmp =>
        have hle : bk.length ≤ bs.length := by exact hle.resolve_left (fun h => by cases h)
        have hbk : n2 ≤ 8388608 := by have := hR.sees.lenMap; omega
        have hg : bk.length + 1 ≤ gk := hg
        have hc := (dumped_any w0 wr G GN R v a2 n2 c2 M tv vv ss r bk hR hok.out hbk).mono (fun e w' h => StPost.of rfl hok.out h)
        have hv : v = .func (.func 119) #[] #[] := hst
        subst hv
        have HC := Lib.hid hc
        have nq := fun f a b W => neq_fn f a b W
        clear hc
        have HO := Lib.hid hO.out
        have HOK := Lib.hid hok.out
        clear hR hok hO
        go_wp2_with fail
        refine HC.out.mono ?_
        rintro e w1 ⟨v3, s3, r3, bs3, a3, n3, c3, tv3, vv3, ss3, rfl, k1, k2, k3, k4, k5, k6⟩
        clear c1
        have c1 := cell_of_block k2.box 1
        have f1 := unfrozen_of_block k2.box 1
        have HN := Lib.hid (k2.next v3)
        have HST := Lib.hid k1
        have HO3 := Lib.hid (HO.out.trans k4)
        have HK3 := Lib.hid k3
        have hfn := k1.fn
        have hle3 : finV s3 = true ∨ bs3.length ≤ bs.length := by
          rcases k5 with h | h
          · exact Or.inl h
          · right; omega
        have hlen : (if finV s3 = true then 0 else bs3.length + 1) < gk := by
          rcases k5 with h | h
          · rw [if_pos h]; omega
          · split <;> omega
        clear k1 k2 k3 k4 k6 HC HO HOK
        rcases hfn with rfl | ⟨f, ta, tb, rfl⟩
        · go_wp2
          go_roundg (if finV s3 = true then 0 else bs3.length + 1)
          case measure => omega
          case rel => exact ⟨_, s3, r3, bs3, a3, n3, c3, tv3, vv3, ss3, hle3, Nat.le_refl _, HN.out.1, HST.out.keep HN.out.2, HK3, HO3⟩
        · go_wp2
          go_roundg (if finV s3 = true then 0 else bs3.length + 1)
          case measure => omega
          case rel => exact ⟨_, s3, r3, bs3, a3, n3, c3, tv3, vv3, ss3, hle3, Nat.le_refl _, HN.out.1, HST.out.keep HN.out.2, HK3, HO3⟩
