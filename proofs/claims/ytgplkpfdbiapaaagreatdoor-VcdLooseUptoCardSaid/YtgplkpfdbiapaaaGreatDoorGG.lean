/- strconv.FormatUint at ten, strconv.ParseUint at thirty-one bits, vcd.number, by their contracts. -/
import Derived.Test.YtgplkpfdbiapaaaGreatDoorNBase
import Derived.Test.YtgplkpfdbiapaaaGreatDoorVdSpec
import Derived.Test.YtgplkpfdbiapaaaGreatDoorVdRune
import Derived.Test.YtgplkpfdbiapaaaGreatDoorRows
import Derived.Test.YtgplkpfdbiapaaaGreatDoorShelf2
import Derived.BigQuiet
import Derived.Deep.AppendLies
import Derived.Deep.QuietTactic
import Derived.Deep.RegionLaw
import Derived.Deep.RegionWith
import Derived.KernelRfl
import Derived.Laws.EntriesVeiled
import Derived.Lib.ConvBytes
import Derived.Lib.DecodeN
import Derived.Lib.Hide
import Derived.Lib.Index
import Derived.Lib.IndexEntry
import Derived.Lib.ItoaNum
import Derived.Lib.ParseIntBCases
import Derived.Lib.SlBytesRow
import Derived.Lib.SmallJoins
import Derived.Shelf.Bytes.SlSmallAll
import Derived.Shelf.Unicode.DecodeSlow
import Derived.WalkKit
import Derived.WalkLawsBesides
import Derived.WalkSpells
import Derived.Test.YtgplkpfdbiapaaaGreatDoorLib
import Derived.Laws.Runes
import Derived.Test.YtgplkpfdbiapaaaGreatDoorOwn
import Derived.Test.YtgplkpfdbiapaaaGreatDoorGA3
import Derived.Test.YtgplkpfdbiapaaaGreatDoorGA1
import Derived.Deep.RegionHeld3
import Derived.Laws.Tables
import Derived.Lib.AppendStr
import Derived.Lib.BufferWrite
import Derived.Maps.AppendAt
import Derived.Maps.Own
import Derived.Maps.OwnOps
import Derived.Maps.OwnSet
import Derived.Shelf.Spec.DecodeRune
import Derived.Test.YtgplkpfdbiapaaaGreatDoorShelf
import Derived.Laws.IdiomCopy
import Derived.Lib.AppendIntMem
import Derived.Shelf.Pu.Lower
import Derived.Shelf.Pu.ToError
import Derived.Shelf.Pu.ToErrorRange
/- bytes.IndexAny at blanks, tabs and line ends, by its contract. -/
namespace Go.Proofs.YtgplkpfdbiapaaaGreatDoor
open Go Go.RowKit Go.Joins Go.Shelf

def gapStr : ByteArray := ⟨#[32, 9, 10, 13]⟩
theorem gapStr_list : gapStr.data.toList = gapsL := rfl
/-- The library's tables that the reader meets. -/
structure GapEnv (w : World) : Prop where
  utf : Lib.Utf8Tabs 3 4 w
  mx : ∃ m, w.cell? ⟨1, 0, none⟩ = some (.int .i64 m)
theorem indexByte_gap (x : Nat) : (0 ≤ Lib.indexByte gapsL x.toUInt8 ↔ gapV (UInt8.ofNat x) = true) := by
  rw [gap_iff, Lib.contains_iff_indexByte]
  simp
theorem run_ibs (x : Nat) (W : World) : (callFunc 91 #[.string gapStr, .int .u8 (x : Int)]).run Tryz.prog W = .ok (.value (.int .i64 (Lib.indexByte gapsL x.toUInt8))) W := by
  rw [run_callFunc_extern Tryz.func91 (by kernel_rfl) (by kernel_rfl) (by kernel_rfl) (e := Extern.BytealgIndexByte.indexByte) (by kernel_rfl), Lib.run_indexByteString, gapStr_list]
  rfl
set_option maxRecDepth 100000 in
set_option maxHeartbeats 1600000 in
theorem idx_zero (a : Option Addr) (c : Nat) (w : World) :
    Calls Tryz.prog 66 #[.slice a 0 c, .string gapStr] w fun e w' => e = .returned (.int .i64 (-1)) ∧ Below w.heap.size w w' := by
  obtain ⟨gs, hgs⟩ : ∃ gs, gs = gapStr := ⟨_, rfl⟩
  have hsz : gs.size = 4 := by rw [hgs]; rfl
  have E : gs.toList.isEmpty = false := by rw [hgs, ByteArray.toList_eq]; rfl
  rw [← hgs]
  clear hgs
  have e93 : ∀ args w, (callFunc 93 args).run Tryz.prog w = .ok (.enter 93 args) w := enters_of Tryz.func93 (by kernel_rfl) rfl
  go_enter Tryz.func66, Tryz.ntmps66
  go_wp2
  go_loopg [11, 12] 1 (fun g _ i wr => i = .int .i64 0 ∧ wr = w)
  case atStart => exact ⟨rfl, rfl⟩
  case round =>
    obtain ⟨rfl, rfl⟩ := hrel
    go_wp2
    go_ret
    exact ⟨rfl, Below.refl _ _⟩
theorem gapStr_asc (j : Nat) (h : j < gapStr.size) : (gapStr[j]'h).toNat < 128 := by
  have h4 : j < 4 := h
  have : j = 0 ∨ j = 1 ∨ j = 2 ∨ j = 3 := by omega
  rcases this with rfl | rfl | rfl | rfl
  · exact (by decide : ((gapStr[0]'(by decide)).toNat < 128))
  · exact (by decide : ((gapStr[1]'(by decide)).toNat < 128))
  · exact (by decide : ((gapStr[2]'(by decide)).toNat < 128))
  · exact (by decide : ((gapStr[3]'(by decide)).toNat < 128))
theorem ofNat_toNat (u : UInt8) : UInt8.ofNat u.toNat = u := by simp
set_option maxRecDepth 100000 in
set_option maxHeartbeats 1600000 in
theorem idx_one (u : UInt8) (b off c : Nat) (w : World) (hc : w.cell? ⟨b, off, none⟩ = some (.int .u8 (u.toNat : Int))) :
    Calls Tryz.prog 66 #[.slice (some ⟨b, off, none⟩) 1 c, .string gapStr] w fun e w' => e = .returned (.int .i64 (if gapV u then 0 else -1)) ∧ Below w.heap.size w w' := by
  obtain ⟨x, hx⟩ : ∃ x : Nat, x = u.toNat := ⟨_, rfl⟩
  have hx256 : x < 256 := by rw [hx]; exact UInt8.toNat_lt u
  have hib := fun W => run_ibs x W
  have hgap := indexByte_gap x
  rw [hx, ofNat_toNat, ← hx] at hgap
  rw [← hx] at hc
  have hsm : 128 ≤ x → gapV u = false := fun h => gap_small u (by rw [← hx]; exact h)
  clear hx
  obtain ⟨gs, hgs⟩ : ∃ gs, gs = gapStr := ⟨_, rfl⟩
  have hsz : gs.size = 4 := by rw [hgs]; rfl
  have E : gs.toList.isEmpty = false := by rw [hgs, ByteArray.toList_eq]; rfl
  have hasc : ∀ j (h : j < gs.size), (gs[j]'h).toNat < 128 := by subst hgs; intro j h; exact gapStr_asc j h
  rw [← hgs] at hib ⊢
  clear hgs
  obtain ⟨m, hm⟩ : ∃ m, m = Lib.indexByte gapsL x.toUInt8 := ⟨_, rfl⟩
  rw [← hm] at hib hgap
  clear hm
  obtain ⟨q, hq⟩ : ∃ q, q = gapV u := ⟨_, rfl⟩
  rw [← hq] at hgap hsm ⊢
  clear hq
  have HG := Lib.hid hgap
  have HS := Lib.hid hsm
  have HA := Lib.hid hasc
  clear hgap hsm hasc
  by_cases h128 : 128 ≤ x
  · have hfq := HS.out h128
    subst hfq
    go_enter Tryz.func66, Tryz.ntmps66
    go_wp2
    go_loopg [5] 4 (fun g _ wr => ∃ i : Nat, i + g = 4 ∧ wr = w.iter gs i)
    case atStart => exact ⟨0, by omega, rfl⟩
    case round =>
      obtain ⟨i, hig, rfl⟩ := hrel
      cases gk with
      | zero =>
        obtain rfl : i = 4 := by omega
        have hnx := run_next_end (P := Tryz.prog) w gs gs.size
        rw [hsz] at hnx
        go_wp2
        go_ret
        exact ⟨rfl, ext_alloc _ _⟩
      | succ g =>
        have hi : i < gs.size := by omega
        have hnx := fun ty => run_next_ascii (P := Tryz.prog) w gs i ty hi (HA.out i hi)
        obtain ⟨y, hy⟩ : ∃ y : Nat, y = (gs[i]'hi).toNat := ⟨_, rfl⟩
        have hy128 : y < 128 := by rw [hy]; exact HA.out i hi
        rw [← hy] at hnx
        clear hy
        have hne : ((y : Int) == 65533) = false := beq_eq_false_iff_ne.2 (by omega)
        go_wp2
        go_roundg g
        case measure => omega
        case rel => exact ⟨i + 1, by omega, rfl⟩
  · cases q with
    | true =>
      have hm0 : 0 ≤ m := HG.out.2 rfl
      go_enter Tryz.func66, Tryz.ntmps66
      go_wp2
      go_ret
      exact ⟨rfl, Below.refl _ _⟩
    | false =>
      have hm0 : ¬ (0 ≤ m) := fun h => by have := HG.out.1 h; cases this
      go_enter Tryz.func66, Tryz.ntmps66
      go_wp2
      go_ret
      exact ⟨rfl, Below.refl _ _⟩
end Go.Proofs.YtgplkpfdbiapaaaGreatDoor
/- bytes.IndexAny at blanks, tabs and line ends, of two to eight bytes. -/
namespace Go.Proofs.YtgplkpfdbiapaaaGreatDoor
open Go Go.RowKit Go.Joins Go.Shelf

/-- What utf8.DecodeRune answers of bytes that begin with no ASCII byte. -/
def DecPost (bs : List UInt8) (n : Nat) (w : World) (e : Ending) (w' : World) : Prop :=
  ∃ r k : Nat, e = .returned (.tuple #[.int .i32 (r : Int), .int .i64 (k : Int)]) ∧ FarRune r k ∧ 1 ≤ k ∧ k ≤ n ∧ (∀ j, j < k → 128 ≤ (bs.getD j 0).toNat) ∧ Below w.heap.size w w'
theorem lt_of_cellV {w : World} {b o : Nat} {v : Value} (h : w.cell? ⟨b, o, none⟩ = some v) : b < w.heap.size := by
  by_cases hb : b < w.heap.size
  · exact hb
  · have : w.heap[b]? = none := Array.getElem?_eq_none (by omega)
    simp [World.cell?, this] at h
theorem run_ids (m : Int) (s : ByteArray) (W : World) (hm : W.cell? ⟨1, 0, none⟩ = some (.int .i64 m)) (h2 : 2 ≤ s.size) (hs : (s.size : Int) ≤ m) (hi : Lib.index gapsL s.data.toList = -1) :
    (callFunc 96 #[.string gapStr, .string s]).run Tryz.prog W = .ok (.value (.int .i64 (-1))) W := by
  rw [run_callFunc_extern Tryz.func96 (by kernel_rfl) (by kernel_rfl) (by kernel_rfl) (e := Extern.BytealgIndex.index) (by kernel_rfl), Lib.run_indexString gapStr s W 1 m (by kernel_rfl) hm h2 hs (by decide), gapStr_list, hi]
  rfl
theorem far_ne (r k : Nat) (h : FarRune r k) (hr : r ≠ 65533) : (gapStr.toList == (Utf8.encode (r : Int)).toList) = false := by
  obtain ⟨_, _, _, b, t, hb, h192⟩ := enc_far r k h hr
  rw [beq_eq_false_iff_ne]
  intro e
  rw [ByteArray.toList_eq, ByteArray.toList_eq, hb] at e
  have e2 : gapsL = b :: t := e
  unfold gapsL at e2
  injection e2 with e3 e4
  rw [← e3] at h192
  revert h192
  decide
set_option maxRecDepth 100000 in
set_option maxHeartbeats 3200000 in
theorem idx_short (bs : List UInt8) (a : Option Addr) (n c : Nat) (w : World) (h : Sees w a n c (bs.map bv)) (hn : 2 ≤ n) (h8 : n ≤ 8) (G : GapEnv w)
    (hdec : ∀ (ds : List UInt8) (a : Option Addr) (m c : Nat) (W : World), Sees W a m c (ds.map bv) → 1 ≤ m → 128 ≤ (ds.getD 0 0).toNat → Below w.heap.size w W → Calls Tryz.prog 95 #[.slice a m c] W (DecPost ds m W)) :
    Calls Tryz.prog 66 #[.slice a n c, .string gapStr] w fun e w' => e = .returned (.int .i64 (gapAt bs)) ∧ Below w.heap.size w w' := by
  obtain ⟨mx, hmx⟩ := G.mx
  have hids := fun (s : ByteArray) (W : World) (hb : Below w.heap.size w W) => run_ids mx s W ((hb.cell (p := ⟨1, 0, none⟩) (lt_of_cellV hmx)).trans hmx)
  have hl := h.lenMap
  obtain ⟨b, off, rfl, hbw⟩ := h.addr (by omega)
  have hib := fun (x : Nat) W => run_ibs x W
  have hfar := far_ne
  have hasc := gapStr_asc
  obtain ⟨gs, hgs⟩ : ∃ gs, gs = gapStr := ⟨_, rfl⟩
  have hsz : gs.size = 4 := by rw [hgs]; rfl
  have E : gs.toList.isEmpty = false := by rw [hgs, ByteArray.toList_eq]; rfl
  rw [← hgs] at hib hids hfar ⊢
  have hasc : ∀ j (h : j < gs.size), (gs[j]'h).toNat < 128 := by subst hgs; exact fun j h => gapStr_asc j h
  clear hgs
  have HIB := Lib.hid hib
  have HIDS := Lib.hid hids
  have HF := Lib.hid hfar
  have HA := Lib.hid hasc
  have HS := Lib.hid h
  have HL := Lib.hid hl
  have HD := Lib.hid hdec
  have HMX := Lib.hid hmx
  have hn1 : ((n : Int) == 1) = false := beq_eq_false_iff_ne.2 (by omega)
  have h8z : ¬ ((8 : Int) < (n : Int)) := by omega
  have e93 : ∀ args w, (callFunc 93 args).run Tryz.prog w = .ok (.enter 93 args) w := enters_of Tryz.func93 (by kernel_rfl) rfl
  clear h hl hdec hmx hib hids hfar hasc G
  go_enter Tryz.func66, Tryz.ntmps66
  go_wp2
  go_loopw [11, 12, 13] (fun _ i _ wr => ∃ k : Nat, k ≤ n ∧ i = .int .i64 k ∧ Hid (Below w.heap.size w wr) ∧ Hid (∀ j, j < k → gapV (bs.getD j 0) = false)) (fun _ i _ _ => n - (intOf i).toNat)
  case atStart => exact ⟨0, Nat.zero_le _, rfl, Below.refl _ _, fun j hj => absurd hj (by omega)⟩
  case round =>
    obtain ⟨k, hk, rfl, hB, hno⟩ := hrel
    by_cases hlt : k < n
    · have hkz : (k : Int) < (n : Int) := by omega
      have hcx := (HS.out.below hB.out).byte k hlt
      obtain ⟨u, hu⟩ : ∃ u, u = bs.getD k 0 := ⟨_, rfl⟩
      rw [← hu] at hcx
      obtain ⟨x, hx⟩ : ∃ x : Nat, x = u.toNat := ⟨_, rfl⟩
      rw [← hx] at hcx
      have hx256 : x < 256 := by rw [hx]; exact UInt8.toNat_lt u
      have HU := Lib.hid hu
      have HX := Lib.hid hx
      have HNO := Lib.hid hno.out
      have HB := Lib.hid hB.out
      clear hB hno hu
      by_cases h128 : 128 ≤ x
      · obtain ⟨a2, ec, see⟩ := (HS.out.below HB.out).cut k n (by omega) (Nat.le_refl _)
        have q := fun W => (run_from (P := Tryz.prog) Tryz.underlying27 Tryz.sizeOf5 W (some ⟨b, off, none⟩) n c k (k : Int) rfl (by omega)).trans (congrArg (fun v => Result.ok v W) (show sliced (some ⟨b, off, none⟩) k n c 1 = _ from ec))
        have see2 : Sees wr a2 (n - k) (c - k) ((bs.drop k).map bv) := by
          have e : (bs.drop k).map bv = List.drop k (List.take n (bs.map bv)) := by rw [List.take_of_length_le (by rw [List.length_map, HL.out]; omega), List.map_drop]
          rw [e]; exact see
        have hg0 : (bs.drop k).getD 0 0 = bs.getD k 0 := by simp [List.getD]
        have hcall := HD.out (bs.drop k) a2 (n - k) (c - k) wr see2 (by omega) (by rw [hg0, ← HU.out, ← HX.out]; exact h128) HB.out
        have HC := Lib.hid hcall
        have h128z : ¬ ((x : Int) < 128) := by omega
        clear see see2 ec hcall hx hg0
        go_wp2_with fail
        refine HC.out.mono ?_
        rintro e w' ⟨r, m, rfl, hfr, hm1, hmn, hall, hb2⟩
        have hr128 : 128 ≤ r := by unfold FarRune at hfr; omega
        have HB2 : Hid (Below w.heap.size w w') := ext_trans HB.out hb2
        have HN : Hid (∀ j, j < k + m → gapV (bs.getD j 0) = false) := fun j hj => by
          rcases Nat.lt_or_ge j k with h | h
          · exact HNO.out j h
          · have h2 := hall (j - k) (by omega)
            refine gap_small _ ?_
            rw [show bs.getD j 0 = (bs.drop k).getD (j - k) 0 by simp only [List.getD, List.getElem?_drop]; rw [show k + (j - k) = j by omega]]
            exact h2
        have W1 : IntKind.i64.wrap ((k : Int) + (m : Int)) = ((k + m : Nat) : Int) := by rw [IntWalk.i64_in _ (by omega)]; omega
        have HFR := Lib.hid hfr
        have hcm := (HB2.out.cell (p := ⟨1, 0, none⟩) (lt_of_cellV HMX.out)).trans HMX.out
        clear hall hb2 hfr HC
        by_cases hr : r = 65533
        · have hrz : ((r : Int) == 65533) = true := beq_iff_eq.2 (by omega)
          have hrz2 : (!((r : Int) == 65533)) = false := by rw [hrz]; rfl
          clear hr
          go_wp2
          go_loopg [15] 4 (fun g _ wr2 => ∃ i : Nat, i + g = 4 ∧ wr2 = w'.iter gs i)
          case atStart => exact ⟨0, by omega, rfl⟩
          case round =>
            obtain ⟨i, hig, rfl⟩ := hrel
            cases gk with
            | zero =>
              obtain rfl : i = 4 := by omega
              have hnx := run_next_end (P := Tryz.prog) w' gs gs.size
              rw [hsz] at hnx
              go_wp2
              go_roundw
              case rel => exact ⟨k + m, by omega, by go_num, ext_trans HB2.out (ext_alloc _ _), HN.out⟩
              case measure => simp [intOf]; omega
            | succ g =>
              have hi : i < gs.size := by omega
              have hnx := fun ty => run_next_ascii (P := Tryz.prog) w' gs i ty hi (HA.out i hi)
              obtain ⟨y, hy⟩ : ∃ y : Nat, y = (gs[i]'hi).toNat := ⟨_, rfl⟩
              have hy128 : y < 128 := by rw [hy]; exact HA.out i hi
              rw [← hy] at hnx
              clear hy
              have hne : ((r : Int) == (y : Int)) = false := beq_eq_false_iff_ne.2 (by omega)
              go_wp2
              go_roundg g
              case measure => omega
              case rel => exact ⟨i + 1, by omega, rfl⟩
        · have hrz : ((r : Int) == 65533) = false := beq_eq_false_iff_ne.2 (by omega)
          obtain ⟨es, e2, e4, b0, t0, eb, e192⟩ := enc_far r m HFR.out hr
          have hne := HF.out r m HFR.out hr
          have hix : Lib.index gapsL (Utf8.encode (r : Int)).data.toList = -1 := by rw [eb]; exact gap_far b0 t0 e192
          have HIX := Lib.hid hix
          have hrI : (128 : Int) ≤ (r : Int) := by omega
          clear hix eb e192 hr128
          by_cases hm4 : m = 4
          · subst hm4
            have HES := Lib.hid es
            clear es hr
            generalize (r : Int) = ri at *
            go_wp2
            go_roundw
            case rel => exact ⟨k + 4, by omega, by go_num, HB2.out, HN.out⟩
            case measure => simp [intOf]; omega
          · have hm4z : ((4 : Int) == (m : Int)) = false := beq_eq_false_iff_ne.2 (by omega)
            by_cases hmx : (m : Int) ≤ mx
            · have hid := HIDS.out (Utf8.encode (r : Int)) w' HB2.out (by omega) (by rw [es]; exact hmx) HIX.out
              have HES := Lib.hid es
              clear es hr hm4
              generalize (r : Int) = ri at *
              go_wp2
              go_roundw
              case rel => exact ⟨k + m, by omega, by go_num, HB2.out, HN.out⟩
              case measure => simp [intOf]; omega
            · have HES := Lib.hid es
              clear es hr hm4
              generalize (r : Int) = ri at *
              go_wp2
              go_loopg [15] 4 (fun g _ wr2 => ∃ i : Nat, i + g = 4 ∧ wr2 = w'.iter gs i)
              case atStart => exact ⟨0, by omega, rfl⟩
              case round =>
                obtain ⟨i, hig, rfl⟩ := hrel
                cases gk with
                | zero =>
                  obtain rfl : i = 4 := by omega
                  have hnx := run_next_end (P := Tryz.prog) w' gs gs.size
                  rw [hsz] at hnx
                  go_wp2
                  go_roundw
                  case rel => exact ⟨k + m, by omega, by go_num, ext_trans HB2.out (ext_alloc _ _), HN.out⟩
                  case measure => simp [intOf]; omega
                | succ g =>
                  have hi : i < gs.size := by omega
                  have hnx := fun ty => run_next_ascii (P := Tryz.prog) w' gs i ty hi (HA.out i hi)
                  obtain ⟨y, hy⟩ : ∃ y : Nat, y = (gs[i]'hi).toNat := ⟨_, rfl⟩
                  have hy128 : y < 128 := by rw [hy]; exact HA.out i hi
                  rw [← hy] at hnx
                  clear hy
                  have hne2 : (ri == (y : Int)) = false := beq_eq_false_iff_ne.2 (by omega)
                  go_wp2
                  go_roundg g
                  case measure => omega
                  case rel => exact ⟨i + 1, by omega, rfl⟩
      · have h128z : (x : Int) < 128 := by omega
        have hib := HIB.out x
        have hgap := indexByte_gap x
        rw [HX.out, ofNat_toNat, ← HX.out] at hgap
        obtain ⟨m, hm⟩ : ∃ m, m = Lib.indexByte gapsL x.toUInt8 := ⟨_, rfl⟩
        rw [← hm] at hib hgap
        obtain ⟨q, hq⟩ : ∃ q, q = gapV u := ⟨_, rfl⟩
        rw [← hq] at hgap
        have HQ : Hid (gapV (bs.getD k 0) = q) := by unfold Hid; rw [← HU.out]; exact hq.symm
        have HG := Lib.hid hgap
        clear hgap hm hq hx
        cases q with
        | true =>
          have hm0 : 0 ≤ m := HG.out.2 rfl
          go_wp2
          go_ret
          exact ⟨by rw [gapAt_hit (by rw [HL.out]; exact hlt) HNO.out HQ.out]; rfl, HB.out⟩
        | false =>
          have hm0 : ¬ (0 ≤ m) := fun h => by have := HG.out.1 h; cases this
          have HN : Hid (∀ j, j < k + 1 → gapV (bs.getD j 0) = false) := fun j hj => by
            rcases Nat.lt_or_ge j k with h | h
            · exact HNO.out j h
            · have : j = k := by omega
              subst this
              exact HQ.out
          have W1 : IntKind.i64.wrap ((k : Int) + 1) = ((k + 1 : Nat) : Int) := by rw [IntWalk.i64_in _ (by omega)]; omega
          go_wp2
          go_roundw
          case rel => exact ⟨k + 1, by omega, by go_num, HB.out, HN⟩
          case measure => simp [intOf]; omega
    · obtain rfl : k = n := by omega
      have HNO := Lib.hid hno.out
      have HB := Lib.hid hB.out
      clear hno hB
      go_wp2
      go_ret
      exact ⟨by rw [gapAt_none (fun j hj => HNO.out j (by rw [← HL.out]; exact hj))]; rfl, HB.out⟩
end Go.Proofs.YtgplkpfdbiapaaaGreatDoor
/- vcd's reader in memory: its block, its waves, its states. -/
namespace Go.Proofs.YtgplkpfdbiapaaaGreatDoor
open Go Go.RowKit Go.Joins Go.Maps

/-! The map of codes. -/
def idxD (S : List (List UInt8)) : Nat → DataW Unit
  | 0 => .map []
  | k + 1 => (idxD S k).put (.string (S.getD k [])) (.lit (.int .i64 (k : Int)))
theorem idxD_map (S : List (List UInt8)) : ∀ k, IsMap (idxD S k)
  | 0 => isMap_empty
  | k + 1 => (idxD_map S k).put _ _
theorem idxD_at (S : List (List UInt8)) (hS : S.Nodup) (i : Nat) (z : DataW Unit) : ∀ k, k ≤ S.length → i < k → (idxD S k).atKey (.string (S.getD i [])) z = .lit (.int .i64 (i : Int))
  | 0, _, hi => by omega
  | k + 1, hk, hi => by
    rw [idxD]
    by_cases e : i = k
    · subst e
      exact atKey_put_same (idxD_map S i) (by trivial) _ _
    · have hne : S.getD k [] ≠ S.getD i [] := by
        intro h
        simp only [List.getD, List.getElem?_eq_getElem (show k < S.length by omega), List.getElem?_eq_getElem (show i < S.length by omega), Option.getD_some] at h
        exact e ((List.getElem_inj hS).1 h).symm
      rw [atKey_put_other (fun h => hne (by injection h with h1; exact h1.symm))]
      exact idxD_at S hS i z k (by omega) (by omega)
theorem idxD_has (S : List (List UInt8)) (s : List UInt8) : ∀ k, k ≤ S.length → (has (idxD S k) (.string s) = true ↔ s ∈ S.take k)
  | 0, _ => by simp [idxD, has_eq]
  | k + 1, hk => by
    rw [idxD, List.take_succ_eq_append_getElem (by omega)]
    have e0 : S.getD k [] = S[k] := by simp [List.getD, List.getElem?_eq_getElem (show k < S.length by omega)]
    by_cases e : S.getD k [] = s
    · rw [← e, has_put_same (idxD_map S k) (by trivial) _, e0]
      exact ⟨fun _ => List.mem_append_right _ (List.mem_singleton.2 rfl), fun _ => rfl⟩
    · rw [has_put_other (fun h => e (by cases h; rfl)), idxD_has S s k (by omega)]
      constructor
      · intro h; exact List.mem_append_left _ h
      · intro h
        rcases List.mem_append.1 h with h | h
        · exact h
        · exact absurd ((List.mem_singleton.1 h).trans e0.symm).symm e
theorem idxD_snoc (S : List (List UInt8)) (x : List UInt8) : ∀ k, k ≤ S.length → idxD (S ++ [x]) k = idxD S k
  | 0, _ => rfl
  | k + 1, hk => by
    rw [idxD, idxD, idxD_snoc S x k (by omega)]
    congr 2
    simp [List.getD, List.getElem?_append_left (show k < S.length by omega)]
theorem idxD_new (S : List (List UInt8)) (x : List UInt8) : idxD (S ++ [x]) (S ++ [x]).length = (idxD S S.length).put (.string x) (.lit (.int .i64 (S.length : Int))) := by
  rw [List.length_append, List.length_singleton, idxD, idxD_snoc S x _ (Nat.le_refl _)]
  simp
theorem lawSV : Keyed Tryz.prog 9 := string_keyed Tryz.underlying9
theorem zeroI64V (w : World) : (zeroValue 3).run Tryz.prog w = .ok (.int .i64 0) w := by kernel_rfl
theorem keyV (s : List UInt8) (h : s.length ≤ 8388608) : keyOf Tryz.prog 9 (.string (str s)) = some (.string s) := by
  have := Go.WideMaps.keyOf_string_mk (P := Tryz.prog) Tryz.underlying9 (s := str s) (by unfold maxLen; simp [str, ByteArray.size]; omega)
  rw [this]
  simp [str]
/-- Block M is the map of the codes. -/
def IsIdx (w : World) (M : Nat) (S : List (List UInt8)) : Prop := w.ownsMap Tryz.prog 9 (plainElem Tryz.prog 3) M S.length (idxD S S.length)
/-! Blocks that a step can turn. -/
/-- A step turns at most a block of cells of a type that P tells. -/
def Turns (w w' : World) (P : TypeId → Prop) : Prop := ∃ row, w.grownBy w' row ∧ ∀ D, row = some D → ∃ C t fr, w.heap[D]? = some (.cells C t fr) ∧ P t
theorem Turns.cell {w : World} {R : Nat} {C : Array Value} {t : TypeId} {fr : Nat × Nat} (h : w.heap[R]? = some (.cells C t fr)) {P : TypeId → Prop} (hP : P t) (k : Nat) (v : Value) : Turns w (w.setCell ⟨R, k, .none⟩ v) P :=
  ⟨some R, Lib.grownBy_setCell w R k v, fun D e => by cases e; exact ⟨C, t, fr, h, hP⟩⟩
theorem Turns.row {w w' : World} {base k m : Nat} {T : TypeId} {u : Value} {ys : List Value} (hr : w.ownsRow base T k u m ys) (hg : w.grownBy w' u.ownBlock) {P : TypeId → Prop} (hP : P T) : Turns w w' P := by
  refine ⟨_, hg, fun D e => ?_⟩
  rcases hr.2 with ⟨rfl, _⟩ | ⟨g, cap, cur, rfl, _, hh, _⟩
  · cases e
  · have : g = D := by simpa [Value.ownBlock] using e
    subst this
    exact ⟨_, _, _, hh, hP⟩
theorem Turns.row1 {w w' : World} {ok : Value → Prop} {e : TypeId} {v : Value} {n base : Nat} {xs : List Value} {P : TypeId → Prop} (h : Row ok w base e v n xs) (ht : Turns w w' P) (hP : ¬ P e) : Row ok w' base e v n xs := by
  obtain ⟨row, hg, hr⟩ := ht
  refine h.other fun j hj => hg.block j (h.own.lt j hj).2 ?_
  intro e'
  obtain ⟨C, t, fr, h1, h2⟩ := hr j e'.symm
  exact (h.not_own h1 (fun e3 => hP (e3 ▸ h2))) hj
theorem Turns.rowN {w w' : World} {e : TypeId} {v : Value} {n base k : Nat} {xs : List Value} {P : TypeId → Prop} (h : w.ownsRow base e k v n xs) (ht : Turns w w' P) (hP : ¬ P e) : w'.ownsRow base e k v n xs := by
  obtain ⟨row, hg, hr⟩ := ht
  refine ownsN_other h fun j hj => hg.block j (h.lt j hj).2 ?_
  intro e'
  obtain ⟨C, t, fr, h1, h2⟩ := hr j e'.symm
  exact (ownsN_notown h h1 (fun e3 => hP (e3 ▸ h2))) hj
theorem Turns.block {w w' : World} {P : TypeId → Prop} (ht : Turns w w' P) {D : Nat} {C : Array Value} {t : TypeId} {fr : Nat × Nat} (h : w.heap[D]? = some (.cells C t fr)) (hP : ¬ P t) : w'.heap[D]? = some (.cells C t fr) := by
  obtain ⟨row, hg, hr⟩ := ht
  refine heap_grown h hg ?_
  intro e
  obtain ⟨C', t', fr', h1, h2⟩ := hr D e
  rw [h] at h1
  cases h1
  exact hP h2
theorem Turns.idx {w w' : World} {P : TypeId → Prop} (ht : Turns w w' P) {M : Nat} {S : List (List UInt8)} (h : IsIdx w M S) : IsIdx w' M S := by
  obtain ⟨row, hg, hr⟩ := ht
  obtain ⟨es, cl, h1, h2⟩ := h
  refine ⟨es, cl, heap_grown h1 hg ?_, h2⟩
  intro e
  obtain ⟨C, t, fr, h3, _⟩ := hr M e
  rw [h1] at h3
  cases h3
theorem Turns.low {w0 w w' : World} {P : TypeId → Prop} (ht : Turns w w' P) (hb : Below w0.heap.size w0 w) (hP : ∀ D C t fr, w.heap[D]? = some (.cells C t fr) → P t → ∀ row, w.grownBy w' row → row = some D → w0.heap.size ≤ D) : Below w0.heap.size w0 w' := by
  obtain ⟨row, hg, hr⟩ := ht
  refine hb.grown hg hb.size ?_
  intro k hk
  obtain ⟨C, t, fr, h3, h4⟩ := hr k hk
  exact hP k C t fr h3 h4 row hg hk

/-! The waves. -/
def wcs2 : List (List UInt8 × List UInt8) → List Slc → List Value
  | p :: r, s :: t => sv p.1 :: slV s :: wcs2 r t
  | _, _ => []
theorem wcs2_len : ∀ (L : List (List UInt8 × List UInt8)) (ss : List Slc), ss.length = L.length → (wcs2 L ss).length = 2 * L.length
  | [], _, _ => by simp [wcs2]
  | p :: r, [], h => by simp at h
  | p :: r, s :: t, h => by
    have := wcs2_len r t (by simpa using h)
    simp [wcs2, this]; omega
theorem wcs2_at : ∀ (L : List (List UInt8 × List UInt8)) (ss : List Slc) (k : Nat), ss.length = L.length → k < L.length → (wcs2 L ss)[2 * k]? = some (sv (L.getD k ([], [])).1) ∧ (wcs2 L ss)[2 * k + 1]? = some (slV (ss.getD k slc0))
  | [], _, k, _, h => by simp at h
  | p :: r, [], _, h, _ => by simp at h
  | p :: r, s :: t, 0, _, _ => by simp [wcs2]
  | p :: r, s :: t, k + 1, h, hk => by
    have ih := wcs2_at r t k (by simpa using h) (by simpa using hk)
    have el : ∀ i, (wcs2 (p :: r) (s :: t))[i + 2]? = (wcs2 r t)[i]? := fun i => by simp [wcs2]
    rw [show 2 * (k + 1) + 1 = 2 * k + 1 + 2 by omega, show 2 * (k + 1) = 2 * k + 2 by omega, el, el]
    simpa using ih
theorem wcs2_snoc : ∀ (L : List (List UInt8 × List UInt8)) (ss : List Slc) (p : List UInt8 × List UInt8) (s : Slc), ss.length = L.length → wcs2 (L ++ [p]) (ss ++ [s]) = wcs2 L ss ++ [sv p.1, slV s]
  | [], [], p, s, _ => rfl
  | [], _ :: _, _, _, h => by simp at h
  | _ :: _, [], _, _, h => by simp at h
  | q :: r, u :: t, p, s, h => by
    simp only [List.cons_append, wcs2]
    rw [wcs2_snoc r t p s (by simpa using h)]
theorem wcs2_set : ∀ (L : List (List UInt8 × List UInt8)) (ss : List Slc) (k : Nat) (x : List UInt8) (s : Slc), ss.length = L.length → k < L.length →
    (wcs2 L ss).set (2 * k + 1) (slV s) = wcs2 (L.set k ((L.getD k ([], [])).1, x)) (ss.set k s)
  | [], _, k, _, _, _, h => by simp at h
  | p :: r, [], _, _, _, h, _ => by simp at h
  | p :: r, u :: t, 0, x, s, _, _ => by simp [wcs2]
  | p :: r, u :: t, k + 1, x, s, h, hk => by
    have ih := wcs2_set r t k x s (by simpa using h) (by simpa using hk)
    simp only [List.set_cons_succ, wcs2, List.getD_cons_succ]
    rw [show 2 * (k + 1) = (2 * k + 1) + 1 by omega, List.set_cons_succ, ih]
structure OwnW (w : World) (base : Nat) (v : Value) (ss : List Slc) (L : List (List UInt8 × List UInt8)) : Prop where
  lens : ss.length = L.length
  row : w.ownsRow base 45 2 v L.length (wcs2 L ss)
  rows : ∀ j, j < L.length → w.ownsRow base 5 1 (slV (ss.getD j slc0)) (L.getD j ([], [])).2.length ((L.getD j ([], [])).2.map bv)
  apart : ∀ i j, i < L.length → j < L.length → i ≠ j → ∀ k, (slV (ss.getD i slc0)).ownBlock = some k → (slV (ss.getD j slc0)).ownBlock ≠ some k
theorem OwnW.below {w w' : World} {base : Nat} {v : Value} {ss : List Slc} {L : List (List UInt8 × List UInt8)} (h : OwnW w base v ss L) (hb : Below w.heap.size w w') : OwnW w' base v ss L :=
  ⟨h.lens, ownsN_below h.row hb, fun j hj => ownsN_below (h.rows j hj) hb, h.apart⟩
theorem OwnW.turns {w w' : World} {base : Nat} {v : Value} {ss : List Slc} {L : List (List UInt8 × List UInt8)} {P : TypeId → Prop} (h : OwnW w base v ss L) (ht : Turns w w' P) (h1 : ¬ P 45) (h2 : ¬ P 5) : OwnW w' base v ss L :=
  ⟨h.lens, Turns.rowN h.row ht h1, fun j hj => Turns.rowN (h.rows j hj) ht h2, h.apart⟩
theorem OwnW.nil (w : World) (base : Nat) : OwnW w base (.slice none 0 0) [] [] := ⟨rfl, ownsN_nil _ _ _ _, fun j hj => absurd hj (by simp), fun i j hi => absurd hi (by simp)⟩

/-! Values of states. -/
def IsSt (W : World) : VSt → Value → Prop
  | .fin, v => v = .nilFunc
  | .decl, v => v = .func (.func 24) #[] #[]
  | .exp x t, v => ∃ b1 b2 u, v = .func (.func 67) #[] #[.pointer (some ⟨b1, 0, none⟩), .pointer (some ⟨b2, 0, none⟩)] ∧ W.heap[b1]? = some (.cells #[sv x] 9 (0, 0)) ∧ W.heap[b2]? = some (.cells #[u] 64 (0, 0)) ∧ x ≠ [] ∧ IsSt W t u
  | .ign t, v => ∃ b1 u, v = .func (.func 71) #[] #[.pointer (some ⟨b1, 0, none⟩)] ∧ W.heap[b1]? = some (.cells #[u] 64 (0, 0)) ∧ IsSt W t u
  | .cod, v => v = .func (.func 45) #[] #[]
  | .nam, v => v = .func (.func 69) #[] #[]
  | .unt, v => v = .func (.func 46) #[] #[]
  | .tim, v => v = .func (.func 99) #[] #[]
  | .dmp, v => v = .func (.func 119) #[] #[]
/-- What no step turns: the boxes of what is captured. -/
structure KeepV (w w' : World) : Prop where
  keep : ∀ (D : Nat) (C : Array Value) (t : TypeId) (fr : Nat × Nat), w.heap[D]? = some (.cells C t fr) → (t = 9 ∨ t = 64) → w'.heap[D]? = some (.cells C t fr)
  size : w.heap.size ≤ w'.heap.size
theorem KeepV.trans {a b c : World} (h : KeepV a b) (k : KeepV b c) : KeepV a c := ⟨fun D C t fr hD ht => k.keep D C t fr (h.keep D C t fr hD ht) ht, Nat.le_trans h.size k.size⟩
theorem KeepV.below {w w' : World} (h : Below w.heap.size w w') : KeepV w w' := ⟨fun _ _ _ _ hD _ => heap_below hD h, h.size⟩
theorem KeepV.turns {w w' : World} {P : TypeId → Prop} (h : Turns w w' P) (h1 : ¬ P 9) (h2 : ¬ P 64) : KeepV w w' :=
  ⟨fun D C t fr hD ht => h.block hD (by rcases ht with rfl | rfl <;> assumption), by obtain ⟨row, hg, _⟩ := h; exact hg.size⟩
theorem IsSt.keep {w w' : World} (hk : KeepV w w') : ∀ {s : VSt} {v : Value}, IsSt w s v → IsSt w' s v
  | .fin, _, h => h
  | .decl, _, h => h
  | .exp _ _, _, ⟨b1, b2, u, e, h1, h2, h3, h4⟩ => ⟨b1, b2, u, e, hk.keep _ _ _ _ h1 (Or.inl rfl), hk.keep _ _ _ _ h2 (Or.inr rfl), h3, IsSt.keep hk h4⟩
  | .ign _, _, ⟨b1, u, e, h1, h4⟩ => ⟨b1, u, e, hk.keep _ _ _ _ h1 (Or.inr rfl), IsSt.keep hk h4⟩
  | .cod, _, h => h
  | .nam, _, h => h
  | .unt, _, h => h
  | .tim, _, h => h
  | .dmp, _, h => h

/-! The reader. -/
/-- What hangs on the reader's block. -/
structure RdC (w0 W : World) (M : Nat) (tv vv : Value) (ss : List Slc) (r : VRd) : Prop where
  low : Below w0.heap.size w0 W
  hM : w0.heap.size ≤ M
  map : IsIdx W M r.idx
  times : Row isU32 W w0.heap.size 42 tv r.times.length (r.times.map nv32)
  wavs : OwnW W w0.heap.size vv ss r.wav
theorem RdC.below {w0 W W' : World} {M : Nat} {tv vv : Value} {ss : List Slc} {r : VRd} (h : RdC w0 W M tv vv ss r) (hb : Below W.heap.size W W') : RdC w0 W' M tv vv ss r :=
  ⟨h.low.trans (hb.mono h.low.size), h.hM, (by obtain ⟨es, cl, h1, h2⟩ := h.map; exact ⟨es, cl, heap_below h1 hb, h2⟩), h.times.below hb, h.wavs.below hb⟩
structure RdAt (w0 : World) (R : Nat) (nv : Value) (W : World) (a : Option Addr) (n c : Nat) (M : Nat) (tv vv : Value) (ss : List Slc) (r : VRd) (bs : List UInt8) : Prop where
  box : W.heap[R]? = some (.cells #[.slice a n c, nv, .map (some M), tv, vv, .int .i64 (r.e : Int)] 66 (0, 0))
  hR : w0.heap.size ≤ R
  sees : Sees w0 a n c (bs.map bv)
  cap : c ≤ maxLen
  cs : RdC w0 W M tv vv ss r
theorem RdAt.below {w0 W W' : World} {R : Nat} {nv : Value} {a : Option Addr} {n c M : Nat} {tv vv : Value} {ss : List Slc} {r : VRd} {bs : List UInt8} (h : RdAt w0 R nv W a n c M tv vv ss r bs) (hb : Below W.heap.size W W') : RdAt w0 R nv W' a n c M tv vv ss r bs :=
  ⟨heap_below h.box hb, h.hR, h.sees, h.cap, h.cs.below hb⟩
/-- A field of the reader is set. -/
theorem RdC.field {w0 W : World} {M R k : Nat} {tv vv x : Value} {ss : List Slc} {r : VRd} {C : Array Value} (h : RdC w0 W M tv vv ss r) (hb : W.heap[R]? = some (.cells C 66 (0, 0))) (hR : w0.heap.size ≤ R) :
    RdC w0 (W.setCell ⟨R, k, .none⟩ x) M tv vv ss r ∧ KeepV W (W.setCell ⟨R, k, .none⟩ x) := by
  have ht := Turns.cell hb (P := fun t => t = 66) rfl k x
  refine ⟨⟨h.low.grown (Lib.grownBy_setCell W R k x) h.low.size (by intro q hq; cases hq; exact hR), h.hM, ht.idx h.map, Turns.row1 h.times ht (by decide), h.wavs.turns ht (by decide) (by decide)⟩, KeepV.turns ht (by decide) (by decide)⟩
def rdcells (a : Option Addr) (n c : Nat) (nv : Value) (M : Nat) (tv vv : Value) (e : Nat) : Array Value := #[.slice a n c, nv, .map (some M), tv, vv, .int .i64 (e : Int)]
/-- What a state, or what it calls, leaves: the state to go on with, the reader. -/
def MvPost (w0 : World) (R : Nat) (nv : Value) (W : World) (a : Option Addr) (n c M : Nat) (p : VSt × VRd) (bs : List UInt8) (e : Ending) (w' : World) : Prop :=
  ∃ v tv vv ss, e = .returned v ∧ IsSt w' p.1 v ∧ RdAt w0 R nv w' a n c M tv vv ss p.2 bs ∧ KeepV W w'
set_option maxRecDepth 100000 in
theorem fail_any {w0 W : World} {R : Nat} {nv : Value} {a : Option Addr} {n c M : Nat} {tv vv : Value} {ss : List Slc} {r : VRd} {bs : List UInt8} (h : RdAt w0 R nv W a n c M tv vv ss r bs) (er : Nat) :
    Calls Tryz.prog 43 #[.pointer (some ⟨R, 0, none⟩), .int .i64 (er : Int)] W (MvPost w0 R nv W a n c M (failV r er) bs) := by
  have c5 := cell_of_block h.box 5
  have f5 := unfrozen_of_block h.box 5
  have hf := h.cs.field (k := 5) (x := .int .i64 (er : Int)) h.box h.hR
  have hb : (W.setCell ⟨R, 5, .none⟩ (.int .i64 (er : Int))).heap[R]? = some (.cells #[.slice a n c, nv, .map (some M), tv, vv, .int .i64 (er : Int)] 66 (0, 0)) := by
    have := block_setCell h.box (i := 5) (.int .i64 (er : Int)); simpa using this
  have H := Lib.hid h
  have HF := Lib.hid hf
  have HB := Lib.hid hb
  clear h hf hb
  go_enter Tryz.func43, Tryz.ntmps43
  go_wp2
  go_ret
  exact ⟨_, tv, vv, ss, rfl, rfl, ⟨HB.out, H.out.hR, H.out.sees, H.out.cap, ⟨HF.out.1.low, HF.out.1.hM, HF.out.1.map, HF.out.1.times, HF.out.1.wavs⟩⟩, HF.out.2⟩
end Go.Proofs.YtgplkpfdbiapaaaGreatDoor
/- bytes.IndexAny at blanks, tabs and line ends, of more than eight bytes. -/
namespace Go.Proofs.YtgplkpfdbiapaaaGreatDoor
open Go Go.RowKit Go.Joins Go.Shelf

theorem info_set : (Tryz.prog.info? 133).map (fun i => (i.zero, i.size)) = some (some (.agg (Array.replicate 256 (.bool false))), 256) := by kernel_rfl
theorem zero_set : ∀ w, (zeroValue 133).run Tryz.prog w = .ok (.agg (Array.replicate 256 (.bool false))) w := (zero_of_info info_set).1
theorem zc_set : Tryz.zeroCells133 = Array.replicate 256 (.bool false) := by kernel_rfl
theorem should_any (n : Nat) (hn : 8 < n) (w : World) : Calls Tryz.prog 93 #[.int .i64 (n : Int)] w fun e w' => e = .returned (.bool true) ∧ w' = w := by
  have h8 : (8 : Int) < (n : Int) := by omega
  go_enter Tryz.func93, Tryz.ntmps93
  go_wp2
  go_ret
  exact ⟨rfl, rfl⟩
set_option maxRecDepth 100000 in
set_option maxHeartbeats 1600000 in
theorem idx_long (bs : List UInt8) (a : Option Addr) (n c : Nat) (w : World) (h : Sees w a n c (bs.map bv)) (hn : 8 < n) (hb : n ≤ 140737488355328) :
    Calls Tryz.prog 66 #[.slice a n c, .string gapStr] w fun e w' => e = .returned (.int .i64 (gapAt bs)) ∧ Below w.heap.size w w' := by
  have hM := Any.bytes_makeASCIISet Tryz.laysV11 zero_set (zero_of_info info_set).2 gapStr w (by decide) (fun j b hj => by
    have : b ∈ gapsL := List.mem_of_getElem? hj
    revert this; unfold gapsL; simp only [List.mem_cons, List.not_mem_nil, or_false]; rintro (rfl | rfl | rfl | rfl) <;> decide)
  rw [gapStr_list] at hM
  have hcs := fun (x : UInt8) => Lib.setCells_at gapsL x
  have hsz0 := Lib.setCells_size gapsL
  have hone := Lib.setCells_one gapsL
  obtain ⟨SC, hSC⟩ : ∃ SC, SC = Lib.setCells gapsL := ⟨_, rfl⟩
  rw [← hSC] at hM hsz0 hone
  have hcs : ∀ x : UInt8, SC[x.toNat]? = some (.bool (gapV x)) := fun x => by rw [hSC, gap_iff]; exact hcs x
  clear hSC
  have hM : Calls Tryz.prog 88 #[.string gapStr] w fun e w' => e = .returned (.tuple #[.agg SC, .bool true]) ∧ w' = w.alloc (.cells SC 133) := hM
  have hsc : (storeCells ⟨w.heap.size + 1, 0, none⟩ SC.toList 0).run Tryz.prog ((w.alloc (.cells SC 133)).alloc (.cells (Array.replicate 256 (.bool false)) 133)) = .ok () ((w.alloc (.cells SC 133)).alloc (.cells SC 133)) := by
    have := run_storeCells_new (P := Tryz.prog) (w.alloc (.cells SC 133)) 133 (Array.replicate 256 (.bool false)) SC (by rw [hsz0]; exact (zero_of_info info_set).2) (by rw [hsz0, Array.size_replicate]) hone
    simpa using this
  have hat : ∀ x : UInt8, ((w.alloc (.cells SC 133)).alloc (.cells SC 133)).cell? ⟨w.heap.size + 1, x.toNat, none⟩ = some (.bool (gapV x)) := fun x => by
    rw [World.cell?_alloc_at _ _ _ _ (by simp), hcs]
  have hBW : Below w.heap.size w ((w.alloc (.cells SC 133)).alloc (.cells SC 133)) := ext_trans (ext_alloc _ _) (ext_alloc _ _)
  obtain ⟨gs, hgs⟩ : ∃ gs, gs = gapStr := ⟨_, rfl⟩
  have hsz : gs.size = 4 := by rw [hgs]; rfl
  have E : gs.toList.isEmpty = false := by rw [hgs, ByteArray.toList_eq]; rfl
  rw [← hgs] at hM ⊢
  clear hgs
  have hl := h.lenMap
  obtain ⟨b, off, rfl, hbw⟩ := h.addr (by omega)
  have HM := Lib.hid hM
  have HB := Lib.hid hBW
  have HAT := Lib.hid hat
  have HS := Lib.hid (h.below hBW)
  have HL := Lib.hid hl
  have h8z : decide ((8 : Int) < (n : Int)) = true := decide_eq_true (by omega)
  have hn1 : ((n : Int) == 1) = false := beq_eq_false_iff_ne.2 (by omega)
  clear hM hBW hat h hl hcs hone
  go_enter Tryz.func66, Tryz.ntmps66
  have HSH := Lib.hid (should_any n hn)
  go_wp2_with (first
    | (go_at_call 93; refine (HSH.out _).mono ?_; rintro e w' ⟨rfl, hw⟩; rw [hw])
    | (go_at_call 88; refine HM.out.mono ?_; rintro e w' ⟨rfl, hw⟩; rw [hw]))
  rw [zc_set]
  simp only [hsc, Result.andThen]
  rw [Oper.upon_skip]
  clear hsc
  go_wp2
  go_loopg [62] n (fun g i wr => ∃ k : Nat, k + g = n ∧ i = .int .i64 k ∧ wr = (w.alloc (.cells SC 133)).alloc (.cells SC 133) ∧ Hid (∀ j, j < k → gapV (bs.getD j 0) = false))
  case atStart => exact ⟨0, by omega, rfl, rfl, fun j hj => absurd hj (by omega)⟩
  case round =>
    obtain ⟨k, hkg, rfl, rfl, hno⟩ := hrel
    have HNO := Lib.hid hno.out
    clear hno
    cases gk with
    | zero =>
      obtain rfl : k = n := by omega
      go_wp2
      go_ret
      exact ⟨by rw [gapAt_none (fun j hj => HNO.out j (by rw [← HL.out]; exact hj))]; rfl, HB.out⟩
    | succ g =>
      have hk : k < n := by omega
      have hkz : (k : Int) < (n : Int) := by omega
      have hcx := HS.out.byte k hk
      obtain ⟨u, hu⟩ : ∃ u, u = bs.getD k 0 := ⟨_, rfl⟩
      have hat := HAT.out u
      rw [← hu] at hcx
      have HU := Lib.hid hu
      have W1 : IntKind.i64.wrap ((k : Int) + 1) = ((k + 1 : Nat) : Int) := by rw [IntWalk.i64_in _ (by omega)]; omega
      have hcon := Any.bytes_asciiSet_contains Tryz.laysV16 (w.heap.size + 1) u (gapV u) _ hat
      have hcon : Calls Tryz.prog 94 #[.pointer (some ⟨w.heap.size + 1, 0, none⟩), .int .u8 (u.toNat : Int)] ((w.alloc (.cells SC 133)).alloc (.cells SC 133)) fun e w' => e = .returned (.bool (gapV u)) ∧ w' = (w.alloc (.cells SC 133)).alloc (.cells SC 133) := hcon
      have HC := Lib.hid hcon
      clear hu hat hcon
      obtain ⟨q, hq⟩ : ∃ q, q = gapV u := ⟨_, rfl⟩
      rw [← hq] at HC
      have HQ : Hid (gapV (bs.getD k 0) = q) := by unfold Hid; rw [← HU.out]; exact hq.symm
      clear hq
      cases q with
      | true =>
        go_wp2_with (refine HC.out.mono ?_; rintro e w' ⟨rfl, hw⟩; rw [hw])
        go_ret
        exact ⟨by rw [gapAt_hit (by rw [HL.out]; exact hk) HNO.out HQ.out]; rfl, HB.out⟩
      | false =>
        have HN : Hid (∀ j, j < k + 1 → gapV (bs.getD j 0) = false) := fun j hj => by
          rcases Nat.lt_or_ge j k with h | h
          · exact HNO.out j h
          · have : j = k := by omega
            subst this
            exact HQ.out
        go_wp2_with (refine HC.out.mono ?_; rintro e w' ⟨rfl, hw⟩; rw [hw])
        go_roundg g
        case measure => omega
        case rel => exact ⟨k + 1, by omega, rfl, rfl, HN⟩
end Go.Proofs.YtgplkpfdbiapaaaGreatDoor
/- utf8.DecodeRune of bytes that begin with no ASCII byte. -/
namespace Go.Proofs.YtgplkpfdbiapaaaGreatDoor
open Go Go.RowKit Go.Joins Go.Shelf

theorem decode_any (w0 : World) (G : GapEnv w0) (ds : List UInt8) (a : Option Addr) (m c : Nat) (W : World) (h : Sees W a m c (ds.map bv)) (hm : 1 ≤ m) (h0 : 128 ≤ (ds.getD 0 0).toNat) (hb : Below w0.heap.size w0 W) :
    Calls Tryz.prog 95 #[.slice a m c] W (DecPost ds m W) := by
  have hl := h.lenMap
  obtain ⟨b, off, rfl, hbw⟩ := h.addr (by omega)
  have hsz : (str ds).size = m := by rw [size_str]; exact hl
  have hget : ∀ j, j < m → (str ds).get! j = ds.getD j 0 := fun j hj => by
    simp [str, ByteArray.get!, List.getD, List.getElem?_eq_getElem (show j < ds.length by omega)]
  have hget2 : ∀ j, ((str ds).get! j).toNat < 256 := fun j => UInt8.toNat_lt _
  have hT : Lib.Utf8Tabs 3 4 W := by
    have hcell : ∀ (g o : Nat) v, w0.cell? ⟨g, o, none⟩ = some v → W.cell? ⟨g, o, none⟩ = some v := fun g o v hv => (hb.cell (p := ⟨g, o, none⟩) (lt_of_cellV hv)).trans hv
    exact ⟨fun c hc => hcell _ _ _ (G.utf.1 c hc), fun i hi => ⟨hcell _ _ _ (G.utf.2 i hi).1, hcell _ _ _ (G.utf.2 i hi).2⟩⟩
  have hc := Any7.utf8_DecodeRune Tryz.lays7dec (str ds) b off c W hT (fun j hj => by
    rw [hsz] at hj
    rw [h.byte j hj, hget j hj])
  rw [hsz] at hc
  refine Calls.mono hc ?_
  rintro e w' ⟨rfl, hbw'⟩
  have hd : Lib.decodeGo (str ds) = Lib.decodeN m ((str ds).get! 0).toNat ((str ds).get! 1).toNat ((str ds).get! 2).toNat ((str ds).get! 3).toNat := by
    unfold Lib.decodeGo
    rw [if_neg (by omega), Lib.decode_at, hsz]
    rfl
  have hf := decode_far m ((str ds).get! 0).toNat ((str ds).get! 1).toNat ((str ds).get! 2).toNat ((str ds).get! 3).toNat hm (by rw [hget 0 (by omega)]; exact h0) (hget2 0) (hget2 1) (hget2 2) (hget2 3)
  rw [← hd] at hf
  obtain ⟨f1, f2, f3, f4, f5⟩ := hf
  refine ⟨_, _, rfl, f1, ?_, f2, fun j hj => ?_, hbw'⟩
  · unfold FarRune at f1; omega
  · have hk : (Lib.decodeGo (str ds)).2 ≤ 4 := by unfold FarRune at f1; omega
    have : j = 0 ∨ j = 1 ∨ j = 2 ∨ j = 3 := by omega
    rcases this with rfl | rfl | rfl | rfl
    · exact h0
    · rw [← hget 1 (by omega)]; exact f3 hj
    · rw [← hget 2 (by omega)]; exact f4 hj
    · rw [← hget 3 (by omega)]; exact f5 hj
theorem gapAt_single (u : UInt8) : gapAt [u] = if gapV u then 0 else -1 := by
  unfold gapAt takeV
  by_cases hu : gapV u = true
  · rw [if_pos hu, if_pos hu]; rfl
  · rw [if_neg hu, if_neg hu]; rfl
theorem indexAny_any (w0 : World) (G : GapEnv w0) (bs : List UInt8) (a : Option Addr) (n c : Nat) (W : World) (h : Sees W a n c (bs.map bv)) (hn : n ≤ 140737488355328) (hb : Below w0.heap.size w0 W) :
    Calls Tryz.prog 66 #[.slice a n c, .string gapStr] W fun e w' => e = .returned (.int .i64 (gapAt bs)) ∧ Below W.heap.size W w' := by
  have hl := h.lenMap
  have G' : GapEnv W := by
    have hcell : ∀ (g o : Nat) v, w0.cell? ⟨g, o, none⟩ = some v → W.cell? ⟨g, o, none⟩ = some v := fun g o v hv => (hb.cell (p := ⟨g, o, none⟩) (lt_of_cellV hv)).trans hv
    obtain ⟨m, hm⟩ := G.mx
    exact ⟨⟨fun c hc => hcell _ _ _ (G.utf.1 c hc), fun i hi => ⟨hcell _ _ _ (G.utf.2 i hi).1, hcell _ _ _ (G.utf.2 i hi).2⟩⟩, m, hcell _ _ _ hm⟩
  by_cases h8 : 8 < n
  · exact idx_long bs a n c W h h8 hn
  · by_cases h2 : 2 ≤ n
    · exact idx_short bs a n c W h h2 (by omega) G' (fun ds a m c W2 hs h1 h3 hb2 => decode_any W G' ds a m c W2 hs h1 h3 hb2)
    · by_cases h1 : n = 1
      · subst h1
        obtain ⟨b, off, rfl, hbw⟩ := h.addr (by omega)
        have hc := h.byte 0 (by omega)
        have : bs = [bs.getD 0 0] := by
          match bs, hl with
          | [x], _ => rfl
        have hone := idx_one (bs.getD 0 0) b off c W hc
        refine hone.mono fun e w' ⟨he, hw⟩ => ⟨?_, hw⟩
        obtain ⟨u, rfl⟩ : ∃ u, bs = [u] := ⟨_, this⟩
        rw [he, gapAt_single]
        rfl
      · have h0 : n = 0 := by omega
        subst h0
        have : bs = [] := List.eq_nil_of_length_eq_zero hl
        subst this
        exact idx_zero a c W
end Go.Proofs.YtgplkpfdbiapaaaGreatDoor
/- (*vcd.reader).word, by its contract. -/
namespace Go.Proofs.YtgplkpfdbiapaaaGreatDoor
open Go Go.RowKit Go.Joins Go.Shelf Go.Maps

theorem trim_skip : ∀ bs : List UInt8, Lib.trimLeftS bs gapsL = skipV bs
  | [] => rfl
  | x :: r => by
    rw [Lib.trimLeftS, List.dropWhile_cons, skipV, gap_iff]
    split
    · exact trim_skip r
    · rfl
/-- What the library's functions need, all the way. -/
theorem GapEnv.below {w W : World} (G : GapEnv w) (hb : Below w.heap.size w W) : GapEnv W := by
  have hcell : ∀ (g o : Nat) v, w.cell? ⟨g, o, none⟩ = some v → W.cell? ⟨g, o, none⟩ = some v := fun g o v hv => (hb.cell (p := ⟨g, o, none⟩) (lt_of_cellV hv)).trans hv
  obtain ⟨m, hm⟩ := G.mx
  exact ⟨⟨fun c hc => hcell _ _ _ (G.utf.1 c hc), fun i hi => ⟨hcell _ _ _ (G.utf.2 i hi).1, hcell _ _ _ (G.utf.2 i hi).2⟩⟩, m, hcell _ _ _ hm⟩
theorem trim_any (bs : List UInt8) (a : Option Addr) (n c : Nat) (w : World) (h : Sees w a n c (bs.map bv)) (hc : c ≤ maxLen) :
    Calls Tryz.prog 65 #[.slice a n c, .string gapStr] w fun e w' => e = .returned (Lib.leftV a n c (n - (skipV bs).length)) ∧ Below w.heap.size w w' := by
  have hl := h.lenMap
  have hcap := h.cap
  have h1 := Any.bytes_TrimLeft_ascii Tryz.laysV8 zero_set (zero_of_info info_set).2 a n c bs gapStr w hl h.cap (by unfold maxLen at hc; omega) (by
    intro h0
    obtain ⟨b, off, rfl, _⟩ := h.addr h0
    exact ⟨b, off, rfl, fun i hi => h.byte i hi⟩) (by decide) (fun j b hj => by
    have : b ∈ gapsL := List.mem_of_getElem? hj
    revert this; unfold gapsL; simp only [List.mem_cons, List.not_mem_nil, or_false]; rintro (rfl | rfl | rfl | rfl) <;> decide)
  rw [gapStr_list, trim_skip] at h1
  exact h1
theorem left_sees (bs : List UInt8) (a : Option Addr) (n c : Nat) (w : World) (h : Sees w a n c (bs.map bv)) : ∃ a2 c2, Lib.leftV a n c (n - (skipV bs).length) = .slice a2 (skipV bs).length c2 ∧ Sees w a2 (skipV bs).length c2 ((skipV bs).map bv) ∧ c2 ≤ c := by
  have hl := h.lenMap
  have hle := skip_le bs
  unfold Lib.leftV
  by_cases e : n - (skipV bs).length = n
  · rw [if_pos e]
    have h0 : (skipV bs).length = 0 := by omega
    refine ⟨none, 0, by rw [h0], ?_, Nat.zero_le _⟩
    rw [h0]
    exact Sees.zero _ _ _ _ (fun _ => rfl) (by rw [List.eq_nil_of_length_eq_zero h0]; rfl)
  · rw [if_neg e]
    obtain ⟨a2, ec, see⟩ := h.cut (n - (skipV bs).length) n (by omega) (Nat.le_refl _)
    rw [show n - (n - (skipV bs).length) = (skipV bs).length by omega] at ec see
    refine ⟨a2, c - (n - (skipV bs).length), ?_, ?_, by omega⟩
    · rw [← ec]
      unfold Lib.fromV sliced
      rw [Nat.mul_one, show n - (n - (skipV bs).length) = (skipV bs).length by omega]
    · have e2 : (skipV bs).map bv = List.drop (n - (skipV bs).length) (List.take n (bs.map bv)) := by
        rw [List.take_of_length_le (by rw [List.length_map]; omega), List.map_drop.symm]
        congr 1
        rw [← hl]
        exact skip_eq bs
      rw [e2]
      exact see
/-- What 'word' leaves: the word, the reader moved on. -/
def WordPost (w0 : World) (R : Nat) (nv : Value) (W : World) (M : Nat) (tv vv : Value) (ss : List Slc) (r : VRd) (bs : List UInt8) (e : Ending) (w' : World) : Prop :=
  e = .returned (sv (wordL bs)) ∧ KeepV W w' ∧ ∃ a n c, RdAt w0 R nv w' a n c M tv vv ss r (restL bs)
theorem gapAt_len (bs : List UInt8) : (gapAt bs < 0 ∧ takeV bs = bs ∧ dropV bs = []) ∨ (0 ≤ gapAt bs ∧ gapAt bs = ((takeV bs).length : Int) ∧ (takeV bs).length < bs.length) := by
  have h := take_len bs
  unfold gapAt
  by_cases e : (takeV bs).length = bs.length
  · left
    rw [if_pos e]
    refine ⟨by omega, ?_, ?_⟩
    · rw [take_eq bs, e, List.take_length]
    · rw [drop_eq bs, e, List.drop_length]
  · right
    rw [if_neg e]
    refine ⟨by omega, rfl, by omega⟩
set_option maxRecDepth 100000 in
set_option maxHeartbeats 1600000 in
theorem word_any (w0 : World) (G : GapEnv w0) (W : World) (R : Nat) (nv : Value) (a : Option Addr) (n c M : Nat) (tv vv : Value) (ss : List Slc) (r : VRd) (bs : List UInt8) (h : RdAt w0 R nv W a n c M tv vv ss r bs) (hn : n ≤ 140737488355328) :
    Calls Tryz.prog 42 #[.pointer (some ⟨R, 0, none⟩)] W (WordPost w0 R nv W M tv vv ss r bs) := by
  have c0 := cell_of_block h.box 0
  obtain ⟨a2, c2, e2, see2, hc2⟩ := left_sees bs a n c w0 h.sees
  have ht := trim_any bs a n c W (h.sees.below h.cs.low) h.cap
  rw [e2] at ht
  have hle := skip_le bs
  have hln := h.sees.lenMap
  obtain ⟨ds, hds⟩ : ∃ ds, ds = skipV bs := ⟨_, rfl⟩
  rw [← hds] at ht see2 hle
  have HDS : Hid (wordL bs = takeV ds ∧ restL bs = dropV ds) := by unfold Hid wordL restL; rw [hds]; exact ⟨rfl, rfl⟩
  have hix := fun (W1 : World) (hb : Below w0.heap.size w0 W1) => indexAny_any w0 G ds a2 ds.length c2 W1 (see2.below hb) (by omega) hb
  have H := Lib.hid h
  have HT := Lib.hid ht
  have HI := Lib.hid hix
  have HS := Lib.hid see2
  have hc3 : c2 ≤ maxLen := Nat.le_trans hc2 h.cap
  have hcap2 := see2.cap
  clear h ht hix see2 e2 hds hc2
  go_enter Tryz.func42, Tryz.ntmps42
  go_wp2_with fail
  refine HT.out.mono ?_
  rintro e w1 ⟨rfl, hb1⟩
  have HB1 := Lib.hid hb1
  have hlow1 : Below w0.heap.size w0 w1 := H.out.cs.low.trans (hb1.mono H.out.cs.low.size)
  have HL1 := Lib.hid hlow1
  clear hb1 hlow1
  go_wp2_with fail
  refine (HI.out w1 HL1.out).mono ?_
  rintro e w2 ⟨rfl, hb2⟩
  have HB2 : Hid (Below W.heap.size W w2) := ext_trans HB1.out hb2
  have H2 := Lib.hid (H.out.below HB2.out)
  have cc0 := cell_of_block H2.out.box 0
  have ff0 := unfrozen_of_block H2.out.box 0
  clear hb2 c0
  obtain ⟨m, hm⟩ : ∃ m, m = (takeV ds).length := ⟨_, rfl⟩
  have hml : m ≤ ds.length := by have := take_len ds; omega
  obtain ⟨a3, e3, see3⟩ := HS.out.cut m ds.length hml (Nat.le_refl _)
  obtain ⟨a4, e4, see4⟩ := HS.out.cut 0 m (Nat.zero_le _) hml
  have q1 := fun W => (run_from (P := Tryz.prog) Tryz.underlying27 Tryz.sizeOf5 W a2 ds.length c2 m (m : Int) rfl hml).trans (congrArg (fun v => Result.ok v W) (show sliced a2 m ds.length c2 1 = _ from e3))
  have q2 := fun W => (run_upto (P := Tryz.prog) Tryz.underlying27 Tryz.sizeOf5 W a2 ds.length c2 m (m : Int) rfl (Nat.le_trans hml hcap2)).trans (congrArg (fun v => Result.ok v W) (show sliced a2 0 m c2 1 = _ from e4))
  simp only [Nat.sub_zero] at see4 q2 e4
  have see5 : Sees w0 a3 (ds.length - m) (c2 - m) ((dropV ds).map bv) := by
    have e : (dropV ds).map bv = List.drop m (List.take ds.length (ds.map bv)) := by rw [List.take_of_length_le (by rw [List.length_map]; exact Nat.le_refl _), drop_eq ds, ← hm, List.map_drop]
    rw [e]; exact see3
  have see6 : Sees w0 a4 m c2 ((takeV ds).map bv) := by
    have e : (takeV ds).map bv = List.drop 0 (List.take m (ds.map bv)) := by rw [List.drop_zero, ← List.map_take]; congr 1; rw [hm]; exact take_eq ds
    rw [e]; exact see4
  have hf := H2.out.cs.field (k := 0) (x := .slice a3 (ds.length - m) (c2 - m)) H2.out.box H2.out.hR
  have hbx : (w2.setCell ⟨R, 0, .none⟩ (.slice a3 (ds.length - m) (c2 - m))).heap[R]? = some (.cells #[.slice a3 (ds.length - m) (c2 - m), nv, .map (some M), tv, vv, .int .i64 (r.e : Int)] 66 (0, 0)) := by
    have := block_setCell H2.out.box (i := 0) (.slice a3 (ds.length - m) (c2 - m)); simpa using this
  have hstr := (see6.below hf.1.low).str (P := Tryz.prog) 27 5 9 Tryz.underlying27 Tryz.underlying5 Tryz.underlying9
  have hdl : (dropV ds).length = ds.length - m := by rw [drop_eq ds, ← hm, List.length_drop]
  have HEND : Hid (WordPost w0 R nv W M tv vv ss r bs (.returned (.string (str (takeV ds)))) (w2.setCell ⟨R, 0, .none⟩ (.slice a3 (ds.length - m) (c2 - m)))) := by
    refine ⟨by rw [HDS.out.1]; rfl, (KeepV.below HB2.out).trans hf.2, a3, ds.length - m, c2 - m, ?_⟩
    refine ⟨hbx, H2.out.hR, ?_, Nat.le_trans (Nat.sub_le _ _) hc3, hf.1⟩
    rw [HDS.out.2]
    exact see5
  have HGL := gapAt_len ds
  obtain ⟨g, hg⟩ : ∃ g, g = gapAt ds := ⟨_, rfl⟩
  rw [← hg, ← hm] at HGL
  rw [← hg]
  obtain ⟨tk, htk⟩ : ∃ tk, tk = str (takeV ds) := ⟨_, rfl⟩
  rw [← htk] at hstr HEND
  obtain ⟨nn, hnn⟩ : ∃ nn, nn = ds.length - m := ⟨_, rfl⟩
  obtain ⟨cc, hcc⟩ : ∃ cc, cc = c2 - m := ⟨_, rfl⟩
  rw [← hnn, ← hcc] at q1 hstr HEND
  have hgm : g = (m : Int) ∧ ¬ (g < 0) ∨ g < 0 ∧ ds.length = m := by
    rcases HGL with ⟨h1, h2, _⟩ | ⟨h1, h2, _⟩
    · right; exact ⟨h1, by rw [hm, h2]⟩
    · left; exact ⟨h2, by omega⟩
  clear see3 see4 see5 see6 hf hbx hdl hg HGL hm e3 e4 htk hnn hcc hcap2 hln hle
  rcases hgm with ⟨rfl, hneg⟩ | ⟨hneg, hdm⟩
  · go_wp2
    go_ret
    exact HEND.out
  · rw [hdm] at q1 q2 ⊢
    clear hdm
    go_wp2
    go_ret
    exact HEND.out
end Go.Proofs.YtgplkpfdbiapaaaGreatDoor
namespace Go.Proofs.YtgplkpfdbiapaaaGreatDoor
open Go Go.RowKit Go.Sort Go.Joins Go.Shelf

def TabV (w : World) : Prop := Lib.TabIs Tryz.prog w "internal/strconv.uint64pow10" .u64 Lib.pow10Tab
theorem TabV.below {w w' : World} (h : TabV w) (hb : Below w.heap.size w w') : TabV w' := by
  unfold TabV Lib.TabIs at h ⊢
  unfold World.var? at h ⊢
  cases hg : Tryz.prog.globalNamed "internal/strconv.uint64pow10" with
  | none => simp [hg] at h
  | some g =>
    simp only [hg, Option.bind_some] at h ⊢
    have hlt : g < w.heap.size := by
      rcases Nat.lt_or_ge g w.heap.size with h' | h'
      · exact h'
      · simp [Array.getElem?_eq_none h'] at h
    rw [hb.block g hlt]
    exact h
/-- What reading and writing of numbers needs. -/
structure NumEnv (w : World) : Prop where
  tab : TabV w
  syn : ∃ ev, w.cell? ⟨7, 0, none⟩ = some ev ∧ (ev = .nilIface ∨ ∃ te pe, ev = .iface te pe)
  rng : ∃ ev, w.cell? ⟨8, 0, none⟩ = some ev ∧ (ev = .nilIface ∨ ∃ te pe, ev = .iface te pe)
theorem NumEnv.below {w W : World} (G : NumEnv w) (hb : Below w.heap.size w W) : NumEnv W := by
  have hcell : ∀ (g o : Nat) v, w.cell? ⟨g, o, none⟩ = some v → W.cell? ⟨g, o, none⟩ = some v := fun g o v hv => (hb.cell (p := ⟨g, o, none⟩) (lt_of_cellV hv)).trans hv
  obtain ⟨a, h1, h2⟩ := G.syn
  obtain ⟨b, h3, h4⟩ := G.rng
  exact ⟨G.tab.below hb, ⟨a, hcell _ _ _ h1, h2⟩, ⟨b, hcell _ _ _ h3, h4⟩⟩
set_option maxRecDepth 100000 in
theorem fmt_small (u : Nat) (hu : u < 100) (w : World) :
    Calls Tryz.prog 131 #[.int .u64 (u : Int), .int .i64 10] w fun e w' => e = .returned (sv (Lib.decDigits u)) ∧ Below w.heap.size w w' := by
  have iu : (u : Int) < 100 := by omega
  have hwr : IntKind.i64.wrap (u : Int) = (u : Int) := IntWalk.i64_in _ (by omega)
  go_enter Tryz.func131, Tryz.ntmps131
  go_wp2_with (go_at_call 106; refine (Tryz.internal_strconv_small u hu _).mono ?_; rintro e w' ⟨rfl, rfl⟩)
  go_ret
  exact ⟨rfl, Below.refl _ _⟩
set_option maxRecDepth 100000 in
set_option maxHeartbeats 1600000 in
theorem fmt_big (u : Nat) (hu : 100 ≤ u) (hu64 : u < 18446744073709551616) (w : World) (htab : TabV w) :
    Calls Tryz.prog 131 #[.int .u64 (u : Int), .int .i64 10] w fun e w' => e = .returned (sv (Lib.decDigits u)) ∧ Below w.heap.size w w' := by
  have hu1 : 1 ≤ u := by omega
  have hnd20 : Lib.nDigits u ≤ 20 := by have := Lib.numDigits_eq u hu1 hu64; split at this <;> omega
  have hal : Tryz.prog.arrayLen 153 = 24 := by simp [Program.arrayLen, Tryz.underlying153]
  have hsl : ∀ W, (Instr.sliceAt 153 (.pointer (some ⟨w.heap.size, 0, none⟩)) none (some (.int .i64 (Lib.nDigits u : Int))) none).run Tryz.prog W = .ok (.slice (some ⟨w.heap.size, 0, none⟩) (Lib.nDigits u) 24) W := fun W => by
    rw [run_sliceAt_array_h W 153 ⟨w.heap.size, 0, none⟩ (by simp [Program.arrayLen, Program.elem, Tryz.underlying153]) .i64 (Lib.nDigits u : Int) (by omega) (by rw [hal]; omega)]
    go_simp
  have hH0 := Lib.holds_zero0 w 153 (Lib.nDigits u) (by omega)
  have hfmt := Tryz.internal_strconv_formatBase10 w.heap.size 0 24 u (Array.replicate (Lib.nDigits u) 0) (w.alloc (.cells Lib.zeros24 153)) hH0 (by rw [Array.size_replicate]; exact Lib.lt_pow_nDigits u) hu64 (by rw [Array.size_replicate]; omega)
  rw [Array.size_replicate] at hfmt
  have HH0 := Lib.hid hH0
  have iu : ¬ ((u : Int) < 100) := by omega
  clear hH0 hal
  go_enter Tryz.func131, Tryz.ntmps131
  go_wp2_with (first
    | (go_at_call 107; refine (Tryz.internal_strconv_numDigits u hu1 hu64 _ (Lib.tabIs_alloc htab _)).mono ?_; rintro e w' ⟨rfl, rfl⟩))
  refine hfmt.mono ?_
  rintro e w' ⟨rfl, k, v', dk, rfl, hF⟩
  have hcv : (convert 27 9 (.slice (some ⟨w.heap.size, 0, none⟩) (Lib.nDigits u) 24)).run Tryz.prog ((putRow (fun (b : UInt8) => Value.int .u8 (b.toNat : Int)) (w.alloc (.cells Lib.zeros24 153)) w.heap.size 0 dk).drewN k) = .ok (sv (Lib.decDigits u)) ((putRow (fun (b : UInt8) => Value.int .u8 (b.toNat : Int)) (w.alloc (.cells Lib.zeros24 153)) w.heap.size 0 dk).drewN k) := by
    have h := run_convert_bytes_back (P := Tryz.prog) ((putRow (fun (b : UInt8) => Value.int .u8 (b.toNat : Int)) (w.alloc (.cells Lib.zeros24 153)) w.heap.size 0 dk).drewN k) 27 9 5 ⟨w.heap.size, 0, none⟩ 24 (Lib.decDigits u) Tryz.underlying27 Tryz.underlying5 Tryz.underlying9 (fun j hj => by
      rw [Lib.row_is_numeral hF j hj, Lib.add_plain, World.cell?_drewN]
      exact cell?_putRow (fun (b : UInt8) => Value.int .u8 (b.toNat : Int)) _ w.heap.size 0 _ dk HH0.out (by rw [hF.size, Array.size_replicate]) j (by rw [hF.size]; rw [Lib.decDigits_length] at hj; exact hj))
    rw [Lib.decDigits_length] at h
    exact h
  obtain ⟨os, eo⟩ := Lib.fin_at w (.cells Lib.zeros24 153) dk k 0
  have hnx2 : Below w.heap.size w ((putRow (fun (b : UInt8) => Value.int .u8 (b.toNat : Int)) (w.alloc (.cells Lib.zeros24 153)) w.heap.size 0 dk).drewN k) := by rw [eo]; exact Lib.below_grow w.heap.size w (Nat.le_refl _) k os
  have HX := Lib.hid hnx2
  clear hnx2 eo hfmt hF HH0
  generalize (putRow (fun (b : UInt8) => Value.int .u8 (b.toNat : Int)) (w.alloc (.cells Lib.zeros24 153)) w.heap.size 0 dk).drewN k = W2 at *
  go_wp2
  go_ret
  exact ⟨rfl, HX.out⟩
theorem fmt_any (u : Nat) (hu64 : u < 18446744073709551616) (w : World) (htab : TabV w) :
    Calls Tryz.prog 118 #[.int .u64 (u : Int), .int .i64 10] w fun e w' => e = .returned (sv (Lib.decDigits u)) ∧ Below w.heap.size w w' := by
  have h : Calls Tryz.prog 131 #[.int .u64 (u : Int), .int .i64 10] w fun e w' => e = .returned (sv (Lib.decDigits u)) ∧ Below w.heap.size w w' := by
    by_cases h : u < 100
    · exact fmt_small u h w
    · exact fmt_big u (by omega) hu64 w htab
  have H := Lib.hid h
  clear h
  go_enter Tryz.func118, Tryz.ntmps118
  go_wp2_with (refine H.out.mono ?_; rintro e w' ⟨rfl, hb⟩)
  go_ret
  exact ⟨rfl, hb⟩
end Go.Proofs.YtgplkpfdbiapaaaGreatDoor
