/- (*vcd.reader).change, by its contract. -/
import Derived.Test.YtgplkpfdbiapaaaGreatDoorLib
import Derived.Test.YtgplkpfdbiapaaaGreatDoorGA3
import Derived.Test.YtgplkpfdbiapaaaGreatDoorRows
import Derived.Test.YtgplkpfdbiapaaaGreatDoorShelf
import Derived.BigQuiet
import Derived.Deep.AppendLies
import Derived.Deep.QuietTactic
import Derived.Deep.RegionLaw
import Derived.Deep.RegionWith
import Derived.KernelRfl
import Derived.Laws.EntriesVeiled
import Derived.Laws.IdiomCopy
import Derived.Lib.AppendStr
import Derived.Lib.ConvBytes
import Derived.Lib.Hide
import Derived.Lib.ItoaNum
import Derived.Lib.ParseIntBCases
import Derived.Lib.SlBytesRow
import Derived.Lib.SmallJoins
import Derived.Shelf.Bytes.SlSmallAll
import Derived.Shelf.Pu.Lower
import Derived.Shelf.Pu.ToError
import Derived.Shelf.Pu.ToErrorRange
import Derived.WalkKit
import Derived.WalkLawsBesides
import Derived.WalkSpells
import Derived.Test.YtgplkpfdbiapaaaGreatDoorVdSpec
import Derived.Test.YtgplkpfdbiapaaaGreatDoorGG
import Derived.Test.YtgplkpfdbiapaaaGreatDoorShelf2
import Derived.Deep.RegionHeld3
import Derived.Laws.Runes
import Derived.Laws.Tables
import Derived.Lib.AppendIntMem
import Derived.Lib.BufferWrite
import Derived.Lib.DecodeN
import Derived.Lib.Index
import Derived.Lib.IndexEntry
import Derived.Maps.AppendAt
import Derived.Maps.Own
import Derived.Maps.OwnOps
import Derived.Maps.OwnSet
import Derived.Shelf.Spec.DecodeRune
import Derived.Shelf.Unicode.DecodeSlow
import Derived.Test.YtgplkpfdbiapaaaGreatDoorOwn
import Derived.Test.YtgplkpfdbiapaaaGreatDoorNBase
import Derived.Test.YtgplkpfdbiapaaaGreatDoorGA1
import Derived.Test.YtgplkpfdbiapaaaGreatDoorNHeap
import Derived.Deep.CutRange
import Derived.Lib.AppendZeros
import Derived.OrdersHeld
import Derived.Test.YtgplkpfdbiapaaaGreatDoorVdHold
import Derived.Laws.CopyOwn
import Derived.Laws.OwnMore
import Derived.Lib.MakeNoZero
/- strconv.ParseUint at ten and thirty-one bits, by its contract. -/
namespace Go.Proofs.YtgplkpfdbiapaaaGreatDoor
open Go Go.RowKit Go.Joins Go.Shelf

theorem below_bytesV (w : World) (e : TypeId) (s : ByteArray) : Below w.heap.size w (Lib.bytesWorld w e s) :=
  ⟨rfl, rfl, rfl, by rw [Lib.bytesWorld_size]; omega, fun k hk => Lib.bytesWorld_at_old w e s k hk⟩
theorem lower_rng : ∀ n : Fin 256, (decide (0 ≤ bits .or .u8 (n.val : Int) 32) && decide (bits .or .u8 (n.val : Int) 32 < 256)) = true := by decide +kernel
theorem lower_at (x : Nat) (h : x < 256) : 0 ≤ bits .or .u8 (x : Int) 32 ∧ bits .or .u8 (x : Int) 32 < 256 := by
  have := lower_rng ⟨x, h⟩
  rw [Bool.and_eq_true] at this
  exact ⟨of_decide_eq_true this.1, of_decide_eq_true this.2⟩
theorem lower_any (x : Nat) (w : World) : Calls Tryz.prog 135 #[.int .u8 (x : Int)] w fun e w' => e = .returned (.int .u8 (bits .or .u8 (x : Int) 32)) ∧ w' = w :=
  AnyPu.internal_strconv_lower { Tryz.laysPu14 with } (x : Int) w
/-- What ParseUint answers, inside. -/
def puV (r : Lib.NumEnd Nat) : Value := match r with
  | .ok u => .tuple #[.int .u64 (u : Int), .nilIface]
  | .range => .tuple #[.int .u64 2147483647, .iface 179 (.int .i64 1)]
  | _ => .tuple #[.int .u64 0, .iface 179 (.int .i64 2)]
/-- What ends at a letter that is no digit. -/
def badN : Lib.NumEnd Nat := Lib.parseUintB 0 []
theorem pu_bad {M acc : Nat} {c : UInt8} {r : List UInt8} (h : c.toNat < 48 ∨ 57 < c.toNat) : Lib.parseUintM M acc (c :: r) = badN := by
  rw [Lib.parseUintM, if_neg (by omega)]
  rfl
theorem pu_step {acc : Nat} {c : UInt8} {r : List UInt8} (h1 : 48 ≤ c.toNat) (h2 : c.toNat ≤ 57) (ha : acc ≤ 2147483647) : Lib.parseUintM 2147483647 acc (c :: r) = if 2147483647 < acc * 10 + (c.toNat - 48) then .range else Lib.parseUintM 2147483647 (acc * 10 + (c.toNat - 48)) r := by
  rw [Lib.parseUintM, if_pos ⟨h1, h2⟩, if_neg (by omega)]
theorem drop_getD (l : List UInt8) (k : Nat) (h : k < l.length) : l.drop k = l.getD k 0 :: l.drop (k + 1) := by
  rw [List.drop_eq_getElem_cons h]
  simp [List.getD, List.getElem?_eq_getElem h]
set_option maxRecDepth 100000 in
set_option maxHeartbeats 1600000 in
theorem pu31_any (l : List UInt8) (w : World) (hn : l.length ≤ 1000000000) (h0 : l ≠ []) :
    Calls Tryz.prog 129 #[.string (str l), .int .i64 10, .int .i64 31] w fun e w' => e = .returned (puV (Lib.parseUintB 31 l)) ∧ Below w.heap.size w w' := by
  have q := fun (W : World) => Lib.run_convert_string_bytes (P := Tryz.prog) W 9 27 5 (str l) Tryz.underlying9 Tryz.underlying27 Tryz.underlying5
  have hl : (str l).size = l.length := size_str l
  have E : (str l).toList.isEmpty = false := by
    rw [ByteArray.toList_eq]
    cases l with
    | nil => exact absurd rfl h0
    | cons => rfl
  have e31 : (2 : Nat) ^ 31 - 1 = 2147483647 := by decide
  have HE : Hid (Lib.parseUintB 31 l = Lib.parseUintM 2147483647 0 l) := by unfold Hid Lib.parseUintB; rw [if_neg h0, e31]
  have hb := below_bytesV w 5 (str l)
  have HB := Lib.hid hb
  rw [hl] at q
  have HL := Lib.hid hl
  have hcell : ∀ k, k < l.length → (Lib.bytesWorld w 5 (str l)).cell? ⟨w.heap.size, k, none⟩ = some (.int .u8 ((l.getD k 0).toNat : Int)) := fun k hk => by
    have := Lib.bytesWorld_cell w 5 (str l) k (by rw [hl]; exact hk)
    simpa [str] using this
  have HC := Lib.hid hcell
  clear e31 hb hcell
  go_enter Tryz.func129, Tryz.ntmps129
  go_wp2
  generalize hW : Lib.bytesWorld w 5 (str l) = W1 at *
  go_loop [12, 13, 15, 16, 17, 101] (fun us n _ _ _ i => ∃ (k z : Nat), k ≤ l.length ∧ z ≤ 2147483647 ∧ i = .int .i64 k ∧ us = .bool false ∧ n = .int .u64 z ∧ Hid (Lib.parseUintB 31 l = Lib.parseUintM 2147483647 z (l.drop k))) (fun _ _ _ _ _ i => l.length - (intOf i).toNat)
  case atStart => exact ⟨0, 0, Nat.zero_le _, by omega, rfl, rfl, rfl, HE.out⟩
  case round =>
    obtain ⟨k, z, hk, hz, rfl, rfl, rfl, hinv⟩ := hrel
    by_cases hlt : k < l.length
    · obtain ⟨x, hx⟩ : ∃ x : Nat, x = (l.getD k 0).toNat := ⟨_, rfl⟩
      have hx256 : x < 256 := by rw [hx]; exact UInt8.toNat_lt _
      have hcx := HC.out k hlt
      rw [← hx] at hcx
      have hinv2 := hinv.out
      rw [drop_getD l k hlt] at hinv2
      by_cases hd : 48 ≤ x ∧ x ≤ 57
      · obtain ⟨hd1, hd2⟩ := hd
        rw [pu_step (by rw [← hx]; exact hd1) (by rw [← hx]; exact hd2) hz, ← hx] at hinv2
        obtain ⟨d, hd⟩ : ∃ d : Nat, d = x - 48 := ⟨_, rfl⟩
        have hd9 : d ≤ 9 := by omega
        rw [← hd] at hinv2
        have t1 : ((x : Int) == 95) = false := beq_eq_false_iff_ne.2 (by omega)
        have t2 : (48 : Int) ≤ (x : Int) := by omega
        have t3 : (x : Int) ≤ 57 := by omega
        have w1 : IntKind.u8.wrap ((x : Int) - 48) = (d : Int) := by rw [IntWalk.u8_in _ (by omega)]; omega
        have t4 : ¬ ((10 : Int) ≤ (d : Int)) := by omega
        have t5 : ¬ ((1844674407370955162 : Int) ≤ (z : Int)) := by omega
        obtain ⟨p, hp⟩ : ∃ p : Nat, p = z * 10 := ⟨_, rfl⟩
        obtain ⟨y, hy⟩ : ∃ y : Nat, y = p + d := ⟨_, rfl⟩
        have w2 : IntKind.u64.wrap ((z : Int) * 10) = (p : Int) := by rw [IntWalk.u64_in _ (by omega)]; omega
        have w3 : IntKind.u64.wrap (d : Int) = (d : Int) := IntWalk.u64_in _ (by omega)
        have w4 : IntKind.u64.wrap ((p : Int) + (d : Int)) = (y : Int) := by rw [IntWalk.u64_in _ (by omega)]; omega
        have t6 : ¬ ((y : Int) < (p : Int)) := by omega
        have W1 : IntKind.i64.wrap ((k : Int) + 1) = ((k + 1 : Nat) : Int) := by rw [IntWalk.i64_in _ (by omega)]; omega
        rw [← hp, ← hy] at hinv2
        have HI := Lib.hid hinv2
        by_cases hbig : 2147483647 < y
        · have t7 : (2147483647 : Int) < (y : Int) := by omega
          have HBG := Lib.hid hbig
          clear hx hinv2 hinv hd hp hy hd1 hd2 hbig hd9 hk hz hx256
          go_wp2
          go_ret2
          exact ⟨by rw [HI.out, if_pos HBG.out]; rfl, HB.out⟩
        · have t7 : ¬ ((2147483647 : Int) < (y : Int)) := by omega
          have hy3 : y ≤ 2147483647 := by omega
          have hk1 : k + 1 ≤ l.length := hlt
          have HI2 : Hid (Lib.parseUintB 31 l = Lib.parseUintM 2147483647 y (l.drop (k + 1))) := by unfold Hid; rw [HI.out, if_neg (by omega)]
          clear hx hinv2 hinv hd hp hy hd1 hd2 hbig hd9 hx256 HI
          go_wp2
          go_round
          case rel => exact ⟨k + 1, y, hk1, hy3, rfl, rfl, rfl, HI2⟩
          case measure => simp [intOf]; omega
      · have hbad : x < 48 ∨ 57 < x := by omega
        rw [pu_bad (by rw [← hx]; exact hbad)] at hinv2
        have HI := Lib.hid hinv2
        obtain ⟨hy0, hy1⟩ := lower_at x hx256
        have hlow := lower_any x W1
        obtain ⟨y, hy⟩ : ∃ y, y = bits .or .u8 (x : Int) 32 := ⟨_, rfl⟩
        rw [← hy] at hlow hy0 hy1
        have HLow := Lib.hid hlow
        have t0 : ¬ ((48 : Int) ≤ (x : Int)) ∨ (48 : Int) ≤ (x : Int) ∧ ¬ ((x : Int) ≤ 57) := by omega
        have hyl : ¬ ((97 : Int) ≤ y) ∨ ((97 : Int) ≤ y ∧ ¬ (y ≤ 122)) ∨ ((97 : Int) ≤ y ∧ y ≤ 122 ∧ ∃ m : Nat, 10 ≤ m ∧ IntKind.u8.wrap (IntKind.u8.wrap (y - 97) + 10) = (m : Int)) := by
          by_cases h : 97 ≤ y
          · by_cases h2 : y ≤ 122
            · refine Or.inr (Or.inr ⟨h, h2, (y - 87).toNat, by omega, ?_⟩)
              rw [IntWalk.u8_in (y - 97) (by omega), IntWalk.u8_in _ (by omega)]; omega
            · exact Or.inr (Or.inl ⟨h, h2⟩)
          · exact Or.inl h
        obtain ⟨b95, hb95⟩ : ∃ b, b = ((x : Int) == 95) := ⟨_, rfl⟩
        clear hx hinv2 hinv hy hlow hd hbad hk hz hx256 hy0 hy1
        have hb96 := hb95.symm
        clear hb95
        rcases t0 with t0 | ⟨t0, t00⟩
        · rcases hyl with t1 | ⟨t1, t2⟩ | ⟨t1, t2, m, hm, t3⟩
          · cases b95
            · go_wp2_with (refine HLow.out.mono ?_; rintro e w' ⟨rfl, rfl⟩)
              go_ret2
              exact ⟨by rw [HI.out]; rfl, HB.out⟩
            · go_wp2_with (refine HLow.out.mono ?_; rintro e w' ⟨rfl, rfl⟩)
              go_ret2
              exact ⟨by rw [HI.out]; rfl, HB.out⟩
          · cases b95
            · go_wp2_with (refine HLow.out.mono ?_; rintro e w' ⟨rfl, rfl⟩)
              go_ret2
              exact ⟨by rw [HI.out]; rfl, HB.out⟩
            · go_wp2_with (refine HLow.out.mono ?_; rintro e w' ⟨rfl, rfl⟩)
              go_ret2
              exact ⟨by rw [HI.out]; rfl, HB.out⟩
          · have t4 : (10 : Int) ≤ (m : Int) := by omega
            clear hm
            cases b95
            · go_wp2_with (refine HLow.out.mono ?_; rintro e w' ⟨rfl, rfl⟩)
              go_ret2
              exact ⟨by rw [HI.out]; rfl, HB.out⟩
            · go_wp2_with (refine HLow.out.mono ?_; rintro e w' ⟨rfl, rfl⟩)
              go_ret2
              exact ⟨by rw [HI.out]; rfl, HB.out⟩
        · rcases hyl with t1 | ⟨t1, t2⟩ | ⟨t1, t2, m, hm, t3⟩
          · cases b95
            · go_wp2_with (refine HLow.out.mono ?_; rintro e w' ⟨rfl, rfl⟩)
              go_ret2
              exact ⟨by rw [HI.out]; rfl, HB.out⟩
            · go_wp2_with (refine HLow.out.mono ?_; rintro e w' ⟨rfl, rfl⟩)
              go_ret2
              exact ⟨by rw [HI.out]; rfl, HB.out⟩
          · cases b95
            · go_wp2_with (refine HLow.out.mono ?_; rintro e w' ⟨rfl, rfl⟩)
              go_ret2
              exact ⟨by rw [HI.out]; rfl, HB.out⟩
            · go_wp2_with (refine HLow.out.mono ?_; rintro e w' ⟨rfl, rfl⟩)
              go_ret2
              exact ⟨by rw [HI.out]; rfl, HB.out⟩
          · have t4 : (10 : Int) ≤ (m : Int) := by omega
            clear hm
            cases b95
            · go_wp2_with (refine HLow.out.mono ?_; rintro e w' ⟨rfl, rfl⟩)
              go_ret2
              exact ⟨by rw [HI.out]; rfl, HB.out⟩
            · go_wp2_with (refine HLow.out.mono ?_; rintro e w' ⟨rfl, rfl⟩)
              go_ret2
              exact ⟨by rw [HI.out]; rfl, HB.out⟩
    · have hks : k = l.length := by omega
      have hinv2 := hinv.out
      rw [List.drop_of_length_le (by omega)] at hinv2
      have HI : Hid (Lib.parseUintB 31 l = .ok z) := hinv2
      clear hinv hinv2
      go_wp2
      go_ret2
      exact ⟨by rw [HI.out]; rfl, HB.out⟩
end Go.Proofs.YtgplkpfdbiapaaaGreatDoor
/- strconv.ParseUint at thirty-one bits, vcd.number, by their contracts. -/
namespace Go.Proofs.YtgplkpfdbiapaaaGreatDoor
open Go Go.RowKit Go.Joins Go.Shelf

set_option maxRecDepth 100000 in
theorem pu31_all (l : List UInt8) (w : World) (hn : l.length ≤ 1000000000) :
    Calls Tryz.prog 129 #[.string (str l), .int .i64 10, .int .i64 31] w fun e w' => e = .returned (puV (Lib.parseUintB 31 l)) ∧ Below w.heap.size w w' := by
  by_cases h0 : l = []
  · subst h0
    have E : (str []).toList.isEmpty = true := by rw [ByteArray.toList_eq]; rfl
    obtain ⟨s, hs⟩ : ∃ s, s = str [] := ⟨_, rfl⟩
    rw [← hs] at E ⊢
    clear hs
    go_enter Tryz.func129, Tryz.ntmps129
    go_wp2
    go_ret2
    exact ⟨rfl, Below.refl _ _⟩
  · exact pu31_any l w hn h0
/-- What the public one answers: a number and no error, or something and an error. -/
def PubPost (r : Lib.NumEnd Nat) (w : World) (e : Ending) (w' : World) : Prop :=
  Below w.heap.size w w' ∧ match r with
    | .ok u => e = .returned (.tuple #[.int .u64 (u : Int), .nilIface])
    | _ => ∃ (z : Int) (te : TypeId) (pv : Value), e = .returned (.tuple #[.int .u64 z, .iface te pv])
set_option maxRecDepth 100000 in
set_option maxHeartbeats 1600000 in
theorem pub31_any (l : List UInt8) (w : World) (hn : l.length ≤ 1000000000) (G : NumEnv w) :
    Calls Tryz.prog 117 #[.string (str l), .int .i64 10, .int .i64 31] w (PubPost (Lib.parseUintB 31 l) w) := by
  have hI := pu31_all l w hn
  have hsz : (str l).size ≤ 281474976710656 := by rw [size_str]; omega
  obtain ⟨s, hs⟩ : ∃ s, s = str l := ⟨_, rfl⟩
  rw [← hs] at hI hsz ⊢
  clear hs
  obtain ⟨pr, hpr⟩ : ∃ pr, pr = Lib.parseUintB 31 l := ⟨_, rfl⟩
  rw [← hpr] at hI ⊢
  clear hpr
  cases pr with
  | ok u =>
    have HI := Lib.hid hI
    clear hI
    go_enter Tryz.func117, Tryz.ntmps117
    go_wp2_with fail
    refine HI.out.mono ?_
    rintro e w1 ⟨rfl, hb1⟩
    unfold puV
    go_wp2
    go_ret2
    exact ⟨hb1, rfl⟩
  | range =>
    have HI := Lib.hid hI
    have HG := Lib.hid G
    clear hI G
    go_enter Tryz.func117, Tryz.ntmps117
    go_wp2_with fail
    refine HI.out.mono ?_
    rintro e w1 ⟨rfl, hb1⟩
    obtain ⟨ev, hv, hev⟩ := (HG.out.below hb1).rng
    have ht := AnyPu.strconv_toError_range { Tryz.laysPu14 with } ⟨#[80, 97, 114, 115, 101, 85, 105, 110, 116]⟩ s 10 31 ev w1 hsz hv hev
    have HT := Lib.hid ht
    have HB1 := Lib.hid hb1
    clear ht hv hb1 hev
    unfold puV
    go_wp2_with fail
    refine HT.out.mono ?_
    rintro e w2 ⟨N, rfl, h1, h2, h3⟩
    go_wp2
    go_ret2
    exact ⟨HB1.out.trans (h3.mono HB1.out.size), _, _, _, rfl⟩
  | _ =>
    have HI := Lib.hid hI
    have HG := Lib.hid G
    clear hI G
    go_enter Tryz.func117, Tryz.ntmps117
    go_wp2_with fail
    refine HI.out.mono ?_
    rintro e w1 ⟨rfl, hb1⟩
    obtain ⟨ev, hv, hev⟩ := (HG.out.below hb1).syn
    have ht := AnyPu.strconv_toError_syntax { Tryz.laysPu14 with } ⟨#[80, 97, 114, 115, 101, 85, 105, 110, 116]⟩ s 10 31 ev w1 hsz hv hev
    have HT := Lib.hid ht
    have HB1 := Lib.hid hb1
    clear ht hv hb1 hev
    unfold puV
    go_wp2_with fail
    refine HT.out.mono ?_
    rintro e w2 ⟨N, rfl, h1, h2, h3⟩
    go_wp2
    go_ret2
    exact ⟨HB1.out.trans (h3.mono HB1.out.size), _, _, _, rfl⟩
def numR (o : Option Nat) : Value := match o with
  | some u => .tuple #[.int .u32 (u : Int), .bool true]
  | none => .tuple #[.int .u32 0, .bool false]
set_option maxRecDepth 100000 in
set_option maxHeartbeats 1600000 in
theorem numV_any (l : List UInt8) (w : World) (hn : l.length ≤ 1000000000) (G : NumEnv w) :
    Calls Tryz.prog 98 #[sv l] w fun e w' => e = .returned (numR (numV l)) ∧ Below w.heap.size w w' := by
  have hI := pub31_any l w hn G
  unfold numV
  cases hp : Lib.parseUintB 31 l with
  | ok u =>
    rw [hp] at hI
    have hu : u ≤ 2147483647 := Lib.parseUintB_le hp
    have hfm := fun W (hb : Below w.heap.size w W) => fmt_any u (by omega) W (G.tab.below hb)
    have HF := Lib.hid hfm
    have HI := Lib.hid hI
    have HEQ : ∀ b, b = ((str (Lib.decDigits u)).toList == (str l).toList) → Hid ((if Lib.decDigits u = l then some u else none) = if b then some u else none) := by
      intro b hb
      unfold Hid
      rw [hb, ByteArray.toList_eq, ByteArray.toList_eq]
      by_cases e : Lib.decDigits u = l
      · rw [if_pos e, e]; simp
      · rw [if_neg e]
        have : ((str (Lib.decDigits u)).data.toList == (str l).data.toList) = false := beq_eq_false_iff_ne.2 e
        rw [this]; rfl
    obtain ⟨b, hb⟩ : ∃ b, b = ((str (Lib.decDigits u)).toList == (str l).toList) := ⟨_, rfl⟩
    have HE := HEQ b hb
    show Calls Tryz.prog 98 #[sv l] w fun e w' => e = .returned (numR (if Lib.decDigits u = l then some u else none)) ∧ Below w.heap.size w w'
    obtain ⟨o, ho⟩ : ∃ o, o = (if Lib.decDigits u = l then some u else none) := ⟨_, rfl⟩
    rw [← ho] at HE ⊢
    clear ho
    unfold sv at HF ⊢
    have hbq := hb.symm
    have hbn : (!((str (Lib.decDigits u)).toList == (str l).toList)) = !b := by rw [hbq]
    obtain ⟨s, hs⟩ : ∃ s, s = str l := ⟨_, rfl⟩
    obtain ⟨d, hd⟩ : ∃ d, d = str (Lib.decDigits u) := ⟨_, rfl⟩
    rw [← hs] at HI hbq hbn ⊢
    rw [← hd] at HF hbq hbn
    have hw : IntKind.u32.wrap (u : Int) = (u : Int) := by rw [IntKind.wrap_u32]; omega
    clear hI hfm HEQ hb hs hd G hp
    go_enter Tryz.func98, Tryz.ntmps98
    go_wp2_with fail
    refine HI.out.mono ?_
    rintro e w1 ⟨hb1, he⟩
    have he : e = .returned (.tuple #[.int .u64 (u : Int), .nilIface]) := he
    subst he
    have HB1 := Lib.hid hb1
    clear hb1
    go_wp2_with fail
    refine (HF.out w1 HB1.out).mono ?_
    rintro e w2 ⟨rfl, hb2⟩
    have HB2 := Lib.hid (HB1.out.trans (hb2.mono HB1.out.size))
    clear hb2
    cases b with
    | true =>
      clear hbn
      go_wp2
      go_ret2
      exact ⟨by rw [HE.out]; rfl, HB2.out⟩
    | false =>
      clear hbn
      go_wp2
      go_ret2
      exact ⟨by rw [HE.out]; rfl, HB2.out⟩
  | range =>
    rw [hp] at hI
    have HI := Lib.hid hI
    unfold sv
    obtain ⟨s, hs⟩ : ∃ s, s = str l := ⟨_, rfl⟩
    rw [← hs] at HI ⊢
    clear hI hs hp G
    go_enter Tryz.func98, Tryz.ntmps98
    go_wp2_with fail
    refine HI.out.mono ?_
    rintro e w1 ⟨hb1, z, te, pv, rfl⟩
    go_wp2
    go_ret2
    exact ⟨rfl, hb1⟩
  | _ =>
    rw [hp] at hI
    have HI := Lib.hid hI
    unfold sv
    obtain ⟨s, hs⟩ : ∃ s, s = str l := ⟨_, rfl⟩
    rw [← hs] at HI ⊢
    clear hI hs hp G
    go_enter Tryz.func98, Tryz.ntmps98
    go_wp2_with fail
    refine HI.out.mono ?_
    rintro e w1 ⟨hb1, z, te, pv, rfl⟩
    go_wp2
    go_ret2
    exact ⟨rfl, hb1⟩
end Go.Proofs.YtgplkpfdbiapaaaGreatDoor
/- (*vcd.reader).time, by its contract. -/
namespace Go.Proofs.YtgplkpfdbiapaaaGreatDoor
open Go Go.RowKit Go.Joins Go.Shelf Go.Maps

/-- 'w[1:]'. -/
theorem run_tail (x : UInt8) (s : List UInt8) (W : World) : (Instr.slice 9 (.string (str (x :: s))) (some (.int .i64 1)) none none).run Tryz.prog W = .ok (.string (str s)) W := by
  rw [run_slice_string_l (P := Tryz.prog) W 9 (str (x :: s)) Tryz.underlying9 .i64 1 (by omega) (by rw [size_str, List.length_cons]; omega)]
  have e : (str (x :: s)).extract (Int.toNat 1) (str (x :: s)).size = str s := by
    apply ByteArray.ext
    simp [str, ByteArray.size]
  rw [e]
/-- 'w[0]'. -/
theorem run_head (x : UInt8) (s : List UInt8) (W : World) : (Instr.index 9 (.string (str (x :: s))) (.int .i64 0)).run Tryz.prog W = .ok (.int .u8 (x.toNat : Int)) W := by
  rw [run_index_string (P := Tryz.prog) W 9 (str (x :: s)) .i64 0 Tryz.underlying9, dif_pos ⟨by omega, by rw [size_str, List.length_cons]; omega⟩]
  rfl
theorem time_end {w0 w3 w4 : World} {R : Nat} {nv : Value} {a ta a4 : Option Addr} {n c M tc c4 u : Nat} {vv : Value} {ss : List Slc} {r : VRd} {bs : List UInt8} (h : RdAt w0 R nv w3 a n c M (.slice ta r.times.length tc) vv ss r bs)
    (hr : Row isU32 w4 w0.heap.size 42 (.slice a4 (r.times.length + 1) c4) (r.times.length + 1) (r.times.map nv32 ++ [nv32 u])) (hg : w3.grownBy w4 (Value.slice ta r.times.length tc).ownBlock) :
    RdAt w0 R nv (w4.setCell ⟨R, 3, none⟩ (.slice a4 (r.times.length + 1) c4)) a n c M (.slice a4 (r.times.length + 1) c4) vv ss ⟨r.idx, r.times ++ [u], r.wav, r.e⟩ bs ∧ KeepV w3 (w4.setCell ⟨R, 3, none⟩ (.slice a4 (r.times.length + 1) c4)) := by
  have ht : Turns w3 w4 (fun t => t = 42) := Turns.row (P := fun t => t = 42) h.cs.times.own hg rfl
  have hb4 := ht.block h.box (by decide)
  have hs : Turns w4 (w4.setCell ⟨R, 3, none⟩ (.slice a4 (r.times.length + 1) c4)) (fun t => t = 66) := Turns.cell (P := fun t => t = 66) hb4 rfl _ _
  have hbx := block_setCell hb4 (i := 3) (.slice a4 (r.times.length + 1) c4)
  refine ⟨⟨by simpa using hbx, h.hR, h.sees, h.cap, ⟨?_, h.cs.hM, hs.idx (ht.idx h.cs.map), ?_, (h.cs.wavs.turns ht (by decide) (by decide)).turns hs (by decide) (by decide)⟩⟩, (KeepV.turns ht (by decide) (by decide)).trans (KeepV.turns hs (by decide) (by decide))⟩
  · exact (h.cs.low.grown hg h.cs.low.size (fun k hk => (h.cs.times.own.lt k hk).1)).grown (Lib.grownBy_setCell w4 R 3 _) (Nat.le_trans h.cs.low.size hg.size) (by intro q hq; cases hq; exact h.hR)
  · have := Turns.row1 hr hs (by decide)
    rw [List.length_append, List.map_append]
    exact this
def timeO (r : VRd) (o : Option Nat) : VSt × VRd := match o with
  | none => failV r 5
  | some n => if 0 < r.times.length ∧ n ≤ r.times.getD (r.times.length - 1) 0 then failV r 5 else if r.times.length = 4096 then failV r 3 else (.tim, ⟨r.idx, r.times ++ [n], r.wav, r.e⟩)
theorem time_o (r : VRd) (s : List UInt8) : timeV r s = timeO r (numV s) := by
  unfold timeV timeO
  cases numV s <;> rfl
set_option maxRecDepth 100000 in
set_option maxHeartbeats 1600000 in
theorem time_any (w0 W : World) (G : NumEnv w0) (R : Nat) (nv : Value) (a : Option Addr) (n c M : Nat) (tv vv : Value) (ss : List Slc) (r : VRd) (x : UInt8) (s : List UInt8) (bs : List UInt8) (h : RdAt w0 R nv W a n c M tv vv ss r bs)
    (hT : r.times.length ≤ 4096) (hs : s.length ≤ 1000000000) :
    Calls Tryz.prog 70 #[.pointer (some ⟨R, 0, none⟩), .string (str (x :: s))] W (MvPost w0 R nv W a n c M (timeV r s) bs) := by
  obtain ⟨i0, hin, hz0, hz1, hz2⟩ := info_parts info_u32
  have hnum := numV_any s W hs (G.below h.cs.low)
  unfold sv at hnum
  have q1 := fun W => run_tail x s W
  obtain ⟨st, hst⟩ : ∃ st, st = str (x :: s) := ⟨_, rfl⟩
  obtain ⟨st2, hst2⟩ : ∃ st2, st2 = str s := ⟨_, rfl⟩
  rw [← hst, ← hst2] at q1
  rw [← hst2] at hnum
  rw [← hst]
  obtain ⟨o, ho⟩ : ∃ o, o = numV s := ⟨_, rfl⟩
  rw [← ho] at hnum
  have HT : Hid (timeV r s = timeO r o) := by unfold Hid; rw [ho, time_o]
  have hon : ∀ u, o = some u → u < 4294967296 := fun u hu => by have := num_lt (ho.symm.trans hu); omega
  have HN := Lib.hid hnum
  have H := Lib.hid h
  obtain ⟨tp, htp⟩ : ∃ tp, tp = timeV r s := ⟨_, rfl⟩
  rw [← htp] at HT ⊢
  clear hst hst2 ho hnum h htp hs
  go_enter Tryz.func70, Tryz.ntmps70
  go_wp2_with fail
  refine HN.out.mono ?_
  rintro e w1 ⟨rfl, hb1⟩
  have H1 := Lib.hid (H.out.below hb1)
  have HK1 := Lib.hid (KeepV.below hb1)
  clear hb1
  cases o with
  | none =>
    have hf := fail_any H1.out 5
    have HF := Lib.hid hf
    clear hf
    unfold numR
    go_wp2_with fail
    refine HF.out.mono ?_
    rintro e w2 ⟨v, tv2, vv2, ss2, rfl, k1, k2, k3⟩
    go_wp2
    go_ret
    exact ⟨v, tv2, vv2, ss2, rfl, by rw [HT.out]; exact k1, by rw [HT.out]; exact k2, HK1.out.trans k3⟩
  | some u =>
    have hu := hon u rfl
    unfold numR
    obtain ⟨ta, tc, rfl⟩ := H1.out.cs.times.form
    have c3 := cell_of_block H1.out.box 3
    have f3 := unfrozen_of_block H1.out.box 3
    obtain ⟨T, hTT⟩ : ∃ T, T = r.times.length := ⟨_, rfl⟩
    rw [← hTT] at c3 hT
    have HTT := Lib.hid hTT
    clear hTT hon
    by_cases h0 : T = 0
    · have h0z : ¬ ((0 : Int) < (T : Int)) := by omega
      have h0n : decide (0 < T) = false := decide_eq_false (by omega)
      have HNC : Hid (¬ (0 < r.times.length ∧ u ≤ r.times.getD (r.times.length - 1) 0)) := by unfold Hid; rw [← HTT.out]; omega
      clear h0
      go_upto_region 3 with fail
      go_quiet (fail)
      rename_i nq
      obtain ⟨w2, hw2⟩ : ∃ w2, w2 = w1.drewN nq := ⟨_, rfl⟩
      have H2 : Hid (RdAt w0 R nv w2 a n c M (.slice ta r.times.length tc) vv ss r bs) := by rw [hw2]; exact H1.out.below (ext_drewN _ _)
      have HK2 : Hid (KeepV W w2) := by rw [hw2]; exact HK1.out.trans (KeepV.below (ext_drewN _ _))
      rw [← hw2]
      clear c3 f3 hw2
      have c3 := cell_of_block H2.out.box 3
      have f3 := unfrozen_of_block H2.out.box 3
      rw [← HTT.out] at c3
      by_cases hm : T = 4096
      · have HTF : Hid (tp = failV r 3) := by
          unfold Hid
          rw [HT.out]; unfold timeO
          simp only
          rw [if_neg HNC.out, if_pos (by rw [← HTT.out]; exact hm)]
        have hmz : ((T : Int) == 4096) = true := beq_iff_eq.2 (by omega)
        clear hm
        have hf := fail_any H2.out 3
        have HF := Lib.hid hf
        clear hf f3
        go_wp2_with fail
        refine HF.out.mono ?_
        rintro e w3 ⟨v, tv2, vv2, ss2, rfl, k1, k2, k3⟩
        go_wp2
        go_ret
        exact ⟨v, tv2, vv2, ss2, rfl, by rw [HTF.out]; exact k1, by rw [HTF.out]; exact k2, HK2.out.trans k3⟩
      · have HTF : Hid (tp = (.tim, ⟨r.idx, r.times ++ [u], r.wav, r.e⟩)) := by
          unfold Hid
          rw [HT.out]; unfold timeO
          simp only
          rw [if_neg HNC.out, if_neg (by rw [← HTT.out]; exact hm)]
        have hmz : ((T : Int) == 4096) = false := beq_eq_false_iff_ne.2 (by omega)
        have hal : Below w2.heap.size w2 (w2.alloc (.cells #[.int .u32 (u : Int)] 42)) := ext_alloc _ _
        have H3 := Lib.hid (H2.out.below hal)
        have HK3 := Lib.hid (HK2.out.trans (KeepV.below hal))
        have c33 := cell_of_block H3.out.box 3
        have f33 := unfrozen_of_block H3.out.box 3
        rw [← HTT.out] at c33
        have hrw := H3.out.cs.times
        rw [← HTT.out] at hrw
        have HRW := Lib.hid hrw
        clear hrw
        have HSE : Hid (Sees (w2.alloc (.cells #[.int .u32 (u : Int)] 42)) (some ⟨w2.heap.size, 0, none⟩) 1 1 [nv32 u]) := sees_one w2 (nv32 u) 42
        obtain ⟨w3, hw3⟩ : ∃ w3, w3 = w2.alloc (.cells #[.int .u32 (u : Int)] 42) := ⟨_, rfl⟩
        have hq3 : w0.heap.size ≤ w3.heap.size := by rw [hw3]; exact Nat.le_trans H2.out.cs.low.size hal.size
        have hq1 : T + 1 ≤ maxLen := by unfold maxLen; omega
        have hq2 : (T + 1) * 4 ≤ 140737488355328 := by omega
        clear hal hm
        rw [← hw3] at H3 HK3 c33 f33 HRW HSE
        go_wp2_with (at_builtin; rw [← hw3]; refine wpList_append_row isU32 _ rfl _ _ 24 rfl w0.heap.size 42 i0 (.int .u32 0) 4 Tryz.underlying24 hin hz0 hz1 hz2 rfl ⟨0, by omega, rfl⟩ (.slice ta T tc) T (r.times.map nv32) rfl HRW.out (some ⟨w2.heap.size, 0, none⟩) 1 1 [nv32 u] rfl HSE.out (by intro z hz; simp at hz; subst hz; rfl) (by intro z hz; simp at hz; subst hz; exact ⟨u, hu, rfl⟩) hq1 hq2 hq3 ?_)
        intro v4 w4 hr4 hg4 _
        obtain ⟨a4, c4, rfl⟩ := hr4.form
        rw [← hw3] at hg4
        rw [HTT.out] at hr4 hg4
        have he := time_end H3.out hr4 hg4
        rw [← HTT.out] at he
        have HE := Lib.hid he
        clear he
        have ht4 : Turns w3 w4 (fun t => t = 42) := Turns.row (P := fun t => t = 42) H3.out.cs.times.own hg4 rfl
        have hb4 := ht4.block H3.out.box (by decide)
        have c43 := cell_of_block hb4 3
        have f43 := unfrozen_of_block hb4 3
        clear hr4 hg4 ht4 hb4 c33 f33
        go_wp2
        go_ret
        obtain ⟨e1, e2⟩ := HE.out
        exact ⟨_, _, _, _, rfl, by rw [HTF.out]; rfl, by rw [HTF.out]; exact e1, HK3.out.trans e2⟩
    · have h0z : (0 : Int) < (T : Int) := by omega
      have h0n : decide (0 < T) = true := decide_eq_true (by omega)
      obtain ⟨tb, tof, rfl, htb⟩ := (row_sees_slice H1.out.cs.times).2.addr (by rw [← HTT.out]; omega)
      have hsl := (row_sees_slice H1.out.cs.times).2.num (T - 1) (by rw [← HTT.out]; omega)
      obtain ⟨lv, hlv⟩ : ∃ lv, lv = r.times.getD (T - 1) 0 := ⟨_, rfl⟩
      obtain ⟨tm, htm⟩ : ∃ tm, tm = T - 1 := ⟨_, rfl⟩
      have W1 : IntKind.i64.wrap ((T : Int) - 1) = (tm : Int) := by rw [IntWalk.i64_in _ (by omega)]; omega
      have htz : (tm : Int) < (T : Int) := by omega
      rw [← hlv, ← htm] at hsl
      have HLV := Lib.hid hlv
      by_cases hle : u ≤ lv
      · have hlez : (u : Int) ≤ (lv : Int) := by omega
        have hlen : decide (u ≤ lv) = true := decide_eq_true hle
        have HTF : Hid (tp = failV r 5) := by
          unfold Hid
          rw [HT.out]; unfold timeO
          simp only
          rw [if_pos (by rw [← HTT.out, ← HLV.out]; exact ⟨by omega, hle⟩)]
        clear hlv htm hle htb
        go_upto_region 3 with fail
        go_quiet (fail)
        rename_i nq
        obtain ⟨w2, hw2⟩ : ∃ w2, w2 = w1.drewN nq := ⟨_, rfl⟩
        have H2 : Hid (RdAt w0 R nv w2 a n c M (.slice (some ⟨tb, tof, none⟩) r.times.length tc) vv ss r bs) := by rw [hw2]; exact H1.out.below (ext_drewN _ _)
        have HK2 : Hid (KeepV W w2) := by rw [hw2]; exact HK1.out.trans (KeepV.below (ext_drewN _ _))
        rw [← hw2]
        clear c3 f3 hw2
        have c3 := cell_of_block H2.out.box 3
        have f3 := unfrozen_of_block H2.out.box 3
        rw [← HTT.out] at c3
        have hf := fail_any H2.out 5
        have HF := Lib.hid hf
        clear hf c3 f3
        go_wp2_with fail
        refine HF.out.mono ?_
        rintro e w3 ⟨v, tv2, vv2, ss2, rfl, k1, k2, k3⟩
        go_wp2
        go_ret
        exact ⟨v, tv2, vv2, ss2, rfl, by rw [HTF.out]; exact k1, by rw [HTF.out]; exact k2, HK2.out.trans k3⟩
      · have hlez : ¬ ((u : Int) ≤ (lv : Int)) := by omega
        have hlen : decide (u ≤ lv) = false := decide_eq_false hle
        have HNC : Hid (¬ (0 < r.times.length ∧ u ≤ r.times.getD (r.times.length - 1) 0)) := by unfold Hid; rw [← HTT.out, ← HLV.out]; omega
        clear hlv htm hle htb
        go_upto_region 3 with fail
        go_quiet (fail)
        rename_i nq
        obtain ⟨w2, hw2⟩ : ∃ w2, w2 = w1.drewN nq := ⟨_, rfl⟩
        have H2 : Hid (RdAt w0 R nv w2 a n c M (.slice (some ⟨tb, tof, none⟩) r.times.length tc) vv ss r bs) := by rw [hw2]; exact H1.out.below (ext_drewN _ _)
        have HK2 : Hid (KeepV W w2) := by rw [hw2]; exact HK1.out.trans (KeepV.below (ext_drewN _ _))
        rw [← hw2]
        clear c3 f3 hw2
        have c3 := cell_of_block H2.out.box 3
        have f3 := unfrozen_of_block H2.out.box 3
        rw [← HTT.out] at c3
        clear h0 hsl
        by_cases hm : T = 4096
        · have HTF : Hid (tp = failV r 3) := by
            unfold Hid
            rw [HT.out]; unfold timeO
            simp only
            rw [if_neg HNC.out, if_pos (by rw [← HTT.out]; exact hm)]
          have hmz : ((T : Int) == 4096) = true := beq_iff_eq.2 (by omega)
          clear hm
          have hf := fail_any H2.out 3
          have HF := Lib.hid hf
          clear hf f3
          go_wp2_with fail
          refine HF.out.mono ?_
          rintro e w3 ⟨v, tv2, vv2, ss2, rfl, k1, k2, k3⟩
          go_wp2
          go_ret
          exact ⟨v, tv2, vv2, ss2, rfl, by rw [HTF.out]; exact k1, by rw [HTF.out]; exact k2, HK2.out.trans k3⟩
        · have HTF : Hid (tp = (.tim, ⟨r.idx, r.times ++ [u], r.wav, r.e⟩)) := by
            unfold Hid
            rw [HT.out]; unfold timeO
            simp only
            rw [if_neg HNC.out, if_neg (by rw [← HTT.out]; exact hm)]
          have hmz : ((T : Int) == 4096) = false := beq_eq_false_iff_ne.2 (by omega)
          have hal : Below w2.heap.size w2 (w2.alloc (.cells #[.int .u32 (u : Int)] 42)) := ext_alloc _ _
          have H3 := Lib.hid (H2.out.below hal)
          have HK3 := Lib.hid (HK2.out.trans (KeepV.below hal))
          have c33 := cell_of_block H3.out.box 3
          have f33 := unfrozen_of_block H3.out.box 3
          rw [← HTT.out] at c33
          have hrw := H3.out.cs.times
          rw [← HTT.out] at hrw
          have HRW := Lib.hid hrw
          clear hrw
          have HSE : Hid (Sees (w2.alloc (.cells #[.int .u32 (u : Int)] 42)) (some ⟨w2.heap.size, 0, none⟩) 1 1 [nv32 u]) := sees_one w2 (nv32 u) 42
          obtain ⟨w3, hw3⟩ : ∃ w3, w3 = w2.alloc (.cells #[.int .u32 (u : Int)] 42) := ⟨_, rfl⟩
          have hq3 : w0.heap.size ≤ w3.heap.size := by rw [hw3]; exact Nat.le_trans H2.out.cs.low.size hal.size
          have hq1 : T + 1 ≤ maxLen := by unfold maxLen; omega
          have hq2 : (T + 1) * 4 ≤ 140737488355328 := by omega
          clear hal hm
          rw [← hw3] at H3 HK3 c33 f33 HRW HSE
          go_wp2_with (at_builtin; rw [← hw3]; refine wpList_append_row isU32 _ rfl _ _ 24 rfl w0.heap.size 42 i0 (.int .u32 0) 4 Tryz.underlying24 hin hz0 hz1 hz2 rfl ⟨0, by omega, rfl⟩ (.slice (some ⟨tb, tof, none⟩) T tc) T (r.times.map nv32) rfl HRW.out (some ⟨w2.heap.size, 0, none⟩) 1 1 [nv32 u] rfl HSE.out (by intro z hz; simp at hz; subst hz; rfl) (by intro z hz; simp at hz; subst hz; exact ⟨u, hu, rfl⟩) hq1 hq2 hq3 ?_)
          intro v4 w4 hr4 hg4 _
          obtain ⟨a4, c4, rfl⟩ := hr4.form
          rw [← hw3] at hg4
          rw [HTT.out] at hr4 hg4
          have he := time_end H3.out hr4 hg4
          rw [← HTT.out] at he
          have HE := Lib.hid he
          clear he
          have ht4 : Turns w3 w4 (fun t => t = 42) := Turns.row (P := fun t => t = 42) H3.out.cs.times.own hg4 rfl
          have hb4 := ht4.block H3.out.box (by decide)
          have c43 := cell_of_block hb4 3
          have f43 := unfrozen_of_block hb4 3
          clear hr4 hg4 ht4 hb4 c33 f33
          go_wp2
          go_ret
          obtain ⟨e1, e2⟩ := HE.out
          exact ⟨_, _, _, _, rfl, by rw [HTF.out]; rfl, by rw [HTF.out]; exact e1, HK3.out.trans e2⟩
end Go.Proofs.YtgplkpfdbiapaaaGreatDoor
/- vcd.isText, vcd.valueOf, by their contracts. -/
namespace Go.Proofs.YtgplkpfdbiapaaaGreatDoor
open Go Go.RowKit Go.Joins

theorem strange_any (u : UInt8) (w : World) :
    Calls Tryz.prog 97 #[bv u] w fun e w' => e = .returned (.bool (strangeV u)) ∧ w = w' := by
  obtain ⟨x, hx⟩ : ∃ x, x = u.toNat := ⟨_, rfl⟩
  have e : (decide ((x : Int) < 33) || decide ((126 : Int) < (x : Int))) = strangeV u := by
    unfold strangeV
    rw [hx]
    congr 1
    · exact decide_eq_decide.2 (by rw [UInt8.lt_iff_toNat_lt]; change _ ↔ u.toNat < 33; omega)
    · exact decide_eq_decide.2 (by rw [UInt8.lt_iff_toNat_lt]; change _ ↔ 126 < u.toNat; omega)
  have E := Lib.hid e
  unfold bv
  rw [← hx]
  clear e hx
  by_cases h1 : (x : Int) < 33
  · go_enter Tryz.func97, Tryz.ntmps97
    go_wp2
    go_ret
    have e2 : strangeV u = true := by rw [← E.out]; simp [h1]
    exact ⟨by rw [e2]; rfl, rfl⟩
  · by_cases h2 : (126 : Int) < (x : Int)
    · go_enter Tryz.func97, Tryz.ntmps97
      go_wp2
      go_ret
      have e2 : strangeV u = true := by rw [← E.out]; simp [h2]
      exact ⟨by rw [e2]; rfl, rfl⟩
    · go_enter Tryz.func97, Tryz.ntmps97
      go_wp2
      go_ret
      have e2 : strangeV u = false := by rw [← E.out]; simp [h1, h2]
      exact ⟨by rw [e2]; rfl, rfl⟩
set_option maxRecDepth 100000 in
theorem idx_strange (l : List UInt8) (a : Option Addr) (n c : Nat) (hn : n ≤ 1048576) (w : World) (h : Sees w a n c (l.map bv)) :
    Calls Tryz.prog 105 #[.slice a n c, .func (.func 97) #[] #[]] w (IdxPost strangeV l w) := by
  have hl := h.lenMap
  have HS := Lib.hid h
  have HL := Lib.hid hl
  have HA := Lib.hid (fun h0 : 0 < n => h.addr h0)
  have HC : Hid (∀ k, k < n → ∀ W, Below w.heap.size w W → Calls Tryz.prog 97 #[bv (l.getD k 0)] W fun e w' => e = .returned (.bool (strangeV (l.getD k 0))) ∧ Below W.heap.size W w') := fun k hk W hb => (strange_any (l.getD k 0) W).mono fun e w' ⟨h1, h2⟩ => ⟨h1, by subst h2; exact Below.refl _ _⟩
  clear h hl
  go_enter Tryz.func105, Tryz.ntmps105
  go_wp2
  go_loopw [5, 8] (fun v i wr => ∃ k : Nat, k ≤ n ∧ i = .int .i64 k ∧ Hid (∀ j, j < k → strangeV (l.getD j 0) = false) ∧ Hid (Below w.heap.size w wr)) (fun _ i _ => n - (intOf i).toNat)
  case atStart => exact ⟨0, Nat.zero_le _, rfl, fun j hj => absurd hj (by omega), Below.refl _ _⟩
  case round =>
    obtain ⟨k, hk, rfl, hno, hB⟩ := hrel
    by_cases hlt : k < n
    · obtain ⟨b, off, rfl, hbw⟩ := HA.out (by omega)
      have hcx := (HS.out.below hB.out).byte k hlt
      obtain ⟨u, hu⟩ : ∃ u, u = l.getD k 0 := ⟨_, rfl⟩
      have W1 : IntKind.i64.wrap ((k : Int) + 1) = (k : Int) + 1 := IntWalk.i64_in _ (by omega)
      obtain ⟨q, hq⟩ : ∃ q, q = strangeV (l.getD k 0) := ⟨_, rfl⟩
      have HQ := Lib.hid hq
      have HB := Lib.hid hB.out
      have HNO := Lib.hid hno.out
      have HC1 := HC.out k hlt wr hB.out
      rw [← hq] at HC1
      have HC2 := Lib.hid HC1
      clear hq hB hno HC1
      go_wp2_with fail
      refine HC2.out.mono ?_
      rintro e w' ⟨rfl, hb⟩
      have HB2 := Lib.hid (ext_trans HB.out hb)
      clear hb hbw HC2
      cases q with
      | true =>
        go_wp2
        go_ret
        refine ⟨k, rfl, by omega, ⟨fun _ => ?_, fun _ => by omega⟩, HB2.out⟩
        exact List.any_eq_true.2 ⟨l.getD k 0, getD_mem (by rw [HL.out]; exact hlt), HQ.out.symm⟩
      | false =>
        have HN : Hid (∀ j, j < k + 1 → strangeV (l.getD j 0) = false) := fun j hj => by
          rcases Nat.lt_or_ge j k with h | h
          · exact HNO.out j h
          · have : j = k := by omega
            subst this
            exact HQ.out.symm
        go_wp2
        go_roundw
        case rel => exact ⟨k + 1, by omega, by go_num, HN.out, HB2.out⟩
        case measure => simp [intOf]; omega
    · have hkn : k = n := by omega
      subst hkn
      have HB := Lib.hid hB.out
      have HNO := Lib.hid hno.out
      clear hB hno
      go_wp2
      go_ret
      refine ⟨-1, rfl, by omega, ⟨fun h => absurd h (by decide), fun h => ?_⟩, HB.out⟩
      rw [any_none (all_of_getD (d := 0) (fun j hj => HNO.out j (by rw [← HL.out]; exact hj)))] at h
      cases h
theorem has_strange (l : List UInt8) (a : Option Addr) (n c : Nat) (hn : n ≤ 1048576) (w : World) (h : Sees w a n c (l.map bv)) :
    Calls Tryz.prog 82 #[.slice a n c, .func (.func 97) #[] #[]] w (fun e w' => e = .returned (.bool (l.any strangeV)) ∧ Below w.heap.size w w') := by
  have HI := Lib.hid (idx_strange l a n c hn w h)
  clear h
  obtain ⟨f, hf⟩ : ∃ f, f = (.func (.func 97) #[] #[] : Value) := ⟨_, rfl⟩
  rw [← hf] at HI ⊢
  have HF := Lib.hid hf
  clear hf
  go_enter Tryz.func82, Tryz.ntmps82
  go_wp2_with fail
  refine HI.out.mono ?_
  rintro e w' ⟨z, rfl, hz, hiff, hb⟩
  have e : decide (0 ≤ z) = l.any strangeV := by
    cases hq : l.any strangeV with
    | true => simpa using hiff.2 hq
    | false => simp; have := fun h => hiff.1 h; rw [hq] at this; exact Int.not_le.1 (fun h => by cases this h)
  have E := Lib.hid e
  clear e hiff
  go_wp2
  go_ret
  exact ⟨congrArg (fun b => Ending.returned (.bool b)) E.out, hb⟩
/-- What '[]byte(string)' makes. -/
theorem bytes_sees (w : World) (bs : List UInt8) :
    Sees (Lib.bytesWorld w 5 (str bs)) (some ⟨w.heap.size, 0, none⟩) bs.length (grownCap w bs.length 0 5) (bs.map bv) := by
  have hnew := Lib.bytesWorld_at_new w 5 (str bs)
  have hge := grownCap_ge w bs.length 0 5
  refine ⟨by simp, hge, (fun e => by cases e), fun _ => ⟨_, 0, rfl, heap_lt hnew, fun j hj => ?_⟩⟩
  rw [Nat.zero_add, Lib.bytesWorld_cell w _ _ j (by rw [size_str]; exact hj)]
  simp [str, bv, List.getD, List.getElem?_eq_getElem hj]
set_option maxRecDepth 100000 in
theorem istext_any (l : List UInt8) (m : Nat) (hm : m ≤ 64) (w : World) :
    Calls Tryz.prog 68 #[sv l, .int .i64 (m : Int)] w fun e w' => e = .returned (.bool (isTextV l m)) ∧ Below w.heap.size w w' := by
  have q := fun (W : World) => Lib.run_convert_string_bytes (P := Tryz.prog) W 9 27 5 (str l) Tryz.underlying9 Tryz.underlying27 Tryz.underlying5
  have hl : (str l).size = l.length := size_str l
  have hb := below_bytesV w 5 (str l)
  obtain ⟨s, hs⟩ : ∃ s, s = str l := ⟨_, rfl⟩
  obtain ⟨n, hn⟩ : ∃ n, n = l.length := ⟨_, rfl⟩
  unfold sv
  rw [← hs] at q hl hb ⊢
  by_cases h0 : l.length = 0
  · have hT : isTextV l m = false := by unfold isTextV; rw [decide_eq_false (by omega)]; rfl
    rw [hT]
    rw [h0] at hl
    clear q hb hs hn
    go_enter Tryz.func68, Tryz.ntmps68
    go_wp2
    go_ret
    exact ⟨rfl, Below.refl _ _⟩
  · by_cases h1 : l.length ≤ m
    · have hsee := bytes_sees w l
      rw [← hs] at hsee
      have HH := Lib.hid (has_strange l _ _ _ (by omega) _ hsee)
      have hT : isTextV l m = !l.any strangeV := by unfold isTextV; rw [decide_eq_true (by omega), decide_eq_true h1]; rfl
      have HT := Lib.hid hT
      rw [hl] at q
      rw [← hn] at hl h0 h1 q HH
      have h0z : (0 : Int) < (n : Int) := by omega
      have h1z : (n : Int) ≤ (m : Int) := by omega
      have HB := Lib.hid hb
      clear hb hn hT hsee hs
      go_enter Tryz.func68, Tryz.ntmps68
      go_wp2_with fail
      refine HH.out.mono ?_
      rintro e w' ⟨rfl, hb2⟩
      have HB2 := Lib.hid (ext_trans HB.out hb2)
      clear hb2
      go_wp2
      go_ret
      exact ⟨by rw [HT.out]; rfl, HB2.out⟩
    · have hT : isTextV l m = false := by unfold isTextV; rw [decide_eq_false h1]; simp
      rw [hT]
      rw [← hn] at hl h0 h1
      have h0z : (0 : Int) < (n : Int) := by omega
      have h1z : ¬ ((n : Int) ≤ (m : Int)) := by omega
      clear q hb hn hs
      go_enter Tryz.func68, Tryz.ntmps68
      go_wp2
      go_ret
      exact ⟨rfl, Below.refl _ _⟩
end Go.Proofs.YtgplkpfdbiapaaaGreatDoor
/- vcd.valueOf, by its contract. -/
namespace Go.Proofs.YtgplkpfdbiapaaaGreatDoor
open Go Go.RowKit Go.Joins

def valR (o : Option UInt8) : Value := match o with
  | some u => .tuple #[bv u, .bool true]
  | none => .tuple #[.int .u8 0, .bool false]
set_option maxRecDepth 100000 in
theorem valueOf_any (u : UInt8) (w : World) : Calls Tryz.prog 132 #[bv u] w fun e w' => e = .returned (valR (valV u)) ∧ w' = w := by
  obtain ⟨x, hx⟩ : ∃ x, x = u.toNat := ⟨_, rfl⟩
  have hu : ∀ n : Nat, n < 256 → (x = n ↔ u = UInt8.ofNat n) := fun n hn => by
    rw [hx]
    constructor
    · intro h; rw [← h]; simp
    · intro h; rw [h]; simp; omega
  have h48 := hu 48 (by omega)
  have h49 := hu 49 (by omega)
  have h120 := hu 120 (by omega)
  have h88 := hu 88 (by omega)
  have h122 := hu 122 (by omega)
  have h90 := hu 90 (by omega)
  have e0 : valV u = if x = 48 then some 0 else if x = 49 then some 1 else if x = 120 ∨ x = 88 ∨ x = 122 ∨ x = 90 then some 2 else none := by
    unfold valV
    simp only [h48, h49, h120, h88, h122, h90]
    rfl
  obtain ⟨o, ho⟩ : ∃ o, o = valV u := ⟨_, rfl⟩
  rw [← ho] at e0 ⊢
  unfold bv
  rw [← hx]
  clear hu h48 h49 h120 h88 h122 h90 hx ho
  have HE := Lib.hid e0
  clear e0
  have fin : ∀ b, o = b → Calls Tryz.prog 132 #[.int .u8 (x : Int)] w (fun e w' => e = .returned (valR b) ∧ w' = w) → Calls Tryz.prog 132 #[.int .u8 (x : Int)] w (fun e w' => e = .returned (valR o) ∧ w' = w) := fun b hb h => by rw [hb]; exact h
  by_cases c1 : x = 48
  · refine fin (some 0) (by rw [HE.out, if_pos c1]) ?_
    subst c1
    clear HE fin
    go_enter Tryz.func132, Tryz.ntmps132
    go_wp2
    go_ret2
    exact ⟨rfl, rfl⟩
  by_cases c2 : x = 49
  · refine fin (some 1) (by rw [HE.out, if_neg c1, if_pos c2]) ?_
    subst c2
    clear HE fin
    go_enter Tryz.func132, Tryz.ntmps132
    go_wp2
    go_ret2
    exact ⟨rfl, rfl⟩
  by_cases c3 : x = 120
  · refine fin (some 2) (by rw [HE.out, if_neg c1, if_neg c2, if_pos (Or.inl c3)]) ?_
    subst c3
    clear HE fin
    go_enter Tryz.func132, Tryz.ntmps132
    go_wp2
    go_ret2
    exact ⟨rfl, rfl⟩
  by_cases c4 : x = 88
  · refine fin (some 2) (by rw [HE.out, if_neg c1, if_neg c2, if_pos (Or.inr (Or.inl c4))]) ?_
    subst c4
    clear HE fin
    go_enter Tryz.func132, Tryz.ntmps132
    go_wp2
    go_ret2
    exact ⟨rfl, rfl⟩
  by_cases c5 : x = 122
  · refine fin (some 2) (by rw [HE.out, if_neg c1, if_neg c2, if_pos (Or.inr (Or.inr (Or.inl c5)))]) ?_
    subst c5
    clear HE fin
    go_enter Tryz.func132, Tryz.ntmps132
    go_wp2
    go_ret2
    exact ⟨rfl, rfl⟩
  by_cases c6 : x = 90
  · refine fin (some 2) (by rw [HE.out, if_neg c1, if_neg c2, if_pos (Or.inr (Or.inr (Or.inr c6)))]) ?_
    subst c6
    clear HE fin
    go_enter Tryz.func132, Tryz.ntmps132
    go_wp2
    go_ret2
    exact ⟨rfl, rfl⟩
  refine fin none (by rw [HE.out, if_neg c1, if_neg c2, if_neg (by omega)]) ?_
  have d1 : ((x : Int) == 48) = false := beq_eq_false_iff_ne.2 (by omega)
  have d2 : ((x : Int) == 49) = false := beq_eq_false_iff_ne.2 (by omega)
  have d3 : ((x : Int) == 120) = false := beq_eq_false_iff_ne.2 (by omega)
  have d4 : ((x : Int) == 88) = false := beq_eq_false_iff_ne.2 (by omega)
  have d5 : ((x : Int) == 122) = false := beq_eq_false_iff_ne.2 (by omega)
  have d6 : ((x : Int) == 90) = false := beq_eq_false_iff_ne.2 (by omega)
  clear HE fin c1 c2 c3 c4 c5 c6
  go_enter Tryz.func132, Tryz.ntmps132
  go_wp2
  go_ret2
  exact ⟨rfl, rfl⟩
end Go.Proofs.YtgplkpfdbiapaaaGreatDoor
/- vcd's map of codes: what is found, what is put. -/
namespace Go.Proofs.YtgplkpfdbiapaaaGreatDoor
open Go Go.RowKit Go.Joins Go.Maps

def lookC (S : List (List UInt8)) (s : List UInt8) : Int := match (idxD S S.length).atKey (.string s) (.lit (.int .i64 0)) with
  | .lit (.int .i64 c) => c
  | _ => 0
theorem lookC_mem {S : List (List UInt8)} {s : List UInt8} (hS : S.Nodup) (h : s ∈ S) : lookC S s = (S.idxOf s : Int) := by
  have hlt : S.idxOf s < S.length := List.idxOf_lt_length_iff.2 h
  have hat := idxD_at S hS (S.idxOf s) (.lit (.int .i64 0)) S.length (Nat.le_refl _) hlt
  have e : S.getD (S.idxOf s) [] = s := by simp [List.getD, List.getElem?_eq_getElem hlt]
  rw [e] at hat
  unfold lookC
  rw [hat]
theorem has_dec (S : List (List UInt8)) (s : List UInt8) : has (idxD S S.length) (.string s) = decide (s ∈ S) := by
  have h := idxD_has S s S.length (Nat.le_refl _)
  rw [List.take_length] at h
  by_cases e : s ∈ S
  · rw [decide_eq_true e]; exact h.2 e
  · rw [decide_eq_false e]
    cases hb : has (idxD S S.length) (.string s) with
    | true => exact absurd (h.1 hb) e
    | false => rfl
theorem idx_look {W : World} {M : Nat} {S : List (List UInt8)} (h : IsIdx W M S) (s : List UInt8) (hs : s.length ≤ 8388608) :
    (Instr.lookup 63 (.map (some M)) (.string (str s)) true).run Tryz.prog W = .ok (.tuple #[.int .i64 (lookC S s), .bool (decide (s ∈ S))]) W := by
  obtain ⟨v, ps, hrun, hv⟩ := World.ownsMap.look_ok h lawSV Tryz.underlying63 (zeroI64V W) (plainElem_int Tryz.underlying3 (by decide)) (keyV s hs)
  obtain ⟨c, rfl, hc, hwc⟩ := plainElem_int_inv Tryz.underlying3 hv
  simp only [Prod.mk.injEq] at hc
  rw [hrun, has_dec]
  unfold lookC
  rw [hc.1]
theorem idx_put {W : World} {M : Nat} {S : List (List UInt8)} (h : IsIdx W M S) (s : List UInt8) (hs : s.length ≤ 8388608) (hS : S.length ≤ 1000000) :
    ∃ w', (Instr.mapUpdate 63 (.map (some M)) (.string (str s)) (.int .i64 (S.length : Int))).run Tryz.prog W = .ok () w' ∧ IsIdx w' M (S ++ [s]) ∧ W.grownBy w' (some M) := by
  have h' : W.ownsMap Tryz.prog 9 (plainElem Tryz.prog 3) M S.length (idxD S S.length) := h
  have hlt : S.length < maxLen := by unfold maxLen; omega
  obtain ⟨w', h1, h2, h3⟩ := World.ownsMap.update h' lawSV Tryz.underlying63 hlt (keyV s hs) (show plainElem Tryz.prog 3 (.int .i64 (S.length : Int)) = some (.lit (.int .i64 (S.length : Int)), []) from plainElem_int Tryz.underlying3 (WalkArith.wf_i64 (by omega)))
  refine ⟨w', h1, ?_, h3⟩
  have e := idxD_new S s
  have e2 : (S ++ [s]).length = S.length + 1 := by simp
  unfold IsIdx
  rw [e, e2]
  exact h2
end Go.Proofs.YtgplkpfdbiapaaaGreatDoor
namespace Go.Proofs.YtgplkpfdbiapaaaGreatDoor
open Go Go.RowKit Go.Joins Go.Shelf Go.Maps

theorem set_hold (r : VRd) (i : Nat) (v : UInt8) : setV r i v = ⟨r.idx, r.times, (holdV r i).wav.set i ((r.wav.getD i ([], [])).1, (holdL r.times.length (r.wav.getD i ([], [])).2).set (r.times.length - 1) v), r.e⟩ := by
  unfold setV holdV
  simp only [List.set_set]
theorem list_set_all (l : List UInt8) (k : Nat) (v : UInt8) : (l.map bv).set k (bv v) = (l.set k v).map bv := by rw [List.map_set]
theorem wcs2_same : ∀ (L : List (List UInt8 × List UInt8)) (ss : List Slc) (k : Nat) (nm x : List UInt8), ss.length = L.length → k < L.length → (L.getD k ([], [])).1 = nm → wcs2 (L.set k (nm, x)) ss = wcs2 L ss
  | [], _, k, _, _, _, h, _ => by simp at h
  | p :: r, [], _, _, _, h, _, _ => by simp at h
  | p :: r, u :: t, 0, nm, x, _, _, h => by simp at h; simp [wcs2, h]
  | p :: r, u :: t, k + 1, nm, x, h, hk, hn => by
    simp only [List.set_cons_succ, wcs2]
    rw [wcs2_same r t k nm x (by simpa using h) (by simpa using hk) (by simpa using hn)]
theorem MvPost.below {w0 W : World} {R : Nat} {nv : Value} {a : Option Addr} {n c M : Nat} {p : VSt × VRd} {bs : List UInt8} {e : Ending} {w' w2 : World} (h : MvPost w0 R nv W a n c M p bs e w') (hb : Below w'.heap.size w' w2) : MvPost w0 R nv W a n c M p bs e w2 := by
  obtain ⟨v, tv, vv, ss, h1, h2, h3, h4⟩ := h
  exact ⟨v, tv, vv, ss, h1, h2.keep (KeepV.below hb), h3.below hb, h4.trans (KeepV.below hb)⟩
/-- A value of a wave is set. -/
theorem RdC.value {w0 w1 : World} {M i j V N va vb vc k : Nat} {tv : Value} {ss : List Slc} {r : VRd} {v : UInt8} {nm l : List UInt8} (h : RdC w0 w1 M tv (.slice (some ⟨V, 0, none⟩) N va) ss r)
    (hi : i < r.wav.length) (hp : r.wav.getD i ([], []) = (nm, l)) (hx : slV (ss.getD i slc0) = .slice (some ⟨vb, 0, none⟩) k vc) (hk : k = l.length) :
    RdC w0 (w1.setCell ⟨vb, j, none⟩ (bv v)) M tv (.slice (some ⟨V, 0, none⟩) N va) ss ⟨r.idx, r.times, r.wav.set i (nm, l.set j v), r.e⟩ ∧ KeepV w1 (w1.setCell ⟨vb, j, none⟩ (bv v)) ∧
      (∀ (D : Nat) (C : Array Value) (fr : Nat × Nat), w1.heap[D]? = some (.cells C 66 fr) → (w1.setCell ⟨vb, j, none⟩ (bv v)).heap[D]? = some (.cells C 66 fr)) := by
  have hri := h.wavs.rows i hi
  rw [hp, hx] at hri
  simp only at hri
  subst hk
  obtain ⟨cur, hvb⟩ : ∃ cur : Array Value, w1.heap[vb]? = some (.cells cur 5 (0, 0)) := by
    rcases hri.2 with ⟨e, _⟩ | ⟨g, cap, cur, e, _, hh, _⟩
    · cases e
    · cases e; exact ⟨cur, hh⟩
  have hvl : w0.heap.size ≤ vb := (hri.lt vb rfl).1
  have ht : Turns w1 (w1.setCell ⟨vb, j, none⟩ (bv v)) (fun t => t = 5) := Turns.cell (P := fun t => t = 5) hvb rfl _ _
  have hg := Lib.grownBy_setCell w1 vb j (bv v)
  have hst := (World.ownsRow.stored hri j (bv v)).1
  rw [list_set_all] at hst
  have e2 : ∀ q, (r.wav.set i (nm, l.set j v)).getD q ([], []) = if q = i then (nm, l.set j v) else r.wav.getD q ([], []) := fun q => by
    simp only [List.getD, List.getElem?_set]
    by_cases e : i = q
    · subst e; rw [if_pos rfl, if_pos hi, if_pos rfl]; rfl
    · rw [if_neg e, if_neg (fun e2 => e e2.symm)]
  refine ⟨⟨h.low.grown hg h.low.size (by intro q hq; cases hq; exact hvl), h.hM, ht.idx h.map, Turns.row1 h.times ht (by decide), ⟨by simpa using h.wavs.lens, ?_, fun q hq => ?_, ?_⟩⟩, KeepV.turns ht (by decide) (by decide), fun D C fr hD => ht.block hD (by decide)⟩
  · have := Turns.rowN h.wavs.row ht (by decide)
    have hs : wcs2 (r.wav.set i (nm, l.set j v)) ss = wcs2 r.wav ss := wcs2_same r.wav ss i nm (l.set j v) h.wavs.lens hi (by rw [hp])
    rw [List.length_set, hs]
    exact this
  · rw [List.length_set] at hq
    rw [e2]
    by_cases e : q = i
    · rw [if_pos e, e, hx]
      simp only [List.length_set]
      exact hst
    · rw [if_neg e]
      refine ownsN_other (h.wavs.rows q hq) fun b hb => hg.block b ((h.wavs.rows q hq).lt b hb).2 ?_
      intro e3
      have : vb = b := by injection e3 with e4; exact e4.symm
      subst this
      exact h.wavs.apart q i hq hi e vb hb (by rw [hx]; rfl)
  · intro a b ha hb
    rw [List.length_set] at ha hb
    exact h.wavs.apart a b ha hb
set_option maxRecDepth 100000 in
set_option maxHeartbeats 1600000 in
theorem change_any (w0 W : World) (R : Nat) (nv : Value) (a : Option Addr) (n c M : Nat) (tv vv : Value) (ss : List Slc) (r : VRd) (x : UInt8) (s : List UInt8) (bs : List UInt8) (t : VSt) (u : Value) (h : RdAt w0 R nv W a n c M tv vv ss r bs)
    (hu : IsSt W t u) (ok : OkV t r) (hf : finV t = false) (ha : acV t = 0) (hl : lateV t = true) (hs : s.length ≤ 8388608) :
    Calls Tryz.prog 120 #[.pointer (some ⟨R, 0, none⟩), .string (str (x :: s)), u] W (MvPost w0 R nv W a n c M (changeV r (x :: s) t) bs) := by
  have q0 := fun W => run_head x s W
  have q1 := fun W => run_tail x s W
  have hvo := fun W => valueOf_any x W
  have htx := fun W => istext_any s 8 (by omega) W
  unfold sv at htx
  unfold bv at hvo
  obtain ⟨st, hst⟩ : ∃ st, st = str (x :: s) := ⟨_, rfl⟩
  obtain ⟨st2, hst2⟩ : ∃ st2, st2 = str s := ⟨_, rfl⟩
  have hlk := fun W (hi : IsIdx W M r.idx) => idx_look hi s hs
  rw [← hst] at q0 q1
  rw [← hst2] at q1 htx hlk
  rw [← hst]
  have HCH : Hid (changeV r (x :: s) t = match valV x with
    | none => failV r 5
    | some v => if isTextV s 8 = false then failV r 5 else if s ∈ r.idx then (t, setV r (r.idx.idxOf s) v) else failV r 7) := rfl
  obtain ⟨tp, htp⟩ : ∃ tp, tp = changeV r (x :: s) t := ⟨_, rfl⟩
  rw [← htp] at HCH ⊢
  have HVO := Lib.hid hvo
  have HTX := Lib.hid htx
  have HLK := Lib.hid hlk
  have H := Lib.hid h
  have HU := Lib.hid hu
  obtain ⟨xz, hxz⟩ : ∃ xz : Int, xz = (x.toNat : Int) := ⟨_, rfl⟩
  rw [← hxz] at q0 HVO
  clear hst hst2 hvo htx hlk h hu htp hs hxz
  cases hv : valV x with
  | none =>
    have HF1 := Lib.hid (fail_any H.out 5)
    rw [hv] at HCH HVO
    unfold valR at HVO
    go_enter Tryz.func120, Tryz.ntmps120
    go_wp2_with (first
      | (go_at_call 132; refine (HVO.out _).mono ?_; rintro e w1 ⟨rfl, hw⟩; rw [hw])
      | (go_at_call 43; refine HF1.out.mono ?_; rintro e w3 ⟨v, tv2, vv2, ss2, rfl, k1, k2, k3⟩))
    go_ret
    exact ⟨v, tv2, vv2, ss2, rfl, by rw [HCH.out]; exact k1, by rw [HCH.out]; exact k2, k3⟩
  | some v =>
    rw [hv] at HCH HVO
    replace HVO : Hid (∀ W : World, Calls Tryz.prog 132 #[.int .u8 xz] W fun e w' => e = .returned (.tuple #[.int .u8 (v.toNat : Int), .bool true]) ∧ w' = W) := HVO
    obtain ⟨bt, hbt⟩ : ∃ bt, bt = isTextV s 8 := ⟨_, rfl⟩
    rw [← hbt] at HTX
    have HBT := Lib.hid hbt
    obtain ⟨vz, hvz⟩ : ∃ vz : Int, vz = (v.toNat : Int) := ⟨_, rfl⟩
    rw [← hvz] at HVO
    have HVZ := Lib.hid hvz
    clear hbt hv hvz
    go_enter Tryz.func120, Tryz.ntmps120
    go_wp2_with (go_at_call 132; refine (HVO.out _).mono ?_; rintro e w1 ⟨rfl, hw⟩; rw [hw])
    refine (HTX.out _).mono ?_
    rintro e w1 ⟨rfl, hb1⟩
    have H1 := Lib.hid (H.out.below hb1)
    have HK1 := Lib.hid (KeepV.below hb1)
    have HU1 := Lib.hid (HU.out.keep (KeepV.below hb1))
    clear hb1 H HU HVO HTX
    cases bt with
    | false =>
      have HF1 := Lib.hid (fail_any H1.out 5)
      have HTP : Hid (tp = failV r 5) := by unfold Hid; rw [HCH.out]; show (if _ then _ else _) = _; rw [if_pos HBT.out.symm]
      go_wp2_with (refine HF1.out.mono ?_; rintro e w3 ⟨v3, tv2, vv2, ss2, rfl, k1, k2, k3⟩)
      go_ret
      exact ⟨v3, tv2, vv2, ss2, rfl, by rw [HTP.out]; exact k1, by rw [HTP.out]; exact k2, HK1.out.trans k3⟩
    | true =>
      have hlk := fun nn => HLK.out (w1.drewN nn) ((H1.out.below (ext_drewN w1 nn)).cs.map)
      have c2 := cell_of_block H1.out.box 2
      by_cases hin : s ∈ r.idx
      · have HTP : Hid (tp = (t, setV r (r.idx.idxOf s) v)) := by unfold Hid; rw [HCH.out]; show (if _ then _ else _) = _; rw [if_neg (by rw [← HBT.out]; simp), if_pos hin]
        have hix := lookC_mem ok.once hin
        obtain ⟨i, hi⟩ : ∃ i, i = r.idx.idxOf s := ⟨_, rfl⟩
        rw [← hi] at HTP hix
        have hilt : i < r.wav.length := by
          have h1 : r.idx.idxOf s < r.idx.length := List.idxOf_lt_length_iff.2 hin
          have h2 := ok.idx hf
          omega
        have hdec : decide (s ∈ r.idx) = true := decide_eq_true hin
        simp only [hix, hdec] at hlk
        clear hi hix hdec hin
        go_upto_region 4 with fail
        go_quiet (fail)
        rename_i nq
        obtain ⟨w2, hw2⟩ : ∃ w2, w2 = w1.drewN nq := ⟨_, rfl⟩
        have H2 : Hid (RdAt w0 R nv w2 a n c M tv vv ss r bs) := by rw [hw2]; exact H1.out.below (ext_drewN _ _)
        have HK2 : Hid (KeepV W w2) := by rw [hw2]; exact HK1.out.trans (KeepV.below (ext_drewN _ _))
        have HU2 : Hid (IsSt w2 t u) := by rw [hw2]; exact HU1.out.keep (KeepV.below (ext_drewN _ _))
        rw [← hw2]
        clear c2 hlk hw2 H1 HK1 HU1
        have hT := ok.times
        have hT0 := ok.late hl
        have hho := hold_any w0 w2 R nv a n c M tv vv ss r i bs H2.out hilt hT (getD_all (P := fun p => p.2.length ≤ r.times.length) ok.vals hilt) ok.many
        have HHO := Lib.hid hho
        clear hho
        go_wp2_with fail
        refine HHO.out.mono ?_
        rintro e w3 ⟨rfl, k1, ss3, k2⟩
        obtain ⟨va, vc, rfl⟩ := ownsN_form k2.cs.wavs.row
        have hwl : (holdV r i).wav.length = r.wav.length := by unfold holdV; simp
        obtain ⟨V, cur, rfl, hvn, hVb, hV3, hcur⟩ := k2.cs.wavs.block (by rw [hwl]; omega)
        obtain ⟨ta, tc, rfl⟩ := k2.cs.times.form
        have hil3 : i < (holdV r i).wav.length := by rw [hwl]; exact hilt
        have hwi : (holdV r i).wav.getD i ([], []) = ((r.wav.getD i ([], [])).1, holdL r.times.length (r.wav.getD i ([], [])).2) := by
          unfold holdV
          simp only [List.getD, List.getElem?_set_self hilt, Option.getD_some]
        have hrow := k2.cs.wavs.rows i hil3
        rw [hwi] at hrow
        have hlen : (holdL r.times.length (r.wav.getD i ([], [])).2).length = r.times.length := hold_len _ _ (getD_all (P := fun p => p.2.length ≤ r.times.length) ok.vals hilt)
        simp only at hrow
        rw [hlen] at hrow
        obtain ⟨T, hTT⟩ : ∃ T, T = r.times.length := ⟨_, rfl⟩
        rw [← hTT] at hrow
        obtain ⟨vb, vcap, ex, hvb⟩ : ∃ vb vcap, slV (ss3.getD i slc0) = .slice (some ⟨vb, 0, none⟩) T vcap ∧ ∃ cur2 : Array Value, w3.heap[vb]? = some (.cells cur2 5 (0, 0)) := by
          rcases hrow.2 with ⟨_, e0⟩ | ⟨g, cap, cur2, e, _, hh, _⟩
          · omega
          · exact ⟨g, cap, e, cur2, hh⟩
        obtain ⟨cur2, hvb⟩ := hvb
        rw [ex] at hrow
        obtain ⟨a5, c5, e5, _, hsee⟩ := Sees.owned hrow
        cases e5
        have hcl := hsee.byte (T - 1) (by omega)
        rw [Nat.zero_add] at hcl
        have hfz := unfrozen_of_block hvb (T - 1)
        have c4 := cell_of_block k2.box 4
        have c3 := cell_of_block k2.box 3
        have hcv : w3.cell? ⟨V, i * 2 + 1, none⟩ = some (.slice (some ⟨vb, 0, none⟩) T vcap) := by
          rw [cell_of_block hV3, Nat.mul_comm i 2, ← ex]
          exact hcur _ _ (wcs2_at (holdV r i).wav ss3 i k2.cs.wavs.lens hil3).2
        have hfin := k2.cs.value (v := v) (j := T - 1) hil3 hwi ex (by rw [hlen, hTT])
        have hbox3 := hfin.2.2 _ _ _ k2.box
        have HE : Hid (MvPost w0 R nv W a n c M tp bs (.returned u) (w3.setCell ⟨vb, T - 1, none⟩ (bv v))) := by
          subst hTT
          refine ⟨u, .slice ta (holdV r i).times.length tc, .slice (some ⟨V, 0, none⟩) (holdV r i).wav.length vc, ss3, rfl, ?_, ?_, ?_⟩
          · rw [HTP.out]
            exact HU2.out.keep (k1.trans hfin.2.1)
          · rw [HTP.out]
            show RdAt w0 R nv (w3.setCell ⟨vb, r.times.length - 1, none⟩ (bv v)) a n c M (.slice ta (holdV r i).times.length tc) (.slice (some ⟨V, 0, none⟩) (holdV r i).wav.length vc) ss3 (setV r i v) bs
            rw [set_hold r i v]
            exact ⟨hbox3, k2.hR, k2.sees, k2.cap, hfin.1⟩
          · exact HK2.out.trans (k1.trans hfin.2.1)
        obtain ⟨tm, htm⟩ : ∃ tm, tm = T - 1 := ⟨_, rfl⟩
        have W1 : IntKind.i64.wrap ((T : Int) - 1) = (tm : Int) := by rw [IntWalk.i64_in _ (by omega)]; omega
        have htz : (tm : Int) < (T : Int) := by omega
        obtain ⟨N, hN⟩ : ∃ N, N = (holdV r i).wav.length := ⟨_, rfl⟩
        have hiz : (i : Int) < (N : Int) := by omega
        have hT3 : (holdV r i).times.length = T := by rw [hTT]; rfl
        rw [hT3] at c3
        rw [← htm] at hcl hfz HE
        unfold bv at HE
        rw [← HVZ.out] at HE
        simp only [← hN] at c4
        clear k2 hrow hsee hlen hwi hcur hV3 hvb hfin hbox3 ex hvn hwl hil3 hTT htm hN hT3 H2 HK2 HU2 HHO k1
        go_upto_region 8 with fail
        go_region
        all_goals go_wp2
        all_goals go_ret
        all_goals exact MvPost.below HE.out ((Below.refl _ _).drew)
      · have HTP : Hid (tp = failV r 7) := by unfold Hid; rw [HCH.out]; show (if _ then _ else _) = _; rw [if_neg (by rw [← HBT.out]; simp), if_neg hin]
        have hdec : decide (s ∈ r.idx) = false := decide_eq_false hin
        simp only [hdec] at hlk
        clear hdec hin
        go_upto_region 4 with fail
        go_quiet (fail)
        rename_i nq
        obtain ⟨w2, hw2⟩ : ∃ w2, w2 = w1.drewN nq := ⟨_, rfl⟩
        have H2 : Hid (RdAt w0 R nv w2 a n c M tv vv ss r bs) := by rw [hw2]; exact H1.out.below (ext_drewN _ _)
        have HK2 : Hid (KeepV W w2) := by rw [hw2]; exact HK1.out.trans (KeepV.below (ext_drewN _ _))
        rw [← hw2]
        clear c2 hlk hw2 H1 HK1 HU1
        have HF1 := Lib.hid (fail_any H2.out 7)
        go_wp2_with (refine HF1.out.mono ?_; rintro e w3 ⟨v3, tv2, vv2, ss2, rfl, k1, k2, k3⟩)
        go_ret
        exact ⟨v3, tv2, vv2, ss2, rfl, by rw [HTP.out]; exact k1, by rw [HTP.out]; exact k2, HK2.out.trans k3⟩
end Go.Proofs.YtgplkpfdbiapaaaGreatDoor
