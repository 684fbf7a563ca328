/- The signals' names and the lengths of what is written, on plain lists. -/
import Derived.Test.YtgplkpfdbiapaaaGreatDoorLib
import Derived.Test.YtgplkpfdbiapaaaGreatDoorGA3
import Derived.Test.YtgplkpfdbiapaaaGreatDoorNBase
import Derived.Test.YtgplkpfdbiapaaaGreatDoorGA1
import Derived.Test.YtgplkpfdbiapaaaGreatDoorNHeap
import Derived.Test.YtgplkpfdbiapaaaGreatDoorGG
import Derived.Test.YtgplkpfdbiapaaaGreatDoorGH
import Derived.Test.YtgplkpfdbiapaaaGreatDoorVdHold
import Derived.Test.YtgplkpfdbiapaaaGreatDoorRows
import Derived.Test.YtgplkpfdbiapaaaGreatDoorShelf
import Derived.Test.YtgplkpfdbiapaaaGreatDoorShelf2
import Derived.BigQuiet
import Derived.Deep.AppendLies
import Derived.Deep.CutRange
import Derived.Deep.QuietTactic
import Derived.Deep.RegionHeld3
import Derived.Deep.RegionLaw
import Derived.Deep.RegionWith
import Derived.KernelRfl
import Derived.Laws.CopyOwn
import Derived.Laws.EntriesVeiled
import Derived.Laws.IdiomCopy
import Derived.Laws.OwnMore
import Derived.Laws.Runes
import Derived.Laws.Tables
import Derived.Lib.AppendIntMem
import Derived.Lib.AppendStr
import Derived.Lib.AppendZeros
import Derived.Lib.BufferWrite
import Derived.Lib.ConvBytes
import Derived.Lib.DecodeN
import Derived.Lib.Hide
import Derived.Lib.Index
import Derived.Lib.IndexEntry
import Derived.Lib.ItoaNum
import Derived.Lib.Join
import Derived.Lib.MakeNoZero
import Derived.Lib.ParseIntBCases
import Derived.Lib.SlBytesRow
import Derived.Lib.SmallJoins
import Derived.Maps.AppendAt
import Derived.Maps.Own
import Derived.Maps.OwnOps
import Derived.Maps.OwnSet
import Derived.OrdersHeld
import Derived.Shelf.Bytes.SlSmallAll
import Derived.Shelf.Pu.Lower
import Derived.Shelf.Pu.ToError
import Derived.Shelf.Pu.ToErrorRange
import Derived.Shelf.Spec.DecodeRune
import Derived.Shelf.Unicode.DecodeSlow
import Derived.WalkKit
import Derived.WalkLawsBesides
import Derived.WalkSpells
import Derived.Test.YtgplkpfdbiapaaaGreatDoorGA4
import Derived.Test.YtgplkpfdbiapaaaGreatDoorGB
import Derived.Test.YtgplkpfdbiapaaaGreatDoorSRun
import Derived.Test.YtgplkpfdbiapaaaGreatDoorGE2
import Derived.Test.YtgplkpfdbiapaaaGreatDoorVdSpec
import Derived.BigRegion
import Derived.Laws.Bits64b
import Derived.Laws.BitsAllLaws
import Derived.Laws.BitsLemmas
import Derived.LoopIn
import Derived.LoopNIn
import Derived.OwnWalkIn
import Derived.RangeFuncBox
import Derived.RangeFuncCalls
import Derived.RangeFuncLeaves
import Derived.RangeFuncNested
import Derived.RangeFuncWrites
import Derived.Shelf.Abstract
import Derived.Shelf.RegionOpen
import Derived.Sort.CutIn
import Derived.Stop.RegionWithIn
import Derived.TacticsInMore
/- vcd.signals' closure, by its contract: it adds a signal to those that it captures. -/
namespace Go.Proofs.YtgplkpfdbiapaaaGreatDoor
open Go Go.RowKit Go.Joins Go.Shelf Go.Maps

/-- Signals as cells. -/
def sigC : List (List UInt8 × Nat) → List Value
  | [] => []
  | s :: r => sv s.1 :: .int .u32 (s.2 : Int) :: sigC r
theorem sigC_snoc : ∀ (L : List (List UInt8 × Nat)) (s : List UInt8 × Nat), sigC (L ++ [s]) = sigC L ++ [sv s.1, .int .u32 (s.2 : Int)]
  | [], _ => rfl
  | x :: L, s => by rw [List.cons_append, sigC, sigC_snoc L s, sigC]; rfl
theorem sigC_len : ∀ L : List (List UInt8 × Nat), (sigC L).length = L.length * 2
  | [] => rfl
  | x :: L => by rw [sigC, List.length_cons, List.length_cons, sigC_len L, List.length_cons]; omega
theorem sigC_at : ∀ (L : List (List UInt8 × Nat)) (k : Nat), k < L.length → (sigC L)[2 * k]? = some (sv (L.getD k ([], 0)).1) ∧ (sigC L)[2 * k + 1]? = some (.int .u32 ((L.getD k ([], 0)).2 : Int))
  | x :: L, 0, _ => ⟨rfl, rfl⟩
  | x :: L, k + 1, h => by
    have := sigC_at L k (by simp at h; omega)
    rw [sigC, show 2 * (k + 1) = (2 * k + 1) + 1 by omega, List.getElem?_cons_succ, List.getElem?_cons_succ, show (2 * k + 1) + 1 + 1 = ((2 * k + 1) + 1) + 1 by omega, List.getElem?_cons_succ, List.getElem?_cons_succ]
    exact this
def SigBuf (base g : Nat) (w : World) (L : List (List UInt8 × Nat)) : Prop := ∃ v, w.heap[g]? = some (.cells #[v] 49 (0, 0)) ∧ w.ownsRow base 55 2 v L.length (sigC L)
theorem SigBuf.below {base g : Nat} {w w' : World} {L : List (List UInt8 × Nat)} (h : SigBuf base g w L) (hb : Below w.heap.size w w') : SigBuf base g w' L := by
  obtain ⟨v, h1, h2⟩ := h
  exact ⟨v, heap_below h1 hb, ownsN_below h2 hb⟩
theorem info_sig : (Tryz.prog.info? 55).map (fun i => (i.zero, i.size, i.bytes)) = some (some (.agg #[.string ⟨#[]⟩, .int .u32 0]), 2, 24) := by kernel_rfl
theorem info_parts2 {P : Program} {e : TypeId} {z : Value} {k b : Nat} (h : (P.info? e).map (fun i => (i.zero, i.size, i.bytes)) = some (some z, k, b)) : ∃ i, P.info? e = some i ∧ i.zero = some z ∧ i.size = k ∧ i.bytes = b := by
  cases hi : P.info? e with
  | none => rw [hi] at h; cases h
  | some i =>
    rw [hi] at h
    simp only [Option.map_some, Option.some.injEq, Prod.mk.injEq] at h
    exact ⟨i, rfl, h.1, h.2.1, h.2.2⟩
/-- Blocks of another type are as they were, but for g. -/
def KeptS (g : Nat) (w w' : World) : Prop := ∀ (D : Nat) (C : Array Value) (t : TypeId) (fr : Nat × Nat), w.heap[D]? = some (.cells C t fr) → t ≠ 55 → D ≠ g → w'.heap[D]? = some (.cells C t fr)
theorem KeptS.refl (g : Nat) (w : World) : KeptS g w w := fun _ _ _ _ h _ _ => h
theorem KeptS.trans {g : Nat} {a b c : World} (h : KeptS g a b) (k : KeptS g b c) : KeptS g a c := fun D C t fr hD ht hg => k D C t fr (h D C t fr hD ht hg) ht hg
theorem KeptS.below {g : Nat} {w w' : World} (h : Below w.heap.size w w') : KeptS g w w' := fun _ _ _ _ hD _ _ => heap_below hD h
theorem sig_end {base g : Nat} {w w1 w2 : World} {v v2 : Value} {n n2 : Nat} {xs xs2 : List Value} {L : List (List UInt8 × Nat)} (hb1 : Below w.heap.size w w1) (hv1 : w1.heap[g]? = some (.cells #[v] 49 (0, 0)))
    (hr1 : w1.ownsRow base 55 2 v n xs) (hg2 : w1.grownBy w2 v.ownBlock) (r2 : w2.ownsRow base 55 2 v2 n2 xs2) (hn2 : n2 = L.length) (hx2 : xs2 = sigC L) (hbase : base ≤ w.heap.size) (hg : base ≤ g) :
    SigBuf base g (w2.setCell ⟨g, 0, .none⟩ v2) L ∧ Below base w (w2.setCell ⟨g, 0, .none⟩ v2) ∧ KeptS g w (w2.setCell ⟨g, 0, .none⟩ v2) := by
  have hh2 := heap_grown hv1 hg2 (ownsN_notown hr1 hv1 (by decide))
  subst hn2; subst hx2
  refine ⟨⟨v2, ?_, ?_⟩, ?_, ?_⟩
  · exact block_setCell hh2 v2
  · refine ownsN_other r2 fun k hk => ?_
    exact Below.heap_setCell w2 ⟨g, 0, .none⟩ v2 k (fun e => (ownsN_notown r2 hh2 (by decide)) (by rw [hk, e]))
  · exact (((hb1.mono hbase).grown hg2 (Nat.le_trans hbase hb1.size) (fun k hk => (hr1.lt k hk).1))).setCell hg v2
  · intro D C t fr hD ht hDg
    have h1 := heap_below hD hb1
    have h2 := heap_grown h1 hg2 (ownsN_notown hr1 h1 ht)
    exact (Below.heap_setCell w2 ⟨g, 0, .none⟩ v2 D hDg).trans h2
theorem cells_two_new (w : World) (x y : Value) (t : TypeId) : ∀ j u, [x, y][j]? = some u → (w.alloc (.cells #[x, y] t)).cell? ((⟨w.heap.size, 0, none⟩ : Addr).add j) = some u := by
  intro j u hj
  match j, hj with
  | 0, hj => simp at hj; subst hj; exact cell_of_block (heap_new w _ _ rfl) 0
  | 1, hj => simp at hj; subst hj; exact cell_of_block (heap_new w _ _ rfl) 1
set_option maxRecDepth 100000 in
theorem itoa_any (n : Nat) (hn : n ≤ 1000000000) (w : World) (htab : TabV w) : Calls Tryz.prog 34 #[.int .i64 (n : Int)] w fun e w' => e = .returned (sv (Lib.decDigits n)) ∧ Below w.heap.size w w' := by
  refine (Tryz.strconv_Itoa (n : Int) (by omega) (by omega) w htab).mono ?_
  rintro e w' ⟨rfl, k, os, rfl⟩
  rw [Lib.itoa_nonneg]
  exact ⟨rfl, Lib.below_grow _ w (Nat.le_refl _) k os⟩
set_option maxRecDepth 100000 in
set_option maxHeartbeats 1600000 in
theorem sigadd_any (base g : Nat) (L : List (List UInt8 × Nat)) (lb : ByteArray) (ch : UInt8) (i lit : Nat) (w : World) (hlb : lb = str [ch]) (hB : SigBuf base g w L) (hi : i ≤ 1000000000) (hL : L.length ≤ 1000000) (hbase : base ≤ w.heap.size) (hg : base ≤ g) (htab : TabV w) :
    Calls Tryz.prog 33 #[.string lb, .int .i64 (i : Int), .int .u32 (lit : Int), .pointer (some ⟨g, 0, .none⟩)] w fun e w' => e = .returned (.tuple #[]) ∧ SigBuf base g w' (L ++ [(ch :: Lib.decDigits i, lit)]) ∧ Below base w w' ∧ KeptS g w w' := by
  obtain ⟨i0, hin, hz0, hz1, hz2⟩ := info_parts2 info_sig
  obtain ⟨v, hv, hrow⟩ := hB
  have hcv2 : w.cell? ⟨g, 0, none⟩ = some v := cell_of_block hv 0
  obtain ⟨va, vc, rfl⟩ := ownsN_form hrow
  have HV := Lib.hid hv
  have HR := Lib.hid hrow
  have hd : Below w.heap.size w w.drew := (Below.refl _ w).drew
  have HDR := Lib.hid hd
  have hc := itoa_any i hi w.drew (htab.below hd)
  obtain ⟨dd, hdd⟩ : ∃ dd : ByteArray, dd = str (Lib.decDigits i) := ⟨_, rfl⟩
  have hsv : sv (Lib.decDigits i) = .string dd := by rw [hdd]; rfl
  rw [hsv] at hc
  have HC := Lib.hid hc
  have hcat : Hid (sv (ch :: Lib.decDigits i) = .string (lb ++ dd)) := by
    unfold Hid sv
    rw [hlb, hdd]
    congr 1
  have hnl : ¬ 9223372036854775807 < lb.size + dd.size := by
    rw [hlb, hdd, size_str, size_str]
    have := dgv_len 9 i (by omega)
    rw [List.length_singleton]
    omega
  obtain ⟨M, hM⟩ : ∃ M, M = L.length := ⟨_, rfl⟩
  have HM := Lib.hid hM
  rw [← hM] at HR HV hcv2 hL
  obtain ⟨xs, hxs⟩ : ∃ xs, xs = sigC L := ⟨_, rfl⟩
  have HXS := Lib.hid hxs
  rw [← hxs] at HR
  have hq4 : M + 1 ≤ maxLen := by unfold maxLen; omega
  have hq5 : (M + 1) * 24 ≤ 140737488355328 := by omega
  have hend : Hid (∀ w1 w2 v2, Below w.heap.size w w1 → w1.grownBy w2 (Value.slice va M vc).ownBlock → w2.ownsRow base 55 2 v2 (M + 1) (xs ++ [.string (lb ++ dd), .int .u32 (lit : Int)]) →
      (Ending.returned (.tuple #[]) = Ending.returned (.tuple #[]) ∧ SigBuf base g (w2.setCell ⟨g, 0, .none⟩ v2) (L ++ [(ch :: Lib.decDigits i, lit)]) ∧ Below base w (w2.setCell ⟨g, 0, .none⟩ v2) ∧ KeptS g w (w2.setCell ⟨g, 0, .none⟩ v2))) := by
    intro w1 w2 v2 hb hg2 hr2
    refine ⟨rfl, sig_end hb (heap_below HV.out hb) (ownsN_below HR.out hb) hg2 hr2 (by rw [List.length_append, HM.out]; rfl) ?_ hbase hg⟩
    rw [HXS.out, sigC_snoc, hcat.out]
  clear hv hrow hd hc hdd hsv hcat hM hxs hlb htab
  go_enter Tryz.func33, Tryz.ntmps33
  go_region_law (first
    | (refine step_append_own2 rfl (.tmp 7) (.tmp 14) 49 rfl base 55 i0 (.agg #[.string ⟨#[]⟩, .int .u32 0]) 2 24 Tryz.underlying49 hin hz0 hz1 hz2 rfl (by omega) (.slice va M vc) M xs (by rfl) HR2.out ⟨w1.heap.size, 0, none⟩ 1 1 [.string (lb ++ dd), .int .u32 (lit : Int)] (by rfl) (by rfl) HNEW.out (by simp [Value.oneCell']) hq4 hq5 hq6 ?_; intro v2 w2 hr2 hg2 hn2; obtain ⟨a2s, c2s, rfl⟩ := ownsN_form hr2; have hh2 := heap_grown HV2.out hg2 (ownsN_notown HR2.out HV2.out (by decide)); have hc2 : w2.cell? ⟨g, 0, none⟩ = some (.slice va M vc) := cell_of_block hh2 0; have hf2 : w2.frozen? ⟨g, 0, none⟩ = false := unfrozen_of_block hh2 0; have HE := Lib.hid (hend.out _ _ _ HB2.out hg2 hr2); clear hg2 hr2 hn2 hh2)
    | (go_simp; go_at_call 34; (with_reducible refine HC.out.mono ?_); rintro e w1 ⟨rfl, b1⟩; have hb1 : Below w.heap.size w w1 := HDR.out.trans b1; have hb2 : Below w.heap.size w (w1.alloc (.cells #[.string (lb ++ dd), .int .u32 (lit : Int)] 55)) := hb1.trans ((ext_alloc _ _).mono hb1.size); have HB2 := Lib.hid hb2; have HV1 := Lib.hid (heap_below HV.out hb1); have HV2 := Lib.hid (heap_below HV.out hb2); have HR2 := Lib.hid (ownsN_below HR.out hb2); have hq6 : base ≤ (w1.alloc (.cells #[.string (lb ++ dd), .int .u32 (lit : Int)] 55)).heap.size := Nat.le_trans hbase hb2.size; have hcg1 : w1.cell? ⟨g, 0, none⟩ = some (.slice va M vc) := cell_of_block HV1.out 0; have hcg2 : (w1.alloc (.cells #[.string (lb ++ dd), .int .u32 (lit : Int)] 55)).cell? ⟨g, 0, none⟩ = some (.slice va M vc) := cell_of_block HV2.out 0; have hnew := cells_two_new w1 (.string (lb ++ dd)) (.int .u32 (lit : Int)) 55; have HNEW := Lib.hid hnew; clear b1 hb1 hb2 hnew))
  all_goals go_simp
  all_goals go_end0
  all_goals exact HE.out
end Go.Proofs.YtgplkpfdbiapaaaGreatDoor
/- vcd.signals, by its contract. -/
namespace Go.Proofs.YtgplkpfdbiapaaaGreatDoor
open Go Go.RowKit Go.Joins Go.Shelf Go.Maps

/-- n signals of one letter, from that variable on. -/
def numW (ch : UInt8) (first n : Nat) : List (List UInt8 × Nat) := (List.range n).map (fun i => (ch :: Lib.decDigits i, 2 * (first + i)))
def badW (l : List Nat) (n : Nat) : List (List UInt8 × Nat) := (List.range n).map (fun i => (98 :: Lib.decDigits i, l.getD i 0))
def sigL (c : NormC) : List (List UInt8 × Nat) := ((numW 105 1 c.ins.toNat ++ numW 108 (1 + c.ins.toNat) c.lats.length) ++ numW 97 (1 + c.ins.toNat + c.lats.length) c.gates.length) ++ badW c.bads c.bads.length
theorem numW_succ (ch : UInt8) (first n : Nat) : numW ch first (n + 1) = numW ch first n ++ [(ch :: Lib.decDigits n, 2 * (first + n))] := by unfold numW; simp [List.range_succ]
theorem numW_len (ch : UInt8) (first n : Nat) : (numW ch first n).length = n := by unfold numW; simp
theorem badW_succ (l : List Nat) (n : Nat) : badW l (n + 1) = badW l n ++ [(98 :: Lib.decDigits n, l.getD n 0)] := by unfold badW; simp [List.range_succ]
theorem badW_len (l : List Nat) (n : Nat) : (badW l n).length = n := by unfold badW; simp
def grpC : Nat → UInt8 | 0 => 105 | 1 => 108 | _ => 97
def grpB : Nat → ByteArray | 0 => ⟨#[105]⟩ | 1 => ⟨#[108]⟩ | _ => ⟨#[97]⟩
def grpM (I L G : Nat) : Nat → Nat | 0 => I | 1 => L | 2 => G | _ => 0
def grpF (I L G : Nat) : Nat → Nat | 0 => 1 | 1 => 1 + I | 2 => 1 + I + L | _ => 1 + I + L + G
def grpP (I L G : Nat) : Nat → List (List UInt8 × Nat) | 0 => [] | 1 => numW 105 1 I | 2 => numW 105 1 I ++ numW 108 (1 + I) L | _ => (numW 105 1 I ++ numW 108 (1 + I) L) ++ numW 97 (1 + I + L) G
theorem grpB_str (j : Nat) : grpB j = str [grpC j] := by
  match j with
  | 0 => rfl
  | 1 => rfl
  | j + 2 => rfl
theorem grpF_next (I L G j : Nat) (h : j < 3) : grpF I L G j + grpM I L G j = grpF I L G (j + 1) := by
  match j, h with
  | 0, _ => rfl
  | 1, _ => rfl
  | 2, _ => rfl
theorem grpP_next (I L G j : Nat) (h : j < 3) : grpP I L G j ++ numW (grpC j) (grpF I L G j) (grpM I L G j) = grpP I L G (j + 1) := by
  match j, h with
  | 0, _ => rfl
  | 1, _ => rfl
  | 2, _ => rfl
theorem grp_small (I L G j : Nat) : grpF I L G j + grpM I L G j ≤ 1 + I + L + G ∧ (grpP I L G j).length ≤ I + L + G := by
  match j with
  | 0 => exact ⟨by show 1 + I ≤ _; omega, Nat.zero_le _⟩
  | 1 => exact ⟨by show 1 + I + L ≤ _; omega, by show (numW 105 1 I).length ≤ _; rw [numW_len]; omega⟩
  | 2 => exact ⟨Nat.le_refl _, by show (numW 105 1 I ++ numW 108 (1 + I) L).length ≤ _; rw [List.length_append, numW_len, numW_len]; omega⟩
  | j + 3 => exact ⟨by show 1 + I + L + G + 0 ≤ _; omega, by show ((numW 105 1 I ++ numW 108 (1 + I) L) ++ numW 97 (1 + I + L) G).length ≤ _; rw [List.length_append, List.length_append, numW_len, numW_len, numW_len]; omega⟩
def cirCells (I a1 a2 a3 a4 a5 : Value) : Array Value := #[I, a1, a2, a3, a4, a5]
def grpCells (I L G : Nat) : Array Value := #[.string ⟨#[105]⟩, .int .i64 I, .string ⟨#[108]⟩, .int .i64 L, .string ⟨#[97]⟩, .int .i64 G]
theorem grp_at (I L G j : Nat) (h : j < 3) : (grpCells I L G)[j * 2]? = some (.string (grpB j)) ∧ (grpCells I L G)[j * 2 + 1]? = some (.int .i64 (grpM I L G j)) := by
  match j, h with
  | 0, _ => exact ⟨rfl, rfl⟩
  | 1, _ => exact ⟨rfl, rfl⟩
  | 2, _ => exact ⟨rfl, rfl⟩
/-- What the call's own boxes hold. -/
structure FixS (B : Nat) (C D : Array Value) (W : World) : Prop where
  cir : W.heap[B]? = some (.cells C 26 (0, 0))
  grp : W.heap[B + 2]? = some (.cells D 86 (0, 0))
theorem FixS.keep {B : Nat} {C D : Array Value} {W W' : World} (h : FixS B C D W) (k : KeptS (B + 1) W W') : FixS B C D W' := ⟨k _ _ _ _ h.cir (by decide) (by omega), k _ _ _ _ h.grp (by decide) (by omega)⟩
theorem FixS.below {B : Nat} {C D : Array Value} {W W' : World} (h : FixS B C D W) (k : Below W.heap.size W W') : FixS B C D W' := ⟨heap_below h.cir k, heap_below h.grp k⟩
set_option maxRecDepth 100000 in
set_option maxHeartbeats 3200000 in
theorem signals_any (c : NormC) (s : CSlots) (w : World) (h : SeesCir w s c) (hm : MayC c) (hs : s.small) (htab : TabV w) :
    Calls Tryz.prog 16 #[cirV c.ins s] w fun e w' => ∃ v, e = .returned v ∧ w'.ownsRow w.heap.size 55 2 v (sigL c).length (sigC (sigL c)) ∧ Below w.heap.size w w' := by
  obtain ⟨I, hI⟩ : ∃ I : Nat, I = c.ins.toNat := ⟨_, rfl⟩
  have hIz : c.ins = (I : Int) := by have := hm.pos; omega
  have hfew := hm.few
  unfold varsN at hfew
  have hl1 : c.lats.length = s.n1 := h.s1.1
  have hl2 : c.gates.length = s.n2 := h.s2.1
  have hl4 : c.bads.length = s.n4 := by have := h.s4.len; simpa using this
  have hbl := hm.lens.2.1
  rw [← hI, hl1, hl2] at hfew
  rw [hl4] at hbl
  have hsig : sigL c = grpP I s.n1 s.n2 3 ++ badW c.bads s.n4 := by
    unfold sigL
    rw [← hI, hl1, hl2, hl4]
    rfl
  obtain ⟨gp, hgp⟩ : ∃ gp, gp = grpP I s.n1 s.n2 3 := ⟨_, rfl⟩
  have hgl : gp.length ≤ 20000 := by
    have := (grp_small I s.n1 s.n2 3).2
    rw [← hgp] at this
    omega
  rw [hsig, hIz, ← hgp]
  have HGP := Lib.hid hgp
  have HGL := Lib.hid hgl
  have hlit : ∀ x ∈ c.bads, x < 4294967296 := fun x hx => by have := hm.bads x hx; have := hm.few; omega
  have HLIT := Lib.hid hlit
  obtain ⟨a1, n1, c1, a2, n2, c2, a3, n3, c3, a4, n4, c4, a5, n5, c5⟩ := s
  simp only at hfew hbl hl4 HGP
  have H4 := Lib.hid h.s4
  have HT := Lib.hid htab
  have HL4 := Lib.hid hl4
  clear h hm hs htab hI hIz hl1 hl2 hl4 hsig hlit hgp hgl
  unfold cirV
  simp only at H4 ⊢
  go_enter Tryz.func16, Tryz.ntmps16
  go_wp2
  obtain ⟨B, hB⟩ : ∃ B, B = w.heap.size := ⟨_, rfl⟩
  generalize hW : World.alloc (World.alloc (World.alloc w _) _) _ = W0
  have hfix : FixS B (cirCells (.int .i64 I) (.slice a1 n1 c1) (.slice a2 n2 c2) (.slice a3 n3 c3) (.slice a4 n4 c4) (.slice a5 n5 c5)) (grpCells I n1 n2) W0 := by
    subst hW
    exact ⟨heap_below (heap_below (heap_new _ _ _ hB) (ext_alloc _ _)) (ext_alloc _ _), heap_new _ _ _ (by rw [hB]; simp)⟩
  have hbuf : SigBuf B (B + 1) W0 (grpP I n1 n2 0) := by
    subst hW
    exact ⟨_, heap_below (heap_new _ _ _ (by rw [hB]; simp)) (ext_alloc _ _), ownsN_nil _ _ _ _⟩
  have hlow : Below B w W0 := by
    subst hW; subst hB
    exact ext_trans (ext_alloc _ _) (ext_trans (ext_alloc _ _) (ext_alloc _ _))
  have HB := Lib.hid hB
  rw [← hB]
  have hsz : B ≤ w.heap.size := by omega
  have HFIX := Lib.hid hfix
  have HBUF := Lib.hid hbuf
  have HLOW := Lib.hid hlow
  clear hfix hbuf hlow hW hB
  go_loopg [5, 7, 8, 25] 3 (fun g fv _ _ jv wr => ∃ j : Nat, j + g = 3 ∧ jv = .int .i64 j ∧ fv = .int .i64 (grpF I n1 n2 j : Nat) ∧ Hid (SigBuf B (B + 1) wr (grpP I n1 n2 j)) ∧ Hid (Below B w wr) ∧ Hid (FixS B (cirCells (.int .i64 I) (.slice a1 n1 c1) (.slice a2 n2 c2) (.slice a3 n3 c3) (.slice a4 n4 c4) (.slice a5 n5 c5)) (grpCells I n1 n2) wr))
  case atStart => exact ⟨0, rfl, rfl, rfl, HBUF.out, HLOW.out, HFIX.out⟩
  case round =>
    obtain ⟨j, hj, rfl, rfl, hb, hl, hf⟩ := hrel
    have HB1 := Lib.hid hb.out
    have HL1 := Lib.hid hl.out
    have HF1 := Lib.hid hf.out
    clear hb hl hf
    cases gk with
    | zero =>
      obtain rfl : j = 3 := by omega
      have hc4 : wr.cell? ⟨B, 4, none⟩ = some (.slice a4 n4 c4) := cell_of_block HF1.out.cir 4
      rw [← HGP.out] at HB1
      obtain ⟨gf, hgf⟩ : ∃ gf : Int, gf = ((grpF I n1 n2 3 : Nat) : Int) := ⟨_, rfl⟩
      rw [← hgf]
      have HB2 : Hid (SigBuf B (B + 1) wr (gp ++ badW c.bads 0)) := by
        unfold Hid
        rw [show badW c.bads 0 = [] from rfl, List.append_nil]
        exact HB1.out
      clear HB1 hgf
      go_wp2
      go_loopg [9, 10, 53] n4 (fun g2 _ _ iv wq => ∃ i : Nat, i + g2 = n4 ∧ iv = .int .i64 i ∧ Hid (SigBuf B (B + 1) wq (gp ++ badW c.bads i)) ∧ Hid (Below B w wq))
      case atStart => exact ⟨0, by omega, rfl, HB2.out, HL1.out⟩
      case round =>
        obtain ⟨i, hi, rfl, hb, hl⟩ := hrel
        have HB3 := Lib.hid hb.out
        have HL3 := Lib.hid hl.out
        clear hb hl HB2 HL1 HF1
        cases gk with
        | zero =>
          obtain rfl : i = n4 := by omega
          obtain ⟨v, hv1, hv2⟩ := HB3.out
          have hv0 : wr.cell? ⟨B + 1, 0, none⟩ = some v := cell_of_block hv1 0
          obtain ⟨va, vc, rfl⟩ := ownsN_form hv2
          obtain ⟨m, hm⟩ : ∃ m, m = (gp ++ badW c.bads i).length := ⟨_, rfl⟩
          rw [← hm] at hv0 hv1 hv2
          have HV2 := Lib.hid hv2
          have HM := Lib.hid hm
          clear hv1 hv2 hm HB3
          go_wp2
          go_ret
          exact ⟨.slice va m vc, rfl, by rw [← HM.out, ← HB.out]; exact HV2.out, by have := HL3.out; rw [HB.out] at this; exact this⟩
        | succ g2 =>
          have him : i < n4 := by omega
          have hiz : (i : Int) < (n4 : Int) := by omega
          have hsee := H4.out.below (w' := wr) (by have := HL3.out; rw [HB.out] at this; exact this)
          obtain ⟨b4, o4, rfl, hb4⟩ := hsee.addr (by omega)
          have hcx := hsee.num i him
          obtain ⟨lt, hlt⟩ : ∃ lt, lt = c.bads.getD i 0 := ⟨_, rfl⟩
          rw [← hlt] at hcx
          have hlen : (gp ++ badW c.bads i).length ≤ 1000000 := by
            rw [List.length_append, badW_len]
            have := HGL.out
            omega
          have hadd := sigadd_any B (B + 1) (gp ++ badW c.bads i) ⟨#[98]⟩ 98 i lt wr rfl HB3.out (by omega) hlen (Nat.le_trans hsz HL3.out.size) (by omega) (HT.out.below (by have := HL3.out; rw [HB.out] at this; exact this))
          have HADD := Lib.hid hadd
          have HLT := Lib.hid hlt
          have W3 : IntKind.i64.wrap ((i : Int) + 1) = ((i + 1 : Nat) : Int) := by rw [IntWalk.i64_in _ (by omega)]; omega
          clear hlen hadd hlt hsee hb4
          go_wp2_with fail
          refine HADD.out.mono ?_
          rintro e w5 ⟨rfl, hb5, hl5, hk5⟩
          have HB5 : Hid (SigBuf B (B + 1) w5 (gp ++ badW c.bads (i + 1))) := by
            have := hb5
            unfold Hid
            rw [badW_succ, ← List.append_assoc, ← HLT.out]
            exact this
          have HL5 : Hid (Below B w w5) := HL3.out.trans hl5
          clear hb5 hl5 hk5 HADD HB3 HL3
          go_wp2
          go_roundg g2
          case measure => omega
          case rel => exact ⟨i + 1, by omega, rfl, HB5.out, HL5.out⟩
    | succ g =>
      have hj3 : j < 3 := by omega
      have hjz : (j : Int) < 3 := by omega
      have hg1 := grp_at I n1 n2 j hj3
      have hgs := grp_small I n1 n2 j
      have hgn := grpF_next I n1 n2 j hj3
      have hpn := grpP_next I n1 n2 j hj3
      have hbs := grpB_str j
      obtain ⟨gb, hgb⟩ : ∃ gb, gb = grpB j := ⟨_, rfl⟩
      obtain ⟨gm, hgm⟩ : ∃ gm, gm = grpM I n1 n2 j := ⟨_, rfl⟩
      obtain ⟨gf, hgf⟩ : ∃ gf, gf = grpF I n1 n2 j := ⟨_, rfl⟩
      obtain ⟨gf2, hgf2⟩ : ∃ gf2, gf2 = grpF I n1 n2 (j + 1) := ⟨_, rfl⟩
      obtain ⟨gq, hgq⟩ : ∃ gq, gq = grpP I n1 n2 j := ⟨_, rfl⟩
      obtain ⟨gc, hgc⟩ : ∃ gc, gc = grpC j := ⟨_, rfl⟩
      rw [← hgf, ← hgm, ← hgq] at hgs
      rw [← hgf, ← hgm, ← hgf2] at hgn
      rw [← hgf, ← hgm, ← hgq, ← hgc] at hpn
      rw [← hgb, ← hgm] at hg1
      rw [← hgb, ← hgc] at hbs
      rw [← hgq] at HB1
      rw [← hgf]
      have hc1 : wr.cell? ⟨B + 1 + 1, j * 2, none⟩ = some (.string gb) := (cell_of_block HF1.out.grp (j * 2)).trans hg1.1
      have hc2 : wr.cell? ⟨B + 1 + 1, j * 2 + 1, none⟩ = some (.int .i64 gm) := (cell_of_block HF1.out.grp (j * 2 + 1)).trans hg1.2
      have HGN := Lib.hid hgn
      have HGS := Lib.hid hgs
      have HPN := Lib.hid hpn
      have HBS := Lib.hid hbs
      have HGF2 := Lib.hid hgf2
      have hgf4 : gf ≤ 20000 := by omega
      have hgm4 : gm ≤ 20000 := by omega
      have hsum : gf + gm ≤ 20000 := by omega
      have W1 : IntKind.i64.wrap ((j : Int) + 1) = ((j + 1 : Nat) : Int) := by rw [IntWalk.i64_in _ (by omega)]; omega
      have W2 : IntKind.i64.wrap ((gf : Int) + (gm : Int)) = (gf2 : Int) := by rw [IntWalk.i64_in _ (by omega)]; omega
      clear hg1 hgs hgn hpn hbs hgb hgm hgf hgf2 hgq hgc
      go_wp2
      obtain ⟨P, hP⟩ : ∃ P, P = wr.heap.size := ⟨_, rfl⟩
      generalize hW1 : World.alloc wr _ = W1w
      have HP1 : Hid (W1w.heap[P]? = some (.cells #[.string gb, .int .i64 gm] 86 (0, 0))) := by subst hW1; exact heap_new _ _ _ hP
      have hext : Below wr.heap.size wr W1w := by subst hW1; exact ext_alloc _ _
      have HB2 : Hid (SigBuf B (B + 1) W1w (gq ++ numW gc gf 0)) := by
        have := HB1.out.below hext
        unfold Hid
        rw [show numW gc gf 0 = [] from rfl, List.append_nil]
        exact this
      have HL2 : Hid (Below B w W1w) := HL1.out.trans (hext.mono (Nat.le_trans hsz HL1.out.size))
      have HF2 := Lib.hid (HF1.out.below hext)
      have hPB : B + 1 < P := by
        have h1 := heap_lt HF1.out.grp
        omega
      rw [← hP]
      clear hW1 hext hP HB1 HL1 HF1 hc1 hc2
      go_loopg [8, 31] gm (fun g2 _ iv wq => ∃ i : Nat, i + g2 = gm ∧ iv = .int .i64 i ∧ Hid (SigBuf B (B + 1) wq (gq ++ numW gc gf i)) ∧ Hid (Below B w wq) ∧ Hid (FixS B (cirCells (.int .i64 I) (.slice a1 n1 c1) (.slice a2 n2 c2) (.slice a3 n3 c3) (.slice a4 n4 c4) (.slice a5 n5 c5)) (grpCells I n1 n2) wq) ∧ Hid (wq.heap[P]? = some (.cells #[.string gb, .int .i64 gm] 86 (0, 0))))
      case atStart => exact ⟨0, by omega, rfl, HB2.out, HL2.out, HF2.out, HP1.out⟩
      case round =>
        obtain ⟨i, hi, rfl, hb, hl, hf, hp⟩ := hrel
        have HB3 := Lib.hid hb.out
        have HL3 := Lib.hid hl.out
        have HF3 := Lib.hid hf.out
        have HP3 := Lib.hid hp.out
        have hp1 : wr.cell? ⟨P, 0, none⟩ = some (.string gb) := cell_of_block HP3.out 0
        have hp2 : wr.cell? ⟨P, 1, none⟩ = some (.int .i64 gm) := cell_of_block HP3.out 1
        clear hb hl hf hp HB2 HL2 HF2 HP1
        cases gk with
        | zero =>
          obtain rfl : i = gm := by omega
          have HB4 : Hid (SigBuf B (B + 1) wr (grpP I n1 n2 (j + 1))) := by
            unfold Hid
            rw [← HPN.out]
            exact HB3.out
          clear HB3
          go_wp2
          go_roundg g
          case measure => omega
          case rel => exact ⟨j + 1, by omega, rfl, by rw [← HGF2.out], HB4.out, HL3.out, HF3.out⟩
        | succ g2 =>
          have him : i < gm := by omega
          have hiz : (i : Int) < (gm : Int) := by omega
          have hlen : (gq ++ numW gc gf i).length ≤ 1000000 := by
            rw [List.length_append, numW_len]
            have := HGS.out.2
            omega
          obtain ⟨lt, hlt⟩ : ∃ lt, lt = 2 * (gf + i) := ⟨_, rfl⟩
          have hadd := sigadd_any B (B + 1) (gq ++ numW gc gf i) gb gc i lt wr HBS.out HB3.out (by omega) hlen (Nat.le_trans hsz HL3.out.size) (by omega) (HT.out.below (by have := HL3.out; rw [HB.out] at this; exact this))
          have HADD := Lib.hid hadd
          have HLT := Lib.hid hlt
          have W3 : IntKind.i64.wrap ((i : Int) + 1) = ((i + 1 : Nat) : Int) := by rw [IntWalk.i64_in _ (by omega)]; omega
          obtain ⟨gi, hgi⟩ : ∃ gi, gi = gf + i := ⟨_, rfl⟩
          have W4 : IntKind.i64.wrap ((gf : Int) + (i : Int)) = (gi : Int) := by rw [IntWalk.i64_in _ (by omega)]; omega
          have W5 : IntKind.u32.wrap (gi : Int) = (gi : Int) := IntWalk.u32_in _ (by omega)
          have W6 : IntKind.u32.wrap (2 * (gi : Int)) = (lt : Int) := by rw [IntWalk.u32_in _ (by omega)]; omega
          clear hlen hadd hlt hgi
          go_wp2_with fail
          refine HADD.out.mono ?_
          rintro e w5 ⟨rfl, hb5, hl5, hk5⟩
          have HB5 : Hid (SigBuf B (B + 1) w5 (gq ++ numW gc gf (i + 1))) := by
            have := hb5
            unfold Hid
            rw [numW_succ, ← List.append_assoc, ← HLT.out]
            exact this
          have HL5 : Hid (Below B w w5) := HL3.out.trans hl5
          have HF5 := Lib.hid (HF3.out.keep hk5)
          have HP5 := Lib.hid (hk5 _ _ _ _ HP3.out (by decide) (by omega))
          clear hb5 hl5 hk5 HADD HB3 HL3 HF3 HP3
          go_wp2
          go_roundg g2
          case measure => omega
          case rel => exact ⟨i + 1, by omega, rfl, HB5.out, HL5.out, HF5.out, HP5.out⟩
end Go.Proofs.YtgplkpfdbiapaaaGreatDoor
namespace Go.Proofs.YtgplkpfdbiapaaaGreatDoor
open Go Go.RowKit Go.Joins

theorem flat_len {α : Type} (f : α → List UInt8) (M : Nat) : ∀ l : List α, (∀ x ∈ l, (f x).length ≤ M) → (l.map f).flatten.length ≤ M * l.length
  | [], _ => Nat.zero_le _
  | x :: l, h => by
    have h1 := h x (List.mem_cons_self ..)
    have h2 := flat_len f M l (fun y hy => h y (List.mem_cons_of_mem _ hy))
    rw [List.map_cons, List.flatten_cons, List.length_append, List.length_cons, Nat.mul_succ]
    omega
theorem line_len (x : List UInt8) (r : List (List UInt8)) : (lineW (x :: r)).length = r.length + Lib.lens (x :: r) + 1 := by
  unfold lineW
  rw [List.length_append, Lib.join_length]
  simp
theorem var_len (s : List UInt8 × Nat) (h : s.1.length ≤ 8) : (varW s).length ≤ 40 := by
  unfold varW
  rw [line_len]
  simp only [Lib.lens, List.length_cons, List.length_nil, kVar, kWire, kOne, kEnd, List.map_cons, List.map_nil, List.sum_cons, List.sum_nil]
  omega
theorem one_len (val : Nat → Nat → UInt8) (f : Nat) (s : List UInt8 × Nat) (h : s.1.length ≤ 8) : (oneW val f s).length ≤ 10 := by
  unfold oneW
  split
  · rw [List.length_cons, line_len]
    simp only [Lib.lens, List.length_nil, List.map_cons, List.map_nil, List.sum_cons, List.sum_nil]
    omega
  · exact Nat.zero_le _
theorem time_len (n : Nat) (h : n ≤ 1000000) : (timeW n).length ≤ 9 := by
  unfold timeW
  have := dgv_len 6 n (by omega)
  simp
  omega
theorem frame_len (val : Nat → Nat → UInt8) (S : List (List UInt8 × Nat)) (f : Nat) (hf : f ≤ 1000000) (hS : ∀ s ∈ S, s.1.length ≤ 8) : (frameW val S f).length ≤ 9 + 10 * S.length := by
  unfold frameW
  rw [List.length_append]
  have h1 := time_len f hf
  have h2 := flat_len (oneW val f) 10 S (fun s hs => one_len val f s (hS s hs))
  omega
theorem body_len (val : Nat → Nat → UInt8) (S : List (List UInt8 × Nat)) (F : Nat) (hF : F ≤ 1000000) (hS : ∀ s ∈ S, s.1.length ≤ 8) : (bodyW val S F).length ≤ (9 + 10 * S.length) * F := by
  unfold bodyW
  have := flat_len (frameW val S) (9 + 10 * S.length) (List.range F) (fun f hf => frame_len val S f (by have := List.mem_range.1 hf; omega) hS)
  rw [List.length_range] at this
  exact this
theorem head_len (S : List (List UInt8 × Nat)) (hS : ∀ s ∈ S, s.1.length ≤ 8) : (headW S).length ≤ 100 + 40 * S.length := by
  unfold headW
  rw [List.length_append, List.length_append, List.length_append]
  have h1 : (lineW [kScope, kModule, kInquest, kEnd]).length = 27 := by decide
  have h2 : (lineW [kUpscope, kEnd]).length = 14 := by decide
  have h3 : (lineW [kEnddef, kEnd]).length = 21 := by decide
  have h4 := flat_len varW 40 S (fun s hs => var_len s (hS s hs))
  omega
theorem body_succ (val : Nat → Nat → UInt8) (S : List (List UInt8 × Nat)) (F : Nat) : bodyW val S (F + 1) = bodyW val S F ++ frameW val S F := by unfold bodyW; simp [List.range_succ]
theorem take_flat {α : Type} (f : α → List UInt8) (l : List α) (k : Nat) (h : k < l.length) : ((l.take (k + 1)).map f).flatten = ((l.take k).map f).flatten ++ f l[k] := by
  rw [List.take_succ_eq_append_getElem h, List.map_append, List.flatten_append, List.map_cons, List.map_nil, List.flatten_cons, List.flatten_nil, List.append_nil]

/-! Signals. -/
theorem text_sig (ch : UInt8) (i : Nat) (hc : strangeV ch = false) (hi : i < 10000000) : isTextV (ch :: Lib.decDigits i) 8 = true := by
  have hl := dgv_len 6 i (by omega)
  unfold isTextV
  simp only [Bool.and_eq_true, decide_eq_true_eq, Bool.not_eq_true', List.any_eq_false, List.length_cons]
  refine ⟨⟨by omega, by omega⟩, fun x hx => ?_⟩
  rcases List.mem_cons.1 hx with rfl | hx
  · rw [hc]; simp
  · have := dgv_all i x hx
    have h33 : (33 : UInt8).toNat = 33 := rfl
    have h126 : (126 : UInt8).toNat = 126 := rfl
    unfold strangeV
    simp only [Bool.or_eq_true, decide_eq_true_eq, not_or]
    refine ⟨fun h => ?_, fun h => ?_⟩
    · rw [UInt8.lt_iff_toNat_lt] at h; omega
    · rw [UInt8.lt_iff_toNat_lt] at h; omega
theorem mem_num {ch : UInt8} {first n : Nat} {s : List UInt8 × Nat} (h : s ∈ numW ch first n) : ∃ i, i < n ∧ s = (ch :: Lib.decDigits i, 2 * (first + i)) := by
  unfold numW at h
  obtain ⟨i, hi, rfl⟩ := List.mem_map.1 h
  exact ⟨i, List.mem_range.1 hi, rfl⟩
theorem mem_bad {l : List Nat} {n : Nat} {s : List UInt8 × Nat} (h : s ∈ badW l n) : ∃ i, i < n ∧ s = (98 :: Lib.decDigits i, l.getD i 0) := by
  unfold badW at h
  obtain ⟨i, hi, rfl⟩ := List.mem_map.1 h
  exact ⟨i, List.mem_range.1 hi, rfl⟩
theorem sig_text (c : NormC) (hm : MayC c) : ∀ s ∈ sigL c, isTextV s.1 8 = true := by
  have hf := hm.few
  have hb := hm.lens.2.1
  unfold varsN at hf
  intro s hs
  unfold sigL at hs
  rcases List.mem_append.1 hs with hs | hs
  · rcases List.mem_append.1 hs with hs | hs
    · rcases List.mem_append.1 hs with hs | hs
      · obtain ⟨i, hi, rfl⟩ := mem_num hs; exact text_sig _ _ rfl (by omega)
      · obtain ⟨i, hi, rfl⟩ := mem_num hs; exact text_sig _ _ rfl (by omega)
    · obtain ⟨i, hi, rfl⟩ := mem_num hs; exact text_sig _ _ rfl (by omega)
  · obtain ⟨i, hi, rfl⟩ := mem_bad hs; exact text_sig _ _ rfl (by omega)
theorem text_short {w : List UInt8} (h : isTextV w 8 = true) : w.length ≤ 8 := by
  unfold isTextV at h
  simp only [Bool.and_eq_true, decide_eq_true_eq] at h
  exact h.1.2
theorem sig_short (c : NormC) (hm : MayC c) : ∀ s ∈ sigL c, s.1.length ≤ 8 := fun s hs => text_short (sig_text c hm s hs)
theorem sig_many (c : NormC) : (sigL c).length = varsN c + c.bads.length := by
  unfold sigL varsN
  rw [List.length_append, List.length_append, List.length_append, numW_len, numW_len, numW_len, badW_len]
theorem names_nodup (ch : UInt8) (n : Nat) : ((List.range n).map (fun i => ch :: Lib.decDigits i)).Nodup := by
  rw [List.nodup_iff_pairwise_ne, List.pairwise_map]
  refine List.Pairwise.imp ?_ (List.nodup_iff_pairwise_ne.1 List.nodup_range)
  intro a b hab e
  exact hab (dgv_inj (List.cons.inj e).2)
theorem num_names (ch : UInt8) (first n : Nat) : (numW ch first n).map (·.1) = (List.range n).map (fun i => ch :: Lib.decDigits i) := by unfold numW; rw [List.map_map]; rfl
theorem bad_names (l : List Nat) (n : Nat) : (badW l n).map (·.1) = (List.range n).map (fun i => 98 :: Lib.decDigits i) := by unfold badW; rw [List.map_map]; rfl
theorem sig_nodup (c : NormC) : ((sigL c).map (·.1)).Nodup := by
  have hne : ∀ (a b : UInt8) (n m : Nat), a ≠ b → ∀ x ∈ (List.range n).map (fun i => a :: Lib.decDigits i), ∀ y ∈ (List.range m).map (fun i => b :: Lib.decDigits i), x ≠ y := by
    intro a b n m hab x hx y hy e
    obtain ⟨i, _, rfl⟩ := List.mem_map.1 hx
    obtain ⟨j, _, rfl⟩ := List.mem_map.1 hy
    exact hab (List.cons.inj e).1
  unfold sigL
  rw [List.map_append, List.map_append, List.map_append, num_names, num_names, num_names, bad_names]
  refine List.nodup_append.2 ⟨List.nodup_append.2 ⟨List.nodup_append.2 ⟨names_nodup _ _, names_nodup _ _, hne _ _ _ _ (by decide)⟩, names_nodup _ _, ?_⟩, names_nodup _ _, ?_⟩
  · intro x hx y hy
    rcases List.mem_append.1 hx with hx | hx
    · exact hne _ _ _ _ (by decide) x hx y hy
    · exact hne _ _ _ _ (by decide) x hx y hy
  · intro x hx y hy
    rcases List.mem_append.1 hx with hx | hx
    · rcases List.mem_append.1 hx with hx | hx
      · exact hne _ _ _ _ (by decide) x hx y hy
      · exact hne _ _ _ _ (by decide) x hx y hy
    · exact hne _ _ _ _ (by decide) x hx y hy
theorem sig_lit (c : NormC) (hm : MayC c) : ∀ s ∈ sigL c, s.2 < 4294967296 := by
  have hf := hm.few
  have hv := hf
  unfold varsN at hf
  intro s hs
  unfold sigL at hs
  rcases List.mem_append.1 hs with hs | hs
  · rcases List.mem_append.1 hs with hs | hs
    · rcases List.mem_append.1 hs with hs | hs
      · obtain ⟨i, hi, rfl⟩ := mem_num hs; show 2 * (1 + i) < _; omega
      · obtain ⟨i, hi, rfl⟩ := mem_num hs; show 2 * (1 + c.ins.toNat + i) < _; omega
    · obtain ⟨i, hi, rfl⟩ := mem_num hs; show 2 * (1 + c.ins.toNat + c.lats.length + i) < _; omega
  · obtain ⟨i, hi, rfl⟩ := mem_bad hs
    have := hm.bads (c.bads.getD i 0) (by simp [List.getD, List.getElem?_eq_getElem hi])
    show c.bads.getD i 0 < _
    omega
theorem value_le (vars : List UInt8) (lit : Nat) : (valueL vars lit).toNat ≤ 2 := by
  have hn : ∀ v : UInt8, (k1.nt v).toNat ≤ 2 := fun v => by
    show (UInt8.ofNat (not1 v.toNat)).toNat ≤ 2
    have := not1_le v.toNat
    rw [UInt8.toNat_ofNat']
    omega
  unfold valueL
  split
  · rename_i h
    unfold Kd.val
    split
    · exact hn _
    · exact h.2
  · decide
/-- The frames' values of the literals. -/
def valT (c : NormC) (t : TraceC) (f lit : Nat) : UInt8 := valueL (varsAt c t f) lit
def fileT (c : NormC) (t : TraceC) : List UInt8 := fileW (valT c t) (sigL c) t.frames.length
end Go.Proofs.YtgplkpfdbiapaaaGreatDoor
