/- vcd.appendTime, by its contract. -/
import Derived.Test.YtgplkpfdbiapaaaGreatDoorLib
import Derived.Test.YtgplkpfdbiapaaaGreatDoorOwn
import Derived.Test.YtgplkpfdbiapaaaGreatDoorNBase
import Derived.Test.YtgplkpfdbiapaaaGreatDoorGA3
import Derived.Test.YtgplkpfdbiapaaaGreatDoorNHeap
import Derived.Test.YtgplkpfdbiapaaaGreatDoorVdSpec
import Derived.Test.YtgplkpfdbiapaaaGreatDoorGG
import Derived.Test.YtgplkpfdbiapaaaGreatDoorGH
import Derived.Test.YtgplkpfdbiapaaaGreatDoorVdHold
import Derived.Test.YtgplkpfdbiapaaaGreatDoorRows
import Derived.Test.YtgplkpfdbiapaaaGreatDoorShelf
import Derived.BigQuiet
import Derived.Deep.AppendLies
import Derived.Deep.CutRange
import Derived.Deep.QuietTactic
import Derived.Deep.RegionHeld3
import Derived.Deep.RegionLaw
import Derived.Deep.RegionWith
import Derived.KernelRfl
import Derived.Laws.CopyOwn
import Derived.Laws.EntriesVeiled
import Derived.Laws.IdiomCopy
import Derived.Laws.OwnMore
import Derived.Laws.Tables
import Derived.Lib.AppendStr
import Derived.Lib.AppendZeros
import Derived.Lib.BufferWrite
import Derived.Lib.ConvBytes
import Derived.Lib.Hide
import Derived.Lib.ItoaNum
import Derived.Lib.MakeNoZero
import Derived.Lib.ParseIntBCases
import Derived.Lib.SlBytesRow
import Derived.Lib.SmallJoins
import Derived.Maps.AppendAt
import Derived.Maps.Own
import Derived.Maps.OwnOps
import Derived.Maps.OwnSet
import Derived.OrdersHeld
import Derived.Shelf.Bytes.SlSmallAll
import Derived.Shelf.Pu.Lower
import Derived.Shelf.Pu.ToError
import Derived.Shelf.Pu.ToErrorRange
import Derived.WalkKit
import Derived.WalkLawsBesides
import Derived.WalkSpells
import Derived.Test.YtgplkpfdbiapaaaGreatDoorGA1
import Derived.Test.YtgplkpfdbiapaaaGreatDoorShelf2
import Derived.Laws.Runes
import Derived.Lib.AppendIntMem
import Derived.Lib.DecodeN
import Derived.Lib.Index
import Derived.Lib.IndexEntry
import Derived.Lib.Join
import Derived.Shelf.Spec.DecodeRune
import Derived.Shelf.Unicode.DecodeSlow
/- The law VcdLoose: what was read stays where another row grows; how much is read at most. -/
namespace Go.Proofs.YtgplkpfdbiapaaaGreatDoor
open Go Go.RowKit Go.Joins Go.Shelf Go.Maps

theorem ownsN_aside {w w' : World} {base k : Nat} {e : TypeId} {v : Value} {n : Nat} {xs : List Value} {row : Option Nat} (h : w.ownsRow base e k v n xs) (hg : w.grownBy w' row) (hr : ∀ q, row = some q → q < base) : w'.ownsRow base e k v n xs := by
  refine ⟨h.1, ?_⟩
  rcases h.2 with h2 | ⟨g, cap, cur, hv, hb, hh, r⟩
  · exact .inl h2
  · exact .inr ⟨g, cap, cur, hv, hb, heap_grown hh hg (fun e => by have := hr _ e; omega), r⟩
theorem Row.aside {ok : Value → Prop} {w w' : World} {base : Nat} {e : TypeId} {v : Value} {n : Nat} {xs : List Value} {row : Option Nat} (h : Row ok w base e v n xs) (hg : w.grownBy w' row) (hr : ∀ q, row = some q → q < base) : Row ok w' base e v n xs := by
  refine ⟨h.1, ?_⟩
  rcases h.2 with h2 | ⟨g, cap, cur, hv, hb, hh, r⟩
  · exact .inl h2
  · exact .inr ⟨g, cap, cur, hv, hb, heap_grown hh hg (fun e => by have := hr _ e; omega), r⟩
theorem OwnW.aside {w w' : World} {base : Nat} {v : Value} {ss : List Slc} {L : List (List UInt8 × List UInt8)} {row : Option Nat} (h : OwnW w base v ss L) (hg : w.grownBy w' row) (hr : ∀ q, row = some q → q < base) : OwnW w' base v ss L :=
  ⟨h.lens, ownsN_aside h.row hg hr, fun j hj => ownsN_aside (h.rows j hj) hg hr, h.apart⟩
theorem Row.onward {ok : Value → Prop} {w w' : World} {base : Nat} {e : TypeId} {v : Value} {n : Nat} {xs : List Value} (h : Row ok w base e v n xs) (hb : Below w.heap.size w w') : Row ok w' base e v n xs := by
  refine ⟨h.1, ?_⟩
  rcases h.2 with h2 | ⟨g, cap, cur, hv, hg, hh, r⟩
  · exact .inl h2
  · exact .inr ⟨g, cap, cur, hv, hg, heap_below hh hb, r⟩
/-- Between base and the world's own end all stays. -/
def MidSame (base : Nat) (w w' : World) : Prop := ∀ k, base ≤ k → k < w.heap.size → w'.heap[k]? = w.heap[k]?
theorem MidSame.refl (base : Nat) (w : World) : MidSame base w w := fun _ _ _ => rfl
theorem MidSame.below {base : Nat} {w w' w'' : World} (h : MidSame base w w') (hb : Below w'.heap.size w' w'') (hs : w.heap.size ≤ w'.heap.size) : MidSame base w w'' := fun k h1 h2 => (hb.block k (by omega)).trans (h k h1 h2)
theorem MidSame.grown {base : Nat} {w w' w'' : World} {row : Option Nat} (h : MidSame base w w') (hg : w'.grownBy w'' row) (hs : w.heap.size ≤ w'.heap.size) (hr : ∀ q, row = some q → q < base ∨ w.heap.size ≤ q) : MidSame base w w'' := fun k h1 h2 =>
  (hg.block k (by omega) (fun e => by rcases hr k e.symm with h' | h' <;> omega)).trans (h k h1 h2)
theorem ownsN_mid {w w' : World} {base k : Nat} {e : TypeId} {v : Value} {n : Nat} {xs : List Value} (h : w.ownsRow base e k v n xs) (hm : MidSame base w w') : w'.ownsRow base e k v n xs := by
  refine ⟨h.1, ?_⟩
  rcases h.2 with h2 | ⟨g, cap, cur, hv, hb, hh, r⟩
  · exact .inl h2
  · exact .inr ⟨g, cap, cur, hv, hb, (hm g hb (heap_lt hh)).trans hh, r⟩
theorem Row.mid {ok : Value → Prop} {w w' : World} {base : Nat} {e : TypeId} {v : Value} {n : Nat} {xs : List Value} (h : Row ok w base e v n xs) (hm : MidSame base w w') : Row ok w' base e v n xs := by
  refine ⟨h.1, ?_⟩
  rcases h.2 with h2 | ⟨g, cap, cur, hv, hb, hh, r⟩
  · exact .inl h2
  · exact .inr ⟨g, cap, cur, hv, hb, (hm g hb (heap_lt hh)).trans hh, r⟩
theorem OwnW.mid {w w' : World} {base : Nat} {v : Value} {ss : List Slc} {L : List (List UInt8 × List UInt8)} (h : OwnW w base v ss L) (hm : MidSame base w w') : OwnW w' base v ss L :=
  ⟨h.lens, ownsN_mid h.row hm, fun j hj => ownsN_mid (h.rows j hj) hm, h.apart⟩
def AnyB : Value → Prop := fun _ => True
theorem Row.ofOwnsB {w : World} {base : Nat} {e : TypeId} {v : Value} {n : Nat} {xs : List Value} (h : w.ownsRow base e 1 v n xs) : Row AnyB w base e v n xs := by
  refine ⟨by have := h.1; omega, ?_⟩
  rcases h.2 with h2 | ⟨g, cap, cur, hv, hg, hh, hn, hc, hs, ht⟩
  · exact .inl h2
  · exact .inr ⟨g, cap, cur, hv, hg, hh, hn, hc, by omega, by simpa using ht, fun _ _ => trivial⟩
theorem run_ok : ∀ (ws : List (List UInt8)) (s : VSt) (r : VRd), OkV s r → ∃ s', OkV s' (runV s r ws)
  | [], s, r, h => ⟨_, step_ok s r [] h⟩
  | w :: ws, s, r, h => by
    rw [runV]
    split
    · exact ⟨_, step_ok s r w h⟩
    · exact run_ok ws _ _ (step_ok s r w h)
theorem read_small (bs : List UInt8) : (readV bs).1.length ≤ 4096 ∧ (readV bs).2.1.length ≤ 32768 := by
  obtain ⟨s', h⟩ := run_ok (wordsV bs) .decl r0V ok_start
  unfold readV
  split
  · exact ⟨Nat.zero_le _, Nat.zero_le _⟩
  · split
    · exact ⟨Nat.zero_le _, Nat.zero_le _⟩
    · exact ⟨h.times, by rw [List.length_map]; exact h.many⟩
theorem kTail_cells : Lib.strCells { data := #[36, 99, 111, 109, 109, 101, 110, 116, 32, 119, 104, 97, 116, 32, 36, 101, 110, 100] } = kTail.map bv := by rfl
end Go.Proofs.YtgplkpfdbiapaaaGreatDoor
/- vcd.Write's closure, by its contract: it adds a line to the bytes that it captures. -/
namespace Go.Proofs.YtgplkpfdbiapaaaGreatDoor
open Go Go.RowKit Go.Joins Go.Shelf Go.Maps

theorem step_append_row_string {P : Program} (ok : Value → Prop) (w : World) {ops : Array Oper} {o : Oper} {a : Act} {K : Act → World → Prop} {Q : Exit → Act → World → Prop} {E : Prop} (hgd : o.guard = none) (sl x : Operand) (t u : TypeId)
    (ho : o.op = .call { callee := .builtin .append, args := #[sl, x], argTypes := #[t, u] })
    (base : Nat) (e : TypeId) (i : TypeInfo) (ht : P.underlying t = some (.slice e)) (hu : P.underlying u = some .string) (hi : P.info? e = some i) (hz : i.zero = some (.int .u8 0))
    (hsize : i.size = 1) (hby : i.bytes = 1) (hok : ok (.int .u8 0))
    (v : Value) (n : Nat) (xs : List Value) (hs : a.eval sl = v) (hown : Row ok w base e v n xs) (s : ByteArray) (hx : a.eval x = .string s) (hoks : ∀ u ∈ Lib.strCells s, ok u)
    (h63 : n + s.size ≤ maxLen) (hbytes : n + s.size ≤ 140737488355328) (hbase : base ≤ w.heap.size)
    (h : ∀ v' w', Row ok w' base e v' (n + s.size) (xs ++ Lib.strCells s) → w.grownBy w' v.ownBlock → K (a.put o.dst v') w') :
    if Region.wanted o (yielded ops a.tmps) = true then Oper.wp P o a w K Q else E := by
  have hw : Region.wanted o (yielded ops a.tmps) = true := by simp [Region.wanted, hgd]
  rw [if_pos hw]
  obtain ⟨v', w', hr, h2, h3, h4⟩ := run_append_row_string (P := P) ok w base t u o.type e i ht hu hi hz hsize hby hok v n xs hown s hoks h63 hbytes hbase
  unfold Oper.wp execOp
  simp only [ho, resolve, invoke, builtin, Sem.run_bind, Sem.run_pure, Result.andThen_ok, List.map_toArray, List.map_cons, List.map_nil, hs, hx, hr]
  exact h v' w' h2 h3
/-- The captured variable at block g holds a row of its own that reads as cur. -/
def BufW (base g : Nat) (w : World) (cur : List UInt8) : Prop := ∃ v, w.heap[g]? = some (.cells #[v] 27 (0, 0)) ∧ Row AnyB w base 5 v cur.length (cur.map bv)
/-- Blocks of another type are as they were, but for g. -/
def KeptW (g : Nat) (w w' : World) : Prop := ∀ D C t fr, w.heap[D]? = some (.cells C t fr) → t ≠ 5 → D ≠ g → w'.heap[D]? = some (.cells C t fr)
theorem KeptW.refl (g : Nat) (w : World) : KeptW g w w := fun _ _ _ _ h _ _ => h
theorem KeptW.trans {g : Nat} {a b c : World} (h : KeptW g a b) (k : KeptW g b c) : KeptW g a c := fun D C t fr hD ht hg => k D C t fr (h D C t fr hD ht hg) ht hg
theorem KeptW.below {g : Nat} {a b c : World} (h : KeptW g a b) (k : Below b.heap.size b c) : KeptW g a c := fun D C t fr hD ht hg => heap_below (h D C t fr hD ht hg) k
theorem BufW.below {base g : Nat} {w w' : World} {cur : List UInt8} (h : BufW base g w cur) (hb : Below w.heap.size w w') : BufW base g w' cur := by
  obtain ⟨v, h1, h2⟩ := h
  exact ⟨v, heap_below h1 hb, h2.onward hb⟩
theorem anyrow_not_own {w : World} {base : Nat} {e : TypeId} {v : Value} {n : Nat} {xs : List Value} (h : Row AnyB w base e v n xs) {D : Nat} {C : Array Value} {t : TypeId} {fr : Nat × Nat} (hD : w.heap[D]? = some (.cells C t fr)) (ht : t ≠ e) : v.ownBlock ≠ some D := ownsN_notown h.own hD ht
theorem buf_end {base g : Nat} {w w1 w2 : World} {v v2 : Value} {n n2 : Nat} {xs xs2 : List Value} {cur2 : List UInt8} (hb1 : Below w.heap.size w w1) (hv1 : w1.heap[g]? = some (.cells #[v] 27 (0, 0)))
    (hr1 : Row AnyB w1 base 5 v n xs) (hg2 : w1.grownBy w2 v.ownBlock) (r2 : Row AnyB w2 base 5 v2 n2 xs2) (hn2 : n2 = cur2.length) (hx2 : xs2 = cur2.map bv) (hbase : base ≤ w.heap.size) (hg : base ≤ g) :
    BufW base g (w2.setCell ⟨g, 0, .none⟩ v2) cur2 ∧ Below base w (w2.setCell ⟨g, 0, .none⟩ v2) ∧ KeptW g w (w2.setCell ⟨g, 0, .none⟩ v2) := by
  have hh2 := heap_grown hv1 hg2 (anyrow_not_own hr1 hv1 (by decide))
  subst hn2; subst hx2
  refine ⟨⟨v2, ?_, ?_⟩, ?_, ?_⟩
  · exact block_setCell hh2 v2
  · refine Row.other r2 fun k hk => ?_
    exact Below.heap_setCell w2 ⟨g, 0, .none⟩ v2 k (fun e => (anyrow_not_own r2 hh2 (by decide)) (by rw [hk, e]))
  · exact (((hb1.mono hbase).grown hg2 (Nat.le_trans hbase hb1.size) (fun k hk => (hr1.own.lt k hk).1))).setCell hg v2
  · intro D C t fr hD ht hDg
    have h1 := heap_below hD hb1
    have h2 := heap_grown h1 hg2 (anyrow_not_own hr1 h1 ht)
    exact (Below.heap_setCell w2 ⟨g, 0, .none⟩ v2 D hDg).trans h2
set_option maxRecDepth 100000 in
set_option maxHeartbeats 1600000 in
theorem line_any (base g : Nat) (cur : List UInt8) (ws : List (List UInt8)) (bk c : Nat) (w : World) (hB : BufW base g w cur) (hcells : ∀ (j : Nat) x, ws[j]? = some x → w.cell? ⟨bk, j, none⟩ = some (sv x)) (hbk : bk < w.heap.size) (hws : ws.length ≤ 1000) (hcap : ws.length ≤ c)
    (hlen : (lineW ws).length ≤ 1000000) (hcur : cur.length ≤ 100000000000) (hbase : base ≤ w.heap.size) (hg : base ≤ g) :
    Calls Tryz.prog 17 #[.slice (some ⟨bk, 0, none⟩) ws.length c, .pointer (some ⟨g, 0, .none⟩)] w fun e w' => e = .returned (.tuple #[]) ∧ BufW base g w' (cur ++ lineW ws) ∧ Below base w w' ∧ KeptW g w w' := by
  obtain ⟨i0, hi, hz0, hz1, hz2⟩ := info_parts info_u8v
  obtain ⟨v, hv, hrow⟩ := hB
  have hcv2 : w.cell? ⟨g, 0, none⟩ = some v := cell_of_block hv 0
  have hfz := unfrozen_of_block hv 0
  obtain ⟨va, vc, rfl⟩ := hrow.form
  have HV := Lib.hid hv
  have HR := Lib.hid hrow
  have hd : Below w.heap.size w w.drew := (Below.refl _ w).drew
  obtain ⟨T, hT⟩ : ∃ T, T = Lib.join ws [32] := ⟨_, rfl⟩
  have hll : T.length + 1 ≤ 1000000 := by
    unfold lineW at hlen
    rw [List.length_append, List.length_singleton, ← hT] at hlen
    exact hlen
  have hbt : (ws.map str).map (·.data.toList) = ws := by rw [List.map_map]; have : (fun x : List UInt8 => (str x).data.toList) = id := by funext x; simp [str]
                                                         exact (congrArg (fun f => ws.map f) this).trans (List.map_id ws)
  have hj := Tryz.strings_Join bk 0 c (ws.map str) ⟨#[32]⟩ w.drew (fun j x hx => by
    rw [List.getElem?_map] at hx
    cases hw : ws[j]? with
    | none => rw [hw] at hx; cases hx
    | some y =>
      rw [hw] at hx
      cases hx
      rw [Nat.zero_add]
      exact (hd.cell (lt_of_cellV (hcells j y hw))).trans (hcells j y hw)) hbk (by rw [List.length_map]; omega) (by rw [List.length_map]; exact hcap) (by rw [hbt]; show (Lib.join ws [32]).length ≤ _; rw [← hT]; omega)
  rw [hbt, List.length_map] at hj
  have hj2 : Calls Tryz.prog 18 #[.slice (some ⟨bk, 0, none⟩) ws.length c, .string ⟨#[32]⟩] w.drew fun e w' => e = .returned (.string (str T)) ∧ Below w.drew.heap.size w.drew w' := by
    rw [hT]; exact hj
  have HC := Lib.hid hj2
  have HDR := Lib.hid hd
  have HTT : Hid (lineW ws = T ++ [10]) := by unfold Hid lineW; rw [← hT]
  obtain ⟨N, hN⟩ : ∃ N, N = ws.length := ⟨_, rfl⟩
  rw [← hN] at HC ⊢
  obtain ⟨M, hM⟩ : ∃ M, M = cur.length := ⟨_, rfl⟩
  have HM := Lib.hid hM
  rw [← hM] at HR HV hcv2 hcur
  clear hv hrow hd hT hj hj2 hcells hlen hN hbt hcap hws hM
  have hcat : Lib.strCells (str T ++ { data := #[10] }) = (T ++ [10]).map bv ∧ (str T ++ { data := #[10] } : ByteArray).size = T.length + 1 := by
    have : (str T ++ { data := #[10] } : ByteArray) = str (T ++ [10]) := by
      unfold str
      apply ByteArray.ext
      simp [ByteArray.data_append]
    rw [this, strCells_str, size_str]
    simp
  have HCAT := Lib.hid hcat.1
  have hq4 : M + (str T ++ { data := #[10] } : ByteArray).size ≤ maxLen := by rw [hcat.2]; unfold maxLen; omega
  have hq5 : M + (str T ++ { data := #[10] } : ByteArray).size ≤ 140737488355328 := by rw [hcat.2]; omega
  have HQ := Lib.hid (And.intro hq4 hq5)
  have HSZ := Lib.hid hcat.2
  have hnl : ¬ 9223372036854775807 < (str T).size + 1 := by rw [size_str]; omega
  clear hcat hq4 hq5
  go_enter Tryz.func17, Tryz.ntmps17
  go_region_law (first
    | (refine step_append_row_string AnyB _ rfl (.tmp 3) (.tmp 6) 27 9 rfl base 5 i0 Tryz.underlying27 Tryz.underlying9 hi hz0 hz1 hz2 trivial (.slice va M vc) M (cur.map bv) (by rfl) HR1.out (str T ++ { data := #[10] }) (by rfl) (fun _ _ => trivial) HQ.out.1 HQ.out.2 hq6 ?_; intro v2 w2 r2 hg2; rw [HSZ.out] at r2; obtain ⟨a2, c2, rfl⟩ := r2.form; have hh2 := heap_grown HV1.out hg2 (anyrow_not_own HR1.out HV1.out (by decide)); have hc2 : w2.cell? ⟨g, 0, none⟩ = some (.slice va M vc) := cell_of_block hh2 0; have hf2 : w2.frozen? ⟨g, 0, none⟩ = false := unfrozen_of_block hh2 0; have HG2 := Lib.hid hg2; have R2 := Lib.hid r2; have HH2 := Lib.hid hh2; clear hg2 r2 hh2)
    | (go_simp; go_at_call 18; (with_reducible refine HC.out.mono ?_); rintro e w1 ⟨rfl, b1⟩; have hb1 : Below w.heap.size w w1 := HDR.out.trans b1; have HB1 := Lib.hid hb1; have HV1 := Lib.hid (heap_below HV.out hb1); have HR1 := Lib.hid (HR.out.onward hb1); have hq6 : base ≤ w1.heap.size := Nat.le_trans hbase hb1.size; have hcg1 : w1.cell? ⟨g, 0, none⟩ = some (.slice va M vc) := cell_of_block HV1.out 0; clear b1 hb1))
  all_goals go_wp2
  all_goals go_end0
  all_goals exact ⟨rfl, buf_end HB1.out HV1.out HR1.out HG2.out R2.out (by rw [HTT.out, List.length_append, HM.out]; simp) (by rw [HTT.out, HCAT.out]; simp) hbase hg⟩
end Go.Proofs.YtgplkpfdbiapaaaGreatDoor
namespace Go.Proofs.YtgplkpfdbiapaaaGreatDoor
open Go Go.RowKit Go.Joins Go.Shelf Go.Maps

/-- Blocks of another type are as they were. -/
def KeptU (w w' : World) : Prop := ∀ (D : Nat) (C : Array Value) (t : TypeId) (fr : Nat × Nat), w.heap[D]? = some (.cells C t fr) → t ≠ 5 → w'.heap[D]? = some (.cells C t fr)
theorem KeptU.trans {a b c : World} (h : KeptU a b) (k : KeptU b c) : KeptU a c := fun D C t fr hD ht => k D C t fr (h D C t fr hD ht) ht
theorem KeptU.below {w w' : World} (h : Below w.heap.size w w') : KeptU w w' := fun _ _ _ _ hD _ => heap_below hD h
theorem KeptU.row {w w' : World} {base : Nat} {v : Value} {n : Nat} {xs : List Value} (h : w.ownsRow base 5 1 v n xs) (hg : w.grownBy w' v.ownBlock) : KeptU w w' := fun _ _ _ _ hD ht => heap_grown hD hg (ownsN_notown h hD ht)
theorem KeptU.others {w w' : World} (h : Lib.OthersKept 5 none w w') : KeptU w w' := fun D C t fr hD ht => h D _ hD (by simp) (fun c fz e => by cases e; exact ht rfl)
theorem cell_one_newW (w : World) (x : Value) (t : TypeId) : ∀ j u, [x][j]? = some u → (w.alloc (.cells #[x] t)).cell? ((⟨w.heap.size, 0, none⟩ : Addr).add j) = some u := by
  intro j u hj
  match j, hj with
  | 0, hj => simp at hj; subst hj; exact cell_of_block (heap_new w _ _ rfl) 0
theorem byteCells_bv (l : List UInt8) : Lib.byteCells l = l.map bv := rfl
set_option maxRecDepth 100000 in
set_option maxHeartbeats 1600000 in
theorem atime_any (base : Nat) (cur : List UInt8) (m n : Nat) (v : Value) (w : World) (hr : w.ownsRow base 5 1 v m (cur.map bv)) (hm : m = cur.length) (hn : n ≤ 1000000) (hcur : m ≤ 100000000000) (hbase : base ≤ w.heap.size)
    (htab : Lib.TabBelow Tryz.prog base w "internal/strconv.uint64pow10" .u64 Lib.pow10Tab) :
    Calls Tryz.prog 19 #[v, .int .i64 (n : Int)] w fun e w' => ∃ v', e = .returned v' ∧ w'.ownsRow base 5 1 v' (cur ++ timeW n).length ((cur ++ timeW n).map bv) ∧ Below base w w' ∧ KeptU w w' := by
  obtain ⟨i0, hin, hz0, hz1, hz2⟩ := info_parts info_u8v
  have hdl := dgv_len 6 n (by omega)
  obtain ⟨va, vc, rfl⟩ := ownsN_form hr
  obtain ⟨xs, hxs⟩ : ∃ xs, xs = cur.map bv := ⟨_, rfl⟩
  rw [← hxs] at hr
  obtain ⟨K, hK⟩ : ∃ K, K = (Lib.decDigits n).length := ⟨_, rfl⟩
  rw [← hK] at hdl
  have hlen : (cur ++ timeW n).length = m + 1 + K + 1 := by unfold timeW; rw [List.length_append, ← hm]; simp [hK]; omega
  have hcells : (cur ++ timeW n).map bv = xs ++ .int .u8 35 :: ((Lib.decDigits n).map bv ++ [.int .u8 10]) := by rw [hxs]; unfold timeW; simp [bv]
  rw [hlen, hcells]
  have hit : Lib.itoa (n : Int) = Lib.decDigits n := Lib.itoa_nonneg n
  have HIT := Lib.hid hit
  have HK := Lib.hid hK
  obtain ⟨DD, hDD⟩ : ∃ DD, DD = (Lib.decDigits n).map bv := ⟨_, rfl⟩
  rw [← hDD]
  have HDD := Lib.hid hDD
  have HW1 : Hid ((w.alloc (.cells #[.int .u8 35] 5)).ownsRow base 5 1 (.slice va m vc) m xs) := ownsN_below hr (ext_alloc _ _)
  have HR := Lib.hid hr
  have HT := Lib.hid htab
  have hnw := cell_one_newW w (.int .u8 35) 5
  have HNW := Lib.hid hnw
  clear hlen hcells hit hK hr hxs hm hnw htab hDD
  go_enter Tryz.func19, Tryz.ntmps19
  go_wp2_with (at_builtin; refine wpList_append_own_at _ rfl _ _ 27 rfl base 5 i0 (.int .u8 0) 1 1 Tryz.underlying27 hin hz0 hz1 hz2 rfl (by decide) (.slice va m vc) m xs rfl HW1.out ⟨w.heap.size, 0, none⟩ 1 1 [.int .u8 35] rfl rfl HNW.out (by simp [Value.oneCell']) ?a1 ?a2 ?a3 ?_)
  case a1 => unfold maxLen; omega
  case a2 => omega
  case a3 => exact Nat.le_trans hbase (ext_alloc w _).size
  intro v2 w2 hr2 hg2 _ _
  obtain ⟨va2, vc2, rfl⟩ := ownsN_form hr2
  have hb2 : Below base w w2 := (((ext_alloc w _).mono hbase)).grown hg2 (Nat.le_trans hbase (ext_alloc w _).size) (fun q hq => (HW1.out.lt q hq).1)
  have hk2 : KeptU w w2 := (KeptU.below (ext_alloc w _)).trans (KeptU.row HW1.out hg2)
  have hc := Tryz.strconv_AppendInt_10 base (m + 1) (n : Int) (by omega) (by omega) _ _ w2 hr2 (Nat.le_trans hbase (Nat.le_trans (ext_alloc w (.cells #[.int .u8 35] 5)).size hg2.size)) (by omega) (HT.out.on hb2)
  rw [HIT.out, byteCells_bv, ← HK.out, ← HDD.out] at hc
  have HC := Lib.hid hc
  have HB2 := Lib.hid hb2
  have HK2 := Lib.hid hk2
  have hs2 : base ≤ w2.heap.size := Nat.le_trans hbase hb2.size
  clear hr2 hg2 hb2 hk2 hc HW1 HNW HR
  go_wp2_with fail
  refine HC.out.mono ?_
  rintro e w3 ⟨v3, rfl, hr3, hb3, ho3⟩
  obtain ⟨va3, vc3, rfl⟩ := ownsN_form hr3
  have HB3 : Hid (Below base w w3) := HB2.out.trans hb3
  have HK3 : Hid (KeptU w w3) := HK2.out.trans (KeptU.others ho3)
  have HW3 : Hid ((w3.alloc (.cells #[.int .u8 10] 5)).ownsRow base 5 1 (.slice va3 (m + 1 + K) vc3) (m + 1 + K) (xs ++ [.int .u8 35] ++ DD)) := ownsN_below hr3 (ext_alloc _ _)
  have hnw3 := cell_one_newW w3 (.int .u8 10) 5
  have HNW3 := Lib.hid hnw3
  have hs3 : base ≤ w3.heap.size := Nat.le_trans hs2 hb3.size
  clear hr3 hb3 ho3 hnw3 HC HB2 HK2
  go_wp2_with (at_builtin; refine wpList_append_own_at _ rfl _ _ 27 rfl base 5 i0 (.int .u8 0) 1 1 Tryz.underlying27 hin hz0 hz1 hz2 rfl (by decide) (.slice va3 (m + 1 + K) vc3) (m + 1 + K) (xs ++ [.int .u8 35] ++ DD) rfl HW3.out ⟨w3.heap.size, 0, none⟩ 1 1 [.int .u8 10] rfl rfl HNW3.out (by simp [Value.oneCell']) ?b1 ?b2 ?b3 ?_)
  case b1 => unfold maxLen; omega
  case b2 => omega
  case b3 => exact Nat.le_trans hs3 (ext_alloc w3 _).size
  intro v4 w4 hr4 hg4 _ _
  have HE : Hid (∃ v', Ending.returned v4 = .returned v' ∧ w4.ownsRow base 5 1 v' (m + 1 + K + 1) (xs ++ .int .u8 35 :: (DD ++ [.int .u8 10])) ∧ Below base w w4 ∧ KeptU w w4) := by
    refine ⟨v4, rfl, ?_, ((HB3.out.trans ((ext_alloc w3 _).mono hs3))).grown hg4 (Nat.le_trans hs3 (ext_alloc w3 _).size) (fun q hq => (HW3.out.lt q hq).1), (HK3.out.trans (KeptU.below (ext_alloc w3 _))).trans (KeptU.row HW3.out hg4)⟩
    have := hr4
    simpa using this
  clear hr4 hg4 HW3 HNW3
  go_wp2
  go_ret
  exact HE.out
end Go.Proofs.YtgplkpfdbiapaaaGreatDoor
