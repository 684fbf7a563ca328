/- The reference's bit, at, May, with, Not1, And1 for words, by their contracts. -/
import Derived.Test.YtcoehbkjccfhlaaGEncM00
import Derived.BigQuiet
import Derived.Deep.AppendLies
import Derived.Deep.QuietTactic
import Derived.Deep.RegionLaw
import Derived.Deep.RegionWith
import Derived.Lib.ConvBytes
import Derived.Lib.Hide
import Derived.Lib.SlBytesRow
import Derived.Lib.SmallJoins
import Derived.Shelf.Bytes.SlSmallAll
import Derived.WalkKit
import Derived.WalkLawsBesides
import Derived.WalkSpells
import Derived.Test.YtcoehbkjccfhlaaGEncM01
import Derived.Test.YtcoehbkjccfhlaaRows
import Derived.KernelRfl
import Derived.Laws.EntriesVeiled
import Derived.Lib.AppendStr
import Derived.Test.YtcoehbkjccfhlaaGEncM03
import Derived.Deep.CutRange
import Derived.Deep.RegionHeld3
import Derived.Laws.Bits64b
import Derived.Laws.BitsAllLaws
import Derived.Laws.BitsLemmas
import Derived.Laws.Tables
import Derived.Lib.AppendZeros
import Derived.Maps.AppendAt
import Derived.Test.YtcoehbkjccfhlaaGEncM04
import Derived.BigRegion
/- append to a row of the call's own at a step of a region that draws its order. -/
namespace Go.Proofs.Ytcoehbkjccfhlaa
open Go Go.RowKit

section
variable {P : Program} (ok : Value → Prop) (w : World)
theorem step_append_row {ops : Array Oper} {o : Oper} {a : Act} {K : Act → World → Prop} {Q : Exit → Act → World → Prop} {E : Prop} (hgd : o.guard = none) (s x : Operand) (t : TypeId)
    (ho : o.op = .call { callee := .builtin .append, args := #[s, x], argTypes := #[t, t] })
    (base : Nat) (e : TypeId) (i : TypeInfo) (z : Value) (bytes : Nat) (ht : P.underlying t = some (.slice e)) (hi : P.info? e = some i) (hz : i.zero = some z)
    (hsize : i.size = 1) (hby : i.bytes = bytes) (hzs : z.cells = #[z]) (hok : ok z)
    (v : Value) (n : Nat) (xs : List Value) (hs : a.eval s = v) (hown : Row ok w base e v n xs)
    (ad : Option Addr) (m c : Nat) (news : List Value) (hx : a.eval x = .slice ad m c) (hsee : Sees w ad m c news) (h1 : ∀ u ∈ news, u.oneCell' = true) (hoks : ∀ u ∈ news, ok u)
    (h63 : n + m ≤ maxLen) (hbytes : (n + m) * bytes ≤ 140737488355328) (hbase : base ≤ w.heap.size)
    (h : ∀ v' w', Row ok w' base e v' (n + m) (xs ++ news) → w.grownBy w' v.ownBlock → K (a.put o.dst v') w') :
    if Region.wanted o (yielded ops a.tmps) = true then Oper.wp P o a w K Q else E := by
  have hw : Region.wanted o (yielded ops a.tmps) = true := by simp [Region.wanted, hgd]
  rw [if_pos hw]
  obtain ⟨v', w', hr, h2, h3, _⟩ := run_append_row (P := P) ok w base t o.type e i z bytes ht hi hz hsize hby hzs hok v n xs hown ad m c news hsee h1 hoks h63 hbytes hbase
  unfold Oper.wp execOp
  simp only [ho, resolve, invoke, builtin, Sem.run_bind, Sem.run_pure, Result.andThen_ok, List.map_toArray, List.map_cons, List.map_nil, hs, hx, hr]
  exact h v' w' h2 h3

/-- append to a full slice that is only read: a row of its own. -/
theorem run_append_full (base : Nat) (t ty e : TypeId) (i : TypeInfo) (z : Value) (bytes : Nat) (ht : P.underlying t = some (.slice e)) (hi : P.info? e = some i) (hz : i.zero = some z)
    (hsize : i.size = 1) (hby : i.bytes = bytes) (hzs : z.cells = #[z]) (hok : ok z)
    (a0 : Option Addr) (n : Nat) (xs : List Value) (hold : Sees w a0 n n xs) (h0 : 0 < n) (hxo : ∀ u ∈ xs, ok u)
    (a : Option Addr) (m c : Nat) (news : List Value) (hsee : Sees w a m c news) (hm : 0 < m) (hoks : ∀ u ∈ news, ok u)
    (h63 : n + m ≤ maxLen) (hbytes : (n + m) * bytes ≤ 140737488355328) (hbase : base ≤ w.heap.size) :
    ∃ v' w', (Builtin.append_ #[t, t] ty #[.slice a0 n n, .slice a m c]).run P w = .ok v' w' ∧ Row ok w' base e v' (n + m) (xs ++ news) ∧ Below w.heap.size w w' := by
  subst hby
  have hl := hsee.len
  have hxl := hold.len
  have hsmall : n + m ≤ 9223372036854775807 := by simp only [maxLen] at h63; omega
  have hlen : (xs ++ news).length = n + m := by rw [List.length_append, hxl, hl]
  obtain ⟨b, off, rfl, hlt, hc⟩ := hsee.real (by omega)
  obtain ⟨b0, off0, rfl, hlt0, hc0⟩ := hold.real h0
  have hadd : ∀ (b off j : Nat), (⟨b, off, none⟩ : Addr).add j = ⟨b, off + j, none⟩ := by intro b off j; unfold Addr.add; split <;> simp_all
  have hnews : ∀ j u, news[j]? = some u → w.cell? ((⟨b, off, none⟩ : Addr).add j) = some u := by
    intro j u hj
    have hjn : j < m := by rw [← hl]; exact (List.getElem?_eq_some_iff.1 hj).1
    rw [hadd, hc j hjn, hj]
  have holds : ∀ j u, xs[j]? = some u → w.cell? ((⟨b0, off0, none⟩ : Addr).add j) = some u := by
    intro j u hj
    have hjn : j < n := by rw [← hxl]; exact (List.getElem?_eq_some_iff.1 hj).1
    rw [hadd, hc0 j hjn, hj]
  have hr := run_append_grow (P := P) w t ty e i z ht hi hz ⟨b0, off0, none⟩ n n xs (by rw [hxl, hsize]; omega) holds ⟨b, off, none⟩ m c news (by rw [hl, hsize]; omega) hnews (by omega) (by omega) (growslice_fits (by omega) hbytes)
  have hge := grownCap_ge w (n + m) n e
  have hcm : grownCap w (n + m) n e ≤ maxLen := grownCap_le_maxLen w (n + m) n e h63
  refine ⟨_, _, hr, ⟨hlen, .inr ⟨w.heap.size, _, _, rfl, hbase, heap_alloc_new w.drew _, hge, hcm, ?_, ?_, ?_⟩⟩, ((Below.refl _ w).drew).alloc (Nat.le_refl _) _⟩
  · simp only [Array.size_append, List.size_toArray, size_zeroCells, hzs, hxl, hl]
    simp
    omega
  · simp only [Array.toList_append, List.append_assoc]
    rw [← List.append_assoc, ← hlen]
    exact List.take_left
  · intro u hu
    simp only [Array.toList_append, List.mem_append] at hu
    rcases hu with (hu | hu) | hu
    · exact hxo u hu
    · exact hoks u hu
    · rw [mem_zeroCells hzs hu]; exact hok

theorem step_append_full {ops : Array Oper} {o : Oper} {a : Act} {K : Act → World → Prop} {Q : Exit → Act → World → Prop} {E : Prop} (hgd : o.guard = none) (s x : Operand) (t : TypeId)
    (ho : o.op = .call { callee := .builtin .append, args := #[s, x], argTypes := #[t, t] })
    (base : Nat) (e : TypeId) (i : TypeInfo) (z : Value) (bytes : Nat) (ht : P.underlying t = some (.slice e)) (hi : P.info? e = some i) (hz : i.zero = some z)
    (hsize : i.size = 1) (hby : i.bytes = bytes) (hzs : z.cells = #[z]) (hok : ok z)
    (a0 : Option Addr) (n : Nat) (xs : List Value) (hs : a.eval s = .slice a0 n n) (hold : Sees w a0 n n xs) (h0 : 0 < n) (hxo : ∀ u ∈ xs, ok u)
    (ad : Option Addr) (m c : Nat) (news : List Value) (hx : a.eval x = .slice ad m c) (hsee : Sees w ad m c news) (hm : 0 < m) (hoks : ∀ u ∈ news, ok u)
    (h63 : n + m ≤ maxLen) (hbytes : (n + m) * bytes ≤ 140737488355328) (hbase : base ≤ w.heap.size)
    (h : ∀ v' w', Row ok w' base e v' (n + m) (xs ++ news) → Below w.heap.size w w' → K (a.put o.dst v') w') :
    if Region.wanted o (yielded ops a.tmps) = true then Oper.wp P o a w K Q else E := by
  have hw : Region.wanted o (yielded ops a.tmps) = true := by simp [Region.wanted, hgd]
  rw [if_pos hw]
  obtain ⟨v', w', hr, h2, h3⟩ := run_append_full (P := P) ok w base t o.type e i z bytes ht hi hz hsize hby hzs hok a0 n xs hold h0 hxo ad m c news hsee hm hoks h63 hbytes hbase
  unfold Oper.wp execOp
  simp only [ho, resolve, invoke, builtin, Sem.run_bind, Sem.run_pure, Result.andThen_ok, List.map_toArray, List.map_cons, List.map_nil, hs, hx, hr]
  exact h v' w' h2 h3
end
end Go.Proofs.Ytcoehbkjccfhlaa
/- slices.Clone of latches, of gates, of bytes, by their contracts. -/
namespace Go.Proofs.Ytcoehbkjccfhlaa
open Go Go.RowKit Go.Joins

theorem info_byte : (Try.prog.info? 5).map (fun i => (i.zero, i.size, i.bytes)) = some (some (.int .u8 0), 1, 1) := by kernel_rfl
theorem owns_made0 (w : World) (e : TypeId) (k : Nat) : (w.alloc (.cells #[] e)).ownsRow w.heap.size e k (.slice (some ⟨w.heap.size, 0, none⟩) 0 0) 0 [] :=
  ⟨by simp, .inr ⟨w.heap.size, 0, #[], rfl, Nat.le_refl _, heap_alloc_new w _, Nat.le_refl _, Nat.zero_le _, by simp, by simp⟩⟩
theorem Sees.news {w : World} {ad : Addr} {n c : Nat} {xs : List Value} (h : Sees w (some ad) n c xs) : ∀ j u, xs[j]? = some u → w.cell? (ad.add j) = some u := by
  intro j u hj
  have hjn : j < n := by rw [← h.len]; exact (List.getElem?_eq_some_iff.1 hj).1
  obtain ⟨b, off, e, _, hc⟩ := h.real (by omega)
  cases e
  have hadd : (⟨b, off, none⟩ : Addr).add j = ⟨b, off + j, none⟩ := by unfold Addr.add; split <;> simp_all
  rw [hadd, hc j hjn, hj]
theorem prCs_one8 : ∀ (l : List (Nat × Nat)), ∀ u ∈ prCs nv8 l, u.oneCell' = true
  | [], u, h => by cases h
  | p :: r, u, h => by
    rw [prCs] at h
    rcases List.mem_cons.1 h with rfl | h
    · rfl
    · rcases List.mem_cons.1 h with rfl | h
      · rfl
      · exact prCs_one8 r u h
theorem prCs_one32 : ∀ (l : List (Nat × Nat)), ∀ u ∈ prCs nv32 l, u.oneCell' = true
  | [], u, h => by cases h
  | p :: r, u, h => by
    rw [prCs] at h
    rcases List.mem_cons.1 h with rfl | h
    · rfl
    · rcases List.mem_cons.1 h with rfl | h
      · rfl
      · exact prCs_one32 r u h

end Go.Proofs.Ytcoehbkjccfhlaa
/- sim: the values of a frame (single values), by its contract. -/
namespace Go.Proofs.Ytcoehbkjccfhlaa
open Go Go.RowKit Go.Joins

theorem vars_lt {V : Type} (c : NormC) (hm : MayC c) (st ins : List V) (h1 : st.length = c.lats.length) (h2 : (ins.length : Int) = c.ins) (i : Nat) (hi : i < c.gates.length) :
    (c.gates.getD i (0, 0)).1 / 2 < 1 + (ins.length + st.length) + i ∧ (c.gates.getD i (0, 0)).2 / 2 < 1 + (ins.length + st.length) + i ∧ (c.gates.getD i (0, 0)).1 < 4294967296 ∧ (c.gates.getD i (0, 0)).2 < 4294967296 := by
  have h := hm.gates i hi
  have hf := hm.few
  unfold varsN at hf
  rw [← h2, ← h1] at h hf
  simp only [Int.toNat_natCast] at h hf
  omega

theorem sees_box1 (w : World) (u : Value) (e : TypeId) : Sees (w.alloc (.cells #[u] e)) (some ⟨w.heap.size, 0, none⟩) 1 1 [u] :=
  ⟨rfl, Nat.le_refl _, (fun e => by cases e), fun _ => ⟨w.heap.size, 0, rfl, by simp, fun j hj => by
    obtain rfl : j = 0 := by omega
    exact (cell_of_block (heap_new w (.cells #[u] e) _ rfl) 0).trans rfl⟩⟩

theorem keep5 {w w' : World} {a0 a1 a2 a3 a4 : Addr} {v0 v1 v2 v3 v4 : Value} (h : w.cell? a0 = some v0 ∧ w.cell? a1 = some v1 ∧ w.cell? a2 = some v2 ∧ w.cell? a3 = some v3 ∧ w.cell? a4 = some v4) (hb : Below w.heap.size w w') :
    w'.cell? a0 = some v0 ∧ w'.cell? a1 = some v1 ∧ w'.cell? a2 = some v2 ∧ w'.cell? a3 = some v3 ∧ w'.cell? a4 = some v4 :=
  by
  obtain ⟨h0, h1, h2, h3, h4⟩ := h
  have one : ∀ {a : Addr} {v : Value}, w.cell? a = some v → w'.cell? a = some v := fun {a v} h => (hb.cell (World.block_lt_of_cell? _ _ h)).trans h
  exact ⟨one h0, one h1, one h2, one h3, one h4⟩
theorem keep5_of {w : World} {k g : Nat} {v0 v1 v2 v3 v4 : Value} {T1 T2 : TypeId} (hk : w.heap[k]? = some (.cells #[v0, v1, v2] T1 (0, 0))) (hg : w.heap[g]? = some (.cells #[v3, v4] T2 (0, 0))) :
    w.cell? ⟨k, 0, none⟩ = some v0 ∧ w.cell? ⟨k, 1, none⟩ = some v1 ∧ w.cell? ⟨k, 2, none⟩ = some v2 ∧ w.cell? ⟨g, 0, none⟩ = some v3 ∧ w.cell? ⟨g, 1, none⟩ = some v4 :=
  ⟨cell_of_block hk 0, cell_of_block hk 1, cell_of_block hk 2, cell_of_block hg 0, cell_of_block hg 1⟩

/-- What a frame answers. -/
def FramePost (w : World) (vs ns : List UInt8) (e : Ending) (w' : World) : Prop :=
  ∃ a1 c1 a2 c2, e = .returned (.tuple #[.slice a1 vs.length c1, .slice a2 ns.length c2]) ∧ Row isByte w' w.heap.size 5 (.slice a1 vs.length c1) vs.length (vs.map bv) ∧ Row isByte w' w.heap.size 5 (.slice a2 ns.length c2) ns.length (ns.map bv) ∧ Below w.heap.size w w'

end Go.Proofs.Ytcoehbkjccfhlaa
namespace Go.Proofs.Ytcoehbkjccfhlaa
open Go Go.RowKit Go.Joins

theorem rshr (x k : Nat) : ((x : Int) / 2 ^ k).tmod 2 = ((x.testBit k).toNat : Int) := by
  have e : (x : Int) / 2 ^ k = ((x / 2 ^ k : Nat) : Int) := by
    rw [Int.natCast_ediv]
    norm_cast
  rw [e, Nat.testBit_eq_decide_div_mod_eq]
  obtain ⟨y, hy⟩ : ∃ y, y = x / 2 ^ k := ⟨_, rfl⟩
  rw [← hy]
  by_cases h1 : y % 2 = 1
  · rw [h1]
    rw [Int.tmod_eq_emod_of_nonneg (by omega)]
    show (y : Int) % 2 = 1
    omega
  · have h0 : y % 2 = 0 := by omega
    rw [h0]
    rw [Int.tmod_eq_emod_of_nonneg (by omega)]
    show (y : Int) % 2 = 0
    omega

set_option maxRecDepth 100000 in
theorem rnot1_any (v : Nat) (w : World) : Calls Try.prog 82 #[.int .u8 (v : Int)] w fun e w' => e = .returned (.int .u8 (not1 v : Nat)) ∧ w' = w := by
  go_enter Try.func82, Try.ntmps82
  by_cases h0 : v = 0
  · subst h0
    go_wp2
    go_ret
    exact ⟨rfl, rfl⟩
  · have e0 : ((v : Int) == 0) = false := by simp; omega
    by_cases h1 : v = 1
    · subst h1
      go_wp2
      go_ret
      exact ⟨rfl, rfl⟩
    · have e1 : ((v : Int) == 1) = false := by simp; omega
      have HE : Hid (not1 v = 2) := by show _ = _; unfold not1; rw [if_neg h0, if_neg h1]
      clear h0 h1
      go_wp2
      go_ret
      exact ⟨by rw [HE.out]; rfl, rfl⟩

set_option maxRecDepth 100000 in
theorem rand1_any (a b : Nat) (w : World) : Calls Try.prog 69 #[.int .u8 (a : Int), .int .u8 (b : Int)] w fun e w' => e = .returned (.int .u8 (and1 a b : Nat)) ∧ w' = w := by
  go_enter Try.func69, Try.ntmps69
  by_cases h0 : a = 0
  · subst h0
    go_wp2
    go_ret
    exact ⟨rfl, rfl⟩
  · have e0 : ((a : Int) == 0) = false := by simp; omega
    by_cases h1 : b = 0
    · subst h1
      have HE : Hid (and1 a 0 = 0) := by show _ = _; unfold and1; simp
      clear h0
      go_wp2
      go_ret
      exact ⟨by rw [HE.out]; rfl, rfl⟩
    · have e1 : ((b : Int) == 0) = false := by simp; omega
      by_cases h2 : a = 1
      · subst h2
        by_cases h3 : b = 1
        · subst h3
          go_wp2
          go_ret
          exact ⟨rfl, rfl⟩
        · have e3 : ((b : Int) == 1) = false := by simp; omega
          have HE : Hid (and1 1 b = 2) := by show _ = _; unfold and1; simp [h1, h3]
          clear h0 h1 h3
          go_wp2
          go_ret
          exact ⟨by rw [HE.out]; rfl, rfl⟩
      · have e2 : ((a : Int) == 1) = false := by simp; omega
        have HE : Hid (and1 a b = 2) := by show _ = _; unfold and1; simp [h0, h1, h2]
        clear h0 h1 h2
        go_wp2
        go_ret
        exact ⟨by rw [HE.out]; rfl, rfl⟩

/-- The place has a bit. -/
def hasW (a : W2) (j : Nat) : Bool := a.1.testBit j || a.2.testBit j
theorem mayW_of {a : W2} (ha : a.in) (h : ∀ j, j < 64 → hasW a j = true) : mayW a = true := by
  rw [mayW_iff ha]
  intro j hj
  have := h j hj
  unfold hasW at this
  simpa using this
theorem mayW_not {a : W2} (ha : a.in) {j : Nat} (hj : j < 64) (h : hasW a j = false) : mayW a = false := by
  cases hm : mayW a with
  | false => rfl
  | true =>
    have := (mayW_iff ha).1 hm j hj
    unfold hasW at h
    simp only [Bool.or_eq_false_iff] at h
    rw [h.1, h.2] at this
    simp at this

end Go.Proofs.Ytcoehbkjccfhlaa
