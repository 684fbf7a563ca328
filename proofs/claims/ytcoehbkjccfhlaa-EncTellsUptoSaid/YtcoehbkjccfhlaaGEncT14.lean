/- sim.Read, by its contract. -/
import Derived.BigQuiet
import Derived.Deep.QuietTactic
import Derived.Deep.RegionWith
import Derived.Lib.ConvBytes
import Derived.Lib.Hide
import Derived.Lib.SlBytesRow
import Derived.Lib.SmallJoins
import Derived.Shelf.Bytes.SlSmallAll
import Derived.WalkKit
import Derived.WalkLawsBesides
import Derived.WalkSpells
import Derived.Test.YtcoehbkjccfhlaaGEncT00
import Derived.Test.YtcoehbkjccfhlaaGEncT01
import Derived.Test.YtcoehbkjccfhlaaGEncT02
import Derived.Test.YtcoehbkjccfhlaaGEncT05
import Derived.Test.YtcoehbkjccfhlaaRows
import Derived.Deep.AppendLies
import Derived.Deep.RegionLaw
import Derived.KernelRfl
import Derived.Laws.EntriesVeiled
import Derived.Test.YtcoehbkjccfhlaaGEncT06
import Derived.Test.YtcoehbkjccfhlaaGEncT07
import Derived.Test.YtcoehbkjccfhlaaGEncT12
import Derived.Deep.CutRange
import Derived.Deep.RegionHeld3
import Derived.Laws.Tables
import Derived.Lib.AppendStr
import Derived.Lib.AppendZeros
import Derived.Maps.AppendAt
import Derived.OrdersHeld
/- Parts of a function's body, taken out: a block by its number, what begins with a region. No function of the program is named here. -/
namespace Go.Proofs.Ytcoehbkjccfhlaa
open Go
def findBlock (n : Nat) : Code → Option Code
  | .seq a b => match findBlock n a with
    | some c => some c
    | none => findBlock n b
  | .block m c => if m = n then some (.block m c) else findBlock n c
  | .scope c => findBlock n c
  | .loop c => findBlock n c
  | .cond _ a b => match findBlock n a with
    | some c => some c
    | none => findBlock n b
  | _ => none
def firstReg : Code → Option Nat
  | .region k _ _ => some k
  | .seq a _ => firstReg a
  | _ => none
def findFrom (n : Nat) : Code → Option Code
  | .seq a b => if firstReg a = some n then some (.seq a b) else match findFrom n a with
    | some c => some c
    | none => findFrom n b
  | .block _ c => findFrom n c
  | .scope c => findFrom n c
  | .loop c => findFrom n c
  | .cond _ a b => match findFrom n a with
    | some c => some c
    | none => findFrom n b
  | _ => none
end Go.Proofs.Ytcoehbkjccfhlaa
/- The queue's own Push and Pop, and the library's. -/
namespace Go.Proofs.Ytcoehbkjccfhlaa
open Go Go.RowKit Go.Joins

theorem sees_new1 (w : World) (e : TypeId) (u : Value) : Sees (w.alloc (.cells #[u] e)) (some ⟨w.heap.size, 0, none⟩) 1 1 [u] := sees_lit w e (0, 0) #[u] [u] 1 rfl rfl

theorem Row.take {ok : Value → Prop} {w : World} {base : Nat} {e : TypeId} {g n cap : Nat} {xs : List Value} (h : Row ok w base e (.slice (some ⟨g, 0, .none⟩) n cap) n xs) (m : Nat) (hm : m ≤ n) :
    Row ok w base e (.slice (some ⟨g, 0, .none⟩) m cap) m (xs.take m) := by
  have hl := h.1
  refine ⟨by simp; omega, ?_⟩
  rcases h.2 with ⟨h1, _⟩ | ⟨g', cap', cur, he, hb, hg, hn, hc, hs, ht, ha⟩
  · cases h1
  · cases he
    exact .inr ⟨g, cap, cur, rfl, hb, hg, by omega, hc, hs, by rw [← ht, List.take_take, Nat.min_eq_left hm], ha⟩
theorem sliced_upto (g m c : Nat) : sliced (some ⟨g, 0, .none⟩) 0 m c 1 = .slice (some ⟨g, 0, .none⟩) m c := by
  simp [sliced, Addr.add]

end Go.Proofs.Ytcoehbkjccfhlaa
/- inquestref03.lits, .values, by their contracts. -/
namespace Go.Proofs.Ytcoehbkjccfhlaa
open Go Go.RowKit Go.Joins

set_option maxRecDepth 100000 in
theorem refvalues_any (many : Int) (l : List UInt8) (a : Option Addr) (n c : Nat) (hn : n ≤ 1048576) (w : World) (h : Sees w a n c (l.map bv)) :
    Calls Try.prog 54 #[.slice a n c, .int .i64 many] w fun e w' => e = .returned (.bool (valsOk l many)) ∧ w = w' := by
  have hl := h.lenMap
  obtain ⟨q, hq⟩ : ∃ q, q = valsOk l many := ⟨_, rfl⟩
  have NO : Hid (∀ k, k < n → 2 < (l.getD k 0).toNat → q = false) := fun k hk hb => by
    rw [hq]; unfold valsOk
    rw [show l.any (fun u => decide (2 < u.toNat)) = true from List.any_eq_true.2 ⟨_, getD_mem (by rw [hl]; exact hk), decide_eq_true hb⟩]; simp
  have YES : Hid ((∀ k, k < n → ¬ 2 < (l.getD k 0).toNat) → q = decide ((n : Int) = many)) := fun hh => by
    rw [hq]; unfold valsOk
    rw [hl, show l.any (fun u => decide (2 < u.toNat)) = false from any_none (all_of_getD (d := 0) (fun j hj => decide_eq_false (hh j (by rw [← hl]; exact hj))))]; simp
  have HS := Lib.hid h
  have HL := Lib.hid hl
  rw [← hq]
  clear hq h hl
  go_enter Try.func54, Try.ntmps54
  go_wp2
  go_loop [5] (fun i => ∃ k : Nat, k ≤ n ∧ i = .int .i64 k ∧ Hid (∀ j, j < k → ¬ 2 < (l.getD j 0).toNat)) (fun i => n - (intOf i).toNat)
  case atStart => exact ⟨0, Nat.zero_le _, rfl, fun j hj => absurd hj (by omega)⟩
  case round =>
    obtain ⟨k, hk, rfl, hno⟩ := hrel
    by_cases hlt : k < n
    · obtain ⟨b, off, rfl, hbw⟩ := HS.out.addr (by omega)
      have hcx := HS.out.byte k hlt
      have W1 : IntKind.i64.wrap ((k : Int) + 1) = (k : Int) + 1 := IntWalk.i64_in _ (by omega)
      obtain ⟨u, hu⟩ : ∃ u, u = (l.getD k 0).toNat := ⟨_, rfl⟩
      have hcx2 : w.cell? ⟨b, off + k, none⟩ = some (.int .u8 (u : Int)) := by rw [hu]; exact hcx
      have HU := Lib.hid hu
      clear hcx hu
      by_cases hq : 2 < u
      · have e1 : decide ((2 : Int) < (u : Int)) = true := by simp; omega
        have HQ : Hid (q = false) := NO.out k hlt (by rw [← HU.out]; exact hq)
        go_wp2
        go_ret
        exact ⟨by rw [HQ.out]; rfl, rfl⟩
      · have e1 : decide ((2 : Int) < (u : Int)) = false := by simp; omega
        have HQ := Lib.hid hq
        clear hq
        go_wp2
        go_round
        case rel =>
          refine ⟨k + 1, by omega, by go_num, fun j hj => ?_⟩
          rcases Nat.lt_or_ge j k with h | h
          · exact hno.out j h
          · have : j = k := by omega
            subst this
            rw [← HU.out]; exact HQ.out
        case measure => simp [intOf]; omega
    · have hkn : k = n := by omega
      subst hkn
      have Y := Lib.hid (YES.out hno.out)
      by_cases hq : (k : Int) = many
      · have e1 : ((k : Int) == many) = true := by simpa using hq
        have HQ := Lib.hid hq
        clear hq
        go_wp2
        go_ret
        exact ⟨by rw [Y.out]; have := HQ.out; simp [this], rfl⟩
      · have e1 : ((k : Int) == many) = false := by simpa using hq
        have e2 : ((k : Int) = many) = False := by simpa using hq
        have HQ := Lib.hid hq
        clear hq
        go_wp2
        go_ret
        exact ⟨by rw [Y.out]; have := HQ.out; simp [this], rfl⟩
end Go.Proofs.Ytcoehbkjccfhlaa
/- Package sim, on plain lists: the values of a frame, the run, the verdict; over single values and over words alike. -/
namespace Go.Proofs.Ytcoehbkjccfhlaa
open Go Go.RowKit

/-- A kind of values. -/
structure Kd (V : Type) where
  z : V
  nt : V → V
  an : V → V → V

section
variable {V : Type} (k : Kd V)
/-- The value of a literal. -/
def Kd.val (vars : List V) (lit : Nat) : V := if lit % 2 = 1 then k.nt (vars.getD (lit / 2) k.z) else vars.getD (lit / 2) k.z
/-- The gates' values, one behind the other. -/
def Kd.gates : List (Nat × Nat) → List V → List V
  | [], vars => vars
  | g :: r, vars => Kd.gates r (vars ++ [k.an (k.val vars g.1) (k.val vars g.2)])
/-- The values of a frame. -/
def Kd.vars (c : NormC) (state inputs : List V) : List V := k.gates c.gates (k.z :: (inputs ++ state))
/-- The latches' next values. -/
def Kd.next (c : NormC) (vars : List V) : List V := c.lats.map fun l => k.val vars l.1
/-- The run. -/
def Kd.run (c : NormC) : List V → List (List V) → List (List V)
  | _, [] => []
  | st, f :: r => k.vars c st f :: Kd.run c (k.next c (k.vars c st f)) r
/-- The constraints of a frame. -/
def Kd.cons (vars : List V) (a : V) (l : List Nat) : V := l.foldl (fun a x => k.an a (k.val vars x)) a
/-- What all frames so far say, and what the last one says of the bad literal. -/
def Kd.sum (c : NormC) (bad : Nat) (p : V × V) (l : List (List V)) : V × V := l.foldl (fun p vars => (k.cons vars p.1 c.cons, k.val vars (c.bads.getD bad 0))) p
def Kd.verdict (c : NormC) (bad : Nat) (st : List V) (fs : List (List V)) : V := let p := k.sum c bad (k.nt k.z, k.z) (k.run c st fs); k.an p.1 p.2

theorem Kd.gates_len : ∀ (l : List (Nat × Nat)) (vars : List V), (k.gates l vars).length = vars.length + l.length
  | [], vars => rfl
  | g :: r, vars => by rw [Kd.gates, Kd.gates_len r]; simp; omega
theorem Kd.vars_len (c : NormC) (st ins : List V) : (k.vars c st ins).length = 1 + (ins.length + st.length) + c.gates.length := by
  unfold Kd.vars; rw [Kd.gates_len]; simp; omega
theorem Kd.next_len (c : NormC) (vars : List V) : (k.next c vars).length = c.lats.length := by unfold Kd.next; simp
theorem Kd.run_len (c : NormC) : ∀ (fs : List (List V)) (st : List V), (k.run c st fs).length = fs.length
  | [], st => rfl
  | f :: r, st => by rw [Kd.run, List.length_cons, Kd.run_len c r]; rfl
theorem Kd.gates_snoc : ∀ (l : List (Nat × Nat)) (g : Nat × Nat) (vars : List V), k.gates (l ++ [g]) vars = k.gates l vars ++ [k.an (k.val (k.gates l vars) g.1) (k.val (k.gates l vars) g.2)]
  | [], g, vars => rfl
  | h :: r, g, vars => by rw [List.cons_append, Kd.gates, Kd.gates_snoc r g]; rfl
/-- The latches behind some frames. -/
def Kd.after (c : NormC) : List V → List (List V) → List V
  | st, [] => st
  | st, f :: r => Kd.after c (k.next c (k.vars c st f)) r
theorem Kd.after_snoc (c : NormC) : ∀ (l : List (List V)) (f : List V) (st : List V), k.after c st (l ++ [f]) = k.next c (k.vars c (k.after c st l) f)
  | [], f, st => rfl
  | g :: r, f, st => by rw [List.cons_append, Kd.after, Kd.after_snoc c r f]; rfl
theorem Kd.run_snoc (c : NormC) : ∀ (l : List (List V)) (f : List V) (st : List V), k.run c st (l ++ [f]) = k.run c st l ++ [k.vars c (k.after c st l) f]
  | [], f, st => rfl
  | g :: r, f, st => by rw [List.cons_append, Kd.run, Kd.run_snoc c r f]; rfl
theorem Kd.sum_snoc (c : NormC) (bad : Nat) (p : V × V) (l : List (List V)) (vars : List V) : k.sum c bad p (l ++ [vars]) = (k.cons vars (k.sum c bad p l).1 c.cons, k.val vars (c.bads.getD bad 0)) := by
  unfold Kd.sum; rw [List.foldl_append]; rfl
theorem Kd.cons_snoc (vars : List V) (a : V) (l : List Nat) (x : Nat) : k.cons vars a (l ++ [x]) = k.an (k.cons vars a l) (k.val vars x) := by
  unfold Kd.cons; rw [List.foldl_append]; rfl
theorem Kd.after_len (c : NormC) : ∀ (fs : List (List V)) (st : List V), st.length = c.lats.length → (k.after c st fs).length = c.lats.length
  | [], st, h => h
  | f :: r, st, _ => by rw [Kd.after]; exact Kd.after_len c r _ (k.next_len c _)
end

/-- Single values. -/
def k1 : Kd UInt8 := ⟨0, fun v => UInt8.ofNat (not1 v.toNat), fun a b => UInt8.ofNat (and1 a.toNat b.toNat)⟩
theorem not1_le (v : Nat) : not1 v ≤ 2 := by unfold not1; split <;> (try split) <;> omega
theorem and1_le (a b : Nat) : and1 a b ≤ 2 := by unfold and1; split <;> (try split) <;> omega
theorem bv_not (v : UInt8) : bv (k1.nt v) = .int .u8 ((not1 v.toNat : Nat) : Int) := by
  have := not1_le v.toNat
  show Value.int .u8 ((UInt8.ofNat (not1 v.toNat)).toNat : Int) = _
  rw [UInt8.toNat_ofNat', Nat.mod_eq_of_lt (by omega)]
theorem bv_and (a b : UInt8) : bv (k1.an a b) = .int .u8 ((and1 a.toNat b.toNat : Nat) : Int) := by
  have := and1_le a.toNat b.toNat
  show Value.int .u8 ((UInt8.ofNat (and1 a.toNat b.toNat)).toNat : Int) = _
  rw [UInt8.toNat_ofNat', Nat.mod_eq_of_lt (by omega)]
/-- Words. -/
def kw : Kd W2 := ⟨zeroW, notW, andW⟩
end Go.Proofs.Ytcoehbkjccfhlaa
namespace Go.Proofs.Ytcoehbkjccfhlaa
open Go Go.RowKit Go.Joins

def zeroU (u : UInt8) : UInt8 := if u.toNat = 2 then 0 else u
def zeroL (l : List UInt8) : List UInt8 := l.map zeroU
def readT (t : TraceC) : TraceC := ⟨t.bad, zeroL t.init, t.frames.map zeroL⟩

theorem isByte_bv (u : UInt8) : isByte (bv u) := ⟨u, rfl⟩
/-- One cell of an own row written. -/
theorem Row.setAt {w : World} {base g n cap : Nat} {e : TypeId} {l : List UInt8} (h : Row isByte w base e (.slice (some ⟨g, 0, none⟩) n cap) n (l.map bv)) (i : Nat) (u : UInt8) :
    Row isByte (w.setCell ⟨g, i, none⟩ (bv u)) base e (.slice (some ⟨g, 0, none⟩) n cap) n ((l.set i u).map bv) := by
  obtain ⟨hl, h2⟩ := h
  rcases h2 with ⟨h2, _⟩ | ⟨g', cap', cur, h2, hg, hh, hn, hc, hs, ht, ho⟩
  · cases h2
  · cases h2
    refine ⟨by simpa using hl, .inr ⟨g, cap, cur.setIfInBounds i (bv u), rfl, hg, block_setCell hh (bv u), hn, hc, by simpa using hs, ?_, ?_⟩⟩
    · rw [Array.toList_setIfInBounds, List.take_set, ht, List.map_set]
    · intro x hx
      rw [Array.toList_setIfInBounds] at hx
      rcases List.mem_or_eq_of_mem_set hx with h | h
      · exact ho x h
      · rw [h]; exact isByte_bv u
theorem row_here {w : World} {base g n cap off : Nat} {e : TypeId} {xs : List Value} (h : Row isByte w base e (.slice (some ⟨g, off, none⟩) n cap) n xs) : off = 0 ∧ ∃ cur, w.heap[g]? = some (.cells cur e (0, 0)) := by
  rcases h.2 with ⟨h2, _⟩ | ⟨g', cap', cur, h2, hg, hh, _⟩
  · cases h2
  · cases h2; exact ⟨rfl, cur, hh⟩
theorem row_len {ok : Value → Prop} {w : World} {base : Nat} {e : TypeId} {a : Option Addr} {n c m : Nat} {xs : List Value} (h : Row ok w base e (.slice a n c) m xs) : m = n := by
  obtain ⟨_, _, e⟩ := h.form
  cases e
  rfl
/-- Rows that read as lists. -/
def RowsL (w : World) (base : Nat) (L : List Slc) (G : Nat → List UInt8) : Prop := ∀ j, j < L.length → Row isByte w base 5 (slV (L.getD j slc0)) (G j).length ((G j).map bv)
theorem RowsL.below {w w' : World} {base : Nat} {L : List Slc} {G : Nat → List UInt8} (h : RowsL w base L G) (hb : Below w.heap.size w w') : RowsL w' base L G := fun j hj => (h j hj).below hb
theorem RowsL.setAt {w : World} {base k g n cap : Nat} {L : List Slc} {G G' : Nat → List UInt8} (h : RowsL w base L G) (hap : ApartL L) (hk : k < L.length) (hx : L.getD k slc0 = (some ⟨g, 0, none⟩, n, cap)) (i : Nat) (u : UInt8)
    (hG : G' k = (G k).set i u) (hG2 : ∀ j, j ≠ k → G' j = G j) : RowsL (w.setCell ⟨g, i, none⟩ (bv u)) base L G' := by
  have hr := h k hk
  rw [hx] at hr
  have hn : n = (G k).length := by
    rcases hr.2 with ⟨h2, _⟩ | ⟨g', cap', cur, h2, _⟩
    · cases h2
    · simp only [slV] at h2; cases h2; rfl
  intro j hj
  by_cases e : j = k
  · subst e
    rw [hx, hG, List.length_set]
    subst hn
    exact Row.setAt hr i u
  · rw [hG2 j e]
    refine (h j hj).other fun q hq => Below.heap_setCell w ⟨g, i, none⟩ _ q (fun e2 => ?_)
    have hq2 : (slV (L.getD j slc0)).ownBlock = some g := by rw [hq, e2]
    have hg2 : (slV (L.getD k slc0)).ownBlock = some g := by rw [hx]; rfl
    rcases Nat.lt_or_gt_of_ne e with h | h
    · exact hap j k h hk g hq2 hg2
    · exact hap k j h hj g hg2 hq2
theorem RowsL.congr {w : World} {base : Nat} {L : List Slc} {G G' : Nat → List UInt8} (h : RowsL w base L G) (hG : ∀ j, j < L.length → G' j = G j) : RowsL w base L G' := fun j hj => by rw [hG j hj]; exact h j hj
/-- Blocks of cells that are no bytes are as they were. -/
def KeptNB (w w' : World) : Prop := ∀ (D : Nat) (C : Array Value) (T : TypeId) (fr : Nat × Nat), w.heap[D]? = some (.cells C T fr) → T ≠ 5 → w'.heap[D]? = some (.cells C T fr)
theorem KeptNB.refl (w : World) : KeptNB w w := fun _ _ _ _ h _ => h
theorem KeptNB.set {w w' : World} (h : KeptNB w w') {g i : Nat} {u : Value} {cur : Array Value} (hg : w'.heap[g]? = some (.cells cur 5 (0, 0))) : KeptNB w (w'.setCell ⟨g, i, none⟩ u) := fun D C T fr hD hT => by
  have h1 := h D C T fr hD hT
  exact (Below.heap_setCell w' ⟨g, i, none⟩ u D (fun e => by subst e; rw [hg] at h1; cases h1; exact hT rfl)).trans h1
theorem KeptNB.row {w w' : World} (h : KeptNB w w') {ok : Value → Prop} {base : Nat} {e : TypeId} {v : Value} {n : Nat} {xs : List Value} (hr : Row ok w base e v n xs) (he : e ≠ 5) : Row ok w' base e v n xs :=
  hr.other fun q hq => by
    rcases hr.2 with ⟨h2, _⟩ | ⟨g', cap', cur, h2, _, hh, _⟩
    · rw [h2] at hq; cases hq
    · rw [h2] at hq
      have : g' = q := by simpa [Value.ownBlock] using hq
      subst this
      exact (h g' cur e _ hh he).trans hh.symm
theorem zeroL_len (l : List UInt8) : (zeroL l).length = l.length := by simp [zeroL]
/-- What a list holds when i of its values have been read. -/
def zeroI (l : List UInt8) (i : Nat) : List UInt8 := zeroL (l.take i) ++ l.drop i
theorem zeroI_len (l : List UInt8) (i : Nat) : (zeroI l i).length = l.length := by simp [zeroI, zeroL]; omega
theorem zeroI_zero (l : List UInt8) : zeroI l 0 = l := by simp [zeroI, zeroL]
theorem zeroI_all (l : List UInt8) : zeroI l l.length = zeroL l := by simp [zeroI, zeroL]
theorem zeroI_at (l : List UInt8) (i : Nat) (h : i < l.length) : (zeroI l i).getD i 0 = l.getD i 0 := by
  have e : (zeroL (l.take i)).length = i := by simp [zeroL]; omega
  simp [zeroI, List.getD, List.getElem?_append_right (Nat.le_of_eq e), e, List.getElem?_drop]
theorem zeroI_step (l : List UInt8) (i : Nat) (h : i < l.length) : zeroI l (i + 1) = (zeroI l i).set i (zeroU (l.getD i 0)) := by
  have e : (zeroL (l.take i)).length = i := by simp [zeroL]; omega
  have hg : l.getD i 0 = l[i] := by simp [List.getD, List.getElem?_eq_getElem h]
  unfold zeroI
  rw [List.set_append_right _ _ (Nat.le_of_eq e), e, Nat.sub_self, List.drop_eq_getElem_cons h, List.set_cons_zero, List.take_add_one, List.getElem?_eq_getElem h, hg]
  simp only [zeroL, List.map_append, Option.toList_some, List.map_cons, List.map_nil, List.append_assoc, List.cons_append, List.nil_append]
theorem zeroI_keep (l : List UInt8) (i : Nat) (h : i < l.length) (h2 : zeroU (l.getD i 0) = l.getD i 0) : zeroI l (i + 1) = zeroI l i := by
  rw [zeroI_step l i h, h2, ← zeroI_at l i h]
  have hl : i < (zeroI l i).length := by rw [zeroI_len]; exact h
  simp [List.getD, List.getElem?_eq_getElem hl]

end Go.Proofs.Ytcoehbkjccfhlaa
