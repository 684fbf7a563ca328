/- enc.Trace's closure, by its contract. -/
import Derived.Test.YtcoehbkjccfhlaaGEncT00
import Derived.BigQuiet
import Derived.Deep.AppendLies
import Derived.Deep.QuietTactic
import Derived.Deep.RegionLaw
import Derived.Deep.RegionWith
import Derived.Lib.ConvBytes
import Derived.Lib.Hide
import Derived.Lib.SlBytesRow
import Derived.Lib.SmallJoins
import Derived.Shelf.Bytes.SlSmallAll
import Derived.WalkKit
import Derived.WalkLawsBesides
import Derived.WalkSpells
import Derived.Test.YtcoehbkjccfhlaaGEncT01
import Derived.Test.YtcoehbkjccfhlaaGEncT02
import Derived.Test.YtcoehbkjccfhlaaGEncT07
import Derived.Test.YtcoehbkjccfhlaaGEncT06
import Derived.Test.YtcoehbkjccfhlaaRows
import Derived.KernelRfl
import Derived.Laws.EntriesVeiled
import Derived.Test.YtcoehbkjccfhlaaProg
import Derived.Deep.RegionHeld3
import Derived.OrdersHeld
import Derived.Test.YtcoehbkjccfhlaaGEncT03
import Derived.Test.YtcoehbkjccfhlaaEnSmall
import Derived.Deep.CutRange
import Derived.Laws.Tables
import Derived.Lib.AppendStr
import Derived.Lib.AppendZeros
import Derived.Maps.AppendAt
/- append to a row of the call's own at a step of a region that draws its order. -/
namespace Go.Proofs.Ytcoehbkjccfhlaa
open Go Go.RowKit

section
variable {P : Program} (ok : Value → Prop) (w : World)
theorem step_append_row {ops : Array Oper} {o : Oper} {a : Act} {K : Act → World → Prop} {Q : Exit → Act → World → Prop} {E : Prop} (hgd : o.guard = none) (s x : Operand) (t : TypeId)
    (ho : o.op = .call { callee := .builtin .append, args := #[s, x], argTypes := #[t, t] })
    (base : Nat) (e : TypeId) (i : TypeInfo) (z : Value) (bytes : Nat) (ht : P.underlying t = some (.slice e)) (hi : P.info? e = some i) (hz : i.zero = some z)
    (hsize : i.size = 1) (hby : i.bytes = bytes) (hzs : z.cells = #[z]) (hok : ok z)
    (v : Value) (n : Nat) (xs : List Value) (hs : a.eval s = v) (hown : Row ok w base e v n xs)
    (ad : Option Addr) (m c : Nat) (news : List Value) (hx : a.eval x = .slice ad m c) (hsee : Sees w ad m c news) (h1 : ∀ u ∈ news, u.oneCell' = true) (hoks : ∀ u ∈ news, ok u)
    (h63 : n + m ≤ maxLen) (hbytes : (n + m) * bytes ≤ 140737488355328) (hbase : base ≤ w.heap.size)
    (h : ∀ v' w', Row ok w' base e v' (n + m) (xs ++ news) → w.grownBy w' v.ownBlock → K (a.put o.dst v') w') :
    if Region.wanted o (yielded ops a.tmps) = true then Oper.wp P o a w K Q else E := by
  have hw : Region.wanted o (yielded ops a.tmps) = true := by simp [Region.wanted, hgd]
  rw [if_pos hw]
  obtain ⟨v', w', hr, h2, h3, _⟩ := run_append_row (P := P) ok w base t o.type e i z bytes ht hi hz hsize hby hzs hok v n xs hown ad m c news hsee h1 hoks h63 hbytes hbase
  unfold Oper.wp execOp
  simp only [ho, resolve, invoke, builtin, Sem.run_bind, Sem.run_pure, Result.andThen_ok, List.map_toArray, List.map_cons, List.map_nil, hs, hx, hr]
  exact h v' w' h2 h3

/-- append to a full slice that is only read: a row of its own. -/
theorem run_append_full (base : Nat) (t ty e : TypeId) (i : TypeInfo) (z : Value) (bytes : Nat) (ht : P.underlying t = some (.slice e)) (hi : P.info? e = some i) (hz : i.zero = some z)
    (hsize : i.size = 1) (hby : i.bytes = bytes) (hzs : z.cells = #[z]) (hok : ok z)
    (a0 : Option Addr) (n : Nat) (xs : List Value) (hold : Sees w a0 n n xs) (h0 : 0 < n) (hxo : ∀ u ∈ xs, ok u)
    (a : Option Addr) (m c : Nat) (news : List Value) (hsee : Sees w a m c news) (hm : 0 < m) (hoks : ∀ u ∈ news, ok u)
    (h63 : n + m ≤ maxLen) (hbytes : (n + m) * bytes ≤ 140737488355328) (hbase : base ≤ w.heap.size) :
    ∃ v' w', (Builtin.append_ #[t, t] ty #[.slice a0 n n, .slice a m c]).run P w = .ok v' w' ∧ Row ok w' base e v' (n + m) (xs ++ news) ∧ Below w.heap.size w w' := by
  subst hby
  have hl := hsee.len
  have hxl := hold.len
  have hsmall : n + m ≤ 9223372036854775807 := by simp only [maxLen] at h63; omega
  have hlen : (xs ++ news).length = n + m := by rw [List.length_append, hxl, hl]
  obtain ⟨b, off, rfl, hlt, hc⟩ := hsee.real (by omega)
  obtain ⟨b0, off0, rfl, hlt0, hc0⟩ := hold.real h0
  have hadd : ∀ (b off j : Nat), (⟨b, off, none⟩ : Addr).add j = ⟨b, off + j, none⟩ := by intro b off j; unfold Addr.add; split <;> simp_all
  have hnews : ∀ j u, news[j]? = some u → w.cell? ((⟨b, off, none⟩ : Addr).add j) = some u := by
    intro j u hj
    have hjn : j < m := by rw [← hl]; exact (List.getElem?_eq_some_iff.1 hj).1
    rw [hadd, hc j hjn, hj]
  have holds : ∀ j u, xs[j]? = some u → w.cell? ((⟨b0, off0, none⟩ : Addr).add j) = some u := by
    intro j u hj
    have hjn : j < n := by rw [← hxl]; exact (List.getElem?_eq_some_iff.1 hj).1
    rw [hadd, hc0 j hjn, hj]
  have hr := run_append_grow (P := P) w t ty e i z ht hi hz ⟨b0, off0, none⟩ n n xs (by rw [hxl, hsize]; omega) holds ⟨b, off, none⟩ m c news (by rw [hl, hsize]; omega) hnews (by omega) (by omega) (growslice_fits (by omega) hbytes)
  have hge := grownCap_ge w (n + m) n e
  have hcm : grownCap w (n + m) n e ≤ maxLen := grownCap_le_maxLen w (n + m) n e h63
  refine ⟨_, _, hr, ⟨hlen, .inr ⟨w.heap.size, _, _, rfl, hbase, heap_alloc_new w.drew _, hge, hcm, ?_, ?_, ?_⟩⟩, ((Below.refl _ w).drew).alloc (Nat.le_refl _) _⟩
  · simp only [Array.size_append, List.size_toArray, size_zeroCells, hzs, hxl, hl]
    simp
    omega
  · simp only [Array.toList_append, List.append_assoc]
    rw [← List.append_assoc, ← hlen]
    exact List.take_left
  · intro u hu
    simp only [Array.toList_append, List.mem_append] at hu
    rcases hu with (hu | hu) | hu
    · exact hxo u hu
    · exact hoks u hu
    · rw [mem_zeroCells hzs hu]; exact hok

theorem step_append_full {ops : Array Oper} {o : Oper} {a : Act} {K : Act → World → Prop} {Q : Exit → Act → World → Prop} {E : Prop} (hgd : o.guard = none) (s x : Operand) (t : TypeId)
    (ho : o.op = .call { callee := .builtin .append, args := #[s, x], argTypes := #[t, t] })
    (base : Nat) (e : TypeId) (i : TypeInfo) (z : Value) (bytes : Nat) (ht : P.underlying t = some (.slice e)) (hi : P.info? e = some i) (hz : i.zero = some z)
    (hsize : i.size = 1) (hby : i.bytes = bytes) (hzs : z.cells = #[z]) (hok : ok z)
    (a0 : Option Addr) (n : Nat) (xs : List Value) (hs : a.eval s = .slice a0 n n) (hold : Sees w a0 n n xs) (h0 : 0 < n) (hxo : ∀ u ∈ xs, ok u)
    (ad : Option Addr) (m c : Nat) (news : List Value) (hx : a.eval x = .slice ad m c) (hsee : Sees w ad m c news) (hm : 0 < m) (hoks : ∀ u ∈ news, ok u)
    (h63 : n + m ≤ maxLen) (hbytes : (n + m) * bytes ≤ 140737488355328) (hbase : base ≤ w.heap.size)
    (h : ∀ v' w', Row ok w' base e v' (n + m) (xs ++ news) → Below w.heap.size w w' → K (a.put o.dst v') w') :
    if Region.wanted o (yielded ops a.tmps) = true then Oper.wp P o a w K Q else E := by
  have hw : Region.wanted o (yielded ops a.tmps) = true := by simp [Region.wanted, hgd]
  rw [if_pos hw]
  obtain ⟨v', w', hr, h2, h3⟩ := run_append_full (P := P) ok w base t o.type e i z bytes ht hi hz hsize hby hzs hok a0 n xs hold h0 hxo ad m c news hsee hm hoks h63 hbytes hbase
  unfold Oper.wp execOp
  simp only [ho, resolve, invoke, builtin, Sem.run_bind, Sem.run_pure, Result.andThen_ok, List.map_toArray, List.map_cons, List.map_nil, hs, hx, hr]
  exact h v' w' h2 h3
end
end Go.Proofs.Ytcoehbkjccfhlaa
/- What a trace that fits is. -/
namespace Go.Proofs.Ytcoehbkjccfhlaa
open Go Go.RowKit Go.Joins

/-- What a trace that fits is. -/
structure FitsC (c : NormC) (t : TraceC) : Prop where
  may : MayC c
  pos : 0 ≤ t.bad
  bad : t.bad.toNat < c.bads.length
  init : t.init.length = c.lats.length
  inits : ∀ u ∈ t.init, u.toNat ≤ 2
  resets : ∀ i, i < c.lats.length → (c.lats.getD i (0, 0)).2 = 2 ∨ (t.init.getD i 0).toNat = (c.lats.getD i (0, 0)).2
  one : 1 ≤ t.frames.length
  few : t.frames.length ≤ 256
  frames : ∀ k, k < t.frames.length → ((t.frames.getD k []).length : Int) = c.ins
  values : ∀ f ∈ t.frames, ∀ u ∈ f, u.toNat ≤ 2
theorem fits_iff {c : NormC} {t : TraceC} : fitsS c t = true ↔ FitsC c t := by
  unfold fitsS valsOk initOk
  simp only [Bool.and_eq_true, Bool.not_eq_true', Bool.or_eq_false_iff, decide_eq_true_eq, decide_eq_false_iff_not, List.any_eq_false, List.all_eq_true, List.mem_range, Bool.or_eq_true, mayC_iff]
  constructor
  · rintro ⟨h1, ⟨h2, h3⟩, ⟨h4, h5⟩, h6, h7, h8, h9⟩
    refine ⟨h1, by omega, by omega, by omega, fun u hu => by have := h5 u hu; omega, fun i hi => h6 i hi, h7, h8, fun k hk => (h9 _ (getD_mem hk)).1, fun f hf u hu => by have := (h9 f hf).2 u hu; omega⟩
  · intro h
    refine ⟨h.may, ⟨by have := h.pos; omega, by have := h.bad; have := h.pos; omega⟩, ⟨by have := h.init; omega, fun u hu => by have := h.inits u hu; omega⟩, h.resets, h.one, h.few, fun f hf => ⟨?_, fun u hu => by have := h.values f hf u hu; omega⟩⟩
    obtain ⟨k, hk, he⟩ := List.getElem_of_mem hf
    have := h.frames k hk
    simpa [List.getD, List.getElem?_eq_getElem hk, he] using this

end Go.Proofs.Ytcoehbkjccfhlaa
/- No library function has a contract to be laid in this seat: this text only stands where the others import it. -/
namespace Go.Proofs
end Go.Proofs
/- A region that draws its order and whose last operation waits for all others: that operation comes last, so the others may be gone through by themselves. No function of the program is named here. -/
namespace Go.Proofs.Ytcoehbkjccfhlaa
open Go

/-- What is asked behind the others: the last operation, then what was asked. -/
def LastQ (P : Program) (ops : Array Oper) (Q : Exit → Act → World → Prop) (m : Nat) : Exit → Act → World → Prop
  | .normal, a, w => wpOp P ops Q m (fun a' w' => Q .normal a' w') a w
  | e, a, w => Q e a w

theorem lastq_wp {P : Program} {ops : Array Oper} {Q : Exit → Act → World → Prop} {m : Nat} {o : Oper} {a : Act} {w : World} {K : Act → World → Prop} (h : o.wp P a w K (LastQ P ops Q m)) : o.wp P a w K Q := by
  unfold Oper.wp at *
  cases hr : (execOp a.eval o).run P w with
  | ok n w' => rw [hr] at h; cases n <;> exact h
  | halt x w' => rw [hr] at h; cases x <;> exact h

section
variable {P : Program} {md : Region.Mode} {front : Array Oper} {last : Oper} {Q : Exit → Act → World → Prop}

theorem push_front {α : Type} (xs : Array α) (x : α) (i : Nat) (h : i < xs.size) : (xs.push x)[i]? = xs[i]? := by
  rw [Array.getElem?_push]; rw [if_neg (by omega)]
theorem push_last {α : Type} (xs : Array α) (x : α) : (xs.push x)[xs.size]? = some x := by
  rw [Array.getElem?_push]; simp
theorem getD_push_lt (l : Array Bool) (b d : Bool) (i : Nat) (h : i < l.size) : (l.push b).getD i d = l.getD i d := by
  simp [Array.getD_eq_getD_getElem?, push_front l b i h]
theorem getD_push_eq (l : Array Bool) (b d : Bool) : (l.push b).getD l.size d = b := by
  simp [Array.getD_eq_getD_getElem?]
theorem set_push_lt (l : Array Bool) (b : Bool) (i : Nat) (h : i < l.size) : (l.push b).setIfInBounds i true = (l.setIfInBounds i true).push b := by
  apply Array.ext'
  rw [Array.toList_setIfInBounds, Array.toList_push, Array.toList_push, Array.toList_setIfInBounds, List.set_append_left _ _ (by simpa using h)]

/-- Where nothing may come up, all have come up. -/
theorem all_listed (hord : ∀ (j : Nat) (o : Oper), front[j]? = some o → ∀ e ∈ o.after, Region.binds md e = true → e.on < j) {listed : Array Bool} (hs : listed.size = front.size) (hr : Region.ready md front listed = []) : ∀ j, j < front.size → listed.getD j false = true := by
  intro j
  induction j using Nat.strongRecOn with
  | ind j ih =>
    intro hj
    cases h : listed.getD j false with
    | true => rfl
    | false =>
      exfalso
      have hm : j ∈ Region.ready md front listed := by
        rw [mem_ready]
        refine ⟨?_, front[j], Array.getElem?_eq_getElem hj, fun e he hb => ?_⟩
        · have hjl : j < listed.size := by omega
          simp [hjl] at h ⊢
          exact h
        · have := hord j _ (Array.getElem?_eq_getElem hj) e he hb
          exact ih e.on this (by omega)
      rw [hr] at hm
      cases hm

theorem peel (hg : ∀ (j : Nat) (o : Oper), front[j]? = some o → o.guard = none) (hord : ∀ (j : Nat) (o : Oper), front[j]? = some o → ∀ e ∈ o.after, Region.binds md e = true → e.on < j) (hlo : ∀ e ∈ last.after, Region.binds md e = true → e.on < front.size) (hl : ∀ i, i < front.size → ∃ e ∈ last.after, Region.binds md e = true ∧ e.on = i) :
    ∀ (fuel : Nat) (listed : Array Bool) (a : Act) (w : World), listed.size = front.size → wpAny P md front (LastQ P (front.push last) Q front.size) fuel listed a w → wpAny P md (front.push last) Q (fuel + 1) (listed.push false) a w := by
  -- who may come up
  have up : ∀ (listed : Array Bool), listed.size = front.size → ∀ i, i < front.size → (i ∈ Region.ready md (front.push last) (listed.push false) ↔ i ∈ Region.ready md front listed) := by
    intro listed hs i hi
    rw [mem_ready, mem_ready, getD_push_lt _ _ _ _ (by omega), push_front _ _ _ hi]
    constructor
    · rintro ⟨h0, o, ho, ha⟩
      exact ⟨h0, o, ho, fun e he hb => by have h1 := ha e he hb; rw [getD_push_lt _ _ _ _ (by have := hord i o ho e he hb; omega)] at h1; exact h1⟩
    · rintro ⟨h0, o, ho, ha⟩
      exact ⟨h0, o, ho, fun e he hb => by rw [getD_push_lt _ _ _ _ (by have := hord i o ho e he hb; omega)]; exact ha e he hb⟩
  have upLast : ∀ (listed : Array Bool), listed.size = front.size → (front.size ∈ Region.ready md (front.push last) (listed.push false) ↔ ∀ j, j < front.size → listed.getD j false = true) := by
    intro listed hs
    rw [mem_ready, ← hs, getD_push_eq, hs, push_last]
    constructor
    · rintro ⟨_, o, ho, ha⟩ j hj
      cases ho
      obtain ⟨e, he, hb, rfl⟩ := hl j hj
      have h1 := ha e he hb
      rw [getD_push_lt _ _ _ _ (by omega)] at h1
      exact h1
    · intro h
      exact ⟨rfl, last, rfl, fun e he hb => by have := hlo e he hb; rw [getD_push_lt _ _ _ _ (by omega)]; exact h _ this⟩
  have inOps : ∀ (listed : Array Bool) i, i ∈ Region.ready md (front.push last) (listed.push false) → i ≤ front.size := by
    intro listed i hi
    obtain ⟨_, o, ho, _⟩ := mem_ready.1 hi
    have := (Array.getElem?_eq_some_iff.1 ho).1
    simp at this
    omega
  -- behind the last one nothing is left
  have over : ∀ (listed : Array Bool), listed.size = front.size → (∀ j, j < front.size → listed.getD j false = true) → Region.ready md (front.push last) ((listed.push false).setIfInBounds front.size true) = [] := by
    intro listed hs ha
    cases hr : Region.ready md (front.push last) ((listed.push false).setIfInBounds front.size true) with
    | nil => rfl
    | cons i t =>
      exfalso
      have hi : i ∈ Region.ready md (front.push last) ((listed.push false).setIfInBounds front.size true) := by rw [hr]; simp
      obtain ⟨h0, o, ho, _⟩ := mem_ready.1 hi
      have hlt := (Array.getElem?_eq_some_iff.1 ho).1
      simp only [Array.size_push] at hlt
      by_cases e : i = front.size
      · subst e
        have : front.size < ((listed.push false).setIfInBounds front.size true).size := by simp; omega
        simp [hs] at h0
      · rw [getD_set_ne true (fun h => e h.symm), getD_push_lt _ _ _ _ (by omega)] at h0
        have h1 := ha i (by omega)
        have hil : i < listed.size := by omega
        simp [hil] at h0 h1
        rw [h0] at h1
        cases h1
  have fin : ∀ (fuel : Nat) (listed : Array Bool) (a : Act) (w : World), listed.size = front.size → (∀ j, j < front.size → listed.getD j false = true) → LastQ P (front.push last) Q front.size .normal a w → wpAny P md (front.push last) Q (fuel + 1) (listed.push false) a w := by
    intro fuel listed a w hs ha h
    refine ⟨fun hr => ?_, fun i hi => ?_⟩
    · have := (upLast listed hs).2 ha
      rw [hr] at this; cases this
    · have hle := inOps listed i hi
      by_cases e : i = front.size
      · subst e
        refine wpOp_mono (fun a' w' hq => ?_) h
        cases fuel with
        | zero => exact ⟨over listed hs ha, hq⟩
        | succ f => exact ⟨fun _ => hq, by rw [over listed hs ha]; simp⟩
      · exfalso
        have h1 := (up listed hs i (by omega)).1 hi
        obtain ⟨h0, _⟩ := mem_ready.1 h1
        have h2 := ha i (by omega)
        have hil : i < listed.size := by omega
        simp [hil] at h0 h2
        rw [h0] at h2
        cases h2
  intro fuel
  induction fuel with
  | zero => exact fun listed a w hs h => fin 0 listed a w hs (all_listed hord hs h.1) h.2
  | succ fuel ih =>
    intro listed a w hs h
    by_cases hr : Region.ready md front listed = []
    · exact fin (fuel + 1) listed a w hs (all_listed hord hs hr) (h.1 hr)
    · refine ⟨fun hr' => ?_, fun i hi => ?_⟩
      · obtain ⟨i, hi⟩ := List.exists_mem_of_ne_nil _ hr
        have hlt := (Array.getElem?_eq_some_iff.1 (mem_ready.1 hi).2.choose_spec.1).1
        have := (up listed hs i hlt).2 hi
        rw [hr'] at this; cases this
      · have hle := inOps listed i hi
        by_cases e : i = front.size
        · subst e
          exact absurd (by
            have ha := (upLast listed hs).1 hi
            cases hr2 : Region.ready md front listed with
            | nil => rfl
            | cons j t =>
              have hj : j ∈ Region.ready md front listed := by rw [hr2]; simp
              obtain ⟨h0, o, ho, _⟩ := mem_ready.1 hj
              have hjl : j < listed.size := by have := (Array.getElem?_eq_some_iff.1 ho).1; omega
              have h2 := ha j (by omega)
              simp [hjl] at h0 h2
              rw [h0] at h2
              cases h2) hr
        · have hlt : i < front.size := by omega
          have h1 := h.2 i ((up listed hs i hlt).1 hi)
          have ho : front[i]? = some front[i] := Array.getElem?_eq_getElem hlt
          have hgd := hg i _ ho
          have hw : ∀ y, Region.wanted front[i] y = true := fun y => by unfold Region.wanted; rw [hgd]
          unfold wpOp at h1 ⊢
          rw [push_front _ _ _ hlt]
          simp only [ho, hw, if_true] at h1 ⊢
          rw [set_push_lt _ _ _ (by omega)]
          rcases h1 with h1 | ⟨h1, h2⟩
          · exact Or.inl (Oper.wp_mono (fun a' w' hk => ih _ a' w' (by simpa using hs) hk) (lastq_wp h1))
          · exact Or.inr ⟨h1, h2⟩
/-- The conditions, as one test. -/
def peelB (md : Region.Mode) (front : Array Oper) (last : Oper) : Bool :=
  (List.range front.size).all (fun j => match front[j]? with | some o => o.guard.isNone && o.after.all (fun e => !Region.binds md e || decide (e.on < j)) | none => true) &&
  (last.after.all (fun e => !Region.binds md e || decide (e.on < front.size)) && (List.range front.size).all (fun i => last.after.any (fun e => Region.binds md e && (e.on == i))))
theorem any_peel {ops : Array Oper} {a : Act} {w : World} (ho : ops = front.push last) (hB : peelB .any front last = true)
    (h : wpAny P .any front (LastQ P ops Q front.size) front.size (Array.replicate front.size false) a w.drew) : wpAny P .any ops Q ops.size (Array.replicate ops.size false) a w.drew := by
  subst ho
  unfold peelB at hB
  rw [Bool.and_eq_true, Bool.and_eq_true, List.all_eq_true, List.all_eq_true, Array.all_eq_true_iff_forall_mem] at hB
  obtain ⟨h1, h2, h3⟩ := hB
  have key : ∀ (j : Nat) (o : Oper), front[j]? = some o → o.guard = none ∧ ∀ e ∈ o.after, Region.binds .any e = true → e.on < j := by
    intro j o ho
    have hlt := (Array.getElem?_eq_some_iff.1 ho).1
    have h4 := h1 j (List.mem_range.2 hlt)
    rw [ho] at h4
    simp only [Bool.and_eq_true, Option.isNone_iff_eq_none, Array.all_eq_true_iff_forall_mem] at h4
    refine ⟨h4.1, fun e he hb => ?_⟩
    have h5 := h4.2 e he
    rw [hb] at h5
    simpa using h5
  have h9 := peel (P := P) (md := .any) (front := front) (last := last) (Q := Q) (fun j o ho => (key j o ho).1) (fun j o ho => (key j o ho).2) (fun e he hb => by have h5 := h2 e he; rw [hb] at h5; simpa using h5) (fun i hi => by
    have h5 := h3 i (List.mem_range.2 hi)
    obtain ⟨e, he, hb⟩ := Array.any_eq_true'.1 h5
    rw [Bool.and_eq_true] at hb
    exact ⟨e, he, hb.1, by simpa using hb.2⟩) front.size (Array.replicate front.size false) a w.drew (by simp) h
  have e1 : (front.push last).size = front.size + 1 := by simp
  have e2 : Array.replicate (front.size + 1) false = (Array.replicate front.size false).push false := Array.replicate_succ
  rw [e1, e2]
  exact h9
theorem wp_region_peel {id : Nat} {ops : Array Oper} {a : Act} {w : World} (hm : P.follows .mixedOrders = true) (ho : ops = front.push last) (hB : peelB .any front last = true)
    (h : wpAny P .any front (LastQ P ops Q front.size) front.size (Array.replicate front.size false) a w.drew) : (Code.region id ops true).wp P Q a w :=
  wp_region_any hm (any_peel ho hB h)
/-- The last one peeled, by numbers. -/
theorem any_peelN {ops : Array Oper} {a : Act} {w : World} (n : Nat) (hn : ops.size = n + 1) (ho : ops[n]? = some last) (hB : peelB .any ops.pop last = true)
    (h : wpAny P .any ops.pop (LastQ P ops Q n) n (Array.replicate n false) a w.drew) : wpAny P .any ops Q ops.size (Array.replicate ops.size false) a w.drew := by
  have hs : ops.pop.size = n := by simp [hn]
  refine any_peel (front := ops.pop) (last := last) ?_ hB (by rw [hs]; exact h)
  apply Array.ext_getElem?
  intro i
  by_cases e : i < n
  · rw [push_front _ _ _ (by omega), Array.getElem?_pop, if_pos (by omega)]
  · by_cases e2 : i = n
    · subst e2
      have := push_last ops.pop last
      rw [hs] at this
      rw [this, ho]
    · rw [Array.getElem?_eq_none (by omega), Array.getElem?_eq_none (by simp; omega)]
theorem wp_region_peelN {id : Nat} {ops : Array Oper} {a : Act} {w : World} (n : Nat) (hm : P.follows .mixedOrders = true) (hn : ops.size = n + 1) (ho : ops[n]? = some last) (hB : peelB .any ops.pop last = true)
    (h : wpAny P .any ops.pop (LastQ P ops Q n) n (Array.replicate n false) a w.drew) : (Code.region id ops true).wp P Q a w :=
  wp_region_any hm (any_peelN n hn ho hB h)
end
end Go.Proofs.Ytcoehbkjccfhlaa
namespace Go.Proofs.Ytcoehbkjccfhlaa
open Go Go.RowKit Go.Joins

/-- What a model says of a clause variable. -/
def modV (bs : List Bool) (k : Nat) : Nat := if bs.getD k false then 1 else 0
theorem modV_le (bs : List Bool) (k : Nat) : modV bs k ≤ 1 := by unfold modV; split <;> omega
set_option maxRecDepth 100000 in
set_option maxHeartbeats 6400000 in
theorem value_any (v f : Nat) (bs : List Bool) (x : Int) (V nf mn mc : Nat) (ma a1 a2 a3 a4 a5 : Option Addr) (n1 c1 n2 c2 n3 c3 n4 c4 n5 c5 : Nat) (w : World) (M U : Nat) (hm : Sees w ma mn mc (bs.map Value.bool)) (hM : w.heap[M]? = some (.cells #[.slice ma mn mc] 32 (0, 0))) (hU : w.heap[U]? = some (.cells #[.int .i64 x, .slice a1 n1 c1, .slice a2 n2 c2, .slice a3 n3 c3, .slice a4 n4 c4, .slice a5 n5 c5, .int .i64 (V : Int), .int .i64 (nf : Int)] 67 (0, 0))) (hV : V ≤ 16384) (hv : v ≤ V) (hf : f ≤ 256) (hlen : spotE V v f < mn) :
    Calls Try.prog 50 #[.int .i64 (v : Int), .int .i64 (f : Int), .pointer (some ⟨M, 0, none⟩), .pointer (some ⟨U, 0, none⟩)] w fun e w' => e = .returned (.int .u8 ((modV bs (spotE V v f) : Nat) : Int)) ∧ Below w.heap.size w w' := by
  have HSP := Lib.hid (fun W => spot_any x ⟨a1, n1, c1, a2, n2, c2, a3, n3, c3, a4, n4, c4, a5, n5, c5⟩ V nf v f hV (by omega) hf W)
  have hl : bs.length = mn := hm.lenMap
  obtain ⟨bm, om, rfl, hbm⟩ := hm.addr (by omega)
  obtain ⟨sp, hsp⟩ : ∃ n, n = spotE V v f := ⟨_, rfl⟩
  rw [← hsp] at HSP hlen ⊢
  have hc := (hm.cell sp hlen).2
  have hc2 : w.cell? ⟨bm, om + sp, none⟩ = some (.bool (bs.getD sp false)) := by rw [hc]; simp [List.getD, List.getElem?_eq_getElem (show sp < bs.length by omega)]
  have HV : Hid (modV bs sp = if bs.getD sp false then 1 else 0) := rfl
  obtain ⟨b, hb⟩ : ∃ b, b = bs.getD sp false := ⟨_, rfl⟩
  rw [← hb] at hc2 HV
  have I1 : (0 : Int) ≤ (sp : Int) := by omega
  have I2 : (sp : Int) < (mn : Int) := by omega
  have HM := Lib.hid hM
  have HU := Lib.hid hU
  have HC := Lib.hid hc2
  unfold uV at HSP
  clear hl hbm hsp hc hc2 hb hm hM hU hV hv hf hlen
  go_enter Try.func50, Try.ntmps50
  go_upto_region 1 with fail
  have p_0 : w.cell? ⟨M, 0, none⟩ = some (.slice (some ⟨bm, om, none⟩) mn mc) := cell_of_block HM.out 0
  have p_1 : w.cell? ⟨U, 0, none⟩ = some (.int .i64 x) := cell_of_block HU.out 0
  have p_2 : w.cell? ⟨U, 1, none⟩ = some (.slice a1 n1 c1) := cell_of_block HU.out 1
  have p_3 : w.cell? ⟨U, 2, none⟩ = some (.slice a2 n2 c2) := cell_of_block HU.out 2
  have p_4 : w.cell? ⟨U, 3, none⟩ = some (.slice a3 n3 c3) := cell_of_block HU.out 3
  have p_5 : w.cell? ⟨U, 4, none⟩ = some (.slice a4 n4 c4) := cell_of_block HU.out 4
  have p_6 : w.cell? ⟨U, 5, none⟩ = some (.slice a5 n5 c5) := cell_of_block HU.out 5
  have p_7 : w.cell? ⟨U, 6, none⟩ = some (.int .i64 (V : Int)) := cell_of_block HU.out 6
  have p_8 : w.cell? ⟨U, 7, none⟩ = some (.int .i64 (nf : Int)) := cell_of_block HU.out 7
  have p_9 : w.cell? ⟨bm, om + sp, none⟩ = some (.bool b) := HC.out
  refine wp_region_noPanic ?_
  refine wp_region_held (S := fun w' => w'.cell? ⟨M, 0, none⟩ = some (.slice (some ⟨bm, om, none⟩) mn mc) ∧ w'.cell? ⟨U, 0, none⟩ = some (.int .i64 x) ∧ w'.cell? ⟨U, 1, none⟩ = some (.slice a1 n1 c1) ∧ w'.cell? ⟨U, 2, none⟩ = some (.slice a2 n2 c2) ∧ w'.cell? ⟨U, 3, none⟩ = some (.slice a3 n3 c3) ∧ w'.cell? ⟨U, 4, none⟩ = some (.slice a4 n4 c4) ∧ w'.cell? ⟨U, 5, none⟩ = some (.slice a5 n5 c5) ∧ w'.cell? ⟨U, 6, none⟩ = some (.int .i64 (V : Int)) ∧ w'.cell? ⟨U, 7, none⟩ = some (.int .i64 (nf : Int)) ∧ w'.cell? ⟨bm, om + sp, none⟩ = some (.bool b)) (by kernel_rfl) ?_
  generalize hYY : ({ w with drawn := w.drawn + 1 } : World) = Y0
  have HY0 : Hid (Below w.heap.size w Y0) := by subst hYY; exact (Below.refl _ _).drew
  have HS0 : Hid (Y0.cell? ⟨M, 0, none⟩ = some (.slice (some ⟨bm, om, none⟩) mn mc) ∧ Y0.cell? ⟨U, 0, none⟩ = some (.int .i64 x) ∧ Y0.cell? ⟨U, 1, none⟩ = some (.slice a1 n1 c1) ∧ Y0.cell? ⟨U, 2, none⟩ = some (.slice a2 n2 c2) ∧ Y0.cell? ⟨U, 3, none⟩ = some (.slice a3 n3 c3) ∧ Y0.cell? ⟨U, 4, none⟩ = some (.slice a4 n4 c4) ∧ Y0.cell? ⟨U, 5, none⟩ = some (.slice a5 n5 c5) ∧ Y0.cell? ⟨U, 6, none⟩ = some (.int .i64 (V : Int)) ∧ Y0.cell? ⟨U, 7, none⟩ = some (.int .i64 (nf : Int)) ∧ Y0.cell? ⟨bm, om + sp, none⟩ = some (.bool b)) := ⟨cell_below p_0 HY0.out, cell_below p_1 HY0.out, cell_below p_2 HY0.out, cell_below p_3 HY0.out, cell_below p_4 HY0.out, cell_below p_5 HY0.out, cell_below p_6 HY0.out, cell_below p_7 HY0.out, cell_below p_8 HY0.out, cell_below p_9 HY0.out⟩
  clear hYY
  clear p_0 p_1 p_2 p_3 p_4 p_5 p_6 p_7 p_8 p_9
  refine wpAnyH_take (i := 0) (v := ?_) (by simp only [List.getElem?_toArray, List.getElem?_cons_zero]; rfl) (by kernel_rfl) (by kernel_rfl) (by kernel_rfl) (fun _ _ _ h => h) (Or.inl ⟨by rfl, ?_⟩) HS0.out ?_
  rotate_left
  · intro w hSw
    (try dsimp only at hSw)
    obtain ⟨q0_, q1_, q2_, q3_, q4_, q5_, q6_, q7_, q8_, q9_⟩ := hSw
    go_simp
    try with_reducible rfl
  try simp only [Act.put, List.setIfInBounds_toArray, List.set_cons_zero, List.set_cons_succ]
  refine wpAnyH_take (i := 1) (v := ?_) (by simp only [List.getElem?_toArray, List.getElem?_cons_zero, List.getElem?_cons_succ]; rfl) (by kernel_rfl) (by kernel_rfl) (by kernel_rfl) (fun _ _ _ h => h) (Or.inl ⟨by rfl, ?_⟩) HS0.out ?_
  rotate_left
  · intro w hSw
    (try dsimp only at hSw)
    obtain ⟨q0_, q1_, q2_, q3_, q4_, q5_, q6_, q7_, q8_, q9_⟩ := hSw
    go_simp
    try with_reducible rfl
  try simp only [Act.put, List.setIfInBounds_toArray, List.set_cons_zero, List.set_cons_succ]
  refine wpAnyH_take (i := 2) (v := ?_) (by simp only [List.getElem?_toArray, List.getElem?_cons_zero, List.getElem?_cons_succ]; rfl) (by kernel_rfl) (by kernel_rfl) (by kernel_rfl) (fun _ _ _ h => h) (Or.inl ⟨by rfl, ?_⟩) HS0.out ?_
  rotate_left
  · intro w hSw
    (try dsimp only at hSw)
    obtain ⟨q0_, q1_, q2_, q3_, q4_, q5_, q6_, q7_, q8_, q9_⟩ := hSw
    go_simp
    try with_reducible rfl
  try simp only [Act.put, List.setIfInBounds_toArray, List.set_cons_zero, List.set_cons_succ]
  refine wpAnyH_take (i := 3) (v := ?_) (by simp only [List.getElem?_toArray, List.getElem?_cons_zero, List.getElem?_cons_succ]; rfl) (by kernel_rfl) (by kernel_rfl) (by kernel_rfl) (fun _ _ _ h => h) (Or.inl ⟨by rfl, ?_⟩) HS0.out ?_
  rotate_left
  · intro w hSw
    (try dsimp only at hSw)
    obtain ⟨q0_, q1_, q2_, q3_, q4_, q5_, q6_, q7_, q8_, q9_⟩ := hSw
    go_simp
    try with_reducible rfl
  try simp only [Act.put, List.setIfInBounds_toArray, List.set_cons_zero, List.set_cons_succ]
  refine wpAnyH_ready (rs := [4]) (by kernel_rfl) (by simp) ?_
  refine AllReadyH.cons (by simp only [List.getElem?_toArray, List.getElem?_cons_zero, List.getElem?_cons_succ]; rfl) (fun K hK => ?_) AllReadyH.nil
  go_simp
  refine (HSP.out _).mono ?_
  rintro e s1 ⟨rfl, b1⟩
  have HY1 := Lib.hid (ext_trans HY0.out b1)
  have HS1 : Hid (s1.cell? ⟨M, 0, none⟩ = some (.slice (some ⟨bm, om, none⟩) mn mc) ∧ s1.cell? ⟨U, 0, none⟩ = some (.int .i64 x) ∧ s1.cell? ⟨U, 1, none⟩ = some (.slice a1 n1 c1) ∧ s1.cell? ⟨U, 2, none⟩ = some (.slice a2 n2 c2) ∧ s1.cell? ⟨U, 3, none⟩ = some (.slice a3 n3 c3) ∧ s1.cell? ⟨U, 4, none⟩ = some (.slice a4 n4 c4) ∧ s1.cell? ⟨U, 5, none⟩ = some (.slice a5 n5 c5) ∧ s1.cell? ⟨U, 6, none⟩ = some (.int .i64 (V : Int)) ∧ s1.cell? ⟨U, 7, none⟩ = some (.int .i64 (nf : Int)) ∧ s1.cell? ⟨bm, om + sp, none⟩ = some (.bool b)) := ⟨cell_below HS0.out.1 b1, cell_below HS0.out.2.1 b1, cell_below HS0.out.2.2.1 b1, cell_below HS0.out.2.2.2.1 b1, cell_below HS0.out.2.2.2.2.1 b1, cell_below HS0.out.2.2.2.2.2.1 b1, cell_below HS0.out.2.2.2.2.2.2.1 b1, cell_below HS0.out.2.2.2.2.2.2.2.1 b1, cell_below HS0.out.2.2.2.2.2.2.2.2.1 b1, cell_below HS0.out.2.2.2.2.2.2.2.2.2 b1⟩
  refine hK.out _ _ HS1.out (fun _ => ?_)
  clear hK K
  try simp only [Act.put, List.setIfInBounds_toArray, List.set_cons_zero, List.set_cons_succ]
  clear b1
  refine wpAnyH_take (i := 5) (v := ?_) (by simp only [List.getElem?_toArray, List.getElem?_cons_zero, List.getElem?_cons_succ]; rfl) (by kernel_rfl) (by kernel_rfl) (by kernel_rfl) (fun _ _ _ h => h) (Or.inl ⟨by rfl, ?_⟩) HS1.out ?_
  rotate_left
  · intro w hSw
    (try dsimp only at hSw)
    obtain ⟨q0_, q1_, q2_, q3_, q4_, q5_, q6_, q7_, q8_, q9_⟩ := hSw
    go_simp
    try with_reducible rfl
  try simp only [Act.put, List.setIfInBounds_toArray, List.set_cons_zero, List.set_cons_succ]
  refine wpAnyH_take (i := 6) (v := ?_) (by simp only [List.getElem?_toArray, List.getElem?_cons_zero, List.getElem?_cons_succ]; rfl) (by kernel_rfl) (by kernel_rfl) (by kernel_rfl) (fun _ _ _ h => h) (Or.inl ⟨by rfl, ?_⟩) HS1.out ?_
  rotate_left
  · intro w hSw
    (try dsimp only at hSw)
    obtain ⟨q0_, q1_, q2_, q3_, q4_, q5_, q6_, q7_, q8_, q9_⟩ := hSw
    go_simp
    try with_reducible rfl
  try simp only [Act.put, List.setIfInBounds_toArray, List.set_cons_zero, List.set_cons_succ]
  refine wpAnyH_done (by kernel_rfl) ?_ _
  refine NoPanic.normal ?_
  cases b with
  | true =>
    go_wp2
    go_ret
    exact ⟨by rw [HV.out]; rfl, HY1.out⟩
  | false =>
    go_wp2
    go_ret
    exact ⟨by rw [HV.out]; rfl, HY1.out⟩
end Go.Proofs.Ytcoehbkjccfhlaa
