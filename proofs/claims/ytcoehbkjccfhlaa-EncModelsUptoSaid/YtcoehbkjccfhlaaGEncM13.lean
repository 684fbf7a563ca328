/- What is known stays so, whatever X are: on plain lists. -/
import Derived.Test.YtcoehbkjccfhlaaGEncM00
import Derived.Test.YtcoehbkjccfhlaaGEncM03
import Derived.Test.YtcoehbkjccfhlaaGEncM01
import Derived.Test.YtcoehbkjccfhlaaGEncM07
import Derived.Test.YtcoehbkjccfhlaaGEncM10
import Derived.Test.YtcoehbkjccfhlaaSRRun
import Derived.Test.YtcoehbkjccfhlaaRows
import Derived.Test.YtcoehbkjccfhlaaGEncM05
import Derived.BigQuiet
import Derived.BigRegion
import Derived.Deep.AppendLies
import Derived.Deep.CutRange
import Derived.Deep.QuietTactic
import Derived.Deep.RegionHeld3
import Derived.Deep.RegionLaw
import Derived.Deep.RegionWith
import Derived.KernelRfl
import Derived.Laws.Bits64b
import Derived.Laws.BitsAllLaws
import Derived.Laws.BitsLemmas
import Derived.Laws.EntriesVeiled
import Derived.Laws.Tables
import Derived.Lib.AppendStr
import Derived.Lib.AppendZeros
import Derived.Lib.ConvBytes
import Derived.Lib.Hide
import Derived.Lib.SlBytesRow
import Derived.Lib.SmallJoins
import Derived.LoopIn
import Derived.LoopNIn
import Derived.Maps.AppendAt
import Derived.OrdersHeld
import Derived.OrdersIn
import Derived.OwnWalkIn
import Derived.RangeFuncBox
import Derived.RangeFuncCalls
import Derived.RangeFuncLeaves
import Derived.RangeFuncNested
import Derived.RangeFuncWrites
import Derived.Shelf.Abstract
import Derived.Shelf.Bytes.SlSmallAll
import Derived.Shelf.RegionOpen
import Derived.Sort.CutIn
import Derived.Stop.RegionWithIn
import Derived.TacticsInMore
import Derived.WalkKit
import Derived.WalkLawsBesides
import Derived.WalkSpells
import Derived.Test.YtcoehbkjccfhlaaGEncM04
import Derived.Test.YtcoehbkjccfhlaaGEncM12
/- The reference's zeroed, by its contract. -/
namespace Go.Proofs.Ytcoehbkjccfhlaa
open Go Go.RowKit Go.Joins

theorem zeroL_snoc (l : List UInt8) (k : Nat) (h : k < l.length) : zeroL (l.take (k + 1)) = zeroL (l.take k) ++ [zeroU (l.getD k 0)] := by
  rw [List.take_add_one, List.getElem?_eq_getElem h]
  simp only [Option.toList_some, zeroL, List.map_append, List.map_cons, List.map_nil]
  simp [List.getD, List.getElem?_eq_getElem h]

set_option maxRecDepth 100000 in
set_option maxHeartbeats 1600000 in
theorem zeroed_any (l : List UInt8) (a : Option Addr) (n c : Nat) (hn : n ≤ 1048576) (w : World) (h : Sees w a n c (l.map bv)) :
    Calls Try.prog 55 #[.slice a n c] w fun e w' => ∃ ra rc, e = .returned (.slice ra n rc) ∧ Row isByte w' w.heap.size 5 (.slice ra n rc) n ((zeroL l).map bv) ∧ Below w.heap.size w w' := by
  obtain ⟨i0, hi, hz0, hz1, hz2⟩ := info_parts info_byte
  have HS := Lib.hid h
  have HL : Hid (l.length = n) := h.lenMap
  have HN := Lib.hid hn
  clear h hn
  go_enter Try.func55, Try.ntmps55
  go_wp2
  go_loopw [4, 3] (fun i v wr => ∃ (k : Nat) (ra : Option Addr) (rc : Nat), k ≤ n ∧ i = .int .i64 k ∧ v = .slice ra k rc ∧ Hid (Row isByte wr w.heap.size 5 (.slice ra k rc) k ((zeroL (l.take k)).map bv)) ∧ Hid (Below w.heap.size w wr)) (fun i _ _ => n - (intOf i).toNat)
  case atStart => exact ⟨0, none, 0, Nat.zero_le _, rfl, rfl, Row.nil _ _ _ _, Below.refl _ _⟩
  case round =>
    obtain ⟨k, ra, rc, hk, rfl, rfl, hR, hB⟩ := hrel
    by_cases hlt : k < n
    · obtain ⟨b, off, rfl, hbw⟩ := HS.out.addr (by omega)
      have hcx := (HS.out.below hB.out).byte k hlt
      have hsn := zeroL_snoc l k (by rw [HL.out]; exact hlt)
      obtain ⟨u, hu⟩ : ∃ u, u = l.getD k 0 := ⟨_, rfl⟩
      rw [← hu] at hcx hsn
      obtain ⟨x, hx⟩ : ∃ x, x = u.toNat := ⟨_, rfl⟩
      rw [← hx] at hcx
      obtain ⟨d, hd⟩ : ∃ d, d = (zeroU u).toNat := ⟨_, rfl⟩
      have HD : Hid (d = if x = 2 then 0 else x) := by show _ = _; rw [hd]; unfold zeroU; rw [← hx]; split <;> simp [*]
      have HDV : Hid (Value.int .u8 (d : Int) = bv (zeroU u)) := by show _ = _; rw [hd]; rfl
      have HSN := Lib.hid hsn
      have H1C : Hid (∀ v ∈ [Value.int .u8 ((d : Nat) : Int)], v.oneCell' = true) := by rw [HDV.out]; exact bv_one [zeroU u]
      have HOC : Hid (∀ v ∈ [Value.int .u8 ((d : Nat) : Int)], isByte v) := by rw [HDV.out]; exact isByte_all [zeroU u]
      have hI : ((k : Nat) : Int) < (n : Int) := by omega
      have W1 : IntKind.i64.wrap ((k : Int) + 1) = (k : Int) + 1 := IntWalk.i64_in _ (by have := HN.out; omega)
      clear hu hx hd hsn hbw
      by_cases hq : x = 2
      · subst hq
        have hd0 : d = 0 := HD.out.trans (if_pos rfl)
        subst hd0
        go_wp2_with (at_builtin; refine wpList_append_row isByte _ rfl _ _ 27 rfl w.heap.size 5 i0 (.int .u8 0) 1 Try.underlying27 hi hz0 hz1 hz2 rfl isByte_zero _ _ _ rfl (hR.out.below (ext_alloc _ _)) _ 1 1 [.int .u8 ((0 : Nat) : Int)] rfl ?qd1 H1C.out HOC.out ?qd4 ?qd5 ?qd6 ?_)
        case qd1 => exact sees_box1 _ _ _
        case qd4 => unfold maxLen; have := HN.out; omega
        case qd5 => have := HN.out; omega
        case qd6 => have := hB.out.size; simp; omega
        intro v' w' r' g' _
        have hbz := ext_alloc wr (.cells #[.int .u8 ((0 : Nat) : Int)] 5)
        have hnz := hR.out.below hbz
        have HBZ := Lib.hid ((ext_trans hB.out hbz).grown g' (ext_trans hB.out hbz).size (fun k hk => (hnz.own.lt k hk).1))
        obtain ⟨a2z, c2z, rfl⟩ := r'.form
        have R2 := Lib.hid r'
        clear hbz hnz r' g' hR hB
        go_wp2
        go_roundw
        case rel => exact ⟨k + 1, _, _, by omega, by go_num, rfl, (by rw [HSN.out, List.map_append, show List.map bv [zeroU u] = [Value.int .u8 ((0 : Nat) : Int)] from by rw [HDV.out]; rfl]; exact R2.out), HBZ.out⟩
        case measure => simp [intOf]; omega
      · have hdx : d = x := HD.out.trans (if_neg hq)
        subst hdx
        have e1 : ((d : Int) == 2) = false := by simp; omega
        have HQ := Lib.hid hq
        clear hq
        go_wp2_with (at_builtin; refine wpList_append_row isByte _ rfl _ _ 27 rfl w.heap.size 5 i0 (.int .u8 0) 1 Try.underlying27 hi hz0 hz1 hz2 rfl isByte_zero _ _ _ rfl (hR.out.below (ext_alloc _ _)) _ 1 1 [.int .u8 ((d : Nat) : Int)] rfl ?pd1 H1C.out HOC.out ?pd4 ?pd5 ?pd6 ?_)
        case pd1 => exact sees_box1 _ _ _
        case pd4 => unfold maxLen; have := HN.out; omega
        case pd5 => have := HN.out; omega
        case pd6 => have := hB.out.size; simp; omega
        intro v' w' r' g' _
        have hbz := ext_alloc wr (.cells #[.int .u8 ((d : Nat) : Int)] 5)
        have hnz := hR.out.below hbz
        have HBZ := Lib.hid ((ext_trans hB.out hbz).grown g' (ext_trans hB.out hbz).size (fun k hk => (hnz.own.lt k hk).1))
        obtain ⟨a2z, c2z, rfl⟩ := r'.form
        have R2 := Lib.hid r'
        clear hbz hnz r' g' hR hB
        go_wp2
        go_roundw
        case rel => exact ⟨k + 1, _, _, by omega, by go_num, rfl, (by rw [HSN.out, List.map_append, show List.map bv [zeroU u] = [Value.int .u8 ((d : Nat) : Int)] from by rw [HDV.out]; rfl]; exact R2.out), HBZ.out⟩
        case measure => simp [intOf]; omega
    · obtain rfl : k = n := by omega
      have HR : Hid (Row isByte wr w.heap.size 5 (.slice ra k rc) k ((zeroL l).map bv)) := by have h := hR.out; rw [List.take_of_length_le (by rw [HL.out]; exact Nat.le_refl _)] at h; exact h
      clear hR
      go_wp2
      go_ret
      exact ⟨_, _, rfl, HR.out, hB.out⟩
end Go.Proofs.Ytcoehbkjccfhlaa
namespace Go.Proofs.Ytcoehbkjccfhlaa
open Go Go.RowKit

/-- b is a bit, and a is b unless it is X. -/
def Ref (a b : UInt8) : Prop := (a.toNat = 2 ∨ a = b) ∧ b.toNat ≤ 1
theorem u8_ofNat_toNat (n : Nat) (h : n ≤ 2) : (UInt8.ofNat n).toNat = n := by rw [UInt8.toNat_ofNat', Nat.mod_eq_of_lt (by omega)]
theorem u8_cases (b : UInt8) (h : b.toNat ≤ 1) : b = 0 ∨ b = 1 := by
  rcases (show b.toNat = 0 ∨ b.toNat = 1 by omega) with h | h
  · exact .inl (UInt8.toNat_inj.1 (h.trans rfl))
  · exact .inr (UInt8.toNat_inj.1 (h.trans rfl))
theorem ref_zero : Ref 0 0 := ⟨.inr rfl, by decide⟩
theorem Ref.not {a b : UInt8} (h : Ref a b) : Ref (k1.nt a) (k1.nt b) := by
  rcases u8_cases b h.2 with rfl | rfl
  · rcases h.1 with h1 | rfl
    · refine ⟨.inl ?_, by decide⟩
      show (UInt8.ofNat (not1 a.toNat)).toNat = 2
      rw [h1]; rfl
    · exact ⟨.inr rfl, by decide⟩
  · rcases h.1 with h1 | rfl
    · refine ⟨.inl ?_, by decide⟩
      show (UInt8.ofNat (not1 a.toNat)).toNat = 2
      rw [h1]; rfl
    · exact ⟨.inr rfl, by decide⟩
theorem Ref.and {a b x y : UInt8} (h : Ref a b) (h' : Ref x y) : Ref (k1.an a x) (k1.an b y) := by
  have key : ∀ (p q r s : Nat), (p = 2 ∨ p = q) → q ≤ 1 → (r = 2 ∨ r = s) → s ≤ 1 → (and1 p r = 2 ∨ and1 p r = and1 q s) ∧ and1 q s ≤ 1 := by
    intro p q r s h1 h2 h3 h4
    have hq : q = 0 ∨ q = 1 := by omega
    have hs : s = 0 ∨ s = 1 := by omega
    rcases h1 with rfl | rfl <;> rcases h3 with rfl | rfl <;> rcases hq with rfl | rfl <;> rcases hs with rfl | rfl <;> simp [and1]
  have k := key a.toNat b.toNat x.toNat y.toNat (h.1.imp id (fun e => by rw [e])) h.2 (h'.1.imp id (fun e => by rw [e])) h'.2
  have e1 := u8_ofNat_toNat (and1 a.toNat x.toNat) (and1_le _ _)
  have e2 := u8_ofNat_toNat (and1 b.toNat y.toNat) (and1_le _ _)
  refine ⟨k.1.imp (fun e => e1.trans e) (fun e => ?_), by show (UInt8.ofNat (and1 b.toNat y.toNat)).toNat ≤ 1; rw [e2]; exact k.2⟩
  show UInt8.ofNat (and1 a.toNat x.toNat) = UInt8.ofNat (and1 b.toNat y.toNat)
  rw [e]
def RefL (xs ys : List UInt8) : Prop := xs.length = ys.length ∧ ∀ i, Ref (xs.getD i 0) (ys.getD i 0)
theorem RefL.nil : RefL [] [] := ⟨rfl, fun i => by simpa using ref_zero⟩
theorem RefL.cons {a b : UInt8} {xs ys : List UInt8} (h : Ref a b) (hl : RefL xs ys) : RefL (a :: xs) (b :: ys) := ⟨by simp [hl.1], fun i => by
  cases i with
  | zero => simpa using h
  | succ i => simpa using hl.2 i⟩
theorem RefL.append {xs ys cs ds : List UInt8} (h : RefL xs ys) (h' : RefL cs ds) : RefL (xs ++ cs) (ys ++ ds) := by
  refine ⟨by simp [h.1, h'.1], fun i => ?_⟩
  by_cases e : i < xs.length
  · have e2 : i < ys.length := by rw [← h.1]; exact e
    have := h.2 i
    simpa [List.getD, List.getElem?_append_left e, List.getElem?_append_left e2] using this
  · have e1 : xs.length ≤ i := Nat.le_of_not_lt e
    have e2 : ys.length ≤ i := by rw [← h.1]; exact e1
    have := h'.2 (i - xs.length)
    simp only [List.getD, List.getElem?_append_right e1, List.getElem?_append_right e2] at this ⊢
    rw [← h.1]; exact this
theorem RefL.val {xs ys : List UInt8} (h : RefL xs ys) (lit : Nat) : Ref (k1.val xs lit) (k1.val ys lit) := by
  unfold Kd.val
  split
  · exact (h.2 _).not
  · exact h.2 _
theorem RefL.gates : ∀ (l : List (Nat × Nat)) {xs ys : List UInt8}, RefL xs ys → RefL (k1.gates l xs) (k1.gates l ys)
  | [], _, _, h => h
  | g :: r, xs, ys, h => by
    rw [Kd.gates, Kd.gates]
    exact RefL.gates r (h.append (RefL.cons ((h.val g.1).and (h.val g.2)) RefL.nil))
theorem RefL.vars {c : NormC} {st st' ins ins' : List UInt8} (h : RefL st st') (h' : RefL ins ins') : RefL (k1.vars c st ins) (k1.vars c st' ins') :=
  RefL.gates _ (RefL.cons ref_zero (h'.append h))
theorem RefL.map (f g : Nat × Nat → UInt8) : ∀ (l : List (Nat × Nat)), (∀ p, Ref (f p) (g p)) → RefL (l.map f) (l.map g)
  | [], _ => RefL.nil
  | p :: r, h => RefL.cons (h p) (RefL.map f g r h)
theorem RefL.next {c : NormC} {vs vs' : List UInt8} (h : RefL vs vs') : RefL (k1.next c vs) (k1.next c vs') := RefL.map _ _ _ fun p => h.val p.1
def RefF (fs gs : List (List UInt8)) : Prop := fs.length = gs.length ∧ ∀ i, RefL (fs.getD i []) (gs.getD i [])
theorem RefF.cons {x y : List UInt8} {xs ys : List (List UInt8)} (h : RefL x y) (hl : RefF xs ys) : RefF (x :: xs) (y :: ys) := ⟨by simp [hl.1], fun i => by
  cases i with
  | zero => simpa using h
  | succ i => simpa using hl.2 i⟩
theorem RefF.nil : RefF [] [] := ⟨rfl, fun i => by simpa using RefL.nil⟩
theorem RefF.tail {x y : List UInt8} {xs ys : List (List UInt8)} (h : RefF (x :: xs) (y :: ys)) : RefL x y ∧ RefF xs ys := ⟨by simpa using h.2 0, by simpa using h.1, fun i => by simpa using h.2 (i + 1)⟩
theorem RefF.run (c : NormC) : ∀ {fs gs : List (List UInt8)} {st st' : List UInt8}, RefF fs gs → RefL st st' → RefF (k1.run c st fs) (k1.run c st' gs)
  | [], [], _, _, _, _ => RefF.nil
  | [], _ :: _, _, _, h, _ => by have := h.1; simp at this
  | _ :: _, [], _, _, h, _ => by have := h.1; simp at this
  | f :: fs, g :: gs, st, st', h, hs => by
    obtain ⟨h1, h2⟩ := h.tail
    rw [Kd.run, Kd.run]
    have hv := RefL.vars (c := c) hs h1
    exact RefF.cons hv (RefF.run c h2 hv.next)
theorem ref_cons (vs vs' : List UInt8) (h : RefL vs vs') : ∀ (l : List Nat) {a a' : UInt8}, Ref a a' → Ref (k1.cons vs a l) (k1.cons vs' a' l)
  | [], _, _, ha => ha
  | x :: r, _, _, ha => ref_cons vs vs' h r (ha.and (h.val x))
theorem ref_sum (c : NormC) (bad : Nat) : ∀ {l l' : List (List UInt8)} {p p' : UInt8 × UInt8}, RefF l l' → Ref p.1 p'.1 → Ref p.2 p'.2 → Ref (k1.sum c bad p l).1 (k1.sum c bad p' l').1 ∧ Ref (k1.sum c bad p l).2 (k1.sum c bad p' l').2
  | [], [], _, _, _, h1, h2 => ⟨h1, h2⟩
  | [], _ :: _, _, _, h, _, _ => by have := h.1; simp at this
  | _ :: _, [], _, _, h, _, _ => by have := h.1; simp at this
  | v :: l, v' :: l', p, p', h, h1, h2 => by
    obtain ⟨hv, ht⟩ := h.tail
    exact ref_sum c bad (p := (k1.cons v p.1 c.cons, k1.val v (c.bads.getD bad 0))) (p' := (k1.cons v' p'.1 c.cons, k1.val v' (c.bads.getD bad 0))) ht (ref_cons v v' hv _ h1) (hv.val _)
theorem ref_verdict (c : NormC) (bad : Nat) {st st' : List UInt8} {fs gs : List (List UInt8)} (h : RefL st st') (h' : RefF fs gs) : Ref (k1.verdict c bad st fs) (k1.verdict c bad st' gs) := by
  have hz : Ref (k1.nt k1.z) (k1.nt k1.z) := ref_zero.not
  have hs := ref_sum c bad (p := (k1.nt k1.z, k1.z)) (p' := (k1.nt k1.z, k1.z)) (RefF.run c h' h) hz ref_zero
  exact hs.1.and hs.2
theorem ref_fillU (bits : List Bool) (p : Nat) (u : UInt8) (h : u.toNat ≤ 2) : Ref u (fillU bits p u) := by
  unfold fillU
  split
  · rename_i h2
    refine ⟨.inl h2, ?_⟩
    unfold bitU
    split <;> decide
  · exact ⟨.inr rfl, by omega⟩
theorem ref_fillL (bits : List Bool) : ∀ (l : List UInt8) (p : Nat), (∀ u ∈ l, u.toNat ≤ 2) → RefL l (fillL bits p l)
  | [], _, _ => RefL.nil
  | u :: r, p, h => RefL.cons (ref_fillU bits p u (h u (by simp))) (ref_fillL bits r _ (fun x hx => h x (by simp [hx])))
theorem fillT_frame (bits : List Bool) (t : TraceC) (k : Nat) (hk : k < t.frames.length) : (fillT bits t).frames.getD k [] = fillL bits (startP (listsOf t) (k + 1)) (t.frames.getD k []) := by
  simp only [fillT, List.getD]
  rw [List.getElem?_map, List.getElem?_range hk]
  rfl
theorem fillT_len (bits : List Bool) (t : TraceC) : (fillT bits t).frames.length = t.frames.length := by simp [fillT]
theorem ref_fillT {c : NormC} {t : TraceC} (bits : List Bool) (h : FitsC c t) : RefL t.init (fillT bits t).init ∧ RefF t.frames (fillT bits t).frames := by
  refine ⟨ref_fillL bits _ _ h.inits, (fillT_len bits t).symm, fun i => ?_⟩
  by_cases e : i < t.frames.length
  · rw [fillT_frame bits t i e]
    exact ref_fillL bits _ _ (h.values _ (getD_mem e))
  · have e1 : t.frames.getD i [] = [] := by simp [List.getD, List.getElem?_eq_none (Nat.le_of_not_lt e)]
    have e2 : (fillT bits t).frames.getD i [] = [] := by simp [List.getD, List.getElem?_eq_none (show (fillT bits t).frames.length ≤ i by rw [fillT_len]; exact Nat.le_of_not_lt e)]
    rw [e1, e2]; exact RefL.nil
theorem run_at (c : NormC) : ∀ (fs : List (List UInt8)) (st : List UInt8) (j : Nat), j < fs.length → (k1.run c st fs).getD j [] = k1.vars c (k1.after c st (fs.take j)) (fs.getD j [])
  | [], _, _, h => by simp at h
  | f :: r, st, 0, _ => by rw [Kd.run]; rfl
  | f :: r, st, j + 1, h => by
    rw [Kd.run, List.getD_cons_succ, run_at c r _ j (by simpa using h)]
    rfl
theorem ref_varsAt {c : NormC} {t : TraceC} (bits : List Bool) (h : FitsC c t) (j : Nat) (hj : j < t.frames.length) : RefL (varsAt c t j) (varsAt c (fillT bits t) j) := by
  obtain ⟨h1, h2⟩ := ref_fillT bits h
  have h3 := (RefF.run c h2 h1).2 j
  rw [run_at c _ _ j hj, run_at c _ _ j (by rw [fillT_len]; exact hj)] at h3
  exact h3
theorem ref_le {xs ys : List UInt8} (h : RefL xs ys) : ∀ u ∈ ys, u.toNat ≤ 1 := by
  intro u hu
  obtain ⟨i, hi, he⟩ := List.getElem_of_mem hu
  have := (h.2 i).2
  simpa [List.getD, List.getElem?_eq_getElem hi, he] using this
theorem FitsC.fill {c : NormC} {t : TraceC} (bits : List Bool) (h : FitsC c t) : FitsC c (fillT bits t) := by
  obtain ⟨h1, h2⟩ := ref_fillT bits h
  refine ⟨h.may, h.pos, h.bad, h1.1.symm.trans h.init, fun u hu => by have := ref_le h1 u hu; omega, fun i hi => ?_, by rw [fillT_len]; exact h.one, by rw [fillT_len]; exact h.few, fun k hk => ?_, fun f hf u hu => ?_⟩
  · rcases h.resets i hi with h3 | h3
    · exact .inl h3
    · by_cases e : (c.lats.getD i (0, 0)).2 = 2
      · exact .inl e
      · refine .inr ?_
        rcases (h1.2 i).1 with h4 | h4
        · omega
        · rw [← h4]; exact h3
  · have hk2 : k < t.frames.length := by rw [← fillT_len bits t]; exact hk
    rw [← (h2.2 k).1]; exact h.frames k hk2
  · obtain ⟨i, hi, he⟩ := List.getElem_of_mem hf
    have h3 := ref_le (h2.2 i)
    have h4 : (fillT bits t).frames.getD i [] = f := by simp [List.getD, List.getElem?_eq_getElem hi, he]
    rw [h4] at h3
    have := h3 u hu; omega
theorem zeroL_id (l : List UInt8) (h : ∀ u ∈ l, u.toNat ≤ 1) : zeroL l = l := by
  unfold zeroL
  conv => rhs; rw [← List.map_id l]
  refine List.map_congr_left fun u hu => ?_
  have := h u hu
  unfold zeroU
  rw [if_neg (by omega)]
  rfl
theorem readT_fill {c : NormC} {t : TraceC} (bits : List Bool) (h : FitsC c t) : readT (fillT bits t) = fillT bits t := by
  obtain ⟨h1, h2⟩ := ref_fillT bits h
  have e1 := zeroL_id _ (ref_le h1)
  have e2 : (fillT bits t).frames.map zeroL = (fillT bits t).frames := by
    conv => rhs; rw [← List.map_id (fillT bits t).frames]
    refine List.map_congr_left fun f hf => ?_
    obtain ⟨i, hi, he⟩ := List.getElem_of_mem hf
    have h3 := ref_le (h2.2 i)
    have h4 : (fillT bits t).frames.getD i [] = f := by simp [List.getD, List.getElem?_eq_getElem hi, he]
    rw [h4] at h3
    exact zeroL_id f h3
  unfold readT
  rw [e1, e2]
/-- Whether the filled trace fails, and what was said of it. -/
theorem fill_verdict {c : NormC} {t : TraceC} (bits : List Bool) (h : FitsC c t) (bad : Nat) :
    Ref (k1.verdict c bad t.init t.frames) (k1.verdict c bad (readT (fillT bits t)).init (readT (fillT bits t)).frames) := by
  rw [readT_fill bits h]
  obtain ⟨h1, h2⟩ := ref_fillT bits h
  exact ref_verdict c bad h1 h2
theorem gates_head : ∀ (l : List (Nat × Nat)) (vs : List UInt8), 0 < vs.length → (k1.gates l vs).getD 0 0 = vs.getD 0 0
  | [], _, _ => rfl
  | g :: r, vs, h => by
    rw [Kd.gates, gates_head r _ (by simp), List.getD, List.getElem?_append_left h]; rfl
theorem varsAt_head (c : NormC) (t : TraceC) (j : Nat) : (varsAt c t j).getD 0 0 = 0 := by
  unfold varsAt Kd.vars
  rw [gates_head _ _ (by simp)]
  rfl
end Go.Proofs.Ytcoehbkjccfhlaa
