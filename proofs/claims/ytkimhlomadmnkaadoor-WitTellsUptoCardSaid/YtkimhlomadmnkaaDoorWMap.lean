/- wit.valueOf, wit.Values, by their contracts. -/
import Derived.Test.YtkimhlomadmnkaaDoorWSpec
import Derived.Maps.Own
import Derived.Maps.OwnSet
namespace Go.Proofs.YtkimhlomadmnkaaDoor
open Go Go.RowKit Go.Joins Go.Maps

/-- What the map reads as. -/
def mapD : DataW Unit := (((DataW.map []).put (.int .u8 48) (.lit (.int .u8 0))).put (.int .u8 49) (.lit (.int .u8 1))).put (.int .u8 120) (.lit (.int .u8 2))
theorem law8 : Keyed Tryd.prog 5 := int_keyed Tryd.underlying5
theorem zero8 (w : World) : (zeroValue 5).run Tryd.prog w = .ok (.int .u8 0) w := by kernel_rfl
/-- A map in block b that maps digits to values. -/
def IsMap (w : World) (b : Nat) : Prop := w.ownsMap Tryd.prog 5 (plainElem Tryd.prog 5) b 3 mapD

theorem wpList_insert_own {H : Type} {P : Program} (w : World) {ops : Array Oper} {rest : List Oper} {o : Oper} {a : Act} {Q : Exit → Act → World → Prop}
    (hg : o.guard = none) (m x v : Operand) (t : TypeId) (hop : o.op = Op.insert t m x v)
    (k e : TypeId) (K : Keyed P k) (ht : P.underlying t = some (.map k e)) (R : Value → Option (DataW H × List MemPlace)) (b n : Nat) (D : DataW H)
    (hm : a.eval m = .map (some b)) (hown : w.ownsMap P k R b n D) (hn : n < maxLen) (key val : Value) (kl : Lit) (hx : a.eval x = key) (hv : a.eval v = val) (hkey : keyOf P k key = some kl)
    (d : DataW H) (ps : List MemPlace) (hval : R val = some (d, ps))
    (hK : ∀ w', w'.ownsMap P k R b (n + 1) (D.put kl d) → w.grownBy w' (some b) → wpList P ops Q rest (a.put o.dst undef) w') :
    wpList P ops Q (o :: rest) a w := by
  refine wpList_plain hg fun K' hK' => ?_
  obtain ⟨w', hrun, r1, r2⟩ := hown.update K ht hn hkey hval
  unfold Oper.wp
  simp [execOp, hop, hm, hx, hv, hrun, Result.andThen]
  exact hK' _ _ (hK w' r1 r2)

set_option maxRecDepth 100000 in
theorem valueOf_any (w : World) : Calls Tryd.prog 49 #[] w fun e w' => e = .returned (.map (some w.heap.size)) ∧ IsMap w' w.heap.size ∧ Below w.heap.size w w' := by
  have hmm := @run_makeMap Tryd.prog
  have k0 : keyOf Tryd.prog 5 (.int .u8 48) = some (.int .u8 48) := keyOf_int_mk Tryd.underlying5 (by decide)
  have k1 : keyOf Tryd.prog 5 (.int .u8 49) = some (.int .u8 49) := keyOf_int_mk Tryd.underlying5 (by decide)
  have k2 : keyOf Tryd.prog 5 (.int .u8 120) = some (.int .u8 120) := keyOf_int_mk Tryd.underlying5 (by decide)
  have h0 := World.ownsMap_made (H := Unit) w Tryd.prog 5 (plainElem Tryd.prog 5)
  have H0 := Lib.hid h0
  clear h0
  go_enter Tryd.func49, Tryd.ntmps49
  go_wp2_with (refine wpList_insert_own _ rfl _ (.const (.int .u8 48)) _ 97 rfl 5 5 law8 Tryd.underlying97 _ w.heap.size 0 _ rfl H0.out (by unfold maxLen; omega) _ _ _ rfl rfl k0 _ [] (plainElem_int Tryd.underlying5 (by decide)) ?_)
  intro w1 h1 g1
  have H1 := Lib.hid h1
  have B1 := Lib.hid ((ext_alloc w (.map #[] 0)).grown g1 (by simp) (by intro k hk; cases hk; exact Nat.le_refl _))
  clear h1 g1
  go_wp2_with (refine wpList_insert_own _ rfl _ (.const (.int .u8 49)) _ 97 rfl 5 5 law8 Tryd.underlying97 _ w.heap.size 1 _ rfl H1.out (by unfold maxLen; omega) _ _ _ rfl rfl k1 _ [] (plainElem_int Tryd.underlying5 (by decide)) ?_)
  intro w2 h2 g2
  have H2 := Lib.hid h2
  have B2 := Lib.hid (B1.out.grown g2 B1.out.size (by intro k hk; cases hk; exact Nat.le_refl _))
  clear h2 g2
  go_wp2_with (refine wpList_insert_own _ rfl _ (.const (.int .u8 120)) _ 97 rfl 5 5 law8 Tryd.underlying97 _ w.heap.size 2 _ rfl H2.out (by unfold maxLen; omega) _ _ _ rfl rfl k2 _ [] (plainElem_int Tryd.underlying5 (by decide)) ?_)
  intro w3 h3 g3
  have H3 := Lib.hid h3
  have B3 := Lib.hid (B2.out.grown g3 B2.out.size (by intro k hk; cases hk; exact Nat.le_refl _))
  clear h3 g3
  go_wp2
  go_ret
  exact ⟨rfl, H3.out, B3.out⟩

def look8 (u : UInt8) : Bool × Int := match valB u with | none => (false, 0) | some v => (true, (v.toNat : Int))
/-- Is it this number? -/
def isLit8 (d : DataW Unit) (z : Int) : Bool := match d with
  | .lit (.int .u8 y) => decide (y = z)
  | _ => false
theorem isLit8_eq {d : DataW Unit} {z : Int} (h : isLit8 d z = true) : d = .lit (.int .u8 z) := by
  unfold isLit8 at h
  split at h
  · rw [of_decide_eq_true h]
  · cases h
theorem map_has : ∀ n : Fin 256, (decide (has mapD (.int .u8 (n.val : Int)) = (look8 (UInt8.ofNat n.val)).1) && isLit8 (mapD.atKey (.int .u8 (n.val : Int)) (.lit (.int .u8 0))) (look8 (UInt8.ofNat n.val)).2) = true := by decide +kernel
theorem map_at (u : UInt8) : has mapD (.int .u8 (u.toNat : Int)) = (look8 u).1 ∧ mapD.atKey (.int .u8 (u.toNat : Int)) (.lit (.int .u8 0)) = .lit (.int .u8 (look8 u).2) := by
  have h := map_has ⟨u.toNat, u.toNat_lt⟩
  rw [Bool.and_eq_true] at h
  have h1 := of_decide_eq_true h.1
  have h2 := isLit8_eq h.2
  simp only [UInt8.ofNat_toNat] at h1 h2
  exact ⟨h1, h2⟩
theorem wf8 : ∀ n : Fin 256, (Lit.int .u8 (n.val : Int)).wf = true := by decide +kernel
theorem key8 (u : UInt8) : keyOf Tryd.prog 5 (.int .u8 (u.toNat : Int)) = some (.int .u8 (u.toNat : Int)) := keyOf_int_mk Tryd.underlying5 (wf8 ⟨u.toNat, u.toNat_lt⟩)
end Go.Proofs.YtkimhlomadmnkaaDoor
