/- wit.Values, by its contract. -/
import Derived.Test.YtkimhlomadmnkaaDoorWMap
import Derived.Test.YtkimhlomadmnkaaDoorFCells
namespace Go.Proofs.YtkimhlomadmnkaaDoor
open Go Go.RowKit Go.Joins Go.Maps

def valD (u : UInt8) : UInt8 := (valB u).getD 0
theorem valsW_all : ∀ {l : List UInt8}, (∀ k, k < l.length → ∃ v, valB (l.getD k 0) = some v) → valsW l = some (l.map valD)
  | [], _ => rfl
  | u :: r, h => by
    obtain ⟨v, hv⟩ := h 0 (by simp)
    have hv' : valB u = some v := hv
    have ih := valsW_all (l := r) (fun k hk => by have := h (k + 1) (by simpa using hk); simpa using this)
    rw [valsW, hv', ih]
    simp [valD, hv']
theorem valsW_bad : ∀ {l : List UInt8} (k : Nat), k < l.length → valB (l.getD k 0) = none → valsW l = none
  | [], k, h, _ => by simp at h
  | u :: r, 0, _, h => by
    have : valB u = none := h
    rw [valsW, this]
  | u :: r, k + 1, hk, h => by
    have ih := valsW_bad (l := r) k (by simpa using hk) (by simpa using h)
    rw [valsW, ih]
    cases valB u <;> rfl

/-- What Values answers. -/
def ValsPost (bs : List UInt8) (many : Int) (w : World) (e : Ending) (w' : World) : Prop :=
  Below w.heap.size w w' ∧ ((∃ er, valuesW bs many = .error er ∧ e = .returned (.tuple #[.slice none 0 0, .int .i64 er])) ∨
    (∃ v s, valuesW bs many = .ok v ∧ e = .returned (.tuple #[s, .int .i64 0]) ∧ Row isByte w' w.heap.size 5 s v.length (v.map bv)))

theorem row_fcells {w : World} {D n : Nat} {f : Nat → UInt8} {xs : List UInt8} (base : Nat) (hb : base ≤ D) (h : w.heap[D]? = some (.cells (fcells n (fun i => bv (f i))) 5 (0, 0))) (hn : n ≤ 1048577) (hx : xs = (List.range n).map f) :
    Row isByte w base 5 (.slice (some ⟨D, 0, .none⟩) n n) n (xs.map bv) := by
  subst hx
  refine ⟨by simp, .inr ⟨D, n, _, rfl, hb, h, Nat.le_refl _, by unfold maxLen; omega, fcells_size _ _, ?_, ?_⟩⟩
  · simp [fcells, List.take_of_length_le]
  · intro u hu
    simp [fcells] at hu
    obtain ⟨i, _, rfl⟩ := hu
    exact ⟨_, rfl⟩

theorem grown_set (w : World) (a : Addr) (u : Value) : w.grownBy (w.setCell a u) (some a.block) :=
  ⟨rfl, rfl, rfl, by simp, fun k _ hk => Below.heap_setCell _ a _ k (fun e => hk (by rw [e]))⟩

set_option maxRecDepth 100000 in
set_option maxHeartbeats 1600000 in
theorem values_any (bs : List UInt8) (a : Option Addr) (n c : Nat) (many : Int) (w : World) (h : Sees w a n c (bs.map bv)) (hn : n ≤ 1048577) (hmany : -9223372036854775808 ≤ many ∧ many < 9223372036854775808) :
    Calls Tryd.prog 20 #[.slice a n c, .int .i64 many] w (ValsPost bs many w) := by
  have hl := h.lenMap
  by_cases hne : (n : Int) = many
  case neg =>
    have e1 : ((n : Int) != many) = true := by simpa using hne
    have ev : valuesW bs many = .error 5 := by unfold valuesW; rw [hl, if_neg hne]
    have EV := Lib.hid ev
    clear h hl ev hne
    go_enter Tryd.func20, Tryd.ntmps20
    go_wp2
    go_ret2
    exact ⟨Below.refl _ _, Or.inl ⟨5, EV.out, rfl⟩⟩
  subst hne
  have ev : valuesW bs (n : Int) = opt5 (valsW bs) := by unfold valuesW; rw [hl, if_pos rfl]
  have EV := Lib.hid ev
  obtain ⟨i0, hi, hz0, hz1, hz2⟩ := info_parts info_u8
  have mk := fun W => run_make_n (P := Tryd.prog) Tryd.underlying22 hi hz0 hz1 hz2 rfl n (by omega) (by omega) W
  rw [fcells_zero] at mk
  have HS := Lib.hid h
  have HL := Lib.hid hl
  clear h hl ev hmany
  go_enter Tryd.func20, Tryd.ntmps20
  go_wp2_with fail
  refine (valueOf_any w).mono ?_
  rintro e w1 ⟨rfl, hm, hb⟩
  obtain ⟨B, hB⟩ : ∃ B, B = w.heap.size := ⟨_, rfl⟩
  have hm' : IsMap w1 B := by rw [hB]; exact hm
  have hBl := hm'.lt
  obtain ⟨D, hD⟩ : ∃ D, D = w1.heap.size := ⟨_, rfl⟩
  rw [← hB]
  have HM : Hid (IsMap (w1.alloc (.cells (fcells n (fun _ => .int .u8 0)) 5)) B) := hm'.alloc _
  have HBl : Hid (B < D) := by rw [hD]; exact hBl
  have HD0 : Hid ((w1.alloc (.cells (fcells n (fun _ => .int .u8 0)) 5)).heap[D]? = some (.cells (fcells n (fun _ => .int .u8 0)) 5 (0, 0))) := heap_new _ _ _ hD
  have HB0 : Hid (Below w.heap.size w (w1.alloc (.cells (fcells n (fun _ => .int .u8 0)) 5))) := ext_trans hb (ext_alloc _ _)
  have HWD : Hid (w.heap.size ≤ D) := by rw [hD]; exact hb.size
  have mk1 := mk w1
  rw [← hD] at mk1
  have MK := mk1
  clear hm hb hm' hBl mk mk1 hB
  clear hD
  go_wp2
  go_loopw [8, 9, 10, 11, 21] (fun i x v kn j wr => ∃ k : Nat, k ≤ n ∧ j = .int .i64 k ∧ Hid (IsMap wr B) ∧ Hid (wr.heap[D]? = some (.cells (fcells n (fun i => bv (if i < k then valD (bs.getD i 0) else 0))) 5 (0, 0))) ∧ Hid (Below w.heap.size w wr) ∧ Hid (∀ m, m < k → ∃ v, valB (bs.getD m 0) = some v))
    (fun _ _ _ _ j _ => n - (intOf j).toNat)
  case atStart => exact ⟨0, Nat.zero_le _, rfl, HM, (by simpa [bv] using HD0), HB0, fun m hm => absurd hm (by omega)⟩
  case round =>
    obtain ⟨k, hk, rfl, hM, hD, hB, hall⟩ := hrel
    by_cases hlt : k < n
    · obtain ⟨b, off, rfl, hbw⟩ := HS.out.addr (by omega)
      have hcx := (HS.out.below hB.out).byte k hlt
      obtain ⟨u, hu⟩ : ∃ u, u = bs.getD k 0 := ⟨_, rfl⟩
      rw [← hu] at hcx
      have hmap := map_at u
      have hkey := key8 u
      have hco := (cell_of_block hD.out k).trans (fcells_get _ _ _ hlt)
      have hfo := unfrozen_of_block hD.out k
      rw [if_neg (by omega)] at hco
      unfold bv at hco
      have W1 : IntKind.i64.wrap ((k : Int) + 1) = (k : Int) + 1 := IntWalk.i64_in _ (by omega)
      have HU := Lib.hid hu
      have HKEY := Lib.hid hkey
      have HMAP := Lib.hid hmap
      clear hu hkey hmap
      go_wp2_with (at_lookup; refine wpList_lookup_own_ok_int _ rfl _ _ 97 rfl 5 5 .u8 law8 Tryd.underlying97 Tryd.underlying5 (zero8 _) B 3 mapD rfl hM.out _ _ rfl HKEY.out ?_)
      intro z hat _
      rw [HMAP.out.1]
      cases hv : valB u with
      | none =>
        have e1 : (look8 u).1 = false := by unfold look8; rw [hv]
        rw [e1]
        have HBAD : Hid (valsW bs = none) := valsW_bad k (by rw [HL.out]; exact hlt) (by rw [← HU.out]; exact hv)
        have HB := Lib.hid hB.out
        clear hat hv e1
        go_wp2
        go_ret2
        exact ⟨HB.out, Or.inl ⟨5, by rw [EV.out, HBAD.out]; rfl, rfl⟩⟩
      | some v =>
        have e1 : (look8 u).1 = true := by unfold look8; rw [hv]
        have e2 : z = (v.toNat : Int) := by
          have h2 := HMAP.out.2
          rw [hat] at h2
          have e2 : (look8 u).2 = (v.toNat : Int) := by unfold look8; rw [hv]
          rw [e2] at h2
          cases h2; rfl
        subst e2
        rw [e1]
        have HO2 : Hid ((wr.setCell ⟨D, k, .none⟩ (.int .u8 (v.toNat : Int))).heap[D]? = some (.cells (fcells n (fun i => bv (if i < k + 1 then valD (bs.getD i 0) else 0))) 5 (0, 0))) := by
          have h1 := block_setCell hD.out (i := k) (.int .u8 (v.toNat : Int))
          rw [fcells_set] at h1
          show _ = _
          rw [h1]
          congr 2
          refine fcells_congr (fun j _ => ?_)
          by_cases e : j = k
          · rw [if_pos e, if_pos (by omega), e, ← HU.out]; simp [valD, hv, bv]
          · rw [if_neg e]
            by_cases e2 : j < k
            · rw [if_pos e2, if_pos (by omega)]
            · rw [if_neg e2, if_neg (by omega)]
        have HM2 : Hid (IsMap (wr.setCell ⟨D, k, .none⟩ (.int .u8 (v.toNat : Int))) B) := by
          refine World.ownsMap.kept (row := some D) hM.out ?_ (by intro e; cases e; have := HBl.out; omega)
          exact grown_set _ _ _
        have HB2 : Hid (Below w.heap.size w (wr.setCell ⟨D, k, .none⟩ (.int .u8 (v.toNat : Int)))) := hB.out.setCell (p := ⟨D, k, .none⟩) HWD.out _
        have HA2 : Hid (∀ m, m < k + 1 → ∃ v, valB (bs.getD m 0) = some v) := fun m hm => by
          rcases Nat.lt_or_ge m k with h | h
          · exact hall.out m h
          · obtain rfl : m = k := by omega
            exact ⟨v, by rw [← HU.out]; exact hv⟩
        clear hat hv e1 hM hD hB hall
        go_wp2
        go_roundw
        case rel => exact ⟨k + 1, by omega, by go_num, HM2, HO2, HB2, HA2⟩
        case measure => simp [intOf]; omega
    · obtain rfl : n = k := by omega
      have HA := Lib.hid (valsW_all (l := bs) (fun m hm => hall.out m (by rw [← HL.out]; exact hm)))
      have HR : Hid (Row isByte wr w.heap.size 5 (.slice (some ⟨D, 0, .none⟩) n n) n ((bs.map valD).map bv)) := by
        refine row_fcells (f := fun i => if i < n then valD (bs.getD i 0) else 0) _ HWD.out hD.out hn ?_
        apply List.ext_getElem
        · simp [HL.out]
        · intro i h1 h2
          have hi : i < n := by simpa using h2
          have hi' : i < bs.length := by rw [HL.out]; exact hi
          simp [hi, List.getD, List.getElem?_eq_getElem hi']
      have HB := Lib.hid hB.out
      clear hM hD hB hall
      go_wp2
      go_ret2
      exact ⟨HB.out, Or.inr ⟨bs.map valD, _, by rw [EV.out, HA.out]; rfl, rfl, by rw [List.length_map, HL.out]; exact HR.out⟩⟩
end Go.Proofs.YtkimhlomadmnkaaDoor
