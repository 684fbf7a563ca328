/- norm.definitions, and the closure of Of, by their contracts. -/
import Derived.Test.YtkbdebdhebphpaaNRefs
namespace Go.Proofs.Ytkbdebdhebphpaa
open Go Go.RowKit Go.Joins

theorem info_bool : (Try.prog.info? 4).map (fun i => (i.zero, i.size, i.bytes)) = some (some (.bool false), 1, 1) := by kernel_rfl
/-- Cells of bools. -/
def bcells (d : List Bool) : Array Value := (d.map Value.bool).toArray
theorem bcells_set (d : List Bool) (i : Nat) (b : Bool) : (bcells d).setIfInBounds i (.bool b) = bcells (d.set i b) := by
  apply Array.ext'
  simp [bcells]
theorem bcells_get (d : List Bool) (i : Nat) (h : i < d.length) : (bcells d)[i]? = some (.bool (d.getD i false)) := by
  simp [bcells, List.getD, List.getElem?_eq_getElem h]
theorem bcells_size (d : List Bool) : (bcells d).size = d.length := by simp [bcells]

def IdxW (p : Nat → Bool) (l : List Nat) (w : World) (e : Ending) (w' : World) : Prop := ∃ z : Int, e = .returned (.int .i64 z) ∧ -1 ≤ z ∧ (0 ≤ z ↔ l.any p = true) ∧ w = w'

set_option maxRecDepth 100000 in
theorem missing_at (x B D : Nat) (d : List Bool) (c : Nat) (w : World) (hB : w.heap[B]? = some (.cells #[.slice (some ⟨D, 0, .none⟩) d.length c] 52 (0, 0))) (hD : w.heap[D]? = some (.cells (bcells d) 4 (0, 0))) (hx : x / 2 < d.length) :
    Calls Try.prog 59 #[.int .u32 x, .pointer (some ⟨B, 0, .none⟩)] w fun e w' => e = .returned (.bool (missing d x)) ∧ w = w' := by
  have c1 := cell_of_block hB 0
  have c2 := (cell_of_block hD (x / 2)).trans (bcells_get d (x / 2) hx)
  have c1' : w.cell? ⟨B, 0, none⟩ = some (.slice (some ⟨D, 0, .none⟩) d.length c) := c1
  have e : missing d x = !d.getD (x / 2) false := rfl
  obtain ⟨q, hq⟩ : ∃ q, q = d.getD (x / 2) false := ⟨_, rfl⟩
  rw [← hq] at c2 e
  rw [e]
  clear c1 e hq hB hD
  go_enter Try.func59, Try.ntmps59
  go_wp2
  go_ret
  exact ⟨rfl, rfl⟩

set_option maxRecDepth 100000 in
theorem idx_missing (p : Nat → Bool) (B : Nat) (l : List Nat) (a : Option Addr) (n c : Nat) (hn : n ≤ 140737488355328) (w : World) (h : Sees w a n c (l.map nv32))
    (hc : ∀ x ∈ l, Calls Try.prog 59 #[.int .u32 x, .pointer (some ⟨B, 0, .none⟩)] w fun e w' => e = .returned (.bool (p x)) ∧ w = w') :
    Calls Try.prog 69 #[.slice a n c, (.func (.func 59) #[] #[.pointer (some ⟨B, 0, .none⟩)])] w (IdxW p l w) := by
  have hl : l.length = n := by have := h.len; simpa using this
  have HS := Lib.hid h
  have HL := Lib.hid hl
  have HC := Lib.hid hc
  clear h hl hc
  go_enter Try.func69, Try.ntmps69
  go_wp2
  go_loop [5, 8] (fun v i => ∃ k : Nat, k ≤ n ∧ i = .int .i64 k ∧ Hid (∀ j, j < k → p (l.getD j 0) = false)) (fun _ i => n - (intOf i).toNat)
  case atStart => exact ⟨0, Nat.zero_le _, rfl, fun j hj => absurd hj (by omega)⟩
  case round =>
    obtain ⟨k, hk, rfl, hno⟩ := hrel
    by_cases hlt : k < n
    · obtain ⟨b, off, rfl, hbw⟩ := HS.out.addr (by omega)
      have hcx := HS.out.num k hlt
      have HCX := Lib.hid (HC.out (l.getD k 0) (getD_mem (by rw [HL.out]; exact hlt)))
      obtain ⟨x, hx⟩ : ∃ x, x = l.getD k 0 := ⟨_, rfl⟩
      rw [← hx] at hcx HCX
      have HX := Lib.hid hx
      clear hx
      have W1 : IntKind.i64.wrap ((k : Int) + 1) = (k : Int) + 1 := IntWalk.i64_in _ (by omega)
      obtain ⟨q, hq⟩ : ∃ q, q = p x := ⟨_, rfl⟩
      have HQ := Lib.hid hq
      clear hq
      go_wp2_with fail
      refine HCX.out.mono ?_
      rw [← HQ.out]
      rintro e w' ⟨rfl, rfl⟩
      cases q with
      | true =>
        go_wp2
        go_ret
        refine ⟨k, rfl, by omega, ⟨fun _ => ?_, fun _ => by omega⟩, rfl⟩
        exact List.any_eq_true.2 ⟨l.getD k 0, getD_mem (by rw [HL.out]; exact hlt), by rw [← HX.out]; exact HQ.out.symm⟩
      | false =>
        go_wp2
        go_round
        case rel =>
          refine ⟨k + 1, by omega, by go_num, fun j hj => ?_⟩
          rcases Nat.lt_or_ge j k with h | h
          · exact hno.out j h
          · have : j = k := by omega
            subst this
            rw [← HX.out]; exact HQ.out.symm
        case measure => simp [intOf]; omega
    · have hkn : k = n := by omega
      subst hkn
      go_wp2
      go_ret
      refine ⟨-1, rfl, by omega, ⟨fun h => absurd h (by decide), fun h => ?_⟩, rfl⟩
      rw [any_none (all_of_getD (d := 0) (fun j hj => hno.out j (by rw [← HL.out]; exact hj)))] at h
      cases h

theorem has_missing (p : Nat → Bool) (B : Nat) (l : List Nat) (a : Option Addr) (n c : Nat) (hn : n ≤ 140737488355328) (w : World) (h : Sees w a n c (l.map nv32))
    (hc : ∀ x ∈ l, Calls Try.prog 59 #[.int .u32 x, .pointer (some ⟨B, 0, .none⟩)] w fun e w' => e = .returned (.bool (p x)) ∧ w = w') :
    Calls Try.prog 37 #[.slice a n c, (.func (.func 59) #[] #[.pointer (some ⟨B, 0, .none⟩)])] w (fun e w' => e = .returned (.bool (l.any p)) ∧ w = w') := by
  have HI := Lib.hid (idx_missing p B l a n c hn w h hc)
  clear h hc
  obtain ⟨f, hf⟩ : ∃ f, f = Value.func (.func 59) #[] #[.pointer (some ⟨B, 0, .none⟩)] := ⟨_, rfl⟩
  rw [← hf] at HI ⊢
  have HF := Lib.hid hf
  clear hf
  go_enter Try.func37, Try.ntmps37
  go_wp2_with fail
  refine HI.out.mono ?_
  rintro e w' ⟨z, rfl, hz, hiff, rfl⟩
  have e : decide (0 ≤ z) = l.any p := by
    cases hq : l.any p with
    | true => simpa using hiff.2 hq
    | false => simp; have := fun h => hiff.1 h; rw [hq] at this; exact Int.not_le.1 (fun h => by cases this h)
  have E := Lib.hid e
  clear e hiff
  go_wp2
  go_ret
  exact ⟨congrArg (fun b => Ending.returned (.bool b)) E.out, rfl⟩

theorem ownsN_other {w w' : World} {base k : Nat} {e : TypeId} {v : Value} {n : Nat} {xs : List Value} (h : w.ownsRow base e k v n xs) (hk : ∀ k, v.ownBlock = some k → w'.heap[k]? = w.heap[k]?) : w'.ownsRow base e k v n xs := by
  refine ⟨h.1, ?_⟩
  rcases h.2 with h2 | ⟨g, cap, cur, rfl, hg, hh, r⟩
  · exact .inl h2
  · exact .inr ⟨g, cap, cur, rfl, hg, (hk g rfl).trans hh, r⟩

theorem u32_and1 (x : Nat) (h : x < 4294967296) : bits BinOp.and IntKind.u32 (x : Int) 1 = ((x % 2 : Nat) : Int) :=
  bits_mask .u32 32 (by decide) (fun n h0 h1 => by rw [IntKind.wrap_u32]; omega) 1 (by decide) (x : Int) (by omega) (by omega)

theorem run_make_u32 {P : Program} {t e : TypeId} {i : TypeInfo} {z : Value} {bytes : Nat} (ht : P.underlying t = some (.slice e)) (hi : P.info? e = some i) (hz : i.zero = some z)
    (hsize : i.size = 1) (hby : i.bytes = bytes) (hzs : z.cells = #[z]) (m : Nat) (y : Int) (hy : y = (m : Int)) (hb : (bytes : Int) * (m : Int) ≤ 281474976710656) (hm : m ≤ 1000000000000) (W : World) :
    (Instr.makeSlice t (.int .u32 y) (.int .u32 y)).run P W = .ok (.slice (some ⟨W.heap.size, 0, none⟩) m m) (W.alloc (.cells (zeros z m) e)) := by
  subst hy
  have h := run_make (P := P) W t e i z ht hi hz .u32 .u32 (m : Int) (m : Int) (by omega) (Int.le_refl _) (by rw [hby]; exact hb) (by omega)
  rw [h, hzs, hsize, Int.toNat_natCast, Nat.mul_one]
  have e : madeCells #[z] m = zeros z m := by
    apply Array.ext'
    rw [toList_madeCells_one]; simp [zeros]
  rw [e]

theorem bcells_zero (m : Nat) : zeros (.bool false) m = bcells (List.replicate m false) := by
  simp [zeros, bcells]

/-- What definitions answers. -/
def DefsPost (r : RawC) (w : World) (e : Ending) (w' : World) : Prop :=
  Below w.heap.size w w' ∧ ((defsS r = none ∧ e = .returned (.tuple #[.slice none 0 0, .bool false])) ∨
    (∃ d D, defsS r = some d ∧ d.length = r.max + 1 ∧ e = .returned (.tuple #[.slice (some ⟨D, 0, .none⟩) (r.max + 1) (r.max + 1), .bool true]) ∧ w'.heap[D]? = some (.cells (bcells d) 4 (0, 0))))

theorem defsF_len : ∀ (l : List Nat) (d e : List Bool), defsF d l = some e → e.length = d.length
  | [], d, e, h => by simp [defsF] at h; rw [h]
  | x :: r, d, e, h => by
    unfold defsF at h
    split at h
    · cases h
    · split at h
      · cases h
      · have := defsF_len r _ e h
        simpa using this

set_option maxRecDepth 100000 in
set_option maxHeartbeats 1600000 in
theorem defs_any (r : RawC) (s : Slots) (w : World) (h : SeesRaw w s r) (hf : s.small) (hm : r.max ≤ 16384) (hlit : ∀ x ∈ ownsL r, x ≤ 2 * r.max + 1) :
    Calls Try.prog 58 #[rawV r.max s] w (DefsPost r w) := by
  obtain ⟨i0, hi, hz0, hz1, hz2⟩ := info_parts info_bool
  have HO := fun W hb => owns_any r s W (h.below hb) hf (fun x hx => by have := hlit x (by unfold ownsL; simp [hx]); omega)
  obtain ⟨a1, n1, c1, a2, n2, c2, a3, n3, c3, a4, n4, c4, a5, n5, c5, a6, n6, c6⟩ := s
  obtain ⟨m, hmm⟩ : ∃ m, m = r.max := ⟨_, rfl⟩
  rw [← hmm] at HO hm hlit ⊢
  have hlen : (ownsL r).length ≤ 4000000 := by
    have l1 : r.ins.length = n1 := h.s1.lenMap
    have l2 : r.lats.length = n2 := h.s2.1
    have l6 : r.gates.length = n6 := h.s6.1
    have := hf.n1; have := hf.n2; have := hf.n6
    simp only at *
    simp [ownsL]; omega
  obtain ⟨O, hOO⟩ : ∃ O, O = ownsL r := ⟨_, rfl⟩
  obtain ⟨N, hN⟩ : ∃ N, N = O.length := ⟨_, rfl⟩
  have hdS : defsS r = defsF (defs0 m) O := by unfold defsS; rw [← hmm, ← hOO]
  rw [← hOO] at HO hlen hlit
  rw [← hN] at HO hlen
  have HDS := Lib.hid hdS
  have HM := Lib.hid hmm
  have HN := Lib.hid hN
  have HLT := Lib.hid hlit
  have HOW := Lib.hid HO
  clear h hf hmm hN hOO hdS hlit HO
  have mk := fun W => run_make_u32 (P := Try.prog) Try.underlying52 hi hz0 hz1 hz2 rfl (m + 1) ((m : Int) + 1) (by omega) (by omega) (by omega) W
  rw [bcells_zero] at mk
  have W0 : IntKind.u32.wrap ((m : Int) + 1) = (m : Int) + 1 := by
    have h0 : (0 : Int) ≤ m := by omega
    unfold IntKind.wrap; simp [IntKind.signed, IntKind.bits]; omega
  unfold rawV
  go_enter Try.func58, Try.ntmps58
  go_wp2_with fail
  have ez : (bcells (List.replicate (m + 1) false)).setIfInBounds 0 (Value.bool true) = bcells (defs0 m) := bcells_set _ _ _
  rw [ez]
  generalize hW : World.alloc (World.alloc w _) _ = W1
  have B1 : Below w.heap.size w W1 := by subst hW; exact ext_trans (ext_alloc _ _) (ext_alloc _ _)
  have hD : W1.heap[w.heap.size + 1]? = some (.cells (bcells (defs0 m)) 4 (0, 0)) := by subst hW; exact heap_new _ _ _ (by simp)
  clear hW ez mk W0
  refine (HOW.out W1 B1).mono ?_
  rintro e W2 ⟨v, rfl, hrow, hb⟩
  have HB2 := Lib.hid (ext_trans B1 hb)
  have HD2 := Lib.hid (heap_below hD hb)
  have HR2 := Lib.hid (ownsN_base hrow (base' := w.heap.size) B1.size)
  obtain ⟨va, vc, rfl⟩ := ownsN_form hrow
  have hdl : (defs0 m).length = m + 1 := by simp [defs0]
  have HDL := Lib.hid hdl
  clear B1 hD hb hrow hdl
  obtain ⟨D, hDD⟩ : ∃ D, D = w.heap.size + 1 := ⟨_, rfl⟩
  rw [← hDD] at HD2 ⊢
  have hDw : w.heap.size ≤ D := by omega
  have HDD := Lib.hid hDD
  clear hDD
  go_wp2
  go_loopw [2, 15] (fun dv i wr => ∃ (k : Nat) (d : List Bool), k ≤ N ∧ i = .int .i64 k ∧ dv = .slice (some ⟨D, 0, .none⟩) (m + 1) (m + 1) ∧ Hid (defsF (defs0 m) O = defsF d (O.drop k)) ∧ Hid (d.length = m + 1) ∧ Hid (wr.heap[D]? = some (.cells (bcells d) 4 (0, 0))) ∧ Hid (wr.ownsRow w.heap.size 33 1 (.slice va N vc) N (O.map nv32)) ∧ Hid (Below w.heap.size w wr))
    (fun _ i _ => N - (intOf i).toNat)
  case atStart => exact ⟨0, defs0 m, Nat.zero_le _, rfl, rfl, rfl, HDL.out, HD2.out, HR2.out, HB2.out⟩
  case round =>
    clear HD2 HR2 HB2
    obtain ⟨k, d, hk, rfl, rfl, hst, hdl, hD, hR, hB⟩ := hrel
    by_cases hlt : k < N
    · obtain ⟨a', c', ev, _, hs⟩ := Sees.owned hR.out
      cases ev
      obtain ⟨b, off, rfl, hbw⟩ := hs.addr (by omega)
      have hcx := hs.num k hlt
      have hx2 := HLT.out (O.getD k 0) (getD_mem (by rw [← HN.out]; exact hlt))
      obtain ⟨x, hx⟩ : ∃ x, x = O.getD k 0 := ⟨_, rfl⟩
      rw [← hx] at hcx hx2
      have hdrop : O.drop k = x :: O.drop (k + 1) := by
        rw [List.drop_eq_getElem_cons (by rw [← HN.out]; exact hlt), hx]
        congr 1
        simp [List.getD, List.getElem?_eq_getElem (show k < O.length by rw [← HN.out]; exact hlt)]
      have hxd : x / 2 < d.length := by rw [hdl.out]; omega
      have hxm : x / 2 < m + 1 := by omega
      have hcd := (cell_of_block hD.out (x / 2)).trans (bcells_get d (x / 2) hxd)
      have hfd := unfrozen_of_block hD.out (x / 2)
      have HDR := Lib.hid hdrop
      obtain ⟨q, hq⟩ : ∃ q, q = d.getD (x / 2) false := ⟨_, rfl⟩
      rw [← hq] at hcd
      have HQ := Lib.hid hq
      clear hx hdrop hs hq
      have W1' : IntKind.i64.wrap ((k : Int) + 1) = (k : Int) + 1 := IntWalk.i64_in _ (by omega)
      by_cases hodd : x % 2 = 1
      · have e1 : (bits BinOp.and IntKind.u32 (x : Int) 1 == 1) = true := by rw [u32_and1 x (by omega), hodd]; rfl
        have HE : Hid (defsF (defs0 m) O = none) := by
          show _ = _
          rw [hst.out, HDR.out, defsF, if_pos hodd]
        have HO := Lib.hid hodd
        clear hodd
        go_wp2
        go_ret2
        exact ⟨hB.out, Or.inl ⟨HDS.out.trans HE.out, rfl⟩⟩
      · have e1 : (bits BinOp.and IntKind.u32 (x : Int) 1 == 1) = false := by rw [u32_and1 x (by omega), show x % 2 = 0 by omega]; rfl
        have HO := Lib.hid hodd
        clear hodd
        cases q with
        | true =>
          have HE : Hid (defsF (defs0 m) O = none) := by
            show _ = _
            rw [hst.out, HDR.out, defsF, if_neg HO.out, if_pos HQ.out.symm]
          go_wp2
          go_ret2
          exact ⟨hB.out, Or.inl ⟨HDS.out.trans HE.out, rfl⟩⟩
        | false =>
          have HE : Hid (defsF (defs0 m) O = defsF (d.set (x / 2) true) (O.drop (k + 1))) := by
            show _ = _
            rw [hst.out, HDR.out, defsF, if_neg HO.out, if_neg (by rw [← HQ.out]; decide)]
          have HD2 : Hid ((wr.setCell ⟨D, x / 2, .none⟩ (.bool true)).heap[D]? = some (.cells (bcells (d.set (x / 2) true)) 4 (0, 0))) := by
            have := block_setCell hD.out (i := x / 2) (.bool true)
            rw [bcells_set] at this
            exact this
          have HB2 : Hid (Below w.heap.size w (wr.setCell ⟨D, x / 2, .none⟩ (.bool true))) := hB.out.setCell (p := ⟨D, x / 2, .none⟩) hDw _
          have HR2 : Hid ((wr.setCell ⟨D, x / 2, .none⟩ (.bool true)).ownsRow w.heap.size 33 1 (.slice (some ⟨b, off, .none⟩) N vc) N (O.map nv32)) := by
            refine ownsN_other hR.out (fun k hk => Below.heap_setCell wr ⟨D, x / 2, .none⟩ _ k ?_)
            intro e
            exact (ownsN_notown hR.out hD.out (by decide)) (by rw [hk, e])
          clear hR hD
          go_wp2
          go_roundw
          case rel => exact ⟨k + 1, d.set (x / 2) true, by omega, by go_num, rfl, HE.out, by rw [List.length_set]; exact hdl.out, HD2.out, HR2.out, HB2.out⟩
          case measure => simp [intOf]; omega
    · obtain rfl : N = k := by omega
      have HE : Hid (defsF (defs0 m) O = some d) := by
        show _ = _
        rw [hst.out, List.drop_of_length_le (by rw [← HN.out]; exact Nat.le_refl _)]
        rfl
      go_wp2
      go_ret2
      refine ⟨hB.out, Or.inr ⟨d, D, HDS.out.trans HE.out, by rw [hdl.out, HM.out], ?_, hD.out⟩⟩
      rw [← HM.out]
      rfl
end Go.Proofs.Ytkbdebdhebphpaa
