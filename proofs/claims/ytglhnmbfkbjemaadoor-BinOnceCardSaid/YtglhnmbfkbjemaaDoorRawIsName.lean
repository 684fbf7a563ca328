/- raw.isName, by its contract. -/
import Derived.Test.YtglhnmbfkbjemaaDoorRawName
import Derived.Test.YtglhnmbfkbjemaaDoorBInA
import Derived.Test.YtglhnmbfkbjemaaDoorShelf
import Derived.Lib.SlBytesConst
namespace Go.Proofs.YtglhnmbfkbjemaaDoor
open Go Go.RowKit Go.Joins

theorem indexByte_find : ∀ (l : List UInt8) (x : UInt8), Lib.indexByte l x = match l.findIdx? (fun u => u == x) with | none => -1 | some k => (k : Int)
  | [], x => by simp [Lib.indexByte]
  | y :: r, x => by
    have ih := indexByte_find r x
    rw [Lib.indexByte, List.findIdx?_cons]
    cases h : (y == x) with
    | true => simp
    | false =>
      simp only [Bool.false_eq_true, if_false]
      rw [ih]
      cases r.findIdx? (fun u => u == x) with
      | none => simp
      | some k =>
        have h1 : ((k : Int) == -1) = false := by simp
        simp [h1]

def letters : List UInt8 := [105, 108, 111, 98, 99]
theorem nameOk_nil {bs : List UInt8} {many : List Nat} (h : markOf bs = []) : nameOk bs many = false := by
  have h' : List.takeWhile (fun u => u != 32) bs = [] := h
  unfold nameOk
  simp only [h']
theorem nameOk_cons {bs d : List UInt8} {x : UInt8} {many : List Nat} (h : markOf bs = x :: d) : nameOk bs many = if bs.drop (d.length + 2) = [] then false else if (bs.drop (d.length + 2)).any isCtl then false else
    match letters.findIdx? (fun u => u == x) with
    | none => false
    | some k => decide (numErr d 2147483647 = 0) && decide (numOf d 2147483647 < many.getD k 0) := by
  have h' : List.takeWhile (fun u => u != 32) bs = x :: d := h
  unfold nameOk
  simp only [h', List.length_cons]
  rfl

/-- The numbers of inputs, latches, outputs, bad literals and constraints, as a value. -/
def manyV (m0 m1 m2 m3 m4 : Nat) : Value := .agg #[.int .u32 m0, .int .u32 m1, .int .u32 m2, .int .u32 m3, .int .u32 m4]

set_option maxRecDepth 100000 in
set_option maxHeartbeats 1600000 in
theorem isName_any (bs : List UInt8) (m0 m1 m2 m3 m4 : Nat) (a : Option Addr) (n c : Nat) (w : World) (h : Sees w a n c (bs.map bv)) (hn : n ≤ 1000000000) :
    Calls Tryd.prog 33 #[.slice a n c, manyV m0 m1 m2 m3 m4] w fun e w' => e = .returned (.bool (nameOk bs [m0, m1, m2, m3, m4])) ∧ Below w.heap.size w w' := by
  have hbl := h.lenMap
  have hml := mark_le bs
  have HCUT := Lib.hid (fun (w' : World) (a' : Option Addr) (hb : Below w.heap.size w w') (h' : Sees w' a' 1 1 [bv 32]) => cutBlank_any bs a a' n c 1 w' (h.below hb) h' hn)
  obtain ⟨M, hM⟩ : ∃ M, M = markOf bs := ⟨_, rfl⟩
  obtain ⟨D, hD⟩ : ∃ D, D = bs.drop (M.length + 1) := ⟨_, rfl⟩
  rw [← hM] at HCUT hml
  rw [← hD] at HCUT
  have kc := run_convert_bytes_const_at (P := Tryd.prog) (w.alloc (.cells #[.int .u32 m0, .int .u32 m1, .int .u32 m2, .int .u32 m3, .int .u32 m4] 53)) 22 5 #[.int .u8 32] 1 1 (w.heap.size + 1) (by simp) Tryd.underlying22 Tryd.underlying5
  obtain ⟨q, hq⟩ : ∃ q, q = nameOk bs [m0, m1, m2, m3, m4] := ⟨_, rfl⟩
  rw [← hq]
  have HQ := Lib.hid hq
  have HM := Lib.hid hM
  have HD := Lib.hid hD
  have hMl : M.length ≤ 1000000000 := by omega
  have hDl : D.length ≤ 1000000000 := by rw [hD, List.length_drop]; omega
  clear h hbl hml hM hD hq
  unfold manyV
  go_enter Tryd.func33, Tryd.ntmps33
  go_wp2_with fail
  refine (HCUT.out _ (some ⟨w.heap.size + 1, 0, none⟩) (ext_trans (ext_alloc _ _) (ext_alloc _ _)) ?_).mono ?_
  · have := sees_lit (w.alloc (.cells #[.int .u32 m0, .int .u32 m1, .int .u32 m2, .int .u32 m3, .int .u32 m4] 53)) 5 (1, 2) #[.int .u8 32] [bv 32] 1 rfl rfl
    simpa using this
  rintro e w1 ⟨a1, c1, a2, c2, q', rfl, s1, s2, hb⟩
  have hb01 : Below w.heap.size w w1 := ext_trans (ext_trans (ext_alloc _ _) (ext_alloc _ _)) hb
  have hbox : w1.heap[w.heap.size]? = some (.cells #[.int .u32 m0, .int .u32 m1, .int .u32 m2, .int .u32 m3, .int .u32 m4] 53 (0, 0)) := heap_below (heap_below (heap_new _ _ _ rfl) (ext_alloc _ _)) hb
  have HS1 := Lib.hid s1
  have HS2 := Lib.hid s2
  have HB1 := Lib.hid hb01
  have HBX := Lib.hid hbox
  clear s1 s2 hb hb01 hbox kc HCUT
  cases M with
  | nil =>
    have e : q = false := by rw [HQ.out]; exact nameOk_nil HM.out.symm
    have E := Lib.hid e
    clear e
    go_wp2
    go_ret
    exact ⟨by rw [E.out]; rfl, HB1.out⟩
  | cons x d =>
    have hnc := nameOk_cons (many := [m0, m1, m2, m3, m4]) HM.out.symm
    have hD2 : bs.drop (d.length + 2) = D := HD.out.symm
    rw [← HQ.out, hD2] at hnc
    have HN := Lib.hid hnc
    clear hnc hD2
    have hl1 : 0 < (x :: d).length := by simp
    by_cases hd : D = []
    · subst hd
      have e : q = false := by rw [HN.out]; simp
      have E := Lib.hid e
      clear e
      go_wp2
      go_ret
      exact ⟨by rw [E.out]; rfl, HB1.out⟩
    · have hdl : 0 < D.length := List.length_pos_iff.2 hd
      have e1 : ((D.length : Int) == 0) = false := by simp; omega
      have HDD := Lib.hid hd
      have HCT := Lib.hid (has_u8 D a2 D.length c2 (by omega) w1 HS2.out)
      clear hd
      obtain ⟨p, hp⟩ : ∃ p, p = D.any isCtl := ⟨_, rfl⟩
      rw [← hp] at HCT HN
      clear hp
      go_wp2_with fail
      refine HCT.out.mono ?_
      rintro e w2 ⟨rfl, hb2⟩
      have HB2 := Lib.hid (ext_trans HB1.out hb2)
      have HS12 := Lib.hid (HS1.out.below hb2)
      have HBX2 := Lib.hid (heap_below HBX.out hb2)
      clear hb2
      cases p with
      | true =>
        have e : q = false := by rw [HN.out]; simp
        have E := Lib.hid e
        clear e
        go_wp2
        go_ret
        exact ⟨by rw [E.out]; rfl, HB2.out⟩
      | false =>
        have hq2 : q = match letters.findIdx? (fun u => u == x) with
            | none => false
            | some k => decide (numErr d 2147483647 = 0) && decide (numOf d 2147483647 < [m0, m1, m2, m3, m4].getD k 0) := by
          rw [HN.out, if_neg HDD.out]; simp
        have HQ2 := Lib.hid hq2
        clear hq2
        obtain ⟨b, off, rfl, hbw⟩ := HS12.out.addr (by omega)
        have hx0 : w2.cell? ⟨b, off, none⟩ = some (.int .u8 (x.toNat : Int)) := HS12.out.byte 0 (by omega)
        have hki := Tryd.strings_IndexByte ⟨#[105, 108, 111, 98, 99]⟩ (x.toNat : Int) w2
        have ex : ((x.toNat : Int)).toNat.toUInt8 = x := by simp
        rw [ex] at hki
        have el : (⟨#[105, 108, 111, 98, 99]⟩ : ByteArray).data.toList = letters := rfl
        rw [el, indexByte_find] at hki
        cases hk : letters.findIdx? (fun u => u == x) with
        | none =>
          rw [hk] at hki
          have e : q = false := by rw [HQ2.out, hk]
          have E := Lib.hid e
          have HKI := Lib.hid hki
          clear e ex el hki hk
          go_wp2_with fail
          refine HKI.out.mono ?_
          rintro e w' ⟨rfl, rfl⟩
          go_wp2
          go_ret
          exact ⟨by rw [E.out]; rfl, HB2.out⟩
        | some k =>
          rw [hk] at hki
          have e : q = (decide (numErr d 2147483647 = 0) && decide (numOf d 2147483647 < [m0, m1, m2, m3, m4].getD k 0)) := by rw [HQ2.out, hk]
          have hk5 : k < 5 := by have := (List.findIdx?_eq_some_iff_getElem.1 hk).1; exact this
          have E := Lib.hid e
          have HKI := Lib.hid hki
          clear e ex el hki hk
          have hmc : w2.cell? ⟨w.heap.size, k, none⟩ = some (.int .u32 (([m0, m1, m2, m3, m4].getD k 0 : Nat) : Int)) := by
            rw [cell_of_block HBX2.out k]
            match k, hk5 with
            | 0, _ => rfl
            | 1, _ => rfl
            | 2, _ => rfl
            | 3, _ => rfl
            | 4, _ => rfl
          obtain ⟨mk, hmk⟩ : ∃ mk, mk = [m0, m1, m2, m3, m4].getD k 0 := ⟨_, rfl⟩
          rw [← hmk] at hmc E
          clear hmk
          have hs12 : Sees w2 (some ⟨b, off, none⟩) (d.length + 1) c1 ((x :: d).map bv) := HS12.out
          obtain ⟨a3, ec3, see3⟩ := hs12.cut 1 (d.length + 1) (by omega) (Nat.le_refl _)
          have ec3' : sliced (some ⟨b, off, none⟩) 1 (d.length + 1) c1 1 = .slice a3 d.length (c1 - 1) := ec3
          have see3' : Sees w2 a3 d.length (c1 - 1) (d.map bv) := by
            have e : List.drop 1 (List.take (d.length + 1) (List.map bv (x :: d))) = d.map bv := by simp; exact List.take_of_length_le (by simp)
            rw [e] at see3; exact see3
          have q1 := fun W => (run_from (P := Tryd.prog) Tryd.underlying22 size_u8 W (some ⟨b, off, none⟩) (d.length + 1) c1 1 1 rfl (by omega)).trans (congrArg (fun v => Result.ok v W) ec3')
          have q2 := see3'.str (P := Tryd.prog) 22 5 9 Tryd.underlying22 Tryd.underlying5 Tryd.underlying9
          clear ec3 ec3' see3 see3' hs12
          obtain ⟨nv, hnv⟩ : ∃ nv, nv = numOf d 2147483647 := ⟨_, rfl⟩
          obtain ⟨er, her⟩ : ∃ er, er = numErr d 2147483647 := ⟨_, rfl⟩
          have HNU := Lib.hid (number_named d 2147483647 w2 nv er hnv her (by simp at hMl; omega) (by decide))
          rw [← hnv, ← her] at E
          clear hnv her
          go_wp2_with fail
          refine HKI.out.mono ?_
          rintro e w' ⟨rfl, rfl⟩
          go_wp2_with fail
          refine HNU.out.mono ?_
          rintro e w3 ⟨rfl, hb3⟩
          have HB3 := Lib.hid (ext_trans HB2.out hb3)
          have hmc3 := cell_below hmc hb3
          clear hb3 q1 q2 hx0 hmc
          by_cases h0 : er = 0
          · subst h0
            have e2 : decide (nv < mk) = q := by rw [E.out]; simp
            have E2 := Lib.hid e2
            clear e2
            go_wp2
            go_ret
            exact ⟨congrArg (fun b => Ending.returned (.bool b)) E2.out, HB3.out⟩
          · have e2 : q = false := by rw [E.out]; simp [h0]
            have e3 : (er == 0) = false := by simp [h0]
            have E2 := Lib.hid e2
            have H0 := Lib.hid h0
            clear e2 h0
            go_wp2
            go_ret
            exact ⟨by rw [E2.out]; rfl, HB3.out⟩
end Go.Proofs.YtglhnmbfkbjemaaDoor
