/- raw.Names, by its contract. -/
import Derived.Test.YtglhnmbfkbjemaaGreatDoorBkC
import Derived.Test.YtglhnmbfkbjemaaGreatDoorBkD
import Derived.Test.YtglhnmbfkbjemaaGreatDoorShelf
import Derived.Lib.SlBytesConst
/- raw.isName, by its contract: bytes.Cut, slices.ContainsFunc and strings.IndexByte below it. -/
namespace Go.Proofs.YtglhnmbfkbjemaaGreatDoor
open Go Go.RowKit Go.Joins
def markOf (l : List UInt8) : List UInt8 := l.takeWhile (fun u => u != 32)
theorem indexByte_blank (bs : List UInt8) : Lib.indexByte bs 32 = if (markOf bs).length < bs.length then ((markOf bs).length : Int) else -1 := by
  induction bs with
  | nil => simp [Lib.indexByte, markOf]
  | cons x r ih =>
    rw [Lib.indexByte]
    by_cases h : x = 32
    · subst h
      simp [markOf]
    · have hb : (x == 32) = false := by simpa using h
      have ha : (markOf (x :: r)).length = (markOf r).length + 1 := by unfold markOf; rw [List.takeWhile_cons]; simp [h]
      have hf : ∀ (a b : Int), (if false = true then a else b) = b := fun a b => by simp
      by_cases hlt : (markOf r).length < r.length
      · rw [if_pos hlt] at ih
        have h1 : (((markOf r).length : Int) == -1) = false := by simp
        rw [hb, hf, ih, ha, if_pos (show (markOf r).length + 1 < (x :: r).length by rw [List.length_cons]; omega), h1, hf]
        simp
      · rw [if_neg hlt] at ih
        rw [hb, hf, ih, ha, if_neg (show ¬ (markOf r).length + 1 < (x :: r).length by rw [List.length_cons]; omega)]
        simp
theorem mark_take (bs : List UInt8) : bs.take (markOf bs).length = markOf bs := by
  unfold markOf
  induction bs with
  | nil => rfl
  | cons x r ih =>
    rw [List.takeWhile_cons]
    split
    · rw [List.length_cons, List.take_succ_cons, ih]
    · rfl
theorem mark_le (bs : List UInt8) : (markOf bs).length ≤ bs.length := by
  unfold markOf
  exact (List.takeWhile_sublist _).length_le
theorem cutBlank_any (bs : List UInt8) (a a' : Option Addr) (n c c' : Nat) (w : World) (h : Sees w a n c (bs.map bv)) (h' : Sees w a' 1 c' [bv 32]) (hn : n ≤ 1000000000) :
    Calls Tryz.prog 90 #[.slice a n c, .slice a' 1 c'] w fun e w' => ∃ a1 c1 a2 c2 q, e = .returned (.tuple #[.slice a1 (markOf bs).length c1, .slice a2 (bs.drop ((markOf bs).length + 1)).length c2, .bool q]) ∧
      Sees w' a1 (markOf bs).length c1 ((markOf bs).map bv) ∧ Sees w' a2 (bs.drop ((markOf bs).length + 1)).length c2 ((bs.drop ((markOf bs).length + 1)).map bv) ∧ Below w.heap.size w w' := by
  have hbl := h.lenMap
  have hcap := h.cap
  have hi := index_one w a a' n c c' bs 32 h h'
  rw [indexByte_blank] at hi
  obtain ⟨k, hk⟩ : ∃ k, k = (markOf bs).length := ⟨_, rfl⟩
  rw [← hk] at hi
  have hmt := mark_take bs
  have hml := mark_le bs
  rw [← hk] at hmt hml
  by_cases hlt : k < bs.length
  · rw [if_pos hlt] at hi
    have hkn : k < n := by omega
    obtain ⟨a1, ec1, see1⟩ := h.cut 0 k (Nat.zero_le _) (by omega)
    obtain ⟨a2, ec2, see2⟩ := h.cut (k + 1) n (by omega) (Nat.le_refl _)
    have ec1' : sliced a 0 k c 1 = .slice a1 k c := ec1
    have see1' : Sees w a1 k c ((markOf bs).map bv) := by rw [← hmt, List.map_take]; exact see1
    have q1 := fun W => (run_upto (P := Tryz.prog) Tryz.underlying27 size_u8 W a n c k (k : Int) (by omega) (by omega)).trans (congrArg (fun v => Result.ok v W) ec1')
    have q2 := fun W => (run_from (P := Tryz.prog) Tryz.underlying27 size_u8 W a n c (k + 1) ((k : Int) + 1) (by omega) (by omega)).trans (congrArg (fun v => Result.ok v W) ec2)
    have S2 : Sees w a2 (n - (k + 1)) (c - (k + 1)) ((bs.drop (k + 1)).map bv) := by
      have e : (List.map bv bs).take n = List.map bv bs := List.take_of_length_le (by rw [h.len]; exact Nat.le_refl _)
      rw [e, ← List.map_drop] at see2
      exact see2
    have hld : (bs.drop (k + 1)).length = n - (k + 1) := by rw [List.length_drop, hbl]
    have HI := Lib.hid hi
    have HS1 := Lib.hid see1'
    have HS2 := Lib.hid S2
    have HK := Lib.hid hk
    have HLD := Lib.hid hld
    have h1 : decide ((0 : Int) ≤ (k : Int)) = true := by simp
    clear hi see1 see1' see2 S2 hk hmt hbl h h' ec1 ec2 ec1' hld
    have W1 : IntKind.i64.wrap ((k : Int) + 1) = (k : Int) + 1 := IntWalk.i64_in _ (by omega)
    go_enter Tryz.func90, Tryz.ntmps90
    go_wp2_with fail
    refine HI.out.mono ?_
    rintro e w' ⟨rfl, rfl⟩
    go_wp2
    go_quiet (fail)
    go_wp2
    go_ret3
    rename_i nq
    rw [← HK.out, HLD.out]
    exact ⟨a1, c, a2, c - (k + 1), true, rfl, HS1.out.below (ext_drewN w nq), HS2.out.below (ext_drewN w nq), ext_drewN w nq⟩
  · rw [if_neg hlt] at hi
    have hkn : k = n := by omega
    have hmm : markOf bs = bs := by rw [← hmt]; exact List.take_of_length_le (by omega)
    have hd : bs.drop (k + 1) = [] := List.drop_eq_nil_of_le (by omega)
    have HI := Lib.hid hi
    have HS := Lib.hid h
    have HK := Lib.hid hk
    have HKN := Lib.hid hkn
    have HMM := Lib.hid hmm
    have HD := Lib.hid hd
    clear hi hk hmt hbl h h' hkn hmm hd
    go_enter Tryz.func90, Tryz.ntmps90
    go_wp2_with fail
    refine HI.out.mono ?_
    rintro e w' ⟨rfl, rfl⟩
    go_wp2
    go_ret3
    rw [← HK.out, HD.out, HKN.out, HMM.out]
    exact ⟨a, c, none, 0, false, rfl, HS.out, Sees.nil _ _ _ (fun _ => rfl), Below.refl _ _⟩
theorem isCtl_any (u : UInt8) (w : World) : Calls Tryz.prog 92 #[.int .u8 (u.toNat : Int)] w fun e w' => e = .returned (.bool (isCtl u)) ∧ w = w' := by
  by_cases h1 : u.toNat < 32
  · have hb : isCtl u = true := by simp [isCtl, h1]
    have e1 : decide ((u.toNat : Int) < 32) = true := by simp; omega
    have HB := Lib.hid hb
    clear hb
    go_enter Tryz.func92, Tryz.ntmps92
    go_wp2
    go_ret
    exact ⟨by rw [HB.out]; rfl, rfl⟩
  · have e1 : decide ((u.toNat : Int) < 32) = false := by simp; omega
    by_cases h2 : u.toNat = 127
    · have hb : isCtl u = true := by simp [isCtl, h2]
      have e2 : ((u.toNat : Int) == 127) = true := by simp; omega
      have HB := Lib.hid hb
      have H2 := Lib.hid h2
      clear hb h2
      go_enter Tryz.func92, Tryz.ntmps92
      go_wp2
      go_ret
      exact ⟨by rw [HB.out]; rfl, rfl⟩
    · have hb : isCtl u = false := by simp [isCtl, h2]; omega
      have e2 : ((u.toNat : Int) == 127) = false := by simp; omega
      have HB := Lib.hid hb
      have H2 := Lib.hid h2
      clear hb h2
      go_enter Tryz.func92, Tryz.ntmps92
      go_wp2
      go_ret
      exact ⟨by rw [HB.out]; rfl, rfl⟩
theorem idx_u8 (l : List UInt8) (a : Option Addr) (n c : Nat) (hn : n ≤ 140737488355328) (w : World) (h : Sees w a n c (l.map bv)) :
    Calls Tryz.prog 115 #[.slice a n c, .func (.func 92) #[] #[]] w (IdxPost isCtl l w) := by
  have hl := h.lenMap
  have HS := Lib.hid h
  have HL := Lib.hid hl
  clear h hl
  go_enter Tryz.func115, Tryz.ntmps115
  go_wp2
  go_loop [5, 8] (fun v i => ∃ k : Nat, k ≤ n ∧ i = .int .i64 k ∧ Hid (∀ j, j < k → isCtl (l.getD j 0) = false)) (fun _ i => n - (intOf i).toNat)
  case atStart => exact ⟨0, Nat.zero_le _, rfl, fun j hj => absurd hj (by omega)⟩
  case round =>
    obtain ⟨k, hk, rfl, hno⟩ := hrel
    by_cases hlt : k < n
    · obtain ⟨b, off, rfl, hbw⟩ := HS.out.addr (by omega)
      have hcx := HS.out.byte k hlt
      obtain ⟨x, hx⟩ : ∃ x, x = l.getD k 0 := ⟨_, rfl⟩
      rw [← hx] at hcx
      have HX := Lib.hid hx
      clear hx
      have W1 : IntKind.i64.wrap ((k : Int) + 1) = (k : Int) + 1 := IntWalk.i64_in _ (by omega)
      obtain ⟨q, hq⟩ : ∃ q, q = isCtl x := ⟨_, rfl⟩
      have HQ := Lib.hid hq
      clear hq
      go_wp2_with fail
      refine (isCtl_any x w).mono ?_
      rw [← HQ.out]
      rintro e w' ⟨rfl, rfl⟩
      cases q with
      | true =>
        go_wp2
        go_ret
        refine ⟨k, rfl, by omega, ⟨fun _ => ?_, fun _ => by omega⟩, Below.refl _ _⟩
        exact List.any_eq_true.2 ⟨l.getD k 0, getD_mem (by rw [HL.out]; exact hlt), by rw [← HX.out]; exact HQ.out.symm⟩
      | false =>
        go_wp2
        go_round
        case rel =>
          refine ⟨k + 1, by omega, by go_num, fun j hj => ?_⟩
          rcases Nat.lt_or_ge j k with h | h
          · exact hno.out j h
          · have : j = k := by omega
            subst this
            rw [← HX.out]; exact HQ.out.symm
        case measure => simp [intOf]; omega
    · have hkn : k = n := by omega
      subst hkn
      go_wp2
      go_ret
      refine ⟨-1, rfl, by omega, ⟨fun h => absurd h (by decide), fun h => ?_⟩, Below.refl _ _⟩
      rw [any_none (all_of_getD (d := 0) (fun j hj => hno.out j (by rw [← HL.out]; exact hj)))] at h
      cases h
theorem has_u8 (l : List UInt8) (a : Option Addr) (n c : Nat) (hn : n ≤ 140737488355328) (w : World) (h : Sees w a n c (l.map bv)) :
    Calls Tryz.prog 91 #[.slice a n c, .func (.func 92) #[] #[]] w (fun e w' => e = .returned (.bool (l.any isCtl)) ∧ Below w.heap.size w w') := by
  have HI := Lib.hid (idx_u8 l a n c hn w h)
  clear h
  obtain ⟨f, hf⟩ : ∃ f, f = Value.func (.func 92) #[] #[] := ⟨_, rfl⟩
  rw [← hf] at HI ⊢
  have HF := Lib.hid hf
  clear hf
  go_enter Tryz.func91, Tryz.ntmps91
  go_wp2_with fail
  refine HI.out.mono ?_
  rintro e w' ⟨z, rfl, hz, hiff, hb⟩
  have e : decide (0 ≤ z) = l.any isCtl := by
    cases hq : l.any isCtl with
    | true => simpa using hiff.2 hq
    | false => simp; have := fun h => hiff.1 h; rw [hq] at this; exact Int.not_le.1 (fun h => by cases this h)
  have E := Lib.hid e
  clear e hiff
  go_wp2
  go_ret
  exact ⟨congrArg (fun b => Ending.returned (.bool b)) E.out, hb⟩
end Go.Proofs.YtglhnmbfkbjemaaGreatDoor
/- raw.isName, by its contract. -/
namespace Go.Proofs.YtglhnmbfkbjemaaGreatDoor
open Go Go.RowKit Go.Joins
theorem indexByte_find : ∀ (l : List UInt8) (x : UInt8), Lib.indexByte l x = match l.findIdx? (fun u => u == x) with | none => -1 | some k => (k : Int)
  | [], x => by simp [Lib.indexByte]
  | y :: r, x => by
    have ih := indexByte_find r x
    rw [Lib.indexByte, List.findIdx?_cons]
    cases h : (y == x) with
    | true => simp
    | false =>
      simp only [Bool.false_eq_true, if_false]
      rw [ih]
      cases r.findIdx? (fun u => u == x) with
      | none => simp
      | some k =>
        have h1 : ((k : Int) == -1) = false := by simp
        simp [h1]
def letters : List UInt8 := [105, 108, 111, 98, 99]
theorem nameOk_nil {bs : List UInt8} {many : List Nat} (h : markOf bs = []) : nameOk bs many = false := by
  have h' : List.takeWhile (fun u => u != 32) bs = [] := h
  unfold nameOk
  simp only [h']
theorem nameOk_cons {bs d : List UInt8} {x : UInt8} {many : List Nat} (h : markOf bs = x :: d) : nameOk bs many = if bs.drop (d.length + 2) = [] then false else if (bs.drop (d.length + 2)).any isCtl then false else
    match letters.findIdx? (fun u => u == x) with
    | none => false
    | some k => decide (numErr d 2147483647 = 0) && decide (numOf d 2147483647 < many.getD k 0) := by
  have h' : List.takeWhile (fun u => u != 32) bs = x :: d := h
  unfold nameOk
  simp only [h', List.length_cons]
  rfl
def manyV (m0 m1 m2 m3 m4 : Nat) : Value := .agg #[.int .u32 m0, .int .u32 m1, .int .u32 m2, .int .u32 m3, .int .u32 m4]
set_option maxRecDepth 100000 in
set_option maxHeartbeats 1600000 in
theorem isName_any (bs : List UInt8) (m0 m1 m2 m3 m4 : Nat) (a : Option Addr) (n c : Nat) (w : World) (h : Sees w a n c (bs.map bv)) (hn : n ≤ 1000000000) :
    Calls Tryz.prog 57 #[.slice a n c, manyV m0 m1 m2 m3 m4] w fun e w' => e = .returned (.bool (nameOk bs [m0, m1, m2, m3, m4])) ∧ Below w.heap.size w w' := by
  have hbl := h.lenMap
  have hml := mark_le bs
  have HCUT := Lib.hid (fun (w' : World) (a' : Option Addr) (hb : Below w.heap.size w w') (h' : Sees w' a' 1 1 [bv 32]) => cutBlank_any bs a a' n c 1 w' (h.below hb) h' hn)
  obtain ⟨M, hM⟩ : ∃ M, M = markOf bs := ⟨_, rfl⟩
  obtain ⟨D, hD⟩ : ∃ D, D = bs.drop (M.length + 1) := ⟨_, rfl⟩
  rw [← hM] at HCUT hml
  rw [← hD] at HCUT
  have kc := run_convert_bytes_const_at (P := Tryz.prog) (w.alloc (.cells #[.int .u32 m0, .int .u32 m1, .int .u32 m2, .int .u32 m3, .int .u32 m4] 72)) 27 5 #[.int .u8 32] 1 1 (w.heap.size + 1) (by simp) Tryz.underlying27 Tryz.underlying5
  obtain ⟨q, hq⟩ : ∃ q, q = nameOk bs [m0, m1, m2, m3, m4] := ⟨_, rfl⟩
  rw [← hq]
  have HQ := Lib.hid hq
  have HM := Lib.hid hM
  have HD := Lib.hid hD
  have hMl : M.length ≤ 1000000000 := by omega
  have hDl : D.length ≤ 1000000000 := by rw [hD, List.length_drop]; omega
  clear h hbl hml hM hD hq
  unfold manyV
  go_enter Tryz.func57, Tryz.ntmps57
  go_wp2_with fail
  refine (HCUT.out _ (some ⟨w.heap.size + 1, 0, none⟩) (ext_trans (ext_alloc _ _) (ext_alloc _ _)) ?_).mono ?_
  · have := sees_lit (w.alloc (.cells #[.int .u32 m0, .int .u32 m1, .int .u32 m2, .int .u32 m3, .int .u32 m4] 72)) 5 (1, 2) #[.int .u8 32] [bv 32] 1 rfl rfl
    simpa using this
  rintro e w1 ⟨a1, c1, a2, c2, q', rfl, s1, s2, hb⟩
  have hb01 : Below w.heap.size w w1 := ext_trans (ext_trans (ext_alloc _ _) (ext_alloc _ _)) hb
  have hbox : w1.heap[w.heap.size]? = some (.cells #[.int .u32 m0, .int .u32 m1, .int .u32 m2, .int .u32 m3, .int .u32 m4] 72 (0, 0)) := heap_below (heap_below (heap_new _ _ _ rfl) (ext_alloc _ _)) hb
  have HS1 := Lib.hid s1
  have HS2 := Lib.hid s2
  have HB1 := Lib.hid hb01
  have HBX := Lib.hid hbox
  clear s1 s2 hb hb01 hbox kc HCUT
  cases M with
  | nil =>
    have e : q = false := by rw [HQ.out]; exact nameOk_nil HM.out.symm
    have E := Lib.hid e
    clear e
    go_wp2
    go_ret
    exact ⟨by rw [E.out]; rfl, HB1.out⟩
  | cons x d =>
    have hnc := nameOk_cons (many := [m0, m1, m2, m3, m4]) HM.out.symm
    have hD2 : bs.drop (d.length + 2) = D := HD.out.symm
    rw [← HQ.out, hD2] at hnc
    have HN := Lib.hid hnc
    clear hnc hD2
    have hl1 : 0 < (x :: d).length := by simp
    by_cases hd : D = []
    · subst hd
      have e : q = false := by rw [HN.out]; simp
      have E := Lib.hid e
      clear e
      go_wp2
      go_ret
      exact ⟨by rw [E.out]; rfl, HB1.out⟩
    · have hdl : 0 < D.length := List.length_pos_iff.2 hd
      have e1 : ((D.length : Int) == 0) = false := by simp; omega
      have HDD := Lib.hid hd
      have HCT := Lib.hid (has_u8 D a2 D.length c2 (by omega) w1 HS2.out)
      clear hd
      obtain ⟨p, hp⟩ : ∃ p, p = D.any isCtl := ⟨_, rfl⟩
      rw [← hp] at HCT HN
      clear hp
      go_wp2_with fail
      refine HCT.out.mono ?_
      rintro e w2 ⟨rfl, hb2⟩
      have HB2 := Lib.hid (ext_trans HB1.out hb2)
      have HS12 := Lib.hid (HS1.out.below hb2)
      have HBX2 := Lib.hid (heap_below HBX.out hb2)
      clear hb2
      cases p with
      | true =>
        have e : q = false := by rw [HN.out]; simp
        have E := Lib.hid e
        clear e
        go_wp2
        go_ret
        exact ⟨by rw [E.out]; rfl, HB2.out⟩
      | false =>
        have hq2 : q = match letters.findIdx? (fun u => u == x) with
            | none => false
            | some k => decide (numErr d 2147483647 = 0) && decide (numOf d 2147483647 < [m0, m1, m2, m3, m4].getD k 0) := by
          rw [HN.out, if_neg HDD.out]; simp
        have HQ2 := Lib.hid hq2
        clear hq2
        obtain ⟨b, off, rfl, hbw⟩ := HS12.out.addr (by omega)
        have hx0 : w2.cell? ⟨b, off, none⟩ = some (.int .u8 (x.toNat : Int)) := HS12.out.byte 0 (by omega)
        have hki := Tryz.strings_IndexByte ⟨#[105, 108, 111, 98, 99]⟩ (x.toNat : Int) w2
        have ex : ((x.toNat : Int)).toNat.toUInt8 = x := by simp
        rw [ex] at hki
        have el : (⟨#[105, 108, 111, 98, 99]⟩ : ByteArray).data.toList = letters := rfl
        rw [el, indexByte_find] at hki
        cases hk : letters.findIdx? (fun u => u == x) with
        | none =>
          rw [hk] at hki
          have e : q = false := by rw [HQ2.out, hk]
          have E := Lib.hid e
          have HKI := Lib.hid hki
          clear e ex el hki hk
          go_wp2_with fail
          refine HKI.out.mono ?_
          rintro e w' ⟨rfl, rfl⟩
          go_wp2
          go_ret
          exact ⟨by rw [E.out]; rfl, HB2.out⟩
        | some k =>
          rw [hk] at hki
          have e : q = (decide (numErr d 2147483647 = 0) && decide (numOf d 2147483647 < [m0, m1, m2, m3, m4].getD k 0)) := by rw [HQ2.out, hk]
          have hk5 : k < 5 := by have := (List.findIdx?_eq_some_iff_getElem.1 hk).1; exact this
          have E := Lib.hid e
          have HKI := Lib.hid hki
          clear e ex el hki hk
          have hmc : w2.cell? ⟨w.heap.size, k, none⟩ = some (.int .u32 (([m0, m1, m2, m3, m4].getD k 0 : Nat) : Int)) := by
            rw [cell_of_block HBX2.out k]
            match k, hk5 with
            | 0, _ => rfl
            | 1, _ => rfl
            | 2, _ => rfl
            | 3, _ => rfl
            | 4, _ => rfl
          obtain ⟨mk, hmk⟩ : ∃ mk, mk = [m0, m1, m2, m3, m4].getD k 0 := ⟨_, rfl⟩
          rw [← hmk] at hmc E
          clear hmk
          have hs12 : Sees w2 (some ⟨b, off, none⟩) (d.length + 1) c1 ((x :: d).map bv) := HS12.out
          obtain ⟨a3, ec3, see3⟩ := hs12.cut 1 (d.length + 1) (by omega) (Nat.le_refl _)
          have ec3' : sliced (some ⟨b, off, none⟩) 1 (d.length + 1) c1 1 = .slice a3 d.length (c1 - 1) := ec3
          have see3' : Sees w2 a3 d.length (c1 - 1) (d.map bv) := by
            have e : List.drop 1 (List.take (d.length + 1) (List.map bv (x :: d))) = d.map bv := by simp; exact List.take_of_length_le (by simp)
            rw [e] at see3; exact see3
          have q1 := fun W => (run_from (P := Tryz.prog) Tryz.underlying27 size_u8 W (some ⟨b, off, none⟩) (d.length + 1) c1 1 1 rfl (by omega)).trans (congrArg (fun v => Result.ok v W) ec3')
          have q2 := see3'.str (P := Tryz.prog) 27 5 9 Tryz.underlying27 Tryz.underlying5 Tryz.underlying9
          clear ec3 ec3' see3 see3' hs12
          obtain ⟨nv, hnv⟩ : ∃ nv, nv = numOf d 2147483647 := ⟨_, rfl⟩
          obtain ⟨er, her⟩ : ∃ er, er = numErr d 2147483647 := ⟨_, rfl⟩
          have HNU := Lib.hid (number_named d 2147483647 w2 nv er hnv her (by simp at hMl; omega) (by decide))
          rw [← hnv, ← her] at E
          clear hnv her
          go_wp2_with fail
          refine HKI.out.mono ?_
          rintro e w' ⟨rfl, rfl⟩
          go_wp2_with fail
          refine HNU.out.mono ?_
          rintro e w3 ⟨rfl, hb3⟩
          have HB3 := Lib.hid (ext_trans HB2.out hb3)
          have hmc3 := cell_below hmc hb3
          clear hb3 q1 q2 hx0 hmc
          by_cases h0 : er = 0
          · subst h0
            have e2 : decide (nv < mk) = q := by rw [E.out]; simp
            have E2 := Lib.hid e2
            clear e2
            go_wp2
            go_ret
            exact ⟨congrArg (fun b => Ending.returned (.bool b)) E2.out, HB3.out⟩
          · have e2 : q = false := by rw [E.out]; simp [h0]
            have e3 : (er == 0) = false := by simp [h0]
            have E2 := Lib.hid e2
            have H0 := Lib.hid h0
            clear e2 h0
            go_wp2
            go_ret
            exact ⟨by rw [E2.out]; rfl, HB3.out⟩
end Go.Proofs.YtglhnmbfkbjemaaGreatDoor
namespace Go.Proofs.YtglhnmbfkbjemaaGreatDoor
open Go Go.RowKit Go.Joins
theorem namesS_fuel (many : List Nat) : ∀ (f g : Nat) (b : List UInt8), b.length ≤ f → b.length ≤ g → namesS many f b = namesS many g b
  | 0, 0, _, _, _ => rfl
  | 0, g + 1, b, h, _ => by
    have : b = [] := List.eq_nil_of_length_eq_zero (by omega)
    subst this; simp [namesS]
  | f + 1, 0, b, _, h => by
    have : b = [] := List.eq_nil_of_length_eq_zero (by omega)
    subst this; simp [namesS]
  | f + 1, g + 1, b, h1, h2 => by
    rw [namesS, namesS]
    by_cases hb : b = []
    · rw [if_pos hb, if_pos hb]
    · rw [if_neg hb, if_neg hb]
      cases hc : cutS b with
      | none => rfl
      | some p =>
        obtain ⟨line, rest⟩ := p
        have hl : rest.length < b.length := by
          unfold cutS at hc
          split at hc
          · cases hc; simp; omega
          · cases hc
        simp only
        rw [namesS_fuel many f g rest (by omega) (by omega)]
theorem names_step (many : List Nat) {b : List UInt8} (hb : b ≠ []) : namesErr many b = match cutS b with
    | none => 4
    | some (line, rest) => if line = [99] then 0 else if nameOk line many = true then namesErr many rest else 5 := by
  unfold namesErr
  obtain ⟨f, hf⟩ : ∃ f, b.length = f + 1 := by
    cases b with
    | nil => exact absurd rfl hb
    | cons x r => exact ⟨r.length, rfl⟩
  rw [hf, namesS, if_neg hb]
  cases hc : cutS b with
  | none => rfl
  | some p =>
    obtain ⟨line, rest⟩ := p
    have hl : rest.length < b.length := by
      unfold cutS at hc
      split at hc
      · cases hc; simp; omega
      · cases hc
    simp only
    rw [namesS_fuel many f rest.length rest (by omega) (Nat.le_refl _)]
set_option maxRecDepth 100000 in
set_option maxHeartbeats 1600000 in
theorem names_any (bs : List UInt8) (m0 m1 m2 m3 m4 : Nat) (a : Option Addr) (n c : Nat) (w : World) (h : Sees w a n c (bs.map bv)) (hn : n ≤ 1000000000) :
    Calls Tryz.prog 27 #[.slice a n c, manyV m0 m1 m2 m3 m4] w fun e w' => e = .returned (.int .i64 (namesErr [m0, m1, m2, m3, m4] bs)) ∧ Below w.heap.size w w' := by
  have hbl := h.lenMap
  subst hbl
  have HS := Lib.hid h
  obtain ⟨er, her⟩ : ∃ er, er = namesErr [m0, m1, m2, m3, m4] bs := ⟨_, rfl⟩
  rw [← her]
  have HE := Lib.hid her
  clear h her
  unfold manyV
  go_enter Tryz.func27, Tryz.ntmps27
  go_wp2
  go_loopw [0] (fun b wr => ∃ (rest : List UInt8) (a' : Option Addr) (c' : Nat), b = .slice a' rest.length c' ∧ Hid (Sees wr a' rest.length c' (rest.map bv)) ∧ Hid (rest.length ≤ bs.length ∧ er = namesErr [m0, m1, m2, m3, m4] rest) ∧
      Hid (wr.heap[w.heap.size]? = some (.cells #[.int .u32 m0, .int .u32 m1, .int .u32 m2, .int .u32 m3, .int .u32 m4] 72 (0, 0))) ∧ Hid (Below w.heap.size w wr))
    (fun b _ => match b with | .slice _ n _ => n | _ => 0)
  case atStart => exact ⟨bs, a, c, rfl, HS.out.below (ext_alloc _ _), ⟨Nat.le_refl _, HE.out⟩, heap_new _ _ _ rfl, ext_alloc _ _⟩
  case round =>
    obtain ⟨rest, a', c', rfl, hs, hI, hbx, hbel⟩ := hrel
    by_cases hr : rest = []
    · subst hr
      have e : er = 0 := by rw [hI.out.2]; rfl
      have E := Lib.hid e
      clear e
      go_wp2
      go_ret
      exact ⟨by rw [E.out]; rfl, hbel.out⟩
    · have hrl : 0 < rest.length := List.length_pos_iff.2 hr
      have hst := names_step [m0, m1, m2, m3, m4] hr
      rw [← hI.out.2] at hst
      have HST := Lib.hid hst
      have hle := hI.out.1
      have HC := Lib.hid (cut_any rest a' rest.length c' wr hs.out (by omega))
      have e0 : ((0 : Int) < (rest.length : Int)) := by omega
      clear hst hr
      go_wp2_with fail
      refine HC.out.mono ?_
      rintro e w2 ⟨hb2, hp⟩
      have HB2 := Lib.hid (ext_trans hbel.out hb2)
      have HBX2 := Lib.hid (heap_below hbx.out hb2)
      rcases hp with ⟨hcs, a3, c3, a4, n4, c4, rfl⟩ | ⟨line, r2, a3, c3, a4, c4, hcs, rfl, hs3, hs4, hbk⟩
      · have e : er = 4 := by rw [HST.out, hcs]
        have E := Lib.hid e
        clear e hcs hb2
        go_wp2
        go_ret
        exact ⟨by rw [E.out]; rfl, HB2.out⟩
      · have hst2 := HST.out
        rw [hcs] at hst2
        have HST2 := Lib.hid hst2
        have hlen : line.length ≤ rest.length ∧ r2.length < rest.length := by
          unfold cutS at hcs
          split at hcs
          · cases hcs; simp; omega
          · cases hcs
        have hstr := hs3.str (P := Tryz.prog) 27 5 9 Tryz.underlying27 Tryz.underlying5 Tryz.underlying9
        have hconst : (⟨#[99]⟩ : ByteArray) = str [99] := rfl
        have HS3 := Lib.hid hs3
        have HS4 := Lib.hid hs4
        have hl1 := hlen.1
        have hl2 := hlen.2
        have HIN := Lib.hid (fun (w' : World) (hb : Below w2.heap.size w2 w') => isName_any line m0 m1 m2 m3 m4 a3 line.length c3 w' (hs3.below hb) (by omega))
        clear hcs hb2 hst2 hlen hs3 hs4 hbk
        have hm0 := cell_of_block HBX2.out 0
        have hm1 := cell_of_block HBX2.out 1
        have hm2 := cell_of_block HBX2.out 2
        have hm3 := cell_of_block HBX2.out 3
        have hm4 := cell_of_block HBX2.out 4
        by_cases hc : line = [99]
        · have e : er = 0 := by rw [HST2.out]; simp [hc]
          have E := Lib.hid e
          have ec : ((str line).toList == [99]) = true := by rw [ByteArray.toList_eq, hc]; rfl
          have HCC := Lib.hid hc
          clear e hc hconst
          go_wp2
          go_ret
          exact ⟨by rw [E.out]; rfl, HB2.out⟩
        · have ec : ((str line).toList == [99]) = false := by
            rw [ByteArray.toList_eq]
            show (line == [99]) = false
            simpa using hc
          obtain ⟨q, hq⟩ : ∃ q, q = nameOk line [m0, m1, m2, m3, m4] := ⟨_, rfl⟩
          have hst3 : er = if q = true then namesErr [m0, m1, m2, m3, m4] r2 else 5 := by rw [HST2.out, hq]; simp [hc]
          have HQ := Lib.hid (HIN.out w2 (Below.refl _ _))
          rw [← hq] at HQ
          have HST3 := Lib.hid hst3
          have HCC := Lib.hid hc
          clear hst3 hc hconst hq
          go_wp2_with fail
          refine HQ.out.mono ?_
          rintro e w3 ⟨rfl, hb3⟩
          have HB3 := Lib.hid (ext_trans HB2.out hb3)
          have HBX3 := Lib.hid (heap_below HBX2.out hb3)
          have HS5 := Lib.hid (HS4.out.below hb3)
          clear hb3 hm0 hm1 hm2 hm3 hm4 hstr
          cases q with
          | true =>
            have e2 : er = namesErr [m0, m1, m2, m3, m4] r2 := by rw [HST3.out]; simp
            have E2 := Lib.hid e2
            clear e2
            go_wp2
            go_roundw
            case rel => exact ⟨r2, a4, c4, rfl, HS5.out, ⟨by omega, E2.out⟩, HBX3.out, HB3.out⟩
            case measure => simp; omega
          | false =>
            have e2 : er = 5 := by rw [HST3.out]; simp
            have E2 := Lib.hid e2
            clear e2
            go_wp2
            go_ret
            exact ⟨by rw [E2.out]; rfl, HB3.out⟩
end Go.Proofs.YtglhnmbfkbjemaaGreatDoor
