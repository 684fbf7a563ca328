/- bin.Get, by its contract. -/
import Derived.Test.YtglhnmbfkbjemaaGreatDoorBkF
import Derived.Test.YtglhnmbfkbjemaaGreatDoorBkE
import Derived.Test.YtglhnmbfkbjemaaGreatDoorBkG
import Derived.Test.YtglhnmbfkbjemaaGreatDoorBkH
import Derived.BigQuiet
import Derived.Deep.CutRange
import Derived.BigRegion
namespace Go.Proofs.YtglhnmbfkbjemaaGreatDoor
open Go Go.RowKit Go.Joins
theorem head_small {bs r0 : List UInt8} {h : List Nat} (hh : headS [97, 105, 103] bs = .ok (h, r0)) :
    r0.length ≤ bs.length ∧ h.getD 0 0 ≤ 16384 ∧ h.getD 3 0 ≤ 1024 ∧ h.getD 5 0 ≤ 1024 ∧ h.getD 6 0 ≤ 1024 ∧ h.getD 1 0 + h.getD 2 0 + h.getD 4 0 ≤ h.getD 0 0 := by
  obtain ⟨ns, l1, l2, hbs, hH, hck⟩ := head_get hh
  have hcf := check_facts hck
  have h3 : (ns ++ List.replicate (9 - ns.length) 0).getD 1 0 + (ns ++ List.replicate (9 - ns.length) 0).getD 2 0 + (ns ++ List.replicate (9 - ns.length) 0).getD 4 0 ≤ (ns ++ List.replicate (9 - ns.length) 0).getD 0 0 := by
    unfold checkErr at hck
    split at hck
    · cases hck
    · split at hck
      · cases hck
      · split at hck
        · cases hck
        · omega
  refine ⟨by rw [hbs]; simp; omega, ?_⟩
  rw [hH, take7_getD _ 0 (by omega), take7_getD _ 1 (by omega), take7_getD _ 2 (by omega), take7_getD _ 3 (by omega), take7_getD _ 4 (by omega), take7_getD _ 5 (by omega), take7_getD _ 6 (by omega)]
  exact ⟨hcf.1, hcf.2.1, hcf.2.2.1, hcf.2.2.2, h3⟩
def BGetPost (bs : List UInt8) (w : World) (e : Ending) (w' : World) : Prop :=
  Below w.heap.size w w' ∧ ((∃ c s, getB bs = .ok c ∧ e = .returned (.tuple #[cirV c.ins s, .int .i64 0]) ∧ SeesCir w' s c) ∨
    (∃ er, getB bs = .error er ∧ er ≠ 0 ∧ e = .returned (.tuple #[zeroCir, .int .i64 er])))
structure GetF (w W3 : World) (RB R CB most : Nat) (C : Array Value) (st : St) (W : World) : Prop where
  res : W.heap[RB]? = some (.cells #[.int .i64 0, .slice none 0 0, .slice none 0 0, .slice none 0 0, .slice none 0 0, .slice none 0 0] 26 (0, 0))
  cir : W.heap[CB]? = some (.cells C 26 (0, 0))
  rd : RdS R R most st W
  low : Below w.heap.size w W
  up : W3.heap.size ≤ W.heap.size
  ord : w.heap.size ≤ RB ∧ RB < R ∧ R < CB ∧ CB < W3.heap.size
def Keeps (W3 W W' : World) : Prop := W.heap.size ≤ W'.heap.size ∧ ∀ k, W3.heap.size ≤ k → k < W.heap.size → W'.heap[k]? = W.heap[k]?
theorem Keeps.row {W3 W W' : World} (h : Keeps W3 W W') {ok : Value → Prop} {base : Nat} {e : TypeId} {v : Value} {n : Nat} {xs : List Value} (hr : Row ok W base e v n xs) (hb : W3.heap.size ≤ base) : Row ok W' base e v n xs :=
  hr.other fun k hk => h.2 k (Nat.le_trans hb (hr.own.lt k hk).1) (hr.own.lt k hk).2
theorem Keeps.own2 {W3 W W' : World} (h : Keeps W3 W W') {K : Nat → Value} {T : TypeId} {base : Nat} {v : Value} {xs : List (Nat × Nat)} (hr : own2 K T W base v xs) (hb : W3.heap.size ≤ base) : own2 K T W' base v xs :=
  ownsN_other hr fun k hk => h.2 k (Nat.le_trans hb (hr.lt k hk).1) (hr.lt k hk).2
theorem Keeps.trans {W3 a b c : World} (h : Keeps W3 a b) (k : Keeps W3 b c) : Keeps W3 a c :=
  ⟨Nat.le_trans h.1 k.1, fun i h1 h2 => (k.2 i h1 (Nat.lt_of_lt_of_le h2 h.1)).trans (h.2 i h1 h2)⟩
theorem GetF.call {w W3 W W' : World} {RB R CB most : Nat} {C : Array Value} {st st' : St} (h : GetF w W3 RB R CB most C st W) (hg : W.grownBy W' (some R)) (hr : RdS R R most st' W') :
    GetF w W3 RB R CB most C st' W' ∧ Keeps W3 W W' := by
  obtain ⟨o1, o2, o3, o4⟩ := h.ord
  have hu := h.up
  refine ⟨⟨heap_grown h.res hg (by intro e; cases e; omega), heap_grown h.cir hg (by intro e; cases e; omega), hr, h.low.grown hg h.low.size (fun k hk => by cases hk; omega), Nat.le_trans h.up hg.size, h.ord⟩, hg.size, fun k h1 h2 => hg.block k h2 (by intro e; cases e; omega)⟩
theorem GetF.store {w W3 W : World} {RB R CB most : Nat} {C : Array Value} {st : St} (h : GetF w W3 RB R CB most C st W) (j : Nat) (v : Value) :
    GetF w W3 RB R CB most (C.setIfInBounds j v) st (W.setCell ⟨CB, j, none⟩ v) ∧ Keeps W3 W (W.setCell ⟨CB, j, none⟩ v) := by
  obtain ⟨o1, o2, o3, o4⟩ := h.ord
  refine ⟨⟨(Below.heap_setCell W ⟨CB, j, none⟩ v RB (by intro e; simp at e; omega)).trans h.res, block_setCell h.cir v, h.rd.keep (fun b hb => Below.heap_setCell W ⟨CB, j, none⟩ v b (by intro e; simp at e; omega)) (by simp), h.low.setCell (p := ⟨CB, j, none⟩) (by show _ ≤ CB; omega) v, by simpa using h.up, h.ord⟩, by simp, fun k h1 h2 => Below.heap_setCell W ⟨CB, j, none⟩ v k (by intro e; simp at e; omega)⟩
set_option maxRecDepth 100000 in
set_option maxHeartbeats 6400000 in
theorem bget_any (bs : List UInt8) (a : Option Addr) (n c : Nat) (w : World) (h : Sees w a n c (bs.map bv)) (hn : n ≤ 100000000) :
    Calls Tryz.prog 8 #[.slice a n c] w (BGetPost bs w) := by
  have hl := h.lenMap
  have HH := Lib.hid (fun (o : Obj) => head_any [97, 105, 103] bs a n c (w.alloc o) (h.below (ext_alloc _ _)) hn)
  have HSML := Lib.hid (fun (h : List Nat) r0 (hh : headS [97, 105, 103] bs = .ok (h, r0)) => head_small hh)
  have HG : Hid (getB bs = if 1048576 < bs.length then .error 3 else
  match headS [97, 105, 103] bs with
  | .error e => .error e
  | .ok (h, r0) =>
    if h.getD 1 0 + h.getD 2 0 + h.getD 4 0 ≠ h.getD 0 0 then .error 5 else
    let most := 2 * h.getD 0 0 + 1
    let la := latsSt most (h.getD 2 0) (2 * (1 + h.getD 1 0)) (.ok r0)
    let ou := litsSt most (h.getD 3 0) la.2
    let ba := litsSt most (h.getD 5 0) ou.2
    let co := litsSt most (h.getD 6 0) ba.2
    let ga := gatesSt (h.getD 4 0) (2 * (1 + h.getD 1 0 + h.getD 2 0)) co.2
    match ga.2 with
    | .error e => .error e
    | .ok r => if namesErr [h.getD 1 0, h.getD 2 0, h.getD 3 0, h.getD 5 0, h.getD 6 0] r = 0 then .ok ⟨(h.getD 1 0 : Nat), la.1, ga.1, ou.1, ba.1, co.1⟩
      else .error (namesErr [h.getD 1 0, h.getD 2 0, h.getD 3 0, h.getD 5 0, h.getD 6 0] r)) := rfl
  rw [hl] at HG
  have HL := Lib.hid hl
  clear hl h
  obtain ⟨S, hS⟩ : ∃ S, S = getB bs := ⟨_, rfl⟩
  rw [← hS] at HG
  have HSS := Lib.hid hS
  clear hS
  go_enter Tryz.func8, Tryz.ntmps8
  by_cases h0 : 1048576 < n
  · have e1 : decide ((1048576 : Int) < (n : Int)) = true := by simp; omega
    have HE : Hid (S = .error 3) := by show _ = _; rw [HG.out, if_pos h0]
    clear h0 HG HH HSML
    go_wp2
    refine bodyPost_ret (v := .tuple #[zeroCir, .int .i64 3]) ?_ rfl ?_
    · simp [results, Tryz.results8, go_sem]
      rfl
    · exact ⟨ext_alloc _ _, .inr ⟨3, HSS.out.symm.trans HE.out, by decide, rfl⟩⟩
  · have e1 : decide ((1048576 : Int) < (n : Int)) = false := by simp; omega
    have hn1 : n ≤ 1048576 := by omega
    have HG2 : Hid (S = match headS [97, 105, 103] bs with
  | .error e => .error e
  | .ok (h, r0) =>
    if h.getD 1 0 + h.getD 2 0 + h.getD 4 0 ≠ h.getD 0 0 then .error 5 else
    let most := 2 * h.getD 0 0 + 1
    let la := latsSt most (h.getD 2 0) (2 * (1 + h.getD 1 0)) (.ok r0)
    let ou := litsSt most (h.getD 3 0) la.2
    let ba := litsSt most (h.getD 5 0) ou.2
    let co := litsSt most (h.getD 6 0) ba.2
    let ga := gatesSt (h.getD 4 0) (2 * (1 + h.getD 1 0 + h.getD 2 0)) co.2
    match ga.2 with
    | .error e => .error e
    | .ok r => if namesErr [h.getD 1 0, h.getD 2 0, h.getD 3 0, h.getD 5 0, h.getD 6 0] r = 0 then .ok ⟨(h.getD 1 0 : Nat), la.1, ga.1, ou.1, ba.1, co.1⟩
      else .error (namesErr [h.getD 1 0, h.getD 2 0, h.getD 3 0, h.getD 5 0, h.getD 6 0] r)) := by show _ = _; rw [HG.out, if_neg h0]
    clear h0 HG
    go_wp2_with fail
    refine (HH.out _).mono ?_
    generalize hW : World.alloc _ _ = W
    have hr0 : W.heap[w.heap.size]? = some (.cells #[.int .i64 0, .slice none 0 0, .slice none 0 0, .slice none 0 0, .slice none 0 0, .slice none 0 0] 26 (0, 0)) := by subst hW; exact heap_new _ _ _ rfl
    have hwb : Below w.heap.size w W := by subst hW; exact ext_alloc _ _
    clear hW HH
    rintro e w1 ⟨hb1, hpost⟩
    have hr1 := heap_below hr0 hb1
    have hB1 := ext_trans hwb hb1
    have HR1 := Lib.hid hr1
    have HB1 := Lib.hid hB1
    clear hb1 hr0 hwb hr1 hB1
    rcases hpost with ⟨l, rest, a2, c2, hhs, rfl, hsee, hlt2⟩ | ⟨er, hhs, hne, rfl⟩
    · have hsm := HSML.out l rest hhs
      rw [hhs] at HG2
      simp only at HG2
      have hrl : rest.length ≤ 1048576 := by have := HL.out; omega
      obtain ⟨_, s0, s3, s5, s6, ssum⟩ := hsm
      unfold sevenV
      obtain ⟨k0, hk0⟩ : ∃ k, k = l.getD 0 0 := ⟨_, rfl⟩
      obtain ⟨k1, hk1⟩ : ∃ k, k = l.getD 1 0 := ⟨_, rfl⟩
      obtain ⟨k2, hk2⟩ : ∃ k, k = l.getD 2 0 := ⟨_, rfl⟩
      obtain ⟨k3, hk3⟩ : ∃ k, k = l.getD 3 0 := ⟨_, rfl⟩
      obtain ⟨k4, hk4⟩ : ∃ k, k = l.getD 4 0 := ⟨_, rfl⟩
      obtain ⟨k5, hk5⟩ : ∃ k, k = l.getD 5 0 := ⟨_, rfl⟩
      obtain ⟨k6, hk6⟩ : ∃ k, k = l.getD 6 0 := ⟨_, rfl⟩
      rw [← hk0, ← hk1, ← hk2, ← hk4] at ssum
      rw [← hk0] at s0
      rw [← hk3] at s3
      rw [← hk5] at s5
      rw [← hk6] at s6
      rw [← hk0, ← hk1, ← hk2, ← hk3, ← hk4, ← hk5, ← hk6] at HG2
      rw [← hk0, ← hk1, ← hk2, ← hk3, ← hk4, ← hk5, ← hk6]
      clear hk0 hk1 hk2 hk3 hk4 hk5 hk6 hhs HSML HL
      have HSEE := Lib.hid hsee
      have HLT2 := Lib.hid hlt2
      clear hsee hlt2
      obtain ⟨m2, hm2⟩ : ∃ m, m = rest.length := ⟨_, rfl⟩
      rw [← hm2] at HSEE hrl
      rw [← hm2]
      clear hm2
      obtain ⟨HBk, hHB⟩ : ∃ k, k = w1.heap.size := ⟨_, rfl⟩
      go_upto_region 6 with fail
      rw [← hHB]
      generalize hW : World.alloc _ _ = W2
      have hh2 : W2.heap[HBk]? = some (.cells #[.int .u32 k0, .int .u32 k1, .int .u32 k2, .int .u32 k3, .int .u32 k4, .int .u32 k5, .int .u32 k6] 63 (0, 0)) := by subst hW; rw [hHB]; exact heap_new _ _ _ rfl
      have HR2 := Lib.hid (show W2.heap[w.heap.size]? = _ by subst hW; exact heap_below HR1.out (ext_alloc _ _))
      have HB2 := Lib.hid (show Below w.heap.size w W2 by subst hW; exact ext_trans HB1.out (ext_alloc _ _))
      have HSE2 := Lib.hid (show Sees W2 a2 m2 c2 (rest.map bv) by subst hW; exact HSEE.out.below (ext_alloc _ _))
      have HLT3 := Lib.hid (show ∀ b, a2.map Addr.block = some b → b < W2.heap.size by subst hW; intro b hb; have := HLT2.out b hb; simp; omega)
      clear hW hHB HR1 HB1 HSEE HLT2
      have q0 := cell_of_block hh2 0
      have q1 := cell_of_block hh2 1
      have q2 := cell_of_block hh2 2
      have q3 := cell_of_block hh2 3
      have q4 := cell_of_block hh2 4
      have q5 := cell_of_block hh2 5
      have q6 := cell_of_block hh2 6
      clear hh2
      go_quiet (fail)
      rename_i nq
      obtain ⟨W3, hW3⟩ : ∃ W3, W3 = W2.drewN nq := ⟨_, rfl⟩
      have hb3 : Below W2.heap.size W2 W3 := by rw [hW3]; exact ext_drewN _ _
      rw [← hW3]
      have HR3 := Lib.hid (heap_below HR2.out hb3)
      have HB3 := Lib.hid (ext_trans HB2.out hb3)
      have HSE3 := Lib.hid (HSE2.out.below hb3)
      have HLT4 := Lib.hid (show ∀ b, a2.map Addr.block = some b → b < W3.heap.size by intro b hb; have := HLT3.out b hb; have := hb3.size; omega)
      clear hb3 hW3 q0 q1 q2 q3 q4 q5 q6 HR2 HB2 HSE2 HLT3
      have W1 : IntKind.u32.wrap ((k1 : Int) + (k2 : Int)) = ((k1 + k2 : Nat) : Int) := by rw [IntKind.wrap_u32]; omega
      obtain ⟨k12, hk12⟩ : ∃ k, k = k1 + k2 := ⟨_, rfl⟩
      rw [← hk12] at W1
      have W2' : IntKind.u32.wrap ((k12 : Int) + (k4 : Int)) = ((k12 + k4 : Nat) : Int) := by rw [IntKind.wrap_u32]; omega
      obtain ⟨k124, hk124⟩ : ∃ k, k = k12 + k4 := ⟨_, rfl⟩
      rw [← hk124] at W2'
      have HK12 := Lib.hid hk12
      have HK124 := Lib.hid hk124
      by_cases hsum : k1 + k2 + k4 ≠ k0
      · have HE : Hid (S = .error 5) := by show _ = _; rw [HG2.out, if_pos hsum]
        have e2 : ((k124 : Int) != (k0 : Int)) = true := by simp; omega
        have r0 := cell_of_block HR3.out 0
        have r1 := cell_of_block HR3.out 1
        have r2 := cell_of_block HR3.out 2
        have r3 := cell_of_block HR3.out 3
        have r4 := cell_of_block HR3.out 4
        have r5 := cell_of_block HR3.out 5
        have f0 := unfrozen_of_block HR3.out 0
        have f1 := unfrozen_of_block HR3.out 1
        have f2 := unfrozen_of_block HR3.out 2
        have f3 := unfrozen_of_block HR3.out 3
        have f4 := unfrozen_of_block HR3.out 4
        have f5 := unfrozen_of_block HR3.out 5
        clear hsum HG2 hk12 hk124 ssum s0 s3 s5 s6
        go_wp2
        refine bodyPost_ret (v := .tuple #[zeroCir, .int .i64 5]) ?_ rfl ?_
        · have h6 := cir_set HR3.out rfl (.int .i64 0) (.slice none 0 0) (.slice none 0 0) (.slice none 0 0) (.slice none 0 0) (.slice none 0 0)
          simp [results, Tryz.results8, go_sem, cell_of_block h6 0, cell_of_block h6 1, cell_of_block h6 2, cell_of_block h6 3, cell_of_block h6 4, cell_of_block h6 5]
          rfl
        · exact ⟨set6 w.heap.size (Nat.le_refl _) HB3.out, .inr ⟨5, HSS.out.symm.trans HE.out, by decide, rfl⟩⟩
      · have hsum' : k1 + k2 + k4 = k0 := by omega
        have e2 : ((k124 : Int) != (k0 : Int)) = false := by simp; omega
        have HGS := Lib.hid (show S = _ by rw [HG2.out, if_neg hsum])
        clear HG2
        clear hsum
        obtain ⟨d0, hd0⟩ : ∃ k, k = 2 * k0 := ⟨_, rfl⟩
        obtain ⟨most, hmost⟩ : ∃ k, k = 2 * k0 + 1 := ⟨_, rfl⟩
        obtain ⟨f1, hf1⟩ : ∃ k, k = 1 + k1 := ⟨_, rfl⟩
        obtain ⟨f2, hf2⟩ : ∃ k, k = 1 + k1 + k2 := ⟨_, rfl⟩
        have P1 : IntKind.u32.wrap (2 * (k0 : Int)) = (d0 : Int) := by rw [IntKind.wrap_u32]; omega
        have P2 : IntKind.u32.wrap ((d0 : Int) + 1) = (most : Int) := by rw [IntKind.wrap_u32]; omega
        have P3 : IntKind.i64.wrap (k1 : Int) = (k1 : Int) := IntWalk.i64_in _ (by omega)
        have P4 : IntKind.u32.wrap (1 + (k1 : Int)) = (f1 : Int) := by rw [IntKind.wrap_u32]; omega
        have P5 : IntKind.u32.wrap ((f1 : Int) + (k2 : Int)) = (f2 : Int) := by rw [IntKind.wrap_u32]; omega
        have HGT : Hid (S = match (gatesSt k4 (2 * f2) (litsSt most k6 (litsSt most k5 (litsSt most k3 (latsSt most k2 (2 * f1) (.ok rest)).2).2).2).2).2 with
          | .error e => .error e
          | .ok r => if namesErr [k1, k2, k3, k5, k6] r = 0 then .ok ⟨(k1 : Nat), (latsSt most k2 (2 * f1) (.ok rest)).1, (gatesSt k4 (2 * f2) (litsSt most k6 (litsSt most k5 (litsSt most k3 (latsSt most k2 (2 * f1) (.ok rest)).2).2).2).2).1, (litsSt most k3 (latsSt most k2 (2 * f1) (.ok rest)).2).1, (litsSt most k5 (litsSt most k3 (latsSt most k2 (2 * f1) (.ok rest)).2).2).1, (litsSt most k6 (litsSt most k5 (litsSt most k3 (latsSt most k2 (2 * f1) (.ok rest)).2).2).2).1⟩
            else .error (namesErr [k1, k2, k3, k5, k6] r)) := by show _ = _; rw [HGS.out, hmost, hf1, hf2]
        have b1 : f1 + k2 ≤ 100000 := by omega
        have b2 : f2 + k4 ≤ 100000 := by omega
        have b3 : most < 4294967296 := by omega
        have b4 : k3 ≤ 100000 ∧ k5 ≤ 100000 ∧ k6 ≤ 100000 := by omega
        have HBB := Lib.hid (⟨b1, b2, b3, b4⟩ : f1 + k2 ≤ 100000 ∧ f2 + k4 ≤ 100000 ∧ most < 4294967296 ∧ k3 ≤ 100000 ∧ k5 ≤ 100000 ∧ k6 ≤ 100000)
        clear hd0 hmost hf1 hf2 hk12 hk124 b1 b2 b3 b4 hsum' HGS ssum s0 s3 s5 s6 HK12 HK124
        obtain ⟨R, hR⟩ : ∃ R, R = W3.heap.size := ⟨_, rfl⟩
        obtain ⟨CB, hCB⟩ : ∃ R, R = W3.heap.size + 1 := ⟨_, rfl⟩
        go_wp2_with fail
        rw [← hCB, ← hR]
        generalize hW : World.alloc (World.alloc _ _) _ = W4
        have hsz4 : W4.heap.size = W3.heap.size + 2 := by subst hW; simp
        have hrd4 : W4.heap[R]? = some (.cells #[.slice a2 m2 c2, .int .u32 (most : Int), .int .i64 0] 67 (0, 0)) := by subst hW; rw [hR]; exact heap_below (heap_new _ _ _ rfl) (ext_alloc _ _)
        have hcb4 : W4.heap[CB]? = some (.cells #[.int .i64 (k1 : Int), .slice none 0 0, .slice none 0 0, .slice none 0 0, .slice none 0 0, .slice none 0 0] 26 (0, 0)) := by subst hW; rw [hCB]; exact heap_new _ _ _ (by simp)
        have hb4 : Below W3.heap.size W3 W4 := by subst hW; exact ext_trans (ext_alloc _ _) (ext_alloc _ _)
        have hlt3 := heap_lt HR3.out
        have F0 : Hid (GetF w W4 w.heap.size R CB most #[.int .i64 (k1 : Int), .slice none 0 0, .slice none 0 0, .slice none 0 0, .slice none 0 0, .slice none 0 0] (.ok rest) W4) :=
          ⟨heap_below HR3.out hb4, hcb4, ⟨a2, m2, c2, 0, rest, ⟨hrd4, HSE3.out.below hb4, fun b hb => by have := HLT4.out b hb; omega⟩, fun b hb => by have := HLT4.out b hb; omega, hrl, rfl, rfl⟩, ext_trans HB3.out hb4, Nat.le_refl _, ⟨Nat.le_refl _, by omega, by omega, by omega⟩⟩
        clear hW hsz4 hrd4 hcb4 hb4 hlt3 hR hCB HR3 HB3 HSE3 HLT4 P1 P2 P3 hrl
        obtain ⟨la, hla⟩ : ∃ x, x = latsSt most k2 (2 * f1) (.ok rest) := ⟨_, rfl⟩
        obtain ⟨ou, hou⟩ : ∃ x, x = litsSt most k3 la.2 := ⟨_, rfl⟩
        obtain ⟨ba, hba⟩ : ∃ x, x = litsSt most k5 ou.2 := ⟨_, rfl⟩
        obtain ⟨co, hco⟩ : ∃ x, x = litsSt most k6 ba.2 := ⟨_, rfl⟩
        obtain ⟨ga, hga⟩ : ∃ x, x = gatesSt k4 (2 * f2) co.2 := ⟨_, rfl⟩
        rw [← hla, ← hou, ← hba, ← hco, ← hga] at HGT
        have ql : la.1.length = k2 := by rw [hla]; exact latsSt_len _ _ _ _
        have qo : ou.1.length = k3 := by rw [hou]; exact litsSt_len _ _ _
        have qb : ba.1.length = k5 := by rw [hba]; exact litsSt_len _ _ _
        have qc : co.1.length = k6 := by rw [hco]; exact litsSt_len _ _ _
        have qg : ga.1.length = k4 := by rw [hga]; exact gatesSt_len _ _ _
        have Q := Lib.hid (⟨ql, qo, qb, qc, qg⟩ : la.1.length = k2 ∧ ou.1.length = k3 ∧ ba.1.length = k5 ∧ co.1.length = k6 ∧ ga.1.length = k4)
        have C1 := Lib.hid (fun W (rd : RdS R R most (.ok rest) W) => latches_any R R most f1 k2 (.ok rest) W rd (Nat.le_refl _) HBB.out.1 HBB.out.2.2.1)
        have C2 := Lib.hid (fun W (rd : RdS R R most la.2 W) => literals_any R R most k3 la.2 W rd (Nat.le_refl _) HBB.out.2.2.2.1 HBB.out.2.2.1)
        have C3 := Lib.hid (fun W (rd : RdS R R most ou.2 W) => literals_any R R most k5 ou.2 W rd (Nat.le_refl _) HBB.out.2.2.2.2.1 HBB.out.2.2.1)
        have C4 := Lib.hid (fun W (rd : RdS R R most ba.2 W) => literals_any R R most k6 ba.2 W rd (Nat.le_refl _) HBB.out.2.2.2.2.2 HBB.out.2.2.1)
        have C5 := Lib.hid (fun W (rd : RdS R R most co.2 W) => gates_any R R most f2 k4 co.2 W rd (Nat.le_refl _) HBB.out.2.1)
        rw [← hla] at C1
        rw [← hou] at C2
        rw [← hba] at C3
        rw [← hco] at C4
        rw [← hga] at C5
        clear hla hou hba hco hga ql qo qb qc qg HBB
        refine (C1.out _ F0.out.rd).mono ?_
        rintro e c1 ⟨v1, rfl, hv1, hrd1, hg1⟩
        obtain ⟨p1, q1, rfl⟩ := own2_form hv1
        have hc1 := F0.out.call hg1 hrd1
        have rl := Lib.hid hv1
        have rlb := Lib.hid F0.out.up
        have G1 := Lib.hid hc1.1
        clear hc1 hv1 hrd1 hg1 F0
        have y0 := cell_of_block G1.out.cir 1
        have y1 := unfrozen_of_block G1.out.cir 1
        go_upto_region 12 with fail
        generalize hW : World.setCell _ _ _ = X1
        have hs1 := G1.out.store 1 (.slice p1 la.1.length q1)
        rw [hW] at hs1
        have rlk := Lib.hid ((hs1.2).own2 rl.out rlb.out)
        have rlkb := rlb
        clear rl rlb
        have F1 : Hid (GetF w W4 w.heap.size R CB most #[.int .i64 (k1 : Int), .slice p1 la.1.length q1, .slice none 0 0, .slice none 0 0, .slice none 0 0, .slice none 0 0] la.2 X1) := hs1.1
        clear hs1 hW y0 y1 G1
        go_wp2_with fail
        refine (C2.out _ F1.out.rd).mono ?_
        rintro e c2 ⟨v2, rfl, hv2, hrd2, hg2⟩
        obtain ⟨p2, q2, rfl⟩ := hv2.form
        have hc2 := F1.out.call hg2 hrd2
        have ro := Lib.hid hv2
        have rob := Lib.hid F1.out.up
        have rlkk := Lib.hid ((hc2.2).own2 rlk.out rlkb.out)
        have rlkkb := rlkb
        clear rlk rlkb
        have G2 := Lib.hid hc2.1
        clear hc2 hv2 hrd2 hg2 F1
        have y0 := cell_of_block G2.out.cir 3
        have y1 := unfrozen_of_block G2.out.cir 3
        go_upto_region 13 with fail
        generalize hW : World.setCell _ _ _ = X2
        have hs2 := G2.out.store 3 (.slice p2 k3 q2)
        rw [hW] at hs2
        have rlkkk := Lib.hid ((hs2.2).own2 rlkk.out rlkkb.out)
        have rlkkkb := rlkkb
        clear rlkk rlkkb
        have rok := Lib.hid ((hs2.2).row ro.out rob.out)
        have rokb := rob
        clear ro rob
        have F2 : Hid (GetF w W4 w.heap.size R CB most #[.int .i64 (k1 : Int), .slice p1 la.1.length q1, .slice none 0 0, .slice p2 k3 q2, .slice none 0 0, .slice none 0 0] ou.2 X2) := hs2.1
        clear hs2 hW y0 y1 G2
        go_wp2_with fail
        refine (C3.out _ F2.out.rd).mono ?_
        rintro e c3 ⟨v3, rfl, hv3, hrd3, hg3⟩
        obtain ⟨p3, q3, rfl⟩ := hv3.form
        have hc3 := F2.out.call hg3 hrd3
        have rb := Lib.hid hv3
        have rbb := Lib.hid F2.out.up
        have rlkkkk := Lib.hid ((hc3.2).own2 rlkkk.out rlkkkb.out)
        have rlkkkkb := rlkkkb
        clear rlkkk rlkkkb
        have rokk := Lib.hid ((hc3.2).row rok.out rokb.out)
        have rokkb := rokb
        clear rok rokb
        have G3 := Lib.hid hc3.1
        clear hc3 hv3 hrd3 hg3 F2
        have y0 := cell_of_block G3.out.cir 4
        have y1 := unfrozen_of_block G3.out.cir 4
        go_upto_region 14 with fail
        generalize hW : World.setCell _ _ _ = X3
        have hs3 := G3.out.store 4 (.slice p3 k5 q3)
        rw [hW] at hs3
        have rlkkkkk := Lib.hid ((hs3.2).own2 rlkkkk.out rlkkkkb.out)
        have rlkkkkkb := rlkkkkb
        clear rlkkkk rlkkkkb
        have rokkk := Lib.hid ((hs3.2).row rokk.out rokkb.out)
        have rokkkb := rokkb
        clear rokk rokkb
        have rbk := Lib.hid ((hs3.2).row rb.out rbb.out)
        have rbkb := rbb
        clear rb rbb
        have F3 : Hid (GetF w W4 w.heap.size R CB most #[.int .i64 (k1 : Int), .slice p1 la.1.length q1, .slice none 0 0, .slice p2 k3 q2, .slice p3 k5 q3, .slice none 0 0] ba.2 X3) := hs3.1
        clear hs3 hW y0 y1 G3
        go_wp2_with fail
        refine (C4.out _ F3.out.rd).mono ?_
        rintro e c4 ⟨v4, rfl, hv4, hrd4, hg4⟩
        obtain ⟨p4, q4, rfl⟩ := hv4.form
        have hc4 := F3.out.call hg4 hrd4
        have rc := Lib.hid hv4
        have rcb := Lib.hid F3.out.up
        have rlkkkkkk := Lib.hid ((hc4.2).own2 rlkkkkk.out rlkkkkkb.out)
        have rlkkkkkkb := rlkkkkkb
        clear rlkkkkk rlkkkkkb
        have rokkkk := Lib.hid ((hc4.2).row rokkk.out rokkkb.out)
        have rokkkkb := rokkkb
        clear rokkk rokkkb
        have rbkk := Lib.hid ((hc4.2).row rbk.out rbkb.out)
        have rbkkb := rbkb
        clear rbk rbkb
        have G4 := Lib.hid hc4.1
        clear hc4 hv4 hrd4 hg4 F3
        have y0 := cell_of_block G4.out.cir 5
        have y1 := unfrozen_of_block G4.out.cir 5
        go_upto_region 15 with fail
        generalize hW : World.setCell _ _ _ = X4
        have hs4 := G4.out.store 5 (.slice p4 k6 q4)
        rw [hW] at hs4
        have rlkkkkkkk := Lib.hid ((hs4.2).own2 rlkkkkkk.out rlkkkkkkb.out)
        have rlkkkkkkkb := rlkkkkkkb
        clear rlkkkkkk rlkkkkkkb
        have rokkkkk := Lib.hid ((hs4.2).row rokkkk.out rokkkkb.out)
        have rokkkkkb := rokkkkb
        clear rokkkk rokkkkb
        have rbkkk := Lib.hid ((hs4.2).row rbkk.out rbkkb.out)
        have rbkkkb := rbkkb
        clear rbkk rbkkb
        have rck := Lib.hid ((hs4.2).row rc.out rcb.out)
        have rckb := rcb
        clear rc rcb
        have F4 : Hid (GetF w W4 w.heap.size R CB most #[.int .i64 (k1 : Int), .slice p1 la.1.length q1, .slice none 0 0, .slice p2 k3 q2, .slice p3 k5 q3, .slice p4 k6 q4] co.2 X4) := hs4.1
        clear hs4 hW y0 y1 G4
        go_wp2_with fail
        refine (C5.out _ F4.out.rd).mono ?_
        rintro e c5 ⟨v5, rfl, hv5, hrd5, hg5⟩
        obtain ⟨p5, q5, rfl⟩ := own2_form hv5
        have hc5 := F4.out.call hg5 hrd5
        have rg := Lib.hid hv5
        have rgb := Lib.hid F4.out.up
        have rlkkkkkkkk := Lib.hid ((hc5.2).own2 rlkkkkkkk.out rlkkkkkkkb.out)
        have rlkkkkkkkkb := rlkkkkkkkb
        clear rlkkkkkkk rlkkkkkkkb
        have rokkkkkk := Lib.hid ((hc5.2).row rokkkkk.out rokkkkkb.out)
        have rokkkkkkb := rokkkkkb
        clear rokkkkk rokkkkkb
        have rbkkkk := Lib.hid ((hc5.2).row rbkkk.out rbkkkb.out)
        have rbkkkkb := rbkkkb
        clear rbkkk rbkkkb
        have rckk := Lib.hid ((hc5.2).row rck.out rckb.out)
        have rckkb := rckb
        clear rck rckb
        have G5 := Lib.hid hc5.1
        clear hc5 hv5 hrd5 hg5 F4
        have y0 := cell_of_block G5.out.cir 2
        have y1 := unfrozen_of_block G5.out.cir 2
        go_upto_region 16 with fail
        generalize hW : World.setCell _ _ _ = X5
        have hs5 := G5.out.store 2 (.slice p5 ga.1.length q5)
        rw [hW] at hs5
        have rlkkkkkkkkk := Lib.hid ((hs5.2).own2 rlkkkkkkkk.out rlkkkkkkkkb.out)
        have rlkkkkkkkkkb := rlkkkkkkkkb
        clear rlkkkkkkkk rlkkkkkkkkb
        have rokkkkkkk := Lib.hid ((hs5.2).row rokkkkkk.out rokkkkkkb.out)
        have rokkkkkkkb := rokkkkkkb
        clear rokkkkkk rokkkkkkb
        have rbkkkkk := Lib.hid ((hs5.2).row rbkkkk.out rbkkkkb.out)
        have rbkkkkkb := rbkkkkb
        clear rbkkkk rbkkkkb
        have rckkk := Lib.hid ((hs5.2).row rckk.out rckkb.out)
        have rckkkb := rckkb
        clear rckk rckkb
        have rgk := Lib.hid ((hs5.2).own2 rg.out rgb.out)
        have rgkb := rgb
        clear rg rgb
        have F5 : Hid (GetF w W4 w.heap.size R CB most #[.int .i64 (k1 : Int), .slice p1 la.1.length q1, .slice p5 ga.1.length q5, .slice p2 k3 q2, .slice p3 k5 q3, .slice p4 k6 q4] ga.2 X5) := hs5.1
        clear hs5 hW y0 y1 G5
        clear C1 C2 C3 C4 C5
        have HRD := F5.out.rd
        have HRES := Lib.hid F5.out.res
        have HCIR := Lib.hid F5.out.cir
        have HLOW := Lib.hid F5.out.low
        have HUP := Lib.hid F5.out.up
        have HORD := Lib.hid F5.out.ord
        clear F5
        cases hga2 : ga.2 with
        | error er =>
          rw [hga2] at HRD HGT
          obtain ⟨ar, nr, cr, er', bs', hR, hltr, hnr, rfl, hne⟩ := HRD
          have HE : Hid (S = .error er') := HGT.out
          have HNE := Lib.hid hne
          have e3 : (er' != 0) = true := by simpa using hne
          have z2 := cell_of_block hR.box 2
          have r0 := cell_of_block HRES.out 0
          have u0 := unfrozen_of_block HRES.out 0
          have r1 := cell_of_block HRES.out 1
          have u1 := unfrozen_of_block HRES.out 1
          have r2 := cell_of_block HRES.out 2
          have u2 := unfrozen_of_block HRES.out 2
          have r3 := cell_of_block HRES.out 3
          have u3 := unfrozen_of_block HRES.out 3
          have r4 := cell_of_block HRES.out 4
          have u4 := unfrozen_of_block HRES.out 4
          have r5 := cell_of_block HRES.out 5
          have u5 := unfrozen_of_block HRES.out 5
          have hRR : R ≠ w.heap.size := by have := HORD.out; omega
          clear hR hltr hnr hne hga2 HGT HCIR rlkkkkkkkkk rokkkkkkk rbkkkkk rckkk rgk rlkkkkkkkkkb rokkkkkkkb rbkkkkkb rckkkb rgkb Q
          go_wp2_with fail
          go_region
          go_wp2
          refine bodyPost_ret (v := .tuple #[zeroCir, .int .i64 er']) ?_ rfl ?_
          · have h6 := cir_set HRES.out rfl (.int .i64 0) (.slice none 0 0) (.slice none 0 0) (.slice none 0 0) (.slice none 0 0) (.slice none 0 0)
            simp [results, Tryz.results8, go_sem, cell_of_block h6 0, cell_of_block h6 1, cell_of_block h6 2, cell_of_block h6 3, cell_of_block h6 4, cell_of_block h6 5]
            rfl
          · exact ⟨(set6 w.heap.size (Nat.le_refl _) HLOW.out).drew, .inr ⟨er', HSS.out.symm.trans HE.out, HNE.out, rfl⟩⟩
        | ok r =>
          rw [hga2] at HRD HGT
          obtain ⟨ar, nr, cr, er', bs', hR, hltr, hnr, rfl, rfl⟩ := HRD
          simp only at HGT
          have HN := Lib.hid (names_any bs' k1 k2 k3 k5 k6 ar nr cr X5 hR.sees (by omega))
          obtain ⟨en, hen⟩ : ∃ x, x = namesErr [k1, k2, k3, k5, k6] bs' := ⟨_, rfl⟩
          rw [← hen] at HN HGT
          have z0 := cell_of_block hR.box 0
          have z2 := cell_of_block hR.box 2
          unfold manyV at HN
          clear hR hltr hnr hga2 hen
          go_wp2_with fail
          refine HN.out.mono ?_
          rintro e wn ⟨rfl, hbn⟩
          have HRES2 := Lib.hid (heap_below HRES.out hbn)
          have HCIR2 := Lib.hid (heap_below HCIR.out hbn)
          have HLOW2 := Lib.hid (ext_trans HLOW.out hbn)
          have HUP2 := Lib.hid (Nat.le_trans HUP.out hbn.size)
          have A1 := Lib.hid (own2_below rlkkkkkkkkk.out hbn)
          have A2 := Lib.hid (rokkkkkkk.out.below hbn)
          have A3 := Lib.hid (rbkkkkk.out.below hbn)
          have A4 := Lib.hid (rckkk.out.below hbn)
          have A5 := Lib.hid (own2_below rgk.out hbn)
          clear rlkkkkkkkkk rokkkkkkk rbkkkkk rckkk rgk HRES HCIR HLOW HUP hbn HN z0 z2
          have r0 := cell_of_block HRES2.out 0
          have u0 := unfrozen_of_block HRES2.out 0
          have r1 := cell_of_block HRES2.out 1
          have u1 := unfrozen_of_block HRES2.out 1
          have r2 := cell_of_block HRES2.out 2
          have u2 := unfrozen_of_block HRES2.out 2
          have r3 := cell_of_block HRES2.out 3
          have u3 := unfrozen_of_block HRES2.out 3
          have r4 := cell_of_block HRES2.out 4
          have u4 := unfrozen_of_block HRES2.out 4
          have r5 := cell_of_block HRES2.out 5
          have u5 := unfrozen_of_block HRES2.out 5
          by_cases hen0 : en = 0
          · have HE := Lib.hid (show S = _ by rw [HGT.out, if_pos hen0])
            subst hen0
            have y0 := cell_of_block HCIR2.out 0
            have y1 := cell_of_block HCIR2.out 1
            have y2 := cell_of_block HCIR2.out 2
            have y3 := cell_of_block HCIR2.out 3
            have y4 := cell_of_block HCIR2.out 4
            have y5 := cell_of_block HCIR2.out 5
            clear HGT
            go_wp2
            refine bodyPost_ret (v := .tuple #[cirV (k1 : Int) ⟨p1, la.1.length, q1, p5, ga.1.length, q5, p2, k3, q2, p3, k5, q3, p4, k6, q4⟩, .int .i64 0]) ?_ rfl ?_
            · have h6 := cir_set HRES2.out rfl (.int .i64 (k1 : Int)) (.slice p1 la.1.length q1) (.slice p5 ga.1.length q5) (.slice p2 k3 q2) (.slice p3 k5 q3) (.slice p4 k6 q4)
              simp [results, Tryz.results8, go_sem, cell_of_block h6 0, cell_of_block h6 1, cell_of_block h6 2, cell_of_block h6 3, cell_of_block h6 4, cell_of_block h6 5]
              rfl
            · refine ⟨set6 w.heap.size (Nat.le_refl _) HLOW2.out, .inl ⟨_, ⟨p1, la.1.length, q1, p5, ga.1.length, q5, p2, k3, q2, p3, k5, q3, p4, k6, q4⟩, HSS.out.symm.trans HE.out, rfl, ?_⟩⟩
              have ho := HORD.out
              have hk6 : ∀ u0 u1 u2 u3 u4 u5 : Value, Keeps W4 wn ((((((wn.setCell ⟨w.heap.size, 0, .none⟩ u0).setCell ⟨w.heap.size, 1, .none⟩ u1).setCell ⟨w.heap.size, 2, .none⟩ u2).setCell ⟨w.heap.size, 3, .none⟩ u3).setCell ⟨w.heap.size, 4, .none⟩ u4).setCell ⟨w.heap.size, 5, .none⟩ u5) := fun u0 u1 u2 u3 u4 u5 => ⟨by simp, fun k h1 _ => set6_other w.heap.size k (by omega) _ _ _ _ _ _⟩
              have kk := hk6 (.int .i64 (k1 : Int)) (.slice p1 la.1.length q1) (.slice p5 ga.1.length q5) (.slice p2 k3 q2) (.slice p3 k5 q3) (.slice p4 k6 q4)
              exact ⟨own2_sees_slice (kk.own2 A1.out rlkkkkkkkkkb.out), own2_sees_slice (kk.own2 A5.out rgkb.out), (row_sees_slice (kk.row A2.out rokkkkkkkb.out)).2, (row_sees_slice (kk.row A3.out rbkkkkkb.out)).2, (row_sees_slice (kk.row A4.out rckkkb.out)).2⟩
          · have HE := Lib.hid (show S = _ by rw [HGT.out, if_neg hen0])
            have HNE := Lib.hid hen0
            have e3 : (en != 0) = true := by simpa using hen0
            clear HGT hen0
            go_wp2
            refine bodyPost_ret (v := .tuple #[zeroCir, .int .i64 en]) ?_ rfl ?_
            · have h6 := cir_set HRES2.out rfl (.int .i64 0) (.slice none 0 0) (.slice none 0 0) (.slice none 0 0) (.slice none 0 0) (.slice none 0 0)
              simp [results, Tryz.results8, go_sem, cell_of_block h6 0, cell_of_block h6 1, cell_of_block h6 2, cell_of_block h6 3, cell_of_block h6 4, cell_of_block h6 5]
              rfl
            · exact ⟨set6 w.heap.size (Nat.le_refl _) HLOW2.out, .inr ⟨en, HSS.out.symm.trans HE.out, HNE.out, rfl⟩⟩
    · have HE : Hid (S = .error er) := by show _ = _; rw [HG2.out, hhs]
      have e2 : (er != 0) = true := by simpa using hne
      have HNE := Lib.hid hne
      have r0 := cell_of_block HR1.out 0
      have r1 := cell_of_block HR1.out 1
      have r2 := cell_of_block HR1.out 2
      have r3 := cell_of_block HR1.out 3
      have r4 := cell_of_block HR1.out 4
      have r5 := cell_of_block HR1.out 5
      have f0 := unfrozen_of_block HR1.out 0
      have f1 := unfrozen_of_block HR1.out 1
      have f2 := unfrozen_of_block HR1.out 2
      have f3 := unfrozen_of_block HR1.out 3
      have f4 := unfrozen_of_block HR1.out 4
      have f5 := unfrozen_of_block HR1.out 5
      have hlt := heap_lt HR1.out
      have hne1 : ¬ w.heap.size = w1.heap.size := by omega
      have hne2 : ¬ w1.heap.size = w.heap.size := by omega
      clear hhs hne HG2 HSML
      unfold zeroSeven
      go_wp2
      refine bodyPost_ret (v := .tuple #[zeroCir, .int .i64 er]) ?_ rfl ?_
      · have h6 := heap_below (cir_set HR1.out rfl (.int .i64 0) (.slice none 0 0) (.slice none 0 0) (.slice none 0 0) (.slice none 0 0) (.slice none 0 0)) (ext_alloc _ (.cells #[.int .u32 0, .int .u32 0, .int .u32 0, .int .u32 0, .int .u32 0, .int .u32 0, .int .u32 0] 63))
        simp [results, Tryz.results8, go_sem, cell_of_block h6 0, cell_of_block h6 1, cell_of_block h6 2, cell_of_block h6 3, cell_of_block h6 4, cell_of_block h6 5]
        rfl
      · exact ⟨ext_trans (set6 w.heap.size (Nat.le_refl _) HB1.out) (ext_alloc _ _), .inr ⟨er, HSS.out.symm.trans HE.out, HNE.out, rfl⟩⟩
end Go.Proofs.YtglhnmbfkbjemaaGreatDoor
