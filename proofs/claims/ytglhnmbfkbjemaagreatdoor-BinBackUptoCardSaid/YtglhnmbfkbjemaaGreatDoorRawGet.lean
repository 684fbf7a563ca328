/- raw.Get, by its contract. -/
import Derived.Test.YtglhnmbfkbjemaaGreatDoorBkG
import Derived.Test.YtglhnmbfkbjemaaGreatDoorBkH
import Derived.Test.YtglhnmbfkbjemaaGreatDoorRawSectL
import Derived.Test.YtglhnmbfkbjemaaGreatDoorRawSectG
import Derived.Deep.RegionHeld3
namespace Go.Proofs.YtglhnmbfkbjemaaGreatDoor
open Go Go.RowKit Go.Joins
def zeroRaw : Value := .agg #[.int .u32 0, .slice none 0 0, .slice none 0 0, .slice none 0 0, .slice none 0 0, .slice none 0 0, .slice none 0 0]
def GetPost (bs : List UInt8) (w : World) (e : Ending) (w' : World) : Prop :=
  Below w.heap.size w w' ∧ ((∃ r s, getS bs = .ok r ∧ e = .returned (.tuple #[rawV r.max s, .int .i64 0]) ∧ SeesRaw w' s r) ∨
    (∃ er, getS bs = .error er ∧ er ≠ 0 ∧ e = .returned (.tuple #[zeroRaw, .int .i64 er])))
theorem head_most {word bs rest : List UInt8} {l : List Nat} (h : headS word bs = .ok (l, rest)) : l.getD 0 0 ≤ 16384 ∧ (∀ k, l.getD k 0 ≤ 16384) ∧ rest.length ≤ bs.length := by
  unfold headS at h
  cases hc : cutS bs with
  | none => rw [hc] at h; cases h
  | some p =>
    obtain ⟨line, r⟩ := p
    rw [hc] at h
    simp only at h
    split at h
    · rename_i h0
      cases h
      have hl := cutS_len hc
      have key : ∀ k, (headNums line).getD k 0 ≤ 16384 := by
        unfold headErr at h0
        cases hw : wordsOf line with
        | none => rw [hw] at h0; cases h0
        | some W =>
          rw [hw] at h0
          simp only at h0
          split at h0
          · cases h0
          · split at h0
            · rename_i h1 h2; exact absurd h0 h2
            · unfold checkErr at h0
              split at h0
              · cases h0
              · split at h0
                · cases h0
                · split at h0
                  · cases h0
                  · rename_i h1 h2 h3 h4 h5
                    have hn : headNums line = (nineOf (W.drop 1)).take 7 := by unfold headNums; rw [hw]; rfl
                    intro k
                    rw [hn]
                    rcases Nat.lt_or_ge k 7 with hk | hk
                    · have e : ((nineOf (W.drop 1)).take 7).getD k 0 = (nineOf (W.drop 1)).getD k 0 := by
                        rw [List.getD_eq_getElem?_getD, List.getElem?_take_of_lt hk, ← List.getD_eq_getElem?_getD]
                      rw [e]
                      match k, hk with
                      | 0, _ => omega
                      | 1, _ => omega
                      | 2, _ => omega
                      | 3, _ => omega
                      | 4, _ => omega
                      | 5, _ => omega
                      | 6, _ => omega
                    · have hno : ((nineOf (W.drop 1)).take 7)[k]? = none := List.getElem?_eq_none (Nat.le_trans (List.length_take_le _ _) hk)
                      rw [List.getD_eq_getElem?_getD, hno]
                      exact Nat.zero_le _
      exact ⟨key 0, key, by omega⟩
    · cases h
theorem sect_len {α : Type} {item : List UInt8 → Nat → Except Int α} {most : Nat} : ∀ {k : Nat} {b : List UInt8} {xs : List α} {r : List UInt8}, sectS item most k b = .ok (xs, r) → r.length ≤ b.length
  | 0, b, xs, r, h => by cases h; exact Nat.le_refl _
  | k + 1, b, xs, r, h => by
    rw [sectS] at h
    cases hc : cutS b with
    | none => rw [hc] at h; cases h
    | some p =>
      obtain ⟨line, rest⟩ := p
      rw [hc] at h
      simp only at h
      have hl := cutS_len hc
      cases hi : item line most with
      | error e => rw [hi] at h; cases h
      | ok x =>
        rw [hi] at h
        simp only at h
        cases hs : sectS item most k rest with
        | error e => rw [hs] at h; cases h
        | ok q =>
          obtain ⟨ys, r'⟩ := q
          rw [hs] at h
          cases h
          have := sect_len hs
          omega
structure GetI (w0 : World) (H RB FS : Nat) (u1 u2 u3 u4 u5 u6 : Nat) (g0 g1 g2 g3 g4 g5 : Value) (W : World) : Prop where
  f0 : W.cell? ⟨FS, 0, none⟩ = some g0
  f1 : W.cell? ⟨FS, 1, none⟩ = some g1
  f2 : W.cell? ⟨FS, 2, none⟩ = some g2
  f3 : W.cell? ⟨FS, 3, none⟩ = some g3
  f4 : W.cell? ⟨FS, 4, none⟩ = some g4
  f5 : W.cell? ⟨FS, 5, none⟩ = some g5
  x1 : W.cell? ⟨H, 1, none⟩ = some (.int .u32 u1)
  x2 : W.cell? ⟨H, 2, none⟩ = some (.int .u32 u2)
  x3 : W.cell? ⟨H, 3, none⟩ = some (.int .u32 u3)
  x4 : W.cell? ⟨H, 4, none⟩ = some (.int .u32 u4)
  x5 : W.cell? ⟨H, 5, none⟩ = some (.int .u32 u5)
  x6 : W.cell? ⟨H, 6, none⟩ = some (.int .u32 u6)
  r : W.heap[w0.heap.size]? = some (.cells #[.int .u32 0, .slice none 0 0, .slice none 0 0, .slice none 0 0, .slice none 0 0, .slice none 0 0, .slice none 0 0] 39 (0, 0))
  nf : FS ≠ RB
  nh : H ≠ RB
  nr : w0.heap.size < RB
  bel : Below w0.heap.size w0 W
theorem GetI.but {w0 : World} {H RB FS u1 u2 u3 u4 u5 u6 : Nat} {g0 g1 g2 g3 g4 g5 : Value} {W W' : World} (h : GetI w0 H RB FS u1 u2 u3 u4 u5 u6 g0 g1 g2 g3 g4 g5 W) (hg : W.grownBy W' (some RB)) : GetI w0 H RB FS u1 u2 u3 u4 u5 u6 g0 g1 g2 g3 g4 g5 W' := by
  have nr := h.nr
  refine ⟨cell_but h.f0 hg h.nf, cell_but h.f1 hg h.nf, cell_but h.f2 hg h.nf, cell_but h.f3 hg h.nf, cell_but h.f4 hg h.nf, cell_but h.f5 hg h.nf, cell_but h.x1 hg h.nh, cell_but h.x2 hg h.nh, cell_but h.x3 hg h.nh, cell_but h.x4 hg h.nh, cell_but h.x5 hg h.nh, cell_but h.x6 hg h.nh, ?_, h.nf, h.nh, h.nr, ?_⟩
  · exact (hg.block _ (heap_lt h.r) (fun e => by cases e; omega)).trans h.r
  · exact ⟨hg.os.trans h.bel.os, hg.tape.trans h.bel.tape, hg.output.trans h.bel.output, Nat.le_trans h.bel.size hg.size, fun k hk => (hg.block k (Nat.lt_of_lt_of_le hk h.bel.size) (fun e => by cases e; omega)).trans (h.bel.block k hk)⟩
def getTail (h : List Nat) (r0 : List UInt8) : Except Int RawC :=
  match sectS litS (2 * h.getD 0 0 + 1) (h.getD 1 0) r0 with
  | .error e => .error e
  | .ok (ins, r1) => match sectS latS (2 * h.getD 0 0 + 1) (h.getD 2 0) r1 with
    | .error e => .error e
    | .ok (lats, r2) => match sectS litS (2 * h.getD 0 0 + 1) (h.getD 3 0) r2 with
      | .error e => .error e
      | .ok (outs, r3) => match sectS litS (2 * h.getD 0 0 + 1) (h.getD 5 0) r3 with
        | .error e => .error e
        | .ok (bads, r4) => match sectS litS (2 * h.getD 0 0 + 1) (h.getD 6 0) r4 with
          | .error e => .error e
          | .ok (cons, r5) => match sectS gateS (2 * h.getD 0 0 + 1) (h.getD 4 0) r5 with
            | .error e => .error e
            | .ok (gates, r6) => if namesErr [h.getD 1 0, h.getD 2 0, h.getD 3 0, h.getD 5 0, h.getD 6 0] r6 = 0 then .ok ⟨h.getD 0 0, ins, lats, outs, bads, cons, gates⟩
              else .error (namesErr [h.getD 1 0, h.getD 2 0, h.getD 3 0, h.getD 5 0, h.getD 6 0] r6)
theorem getS_small {bs : List UInt8} (h : ¬ 1048576 < bs.length) : getS bs = match headS [97, 97, 103] bs with
    | .error e => .error e
    | .ok (l, r) => getTail l r := by
  unfold getS
  rw [if_neg h]
  rfl
set_option maxRecDepth 100000 in
set_option maxHeartbeats 1000000 in
theorem get_any (bs : List UInt8) (a : Option Addr) (n c : Nat) (w : World) (h : Sees w a n c (bs.map bv)) (hn : n ≤ 9223372036854775807) :
    Calls Tryz.prog 29 #[.slice a n c] w (GetPost bs w) := by
  have hbl := h.lenMap
  by_cases hbig : 1048576 < n
  · have e1 : decide ((1048576 : Int) < (n : Int)) = true := by simp; omega
    have hg : getS bs = .error 3 := by unfold getS; rw [hbl, if_pos hbig]
    have HG := Lib.hid hg
    clear h hbl hg
    go_enter Tryz.func29, Tryz.ntmps29
    go_wp2
    refine bodyPost_ret (v := .tuple #[zeroRaw, .int .i64 3]) ?_ rfl ?_
    · simp [results, Tryz.results29, go_sem]
      rfl
    · refine ⟨?_, Or.inr ⟨3, HG.out, by decide, rfl⟩⟩
      first
        | (with_reducible exact ext_alloc _ _)
        | (with_reducible exact set7 w.heap.size (Nat.le_refl _) (ext_alloc _ _))
  · have e1 : decide ((1048576 : Int) < (n : Int)) = false := by simp; omega
    have HHD := Lib.hid (fun o : Obj => head_any [97, 97, 103] bs a n c (w.alloc o) (h.below (ext_alloc _ _)) (by omega))
    have hgs := getS_small (bs := bs) (by omega)
    have HGS := Lib.hid hgs
    have hbl2 : bs.length ≤ 1048576 := by omega
    clear h hbl hgs
    go_enter Tryz.func29, Tryz.ntmps29
    go_wp2_with fail
    refine (HHD.out _).mono ?_
    rintro e w1 ⟨hb1, hp⟩
    have HR1 := Lib.hid (heap_below (heap_new w (.cells #[.int .u32 0, .slice none 0 0, .slice none 0 0, .slice none 0 0, .slice none 0 0, .slice none 0 0, .slice none 0 0] 39) w.heap.size rfl) hb1)
    have HB1 := Lib.hid (ext_behind hb1)
    have hRlt := heap_lt HR1.out
    clear hb1
    rcases hp with ⟨L, rest, a2, c2, hhs, rfl, hs2, hlow⟩ | ⟨er, hhs, h0, rfl⟩
    · have hgs2 : getS bs = getTail L rest := by rw [HGS.out, hhs]
      obtain ⟨hm0, hle, hrl⟩ := head_most hhs
      obtain ⟨u0, hu0⟩ : ∃ u, u = L.getD 0 0 := ⟨_, rfl⟩
      obtain ⟨u1, hu1⟩ : ∃ u, u = L.getD 1 0 := ⟨_, rfl⟩
      obtain ⟨u2, hu2⟩ : ∃ u, u = L.getD 2 0 := ⟨_, rfl⟩
      obtain ⟨u3, hu3⟩ : ∃ u, u = L.getD 3 0 := ⟨_, rfl⟩
      obtain ⟨u4, hu4⟩ : ∃ u, u = L.getD 4 0 := ⟨_, rfl⟩
      obtain ⟨u5, hu5⟩ : ∃ u, u = L.getD 5 0 := ⟨_, rfl⟩
      obtain ⟨u6, hu6⟩ : ∃ u, u = L.getD 6 0 := ⟨_, rfl⟩
      have hL1 := hle 1
      have hL2 := hle 2
      have hL3 := hle 3
      have hL4 := hle 4
      have hL5 := hle 5
      have hL6 := hle 6
      have es : sevenV L = .agg #[.int .u32 u0, .int .u32 u1, .int .u32 u2, .int .u32 u3, .int .u32 u4, .int .u32 u5, .int .u32 u6] := by unfold sevenV; rw [hu0, hu1, hu2, hu3, hu4, hu5, hu6]
      rw [es]
      unfold getTail at hgs2
      rw [← hu0, ← hu1, ← hu2, ← hu3, ← hu4, ← hu5, ← hu6] at hgs2
      rw [← hu0] at hm0
      rw [← hu1] at hL1
      rw [← hu2] at hL2
      rw [← hu3] at hL3
      rw [← hu4] at hL4
      rw [← hu5] at hL5
      rw [← hu6] at hL6
      have HG2 := Lib.hid hgs2
      have HS2 := Lib.hid hs2
      have HLOW := Lib.hid hlow
      clear hgs2 hhs hle hu0 hu1 hu2 hu3 hu4 hu5 hu6 es hs2 hlow HGS
      go_wp2_with fail
      generalize hX : World.alloc (World.alloc w1 _) _ = X0
      have x1 : X0.cell? ⟨w1.heap.size, 1, none⟩ = some (.int .u32 u1) := by subst hX; exact cell_old (cell_new _ _ _ _ _ _ _ rfl rfl)
      have x2 : X0.cell? ⟨w1.heap.size, 2, none⟩ = some (.int .u32 u2) := by subst hX; exact cell_old (cell_new _ _ _ _ _ _ _ rfl rfl)
      have x3 : X0.cell? ⟨w1.heap.size, 3, none⟩ = some (.int .u32 u3) := by subst hX; exact cell_old (cell_new _ _ _ _ _ _ _ rfl rfl)
      have x4 : X0.cell? ⟨w1.heap.size, 4, none⟩ = some (.int .u32 u4) := by subst hX; exact cell_old (cell_new _ _ _ _ _ _ _ rfl rfl)
      have x5 : X0.cell? ⟨w1.heap.size, 5, none⟩ = some (.int .u32 u5) := by subst hX; exact cell_old (cell_new _ _ _ _ _ _ _ rfl rfl)
      have x6 : X0.cell? ⟨w1.heap.size, 6, none⟩ = some (.int .u32 u6) := by subst hX; exact cell_old (cell_new _ _ _ _ _ _ _ rfl rfl)
      have HXR : Hid (X0.heap[w1.heap.size + 1]? = some (.cells #[.int .u32 u0, .slice none 0 0, .slice none 0 0, .slice none 0 0, .slice none 0 0, .slice none 0 0, .slice none 0 0] 39 (0, 0))) := by subst hX; exact heap_new _ _ _ (by simp)
      have HXB : Hid (Below w1.heap.size w1 X0) := by subst hX; exact ext_trans (ext_alloc _ _) (ext_alloc _ _)
      have hXlt := heap_lt HXR.out
      clear hX
      refine (mostLit_any u0 hm0 X0).mono ?_
      rintro e w' ⟨rfl, rfl⟩
      obtain ⟨most, hmost⟩ : ∃ m, m = 2 * u0 + 1 := ⟨_, rfl⟩
      rw [← hmost] at HG2
      rw [← hmost]
      have hml : most ≤ 32769 := by omega
      have HMO := Lib.hid hmost
      clear hmost
      go_wp2_with fail
      go_region_held3 (fun w' => w'.cell? ⟨w1.heap.size, 1, none⟩ = some (.int .u32 u1) ∧ w'.cell? ⟨w1.heap.size, 2, none⟩ = some (.int .u32 u2) ∧ w'.cell? ⟨w1.heap.size, 3, none⟩ = some (.int .u32 u3) ∧ w'.cell? ⟨w1.heap.size, 4, none⟩ = some (.int .u32 u4) ∧ w'.cell? ⟨w1.heap.size, 5, none⟩ = some (.int .u32 u5) ∧ w'.cell? ⟨w1.heap.size, 6, none⟩ = some (.int .u32 u6))
        (first | exact ⟨x1, x2, x3, x4, x5, x6⟩ | exact ⟨d11, d12, d13, d14, d15, d16⟩ | exact ⟨d21, d22, d23, d24, d25, d26⟩ | exact ⟨d31, d32, d33, d34, d35, d36⟩ | exact ⟨d41, d42, d43, d44, d45, d46⟩ | exact ⟨d51, d52, d53, d54, d55, d56⟩ | exact ⟨d61, d62, d63, d64, d65, d66⟩ | go_keep)
        (first
          | (go_at_call 60; (with_reducible refine (section_u32 (w1.heap.size + 1) 1 u1 most 61 _).mono ?_); rintro e s1 ⟨rfl, k1, b1⟩; have B1 : Below X0.heap.size X0 s1 := (by first | exact ext_trans (Below.refl _ X0) b1 | exact ext_trans ((Below.refl _ X0).drew) b1); have d11 := cell_below x1 B1; have d12 := cell_below x2 B1; have d13 := cell_below x3 B1; have d14 := cell_below x4 B1; have d15 := cell_below x5 B1; have d16 := cell_below x6 B1)
          | (go_at_call 62; (with_reducible refine (section_lat (w1.heap.size + 1) 2 u2 most 63 _).mono ?_); rintro e s2 ⟨rfl, k2, b2⟩; have B2 : Below X0.heap.size X0 s2 := (by first | exact ext_trans B1 b2 | exact ext_trans (B1.drew) b2); have d21 := cell_below x1 B2; have d22 := cell_below x2 B2; have d23 := cell_below x3 B2; have d24 := cell_below x4 B2; have d25 := cell_below x5 B2; have d26 := cell_below x6 B2)
          | (go_at_call 60; (with_reducible refine (section_u32 (w1.heap.size + 1) 3 u3 most 61 _).mono ?_); rintro e s3 ⟨rfl, k3, b3⟩; have B3 : Below X0.heap.size X0 s3 := (by first | exact ext_trans B2 b3 | exact ext_trans (B2.drew) b3); have d31 := cell_below x1 B3; have d32 := cell_below x2 B3; have d33 := cell_below x3 B3; have d34 := cell_below x4 B3; have d35 := cell_below x5 B3; have d36 := cell_below x6 B3)
          | (go_at_call 60; (with_reducible refine (section_u32 (w1.heap.size + 1) 4 u5 most 61 _).mono ?_); rintro e s4 ⟨rfl, k4, b4⟩; have B4 : Below X0.heap.size X0 s4 := (by first | exact ext_trans B3 b4 | exact ext_trans (B3.drew) b4); have d41 := cell_below x1 B4; have d42 := cell_below x2 B4; have d43 := cell_below x3 B4; have d44 := cell_below x4 B4; have d45 := cell_below x5 B4; have d46 := cell_below x6 B4)
          | (go_at_call 60; (with_reducible refine (section_u32 (w1.heap.size + 1) 5 u6 most 61 _).mono ?_); rintro e s5 ⟨rfl, k5, b5⟩; have B5 : Below X0.heap.size X0 s5 := (by first | exact ext_trans B4 b5 | exact ext_trans (B4.drew) b5); have d51 := cell_below x1 B5; have d52 := cell_below x2 B5; have d53 := cell_below x3 B5; have d54 := cell_below x4 B5; have d55 := cell_below x5 B5; have d56 := cell_below x6 B5)
          | (go_at_call 64; (with_reducible refine (section_gate (w1.heap.size + 1) 6 u4 most 65 _).mono ?_); rintro e s6 ⟨rfl, k6, b6⟩; have B6 : Below X0.heap.size X0 s6 := (by first | exact ext_trans B5 b6 | exact ext_trans (B5.drew) b6); have d61 := cell_below x1 B6; have d62 := cell_below x2 B6; have d63 := cell_below x3 B6; have d64 := cell_below x4 B6; have d65 := cell_below x5 B6; have d66 := cell_below x6 B6))
      go_wp2
      refine wp_loop_rounds 7 ?_
      rw [rounds_succ]
      go_wp2_with fail
      generalize hW : World.alloc s6 _ = Y1
      have F0 : Y1.cell? ⟨s6.heap.size, 0, none⟩ = some (.func (.func 94) #[] #[.pointer (some ⟨X0.heap.size + 1, 0, none⟩), .pointer (some ⟨X0.heap.size + 2, 0, none⟩), .pointer (some ⟨X0.heap.size + 3, 0, none⟩), .pointer (some ⟨X0.heap.size, 0, none⟩)]) := by subst hW; exact cell_new _ _ _ _ _ _ _ rfl rfl
      have F1 : Y1.cell? ⟨s6.heap.size, 1, none⟩ = some (.func (.func 95) #[] #[.pointer (some ⟨s1.heap.size + 1, 0, none⟩), .pointer (some ⟨s1.heap.size + 2, 0, none⟩), .pointer (some ⟨s1.heap.size + 3, 0, none⟩), .pointer (some ⟨s1.heap.size, 0, none⟩)]) := by subst hW; exact cell_new _ _ _ _ _ _ _ rfl rfl
      have F2 : Y1.cell? ⟨s6.heap.size, 2, none⟩ = some (.func (.func 94) #[] #[.pointer (some ⟨s2.heap.size + 1, 0, none⟩), .pointer (some ⟨s2.heap.size + 2, 0, none⟩), .pointer (some ⟨s2.heap.size + 3, 0, none⟩), .pointer (some ⟨s2.heap.size, 0, none⟩)]) := by subst hW; exact cell_new _ _ _ _ _ _ _ rfl rfl
      have F3 : Y1.cell? ⟨s6.heap.size, 3, none⟩ = some (.func (.func 94) #[] #[.pointer (some ⟨s3.heap.size + 1, 0, none⟩), .pointer (some ⟨s3.heap.size + 2, 0, none⟩), .pointer (some ⟨s3.heap.size + 3, 0, none⟩), .pointer (some ⟨s3.heap.size, 0, none⟩)]) := by subst hW; exact cell_new _ _ _ _ _ _ _ rfl rfl
      have F4 : Y1.cell? ⟨s6.heap.size, 4, none⟩ = some (.func (.func 94) #[] #[.pointer (some ⟨s4.heap.size + 1, 0, none⟩), .pointer (some ⟨s4.heap.size + 2, 0, none⟩), .pointer (some ⟨s4.heap.size + 3, 0, none⟩), .pointer (some ⟨s4.heap.size, 0, none⟩)]) := by subst hW; exact cell_new _ _ _ _ _ _ _ rfl rfl
      have F5 : Y1.cell? ⟨s6.heap.size, 5, none⟩ = some (.func (.func 96) #[] #[.pointer (some ⟨s5.heap.size + 1, 0, none⟩), .pointer (some ⟨s5.heap.size + 2, 0, none⟩), .pointer (some ⟨s5.heap.size + 3, 0, none⟩), .pointer (some ⟨s5.heap.size, 0, none⟩)]) := by subst hW; exact cell_new _ _ _ _ _ _ _ rfl rfl
      have CY : Below s6.heap.size s6 Y1 := by subst hW; exact ext_alloc _ _
      clear hW
      have C4 := ext_trans b5 b6
      have C3 := ext_trans b4 C4
      have C2 := ext_trans b3 C3
      have C1 := ext_trans b2 C2
      have z1 := B1.size
      have z2 := B2.size
      have z3 := B3.size
      have z4 := B4.size
      have z5 := B5.size
      have z6 := B6.size
      have K1 := Lib.hid (SecW.below (SecW.below (show SecW X0.heap.size (w1.heap.size + 1) 1 u1 most _ s1 from k1 hXlt) C1) CY)
      have K2 := Lib.hid (((k2 (by omega)).below C2).below CY)
      have K3 := Lib.hid (((k3 (by omega)).below C3).below CY)
      have K4 := Lib.hid (((k4 (by omega)).below C4).below CY)
      have K5 := Lib.hid (((k5 (by omega)).below b6).below CY)
      have K6 := Lib.hid ((k6 (by omega)).below CY)
      have hYB : Below X0.heap.size X0 Y1 := ext_trans B6 CY
      have hY1 : Below w1.heap.size w1 Y1 := ext_trans HXB.out hYB
      have YR : Hid (Y1.heap[w1.heap.size + 1]? = some (.cells #[.int .u32 u0, .slice none 0 0, .slice none 0 0, .slice none 0 0, .slice none 0 0, .slice none 0 0, .slice none 0 0] 39 (0, 0))) := heap_below HXR.out hYB
      have SR := Lib.hid (HS2.out.below hY1)
      have I : Hid (GetI w w1.heap.size (w1.heap.size + 1) s6.heap.size u1 u2 u3 u4 u5 u6 (.func (.func 94) #[] #[.pointer (some ⟨X0.heap.size + 1, 0, none⟩), .pointer (some ⟨X0.heap.size + 2, 0, none⟩), .pointer (some ⟨X0.heap.size + 3, 0, none⟩), .pointer (some ⟨X0.heap.size, 0, none⟩)]) (.func (.func 95) #[] #[.pointer (some ⟨s1.heap.size + 1, 0, none⟩), .pointer (some ⟨s1.heap.size + 2, 0, none⟩), .pointer (some ⟨s1.heap.size + 3, 0, none⟩), .pointer (some ⟨s1.heap.size, 0, none⟩)]) (.func (.func 94) #[] #[.pointer (some ⟨s2.heap.size + 1, 0, none⟩), .pointer (some ⟨s2.heap.size + 2, 0, none⟩), .pointer (some ⟨s2.heap.size + 3, 0, none⟩), .pointer (some ⟨s2.heap.size, 0, none⟩)]) (.func (.func 94) #[] #[.pointer (some ⟨s3.heap.size + 1, 0, none⟩), .pointer (some ⟨s3.heap.size + 2, 0, none⟩), .pointer (some ⟨s3.heap.size + 3, 0, none⟩), .pointer (some ⟨s3.heap.size, 0, none⟩)]) (.func (.func 94) #[] #[.pointer (some ⟨s4.heap.size + 1, 0, none⟩), .pointer (some ⟨s4.heap.size + 2, 0, none⟩), .pointer (some ⟨s4.heap.size + 3, 0, none⟩), .pointer (some ⟨s4.heap.size, 0, none⟩)]) (.func (.func 96) #[] #[.pointer (some ⟨s5.heap.size + 1, 0, none⟩), .pointer (some ⟨s5.heap.size + 2, 0, none⟩), .pointer (some ⟨s5.heap.size + 3, 0, none⟩), .pointer (some ⟨s5.heap.size, 0, none⟩)]) Y1) := ⟨F0, F1, F2, F3, F4, F5, cell_below x1 hYB, cell_below x2 hYB, cell_below x3 hYB, cell_below x4 hYB, cell_below x5 hYB, cell_below x6 hYB, heap_below HR1.out hY1, by omega, by omega, by omega, ext_trans HB1.out hY1⟩
      clear d11 d12 d13 d14 d15 d16 d21 d22 d23 d24 d25 d26 d31 d32 d33 d34 d35 d36 d41 d42 d43 d44 d45 d46 d51 d52 d53 d54 d55 d56 d61 d62 d63 d64 d65 d66 x1 x2 x3 x4 x5 x6 F0 F1 F2 F3 F4 F5 CY C1 C2 C3 C4 k1 k2 k3 k4 k5 k6 b1 b2 b3 b4 b5 b6 B1 B2 B3 B4 B5 B6 hYB hY1 HXR HXB HR1 HS2
      have HBK : Hid (a2.map Addr.block = a2.map Addr.block) := rfl
      have hln : rest.length ≤ 1048576 := by omega
      have hsz := heap_lt YR.out
      refine (sect_u32 rest X0.heap.size (w1.heap.size + 1) 1 u1 most #[.int .u32 u0, .slice none 0 0, .slice none 0 0, .slice none 0 0, .slice none 0 0, .slice none 0 0, .slice none 0 0] a2 rest.length c2 Y1 K1.out SR.out (fun b hb => by rw [HBK.out] at hb; have := HLOW.out b hb; constructor <;> omega) (by omega) (by omega) (by omega) YR.out rfl).mono ?_
      rintro e Y2 ⟨hbut, hp⟩
      have I' := Lib.hid (I.out.but hbut)
      have K2' := Lib.hid (K2.out.but hbut)
      have K3' := Lib.hid (K3.out.but hbut)
      have K4' := Lib.hid (K4.out.but hbut)
      have K5' := Lib.hid (K5.out.but hbut)
      have K6' := Lib.hid (K6.out.but hbut)
      clear I K1 K2 K3 K4 K5 K6  hbut YR SR
      rcases hp with ⟨ins, rest1, al1, cl1, an1, cn1, hok, rfl, hse, hblk, hbx, hsl, hnl⟩ | ⟨er, CR', herr, h0, rfl, _, _⟩
      rotate_left
      · have hg := HG2.out
        simp only [herr] at hg
        have HG := Lib.hid hg
        have H0 := Lib.hid h0
        have n1 : (er != 0) = true := by simp [h0]
        have n2 : (er == 0) = false := by simp [h0]
        have HBL := Lib.hid I'.out.bel
        clear hg h0 herr
        have hres := I'.out.r
        have r0 := cell_of_block hres 0
        have r1 := cell_of_block hres 1
        have r2 := cell_of_block hres 2
        have r3 := cell_of_block hres 3
        have r4 := cell_of_block hres 4
        have r5 := cell_of_block hres 5
        have r6 := cell_of_block hres 6
        have q0 := unfrozen_of_block hres 0
        have q1 := unfrozen_of_block hres 1
        have q2 := unfrozen_of_block hres 2
        have q3 := unfrozen_of_block hres 3
        have q4 := unfrozen_of_block hres 4
        have q5 := unfrozen_of_block hres 5
        have q6 := unfrozen_of_block hres 6
        have HRR := Lib.hid hres
        clear hres
        go_wp2
        refine bodyPost_ret (v := .tuple #[zeroRaw, .int .i64 er]) ?_ rfl ?_
        · have h6 := raw_set HRR.out rfl (.int .u32 0) (.slice none 0 0) (.slice none 0 0) (.slice none 0 0) (.slice none 0 0) (.slice none 0 0) (.slice none 0 0)
          have g0 := cell_of_block h6 0
          have g1 := cell_of_block h6 1
          have g2 := cell_of_block h6 2
          have g3 := cell_of_block h6 3
          have g4 := cell_of_block h6 4
          have g5 := cell_of_block h6 5
          have g6 := cell_of_block h6 6
          simp [results, Tryz.results29, go_sem, g0, g1, g2, g3, g4, g5, g6]
          rfl
        · refine ⟨?_, Or.inr ⟨_, HG.out, H0.out, rfl⟩⟩
          with_reducible exact set7 w.heap.size (Nat.le_refl _) HBL.out
      have hsl2 := sect_len hok
      have hln1 : rest1.length ≤ 1048576 := by omega
      replace HG2 := HG2.out
      simp only [hok] at HG2
      replace HG2 := Lib.hid HG2
      have I := I'
      clear I' 
      have K2 := K2'
      clear K2'
      have K3 := K3'
      clear K3'
      have K4 := K4'
      clear K4'
      have K5 := K5'
      clear K5'
      have K6 := K6'
      clear K6'
      have YR : Hid (Y2.heap[w1.heap.size + 1]? = some (.cells #[.int .u32 u0, .slice al1 ins.length cl1, .slice none 0 0, .slice none 0 0, .slice none 0 0, .slice none 0 0, .slice none 0 0] 39 (0, 0))) := hbx
      have SR := Lib.hid hse
      have V1 := Lib.hid hsl
      have hY1sz : w1.heap.size + 1 < Y2.heap.size := heap_lt hbx
      have N1 : Hid (∀ b off, al1 = some ⟨b, off, none⟩ → w1.heap.size + 1 < b) := fun b off e => by have := hnl b off e; omega
      replace HBK := Lib.hid (hblk.trans HBK.out)
      clear hok hse hblk hbx hsl hnl hsl2
      have fnx := I.out.f1
      go_wp2
      rw [rounds_succ]
      go_wp2_with fail
      clear fnx
      have hsz := heap_lt YR.out
      refine (sect_lat rest1 s1.heap.size (w1.heap.size + 1) 2 u2 most #[.int .u32 u0, .slice al1 ins.length cl1, .slice none 0 0, .slice none 0 0, .slice none 0 0, .slice none 0 0, .slice none 0 0] an1 rest1.length cn1 Y2 K2.out SR.out (fun b hb => by rw [HBK.out] at hb; have := HLOW.out b hb; constructor <;> omega) (by omega) (by omega) (by omega) YR.out rfl).mono ?_
      rintro e Y3 ⟨hbut, hp⟩
      have I' := Lib.hid (I.out.but hbut)
      have K3' := Lib.hid (K3.out.but hbut)
      have K4' := Lib.hid (K4.out.but hbut)
      have K5' := Lib.hid (K5.out.but hbut)
      have K6' := Lib.hid (K6.out.but hbut)
      have V1' := Lib.hid (sees_but V1.out hbut (fun b off e => by have := N1.out b off e; omega))
      clear I K2 K3 K4 K5 K6 V1 hbut YR SR hsz
      rcases hp with ⟨lats, rest2, al2, cl2, an2, cn2, hok, rfl, hse, hblk, hbx, hsl, hnl⟩ | ⟨er, CR', herr, h0, rfl, _, _⟩
      rotate_left
      · have hg := HG2.out
        simp only [herr] at hg
        have HG := Lib.hid hg
        have H0 := Lib.hid h0
        have n1 : (er != 0) = true := by simp [h0]
        have n2 : (er == 0) = false := by simp [h0]
        have HBL := Lib.hid I'.out.bel
        clear hg h0 herr
        have hres := I'.out.r
        have r0 := cell_of_block hres 0
        have r1 := cell_of_block hres 1
        have r2 := cell_of_block hres 2
        have r3 := cell_of_block hres 3
        have r4 := cell_of_block hres 4
        have r5 := cell_of_block hres 5
        have r6 := cell_of_block hres 6
        have q0 := unfrozen_of_block hres 0
        have q1 := unfrozen_of_block hres 1
        have q2 := unfrozen_of_block hres 2
        have q3 := unfrozen_of_block hres 3
        have q4 := unfrozen_of_block hres 4
        have q5 := unfrozen_of_block hres 5
        have q6 := unfrozen_of_block hres 6
        have HRR := Lib.hid hres
        clear hres
        go_wp2
        refine bodyPost_ret (v := .tuple #[zeroRaw, .int .i64 er]) ?_ rfl ?_
        · have h6 := raw_set HRR.out rfl (.int .u32 0) (.slice none 0 0) (.slice none 0 0) (.slice none 0 0) (.slice none 0 0) (.slice none 0 0) (.slice none 0 0)
          have g0 := cell_of_block h6 0
          have g1 := cell_of_block h6 1
          have g2 := cell_of_block h6 2
          have g3 := cell_of_block h6 3
          have g4 := cell_of_block h6 4
          have g5 := cell_of_block h6 5
          have g6 := cell_of_block h6 6
          simp [results, Tryz.results29, go_sem, g0, g1, g2, g3, g4, g5, g6]
          rfl
        · refine ⟨?_, Or.inr ⟨_, HG.out, H0.out, rfl⟩⟩
          with_reducible exact set7 w.heap.size (Nat.le_refl _) HBL.out
      have hsl2 := sect_len hok
      have hln2 : rest2.length ≤ 1048576 := by omega
      replace HG2 := HG2.out
      simp only [hok] at HG2
      replace HG2 := Lib.hid HG2
      have I := I'
      clear I' 
      have K3 := K3'
      clear K3'
      have K4 := K4'
      clear K4'
      have K5 := K5'
      clear K5'
      have K6 := K6'
      clear K6'
      have V1 := V1'
      clear V1'
      have YR : Hid (Y3.heap[w1.heap.size + 1]? = some (.cells #[.int .u32 u0, .slice al1 ins.length cl1, .slice al2 lats.length cl2, .slice none 0 0, .slice none 0 0, .slice none 0 0, .slice none 0 0] 39 (0, 0))) := hbx
      have SR := Lib.hid hse
      have V2 := Lib.hid hsl
      have hY2sz : w1.heap.size + 1 < Y3.heap.size := heap_lt hbx
      have N2 : Hid (∀ b off, al2 = some ⟨b, off, none⟩ → w1.heap.size + 1 < b) := fun b off e => by have := hnl b off e; omega
      replace HBK := Lib.hid (hblk.trans HBK.out)
      clear hok hse hblk hbx hsl hnl hsl2
      have fnx := I.out.f2
      go_wp2
      rw [rounds_succ]
      go_wp2_with fail
      clear fnx
      have hsz := heap_lt YR.out
      refine (sect_u32 rest2 s2.heap.size (w1.heap.size + 1) 3 u3 most #[.int .u32 u0, .slice al1 ins.length cl1, .slice al2 lats.length cl2, .slice none 0 0, .slice none 0 0, .slice none 0 0, .slice none 0 0] an2 rest2.length cn2 Y3 K3.out SR.out (fun b hb => by rw [HBK.out] at hb; have := HLOW.out b hb; constructor <;> omega) (by omega) (by omega) (by omega) YR.out rfl).mono ?_
      rintro e Y4 ⟨hbut, hp⟩
      have I' := Lib.hid (I.out.but hbut)
      have K4' := Lib.hid (K4.out.but hbut)
      have K5' := Lib.hid (K5.out.but hbut)
      have K6' := Lib.hid (K6.out.but hbut)
      have V1' := Lib.hid (sees_but V1.out hbut (fun b off e => by have := N1.out b off e; omega))
      have V2' := Lib.hid (sees3_but V2.out hbut (fun b off e => by have := N2.out b off e; omega))
      clear I K3 K4 K5 K6 V1 V2 hbut YR SR hsz
      rcases hp with ⟨outs, rest3, al3, cl3, an3, cn3, hok, rfl, hse, hblk, hbx, hsl, hnl⟩ | ⟨er, CR', herr, h0, rfl, _, _⟩
      rotate_left
      · have hg := HG2.out
        simp only [herr] at hg
        have HG := Lib.hid hg
        have H0 := Lib.hid h0
        have n1 : (er != 0) = true := by simp [h0]
        have n2 : (er == 0) = false := by simp [h0]
        have HBL := Lib.hid I'.out.bel
        clear hg h0 herr
        have hres := I'.out.r
        have r0 := cell_of_block hres 0
        have r1 := cell_of_block hres 1
        have r2 := cell_of_block hres 2
        have r3 := cell_of_block hres 3
        have r4 := cell_of_block hres 4
        have r5 := cell_of_block hres 5
        have r6 := cell_of_block hres 6
        have q0 := unfrozen_of_block hres 0
        have q1 := unfrozen_of_block hres 1
        have q2 := unfrozen_of_block hres 2
        have q3 := unfrozen_of_block hres 3
        have q4 := unfrozen_of_block hres 4
        have q5 := unfrozen_of_block hres 5
        have q6 := unfrozen_of_block hres 6
        have HRR := Lib.hid hres
        clear hres
        go_wp2
        refine bodyPost_ret (v := .tuple #[zeroRaw, .int .i64 er]) ?_ rfl ?_
        · have h6 := raw_set HRR.out rfl (.int .u32 0) (.slice none 0 0) (.slice none 0 0) (.slice none 0 0) (.slice none 0 0) (.slice none 0 0) (.slice none 0 0)
          have g0 := cell_of_block h6 0
          have g1 := cell_of_block h6 1
          have g2 := cell_of_block h6 2
          have g3 := cell_of_block h6 3
          have g4 := cell_of_block h6 4
          have g5 := cell_of_block h6 5
          have g6 := cell_of_block h6 6
          simp [results, Tryz.results29, go_sem, g0, g1, g2, g3, g4, g5, g6]
          rfl
        · refine ⟨?_, Or.inr ⟨_, HG.out, H0.out, rfl⟩⟩
          with_reducible exact set7 w.heap.size (Nat.le_refl _) HBL.out
      have hsl2 := sect_len hok
      have hln3 : rest3.length ≤ 1048576 := by omega
      replace HG2 := HG2.out
      simp only [hok] at HG2
      replace HG2 := Lib.hid HG2
      have I := I'
      clear I' 
      have K4 := K4'
      clear K4'
      have K5 := K5'
      clear K5'
      have K6 := K6'
      clear K6'
      have V1 := V1'
      clear V1'
      have V2 := V2'
      clear V2'
      have YR : Hid (Y4.heap[w1.heap.size + 1]? = some (.cells #[.int .u32 u0, .slice al1 ins.length cl1, .slice al2 lats.length cl2, .slice al3 outs.length cl3, .slice none 0 0, .slice none 0 0, .slice none 0 0] 39 (0, 0))) := hbx
      have SR := Lib.hid hse
      have V3 := Lib.hid hsl
      have hY3sz : w1.heap.size + 1 < Y4.heap.size := heap_lt hbx
      have N3 : Hid (∀ b off, al3 = some ⟨b, off, none⟩ → w1.heap.size + 1 < b) := fun b off e => by have := hnl b off e; omega
      replace HBK := Lib.hid (hblk.trans HBK.out)
      clear hok hse hblk hbx hsl hnl hsl2
      have fnx := I.out.f3
      go_wp2
      rw [rounds_succ]
      go_wp2_with fail
      clear fnx
      have hsz := heap_lt YR.out
      refine (sect_u32 rest3 s3.heap.size (w1.heap.size + 1) 4 u5 most #[.int .u32 u0, .slice al1 ins.length cl1, .slice al2 lats.length cl2, .slice al3 outs.length cl3, .slice none 0 0, .slice none 0 0, .slice none 0 0] an3 rest3.length cn3 Y4 K4.out SR.out (fun b hb => by rw [HBK.out] at hb; have := HLOW.out b hb; constructor <;> omega) (by omega) (by omega) (by omega) YR.out rfl).mono ?_
      rintro e Y5 ⟨hbut, hp⟩
      have I' := Lib.hid (I.out.but hbut)
      have K5' := Lib.hid (K5.out.but hbut)
      have K6' := Lib.hid (K6.out.but hbut)
      have V1' := Lib.hid (sees_but V1.out hbut (fun b off e => by have := N1.out b off e; omega))
      have V2' := Lib.hid (sees3_but V2.out hbut (fun b off e => by have := N2.out b off e; omega))
      have V3' := Lib.hid (sees_but V3.out hbut (fun b off e => by have := N3.out b off e; omega))
      clear I K4 K5 K6 V1 V2 V3 hbut YR SR hsz
      rcases hp with ⟨bads, rest4, al4, cl4, an4, cn4, hok, rfl, hse, hblk, hbx, hsl, hnl⟩ | ⟨er, CR', herr, h0, rfl, _, _⟩
      rotate_left
      · have hg := HG2.out
        simp only [herr] at hg
        have HG := Lib.hid hg
        have H0 := Lib.hid h0
        have n1 : (er != 0) = true := by simp [h0]
        have n2 : (er == 0) = false := by simp [h0]
        have HBL := Lib.hid I'.out.bel
        clear hg h0 herr
        have hres := I'.out.r
        have r0 := cell_of_block hres 0
        have r1 := cell_of_block hres 1
        have r2 := cell_of_block hres 2
        have r3 := cell_of_block hres 3
        have r4 := cell_of_block hres 4
        have r5 := cell_of_block hres 5
        have r6 := cell_of_block hres 6
        have q0 := unfrozen_of_block hres 0
        have q1 := unfrozen_of_block hres 1
        have q2 := unfrozen_of_block hres 2
        have q3 := unfrozen_of_block hres 3
        have q4 := unfrozen_of_block hres 4
        have q5 := unfrozen_of_block hres 5
        have q6 := unfrozen_of_block hres 6
        have HRR := Lib.hid hres
        clear hres
        go_wp2
        refine bodyPost_ret (v := .tuple #[zeroRaw, .int .i64 er]) ?_ rfl ?_
        · have h6 := raw_set HRR.out rfl (.int .u32 0) (.slice none 0 0) (.slice none 0 0) (.slice none 0 0) (.slice none 0 0) (.slice none 0 0) (.slice none 0 0)
          have g0 := cell_of_block h6 0
          have g1 := cell_of_block h6 1
          have g2 := cell_of_block h6 2
          have g3 := cell_of_block h6 3
          have g4 := cell_of_block h6 4
          have g5 := cell_of_block h6 5
          have g6 := cell_of_block h6 6
          simp [results, Tryz.results29, go_sem, g0, g1, g2, g3, g4, g5, g6]
          rfl
        · refine ⟨?_, Or.inr ⟨_, HG.out, H0.out, rfl⟩⟩
          with_reducible exact set7 w.heap.size (Nat.le_refl _) HBL.out
      have hsl2 := sect_len hok
      have hln4 : rest4.length ≤ 1048576 := by omega
      replace HG2 := HG2.out
      simp only [hok] at HG2
      replace HG2 := Lib.hid HG2
      have I := I'
      clear I' 
      have K5 := K5'
      clear K5'
      have K6 := K6'
      clear K6'
      have V1 := V1'
      clear V1'
      have V2 := V2'
      clear V2'
      have V3 := V3'
      clear V3'
      have YR : Hid (Y5.heap[w1.heap.size + 1]? = some (.cells #[.int .u32 u0, .slice al1 ins.length cl1, .slice al2 lats.length cl2, .slice al3 outs.length cl3, .slice al4 bads.length cl4, .slice none 0 0, .slice none 0 0] 39 (0, 0))) := hbx
      have SR := Lib.hid hse
      have V4 := Lib.hid hsl
      have hY4sz : w1.heap.size + 1 < Y5.heap.size := heap_lt hbx
      have N4 : Hid (∀ b off, al4 = some ⟨b, off, none⟩ → w1.heap.size + 1 < b) := fun b off e => by have := hnl b off e; omega
      replace HBK := Lib.hid (hblk.trans HBK.out)
      clear hok hse hblk hbx hsl hnl hsl2
      have fnx := I.out.f4
      go_wp2
      rw [rounds_succ]
      go_wp2_with fail
      clear fnx
      have hsz := heap_lt YR.out
      refine (sect_u32 rest4 s4.heap.size (w1.heap.size + 1) 5 u6 most #[.int .u32 u0, .slice al1 ins.length cl1, .slice al2 lats.length cl2, .slice al3 outs.length cl3, .slice al4 bads.length cl4, .slice none 0 0, .slice none 0 0] an4 rest4.length cn4 Y5 K5.out SR.out (fun b hb => by rw [HBK.out] at hb; have := HLOW.out b hb; constructor <;> omega) (by omega) (by omega) (by omega) YR.out rfl).mono ?_
      rintro e Y6 ⟨hbut, hp⟩
      have I' := Lib.hid (I.out.but hbut)
      have K6' := Lib.hid (K6.out.but hbut)
      have V1' := Lib.hid (sees_but V1.out hbut (fun b off e => by have := N1.out b off e; omega))
      have V2' := Lib.hid (sees3_but V2.out hbut (fun b off e => by have := N2.out b off e; omega))
      have V3' := Lib.hid (sees_but V3.out hbut (fun b off e => by have := N3.out b off e; omega))
      have V4' := Lib.hid (sees_but V4.out hbut (fun b off e => by have := N4.out b off e; omega))
      clear I K5 K6 V1 V2 V3 V4 hbut YR SR hsz
      rcases hp with ⟨cons, rest5, al5, cl5, an5, cn5, hok, rfl, hse, hblk, hbx, hsl, hnl⟩ | ⟨er, CR', herr, h0, rfl, _, _⟩
      rotate_left
      · have hg := HG2.out
        simp only [herr] at hg
        have HG := Lib.hid hg
        have H0 := Lib.hid h0
        have n1 : (er != 0) = true := by simp [h0]
        have n2 : (er == 0) = false := by simp [h0]
        have HBL := Lib.hid I'.out.bel
        clear hg h0 herr
        have hres := I'.out.r
        have r0 := cell_of_block hres 0
        have r1 := cell_of_block hres 1
        have r2 := cell_of_block hres 2
        have r3 := cell_of_block hres 3
        have r4 := cell_of_block hres 4
        have r5 := cell_of_block hres 5
        have r6 := cell_of_block hres 6
        have q0 := unfrozen_of_block hres 0
        have q1 := unfrozen_of_block hres 1
        have q2 := unfrozen_of_block hres 2
        have q3 := unfrozen_of_block hres 3
        have q4 := unfrozen_of_block hres 4
        have q5 := unfrozen_of_block hres 5
        have q6 := unfrozen_of_block hres 6
        have HRR := Lib.hid hres
        clear hres
        go_wp2
        refine bodyPost_ret (v := .tuple #[zeroRaw, .int .i64 er]) ?_ rfl ?_
        · have h6 := raw_set HRR.out rfl (.int .u32 0) (.slice none 0 0) (.slice none 0 0) (.slice none 0 0) (.slice none 0 0) (.slice none 0 0) (.slice none 0 0)
          have g0 := cell_of_block h6 0
          have g1 := cell_of_block h6 1
          have g2 := cell_of_block h6 2
          have g3 := cell_of_block h6 3
          have g4 := cell_of_block h6 4
          have g5 := cell_of_block h6 5
          have g6 := cell_of_block h6 6
          simp [results, Tryz.results29, go_sem, g0, g1, g2, g3, g4, g5, g6]
          rfl
        · refine ⟨?_, Or.inr ⟨_, HG.out, H0.out, rfl⟩⟩
          with_reducible exact set7 w.heap.size (Nat.le_refl _) HBL.out
      have hsl2 := sect_len hok
      have hln5 : rest5.length ≤ 1048576 := by omega
      replace HG2 := HG2.out
      simp only [hok] at HG2
      replace HG2 := Lib.hid HG2
      have I := I'
      clear I' 
      have K6 := K6'
      clear K6'
      have V1 := V1'
      clear V1'
      have V2 := V2'
      clear V2'
      have V3 := V3'
      clear V3'
      have V4 := V4'
      clear V4'
      have YR : Hid (Y6.heap[w1.heap.size + 1]? = some (.cells #[.int .u32 u0, .slice al1 ins.length cl1, .slice al2 lats.length cl2, .slice al3 outs.length cl3, .slice al4 bads.length cl4, .slice al5 cons.length cl5, .slice none 0 0] 39 (0, 0))) := hbx
      have SR := Lib.hid hse
      have V5 := Lib.hid hsl
      have hY5sz : w1.heap.size + 1 < Y6.heap.size := heap_lt hbx
      have N5 : Hid (∀ b off, al5 = some ⟨b, off, none⟩ → w1.heap.size + 1 < b) := fun b off e => by have := hnl b off e; omega
      replace HBK := Lib.hid (hblk.trans HBK.out)
      clear hok hse hblk hbx hsl hnl hsl2
      have fnx := I.out.f5
      go_wp2
      rw [rounds_succ]
      go_wp2_with fail
      clear fnx
      have hsz := heap_lt YR.out
      refine (sect_gate rest5 s5.heap.size (w1.heap.size + 1) 6 u4 most #[.int .u32 u0, .slice al1 ins.length cl1, .slice al2 lats.length cl2, .slice al3 outs.length cl3, .slice al4 bads.length cl4, .slice al5 cons.length cl5, .slice none 0 0] an5 rest5.length cn5 Y6 K6.out SR.out (fun b hb => by rw [HBK.out] at hb; have := HLOW.out b hb; constructor <;> omega) (by omega) (by omega) (by omega) YR.out rfl).mono ?_
      rintro e Y7 ⟨hbut, hp⟩
      have I' := Lib.hid (I.out.but hbut)
      have V1' := Lib.hid (sees_but V1.out hbut (fun b off e => by have := N1.out b off e; omega))
      have V2' := Lib.hid (sees3_but V2.out hbut (fun b off e => by have := N2.out b off e; omega))
      have V3' := Lib.hid (sees_but V3.out hbut (fun b off e => by have := N3.out b off e; omega))
      have V4' := Lib.hid (sees_but V4.out hbut (fun b off e => by have := N4.out b off e; omega))
      have V5' := Lib.hid (sees_but V5.out hbut (fun b off e => by have := N5.out b off e; omega))
      clear I K6 V1 V2 V3 V4 V5 hbut YR SR hsz
      rcases hp with ⟨gates, rest6, al6, cl6, an6, cn6, hok, rfl, hse, hblk, hbx, hsl, hnl⟩ | ⟨er, CR', herr, h0, rfl, _, _⟩
      rotate_left
      · have hg := HG2.out
        simp only [herr] at hg
        have HG := Lib.hid hg
        have H0 := Lib.hid h0
        have n1 : (er != 0) = true := by simp [h0]
        have n2 : (er == 0) = false := by simp [h0]
        have HBL := Lib.hid I'.out.bel
        clear hg h0 herr
        have hres := I'.out.r
        have r0 := cell_of_block hres 0
        have r1 := cell_of_block hres 1
        have r2 := cell_of_block hres 2
        have r3 := cell_of_block hres 3
        have r4 := cell_of_block hres 4
        have r5 := cell_of_block hres 5
        have r6 := cell_of_block hres 6
        have q0 := unfrozen_of_block hres 0
        have q1 := unfrozen_of_block hres 1
        have q2 := unfrozen_of_block hres 2
        have q3 := unfrozen_of_block hres 3
        have q4 := unfrozen_of_block hres 4
        have q5 := unfrozen_of_block hres 5
        have q6 := unfrozen_of_block hres 6
        have HRR := Lib.hid hres
        clear hres
        go_wp2
        refine bodyPost_ret (v := .tuple #[zeroRaw, .int .i64 er]) ?_ rfl ?_
        · have h6 := raw_set HRR.out rfl (.int .u32 0) (.slice none 0 0) (.slice none 0 0) (.slice none 0 0) (.slice none 0 0) (.slice none 0 0) (.slice none 0 0)
          have g0 := cell_of_block h6 0
          have g1 := cell_of_block h6 1
          have g2 := cell_of_block h6 2
          have g3 := cell_of_block h6 3
          have g4 := cell_of_block h6 4
          have g5 := cell_of_block h6 5
          have g6 := cell_of_block h6 6
          simp [results, Tryz.results29, go_sem, g0, g1, g2, g3, g4, g5, g6]
          rfl
        · refine ⟨?_, Or.inr ⟨_, HG.out, H0.out, rfl⟩⟩
          with_reducible exact set7 w.heap.size (Nat.le_refl _) HBL.out
      have hsl2 := sect_len hok
      have hln6 : rest6.length ≤ 1048576 := by omega
      replace HG2 := HG2.out
      simp only [hok] at HG2
      replace HG2 := Lib.hid HG2
      have I := I'
      clear I' 
      have V1 := V1'
      clear V1'
      have V2 := V2'
      clear V2'
      have V3 := V3'
      clear V3'
      have V4 := V4'
      clear V4'
      have V5 := V5'
      clear V5'
      have YR : Hid (Y7.heap[w1.heap.size + 1]? = some (.cells #[.int .u32 u0, .slice al1 ins.length cl1, .slice al2 lats.length cl2, .slice al3 outs.length cl3, .slice al4 bads.length cl4, .slice al5 cons.length cl5, .slice al6 gates.length cl6] 39 (0, 0))) := hbx
      have SR := Lib.hid hse
      have V6 := Lib.hid hsl
      have hY6sz : w1.heap.size + 1 < Y7.heap.size := heap_lt hbx
      have N6 : Hid (∀ b off, al6 = some ⟨b, off, none⟩ → w1.heap.size + 1 < b) := fun b off e => by have := hnl b off e; omega
      replace HBK := Lib.hid (hblk.trans HBK.out)
      clear hok hse hblk hbx hsl hnl hsl2
      have x1 := I.out.x1
      have x2 := I.out.x2
      have x3 := I.out.x3
      have x4 := I.out.x4
      have x5 := I.out.x5
      have x6 := I.out.x6
      go_wp2
      rw [rounds_succ]
      go_wp2_with fail
      obtain ⟨er, her⟩ : ∃ er, er = namesErr [u1, u2, u3, u5, u6] rest6 := ⟨_, rfl⟩
      have hnm := names_any rest6 u1 u2 u3 u5 u6 an6 rest6.length cn6 Y7 SR.out (by omega)
      rw [← her] at hnm HG2
      have HNM := Lib.hid hnm
      clear hnm her x1 x2 x3 x4 x5 x6
      refine HNM.out.mono ?_
      rintro e Y8 ⟨rfl, hb8⟩
      have HR8 := Lib.hid (heap_below I.out.r hb8)
      have YR8 := Lib.hid (heap_below YR.out hb8)
      have hI7 := I.out.bel.size
      have HB8 := Lib.hid (I.out.bel.trans (hb8.mono hI7))
      have U1 := Lib.hid (V1.out.below hb8)
      have U2 := Lib.hid (V2.out.below hb8)
      have U3 := Lib.hid (V3.out.below hb8)
      have U4 := Lib.hid (V4.out.below hb8)
      have U5 := Lib.hid (V5.out.below hb8)
      have U6 := Lib.hid (V6.out.below hb8)
      clear hb8 I YR V1 V2 V3 V4 V5 V6
      by_cases h0 : er = 0
      · subst h0
        have hg := HG2.out
        rw [if_pos rfl] at hg
        have HG := Lib.hid hg
        clear hg
        have hbx := YR8.out
        have y0 := cell_of_block hbx 0
        have y1 := cell_of_block hbx 1
        have y2 := cell_of_block hbx 2
        have y3 := cell_of_block hbx 3
        have y4 := cell_of_block hbx 4
        have y5 := cell_of_block hbx 5
        have y6 := cell_of_block hbx 6
        clear hbx
        have hres := HR8.out
        have r0 := cell_of_block hres 0
        have r1 := cell_of_block hres 1
        have r2 := cell_of_block hres 2
        have r3 := cell_of_block hres 3
        have r4 := cell_of_block hres 4
        have r5 := cell_of_block hres 5
        have r6 := cell_of_block hres 6
        have q0 := unfrozen_of_block hres 0
        have q1 := unfrozen_of_block hres 1
        have q2 := unfrozen_of_block hres 2
        have q3 := unfrozen_of_block hres 3
        have q4 := unfrozen_of_block hres 4
        have q5 := unfrozen_of_block hres 5
        have q6 := unfrozen_of_block hres 6
        have HRR := Lib.hid hres
        clear hres
        go_wp2
        refine bodyPost_ret (v := .tuple #[rawV u0 ⟨al1, ins.length, cl1, al2, lats.length, cl2, al3, outs.length, cl3, al4, bads.length, cl4, al5, cons.length, cl5, al6, gates.length, cl6⟩, .int .i64 0]) ?_ rfl ?_
        · have h6 := raw_set HRR.out rfl (.int .u32 u0) (.slice al1 ins.length cl1) (.slice al2 lats.length cl2) (.slice al3 outs.length cl3) (.slice al4 bads.length cl4) (.slice al5 cons.length cl5) (.slice al6 gates.length cl6)
          have g0 := cell_of_block h6 0
          have g1 := cell_of_block h6 1
          have g2 := cell_of_block h6 2
          have g3 := cell_of_block h6 3
          have g4 := cell_of_block h6 4
          have g5 := cell_of_block h6 5
          have g6 := cell_of_block h6 6
          simp [results, Tryz.results29, go_sem, g0, g1, g2, g3, g4, g5, g6]
          rfl
        · have hbut : Y8.grownBy _ (some w.heap.size) := set7_but (World.grownBy.refl Y8 (some w.heap.size)) (u0 := .int .u32 u0) (u1 := .slice al1 ins.length cl1) (u2 := .slice al2 lats.length cl2) (u3 := .slice al3 outs.length cl3) (u4 := .slice al4 bads.length cl4) (u5 := .slice al5 cons.length cl5) (u6 := .slice al6 gates.length cl6)
          refine ⟨?_, Or.inl ⟨⟨u0, ins, lats, outs, bads, cons, gates⟩, ⟨al1, ins.length, cl1, al2, lats.length, cl2, al3, outs.length, cl3, al4, bads.length, cl4, al5, cons.length, cl5, al6, gates.length, cl6⟩, HG.out, rfl, ?_⟩⟩
          · with_reducible exact set7 w.heap.size (Nat.le_refl _) HB8.out
          · exact ⟨sees_but U1.out hbut (fun b off e => by have := N1.out b off e; omega), sees3_but U2.out hbut (fun b off e => by have := N2.out b off e; omega), sees_but U3.out hbut (fun b off e => by have := N3.out b off e; omega), sees_but U4.out hbut (fun b off e => by have := N4.out b off e; omega), sees_but U5.out hbut (fun b off e => by have := N5.out b off e; omega), sees3_but U6.out hbut (fun b off e => by have := N6.out b off e; omega)⟩
      · have hg := HG2.out
        rw [if_neg h0] at hg
        have HG := Lib.hid hg
        have H0 := Lib.hid h0
        have n1 : (er != 0) = true := by simp [h0]
        have n2 : (er == 0) = false := by simp [h0]
        clear hg h0
        have hres := HR8.out
        have r0 := cell_of_block hres 0
        have r1 := cell_of_block hres 1
        have r2 := cell_of_block hres 2
        have r3 := cell_of_block hres 3
        have r4 := cell_of_block hres 4
        have r5 := cell_of_block hres 5
        have r6 := cell_of_block hres 6
        have q0 := unfrozen_of_block hres 0
        have q1 := unfrozen_of_block hres 1
        have q2 := unfrozen_of_block hres 2
        have q3 := unfrozen_of_block hres 3
        have q4 := unfrozen_of_block hres 4
        have q5 := unfrozen_of_block hres 5
        have q6 := unfrozen_of_block hres 6
        have HRR := Lib.hid hres
        clear hres
        go_wp2
        refine bodyPost_ret (v := .tuple #[zeroRaw, .int .i64 er]) ?_ rfl ?_
        · have h6 := raw_set HRR.out rfl (.int .u32 0) (.slice none 0 0) (.slice none 0 0) (.slice none 0 0) (.slice none 0 0) (.slice none 0 0) (.slice none 0 0)
          have g0 := cell_of_block h6 0
          have g1 := cell_of_block h6 1
          have g2 := cell_of_block h6 2
          have g3 := cell_of_block h6 3
          have g4 := cell_of_block h6 4
          have g5 := cell_of_block h6 5
          have g6 := cell_of_block h6 6
          simp [results, Tryz.results29, go_sem, g0, g1, g2, g3, g4, g5, g6]
          rfl
        · refine ⟨?_, Or.inr ⟨_, HG.out, H0.out, rfl⟩⟩
          with_reducible exact set7 w.heap.size (Nat.le_refl _) HB8.out
    · have hg : getS bs = .error er := by rw [HGS.out, hhs]
      have HG := Lib.hid hg
      have H0 := Lib.hid h0
      have n1 : (er != 0) = true := by simp [h0]
      have n2 : (er == 0) = false := by simp [h0]
      have es : zeroSeven = .agg #[.int .u32 0, .int .u32 0, .int .u32 0, .int .u32 0, .int .u32 0, .int .u32 0, .int .u32 0] := rfl
      rw [es]
      clear hg h0 hhs es HGS
      have hres : w1.heap[w.heap.size]? = some (.cells #[.int .u32 0, .slice none 0 0, .slice none 0 0, .slice none 0 0, .slice none 0 0, .slice none 0 0, .slice none 0 0] 39 (0, 0)) := HR1.out
      have r0 := cell_of_block hres 0
      have r1 := cell_of_block hres 1
      have r2 := cell_of_block hres 2
      have r3 := cell_of_block hres 3
      have r4 := cell_of_block hres 4
      have r5 := cell_of_block hres 5
      have r6 := cell_of_block hres 6
      have f0 := unfrozen_of_block hres 0
      have f1 := unfrozen_of_block hres 1
      have f2 := unfrozen_of_block hres 2
      have f3 := unfrozen_of_block hres 3
      have f4 := unfrozen_of_block hres 4
      have f5 := unfrozen_of_block hres 5
      have f6 := unfrozen_of_block hres 6
      have HR := Lib.hid hres
      clear hres
      go_wp2
      refine bodyPost_ret (v := .tuple #[zeroRaw, .int .i64 er]) ?_ rfl ?_
      · have h6 := raw_set HR.out rfl (.int .u32 0) (.slice none 0 0) (.slice none 0 0) (.slice none 0 0) (.slice none 0 0) (.slice none 0 0) (.slice none 0 0)
        have h7 := fun o : Obj => heap_below h6 (ext_alloc _ o)
        have g0 := fun o : Obj => cell_of_block (h7 o) 0
        have g1 := fun o : Obj => cell_of_block (h7 o) 1
        have g2 := fun o : Obj => cell_of_block (h7 o) 2
        have g3 := fun o : Obj => cell_of_block (h7 o) 3
        have g4 := fun o : Obj => cell_of_block (h7 o) 4
        have g5 := fun o : Obj => cell_of_block (h7 o) 5
        have g6 := fun o : Obj => cell_of_block (h7 o) 6
        simp [results, Tryz.results29, go_sem, g0, g1, g2, g3, g4, g5, g6]
        rfl
      · refine ⟨?_, Or.inr ⟨_, HG.out, H0.out, rfl⟩⟩
        have hs := set7 w.heap.size (Nat.le_refl _) HB1.out (u0 := .int .u32 0) (u1 := .slice none 0 0) (u2 := .slice none 0 0) (u3 := .slice none 0 0) (u4 := .slice none 0 0) (u5 := .slice none 0 0) (u6 := .slice none 0 0)
        with_reducible exact hs.alloc hs.size _
end Go.Proofs.YtglhnmbfkbjemaaGreatDoor
