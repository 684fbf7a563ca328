/- raw.Head, by its contract. -/
import Derived.Test.YtglhnmbfkbjemaaDoorRawHeadLine
import Derived.Test.YtglhnmbfkbjemaaDoorBInA
namespace Go.Proofs.YtglhnmbfkbjemaaDoor
open Go Go.RowKit Go.Joins

/-- What Head answers. -/
def HeadPost (word bs : List UInt8) (w : World) (e : Ending) (w' : World) : Prop :=
  Below w.heap.size w w' ∧ ((∃ l rest a2 c2, headS word bs = .ok (l, rest) ∧ e = .returned (.tuple #[sevenV l, .slice a2 rest.length c2, .int .i64 0]) ∧ Sees w' a2 rest.length c2 (rest.map bv) ∧ (∀ b, a2.map Addr.block = some b → b < w'.heap.size)) ∨
    (∃ er, headS word bs = .error er ∧ er ≠ 0 ∧ e = .returned (.tuple #[zeroSeven, .slice none 0 0, .int .i64 er])))

theorem seven_set {X : World} {g : Nat} {C : Array Value} (h : X.heap[g]? = some (.cells C 44 (0, 0))) (hC : C.size = 7) (u0 u1 u2 u3 u4 u5 u6 : Value) :
    (((((((X.setCell ⟨g, 0, .none⟩ u0).setCell ⟨g, 1, .none⟩ u1).setCell ⟨g, 2, .none⟩ u2).setCell ⟨g, 3, .none⟩ u3).setCell ⟨g, 4, .none⟩ u4).setCell ⟨g, 5, .none⟩ u5).setCell ⟨g, 6, .none⟩ u6).heap[g]? = some (.cells #[u0, u1, u2, u3, u4, u5, u6] 44 (0, 0)) := by
  obtain ⟨l⟩ := C
  match l, hC with
  | [_, _, _, _, _, _, _], _ =>
    have h0 := block_setCell h (i := 0) u0
    have h1 := block_setCell h0 (i := 1) u1
    have h2 := block_setCell h1 (i := 2) u2
    have h3 := block_setCell h2 (i := 3) u3
    have h4 := block_setCell h3 (i := 4) u4
    have h5 := block_setCell h4 (i := 5) u5
    have h6 := block_setCell h5 (i := 6) u6
    simpa using h6
theorem set7_but {w X : World} {g : Nat} (h : w.grownBy X (some g)) {u0 u1 u2 u3 u4 u5 u6 : Value} :
    w.grownBy (((((((X.setCell ⟨g, 0, .none⟩ u0).setCell ⟨g, 1, .none⟩ u1).setCell ⟨g, 2, .none⟩ u2).setCell ⟨g, 3, .none⟩ u3).setCell ⟨g, 4, .none⟩ u4).setCell ⟨g, 5, .none⟩ u5).setCell ⟨g, 6, .none⟩ u6) (some g) :=
  but_set (but_set (but_set (but_set (but_set (but_set (but_set h))))))
theorem row_base {ok : Value → Prop} {w : World} {base : Nat} {e : TypeId} {a : Option Addr} {n m c : Nat} {xs : List Value} (h : Row ok w base e (.slice a m c) n xs) : ∀ b, a.map Addr.block = some b → base ≤ b := by
  intro b hb
  rcases h.2 with ⟨e, _⟩ | ⟨g, cap, cur, e, hg, _⟩
  · cases e; cases hb
  · cases e; cases hb; exact hg

theorem line_cut {bs : List UInt8} {n : Nat} (hn : bs.length = n) : (ahead bs < n → cutS bs = some (bs.take (ahead bs), bs.drop (ahead bs + 1))) ∧ (ahead bs = n → cutS bs = none) := by
  unfold cutS
  refine ⟨fun h => by rw [if_pos (by omega)], fun h => by rw [if_neg (by omega)]⟩
theorem row_lt {ok : Value → Prop} {w : World} {base : Nat} {e : TypeId} {a : Option Addr} {n m c : Nat} {xs : List Value} (h : Row ok w base e (.slice a m c) n xs) : ∀ b, a.map Addr.block = some b → b < w.heap.size := by
  intro b hb
  rcases h.2 with ⟨e, _⟩ | ⟨g, cap, cur, e, _, hg, _⟩
  · cases e; cases hb
  · cases e; cases hb; exact heap_lt hg

set_option maxRecDepth 100000 in
set_option maxHeartbeats 1600000 in
theorem head_any (word bs : List UInt8) (a : Option Addr) (n c : Nat) (w : World) (h : Sees w a n c (bs.map bv)) (hn : n ≤ 100000000) :
    Calls Tryd.prog 12 #[.string (str word), .slice a n c] w (HeadPost word bs w) := by
  have hbl := h.lenMap
  have hlc := line_cut hbl
  have HLI := Lib.hid (fun o : Obj => line_any bs a n c (w.alloc o) (h.below (ext_alloc _ _)) (by omega))
  have HLC := Lib.hid hlc
  have HBL := Lib.hid hbl
  clear h hbl hlc
  go_enter Tryd.func12, Tryd.ntmps12
  go_wp2_with fail
  refine (HLI.out _).mono ?_
  intro e w1 hp
  rcases hp with ⟨hlt, v1, v2, rfl, hr1, hr2, hb⟩ | ⟨heq, rfl, hb⟩
  · have hcs := HLC.out.1 hlt
    obtain ⟨line, hline⟩ : ∃ l, l = bs.take (ahead bs) := ⟨_, rfl⟩
    obtain ⟨rest, hrest⟩ : ∃ l, l = bs.drop (ahead bs + 1) := ⟨_, rfl⟩
    have hl1 : line.length = ahead bs := by rw [hline, List.length_take, HBL.out]; omega
    have hl2 : rest.length = n - (ahead bs + 1) := by rw [hrest, List.length_drop, HBL.out]
    rw [← hline, ← hl1] at hr1
    rw [← hrest, ← hl2] at hr2
    rw [← hline, ← hrest] at hcs
    have hln : line.length ≤ 100000000 := by omega
    obtain ⟨a1, c1, rfl, _, s1⟩ := hr1.sees
    obtain ⟨a2, c2, rfl, _, s2⟩ := hr2.sees
    have HLT := Lib.hid (row_lt hr2)
    have HRB := Lib.hid (row_base hr2)
    have HS2 := Lib.hid s2
    have HHL := Lib.hid (headLine_any word line a1 line.length c1 w1 s1 hln)
    have HB := Lib.hid (ext_behind hb)
    have HR1 := Lib.hid (heap_below (heap_new w (.cells #[.int .u32 0, .int .u32 0, .int .u32 0, .int .u32 0, .int .u32 0, .int .u32 0, .int .u32 0] 44) w.heap.size rfl) hb)
    have hhs : headS word bs = if headErr word line = 0 then .ok (headNums line, rest) else .error (headErr word line) := by unfold headS; rw [hcs]
    obtain ⟨er, her⟩ : ∃ er, er = headErr word line := ⟨_, rfl⟩
    obtain ⟨L, hL⟩ : ∃ L, L = headNums line := ⟨_, rfl⟩
    rw [← her, ← hL] at hhs HHL
    have HHS := Lib.hid hhs
    clear hlt hline hrest hl1 hl2 hr1 hr2 hcs s1 s2 hb hhs her hL
    go_wp2_with fail
    refine HHL.out.mono ?_
    rintro e w2 ⟨hb2, hp⟩
    have HR2 := Lib.hid (heap_below HR1.out hb2)
    have HB2 := Lib.hid (ext_trans HB.out hb2)
    have HS3 := Lib.hid (HS2.out.below hb2)
    have hsz := hb2.size
    clear hb2
    rcases hp with ⟨h0, rfl⟩ | ⟨h0, rfl⟩
    · have hh : headS word bs = .ok (L, rest) := by rw [HHS.out, if_pos h0]
      have HH := Lib.hid hh
      clear h0 hh
      obtain ⟨u0, u1, u2, u3, u4, u5, u6, hu⟩ : ∃ u0 u1 u2 u3 u4 u5 u6 : Nat, sevenV L = .agg #[.int .u32 u0, .int .u32 u1, .int .u32 u2, .int .u32 u3, .int .u32 u4, .int .u32 u5, .int .u32 u6] := ⟨_, _, _, _, _, _, _, rfl⟩
      rw [hu]
      have HU := Lib.hid hu
      clear hu
      have hres : w2.heap[w.heap.size]? = some (.cells #[.int .u32 0, .int .u32 0, .int .u32 0, .int .u32 0, .int .u32 0, .int .u32 0, .int .u32 0] 44 (0, 0)) := HR2.out
      have r0 := cell_of_block hres 0
      have r1 := cell_of_block hres 1
      have r2 := cell_of_block hres 2
      have r3 := cell_of_block hres 3
      have r4 := cell_of_block hres 4
      have r5 := cell_of_block hres 5
      have r6 := cell_of_block hres 6
      have f0 := unfrozen_of_block hres 0
      have f1 := unfrozen_of_block hres 1
      have f2 := unfrozen_of_block hres 2
      have f3 := unfrozen_of_block hres 3
      have f4 := unfrozen_of_block hres 4
      have f5 := unfrozen_of_block hres 5
      have f6 := unfrozen_of_block hres 6
      have HR := Lib.hid hres
      clear hres
      go_wp2
      refine bodyPost_ret (v := .tuple #[sevenV L, .slice a2 rest.length c2, .int .i64 0]) ?_ rfl ?_
      · have h6 := seven_set HR.out rfl (.int .u32 u0) (.int .u32 u1) (.int .u32 u2) (.int .u32 u3) (.int .u32 u4) (.int .u32 u5) (.int .u32 u6)
        have h13 := seven_set h6 rfl (.int .u32 u0) (.int .u32 u1) (.int .u32 u2) (.int .u32 u3) (.int .u32 u4) (.int .u32 u5) (.int .u32 u6)
        have g0 := cell_of_block h13 0
        have g1 := cell_of_block h13 1
        have g2 := cell_of_block h13 2
        have g3 := cell_of_block h13 3
        have g4 := cell_of_block h13 4
        have g5 := cell_of_block h13 5
        have g6 := cell_of_block h13 6
        simp [results, Tryd.results12, go_sem, g0, g1, g2, g3, g4, g5, g6]
        exact HU.out.symm
      · have hbut := set7_but (set7_but (World.grownBy.refl w2 (some w.heap.size)) (u0 := .int .u32 u0) (u1 := .int .u32 u1) (u2 := .int .u32 u2) (u3 := .int .u32 u3) (u4 := .int .u32 u4) (u5 := .int .u32 u5) (u6 := .int .u32 u6)) (u0 := .int .u32 u0) (u1 := .int .u32 u1) (u2 := .int .u32 u2) (u3 := .int .u32 u3) (u4 := .int .u32 u4) (u5 := .int .u32 u5) (u6 := .int .u32 u6)
        have hlow : ∀ b, a2.map Addr.block = some b → b < w2.heap.size ∧ b ≠ w.heap.size := fun b hb => ⟨Nat.lt_of_lt_of_le (HLT.out b hb) hsz, by have := HRB.out b hb; simp at this; omega⟩
        refine ⟨set7 w.heap.size (Nat.le_refl _) (set7 w.heap.size (Nat.le_refl _) HB2.out), Or.inl ⟨L, rest, a2, c2, HH.out, rfl, sees_old HS3.out (World.grownBy.refl _ _) hbut hlow, fun b hb => Nat.lt_of_lt_of_le (hlow b hb).1 hbut.size⟩⟩
    · have hh : headS word bs = .error er := by rw [HHS.out, if_neg h0]
      have HH := Lib.hid hh
      have H0 := Lib.hid h0
      have e1 : (er != 0) = true := by simp [h0]
      have e2 : (er == 0) = false := by simp [h0]
      clear h0 hh
      have es : zeroSeven = .agg #[.int .u32 0, .int .u32 0, .int .u32 0, .int .u32 0, .int .u32 0, .int .u32 0, .int .u32 0] := rfl
      rw [es]
      clear es
      have hres : w2.heap[w.heap.size]? = some (.cells #[.int .u32 0, .int .u32 0, .int .u32 0, .int .u32 0, .int .u32 0, .int .u32 0, .int .u32 0] 44 (0, 0)) := HR2.out
      have r0 := cell_of_block hres 0
      have r1 := cell_of_block hres 1
      have r2 := cell_of_block hres 2
      have r3 := cell_of_block hres 3
      have r4 := cell_of_block hres 4
      have r5 := cell_of_block hres 5
      have r6 := cell_of_block hres 6
      have f0 := unfrozen_of_block hres 0
      have f1 := unfrozen_of_block hres 1
      have f2 := unfrozen_of_block hres 2
      have f3 := unfrozen_of_block hres 3
      have f4 := unfrozen_of_block hres 4
      have f5 := unfrozen_of_block hres 5
      have f6 := unfrozen_of_block hres 6
      have HR := Lib.hid hres
      clear hres
      go_wp2
      refine bodyPost_ret (v := .tuple #[zeroSeven, .slice none 0 0, .int .i64 er]) ?_ rfl ?_
      · have h6 := seven_set HR.out rfl (.int .u32 0) (.int .u32 0) (.int .u32 0) (.int .u32 0) (.int .u32 0) (.int .u32 0) (.int .u32 0)
        have h13 := seven_set h6 rfl (.int .u32 0) (.int .u32 0) (.int .u32 0) (.int .u32 0) (.int .u32 0) (.int .u32 0) (.int .u32 0)
        have g0 := cell_of_block h13 0
        have g1 := cell_of_block h13 1
        have g2 := cell_of_block h13 2
        have g3 := cell_of_block h13 3
        have g4 := cell_of_block h13 4
        have g5 := cell_of_block h13 5
        have g6 := cell_of_block h13 6
        simp [results, Tryd.results12, go_sem, g0, g1, g2, g3, g4, g5, g6]
        rfl
      · exact ⟨set7 w.heap.size (Nat.le_refl _) (set7 w.heap.size (Nat.le_refl _) HB2.out), Or.inr ⟨er, HH.out, H0.out, rfl⟩⟩
  · have hcs := HLC.out.2 heq
    have hh : headS word bs = .error 4 := by unfold headS; rw [hcs]
    have HH := Lib.hid hh
    have HB := Lib.hid (ext_behind hb)
    have HR1 := Lib.hid (heap_below (heap_new w (.cells #[.int .u32 0, .int .u32 0, .int .u32 0, .int .u32 0, .int .u32 0, .int .u32 0, .int .u32 0] 44) w.heap.size rfl) hb)
    clear hcs hh heq hb
    have hres : w1.heap[w.heap.size]? = some (.cells #[.int .u32 0, .int .u32 0, .int .u32 0, .int .u32 0, .int .u32 0, .int .u32 0, .int .u32 0] 44 (0, 0)) := HR1.out
    have r0 := cell_of_block hres 0
    have r1 := cell_of_block hres 1
    have r2 := cell_of_block hres 2
    have r3 := cell_of_block hres 3
    have r4 := cell_of_block hres 4
    have r5 := cell_of_block hres 5
    have r6 := cell_of_block hres 6
    have f0 := unfrozen_of_block hres 0
    have f1 := unfrozen_of_block hres 1
    have f2 := unfrozen_of_block hres 2
    have f3 := unfrozen_of_block hres 3
    have f4 := unfrozen_of_block hres 4
    have f5 := unfrozen_of_block hres 5
    have f6 := unfrozen_of_block hres 6
    have HR := Lib.hid hres
    clear hres
    go_wp2
    refine bodyPost_ret (v := .tuple #[zeroSeven, .slice none 0 0, .int .i64 4]) ?_ rfl ?_
    · have h6 := seven_set HR.out rfl (.int .u32 0) (.int .u32 0) (.int .u32 0) (.int .u32 0) (.int .u32 0) (.int .u32 0) (.int .u32 0)
      have g0 := cell_of_block h6 0
      have g1 := cell_of_block h6 1
      have g2 := cell_of_block h6 2
      have g3 := cell_of_block h6 3
      have g4 := cell_of_block h6 4
      have g5 := cell_of_block h6 5
      have g6 := cell_of_block h6 6
      simp [results, Tryd.results12, go_sem, g0, g1, g2, g3, g4, g5, g6]
      rfl
    · exact ⟨set7 w.heap.size (Nat.le_refl _) HB.out, Or.inr ⟨4, HH.out, by decide, rfl⟩⟩
end Go.Proofs.YtglhnmbfkbjemaaDoor
