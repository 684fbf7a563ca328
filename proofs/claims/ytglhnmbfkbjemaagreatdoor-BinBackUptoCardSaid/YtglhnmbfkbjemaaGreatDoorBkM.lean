/- raw.section at latches and gates, by its contract, and the functions that it answers. -/
import Derived.Test.YtglhnmbfkbjemaaGreatDoorRawItem
import Derived.Test.YtglhnmbfkbjemaaGreatDoorBkD
import Derived.Test.YtglhnmbfkbjemaaGreatDoorBkA
import Derived.Laws.EntriesVeiled
import Derived.Lib.BufferWrite
/- raw.section at numbers, by its contract, and the function that it answers. -/
namespace Go.Proofs.YtglhnmbfkbjemaaGreatDoor
open Go Go.RowKit Go.Joins
structure SecW (G R f count most : Nat) (item : FuncId) (w : World) : Prop where
  g0 : w.cell? ⟨G, 0, .none⟩ = some (.pointer (some ⟨R, f, .none⟩))
  g1 : w.cell? ⟨G + 1, 0, .none⟩ = some (.int .u32 count)
  g2 : w.cell? ⟨G + 2, 0, .none⟩ = some (.func (.func item) #[] #[])
  g3 : w.cell? ⟨G + 3, 0, .none⟩ = some (.int .u32 most)
  lt : R < G
theorem SecW.but {G R f count most : Nat} {item : FuncId} {w w' : World} (h : SecW G R f count most item w) (hg : w.grownBy w' (some R)) : SecW G R f count most item w' := by
  have hlt := h.lt
  exact ⟨cell_but h.g0 hg (by omega), cell_but h.g1 hg (by omega), cell_but h.g2 hg (by omega), cell_but h.g3 hg (by omega), hlt⟩
theorem SecW.below {G R f count most : Nat} {item : FuncId} {w w' : World} (h : SecW G R f count most item w) (hb : Below w.heap.size w w') : SecW G R f count most item w' :=
  ⟨cell_below h.g0 hb, cell_below h.g1 hb, cell_below h.g2 hb, cell_below h.g3 hb, h.lt⟩
set_option maxRecDepth 100000 in
theorem section_u32 (R f count most : Nat) (item : FuncId) (w : World) :
    Calls Tryz.prog 60 #[.pointer (some ⟨R, f, .none⟩), .int .u32 count, .func (.func item) #[] #[], .int .u32 most] w fun e w' =>
      e = .returned (.func (.func 94) #[] #[.pointer (some ⟨w.heap.size + 1, 0, .none⟩), .pointer (some ⟨w.heap.size + 2, 0, .none⟩), .pointer (some ⟨w.heap.size + 3, 0, .none⟩), .pointer (some ⟨w.heap.size, 0, .none⟩)]) ∧
      (R < w.heap.size → SecW w.heap.size R f count most item w') ∧ Below w.heap.size w w' := by
  go_enter Tryz.func60, Tryz.ntmps60
  go_wp2
  go_ret
  refine ⟨rfl, fun hR => ⟨?_, ?_, ?_, ?_, hR⟩, ext_trans (ext_alloc _ _) (ext_trans (ext_alloc _ _) (ext_trans (ext_alloc _ _) (ext_alloc _ _)))⟩
  · exact cell_old (cell_old (cell_old (cell_new _ _ _ _ _ _ _ rfl rfl)))
  · exact cell_old (cell_old (cell_new _ _ _ _ _ _ _ (by simp) rfl))
  · exact cell_old (cell_new _ _ _ _ _ _ _ (by simp) rfl)
  · exact cell_new _ _ _ _ _ _ _ (by simp) rfl
def SectPost {α : Type} (sees : World → Option Addr → Nat → Nat → List α → Prop) (a0 : Option Addr) (R f : Nat) (CR : Array Value) (s : Except Int (List α × List UInt8)) (w : World) (e : Ending) (w' : World) : Prop :=
  w.grownBy w' (some R) ∧
  ((∃ xs rest a c a2 c2, s = .ok (xs, rest) ∧ e = .returned (.tuple #[.slice a2 rest.length c2, .int .i64 0]) ∧ Sees w' a2 rest.length c2 (rest.map bv) ∧ a2.map Addr.block = a0.map Addr.block ∧
      w'.heap[R]? = some (.cells (CR.setIfInBounds f (.slice a xs.length c)) 39 (0, 0)) ∧ sees w' a xs.length c xs ∧ (∀ b off, a = some ⟨b, off, none⟩ → w.heap.size ≤ b)) ∨
   (∃ er CR', s = .error er ∧ er ≠ 0 ∧ e = .returned (.tuple #[.slice none 0 0, .int .i64 er]) ∧ w'.heap[R]? = some (.cells CR' 39 (0, 0)) ∧ CR'.size = CR.size))
def Sofar {α : Type} (item : List UInt8 → Nat → Except Int α) (most count : Nat) (bs : List UInt8) (xs : List α) (rest : List UInt8) : Prop :=
  xs.length ≤ count ∧ sectS item most count bs = match sectS item most (count - xs.length) rest with
    | .error e => .error e
    | .ok (ys, r) => .ok (xs ++ ys, r)
theorem Sofar.zero {α : Type} (item : List UInt8 → Nat → Except Int α) (most count : Nat) (bs : List UInt8) : Sofar item most count bs [] bs := by
  refine ⟨Nat.zero_le _, ?_⟩
  simp only [List.length_nil, Nat.sub_zero]
  cases sectS item most count bs with
  | error e => rfl
  | ok p => obtain ⟨ys, r⟩ := p; rfl
theorem Sofar.done {α : Type} {item : List UInt8 → Nat → Except Int α} {most count : Nat} {bs : List UInt8} {xs : List α} {rest : List UInt8} (h : Sofar item most count bs xs rest) (hk : xs.length = count) : sectS item most count bs = .ok (xs, rest) := by
  have h2 := h.2
  rw [hk, Nat.sub_self] at h2
  simp only [sectS, List.append_nil] at h2
  exact h2
theorem Sofar.short {α : Type} {item : List UInt8 → Nat → Except Int α} {most count : Nat} {bs : List UInt8} {xs : List α} {rest : List UInt8} (h : Sofar item most count bs xs rest) (hk : xs.length < count) (hc : cutS rest = none) : sectS item most count bs = .error 4 := by
  obtain ⟨m, hm⟩ : ∃ m, count - xs.length = m + 1 := ⟨count - xs.length - 1, by omega⟩
  rw [h.2, hm, sectS, hc]
theorem Sofar.bad {α : Type} {item : List UInt8 → Nat → Except Int α} {most count : Nat} {bs : List UInt8} {xs : List α} {rest line r2 : List UInt8} {er : Int} (h : Sofar item most count bs xs rest) (hk : xs.length < count) (hc : cutS rest = some (line, r2)) (hi : item line most = .error er) : sectS item most count bs = .error er := by
  obtain ⟨m, hm⟩ : ∃ m, count - xs.length = m + 1 := ⟨count - xs.length - 1, by omega⟩
  rw [h.2, hm, sectS, hc]
  simp only [hi]
theorem Sofar.next {α : Type} {item : List UInt8 → Nat → Except Int α} {most count : Nat} {bs : List UInt8} {xs : List α} {rest line r2 : List UInt8} {x : α} (h : Sofar item most count bs xs rest) (hk : xs.length < count) (hc : cutS rest = some (line, r2)) (hi : item line most = .ok x) : Sofar item most count bs (xs ++ [x]) r2 := by
  refine ⟨by simp; omega, ?_⟩
  obtain ⟨m, hm⟩ : ∃ m, count - xs.length = m + 1 := ⟨count - xs.length - 1, by omega⟩
  have hm2 : count - (xs ++ [x]).length = m := by simp; omega
  rw [h.2, hm, sectS, hc, hm2]
  simp only [hi]
  cases sectS item most m r2 with
  | error e => rfl
  | ok p => obtain ⟨ys, r⟩ := p; simp
structure SectI {α : Type} (item : List UInt8 → Nat → Except Int α) (own : World → Nat → Value → List α → Prop) (a0 : Option Addr) (R f most count : Nat) (CR : Array Value) (bs : List UInt8) (w wr : World) (v : Value) (xs : List α) (rest : List UInt8) (a : Option Addr) (c : Nat) : Prop where
  far : Sofar item most count bs xs rest
  sees : Sees wr a rest.length c (rest.map bv)
  blk : a.map Addr.block = a0.map Addr.block
  row : own wr w.heap.size v xs
  box : wr.heap[R]? = some (.cells (CR.setIfInBounds f v) 39 (0, 0))
  but : w.grownBy wr (some R)
  le : rest.length ≤ bs.length
theorem sect_end {R f most count k : Nat} {CR : Array Value} {bs r2 : List UInt8} {w w2 w3 w4 : World} {v v4 : Value} {xs : List Nat} {x : Nat} {a0 a4 : Option Addr} {c4 n4 : Nat} {L L4 : List Value} (hnx : Sofar litS most count bs (xs ++ [x]) r2) (hs4 : Sees w2 a4 r2.length c4 (r2.map bv)) (hbt2 : w.grownBy w2 (some R))
    (hbk : a4.map Addr.block = a0.map Addr.block) (hbt3 : w.grownBy w3 (some R)) (hrw : Row isU32 w3 w.heap.size 35 v k L) (hg4 : w3.grownBy w4 v.ownBlock) (hr4 : Row isU32 w4 w.heap.size 35 v4 n4 L4)
    (hh4 : w4.heap[R]? = some (.cells (CR.setIfInBounds f v) 39 (0, 0))) (hn4 : n4 = (xs ++ [x]).length) (hl4 : L4 = (xs ++ [x]).map nv32) (hlow : ∀ b, a0.map Addr.block = some b → b < w.heap.size ∧ b ≠ R) (hR : R < w.heap.size) (hle : r2.length ≤ bs.length) :
    SectI litS (fun wr base v xs => Row isU32 wr base 35 v xs.length (xs.map nv32)) a0 R f most count CR bs w (w4.setCell ⟨R, f, .none⟩ v4) v4 (xs ++ [x]) r2 a4 c4 := by
  subst hn4; subst hl4
  have hb4 := but_own hbt3 hrw hg4
  have hb5 := but_set (f := f) (v := v4) hb4
  refine ⟨hnx, sees_old hs4 hbt2 hb5 (by rw [hbk]; exact hlow), hbk, ?_, ?_, hb5, hle⟩
  · refine hr4.other fun k hk => ?_
    exact Below.heap_setCell w4 ⟨R, f, .none⟩ v4 k (fun e => by have := (hr4.own.lt k hk).1; have e' : k = R := e; omega)
  · have := block_setCell hh4 (i := f) v4
    rw [set_set] at this
    exact this
set_option maxRecDepth 100000 in
set_option maxHeartbeats 3200000 in
theorem sect_u32 (bs : List UInt8) (G R f count most : Nat) (CR : Array Value) (a : Option Addr) (n c : Nat) (w : World) (hW : SecW G R f count most 61 w) (h : Sees w a n c (bs.map bv)) (hlow : ∀ b, a.map Addr.block = some b → b < w.heap.size ∧ b ≠ R) (hn : n ≤ 100000000) (hm : most < 4294967296) (hcount : count ≤ 100000000)
    (hR : w.heap[R]? = some (.cells CR 39 (0, 0))) (hf : CR[f]? = some (.slice none 0 0)) :
    Calls Tryz.prog 94 #[.slice a n c, .pointer (some ⟨G + 1, 0, .none⟩), .pointer (some ⟨G + 2, 0, .none⟩), .pointer (some ⟨G + 3, 0, .none⟩), .pointer (some ⟨G, 0, .none⟩)] w
      (SectPost (fun w a n c xs => Sees w a n c (xs.map nv32)) a R f CR (sectS litS most count bs) w) := by
  obtain ⟨i0, hi, hz0, hz1, hz2⟩ := info_parts info_u32
  have hbl := h.lenMap
  subst hbl
  have hx1 := hW.g1
  have HW := Lib.hid hW
  have hGlt := cell_lt hW.g0
  have hCR : CR.setIfInBounds f (.slice none 0 0) = CR := by
    apply Array.ext_getElem?
    intro i
    rw [Array.getElem?_setIfInBounds]
    split
    · rename_i e; subst e; split <;> simp_all
    · rfl
  have hst : SectI litS (fun wr base v xs => Row isU32 wr base 35 v xs.length (xs.map nv32)) a R f most count CR bs w w (.slice none 0 0) [] bs a c :=
    ⟨Sofar.zero _ _ _ _, h, rfl, Row.nil _ _ _ _, by rw [hCR]; exact hR, World.grownBy.refl _ _, Nat.le_refl _⟩
  have HST := Lib.hid hst
  have hRlt := heap_lt hR
  have hcf : f < CR.size := (Array.getElem?_eq_some_iff.1 hf).1
  clear hW h hR hf hCR hst
  go_enter Tryz.func94, Tryz.ntmps94
  go_wp2
  clear hx1
  go_loopw [0, 13] (fun b i wr => ∃ (xs : List Nat) (rest : List UInt8) (a' : Option Addr) (c' : Nat) (v : Value), b = .slice a' rest.length c' ∧ i = .int .u32 xs.length ∧
      Hid (SectI litS (fun wr base v xs => Row isU32 wr base 35 v xs.length (xs.map nv32)) a R f most count CR bs w wr v xs rest a' c'))
    (fun _ i _ => count - (intOf i).toNat)
  case atStart => exact ⟨[], bs, a, c, .slice none 0 0, rfl, rfl, HST.out⟩
  case round =>
    obtain ⟨xs, rest, a2, c2, v, rfl, rfl, hI⟩ := hrel
    obtain ⟨k, hk⟩ : ∃ k, k = xs.length := ⟨_, rfl⟩
    rw [← hk]
    have HK := Lib.hid hk
    clear hk
    have hkc : k ≤ count := by rw [HK.out]; exact hI.out.far.1
    have hSW := HW.out.but hI.out.but
    have g1 := hSW.g1
    have g2 := hSW.g2
    have g3 := hSW.g3
    have g0 := hSW.g0
    by_cases hlt : k < count
    · have HSW := Lib.hid hSW
      have HC := Lib.hid (cut_any rest a2 rest.length c2 wr hI.out.sees (by have := hI.out.le; omega))
      clear hSW g0 g2 g3
      go_wp2_with fail
      refine HC.out.mono ?_
      rintro e w2 ⟨hb2, hp⟩
      have HB2 := Lib.hid hb2
      rcases hp with ⟨hcs, a3, c3, a4, n4, c4, rfl⟩ | ⟨line, r2, a3, c3, a4, c4, hcs, rfl, hs3, hs4, hbk⟩
      · have HE := Lib.hid (hI.out.far.short (by rw [← HK.out]; exact hlt) hcs)
        have HBX := Lib.hid (heap_below hI.out.box hb2)
        have HBT := Lib.hid (but_below hI.out.but hb2)
        clear hcs hb2 hI
        go_wp2
        go_ret2
        exact ⟨HBT.out, Or.inr ⟨4, _, HE.out, by decide, rfl, HBX.out, by simp⟩⟩
      · have hl := cutS_len hcs
        have hle := hI.out.le
        have HSW2 := Lib.hid (HSW.out.below hb2)
        have g2 := HSW2.out.g2
        have g3 := HSW2.out.g3
        have HLI := Lib.hid (ri_literal_any line most a3 line.length c3 w2 hs3 (by omega) hm)
        have HCS := Lib.hid hcs
        have HS4 := Lib.hid hs4
        have HBK := Lib.hid (hbk.trans hI.out.blk)
        clear hbk
        have HROW := Lib.hid (hI.out.row.below hb2)
        have HBX2 := Lib.hid (heap_below hI.out.box hb2)
        have HBT2 := Lib.hid (but_below hI.out.but hb2)
        clear hcs hb2 hs3 hs4
        go_wp2_with fail
        refine HLI.out.mono ?_
        rintro e w3 ⟨hb3, hp⟩
        rcases hp with ⟨x, hx, rfl⟩ | ⟨er, her, h0, rfl⟩
        · have hnx := hI.out.far.next (by rw [← HK.out]; exact hlt) HCS.out hx
          have hsw3 := HSW2.out.below hb3
          have g0 := hsw3.g0
          obtain ⟨va, vc, rfl⟩ := HROW.out.form
          have hbx3 := heap_below HBX2.out hb3
          have hcR : w3.cell? ⟨R, f, .none⟩ = some (.slice va xs.length vc) := by rw [cell_of_block hbx3 f, Array.getElem?_setIfInBounds]; simp [hcf]
          have hfR := unfrozen_of_block hbx3 f
          have hrow3 := HROW.out.below hb3
          have hbt3 := but_below HBT2.out hb3
          have hbl : Below w3.heap.size w3 ((w3.alloc (.cells #[.int .u32 x] 35)).drew) := (ext_alloc _ _).drew
          obtain ⟨L, hL⟩ : ∃ L, L = xs.map nv32 := ⟨_, rfl⟩
          rw [← hL, ← HK.out] at hrow3
          rw [← HK.out] at hcR hbx3
          have HLL := Lib.hid hL
          have HRW := Lib.hid (hrow3.below hbl)
          have HSL := Lib.hid (show Sees ((w3.alloc (.cells #[.int .u32 x] 35)).drew) (some ⟨w3.heap.size, 0, none⟩) 1 1 [nv32 x] from (sees_lit w3 _ _ _ [nv32 x] 1 rfl rfl).below ((Below.refl _ _).drew))
          have HBX3 := Lib.hid (heap_below hbx3 hbl)
          have hcRa := cell_below hcR (ext_alloc w3 (.cells #[.int .u32 x] 35))
          have hg0a := cell_below g0 (ext_alloc w3 (.cells #[.int .u32 x] 35))
          have HG0 := Lib.hid (cell_below g0 hbl)
          have HBT3 := Lib.hid (but_below hbt3 hbl)
          have HNX := Lib.hid hnx
          have HX := Lib.hid hx
          have hkx : (xs ++ [x]).length = k + 1 := by rw [List.length_append, ← HK.out]; rfl
          have HKX := Lib.hid hkx
          clear hkx
          have hsz := hbt3.size
          have hx32 : x < 4294967296 := by have := lit_le hx; omega
          have hok : ∀ u ∈ [nv32 x], isU32 u := fun u hu => by simp at hu; subst hu; exact ⟨x, hx32, rfl⟩
          have HOK := Lib.hid hok
          clear hnx hsw3 hbx3 hrow3 hbt3 hbl hL hx hb3 hok hI
          have hq4 : k + 1 ≤ maxLen := by unfold maxLen; omega
          have hq5 : (k + 1) * 4 ≤ 140737488355328 := by omega
          have hq6 : w.heap.size ≤ ((w3.alloc (.cells #[.int .u32 x] 35)).drew).heap.size := by simp; omega
          unfold nv32
          go_wp2
          go_region_law (first
            | (refine step_append_row isU32 _ rfl _ _ 24 rfl w.heap.size 35 i0 (.int .u32 0) 4 Tryz.underlying24 hi hz0 hz1 hz2 rfl ⟨0, by omega, rfl⟩ _ _ _ (by simp [Act.eval]) HRW.out (some ⟨w3.heap.size, 0, none⟩) 1 1 [nv32 x] (by simp [Act.eval]) HSL.out (by intro u hu; simp at hu; subst hu; rfl) HOK.out hq4 hq5 hq6 ?_; intro v4 w4 r4 hg4; obtain ⟨v4a, v4c, rfl⟩ := r4.form; have hh4 := heap_grown HBX3.out hg4 (HRW.out.not_own HBX3.out (by decide)); have hc4 : w4.cell? ⟨R, f, none⟩ = some (.slice va k vc) := (by rw [cell_of_block hh4 f, Array.getElem?_setIfInBounds]; simp [hcf]); have hf4 : w4.frozen? ⟨R, f, none⟩ = false := unfrozen_of_block hh4 f; have hg04 : w4.cell? ⟨G, 0, none⟩ = some (.pointer (some ⟨R, f, none⟩)) := cell_grown HG0.out hg4 (fun e => by have := (HRW.out.own.lt G e).1; omega); have HH4 := Lib.hid hh4; have HR4 := Lib.hid r4; have HG4 := Lib.hid hg4; clear hh4 r4 hg4))
          all_goals go_wp2
          all_goals go_roundw
          all_goals first
            | (simp [intOf]; omega)
            | (refine ⟨xs ++ [x], r2, a4, c4, .slice v4a (k + 1) v4c, rfl, ?_, ?_⟩
               · rw [HKX.out]; go_num
               · exact sect_end HNX.out HS4.out HBT2.out HBK.out HBT3.out HRW.out HG4.out HR4.out HH4.out (by rw [HKX.out]) (by rw [HLL.out]; simp) hlow hRlt (by omega))
        · have HE := Lib.hid (hI.out.far.bad (by rw [← HK.out]; exact hlt) HCS.out her)
          have H0 := Lib.hid h0
          have e1 : (er != 0) = true := by simp [h0]
          have e2 : (er == 0) = false := by simp [h0]
          have HBX := Lib.hid (heap_below HBX2.out hb3)
          have HBT := Lib.hid (but_below HBT2.out hb3)
          clear her h0 hb3 hI
          go_wp2
          go_ret2
          exact ⟨HBT.out, Or.inr ⟨er, _, HE.out, H0.out, rfl, HBX.out, by simp⟩⟩
    · have hkk : count = k := by omega
      subst hkk
      have hd := hI.out.far.done HK.out.symm
      have HD := Lib.hid hd
      clear hd hSW g0 g2 g3
      go_wp2
      go_ret2
      obtain ⟨a5, c5, rfl, _, s5⟩ := hI.out.row.sees
      have hown := hI.out.row.own.lt
      refine ⟨hI.out.but, Or.inl ⟨xs, rest, a5, c5, a2, c2, HD.out, rfl, hI.out.sees, hI.out.blk, hI.out.box, s5, fun b off e => ?_⟩⟩
      subst e
      have := (hown b rfl).1
      omega
end Go.Proofs.YtglhnmbfkbjemaaGreatDoor
namespace Go.Proofs.YtglhnmbfkbjemaaGreatDoor
open Go Go.RowKit Go.Joins
set_option maxRecDepth 100000 in
theorem section_lat (R f count most : Nat) (item : FuncId) (w : World) :
    Calls Tryz.prog 62 #[.pointer (some ⟨R, f, .none⟩), .int .u32 count, .func (.func item) #[] #[], .int .u32 most] w fun e w' =>
      e = .returned (.func (.func 95) #[] #[.pointer (some ⟨w.heap.size + 1, 0, .none⟩), .pointer (some ⟨w.heap.size + 2, 0, .none⟩), .pointer (some ⟨w.heap.size + 3, 0, .none⟩), .pointer (some ⟨w.heap.size, 0, .none⟩)]) ∧
      (R < w.heap.size → SecW w.heap.size R f count most item w') ∧ Below w.heap.size w w' := by
  go_enter Tryz.func62, Tryz.ntmps62
  go_wp2
  go_ret
  refine ⟨rfl, fun hR => ⟨?_, ?_, ?_, ?_, hR⟩, ext_trans (ext_alloc _ _) (ext_trans (ext_alloc _ _) (ext_trans (ext_alloc _ _) (ext_alloc _ _)))⟩
  · exact cell_old (cell_old (cell_old (cell_new _ _ _ _ _ _ _ rfl rfl)))
  · exact cell_old (cell_old (cell_new _ _ _ _ _ _ _ (by simp) rfl))
  · exact cell_old (cell_new _ _ _ _ _ _ _ (by simp) rfl)
  · exact cell_new _ _ _ _ _ _ _ (by simp) rfl
set_option maxRecDepth 100000 in
theorem section_gate (R f count most : Nat) (item : FuncId) (w : World) :
    Calls Tryz.prog 64 #[.pointer (some ⟨R, f, .none⟩), .int .u32 count, .func (.func item) #[] #[], .int .u32 most] w fun e w' =>
      e = .returned (.func (.func 96) #[] #[.pointer (some ⟨w.heap.size + 1, 0, .none⟩), .pointer (some ⟨w.heap.size + 2, 0, .none⟩), .pointer (some ⟨w.heap.size + 3, 0, .none⟩), .pointer (some ⟨w.heap.size, 0, .none⟩)]) ∧
      (R < w.heap.size → SecW w.heap.size R f count most item w') ∧ Below w.heap.size w w' := by
  go_enter Tryz.func64, Tryz.ntmps64
  go_wp2
  go_ret
  refine ⟨rfl, fun hR => ⟨?_, ?_, ?_, ?_, hR⟩, ext_trans (ext_alloc _ _) (ext_trans (ext_alloc _ _) (ext_trans (ext_alloc _ _) (ext_alloc _ _)))⟩
  · exact cell_old (cell_old (cell_old (cell_new _ _ _ _ _ _ _ rfl rfl)))
  · exact cell_old (cell_old (cell_new _ _ _ _ _ _ _ (by simp) rfl))
  · exact cell_old (cell_new _ _ _ _ _ _ _ (by simp) rfl)
  · exact cell_new _ _ _ _ _ _ _ (by simp) rfl
theorem sect_end3 {T : TypeId} {item : List UInt8 → Nat → Except Int Tri} {R f most count k : Nat} {CR : Array Value} {bs r2 : List UInt8} {w w2 w3 w4 : World} {v v4 : Value} {xs : List Tri} {x : Tri} {a0 a4 : Option Addr} {c4 n4 : Nat} {L L4 : List Value} (hnx : Sofar item most count bs (xs ++ [x]) r2) (hs4 : Sees w2 a4 r2.length c4 (r2.map bv)) (hbt2 : w.grownBy w2 (some R))
    (hbk : a4.map Addr.block = a0.map Addr.block) (hbt3 : w.grownBy w3 (some R)) (hrw : w3.ownsRow w.heap.size T 3 v k L) (hg4 : w3.grownBy w4 v.ownBlock) (hr4 : w4.ownsRow w.heap.size T 3 v4 n4 L4)
    (hh4 : w4.heap[R]? = some (.cells (CR.setIfInBounds f v) 39 (0, 0))) (hn4 : n4 = (xs ++ [x]).length) (hl4 : L4 = triCs (xs ++ [x])) (hlow : ∀ b, a0.map Addr.block = some b → b < w.heap.size ∧ b ≠ R) (hR : R < w.heap.size) (hle : r2.length ≤ bs.length) :
    SectI item (own3 T) a0 R f most count CR bs w (w4.setCell ⟨R, f, .none⟩ v4) v4 (xs ++ [x]) r2 a4 c4 := by
  subst hn4; subst hl4
  have hb4 := but_owns hbt3 hrw hg4
  have hb5 := but_set (f := f) (v := v4) hb4
  refine ⟨hnx, sees_old hs4 hbt2 hb5 (by rw [hbk]; exact hlow), hbk, ?_, ?_, hb5, hle⟩
  · refine owns_other hr4 fun k hk => ?_
    exact Below.heap_setCell w4 ⟨R, f, .none⟩ v4 k (fun e => by have := (hr4.lt k hk).1; have e' : k = R := e; omega)
  · have := block_setCell hh4 (i := f) v4
    rw [set_set] at this
    exact this
end Go.Proofs.YtglhnmbfkbjemaaGreatDoor
