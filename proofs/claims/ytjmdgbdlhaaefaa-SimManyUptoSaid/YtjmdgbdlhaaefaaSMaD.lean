/- sim: what a run of words holds at one place is what the run of that trace holds. -/
import Derived.Test.YtjmdgbdlhaaefaaNBase
import Derived.Test.YtjmdgbdlhaaefaaNSpec
import Derived.Test.YtjmdgbdlhaaefaaNVal
import Derived.Test.YtjmdgbdlhaaefaaNTrace
import Derived.Test.YtjmdgbdlhaaefaaNCirc
import Derived.Test.YtjmdgbdlhaaefaaNOwns
import Derived.Test.YtjmdgbdlhaaefaaNHeap
import Derived.Test.YtjmdgbdlhaaefaaNFits
import Derived.Test.YtjmdgbdlhaaefaaTBits
import Derived.Test.YtjmdgbdlhaaefaaSMaC
import Derived.Test.YtjmdgbdlhaaefaaRows
import Derived.Test.YtjmdgbdlhaaefaaShelf
import Derived.BigQuiet
import Derived.BigRegion
import Derived.Deep.AppendLies
import Derived.Deep.CutRange
import Derived.Deep.QuietTactic
import Derived.Deep.RegionHeld3
import Derived.Deep.RegionLaw
import Derived.Deep.RegionWith
import Derived.KernelRfl
import Derived.Laws.Bits64b
import Derived.Laws.BitsAllLaws
import Derived.Laws.BitsLemmas
import Derived.Laws.EntriesVeiled
import Derived.Laws.MakeOwn
import Derived.Laws.Tables
import Derived.Lib.AppendStr
import Derived.Lib.AppendZeros
import Derived.Lib.ConvBytes
import Derived.Lib.Hide
import Derived.Lib.SlBytesRow
import Derived.Lib.SmallJoins
import Derived.LoopIn
import Derived.LoopNIn
import Derived.Maps.AppendAt
import Derived.OrdersHeld
import Derived.OrdersIn
import Derived.OwnWalkIn
import Derived.RangeFuncBox
import Derived.RangeFuncCalls
import Derived.RangeFuncLeaves
import Derived.RangeFuncNested
import Derived.RangeFuncWrites
import Derived.Shelf.Abstract
import Derived.Shelf.Bytes.SlSmallAll
import Derived.Shelf.RegionOpen
import Derived.Sort.CutIn
import Derived.Stop.RegionWithIn
import Derived.TacticsInMore
import Derived.WalkKit
import Derived.WalkLawsBesides
import Derived.WalkSpells
import Derived.Test.YtjmdgbdlhaaefaaOwn
import Derived.Test.YtjmdgbdlhaaefaaOwnStr
import Derived.Test.YtjmdgbdlhaaefaaNOwnsN
import Derived.Test.YtjmdgbdlhaaefaaNStep
import Derived.Test.YtjmdgbdlhaaefaaNCopyTr
import Derived.Test.YtjmdgbdlhaaefaaRawMay
import Derived.Test.YtjmdgbdlhaaefaaNHeap2
import Derived.Test.YtjmdgbdlhaaefaaSSpec
import Derived.Test.YtjmdgbdlhaaefaaSRange
import Derived.Test.YtjmdgbdlhaaefaaRawPred
import Derived.Test.YtjmdgbdlhaaefaaSRun
import Derived.Test.YtjmdgbdlhaaefaaSSurely
import Derived.Test.YtjmdgbdlhaaefaaSMaA
/- sim.mayTogether: may traces run at once? By its contract. -/
namespace Go.Proofs.Ytjmdgbdlhaaefaa
open Go Go.RowKit Go.Joins

/-- Is a trace not one that may run with the first one? -/
def wrongT (c : NormC) (t0 t : TraceC) : Bool := !fitsS c t || (decide (t.bad ≠ t0.bad) || decide (t.frames.length ≠ t0.frames.length))
theorem keep8m {w w' : World} {a0 a1 a2 a3 a4 a5 a6 a7 a8 a9 a10 a11 : Addr} {v0 v1 v2 v3 v4 v5 v6 v7 v8 v9 v10 v11 : Value} (h : w.cell? a0 = some v0 ∧ w.cell? a1 = some v1 ∧ w.cell? a2 = some v2 ∧ w.cell? a3 = some v3 ∧ w.cell? a4 = some v4 ∧ w.cell? a5 = some v5 ∧ w.cell? a6 = some v6 ∧ w.cell? a7 = some v7 ∧ w.cell? a8 = some v8 ∧ w.cell? a9 = some v9 ∧ w.cell? a10 = some v10 ∧ w.cell? a11 = some v11) (hb : Below w.heap.size w w') : w'.cell? a0 = some v0 ∧ w'.cell? a1 = some v1 ∧ w'.cell? a2 = some v2 ∧ w'.cell? a3 = some v3 ∧ w'.cell? a4 = some v4 ∧ w'.cell? a5 = some v5 ∧ w'.cell? a6 = some v6 ∧ w'.cell? a7 = some v7 ∧ w'.cell? a8 = some v8 ∧ w'.cell? a9 = some v9 ∧ w'.cell? a10 = some v10 ∧ w'.cell? a11 = some v11 := by
  obtain ⟨h0, h1, h2, h3, h4, h5, h6, h7, h8, h9, h10, h11⟩ := h
  have one : ∀ {a : Addr} {v : Value}, w.cell? a = some v → w'.cell? a = some v := fun {a v} h => (hb.cell (World.block_lt_of_cell? _ _ h)).trans h
  exact ⟨one h0, one h1, one h2, one h3, one h4, one h5, one h6, one h7, one h8, one h9, one h10, one h11⟩

set_option maxRecDepth 100000 in
set_option maxHeartbeats 3200000 in
theorem wrong_any (c : NormC) (s : CSlots) (b n cc cb lb : Nat) (sts : List TSlots) (ts : List TraceC) (t : TraceC) (st : TSlots) (w : World) (h : SeesCir w s c) (hs : s.small) (hlo : -9223372036854775808 ≤ c.ins) (hhi : c.ins < 9223372036854775808)
    (hts : TsSee w (some ⟨b, 0, none⟩) n cc sts ts) (hn : 0 < n) (ht : SeesTr w st t) (hst : st.small) (hb1 : -9223372036854775808 ≤ t.bad ∧ t.bad < 9223372036854775808)
    (hcb : w.heap[cb]? = some (.cells #[.int .i64 c.ins, .slice s.a1 s.n1 s.c1, .slice s.a2 s.n2 s.c2, .slice s.a3 s.n3 s.c3, .slice s.a4 s.n4 s.c4, .slice s.a5 s.n5 s.c5] 26 (0, 0))) (hlb : w.heap[lb]? = some (.cells #[.slice (some ⟨b, 0, none⟩) n cc] 50 (0, 0))) :
    Calls Try.prog 73 #[.agg #[.int .i64 t.bad, .slice st.a1 st.n1 st.c1, .slice st.a2 st.n2 st.c2], .pointer (some ⟨cb, 0, none⟩), .pointer (some ⟨lb, 0, none⟩)] w fun e w' => e = .returned (.bool (wrongT c (ts.getD 0 t00) t)) ∧ Below w.heap.size w w' := by
  have HFIT := Lib.hid (fun W (hb : Below w.heap.size w W) => fits_any c t s st W (h.below hb) (ht.below hb) hs hst hlo hhi hb1)
  unfold cirV traceV at HFIT
  obtain ⟨b', e', hbl, hcells⟩ := hts.cells hn
  cases e'
  obtain ⟨d0, d1, d2⟩ := hcells 0 hn
  simp only [Nat.zero_mul, Nat.zero_add] at d0 d1 d2
  have hn0 : (sts.getD 0 st00).n2 = (ts.getD 0 t00).frames.length := (hts.each 0 hn).s2.n_eq.symm
  have hnt : st.n2 = t.frames.length := ht.s2.n_eq.symm
  obtain ⟨B0, hB0⟩ : ∃ z, z = (ts.getD 0 t00).bad := ⟨_, rfl⟩
  obtain ⟨N0, hN0⟩ : ∃ z, z = (sts.getD 0 st00).n2 := ⟨_, rfl⟩
  obtain ⟨A0, hA0⟩ : ∃ z, z = (sts.getD 0 st00).a2 := ⟨_, rfl⟩
  obtain ⟨C0, hC0⟩ : ∃ z, z = (sts.getD 0 st00).c2 := ⟨_, rfl⟩
  obtain ⟨q, hq⟩ : ∃ q, q = fitsS c t := ⟨_, rfl⟩
  rw [← hq] at HFIT
  have HW : Hid (wrongT c (ts.getD 0 t00) t = (!q || (decide (t.bad ≠ B0) || decide (st.n2 ≠ N0)))) := by show _ = _; unfold wrongT; rw [← hq, ← hB0, hnt, hN0, hn0]
  rw [← hB0] at d0
  rw [← hN0, ← hA0, ← hC0] at d2
  obtain ⟨WR, hWR⟩ : ∃ x, x = wrongT c (ts.getD 0 t00) t := ⟨_, rfl⟩
  rw [← hWR] at HW ⊢
  have HCB := Lib.hid hcb
  have HLB := Lib.hid hlb
  have HD0 := Lib.hid d0
  have HD2 := Lib.hid d2
  have HBL := Lib.hid hbl
  clear hts hcells d0 d1 d2 hn0 hnt hB0 hN0 hA0 hC0 hq hWR hcb hlb h hs hlo hhi ht hst hb1 hbl
  go_enter Try.func73, Try.ntmps73
  go_upto_region 1 with fail
  generalize hW : World.alloc w _ = W1
  have hb : Below w.heap.size w W1 := by subst hW; exact ext_alloc _ _
  have hT : W1.heap[w.heap.size]? = some (.cells #[.int .i64 t.bad, .slice st.a1 st.n1 st.c1, .slice st.a2 st.n2 st.c2] 30 (0, 0)) := by subst hW; exact heap_new _ _ _ rfl
  have hx := heap_below HCB.out hb
  have hy := heap_below HLB.out hb
  have HS0 := Lib.hid (And.intro (cell_of_block hx 0) (And.intro (cell_of_block hx 1) (And.intro (cell_of_block hx 2) (And.intro (cell_of_block hx 3) (And.intro (cell_of_block hx 4) (And.intro (cell_of_block hx 5) (And.intro (cell_of_block hT 0) (And.intro (cell_of_block hT 1) (And.intro (cell_of_block hT 2) (And.intro (cell_of_block hy 0) (And.intro ((hb.cell (p := ⟨b, 0, none⟩) HBL.out).trans HD0.out) ((hb.cell (p := ⟨b, 2, none⟩) HBL.out).trans HD2.out))))))))))))
  have HB := Lib.hid hb
  have hn0 : (0 : Int) < (n : Int) := by omega
  clear hW hb hT hx hy
  refine wp_region_noPanic ?_
  refine wp_region_held (S := fun w' => w'.cell? ⟨cb, 0, none⟩ = some (.int .i64 c.ins) ∧ w'.cell? ⟨cb, 1, none⟩ = some (.slice s.a1 s.n1 s.c1) ∧ w'.cell? ⟨cb, 2, none⟩ = some (.slice s.a2 s.n2 s.c2) ∧ w'.cell? ⟨cb, 3, none⟩ = some (.slice s.a3 s.n3 s.c3) ∧ w'.cell? ⟨cb, 4, none⟩ = some (.slice s.a4 s.n4 s.c4) ∧ w'.cell? ⟨cb, 5, none⟩ = some (.slice s.a5 s.n5 s.c5) ∧
    w'.cell? ⟨w.heap.size, 0, none⟩ = some (.int .i64 t.bad) ∧ w'.cell? ⟨w.heap.size, 1, none⟩ = some (.slice st.a1 st.n1 st.c1) ∧ w'.cell? ⟨w.heap.size, 2, none⟩ = some (.slice st.a2 st.n2 st.c2) ∧ w'.cell? ⟨lb, 0, none⟩ = some (.slice (some ⟨b, 0, none⟩) n cc) ∧ w'.cell? ⟨b, 0, none⟩ = some (.int .i64 B0) ∧ w'.cell? ⟨b, 2, none⟩ = some (.slice A0 N0 C0)) (by kernel_rfl) ?_
  generalize hY : ({ W1 with drawn := W1.drawn + 1 } : World) = Y0
  have hY0 : Below W1.heap.size W1 Y0 := by subst hY; exact (Below.refl _ _).drew
  have HSD := Lib.hid (keep8m HS0.out hY0)
  have HYB := Lib.hid hY0
  clear hY hY0 HS0
  refine wpAnyH_take (i := 0) (v := ?_) (by simp only [List.getElem?_toArray, List.getElem?_cons_zero]; rfl) (by kernel_rfl) (by kernel_rfl) (by kernel_rfl) (fun _ _ _ h => h) (Or.inl ⟨by rfl, ?_⟩) HSD.out ?_
  rotate_left
  · intro w hSw
    (try dsimp only at hSw)
    obtain ⟨q0_, q1_, q2_, q3_, q4_, q5_, q6_, q7_, q8_, q9_, q10_, q11_⟩ := hSw
    go_simp
    try with_reducible rfl
  try simp only [Act.put, List.setIfInBounds_toArray, List.set_cons_zero, List.set_cons_succ]
  refine wpAnyH_take (i := 1) (v := ?_) (by simp only [List.getElem?_toArray, List.getElem?_cons_zero, List.getElem?_cons_succ]; rfl) (by kernel_rfl) (by kernel_rfl) (by kernel_rfl) (fun _ _ _ h => h) (Or.inl ⟨by rfl, ?_⟩) HSD.out ?_
  rotate_left
  · intro w hSw
    (try dsimp only at hSw)
    obtain ⟨q0_, q1_, q2_, q3_, q4_, q5_, q6_, q7_, q8_, q9_, q10_, q11_⟩ := hSw
    go_simp
    try with_reducible rfl
  try simp only [Act.put, List.setIfInBounds_toArray, List.set_cons_zero, List.set_cons_succ]
  refine wpAnyH_ready (rs := [2]) (by kernel_rfl) (by simp) ?_
  refine AllReadyH.cons (by simp only [List.getElem?_toArray, List.getElem?_cons_zero, List.getElem?_cons_succ]; rfl) (fun K hK => ?_) AllReadyH.nil
  go_simp
  refine (HFIT.out _ (ext_trans HB.out HYB.out)).mono ?_
  rintro e s1 ⟨rfl, b1_⟩
  have HD1 := Lib.hid (ext_trans HYB.out b1_)
  have HS1 := Lib.hid (keep8m HSD.out b1_)
  clear b1_
  refine hK.out _ _ HS1.out (fun _ => ?_)
  clear hK K
  try simp only [Act.put, List.setIfInBounds_toArray, List.set_cons_zero, List.set_cons_succ]
  cases q with
  | false =>
    refine wpAnyH_take (i := 3) (v := ?_) (by simp only [List.getElem?_toArray, List.getElem?_cons_zero, List.getElem?_cons_succ]; rfl) (by kernel_rfl) (by kernel_rfl) (by kernel_rfl) (fun _ _ _ h => h) (Or.inl ⟨by rfl, ?_⟩) HS1.out ?_
    rotate_left
    · intro w hSw
      (try dsimp only at hSw)
      obtain ⟨q0_, q1_, q2_, q3_, q4_, q5_, q6_, q7_, q8_, q9_, q10_, q11_⟩ := hSw
      go_simp
      try with_reducible rfl
    try simp only [Act.put, List.setIfInBounds_toArray, List.set_cons_zero, List.set_cons_succ]
    refine wpAnyH_take (i := 4) (v := ?_) (by simp only [List.getElem?_toArray, List.getElem?_cons_zero, List.getElem?_cons_succ]; rfl) (by kernel_rfl) (by kernel_rfl) (by kernel_rfl) (fun _ _ _ h => h) (Or.inl ⟨by rfl, ?_⟩) HS1.out ?_
    rotate_left
    · intro w hSw
      (try dsimp only at hSw)
      obtain ⟨q0_, q1_, q2_, q3_, q4_, q5_, q6_, q7_, q8_, q9_, q10_, q11_⟩ := hSw
      go_simp
      try with_reducible rfl
    try simp only [Act.put, List.setIfInBounds_toArray, List.set_cons_zero, List.set_cons_succ]
    refine wpAnyH_take (i := 5) (v := undef) (by simp only [List.getElem?_toArray, List.getElem?_cons_zero, List.getElem?_cons_succ]; rfl) (by kernel_rfl) (by kernel_rfl) (by kernel_rfl) (fun _ _ _ h => h) (Or.inr ⟨by rfl, by rfl⟩) HS1.out ?_
    try simp only [Act.put, List.setIfInBounds_toArray, List.set_cons_zero, List.set_cons_succ]
    refine wpAnyH_take (i := 6) (v := undef) (by simp only [List.getElem?_toArray, List.getElem?_cons_zero, List.getElem?_cons_succ]; rfl) (by kernel_rfl) (by kernel_rfl) (by kernel_rfl) (fun _ _ _ h => h) (Or.inr ⟨by rfl, by rfl⟩) HS1.out ?_
    try simp only [Act.put, List.setIfInBounds_toArray, List.set_cons_zero, List.set_cons_succ]
    refine wpAnyH_take (i := 7) (v := undef) (by simp only [List.getElem?_toArray, List.getElem?_cons_zero, List.getElem?_cons_succ]; rfl) (by kernel_rfl) (by kernel_rfl) (by kernel_rfl) (fun _ _ _ h => h) (Or.inr ⟨by rfl, by rfl⟩) HS1.out ?_
    try simp only [Act.put, List.setIfInBounds_toArray, List.set_cons_zero, List.set_cons_succ]
    refine wpAnyH_take (i := 8) (v := undef) (by simp only [List.getElem?_toArray, List.getElem?_cons_zero, List.getElem?_cons_succ]; rfl) (by kernel_rfl) (by kernel_rfl) (by kernel_rfl) (fun _ _ _ h => h) (Or.inr ⟨by rfl, by rfl⟩) HS1.out ?_
    try simp only [Act.put, List.setIfInBounds_toArray, List.set_cons_zero, List.set_cons_succ]
    refine wpAnyH_take (i := 9) (v := undef) (by simp only [List.getElem?_toArray, List.getElem?_cons_zero, List.getElem?_cons_succ]; rfl) (by kernel_rfl) (by kernel_rfl) (by kernel_rfl) (fun _ _ _ h => h) (Or.inr ⟨by rfl, by rfl⟩) HS1.out ?_
    try simp only [Act.put, List.setIfInBounds_toArray, List.set_cons_zero, List.set_cons_succ]
    refine wpAnyH_take (i := 10) (v := undef) (by simp only [List.getElem?_toArray, List.getElem?_cons_zero, List.getElem?_cons_succ]; rfl) (by kernel_rfl) (by kernel_rfl) (by kernel_rfl) (fun _ _ _ h => h) (Or.inr ⟨by rfl, by rfl⟩) HS1.out ?_
    try simp only [Act.put, List.setIfInBounds_toArray, List.set_cons_zero, List.set_cons_succ]
    refine wpAnyH_take (i := 11) (v := undef) (by simp only [List.getElem?_toArray, List.getElem?_cons_zero, List.getElem?_cons_succ]; rfl) (by kernel_rfl) (by kernel_rfl) (by kernel_rfl) (fun _ _ _ h => h) (Or.inr ⟨by rfl, by rfl⟩) HS1.out ?_
    try simp only [Act.put, List.setIfInBounds_toArray, List.set_cons_zero, List.set_cons_succ]
    refine wpAnyH_take (i := 12) (v := ?_) (by simp only [List.getElem?_toArray, List.getElem?_cons_zero, List.getElem?_cons_succ]; rfl) (by kernel_rfl) (by kernel_rfl) (by kernel_rfl) (fun _ _ _ h => h) (Or.inl ⟨by rfl, ?_⟩) HS1.out ?_
    rotate_left
    · intro w hSw
      (try dsimp only at hSw)
      obtain ⟨q0_, q1_, q2_, q3_, q4_, q5_, q6_, q7_, q8_, q9_, q10_, q11_⟩ := hSw
      go_simp
      try with_reducible rfl
    try simp only [Act.put, List.setIfInBounds_toArray, List.set_cons_zero, List.set_cons_succ]
    refine wpAnyH_take (i := 13) (v := ?_) (by simp only [List.getElem?_toArray, List.getElem?_cons_zero, List.getElem?_cons_succ]; rfl) (by kernel_rfl) (by kernel_rfl) (by kernel_rfl) (fun _ _ _ h => h) (Or.inl ⟨by rfl, ?_⟩) HS1.out ?_
    rotate_left
    · intro w hSw
      (try dsimp only at hSw)
      obtain ⟨q0_, q1_, q2_, q3_, q4_, q5_, q6_, q7_, q8_, q9_, q10_, q11_⟩ := hSw
      go_simp
      try with_reducible rfl
    try simp only [Act.put, List.setIfInBounds_toArray, List.set_cons_zero, List.set_cons_succ]
    refine wpAnyH_take (i := 14) (v := undef) (by simp only [List.getElem?_toArray, List.getElem?_cons_zero, List.getElem?_cons_succ]; rfl) (by kernel_rfl) (by kernel_rfl) (by kernel_rfl) (fun _ _ _ h => h) (Or.inr ⟨by rfl, by rfl⟩) HS1.out ?_
    try simp only [Act.put, List.setIfInBounds_toArray, List.set_cons_zero, List.set_cons_succ]
    refine wpAnyH_take (i := 15) (v := undef) (by simp only [List.getElem?_toArray, List.getElem?_cons_zero, List.getElem?_cons_succ]; rfl) (by kernel_rfl) (by kernel_rfl) (by kernel_rfl) (fun _ _ _ h => h) (Or.inr ⟨by rfl, by rfl⟩) HS1.out ?_
    try simp only [Act.put, List.setIfInBounds_toArray, List.set_cons_zero, List.set_cons_succ]
    refine wpAnyH_take (i := 16) (v := undef) (by simp only [List.getElem?_toArray, List.getElem?_cons_zero, List.getElem?_cons_succ]; rfl) (by kernel_rfl) (by kernel_rfl) (by kernel_rfl) (fun _ _ _ h => h) (Or.inr ⟨by rfl, by rfl⟩) HS1.out ?_
    try simp only [Act.put, List.setIfInBounds_toArray, List.set_cons_zero, List.set_cons_succ]
    refine wpAnyH_take (i := 17) (v := undef) (by simp only [List.getElem?_toArray, List.getElem?_cons_zero, List.getElem?_cons_succ]; rfl) (by kernel_rfl) (by kernel_rfl) (by kernel_rfl) (fun _ _ _ h => h) (Or.inr ⟨by rfl, by rfl⟩) HS1.out ?_
    try simp only [Act.put, List.setIfInBounds_toArray, List.set_cons_zero, List.set_cons_succ]
    refine wpAnyH_take (i := 18) (v := undef) (by simp only [List.getElem?_toArray, List.getElem?_cons_zero, List.getElem?_cons_succ]; rfl) (by kernel_rfl) (by kernel_rfl) (by kernel_rfl) (fun _ _ _ h => h) (Or.inr ⟨by rfl, by rfl⟩) HS1.out ?_
    try simp only [Act.put, List.setIfInBounds_toArray, List.set_cons_zero, List.set_cons_succ]
    refine wpAnyH_take (i := 19) (v := undef) (by simp only [List.getElem?_toArray, List.getElem?_cons_zero, List.getElem?_cons_succ]; rfl) (by kernel_rfl) (by kernel_rfl) (by kernel_rfl) (fun _ _ _ h => h) (Or.inr ⟨by rfl, by rfl⟩) HS1.out ?_
    try simp only [Act.put, List.setIfInBounds_toArray, List.set_cons_zero, List.set_cons_succ]
    refine wpAnyH_take (i := 20) (v := undef) (by simp only [List.getElem?_toArray, List.getElem?_cons_zero, List.getElem?_cons_succ]; rfl) (by kernel_rfl) (by kernel_rfl) (by kernel_rfl) (fun _ _ _ h => h) (Or.inr ⟨by rfl, by rfl⟩) HS1.out ?_
    try simp only [Act.put, List.setIfInBounds_toArray, List.set_cons_zero, List.set_cons_succ]
    refine wpAnyH_take (i := 21) (v := undef) (by simp only [List.getElem?_toArray, List.getElem?_cons_zero, List.getElem?_cons_succ]; rfl) (by kernel_rfl) (by kernel_rfl) (by kernel_rfl) (fun _ _ _ h => h) (Or.inr ⟨by rfl, by rfl⟩) HS1.out ?_
    try simp only [Act.put, List.setIfInBounds_toArray, List.set_cons_zero, List.set_cons_succ]
    refine wpAnyH_take (i := 22) (v := undef) (by simp only [List.getElem?_toArray, List.getElem?_cons_zero, List.getElem?_cons_succ]; rfl) (by kernel_rfl) (by kernel_rfl) (by kernel_rfl) (fun _ _ _ h => h) (Or.inr ⟨by rfl, by rfl⟩) HS1.out ?_
    try simp only [Act.put, List.setIfInBounds_toArray, List.set_cons_zero, List.set_cons_succ]
    refine wpAnyH_take (i := 23) (v := ?_) (by simp only [List.getElem?_toArray, List.getElem?_cons_zero, List.getElem?_cons_succ]; rfl) (by kernel_rfl) (by kernel_rfl) (by kernel_rfl) (fun _ _ _ h => h) (Or.inl ⟨by rfl, ?_⟩) HS1.out ?_
    rotate_left
    · intro w hSw
      (try dsimp only at hSw)
      obtain ⟨q0_, q1_, q2_, q3_, q4_, q5_, q6_, q7_, q8_, q9_, q10_, q11_⟩ := hSw
      go_simp
      try with_reducible rfl
    try simp only [Act.put, List.setIfInBounds_toArray, List.set_cons_zero, List.set_cons_succ]
    refine wpAnyH_take (i := 24) (v := ?_) (by simp only [List.getElem?_toArray, List.getElem?_cons_zero, List.getElem?_cons_succ]; rfl) (by kernel_rfl) (by kernel_rfl) (by kernel_rfl) (fun _ _ _ h => h) (Or.inl ⟨by rfl, ?_⟩) HS1.out ?_
    rotate_left
    · intro w hSw
      (try dsimp only at hSw)
      obtain ⟨q0_, q1_, q2_, q3_, q4_, q5_, q6_, q7_, q8_, q9_, q10_, q11_⟩ := hSw
      go_simp
      try with_reducible rfl
    try simp only [Act.put, List.setIfInBounds_toArray, List.set_cons_zero, List.set_cons_succ]
    refine wpAnyH_done (by kernel_rfl) ?_ _
    refine NoPanic.normal ?_
    go_wp2
    go_ret
    exact ⟨by rw [HW.out]; rfl, ext_trans HB.out HD1.out⟩
  | true =>
    by_cases h1 : t.bad = B0
    · have e1 : (t.bad == B0) = true := by simpa using h1
      have e1' : (t.bad != B0) = false := by simpa using h1
      have HE1 : Hid (decide (t.bad ≠ B0) = false) := by show _ = _; simpa using h1
      clear h1
      by_cases h2 : st.n2 = N0
      · have e2 : ((st.n2 : Int) == (N0 : Int)) = true := by simp; omega
        have e2' : ((st.n2 : Int) != (N0 : Int)) = false := by simp; omega
        have HE2 : Hid (decide (st.n2 ≠ N0) = false) := by show _ = _; simpa using h2
        clear h2
        refine wpAnyH_take (i := 3) (v := ?_) (by simp only [List.getElem?_toArray, List.getElem?_cons_zero, List.getElem?_cons_succ]; rfl) (by kernel_rfl) (by kernel_rfl) (by kernel_rfl) (fun _ _ _ h => h) (Or.inl ⟨by rfl, ?_⟩) HS1.out ?_
        rotate_left
        · intro w hSw
          (try dsimp only at hSw)
          obtain ⟨q0_, q1_, q2_, q3_, q4_, q5_, q6_, q7_, q8_, q9_, q10_, q11_⟩ := hSw
          go_simp
          try with_reducible rfl
        try simp only [Act.put, List.setIfInBounds_toArray, List.set_cons_zero, List.set_cons_succ]
        refine wpAnyH_take (i := 4) (v := ?_) (by simp only [List.getElem?_toArray, List.getElem?_cons_zero, List.getElem?_cons_succ]; rfl) (by kernel_rfl) (by kernel_rfl) (by kernel_rfl) (fun _ _ _ h => h) (Or.inl ⟨by rfl, ?_⟩) HS1.out ?_
        rotate_left
        · intro w hSw
          (try dsimp only at hSw)
          obtain ⟨q0_, q1_, q2_, q3_, q4_, q5_, q6_, q7_, q8_, q9_, q10_, q11_⟩ := hSw
          go_simp
          try with_reducible rfl
        try simp only [Act.put, List.setIfInBounds_toArray, List.set_cons_zero, List.set_cons_succ]
        refine wpAnyH_take (i := 5) (v := ?_) (by simp only [List.getElem?_toArray, List.getElem?_cons_zero, List.getElem?_cons_succ]; rfl) (by kernel_rfl) (by kernel_rfl) (by kernel_rfl) (fun _ _ _ h => h) (Or.inl ⟨by rfl, ?_⟩) HS1.out ?_
        rotate_left
        · intro w hSw
          (try dsimp only at hSw)
          obtain ⟨q0_, q1_, q2_, q3_, q4_, q5_, q6_, q7_, q8_, q9_, q10_, q11_⟩ := hSw
          go_simp
          try with_reducible rfl
        try simp only [Act.put, List.setIfInBounds_toArray, List.set_cons_zero, List.set_cons_succ]
        refine wpAnyH_take (i := 6) (v := ?_) (by simp only [List.getElem?_toArray, List.getElem?_cons_zero, List.getElem?_cons_succ]; rfl) (by kernel_rfl) (by kernel_rfl) (by kernel_rfl) (fun _ _ _ h => h) (Or.inl ⟨by rfl, ?_⟩) HS1.out ?_
        rotate_left
        · intro w hSw
          (try dsimp only at hSw)
          obtain ⟨q0_, q1_, q2_, q3_, q4_, q5_, q6_, q7_, q8_, q9_, q10_, q11_⟩ := hSw
          go_simp
          try with_reducible rfl
        try simp only [Act.put, List.setIfInBounds_toArray, List.set_cons_zero, List.set_cons_succ]
        refine wpAnyH_take (i := 7) (v := ?_) (by simp only [List.getElem?_toArray, List.getElem?_cons_zero, List.getElem?_cons_succ]; rfl) (by kernel_rfl) (by kernel_rfl) (by kernel_rfl) (fun _ _ _ h => h) (Or.inl ⟨by rfl, ?_⟩) HS1.out ?_
        rotate_left
        · intro w hSw
          (try dsimp only at hSw)
          obtain ⟨q0_, q1_, q2_, q3_, q4_, q5_, q6_, q7_, q8_, q9_, q10_, q11_⟩ := hSw
          go_simp
          try with_reducible rfl
        try simp only [Act.put, List.setIfInBounds_toArray, List.set_cons_zero, List.set_cons_succ]
        refine wpAnyH_take (i := 8) (v := ?_) (by simp only [List.getElem?_toArray, List.getElem?_cons_zero, List.getElem?_cons_succ]; rfl) (by kernel_rfl) (by kernel_rfl) (by kernel_rfl) (fun _ _ _ h => h) (Or.inl ⟨by rfl, ?_⟩) HS1.out ?_
        rotate_left
        · intro w hSw
          (try dsimp only at hSw)
          obtain ⟨q0_, q1_, q2_, q3_, q4_, q5_, q6_, q7_, q8_, q9_, q10_, q11_⟩ := hSw
          go_simp
          try with_reducible rfl
        try simp only [Act.put, List.setIfInBounds_toArray, List.set_cons_zero, List.set_cons_succ]
        refine wpAnyH_take (i := 9) (v := ?_) (by simp only [List.getElem?_toArray, List.getElem?_cons_zero, List.getElem?_cons_succ]; rfl) (by kernel_rfl) (by kernel_rfl) (by kernel_rfl) (fun _ _ _ h => h) (Or.inl ⟨by rfl, ?_⟩) HS1.out ?_
        rotate_left
        · intro w hSw
          (try dsimp only at hSw)
          obtain ⟨q0_, q1_, q2_, q3_, q4_, q5_, q6_, q7_, q8_, q9_, q10_, q11_⟩ := hSw
          go_simp
          try with_reducible rfl
        try simp only [Act.put, List.setIfInBounds_toArray, List.set_cons_zero, List.set_cons_succ]
        refine wpAnyH_take (i := 10) (v := ?_) (by simp only [List.getElem?_toArray, List.getElem?_cons_zero, List.getElem?_cons_succ]; rfl) (by kernel_rfl) (by kernel_rfl) (by kernel_rfl) (fun _ _ _ h => h) (Or.inl ⟨by rfl, ?_⟩) HS1.out ?_
        rotate_left
        · intro w hSw
          (try dsimp only at hSw)
          obtain ⟨q0_, q1_, q2_, q3_, q4_, q5_, q6_, q7_, q8_, q9_, q10_, q11_⟩ := hSw
          go_simp
          try with_reducible rfl
        try simp only [Act.put, List.setIfInBounds_toArray, List.set_cons_zero, List.set_cons_succ]
        refine wpAnyH_take (i := 11) (v := ?_) (by simp only [List.getElem?_toArray, List.getElem?_cons_zero, List.getElem?_cons_succ]; rfl) (by kernel_rfl) (by kernel_rfl) (by kernel_rfl) (fun _ _ _ h => h) (Or.inl ⟨by rfl, ?_⟩) HS1.out ?_
        rotate_left
        · intro w hSw
          (try dsimp only at hSw)
          obtain ⟨q0_, q1_, q2_, q3_, q4_, q5_, q6_, q7_, q8_, q9_, q10_, q11_⟩ := hSw
          go_simp
          try with_reducible rfl
        try simp only [Act.put, List.setIfInBounds_toArray, List.set_cons_zero, List.set_cons_succ]
        refine wpAnyH_take (i := 12) (v := ?_) (by simp only [List.getElem?_toArray, List.getElem?_cons_zero, List.getElem?_cons_succ]; rfl) (by kernel_rfl) (by kernel_rfl) (by kernel_rfl) (fun _ _ _ h => h) (Or.inl ⟨by rfl, ?_⟩) HS1.out ?_
        rotate_left
        · intro w hSw
          (try dsimp only at hSw)
          obtain ⟨q0_, q1_, q2_, q3_, q4_, q5_, q6_, q7_, q8_, q9_, q10_, q11_⟩ := hSw
          go_simp
          try with_reducible rfl
        try simp only [Act.put, List.setIfInBounds_toArray, List.set_cons_zero, List.set_cons_succ]
        refine wpAnyH_take (i := 13) (v := ?_) (by simp only [List.getElem?_toArray, List.getElem?_cons_zero, List.getElem?_cons_succ]; rfl) (by kernel_rfl) (by kernel_rfl) (by kernel_rfl) (fun _ _ _ h => h) (Or.inl ⟨by rfl, ?_⟩) HS1.out ?_
        rotate_left
        · intro w hSw
          (try dsimp only at hSw)
          obtain ⟨q0_, q1_, q2_, q3_, q4_, q5_, q6_, q7_, q8_, q9_, q10_, q11_⟩ := hSw
          go_simp
          try with_reducible rfl
        try simp only [Act.put, List.setIfInBounds_toArray, List.set_cons_zero, List.set_cons_succ]
        refine wpAnyH_take (i := 14) (v := ?_) (by simp only [List.getElem?_toArray, List.getElem?_cons_zero, List.getElem?_cons_succ]; rfl) (by kernel_rfl) (by kernel_rfl) (by kernel_rfl) (fun _ _ _ h => h) (Or.inl ⟨by rfl, ?_⟩) HS1.out ?_
        rotate_left
        · intro w hSw
          (try dsimp only at hSw)
          obtain ⟨q0_, q1_, q2_, q3_, q4_, q5_, q6_, q7_, q8_, q9_, q10_, q11_⟩ := hSw
          go_simp
          try with_reducible rfl
        try simp only [Act.put, List.setIfInBounds_toArray, List.set_cons_zero, List.set_cons_succ]
        refine wpAnyH_take (i := 15) (v := ?_) (by simp only [List.getElem?_toArray, List.getElem?_cons_zero, List.getElem?_cons_succ]; rfl) (by kernel_rfl) (by kernel_rfl) (by kernel_rfl) (fun _ _ _ h => h) (Or.inl ⟨by rfl, ?_⟩) HS1.out ?_
        rotate_left
        · intro w hSw
          (try dsimp only at hSw)
          obtain ⟨q0_, q1_, q2_, q3_, q4_, q5_, q6_, q7_, q8_, q9_, q10_, q11_⟩ := hSw
          go_simp
          try with_reducible rfl
        try simp only [Act.put, List.setIfInBounds_toArray, List.set_cons_zero, List.set_cons_succ]
        refine wpAnyH_take (i := 16) (v := ?_) (by simp only [List.getElem?_toArray, List.getElem?_cons_zero, List.getElem?_cons_succ]; rfl) (by kernel_rfl) (by kernel_rfl) (by kernel_rfl) (fun _ _ _ h => h) (Or.inl ⟨by rfl, ?_⟩) HS1.out ?_
        rotate_left
        · intro w hSw
          (try dsimp only at hSw)
          obtain ⟨q0_, q1_, q2_, q3_, q4_, q5_, q6_, q7_, q8_, q9_, q10_, q11_⟩ := hSw
          go_simp
          try with_reducible rfl
        try simp only [Act.put, List.setIfInBounds_toArray, List.set_cons_zero, List.set_cons_succ]
        refine wpAnyH_take (i := 17) (v := ?_) (by simp only [List.getElem?_toArray, List.getElem?_cons_zero, List.getElem?_cons_succ]; rfl) (by kernel_rfl) (by kernel_rfl) (by kernel_rfl) (fun _ _ _ h => h) (Or.inl ⟨by rfl, ?_⟩) HS1.out ?_
        rotate_left
        · intro w hSw
          (try dsimp only at hSw)
          obtain ⟨q0_, q1_, q2_, q3_, q4_, q5_, q6_, q7_, q8_, q9_, q10_, q11_⟩ := hSw
          go_simp
          try with_reducible rfl
        try simp only [Act.put, List.setIfInBounds_toArray, List.set_cons_zero, List.set_cons_succ]
        refine wpAnyH_take (i := 18) (v := ?_) (by simp only [List.getElem?_toArray, List.getElem?_cons_zero, List.getElem?_cons_succ]; rfl) (by kernel_rfl) (by kernel_rfl) (by kernel_rfl) (fun _ _ _ h => h) (Or.inl ⟨by rfl, ?_⟩) HS1.out ?_
        rotate_left
        · intro w hSw
          (try dsimp only at hSw)
          obtain ⟨q0_, q1_, q2_, q3_, q4_, q5_, q6_, q7_, q8_, q9_, q10_, q11_⟩ := hSw
          go_simp
          try with_reducible rfl
        try simp only [Act.put, List.setIfInBounds_toArray, List.set_cons_zero, List.set_cons_succ]
        refine wpAnyH_take (i := 19) (v := ?_) (by simp only [List.getElem?_toArray, List.getElem?_cons_zero, List.getElem?_cons_succ]; rfl) (by kernel_rfl) (by kernel_rfl) (by kernel_rfl) (fun _ _ _ h => h) (Or.inl ⟨by rfl, ?_⟩) HS1.out ?_
        rotate_left
        · intro w hSw
          (try dsimp only at hSw)
          obtain ⟨q0_, q1_, q2_, q3_, q4_, q5_, q6_, q7_, q8_, q9_, q10_, q11_⟩ := hSw
          go_simp
          try with_reducible rfl
        try simp only [Act.put, List.setIfInBounds_toArray, List.set_cons_zero, List.set_cons_succ]
        refine wpAnyH_take (i := 20) (v := ?_) (by simp only [List.getElem?_toArray, List.getElem?_cons_zero, List.getElem?_cons_succ]; rfl) (by kernel_rfl) (by kernel_rfl) (by kernel_rfl) (fun _ _ _ h => h) (Or.inl ⟨by rfl, ?_⟩) HS1.out ?_
        rotate_left
        · intro w hSw
          (try dsimp only at hSw)
          obtain ⟨q0_, q1_, q2_, q3_, q4_, q5_, q6_, q7_, q8_, q9_, q10_, q11_⟩ := hSw
          go_simp
          try with_reducible rfl
        try simp only [Act.put, List.setIfInBounds_toArray, List.set_cons_zero, List.set_cons_succ]
        refine wpAnyH_take (i := 21) (v := ?_) (by simp only [List.getElem?_toArray, List.getElem?_cons_zero, List.getElem?_cons_succ]; rfl) (by kernel_rfl) (by kernel_rfl) (by kernel_rfl) (fun _ _ _ h => h) (Or.inl ⟨by rfl, ?_⟩) HS1.out ?_
        rotate_left
        · intro w hSw
          (try dsimp only at hSw)
          obtain ⟨q0_, q1_, q2_, q3_, q4_, q5_, q6_, q7_, q8_, q9_, q10_, q11_⟩ := hSw
          go_simp
          try with_reducible rfl
        try simp only [Act.put, List.setIfInBounds_toArray, List.set_cons_zero, List.set_cons_succ]
        refine wpAnyH_take (i := 22) (v := ?_) (by simp only [List.getElem?_toArray, List.getElem?_cons_zero, List.getElem?_cons_succ]; rfl) (by kernel_rfl) (by kernel_rfl) (by kernel_rfl) (fun _ _ _ h => h) (Or.inl ⟨by rfl, ?_⟩) HS1.out ?_
        rotate_left
        · intro w hSw
          (try dsimp only at hSw)
          obtain ⟨q0_, q1_, q2_, q3_, q4_, q5_, q6_, q7_, q8_, q9_, q10_, q11_⟩ := hSw
          go_simp
          try with_reducible rfl
        try simp only [Act.put, List.setIfInBounds_toArray, List.set_cons_zero, List.set_cons_succ]
        refine wpAnyH_take (i := 23) (v := ?_) (by simp only [List.getElem?_toArray, List.getElem?_cons_zero, List.getElem?_cons_succ]; rfl) (by kernel_rfl) (by kernel_rfl) (by kernel_rfl) (fun _ _ _ h => h) (Or.inl ⟨by rfl, ?_⟩) HS1.out ?_
        rotate_left
        · intro w hSw
          (try dsimp only at hSw)
          obtain ⟨q0_, q1_, q2_, q3_, q4_, q5_, q6_, q7_, q8_, q9_, q10_, q11_⟩ := hSw
          go_simp
          try with_reducible rfl
        try simp only [Act.put, List.setIfInBounds_toArray, List.set_cons_zero, List.set_cons_succ]
        refine wpAnyH_take (i := 24) (v := ?_) (by simp only [List.getElem?_toArray, List.getElem?_cons_zero, List.getElem?_cons_succ]; rfl) (by kernel_rfl) (by kernel_rfl) (by kernel_rfl) (fun _ _ _ h => h) (Or.inl ⟨by rfl, ?_⟩) HS1.out ?_
        rotate_left
        · intro w hSw
          (try dsimp only at hSw)
          obtain ⟨q0_, q1_, q2_, q3_, q4_, q5_, q6_, q7_, q8_, q9_, q10_, q11_⟩ := hSw
          go_simp
          try with_reducible rfl
        try simp only [Act.put, List.setIfInBounds_toArray, List.set_cons_zero, List.set_cons_succ]
        refine wpAnyH_done (by kernel_rfl) ?_ _
        refine NoPanic.normal ?_
        go_wp2
        go_ret
        exact ⟨by rw [HW.out, HE1.out, HE2.out]; rfl, ext_trans HB.out HD1.out⟩
      · have e2 : ((st.n2 : Int) == (N0 : Int)) = false := by simp; omega
        have e2' : ((st.n2 : Int) != (N0 : Int)) = true := by simp; omega
        have HE2 : Hid (decide (st.n2 ≠ N0) = true) := by show _ = _; simpa using h2
        clear h2
        refine wpAnyH_take (i := 3) (v := ?_) (by simp only [List.getElem?_toArray, List.getElem?_cons_zero, List.getElem?_cons_succ]; rfl) (by kernel_rfl) (by kernel_rfl) (by kernel_rfl) (fun _ _ _ h => h) (Or.inl ⟨by rfl, ?_⟩) HS1.out ?_
        rotate_left
        · intro w hSw
          (try dsimp only at hSw)
          obtain ⟨q0_, q1_, q2_, q3_, q4_, q5_, q6_, q7_, q8_, q9_, q10_, q11_⟩ := hSw
          go_simp
          try with_reducible rfl
        try simp only [Act.put, List.setIfInBounds_toArray, List.set_cons_zero, List.set_cons_succ]
        refine wpAnyH_take (i := 4) (v := ?_) (by simp only [List.getElem?_toArray, List.getElem?_cons_zero, List.getElem?_cons_succ]; rfl) (by kernel_rfl) (by kernel_rfl) (by kernel_rfl) (fun _ _ _ h => h) (Or.inl ⟨by rfl, ?_⟩) HS1.out ?_
        rotate_left
        · intro w hSw
          (try dsimp only at hSw)
          obtain ⟨q0_, q1_, q2_, q3_, q4_, q5_, q6_, q7_, q8_, q9_, q10_, q11_⟩ := hSw
          go_simp
          try with_reducible rfl
        try simp only [Act.put, List.setIfInBounds_toArray, List.set_cons_zero, List.set_cons_succ]
        refine wpAnyH_take (i := 5) (v := ?_) (by simp only [List.getElem?_toArray, List.getElem?_cons_zero, List.getElem?_cons_succ]; rfl) (by kernel_rfl) (by kernel_rfl) (by kernel_rfl) (fun _ _ _ h => h) (Or.inl ⟨by rfl, ?_⟩) HS1.out ?_
        rotate_left
        · intro w hSw
          (try dsimp only at hSw)
          obtain ⟨q0_, q1_, q2_, q3_, q4_, q5_, q6_, q7_, q8_, q9_, q10_, q11_⟩ := hSw
          go_simp
          try with_reducible rfl
        try simp only [Act.put, List.setIfInBounds_toArray, List.set_cons_zero, List.set_cons_succ]
        refine wpAnyH_take (i := 6) (v := ?_) (by simp only [List.getElem?_toArray, List.getElem?_cons_zero, List.getElem?_cons_succ]; rfl) (by kernel_rfl) (by kernel_rfl) (by kernel_rfl) (fun _ _ _ h => h) (Or.inl ⟨by rfl, ?_⟩) HS1.out ?_
        rotate_left
        · intro w hSw
          (try dsimp only at hSw)
          obtain ⟨q0_, q1_, q2_, q3_, q4_, q5_, q6_, q7_, q8_, q9_, q10_, q11_⟩ := hSw
          go_simp
          try with_reducible rfl
        try simp only [Act.put, List.setIfInBounds_toArray, List.set_cons_zero, List.set_cons_succ]
        refine wpAnyH_take (i := 7) (v := ?_) (by simp only [List.getElem?_toArray, List.getElem?_cons_zero, List.getElem?_cons_succ]; rfl) (by kernel_rfl) (by kernel_rfl) (by kernel_rfl) (fun _ _ _ h => h) (Or.inl ⟨by rfl, ?_⟩) HS1.out ?_
        rotate_left
        · intro w hSw
          (try dsimp only at hSw)
          obtain ⟨q0_, q1_, q2_, q3_, q4_, q5_, q6_, q7_, q8_, q9_, q10_, q11_⟩ := hSw
          go_simp
          try with_reducible rfl
        try simp only [Act.put, List.setIfInBounds_toArray, List.set_cons_zero, List.set_cons_succ]
        refine wpAnyH_take (i := 8) (v := ?_) (by simp only [List.getElem?_toArray, List.getElem?_cons_zero, List.getElem?_cons_succ]; rfl) (by kernel_rfl) (by kernel_rfl) (by kernel_rfl) (fun _ _ _ h => h) (Or.inl ⟨by rfl, ?_⟩) HS1.out ?_
        rotate_left
        · intro w hSw
          (try dsimp only at hSw)
          obtain ⟨q0_, q1_, q2_, q3_, q4_, q5_, q6_, q7_, q8_, q9_, q10_, q11_⟩ := hSw
          go_simp
          try with_reducible rfl
        try simp only [Act.put, List.setIfInBounds_toArray, List.set_cons_zero, List.set_cons_succ]
        refine wpAnyH_take (i := 9) (v := ?_) (by simp only [List.getElem?_toArray, List.getElem?_cons_zero, List.getElem?_cons_succ]; rfl) (by kernel_rfl) (by kernel_rfl) (by kernel_rfl) (fun _ _ _ h => h) (Or.inl ⟨by rfl, ?_⟩) HS1.out ?_
        rotate_left
        · intro w hSw
          (try dsimp only at hSw)
          obtain ⟨q0_, q1_, q2_, q3_, q4_, q5_, q6_, q7_, q8_, q9_, q10_, q11_⟩ := hSw
          go_simp
          try with_reducible rfl
        try simp only [Act.put, List.setIfInBounds_toArray, List.set_cons_zero, List.set_cons_succ]
        refine wpAnyH_take (i := 10) (v := ?_) (by simp only [List.getElem?_toArray, List.getElem?_cons_zero, List.getElem?_cons_succ]; rfl) (by kernel_rfl) (by kernel_rfl) (by kernel_rfl) (fun _ _ _ h => h) (Or.inl ⟨by rfl, ?_⟩) HS1.out ?_
        rotate_left
        · intro w hSw
          (try dsimp only at hSw)
          obtain ⟨q0_, q1_, q2_, q3_, q4_, q5_, q6_, q7_, q8_, q9_, q10_, q11_⟩ := hSw
          go_simp
          try with_reducible rfl
        try simp only [Act.put, List.setIfInBounds_toArray, List.set_cons_zero, List.set_cons_succ]
        refine wpAnyH_take (i := 11) (v := ?_) (by simp only [List.getElem?_toArray, List.getElem?_cons_zero, List.getElem?_cons_succ]; rfl) (by kernel_rfl) (by kernel_rfl) (by kernel_rfl) (fun _ _ _ h => h) (Or.inl ⟨by rfl, ?_⟩) HS1.out ?_
        rotate_left
        · intro w hSw
          (try dsimp only at hSw)
          obtain ⟨q0_, q1_, q2_, q3_, q4_, q5_, q6_, q7_, q8_, q9_, q10_, q11_⟩ := hSw
          go_simp
          try with_reducible rfl
        try simp only [Act.put, List.setIfInBounds_toArray, List.set_cons_zero, List.set_cons_succ]
        refine wpAnyH_take (i := 12) (v := ?_) (by simp only [List.getElem?_toArray, List.getElem?_cons_zero, List.getElem?_cons_succ]; rfl) (by kernel_rfl) (by kernel_rfl) (by kernel_rfl) (fun _ _ _ h => h) (Or.inl ⟨by rfl, ?_⟩) HS1.out ?_
        rotate_left
        · intro w hSw
          (try dsimp only at hSw)
          obtain ⟨q0_, q1_, q2_, q3_, q4_, q5_, q6_, q7_, q8_, q9_, q10_, q11_⟩ := hSw
          go_simp
          try with_reducible rfl
        try simp only [Act.put, List.setIfInBounds_toArray, List.set_cons_zero, List.set_cons_succ]
        refine wpAnyH_take (i := 13) (v := ?_) (by simp only [List.getElem?_toArray, List.getElem?_cons_zero, List.getElem?_cons_succ]; rfl) (by kernel_rfl) (by kernel_rfl) (by kernel_rfl) (fun _ _ _ h => h) (Or.inl ⟨by rfl, ?_⟩) HS1.out ?_
        rotate_left
        · intro w hSw
          (try dsimp only at hSw)
          obtain ⟨q0_, q1_, q2_, q3_, q4_, q5_, q6_, q7_, q8_, q9_, q10_, q11_⟩ := hSw
          go_simp
          try with_reducible rfl
        try simp only [Act.put, List.setIfInBounds_toArray, List.set_cons_zero, List.set_cons_succ]
        refine wpAnyH_take (i := 14) (v := ?_) (by simp only [List.getElem?_toArray, List.getElem?_cons_zero, List.getElem?_cons_succ]; rfl) (by kernel_rfl) (by kernel_rfl) (by kernel_rfl) (fun _ _ _ h => h) (Or.inl ⟨by rfl, ?_⟩) HS1.out ?_
        rotate_left
        · intro w hSw
          (try dsimp only at hSw)
          obtain ⟨q0_, q1_, q2_, q3_, q4_, q5_, q6_, q7_, q8_, q9_, q10_, q11_⟩ := hSw
          go_simp
          try with_reducible rfl
        try simp only [Act.put, List.setIfInBounds_toArray, List.set_cons_zero, List.set_cons_succ]
        refine wpAnyH_take (i := 15) (v := ?_) (by simp only [List.getElem?_toArray, List.getElem?_cons_zero, List.getElem?_cons_succ]; rfl) (by kernel_rfl) (by kernel_rfl) (by kernel_rfl) (fun _ _ _ h => h) (Or.inl ⟨by rfl, ?_⟩) HS1.out ?_
        rotate_left
        · intro w hSw
          (try dsimp only at hSw)
          obtain ⟨q0_, q1_, q2_, q3_, q4_, q5_, q6_, q7_, q8_, q9_, q10_, q11_⟩ := hSw
          go_simp
          try with_reducible rfl
        try simp only [Act.put, List.setIfInBounds_toArray, List.set_cons_zero, List.set_cons_succ]
        refine wpAnyH_take (i := 16) (v := ?_) (by simp only [List.getElem?_toArray, List.getElem?_cons_zero, List.getElem?_cons_succ]; rfl) (by kernel_rfl) (by kernel_rfl) (by kernel_rfl) (fun _ _ _ h => h) (Or.inl ⟨by rfl, ?_⟩) HS1.out ?_
        rotate_left
        · intro w hSw
          (try dsimp only at hSw)
          obtain ⟨q0_, q1_, q2_, q3_, q4_, q5_, q6_, q7_, q8_, q9_, q10_, q11_⟩ := hSw
          go_simp
          try with_reducible rfl
        try simp only [Act.put, List.setIfInBounds_toArray, List.set_cons_zero, List.set_cons_succ]
        refine wpAnyH_take (i := 17) (v := ?_) (by simp only [List.getElem?_toArray, List.getElem?_cons_zero, List.getElem?_cons_succ]; rfl) (by kernel_rfl) (by kernel_rfl) (by kernel_rfl) (fun _ _ _ h => h) (Or.inl ⟨by rfl, ?_⟩) HS1.out ?_
        rotate_left
        · intro w hSw
          (try dsimp only at hSw)
          obtain ⟨q0_, q1_, q2_, q3_, q4_, q5_, q6_, q7_, q8_, q9_, q10_, q11_⟩ := hSw
          go_simp
          try with_reducible rfl
        try simp only [Act.put, List.setIfInBounds_toArray, List.set_cons_zero, List.set_cons_succ]
        refine wpAnyH_take (i := 18) (v := ?_) (by simp only [List.getElem?_toArray, List.getElem?_cons_zero, List.getElem?_cons_succ]; rfl) (by kernel_rfl) (by kernel_rfl) (by kernel_rfl) (fun _ _ _ h => h) (Or.inl ⟨by rfl, ?_⟩) HS1.out ?_
        rotate_left
        · intro w hSw
          (try dsimp only at hSw)
          obtain ⟨q0_, q1_, q2_, q3_, q4_, q5_, q6_, q7_, q8_, q9_, q10_, q11_⟩ := hSw
          go_simp
          try with_reducible rfl
        try simp only [Act.put, List.setIfInBounds_toArray, List.set_cons_zero, List.set_cons_succ]
        refine wpAnyH_take (i := 19) (v := ?_) (by simp only [List.getElem?_toArray, List.getElem?_cons_zero, List.getElem?_cons_succ]; rfl) (by kernel_rfl) (by kernel_rfl) (by kernel_rfl) (fun _ _ _ h => h) (Or.inl ⟨by rfl, ?_⟩) HS1.out ?_
        rotate_left
        · intro w hSw
          (try dsimp only at hSw)
          obtain ⟨q0_, q1_, q2_, q3_, q4_, q5_, q6_, q7_, q8_, q9_, q10_, q11_⟩ := hSw
          go_simp
          try with_reducible rfl
        try simp only [Act.put, List.setIfInBounds_toArray, List.set_cons_zero, List.set_cons_succ]
        refine wpAnyH_take (i := 20) (v := ?_) (by simp only [List.getElem?_toArray, List.getElem?_cons_zero, List.getElem?_cons_succ]; rfl) (by kernel_rfl) (by kernel_rfl) (by kernel_rfl) (fun _ _ _ h => h) (Or.inl ⟨by rfl, ?_⟩) HS1.out ?_
        rotate_left
        · intro w hSw
          (try dsimp only at hSw)
          obtain ⟨q0_, q1_, q2_, q3_, q4_, q5_, q6_, q7_, q8_, q9_, q10_, q11_⟩ := hSw
          go_simp
          try with_reducible rfl
        try simp only [Act.put, List.setIfInBounds_toArray, List.set_cons_zero, List.set_cons_succ]
        refine wpAnyH_take (i := 21) (v := ?_) (by simp only [List.getElem?_toArray, List.getElem?_cons_zero, List.getElem?_cons_succ]; rfl) (by kernel_rfl) (by kernel_rfl) (by kernel_rfl) (fun _ _ _ h => h) (Or.inl ⟨by rfl, ?_⟩) HS1.out ?_
        rotate_left
        · intro w hSw
          (try dsimp only at hSw)
          obtain ⟨q0_, q1_, q2_, q3_, q4_, q5_, q6_, q7_, q8_, q9_, q10_, q11_⟩ := hSw
          go_simp
          try with_reducible rfl
        try simp only [Act.put, List.setIfInBounds_toArray, List.set_cons_zero, List.set_cons_succ]
        refine wpAnyH_take (i := 22) (v := ?_) (by simp only [List.getElem?_toArray, List.getElem?_cons_zero, List.getElem?_cons_succ]; rfl) (by kernel_rfl) (by kernel_rfl) (by kernel_rfl) (fun _ _ _ h => h) (Or.inl ⟨by rfl, ?_⟩) HS1.out ?_
        rotate_left
        · intro w hSw
          (try dsimp only at hSw)
          obtain ⟨q0_, q1_, q2_, q3_, q4_, q5_, q6_, q7_, q8_, q9_, q10_, q11_⟩ := hSw
          go_simp
          try with_reducible rfl
        try simp only [Act.put, List.setIfInBounds_toArray, List.set_cons_zero, List.set_cons_succ]
        refine wpAnyH_take (i := 23) (v := ?_) (by simp only [List.getElem?_toArray, List.getElem?_cons_zero, List.getElem?_cons_succ]; rfl) (by kernel_rfl) (by kernel_rfl) (by kernel_rfl) (fun _ _ _ h => h) (Or.inl ⟨by rfl, ?_⟩) HS1.out ?_
        rotate_left
        · intro w hSw
          (try dsimp only at hSw)
          obtain ⟨q0_, q1_, q2_, q3_, q4_, q5_, q6_, q7_, q8_, q9_, q10_, q11_⟩ := hSw
          go_simp
          try with_reducible rfl
        try simp only [Act.put, List.setIfInBounds_toArray, List.set_cons_zero, List.set_cons_succ]
        refine wpAnyH_take (i := 24) (v := ?_) (by simp only [List.getElem?_toArray, List.getElem?_cons_zero, List.getElem?_cons_succ]; rfl) (by kernel_rfl) (by kernel_rfl) (by kernel_rfl) (fun _ _ _ h => h) (Or.inl ⟨by rfl, ?_⟩) HS1.out ?_
        rotate_left
        · intro w hSw
          (try dsimp only at hSw)
          obtain ⟨q0_, q1_, q2_, q3_, q4_, q5_, q6_, q7_, q8_, q9_, q10_, q11_⟩ := hSw
          go_simp
          try with_reducible rfl
        try simp only [Act.put, List.setIfInBounds_toArray, List.set_cons_zero, List.set_cons_succ]
        refine wpAnyH_done (by kernel_rfl) ?_ _
        refine NoPanic.normal ?_
        go_wp2
        go_ret
        exact ⟨by rw [HW.out, HE1.out, HE2.out]; rfl, ext_trans HB.out HD1.out⟩
    · have e1 : (t.bad == B0) = false := by simpa using h1
      have e1' : (t.bad != B0) = true := by simpa using h1
      have HE1 : Hid (decide (t.bad ≠ B0) = true) := by show _ = _; simpa using h1
      clear h1
      refine wpAnyH_take (i := 3) (v := ?_) (by simp only [List.getElem?_toArray, List.getElem?_cons_zero, List.getElem?_cons_succ]; rfl) (by kernel_rfl) (by kernel_rfl) (by kernel_rfl) (fun _ _ _ h => h) (Or.inl ⟨by rfl, ?_⟩) HS1.out ?_
      rotate_left
      · intro w hSw
        (try dsimp only at hSw)
        obtain ⟨q0_, q1_, q2_, q3_, q4_, q5_, q6_, q7_, q8_, q9_, q10_, q11_⟩ := hSw
        go_simp
        try with_reducible rfl
      try simp only [Act.put, List.setIfInBounds_toArray, List.set_cons_zero, List.set_cons_succ]
      refine wpAnyH_take (i := 4) (v := ?_) (by simp only [List.getElem?_toArray, List.getElem?_cons_zero, List.getElem?_cons_succ]; rfl) (by kernel_rfl) (by kernel_rfl) (by kernel_rfl) (fun _ _ _ h => h) (Or.inl ⟨by rfl, ?_⟩) HS1.out ?_
      rotate_left
      · intro w hSw
        (try dsimp only at hSw)
        obtain ⟨q0_, q1_, q2_, q3_, q4_, q5_, q6_, q7_, q8_, q9_, q10_, q11_⟩ := hSw
        go_simp
        try with_reducible rfl
      try simp only [Act.put, List.setIfInBounds_toArray, List.set_cons_zero, List.set_cons_succ]
      refine wpAnyH_take (i := 5) (v := ?_) (by simp only [List.getElem?_toArray, List.getElem?_cons_zero, List.getElem?_cons_succ]; rfl) (by kernel_rfl) (by kernel_rfl) (by kernel_rfl) (fun _ _ _ h => h) (Or.inl ⟨by rfl, ?_⟩) HS1.out ?_
      rotate_left
      · intro w hSw
        (try dsimp only at hSw)
        obtain ⟨q0_, q1_, q2_, q3_, q4_, q5_, q6_, q7_, q8_, q9_, q10_, q11_⟩ := hSw
        go_simp
        try with_reducible rfl
      try simp only [Act.put, List.setIfInBounds_toArray, List.set_cons_zero, List.set_cons_succ]
      refine wpAnyH_take (i := 6) (v := ?_) (by simp only [List.getElem?_toArray, List.getElem?_cons_zero, List.getElem?_cons_succ]; rfl) (by kernel_rfl) (by kernel_rfl) (by kernel_rfl) (fun _ _ _ h => h) (Or.inl ⟨by rfl, ?_⟩) HS1.out ?_
      rotate_left
      · intro w hSw
        (try dsimp only at hSw)
        obtain ⟨q0_, q1_, q2_, q3_, q4_, q5_, q6_, q7_, q8_, q9_, q10_, q11_⟩ := hSw
        go_simp
        try with_reducible rfl
      try simp only [Act.put, List.setIfInBounds_toArray, List.set_cons_zero, List.set_cons_succ]
      refine wpAnyH_take (i := 7) (v := ?_) (by simp only [List.getElem?_toArray, List.getElem?_cons_zero, List.getElem?_cons_succ]; rfl) (by kernel_rfl) (by kernel_rfl) (by kernel_rfl) (fun _ _ _ h => h) (Or.inl ⟨by rfl, ?_⟩) HS1.out ?_
      rotate_left
      · intro w hSw
        (try dsimp only at hSw)
        obtain ⟨q0_, q1_, q2_, q3_, q4_, q5_, q6_, q7_, q8_, q9_, q10_, q11_⟩ := hSw
        go_simp
        try with_reducible rfl
      try simp only [Act.put, List.setIfInBounds_toArray, List.set_cons_zero, List.set_cons_succ]
      refine wpAnyH_take (i := 8) (v := ?_) (by simp only [List.getElem?_toArray, List.getElem?_cons_zero, List.getElem?_cons_succ]; rfl) (by kernel_rfl) (by kernel_rfl) (by kernel_rfl) (fun _ _ _ h => h) (Or.inl ⟨by rfl, ?_⟩) HS1.out ?_
      rotate_left
      · intro w hSw
        (try dsimp only at hSw)
        obtain ⟨q0_, q1_, q2_, q3_, q4_, q5_, q6_, q7_, q8_, q9_, q10_, q11_⟩ := hSw
        go_simp
        try with_reducible rfl
      try simp only [Act.put, List.setIfInBounds_toArray, List.set_cons_zero, List.set_cons_succ]
      refine wpAnyH_take (i := 9) (v := ?_) (by simp only [List.getElem?_toArray, List.getElem?_cons_zero, List.getElem?_cons_succ]; rfl) (by kernel_rfl) (by kernel_rfl) (by kernel_rfl) (fun _ _ _ h => h) (Or.inl ⟨by rfl, ?_⟩) HS1.out ?_
      rotate_left
      · intro w hSw
        (try dsimp only at hSw)
        obtain ⟨q0_, q1_, q2_, q3_, q4_, q5_, q6_, q7_, q8_, q9_, q10_, q11_⟩ := hSw
        go_simp
        try with_reducible rfl
      try simp only [Act.put, List.setIfInBounds_toArray, List.set_cons_zero, List.set_cons_succ]
      refine wpAnyH_take (i := 10) (v := ?_) (by simp only [List.getElem?_toArray, List.getElem?_cons_zero, List.getElem?_cons_succ]; rfl) (by kernel_rfl) (by kernel_rfl) (by kernel_rfl) (fun _ _ _ h => h) (Or.inl ⟨by rfl, ?_⟩) HS1.out ?_
      rotate_left
      · intro w hSw
        (try dsimp only at hSw)
        obtain ⟨q0_, q1_, q2_, q3_, q4_, q5_, q6_, q7_, q8_, q9_, q10_, q11_⟩ := hSw
        go_simp
        try with_reducible rfl
      try simp only [Act.put, List.setIfInBounds_toArray, List.set_cons_zero, List.set_cons_succ]
      refine wpAnyH_take (i := 11) (v := ?_) (by simp only [List.getElem?_toArray, List.getElem?_cons_zero, List.getElem?_cons_succ]; rfl) (by kernel_rfl) (by kernel_rfl) (by kernel_rfl) (fun _ _ _ h => h) (Or.inl ⟨by rfl, ?_⟩) HS1.out ?_
      rotate_left
      · intro w hSw
        (try dsimp only at hSw)
        obtain ⟨q0_, q1_, q2_, q3_, q4_, q5_, q6_, q7_, q8_, q9_, q10_, q11_⟩ := hSw
        go_simp
        try with_reducible rfl
      try simp only [Act.put, List.setIfInBounds_toArray, List.set_cons_zero, List.set_cons_succ]
      refine wpAnyH_take (i := 12) (v := ?_) (by simp only [List.getElem?_toArray, List.getElem?_cons_zero, List.getElem?_cons_succ]; rfl) (by kernel_rfl) (by kernel_rfl) (by kernel_rfl) (fun _ _ _ h => h) (Or.inl ⟨by rfl, ?_⟩) HS1.out ?_
      rotate_left
      · intro w hSw
        (try dsimp only at hSw)
        obtain ⟨q0_, q1_, q2_, q3_, q4_, q5_, q6_, q7_, q8_, q9_, q10_, q11_⟩ := hSw
        go_simp
        try with_reducible rfl
      try simp only [Act.put, List.setIfInBounds_toArray, List.set_cons_zero, List.set_cons_succ]
      refine wpAnyH_take (i := 13) (v := ?_) (by simp only [List.getElem?_toArray, List.getElem?_cons_zero, List.getElem?_cons_succ]; rfl) (by kernel_rfl) (by kernel_rfl) (by kernel_rfl) (fun _ _ _ h => h) (Or.inl ⟨by rfl, ?_⟩) HS1.out ?_
      rotate_left
      · intro w hSw
        (try dsimp only at hSw)
        obtain ⟨q0_, q1_, q2_, q3_, q4_, q5_, q6_, q7_, q8_, q9_, q10_, q11_⟩ := hSw
        go_simp
        try with_reducible rfl
      try simp only [Act.put, List.setIfInBounds_toArray, List.set_cons_zero, List.set_cons_succ]
      refine wpAnyH_take (i := 14) (v := undef) (by simp only [List.getElem?_toArray, List.getElem?_cons_zero, List.getElem?_cons_succ]; rfl) (by kernel_rfl) (by kernel_rfl) (by kernel_rfl) (fun _ _ _ h => h) (Or.inr ⟨by rfl, by rfl⟩) HS1.out ?_
      try simp only [Act.put, List.setIfInBounds_toArray, List.set_cons_zero, List.set_cons_succ]
      refine wpAnyH_take (i := 15) (v := undef) (by simp only [List.getElem?_toArray, List.getElem?_cons_zero, List.getElem?_cons_succ]; rfl) (by kernel_rfl) (by kernel_rfl) (by kernel_rfl) (fun _ _ _ h => h) (Or.inr ⟨by rfl, by rfl⟩) HS1.out ?_
      try simp only [Act.put, List.setIfInBounds_toArray, List.set_cons_zero, List.set_cons_succ]
      refine wpAnyH_take (i := 16) (v := undef) (by simp only [List.getElem?_toArray, List.getElem?_cons_zero, List.getElem?_cons_succ]; rfl) (by kernel_rfl) (by kernel_rfl) (by kernel_rfl) (fun _ _ _ h => h) (Or.inr ⟨by rfl, by rfl⟩) HS1.out ?_
      try simp only [Act.put, List.setIfInBounds_toArray, List.set_cons_zero, List.set_cons_succ]
      refine wpAnyH_take (i := 17) (v := undef) (by simp only [List.getElem?_toArray, List.getElem?_cons_zero, List.getElem?_cons_succ]; rfl) (by kernel_rfl) (by kernel_rfl) (by kernel_rfl) (fun _ _ _ h => h) (Or.inr ⟨by rfl, by rfl⟩) HS1.out ?_
      try simp only [Act.put, List.setIfInBounds_toArray, List.set_cons_zero, List.set_cons_succ]
      refine wpAnyH_take (i := 18) (v := undef) (by simp only [List.getElem?_toArray, List.getElem?_cons_zero, List.getElem?_cons_succ]; rfl) (by kernel_rfl) (by kernel_rfl) (by kernel_rfl) (fun _ _ _ h => h) (Or.inr ⟨by rfl, by rfl⟩) HS1.out ?_
      try simp only [Act.put, List.setIfInBounds_toArray, List.set_cons_zero, List.set_cons_succ]
      refine wpAnyH_take (i := 19) (v := undef) (by simp only [List.getElem?_toArray, List.getElem?_cons_zero, List.getElem?_cons_succ]; rfl) (by kernel_rfl) (by kernel_rfl) (by kernel_rfl) (fun _ _ _ h => h) (Or.inr ⟨by rfl, by rfl⟩) HS1.out ?_
      try simp only [Act.put, List.setIfInBounds_toArray, List.set_cons_zero, List.set_cons_succ]
      refine wpAnyH_take (i := 20) (v := undef) (by simp only [List.getElem?_toArray, List.getElem?_cons_zero, List.getElem?_cons_succ]; rfl) (by kernel_rfl) (by kernel_rfl) (by kernel_rfl) (fun _ _ _ h => h) (Or.inr ⟨by rfl, by rfl⟩) HS1.out ?_
      try simp only [Act.put, List.setIfInBounds_toArray, List.set_cons_zero, List.set_cons_succ]
      refine wpAnyH_take (i := 21) (v := undef) (by simp only [List.getElem?_toArray, List.getElem?_cons_zero, List.getElem?_cons_succ]; rfl) (by kernel_rfl) (by kernel_rfl) (by kernel_rfl) (fun _ _ _ h => h) (Or.inr ⟨by rfl, by rfl⟩) HS1.out ?_
      try simp only [Act.put, List.setIfInBounds_toArray, List.set_cons_zero, List.set_cons_succ]
      refine wpAnyH_take (i := 22) (v := undef) (by simp only [List.getElem?_toArray, List.getElem?_cons_zero, List.getElem?_cons_succ]; rfl) (by kernel_rfl) (by kernel_rfl) (by kernel_rfl) (fun _ _ _ h => h) (Or.inr ⟨by rfl, by rfl⟩) HS1.out ?_
      try simp only [Act.put, List.setIfInBounds_toArray, List.set_cons_zero, List.set_cons_succ]
      refine wpAnyH_take (i := 23) (v := ?_) (by simp only [List.getElem?_toArray, List.getElem?_cons_zero, List.getElem?_cons_succ]; rfl) (by kernel_rfl) (by kernel_rfl) (by kernel_rfl) (fun _ _ _ h => h) (Or.inl ⟨by rfl, ?_⟩) HS1.out ?_
      rotate_left
      · intro w hSw
        (try dsimp only at hSw)
        obtain ⟨q0_, q1_, q2_, q3_, q4_, q5_, q6_, q7_, q8_, q9_, q10_, q11_⟩ := hSw
        go_simp
        try with_reducible rfl
      try simp only [Act.put, List.setIfInBounds_toArray, List.set_cons_zero, List.set_cons_succ]
      refine wpAnyH_take (i := 24) (v := ?_) (by simp only [List.getElem?_toArray, List.getElem?_cons_zero, List.getElem?_cons_succ]; rfl) (by kernel_rfl) (by kernel_rfl) (by kernel_rfl) (fun _ _ _ h => h) (Or.inl ⟨by rfl, ?_⟩) HS1.out ?_
      rotate_left
      · intro w hSw
        (try dsimp only at hSw)
        obtain ⟨q0_, q1_, q2_, q3_, q4_, q5_, q6_, q7_, q8_, q9_, q10_, q11_⟩ := hSw
        go_simp
        try with_reducible rfl
      try simp only [Act.put, List.setIfInBounds_toArray, List.set_cons_zero, List.set_cons_succ]
      refine wpAnyH_done (by kernel_rfl) ?_ _
      refine NoPanic.normal ?_
      go_wp2
      go_ret
      exact ⟨by rw [HW.out, HE1.out]; rfl, ext_trans HB.out HD1.out⟩

/-- The values that a trace's number may have. -/
def BadOk (ts : List TraceC) (n : Nat) : Prop := ∀ k, k < n → -9223372036854775808 ≤ (ts.getD k t00).bad ∧ (ts.getD k t00).bad < 9223372036854775808
/-- Is one of them wrong? -/
def anyWrong (c : NormC) (ts : List TraceC) (n : Nat) : Bool := (List.range n).any fun k => wrongT c (ts.getD 0 t00) (ts.getD k t00)

set_option maxRecDepth 100000 in
set_option maxHeartbeats 3200000 in
theorem tidx_any (c : NormC) (s : CSlots) (a : Option Addr) (n cc cb lb : Nat) (sts : List TSlots) (ts : List TraceC) (w : World) (h : SeesCir w s c) (hs : s.small) (hlo : -9223372036854775808 ≤ c.ins) (hhi : c.ins < 9223372036854775808)
    (hts : TsSee w a n cc sts ts) (hn : n ≤ 1048576) (hbo : BadOk ts n)
    (hcb : w.heap[cb]? = some (.cells #[.int .i64 c.ins, .slice s.a1 s.n1 s.c1, .slice s.a2 s.n2 s.c2, .slice s.a3 s.n3 s.c3, .slice s.a4 s.n4 s.c4, .slice s.a5 s.n5 s.c5] 26 (0, 0))) (hlb : w.heap[lb]? = some (.cells #[.slice a n cc] 50 (0, 0))) :
    Calls Try.prog 84 #[.slice a n cc, .func (.func 73) #[] #[.pointer (some ⟨cb, 0, none⟩), .pointer (some ⟨lb, 0, none⟩)]] w fun e w' => ∃ z : Int, e = .returned (.int .i64 z) ∧ (0 ≤ z ↔ anyWrong c ts n = true) ∧ Below w.heap.size w w' := by
  have HN := Lib.hid hn
  have HC : Hid (∀ k, k < n → ∀ W, Below w.heap.size w W → Calls Try.prog 73 #[.agg #[.int .i64 (ts.getD k t00).bad, .slice (sts.getD k st00).a1 (sts.getD k st00).n1 (sts.getD k st00).c1, .slice (sts.getD k st00).a2 (sts.getD k st00).n2 (sts.getD k st00).c2], .pointer (some ⟨cb, 0, none⟩), .pointer (some ⟨lb, 0, none⟩)] W fun e w' => e = .returned (.bool (wrongT c (ts.getD 0 t00) (ts.getD k t00))) ∧ Below W.heap.size W w') := fun k hk W hb => by
    obtain ⟨b, rfl, _⟩ := hts.cells (by omega)
    exact wrong_any c s b n cc cb lb sts ts (ts.getD k t00) (sts.getD k st00) W (h.below hb) hs hlo hhi (hts.below hb) (by omega) ((hts.each k hk).below hb) (hts.small k hk) (hbo k hk) (heap_below hcb hb) (heap_below hlb hb)
  have HCE : Hid (0 < n → ∃ b, a = some ⟨b, 0, none⟩ ∧ ∀ k, k < n → ∀ W, Below w.heap.size w W → W.cell? ⟨b, k * 3, none⟩ = some (.int .i64 (ts.getD k t00).bad) ∧ W.cell? ⟨b, k * 3 + 1, none⟩ = some (.slice (sts.getD k st00).a1 (sts.getD k st00).n1 (sts.getD k st00).c1) ∧ W.cell? ⟨b, k * 3 + 2, none⟩ = some (.slice (sts.getD k st00).a2 (sts.getD k st00).n2 (sts.getD k st00).c2)) := fun h0 => by
    obtain ⟨b, e, hlt, hc⟩ := hts.cells h0
    exact ⟨b, e, fun k hk W hb => ⟨(hb.cell (p := ⟨b, k * 3, none⟩) hlt).trans (hc k hk).1, (hb.cell (p := ⟨b, k * 3 + 1, none⟩) hlt).trans (hc k hk).2.1, (hb.cell (p := ⟨b, k * 3 + 2, none⟩) hlt).trans (hc k hk).2.2⟩⟩
  clear h hs hlo hhi hts hn hbo hcb hlb
  go_enter Try.func84, Try.ntmps84
  go_wp2
  go_loopw [5, 8] (fun v i wr => ∃ k : Nat, k ≤ n ∧ i = .int .i64 k ∧ Hid (∀ j, j < k → wrongT c (ts.getD 0 t00) (ts.getD j t00) = false) ∧ Hid (Below w.heap.size w wr)) (fun _ i _ => n - (intOf i).toNat)
  case atStart => exact ⟨0, Nat.zero_le _, rfl, fun j hj => absurd hj (by omega), Below.refl _ _⟩
  case round =>
    obtain ⟨k, hk, rfl, hno, hB⟩ := hrel
    by_cases hlt : k < n
    · obtain ⟨b, rfl, hce⟩ := HCE.out (by omega)
      obtain ⟨c0, c1, c2⟩ := hce k hlt wr hB.out
      have hcall := HC.out k hlt wr hB.out
      obtain ⟨q, hq⟩ : ∃ q, q = wrongT c (ts.getD 0 t00) (ts.getD k t00) := ⟨_, rfl⟩
      rw [← hq] at hcall
      have HQ := Lib.hid hq
      obtain ⟨z, hz⟩ : ∃ z, z = (ts.getD k t00).bad := ⟨_, rfl⟩
      obtain ⟨y, hy⟩ : ∃ y, y = sts.getD k st00 := ⟨_, rfl⟩
      rw [← hz] at c0 hcall
      rw [← hy] at c1 c2 hcall
      have HCALL := Lib.hid hcall
      have W1 : IntKind.i64.wrap ((k : Int) + 1) = (k : Int) + 1 := IntWalk.i64_in _ (by have := HN.out; omega)
      have hI1 : (k : Int) < (n : Int) := by omega
      have hI0 : (0 : Int) ≤ (k : Int) := by omega
      clear hq hz hy hcall hce
      go_wp2_with fail
      refine HCALL.out.mono ?_
      rintro e w2 ⟨rfl, hb⟩
      have HB2 := Lib.hid (ext_trans hB.out hb)
      clear hb c0 c1 c2 HCALL
      cases q with
      | true =>
        go_wp2
        go_ret
        refine ⟨k, rfl, ⟨fun _ => ?_, fun _ => by omega⟩, HB2.out⟩
        exact List.any_eq_true.2 ⟨k, List.mem_range.2 hlt, HQ.out.symm⟩
      | false =>
        have HNN : Hid (∀ j, j < k + 1 → wrongT c (ts.getD 0 t00) (ts.getD j t00) = false) := fun j hj => by
          rcases Nat.lt_or_ge j k with h | h
          · exact hno.out j h
          · have : j = k := by omega
            subst this
            exact HQ.out.symm
        go_wp2
        go_roundw
        case rel => exact ⟨k + 1, by omega, by go_num, HNN.out, HB2.out⟩
        case measure => simp [intOf]; omega
    · obtain rfl : k = n := by omega
      go_wp2
      go_ret
      refine ⟨-1, rfl, ⟨fun h => absurd h (by decide), fun h => ?_⟩, hB.out⟩
      obtain ⟨j, hj, hw⟩ := List.any_eq_true.1 h
      rw [hno.out j (List.mem_range.1 hj)] at hw
      cases hw

set_option maxRecDepth 100000 in
theorem thas_any (c : NormC) (s : CSlots) (a : Option Addr) (n cc cb lb : Nat) (sts : List TSlots) (ts : List TraceC) (w : World) (h : SeesCir w s c) (hs : s.small) (hlo : -9223372036854775808 ≤ c.ins) (hhi : c.ins < 9223372036854775808)
    (hts : TsSee w a n cc sts ts) (hn : n ≤ 1048576) (hbo : BadOk ts n)
    (hcb : w.heap[cb]? = some (.cells #[.int .i64 c.ins, .slice s.a1 s.n1 s.c1, .slice s.a2 s.n2 s.c2, .slice s.a3 s.n3 s.c3, .slice s.a4 s.n4 s.c4, .slice s.a5 s.n5 s.c5] 26 (0, 0))) (hlb : w.heap[lb]? = some (.cells #[.slice a n cc] 50 (0, 0))) :
    Calls Try.prog 74 #[.slice a n cc, .func (.func 73) #[] #[.pointer (some ⟨cb, 0, none⟩), .pointer (some ⟨lb, 0, none⟩)]] w fun e w' => e = .returned (.bool (anyWrong c ts n)) ∧ Below w.heap.size w w' := by
  have HI := Lib.hid (tidx_any c s a n cc cb lb sts ts w h hs hlo hhi hts hn hbo hcb hlb)
  clear h hs hlo hhi hts hn hbo hcb hlb
  obtain ⟨f, hf⟩ : ∃ f, f = (.func (.func 73) #[] #[.pointer (some ⟨cb, 0, none⟩), .pointer (some ⟨lb, 0, none⟩)] : Value) := ⟨_, rfl⟩
  rw [← hf] at HI ⊢
  clear hf
  go_enter Try.func74, Try.ntmps74
  go_wp2_with fail
  refine HI.out.mono ?_
  rintro e w' ⟨z, rfl, hiff, hb⟩
  have e : decide (0 ≤ z) = anyWrong c ts n := by
    cases hq : anyWrong c ts n with
    | true => simpa using hiff.2 hq
    | false => simp; have := fun h => hiff.1 h; rw [hq] at this; exact Int.not_le.1 (fun h => by cases this h)
  have E := Lib.hid e
  clear e hiff
  go_wp2
  go_ret
  exact ⟨congrArg (fun b => Ending.returned (.bool b)) E.out, hb⟩

/-- May they run at once? -/
def mayTog (c : NormC) (ts : List TraceC) (n : Nat) : Bool := decide (n ≤ 64) && !anyWrong c ts n
set_option maxRecDepth 100000 in
theorem maytog_any (c : NormC) (s : CSlots) (a : Option Addr) (n cc : Nat) (sts : List TSlots) (ts : List TraceC) (w : World) (h : SeesCir w s c) (hs : s.small) (hlo : -9223372036854775808 ≤ c.ins) (hhi : c.ins < 9223372036854775808)
    (hts : TsSee w a n cc sts ts) (hn : n ≤ 1048576) (hbo : BadOk ts n) :
    Calls Try.prog 51 #[cirV c.ins s, .slice a n cc] w fun e w' => e = .returned (.bool (mayTog c ts n)) ∧ Below w.heap.size w w' := by
  have HH := Lib.hid (fun cb lb W (hb : Below w.heap.size w W) h1 h2 => thas_any c s a n cc cb lb sts ts W (h.below hb) hs hlo hhi (hts.below hb) hn hbo h1 h2)
  have HM : Hid (mayTog c ts n = (decide (n ≤ 64) && !anyWrong c ts n)) := rfl
  obtain ⟨q, hq⟩ : ∃ q, q = anyWrong c ts n := ⟨_, rfl⟩
  rw [← hq] at HH HM
  obtain ⟨R, hR⟩ : ∃ q, q = mayTog c ts n := ⟨_, rfl⟩
  rw [← hR] at HM ⊢
  clear hq hR h hs hlo hhi hts hbo
  unfold cirV
  go_enter Try.func51, Try.ntmps51
  go_upto_region 2 with fail
  generalize hW : World.alloc (World.alloc w _) _ = W1
  have hb : Below w.heap.size w W1 := by subst hW; exact ext_trans (ext_alloc _ _) (ext_alloc _ _)
  have hx : W1.heap[w.heap.size]? = some (.cells #[.int .i64 c.ins, .slice s.a1 s.n1 s.c1, .slice s.a2 s.n2 s.c2, .slice s.a3 s.n3 s.c3, .slice s.a4 s.n4 s.c4, .slice s.a5 s.n5 s.c5] 26 (0, 0)) := by subst hW; exact heap_below (heap_new _ _ _ rfl) (ext_alloc _ _)
  have hy : W1.heap[w.heap.size + 1]? = some (.cells #[.slice a n cc] 50 (0, 0)) := by subst hW; exact heap_new _ _ _ (by simp)
  have HC := Lib.hid (HH.out w.heap.size (w.heap.size + 1) W1 hb hx hy)
  have p0 := cell_of_block hy 0
  have HB := Lib.hid hb
  clear hW hb hx hy HH
  by_cases h64 : n ≤ 64
  · have e1 : decide ((n : Int) ≤ 64) = true := by simp; omega
    have HD : Hid (decide (n ≤ 64) = true) := decide_eq_true h64
    clear h64
    go_wp2_with fail
    refine HC.out.mono ?_
    rintro e W2 ⟨rfl, hb⟩
    have HB2 := Lib.hid (ext_trans HB.out hb)
    clear hb p0
    cases q with
    | true =>
      go_wp2
      go_ret
      exact ⟨by rw [HM.out, HD.out]; rfl, HB2.out⟩
    | false =>
      go_wp2
      go_ret
      exact ⟨by rw [HM.out, HD.out]; rfl, HB2.out⟩
  · have e1 : decide ((n : Int) ≤ 64) = false := by simp; omega
    have HD : Hid (decide (n ≤ 64) = false) := decide_eq_false h64
    clear h64
    go_wp2
    go_ret
    exact ⟨by rw [HM.out, HD.out]; rfl, HB.out⟩
end Go.Proofs.Ytjmdgbdlhaaefaa
/- Two results of calls are stored into two new variables, in whatever order memory is made: what holds then. -/
namespace Go.Proofs.Ytjmdgbdlhaaefaa
open Go Go.RowKit Go.Joins

theorem OwnCir.but {w w' : World} {base G : Nat} {s : CSlots} {c : NormC} (h : OwnCir w base s c) {C : Array Value} {T : TypeId} {fr : Nat × Nat} (hz : w.heap[G]? = some (.cells C T fr)) (h1 : T ≠ 75) (h2 : T ≠ 73) (h3 : T ≠ 31) (hk : ∀ D, D ≠ G → w'.heap[D]? = w.heap[D]?) : OwnCir w' base s c := by
  have row : ∀ {v : Value} {n : Nat} {xs : List Value}, Row isU32 w base 31 v n xs → Row isU32 w' base 31 v n xs := fun hr => hr.other fun k hk' => hk k (fun e => (hr.not_own hz h3) (by rw [hk', e]))
  exact ⟨ownsN_other h.o1 fun k hk' => hk k (fun e => (ownsN_notown h.o1 hz h1) (by rw [hk', e])), ownsN_other h.o2 fun k hk' => hk k (fun e => (ownsN_notown h.o2 hz h2) (by rw [hk', e])), row h.o3, row h.o4, row h.o5⟩
theorem OwnTr.but {w w' : World} {base G : Nat} {s : TSlots} {t : TraceC} (h : OwnTr w base s t) {C : Array Value} {T : TypeId} {fr : Nat × Nat} (hz : w.heap[G]? = some (.cells C T fr)) (h1 : T ≠ 5) (h2 : T ≠ 27) (hk : ∀ D, D ≠ G → w'.heap[D]? = w.heap[D]?) : OwnTr w' base s t := by
  have row : ∀ {v : Value} {n : Nat} {xs : List Value}, Row isByte w base 5 v n xs → Row isByte w' base 5 v n xs := fun hr => hr.other fun k hk' => hk k (fun e => (hr.not_own hz h1) (by rw [hk', e]))
  obtain ⟨F, f1, f2, f3⟩ := h.blk
  refine ⟨row h.o1, ⟨F, f1, f2, (hk F fun e => ?_).trans f3⟩, h.n2, h.c2, h.len, fun j hj => row (h.rows j hj)⟩
  subst e
  rw [f3] at hz
  cases hz
  exact h2 rfl
theorem OwnCir.base_le {w : World} {base B : Nat} {s : CSlots} {c : NormC} (h : OwnCir w base s c) (hB : B ≤ base) : OwnCir w B s c :=
  ⟨ownsN_base h.o1 hB, ownsN_base h.o2 hB, h.o3.base_le hB, h.o4.base_le hB, h.o5.base_le hB⟩
theorem OwnTr.base_le {w : World} {base B : Nat} {s : TSlots} {t : TraceC} (h : OwnTr w base s t) (hB : B ≤ base) : OwnTr w B s t := by
  obtain ⟨F, f1, f2, f3⟩ := h.blk
  exact ⟨h.o1.base_le hB, ⟨F, Nat.le_trans hB f1, f2, f3⟩, h.n2, h.c2, h.len, fun j hj => (h.rows j hj).base_le hB⟩

def cirCells (z : Int) (s : CSlots) : Array Value := #[.int .i64 z, .slice s.a1 s.n1 s.c1, .slice s.a2 s.n2 s.c2, .slice s.a3 s.n3 s.c3, .slice s.a4 s.n4 s.c4, .slice s.a5 s.n5 s.c5]
def trCells (z : Int) (s : TSlots) : Array Value := #[.int .i64 z, .slice s.a1 s.n1 s.c1, .slice s.a2 s.n2 s.c2]
/-- A copy of a circuit and one of a trace lie in two variables. -/
structure Two (b : World) (z bad : Int) (c : NormC) (t : TraceC) (G7 G8 : Nat) (sx : CSlots) (sy : TSlots) (w : World) : Prop where
  cir : w.heap[G7]? = some (.cells (cirCells z sx) 26 (0, 0))
  tr : w.heap[G8]? = some (.cells (trCells bad sy) 30 (0, 0))
  oc : OwnCir w b.heap.size sx c
  ot : OwnTr w b.heap.size sy t
  bel : Below b.heap.size b w
  g7 : b.heap.size ≤ G7
  g8 : b.heap.size ≤ G8
theorem Two.of {b v : World} {z bad : Int} {c : NormC} {t : TraceC} {G7 G8 : Nat} {sx : CSlots} {sy : TSlots} {C D : Array Value}
    (h7 : v.heap[G7]? = some (.cells C 26 (0, 0))) (hC : C.size = 6) (h8 : v.heap[G8]? = some (.cells D 30 (0, 0))) (hD : D.size = 3)
    (oc : OwnCir v b.heap.size sx c) (ot : OwnTr v b.heap.size sy t) (bel : Below b.heap.size b v) (g7 : b.heap.size ≤ G7) (g8 : b.heap.size ≤ G8) :
    Two b z bad c t G7 G8 sx sy ((((((((((v.setCell ⟨G7, 0, .none⟩ (.int .i64 z)).setCell ⟨G7, 1, .none⟩ (.slice sx.a1 sx.n1 sx.c1)).setCell ⟨G7, 2, .none⟩ (.slice sx.a2 sx.n2 sx.c2)).setCell ⟨G7, 3, .none⟩ (.slice sx.a3 sx.n3 sx.c3)).setCell ⟨G7, 4, .none⟩ (.slice sx.a4 sx.n4 sx.c4)).setCell ⟨G7, 5, .none⟩ (.slice sx.a5 sx.n5 sx.c5)).setCell ⟨G8, 0, .none⟩ (.int .i64 bad)).setCell ⟨G8, 1, .none⟩ (.slice sy.a1 sy.n1 sy.c1)).setCell ⟨G8, 2, .none⟩ (.slice sy.a2 sy.n2 sy.c2))) := by
  have hne : G7 ≠ G8 := fun e => by
    subst e
    rw [h7] at h8
    cases h8
  have e7 := cir_set h7 hC (.int .i64 z) (.slice sx.a1 sx.n1 sx.c1) (.slice sx.a2 sx.n2 sx.c2) (.slice sx.a3 sx.n3 sx.c3) (.slice sx.a4 sx.n4 sx.c4) (.slice sx.a5 sx.n5 sx.c5)
  have o7 := fun D hD => set6_other (X := v) G7 D hD (.int .i64 z) (.slice sx.a1 sx.n1 sx.c1) (.slice sx.a2 sx.n2 sx.c2) (.slice sx.a3 sx.n3 sx.c3) (.slice sx.a4 sx.n4 sx.c4) (.slice sx.a5 sx.n5 sx.c5)
  have h8' := (o7 G8 (fun e => hne e.symm)).trans h8
  have oc7 := oc.but h7 (by decide) (by decide) (by decide) o7
  have ot7 := ot.but h7 (by decide) (by decide) o7
  have b7 := set6 (u0 := .int .i64 z) (u1 := .slice sx.a1 sx.n1 sx.c1) (u2 := .slice sx.a2 sx.n2 sx.c2) (u3 := .slice sx.a3 sx.n3 sx.c3) (u4 := .slice sx.a4 sx.n4 sx.c4) (u5 := .slice sx.a5 sx.n5 sx.c5) G7 g7 bel
  generalize World.setCell (World.setCell (World.setCell (World.setCell (World.setCell (World.setCell v _ _) _ _) _ _) _ _) _ _) _ _ = v7 at e7 o7 h8' oc7 ot7 b7 ⊢
  have o8 := fun D hD => set3_other (X := v7) G8 D hD (.int .i64 bad) (.slice sy.a1 sy.n1 sy.c1) (.slice sy.a2 sy.n2 sy.c2)
  exact ⟨(o8 G7 hne).trans e7, tri_set_t h8' hD _ _ _, oc7.but h8' (by decide) (by decide) (by decide) o8, ot7.but h8' (by decide) (by decide) o8, set3_t G8 g8 b7, g7, g8⟩
theorem z6_size : (#[.int .i64 0, .slice none 0 0, .slice none 0 0, .slice none 0 0, .slice none 0 0, .slice none 0 0] : Array Value).size = 6 := rfl
end Go.Proofs.Ytjmdgbdlhaaefaa
/- sim.together: what traces go by that run at once, by its contract. -/
namespace Go.Proofs.Ytjmdgbdlhaaefaa
open Go Go.RowKit Go.Joins

set_option maxRecDepth 100000 in
theorem tog1_any (z : Int) (st : TSlots) (w : World) :
    Calls Try.prog 91 #[.agg #[.int .i64 z, .slice st.a1 st.n1 st.c1, .slice st.a2 st.n2 st.c2]] w fun e w' => e = .returned (.slice st.a1 st.n1 st.c1) ∧ Below w.heap.size w w' := by
  obtain ⟨a1, n1, c1, a2, n2, c2, ss⟩ := st
  go_enter Try.func91, Try.ntmps91
  go_wp2
  go_ret
  exact ⟨rfl, ext_alloc _ _⟩

set_option maxRecDepth 100000 in
theorem tog21_any (t : TraceC) (st : TSlots) (fb k : Nat) (w : World) (ht : SeesTr w st t) (hk : k < t.frames.length) (hf : w.cell? ⟨fb, 0, none⟩ = some (.int .i64 (k : Int))) :
    Calls Try.prog 93 #[.agg #[.int .i64 t.bad, .slice st.a1 st.n1 st.c1, .slice st.a2 st.n2 st.c2], .pointer (some ⟨fb, 0, none⟩)] w fun e w' => e = .returned (.slice (st.ss.getD k slc0).1 (st.ss.getD k slc0).2.1 (st.ss.getD k slc0).2.2) ∧ Below w.heap.size w w' := by
  obtain ⟨a1, n1, c1, a2, n2, c2, ss⟩ := st
  have hs := ht.s2
  have hn := hs.n_eq
  simp only at hs hn
  obtain ⟨b, off, rfl, hbw⟩ := hs.row.addr (show 0 < n2 by omega)
  have hcx := hs.cellAt k (by omega)
  have hI1 : (k : Int) < (n2 : Int) := by omega
  have hI0 : (0 : Int) ≤ (k : Int) := by omega
  simp only
  obtain ⟨x, hx⟩ : ∃ x : Slc, x = ss.getD k slc0 := ⟨_, rfl⟩
  rw [← hx] at hcx ⊢
  obtain ⟨xa, xn, xc⟩ := x
  simp only at hcx ⊢
  obtain ⟨z, hz⟩ : ∃ z, z = t.bad := ⟨_, rfl⟩
  rw [← hz]
  have HBW := Lib.hid hbw
  have HFL := Lib.hid (World.block_lt_of_cell? _ _ hf)
  clear ht hs hn hx hz hbw hk
  go_enter Try.func93, Try.ntmps93
  go_upto_region 1 with fail
  generalize hW : World.alloc w _ = W1
  have hb : Below w.heap.size w W1 := by subst hW; exact ext_alloc _ _
  have hz : W1.heap[w.heap.size]? = some (.cells #[.int .i64 z, .slice a1 n1 c1, .slice (some ⟨b, off, none⟩) n2 c2] 30 (0, 0)) := by subst hW; exact heap_new _ _ _ rfl
  have p2 := cell_of_block hz 2
  have e0 := (hb.cell (p := ⟨b, off + k, none⟩) HBW.out).trans hcx
  have e1 := (hb.cell (p := ⟨fb, 0, none⟩) HFL.out).trans hf
  have HB := Lib.hid hb
  clear hW hb hz hcx hf
  go_wp2
  go_ret
  exact ⟨rfl, HB.out⟩

/-- Traces that run at once: of one shape. -/
structure TsFit (ts : List TraceC) (n ni mi nf : Nat) : Prop where
  init : ∀ k, k < n → (ts.getD k t00).init.length = ni
  frames : ∀ k, k < n → (ts.getD k t00).frames.length = nf
  ins : ∀ k, k < n → ∀ f, f < nf → ((ts.getD k t00).frames.getD f []).length = mi
/-- The inputs of a frame, as words. -/
def insW (ts : List TraceC) (n mi f : Nat) : List W2 := packL (fun t => t.frames.getD f []) ts n mi
def initW (ts : List TraceC) (n ni : Nat) : List W2 := packL (fun t => t.init) ts n ni

set_option maxRecDepth 100000 in
set_option maxHeartbeats 1600000 in
theorem tog2_any (a : Option Addr) (n c ni mi nf f lb : Nat) (sts : List TSlots) (ts : List TraceC) (w : World) (h : TsSee w a n c sts ts) (hn : 0 < n) (hn64 : n ≤ 64) (hm : mi ≤ 1000000) (hfit : TsFit ts n ni mi nf) (hf : f < nf)
    (hl : w.heap[lb]? = some (.cells #[.slice a n c] 50 (0, 0))) :
    Calls Try.prog 92 #[.int .i64 (f : Int), .pointer (some ⟨lb, 0, none⟩)] w fun e w' => ∃ g, e = .returned (.slice (some ⟨g, 0, none⟩) mi mi) ∧ OwnW w' w.heap.size g mi mi (insW ts n mi f) ∧ Below w.heap.size w w' := by
  have HP : Hid (∀ fb W, Below w.heap.size w W → W.cell? ⟨fb, 0, none⟩ = some (.int .i64 (f : Int)) → Calls Try.prog 90 #[.slice a n c, .func (.func 93) #[] #[.pointer (some ⟨fb, 0, none⟩)]] W fun e w' => ∃ g, e = .returned (.slice (some ⟨g, 0, none⟩) mi mi) ∧ OwnW w' W.heap.size g mi mi (insW ts n mi f) ∧ Below W.heap.size W w') := fun fb W hb hc =>
    packedB_any (fun t => t.frames.getD f []) (fun k => (sts.getD k st00).ss.getD f slc0) fb mi n c a sts ts W (h.below hb) hn hn64 hm (fun k hk => hfit.ins k hk f hf)
      (fun k hk W' hb' => (((h.below hb).below hb').each k hk).s2.each f (by rw [hfit.frames k hk]; exact hf))
      (fun k hk W' hb' => tog21_any (ts.getD k t00) (sts.getD k st00) fb f W' (((h.below hb).below hb').each k hk) (by rw [hfit.frames k hk]; exact hf) ((hb'.cell (p := ⟨fb, 0, none⟩) (World.block_lt_of_cell? _ _ hc)).trans hc))
  have p0 := cell_of_block hl 0
  have HL := Lib.hid hl
  clear h hn hn64 hm hfit hf hl
  go_enter Try.func92, Try.ntmps92
  go_upto_region 1 with fail
  generalize hW : World.alloc w _ = W1
  have hb : Below w.heap.size w W1 := by subst hW; exact ext_alloc _ _
  have hz : W1.heap[w.heap.size]? = some (.cells #[.int .i64 (f : Int)] 3 (0, 0)) := by subst hW; exact heap_new _ _ _ rfl
  have HC := Lib.hid (HP.out w.heap.size W1 hb (cell_of_block hz 0))
  have q0 := cell_of_block (heap_below HL.out hb) 0
  have HB := Lib.hid hb
  clear hW hb hz p0
  go_wp2_with fail
  refine HC.out.mono ?_
  rintro e W2 ⟨g, rfl, ho, hb⟩
  have HO := Lib.hid (ho.base HB.out.size)
  have HB2 := Lib.hid (ext_trans HB.out hb)
  clear hb ho q0
  go_wp2
  go_ret
  exact ⟨g, rfl, HO.out, HB2.out⟩

theorem keep2t {w w' : World} {a0 a1 : Addr} {v0 v1 : Value} (h : w.cell? a0 = some v0 ∧ w.cell? a1 = some v1) (hb : Below w.heap.size w w') : w'.cell? a0 = some v0 ∧ w'.cell? a1 = some v1 :=
  ⟨(hb.cell (World.block_lt_of_cell? _ _ h.1)).trans h.1, (hb.cell (World.block_lt_of_cell? _ _ h.2)).trans h.2⟩

set_option maxRecDepth 100000 in
set_option maxHeartbeats 1600000 in
theorem tog_any (a : Option Addr) (n c ni mi nf : Nat) (sts : List TSlots) (ts : List TraceC) (w : World) (h : TsSee w a n c sts ts) (hn : 0 < n) (hn64 : n ≤ 64) (hm : ni ≤ 1000000) (hfit : TsFit ts n ni mi nf) :
    Calls Try.prog 77 #[.slice a n c] w fun e w' => ∃ g, e = .returned (.agg #[.slice (some ⟨g, 0, none⟩) ni ni, .int .i64 (nf : Int), .func (.func 92) #[] #[.pointer (some ⟨w.heap.size, 0, none⟩)]]) ∧ OwnW w' w.heap.size g ni ni (initW ts n ni) ∧
      w'.heap[w.heap.size]? = some (.cells #[.slice a n c] 50 (0, 0)) ∧ Below w.heap.size w w' := by
  have HP : Hid (∀ W, Below w.heap.size w W → Calls Try.prog 90 #[.slice a n c, .func (.func 91) #[] #[]] W fun e w' => ∃ g, e = .returned (.slice (some ⟨g, 0, none⟩) ni ni) ∧ OwnW w' W.heap.size g ni ni (initW ts n ni) ∧ Below W.heap.size W w') := fun W hb =>
    packedA_any (fun t => t.init) (fun k => ((sts.getD k st00).a1, (sts.getD k st00).n1, (sts.getD k st00).c1)) ni n c a sts ts W (h.below hb) hn hn64 hm (fun k hk => hfit.init k hk)
      (fun k hk W' hb' => (((h.below hb).below hb').each k hk).s1)
      (fun k hk W' hb' => tog1_any _ (sts.getD k st00) W')
  obtain ⟨b, rfl, hlt, hc⟩ := h.cells hn
  have hc2 := (hc 0 hn).2.2
  simp only [Nat.zero_mul, Nat.zero_add] at hc2
  have hnf : (sts.getD 0 st00).n2 = nf := by rw [← hfit.frames 0 hn]; exact (h.each 0 hn).s2.n_eq.symm
  rw [hnf] at hc2
  obtain ⟨ya, hya⟩ : ∃ y, y = (sts.getD 0 st00).a2 := ⟨_, rfl⟩
  obtain ⟨yc, hyc⟩ : ∃ y, y = (sts.getD 0 st00).c2 := ⟨_, rfl⟩
  rw [← hya, ← hyc] at hc2
  have HLT := Lib.hid hlt
  have hn0 : (0 : Int) < (n : Int) := by omega
  clear h hn64 hm hfit hlt hc hnf hya hyc
  go_enter Try.func77, Try.ntmps77
  go_upto_region 1 with fail
  generalize hW : World.alloc (World.alloc w _) _ = W1
  have hb : Below w.heap.size w W1 := by subst hW; exact ext_trans (ext_alloc _ _) (ext_alloc _ _)
  have hL : W1.heap[w.heap.size]? = some (.cells #[.slice (some ⟨b, 0, none⟩) n c] 50 (0, 0)) := by subst hW; exact heap_below (heap_new _ _ _ rfl) (ext_alloc _ _)
  have hR : W1.heap[w.heap.size + 1]? = some (.cells #[.slice none 0 0, .int .i64 0, .nilFunc] 116 (0, 0)) := by subst hW; exact heap_new _ _ _ (by simp)
  have HS0 : Hid (W1.cell? ⟨w.heap.size, 0, none⟩ = some (.slice (some ⟨b, 0, none⟩) n c) ∧ W1.cell? ⟨b, 2, none⟩ = some (.slice ya nf yc)) := ⟨cell_of_block hL 0, (hb.cell (p := ⟨b, 2, none⟩) HLT.out).trans hc2⟩
  have HB := Lib.hid hb
  have HL := Lib.hid hL
  have HR := Lib.hid hR
  clear hW hb hL hR hc2
  refine wp_region_noPanic ?_
  refine wp_region_held (S := fun w' => w'.cell? ⟨w.heap.size, 0, none⟩ = some (.slice (some ⟨b, 0, none⟩) n c) ∧ w'.cell? ⟨b, 2, none⟩ = some (.slice ya nf yc)) (by kernel_rfl) ?_
  generalize hY : ({ W1 with drawn := W1.drawn + 1 } : World) = Y0
  have hY0 : Below W1.heap.size W1 Y0 := by subst hY; exact (Below.refl _ _).drew
  have HSD := Lib.hid (keep2t HS0.out hY0)
  have HYB := Lib.hid hY0
  clear hY hY0 HS0
  refine wpAnyH_take (i := 0) (v := ?_) (by simp only [List.getElem?_toArray, List.getElem?_cons_zero]; rfl) (by kernel_rfl) (by kernel_rfl) (by kernel_rfl) (fun _ _ _ h => h) (Or.inl ⟨by rfl, ?_⟩) HSD.out ?_
  rotate_left
  · intro w hSw
    (try dsimp only at hSw)
    obtain ⟨q0_, q1_⟩ := hSw
    go_simp
    try with_reducible rfl
  try simp only [Act.put, List.setIfInBounds_toArray, List.set_cons_zero, List.set_cons_succ]
  refine wpAnyH_take (i := 2) (v := ?_) (by simp only [List.getElem?_toArray, List.getElem?_cons_zero, List.getElem?_cons_succ]; rfl) (by kernel_rfl) (by kernel_rfl) (by kernel_rfl) (fun _ _ _ h => h) (Or.inl ⟨by rfl, ?_⟩) HSD.out ?_
  rotate_left
  · intro w hSw
    (try dsimp only at hSw)
    obtain ⟨q0_, q1_⟩ := hSw
    go_simp
    try with_reducible rfl
  try simp only [Act.put, List.setIfInBounds_toArray, List.set_cons_zero, List.set_cons_succ]
  refine wpAnyH_take (i := 3) (v := ?_) (by simp only [List.getElem?_toArray, List.getElem?_cons_zero, List.getElem?_cons_succ]; rfl) (by kernel_rfl) (by kernel_rfl) (by kernel_rfl) (fun _ _ _ h => h) (Or.inl ⟨by rfl, ?_⟩) HSD.out ?_
  rotate_left
  · intro w hSw
    (try dsimp only at hSw)
    obtain ⟨q0_, q1_⟩ := hSw
    go_simp
    try with_reducible rfl
  try simp only [Act.put, List.setIfInBounds_toArray, List.set_cons_zero, List.set_cons_succ]
  refine wpAnyH_take (i := 4) (v := ?_) (by simp only [List.getElem?_toArray, List.getElem?_cons_zero, List.getElem?_cons_succ]; rfl) (by kernel_rfl) (by kernel_rfl) (by kernel_rfl) (fun _ _ _ h => h) (Or.inl ⟨by rfl, ?_⟩) HSD.out ?_
  rotate_left
  · intro w hSw
    (try dsimp only at hSw)
    obtain ⟨q0_, q1_⟩ := hSw
    go_simp
    try with_reducible rfl
  try simp only [Act.put, List.setIfInBounds_toArray, List.set_cons_zero, List.set_cons_succ]
  refine wpAnyH_take (i := 5) (v := ?_) (by simp only [List.getElem?_toArray, List.getElem?_cons_zero, List.getElem?_cons_succ]; rfl) (by kernel_rfl) (by kernel_rfl) (by kernel_rfl) (fun _ _ _ h => h) (Or.inl ⟨by rfl, ?_⟩) HSD.out ?_
  rotate_left
  · intro w hSw
    (try dsimp only at hSw)
    obtain ⟨q0_, q1_⟩ := hSw
    go_simp
    try with_reducible rfl
  try simp only [Act.put, List.setIfInBounds_toArray, List.set_cons_zero, List.set_cons_succ]
  refine wpAnyH_take (i := 6) (v := ?_) (by simp only [List.getElem?_toArray, List.getElem?_cons_zero, List.getElem?_cons_succ]; rfl) (by kernel_rfl) (by kernel_rfl) (by kernel_rfl) (fun _ _ _ h => h) (Or.inl ⟨by rfl, ?_⟩) HSD.out ?_
  rotate_left
  · intro w hSw
    (try dsimp only at hSw)
    obtain ⟨q0_, q1_⟩ := hSw
    go_simp
    try with_reducible rfl
  try simp only [Act.put, List.setIfInBounds_toArray, List.set_cons_zero, List.set_cons_succ]
  refine wpAnyH_take (i := 7) (v := ?_) (by simp only [List.getElem?_toArray, List.getElem?_cons_zero, List.getElem?_cons_succ]; rfl) (by kernel_rfl) (by kernel_rfl) (by kernel_rfl) (fun _ _ _ h => h) (Or.inl ⟨by rfl, ?_⟩) HSD.out ?_
  rotate_left
  · intro w hSw
    (try dsimp only at hSw)
    obtain ⟨q0_, q1_⟩ := hSw
    go_simp
    try with_reducible rfl
  try simp only [Act.put, List.setIfInBounds_toArray, List.set_cons_zero, List.set_cons_succ]
  refine wpAnyH_ready (rs := [1]) (by kernel_rfl) (by simp) ?_
  refine AllReadyH.cons (by simp only [List.getElem?_toArray, List.getElem?_cons_zero, List.getElem?_cons_succ]; rfl) (fun K hK => ?_) AllReadyH.nil
  go_simp
  refine (HP.out _ (ext_trans HB.out HYB.out)).mono ?_
  rintro e s1 ⟨g, rfl, ho, b1_⟩
  have HD1 := Lib.hid (ext_trans HYB.out b1_)
  have HS1 := Lib.hid (keep2t HSD.out b1_)
  have HO := Lib.hid (ho.base (ext_trans HB.out HYB.out).size)
  clear b1_ ho
  refine hK.out _ _ HS1.out (fun _ => ?_)
  clear hK K
  try simp only [Act.put, List.setIfInBounds_toArray, List.set_cons_zero, List.set_cons_succ]
  refine wpAnyH_take (i := 8) (v := ?_) (by simp only [List.getElem?_toArray, List.getElem?_cons_zero, List.getElem?_cons_succ]; rfl) (by kernel_rfl) (by kernel_rfl) (by kernel_rfl) (fun _ _ _ h => h) (Or.inl ⟨by rfl, ?_⟩) HS1.out ?_
  rotate_left
  · intro w hSw
    (try dsimp only at hSw)
    obtain ⟨q0_, q1_⟩ := hSw
    go_simp
    try with_reducible rfl
  try simp only [Act.put, List.setIfInBounds_toArray, List.set_cons_zero, List.set_cons_succ]
  refine wpAnyH_ready (rs := [9]) (by kernel_rfl) (by simp) ?_
  refine AllReadyH.cons (by simp only [List.getElem?_toArray, List.getElem?_cons_zero, List.getElem?_cons_succ]; rfl) (fun K hK => ?_) AllReadyH.nil
  have HR1 := Lib.hid (heap_below HR.out HD1.out)
  have z0 := cell_of_block HR1.out 0
  have z1 := cell_of_block HR1.out 1
  have z2 := cell_of_block HR1.out 2
  have y0 := unfrozen_of_block HR1.out 0
  have y1 := unfrozen_of_block HR1.out 1
  have y2 := unfrozen_of_block HR1.out 2
  go_simp
  clear z0 z1 z2 y0 y1 y2
  obtain ⟨FV, hFV⟩ : ∃ v : Value, v = .func (.func 92) #[] #[.pointer (some ⟨w.heap.size, 0, none⟩)] := ⟨_, rfl⟩
  rw [← hFV]
  have HR2 := Lib.hid (tri_set_t HR1.out rfl (.slice (some ⟨g, 0, none⟩) ni ni) (.int .i64 (nf : Int)) FV)
  have oth : ∀ D, D ≠ w.heap.size + 1 → (((s1.setCell ⟨w.heap.size + 1, 0, .none⟩ (.slice (some ⟨g, 0, none⟩) ni ni)).setCell ⟨w.heap.size + 1, 1, .none⟩ (.int .i64 (nf : Int))).setCell ⟨w.heap.size + 1, 2, .none⟩ FV).heap[D]? = s1.heap[D]? := fun D hD => set3_other (w.heap.size + 1) D hD _ _ _
  have HLL := Lib.hid ((oth w.heap.size (by omega)).trans (heap_below HL.out HD1.out))
  have hgne : g ≠ w.heap.size + 1 := fun e => by
    obtain ⟨_, _, cur, hh, _⟩ := HO.out.block
    rw [e, HR1.out] at hh
    cases hh
  have HO2 := Lib.hid (HO.out.other (oth g hgne))
  have HS2 : Hid ((((s1.setCell ⟨w.heap.size + 1, 0, .none⟩ (.slice (some ⟨g, 0, none⟩) ni ni)).setCell ⟨w.heap.size + 1, 1, .none⟩ (.int .i64 (nf : Int))).setCell ⟨w.heap.size + 1, 2, .none⟩ FV).cell? ⟨w.heap.size, 0, none⟩ = some (.slice (some ⟨b, 0, none⟩) n c) ∧ (((s1.setCell ⟨w.heap.size + 1, 0, .none⟩ (.slice (some ⟨g, 0, none⟩) ni ni)).setCell ⟨w.heap.size + 1, 1, .none⟩ (.int .i64 (nf : Int))).setCell ⟨w.heap.size + 1, 2, .none⟩ FV).cell? ⟨b, 2, none⟩ = some (.slice ya nf yc)) :=
    ⟨(World.cell?_of_block (w := s1) (oth _ (by show w.heap.size ≠ _; omega))).trans HS1.out.1, (World.cell?_of_block (w := s1) (oth _ (by show b ≠ _; have := HLT.out; omega))).trans HS1.out.2⟩
  have HB2 := Lib.hid (set3_t (u0 := .slice (some ⟨g, 0, none⟩) ni ni) (u1 := .int .i64 (nf : Int)) (u2 := FV) (w.heap.size + 1) (Nat.le_succ _) (ext_trans HB.out HD1.out))
  clear oth hgne
  refine hK.out _ _ HS2.out (fun _ => ?_)
  clear hK K
  try simp only [Act.put, List.setIfInBounds_toArray, List.set_cons_zero, List.set_cons_succ]
  refine wpAnyH_done (by kernel_rfl) ?_ _
  refine NoPanic.normal ?_
  go_wp2
  refine bodyPost_ret (v := .agg #[.slice (some ⟨g, 0, none⟩) ni ni, .int .i64 (nf : Int), FV]) ?_ rfl ?_
  · have g0 := cell_of_block HR2.out 0
    have g1 := cell_of_block HR2.out 1
    have g2 := cell_of_block HR2.out 2
    simp [results, Try.results77, go_sem, g0, g1, g2]
    try rfl
  · exact ⟨g, by rw [hFV], HO2.out, HLL.out, HB2.out⟩
end Go.Proofs.Ytjmdgbdlhaaefaa
/- sim: the run of words as an iterator, by its contract. -/
namespace Go.Proofs.Ytjmdgbdlhaaefaa
open Go Go.RowKit Go.Joins
attribute [local go_sem] Oper.semAt_some

theorem OwnW.kpt {base B g1 g2 g n c : Nat} {T : TypeId} {W W' : World} {l : List W2} (h : OwnW W B g n c l) (hk : Kpt base T g1 g2 W W') (hT : 106 ≠ T) (h1 : g ≠ g1) (h2 : g ≠ g2) : OwnW W' B g n c l := by
  obtain ⟨_, _, cur, hh, _⟩ := h.block
  exact h.other ((hk.mid g cur _ _ hh hT h1 h2).trans hh.symm)

/-- What the k-th round is handed. -/
def ElemAtW (B : Nat) (V : Nat → List W2) (k : Nat) (xs : Array Value) (W : World) : Prop :=
  ∃ g cp, xs = #[.slice (some ⟨g, 0, none⟩) (V k).length cp] ∧ OwnW W B g (V k).length cp (V k)
theorem elem_putsW (B : Nat) (V : Nat → List W2) (N : Nat) (k : Nat) : Puts N (ElemAtW B V k) := by
  rintro xs A l o o' ⟨g, cp, e, hr⟩ _ hl ho
  refine ⟨g, cp, e, hr.other ?_⟩
  obtain ⟨_, _, cur, hh, _⟩ := hr.block
  exact World.putObj_heap_other (fun e => by subst e; rw [hl] at hh; cases hh; cases ho)
/-- The inputs of all frames, as words. -/
def insAll (ts : List TraceC) (n mi nf : Nat) : List (List W2) := (List.range nf).map (insW ts n mi)
theorem insAll_len (ts : List TraceC) (n mi nf : Nat) : (insAll ts n mi nf).length = nf := by simp [insAll]
theorem insAll_at (ts : List TraceC) (n mi nf k : Nat) (h : k < nf) : (insAll ts n mi nf).getD k [] = insW ts n mi k := by simp [insAll, List.getD, h]
/-- The latches ahead of the k-th frame, and the values of the k-th frame. -/
def stW (c : NormC) (ts : List TraceC) (n ni mi nf k : Nat) : List W2 := kw.after c (initW ts n ni) ((insAll ts n mi nf).take k)
def varsW (c : NormC) (ts : List TraceC) (n ni mi nf k : Nat) : List W2 := kw.vars c (stW c ts n ni mi nf k) (insW ts n mi k)
theorem stW_succ (c : NormC) (ts : List TraceC) (n ni mi nf k : Nat) (h : k < nf) : kw.next c (varsW c ts n ni mi nf k) = stW c ts n ni mi nf (k + 1) := by
  unfold stW
  have hl : k < (insAll ts n mi nf).length := by rw [insAll_len]; exact h
  rw [List.take_add_one, List.getElem?_eq_getElem hl]
  simp only [Option.toList_some]
  rw [Kd.after_snoc]
  have e : (insAll ts n mi nf)[k] = insW ts n mi k := by have := insAll_at ts n mi nf k h; simpa [List.getD, List.getElem?_eq_getElem hl] using this
  rw [e]
  rfl
theorem stW_in {c : NormC} {ts : List TraceC} {n ni mi nf : Nat} (h0 : ∀ x ∈ initW ts n ni, x.in) (hf : ∀ f, f < nf → ∀ x ∈ insW ts n mi f, x.in) : ∀ k, k ≤ nf → ∀ x ∈ stW c ts n ni mi nf k, x.in
  | 0, _ => by simpa [stW, Kd.after] using h0
  | k + 1, hk => by
    rw [← stW_succ c ts n ni mi nf k (by omega)]
    exact nextw_in c (varsw_in c (stW_in h0 hf k (by omega)) (hf k (by omega)))

/-- What a run's iterator leans on. -/
structure RunAtW (c : NormC) (s : CSlots) (a : Option Addr) (n cc ni mi nf fc : Nat) (sts : List TSlots) (ts : List TraceC) (w0 : World) (sb kb cb lb g0 g1 g2 : Nat) (w : World) : Prop where
  cir : SeesCir w0 s c
  tss : TsSee w0 a n cc sts ts
  low : Below w0.heap.size w0 w
  may : MayC c
  small : s.small
  pos : 0 < n ∧ n ≤ 64 ∧ mi ≤ 1000000
  fit : TsFit ts n ni mi nf
  hni : ni = c.lats.length
  hmi : (mi : Int) = c.ins
  few : nf ≤ 256
  in0 : ∀ x ∈ initW ts n ni, x.in
  inf : ∀ f, f < nf → ∀ x ∈ insW ts n mi f, x.in
  feed : w.heap[sb]? = some (.cells #[.slice (some ⟨g0, 0, none⟩) ni fc, .int .i64 (nf : Int), .func (.func 92) #[] #[.pointer (some ⟨lb, 0, none⟩)]] 116 (0, 0))
  kind : w.heap[kb]? = some (.cells #[.int .u64 18446744073709551615, .int .u64 0, .func (.func 86) #[] #[], .func (.func 87) #[] #[]] 110 (0, 0))
  box : w.heap[cb]? = some (.cells #[.int .i64 c.ins, .slice s.a1 s.n1 s.c1, .slice s.a2 s.n2 s.c2, .slice s.a3 s.n3 s.c3, .slice s.a4 s.n4 s.c4, .slice s.a5 s.n5 s.c5] 26 (0, 0))
  lbox : w.heap[lb]? = some (.cells #[.slice a n cc] 50 (0, 0))
  first : OwnW w 0 g0 ni fc (initW ts n ni)
  lt1 : g1 < w.heap.size
  lt2 : g2 < w.heap.size
  ne1 : sb ≠ g1 ∧ kb ≠ g1 ∧ cb ≠ g1 ∧ lb ≠ g1 ∧ g0 ≠ g1
  ne2 : sb ≠ g2 ∧ kb ≠ g2 ∧ cb ≠ g2 ∧ lb ≠ g2 ∧ g0 ≠ g2
theorem RunAtW.kpt {c : NormC} {s : CSlots} {a : Option Addr} {n cc ni mi nf fc : Nat} {sts : List TSlots} {ts : List TraceC} {w0 w w' : World} {sb kb cb lb g0 g1 g2 : Nat} (h : RunAtW c s a n cc ni mi nf fc sts ts w0 sb kb cb lb g0 g1 g2 w) (hk : Kpt w0.heap.size 27 g1 g2 w w') : RunAtW c s a n cc ni mi nf fc sts ts w0 sb kb cb lb g0 g1 g2 w' :=
  { h with
    low := h.low.trans hk.low
    feed := hk.mid _ _ _ _ h.feed (by decide) h.ne1.1 h.ne2.1
    kind := hk.mid _ _ _ _ h.kind (by decide) h.ne1.2.1 h.ne2.2.1
    box := hk.mid _ _ _ _ h.box (by decide) h.ne1.2.2.1 h.ne2.2.2.1
    lbox := hk.mid _ _ _ _ h.lbox (by decide) h.ne1.2.2.2.1 h.ne2.2.2.2.1
    first := h.first.kpt hk (by decide) h.ne1.2.2.2.2 h.ne2.2.2.2.2
    lt1 := Nat.lt_of_lt_of_le h.lt1 hk.low.size
    lt2 := Nat.lt_of_lt_of_le h.lt2 hk.low.size }
theorem RunAtW.below {c : NormC} {s : CSlots} {a : Option Addr} {n cc ni mi nf fc : Nat} {sts : List TSlots} {ts : List TraceC} {w0 w w' : World} {sb kb cb lb g0 g1 g2 : Nat} (h : RunAtW c s a n cc ni mi nf fc sts ts w0 sb kb cb lb g0 g1 g2 w) (hb : Below w.heap.size w w') : RunAtW c s a n cc ni mi nf fc sts ts w0 sb kb cb lb g0 g1 g2 w' := h.kpt (Kpt.below hb h.low.size)

theorem keep11 {w w' : World} {a0 a1 a2 a3 a4 a5 a6 a7 a8 a9 a10 : Addr} {v0 v1 v2 v3 v4 v5 v6 v7 v8 v9 v10 : Value} (h : w.cell? a0 = some v0 ∧ w.cell? a1 = some v1 ∧ w.cell? a2 = some v2 ∧ w.cell? a3 = some v3 ∧ w.cell? a4 = some v4 ∧ w.cell? a5 = some v5 ∧ w.cell? a6 = some v6 ∧ w.cell? a7 = some v7 ∧ w.cell? a8 = some v8 ∧ w.cell? a9 = some v9 ∧ w.cell? a10 = some v10) (hb : Below w.heap.size w w') : w'.cell? a0 = some v0 ∧ w'.cell? a1 = some v1 ∧ w'.cell? a2 = some v2 ∧ w'.cell? a3 = some v3 ∧ w'.cell? a4 = some v4 ∧ w'.cell? a5 = some v5 ∧ w'.cell? a6 = some v6 ∧ w'.cell? a7 = some v7 ∧ w'.cell? a8 = some v8 ∧ w'.cell? a9 = some v9 ∧ w'.cell? a10 = some v10 := by
  obtain ⟨h0, h1, h2, h3, h4, h5, h6, h7, h8, h9, h10⟩ := h
  have one : ∀ {a : Addr} {v : Value}, w.cell? a = some v → w'.cell? a = some v := fun {a v} h => (hb.cell (World.block_lt_of_cell? _ _ h)).trans h
  exact ⟨one h0, one h1, one h2, one h3, one h4, one h5, one h6, one h7, one h8, one h9, one h10⟩

set_option maxRecDepth 100000 in
theorem runw_any (k c s : Array Value) (w : World) :
    Calls Try.prog 88 #[.agg k, .agg c, .agg s] w fun e w' => e = .returned (.func (.func 98) #[] #[.pointer (some ⟨w.heap.size + 2, 0, none⟩), .pointer (some ⟨w.heap.size, 0, none⟩), .pointer (some ⟨w.heap.size + 1, 0, none⟩)]) ∧
      w'.heap[w.heap.size]? = some (.cells k 110 (0, 0)) ∧ w'.heap[w.heap.size + 1]? = some (.cells c 26 (0, 0)) ∧ w'.heap[w.heap.size + 2]? = some (.cells s 116 (0, 0)) ∧ Below w.heap.size w w' := by
  go_enter Try.func88, Try.ntmps88
  go_wp2
  go_ret
  exact ⟨rfl, heap_below (heap_below (heap_new _ _ _ rfl) (ext_alloc _ _)) (ext_alloc _ _), heap_below (heap_new _ _ _ (by simp)) (ext_alloc _ _), heap_new _ _ _ (by simp), ext_trans (ext_alloc _ _) (ext_trans (ext_alloc _ _) (ext_alloc _ _))⟩

set_option maxRecDepth 100000 in
set_option maxHeartbeats 6400000 in
theorem runw_iter (c : NormC) (s : CSlots) (a : Option Addr) (n cc ni mi nf fc : Nat) (sts : List TSlots) (ts : List TraceC) (w0 : World) (sb kb cb lb g0 g1 g2 : Nat) (w : World) (hR : RunAtW c s a n cc ni mi nf fc sts ts w0 sb kb cb lb g0 g1 g2 w) :
    Iterates Try.prog 98 #[.pointer (some ⟨sb, 0, none⟩), .pointer (some ⟨kb, 0, none⟩), .pointer (some ⟨cb, 0, none⟩)] (ElemAtW w.heap.size (varsW c ts n ni mi nf)) (Kpt w0.heap.size 27 g1 g2) nf w := by
  intro l J W hJ hY hW h0
  have hA := hR.below hW
  have HA := Lib.hid hA
  have HY := Lib.hid hY
  have HJ := Lib.hid hJ
  have HW := Lib.hid hW
  have H0 := Lib.hid h0
  have p0 : W.cell? ⟨sb, 0, none⟩ = some (.slice (some ⟨g0, 0, none⟩) ni fc) := cell_of_block hA.feed 0
  have p1 : W.cell? ⟨sb, 1, none⟩ = some (.int .i64 (nf : Int)) := cell_of_block hA.feed 1
  have HFEW := Lib.hid hA.few
  clear hA hY hJ hW h0 hR
  refine callsIn_of_wp Try.func98 rfl trivial ?_ rfl
  simp only [Try.ntmps98, List.size_toArray, List.length_cons, List.length_nil, Nat.reduceAdd, Nat.reduceSub, Array.replicate_succ, Array.replicate_zero, List.push_toArray, List.append_toArray, List.nil_append, List.cons_append]
  gi_wp2
  clear p0 p1
  gi_loopw [13, 5, 6, 7, 8] (fun i v5 _ _ _ wr => ∃ (k g cp : Nat), k ≤ nf ∧ i = .int .i64 k ∧ v5 = .slice (some ⟨g, 0, none⟩) ni cp ∧ Hid (OwnW wr 0 g ni cp (stW c ts n ni mi nf k) ∧ g ≠ g1 ∧ g ≠ g2) ∧ Hid (J k wr) ∧ Hid (Below w.heap.size w W ∧ Kpt w0.heap.size 27 g1 g2 W wr))
    (fun i _ _ _ _ _ => nf - (intOf i).toNat)
  case atStart => exact ⟨0, g0, fc, Nat.zero_le _, rfl, rfl, ⟨(by simpa [stW, Kd.after] using HA.out.first), HA.out.ne1.2.2.2.2, HA.out.ne2.2.2.2.2⟩, H0.out, HW.out, Kpt.below (Below.refl _ _) HA.out.low.size⟩
  case round =>
    obtain ⟨k, va, vc, hk, rfl, rfl, hS, hJk, hK⟩ := hrel
    have hRA := HA.out.kpt hK.out.2
    by_cases hlt : k < nf
    · have hal := fun W' (hb : Below wr.heap.size wr W') => tog2_any a n cc ni mi nf k lb sts ts W' (hRA.tss.below (ext_trans hRA.low hb)) hRA.pos.1 hRA.pos.2.1 hRA.pos.2.2 hRA.fit hlt (heap_below hRA.lbox hb)
      have hfr := fun W' (hb : Below wr.heap.size wr W') B2 g2' (h2 : OwnW W' B2 g2' mi mi (insW ts n mi k)) => framew_any c hRA.may s (stW c ts n ni mi nf k) (insW ts n mi k) 0 B2 va ni vc g2' mi mi W' (hRA.cir.below (ext_trans hRA.low hb)) hRA.small (hS.out.1.below hb) h2 (stW_in hRA.in0 hRA.inf k hk) (hRA.inf k hlt) (by rw [hS.out.1.1]; exact hRA.hni) (by rw [h2.1]; exact hRA.hmi)
      have hvs : kw.vars c (stW c ts n ni mi nf k) (insW ts n mi k) = varsW c ts n ni mi nf k := rfl
      have hns := stW_succ c ts n ni mi nf k hlt
      rw [hvs, hns] at hfr
      obtain ⟨NS, hNS⟩ : ∃ NS, NS = stW c ts n ni mi nf (k + 1) := ⟨_, rfl⟩
      rw [← hNS] at hfr
      have hNL : NS.length = ni := by rw [hNS, ← hns, Kd.next_len]; exact hRA.hni.symm
      unfold kvw cirV at hfr
      have p0 : wr.cell? ⟨kb, 0, none⟩ = some (.int .u64 18446744073709551615) := cell_of_block hRA.kind 0
      have p1 : wr.cell? ⟨kb, 1, none⟩ = some (.int .u64 0) := cell_of_block hRA.kind 1
      have p2 : wr.cell? ⟨kb, 2, none⟩ = some (.func (.func 86) #[] #[]) := cell_of_block hRA.kind 2
      have p3 : wr.cell? ⟨kb, 3, none⟩ = some (.func (.func 87) #[] #[]) := cell_of_block hRA.kind 3
      have q0 : wr.cell? ⟨cb, 0, none⟩ = some (.int .i64 c.ins) := cell_of_block hRA.box 0
      have q1 : wr.cell? ⟨cb, 1, none⟩ = some (.slice s.a1 s.n1 s.c1) := cell_of_block hRA.box 1
      have q2 : wr.cell? ⟨cb, 2, none⟩ = some (.slice s.a2 s.n2 s.c2) := cell_of_block hRA.box 2
      have q3 : wr.cell? ⟨cb, 3, none⟩ = some (.slice s.a3 s.n3 s.c3) := cell_of_block hRA.box 3
      have q4 : wr.cell? ⟨cb, 4, none⟩ = some (.slice s.a4 s.n4 s.c4) := cell_of_block hRA.box 4
      have q5 : wr.cell? ⟨cb, 5, none⟩ = some (.slice s.a5 s.n5 s.c5) := cell_of_block hRA.box 5
      have r2 : wr.cell? ⟨sb, 2, none⟩ = some (.func (.func 92) #[] #[.pointer (some ⟨lb, 0, none⟩)]) := cell_of_block hRA.feed 2
      have HAL := Lib.hid hal
      have HFR := Lib.hid hfr
      have HNS := Lib.hid hNS
      have HNL := Lib.hid hNL
      have HLT := Lib.hid (And.intro hRA.lt1 hRA.lt2)
      have W1' : IntKind.i64.wrap ((k : Int) + 1) = (k : Int) + 1 := IntWalk.i64_in _ (by have := HFEW.out; omega)
      have HS0 := Lib.hid (And.intro p0 (And.intro p1 (And.intro p2 (And.intro p3 (And.intro q0 (And.intro q1 (And.intro q2 (And.intro q3 (And.intro q4 (And.intro q5 r2))))))))))
      clear hal hfr hNS hNL hvs hns hRA p0 p1 p2 p3 q0 q1 q2 q3 q4 q5 r2
      gi_upto_region 4 with fail
      gi_cut [7, 8] from 16 (fun v7 v8 wx => ∃ (fa fc' ga gc : Nat), v7 = .slice (some ⟨fa, 0, none⟩) (varsW c ts n ni mi nf k).length fc' ∧ v8 = .slice (some ⟨ga, 0, none⟩) NS.length gc ∧ Hid (OwnW wx wr.heap.size fa (varsW c ts n ni mi nf k).length fc' (varsW c ts n ni mi nf k)) ∧ Hid (OwnW wx wr.heap.size ga NS.length gc NS) ∧ Hid (Below wr.heap.size wr wx))
      case first =>
        refine wpIn_wide.2 ?_
        refine wp_region_noPanic ?_
        refine wp_region_held (S := fun w' => w'.cell? ⟨kb, 0, none⟩ = some (.int .u64 18446744073709551615) ∧ w'.cell? ⟨kb, 1, none⟩ = some (.int .u64 0) ∧ w'.cell? ⟨kb, 2, none⟩ = some (.func (.func 86) #[] #[]) ∧ w'.cell? ⟨kb, 3, none⟩ = some (.func (.func 87) #[] #[]) ∧ w'.cell? ⟨cb, 0, none⟩ = some (.int .i64 c.ins) ∧ w'.cell? ⟨cb, 1, none⟩ = some (.slice s.a1 s.n1 s.c1) ∧ w'.cell? ⟨cb, 2, none⟩ = some (.slice s.a2 s.n2 s.c2) ∧ w'.cell? ⟨cb, 3, none⟩ = some (.slice s.a3 s.n3 s.c3) ∧ w'.cell? ⟨cb, 4, none⟩ = some (.slice s.a4 s.n4 s.c4) ∧ w'.cell? ⟨cb, 5, none⟩ = some (.slice s.a5 s.n5 s.c5) ∧ w'.cell? ⟨sb, 2, none⟩ = some (.func (.func 92) #[] #[.pointer (some ⟨lb, 0, none⟩)])) (by kernel_rfl) ?_
        generalize hYY : ({ wr with drawn := wr.drawn + 1 } : World) = Y0
        have hY0 : Below wr.heap.size wr Y0 := by subst hYY; exact (Below.refl _ _).drew
        have HSD := Lib.hid (keep11 HS0.out hY0)
        have HYB := Lib.hid hY0
        clear hYY hY0 HS0
        refine wpAnyH_take (i := 0) (v := ?_) (by simp only [List.getElem?_toArray, List.getElem?_cons_zero]; rfl) (by kernel_rfl) (by kernel_rfl) (by kernel_rfl) (fun _ _ _ h => h) (Or.inl ⟨by rfl, ?_⟩) HSD.out ?_
        rotate_left
        · intro w hSw
          (try dsimp only at hSw)
          obtain ⟨q0_, q1_, q2_, q3_, q4_, q5_, q6_, q7_, q8_, q9_, q10_⟩ := hSw
          go_simp
          try with_reducible rfl
        try simp only [Act.put, List.setIfInBounds_toArray, List.set_cons_zero, List.set_cons_succ]
        refine wpAnyH_take (i := 1) (v := ?_) (by simp only [List.getElem?_toArray, List.getElem?_cons_zero, List.getElem?_cons_succ]; rfl) (by kernel_rfl) (by kernel_rfl) (by kernel_rfl) (fun _ _ _ h => h) (Or.inl ⟨by rfl, ?_⟩) HSD.out ?_
        rotate_left
        · intro w hSw
          (try dsimp only at hSw)
          obtain ⟨q0_, q1_, q2_, q3_, q4_, q5_, q6_, q7_, q8_, q9_, q10_⟩ := hSw
          go_simp
          try with_reducible rfl
        try simp only [Act.put, List.setIfInBounds_toArray, List.set_cons_zero, List.set_cons_succ]
        refine wpAnyH_take (i := 2) (v := ?_) (by simp only [List.getElem?_toArray, List.getElem?_cons_zero, List.getElem?_cons_succ]; rfl) (by kernel_rfl) (by kernel_rfl) (by kernel_rfl) (fun _ _ _ h => h) (Or.inl ⟨by rfl, ?_⟩) HSD.out ?_
        rotate_left
        · intro w hSw
          (try dsimp only at hSw)
          obtain ⟨q0_, q1_, q2_, q3_, q4_, q5_, q6_, q7_, q8_, q9_, q10_⟩ := hSw
          go_simp
          try with_reducible rfl
        try simp only [Act.put, List.setIfInBounds_toArray, List.set_cons_zero, List.set_cons_succ]
        refine wpAnyH_take (i := 3) (v := ?_) (by simp only [List.getElem?_toArray, List.getElem?_cons_zero, List.getElem?_cons_succ]; rfl) (by kernel_rfl) (by kernel_rfl) (by kernel_rfl) (fun _ _ _ h => h) (Or.inl ⟨by rfl, ?_⟩) HSD.out ?_
        rotate_left
        · intro w hSw
          (try dsimp only at hSw)
          obtain ⟨q0_, q1_, q2_, q3_, q4_, q5_, q6_, q7_, q8_, q9_, q10_⟩ := hSw
          go_simp
          try with_reducible rfl
        try simp only [Act.put, List.setIfInBounds_toArray, List.set_cons_zero, List.set_cons_succ]
        refine wpAnyH_take (i := 4) (v := ?_) (by simp only [List.getElem?_toArray, List.getElem?_cons_zero, List.getElem?_cons_succ]; rfl) (by kernel_rfl) (by kernel_rfl) (by kernel_rfl) (fun _ _ _ h => h) (Or.inl ⟨by rfl, ?_⟩) HSD.out ?_
        rotate_left
        · intro w hSw
          (try dsimp only at hSw)
          obtain ⟨q0_, q1_, q2_, q3_, q4_, q5_, q6_, q7_, q8_, q9_, q10_⟩ := hSw
          go_simp
          try with_reducible rfl
        try simp only [Act.put, List.setIfInBounds_toArray, List.set_cons_zero, List.set_cons_succ]
        refine wpAnyH_take (i := 5) (v := ?_) (by simp only [List.getElem?_toArray, List.getElem?_cons_zero, List.getElem?_cons_succ]; rfl) (by kernel_rfl) (by kernel_rfl) (by kernel_rfl) (fun _ _ _ h => h) (Or.inl ⟨by rfl, ?_⟩) HSD.out ?_
        rotate_left
        · intro w hSw
          (try dsimp only at hSw)
          obtain ⟨q0_, q1_, q2_, q3_, q4_, q5_, q6_, q7_, q8_, q9_, q10_⟩ := hSw
          go_simp
          try with_reducible rfl
        try simp only [Act.put, List.setIfInBounds_toArray, List.set_cons_zero, List.set_cons_succ]
        refine wpAnyH_ready (rs := [6]) (by kernel_rfl) (by simp) ?_
        refine AllReadyH.cons (by simp only [List.getElem?_toArray, List.getElem?_cons_zero, List.getElem?_cons_succ]; rfl) (fun K hK => ?_) AllReadyH.nil
        go_simp
        refine (HAL.out _ HYB.out).mono ?_
        rintro e s1 ⟨gi, rfl, ho, b1_⟩
        have HD1 := Lib.hid (ext_trans HYB.out b1_)
        have HS1 := Lib.hid (keep11 HSD.out b1_)
        have HO := Lib.hid ho
        clear b1_ ho
        refine hK.out _ _ HS1.out (fun _ => ?_)
        clear hK K
        try simp only [Act.put, List.setIfInBounds_toArray, List.set_cons_zero, List.set_cons_succ]
        refine wpAnyH_ready (rs := [7]) (by kernel_rfl) (by simp) ?_
        refine AllReadyH.cons (by simp only [List.getElem?_toArray, List.getElem?_cons_zero, List.getElem?_cons_succ]; rfl) (fun K hK => ?_) AllReadyH.nil
        go_simp
        refine (HFR.out _ HD1.out _ _ HO.out).mono ?_
        rintro e s2 ⟨fa, fc', ga, gc, rfl, fr, gr, b2_⟩
        have HD2 := Lib.hid (ext_trans HD1.out b2_)
        have HS2 := Lib.hid (keep11 HS1.out b2_)
        have HF2 := Lib.hid (fr.base HD1.out.size)
        have HG2 := Lib.hid (gr.base HD1.out.size)
        clear b2_ fr gr
        refine hK.out _ _ HS2.out (fun _ => ?_)
        clear hK K
        try simp only [Act.put, List.setIfInBounds_toArray, List.set_cons_zero, List.set_cons_succ]
        refine wpAnyH_take (i := 8) (v := ?_) (by simp only [List.getElem?_toArray, List.getElem?_cons_zero, List.getElem?_cons_succ]; rfl) (by kernel_rfl) (by kernel_rfl) (by kernel_rfl) (fun _ _ _ h => h) (Or.inl ⟨by rfl, ?_⟩) HS2.out ?_
        rotate_left
        · intro w hSw
          (try dsimp only at hSw)
          obtain ⟨q0_, q1_, q2_, q3_, q4_, q5_, q6_, q7_, q8_, q9_, q10_⟩ := hSw
          go_simp
          try with_reducible rfl
        try simp only [Act.put, List.setIfInBounds_toArray, List.set_cons_zero, List.set_cons_succ]
        refine wpAnyH_take (i := 9) (v := ?_) (by simp only [List.getElem?_toArray, List.getElem?_cons_zero, List.getElem?_cons_succ]; rfl) (by kernel_rfl) (by kernel_rfl) (by kernel_rfl) (fun _ _ _ h => h) (Or.inl ⟨by rfl, ?_⟩) HS2.out ?_
        rotate_left
        · intro w hSw
          (try dsimp only at hSw)
          obtain ⟨q0_, q1_, q2_, q3_, q4_, q5_, q6_, q7_, q8_, q9_, q10_⟩ := hSw
          go_simp
          try with_reducible rfl
        try simp only [Act.put, List.setIfInBounds_toArray, List.set_cons_zero, List.set_cons_succ]
        refine wpAnyH_take (i := 10) (v := ?_) (by simp only [List.getElem?_toArray, List.getElem?_cons_zero, List.getElem?_cons_succ]; rfl) (by kernel_rfl) (by kernel_rfl) (by kernel_rfl) (fun _ _ _ h => h) (Or.inl ⟨by rfl, ?_⟩) HS2.out ?_
        rotate_left
        · intro w hSw
          (try dsimp only at hSw)
          obtain ⟨q0_, q1_, q2_, q3_, q4_, q5_, q6_, q7_, q8_, q9_, q10_⟩ := hSw
          go_simp
          try with_reducible rfl
        try simp only [Act.put, List.setIfInBounds_toArray, List.set_cons_zero, List.set_cons_succ]
        refine wpAnyH_take (i := 11) (v := ?_) (by simp only [List.getElem?_toArray, List.getElem?_cons_zero, List.getElem?_cons_succ]; rfl) (by kernel_rfl) (by kernel_rfl) (by kernel_rfl) (fun _ _ _ h => h) (Or.inl ⟨by rfl, ?_⟩) HS2.out ?_
        rotate_left
        · intro w hSw
          (try dsimp only at hSw)
          obtain ⟨q0_, q1_, q2_, q3_, q4_, q5_, q6_, q7_, q8_, q9_, q10_⟩ := hSw
          go_simp
          try with_reducible rfl
        try simp only [Act.put, List.setIfInBounds_toArray, List.set_cons_zero, List.set_cons_succ]
        refine wpAnyH_take (i := 12) (v := ?_) (by simp only [List.getElem?_toArray, List.getElem?_cons_zero, List.getElem?_cons_succ]; rfl) (by kernel_rfl) (by kernel_rfl) (by kernel_rfl) (fun _ _ _ h => h) (Or.inl ⟨by rfl, ?_⟩) HS2.out ?_
        rotate_left
        · intro w hSw
          (try dsimp only at hSw)
          obtain ⟨q0_, q1_, q2_, q3_, q4_, q5_, q6_, q7_, q8_, q9_, q10_⟩ := hSw
          go_simp
          try with_reducible rfl
        try simp only [Act.put, List.setIfInBounds_toArray, List.set_cons_zero, List.set_cons_succ]
        refine wpAnyH_done (by kernel_rfl) ?_ _
        refine NoPanic.normal ?_
        go_wp2
        go_meet
        exact ⟨_, _, _, _, rfl, rfl, HF2.out, HG2.out, HD2.out⟩
      case rest =>
        obtain ⟨fa, fc', ga, gc, rfl, rfl, fr, gr, fb⟩ := hcut
        have hle : w.heap.size ≤ wr.heap.size := Nat.le_trans hK.out.1.size hK.out.2.low.size
        obtain ⟨fn, tmps, assign, body, hy, hRd⟩ := HY.out k #[.slice (some ⟨fa, 0, none⟩) (varsW c ts n ni mi nf k).length fc'] wc hlt (HJ.out k wr wc hJk.out fb.out) ⟨fa, fc', rfl, fr.out.base hle⟩
        have HS2 : Hid (OwnW wc 0 ga NS.length gc NS ∧ ga ≠ g1 ∧ ga ≠ g2) := ⟨gr.out.base (Nat.zero_le _), by obtain ⟨h1, _⟩ := gr.out.block; have := HLT.out; omega, by obtain ⟨h1, _⟩ := gr.out.block; have := HLT.out; omega⟩
        have HK2 : Hid (Kpt w0.heap.size 27 g1 g2 W wc) := hK.out.2.trans (Kpt.below fb.out (Nat.le_trans HA.out.low.size hK.out.2.low.size))
        have HW1 := Lib.hid hK.out.1
        clear fr gr fb hle HAL HFR HS0 hK hS hJk
        gi_wp2
        refine ⟨rfl, hRd.mono ?_⟩
        rintro e W4 ⟨rfl, hJ4, hk4⟩
        have HS3 : Hid (OwnW W4 0 ga NS.length gc (stW c ts n ni mi nf (k + 1)) ∧ ga ≠ g1 ∧ ga ≠ g2) := ⟨by rw [← HNS.out]; exact HS2.out.1.kpt hk4 (by decide) HS2.out.2.1 HS2.out.2.2, HS2.out.2⟩
        have HK3 := Lib.hid (HK2.out.trans hk4)
        have HJ4 := Lib.hid hJ4
        rw [HNL.out] at HS3
        rw [HNL.out]
        clear hJ4 hk4 HS2 HK2 hy hRd
        gi_wp2
        go_roundw
        case rel => exact ⟨k + 1, ga, gc, by omega, by go_num, rfl, HS3.out, HJ4.out, HW1.out, HK3.out⟩
        case measure => simp [intOf]; omega
    · obtain rfl : nf = k := by omega
      gi_wp2
      go_end0
      exact ⟨⟨_, rfl⟩, hJk.out⟩
end Go.Proofs.Ytjmdgbdlhaaefaa
/- What is known stays so, whatever X are: on plain lists. -/
namespace Go.Proofs.Ytjmdgbdlhaaefaa
open Go Go.RowKit

/-- b is a bit, and a is b unless it is X. -/
def Ref (a b : UInt8) : Prop := (a.toNat = 2 ∨ a = b) ∧ b.toNat ≤ 1
theorem u8_ofNat_toNat (n : Nat) (h : n ≤ 2) : (UInt8.ofNat n).toNat = n := by rw [UInt8.toNat_ofNat', Nat.mod_eq_of_lt (by omega)]
theorem u8_cases (b : UInt8) (h : b.toNat ≤ 1) : b = 0 ∨ b = 1 := by
  rcases (show b.toNat = 0 ∨ b.toNat = 1 by omega) with h | h
  · exact .inl (UInt8.toNat_inj.1 (h.trans rfl))
  · exact .inr (UInt8.toNat_inj.1 (h.trans rfl))
theorem ref_zero : Ref 0 0 := ⟨.inr rfl, by decide⟩
theorem Ref.not {a b : UInt8} (h : Ref a b) : Ref (k1.nt a) (k1.nt b) := by
  rcases u8_cases b h.2 with rfl | rfl
  · rcases h.1 with h1 | rfl
    · refine ⟨.inl ?_, by decide⟩
      show (UInt8.ofNat (not1 a.toNat)).toNat = 2
      rw [h1]; rfl
    · exact ⟨.inr rfl, by decide⟩
  · rcases h.1 with h1 | rfl
    · refine ⟨.inl ?_, by decide⟩
      show (UInt8.ofNat (not1 a.toNat)).toNat = 2
      rw [h1]; rfl
    · exact ⟨.inr rfl, by decide⟩
theorem Ref.and {a b x y : UInt8} (h : Ref a b) (h' : Ref x y) : Ref (k1.an a x) (k1.an b y) := by
  have key : ∀ (p q r s : Nat), (p = 2 ∨ p = q) → q ≤ 1 → (r = 2 ∨ r = s) → s ≤ 1 → (and1 p r = 2 ∨ and1 p r = and1 q s) ∧ and1 q s ≤ 1 := by
    intro p q r s h1 h2 h3 h4
    have hq : q = 0 ∨ q = 1 := by omega
    have hs : s = 0 ∨ s = 1 := by omega
    rcases h1 with rfl | rfl <;> rcases h3 with rfl | rfl <;> rcases hq with rfl | rfl <;> rcases hs with rfl | rfl <;> simp [and1]
  have k := key a.toNat b.toNat x.toNat y.toNat (h.1.imp id (fun e => by rw [e])) h.2 (h'.1.imp id (fun e => by rw [e])) h'.2
  have e1 := u8_ofNat_toNat (and1 a.toNat x.toNat) (and1_le _ _)
  have e2 := u8_ofNat_toNat (and1 b.toNat y.toNat) (and1_le _ _)
  refine ⟨k.1.imp (fun e => e1.trans e) (fun e => ?_), by show (UInt8.ofNat (and1 b.toNat y.toNat)).toNat ≤ 1; rw [e2]; exact k.2⟩
  show UInt8.ofNat (and1 a.toNat x.toNat) = UInt8.ofNat (and1 b.toNat y.toNat)
  rw [e]
def RefL (xs ys : List UInt8) : Prop := xs.length = ys.length ∧ ∀ i, Ref (xs.getD i 0) (ys.getD i 0)
theorem RefL.nil : RefL [] [] := ⟨rfl, fun i => by simpa using ref_zero⟩
theorem RefL.cons {a b : UInt8} {xs ys : List UInt8} (h : Ref a b) (hl : RefL xs ys) : RefL (a :: xs) (b :: ys) := ⟨by simp [hl.1], fun i => by
  cases i with
  | zero => simpa using h
  | succ i => simpa using hl.2 i⟩
theorem RefL.append {xs ys cs ds : List UInt8} (h : RefL xs ys) (h' : RefL cs ds) : RefL (xs ++ cs) (ys ++ ds) := by
  refine ⟨by simp [h.1, h'.1], fun i => ?_⟩
  by_cases e : i < xs.length
  · have e2 : i < ys.length := by rw [← h.1]; exact e
    have := h.2 i
    simpa [List.getD, List.getElem?_append_left e, List.getElem?_append_left e2] using this
  · have e1 : xs.length ≤ i := Nat.le_of_not_lt e
    have e2 : ys.length ≤ i := by rw [← h.1]; exact e1
    have := h'.2 (i - xs.length)
    simp only [List.getD, List.getElem?_append_right e1, List.getElem?_append_right e2] at this ⊢
    rw [← h.1]; exact this
theorem RefL.val {xs ys : List UInt8} (h : RefL xs ys) (lit : Nat) : Ref (k1.val xs lit) (k1.val ys lit) := by
  unfold Kd.val
  split
  · exact (h.2 _).not
  · exact h.2 _
theorem RefL.gates : ∀ (l : List (Nat × Nat)) {xs ys : List UInt8}, RefL xs ys → RefL (k1.gates l xs) (k1.gates l ys)
  | [], _, _, h => h
  | g :: r, xs, ys, h => by
    rw [Kd.gates, Kd.gates]
    exact RefL.gates r (h.append (RefL.cons ((h.val g.1).and (h.val g.2)) RefL.nil))
theorem RefL.vars {c : NormC} {st st' ins ins' : List UInt8} (h : RefL st st') (h' : RefL ins ins') : RefL (k1.vars c st ins) (k1.vars c st' ins') :=
  RefL.gates _ (RefL.cons ref_zero (h'.append h))
theorem RefL.map (f g : Nat × Nat → UInt8) : ∀ (l : List (Nat × Nat)), (∀ p, Ref (f p) (g p)) → RefL (l.map f) (l.map g)
  | [], _ => RefL.nil
  | p :: r, h => RefL.cons (h p) (RefL.map f g r h)
theorem RefL.next {c : NormC} {vs vs' : List UInt8} (h : RefL vs vs') : RefL (k1.next c vs) (k1.next c vs') := RefL.map _ _ _ fun p => h.val p.1
def RefF (fs gs : List (List UInt8)) : Prop := fs.length = gs.length ∧ ∀ i, RefL (fs.getD i []) (gs.getD i [])
theorem RefF.cons {x y : List UInt8} {xs ys : List (List UInt8)} (h : RefL x y) (hl : RefF xs ys) : RefF (x :: xs) (y :: ys) := ⟨by simp [hl.1], fun i => by
  cases i with
  | zero => simpa using h
  | succ i => simpa using hl.2 i⟩
theorem RefF.nil : RefF [] [] := ⟨rfl, fun i => by simpa using RefL.nil⟩
theorem RefF.tail {x y : List UInt8} {xs ys : List (List UInt8)} (h : RefF (x :: xs) (y :: ys)) : RefL x y ∧ RefF xs ys := ⟨by simpa using h.2 0, by simpa using h.1, fun i => by simpa using h.2 (i + 1)⟩
theorem RefF.run (c : NormC) : ∀ {fs gs : List (List UInt8)} {st st' : List UInt8}, RefF fs gs → RefL st st' → RefF (k1.run c st fs) (k1.run c st' gs)
  | [], [], _, _, _, _ => RefF.nil
  | [], _ :: _, _, _, h, _ => by have := h.1; simp at this
  | _ :: _, [], _, _, h, _ => by have := h.1; simp at this
  | f :: fs, g :: gs, st, st', h, hs => by
    obtain ⟨h1, h2⟩ := h.tail
    rw [Kd.run, Kd.run]
    have hv := RefL.vars (c := c) hs h1
    exact RefF.cons hv (RefF.run c h2 hv.next)
theorem ref_cons (vs vs' : List UInt8) (h : RefL vs vs') : ∀ (l : List Nat) {a a' : UInt8}, Ref a a' → Ref (k1.cons vs a l) (k1.cons vs' a' l)
  | [], _, _, ha => ha
  | x :: r, _, _, ha => ref_cons vs vs' h r (ha.and (h.val x))
theorem ref_sum (c : NormC) (bad : Nat) : ∀ {l l' : List (List UInt8)} {p p' : UInt8 × UInt8}, RefF l l' → Ref p.1 p'.1 → Ref p.2 p'.2 → Ref (k1.sum c bad p l).1 (k1.sum c bad p' l').1 ∧ Ref (k1.sum c bad p l).2 (k1.sum c bad p' l').2
  | [], [], _, _, _, h1, h2 => ⟨h1, h2⟩
  | [], _ :: _, _, _, h, _, _ => by have := h.1; simp at this
  | _ :: _, [], _, _, h, _, _ => by have := h.1; simp at this
  | v :: l, v' :: l', p, p', h, h1, h2 => by
    obtain ⟨hv, ht⟩ := h.tail
    exact ref_sum c bad (p := (k1.cons v p.1 c.cons, k1.val v (c.bads.getD bad 0))) (p' := (k1.cons v' p'.1 c.cons, k1.val v' (c.bads.getD bad 0))) ht (ref_cons v v' hv _ h1) (hv.val _)
theorem ref_verdict (c : NormC) (bad : Nat) {st st' : List UInt8} {fs gs : List (List UInt8)} (h : RefL st st') (h' : RefF fs gs) : Ref (k1.verdict c bad st fs) (k1.verdict c bad st' gs) := by
  have hz : Ref (k1.nt k1.z) (k1.nt k1.z) := ref_zero.not
  have hs := ref_sum c bad (p := (k1.nt k1.z, k1.z)) (p' := (k1.nt k1.z, k1.z)) (RefF.run c h' h) hz ref_zero
  exact hs.1.and hs.2
theorem ref_fillU (bits : List Bool) (p : Nat) (u : UInt8) (h : u.toNat ≤ 2) : Ref u (fillU bits p u) := by
  unfold fillU
  split
  · rename_i h2
    refine ⟨.inl h2, ?_⟩
    unfold bitU
    split <;> decide
  · exact ⟨.inr rfl, by omega⟩
theorem ref_fillL (bits : List Bool) : ∀ (l : List UInt8) (p : Nat), (∀ u ∈ l, u.toNat ≤ 2) → RefL l (fillL bits p l)
  | [], _, _ => RefL.nil
  | u :: r, p, h => RefL.cons (ref_fillU bits p u (h u (by simp))) (ref_fillL bits r _ (fun x hx => h x (by simp [hx])))
theorem fillT_frame (bits : List Bool) (t : TraceC) (k : Nat) (hk : k < t.frames.length) : (fillT bits t).frames.getD k [] = fillL bits (startP (listsOf t) (k + 1)) (t.frames.getD k []) := by
  simp only [fillT, List.getD]
  rw [List.getElem?_map, List.getElem?_range hk]
  rfl
theorem fillT_len (bits : List Bool) (t : TraceC) : (fillT bits t).frames.length = t.frames.length := by simp [fillT]
theorem ref_fillT {c : NormC} {t : TraceC} (bits : List Bool) (h : FitsC c t) : RefL t.init (fillT bits t).init ∧ RefF t.frames (fillT bits t).frames := by
  refine ⟨ref_fillL bits _ _ h.inits, (fillT_len bits t).symm, fun i => ?_⟩
  by_cases e : i < t.frames.length
  · rw [fillT_frame bits t i e]
    exact ref_fillL bits _ _ (h.values _ (getD_mem e))
  · have e1 : t.frames.getD i [] = [] := by simp [List.getD, List.getElem?_eq_none (Nat.le_of_not_lt e)]
    have e2 : (fillT bits t).frames.getD i [] = [] := by simp [List.getD, List.getElem?_eq_none (show (fillT bits t).frames.length ≤ i by rw [fillT_len]; exact Nat.le_of_not_lt e)]
    rw [e1, e2]; exact RefL.nil
theorem run_at (c : NormC) : ∀ (fs : List (List UInt8)) (st : List UInt8) (j : Nat), j < fs.length → (k1.run c st fs).getD j [] = k1.vars c (k1.after c st (fs.take j)) (fs.getD j [])
  | [], _, _, h => by simp at h
  | f :: r, st, 0, _ => by rw [Kd.run]; rfl
  | f :: r, st, j + 1, h => by
    rw [Kd.run, List.getD_cons_succ, run_at c r _ j (by simpa using h)]
    rfl
theorem ref_varsAt {c : NormC} {t : TraceC} (bits : List Bool) (h : FitsC c t) (j : Nat) (hj : j < t.frames.length) : RefL (varsAt c t j) (varsAt c (fillT bits t) j) := by
  obtain ⟨h1, h2⟩ := ref_fillT bits h
  have h3 := (RefF.run c h2 h1).2 j
  rw [run_at c _ _ j hj, run_at c _ _ j (by rw [fillT_len]; exact hj)] at h3
  exact h3
theorem ref_le {xs ys : List UInt8} (h : RefL xs ys) : ∀ u ∈ ys, u.toNat ≤ 1 := by
  intro u hu
  obtain ⟨i, hi, he⟩ := List.getElem_of_mem hu
  have := (h.2 i).2
  simpa [List.getD, List.getElem?_eq_getElem hi, he] using this
theorem FitsC.fill {c : NormC} {t : TraceC} (bits : List Bool) (h : FitsC c t) : FitsC c (fillT bits t) := by
  obtain ⟨h1, h2⟩ := ref_fillT bits h
  refine ⟨h.may, h.pos, h.bad, h1.1.symm.trans h.init, fun u hu => by have := ref_le h1 u hu; omega, fun i hi => ?_, by rw [fillT_len]; exact h.one, by rw [fillT_len]; exact h.few, fun k hk => ?_, fun f hf u hu => ?_⟩
  · rcases h.resets i hi with h3 | h3
    · exact .inl h3
    · by_cases e : (c.lats.getD i (0, 0)).2 = 2
      · exact .inl e
      · refine .inr ?_
        rcases (h1.2 i).1 with h4 | h4
        · omega
        · rw [← h4]; exact h3
  · have hk2 : k < t.frames.length := by rw [← fillT_len bits t]; exact hk
    rw [← (h2.2 k).1]; exact h.frames k hk2
  · obtain ⟨i, hi, he⟩ := List.getElem_of_mem hf
    have h3 := ref_le (h2.2 i)
    have h4 : (fillT bits t).frames.getD i [] = f := by simp [List.getD, List.getElem?_eq_getElem hi, he]
    rw [h4] at h3
    have := h3 u hu; omega
theorem zeroL_id (l : List UInt8) (h : ∀ u ∈ l, u.toNat ≤ 1) : zeroL l = l := by
  unfold zeroL
  conv => rhs; rw [← List.map_id l]
  refine List.map_congr_left fun u hu => ?_
  have := h u hu
  unfold zeroU
  rw [if_neg (by omega)]
  rfl
theorem readT_fill {c : NormC} {t : TraceC} (bits : List Bool) (h : FitsC c t) : readT (fillT bits t) = fillT bits t := by
  obtain ⟨h1, h2⟩ := ref_fillT bits h
  have e1 := zeroL_id _ (ref_le h1)
  have e2 : (fillT bits t).frames.map zeroL = (fillT bits t).frames := by
    conv => rhs; rw [← List.map_id (fillT bits t).frames]
    refine List.map_congr_left fun f hf => ?_
    obtain ⟨i, hi, he⟩ := List.getElem_of_mem hf
    have h3 := ref_le (h2.2 i)
    have h4 : (fillT bits t).frames.getD i [] = f := by simp [List.getD, List.getElem?_eq_getElem hi, he]
    rw [h4] at h3
    exact zeroL_id f h3
  unfold readT
  rw [e1, e2]
/-- Whether the filled trace fails, and what was said of it. -/
theorem fill_verdict {c : NormC} {t : TraceC} (bits : List Bool) (h : FitsC c t) (bad : Nat) :
    Ref (k1.verdict c bad t.init t.frames) (k1.verdict c bad (readT (fillT bits t)).init (readT (fillT bits t)).frames) := by
  rw [readT_fill bits h]
  obtain ⟨h1, h2⟩ := ref_fillT bits h
  exact ref_verdict c bad h1 h2
theorem gates_head : ∀ (l : List (Nat × Nat)) (vs : List UInt8), 0 < vs.length → (k1.gates l vs).getD 0 0 = vs.getD 0 0
  | [], _, _ => rfl
  | g :: r, vs, h => by
    rw [Kd.gates, gates_head r _ (by simp), List.getD, List.getElem?_append_left h]; rfl
theorem varsAt_head (c : NormC) (t : TraceC) (j : Nat) : (varsAt c t j).getD 0 0 = 0 := by
  unfold varsAt Kd.vars
  rw [gates_head _ _ (by simp)]
  rfl
end Go.Proofs.Ytjmdgbdlhaaefaa
namespace Go.Proofs.Ytjmdgbdlhaaefaa
open Go Go.RowKit

theorem getD_out {α : Type} (l : List α) (i : Nat) (d : α) (h : l.length ≤ i) : l.getD i d = d := by
  rw [List.getD, List.getElem?_eq_none h]; rfl
/-- A word that holds a value at a place. -/
def LW (j : Nat) (x : W2) (u : UInt8) : Prop := x.in ∧ mayW x = true ∧ atW x j = u.toNat
theorem lw_zero (j : Nat) : LW j zeroW 0 := ⟨zeroW_in, zeroW_may, by unfold atW zeroW; simp⟩
theorem LW.not {j : Nat} (hj : j < 64) {x : W2} {u : UInt8} (h : LW j x u) : LW j (kw.nt x) (k1.nt u) :=
  ⟨notW_in h.1, notW_may h.2.1, by
    show atW (notW x) j = (UInt8.ofNat (not1 u.toNat)).toNat
    rw [u8_ofNat_toNat _ (not1_le _), at_not h.1 h.2.1 hj, h.2.2]⟩
theorem LW.and {j : Nat} (hj : j < 64) {x y : W2} {u v : UInt8} (h : LW j x u) (h' : LW j y v) : LW j (kw.an x y) (k1.an u v) :=
  ⟨andW_in h.1 h'.1, andW_may h.1 h'.1 h.2.1 h'.2.1, by
    show atW (andW x y) j = (UInt8.ofNat (and1 u.toNat v.toNat)).toNat
    rw [u8_ofNat_toNat _ (and1_le _ _), at_and h.1 h'.1 h.2.1 h'.2.1 hj, h.2.2, h'.2.2]⟩
def LL (j : Nat) (xs : List W2) (ys : List UInt8) : Prop := xs.length = ys.length ∧ ∀ i, LW j (xs.getD i zeroW) (ys.getD i 0)
theorem LL.nil (j : Nat) : LL j [] [] := ⟨rfl, fun i => by simpa using lw_zero j⟩
theorem LL.cons {j : Nat} {a : W2} {b : UInt8} {xs : List W2} {ys : List UInt8} (h : LW j a b) (hl : LL j xs ys) : LL j (a :: xs) (b :: ys) := ⟨by simp [hl.1], fun i => by
  cases i with
  | zero => simpa using h
  | succ i => simpa using hl.2 i⟩
theorem LL.append {j : Nat} {xs cs : List W2} {ys ds : List UInt8} (h : LL j xs ys) (h' : LL j cs ds) : LL j (xs ++ cs) (ys ++ ds) := by
  refine ⟨by simp [h.1, h'.1], fun i => ?_⟩
  by_cases e : i < xs.length
  · have e2 : i < ys.length := by rw [← h.1]; exact e
    have := h.2 i
    simpa [List.getD, List.getElem?_append_left e, List.getElem?_append_left e2] using this
  · have e1 : xs.length ≤ i := Nat.le_of_not_lt e
    have e2 : ys.length ≤ i := by rw [← h.1]; exact e1
    have := h'.2 (i - xs.length)
    simp only [List.getD, List.getElem?_append_right e1, List.getElem?_append_right e2] at this ⊢
    rw [← h.1]; exact this
theorem LL.val {j : Nat} (hj : j < 64) {xs : List W2} {ys : List UInt8} (h : LL j xs ys) (lit : Nat) : LW j (kw.val xs lit) (k1.val ys lit) := by
  unfold Kd.val
  split
  · exact (h.2 _).not hj
  · exact h.2 _
theorem LL.gates {j : Nat} (hj : j < 64) : ∀ (l : List (Nat × Nat)) {xs : List W2} {ys : List UInt8}, LL j xs ys → LL j (kw.gates l xs) (k1.gates l ys)
  | [], _, _, h => h
  | g :: r, xs, ys, h => by
    rw [Kd.gates, Kd.gates]
    exact LL.gates hj r (h.append (LL.cons ((h.val hj g.1).and hj (h.val hj g.2)) (LL.nil j)))
theorem LL.vars {j : Nat} (hj : j < 64) {c : NormC} {st ins : List W2} {st' ins' : List UInt8} (h : LL j st st') (h' : LL j ins ins') : LL j (kw.vars c st ins) (k1.vars c st' ins') :=
  LL.gates hj _ (LL.cons (lw_zero j) (h'.append h))
theorem LL.map {j : Nat} (f : Nat × Nat → W2) (g : Nat × Nat → UInt8) : ∀ (l : List (Nat × Nat)), (∀ p, LW j (f p) (g p)) → LL j (l.map f) (l.map g)
  | [], _ => LL.nil j
  | p :: r, h => LL.cons (h p) (LL.map f g r h)
theorem LL.next {j : Nat} (hj : j < 64) {c : NormC} {vs : List W2} {vs' : List UInt8} (h : LL j vs vs') : LL j (kw.next c vs) (k1.next c vs') := LL.map _ _ _ fun p => h.val hj p.1
def LF (j : Nat) (fs : List (List W2)) (gs : List (List UInt8)) : Prop := fs.length = gs.length ∧ ∀ i, LL j (fs.getD i []) (gs.getD i [])
theorem LF.cons {j : Nat} {x : List W2} {y : List UInt8} {xs : List (List W2)} {ys : List (List UInt8)} (h : LL j x y) (hl : LF j xs ys) : LF j (x :: xs) (y :: ys) := ⟨by simp [hl.1], fun i => by
  cases i with
  | zero => simpa using h
  | succ i => simpa using hl.2 i⟩
theorem LF.nil (j : Nat) : LF j [] [] := ⟨rfl, fun i => by simpa using LL.nil j⟩
theorem LF.tail {j : Nat} {x : List W2} {y : List UInt8} {xs : List (List W2)} {ys : List (List UInt8)} (h : LF j (x :: xs) (y :: ys)) : LL j x y ∧ LF j xs ys := ⟨by simpa using h.2 0, by simpa using h.1, fun i => by simpa using h.2 (i + 1)⟩
theorem LF.run {j : Nat} (hj : j < 64) (c : NormC) : ∀ {fs : List (List W2)} {gs : List (List UInt8)} {st : List W2} {st' : List UInt8}, LF j fs gs → LL j st st' → LF j (kw.run c st fs) (k1.run c st' gs)
  | [], [], _, _, _, _ => LF.nil j
  | [], _ :: _, _, _, h, _ => by have := h.1; simp at this
  | _ :: _, [], _, _, h, _ => by have := h.1; simp at this
  | f :: fs, g :: gs, st, st', h, hs => by
    obtain ⟨h1, h2⟩ := h.tail
    rw [Kd.run, Kd.run]
    have hv := LL.vars (c := c) hj hs h1
    exact LF.cons hv (LF.run hj c h2 (hv.next hj))
theorem lane_cons {j : Nat} (hj : j < 64) {vs : List W2} {vs' : List UInt8} (h : LL j vs vs') : ∀ (l : List Nat) {a : W2} {a' : UInt8}, LW j a a' → LW j (kw.cons vs a l) (k1.cons vs' a' l)
  | [], _, _, ha => ha
  | x :: r, _, _, ha => lane_cons hj h r (ha.and hj (h.val hj x))
theorem lane_sum {j : Nat} (hj : j < 64) (c : NormC) (bad : Nat) : ∀ {l : List (List W2)} {l' : List (List UInt8)} {p : W2 × W2} {p' : UInt8 × UInt8}, LF j l l' → LW j p.1 p'.1 → LW j p.2 p'.2 → LW j (kw.sum c bad p l).1 (k1.sum c bad p' l').1 ∧ LW j (kw.sum c bad p l).2 (k1.sum c bad p' l').2
  | [], [], _, _, _, h1, h2 => ⟨h1, h2⟩
  | [], _ :: _, _, _, h, _, _ => by have := h.1; simp at this
  | _ :: _, [], _, _, h, _, _ => by have := h.1; simp at this
  | v :: l, v' :: l', p, p', h, h1, h2 => by
    obtain ⟨hv, ht⟩ := h.tail
    exact lane_sum hj c bad (p := (kw.cons v p.1 c.cons, kw.val v (c.bads.getD bad 0))) (p' := (k1.cons v' p'.1 c.cons, k1.val v' (c.bads.getD bad 0))) ht (lane_cons hj hv _ h1) (hv.val hj _)
theorem lane_verdict {j : Nat} (hj : j < 64) (c : NormC) (bad : Nat) {st : List W2} {st' : List UInt8} {fs : List (List W2)} {gs : List (List UInt8)} (h : LL j st st') (h' : LF j fs gs) : LW j (kw.verdict c bad st fs) (k1.verdict c bad st' gs) := by
  have hz : LW j (kw.nt kw.z) (k1.nt k1.z) := (lw_zero j).not hj
  have hs := lane_sum hj c bad (p := (kw.nt kw.z, kw.z)) (p' := (k1.nt k1.z, k1.z)) (LF.run hj c h' h) hz (lw_zero j)
  exact hs.1.and hj hs.2

theorem atW_put_other {w : W2} {i v q : Nat} (hi : i < 64) (hq : q < 64) (h : i ≠ q) : atW (putW w i v) q = atW w q := by
  unfold atW putW
  rw [putB_bit hi hq, putB_bit hi hq, if_neg h, if_neg h]
theorem ofGo_spec : ∀ (l : List UInt8) (a : W2) (i : Nat), a.in → mayW a = true → i + l.length ≤ 64 → (∀ u ∈ l, u.toNat ≤ 2) →
    ∃ b, ofGo a i l = some b ∧ b.in ∧ mayW b = true ∧ ∀ q, q < 64 → atW b q = if i ≤ q ∧ q < i + l.length then (l.getD (q - i) 0).toNat else atW a q
  | [], a, i, h1, h2, _, _ => ⟨a, rfl, h1, h2, fun q _ => by rw [if_neg (by simp)]⟩
  | x :: r, a, i, h1, h2, h3, h4 => by
    have hi : i < 64 := by simp at h3; omega
    have hx := h4 x (by simp)
    obtain ⟨b, e, hb1, hb2, hb3⟩ := ofGo_spec r (putW a i x.toNat) (i + 1) (putW_in h1 hi) (putW_may h1 h2 hi) (by simp at h3; omega) (fun u hu => h4 u (by simp [hu]))
    refine ⟨b, by rw [ofGo, if_neg (by omega)]; exact e, hb1, hb2, fun q hq => ?_⟩
    rw [hb3 q hq]
    by_cases e1 : q = i
    · subst e1
      rw [if_neg (by omega), if_pos ⟨Nat.le_refl _, by simp⟩, atW_put hi hx]
      simp
    · by_cases e2 : i + 1 ≤ q ∧ q < i + 1 + r.length
      · rw [if_pos e2, if_pos (by simp; omega)]
        rw [show q - i = (q - (i + 1)) + 1 by omega]
        simp
      · rw [if_neg e2, if_neg (by simp; omega), atW_put_other hi hq (fun h => e1 h.symm)]
theorem ofR_spec (l : List UInt8) (h : l.length ≤ 64) (h4 : ∀ u ∈ l, u.toNat ≤ 2) : (ofR l).1.in ∧ mayW (ofR l).1 = true ∧ ∀ q, q < l.length → atW (ofR l).1 q = (l.getD q 0).toNat := by
  obtain ⟨b, e, h1, h2, h3⟩ := ofGo_spec l zeroW 0 zeroW_in zeroW_may (by omega) h4
  have e2 : ofR l = (b, 0) := by unfold ofR; rw [if_neg (by omega), e]
  rw [e2]
  refine ⟨h1, h2, fun q hq => ?_⟩
  have h5 := h3 q (by omega)
  rw [if_pos ⟨Nat.zero_le _, by omega⟩] at h5
  simpa using h5
theorem colL_le {P : TraceC → List UInt8} {ts : List TraceC} {n i : Nat} (h : ∀ k, k < n → ∀ u ∈ P (ts.getD k t00), u.toNat ≤ 2) : ∀ u ∈ colL P ts n i, u.toNat ≤ 2 := fun u hu => by
  unfold colL at hu
  obtain ⟨q, hq, rfl⟩ := List.mem_map.1 hu
  have hq2 := List.mem_range.1 hq
  by_cases e : i < (P (ts.getD q t00)).length
  · exact h q hq2 _ (getD_mem e)
  · rw [getD_out _ _ _ (Nat.le_of_not_lt e)]; decide
theorem packL_in {P : TraceC → List UInt8} {ts : List TraceC} {n m : Nat} (hn : n ≤ 64) (h : ∀ k, k < n → ∀ u ∈ P (ts.getD k t00), u.toNat ≤ 2) : ∀ x ∈ packL P ts n m, x.in := fun x hx => by
  unfold packL at hx
  obtain ⟨i, _, rfl⟩ := List.mem_map.1 hx
  exact (ofR_spec _ (by simpa [colL] using hn) (colL_le h)).1
theorem lane_pack {P : TraceC → List UInt8} {ts : List TraceC} {n m j : Nat} (hn : n ≤ 64) (hj : j < n) (h : ∀ k, k < n → ∀ u ∈ P (ts.getD k t00), u.toNat ≤ 2) (hl : (P (ts.getD j t00)).length = m) : LL j (packL P ts n m) (P (ts.getD j t00)) := by
  refine ⟨by rw [packL_len, hl], fun i => ?_⟩
  by_cases e : i < m
  · have e1 : (packL P ts n m).getD i zeroW = (ofR (colL P ts n i)).1 := by simp [packL, List.getD, e]
    rw [e1]
    have hs := ofR_spec (colL P ts n i) (by simpa [colL] using hn) (colL_le h)
    refine ⟨hs.1, hs.2.1, ?_⟩
    rw [hs.2.2 j (by simpa [colL] using hj)]
    simp [colL, List.getD, hj]
  · have e1 : (packL P ts n m).getD i zeroW = zeroW := by simp [packL, List.getD, e]
    have e2 : (P (ts.getD j t00)).getD i 0 = 0 := getD_out _ _ _ (by rw [hl]; omega)
    rw [e1, e2]
    exact lw_zero j
/-- All values are. -/
def TsVals (ts : List TraceC) (n : Nat) : Prop := ∀ k, k < n → (∀ u ∈ (ts.getD k t00).init, u.toNat ≤ 2) ∧ ∀ f ∈ (ts.getD k t00).frames, ∀ u ∈ f, u.toNat ≤ 2
theorem TsVals.frame {ts : List TraceC} {n : Nat} (h : TsVals ts n) (f : Nat) : ∀ k, k < n → ∀ u ∈ (ts.getD k t00).frames.getD f [], u.toNat ≤ 2 := fun k hk u hu => by
  by_cases e : f < (ts.getD k t00).frames.length
  · exact (h k hk).2 _ (getD_mem e) u hu
  · rw [getD_out _ _ _ (by omega)] at hu
    cases hu
theorem initW_in {ts : List TraceC} {n ni : Nat} (hn : n ≤ 64) (h : TsVals ts n) : ∀ x ∈ initW ts n ni, x.in := packL_in hn fun k hk => (h k hk).1
theorem insW_in {ts : List TraceC} {n mi f : Nat} (hn : n ≤ 64) (h : TsVals ts n) : ∀ x ∈ insW ts n mi f, x.in := packL_in (P := fun t => t.frames.getD f []) hn (h.frame f)
theorem lane_all {c : NormC} {bad : Nat} {ts : List TraceC} {n ni mi nf j : Nat} (hn : n ≤ 64) (hj : j < n) (h : TsVals ts n) (hf : TsFit ts n ni mi nf) :
    LW j (kw.verdict c bad (initW ts n ni) (insAll ts n mi nf)) (k1.verdict c bad (ts.getD j t00).init (ts.getD j t00).frames) := by
  refine lane_verdict (by omega) c bad (lane_pack hn hj (fun k hk => (h k hk).1) (hf.init j hj)) ⟨by rw [insAll_len, hf.frames j hj], fun i => ?_⟩
  by_cases e : i < nf
  · rw [insAll_at ts n mi nf i e]
    exact lane_pack (P := fun t => t.frames.getD i []) hn hj (h.frame i) (hf.ins j hj i e)
  · rw [getD_out (insAll ts n mi nf) i _ (by rw [insAll_len]; omega), getD_out (ts.getD j t00).frames i _ (by rw [hf.frames j hj]; omega)]
    exact LL.nil j
/-- Which traces surely fail, as bits. -/
def sureN (V : W2) (n : Nat) : Nat := (V.2 &&& (full - V.1)) &&& (2 ^ n - 1)
theorem sureN_lt {V : W2} (h : V.in) (n : Nat) : sureN V n < 18446744073709551616 := and_lt (and_lt h.2)
theorem sureN_bit {V : W2} (h : V.in) {n j : Nat} (hj : j < 64) : (sureN V n).testBit j = (decide (j < n) && decide (atW V j = 1)) := by
  unfold sureN
  rw [Nat.testBit_and, Nat.testBit_and, not_bit _ _ h.1, Nat.testBit_two_pow_sub_one, decide_eq_true hj]
  unfold atW
  cases h1 : V.1.testBit j <;> cases h2 : V.2.testBit j <;> simp
end Go.Proofs.Ytjmdgbdlhaaefaa
