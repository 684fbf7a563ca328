/- ConeGrows returns true for every circuit, literals, bad literal and number of frames where what it reads is of bulk at most 1048576: what matters across frames is what matters within, again and again; frames show no more. Condition: the bound. -/
import Derived.Test.YtdheldhecimfnaaLib
import Derived.Test.YtdheldhecimfnaaOwn
import Derived.Test.YtdheldhecimfnaaRowStep
import Derived.Test.YtdheldhecimfnaaNBase
import Derived.Test.YtdheldhecimfnaaRawPred
import Derived.Test.YtdheldhecimfnaaNSpec
import Derived.Test.YtdheldhecimfnaaNVal
import Derived.Test.YtdheldhecimfnaaNTrace
import Derived.Test.YtdheldhecimfnaaNCirc
import Derived.Test.YtdheldhecimfnaaNBools
import Derived.Test.YtdheldhecimfnaaNHeap
import Derived.Test.YtdheldhecimfnaaNGrow
import Derived.Test.YtdheldhecimfnaaNCloneU
import Derived.Test.YtdheldhecimfnaaNOwns
import Derived.Test.YtdheldhecimfnaaFCells
import Derived.Test.YtdheldhecimfnaaNWide
import Derived.Test.YtdheldhecimfnaaNRefMay3
import Derived.Test.YtdheldhecimfnaaNRefVars
import Derived.Test.YtdheldhecimfnaaCnSpec
import Derived.Test.YtdheldhecimfnaaCnSmall
import Derived.Test.YtdheldhecimfnaaNTwo
import Derived.Test.YtdheldhecimfnaaCnBools
import Derived.Test.YtdheldhecimfnaaTBits
import Derived.Test.YtdheldhecimfnaaSVerd
import Derived.Test.YtdheldhecimfnaaCnA
import Derived.Test.YtdheldhecimfnaaCnB
import Derived.Test.YtdheldhecimfnaaRows
import Derived.BigQuiet
import Derived.Deep.AppendLies
import Derived.Deep.CutRange
import Derived.Deep.QuietTactic
import Derived.Deep.RegionHeld3
import Derived.Deep.RegionLaw
import Derived.Deep.RegionWith
import Derived.KernelRfl
import Derived.Laws.Bits64b
import Derived.Laws.BitsAllLaws
import Derived.Laws.BitsLemmas
import Derived.Laws.EntriesVeiled
import Derived.Laws.Tables
import Derived.Lib.AppendStr
import Derived.Lib.AppendZeros
import Derived.Lib.ConvBytes
import Derived.Lib.Hide
import Derived.Lib.SlBytesRow
import Derived.Lib.SmallJoins
import Derived.LoopIn
import Derived.LoopNIn
import Derived.Maps.AppendAt
import Derived.OrdersHeld
import Derived.OrdersIn
import Derived.OwnWalkIn
import Derived.RangeFuncBox
import Derived.RangeFuncCalls
import Derived.RangeFuncLeaves
import Derived.RangeFuncNested
import Derived.RangeFuncWrites
import Derived.Shelf.Abstract
import Derived.Shelf.Bytes.SlSmallAll
import Derived.Shelf.RegionOpen
import Derived.Sort.CutIn
import Derived.Stop.RegionWithIn
import Derived.TacticsInMore
import Derived.WalkKit
import Derived.WalkLawsBesides
import Derived.WalkSpells
import Derived.Test.YtdheldhecimfnaaPost0
import Derived.Test.YtdheldhecimfnaaPost
import Derived.Test.YtdheldhecimfnaaNOpenC
import Derived.ChangeSame
import Derived.Deep.DeepHandedRow
import Derived.Deep.Fields
import Derived.Deep.Slices
import Derived.JoinedCond
import Derived.Lib.LaidTab
import Derived.OpenShut
import Derived.ProofKit
import Derived.Stop.LaidErr
/- The law ConeGrows, walked. -/
namespace Go.Proofs.Ytdheldhecimfnaa
open Go Go.RowKit Go.Joins

/-- What lies in memory: the circuit's box, and marks in block g. -/
structure GSt (z : Int) (s : CSlots) (w : World) (g : Nat) (E : List Bool) (W : World) : Prop where
  low : Below w.heap.size w W
  cir : W.heap[w.heap.size]? = some (.cells (cirCells z s) 26 (0, 0))
  eb : W.heap[g]? = some (.cells (bcells E) 4 (0, 0))
theorem GSt.below {z : Int} {s : CSlots} {w : World} {g : Nat} {E : List Bool} {W W' : World} (h : GSt z s w g E W) (hb : Below W.heap.size W W') : GSt z s w g E W' := ⟨ext_trans h.low hb, heap_below h.cir hb, heap_below h.eb hb⟩
theorem GSt.grown {z : Int} {s : CSlots} {w : World} {g : Nat} {E : List Bool} {W W' : World} (h : GSt z s w g E W) {v : Value} {n : Nat} {xs : List Value} (hr : Row isU32 W w.heap.size 53 v n xs) (hg : W.grownBy W' v.ownBlock) : GSt z s w g E W' :=
  ⟨h.low.grown hg h.low.size (fun k hk => (hr.own.lt k hk).1), heap_grown h.cir hg (hr.not_own h.cir (by decide)), heap_grown h.eb hg (hr.not_own h.eb (by decide))⟩
/-- The circuit's box, and rows of marks. -/
structure FSt (z : Int) (s : CSlots) (w : World) (F n N : Nat) (G : Nat → Nat) (ms : List (List Bool)) (W : World) : Prop where
  low : Below w.heap.size w W
  cir : W.heap[w.heap.size]? = some (.cells (cirCells z s) 26 (0, 0))
  row : W.heap[F]? = some (.cells (rowsB n N 0 G) 33 (0, 0))
  rows : ∀ f, f < n → W.heap[G f]? = some (.cells (bcells (ms.getD f [])) 4 (0, 0))
theorem FSt.below {z : Int} {s : CSlots} {w : World} {F n N : Nat} {G : Nat → Nat} {ms : List (List Bool)} {W W' : World} (h : FSt z s w F n N G ms W) (hb : Below W.heap.size W W') : FSt z s w F n N G ms W' := ⟨ext_trans h.low hb, heap_below h.cir hb, heap_below h.row hb, fun f hf => heap_below (h.rows f hf) hb⟩
theorem FSt.grown {z : Int} {s : CSlots} {w : World} {F n N : Nat} {G : Nat → Nat} {ms : List (List Bool)} {W W' : World} (h : FSt z s w F n N G ms W) {v : Value} {m : Nat} {xs : List Value} (hr : Row isU32 W w.heap.size 53 v m xs) (hg : W.grownBy W' v.ownBlock) : FSt z s w F n N G ms W' :=
  ⟨h.low.grown hg h.low.size (fun k hk => (hr.own.lt k hk).1), heap_grown h.cir hg (hr.not_own h.cir (by decide)), heap_grown h.row hg (hr.not_own h.row (by decide)), fun f hf => heap_grown (h.rows f hf) hg (hr.not_own (h.rows f hf) (by decide))⟩
theorem rowsB_at {W : World} {F n N f : Nat} {G : Nat → Nat} (h : W.heap[F]? = some (.cells (rowsB n N 0 G) 33 (0, 0))) (hf : f < n) : W.cell? ⟨F, f, none⟩ = some (.slice (some ⟨G f, 0, none⟩) N N) := by
  have e : (rowsB n N 0 G)[f]? = some (.slice (some ⟨G f, 0, none⟩) N N) := by
    unfold rowsB
    rw [fcells_get _ _ _ hf, if_pos (Nat.zero_le _)]
  exact (cell_of_block h f).trans e
/-- Seven cells are kept. -/
theorem keep7 {w w' : World} {a0 a1 a2 a3 a4 a5 a6 : Addr} {v0 v1 v2 v3 v4 v5 v6 : Value} (h : w.cell? a0 = some v0 ∧ w.cell? a1 = some v1 ∧ w.cell? a2 = some v2 ∧ w.cell? a3 = some v3 ∧ w.cell? a4 = some v4 ∧ w.cell? a5 = some v5 ∧ w.cell? a6 = some v6) (hb : Below w.heap.size w w') :
    w'.cell? a0 = some v0 ∧ w'.cell? a1 = some v1 ∧ w'.cell? a2 = some v2 ∧ w'.cell? a3 = some v3 ∧ w'.cell? a4 = some v4 ∧ w'.cell? a5 = some v5 ∧ w'.cell? a6 = some v6 := by
  obtain ⟨h0, h1, h2, h3, h4, h5, h6⟩ := h
  have one : ∀ {a : Addr} {v : Value}, w.cell? a = some v → w'.cell? a = some v := fun {a v} h => (hb.cell (World.block_lt_of_cell? _ _ h)).trans h
  exact ⟨one h0, one h1, one h2, one h3, one h4, one h5, one h6⟩
theorem nv32_isU32 {l : List Nat} (h : ∀ x ∈ l, x < 4294967296) : ∀ u ∈ l.map nv32, isU32 u := by
  intro u hu
  obtain ⟨x, hx, rfl⟩ := List.mem_map.1 hu
  exact ⟨x, h x hx, rfl⟩
theorem bcells_at {W : World} {g i : Nat} {E : List Bool} (h : W.heap[g]? = some (.cells (bcells E) 4 (0, 0))) (hi : i < E.length) : W.cell? ⟨g, i, none⟩ = some (.bool (E.getD i false)) := (cell_of_block h i).trans (bcells_get E i hi)

set_option maxRecDepth 100000 in
set_option maxHeartbeats 12800000 in
theorem grows9_any (c : NormC) (lits more : List Nat) (bad frames : Int) (s : CSlots) (la ma : Option Addr) (ln lc mn mc : Nat) (w : World) (h : SeesCir w s c) (hl : Sees w la ln lc (lits.map nv32)) (hm : Sees w ma mn mc (more.map nv32)) (hs : s.small) (hlo : -9223372036854775808 ≤ c.ins) (hhi : c.ins < 9223372036854775808) (hln : ln ≤ 1048576) (hmn : mn ≤ 1048576) (h32 : ∀ x ∈ lits, x < 4294967296) (h32m : ∀ x ∈ more, x < 4294967296) (hw : Wide c) :
    Calls Try.prog 5 #[cirV c.ins s, .slice la ln lc, .slice ma mn mc, .int .i64 bad, .int .i64 frames] w fun e w' => e = .returned (.bool true) ∧ Below w.heap.size w w' := by
  obtain ⟨i0, hi, hz0, hz1, hz2⟩ := info_parts info_u32
  have HGR := Lib.hid (fun W (hb : Below w.heap.size w W) => great9_any c ⟨0, [], []⟩ s ⟨none, 0, 0, none, 0, 0, []⟩ W (h.below hb) ⟨Sees.nil _ _ _ (fun _ => rfl), ⟨Sees.nil _ _ _ (fun _ => rfl), rfl, fun k hk => absurd hk (by simp)⟩⟩)
  have HLV := Lib.hid lives9_any
  have HEV := Lib.hid (fun (L : List Nat) (a : Option Addr) (n cp : Nat) W (hb : Below w.heap.size w W) (hL : Sees W a n cp (L.map nv32)) (hn : n ≤ 1048576) (h32 : ∀ x ∈ L, x < 4294967296) => ever9_any c L s a n cp W (h.below hb) hs hlo hhi hL hn h32)
  have HOF := Lib.hid (fun (L : List Nat) (a : Option Addr) (n cp : Nat) W (hb : Below w.heap.size w W) (hL : Sees W a n cp (L.map nv32)) (hn : n ≤ 1048576) (h32 : ∀ x ∈ L, x < 4294967296) => of9_any c L s a n cp W (h.below hb) hs hlo hhi hL hn h32)
  have HFR := Lib.hid (fun W (hb : Below w.heap.size w W) => frames9_any c bad frames s W (h.below hb) hs hlo hhi)
  have HMAY := Lib.hid (fun W (hb : Below w.heap.size w W) => refmay3_any c s W (h.below hb) hs hlo hhi hw)
  have HVARS := Lib.hid (fun W (hb : Below w.heap.size w W) => refvars_any c s W (h.below hb) hs hlo hhi hw)
  have HTOLD : Hid (toldB c lits = true → MayC c ∧ ∀ x ∈ lits, x / 2 ≤ varsN c) := toldB_iff.1
  have HIN : Hid (MayC c → ∃ i : Nat, c.ins = (i : Int) ∧ i ≤ 16384 ∧ fstL c = 1 + i ∧ fstG c = 1 + i + c.lats.length) := insN
  have HL1 : Hid (c.lats.length = s.n1) := h.s1.1
  have HC := Lib.hid h
  have HLS := Lib.hid hl
  have HMS := Lib.hid hm
  have HSM := Lib.hid hs
  have H32 := Lib.hid h32
  have H32M := Lib.hid h32m
  have HLL : Hid (lits.length = ln) := hl.lenMap
  have HML : Hid (more.length = mn) := hm.lenMap
  obtain ⟨z, hz⟩ : ∃ z, z = c.ins := ⟨_, rfl⟩
  rw [← hz] at HGR HEV HOF HFR HMAY HVARS HIN ⊢
  obtain ⟨gq, hgq⟩ : ∃ q, q = great9 c ⟨0, [], []⟩ := ⟨_, rfl⟩
  rw [← hgq] at HGR
  clear hz hgq h hl hm hs hlo hhi h32 h32m hw
  unfold cirV traceV at *
  go_enter Try.func5, Try.ntmps5
  go_upto_region 1 with fail
  generalize hW : World.alloc w _ = W1
  have hX : W1.heap[w.heap.size]? = some (.cells (cirCells z s) 26 (0, 0)) := by subst hW; exact heap_new _ _ _ rfl
  have HX1 : Hid (Below w.heap.size w W1 ∧ W1.heap[w.heap.size]? = some (.cells (cirCells z s) 26 (0, 0))) := ⟨by subst hW; exact ext_alloc _ _, hX⟩
  clear hW hX
  have p0 : W1.cell? ⟨w.heap.size, 0, none⟩ = some (.int .i64 z) := cell_of_block HX1.out.2 0
  have p1 : W1.cell? ⟨w.heap.size, 1, none⟩ = some (.slice s.a1 s.n1 s.c1) := cell_of_block HX1.out.2 1
  have p2 : W1.cell? ⟨w.heap.size, 2, none⟩ = some (.slice s.a2 s.n2 s.c2) := cell_of_block HX1.out.2 2
  have p3 : W1.cell? ⟨w.heap.size, 3, none⟩ = some (.slice s.a3 s.n3 s.c3) := cell_of_block HX1.out.2 3
  have p4 : W1.cell? ⟨w.heap.size, 4, none⟩ = some (.slice s.a4 s.n4 s.c4) := cell_of_block HX1.out.2 4
  have p5 : W1.cell? ⟨w.heap.size, 5, none⟩ = some (.slice s.a5 s.n5 s.c5) := cell_of_block HX1.out.2 5
  go_wp2_with fail
  refine (HGR.out W1 HX1.out.1).mono ?_
  rintro e W2 ⟨rfl, hb⟩
  have HX2 : Hid (Below w.heap.size w W2 ∧ W2.heap[w.heap.size]? = some (.cells (cirCells z s) 26 (0, 0))) := ⟨ext_trans HX1.out.1 hb, heap_below HX1.out.2 hb⟩
  clear hb p0 p1 p2 p3 p4 p5 HX1 HGR
  cases gq with
  | true =>
    go_wp2_with fail
    refine (HLV.out W2).mono ?_
    rintro e W3 ⟨rfl, hb⟩
    have HB3 := Lib.hid (ext_trans HX2.out.1 hb)
    clear hb
    go_wp2
    go_ret
    exact ⟨rfl, HB3.out⟩
  | false =>
    by_cases hl300 : 300 < ln
    · have e1 : decide ((300 : Int) < (ln : Int)) = true := by simp; omega
      have e1' : decide (300 < ln) = true := by simpa using hl300
      go_wp2_with fail
      refine (HLV.out W2).mono ?_
      rintro e W3 ⟨rfl, hb⟩
      have HB3 := Lib.hid (ext_trans HX2.out.1 hb)
      clear hb
      go_wp2
      go_ret
      exact ⟨rfl, HB3.out⟩
    · by_cases hm300 : 300 < mn
      · have e1 : decide ((300 : Int) < (ln : Int)) = false := by simp; omega
        have e1' : decide (300 < ln) = false := by simpa using hl300
        have e2 : decide ((300 : Int) < (mn : Int)) = true := by simp; omega
        have e2' : decide (300 < mn) = true := by simpa using hm300
        go_wp2_with fail
        refine (HLV.out W2).mono ?_
        rintro e W3 ⟨rfl, hb⟩
        have HB3 := Lib.hid (ext_trans HX2.out.1 hb)
        clear hb
        go_wp2
        go_ret
        exact ⟨rfl, HB3.out⟩
      · have e1 : decide ((300 : Int) < (ln : Int)) = false := by simp; omega
        have e1' : decide (300 < ln) = false := by simpa using hl300
        have e2 : decide ((300 : Int) < (mn : Int)) = false := by simp; omega
        have e2' : decide (300 < mn) = false := by simpa using hm300
        have p0 : W2.cell? ⟨w.heap.size, 0, none⟩ = some (.int .i64 z) := cell_of_block HX2.out.2 0
        have p1 : W2.cell? ⟨w.heap.size, 1, none⟩ = some (.slice s.a1 s.n1 s.c1) := cell_of_block HX2.out.2 1
        have p2 : W2.cell? ⟨w.heap.size, 2, none⟩ = some (.slice s.a2 s.n2 s.c2) := cell_of_block HX2.out.2 2
        have p3 : W2.cell? ⟨w.heap.size, 3, none⟩ = some (.slice s.a3 s.n3 s.c3) := cell_of_block HX2.out.2 3
        have p4 : W2.cell? ⟨w.heap.size, 4, none⟩ = some (.slice s.a4 s.n4 s.c4) := cell_of_block HX2.out.2 4
        have p5 : W2.cell? ⟨w.heap.size, 5, none⟩ = some (.slice s.a5 s.n5 s.c5) := cell_of_block HX2.out.2 5
        have hl3 : Hid (ln ≤ 300 ∧ mn ≤ 300) := ⟨by omega, by omega⟩
        clear hl300 hm300
        go_upto_region 3 with fail
        clear e1 e1' e2 e2'
        go_wp2_with fail
        refine (HEV.out lits la ln lc W2 HX2.out.1 (HLS.out.below HX2.out.1) (by omega) H32.out).mono ?_
        rintro e W3 (⟨htold, rfl, hb⟩ | ⟨htold, E, gE, rfl, hcone, hgE, hgl, hb⟩)
        · have HB3 := Lib.hid (ext_trans HX2.out.1 hb)
          clear hb p0 p1 p2 p3 p4 p5
          go_wp2_with fail
          refine (HLV.out W3).mono ?_
          rintro e W4 ⟨rfl, hb⟩
          have HB4 := Lib.hid (ext_trans HB3.out hb)
          clear hb
          go_wp2
          go_ret
          exact ⟨rfl, HB4.out⟩
        · obtain ⟨hmay, hlle⟩ := HTOLD.out htold
          obtain ⟨i, hiz, hi2, hfL, hfG⟩ := HIN.out hmay
          have hvars : varsC c = varsN c := by unfold varsC; rw [if_pos (mayC_iff.2 hmay)]
          have hmayb : mayC c = true := mayC_iff.2 hmay
          have HST3 : Hid (GSt z s w gE E W3) := ⟨ext_trans HX2.out.1 hb, heap_below HX2.out.2 hb, hgE⟩
          have HCN := Lib.hid hcone
          have HM := Lib.hid hmay
          have HLLE := Lib.hid hlle
          have hfew := hmay.few
          have hfLn : Hid (fstL c + s.n1 ≤ 1 + varsN c) := by rw [← HL1.out]; unfold Hid fstL varsN; omega
          obtain ⟨N, hN⟩ : ∃ N, N = 1 + varsN c := ⟨_, rfl⟩
          have hNV : varsC c + 1 = N := by omega
          rw [hmayb] at HMAY
          obtain ⟨V, hV⟩ : ∃ V, V = varsC c := ⟨_, rfl⟩
          rw [← hV] at HVARS hNV
          rw [← hN] at HCN hfLn ⊢
          have hN2 : N ≤ 16385 := by omega
          have WV : IntKind.i64.wrap ((V : Int) + 1) = (N : Int) := by rw [IntWalk.i64_in _ (by omega)]; omega
          have hEl : Hid (E.length = N) := HCN.out.len
          have HNE := Lib.hid hN
          subst hiz
          clear hb hcone hgE hgl htold hmay hlle hvars hmayb hN hNV hV hfew hfG p0 p1 p2 p3 p4 p5 HX2 HTOLD HIN
          have p0 : W3.cell? ⟨w.heap.size, 0, none⟩ = some (.int .i64 (i : Int)) := cell_of_block HST3.out.cir 0
          have p1 : W3.cell? ⟨w.heap.size, 1, none⟩ = some (.slice s.a1 s.n1 s.c1) := cell_of_block HST3.out.cir 1
          have p2 : W3.cell? ⟨w.heap.size, 2, none⟩ = some (.slice s.a2 s.n2 s.c2) := cell_of_block HST3.out.cir 2
          have p3 : W3.cell? ⟨w.heap.size, 3, none⟩ = some (.slice s.a3 s.n3 s.c3) := cell_of_block HST3.out.cir 3
          have p4 : W3.cell? ⟨w.heap.size, 4, none⟩ = some (.slice s.a4 s.n4 s.c4) := cell_of_block HST3.out.cir 4
          have p5 : W3.cell? ⟨w.heap.size, 5, none⟩ = some (.slice s.a5 s.n5 s.c5) := cell_of_block HST3.out.cir 5
          go_wp2_with fail
          refine (HMAY.out W3 HST3.out.low).mono ?_
          rintro e W4 ⟨rfl, hb⟩
          have HST4 := Lib.hid (HST3.out.below hb)
          clear hb p0 p1 p2 p3 p4 p5 HST3
          have p0 : W4.cell? ⟨w.heap.size, 0, none⟩ = some (.int .i64 (i : Int)) := cell_of_block HST4.out.cir 0
          have p1 : W4.cell? ⟨w.heap.size, 1, none⟩ = some (.slice s.a1 s.n1 s.c1) := cell_of_block HST4.out.cir 1
          have p2 : W4.cell? ⟨w.heap.size, 2, none⟩ = some (.slice s.a2 s.n2 s.c2) := cell_of_block HST4.out.cir 2
          have p3 : W4.cell? ⟨w.heap.size, 3, none⟩ = some (.slice s.a3 s.n3 s.c3) := cell_of_block HST4.out.cir 3
          have p4 : W4.cell? ⟨w.heap.size, 4, none⟩ = some (.slice s.a4 s.n4 s.c4) := cell_of_block HST4.out.cir 4
          have p5 : W4.cell? ⟨w.heap.size, 5, none⟩ = some (.slice s.a5 s.n5 s.c5) := cell_of_block HST4.out.cir 5
          go_wp2_with fail
          refine (HVARS.out W4 HST4.out.low).mono ?_
          rintro e W5 ⟨rfl, hb⟩
          have HST5 := Lib.hid (HST4.out.below hb)
          clear hb p0 p1 p2 p3 p4 p5 HST4
          go_upto_region 9 with fail
          clear WV
          go_wp2_with (at_builtin; refine wpList_append_row isU32 _ rfl _ _ 24 rfl w.heap.size 53 i0 (.int .u32 0) 4 Try.underlying24 hi hz0 hz1 hz2 rfl zero_isU32 (.slice none 0 0) (0) ([]) rfl (Row.nil _ _ _ _) (la) (ln) (lc) (lits.map nv32) rfl (HLS.out.below HST5.out.low) (nv32_one _) (nv32_isU32 H32.out) ?c1 ?c2 ?c3 ?_)
          case c1 => unfold maxLen; omega
          case c2 => omega
          case c3 => exact HST5.out.low.size
          intro v6 W6 hr6 hg6 _
          have HST6 := Lib.hid (HST5.out.grown (Row.nil isU32 W5 w.heap.size 53) hg6)
          have hr6' : Row isU32 W6 w.heap.size 53 v6 ln (lits.map nv32) := by simpa using hr6
          obtain ⟨va6, vc6, rfl⟩ := hr6'.form
          have HR6 := Lib.hid hr6'
          clear hr6'
          clear hr6 hg6 HST5
          have p1 : W6.cell? ⟨w.heap.size, 1, none⟩ = some (.slice s.a1 s.n1 s.c1) := cell_of_block HST6.out.cir 1
          obtain ⟨FL, hFL⟩ : ∃ FL, FL = 1 + i := ⟨_, rfl⟩
          have WF : IntKind.i64.wrap ((1 : Int) + (i : Int)) = (FL : Int) := by rw [IntWalk.i64_in _ (by omega)]; omega
          have hFLe : Hid (fstL c = FL) := by rw [hFL]; exact hfL
          have hFLb : FL ≤ 20000 := by omega
          have hn1 : Hid (FL + s.n1 ≤ N) := by rw [← hFLe.out]; exact hfLn.out
          have hN1s : s.n1 ≤ 20000 := by have := hn1.out; omega
          have HPL : Hid (∀ k, k ≤ s.n1 → (lits ++ nxP c E k).length ≤ 20300) := fun k hk => by have h1 := nxP_len c E k; have h2 := HLL.out; have h3 := hl3.out.1; rw [List.length_append]; omega
          have HPB : Hid (∀ k, k ≤ s.n1 → ∀ x ∈ lits ++ nxP c E k, x < 4294967296) := fun k hk x hx => by
            rcases List.mem_append.1 hx with h1 | h1
            · exact H32.out x h1
            · have h2 := nxP_le HM.out E k (by rw [HL1.out]; exact hk) x h1
              have h3 := HM.out.few
              omega
          clear hFL hfL
          go_wp2
          clear p1
          go_loopw [72, 14, 13] (fun iv _ nv wr => ∃ (k m : Nat) (va : Option Addr) (vc : Nat), k ≤ s.n1 ∧ iv = .int .i64 k ∧ nv = .slice va m vc ∧ Hid (m = (lits ++ nxP c E k).length) ∧ Hid (Row isU32 wr w.heap.size 53 (.slice va m vc) m ((lits ++ nxP c E k).map nv32)) ∧ Hid (GSt (i : Int) s w gE E wr)) (fun iv _ _ _ => s.n1 - (intOf iv).toNat)
          case atStart => exact ⟨0, ln, va6, vc6, Nat.zero_le _, rfl, rfl, by rw [nxP_zero, List.append_nil]; exact HLL.out.symm, by rw [nxP_zero, List.append_nil]; exact HR6.out, HST6.out⟩
          case round =>
            clear HR6 HST6
            obtain ⟨k, m, va, vc, hk, rfl, rfl, hmm, hR, hG⟩ := hrel
            obtain ⟨d, hd⟩ : ∃ d, d = lits ++ nxP c E k := ⟨_, rfl⟩
            have hdl : d.length ≤ 20300 := by rw [hd]; exact HPL.out k hk
            have hd32 : Hid (∀ x ∈ d, x < 4294967296) := by rw [hd]; exact HPB.out k hk
            have HD := Lib.hid hd
            rw [← hd] at hR hmm
            have hml : m ≤ 20300 := by rw [hmm.out]; exact hdl
            clear hd hdl
            by_cases hlt : k < s.n1
            · obtain ⟨lb, lo, hla, _⟩ := HC.out.s1.addr (show 0 < s.n1 by omega)
              have hls := HC.out.s1.below hG.out.low
              rw [hla] at hls
              obtain ⟨q0, q1⟩ := hls.cells k hlt (0, 0)
              obtain ⟨x, hx⟩ : ∃ x, x = (c.lats.getD k (0, 0)).1 := ⟨_, rfl⟩
              rw [← hx] at q0
              unfold nv32 at q0
              have p0 : wr.cell? ⟨w.heap.size, 0, none⟩ = some (.int .i64 (i : Int)) := cell_of_block hG.out.cir 0
              have p1 : wr.cell? ⟨w.heap.size, 1, none⟩ = some (.slice s.a1 s.n1 s.c1) := cell_of_block hG.out.cir 1
              rw [hla] at p1
              obtain ⟨ix, hix⟩ : ∃ ix, ix = FL + k := ⟨_, rfl⟩
              have hixn : ix < N := by have := hn1.out; omega
              have hcm := bcells_at hG.out.eb (show ix < E.length by rw [hEl.out]; exact hixn)
              have W1' : IntKind.i64.wrap ((FL : Int) + (k : Int)) = (ix : Int) := by rw [hix, IntWalk.i64_in _ (by omega)]; omega
              have W2' : IntKind.i64.wrap ((k : Int) + 1) = (k : Int) + 1 := IntWalk.i64_in _ (by omega)
              obtain ⟨q, hq⟩ : ∃ q, q = E.getD ix false := ⟨_, rfl⟩
              have HQ : Hid (E.getD (fstL c + k) false = q) := by unfold Hid; rw [hFLe.out, ← hix, hq]
              rw [← hq] at hcm
              have HXE := Lib.hid hx
              have HG := Lib.hid hG.out
              have HR := Lib.hid hR.out
              have HMM := Lib.hid hmm.out
              have hixz : (ix : Int) < (N : Int) := by omega
              clear hx hq hix hG hR hmm hls q1 hla
              cases q with
              | false =>
                have HE : Hid (lits ++ nxP c E (k + 1) = d) := by unfold Hid; rw [nxP_no HQ.out]; exact HD.out.symm
                go_wp2
                go_roundw
                case rel => exact ⟨k + 1, m, va, vc, by omega, by go_num, rfl, by rw [HE.out]; exact HMM.out, by rw [HE.out]; exact HR.out, HG.out⟩
                case measure => simp [intOf]; omega
              | true =>
                have HE : Hid (lits ++ nxP c E (k + 1) = d ++ [x]) := by unfold Hid; rw [nxP_yes HQ.out, ← HXE.out, ← List.append_assoc, ← HD.out]
                have hx32 : x < 4294967296 := by
                  have h1 := HPB.out (k + 1) hlt x (by rw [HE.out]; simp)
                  exact h1
                have HX32 := Lib.hid hx32
                clear hx32
                go_wp2_with (at_builtin; refine wpList_append_row isU32 _ rfl _ _ 24 rfl w.heap.size 53 i0 (.int .u32 0) 4 Try.underlying24 hi hz0 hz1 hz2 rfl zero_isU32 (.slice va m vc) (m) (d.map nv32) rfl (HR.out.below (ext_alloc _ _)) (some ⟨wr.heap.size, 0, none⟩) (1) (1) ([x].map nv32) rfl (sees_cells (heap_new _ _ _ rfl) ([x].map nv32) 1 rfl rfl) (nv32_one _) (nv32_isU32 (fun y hy => by rw [List.mem_singleton.1 hy]; exact HX32.out)) ?c1 ?c2 ?c3 ?_)
                case c1 => unfold maxLen; omega
                case c2 => omega
                case c3 => have := HG.out.low.size; simp; omega
                intro v7 W7 hr7 hg7 _
                have hga := HG.out.below (ext_alloc wr (.cells #[.int .u32 (x : Int)] 53))
                have hra := HR.out.below (ext_alloc wr (.cells #[.int .u32 (x : Int)] 53))
                have HG7 := Lib.hid (hga.grown hra hg7)
                have hr7' : Row isU32 W7 w.heap.size 53 v7 (m + 1) ((d ++ [x]).map nv32) := by rw [List.map_append]; exact hr7
                obtain ⟨va7, vc7, rfl⟩ := hr7'.form
                have HR7 := Lib.hid hr7'
                have HM7 : Hid (m + 1 = (d ++ [x]).length) := by unfold Hid; rw [List.length_append, ← HMM.out]; rfl
                rw [← HE.out] at HR7 HM7
                clear hga hra hr7 hr7' hg7
                go_wp2
                go_roundw
                case rel => exact ⟨k + 1, m + 1, va7, vc7, by omega, by go_num, rfl, HM7.out, HR7.out, HG7.out⟩
                case measure => simp [intOf]; omega
            · obtain rfl : k = s.n1 := by omega
              have hX32 := HPB.out s.n1 (Nat.le_refl _)
              have hXL := HPL.out s.n1 (Nat.le_refl _)
              rw [← HD.out] at hX32 hXL
              obtain ⟨X, hXd⟩ : ∃ X, X = d := ⟨_, rfl⟩
              have hX : X = lits ++ nxL c E := by rw [hXd, HD.out, ← HL1.out, nxP_all]
              have htX : toldB c X = true := toldB_iff.2 ⟨HM.out, by rw [hX]; exact told_next HM.out HLLE.out E⟩
              rw [← hXd] at hmm hR hX32 hXL
              have HXX := Lib.hid hX
              have HTX := Lib.hid htX
              have HX32 := Lib.hid hX32
              have HR8 := Lib.hid hR.out
              have HG8 := Lib.hid hG.out
              have HM8 := Lib.hid hmm.out
              have hm8 : m ≤ 20300 := by rw [hmm.out]; exact hXL
              clear hX32 hXL hX hXd HD hd32 htX hR hG hmm WF HPB HPL
              have p0 : wr.cell? ⟨w.heap.size, 0, none⟩ = some (.int .i64 (i : Int)) := cell_of_block HG8.out.cir 0
              have p1 : wr.cell? ⟨w.heap.size, 1, none⟩ = some (.slice s.a1 s.n1 s.c1) := cell_of_block HG8.out.cir 1
              have p2 : wr.cell? ⟨w.heap.size, 2, none⟩ = some (.slice s.a2 s.n2 s.c2) := cell_of_block HG8.out.cir 2
              have p3 : wr.cell? ⟨w.heap.size, 3, none⟩ = some (.slice s.a3 s.n3 s.c3) := cell_of_block HG8.out.cir 3
              have p4 : wr.cell? ⟨w.heap.size, 4, none⟩ = some (.slice s.a4 s.n4 s.c4) := cell_of_block HG8.out.cir 4
              have p5 : wr.cell? ⟨w.heap.size, 5, none⟩ = some (.slice s.a5 s.n5 s.c5) := cell_of_block HG8.out.cir 5
              go_wp2_with fail
              refine (HOF.out X va m vc wr HG8.out.low (row_sees_slice HR8.out).2 (by omega) HX32.out).mono ?_
              rintro e W9 (⟨hto, _, _⟩ | ⟨_, A, gA, rfl, hcA, hgA, _, hb⟩)
              · rw [HTX.out] at hto; cases hto
              rw [HXX.out] at hcA
              have hAE := grow_again (by rw [HNE.out] at HCN; exact HCN.out) hcA
              rw [hAE] at hgA
              rw [← HNE.out]
              have HG9 := Lib.hid (HG8.out.below hb)
              have HR9 := Lib.hid (HR8.out.below hb)
              have HA9 := Lib.hid hgA
              clear hcA hgA hb hAE HG8 HR8 p0 p1 p2 p3 p4 p5
              have p0 : W9.cell? ⟨w.heap.size, 0, none⟩ = some (.int .i64 (i : Int)) := cell_of_block HG9.out.cir 0
              have p1 : W9.cell? ⟨w.heap.size, 1, none⟩ = some (.slice s.a1 s.n1 s.c1) := cell_of_block HG9.out.cir 1
              have p2 : W9.cell? ⟨w.heap.size, 2, none⟩ = some (.slice s.a2 s.n2 s.c2) := cell_of_block HG9.out.cir 2
              have p3 : W9.cell? ⟨w.heap.size, 3, none⟩ = some (.slice s.a3 s.n3 s.c3) := cell_of_block HG9.out.cir 3
              have p4 : W9.cell? ⟨w.heap.size, 4, none⟩ = some (.slice s.a4 s.n4 s.c4) := cell_of_block HG9.out.cir 4
              have p5 : W9.cell? ⟨w.heap.size, 5, none⟩ = some (.slice s.a5 s.n5 s.c5) := cell_of_block HG9.out.cir 5
              have HP9 := Lib.hid (And.intro p0 (And.intro p1 (And.intro p2 (And.intro p3 (And.intro p4 p5)))))
              go_upto_region 17 with fail
              clear p0 p1 p2 p3 p4 p5
              refine wp_region_noPanic ?_
              refine wp_region_held (S := fun w' => w'.cell? ⟨w.heap.size, 0, none⟩ = some (.int .i64 (i : Int)) ∧ w'.cell? ⟨w.heap.size, 1, none⟩ = some (.slice s.a1 s.n1 s.c1) ∧ w'.cell? ⟨w.heap.size, 2, none⟩ = some (.slice s.a2 s.n2 s.c2) ∧ w'.cell? ⟨w.heap.size, 3, none⟩ = some (.slice s.a3 s.n3 s.c3) ∧ w'.cell? ⟨w.heap.size, 4, none⟩ = some (.slice s.a4 s.n4 s.c4) ∧ w'.cell? ⟨w.heap.size, 5, none⟩ = some (.slice s.a5 s.n5 s.c5)) (by kernel_rfl) ?_
              generalize hY : ({ W9 with drawn := W9.drawn + 1 } : World) = Y0
              have hY0 : Below W9.heap.size W9 Y0 := by subst hY; exact (Below.refl _ _).drew
              have HPY := Lib.hid (keep6 HP9.out hY0)
              have HGY := Lib.hid (HG9.out.below hY0)
              have HRY := Lib.hid (HR9.out.below hY0)
              have HAY := Lib.hid (heap_below HA9.out hY0)
              have HMY := Lib.hid (HMS.out.below HGY.out.low)
              clear hY hY0 HP9 HG9 HR9 HA9
              refine wpAnyH_take (i := 0) (v := ?_) (by simp only [List.getElem?_toArray, List.getElem?_cons_zero]; rfl) (by kernel_rfl) (by kernel_rfl) (by kernel_rfl) (fun _ _ _ h => h) (Or.inl ⟨by rfl, ?_⟩) HPY.out ?_
              rotate_left
              · intro w hSw
                (try dsimp only at hSw)
                obtain ⟨q0_, q1_, q2_, q3_, q4_, q5_⟩ := hSw
                go_simp
                try with_reducible rfl
              try simp only [Act.put, List.setIfInBounds_toArray, List.set_cons_zero, List.set_cons_succ]
              refine wpAnyH_take (i := 1) (v := ?_) (by simp only [List.getElem?_toArray, List.getElem?_cons_zero, List.getElem?_cons_succ]; rfl) (by kernel_rfl) (by kernel_rfl) (by kernel_rfl) (fun _ _ _ h => h) (Or.inl ⟨by rfl, ?_⟩) HPY.out ?_
              rotate_left
              · intro w hSw
                (try dsimp only at hSw)
                obtain ⟨q0_, q1_, q2_, q3_, q4_, q5_⟩ := hSw
                go_simp
                try with_reducible rfl
              try simp only [Act.put, List.setIfInBounds_toArray, List.set_cons_zero, List.set_cons_succ]
              refine wpAnyH_take (i := 2) (v := ?_) (by simp only [List.getElem?_toArray, List.getElem?_cons_zero, List.getElem?_cons_succ]; rfl) (by kernel_rfl) (by kernel_rfl) (by kernel_rfl) (fun _ _ _ h => h) (Or.inl ⟨by rfl, ?_⟩) HPY.out ?_
              rotate_left
              · intro w hSw
                (try dsimp only at hSw)
                obtain ⟨q0_, q1_, q2_, q3_, q4_, q5_⟩ := hSw
                go_simp
                try with_reducible rfl
              try simp only [Act.put, List.setIfInBounds_toArray, List.set_cons_zero, List.set_cons_succ]
              refine wpAnyH_ready (rs := [3]) (by kernel_rfl) (by simp) ?_
              refine AllReadyH.cons (by simp only [List.getElem?_toArray, List.getElem?_cons_zero, List.getElem?_cons_succ]; rfl) (fun K hK => ?_) AllReadyH.nil
              refine step_append_row isU32 _ rfl _ _ 24 rfl w.heap.size 53 i0 (.int .u32 0) 4 Try.underlying24 hi hz0 hz1 hz2 rfl zero_isU32 _ _ _ (by simp [Act.eval]) HRY.out _ _ _ _ (by simp [Act.eval]) HMY.out (nv32_one _) (nv32_isU32 H32M.out) (by have := hl3.out; unfold maxLen; omega) (by have := hl3.out; omega) HGY.out.low.size ?_
              intro v10 W10 hr10 hg10
              have HG10 := Lib.hid (HGY.out.grown HRY.out hg10)
              have HA10 := Lib.hid (heap_grown HAY.out hg10 (HRY.out.not_own HAY.out (by decide)))
              obtain ⟨va10, vc10, rfl⟩ := hr10.form
              have hr10' : Row isU32 W10 w.heap.size 53 (.slice va10 (m + mn) vc10) (m + mn) ((X ++ more).map nv32) := by rw [List.map_append]; exact hr10
              have HR10 := Lib.hid hr10'
              clear hr10 hr10' hg10 HGY HRY HAY
              have p0 : W10.cell? ⟨w.heap.size, 0, none⟩ = some (.int .i64 (i : Int)) := cell_of_block HG10.out.cir 0
              have p1 : W10.cell? ⟨w.heap.size, 1, none⟩ = some (.slice s.a1 s.n1 s.c1) := cell_of_block HG10.out.cir 1
              have p2 : W10.cell? ⟨w.heap.size, 2, none⟩ = some (.slice s.a2 s.n2 s.c2) := cell_of_block HG10.out.cir 2
              have p3 : W10.cell? ⟨w.heap.size, 3, none⟩ = some (.slice s.a3 s.n3 s.c3) := cell_of_block HG10.out.cir 3
              have p4 : W10.cell? ⟨w.heap.size, 4, none⟩ = some (.slice s.a4 s.n4 s.c4) := cell_of_block HG10.out.cir 4
              have p5 : W10.cell? ⟨w.heap.size, 5, none⟩ = some (.slice s.a5 s.n5 s.c5) := cell_of_block HG10.out.cir 5
              have HP10 := Lib.hid (And.intro p0 (And.intro p1 (And.intro p2 (And.intro p3 (And.intro p4 p5)))))
              clear p0 p1 p2 p3 p4 p5
              refine hK.out _ _ HP10.out (fun _ => ?_)
              clear hK K
              try simp only [Act.put, List.setIfInBounds_toArray, List.set_cons_zero, List.set_cons_succ]
              refine wpAnyH_ready (rs := [4]) (by kernel_rfl) (by simp) ?_
              refine AllReadyH.cons (by simp only [List.getElem?_toArray, List.getElem?_cons_zero, List.getElem?_cons_succ]; rfl) (fun K hK => ?_) AllReadyH.nil
              go_simp
              refine (HEV.out (X ++ more) va10 (m + mn) vc10 W10 HG10.out.low (row_sees_slice HR10.out).2 (by have := hl3.out; omega) (fun x hx => by
                rcases List.mem_append.1 hx with h1 | h1
                · exact HX32.out x h1
                · exact H32M.out x h1)).mono ?_
              intro e W11 hpost
              obtain ⟨ba, bn, er, B, rfl, her, _, hOKB, hb⟩ := hpost.any
              have HG11 := Lib.hid (HG10.out.below hb)
              have HA11 := Lib.hid (heap_below HA10.out hb)
              have HP11 := Lib.hid (keep6 HP10.out hb)
              have HBB := Lib.hid hOKB
              have HER := Lib.hid her
              clear hb hOKB her hpost HG10 HA10 HR10 HP10
              refine hK.out _ _ HP11.out (fun _ => ?_)
              clear hK K
              try simp only [Act.put, List.setIfInBounds_toArray, List.set_cons_zero, List.set_cons_succ]
              refine wpAnyH_take (i := 5) (v := ?_) (by simp only [List.getElem?_toArray, List.getElem?_cons_zero, List.getElem?_cons_succ]; rfl) (by kernel_rfl) (by kernel_rfl) (by kernel_rfl) (fun _ _ _ h => h) (Or.inl ⟨by rfl, ?_⟩) HP11.out ?_
              rotate_left
              · intro w hSw
                (try dsimp only at hSw)
                obtain ⟨q0_, q1_, q2_, q3_, q4_, q5_⟩ := hSw
                go_simp
                try with_reducible rfl
              try simp only [Act.put, List.setIfInBounds_toArray, List.set_cons_zero, List.set_cons_succ]
              refine wpAnyH_take (i := 6) (v := ?_) (by simp only [List.getElem?_toArray, List.getElem?_cons_zero, List.getElem?_cons_succ]; rfl) (by kernel_rfl) (by kernel_rfl) (by kernel_rfl) (fun _ _ _ h => h) (Or.inl ⟨by rfl, ?_⟩) HP11.out ?_
              rotate_left
              · intro w hSw
                (try dsimp only at hSw)
                obtain ⟨q0_, q1_, q2_, q3_, q4_, q5_⟩ := hSw
                go_simp
                try with_reducible rfl
              try simp only [Act.put, List.setIfInBounds_toArray, List.set_cons_zero, List.set_cons_succ]
              refine wpAnyH_take (i := 7) (v := ?_) (by simp only [List.getElem?_toArray, List.getElem?_cons_zero, List.getElem?_cons_succ]; rfl) (by kernel_rfl) (by kernel_rfl) (by kernel_rfl) (fun _ _ _ h => h) (Or.inl ⟨by rfl, ?_⟩) HP11.out ?_
              rotate_left
              · intro w hSw
                (try dsimp only at hSw)
                obtain ⟨q0_, q1_, q2_, q3_, q4_, q5_⟩ := hSw
                go_simp
                try with_reducible rfl
              try simp only [Act.put, List.setIfInBounds_toArray, List.set_cons_zero, List.set_cons_succ]
              refine wpAnyH_take (i := 8) (v := ?_) (by simp only [List.getElem?_toArray, List.getElem?_cons_zero, List.getElem?_cons_succ]; rfl) (by kernel_rfl) (by kernel_rfl) (by kernel_rfl) (fun _ _ _ h => h) (Or.inl ⟨by rfl, ?_⟩) HP11.out ?_
              rotate_left
              · intro w hSw
                (try dsimp only at hSw)
                obtain ⟨q0_, q1_, q2_, q3_, q4_, q5_⟩ := hSw
                go_simp
                try with_reducible rfl
              try simp only [Act.put, List.setIfInBounds_toArray, List.set_cons_zero, List.set_cons_succ]
              refine wpAnyH_take (i := 9) (v := ?_) (by simp only [List.getElem?_toArray, List.getElem?_cons_zero, List.getElem?_cons_succ]; rfl) (by kernel_rfl) (by kernel_rfl) (by kernel_rfl) (fun _ _ _ h => h) (Or.inl ⟨by rfl, ?_⟩) HP11.out ?_
              rotate_left
              · intro w hSw
                (try dsimp only at hSw)
                obtain ⟨q0_, q1_, q2_, q3_, q4_, q5_⟩ := hSw
                go_simp
                try with_reducible rfl
              try simp only [Act.put, List.setIfInBounds_toArray, List.set_cons_zero, List.set_cons_succ]
              refine wpAnyH_done (by kernel_rfl) ?_ _
              refine NoPanic.normal ?_
              clear HP11 HPY HMY
              go_wp2_with fail
              refine (bools_any E E (some ⟨gA, 0, none⟩) (some ⟨gE, 0, none⟩) N N N N W11 (sees_bcells HA11.out hEl.out) (sees_bcells HG11.out.eb hEl.out) (by omega)).mono ?_
              rintro e W12 ⟨rfl, hw12⟩
              obtain rfl := hw12.symm
              rw [decide_eq_true (show E = E from rfl)]
              have hNE2 : Hid (∀ B, IsCone (inA c) (X ++ more) N B → ∀ v, E.getD v false = true → B.getD v false = true) := fun B hB v hv => grow_more (by rw [HNE.out] at HCN; exact HCN.out) (by rw [HXX.out, HNE.out] at hB; exact hB) hv
              go_wp2
              go_loop [117, 19] (fun iv _ => ∃ k : Nat, k ≤ N ∧ iv = .int .i64 k) (fun iv _ => N - (intOf iv).toNat)
              case atStart => exact ⟨0, Nat.zero_le _, rfl⟩
              case round =>
                obtain ⟨k, hk, rfl⟩ := hrel
                by_cases hlt : k < N
                · have cE := bcells_at HG11.out.eb (show k < E.length by rw [hEl.out]; exact hlt)
                  obtain ⟨qe, hqe⟩ : ∃ q, q = E.getD k false := ⟨_, rfl⟩
                  rw [← hqe] at cE
                  have W2' : IntKind.i64.wrap ((k : Int) + 1) = (k : Int) + 1 := IntWalk.i64_in _ (by omega)
                  rcases HER.out with rfl | rfl
                  · obtain ⟨_, hbn, hcB, gB, rfl, hgB, _⟩ := HBB.out rfl
                    rw [← HNE.out] at hbn hcB
                    have hbn' := hbn.symm
                    subst hbn'
                    have cB := bcells_at hgB (show k < B.length by rw [hcB.len]; exact hlt)
                    obtain ⟨qb, hqb⟩ : ∃ q, q = B.getD k false := ⟨_, rfl⟩
                    rw [← hqb] at cB
                    have himp : qe = true → qb = true := fun h => by rw [hqb]; exact hNE2.out B hcB k (by rw [← hqe]; exact h)
                    have e1 : decide ((N : Int) ≤ (k : Int)) = false := by simp; omega
                    have e1' : decide (N ≤ k) = false := by simp; omega
                    clear hqe hqb hcB hgB
                    cases qe with
                    | false =>
                      clear himp
                      go_wp2
                      go_round
                      case rel => exact ⟨k + 1, by omega, by go_num⟩
                      case measure => simp [intOf]; omega
                    | true =>
                      obtain rfl : qb = true := himp rfl
                      clear himp
                      go_wp2
                      go_round
                      case rel => exact ⟨k + 1, by omega, by go_num⟩
                      case measure => simp [intOf]; omega
                  · clear hqe
                    go_wp2
                    go_round
                    case rel => exact ⟨k + 1, by omega, by go_num⟩
                    case measure => simp [intOf]; omega
                · obtain rfl : N = k := by omega
                  clear HBB HER HA11 hNE2 HXX HTX HX32 HM8
                  have p0 : W11.cell? ⟨w.heap.size, 0, none⟩ = some (.int .i64 (i : Int)) := cell_of_block HG11.out.cir 0
                  have p1 : W11.cell? ⟨w.heap.size, 1, none⟩ = some (.slice s.a1 s.n1 s.c1) := cell_of_block HG11.out.cir 1
                  have p2 : W11.cell? ⟨w.heap.size, 2, none⟩ = some (.slice s.a2 s.n2 s.c2) := cell_of_block HG11.out.cir 2
                  have p3 : W11.cell? ⟨w.heap.size, 3, none⟩ = some (.slice s.a3 s.n3 s.c3) := cell_of_block HG11.out.cir 3
                  have p4 : W11.cell? ⟨w.heap.size, 4, none⟩ = some (.slice s.a4 s.n4 s.c4) := cell_of_block HG11.out.cir 4
                  have p5 : W11.cell? ⟨w.heap.size, 5, none⟩ = some (.slice s.a5 s.n5 s.c5) := cell_of_block HG11.out.cir 5
                  go_wp2_with fail
                  refine (HFR.out W11 HG11.out.low).mono ?_
                  rintro e W13 (⟨_, rfl, hb⟩ | ⟨hfo, ms, G, F, n, hfn, rfl, hF, hrow, hrows, hFl, hb⟩)
                  · have HB13 := Lib.hid (ext_trans HG11.out.low hb)
                    clear hb p0 p1 p2 p3 p4 p5
                    go_wp2_with fail
                    refine (HLV.out W13).mono ?_
                    rintro e W14 ⟨rfl, hb⟩
                    have HB14 := Lib.hid (ext_trans HB13.out hb)
                    clear hb
                    go_wp2
                    go_ret
                    exact ⟨rfl, HB14.out⟩
                  · obtain ⟨nb, hnbz, hnb, hn1, hn2⟩ : ∃ nb : Nat, bad = (nb : Int) ∧ nb < c.bads.length ∧ 1 ≤ n ∧ n ≤ 256 := by
                      have h6 := frOk_cases c bad frames
                      have q2 : ¬ bad < 0 := fun h => by rw [h6.2.1 h] at hfo; cases hfo
                      have q3 : ¬ (c.bads.length : Int) ≤ bad := fun h => by rw [h6.2.2.1 h] at hfo; cases hfo
                      have q4 : ¬ frames < 1 := fun h => by rw [h6.2.2.2.1 h] at hfo; cases hfo
                      have q5 : ¬ 256 < frames := fun h => by rw [h6.2.2.2.2.1 h] at hfo; cases hfo
                      obtain ⟨nb, hnb⟩ := Int.eq_ofNat_of_zero_le (Int.not_lt.1 q2)
                      exact ⟨nb, hnb, by omega, by omega, by omega⟩
                    rw [← HNE.out] at hrow
                    have hF' : IsFr c nb n ms := by rw [hnbz] at hF; exact hF
                    have HF13 : Hid (FSt (i : Int) s w F n N G ms W13) := ⟨ext_trans HG11.out.low hb, heap_below HG11.out.cir hb, hrow, fun f hf => (hrows f hf).1⟩
                    have HFX := Lib.hid hF'
                    have HNB := Lib.hid hnb
                    subst hnbz
                    subst hfn
                    have hb4 : c.bads.length = s.n4 := HC.out.s4.lenMap
                    have hnb4 : nb < s.n4 := by rw [← hb4]; exact hnb
                    have hc5 : c.cons.length = s.n5 := HC.out.s5.lenMap
                    have h5 : s.n5 ≤ 1024 := by rw [← hc5]; exact HM.out.lens.2.2
                    have hcb : Hid (∀ x ∈ c.cons ++ [c.bads.getD nb 0], x ≤ 2 * varsN c + 1) := fun x hx => by
                      rcases List.mem_append.1 hx with h1 | h1
                      · exact HM.out.cons x h1
                      · rw [List.mem_singleton.1 h1]; exact HM.out.bads _ (getD_mem hnb)
                    have hfew := HM.out.few
                    clear hfo hF hF' hrow hrows hFl hb hnb hb4 hc5 p0 p1 p2 p3 p4 p5 HG11
                    have p5 : W13.cell? ⟨w.heap.size, 5, none⟩ = some (.slice s.a5 s.n5 s.c5) := cell_of_block HF13.out.cir 5
                    go_wp2_with (at_builtin; refine wpList_append_row isU32 _ rfl _ _ 24 rfl w.heap.size 53 i0 (.int .u32 0) 4 Try.underlying24 hi hz0 hz1 hz2 rfl zero_isU32 (.slice none 0 0) (0) ([]) rfl (Row.nil _ _ _ _) (s.a5) (s.n5) (s.c5) (c.cons.map nv32) rfl (HC.out.s5.below HF13.out.low) (nv32_one _) (nv32_isU32 (fun y hy => by have := HM.out.cons y hy; omega)) ?c1 ?c2 ?c3 ?_)
                    case c1 => unfold maxLen; omega
                    case c2 => omega
                    case c3 => exact HF13.out.low.size
                    intro v14 W14 hr14 hg14 _
                    have HF14 := Lib.hid (HF13.out.grown (Row.nil isU32 W13 w.heap.size 53) hg14)
                    have hr14' : Row isU32 W14 w.heap.size 53 v14 s.n5 (c.cons.map nv32) := by simpa using hr14
                    obtain ⟨va14, vc14, rfl⟩ := hr14'.form
                    have HR14 := Lib.hid hr14'
                    clear hr14 hr14' hg14 HF13 p5
                    obtain ⟨b4, o4, ha4, _⟩ := HC.out.s4.addr (show 0 < s.n4 by omega)
                    have hls := HC.out.s4.below HF14.out.low
                    rw [ha4] at hls
                    have hx4 := hls.num nb hnb4
                    obtain ⟨x, hx⟩ : ∃ x, x = c.bads.getD nb 0 := ⟨_, rfl⟩
                    rw [← hx] at hx4
                    have hx32 : x < 4294967296 := by
                      have := hcb.out x (by rw [hx]; simp)
                      omega
                    have HXE := Lib.hid hx
                    have p0 : W14.cell? ⟨w.heap.size, 0, none⟩ = some (.int .i64 (i : Int)) := cell_of_block HF14.out.cir 0
                    have p1 : W14.cell? ⟨w.heap.size, 1, none⟩ = some (.slice s.a1 s.n1 s.c1) := cell_of_block HF14.out.cir 1
                    have p2 : W14.cell? ⟨w.heap.size, 2, none⟩ = some (.slice s.a2 s.n2 s.c2) := cell_of_block HF14.out.cir 2
                    have p3 : W14.cell? ⟨w.heap.size, 3, none⟩ = some (.slice s.a3 s.n3 s.c3) := cell_of_block HF14.out.cir 3
                    have p4 : W14.cell? ⟨w.heap.size, 4, none⟩ = some (.slice s.a4 s.n4 s.c4) := cell_of_block HF14.out.cir 4
                    have p5 : W14.cell? ⟨w.heap.size, 5, none⟩ = some (.slice s.a5 s.n5 s.c5) := cell_of_block HF14.out.cir 5
                    rw [ha4] at p4
                    have HP14 := Lib.hid (And.intro p0 (And.intro p1 (And.intro p2 (And.intro p3 (And.intro p4 (And.intro p5 hx4))))))
                    have HA4 := Lib.hid ha4
                    have hnbz : (nb : Int) < (s.n4 : Int) := by omega
                    have hnb0 : (0 : Int) ≤ (nb : Int) := by omega
                    clear hls hx hx4 ha4 p0 p1 p2 p3 p4 p5
                    go_upto_region 31 with fail
                    rw [HA4.out] at HEV
                    refine wp_region_noPanic ?_
                    refine wp_region_held (S := fun w' => w'.cell? ⟨w.heap.size, 0, none⟩ = some (.int .i64 (i : Int)) ∧ w'.cell? ⟨w.heap.size, 1, none⟩ = some (.slice s.a1 s.n1 s.c1) ∧ w'.cell? ⟨w.heap.size, 2, none⟩ = some (.slice s.a2 s.n2 s.c2) ∧ w'.cell? ⟨w.heap.size, 3, none⟩ = some (.slice s.a3 s.n3 s.c3) ∧ w'.cell? ⟨w.heap.size, 4, none⟩ = some (.slice (some ⟨b4, o4, none⟩) s.n4 s.c4) ∧ w'.cell? ⟨w.heap.size, 5, none⟩ = some (.slice s.a5 s.n5 s.c5) ∧ w'.cell? ⟨b4, o4 + nb, none⟩ = some (.int .u32 (x : Int))) (by kernel_rfl) ?_
                    generalize hY : ({ W14 with drawn := W14.drawn + 1 } : World) = Y0
                    have hY0 : Below W14.heap.size W14 Y0 := by subst hY; exact (Below.refl _ _).drew
                    have HPY := Lib.hid (keep7 HP14.out hY0)
                    have HFY := Lib.hid (HF14.out.below hY0)
                    have HRY := Lib.hid (HR14.out.below hY0)
                    clear hY hY0 HP14 HF14 HR14
                    refine wpAnyH_take (i := 0) (v := ?_) (by simp only [List.getElem?_toArray, List.getElem?_cons_zero]; rfl) (by kernel_rfl) (by kernel_rfl) (by kernel_rfl) (fun _ _ _ h => h) (Or.inl ⟨by rfl, ?_⟩) HPY.out ?_
                    rotate_left
                    · intro w hSw
                      (try dsimp only at hSw)
                      obtain ⟨q0_, q1_, q2_, q3_, q4_, q5_, q6_⟩ := hSw
                      go_simp
                      try with_reducible rfl
                    try simp only [Act.put, List.setIfInBounds_toArray, List.set_cons_zero, List.set_cons_succ]
                    refine wpAnyH_take (i := 1) (v := ?_) (by simp only [List.getElem?_toArray, List.getElem?_cons_zero, List.getElem?_cons_succ]; rfl) (by kernel_rfl) (by kernel_rfl) (by kernel_rfl) (fun _ _ _ h => h) (Or.inl ⟨by rfl, ?_⟩) HPY.out ?_
                    rotate_left
                    · intro w hSw
                      (try dsimp only at hSw)
                      obtain ⟨q0_, q1_, q2_, q3_, q4_, q5_, q6_⟩ := hSw
                      go_simp
                      try with_reducible rfl
                    try simp only [Act.put, List.setIfInBounds_toArray, List.set_cons_zero, List.set_cons_succ]
                    refine wpAnyH_take (i := 2) (v := ?_) (by simp only [List.getElem?_toArray, List.getElem?_cons_zero, List.getElem?_cons_succ]; rfl) (by kernel_rfl) (by kernel_rfl) (by kernel_rfl) (fun _ _ _ h => h) (Or.inl ⟨by rfl, ?_⟩) HPY.out ?_
                    rotate_left
                    · intro w hSw
                      (try dsimp only at hSw)
                      obtain ⟨q0_, q1_, q2_, q3_, q4_, q5_, q6_⟩ := hSw
                      go_simp
                      try with_reducible rfl
                    try simp only [Act.put, List.setIfInBounds_toArray, List.set_cons_zero, List.set_cons_succ]
                    refine wpAnyH_take (i := 3) (v := ?_) (by simp only [List.getElem?_toArray, List.getElem?_cons_zero, List.getElem?_cons_succ]; rfl) (by kernel_rfl) (by kernel_rfl) (by kernel_rfl) (fun _ _ _ h => h) (Or.inl ⟨by rfl, ?_⟩) HPY.out ?_
                    rotate_left
                    · intro w hSw
                      (try dsimp only at hSw)
                      obtain ⟨q0_, q1_, q2_, q3_, q4_, q5_, q6_⟩ := hSw
                      go_simp
                      try with_reducible rfl
                    try simp only [Act.put, List.setIfInBounds_toArray, List.set_cons_zero, List.set_cons_succ]
                    refine wpAnyH_take (i := 4) (v := ?_) (by simp only [List.getElem?_toArray, List.getElem?_cons_zero, List.getElem?_cons_succ]; rfl) (by kernel_rfl) (by kernel_rfl) (by kernel_rfl) (fun _ _ _ h => h) (Or.inl ⟨by rfl, ?_⟩) HPY.out ?_
                    rotate_left
                    · intro w hSw
                      (try dsimp only at hSw)
                      obtain ⟨q0_, q1_, q2_, q3_, q4_, q5_, q6_⟩ := hSw
                      go_simp
                      try with_reducible rfl
                    try simp only [Act.put, List.setIfInBounds_toArray, List.set_cons_zero, List.set_cons_succ]
                    refine wpAnyH_take (i := 5) (v := ?_) (by simp only [List.getElem?_toArray, List.getElem?_cons_zero, List.getElem?_cons_succ]; rfl) (by kernel_rfl) (by kernel_rfl) (by kernel_rfl) (fun _ _ _ h => h) (Or.inl ⟨by rfl, ?_⟩) HPY.out ?_
                    rotate_left
                    · intro w hSw
                      (try dsimp only at hSw)
                      obtain ⟨q0_, q1_, q2_, q3_, q4_, q5_, q6_⟩ := hSw
                      go_simp
                      try with_reducible rfl
                    try simp only [Act.put, List.setIfInBounds_toArray, List.set_cons_zero, List.set_cons_succ]
                    refine wpAnyH_take (i := 6) (v := ?_) (by simp only [List.getElem?_toArray, List.getElem?_cons_zero, List.getElem?_cons_succ]; rfl) (by kernel_rfl) (by kernel_rfl) (by kernel_rfl) (fun _ _ _ h => h) (Or.inl ⟨by rfl, ?_⟩) HPY.out ?_
                    rotate_left
                    · intro w hSw
                      (try dsimp only at hSw)
                      obtain ⟨q0_, q1_, q2_, q3_, q4_, q5_, q6_⟩ := hSw
                      go_simp
                      try with_reducible rfl
                    try simp only [Act.put, List.setIfInBounds_toArray, List.set_cons_zero, List.set_cons_succ]
                    refine wpAnyH_ready (rs := [7]) (by kernel_rfl) (by simp) ?_
                    refine AllReadyH.cons (by simp only [List.getElem?_toArray, List.getElem?_cons_zero, List.getElem?_cons_succ]; rfl) (fun K hK => ?_) AllReadyH.nil
                    go_simp
                    obtain ⟨V1, hV1⟩ : ∃ V1, V1 = Y0.alloc (.cells #[.int .u32 (x : Int)] 53) := ⟨_, rfl⟩
                    obtain ⟨D, hD⟩ : ∃ D, D = Y0.heap.size := ⟨_, rfl⟩
                    have hb1 : Below Y0.heap.size Y0 V1 := by rw [hV1]; exact ext_alloc _ _
                    have hd1 : V1.heap[D]? = some (.cells #[.int .u32 (x : Int)] 53 (0, 0)) := by rw [hV1]; exact heap_new _ _ _ hD
                    have HV1 : Hid (Y0.alloc (.cells #[.int .u32 (x : Int)] 53) = V1) := hV1.symm
                    have HDE : Hid (Y0.heap.size = D) := hD.symm
                    have HP1 := Lib.hid (keep7 HPY.out hb1)
                    have HF1 := Lib.hid (HFY.out.below hb1)
                    have HR1 := Lib.hid (HRY.out.below hb1)
                    have HS1 := Lib.hid (sees_cells hd1 ([x].map nv32) 1 rfl rfl)
                    clear hV1 hD hb1 hd1 HPY HFY HRY
                    rw [HV1.out, HDE.out]
                    clear HV1 HDE
                    refine hK.out _ _ HP1.out (fun _ => ?_)
                    clear hK K
                    try simp only [Act.put, List.setIfInBounds_toArray, List.set_cons_zero, List.set_cons_succ]
                    refine wpAnyH_ready (rs := [8]) (by kernel_rfl) (by simp) ?_
                    refine AllReadyH.cons (by simp only [List.getElem?_toArray, List.getElem?_cons_zero, List.getElem?_cons_succ]; rfl) (fun K hK => ?_) AllReadyH.nil
                    refine step_append_row isU32 _ rfl _ _ 24 rfl w.heap.size 53 i0 (.int .u32 0) 4 Try.underlying24 hi hz0 hz1 hz2 rfl zero_isU32 _ _ _ (by simp [Act.eval]) HR1.out _ _ _ _ (by simp [Act.eval]) HS1.out (nv32_one _) (nv32_isU32 (fun y hy => by rw [List.mem_singleton.1 hy]; exact hx32)) (by unfold maxLen; omega) (by omega) HF1.out.low.size ?_
                    intro v15 W15 hr15 hg15
                    have HF15 := Lib.hid (HF1.out.grown HR1.out hg15)
                    obtain ⟨va15, vc15, rfl⟩ := hr15.form
                    have hr15' : Row isU32 W15 w.heap.size 53 (.slice va15 (s.n5 + 1) vc15) (s.n5 + 1) ((c.cons ++ [x]).map nv32) := by rw [List.map_append]; exact hr15
                    have HR15 := Lib.hid hr15'
                    have hx15 : W15.cell? ⟨b4, o4 + nb, none⟩ = some (.int .u32 (x : Int)) := by
                      have h1 := (HC.out.s4.below HF15.out.low)
                      rw [HA4.out] at h1
                      have h2 := h1.num nb hnb4
                      rw [← HXE.out] at h2
                      exact h2
                    clear hr15 hr15' hg15 HF1 HR1 HS1 HP1
                    have p0 : W15.cell? ⟨w.heap.size, 0, none⟩ = some (.int .i64 (i : Int)) := cell_of_block HF15.out.cir 0
                    have p1 : W15.cell? ⟨w.heap.size, 1, none⟩ = some (.slice s.a1 s.n1 s.c1) := cell_of_block HF15.out.cir 1
                    have p2 : W15.cell? ⟨w.heap.size, 2, none⟩ = some (.slice s.a2 s.n2 s.c2) := cell_of_block HF15.out.cir 2
                    have p3 : W15.cell? ⟨w.heap.size, 3, none⟩ = some (.slice s.a3 s.n3 s.c3) := cell_of_block HF15.out.cir 3
                    have p4 : W15.cell? ⟨w.heap.size, 4, none⟩ = some (.slice s.a4 s.n4 s.c4) := cell_of_block HF15.out.cir 4
                    have p5 : W15.cell? ⟨w.heap.size, 5, none⟩ = some (.slice s.a5 s.n5 s.c5) := cell_of_block HF15.out.cir 5
                    rw [HA4.out] at p4
                    have HP15 := Lib.hid (And.intro p0 (And.intro p1 (And.intro p2 (And.intro p3 (And.intro p4 (And.intro p5 hx15))))))
                    clear p0 p1 p2 p3 p4 p5 hx15
                    refine hK.out _ _ HP15.out (fun _ => ?_)
                    clear hK K
                    try simp only [Act.put, List.setIfInBounds_toArray, List.set_cons_zero, List.set_cons_succ]
                    refine wpAnyH_ready (rs := [9]) (by kernel_rfl) (by simp) ?_
                    refine AllReadyH.cons (by simp only [List.getElem?_toArray, List.getElem?_cons_zero, List.getElem?_cons_succ]; rfl) (fun K hK => ?_) AllReadyH.nil
                    go_simp
                    refine (HEV.out (c.cons ++ [x]) va15 (s.n5 + 1) vc15 W15 HF15.out.low (row_sees_slice HR15.out).2 (by omega) (fun y hy => by
                      rw [HXE.out] at hy
                      have := hcb.out y hy
                      omega)).mono ?_
                    rintro e W16 (⟨hto, _, _⟩ | ⟨_, AL, gL, rfl, hcL, hgL, _, hb⟩)
                    · have htt : toldB c (c.cons ++ [x]) = true := toldB_iff.2 ⟨HM.out, fun y hy => by
                        rw [HXE.out] at hy
                        have := hcb.out y hy
                        omega⟩
                      rw [htt] at hto; cases hto
                    rw [← HNE.out]
                    have HF16 := Lib.hid (HF15.out.below hb)
                    have HP16 := Lib.hid (keep7 HP15.out hb)
                    have HGL := Lib.hid hgL
                    have HLL16 : Hid (AL.length = N) := by unfold Hid; rw [hcL.len, HNE.out]
                    have HIMP : Hid (∀ f v, f < n → (ms.getD f []).getD v false = true → AL.getD v false = true) := fun f v hf hv => grow_frames HFX.out (by rw [← HXE.out]; exact hcL) hf hv
                    clear hcL hgL hb HF15 HR15 HP15
                    refine hK.out _ _ HP16.out (fun _ => ?_)
                    clear hK K
                    try simp only [Act.put, List.setIfInBounds_toArray, List.set_cons_zero, List.set_cons_succ]
                    refine wpAnyH_take (i := 10) (v := ?_) (by simp only [List.getElem?_toArray, List.getElem?_cons_zero, List.getElem?_cons_succ]; rfl) (by kernel_rfl) (by kernel_rfl) (by kernel_rfl) (fun _ _ _ h => h) (Or.inl ⟨by rfl, ?_⟩) HP16.out ?_
                    rotate_left
                    · intro w hSw
                      (try dsimp only at hSw)
                      obtain ⟨q0_, q1_, q2_, q3_, q4_, q5_, q6_⟩ := hSw
                      go_simp
                      try with_reducible rfl
                    try simp only [Act.put, List.setIfInBounds_toArray, List.set_cons_zero, List.set_cons_succ]
                    refine wpAnyH_take (i := 11) (v := ?_) (by simp only [List.getElem?_toArray, List.getElem?_cons_zero, List.getElem?_cons_succ]; rfl) (by kernel_rfl) (by kernel_rfl) (by kernel_rfl) (fun _ _ _ h => h) (Or.inl ⟨by rfl, ?_⟩) HP16.out ?_
                    rotate_left
                    · intro w hSw
                      (try dsimp only at hSw)
                      obtain ⟨q0_, q1_, q2_, q3_, q4_, q5_, q6_⟩ := hSw
                      go_simp
                      try with_reducible rfl
                    try simp only [Act.put, List.setIfInBounds_toArray, List.set_cons_zero, List.set_cons_succ]
                    refine wpAnyH_take (i := 12) (v := ?_) (by simp only [List.getElem?_toArray, List.getElem?_cons_zero, List.getElem?_cons_succ]; rfl) (by kernel_rfl) (by kernel_rfl) (by kernel_rfl) (fun _ _ _ h => h) (Or.inl ⟨by rfl, ?_⟩) HP16.out ?_
                    rotate_left
                    · intro w hSw
                      (try dsimp only at hSw)
                      obtain ⟨q0_, q1_, q2_, q3_, q4_, q5_, q6_⟩ := hSw
                      go_simp
                      try with_reducible rfl
                    try simp only [Act.put, List.setIfInBounds_toArray, List.set_cons_zero, List.set_cons_succ]
                    refine wpAnyH_take (i := 13) (v := ?_) (by simp only [List.getElem?_toArray, List.getElem?_cons_zero, List.getElem?_cons_succ]; rfl) (by kernel_rfl) (by kernel_rfl) (by kernel_rfl) (fun _ _ _ h => h) (Or.inl ⟨by rfl, ?_⟩) HP16.out ?_
                    rotate_left
                    · intro w hSw
                      (try dsimp only at hSw)
                      obtain ⟨q0_, q1_, q2_, q3_, q4_, q5_, q6_⟩ := hSw
                      go_simp
                      try with_reducible rfl
                    try simp only [Act.put, List.setIfInBounds_toArray, List.set_cons_zero, List.set_cons_succ]
                    refine wpAnyH_take (i := 14) (v := ?_) (by simp only [List.getElem?_toArray, List.getElem?_cons_zero, List.getElem?_cons_succ]; rfl) (by kernel_rfl) (by kernel_rfl) (by kernel_rfl) (fun _ _ _ h => h) (Or.inl ⟨by rfl, ?_⟩) HP16.out ?_
                    rotate_left
                    · intro w hSw
                      (try dsimp only at hSw)
                      obtain ⟨q0_, q1_, q2_, q3_, q4_, q5_, q6_⟩ := hSw
                      go_simp
                      try with_reducible rfl
                    try simp only [Act.put, List.setIfInBounds_toArray, List.set_cons_zero, List.set_cons_succ]
                    refine wpAnyH_done (by kernel_rfl) ?_ _
                    refine NoPanic.normal ?_
                    have HMS16 : Hid (∀ f, f < n → (ms.getD f []).length = N) := fun f hf => by rw [(HFX.out.cone f hf).len, HNE.out]
                    clear HP16 HFX hcb HXE HEV
                    go_wp2
                    go_loop [179, 25, 26, 187] (fun kv _ _ _ => ∃ k : Nat, k ≤ n ∧ kv = .int .i64 k) (fun kv _ _ _ => n - (intOf kv).toNat)
                    case atStart => exact ⟨0, Nat.zero_le _, rfl⟩
                    case round =>
                      obtain ⟨k, hk, rfl⟩ := hrel
                      by_cases hlt : k < n
                      · have cF := rowsB_at HF16.out.row hlt
                        have W2' : IntKind.i64.wrap ((k : Int) + 1) = (k : Int) + 1 := IntWalk.i64_in _ (by omega)
                        have HKN := Lib.hid hlt
                        go_wp2
                        go_loop [187, 26] (fun vv _ => ∃ v : Nat, v ≤ N ∧ vv = .int .i64 v) (fun vv _ => N - (intOf vv).toNat)
                        case atStart => exact ⟨0, Nat.zero_le _, rfl⟩
                        case round =>
                          obtain ⟨v, hv, rfl⟩ := hrel
                          by_cases hvt : v < N
                          · have cM := bcells_at (HF16.out.rows k HKN.out) (show v < (ms.getD k []).length by rw [HMS16.out k HKN.out]; exact hvt)
                            have cL := bcells_at HGL.out (show v < AL.length by rw [HLL16.out]; exact hvt)
                            obtain ⟨qm, hqm⟩ : ∃ q, q = (ms.getD k []).getD v false := ⟨_, rfl⟩
                            obtain ⟨ql, hql⟩ : ∃ q, q = AL.getD v false := ⟨_, rfl⟩
                            have himp : qm = true → ql = true := fun h => by rw [hql]; exact HIMP.out k v HKN.out (by rw [← hqm]; exact h)
                            rw [← hqm] at cM
                            rw [← hql] at cL
                            have e1 : decide ((N : Int) ≤ (v : Int)) = false := by simp; omega
                            have e1' : decide (N ≤ v) = false := by simp; omega
                            have W3' : IntKind.i64.wrap ((v : Int) + 1) = (v : Int) + 1 := IntWalk.i64_in _ (by omega)
                            clear hqm hql
                            cases qm with
                            | false =>
                              clear himp
                              go_wp2
                              go_round
                              case rel => exact ⟨v + 1, by omega, by go_num⟩
                              case measure => simp [intOf]; omega
                            | true =>
                              obtain rfl : ql = true := himp rfl
                              clear himp
                              go_wp2
                              go_round
                              case rel => exact ⟨v + 1, by omega, by go_num⟩
                              case measure => simp [intOf]; omega
                          · obtain rfl : N = v := by omega
                            go_wp2
                            go_round
                            case rel => exact ⟨k + 1, by omega, by go_num⟩
                            case measure => simp [intOf]; omega
                      · obtain rfl : n = k := by omega
                        go_wp2_with fail
                        refine (HLV.out W16).mono ?_
                        rintro e W17 ⟨rfl, hb⟩
                        have HB17 := Lib.hid (ext_trans HF16.out.low hb)
                        clear hb
                        go_wp2
                        go_ret
                        exact ⟨rfl, HB17.out⟩
end Go.Proofs.Ytdheldhecimfnaa
namespace Go.Proofs.Ytdheldhecimfnaa.coneGrows
open Go Go.ChangeShapes Go.WideShapes Go.ChangeAt Go.RowKit

set_option maxRecDepth 100000 in
set_option maxHeartbeats 1600000 in
theorem contract (H : Type) (enc : TypeId × Value → H) (W : World) (base : Nat) (args : Array Value) (ds gs : List (DataW H)) (before : List MemPlace)
    (hval : ∀ (j : Nat) t v, Try.f5.params[j]? = some t → args[j]? = some v → Value.okWide Try.prog W .any base t v)
    (hW : DataW.Whole enc Try.prog Try.f5.params.toList Rows.coneGrowsSpec.vars false W args.toList ds gs before)
    (hk : Rows.uptoSmall H (ds ++ gs) = true) :
    Calls Try.prog 5 args W fun e W' => ∃ v, e = .returned v ∧ Rows.coneGrowsSpec.post enc Try.prog Try.f5 false true false false W args v W' := by
  have hW' := hW
  obtain ⟨p, q, hA0, hV, rfl, hfz, hnd⟩ := hW
  have hA : DataW.TrodAll enc Try.prog W 0 (fun _ => true) true Try.f5.params.toList args.toList ds p := hA0
  rw [Try.params5] at hA hval
  obtain ⟨v0, vs0, d0, ds0, p0, q0, hargs, rfl, rfl, h0, r0⟩ := trodAll_cons hA
  obtain ⟨v1, vs1, d1, ds1, p1, q1, rfl, rfl, rfl, h1, r1⟩ := trodAll_cons r0
  obtain ⟨v2, vs2, d2, ds2, p2, q2, rfl, rfl, rfl, h2, r2⟩ := trodAll_cons r1
  obtain ⟨v3, vs3, d3, ds3, p3, q3, rfl, rfl, rfl, h3, r3⟩ := trodAll_cons r2
  obtain ⟨v4, vs4, d4, ds4, p4, q4, rfl, rfl, rfl, h4, r4⟩ := trodAll_cons r3
  obtain ⟨rfl, rfl, rfl⟩ := trodAll_nil r4
  obtain rfl : args = #[v0, v1, v2, v3, v4] := by cases args; simp_all
  obtain ⟨rfl, rfl⟩ := trodVars_none hV
  have hb := bulk_bound hk
  have hb0 := bulk_part (d := d0) (l := [d0, d1, d2, d3, d4] ++ []) (by simp)
  have hb1 := bulk_part (d := d1) (l := [d0, d1, d2, d3, d4] ++ []) (by simp)
  have hb2 := bulk_part (d := d2) (l := [d0, d1, d2, d3, d4] ++ []) (by simp)
  obtain ⟨c0, s0, rfl, hs0, lo0, hi0, m01, m02, m03, m04, m05, w01, w02, w03, w04, w05⟩ := open_cir (hval 0 26 _ rfl rfl) h0
  have sm0 : s0.small := ⟨by omega, by omega, by omega, by omega, by omega⟩
  have wd0 : Wide c0 := ⟨w01, w02, w03, w04, w05⟩
  obtain ⟨a1, n1, c1, xs1, rfl, hs1, hn1, hx1⟩ := open_u32s (hval 1 24 _ rfl rfl) h1
  obtain ⟨a2, n2, c2, xs2, rfl, hs2, hn2, hx2⟩ := open_u32s (hval 2 24 _ rfl rfl) h2
  obtain ⟨z3, rfl, rfl, rfl, wz3⟩ := open_int Try.underlying3 (hval 3 3 v3 rfl rfl) h3
  have hz3 := bounds_i64 wz3
  obtain ⟨z4, rfl, rfl, rfl, wz4⟩ := open_int Try.underlying3 (hval 4 3 v4 rfl rfl) h4
  have hz4 := bounds_i64 wz4
  clear hA0 hA
  refine (grows9_any c0 xs1 xs2 z3 z4 s0 a1 a2 n1 c1 n2 c2 W hs0 hs1 hs2 sm0 lo0 hi0 (by omega) (by omega) hx1 hx2 wd0).mono fun e W' ⟨he, hbel⟩ => ?_
  subst he
  exact ⟨_, rfl, law_end laidOut (by decide +kernel) rfl rfl Try.underlying4 hW' rfl rfl rfl hbel⟩

set_option maxRecDepth 100000 in
theorem lifted (os : Os) (started : os.Started) (H : Type) (enc : TypeId × Value → H) (F : Stop.Interp) :
    ReturnsInHanded {} Try.checked os 5 .any ((Rows.OpenSpec.upto Rows.coneGrowsSpec).pre6 enc Try.prog Try.f5 Rows.coneGrowsUptoRow.domain false) (((Rows.OpenSpec.upto Rows.coneGrowsSpec).at F).post enc Try.prog Try.f5 false true false false) := by
  refine returnsInHanded_of_cond (C := Try.checked) (s := Rows.OpenSpec.upto Rows.coneGrowsSpec) (k := Rows.uptoSmall) rfl own started (by kernel_rfl) Try.func5
    (OpenSpec.witness (enc := enc) (C := Try.checked) (s := Rows.OpenSpec.upto Rows.coneGrowsSpec) (k := Rows.uptoSmall) rfl false ⟨#[], #[.agg #[.int .i64 0, .slice none 0 0, .slice none 0 0, .slice none 0 0, .slice none 0 0, .slice none 0 0], .slice none 0 0, .slice none 0 0, .int .i64 0, .int .i64 0], []⟩ 8 (by kernel_rfl) (by kernel_rfl) (by kernel_rfl)
      (x := ([.agg [.lit (.int .i64 0), .nil, .nil, .nil, .nil, .nil], .nil, .nil, .lit (.int .i64 0), .lit (.int .i64 0)], [], [])) (by kernel_rfl) rfl (by kernel_rfl)) ?_
  intro W base args ds gs before hval hW _ hk _
  exact contract H enc W base args ds gs before hval hW hk

theorem proved : Rows.ConeGrowsUptoSaid :=
  OpenClaim.holds_of_cond 5 Try.f5 rfl rfl rfl rfl rfl rfl rfl ⟨rfl, rfl, rfl, rfl, rfl⟩ rfl rfl rfl rfl rfl (by kernel_rfl) Try.func5 (by kernel_rfl)
    (of_decide_eq_true (by kernel_rfl)) (by unfold Func.isWrapper; first | (rw [if_pos (by decide +kernel)]; kernel_rfl) | (rw [if_neg (by decide +kernel)]; exact ⟨rfl, rfl⟩))
    (fun os started H enc _ F => lifted os started H enc F)
end Go.Proofs.Ytdheldhecimfnaa.coneGrows
