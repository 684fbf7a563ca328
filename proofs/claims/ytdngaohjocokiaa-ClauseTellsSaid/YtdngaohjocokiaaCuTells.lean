/- The law ClauseTells: what the package tells of clauses is what the reference tells; what is handed in stays. -/
import Derived.Test.YtdngaohjocokiaaLib
import Derived.Test.YtdngaohjocokiaaNBase
import Derived.Test.YtdngaohjocokiaaCuPure
import Derived.Test.YtdngaohjocokiaaCuInts
import Derived.Test.YtdngaohjocokiaaCuMay
import Derived.Test.YtdngaohjocokiaaCuOrder
import Derived.Test.YtdngaohjocokiaaCuAllP
import Derived.Test.YtdngaohjocokiaaCuGreat
import Derived.Test.YtdngaohjocokiaaCuTell
import Derived.Test.YtdngaohjocokiaaCuMust
import Derived.Test.YtdngaohjocokiaaCuLives
import Derived.Test.YtdngaohjocokiaaCuHolds
import Derived.Test.YtdngaohjocokiaaCuRefA
import Derived.Test.YtdngaohjocokiaaCuRefC
import Derived.Test.YtdngaohjocokiaaCuRefM
import Derived.Test.YtdngaohjocokiaaCuRefH
import Derived.Test.YtdngaohjocokiaaRows
import Derived.Test.YtdngaohjocokiaaShelf
import Derived.BigQuiet
import Derived.Conc.LoneSelect
import Derived.Deep.AppendLies
import Derived.Deep.CutRange
import Derived.Deep.QuietTactic
import Derived.Deep.RegionHeld3
import Derived.Deep.RegionLaw
import Derived.Deep.RegionWith
import Derived.KernelRfl
import Derived.Laws.CopyOwn
import Derived.Laws.EntriesVeiled
import Derived.Laws.Tables
import Derived.Lib.ConvBytes
import Derived.Lib.Hide
import Derived.Lib.SlBytesRow
import Derived.Lib.SlicesCompact
import Derived.Lib.SmallJoins
import Derived.Maps.AppendAt
import Derived.OrdersHeld
import Derived.Shelf.Bytes.SlSmallAll
import Derived.Sort.Statements
import Derived.WalkKit
import Derived.WalkLawsBesides
import Derived.WalkSpells
namespace Go.Proofs.Ytdngaohjocokiaa
open Go Go.RowKit Go.Joins

set_option maxRecDepth 100000 in
set_option maxHeartbeats 1600000 in
/-- The same list twice: nothing is drawn, nothing is made. -/
theorem zints_same (L : List Int) (a a' : Option Addr) (n c c' : Nat) (w : World) (h : Sees w a n c (zvs L)) (h' : Sees w a' n c' (zvs L)) (hn : n ≤ 100000000) :
    Calls Try.prog 15 #[.slice a n c, .slice a' n c'] w fun e w' => e = .returned (.bool true) ∧ w' = w := by
  have H := Lib.hid h
  have H' := Lib.hid h'
  clear h h'
  go_enter Try.func15, Try.ntmps15
  go_wp2
  go_loopw [9, 5, 6] (fun i _ _ wr => ∃ k : Nat, k ≤ n ∧ i = .int .i64 k ∧ Hid (wr = w)) (fun i _ _ _ => n - (intOf i).toNat)
  case atStart => exact ⟨0, Nat.zero_le _, rfl, rfl⟩
  case round =>
    obtain ⟨k, hk, rfl, hw⟩ := hrel
    obtain rfl := hw.out.symm
    clear hw
    by_cases hlt : k < n
    · obtain ⟨b1, o1, rfl, _⟩ := H.out.addr (show 0 < n by omega)
      obtain ⟨b2, o2, rfl, _⟩ := H'.out.addr (show 0 < n by omega)
      have hc1 := H.out.z_at k hlt
      have hc2 := H'.out.z_at k hlt
      obtain ⟨x, hx⟩ : ∃ x, x = L.getD k 0 := ⟨_, rfl⟩
      rw [← hx] at hc1 hc2
      have hI1 : ((k : Nat) : Int) < (n : Int) := by omega
      have hI2 : (0 : Int) ≤ (k : Int) := by omega
      have W1 : IntKind.i64.wrap ((k : Int) + 1) = (k : Int) + 1 := IntWalk.i64_in _ (by omega)
      clear hx
      go_wp2
      go_roundw
      case rel => exact ⟨k + 1, by omega, by go_num, trivial⟩
      case measure => simp [intOf]; omega
    · obtain rfl : k = n := by omega
      go_wp2
      go_ret
      exact ⟨rfl, rfl⟩

/-- What Must answers, as one. -/
def outM (x : Option (List Int)) : List Int := x.getD []
theorem MustPost.is {L : List (List Int)} {given : List Int} {vars : Int} {w w' : World} {e : Ending} (h : MustPost L given vars w e w') :
    Below w.heap.size w w' ∧ ∃ x, MustIs L given vars x ∧ (outM x).length ≤ 100000000 := by
  obtain ⟨hb, h⟩ := h
  rcases h with ⟨h, _⟩ | ⟨N, a, n, c, h, _, hn, hs⟩
  · exact ⟨hb, none, h, by simp [outM]⟩
  · exact ⟨hb, some N, h, by show N.length ≤ _; rw [hs.zlen]; exact hn⟩
theorem MustPost.out {L : List (List Int)} {given : List Int} {vars : Int} {w w' : World} {e : Ending} (h : MustPost L given vars w e w') {x : Option (List Int)} (hx : MustIs L given vars x) :
    Below w.heap.size w w' ∧ ∃ a c, e = .returned (.tuple #[.slice a (outM x).length c, .bool x.isSome]) ∧ Sees w' a (outM x).length c (zvs (outM x)) := by
  cases x with
  | none =>
    obtain ⟨hb, he⟩ := MustPost.no h hx
    exact ⟨hb, none, 0, he, Sees.nil _ _ _ (fun _ => rfl)⟩
  | some N =>
    obtain ⟨hb, a, c, he, _, hs⟩ := MustPost.yes h hx
    exact ⟨hb, a, c, he, hs⟩
/-- What Order answers, as one. -/
def outO (y : List Int) (vars : Int) : List Int × Bool × Int := if mayS [y] vars then (match orderS y with | none => ([], true, 0) | some C => (C, false, 0)) else ([], false, 2)
theorem OrderPost.out {y : List Int} {vars : Int} {w w' : World} {e : Ending} (h : OrderPost y vars w e w') :
    Below w.heap.size w w' ∧ ∃ a c, e = .returned (.tuple #[.slice a (outO y vars).1.length c, .bool (outO y vars).2.1, .int .i64 (outO y vars).2.2]) ∧ NewZ w' w.heap.size a (outO y vars).1.length c (outO y vars).1 ∧ (outO y vars).1.length ≤ 4096 := by
  obtain ⟨hb, h⟩ := h
  refine ⟨hb, ?_⟩
  rcases h with ⟨h, he⟩ | ⟨h, ho, he⟩ | ⟨h, C, a, n, c, ho, he, hn, hnw⟩
  · have e1 : outO y vars = ([], false, 2) := by simp [outO, h]
    rw [e1]
    exact ⟨none, 0, he, NewZ.nil _ _ _ _ (fun _ => rfl), by simp⟩
  · have e1 : outO y vars = ([], true, 0) := by simp [outO, h, ho]
    rw [e1]
    exact ⟨none, 0, he, NewZ.nil _ _ _ _ (fun _ => rfl), by simp⟩
  · have e1 : outO y vars = (C, false, 0) := by simp [outO, h, ho]
    rw [e1]
    have e2 := hnw.sees.zlen
    subst e2
    exact ⟨a, c, he, hnw, hn⟩
/-- The answer's own memory, while it is written over. -/
def OwnAt (B : Nat) (a : Option Addr) (m : Nat) (w : World) : Prop := 0 < m → ∃ g off Cur, a = some ⟨g, off, none⟩ ∧ B ≤ g ∧ w.heap[g]? = some (.cells Cur 3 (0, 0)) ∧ ∀ j, j < m → ∃ z : Int, Cur[off + j]? = some (.int .i64 z)
theorem NewZ.ownAt {w : World} {B : Nat} {a : Option Addr} {n c : Nat} {C : List Int} (h : NewZ w B a n c C) : OwnAt B a n w := fun h0 => by
  obtain ⟨g, off, Cur, e, hg, hh, hc⟩ := h.blk h0
  exact ⟨g, off, Cur, e, hg, hh, fun j hj => ⟨_, hc j hj⟩⟩
theorem OwnAt.below {w w' : World} {B : Nat} {a : Option Addr} {n : Nat} (h : OwnAt B a n w) (hb : Below w.heap.size w w') : OwnAt B a n w' := fun h0 => by
  obtain ⟨g, off, Cur, e, hg, hh, hc⟩ := h h0
  exact ⟨g, off, Cur, e, hg, heap_below hh hb, hc⟩
theorem own_set {w : World} {B g off : Nat} {n k : Nat} {Cur : Array Value} (hg : B ≤ g) (hh : w.heap[g]? = some (.cells Cur 3 (0, 0))) (hc : ∀ j, j < n → ∃ z : Int, Cur[off + j]? = some (.int .i64 z)) :
    OwnAt B (some ⟨g, off, none⟩) n (w.setCell ⟨g, off + k, none⟩ (.int .i64 0)) := fun _ => by
  refine ⟨g, off, _, rfl, hg, block_setCell hh _, fun j hj => ?_⟩
  obtain ⟨z, hz⟩ := hc j hj
  by_cases e : k = j
  · subst e
    have : off + k < Cur.size := by
      have := (Array.getElem?_eq_some_iff.1 hz).1
      exact this
    exact ⟨0, by simp [this]⟩
  · exact ⟨z, by rw [Array.getElem?_setIfInBounds_ne (by omega)]; exact hz⟩
set_option maxRecDepth 100000 in
set_option maxHeartbeats 12800000 in
theorem clauseTells_any (L : List (List Int)) (given : List Int) (vars : Int) (M : List Bool) (a ag am : Option Addr) (n c ng cg nm cm : Nat) (ss : List ZSlc) (w : World) (h : SeesZ w a n c ss L) (hg : Sees w ag ng cg (zvs given)) (hsm : Sees w am nm cm (M.map Value.bool))
    (hn : n ≤ 9223372036854775807) (hT : ∀ x ∈ L, x.length ≤ 17592186044416) (hz : AllInZ L) (hng : ng ≤ 9223372036854775807) (hnm : nm ≤ 9223372036854775807) :
    Calls Try.prog 3 #[.slice a n c, .slice ag ng cg, .int .i64 vars, .slice am nm cm] w fun e w' => e = .returned (.bool true) ∧ Below w.heap.size w w' := by
  have HGR := Lib.hid (great11_any L a n c ss w h (by omega))
  have HLV := Lib.hid lives11_any
  have HS := Lib.hid h
  have HG := Lib.hid hg
  have HIN := Lib.hid hz
  have HMS := Lib.hid hsm
  have HL := Lib.hid h.zlen
  have HTT := Lib.hid hT
  clear h hg hz hsm hT
  go_enter Try.func3, Try.ntmps3
  go_wp2_with fail
  refine HGR.out.mono ?_
  rintro e w1 ⟨b, rfl, hb, hb1⟩
  have HB1 := Lib.hid hb1
  have HBB := Lib.hid hb
  clear hb hb1
  cases b with
  | true =>
    go_wp2_with fail
    refine (HLV.out _).mono ?_
    rintro e w2 ⟨rfl, hb2⟩
    have HB2 := Lib.hid (ext_trans HB1.out hb2)
    clear hb2
    go_wp2
    go_ret
    exact ⟨rfl, HB2.out⟩
  | false =>
    have hn60 := (HBB.out rfl).1
    have ht400 := (HBB.out rfl).2 (by
      have h1 := total_bound 17592186044416 L HTT.out
      rw [HL.out] at h1
      omega)
    by_cases hg60 : 60 < ng
    · have E1 : decide ((60 : Int) < (ng : Int)) = true := by simp; omega
      go_wp2_with fail
      refine (HLV.out _).mono ?_
      rintro e w2 ⟨rfl, hb2⟩
      have HB2 := Lib.hid (ext_trans HB1.out hb2)
      clear hb2
      go_wp2
      go_ret
      exact ⟨rfl, HB2.out⟩
    · have E1 : decide ((60 : Int) < (ng : Int)) = false := by simp; omega
      have E1' : decide (60 < ng) = false := by simp; omega
      have HSMALL : Hid (SmallZ L) := fun x hx => by have := total_one hx; omega
      have HONE : Hid (∀ x ∈ L, x.length ≤ 400) := fun x hx => by have := total_one hx; omega
      have HCP := Lib.hid (copied_any L a n c ss w1 (HS.out.below HB1.out) hn60 (fun x hx => by have := HONE.out x hx; omega))
      go_wp2_with fail
      refine HCP.out.mono ?_
      rintro e w2 ⟨ao, co, os, rfl, ho, hb2⟩
      have HO2 := Lib.hid ho
      have HB2 := Lib.hid (ext_trans HB1.out hb2)
      have HMU := Lib.hid (must_any11 L given vars ao ag n co ng cg os w2 ho (HG.out.below HB2.out) (by omega) hng (by omega))
      clear ho hb2
      go_wp2_with fail
      refine HMU.out.mono ?_
      intro e w3 hpost
      obtain ⟨_, x, hx, hxl⟩ := MustPost.is (L := L) (given := given) (vars := vars) (w := w2) (w' := w3) (e := e) hpost
      obtain ⟨hb3, a3, c3, rfl, hs3⟩ := MustPost.out (L := L) (given := given) (vars := vars) (w := w2) (w' := w3) (e := e) hpost hx
      have HX := Lib.hid hx
      have HB3 := Lib.hid (ext_trans HB2.out hb3)
      have HS3 := Lib.hid hs3
      have HO3 := Lib.hid (HO2.out.below hb3)
      have HRM := Lib.hid (refMust_any L given vars a ag n c ng cg ss w3 (HS.out.below HB3.out) (HG.out.below HB3.out) (by omega) HSMALL.out hng)
      clear hpost hx hb3 hs3
      obtain ⟨N, hN⟩ : ∃ N, N = outM x := ⟨_, rfl⟩
      obtain ⟨ok, hok⟩ : ∃ q, q = x.isSome := ⟨_, rfl⟩
      obtain ⟨lN, hlN⟩ : ∃ m, m = (outM x).length := ⟨_, rfl⟩
      rw [← hN] at HS3
      rw [← hlN, ← hok]
      have HS3' : Hid (Sees w3 a3 lN c3 (zvs N)) := by rw [hlN]; rw [← hN]; exact HS3.out
      have HNE := Lib.hid hN
      have HOE := Lib.hid hok
      have HLE := Lib.hid hlN
      have hlb : lN ≤ 100000000 := by rw [hlN]; exact hxl
      clear hN hok hlN hxl HS3
      go_wp2_with fail
      refine HRM.out.mono ?_
      intro e w4 hpost
      obtain ⟨hb4, a4, c4, rfl, hs4⟩ := MustPost.out (L := L) (given := given) (vars := vars) (w := w3) (w' := w4) (e := e) hpost HX.out
      rw [← HLE.out, ← HNE.out] at hs4
      rw [← HLE.out, ← HOE.out]
      have HB4 := Lib.hid (ext_trans HB3.out hb4)
      have HS4 := Lib.hid hs4
      have HS34 := Lib.hid (HS3'.out.below hb4)
      have HO4 := Lib.hid (HO3.out.below hb4)
      have HM1 := Lib.hid (may11_any L ao n co os vars w4 HO4.out (by omega) HSMALL.out)
      clear hpost hb4 hs4
      obtain ⟨q1, hq1⟩ : ∃ q, q = mayS L vars := ⟨_, rfl⟩
      obtain ⟨q2, hq2⟩ : ∃ q, q = holdsS L M := ⟨_, rfl⟩
      have HQ1 := Lib.hid hq1
      have HQ2 := Lib.hid hq2
      rw [← hq1] at HM1
      clear hq1 hq2
      go_wp2_with fail
      refine HM1.out.mono ?_
      rintro e w5 ⟨rfl, hb5⟩
      have HB5 := Lib.hid (ext_trans HB4.out hb5)
      have HB45 := Lib.hid hb5
      have HM2 := Lib.hid (refMay_any L vars a n c ss w5 (HS.out.below HB5.out) (by omega) HSMALL.out)
      have HH1 := Lib.hid (holds11_any L HIN.out ao n co os M am nm cm w5 (HO4.out.below hb5) (by omega) HSMALL.out (HMS.out.below HB5.out) hnm)
      rw [← HQ1.out] at HM2
      rw [← HQ2.out] at HH1
      clear hb5
      go_wp2_with fail
      refine HM2.out.mono ?_
      rintro e w5' ⟨rfl, hw⟩
      obtain rfl := hw.symm
      clear hw
      go_wp2_with fail
      refine HH1.out.mono ?_
      rintro e w6 ⟨rfl, hb6⟩
      have HB6 := Lib.hid (ext_trans HB5.out hb6)
      have HB46 := Lib.hid (ext_trans HB45.out hb6)
      have HH2 := Lib.hid (refHolds_any L HIN.out a n c ss M am nm cm w6 (HS.out.below HB6.out) (by omega) HSMALL.out (HMS.out.below HB6.out) hnm)
      have HO6 := Lib.hid (HO4.out.below HB46.out)
      have HI1 := Lib.hid (zints_same N a3 a4 lN c3 c4 w6 (HS34.out.below HB46.out) (HS4.out.below HB46.out) hlb)
      rw [← HQ2.out] at HH2
      clear hb6
      go_wp2_with fail
      refine HH2.out.mono ?_
      rintro e w6' ⟨rfl, hw⟩
      obtain rfl := hw.symm
      clear hw
      go_wp2_with fail
      refine HI1.out.mono ?_
      rintro e w6' ⟨rfl, hw⟩
      obtain rfl := hw.symm
      clear hw
      go_wp2
      go_loopw [14] (fun i wr => ∃ k : Nat, k ≤ n ∧ i = .int .i64 k ∧ Hid (Below w6.heap.size w6 wr)) (fun i _ => n - (intOf i).toNat)
      case atStart => exact ⟨0, Nat.zero_le _, rfl, Below.refl _ _⟩
      case round =>
        obtain ⟨k, hk, rfl, hB⟩ := hrel
        have HB := Lib.hid hB.out
        have HBW := Lib.hid (ext_trans HB6.out hB.out)
        clear hB
        by_cases hlt : k < n
        · obtain ⟨b, off, rfl, _⟩ := HS.out.addr (show 0 < n by omega)
          obtain ⟨bo, offo, rfl, _⟩ := HO6.out.addr (show 0 < n by omega)
          have hkl : k < L.length := by rw [HL.out]; exact hlt
          have hso := HO6.out.below HB.out
          have hco := hso.cellAt k hlt
          have heo := hso.each k hkl
          have hs0 := HS.out.below HBW.out
          have hc := hs0.cellAt k hlt
          have he := hs0.each k hkl
          have HCO : Hid (∀ W, Below wr.heap.size wr W → W.cell? ⟨bo, offo + k, none⟩ = some (.slice (os.getD k zs0).1 (os.getD k zs0).2.1 (os.getD k zs0).2.2) ∧ W.cell? ⟨b, off + k, none⟩ = some (.slice (ss.getD k zs0).1 (ss.getD k zs0).2.1 (ss.getD k zs0).2.2)) :=
            fun W hb => ⟨(hso.below hb).cellAt k hlt, (hs0.below hb).cellAt k hlt⟩
          obtain ⟨⟨sa, sn, sc⟩, hs⟩ : ∃ s, s = ss.getD k zs0 := ⟨_, rfl⟩
          obtain ⟨⟨ta, tn, tc⟩, ht⟩ : ∃ s, s = os.getD k zs0 := ⟨_, rfl⟩
          rw [← hs] at hc he HCO
          rw [← ht] at hco heo HCO
          simp only at hc he hco heo HCO
          have HYL := Lib.hid (HONE.out _ (getD_memL hkl))
          obtain ⟨y, hy⟩ : ∃ y, y = L.getD k [] := ⟨_, rfl⟩
          rw [← hy] at he heo HYL
          have etn : tn = sn := heo.zlen.symm.trans he.zlen
          subst etn
          have HE := Lib.hid he
          have HEO := Lib.hid heo
          have htn : tn ≤ 400 := by rw [← he.zlen]; exact HYL.out
          have HOR := Lib.hid (order_any11 y vars ta tn tc wr heo (by omega))
          have hI1 : ((k : Nat) : Int) < (n : Int) := by omega
          have hI2 : (0 : Int) ≤ (k : Int) := by omega
          have W1 : IntKind.i64.wrap ((k : Int) + 1) = (k : Int) + 1 := IntWalk.i64_in _ (by omega)
          clear hs ht he heo hy hkl hs0 hso hc
          go_wp2_with fail
          refine HOR.out.mono ?_
          intro e w7 hpost
          obtain ⟨hb7, a7, c7, rfl, hnew, hcl⟩ := OrderPost.out (y := y) (vars := vars) (w := wr) (w' := w7) (e := e) hpost
          have HB7 := Lib.hid hb7
          have HRO := Lib.hid (refOrder_any y vars sa tn sc w7 (HE.out.below hb7) (by omega))
          obtain ⟨C, hC⟩ : ∃ C, C = (outO y vars).1 := ⟨_, rfl⟩
          obtain ⟨tk, htk⟩ : ∃ C, C = (outO y vars).2.1 := ⟨_, rfl⟩
          obtain ⟨er, her⟩ : ∃ C, C = (outO y vars).2.2 := ⟨_, rfl⟩
          obtain ⟨m, hm⟩ : ∃ m, m = C.length := ⟨_, rfl⟩
          rw [← hC, ← hm] at hnew hcl
          rw [← hC, ← hm, ← htk, ← her]
          have HNEW := Lib.hid hnew
          have HEQ : Hid (C = (outO y vars).1 ∧ tk = (outO y vars).2.1 ∧ er = (outO y vars).2.2 ∧ m = C.length) := ⟨hC, htk, her, hm⟩
          have hc2 := (HCO.out w7 hb7).2
          clear hb7 hpost hnew hC htk her hm hco
          go_wp2_with fail
          refine HRO.out.mono ?_
          intro e w8 hpost
          obtain ⟨hb8, a8, c8, rfl, hnew, _⟩ := OrderPost.out (y := y) (vars := vars) (w := w7) (w' := w8) (e := e) hpost
          rw [← HEQ.out.1, ← HEQ.out.2.2.2] at hnew
          rw [← HEQ.out.1, ← HEQ.out.2.2.2, ← HEQ.out.2.1, ← HEQ.out.2.2.1]
          have HB8 := Lib.hid (ext_trans HB7.out hb8)
          have HOWN : Hid (OwnAt wr.heap.size a7 m w8) := HNEW.out.ownAt.below hb8
          have HI2 := Lib.hid (zints_same C a7 a8 m c7 c8 w8 (HNEW.out.sees.below hb8) hnew.sees (by omega))
          clear hb8 hpost hnew hc2
          go_wp2_with fail
          refine HI2.out.mono ?_
          rintro e w8' ⟨rfl, hw⟩
          obtain rfl := hw.symm
          clear hw
          obtain ⟨w0, hw0⟩ : ∃ w0, w0 = wr := ⟨_, rfl⟩
          rw [← hw0] at HB HB8 HOWN HCO HE HEO HBW
          clear HOR HRO HI2 HNEW HB7 HH1 HH2 HI1 HM1 HM2 HRM HMU HCP HGR
          go_wp2
          go_loopw [21] (fun i wz => ∃ j : Nat, j ≤ m ∧ i = .int .i64 j ∧ Hid (Below w0.heap.size w0 wz) ∧ Hid (OwnAt w0.heap.size a7 m wz)) (fun i _ => m - (intOf i).toNat)
          case atStart => exact ⟨0, Nat.zero_le _, rfl, HB8.out, HOWN.out⟩
          case round =>
            obtain ⟨j, hj, rfl, hBz, hOz⟩ := hrel
            by_cases hlj : j < m
            · obtain ⟨g, og, Cur, rfl, hgB, hh, hcu⟩ := hOz.out (by omega)
              obtain ⟨z, hzc⟩ := hcu j hlj
              have hcell : wr.cell? ⟨g, og + j, none⟩ = some (.int .i64 z) := (cell_of_block hh _).trans hzc
              have hfr : wr.frozen? ⟨g, og + j, none⟩ = false := unfrozen_of_block hh _
              have HBN := Lib.hid (hBz.out.setCell (p := ⟨g, og + j, none⟩) hgB (.int .i64 0))
              have HON := Lib.hid (own_set (k := j) hgB hh hcu)
              have hI3 : ((j : Nat) : Int) < (m : Int) := by omega
              have hI4 : (0 : Int) ≤ (j : Int) := by omega
              have W2 : IntKind.i64.wrap ((j : Int) + 1) = (j : Int) + 1 := IntWalk.i64_in _ (by omega)
              clear hBz hOz hgB hh hcu hzc
              go_wp2
              go_roundw
              case rel => exact ⟨j + 1, by omega, by go_num, HBN.out, HON.out⟩
              case measure => simp [intOf]; omega
            · obtain rfl : j = m := by omega
              obtain ⟨hc1, hc2⟩ := HCO.out wr hBz.out
              have HBF := Lib.hid (ext_trans HB.out hBz.out)
              have HI3 : Hid (∀ nq, Calls Try.prog 15 #[.slice ta tn tc, .slice sa tn sc] (wr.drewN nq) fun e w' => e = .returned (.bool true) ∧ w' = wr.drewN nq) := fun nq =>
                zints_same y ta sa tn tc sc (wr.drewN nq) (HEO.out.below (ext_trans hBz.out (ext_drewN _ _))) (HE.out.below (ext_trans hBz.out (ext_drewN _ _))) (by omega)
              clear hBz hOz
              go_wp2
              go_quiet ((go_at_call 15; exact Calls.quiet_of_same (HI3.out _)))
              go_wp2
              go_roundw
              case rel => exact ⟨k + 1, by omega, by go_num, ext_trans HBF.out (ext_drewN _ _)⟩
              case measure => simp [intOf]; omega
        · have I1 : decide ((k : Int) < (n : Int)) = false := by simp; omega
          have I2 : decide (k < n) = false := by simpa using hlt
          go_wp2_with fail
          refine (HLV.out _).mono ?_
          rintro e w9 ⟨rfl, hb9⟩
          have HB9 := Lib.hid (ext_trans HBW.out hb9)
          clear hb9
          go_wp2
          go_ret
          exact ⟨rfl, HB9.out⟩
end Go.Proofs.Ytdngaohjocokiaa
