/- inquestlaw11.lives; inquestref00.Ints; by their contracts. -/
import Derived.Test.YtdngaohjocokiaaLib
import Derived.Test.YtdngaohjocokiaaNBase
import Derived.Test.YtdngaohjocokiaaCuPure
import Derived.Test.YtdngaohjocokiaaCuInts
import Derived.Test.YtdngaohjocokiaaCuOrder
import Derived.Test.YtdngaohjocokiaaCuTell
import Derived.Test.YtdngaohjocokiaaCuMust
import Derived.Test.YtdngaohjocokiaaRows
import Derived.Test.YtdngaohjocokiaaShelf
import Derived.BigQuiet
import Derived.Conc.LoneSelect
import Derived.Deep.AppendLies
import Derived.Deep.CutRange
import Derived.Deep.QuietTactic
import Derived.Deep.RegionHeld3
import Derived.Deep.RegionLaw
import Derived.Deep.RegionWith
import Derived.KernelRfl
import Derived.Laws.CopyOwn
import Derived.Laws.EntriesVeiled
import Derived.Laws.Tables
import Derived.Lib.ConvBytes
import Derived.Lib.Hide
import Derived.Lib.SlBytesRow
import Derived.Lib.SlicesCompact
import Derived.Lib.SmallJoins
import Derived.Maps.AppendAt
import Derived.OrdersHeld
import Derived.Shelf.Bytes.SlSmallAll
import Derived.Sort.Statements
import Derived.WalkKit
import Derived.WalkLawsBesides
import Derived.WalkSpells
namespace Go.Proofs.Ytdngaohjocokiaa
open Go Go.RowKit Go.Joins

set_option maxRecDepth 100000 in
set_option maxHeartbeats 1600000 in
/-- The same list twice. -/
theorem zints_any (L : List Int) (a a' : Option Addr) (n c c' : Nat) (w : World) (h : Sees w a n c (zvs L)) (h' : Sees w a' n c' (zvs L)) (hn : n ≤ 100000000) :
    Calls Try.prog 15 #[.slice a n c, .slice a' n c'] w fun e w' => e = .returned (.bool true) ∧ Below w.heap.size w w' := by
  have H := Lib.hid h
  have H' := Lib.hid h'
  clear h h'
  go_enter Try.func15, Try.ntmps15
  go_wp2
  go_loopw [9, 5, 6] (fun i _ _ wr => ∃ k : Nat, k ≤ n ∧ i = .int .i64 k ∧ Hid (Below w.heap.size w wr)) (fun i _ _ _ => n - (intOf i).toNat)
  case atStart => exact ⟨0, Nat.zero_le _, rfl, Below.refl _ _⟩
  case round =>
    obtain ⟨k, hk, rfl, hB⟩ := hrel
    by_cases hlt : k < n
    · obtain ⟨b1, o1, rfl, _⟩ := H.out.addr (show 0 < n by omega)
      obtain ⟨b2, o2, rfl, _⟩ := H'.out.addr (show 0 < n by omega)
      have hc1 := (H.out.below hB.out).z_at k hlt
      have hc2 := (H'.out.below hB.out).z_at k hlt
      obtain ⟨x, hx⟩ : ∃ x, x = L.getD k 0 := ⟨_, rfl⟩
      rw [← hx] at hc1 hc2
      have hI1 : ((k : Nat) : Int) < (n : Int) := by omega
      have hI2 : (0 : Int) ≤ (k : Int) := by omega
      have W1 : IntKind.i64.wrap ((k : Int) + 1) = (k : Int) + 1 := IntWalk.i64_in _ (by omega)
      have HB := Lib.hid hB.out
      clear hx hB
      go_wp2
      all_goals (try go_quiet (fail))
      all_goals (try go_wp2)
      all_goals go_roundw
      case rel => exact ⟨k + 1, by omega, by go_num, HB.out⟩
      case measure => simp [intOf]; omega
    · obtain rfl : k = n := by omega
      go_wp2
      go_ret
      exact ⟨rfl, hB.out⟩
theorem OrderPost.yes {l C : List Int} {vars : Int} {w w' : World} {e : Ending} (h : OrderPost l vars w e w') (hm : mayS [l] vars = true) (ho : orderS l = some C) :
    Below w.heap.size w w' ∧ ∃ a c, e = .returned (.tuple #[.slice a C.length c, .bool false, .int .i64 0]) ∧ NewZ w' w.heap.size a C.length c C := by
  obtain ⟨hb, h⟩ := h
  rcases h with ⟨h, _⟩ | ⟨_, h, _⟩ | ⟨_, D, a, n, c, h, he, _, hn⟩
  · rw [hm] at h; cases h
  · rw [ho] at h; cases h
  · rw [ho] at h
    cases h
    have := hn.sees.zlen
    subst this
    exact ⟨hb, a, c, he, hn⟩
theorem OrderPost.talk {l : List Int} {vars : Int} {w w' : World} {e : Ending} (h : OrderPost l vars w e w') (hm : mayS [l] vars = true) (ho : orderS l = none) :
    Below w.heap.size w w' ∧ e = .returned (.tuple #[.slice none 0 0, .bool true, .int .i64 0]) := by
  obtain ⟨hb, h⟩ := h
  rcases h with ⟨h, _⟩ | ⟨_, _, h⟩ | ⟨_, D, a, n, c, h, _⟩
  · rw [hm] at h; cases h
  · exact ⟨hb, h⟩
  · rw [ho] at h; cases h
theorem OrderPost.no {l : List Int} {vars : Int} {w w' : World} {e : Ending} (h : OrderPost l vars w e w') (hm : mayS [l] vars = false) :
    Below w.heap.size w w' ∧ e = .returned (.tuple #[.slice none 0 0, .bool false, .int .i64 2]) := by
  obtain ⟨hb, h⟩ := h
  rcases h with ⟨_, h⟩ | ⟨h, _⟩ | ⟨h, _⟩
  · exact ⟨hb, h⟩
  · rw [hm] at h; cases h
  · rw [hm] at h; cases h
theorem MustPost.yes {L : List (List Int)} {given M : List Int} {vars : Int} {w w' : World} {e : Ending} (h : MustPost L given vars w e w') (hm : MustIs L given vars (some M)) :
    Below w.heap.size w w' ∧ ∃ a c, e = .returned (.tuple #[.slice a M.length c, .bool true]) ∧ M.length ≤ 100000000 ∧ Sees w' a M.length c (zvs M) := by
  obtain ⟨hb, h⟩ := h
  rcases h with ⟨h, _⟩ | ⟨N, a, n, c, h, he, hn, hs⟩
  · have := h.uniq hm; cases this
  · have := h.uniq hm
    cases this
    have := hs.zlen
    subst this
    exact ⟨hb, a, c, he, hn, hs⟩
theorem MustPost.no {L : List (List Int)} {given : List Int} {vars : Int} {w w' : World} {e : Ending} (h : MustPost L given vars w e w') (hm : MustIs L given vars none) :
    Below w.heap.size w w' ∧ e = .returned (.tuple #[.slice none 0 0, .bool false]) := by
  obtain ⟨hb, h⟩ := h
  rcases h with ⟨_, h⟩ | ⟨N, a, n, c, h, _⟩
  · exact ⟨hb, h⟩
  · have := h.uniq hm; cases this
theorem ex_yes : MustIs [[-1, 2], [-2, 3]] [1] 3 (some [1, 2, 3]) := by
  have e : ordAll [[-1, 2], [-2, 3]] = [[-1, 2], [-2, 3]] := by decide
  refine ⟨by decide, by decide, ?_⟩
  rw [e]
  have d1 : Der [[-1, 2], [-2, 3]] [1] 1 := .given (by simp)
  have d2 : Der [[-1, 2], [-2, 3]] [1] 2 := .unit (c := [-1, 2]) (by simp) (by simp) fun x hx hne => by
    simp at hx
    rcases hx with rfl | rfl
    · exact d1
    · exact absurd rfl hne
  have d3 : Der [[-1, 2], [-2, 3]] [1] 3 := .unit (c := [-2, 3]) (by simp) (by simp) fun x hx hne => by
    simp at hx
    rcases hx with rfl | rfl
    · exact d2
    · exact absurd rfl hne
  have h := closed_is (cls := [[-1, 2], [-2, 3]]) (given := [1]) (D := fun l => l = 1 ∨ l = 2 ∨ l = 3) (by simp) (by rintro l (rfl | rfl | rfl) <;> assumption) (by rintro l (rfl | rfl | rfl) <;> decide)
    (by
      intro c hc
      simp at hc
      rcases hc with rfl | rfl
      · exact ⟨2, by simp, by decide⟩
      · exact ⟨3, by simp, by decide⟩)
    (by
      intro c hc l hl hx
      simp at hc
      rcases hc with rfl | rfl
      · simp at hl
        rcases hl with rfl | rfl
        · exact absurd (hx 2 (by simp) (by decide)) (by decide)
        · decide
      · simp at hl
        rcases hl with rfl | rfl
        · exact absurd (hx 3 (by simp) (by decide)) (by decide)
        · decide)
  refine ⟨by simp [Asc], fun l => ?_, h.2⟩
  rw [← h.1 l]
  simp
theorem sees_zlit (w : World) (xs : List Int) (n : Nat) (C : Array Value) (hC : C = (zvs xs).toArray) (hn : xs.length = n) : Sees (w.alloc (.cells C 3)) (some ⟨w.heap.size, 0, none⟩) n n (zvs xs) := sees_lit w _ _ _ _ n hC (by rw [zvs_len]; exact hn)
theorem seesZ_two (w : World) (b1 b2 n1 n2 : Nat) (l1 l2 : List Int) (h1 : Sees w (some ⟨b1, 0, none⟩) n1 n1 (zvs l1)) (h2 : Sees w (some ⟨b2, 0, none⟩) n2 n2 (zvs l2)) :
    SeesZ (w.alloc (.cells #[.slice (some ⟨b1, 0, none⟩) n1 n1, .slice (some ⟨b2, 0, none⟩) n2 n2] 23)) (some ⟨w.heap.size, 0, none⟩) 2 2 [(some ⟨b1, 0, none⟩, n1, n1), (some ⟨b2, 0, none⟩, n2, n2)] [l1, l2] := by
  refine ⟨sees_lit w _ _ _ _ 2 rfl rfl, rfl, fun k hk => ?_⟩
  rcases k with _ | _ | k
  · exact h1.below (ext_alloc _ _)
  · exact h2.below (ext_alloc _ _)
  · simp at hk; omega
theorem ex_no : MustIs [[1], [-1]] [] 3 none := by
  have e : ordAll [[1], [-1]] = [[1], [-1]] := by decide
  refine .inr (.inr ?_)
  rw [e]
  exact .inl ⟨1, .unit (c := [1]) (by simp) (by simp) (fun x hx hne => by simp at hx; exact absurd hx hne), .unit (c := [-1]) (by simp) (by simp) (fun x hx hne => by simp at hx; exact absurd hx hne)⟩
theorem ex_in (W : World) (l1 l2 : List Int) (A1 A2 : Array Value) (n1 n2 : Nat) (h1 : A1 = (zvs l1).toArray) (h2 : A2 = (zvs l2).toArray) (e1 : l1.length = n1) (e2 : l2.length = n2) :
    SeesZ (((W.alloc (.cells A1 3)).alloc (.cells A2 3)).alloc (.cells #[.slice (some ⟨W.heap.size, 0, none⟩) n1 n1, .slice (some ⟨W.heap.size + 1, 0, none⟩) n2 n2] 23)) (some ⟨W.heap.size + 1 + 1, 0, none⟩) 2 2
      [(some ⟨W.heap.size, 0, none⟩, n1, n1), (some ⟨W.heap.size + 1, 0, none⟩, n2, n2)] [l1, l2] := by
  have a1 := (sees_zlit W l1 n1 A1 h1 e1).below (ext_alloc _ (.cells A2 3))
  have a2 := sees_zlit (W.alloc (.cells A1 3)) l2 n2 A2 h2 e2
  simp only [World.size_alloc] at a2
  have := seesZ_two _ _ _ _ _ _ _ a1 a2
  simp only [World.size_alloc] at this
  exact this
set_option maxRecDepth 100000 in
set_option maxHeartbeats 6400000 in
theorem lives11_any (w : World) : Calls Try.prog 7 #[] w fun e w' => e = .returned (.bool true) ∧ Below w.heap.size w w' := by
  have HO1 := Lib.hid (fun (W : World) => order_any11 [3, -1, 3] 3 (some ⟨W.heap.size, 0, none⟩) 3 3 (W.alloc (.cells #[.int .i64 3, .int .i64 (-1), .int .i64 3] 3)) (sees_zlit W [3, -1, 3] 3 _ rfl rfl) (by omega))
  have HO2 := Lib.hid (fun (W : World) => order_any11 [2, -2] 3 (some ⟨W.heap.size, 0, none⟩) 2 2 (W.alloc (.cells #[.int .i64 2, .int .i64 (-2)] 3)) (sees_zlit W [2, -2] 2 _ rfl rfl) (by omega))
  have HO3 := Lib.hid (fun (W : World) => order_any11 [4] 3 (some ⟨W.heap.size, 0, none⟩) 1 1 (W.alloc (.cells #[.int .i64 4] 3)) (sees_zlit W [4] 1 _ rfl rfl) (by omega))
  have HO4 := Lib.hid (fun (W : World) => must_any11 [[-1, 2], [-2, 3]] [1] 3 _ (some ⟨W.heap.size + 1 + 1 + 1, 0, none⟩) 2 2 1 1 _ _ ((ex_in W [-1, 2] [-2, 3] #[.int .i64 (-1), .int .i64 2] #[.int .i64 (-2), .int .i64 3] 2 2 rfl rfl rfl rfl).below (ext_alloc _ (.cells #[.int .i64 1] 3)))
    (by have := sees_zlit (((W.alloc (.cells #[.int .i64 (-1), .int .i64 2] 3)).alloc (.cells #[.int .i64 (-2), .int .i64 3] 3)).alloc (.cells #[.slice (some ⟨W.heap.size, 0, none⟩) 2 2, .slice (some ⟨W.heap.size + 1, 0, none⟩) 2 2] 23)) [1] 1 #[.int .i64 1] rfl rfl; simp only [World.size_alloc] at this; exact this) (by omega) (by omega) (by decide))
  have HO5 := Lib.hid (fun (W : World) => must_any11 [[1], [-1]] [] 3 _ none 2 2 0 0 _ _ (ex_in W [1] [-1] #[.int .i64 1] #[.int .i64 (-1)] 1 1 rfl rfl rfl rfl) (Sees.nil _ _ _ (fun _ => rfl)) (by omega) (by omega) (by decide))
  go_enter Try.func7, Try.ntmps7
  go_wp2_with fail
  refine (HO1.out _).mono ?_
  intro e w1 h1
  obtain ⟨b1, a1, c1, rfl, n1⟩ := h1.yes (C := [-1, 3]) (by decide) (by decide)
  have B1 := Lib.hid (ext_trans (ext_alloc w _) b1)
  have N1 := Lib.hid n1.sees
  clear h1 b1 n1
  go_wp2_with fail
  refine (HO2.out _).mono ?_
  intro e w2 h2
  obtain ⟨b2, rfl⟩ := h2.talk (by decide) (by decide)
  have B2 := Lib.hid (ext_trans B1.out (ext_trans (ext_alloc w1 _) b2))
  have B12 := Lib.hid (ext_trans (ext_alloc w1 _) b2)
  clear h2 b2
  go_wp2_with fail
  refine (HO3.out _).mono ?_
  intro e w3 h3
  obtain ⟨b3, rfl⟩ := h3.no (by decide)
  have B3 := Lib.hid (ext_trans B2.out (ext_trans (ext_alloc w2 _) b3))
  have B13 := Lib.hid (ext_trans B12.out (ext_trans (ext_alloc w2 _) b3))
  clear h3 b3
  go_wp2_with fail
  refine (HO4.out _).mono ?_
  intro e w4 h4
  obtain ⟨b4, a4, c4, rfl, _, n4⟩ := h4.yes ex_yes
  have hx4 := fun (A B C D : Obj) => ext_trans (ext_alloc w3 A) (ext_trans (ext_alloc _ B) (ext_trans (ext_alloc _ C) (ext_alloc _ D)))
  have B4 := Lib.hid (ext_trans B3.out (ext_trans (hx4 _ _ _ _) b4))
  have B14 := Lib.hid (ext_trans B13.out (ext_trans (hx4 _ _ _ _) b4))
  have N4 := Lib.hid n4
  clear h4 b4 n4 hx4
  go_wp2_with fail
  refine (HO5.out _).mono ?_
  intro e w5 h5
  obtain ⟨b5, rfl⟩ := h5.no ex_no
  have hx5 := fun (A B C : Obj) => ext_trans (ext_alloc w4 A) (ext_trans (ext_alloc _ B) (ext_alloc _ C))
  have B5 := Lib.hid (ext_trans B4.out (ext_trans (hx5 _ _ _) b5))
  have N1' := Lib.hid (N1.out.below (ext_trans B14.out (ext_trans (hx5 _ _ _) b5)))
  have N4' := Lib.hid (N4.out.below (ext_trans (hx5 _ _ _) b5))
  clear h5 b5 hx5
  have HI1 := Lib.hid (fun (W : World) (h : Sees W a1 2 c1 (zvs [-1, 3])) => zints_any [-1, 3] a1 (some ⟨W.heap.size, 0, none⟩) 2 c1 2 (W.alloc (.cells #[.int .i64 (-1), .int .i64 3] 3)) (h.below (ext_alloc _ _)) (sees_zlit W [-1, 3] 2 _ rfl rfl) (by omega))
  have HI2 := Lib.hid (fun (W : World) (h : Sees W a4 3 c4 (zvs [1, 2, 3])) => zints_any [1, 2, 3] a4 (some ⟨W.heap.size, 0, none⟩) 3 c4 3 (W.alloc (.cells #[.int .i64 1, .int .i64 2, .int .i64 3] 3)) (h.below (ext_alloc _ _)) (sees_zlit W [1, 2, 3] 3 _ rfl rfl) (by omega))
  go_wp2_with fail
  refine (HI1.out _ N1'.out).mono ?_
  rintro e w6 ⟨rfl, b6⟩
  have B6 := Lib.hid (ext_trans B5.out (ext_trans (ext_alloc w5 _) b6))
  have N4'' := Lib.hid (N4'.out.below (ext_trans (ext_alloc w5 _) b6))
  clear b6
  go_wp2_with fail
  refine (HI2.out _ N4''.out).mono ?_
  rintro e w7 ⟨rfl, b7⟩
  have B7 := Lib.hid (ext_trans B6.out (ext_trans (ext_alloc w6 _) b7))
  clear b7
  go_wp2
  go_ret
  exact ⟨rfl, B7.out⟩
end Go.Proofs.Ytdngaohjocokiaa
