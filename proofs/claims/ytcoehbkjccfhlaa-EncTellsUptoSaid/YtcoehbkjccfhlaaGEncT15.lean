/- Literal lists appended to a row of lists, all at once. -/
import Derived.Test.YtcoehbkjccfhlaaGEncT00
import Derived.Test.YtcoehbkjccfhlaaGEncT01
import Derived.Test.YtcoehbkjccfhlaaGEncT05
import Derived.Test.YtcoehbkjccfhlaaGEncT10
import Derived.Test.YtcoehbkjccfhlaaGEncT07
import Derived.Test.YtcoehbkjccfhlaaGEncT11
import Derived.Test.YtcoehbkjccfhlaaRows
import Derived.BigQuiet
import Derived.Deep.AppendLies
import Derived.Deep.CutRange
import Derived.Deep.QuietTactic
import Derived.Deep.RegionHeld3
import Derived.Deep.RegionLaw
import Derived.Deep.RegionWith
import Derived.KernelRfl
import Derived.Laws.EntriesVeiled
import Derived.Laws.Tables
import Derived.Lib.ConvBytes
import Derived.Lib.Hide
import Derived.Lib.SlBytesRow
import Derived.Lib.SmallJoins
import Derived.Maps.AppendAt
import Derived.OrdersHeld
import Derived.Shelf.Bytes.SlSmallAll
import Derived.WalkKit
import Derived.WalkLawsBesides
import Derived.WalkSpells
import Derived.Test.YtcoehbkjccfhlaaEnFa
/- inquestref14.behind, clauses, by their contracts. -/
namespace Go.Proofs.Ytcoehbkjccfhlaa
open Go Go.RowKit Go.Joins

theorem lit_even (V v f : Nat) (h : 0 < v) : litE V (2 * v) f = ((spotE V v f : Nat) : Int) := by
  unfold litE absE
  rw [if_neg (by omega), if_neg (by omega), show 2 * v / 2 = v by omega]
def phiN (first : Nat) (t : TCl) : List Int := if first = 0 then t.2 else withE first t
/-- Lists behind lists. -/
theorem ListsZ.moreN {w0 w w1 w' : World} {v v' : Value} {ss : List ZSlc} {L : List (List Int)} (h : ListsZ w0 v ss L w) (hb : Below w.heap.size w w1) (ns : List ZSlc) (Cs : List (List Int)) (hl : ns.length = Cs.length) (hs : ∀ j, j < Cs.length → OneZ w0 w1 (ns.getD j zs0) (Cs.getD j []))
    (hrow : Row (fun _ => True) w' w0.heap.size 45 v' (ss.length + ns.length) (ss.map zsV ++ ns.map zsV)) (hg : w1.grownBy w' v.ownBlock) : ListsZ w0 v' (ss ++ ns) (L ++ Cs) w' := by
  have h1 := h.onward hb
  refine ⟨h1.bel.grown hg h1.bel.size (fun j hj => (h1.row.own.lt j hj).1), by simpa using hrow, by simp [h.len, hl], fun j hj => ?_⟩
  by_cases hj2 : j < L.length
  · rw [getD_appL (by rw [h.len]; exact hj2), getD_appL hj2]
    exact (h1.each j hj2).imp id (fun hr => hr.apart h1.row (by decide) hg)
  · have e1 : (L ++ Cs).getD j [] = Cs.getD (j - L.length) [] := by simp only [List.getD]; rw [List.getElem?_append_right (by omega)]
    have e2 : (ss ++ ns).getD j zs0 = ns.getD (j - L.length) zs0 := by simp only [List.getD]; rw [List.getElem?_append_right (by rw [h.len]; omega), h.len]
    rw [e1, e2]
    exact (hs (j - L.length) (by simp at hj; omega)).imp id (fun hr => hr.apart h1.row (by decide) hg)
def behE (C : List Int) (b : Nat) : List Int := if b = 0 then C else C ++ [(b : Int)]
set_option maxRecDepth 100000 in
set_option maxHeartbeats 3200000 in
theorem behind_any (C : List Int) (by' b off n : Nat) (w0 w : World) (hbel : Below w0.heap.size w0 w) (h : OneZ w0 w (some ⟨b, off, none⟩, n, n) C) (hn : n ≤ 1000) :
    Calls Try.prog 64 #[.slice (some ⟨b, off, none⟩) n n, .int .i64 (by' : Int)] w fun e w' => ∃ a2 m2 c2, e = .returned (.slice a2 m2 c2) ∧ OneZ w0 w' (a2, m2, c2) (behE C by') ∧ Below w.heap.size w w' := by
  obtain ⟨j0, hj, hy0, hy1, hy2⟩ := info_parts info_int
  have hsee := h.sees hbel
  have hcl := hsee.zlen
  by_cases e : by' = 0
  · subst e
    have HO := Lib.hid h
    clear hsee hcl h hbel
    go_enter Try.func64, Try.ntmps64
    go_wp2
    go_ret
    exact ⟨_, _, _, rfl, HO.out, Below.refl _ _⟩
  · have d1 : decide ((0 : Int) < (by' : Int)) = true := by simp; omega
    have d2 : decide (0 < by') = true := by simp; omega
    have HE : Hid (behE C by' = C ++ [(by' : Int)]) := by show _ = _; unfold behE; rw [if_neg e]
    have HS : Hid (Sees (w.alloc (.cells #[.int .i64 (by' : Int)] 3)) (some ⟨b, off, none⟩) n n (zvs C)) := hsee.below (ext_alloc w (.cells #[.int .i64 (by' : Int)] 3))
    have HCN : Hid (n = C.length) := hcl.symm
    have hbw : w0.heap.size ≤ (w.alloc (.cells #[.int .i64 (by' : Int)] 3)).heap.size := by have := hbel.size; simp; omega
    have HBW := Lib.hid hbw
    have HNEW : Hid ((w.alloc (.cells #[.int .i64 (by' : Int)] 3)).cell? ⟨w.heap.size, 0, none⟩ = some (.int .i64 (by' : Int))) := cell_of_block (heap_new _ _ _ rfl) 0
    clear hsee hcl h hbel e hbw
    go_enter Try.func64, Try.ntmps64
    go_wp2_with (at_builtin; refine wpList_append_full14 rfl _ _ 45 rfl 3 j0 (.int .i64 0) Try.underlying45 hj hy0 hy1 hy2 rfl ⟨0, rfl⟩ b off n C HCN.out (by rfl) HS.out hn w.heap.size (by' : Int) (by rfl) HNEW.out w0.heap.size HBW.out ?_)
    intro a3 m3 c3 w3 hm3 hr3 hb3
    have HB3 := Lib.hid (ext_trans (ext_alloc w (.cells #[.int .i64 (by' : Int)] 3)) (by simpa using hb3))
    have hrr : Row isZ w3 w0.heap.size 3 (.slice a3 m3 c3) (C ++ [(by' : Int)]).length (zvs (C ++ [(by' : Int)])) := by rw [show (C ++ [(by' : Int)]).length = m3 by rw [hm3]; simp]; exact hr3
    have HRR := Lib.hid hrr
    clear hm3 hr3 hb3 hrr HS
    go_wp2
    go_ret
    exact ⟨a3, m3, c3, rfl, by rw [HE.out]; exact .inr HRR.out, HB3.out⟩
end Go.Proofs.Ytcoehbkjccfhlaa
namespace Go.Proofs.Ytcoehbkjccfhlaa
open Go Go.RowKit Go.Joins

/-- The value owns a row of these lists. -/
def RowL (w0 : World) (L : List (List Int)) (v : Value) (w : World) : Prop := ∃ ss, ListsZ w0 v ss L w
theorem zsV_one (l : List ZSlc) : ∀ u ∈ l.map zsV, u.oneCell' = true := by intro u hu; obtain ⟨s, _, rfl⟩ := List.mem_map.1 hu; rfl
set_option maxRecDepth 100000 in
theorem wpList_append_lists {ops : Array Oper} {rest : List Oper} {o : Oper} {a : Act} {w0 wb w1 : World} {Q : Exit → Act → World → Prop} (hgd : o.guard = none) (s x : Operand)
    (ho : o.op = .call { callee := .builtin .append, args := #[s, x], argTypes := #[39, 39] }) (v : Value) (ss : List ZSlc) (L : List (List Int)) (hs : a.eval s = v) (H : ListsZ w0 v ss L wb) (hb : Below wb.heap.size wb w1)
    (ns : List ZSlc) (Cs : List (List Int)) (g m : Nat) (hx : a.eval x = .slice (some ⟨g, 0, none⟩) m m) (hsee : Sees w1 (some ⟨g, 0, none⟩) m m (ns.map zsV)) (hl : ns.length = Cs.length) (each : ∀ j, j < Cs.length → OneZ w0 w1 (ns.getD j zs0) (Cs.getD j [])) (hlen : L.length ≤ 100000000) (hm : m ≤ 10)
    (h : ∀ a' n' c' w', RowL w0 (L ++ Cs) (.slice a' n' c') w' → KeepT 45 wb w' → KeepT 45 w1 w' → wpList Try.prog ops Q rest (a.put o.dst (.slice a' n' c')) w') : wpList Try.prog ops Q (o :: rest) a w1 := by
  obtain ⟨i0, hi, hz0, hz1, hz2⟩ := info_parts info_zs
  have hmn : m = ns.length := by have := hsee.len; rw [List.length_map] at this; exact this.symm
  have hln := H.len
  have hrow := H.row.below hb
  refine wpList_append_row (fun _ => True) w1 hgd s x 39 ho w0.heap.size 45 i0 (.slice none 0 0) 24 Try.underlying39 hi hz0 hz1 hz2 rfl trivial v ss.length (ss.map zsV) hs hrow (some ⟨g, 0, none⟩) m m (ns.map zsV) hx hsee (zsV_one ns) (fun _ _ => trivial) (by unfold maxLen; omega) (by omega) (by have := H.bel.size; have := hb.size; omega) ?_
  intro v' w' hr hg _
  have hm2 := ListsZ.moreN H hb ns Cs hl each (by rw [← hmn]; exact hr) hg
  obtain ⟨a', c', rfl⟩ := hr.form
  exact h a' _ c' w' ⟨_, hm2⟩ ((KeepT.below hb).trans (KeepT.grown hrow hg)) (KeepT.grown hrow hg)
/-- One list, written out. -/
theorem lits1 (w0 W : World) (hb : w0.heap.size ≤ W.heap.size) (C : List Int) (n g : Nat) (A : Array Value) (hA : A = (zvs C).toArray) (hn : n = C.length) (hs : C.length ≤ 1000) (hg : g = W.heap.size + 1) :
    (∀ j, j < [C].length → OneZ w0 ((W.alloc (.cells A 3)).alloc (.cells #[.slice (some ⟨W.heap.size, 0, none⟩) n n] 45)) ([((some ⟨W.heap.size, 0, none⟩, n, n) : ZSlc)].getD j zs0) ([C].getD j [])) ∧
    Sees ((W.alloc (.cells A 3)).alloc (.cells #[.slice (some ⟨W.heap.size, 0, none⟩) n n] 45)) (some ⟨g, 0, none⟩) 1 1 ([((some ⟨W.heap.size, 0, none⟩, n, n) : ZSlc)].map zsV) := by
  have h1 := oneZ_of w0 W hb C n A hA hn hs
  refine ⟨fun j hj => ?_, ?_⟩
  · obtain rfl : j = 0 := by simp at hj; omega
    exact h1.imp id (fun hr => hr.below (ext_alloc _ _))
  · have := sees_lit (W.alloc (.cells A 3)) 45 (0, 0) #[.slice (some ⟨W.heap.size, 0, none⟩) n n] [.slice (some ⟨W.heap.size, 0, none⟩) n n] 1 rfl rfl
    rw [hg]
    simpa [zsV] using this
/-- Two lists, written out. -/
theorem lits2 (w0 W : World) (hb : w0.heap.size ≤ W.heap.size) (C D : List Int) (n m g1 g : Nat) (A E : Array Value) (hA : A = (zvs C).toArray) (hE : E = (zvs D).toArray) (hn : n = C.length) (hm : m = D.length) (hs : C.length ≤ 1000) (hs2 : D.length ≤ 1000) (hg1 : g1 = W.heap.size + 1) (hg : g = W.heap.size + 1 + 1) :
    (∀ j, j < [C, D].length → OneZ w0 (((W.alloc (.cells A 3)).alloc (.cells E 3)).alloc (.cells #[.slice (some ⟨W.heap.size, 0, none⟩) n n, .slice (some ⟨g1, 0, none⟩) m m] 45)) ([((some ⟨W.heap.size, 0, none⟩, n, n) : ZSlc), (some ⟨g1, 0, none⟩, m, m)].getD j zs0) ([C, D].getD j [])) ∧
    Sees (((W.alloc (.cells A 3)).alloc (.cells E 3)).alloc (.cells #[.slice (some ⟨W.heap.size, 0, none⟩) n n, .slice (some ⟨g1, 0, none⟩) m m] 45)) (some ⟨g, 0, none⟩) 2 2 ([((some ⟨W.heap.size, 0, none⟩, n, n) : ZSlc), (some ⟨g1, 0, none⟩, m, m)].map zsV) := by
  have h1 := oneZ_of w0 W hb C n A hA hn hs
  have h2 := oneZ_of w0 (W.alloc (.cells A 3)) (by simp; omega) D m E hE hm hs2
  have e1 : (W.alloc (.cells A 3)).heap.size = W.heap.size + 1 := by simp
  rw [e1, ← hg1] at h2
  refine ⟨fun j hj => ?_, ?_⟩
  · have hj2 : j = 0 ∨ j = 1 := by simp at hj; omega
    rcases hj2 with rfl | rfl
    · exact h1.imp id (fun hr => hr.below (ext_trans (ext_alloc _ _) (ext_alloc _ _)))
    · exact h2.imp id (fun hr => hr.below (ext_alloc _ _))
  · have := sees_lit ((W.alloc (.cells A 3)).alloc (.cells E 3)) 45 (0, 0) #[.slice (some ⟨W.heap.size, 0, none⟩) n n, .slice (some ⟨g1, 0, none⟩) m m] [.slice (some ⟨W.heap.size, 0, none⟩) n n, .slice (some ⟨g1, 0, none⟩) m m] 2 rfl rfl
    have e2 : ((W.alloc (.cells A 3)).alloc (.cells E 3)).heap.size = W.heap.size + 1 + 1 := by simp
    rw [e2, ← hg] at this
    simpa [zsV] using this
end Go.Proofs.Ytcoehbkjccfhlaa
