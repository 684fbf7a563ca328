/- inquestref11.Units, by its contract. -/
import Derived.Test.YtdngaohjocokiaaLib
import Derived.Test.YtdngaohjocokiaaOwn
import Derived.Test.YtdngaohjocokiaaNBase
import Derived.Test.YtdngaohjocokiaaCuInts
import Derived.Test.YtdngaohjocokiaaCuLists
import Derived.Test.YtdngaohjocokiaaRows
import Derived.Test.YtdngaohjocokiaaShelf
import Derived.BigQuiet
import Derived.Deep.AppendLies
import Derived.Deep.QuietTactic
import Derived.Deep.RegionLaw
import Derived.Deep.RegionWith
import Derived.KernelRfl
import Derived.Laws.CopyOwn
import Derived.Laws.EntriesVeiled
import Derived.Lib.ConvBytes
import Derived.Lib.Hide
import Derived.Lib.SlBytesRow
import Derived.Lib.SlicesCompact
import Derived.Lib.SmallJoins
import Derived.Shelf.Bytes.SlSmallAll
import Derived.Sort.Statements
import Derived.WalkKit
import Derived.WalkLawsBesides
import Derived.WalkSpells
namespace Go.Proofs.Ytdngaohjocokiaa
open Go Go.RowKit Go.Joins

/-- A clause of each literal. -/
def unitsZ (G : List Int) : List (List Int) := G.map fun x => [x]
theorem unitsZ_snoc (G : List Int) (k : Nat) (h : k < G.length) : unitsZ (G.take (k + 1)) = unitsZ (G.take k) ++ [[G.getD k 0]] := by
  unfold unitsZ
  rw [List.take_succ_eq_append_getElem h, List.map_append]
  simp [List.getD, List.getElem?_eq_getElem h]
theorem isAny_one (ss : List ZSlc) : ∀ u ∈ ss.map zsV, u.oneCell' = true := fun u hu => by
  obtain ⟨z, _, rfl⟩ := List.mem_map.1 hu
  rfl
theorem sees_lit_g (w : World) (g : Nat) (hg : g = w.heap.size) (s : ZSlc) : Sees (w.alloc (.cells #[zsV s] 23)) (some ⟨g, 0, none⟩) 1 1 [zsV s] := by
  subst hg
  exact sees_lit w _ _ _ _ 1 rfl rfl
set_option maxRecDepth 100000 in
set_option maxHeartbeats 6400000 in
theorem units_any (L : List (List Int)) (G : List Int) (a ag : Option Addr) (n c ng cg : Nat) (ss : List ZSlc) (w : World) (h : SeesZ w a n c ss L) (hg : Sees w ag ng cg (zvs G)) (hn : n ≤ 1000000) (hng : ng ≤ 100000000) :
    Calls Try.prog 18 #[.slice a n c, .slice ag ng cg] w fun e w' => ∃ a' n' c' ss', e = .returned (.slice a' n' c') ∧ SeesZ w' a' n' c' ss' (L ++ unitsZ G) ∧ n' = n + ng ∧ Below w.heap.size w w' := by
  obtain ⟨i1, hi1, hz01, hz11, hz21⟩ := info_parts info_ints
  have HS := Lib.hid h
  have HG := Lib.hid hg
  have HL := Lib.hid h.zlen
  have HLG := Lib.hid hg.zlen
  have HSL : Hid (ss.length = n) := h.len.trans h.zlen
  clear h hg
  go_enter Try.func18, Try.ntmps18
  go_wp2_with (at_builtin; refine wpList_append_row (fun _ => True) _ rfl _ _ 22 rfl w.heap.size 23 i1 (.slice none 0 0) 24 Try.underlying22 hi1 hz01 hz11 hz21 rfl trivial (.slice none 0 0) 0 [] rfl (Row.nil _ _ _ _) a n c (ss.map zsV) rfl HS.out.row (isAny_one ss) (fun _ _ => trivial) ?c1 ?c2 ?c3 ?_)
  case c1 => unfold maxLen; omega
  case c2 => omega
  case c3 => exact Nat.le_refl _
  intro v1 w1 hr1 hg1 _
  have HA1 : Hid (ListsZ w v1 ss L w1) := ListsZ.all HS.out ((Below.refl _ w).grown hg1 (Nat.le_refl _) (fun j hj => by cases hj)) (by rw [HSL.out]; exact hr1)
  clear hr1 hg1
  go_wp2
  go_loopw [6, 5] (fun i u wr => ∃ (k : Nat) (v : Value) (us : List ZSlc), k ≤ ng ∧ i = .int .i64 k ∧ u = v ∧ Hid (ListsZ w v us (L ++ unitsZ (G.take k)) wr) ∧ Hid (us.length = n + k)) (fun i _ _ => ng - (intOf i).toNat)
  case atStart => exact ⟨0, v1, ss, Nat.zero_le _, rfl, rfl, (show ListsZ w v1 ss (L ++ unitsZ (G.take 0)) w1 by simpa [unitsZ] using HA1.out), HSL.out⟩
  case round =>
    obtain ⟨k, v, us, hk, rfl, hu, hA, hU⟩ := hrel
    obtain rfl := hu.symm
    by_cases hlt : k < ng
    · obtain ⟨b, off, rfl, _⟩ := HG.out.addr (show 0 < ng by omega)
      have hc := (HG.out.below hA.out.bel).z_at k hlt
      obtain ⟨x, hx⟩ : ∃ x, x = G.getD k 0 := ⟨_, rfl⟩
      have HX : Hid (unitsZ (G.take (k + 1)) = unitsZ (G.take k) ++ [[x]]) := by rw [hx]; exact unitsZ_snoc G k (by rw [HLG.out]; exact hlt)
      rw [← hx] at hc
      have hI1 : ((k : Nat) : Int) < (ng : Int) := by omega
      have hI2 : (0 : Int) ≤ (k : Int) := by omega
      have W1 : IntKind.i64.wrap ((k : Int) + 1) = (k : Int) + 1 := IntWalk.i64_in _ (by omega)
      have HA := Lib.hid hA.out
      have HU := Lib.hid hU.out
      have HSZ := Lib.hid hA.out.bel.size
      clear hx hA hU
      go_wp2_with (at_builtin; refine wpList_append_row (fun _ => True) _ rfl _ _ 22 rfl w.heap.size 23 i1 (.slice none 0 0) 24 Try.underlying22 hi1 hz01 hz11 hz21 rfl trivial v us.length (us.map zsV) rfl (HA.out.row.below (ext_trans (ext_alloc _ _) (ext_alloc _ _))) (some ⟨wr.heap.size + 1, 0, none⟩) 1 1 [.slice (some ⟨wr.heap.size, 0, none⟩) 1 1] rfl (sees_lit_g (wr.alloc (.cells #[.int .i64 x] 3)) (wr.heap.size + 1) (by rw [World.size_alloc]) (some ⟨wr.heap.size, 0, none⟩, 1, 1)) (by intro u hu; simp at hu; subst hu; rfl) (fun _ _ => trivial) ?c1 ?c2 ?c3 ?_)
      case c1 => have := HU.out; unfold maxLen; omega
      case c2 => have := HU.out; omega
      case c3 => have := HSZ.out; simp; omega
      intro v2 w2 hr2 hg2 _
      have HN : Hid (ListsZ w v2 (us ++ [(some ⟨wr.heap.size, 0, none⟩, 1, 1)]) (L ++ unitsZ (G.take (k + 1))) w2) := by
        show ListsZ _ _ _ _ _
        rw [HX.out, ← List.append_assoc]
        refine HA.out.more (ext_trans (ext_alloc _ _) (ext_alloc _ _)) ((oneZ_lit HSZ.out x).imp id (fun hr => hr.below (ext_alloc _ _))) hr2 hg2
      have HU2 : Hid ((us ++ [((some ⟨wr.heap.size, 0, none⟩, 1, 1) : ZSlc)]).length = n + (k + 1)) := by show _ = _; rw [List.length_append, HU.out]; rfl
      obtain ⟨us2, hus2⟩ : ∃ us2 : List ZSlc, us2 = us ++ [(some ⟨wr.heap.size, 0, none⟩, 1, 1)] := ⟨_, rfl⟩
      rw [← hus2] at HN HU2
      clear hr2 hg2 hus2
      go_wp2
      go_roundw
      case rel => exact ⟨k + 1, v2, us2, by omega, by go_num, rfl, HN.out, HU2.out⟩
      case measure => simp [intOf]; omega
    · obtain rfl : k = ng := by omega
      have hA2 := hA.out
      have e : G.take k = G := by rw [← HLG.out, List.take_length]
      rw [e] at hA2
      obtain ⟨ea, ec, rfl, hz⟩ := hA2.done
      have hln : (L ++ unitsZ G).length = n + k := by rw [List.length_append, HL.out]; simp [unitsZ, HLG.out]
      obtain ⟨m, hm⟩ : ∃ m, m = (L ++ unitsZ G).length := ⟨_, rfl⟩
      rw [← hm] at hz hln ⊢
      have HZ := Lib.hid hz
      have HBE := Lib.hid hA2.bel
      have HLN := Lib.hid hln
      clear hz hA2 hA hU hm hln e
      go_wp2
      go_ret
      exact ⟨ea, m, ec, us, rfl, HZ.out, HLN.out, HBE.out⟩
end Go.Proofs.Ytdngaohjocokiaa
