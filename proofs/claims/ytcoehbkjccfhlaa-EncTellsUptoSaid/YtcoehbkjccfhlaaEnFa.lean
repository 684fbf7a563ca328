/- enc.Fails, by its contract. -/
import Derived.Test.YtcoehbkjccfhlaaGEncT00
import Derived.Test.YtcoehbkjccfhlaaGEncT12
import Derived.Test.YtcoehbkjccfhlaaGEncT01
import Derived.Test.YtcoehbkjccfhlaaGEncT06
import Derived.Test.YtcoehbkjccfhlaaGEncT03
import Derived.Test.YtcoehbkjccfhlaaGEncT02
import Derived.Test.YtcoehbkjccfhlaaGEncT07
import Derived.Test.YtcoehbkjccfhlaaGEncT05
import Derived.Test.YtcoehbkjccfhlaaGEncT11
import Derived.Test.YtcoehbkjccfhlaaEnSmall
import Derived.Test.YtcoehbkjccfhlaaEnOf
import Derived.Test.YtcoehbkjccfhlaaEnLim
import Derived.Test.YtcoehbkjccfhlaaRows
import Derived.BigQuiet
import Derived.Deep.AppendLies
import Derived.Deep.CutRange
import Derived.Deep.QuietTactic
import Derived.Deep.RegionHeld3
import Derived.Deep.RegionLaw
import Derived.Deep.RegionWith
import Derived.KernelRfl
import Derived.Laws.EntriesVeiled
import Derived.Laws.Tables
import Derived.Lib.ConvBytes
import Derived.Lib.Hide
import Derived.Lib.SlBytesRow
import Derived.Lib.SmallJoins
import Derived.Maps.AppendAt
import Derived.OrdersHeld
import Derived.Shelf.Bytes.SlSmallAll
import Derived.WalkKit
import Derived.WalkLawsBesides
import Derived.WalkSpells
namespace Go.Proofs.Ytcoehbkjccfhlaa
open Go Go.RowKit Go.Joins

/-- Nothing old has turned but rows of elements of type T. -/
structure KeepT (T : TypeId) (w w' : World) : Prop where
  os : w'.os = w.os
  tape : w'.tape = w.tape
  output : w'.output = w.output
  size : w.heap.size ≤ w'.heap.size
  block : ∀ (D : Nat) (C : Array Value) (t : TypeId) (fr : Nat × Nat), w.heap[D]? = some (Obj.cells C t fr) → t ≠ T → w'.heap[D]? = some (Obj.cells C t fr)
section
variable {T : TypeId} {w w' w2 : World}
theorem KeepT.refl (T : TypeId) (w : World) : KeepT T w w := ⟨rfl, rfl, rfl, Nat.le_refl _, fun _ _ _ _ h _ => h⟩
theorem KeepT.trans (h : KeepT T w w') (k : KeepT T w' w2) : KeepT T w w2 :=
  ⟨k.os.trans h.os, k.tape.trans h.tape, k.output.trans h.output, Nat.le_trans h.size k.size, fun D C t fr h1 h2 => k.block D C t fr (h.block D C t fr h1 h2) h2⟩
theorem KeepT.below (h : Below w.heap.size w w') : KeepT T w w' := ⟨h.os, h.tape, h.output, h.size, fun _ _ _ _ h1 _ => heap_below h1 h⟩
theorem KeepT.grown {ok : Value → Prop} {base : Nat} {v : Value} {n : Nat} {xs : List Value} (hr : Row ok w base T v n xs) (hg : w.grownBy w' v.ownBlock) : KeepT T w w' :=
  ⟨hg.os, hg.tape, hg.output, hg.size, fun D C t fr h1 h2 => heap_grown h1 hg (fun e => by
    rcases hr.2 with ⟨rfl, _⟩ | ⟨g, cap, cur, rfl, _, hg2, _⟩
    · cases e
    · have : g = D := by simpa [Value.ownBlock] using e
      subst this
      rw [h1] at hg2
      cases hg2
      exact h2 rfl)⟩
end
def badOk (c : NormC) (bad : Int) : Bool := decide (0 ≤ bad) && decide (bad < (c.bads.length : Int))
/-- What must hold in frame f. -/
def consE (c : NormC) (f : Nat) : List Int := c.cons.map (fun x => litE (varsN c) x f)
def mustE (c : NormC) (b nf : Nat) : List Int := upE (consE c) nf ++ [litE (varsN c) (c.bads.getD b 0) (nf - 1)]
def faA (c : NormC) (bad z : Int) : List Int × Nat := if badOk c bad then (if ofOk c z then (if manyE c z.toNat ≤ 1048576 then (mustE c bad.toNat z.toNat, 0) else ([], 3)) else ([], 2)) else ([], 2)
def FaE (c : NormC) (bad z : Int) (w : World) (e : Ending) (w' : World) : Prop :=
  Below w.heap.size w w' ∧ ∃ a n k, e = .returned (.tuple #[.slice a n k, .int .i64 ((faA c bad z).2 : Nat)]) ∧ Sees w' a n k (zvs (faA c bad z).1)
theorem zvs_append (a b : List Int) : zvs (a ++ b) = zvs a ++ zvs b := by simp [zvs]
theorem isZ_zero14 : isZ (.int .i64 0) := ⟨0, rfl⟩
theorem sees_oneI (W : World) (z : Int) : Sees (W.alloc (.cells #[.int .i64 z] 3)) (some ⟨W.heap.size, 0, none⟩) 1 1 (zvs [z]) := sees_lit W _ _ _ _ 1 rfl rfl
theorem zvs_one1 (z : Int) : ∀ u ∈ zvs [z], u.oneCell' = true := zvs_one [z]
theorem take_snocZ14 (l : List Nat) (g : Nat → Int) (k : Nat) (h : k < l.length) : (l.take (k + 1)).map g = (l.take k).map g ++ [g (l.getD k 0)] := by
  rw [List.take_succ_eq_append_getElem h, List.map_append]
  simp [List.getD, List.getElem?_eq_getElem h]

set_option maxRecDepth 100000 in
set_option maxHeartbeats 6400000 in
theorem fails14_any (c : NormC) (s : CSlots) (bad z : Int) (w : World) (h : SeesCir w s c) (hs : s.small) (hlo : -9223372036854775808 ≤ c.ins) (hhi : c.ins < 9223372036854775808) :
    Calls Try.prog 17 #[cirV c.ins s, .int .i64 bad, .int .i64 z] w (FaE c bad z w) := by
  obtain ⟨i0, hi0, hz0, hz1, hz2⟩ := info_parts info_int
  have HMK := Lib.hid (fun (m : Nat) (hm : m ≤ 1048576) (y : Int) (hy : y = (m : Int)) W => run_make_cap (P := Try.prog) Try.underlying45 hi0 hz0 hz1 hz2 rfl m y hy (by omega) (by omega) W)
  have HBD := Lib.hid (fun W => hasBad_any c s bad W h.s4.lenMap)
  have HLM := Lib.hid (fun W (hb : Below w.heap.size w W) => limited_any c s z W (h.below hb) hs hlo hhi)
  have HLI := Lib.hid (fun (ho : ofOk c z = true) W (x f : Nat) (hx : x ≤ 2 * varsN c + 1) (hf : f ≤ 256) => ulit_any c.ins s (varsN c) z.toNat x f (ofOk_iff ho).1.few hx hf W)
  have A1 : Hid (badOk c bad = true → ofOk c z = true → manyE c z.toNat ≤ 1048576 → faA c bad z = (mustE c bad.toNat z.toNat, 0)) := fun h0 h1 h2 => by unfold faA; rw [if_pos h0, if_pos h1, if_pos h2]
  have A2 : Hid (badOk c bad = true → ofOk c z = true → 1048576 < manyE c z.toNat → faA c bad z = ([], 3)) := fun h0 h1 h2 => by unfold faA; rw [if_pos h0, if_pos h1, if_neg (by omega)]
  have A3 : Hid (badOk c bad = true → ofOk c z = false → faA c bad z = ([], 2)) := fun h0 h1 => by unfold faA; rw [if_pos h0, if_neg (by rw [h1]; simp)]
  have A4 : Hid (badOk c bad = false → faA c bad z = ([], 2)) := fun h1 => by unfold faA; rw [if_neg (by rw [h1]; simp)]
  have HOK := Lib.hid (fun (ho : ofOk c z = true) => ofOk_iff ho)
  have HS4 := Lib.hid h.s4
  have HS5 := Lib.hid h.s5
  have l5 : c.cons.length = s.n5 := h.s5.lenMap
  have l4 : c.bads.length = s.n4 := h.s4.lenMap
  have HS5s := Lib.hid hs
  clear h hs hlo hhi
  obtain ⟨a1, n1, c1, a2, n2, c2, a3, n3, c3, a4, n4, c4, a5, n5, c5⟩ := s
  simp only at HS4 HS5 l4 l5
  obtain ⟨A, hA⟩ : ∃ A, A = faA c bad z := ⟨_, rfl⟩
  unfold FaE
  rw [← hA]
  rw [← hA] at A1 A2 A3 A4
  obtain ⟨x, hx⟩ : ∃ x, x = c.ins := ⟨_, rfl⟩
  unfold LimE at HLM
  rw [← hx]
  rw [← hx] at HBD HLM HLI
  obtain ⟨bo, hbo⟩ : ∃ o, o = badOk c bad := ⟨_, rfl⟩
  have hbd2 : (decide (0 ≤ bad) && decide (bad < (c.bads.length : Int))) = bo := by rw [hbo]; rfl
  rw [hbd2] at HBD
  rw [← hbo] at A1 A2 A3 A4
  have HBO := Lib.hid hbo
  clear hx hbo hbd2 hA
  unfold cirV at *
  unfold uV at *
  go_enter Try.func17, Try.ntmps17
  go_upto_region 1 with fail
  generalize hW : World.alloc w _ = W2
  have hX : W2.heap[w.heap.size]? = some (.cells #[.int .i64 x, .slice a1 n1 c1, .slice a2 n2 c2, .slice a3 n3 c3, .slice a4 n4 c4, .slice a5 n5 c5] 26 (0, 0)) := by subst hW; exact heap_new _ _ _ rfl
  have hB : Below w.heap.size w W2 := by subst hW; exact ext_alloc _ _
  have HX := Lib.hid hX
  have HB := Lib.hid hB
  clear hW hX hB
  have p0 := cell_of_block HX.out 0
  have p1 := cell_of_block HX.out 1
  have p2 := cell_of_block HX.out 2
  have p3 := cell_of_block HX.out 3
  have p4 := cell_of_block HX.out 4
  have p5 := cell_of_block HX.out 5
  go_wp2_with fail
  refine (HBD.out W2).mono ?_
  rintro e W3 ⟨rfl, hb⟩
  have HX3 := Lib.hid (heap_below HX.out hb)
  have HB3 := Lib.hid (ext_trans HB.out hb)
  clear p0 p1 p2 p3 p4 p5 hb HX HB HBD
  cases bo with
  | false =>
    have HA := Lib.hid (A4.out (by trivial))
    clear A1 A2 A3 A4 HLM HLI HOK HMK
    go_wp2
    refine bodyPost_ret (v := .tuple #[.slice none 0 0, .int .i64 2]) ?_ rfl ?_
    · simp [results, Try.results17, go_sem]
    · refine ⟨HB3.out, none, 0, 0, by rw [HA.out]; rfl, ?_⟩
      rw [HA.out]; exact Sees.nil _ _ _ (fun _ => rfl)
  | true =>
  have p0 := cell_of_block HX3.out 0
  have p1 := cell_of_block HX3.out 1
  have p2 := cell_of_block HX3.out 2
  have p3 := cell_of_block HX3.out 3
  have p4 := cell_of_block HX3.out 4
  have p5 := cell_of_block HX3.out 5
  go_wp2_with fail
  refine (HLM.out W3 HB3.out).mono ?_
  rintro e W4 ⟨hb, hcase⟩
  have HX4 := Lib.hid (heap_below HX3.out hb)
  have HB4 := Lib.hid (ext_trans HB3.out hb)
  clear p0 p1 p2 p3 p4 p5 hb HX3 HB3 HLM
  rcases hcase with ⟨ho, hm, rfl⟩ | ⟨ho, hm, rfl⟩ | ⟨ho, rfl⟩
  · have HA := Lib.hid (A1.out (by trivial) ho hm)
    have HLI2 := Lib.hid (HLI.out ho)
    have hok := HOK.out ho
    obtain ⟨hM, hf1, hf2, hzz⟩ := hok
    have hcons := hM.cons
    have hcl := hM.lens.2.2
    have hbads := hM.bads
    obtain ⟨V, hV⟩ : ∃ V, V = varsN c := ⟨_, rfl⟩
    obtain ⟨nf, hnf⟩ : ∃ n, n = z.toNat := ⟨_, rfl⟩
    rw [← hnf] at hzz hf1 hf2 hm HA
    rw [← hV, ← hnf] at HLI2
    rw [← hV] at hcons hbads
    rw [← hV, ← hnf]
    have hb0 := HBO.out
    have hbb : 0 ≤ bad ∧ bad < (c.bads.length : Int) := by unfold badOk at hb0; simpa using hb0.symm
    obtain ⟨b, rfl⟩ := Int.eq_ofNat_of_zero_le hbb.1
    have hbn : b < n4 := by rw [← l4]; omega
    subst hzz
    have HMU : Hid (mustE c b nf = upE (consE c) nf ++ [litE V (c.bads.getD b 0) (nf - 1)]) := by rw [hV]; rfl
    have HCE : Hid (∀ f, consE c f = c.cons.map (fun x => litE V x f)) := fun f => by rw [hV]; rfl
    have hby : c.bads.getD b 0 ≤ 2 * V + 1 := hbads _ (getD_mem (by rw [l4]; exact hbn))
    obtain ⟨y, hy⟩ : ∃ y, y = c.bads.getD b 0 := ⟨_, rfl⟩
    rw [← hy] at HMU hby
    obtain ⟨b4, o4, rfl, hb4⟩ := HS4.out.addr (by omega)
    have hcy := HS4.out.num b hbn
    rw [← hy] at hcy
    obtain ⟨q, hq⟩ : ∃ q, q = n5 * nf := ⟨_, rfl⟩
    have hn5 : n5 ≤ 1024 := by omega
    have hq2 : q ≤ 262144 := by rw [hq]; exact Nat.mul_le_mul hn5 hf2
    have HLN : Hid (∀ k, k ≤ nf → (upE (consE c) k).length ≤ 262144) := fun k hk => by
      have h1 := upE_len (consE c) 1024 k (fun i _ => by rw [HCE.out]; simp; omega)
      have h2 : k * 1024 ≤ 256 * 1024 := Nat.mul_le_mul_right _ (by omega)
      omega
    have HCO := Lib.hid hcons
    have HL5 := Lib.hid l5
    have HYY : Hid (y ≤ 2 * V + 1) := hby
    have HBY := Lib.hid hcy
    obtain ⟨ff, hff⟩ : ∃ n, n = nf - 1 := ⟨_, rfl⟩
    rw [← hff] at HMU
    have WM : IntKind.i64.wrap ((nf : Int) - 1) = (ff : Int) := by rw [show (nf : Int) - 1 = (ff : Int) by omega]; exact IntWalk.i64_in _ (by omega)
    have hff2 : ff ≤ 256 := by omega
    have WQ : IntKind.i64.wrap ((n5 : Int) * (nf : Int)) = (q : Int) := by rw [show (n5 : Int) * (nf : Int) = (q : Int) by rw [hq]; simp]; exact IntWalk.i64_in _ (by omega)
    have WQ1 : IntKind.i64.wrap ((q : Int) + 1) = (q : Int) + 1 := IntWalk.i64_in _ (by omega)
    have mk := HMK.out (q + 1) (by omega) ((q : Int) + 1) (by omega)
    clear hb0 HBO HOK A1 A2 A3 A4 HLI HMK hM hf1 hcl hbads hV hnf hm ho hbb l4 l5 hq hby hcons hff hcy hy hb4 HS5s
    go_upto_region 6 with fail
    generalize hW : World.alloc W4 _ = W5
    have hU : W5.heap[W4.heap.size]? = some (.cells #[.int .i64 x, .slice a1 n1 c1, .slice a2 n2 c2, .slice a3 n3 c3, .slice (some ⟨b4, o4, none⟩) n4 c4, .slice a5 n5 c5, .int .i64 (V : Int), .int .i64 (nf : Int)] 67 (0, 0)) := by subst hW; exact heap_new _ _ _ rfl
    have hX : W5.heap[w.heap.size]? = some (.cells #[.int .i64 x, .slice a1 n1 c1, .slice a2 n2 c2, .slice a3 n3 c3, .slice (some ⟨b4, o4, none⟩) n4 c4, .slice a5 n5 c5] 26 (0, 0)) := by subst hW; exact heap_below HX4.out (ext_alloc _ _)
    have hB : Below w.heap.size w W5 := by subst hW; exact ext_trans HB4.out (ext_alloc _ _)
    have HU := Lib.hid hU
    have HX := Lib.hid hX
    have HB := Lib.hid hB
    clear hW hU hX hB HX4 HB4
    have p5 := cell_of_block HX.out 5
    go_upto_region 7 with fail
    generalize hW : World.alloc W5 _ = W6
    have hrow : Row isZ W6 w.heap.size 3 (.slice (some ⟨W5.heap.size, 0, none⟩) 0 (q + 1)) 0 (zvs []) := by subst hW; exact Row.made_at (zeros (.int .i64 0) (q + 1)) 0 _ _ _ rfl (by rw [size_zeros]) (by simp [zvs]) HB.out.size (by rw [size_zeros]; unfold maxLen; omega) (Nat.zero_le _) (fun u hu => by rw [List.eq_of_mem_replicate (show u ∈ List.replicate (q + 1) (Value.int .i64 0) by simpa [zeros] using hu)]; exact isZ_zero14)
    have hk : KeepT 3 W5 W6 := by subst hW; exact KeepT.below (ext_alloc _ _)
    have hB : Below w.heap.size w W6 := by subst hW; exact ext_trans HB.out (ext_alloc _ _)
    have HR6 := Lib.hid hrow
    have HK6 := Lib.hid hk
    have HB6 := Lib.hid hB
    clear hW hrow hk hB p5 mk
    go_wp2_with fail
    go_loopw [35, 10] (fun f v wr => ∃ k : Nat, k ≤ nf ∧ f = .int .i64 k ∧ Hid (Row isZ wr w.heap.size 3 v (upE (consE c) k).length (zvs (upE (consE c) k))) ∧ Hid (KeepT 3 W5 wr) ∧ Hid (Below w.heap.size w wr)) (fun f _ _ => nf - (intOf f).toNat)
    case atStart => exact ⟨0, Nat.zero_le _, rfl, by rw [upE_zero]; exact HR6.out, HK6.out, HB6.out⟩
    case round =>
      obtain ⟨k, hk, rfl, hR, hK, hB⟩ := hrel
      by_cases hlt : k < nf
      · have W8 : IntKind.i64.wrap ((k : Int) + 1) = (k : Int) + 1 := IntWalk.i64_in _ (by omega)
        have HLK : Hid ((upE (consE c) k).length ≤ 262144) := HLN.out k hk
        have p5 : wr.cell? ⟨w.heap.size, 5, none⟩ = some (.slice a5 n5 c5) := cell_of_block (hK.out.block _ _ _ _ HX.out (by decide)) 5
        have HR := Lib.hid hR.out
        have HK := Lib.hid hK.out
        have HBw := Lib.hid hB.out
        clear hR hK hB
        obtain ⟨Lk, hLk⟩ : ∃ l, l = upE (consE c) k := ⟨_, rfl⟩
        rw [← hLk] at HR HLK
        have HLKE := Lib.hid hLk
        clear hLk
        have hk256 : k ≤ 256 := by omega
        have HNXT : Hid (upE (consE c) (k + 1) = Lk ++ (c.cons.take n5).map (fun x => litE V x k)) := by show _ = _; rw [upE_succ, ← HLKE.out, HCE.out, ← HL5.out, List.take_length]
        go_wp2_with fail
        go_loopw [41, 10] (fun j v wr => ∃ i : Nat, i ≤ n5 ∧ j = .int .i64 i ∧ Hid (Row isZ wr w.heap.size 3 v (Lk ++ (c.cons.take i).map (fun x => litE V x k)).length (zvs (Lk ++ (c.cons.take i).map (fun x => litE V x k)))) ∧ Hid (KeepT 3 W5 wr) ∧ Hid (Below w.heap.size w wr)) (fun j _ _ => n5 - (intOf j).toNat)
        case atStart => exact ⟨0, Nat.zero_le _, rfl, by show Row _ _ _ _ _ _ _; simpa using HR.out, HK.out, HBw.out⟩
        case round =>
          obtain ⟨i, hi, rfl, hR, hK, hB⟩ := hrel
          by_cases hlt2 : i < n5
          · obtain ⟨b5, o5, rfl, hb5⟩ := HS5.out.addr (by omega)
            have hcx := (HS5.out.below hB.out).num i hlt2
            have hxx := HCO.out (c.cons.getD i 0) (getD_mem (by rw [HL5.out]; exact hlt2))
            have hsn := take_snocZ14 c.cons (fun x => litE V x k) i (by rw [HL5.out]; exact hlt2)
            obtain ⟨xx, hx⟩ : ∃ x, x = c.cons.getD i 0 := ⟨_, rfl⟩
            rw [← hx] at hcx hxx hsn
            have HC := Lib.hid (fun W => HLI2.out W xx k hxx hk256)
            obtain ⟨zz, hz⟩ : ∃ z, z = litE V xx k := ⟨_, rfl⟩
            simp only [← hz] at HC hsn
            have hll : ((c.cons.take i).map (fun x => litE V x k)).length ≤ 1024 := by simp; omega
            obtain ⟨Li, hLi⟩ : ∃ l, l = Lk ++ (c.cons.take i).map (fun x => litE V x k) := ⟨_, rfl⟩
            have HLI3 : Hid (Li.length ≤ 300000) := by show _ ≤ _; rw [hLi, List.length_append]; have := HLK.out; omega
            rw [← hLi] at hR
            have HNI : Hid (Lk ++ (c.cons.take (i + 1)).map (fun x => litE V x k) = Li ++ [zz]) := by show _ = _; rw [hsn, hLi, List.append_assoc]
            have HR2 := Lib.hid hR.out
            have HK2 := Lib.hid hK.out
            have HB2 := Lib.hid hB.out
            have HUr := Lib.hid (hK.out.block _ _ _ _ HU.out (by decide))
            clear hx hz hLi hll hsn hxx hR hK hB hb5
            have W9 : IntKind.i64.wrap ((i : Int) + 1) = (i : Int) + 1 := IntWalk.i64_in _ (by omega)
            have p_0 : wr.cell? ⟨W4.heap.size, 0, none⟩ = some (.int .i64 x) := cell_of_block HUr.out 0
            have p_1 : wr.cell? ⟨W4.heap.size, 1, none⟩ = some (.slice a1 n1 c1) := cell_of_block HUr.out 1
            have p_2 : wr.cell? ⟨W4.heap.size, 2, none⟩ = some (.slice a2 n2 c2) := cell_of_block HUr.out 2
            have p_3 : wr.cell? ⟨W4.heap.size, 3, none⟩ = some (.slice a3 n3 c3) := cell_of_block HUr.out 3
            have p_4 : wr.cell? ⟨W4.heap.size, 4, none⟩ = some (.slice (some ⟨b4, o4, none⟩) n4 c4) := cell_of_block HUr.out 4
            have p_5 : wr.cell? ⟨W4.heap.size, 5, none⟩ = some (.slice (some ⟨b5, o5, none⟩) n5 c5) := cell_of_block HUr.out 5
            have p_6 : wr.cell? ⟨W4.heap.size, 6, none⟩ = some (.int .i64 (V : Int)) := cell_of_block HUr.out 6
            have p_7 : wr.cell? ⟨W4.heap.size, 7, none⟩ = some (.int .i64 (nf : Int)) := cell_of_block HUr.out 7
            go_wp2_with fail
            refine (HC.out wr).mono ?_
            rintro e w5 ⟨rfl, hb⟩
            have HR3 := Lib.hid ((HR2.out.below hb).below (ext_alloc w5 (.cells #[.int .i64 zz] 3)))
            have HK3 := Lib.hid (HK2.out.trans (KeepT.below (ext_trans hb (ext_alloc w5 (.cells #[.int .i64 zz] 3)))))
            have HB3 := Lib.hid (ext_trans HB2.out (ext_trans hb (ext_alloc w5 (.cells #[.int .i64 zz] 3))))
            clear hb hcx p_0 p_1 p_2 p_3 p_4 p_5 p_6 p_7
            have h9 := HLI3.out
            go_wp2_with (at_builtin; refine wpList_append_row isZ _ rfl _ _ 45 rfl w.heap.size 3 i0 (.int .i64 0) 8 Try.underlying45 hi0 hz0 hz1 hz2 rfl isZ_zero14 _ Li.length (zvs Li) rfl HR3.out (some ⟨w5.heap.size, 0, none⟩) 1 1 (zvs [zz]) rfl (sees_oneI w5 zz) (zvs_one1 zz) (isZ_zvs [zz]) ?c1 ?c2 ?c3 ?_)
            case c1 => unfold maxLen; omega
            case c2 => omega
            case c3 => exact HB3.out.size
            intro v' w6 hrow hg _
            have HR4 : Hid (Row isZ w6 w.heap.size 3 v' (Lk ++ (c.cons.take (i + 1)).map (fun x => litE V x k)).length (zvs (Lk ++ (c.cons.take (i + 1)).map (fun x => litE V x k)))) := by show Row _ _ _ _ _ _ _; rw [HNI.out, List.length_append, zvs_append]; exact hrow
            have HK4 := Lib.hid (HK3.out.trans (KeepT.grown HR3.out hg))
            have HB4 := Lib.hid (HB3.out.grown hg HB3.out.size (fun j hj => (HR3.out.own.lt j hj).1))
            clear hrow hg h9
            go_wp2
            go_roundw
            case rel => exact ⟨i + 1, by omega, by go_num, HR4.out, HK4.out, HB4.out⟩
            case measure => simp [intOf]; omega
          · obtain rfl : i = n5 := by omega
            have hR3 := hR.out
            rw [← HNXT.out] at hR3
            have HR3 := Lib.hid hR3
            clear hR3
            have HK3 := Lib.hid hK.out
            have HB3 := Lib.hid hB.out
            clear hR hK hB p5
            go_wp2
            go_roundw
            case rel => exact ⟨k + 1, by omega, by go_num, HR3.out, HK3.out, HB3.out⟩
            case measure => simp [intOf]; omega
      · have hb4lt : b4 < w.heap.size := by obtain ⟨_, _, e, hlt4⟩ := HS4.out.addr (by omega); cases e; exact hlt4
        obtain rfl : nf = k := by omega
        have HR := Lib.hid hR.out
        have HK := Lib.hid hK.out
        have HBw := Lib.hid hB.out
        have HUr := Lib.hid (hK.out.block _ _ _ _ HU.out (by decide))
        have HXr := Lib.hid (hK.out.block _ _ _ _ HX.out (by decide))
        have HLK : Hid ((upE (consE c) nf).length ≤ 262144) := HLN.out nf (Nat.le_refl _)
        have HC := Lib.hid (fun W => HLI2.out W y ff HYY.out hff2)
        obtain ⟨zz, hz⟩ : ∃ z, z = litE V y ff := ⟨_, rfl⟩
        simp only [← hz] at HC
        rw [← hz] at HMU
        clear hz hR hB
        obtain ⟨Lk, hLk⟩ : ∃ l, l = upE (consE c) nf := ⟨_, rfl⟩
        rw [← hLk] at HR HLK HMU
        clear hLk
        have p_0 : wr.cell? ⟨W4.heap.size, 0, none⟩ = some (.int .i64 x) := cell_of_block HUr.out 0
        have p_1 : wr.cell? ⟨W4.heap.size, 1, none⟩ = some (.slice a1 n1 c1) := cell_of_block HUr.out 1
        have p_2 : wr.cell? ⟨W4.heap.size, 2, none⟩ = some (.slice a2 n2 c2) := cell_of_block HUr.out 2
        have p_3 : wr.cell? ⟨W4.heap.size, 3, none⟩ = some (.slice a3 n3 c3) := cell_of_block HUr.out 3
        have p_4 : wr.cell? ⟨W4.heap.size, 4, none⟩ = some (.slice (some ⟨b4, o4, none⟩) n4 c4) := cell_of_block HUr.out 4
        have p_5 : wr.cell? ⟨W4.heap.size, 5, none⟩ = some (.slice a5 n5 c5) := cell_of_block HUr.out 5
        have p_6 : wr.cell? ⟨W4.heap.size, 6, none⟩ = some (.int .i64 (V : Int)) := cell_of_block HUr.out 6
        have p_7 : wr.cell? ⟨W4.heap.size, 7, none⟩ = some (.int .i64 (nf : Int)) := cell_of_block HUr.out 7
        have p_8 : wr.cell? ⟨w.heap.size, 4, none⟩ = some (.slice (some ⟨b4, o4, none⟩) n4 c4) := cell_of_block HXr.out 4
        have p_9 : wr.cell? ⟨b4, o4 + b, none⟩ = some (.int .u32 (y : Int)) := (HBw.out.cell hb4lt).trans HBY.out
        have I1 : (0 : Int) ≤ (b : Int) := by omega
        have I2 : (b : Int) < (n4 : Int) := by omega
        go_upto_region 16 with fail
        refine wp_region_noPanic ?_
        refine wp_region_held (S := fun w' => w'.cell? ⟨W4.heap.size, 0, none⟩ = some (.int .i64 x) ∧ w'.cell? ⟨W4.heap.size, 1, none⟩ = some (.slice a1 n1 c1) ∧ w'.cell? ⟨W4.heap.size, 2, none⟩ = some (.slice a2 n2 c2) ∧ w'.cell? ⟨W4.heap.size, 3, none⟩ = some (.slice a3 n3 c3) ∧ w'.cell? ⟨W4.heap.size, 4, none⟩ = some (.slice (some ⟨b4, o4, none⟩) n4 c4) ∧ w'.cell? ⟨W4.heap.size, 5, none⟩ = some (.slice a5 n5 c5) ∧ w'.cell? ⟨W4.heap.size, 6, none⟩ = some (.int .i64 (V : Int)) ∧ w'.cell? ⟨W4.heap.size, 7, none⟩ = some (.int .i64 (nf : Int)) ∧ w'.cell? ⟨w.heap.size, 4, none⟩ = some (.slice (some ⟨b4, o4, none⟩) n4 c4) ∧ w'.cell? ⟨b4, o4 + b, none⟩ = some (.int .u32 (y : Int))) (by kernel_rfl) ?_
        generalize hYY : ({ wr with drawn := wr.drawn + 1 } : World) = Y0
        have HY0 : Hid (Below wr.heap.size wr Y0) := by subst hYY; exact (Below.refl _ _).drew
        have HS0 : Hid (Y0.cell? ⟨W4.heap.size, 0, none⟩ = some (.int .i64 x) ∧ Y0.cell? ⟨W4.heap.size, 1, none⟩ = some (.slice a1 n1 c1) ∧ Y0.cell? ⟨W4.heap.size, 2, none⟩ = some (.slice a2 n2 c2) ∧ Y0.cell? ⟨W4.heap.size, 3, none⟩ = some (.slice a3 n3 c3) ∧ Y0.cell? ⟨W4.heap.size, 4, none⟩ = some (.slice (some ⟨b4, o4, none⟩) n4 c4) ∧ Y0.cell? ⟨W4.heap.size, 5, none⟩ = some (.slice a5 n5 c5) ∧ Y0.cell? ⟨W4.heap.size, 6, none⟩ = some (.int .i64 (V : Int)) ∧ Y0.cell? ⟨W4.heap.size, 7, none⟩ = some (.int .i64 (nf : Int)) ∧ Y0.cell? ⟨w.heap.size, 4, none⟩ = some (.slice (some ⟨b4, o4, none⟩) n4 c4) ∧ Y0.cell? ⟨b4, o4 + b, none⟩ = some (.int .u32 (y : Int))) := ⟨cell_below p_0 HY0.out, cell_below p_1 HY0.out, cell_below p_2 HY0.out, cell_below p_3 HY0.out, cell_below p_4 HY0.out, cell_below p_5 HY0.out, cell_below p_6 HY0.out, cell_below p_7 HY0.out, cell_below p_8 HY0.out, cell_below p_9 HY0.out⟩
        clear hYY
        clear p_0 p_1 p_2 p_3 p_4 p_5 p_6 p_7 p_8 p_9
        refine wpAnyH_take (i := 0) (v := ?_) (by simp only [List.getElem?_toArray, List.getElem?_cons_zero]; rfl) (by kernel_rfl) (by kernel_rfl) (by kernel_rfl) (fun _ _ _ h => h) (Or.inl ⟨by rfl, ?_⟩) HS0.out ?_
        rotate_left
        · intro w hSw
          (try dsimp only at hSw)
          obtain ⟨q0_, q1_, q2_, q3_, q4_, q5_, q6_, q7_, q8_, q9_⟩ := hSw
          go_simp
          try with_reducible rfl
        try simp only [Act.put, List.setIfInBounds_toArray, List.set_cons_zero, List.set_cons_succ]
        refine wpAnyH_take (i := 1) (v := ?_) (by simp only [List.getElem?_toArray, List.getElem?_cons_zero, List.getElem?_cons_succ]; rfl) (by kernel_rfl) (by kernel_rfl) (by kernel_rfl) (fun _ _ _ h => h) (Or.inl ⟨by rfl, ?_⟩) HS0.out ?_
        rotate_left
        · intro w hSw
          (try dsimp only at hSw)
          obtain ⟨q0_, q1_, q2_, q3_, q4_, q5_, q6_, q7_, q8_, q9_⟩ := hSw
          go_simp
          try with_reducible rfl
        try simp only [Act.put, List.setIfInBounds_toArray, List.set_cons_zero, List.set_cons_succ]
        refine wpAnyH_take (i := 2) (v := ?_) (by simp only [List.getElem?_toArray, List.getElem?_cons_zero, List.getElem?_cons_succ]; rfl) (by kernel_rfl) (by kernel_rfl) (by kernel_rfl) (fun _ _ _ h => h) (Or.inl ⟨by rfl, ?_⟩) HS0.out ?_
        rotate_left
        · intro w hSw
          (try dsimp only at hSw)
          obtain ⟨q0_, q1_, q2_, q3_, q4_, q5_, q6_, q7_, q8_, q9_⟩ := hSw
          go_simp
          try with_reducible rfl
        try simp only [Act.put, List.setIfInBounds_toArray, List.set_cons_zero, List.set_cons_succ]
        refine wpAnyH_take (i := 3) (v := ?_) (by simp only [List.getElem?_toArray, List.getElem?_cons_zero, List.getElem?_cons_succ]; rfl) (by kernel_rfl) (by kernel_rfl) (by kernel_rfl) (fun _ _ _ h => h) (Or.inl ⟨by rfl, ?_⟩) HS0.out ?_
        rotate_left
        · intro w hSw
          (try dsimp only at hSw)
          obtain ⟨q0_, q1_, q2_, q3_, q4_, q5_, q6_, q7_, q8_, q9_⟩ := hSw
          go_simp
          try with_reducible rfl
        try simp only [Act.put, List.setIfInBounds_toArray, List.set_cons_zero, List.set_cons_succ]
        refine wpAnyH_take (i := 4) (v := ?_) (by simp only [List.getElem?_toArray, List.getElem?_cons_zero, List.getElem?_cons_succ]; rfl) (by kernel_rfl) (by kernel_rfl) (by kernel_rfl) (fun _ _ _ h => h) (Or.inl ⟨by rfl, ?_⟩) HS0.out ?_
        rotate_left
        · intro w hSw
          (try dsimp only at hSw)
          obtain ⟨q0_, q1_, q2_, q3_, q4_, q5_, q6_, q7_, q8_, q9_⟩ := hSw
          go_simp
          try with_reducible rfl
        try simp only [Act.put, List.setIfInBounds_toArray, List.set_cons_zero, List.set_cons_succ]
        refine wpAnyH_take (i := 5) (v := ?_) (by simp only [List.getElem?_toArray, List.getElem?_cons_zero, List.getElem?_cons_succ]; rfl) (by kernel_rfl) (by kernel_rfl) (by kernel_rfl) (fun _ _ _ h => h) (Or.inl ⟨by rfl, ?_⟩) HS0.out ?_
        rotate_left
        · intro w hSw
          (try dsimp only at hSw)
          obtain ⟨q0_, q1_, q2_, q3_, q4_, q5_, q6_, q7_, q8_, q9_⟩ := hSw
          go_simp
          try with_reducible rfl
        try simp only [Act.put, List.setIfInBounds_toArray, List.set_cons_zero, List.set_cons_succ]
        refine wpAnyH_take (i := 6) (v := ?_) (by simp only [List.getElem?_toArray, List.getElem?_cons_zero, List.getElem?_cons_succ]; rfl) (by kernel_rfl) (by kernel_rfl) (by kernel_rfl) (fun _ _ _ h => h) (Or.inl ⟨by rfl, ?_⟩) HS0.out ?_
        rotate_left
        · intro w hSw
          (try dsimp only at hSw)
          obtain ⟨q0_, q1_, q2_, q3_, q4_, q5_, q6_, q7_, q8_, q9_⟩ := hSw
          go_simp
          try with_reducible rfl
        try simp only [Act.put, List.setIfInBounds_toArray, List.set_cons_zero, List.set_cons_succ]
        refine wpAnyH_take (i := 7) (v := ?_) (by simp only [List.getElem?_toArray, List.getElem?_cons_zero, List.getElem?_cons_succ]; rfl) (by kernel_rfl) (by kernel_rfl) (by kernel_rfl) (fun _ _ _ h => h) (Or.inl ⟨by rfl, ?_⟩) HS0.out ?_
        rotate_left
        · intro w hSw
          (try dsimp only at hSw)
          obtain ⟨q0_, q1_, q2_, q3_, q4_, q5_, q6_, q7_, q8_, q9_⟩ := hSw
          go_simp
          try with_reducible rfl
        try simp only [Act.put, List.setIfInBounds_toArray, List.set_cons_zero, List.set_cons_succ]
        refine wpAnyH_take (i := 8) (v := ?_) (by simp only [List.getElem?_toArray, List.getElem?_cons_zero, List.getElem?_cons_succ]; rfl) (by kernel_rfl) (by kernel_rfl) (by kernel_rfl) (fun _ _ _ h => h) (Or.inl ⟨by rfl, ?_⟩) HS0.out ?_
        rotate_left
        · intro w hSw
          (try dsimp only at hSw)
          obtain ⟨q0_, q1_, q2_, q3_, q4_, q5_, q6_, q7_, q8_, q9_⟩ := hSw
          go_simp
          try with_reducible rfl
        try simp only [Act.put, List.setIfInBounds_toArray, List.set_cons_zero, List.set_cons_succ]
        refine wpAnyH_ready (rs := [9]) (by kernel_rfl) (by simp) ?_
        refine AllReadyH.cons (by simp only [List.getElem?_toArray, List.getElem?_cons_zero, List.getElem?_cons_succ]; rfl) (fun K hK => ?_) AllReadyH.nil
        go_simp
        refine (HC.out _).mono ?_
        rintro e s1 ⟨rfl, b1⟩
        have HY1 := Lib.hid (ext_trans HY0.out b1)
        have HS1 : Hid (s1.cell? ⟨W4.heap.size, 0, none⟩ = some (.int .i64 x) ∧ s1.cell? ⟨W4.heap.size, 1, none⟩ = some (.slice a1 n1 c1) ∧ s1.cell? ⟨W4.heap.size, 2, none⟩ = some (.slice a2 n2 c2) ∧ s1.cell? ⟨W4.heap.size, 3, none⟩ = some (.slice a3 n3 c3) ∧ s1.cell? ⟨W4.heap.size, 4, none⟩ = some (.slice (some ⟨b4, o4, none⟩) n4 c4) ∧ s1.cell? ⟨W4.heap.size, 5, none⟩ = some (.slice a5 n5 c5) ∧ s1.cell? ⟨W4.heap.size, 6, none⟩ = some (.int .i64 (V : Int)) ∧ s1.cell? ⟨W4.heap.size, 7, none⟩ = some (.int .i64 (nf : Int)) ∧ s1.cell? ⟨w.heap.size, 4, none⟩ = some (.slice (some ⟨b4, o4, none⟩) n4 c4) ∧ s1.cell? ⟨b4, o4 + b, none⟩ = some (.int .u32 (y : Int))) := ⟨cell_below HS0.out.1 b1, cell_below HS0.out.2.1 b1, cell_below HS0.out.2.2.1 b1, cell_below HS0.out.2.2.2.1 b1, cell_below HS0.out.2.2.2.2.1 b1, cell_below HS0.out.2.2.2.2.2.1 b1, cell_below HS0.out.2.2.2.2.2.2.1 b1, cell_below HS0.out.2.2.2.2.2.2.2.1 b1, cell_below HS0.out.2.2.2.2.2.2.2.2.1 b1, cell_below HS0.out.2.2.2.2.2.2.2.2.2 b1⟩
        refine hK.out _ _ HS1.out (fun _ => ?_)
        clear hK K
        try simp only [Act.put, List.setIfInBounds_toArray, List.set_cons_zero, List.set_cons_succ]
        clear b1
        refine wpAnyH_ready (rs := [10]) (by kernel_rfl) (by simp) ?_
        refine AllReadyH.cons (by simp only [List.getElem?_toArray, List.getElem?_cons_zero, List.getElem?_cons_succ]; rfl) (fun K hK => ?_) AllReadyH.nil
        go_simp
        generalize hYV : World.alloc s1 _ = s2
        have HSE : Hid (Sees s2 (some ⟨s1.heap.size, 0, none⟩) 1 1 (zvs [zz])) := by subst hYV; exact sees_oneI s1 zz
        have HY2 : Hid (Below wr.heap.size wr s2) := by subst hYV; exact ext_trans HY1.out (ext_alloc _ _)
        have HYV : Hid (Below s1.heap.size s1 s2) := by subst hYV; exact ext_alloc _ _
        clear hYV
        have HS2 : Hid (s2.cell? ⟨W4.heap.size, 0, none⟩ = some (.int .i64 x) ∧ s2.cell? ⟨W4.heap.size, 1, none⟩ = some (.slice a1 n1 c1) ∧ s2.cell? ⟨W4.heap.size, 2, none⟩ = some (.slice a2 n2 c2) ∧ s2.cell? ⟨W4.heap.size, 3, none⟩ = some (.slice a3 n3 c3) ∧ s2.cell? ⟨W4.heap.size, 4, none⟩ = some (.slice (some ⟨b4, o4, none⟩) n4 c4) ∧ s2.cell? ⟨W4.heap.size, 5, none⟩ = some (.slice a5 n5 c5) ∧ s2.cell? ⟨W4.heap.size, 6, none⟩ = some (.int .i64 (V : Int)) ∧ s2.cell? ⟨W4.heap.size, 7, none⟩ = some (.int .i64 (nf : Int)) ∧ s2.cell? ⟨w.heap.size, 4, none⟩ = some (.slice (some ⟨b4, o4, none⟩) n4 c4) ∧ s2.cell? ⟨b4, o4 + b, none⟩ = some (.int .u32 (y : Int))) := ⟨cell_below HS1.out.1 HYV.out, cell_below HS1.out.2.1 HYV.out, cell_below HS1.out.2.2.1 HYV.out, cell_below HS1.out.2.2.2.1 HYV.out, cell_below HS1.out.2.2.2.2.1 HYV.out, cell_below HS1.out.2.2.2.2.2.1 HYV.out, cell_below HS1.out.2.2.2.2.2.2.1 HYV.out, cell_below HS1.out.2.2.2.2.2.2.2.1 HYV.out, cell_below HS1.out.2.2.2.2.2.2.2.2.1 HYV.out, cell_below HS1.out.2.2.2.2.2.2.2.2.2 HYV.out⟩
        refine hK.out _ _ HS2.out (fun _ => ?_)
        clear hK K
        try simp only [Act.put, List.setIfInBounds_toArray, List.set_cons_zero, List.set_cons_succ]
        have HR3 := Lib.hid (HR.out.below HY2.out)
        have HB3 := Lib.hid (ext_trans HBw.out HY2.out)
        have h9 := HLK.out
        refine wpAnyH_ready (rs := [11]) (by kernel_rfl) (by simp) ?_
        refine AllReadyH.cons (by simp only [List.getElem?_toArray, List.getElem?_cons_zero, List.getElem?_cons_succ]; rfl) (fun K hK => ?_) AllReadyH.nil
        refine step_append_row isZ _ rfl _ _ 45 rfl w.heap.size 3 i0 (.int .i64 0) 8 Try.underlying45 hi0 hz0 hz1 hz2 rfl isZ_zero14 _ Lk.length (zvs Lk) (by rfl) HR3.out (some ⟨s1.heap.size, 0, none⟩) 1 1 (zvs [zz]) (by rfl) HSE.out (zvs_one1 zz) (isZ_zvs [zz]) (by unfold maxLen; omega) (by omega) HB3.out.size ?_
        intro v' w6 hrow hg
        have HR4 : Hid (Row isZ w6 w.heap.size 3 v' (mustE c b nf).length (zvs (mustE c b nf))) := by show Row _ _ _ _ _ _ _; rw [HMU.out, List.length_append, zvs_append]; exact hrow
        have HK4 := Lib.hid ((KeepT.below HY2.out).trans (KeepT.grown HR3.out hg))
        have HB4 := Lib.hid (HB3.out.grown hg HB3.out.size (fun j hj => (HR3.out.own.lt j hj).1))
        have hu6 := HK4.out.block _ _ _ _ HUr.out (by decide)
        have hx6 := HK4.out.block _ _ _ _ HXr.out (by decide)
        have HS3 : Hid (w6.cell? ⟨W4.heap.size, 0, none⟩ = some (.int .i64 x) ∧ w6.cell? ⟨W4.heap.size, 1, none⟩ = some (.slice a1 n1 c1) ∧ w6.cell? ⟨W4.heap.size, 2, none⟩ = some (.slice a2 n2 c2) ∧ w6.cell? ⟨W4.heap.size, 3, none⟩ = some (.slice a3 n3 c3) ∧ w6.cell? ⟨W4.heap.size, 4, none⟩ = some (.slice (some ⟨b4, o4, none⟩) n4 c4) ∧ w6.cell? ⟨W4.heap.size, 5, none⟩ = some (.slice a5 n5 c5) ∧ w6.cell? ⟨W4.heap.size, 6, none⟩ = some (.int .i64 (V : Int)) ∧ w6.cell? ⟨W4.heap.size, 7, none⟩ = some (.int .i64 (nf : Int)) ∧ w6.cell? ⟨w.heap.size, 4, none⟩ = some (.slice (some ⟨b4, o4, none⟩) n4 c4) ∧ w6.cell? ⟨b4, o4 + b, none⟩ = some (.int .u32 (y : Int))) := ⟨cell_of_block hu6 0, cell_of_block hu6 1, cell_of_block hu6 2, cell_of_block hu6 3, cell_of_block hu6 4, cell_of_block hu6 5, cell_of_block hu6 6, cell_of_block hu6 7, cell_of_block hx6 4, (HB4.out.cell hb4lt).trans HBY.out⟩
        clear hrow hg h9 hu6 hx6
        refine hK.out _ _ HS3.out (fun _ => ?_)
        clear hK K
        try simp only [Act.put, List.setIfInBounds_toArray, List.set_cons_zero, List.set_cons_succ]
        refine wpAnyH_take (i := 12) (v := ?_) (by simp only [List.getElem?_toArray, List.getElem?_cons_zero, List.getElem?_cons_succ]; rfl) (by kernel_rfl) (by kernel_rfl) (by kernel_rfl) (fun _ _ _ h => h) (Or.inl ⟨by rfl, ?_⟩) HS3.out ?_
        rotate_left
        · intro w hSw
          (try dsimp only at hSw)
          obtain ⟨q0_, q1_, q2_, q3_, q4_, q5_, q6_, q7_, q8_, q9_⟩ := hSw
          go_simp
          try with_reducible rfl
        try simp only [Act.put, List.setIfInBounds_toArray, List.set_cons_zero, List.set_cons_succ]
        refine wpAnyH_take (i := 13) (v := ?_) (by simp only [List.getElem?_toArray, List.getElem?_cons_zero, List.getElem?_cons_succ]; rfl) (by kernel_rfl) (by kernel_rfl) (by kernel_rfl) (fun _ _ _ h => h) (Or.inl ⟨by rfl, ?_⟩) HS3.out ?_
        rotate_left
        · intro w hSw
          (try dsimp only at hSw)
          obtain ⟨q0_, q1_, q2_, q3_, q4_, q5_, q6_, q7_, q8_, q9_⟩ := hSw
          go_simp
          try with_reducible rfl
        try simp only [Act.put, List.setIfInBounds_toArray, List.set_cons_zero, List.set_cons_succ]
        refine wpAnyH_done (by kernel_rfl) ?_ _
        refine NoPanic.normal ?_
        obtain ⟨ra, rk, rfl⟩ := HR4.out.form
        go_wp2
        refine bodyPost_ret (v := .tuple #[.slice ra (mustE c b nf).length rk, .int .i64 0]) ?_ rfl ?_
        · simp [results, Try.results17, go_sem]
        · refine ⟨HB4.out, ra, _, rk, by rw [HA.out]; rfl, ?_⟩
          rw [HA.out]
          exact (row_sees_slice HR4.out).2
  · unfold uZ
    have HA := Lib.hid (A2.out (by trivial) ho hm)
    clear A1 A2 A3 A4 HLI HOK HMK
    go_wp2
    refine bodyPost_ret (v := .tuple #[.slice none 0 0, .int .i64 3]) ?_ rfl ?_
    · simp [results, Try.results17, go_sem]
    · refine ⟨ext_trans HB4.out (ext_alloc _ _), none, 0, 0, by rw [HA.out]; rfl, ?_⟩
      rw [HA.out]; exact Sees.nil _ _ _ (fun _ => rfl)
  · unfold uZ
    have HA := Lib.hid (A3.out (by trivial) ho)
    clear A1 A2 A3 A4 HLI HOK HMK
    go_wp2
    refine bodyPost_ret (v := .tuple #[.slice none 0 0, .int .i64 2]) ?_ rfl ?_
    · simp [results, Try.results17, go_sem]
    · refine ⟨ext_trans HB4.out (ext_alloc _ _), none, 0, 0, by rw [HA.out]; rfl, ?_⟩
      rw [HA.out]; exact Sees.nil _ _ _ (fun _ => rfl)
end Go.Proofs.Ytcoehbkjccfhlaa
