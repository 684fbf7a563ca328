/- What a closure of package enc does with a clause, told for both of them. -/
import Derived.Test.YtcoehbkjccfhlaaGEncT00
import Derived.Test.YtcoehbkjccfhlaaGEncT01
import Derived.Test.YtcoehbkjccfhlaaGEncT05
import Derived.Test.YtcoehbkjccfhlaaGEncT10
import Derived.Test.YtcoehbkjccfhlaaRows
import Derived.BigQuiet
import Derived.Deep.AppendLies
import Derived.Deep.CutRange
import Derived.Deep.QuietTactic
import Derived.Deep.RegionHeld3
import Derived.Deep.RegionLaw
import Derived.Deep.RegionWith
import Derived.KernelRfl
import Derived.Laws.EntriesVeiled
import Derived.Laws.Tables
import Derived.Lib.ConvBytes
import Derived.Lib.Hide
import Derived.Lib.SlBytesRow
import Derived.Lib.SmallJoins
import Derived.Maps.AppendAt
import Derived.Shelf.Bytes.SlSmallAll
import Derived.WalkKit
import Derived.WalkLawsBesides
import Derived.WalkSpells
import Derived.Test.YtcoehbkjccfhlaaGEncT07
/- Clauses that are made one behind the other: a box that holds a row of lists; the two closures of package enc, by their contracts. -/
namespace Go.Proofs.Ytcoehbkjccfhlaa
open Go Go.RowKit Go.Joins

/-- Nothing old has turned but the block B, and rows of lists. -/
structure EnGo (B : Nat) (w w' : World) : Prop where
  os : w'.os = w.os
  tape : w'.tape = w.tape
  output : w'.output = w.output
  size : w.heap.size ≤ w'.heap.size
  block : ∀ D o, w.heap[D]? = some o → D ≠ B → (∀ C fr, o ≠ .cells C 45 fr) → w'.heap[D]? = some o
section
variable {B : Nat} {w w' w2 : World}
theorem EnGo.refl (B : Nat) (w : World) : EnGo B w w := ⟨rfl, rfl, rfl, Nat.le_refl _, fun _ _ h _ _ => h⟩
theorem EnGo.trans (h : EnGo B w w') (k : EnGo B w' w2) : EnGo B w w2 :=
  ⟨k.os.trans h.os, k.tape.trans h.tape, k.output.trans h.output, Nat.le_trans h.size k.size, fun D o h1 h2 h3 => k.block D o (h.block D o h1 h2 h3) h2 h3⟩
theorem EnGo.below (h : Below w.heap.size w w') : EnGo B w w' := ⟨h.os, h.tape, h.output, h.size, fun _ _ h1 _ _ => heap_below h1 h⟩
theorem EnGo.at_ (h : EnGo B w w') {D : Nat} {C : Array Value} {t : TypeId} {fr : Nat × Nat} (hD : w.heap[D]? = some (.cells C t fr)) (hB : D ≠ B) (ht : t ≠ 45) : w'.heap[D]? = some (.cells C t fr) :=
  h.block D _ hD hB (fun C' fr' e => by cases e; exact ht rfl)
end
/-- The box B holds a row of these lists. -/
structure EnSt (w0 : World) (B : Nat) (L : List (List Int)) (w : World) : Prop where
  base : w0.heap.size ≤ B
  has : ∃ a n c ss, n = L.length ∧ w.heap[B]? = some (.cells #[.slice a n c] 39 (0, 0)) ∧ ListsZ w0 (.slice a n c) ss L w
theorem EnSt.below {w0 w w' : World} {B : Nat} {L : List (List Int)} (h : EnSt w0 B L w) (hb : Below w.heap.size w w') : EnSt w0 B L w' := by
  obtain ⟨a, n, c, ss, h1, h2, h3⟩ := h.has
  exact ⟨h.base, a, n, c, ss, h1, heap_below h2 hb, h3.onward hb⟩
theorem EnSt.bel {w0 w : World} {B : Nat} {L : List (List Int)} (h : EnSt w0 B L w) : Below w0.heap.size w0 w := by
  obtain ⟨a, n, c, ss, h1, h2, h3⟩ := h.has
  exact h3.bel
/-- A list that was written out. -/
theorem row_zlit (w0 w : World) (hb : w0.heap.size ≤ w.heap.size) (xs : List Int) (n : Nat) (C : Array Value) (hC : C = (zvs xs).toArray) (hn : n = xs.length) (hs : xs.length ≤ 1000) :
    Row isZ (w.alloc (.cells C 3)) w0.heap.size 3 (.slice (some ⟨w.heap.size, 0, none⟩) n n) xs.length (zvs xs) := by
  subst hn
  refine Row.made_at C xs.length _ _ _ rfl (by rw [hC]; simp [zvs]) ?_ hb (by rw [hC]; simp [zvs, maxLen]; omega) (by rw [hC]; simp [zvs]) ?_
  · rw [hC]; simp [zvs]; exact (List.take_of_length_le (by simp)).symm
  · intro u hu
    rw [hC] at hu
    exact isZ_zvs xs u (by simpa using hu)
theorem info_zs : (Try.prog.info? 45).map (fun i => (i.zero, i.size, i.bytes)) = some (some (.slice none 0 0), 1, 24) := by kernel_rfl

/-- The store of a grown row's header. -/
theorem EnSt.more {w0 w w1 w' : World} {B : Nat} {L : List (List Int)} {C : List Int} {a : Option Addr} {n c : Nat} {ss : List ZSlc} {s : ZSlc} (hB : w0.heap.size ≤ B) (hbox : w.heap[B]? = some (.cells #[.slice a n c] 39 (0, 0))) (H : ListsZ w0 (.slice a n c) ss L w)
    (hb : Below w.heap.size w w1) (hs : OneZ w0 w1 s C) {v' : Value} (hrow : Row (fun _ => True) w' w0.heap.size 45 v' (ss.length + 1) (ss.map zsV ++ [zsV s])) (hg : w1.grownBy w' (Value.slice a n c).ownBlock) :
    EnSt w0 B (L ++ [C]) (w'.setCell ⟨B, 0, none⟩ v') ∧ EnGo B w (w'.setCell ⟨B, 0, none⟩ v') := by
  have h1 := H.more hb hs hrow hg
  have hbox1 := heap_below hbox hb
  have hbox2 : w'.heap[B]? = some (.cells #[.slice a n c] 39 (0, 0)) := heap_grown hbox1 hg ((H.onward hb).row.not_own hbox1 (by decide))
  have hbox3 := block_setCell hbox2 (i := 0) v'
  obtain ⟨a', c', rfl⟩ := hrow.form
  have k := (Below.refl B w').setCell (p := ⟨B, 0, none⟩) (Nat.le_refl _) (.slice a' (ss.length + 1) c')
  have hne : ∀ {D C t fr}, w'.heap[D]? = some (.cells C t fr) → t ≠ 39 → D ≠ B := by
    intro D C t fr hD ht e
    subst e
    rw [hbox2] at hD
    cases hD
    exact ht rfl
  have kh : ∀ D, D ≠ B → (w'.setCell ⟨B, 0, none⟩ (.slice a' (ss.length + 1) c')).heap[D]? = w'.heap[D]? := fun D hD => Below.heap_setCell w' ⟨B, 0, none⟩ _ D hD
  have krow : ∀ {ok : Value → Prop} {e : TypeId} {v : Value} {m : Nat} {xs : List Value}, e ≠ 39 → Row ok w' w0.heap.size e v m xs → Row ok (w'.setCell ⟨B, 0, none⟩ (.slice a' (ss.length + 1) c')) w0.heap.size e v m xs := by
    intro ok e v m xs he hr
    refine hr.other fun q hq => kh q ?_
    intro e2
    subst e2
    exact hr.not_own hbox2 (Ne.symm he) hq
  refine ⟨⟨hB, a', ss.length + 1, c', ss ++ [s], by rw [H.len]; simp, by simpa using hbox3, ⟨?_, by simpa using krow (by decide) h1.row, h1.len, fun j hj => ?_⟩⟩, ?_⟩
  · exact h1.bel.setCell (p := ⟨B, 0, none⟩) hB _
  · exact (h1.each j hj).imp id (fun hr => krow (by decide) hr)
  · refine ⟨k.os.trans (hg.os.trans hb.os), k.tape.trans (hg.tape.trans hb.tape), k.output.trans (hg.output.trans hb.output), Nat.le_trans hb.size (Nat.le_trans hg.size k.size), fun D o h2 h3 h4 => ?_⟩
    rw [kh D h3]
    have h5 := heap_below h2 hb
    refine heap_grown h5 hg fun e => ?_
    rcases (H.onward hb).row.2 with ⟨e2, _⟩ | ⟨g, cap, cur, e2, _, hg2, _⟩
    · rw [e2] at e; cases e
    · rw [e2] at e
      have : g = D := by simpa [Value.ownBlock] using e
      subst this
      rw [h5] at hg2
      cases hg2
      exact h4 _ _ rfl

set_option maxRecDepth 100000 in
set_option maxHeartbeats 3200000 in
theorem put_any14 (g : Int) (C : List Int) (a : Option Addr) (n c : Nat) (w0 w : World) (B : Nat) (L : List (List Int)) (H : EnSt w0 B L w) (hL : L.length ≤ 100000000) (hC : OneZ w0 w (a, n, c) C) :
    Calls Try.prog 40 #[.int .i64 g, .slice a n c, .pointer (some ⟨B, 0, none⟩)] w fun e w' => e = .returned (.tuple #[]) ∧ EnSt w0 B (L ++ [C]) w' ∧ EnGo B w w' := by
  obtain ⟨i0, hi, hz0, hz1, hz2⟩ := info_parts info_zs
  obtain ⟨hB, a', n', c', ss, hn', hbox, HL⟩ := H
  have hlen := HL.len
  have HROW := Lib.hid (HL.row.below (ext_alloc w (.cells #[.slice a n c] 45)))
  have hsz := HL.bel.size
  have cz : w.cell? ⟨B, 0, none⟩ = some (.slice a' n' c') := cell_of_block hbox 0
  have hb5 := HL.row.own.lt
  have HBX := Lib.hid hbox
  have HNN := Lib.hid hn'
  have HLEN := Lib.hid hlen
  have HLL := Lib.hid HL
  have HCC := Lib.hid hC
  have HN1 : Hid (n' = ss.length) := by show _ = _; rw [HNN.out, HLEN.out]
  have hn8 : n' ≤ 100000000 := by omega
  have hs8 : ss.length ≤ 100000000 := by omega
  clear hbox hn' hlen HL hC hL
  go_enter Try.func40, Try.ntmps40
  go_wp2_with (at_builtin; refine wpList_append_row (fun _ => True) _ rfl _ _ 39 rfl w0.heap.size 45 i0 (.slice none 0 0) 24 Try.underlying39 hi hz0 hz1 hz2 rfl trivial (.slice a' n' c') ss.length (ss.map zsV) rfl HROW.out (some ⟨w.heap.size, 0, none⟩) 1 1 [.slice a n c] rfl (sees_lit w _ _ _ _ 1 rfl rfl) (by intro u hu; simp at hu; subst hu; rfl) (fun _ _ => trivial) ?c1 ?c2 ?c3 ?_)
  case c1 => unfold maxLen; omega
  case c2 => omega
  case c3 => simp; omega
  intro v' w2 hrow hg _
  obtain ⟨a2, c2, rfl⟩ := hrow.form
  have hm := EnSt.more (s := (a, n, c)) (C := C) hB HBX.out HLL.out (ext_alloc w (.cells #[.slice a n c] 45)) (HCC.out.imp id (fun hr => hr.below (ext_alloc _ _))) hrow hg
  have hbox2 : w2.heap[B]? = some (.cells #[.slice a' n' c'] 39 (0, 0)) := heap_grown (heap_below HBX.out (ext_alloc _ _)) hg (HROW.out.not_own (heap_below HBX.out (ext_alloc _ _)) (by decide))
  have d5 : w2.cell? ⟨B, 0, none⟩ = some (.slice a' n' c') := cell_of_block hbox2 0
  have f5 := unfrozen_of_block hbox2 0
  have HM := Lib.hid hm
  clear hm hbox2 hrow hg cz
  go_wp2
  go_end0
  exact ⟨rfl, HM.out⟩

/-- append of one int to a list that is full. -/
theorem wpList_append_full14 {P : Program} {ops : Array Oper} {rest : List Oper} {o : Oper} {a : Act} {w : World} {Q : Exit → Act → World → Prop} (hgd : o.guard = none) (s x : Operand) (t : TypeId)
    (ho : o.op = .call { callee := .builtin .append, args := #[s, x], argTypes := #[t, t] })
    (e : TypeId) (i : TypeInfo) (z : Value) (ht : P.underlying t = some (.slice e)) (hi : P.info? e = some i) (hz : i.zero = some z)
    (hsize : i.size = 1) (hby : i.bytes = 8) (hzs : z.cells = #[z]) (hzok : isZ z)
    (b off n : Nat) (C : List Int) (hn : n = C.length) (hs : a.eval s = .slice (some ⟨b, off, none⟩) n n) (hsee : Sees w (some ⟨b, off, none⟩) n n (zvs C)) (hn1 : n ≤ 1000)
    (b2 : Nat) (y : Int) (hx : a.eval x = .slice (some ⟨b2, 0, none⟩) 1 1) (hnew : w.cell? ⟨b2, 0, none⟩ = some (.int .i64 y)) (base : Nat) (hbase : base ≤ w.heap.size)
    (h : ∀ a2 m2 c2 w', m2 = C.length + 1 → Row isZ w' base e (.slice a2 m2 c2) m2 (zvs (C ++ [y])) → Below w.heap.size w w' → wpList P ops Q rest (a.put o.dst (.slice a2 m2 c2)) w') : wpList P ops Q (o :: rest) a w := by
  refine wpList_plain hgd fun K hK => ?_
  have holds : ∀ j v, (zvs C)[j]? = some v → w.cell? ((⟨b, off, none⟩ : Addr).add j) = some v := fun j v hj => by
    have hlt : j < n := by rw [hn, ← zvs_len]; exact (List.getElem?_eq_some_iff.1 hj).1
    have hadd : (⟨b, off, none⟩ : Addr).add j = ⟨b, off + j, none⟩ := by unfold Addr.add; split <;> simp_all
    rw [hadd, (hsee.cell j hlt).2, hj]
  have hnews : ∀ j v, [Value.int .i64 y][j]? = some v → w.cell? ((⟨b2, 0, none⟩ : Addr).add j) = some v := fun j v hj => by
    rcases j with _ | j
    · have hadd : (⟨b2, 0, none⟩ : Addr).add 0 = ⟨b2, 0, none⟩ := by unfold Addr.add; split <;> simp_all
      rw [hadd, hnew]; simpa using hj
    · simp at hj
  have hr := run_append_grow (P := P) w t o.type e i z ht hi hz ⟨b, off, none⟩ n n (zvs C) (by rw [zvs_len, hsize]; omega) holds ⟨b2, 0, none⟩ 1 1 [.int .i64 y] (by rw [hsize]; rfl) hnews (by omega) (by omega) (by rw [hby]; exact growslice_fits (by omega) (by omega))
  have hge := grownCap_ge w (n + 1) n e
  have hcm : grownCap w (n + 1) n e ≤ maxLen := grownCap_le_maxLen w (n + 1) n e (by unfold maxLen; omega)
  unfold Oper.wp execOp
  simp only [ho, resolve, invoke, builtin, Sem.run_bind, Sem.run_pure, Result.andThen_ok, List.map_toArray, List.map_cons, List.map_nil, hs, hx, hr]
  refine hK _ _ (h _ _ _ _ (by rw [hn]) ⟨?_, .inr ⟨w.heap.size, _, _, rfl, hbase, heap_alloc_new w.drew _, hge, hcm, ?_, ?_, ?_⟩⟩ ?_)
  · rw [zvs_len]; simp; omega
  · simp only [Array.size_append, List.size_toArray, size_zeroCells, hzs, zvs_len]
    simp
    omega
  · simp only [Array.toList_append, List.append_assoc]
    rw [← List.append_assoc]
    have : zvs (C ++ [y]) = zvs C ++ [.int .i64 y] := by simp [zvs]
    rw [this]
    have hl : (zvs C ++ [Value.int .i64 y]).length = n + 1 := by simp [zvs_len, hn]
    rw [← hl]
    exact List.take_left
  · intro u hu
    simp only [Array.toList_append, List.mem_append] at hu
    rcases hu with (hu | hu) | hu
    · exact isZ_zvs C u (by simpa using hu)
    · exact ⟨y, by simpa using hu⟩
    · rw [mem_zeroCells hzs hu]; exact hzok
  · exact ((Below.refl _ w).drew).alloc (Nat.le_refl _) _
end Go.Proofs.Ytcoehbkjccfhlaa
/- enc.Relaxed's closure, by its contract. -/
namespace Go.Proofs.Ytcoehbkjccfhlaa
open Go Go.RowKit Go.Joins

set_option maxRecDepth 100000 in
set_option maxHeartbeats 3200000 in
theorem rel_any14 (g : Int) (C : List Int) (b off n : Nat) (w0 w : World) (B F first : Nat) (L : List (List Int)) (H : EnSt w0 B L w) (hL : L.length ≤ 100000000) (hC : OneZ w0 w (some ⟨b, off, none⟩, n, n) C)
    (hF : w.heap[F]? = some (.cells #[.int .i64 (first : Int)] 3 (0, 0))) (hf : first ≤ 100000000) (hg : -1 ≤ g ∧ g ≤ 100000000) (hn : n ≤ 1000) :
    Calls Try.prog 42 #[.int .i64 g, .slice (some ⟨b, off, none⟩) n n, .pointer (some ⟨F, 0, none⟩), .pointer (some ⟨B, 0, none⟩)] w fun e w' => e = .returned (.tuple #[]) ∧ EnSt w0 B (L ++ [withE first (g, C)]) w' ∧ EnGo B w w' := by
  obtain ⟨i0, hi, hz0, hz1, hz2⟩ := info_parts info_zs
  obtain ⟨j0, hj, hy0, hy1, hy2⟩ := info_parts info_int
  have hBel := H.bel
  have hsz := hBel.size
  have hsee := hC.sees hBel
  have hcl := hsee.zlen
  obtain ⟨hB, a', n', c', ss, hn', hbox, HL⟩ := H
  have hlen := HL.len
  have cF : w.cell? ⟨F, 0, none⟩ = some (.int .i64 (first : Int)) := cell_of_block hF 0
  by_cases e : g = -1
  · subst e
    have HROW := Lib.hid (HL.row.below (ext_alloc w (.cells #[.slice (some ⟨b, off, none⟩) n n] 45)))
    have cz : w.cell? ⟨B, 0, none⟩ = some (.slice a' n' c') := cell_of_block hbox 0
    have HBX := Lib.hid hbox
    have HNN := Lib.hid hn'
    have HLEN := Lib.hid hlen
    have HLL := Lib.hid HL
    have HCC := Lib.hid hC
    have hs8 : ss.length ≤ 100000000 := by omega
    have HE : Hid (withE first (-1, C) = C) := by show _ = _; simp [withE]
    clear hbox hn' hlen HL hC hL hsee hcl hg hBel hF
    go_enter Try.func42, Try.ntmps42
    go_wp2_with (at_builtin; refine wpList_append_row (fun _ => True) _ rfl _ _ 39 rfl w0.heap.size 45 i0 (.slice none 0 0) 24 Try.underlying39 hi hz0 hz1 hz2 rfl trivial (.slice a' n' c') ss.length (ss.map zsV) rfl HROW.out (some ⟨w.heap.size, 0, none⟩) 1 1 [.slice (some ⟨b, off, none⟩) n n] rfl (sees_lit w _ _ _ _ 1 rfl rfl) (by intro u hu; simp at hu; subst hu; rfl) (fun _ _ => trivial) ?c1 ?c2 ?c3 ?_)
    case c1 => unfold maxLen; omega
    case c2 => omega
    case c3 => simp; omega
    intro v' w2 hrow hg _
    obtain ⟨a2, c2, rfl⟩ := hrow.form
    have hm := EnSt.more (s := (some ⟨b, off, none⟩, n, n)) (C := C) hB HBX.out HLL.out (ext_alloc w (.cells #[.slice (some ⟨b, off, none⟩) n n] 45)) (HCC.out.imp id (fun hr => hr.below (ext_alloc _ _))) hrow hg
    have hbox2 : w2.heap[B]? = some (.cells #[.slice a' n' c'] 39 (0, 0)) := heap_grown (heap_below HBX.out (ext_alloc _ _)) hg (HROW.out.not_own (heap_below HBX.out (ext_alloc _ _)) (by decide))
    have d5 : w2.cell? ⟨B, 0, none⟩ = some (.slice a' n' c') := cell_of_block hbox2 0
    have f5 := unfrozen_of_block hbox2 0
    have HM := Lib.hid hm
    clear hm hbox2 hrow hg cz
    go_wp2
    go_end0
    exact ⟨rfl, by rw [HE.out]; exact HM.out⟩
  · have e1 : (g == (-1 : Int)) = false := by simpa using e
    have e2 : (g != (-1 : Int)) = true := by simp [bne, e1]
    have HE : Hid (withE first (g, C) = C ++ [(first : Int) + g]) := by show _ = _; simp [withE, e]
    obtain ⟨y, hy⟩ : ∃ y, y = (first : Int) + g := ⟨_, rfl⟩
    rw [← hy] at HE
    have W1 : IntKind.i64.wrap ((first : Int) + g) = y := by rw [hy]; exact IntWalk.i64_in _ (by omega)
    have HS : Hid (Sees (w.alloc (.cells #[.int .i64 y] 3)) (some ⟨b, off, none⟩) n n (zvs C)) := hsee.below (ext_alloc w (.cells #[.int .i64 y] 3))
    have HBX := Lib.hid hbox
    have HNN := Lib.hid hn'
    have HLEN := Lib.hid hlen
    have HLL := Lib.hid HL
    have HCN : Hid (n = C.length) := hcl.symm
    have hs8 : ss.length ≤ 100000000 := by omega
    have hbw : w0.heap.size ≤ (w.alloc (.cells #[.int .i64 y] 3)).heap.size := by simp; omega
    have HBW := Lib.hid hbw
    have HNEW : Hid ((w.alloc (.cells #[.int .i64 y] 3)).cell? ⟨w.heap.size, 0, none⟩ = some (.int .i64 y)) := cell_of_block (heap_new _ _ _ rfl) 0
    clear hbox hn' hlen HL hC hL hsee hcl hg hBel e hy hbw hF
    go_enter Try.func42, Try.ntmps42
    go_wp2_with (at_builtin; refine wpList_append_full14 rfl _ _ 45 rfl 3 j0 (.int .i64 0) Try.underlying45 hj hy0 hy1 hy2 rfl ⟨0, rfl⟩ b off n C HCN.out (by rfl) HS.out hn w.heap.size y (by rfl) HNEW.out w0.heap.size HBW.out ?_)
    intro a3 m3 c3 w3 hm3 hr3 hb3
    have HB3 := Lib.hid (ext_trans (ext_alloc w (.cells #[.int .i64 y] 3)) (by simpa using hb3))
    have HR3 := Lib.hid hr3
    have HM3 := Lib.hid hm3
    clear hm3 hr3 hb3 HS cF
    have HROW := Lib.hid ((HLL.out.row.below HB3.out).below (ext_alloc w3 (.cells #[.slice a3 m3 c3] 45)))
    have cz : w3.cell? ⟨B, 0, none⟩ = some (.slice a' n' c') := cell_of_block (heap_below HBX.out HB3.out) 0
    have hsz3 := HB3.out.size
    go_wp2_with (at_builtin; refine wpList_append_row (fun _ => True) _ rfl _ _ 39 rfl w0.heap.size 45 i0 (.slice none 0 0) 24 Try.underlying39 hi hz0 hz1 hz2 rfl trivial (.slice a' n' c') ss.length (ss.map zsV) rfl HROW.out (some ⟨w3.heap.size, 0, none⟩) 1 1 [.slice a3 m3 c3] rfl (sees_lit w3 _ _ _ _ 1 rfl rfl) (by intro u hu; simp at hu; subst hu; rfl) (fun _ _ => trivial) ?d1 ?d2 ?d3 ?_)
    case d1 => unfold maxLen; omega
    case d2 => omega
    case d3 => simp; omega
    intro v' w2 hrow hg _
    obtain ⟨a2, c2, rfl⟩ := hrow.form
    have hrr : Row isZ w3 w0.heap.size 3 (.slice a3 m3 c3) (C ++ [y]).length (zvs (C ++ [y])) := by rw [show (C ++ [y]).length = m3 by rw [HM3.out]; simp]; exact HR3.out
    have hm := EnSt.more (s := (a3, m3, c3)) (C := C ++ [y]) hB HBX.out HLL.out (ext_trans HB3.out (ext_alloc w3 (.cells #[.slice a3 m3 c3] 45))) (Or.inr (hrr.below (ext_alloc _ _))) hrow hg
    have hbox2 : w2.heap[B]? = some (.cells #[.slice a' n' c'] 39 (0, 0)) := heap_grown (heap_below (heap_below HBX.out HB3.out) (ext_alloc _ _)) hg (HROW.out.not_own (heap_below (heap_below HBX.out HB3.out) (ext_alloc _ _)) (by decide))
    have d5 : w2.cell? ⟨B, 0, none⟩ = some (.slice a' n' c') := cell_of_block hbox2 0
    have f5 := unfrozen_of_block hbox2 0
    have HM := Lib.hid hm
    clear hm hbox2 hrow hg cz hrr
    go_wp2
    go_end0
    exact ⟨rfl, by rw [HE.out]; exact HM.out⟩
end Go.Proofs.Ytcoehbkjccfhlaa
namespace Go.Proofs.Ytcoehbkjccfhlaa
open Go Go.RowKit Go.Joins

/-- The box B holds these lists; where there is a block F with the first switch, it is as it was. -/
structure EnX (F : Option (Nat × Nat)) (w0 : World) (B : Nat) (L : List (List Int)) (w : World) : Prop where
  st : EnSt w0 B L w
  fst : ∀ p, F = some p → w.heap[p.1]? = some (.cells #[.int .i64 (p.2 : Int)] 3 (0, 0)) ∧ p.1 ≠ B ∧ p.2 ≤ 100000000
def phiE (F : Option (Nat × Nat)) (t : TCl) : List Int := match F with
  | none => bareE t
  | some p => withE p.2 t
section
variable {F : Option (Nat × Nat)} {w0 w w' : World} {B : Nat} {L L' : List (List Int)}
theorem EnX.below (h : EnX F w0 B L w) (hb : Below w.heap.size w w') : EnX F w0 B L w' :=
  ⟨h.st.below hb, fun p hp => ⟨heap_below (h.fst p hp).1 hb, (h.fst p hp).2⟩⟩
theorem EnX.go (h : EnX F w0 B L w) (h' : EnSt w0 B L' w') (hg : EnGo B w w') : EnX F w0 B L' w' :=
  ⟨h', fun p hp => ⟨hg.at_ (h.fst p hp).1 (h.fst p hp).2.1 (by decide), (h.fst p hp).2⟩⟩
end
/-- A clause of one, two, three literals that was written out behind W. -/
theorem oneZ_of (w0 W : World) (hb : w0.heap.size ≤ W.heap.size) (xs : List Int) (n : Nat) (C : Array Value) (hC : C = (zvs xs).toArray) (hn : n = xs.length) (hs : xs.length ≤ 1000) : OneZ w0 (W.alloc (.cells C 3)) (some ⟨W.heap.size, 0, none⟩, n, n) xs :=
  .inr (row_zlit w0 W hb xs n C hC hn hs)
theorem doC_any (g : Int) (C : List Int) (b off n : Nat) (w0 w : World) (B : Nat) (L : List (List Int)) (H : EnX none w0 B L w) (hL : L.length ≤ 100000000) (hC : OneZ w0 w (some ⟨b, off, none⟩, n, n) C) (_hg : -1 ≤ g ∧ g ≤ 100000000) (_hn : n ≤ 1000) :
    Calls Try.prog 40 #[.int .i64 g, .slice (some ⟨b, off, none⟩) n n, .pointer (some ⟨B, 0, none⟩)] w fun e w' => e = .returned (.tuple #[]) ∧ EnX none w0 B (L ++ [phiE none (g, C)]) w' ∧ EnGo B w w' :=
  (put_any14 g C _ n n w0 w B L H.st hL hC).mono fun _ _ ⟨h1, h2, h3⟩ => ⟨h1, H.go h2 h3, h3⟩
theorem doR_any (g : Int) (C : List Int) (b off n : Nat) (w0 w : World) (B Fb first : Nat) (L : List (List Int)) (H : EnX (some (Fb, first)) w0 B L w) (hL : L.length ≤ 100000000) (hC : OneZ w0 w (some ⟨b, off, none⟩, n, n) C) (hg : -1 ≤ g ∧ g ≤ 100000000) (hn : n ≤ 1000) :
    Calls Try.prog 42 #[.int .i64 g, .slice (some ⟨b, off, none⟩) n n, .pointer (some ⟨Fb, 0, none⟩), .pointer (some ⟨B, 0, none⟩)] w fun e w' => e = .returned (.tuple #[]) ∧ EnX (some (Fb, first)) w0 B (L ++ [phiE (some (Fb, first)) (g, C)]) w' ∧ EnGo B w w' :=
  (rel_any14 g C b off n w0 w B Fb first L H.st hL hC (H.fst _ rfl).1 (H.fst _ rfl).2.2 hg hn).mono fun _ _ ⟨h1, h2, h3⟩ => ⟨h1, H.go h2 h3, h3⟩
end Go.Proofs.Ytcoehbkjccfhlaa
