/- WitBack returns true for every trace, every cut and every byte: what is put is got; cut it ends too soon, with more behind it it is refused. Condition: the four tables start as the program's text lays them (the card ties them). -/
import Derived.Test.YtkimhlomadmnkaaDoorLib
import Derived.Test.YtkimhlomadmnkaaDoorWrite
import Derived.Laws.IdiomCopy
import Derived.Test.YtkimhlomadmnkaaDoorNTrace
import Derived.Test.YtkimhlomadmnkaaDoorWMay0
import Derived.Test.YtkimhlomadmnkaaDoorWLives
import Derived.OrdersHeld
import Derived.Deep.RegionHeld3
import Derived.Test.YtkimhlomadmnkaaDoorWPure
import Derived.Deep.CutRange
import Derived.Test.YtkimhlomadmnkaaDoorNOpen
import Derived.Test.YtkimhlomadmnkaaDoorWLaid
/- A region of a function's body, taken out by its number. -/
namespace Go.Proofs.YtkimhlomadmnkaaDoor
open Go
def findRegion (n : Nat) : Code → Option Code
  | .region k o d => if k = n then some (.region k o d) else none
  | .seq a b => match findRegion n a with
    | some c => some c
    | none => findRegion n b
  | .block _ c => findRegion n c
  | .scope c => findRegion n c
  | .loop c => findRegion n c
  | .cond _ a b => match findRegion n a with
    | some c => some c
    | none => findRegion n b
  | _ => none
end Go.Proofs.YtkimhlomadmnkaaDoor
/- append to a row of the call's own whose mark lies behind its cells: '[]byte(string)' makes such a one. -/
namespace Go.Proofs.YtkimhlomadmnkaaDoor
open Go Go.RowKit Go.Joins

/-- The slice value owns a row all of whose cells can be written. -/
structure FRow (w : World) (base : Nat) (v : Value) (n : Nat) (xs : List Value) (g cap : Nat) : Prop where
  form : v = .slice (some ⟨g, 0, none⟩) n cap
  le : base ≤ g
  sees : Sees w (some ⟨g, 0, none⟩) n cap xs
  max : cap ≤ maxLen
  lt : g < w.heap.size
  cells : ∀ j, j < cap → (w.cell? ⟨g, j, none⟩).isSome = true ∧ w.frozen? ⟨g, j, none⟩ = false

theorem below_setCells {B b : Nat} {w0 : World} : ∀ (vs : List Value) (o : Nat) (w : World), Below B w0 w → B ≤ b → Below B w0 (w.setCells b o vs)
  | [], _, _, h, _ => h
  | v :: r, o, _, h, hb => below_setCells r (o + 1) _ (h.setCell (p := ⟨b, o, none⟩) hb v) hb
theorem size_setCells (b : Nat) : ∀ (vs : List Value) (o : Nat) (w : World), (w.setCells b o vs).heap.size = w.heap.size
  | [], _, _ => rfl
  | v :: r, o, w => by rw [World.setCells, size_setCells b r]; simp

theorem grown_setCells (g : Nat) : ∀ (vs : List Value) (o : Nat) (w : World), w.grownBy (w.setCells g o vs) (some g)
  | [], _, w => ⟨rfl, rfl, rfl, Nat.le_refl _, fun _ _ _ => rfl⟩
  | v :: r, o, w => by
    have h1 : w.grownBy (w.setCell ⟨g, o, none⟩ v) (some g) := ⟨rfl, rfl, rfl, by simp, fun k _ hk => Below.heap_setCell _ ⟨g, o, none⟩ _ k (fun e => hk (by rw [e]))⟩
    have h2 := grown_setCells g r (o + 1) (w.setCell ⟨g, o, none⟩ v)
    exact ⟨h2.os.trans h1.os, h2.tape.trans h1.tape, h2.output.trans h1.output, Nat.le_trans h1.size h2.size, fun b hb hr => (h2.block b (Nat.lt_of_lt_of_le hb h1.size) hr).trans (h1.block b hb hr)⟩
theorem FRow.of_row {ok : Value → Prop} {w : World} {base : Nat} {e : TypeId} {v : Value} {n : Nat} {xs : List Value} (h : Row ok w base e v n xs) (hn : 0 < n) : ∃ g cap, FRow w base v n xs g cap := by
  rcases h.2 with ⟨_, h0⟩ | ⟨g, cap, cur, rfl, hb, hg, hnc, hm, hcs, ht, _⟩
  · omega
  · obtain ⟨a, c, e, _, hs⟩ := h.sees
    cases e
    refine ⟨g, cap, rfl, hb, hs, hm, heap_lt hg, fun j hj => ⟨?_, unfrozen_of_block hg j⟩⟩
    rw [cell_of_block hg j, Array.getElem?_eq_getElem (by omega)]
    rfl

theorem FRow.below {w w' : World} {base : Nat} {v : Value} {n : Nat} {xs : List Value} {g cap : Nat} (h : FRow w base v n xs g cap) (hb : Below w.heap.size w w') : FRow w' base v n xs g cap :=
  ⟨h.form, h.le, h.sees.below hb, h.max, Nat.lt_of_lt_of_le h.lt hb.size, fun j hj => ⟨by rw [hb.cell (p := ⟨g, j, none⟩) h.lt]; exact (h.cells j hj).1, by rw [hb.frozen (p := ⟨g, j, none⟩) h.lt]; exact (h.cells j hj).2⟩⟩

theorem run_append_frow {P : Program} (ok : Value → Prop) (w : World) (base : Nat) (t ty e : TypeId) (i : TypeInfo) (z : Value) (bytes : Nat) (ht : P.underlying t = some (.slice e)) (hi : P.info? e = some i) (hz : i.zero = some z)
    (hsize : i.size = 1) (hby : i.bytes = bytes) (hzs : z.cells = #[z]) (hok : ok z)
    (v : Value) (n : Nat) (xs : List Value) (g cap : Nat) (hown : FRow w base v n xs g cap) (_hn : 0 < n) (hxo : ∀ u ∈ xs, ok u)
    (a : Option Addr) (m c : Nat) (news : List Value) (hsee : Sees w a m c news) (h1 : ∀ u ∈ news, u.oneCell' = true) (hoks : ∀ u ∈ news, ok u)
    (h63 : n + m ≤ maxLen) (hbytes : (n + m) * bytes ≤ 140737488355328) (hbase : base ≤ w.heap.size) :
    ∃ v' w' g' cap', (Builtin.append_ #[t, t] ty #[v, .slice a m c]).run P w = .ok v' w' ∧ FRow w' base v' (n + m) (xs ++ news) g' cap' ∧ Below base w w' ∧ w.grownBy w' (some g) := by
  obtain ⟨rfl, hbg, hs, hmx, hlt, hcells⟩ := hown
  have hl := hsee.len
  have hxl := hs.len
  have hnc := hs.cap
  by_cases hm : m = 0
  · subst hm
    have hne : news = [] := List.eq_nil_of_length_eq_zero hl
    subst hne
    refine ⟨.slice (some ⟨g, 0, none⟩) n cap, w, g, cap, ?_, ⟨rfl, hbg, by simpa using hs, hmx, hlt, hcells⟩, Below.refl _ _, ⟨rfl, rfl, rfl, Nat.le_refl _, fun _ _ _ => rfl⟩⟩
    cases a <;> simp [Builtin.append_, run_underlying ht, sizeOf, typeInfo, hi, Builtin.lenOf, Builtin.firstCells, loadCells, loadCellsFrom, hnc, storeCells]
  · obtain ⟨b, off, rfl, hblt, hc⟩ := hsee.real (by omega)
    have hadd : ∀ (b off j : Nat), (⟨b, off, none⟩ : Addr).add j = ⟨b, off + j, none⟩ := by intro b off j; unfold Addr.add; split <;> simp_all
    have hnews : ∀ j u, news[j]? = some u → w.cell? ((⟨b, off, none⟩ : Addr).add j) = some u := by
      intro j u hj
      have hjn : j < m := by rw [← hl]; exact (List.getElem?_eq_some_iff.1 hj).1
      rw [hadd, hc j hjn, hj]
    by_cases hroom : n + m ≤ cap
    · have hf := run_firstCells_some (P := P) w i.size m ⟨b, off, none⟩ m c news (by rw [hsize]; omega) hnews
      have hst := run_storeCells_cells (P := P) g n news 0 w (fun j hj => by rw [Nat.add_zero]; exact (hcells (n + j) (by omega)).1) (fun j hj => by rw [Nat.add_zero]; exact (hcells (n + j) (by omega)).2) h1
      simp only [Nat.add_zero] at hst
      refine ⟨.slice (some ⟨g, 0, none⟩) (n + m) cap, w.setCells g n news, g, cap, ?_, ⟨rfl, hbg, ⟨by rw [List.length_append]; omega, hroom, (fun e => by cases e), fun _ => ⟨g, 0, rfl, by rw [size_setCells]; exact hlt, fun j hj => ?_⟩⟩, hmx, by rw [size_setCells]; exact hlt, fun j hj => ⟨?_, by rw [World.frozen?_setCells]; exact (hcells j hj).2⟩⟩, below_setCells news n w (Below.refl _ _) hbg, grown_setCells g news n w⟩
      · rw [hsize] at hf
        simp [Builtin.append_, run_underlying ht, sizeOf, typeInfo, hi, hsize, Builtin.lenOf, hroom, hf, hadd, hst]
      · rw [Nat.zero_add]
        by_cases hjn : j < n
        · rw [World.cell?_setCells_out g news n w _ (fun _ _ => Or.inl hjn), List.getElem?_append_left (by omega)]
          have := (hs.cell j hjn).2
          rw [Nat.zero_add] at this
          exact this
        · have hin := World.cell?_setCells_in g news n w (fun j hj => (hcells (n + j) (by omega)).1) (j - n) (by omega)
          rw [show n + (j - n) = j by omega] at hin
          rw [hin, List.getElem?_append_right (by omega), hxl, List.getElem?_eq_getElem (by omega)]
      · by_cases hjn : j < n ∨ n + news.length ≤ j
        · rw [World.cell?_setCells_out g news n w _ (fun _ _ => hjn)]; exact (hcells j hj).1
        · have hin := World.cell?_setCells_in g news n w (fun j hj => (hcells (n + j) (by omega)).1) (j - n) (by omega)
          rw [show n + (j - n) = j by omega] at hin
          rw [hin]; rfl
    · subst hby
      have holds : ∀ j u, xs[j]? = some u → w.cell? ((⟨g, 0, none⟩ : Addr).add j) = some u := by
        intro j u hj
        have hjn : j < n := by rw [← hxl]; exact (List.getElem?_eq_some_iff.1 hj).1
        rw [hadd, (hs.cell j hjn).2, hj]
      have hr := run_append_grow (P := P) w t ty e i z ht hi hz ⟨g, 0, none⟩ n cap xs (by rw [hxl, hsize]; omega) holds ⟨b, off, none⟩ m c news (by rw [hl, hsize]; omega) hnews (by omega) (by simp only [maxLen] at h63; omega) (growslice_fits (by omega) hbytes)
      have hge := grownCap_ge w (n + m) cap e
      have hcm : grownCap w (n + m) cap e ≤ maxLen := grownCap_le_maxLen w (n + m) cap e h63
      have hrow : Row ok (w.drew.alloc (.cells (xs.toArray ++ news.toArray ++ Builtin.zeroCells z.cells (grownCap w (n + m) cap e - (n + m))) e)) base e (.slice (some ⟨w.heap.size, 0, none⟩) (n + m) (grownCap w (n + m) cap e)) (n + m) (xs ++ news) := by
        have hlen : (xs ++ news).length = n + m := by rw [List.length_append]; omega
        refine ⟨hlen, .inr ⟨w.heap.size, _, _, rfl, hbase, heap_alloc_new w.drew _, hge, hcm, ?_, ?_, ?_⟩⟩
        · simp only [Array.size_append, List.size_toArray, size_zeroCells, hzs, hxl, hl]
          simp
          omega
        · simp only [Array.toList_append, List.append_assoc]
          rw [← List.append_assoc, ← hlen]
          exact List.take_left
        · intro u hu
          simp only [Array.toList_append, List.mem_append] at hu
          rcases hu with (hu | hu) | hu
          · exact hxo u hu
          · exact hoks u hu
          · rw [mem_zeroCells hzs hu]; exact hok
      obtain ⟨g', cap', hF⟩ := FRow.of_row hrow (by omega)
      exact ⟨_, _, g', cap', hr, hF, (((Below.refl base w).drew).alloc hbase _), ⟨rfl, rfl, rfl, by simp, fun k hk _ => heap_alloc_old w.drew _ hk⟩⟩

theorem wpList_append_frow {P : Program} (ok : Value → Prop) (w : World) {ops : Array Oper} {rest : List Oper} {o : Oper} {a : Act} {Q : Exit → Act → World → Prop} (hgd : o.guard = none) (s x : Operand) (t : TypeId)
    (ho : o.op = .call { callee := .builtin .append, args := #[s, x], argTypes := #[t, t] })
    (base : Nat) (e : TypeId) (i : TypeInfo) (z : Value) (bytes : Nat) (ht : P.underlying t = some (.slice e)) (hi : P.info? e = some i) (hz : i.zero = some z)
    (hsize : i.size = 1) (hby : i.bytes = bytes) (hzs : z.cells = #[z]) (hok : ok z)
    (v : Value) (n : Nat) (xs : List Value) (g cap : Nat) (hs : a.eval s = v) (hown : FRow w base v n xs g cap) (hn : 0 < n) (hxo : ∀ u ∈ xs, ok u)
    (ad : Option Addr) (m c : Nat) (news : List Value) (hx : a.eval x = .slice ad m c) (hsee : Sees w ad m c news) (h1 : ∀ u ∈ news, u.oneCell' = true) (hoks : ∀ u ∈ news, ok u)
    (h63 : n + m ≤ maxLen) (hbytes : (n + m) * bytes ≤ 140737488355328) (hbase : base ≤ w.heap.size)
    (h : ∀ v' w' g' cap', FRow w' base v' (n + m) (xs ++ news) g' cap' → Below base w w' → wpList P ops Q rest (a.put o.dst v') w') : wpList P ops Q (o :: rest) a w := by
  refine wpList_plain hgd fun K hK => ?_
  obtain ⟨v', w', g', cap', hr, h2, h3, _⟩ := run_append_frow (P := P) ok w base t o.type e i z bytes ht hi hz hsize hby hzs hok v n xs g cap hown hn hxo ad m c news hsee h1 hoks h63 hbytes hbase
  unfold Oper.wp execOp
  simp only [ho, resolve, invoke, builtin, Sem.run_bind, Sem.run_pure, Result.andThen_ok, List.map_toArray, List.map_cons, List.map_nil, hs, hx, hr]
  exact hK _ _ (h v' w' g' cap' h2 h3)
/-- What '[]byte(string)' makes. -/
theorem frow_bytes (base : Nat) (w : World) (bs : List UInt8) (hb : base ≤ w.heap.size) (hn : bs.length ≤ 1000000000) :
    FRow (Lib.bytesWorld w 5 (str bs)) base (.slice (some ⟨w.heap.size, 0, none⟩) bs.length (grownCap w bs.length 0 5)) bs.length (bs.map bv) w.heap.size (grownCap w bs.length 0 5) := by
  have hnew := Lib.bytesWorld_at_new w 5 (str bs)
  have hge := grownCap_ge w bs.length 0 5
  have hgm := grownCap_le_maxLen w bs.length 0 5 (by unfold maxLen; omega)
  have hcsz : (Lib.bytesCells w 5 (str bs)).size = grownCap w bs.length 0 5 := by
    unfold Lib.bytesCells
    rw [size_str]
    have : (str bs).data.size = bs.length := by simp [str]
    simp [this]; omega
  refine ⟨rfl, hb, ⟨by simp, hge, (fun e => by cases e), fun _ => ⟨_, 0, rfl, heap_lt hnew, fun j hj => ?_⟩⟩, hgm, heap_lt hnew, fun j hj => ⟨?_, ?_⟩⟩
  · rw [Nat.zero_add, Lib.bytesWorld_cell w _ _ j (by rw [size_str]; exact hj)]
    simp [str, bv, List.getD, List.getElem?_eq_getElem hj]
  · rw [cell_of_block hnew j, Array.getElem?_eq_getElem (by omega)]; rfl
  · unfold World.frozen?
    rw [hnew]
    simp
    omega
/-- The same at an operation of a region that draws. -/
theorem oper_append_frow {P : Program} (ok : Value → Prop) (w : World) {o : Oper} {a : Act} {K : Act → World → Prop} {Q : Exit → Act → World → Prop} (s x : Operand) (t : TypeId)
    (ho : o.op = .call { callee := .builtin .append, args := #[s, x], argTypes := #[t, t] })
    (base : Nat) (e : TypeId) (i : TypeInfo) (z : Value) (bytes : Nat) (ht : P.underlying t = some (.slice e)) (hi : P.info? e = some i) (hz : i.zero = some z)
    (hsize : i.size = 1) (hby : i.bytes = bytes) (hzs : z.cells = #[z]) (hok : ok z)
    (v : Value) (n : Nat) (xs : List Value) (g cap : Nat) (hs : a.eval s = v) (hown : FRow w base v n xs g cap) (hn : 0 < n) (hxo : ∀ u ∈ xs, ok u)
    (ad : Option Addr) (m c : Nat) (news : List Value) (hx : a.eval x = .slice ad m c) (hsee : Sees w ad m c news) (h1 : ∀ u ∈ news, u.oneCell' = true) (hoks : ∀ u ∈ news, ok u)
    (h63 : n + m ≤ maxLen) (hbytes : (n + m) * bytes ≤ 140737488355328) (hbase : base ≤ w.heap.size)
    (h : ∀ v' w' g' cap', FRow w' base v' (n + m) (xs ++ news) g' cap' → Below base w w' → w.grownBy w' (some g) → K (a.put o.dst v') w') : Oper.wp P o a w K Q := by
  obtain ⟨v', w', g', cap', hr, h2, h3, h4⟩ := run_append_frow (P := P) ok w base t o.type e i z bytes ht hi hz hsize hby hzs hok v n xs g cap hown hn hxo ad m c news hsee h1 hoks h63 hbytes hbase
  unfold Oper.wp execOp
  simp only [ho, resolve, invoke, builtin, Sem.run_bind, Sem.run_pure, Result.andThen_ok, List.map_toArray, List.map_cons, List.map_nil, hs, hx, hr]
  exact h v' w' g' cap' h2 h3 h4
end Go.Proofs.YtkimhlomadmnkaaDoor
/- The law's great, by its contract: whatever lengths there are. -/
namespace Go.Proofs.YtkimhlomadmnkaaDoor
open Go Go.RowKit Go.Joins

def sumF : List (List UInt8) → Nat
  | [] => 0
  | f :: r => f.length + sumF r
theorem sumF_snoc : ∀ (a : List (List UInt8)) (f : List UInt8), sumF (a ++ [f]) = sumF a + f.length
  | [], f => by simp [sumF]
  | x :: a, f => by rw [List.cons_append, sumF, sumF_snoc a f, sumF]; omega
def greatW (t : TraceC) : Bool := decide (100000 < t.init.length + sumF t.frames) || decide (2000 < t.frames.length)

/-- Lengths that slices may have. -/
structure TSlots.fair (s : TSlots) : Prop where
  n1 : s.n1 ≤ 140737488355328
  n2 : s.n2 ≤ 140737488355328
  each : ∀ x ∈ s.ss, x.2.1 ≤ 140737488355328

/-- What great answers. -/
def GreatPost (FAIR : Prop) (g : Bool) (w : World) (e : Ending) (w' : World) : Prop := ∃ q, e = .returned (.bool q) ∧ (FAIR → q = g) ∧ Below w.heap.size w w'
set_option maxRecDepth 100000 in
set_option maxHeartbeats 1600000 in
theorem wgreat_any (t : TraceC) (s : TSlots) (w : World) (h : SeesTr w s t) (hs2 : s.n2 ≤ 9223372036854775807) :
    Calls Tryd.prog 12 #[traceV t.bad s] w (GreatPost s.fair (greatW t) w) := by
  obtain ⟨FAIR, hFAIR⟩ : ∃ F, F = s.fair := ⟨_, rfl⟩
  have HFAIR : Hid (FAIR → s.fair) := by rw [hFAIR]; exact fun h => h
  rw [← hFAIR]
  clear hFAIR
  obtain ⟨a1, n1, c1, a2, n2, c2, ss⟩ := s
  simp only at hs2
  obtain ⟨h1, h2⟩ := h
  simp only at h1 h2
  have HN1 := Lib.hid h1.lenMap
  have HN2 := Lib.hid h2.n_eq
  have HS2 := Lib.hid h2
  have hq : greatW t = (decide (100000 < t.init.length + sumF t.frames) || decide (2000 < t.frames.length)) := rfl
  rw [h1.lenMap, h2.n_eq] at hq
  have HQ := Lib.hid hq
  obtain ⟨bad, hbad⟩ : ∃ b, b = t.bad := ⟨_, rfl⟩
  rw [← hbad]
  unfold traceV
  simp only
  clear h1 h2 hq hbad
  go_enter Tryd.func12, Tryd.ntmps12
  go_wp2
  generalize hW : World.alloc w _ = W1
  have B1 : Below w.heap.size w W1 := by subst hW; exact ext_alloc _ _
  have hX : W1.heap[w.heap.size]? = some (.cells #[.int .i64 bad, .slice a1 n1 c1, .slice a2 n2 c2] 39 (0, 0)) := by subst hW; exact heap_new _ _ _ rfl
  have k2 := cell_of_block hX 2
  have HB1 := Lib.hid B1
  clear hW B1 hX
  go_loop [3, 5, 12] (fun z _ j => ∃ (k : Nat) (y : Int), k ≤ n2 ∧ j = .int .i64 k ∧ z = .int .i64 y ∧ Hid (k ≤ 2000 → FAIR → y = ((n1 + sumF (t.frames.take k) : Nat) : Int) ∧ n1 + sumF (t.frames.take k) ≤ 140737488355328 * (k + 1))) (fun _ _ j => n2 - (intOf j).toNat)
  case atStart => exact ⟨0, n1, Nat.zero_le _, rfl, rfl, fun _ hf => ⟨by simp [sumF], by have := (HFAIR.out hf).n1; simp only at this; simp [sumF]; omega⟩⟩
  case round =>
    obtain ⟨k, y, hk, rfl, rfl, hy⟩ := hrel
    by_cases hlt : k < n2
    · have hF := HS2.out.below HB1.out
      obtain ⟨fb, fo, rfl, _⟩ := hF.row.addr (by omega)
      have hcx := hF.cellAt k hlt
      have hkF : k < t.frames.length := by rw [HN2.out]; exact hlt
      obtain ⟨x, hx⟩ : ∃ x : Slc, x = ss.getD k slc0 := ⟨_, rfl⟩
      have hfs := (hF.each k hkF).lenMap
      have hxs := fun hf : FAIR => (HFAIR.out hf).each (ss.getD k slc0) (getD_mem (by rw [HS2.out.len]; exact hkF))
      rw [← hx] at hcx hfs hxs
      obtain ⟨xa, xn, xc⟩ := x
      simp only at hcx hfs hxs
      have W1 : IntKind.i64.wrap ((k : Int) + 1) = (k : Int) + 1 := IntWalk.i64_in _ (by omega)
      obtain ⟨y2, hy2⟩ : ∃ y2, y2 = IntKind.i64.wrap (y + (xn : Int)) := ⟨_, rfl⟩
      have hy3 := hy2.symm
      have HN : Hid (k + 1 ≤ 2000 → FAIR → y2 = ((n1 + sumF (t.frames.take (k + 1)) : Nat) : Int) ∧ n1 + sumF (t.frames.take (k + 1)) ≤ 140737488355328 * (k + 1 + 1)) := fun hk2 hf => by
        obtain ⟨e1, e2⟩ := hy.out (by omega) hf
        have hxs := hxs hf
        have e3 : sumF (t.frames.take (k + 1)) = sumF (t.frames.take k) + xn := by
          rw [List.take_succ_eq_append_getElem hkF, sumF_snoc]
          have : t.frames[k] = t.frames.getD k [] := by simp [List.getD, List.getElem?_eq_getElem hkF]
          rw [this, hfs]
        rw [e3]
        refine ⟨?_, by omega⟩
        rw [hy2, e1, IntWalk.i64_in _ (by omega)]
        omega
      clear hF hx hfs hxs hkF hy hy2
      go_wp2
      go_round
      case rel => exact ⟨k + 1, y2, by omega, by go_num, rfl, HN⟩
      case measure => simp [intOf]; omega
    · have hkn : k = n2 := by omega
      subst hkn
      have hfull : t.frames.take k = t.frames := List.take_of_length_le (by rw [HN2.out]; exact Nat.le_refl _)
      rw [hfull] at hy
      have HY := Lib.hid hy.out
      clear hfull hy
      have done : ∀ q : Bool, (FAIR → (k ≤ 2000 → (q = true ↔ 100000 < y)) ∧ (2000 < k → q = true)) → FAIR → q = greatW t := fun q hq hf => by
        rw [HQ.out]
        rcases Nat.lt_or_ge 2000 k with h2 | h2
        · rw [(hq hf).2 h2, decide_eq_true h2]; simp
        · have hyy := HY.out h2 hf
          have hqq := (hq hf).1 h2
          rw [decide_eq_false (show ¬ 2000 < k by omega), Bool.or_false]
          cases q with
          | true => have := hqq.1 rfl; rw [decide_eq_true (by omega)]
          | false =>
            have : ¬ 100000 < y := fun h => by have := hqq.2 h; cases this
            rw [decide_eq_false (by omega)]
      have HD := Lib.hid done
      clear done HY HFAIR
      by_cases h3 : 100000 < y
      · go_wp2
        go_ret
        exact ⟨true, rfl, HD.out true (fun _ => ⟨fun _ => ⟨fun _ => h3, fun _ => rfl⟩, fun _ => rfl⟩), HB1.out⟩
      · by_cases h2 : 2000 < k
        · have h2' : (2000 : Int) < (k : Int) := by omega
          have h4 : y ≤ 100000 := by omega
          have H2 := Lib.hid h2
          clear h2 h3
          go_wp2
          go_ret
          refine ⟨true, ?_, HD.out true (fun _ => ⟨fun h => absurd H2.out (by omega), fun _ => rfl⟩), HB1.out⟩
          rfl
        · have h2' : (k : Int) ≤ 2000 := by omega
          have h4 : y ≤ 100000 := by omega
          have H2 := Lib.hid h2
          have H4 := Lib.hid h4
          clear h2 h3
          go_wp2
          go_ret
          refine ⟨false, ?_, HD.out false (fun _ => ⟨fun _ => ⟨(fun h => by cases h), fun h => absurd H4.out (by omega)⟩, fun h => absurd h H2.out⟩), HB1.out⟩
          show Ending.returned (.bool (decide ((100000 : Int) < y) || decide ((2000 : Int) < (k : Int)))) = _
          rw [decide_eq_false (by have := H4.out; omega), decide_eq_false (by have := H2.out; omega)]
          rfl
end Go.Proofs.YtkimhlomadmnkaaDoor
/- A region of WitBack, in whatever order: what was put is read. -/
namespace Go.Proofs.YtkimhlomadmnkaaDoor
open Go Go.RowKit Go.Joins

noncomputable def codeWRegA : Code := ((Tryd.f5.body.bind (findRegion 4)).getD .skip)
set_option maxRecDepth 100000 in
set_option maxHeartbeats 25600000 in
theorem reg_WRegA (P fb fo : Nat) (bad : Int) (a1 : Option Addr) (n1 c1 n2 c2 : Nat) (xa : Option Addr) (xn xc : Nat) (va : Option Addr) (N vc : Nat) (t : TraceC) (X0 : World)
    (HELDB : Hid (∀ W, Below X0.heap.size X0 W → (W.cell? ⟨P, 1, none⟩ = some (.slice a1 n1 c1) ∧ W.cell? ⟨P, 2, none⟩ = some (.slice (some ⟨fb, fo, none⟩) n2 c2) ∧ W.cell? ⟨fb, fo, none⟩ = some (.slice xa xn xc))))
    (hn0 : 0 < n2) (E1 : Hid (∀ W, Below X0.heap.size X0 W → Calls Tryd.prog 18 #[.slice va N vc, .int .i64 (n1 : Nat), .int .i64 (xn : Nat)] W fun e w' => ∃ sx : TSlots, e = .returned (.tuple #[.agg #[.int .i64 bad, .slice sx.a1 sx.n1 sx.c1, .slice sx.a2 sx.n2 sx.c2], .int .i64 0]) ∧ OwnT w' W.heap.size sx t ∧ sx.small ∧ Below W.heap.size W w'))
    (QQ : Exit → Act → World → Prop)
    {v0 v1 v2 v4 v5 v6 v8 v9 v10 v11 v12 v13 v14 v15 v16 v17 v18 v19 v20 v21 v22 v23 v24 v25 v26 v27 v28 v29 v30 v31 v32 v33 v34 v35 v36 v37 v38 v39 v40 v41 v42 v43 v44 v45 v46 v47 v48 v49 v50 v51 v52 v53 v54 v55 v56 v57 v58 v59 v60 v61 v62 v63 v64 v65 v66 v67 v68 v69 v70 v71 v72 v73 v74 v75 v76 v77 v78 v79 v80 v81 v82 v83 v84 v85 v86 v87 v88 v89 v90 v91 v92 v93 v94 v95 v96 v97 v98 v99 v100 v101 v102 v103 v104 v105 v106 v107 v108 v109 v110 v111 v112 v113 v114 v115 v116 v117 v118 v119 v120 v121 v122 : Value}
    (hK : ∀ (G : Nat) (sx : TSlots) (wx : World) (u47 u48 u49 u50 u51 u52 u53 u54 u55 u56 u46 u57 u58 : Value), wx.heap[G]? = some (.cells #[.int .i64 bad, .slice sx.a1 sx.n1 sx.c1, .slice sx.a2 sx.n2 sx.c2] 39 (0, 0)) → SeesTr wx sx t → sx.small → Below X0.heap.size X0 wx → QQ .normal ⟨#[v0, v1, v2, .pointer (some ⟨P, 0, .none⟩), v4, v5, v6, .slice va N vc, v8, .pointer (some ⟨G, 0, .none⟩), .int .i64 0, v11, v12, v13, v14, v15, v16, v17, 
      v18, v19, v20, v21, v22, v23, v24, v25, v26, v27, v28, v29, v30, v31, v32, v33, v34, v35, v36, v37, v38, v39, v40, v41, v42, v43, v44, v45, u46, u47, u48, 
      u49, u50, u51, u52, u53, u54, u55, u56, u57, u58, v59, v60, v61, v62, v63, v64, v65, v66, v67, v68, v69, v70, v71, v72, v73, v74, v75, v76, v77, v78, v79, 
      v80, v81, v82, v83, v84, v85, v86, v87, v88, v89, v90, v91, v92, v93, v94, v95, v96, v97, v98, v99, v100, v101, v102, v103, v104, v105, v106, v107, v108, 
      v109, v110, v111, v112, v113, v114, v115, v116, v117, v118, v119, v120, v121, v122], []⟩ wx) :
    Code.wp Tryd.prog codeWRegA QQ ⟨#[v0, v1, v2, .pointer (some ⟨P, 0, .none⟩), v4, v5, v6, .slice va N vc, v8, v9, v10, v11, v12, v13, v14, v15, v16, v17, v18, v19, v20, v21, v22, v23, v24, 
      v25, v26, v27, v28, v29, v30, v31, v32, v33, v34, v35, v36, v37, v38, v39, v40, v41, v42, v43, v44, v45, v46, v47, v48, v49, v50, v51, v52, v53, v54, v55, 
      v56, v57, v58, v59, v60, v61, v62, v63, v64, v65, v66, v67, v68, v69, v70, v71, v72, v73, v74, v75, v76, v77, v78, v79, v80, v81, v82, v83, v84, v85, v86, 
      v87, v88, v89, v90, v91, v92, v93, v94, v95, v96, v97, v98, v99, v100, v101, v102, v103, v104, v105, v106, v107, v108, v109, v110, v111, v112, v113, v114, 
      v115, v116, v117, v118, v119, v120, v121, v122], []⟩ X0 := by
  have hn2 : (0 : Int) < (n2 : Int) := by omega
  conv => arg 2; whnf
  refine wp_region_noPanic ?_
  refine wp_region_held (S := fun w' => w'.cell? ⟨P, 1, none⟩ = some (.slice a1 n1 c1) ∧ w'.cell? ⟨P, 2, none⟩ = some (.slice (some ⟨fb, fo, none⟩) n2 c2) ∧ w'.cell? ⟨fb, fo, none⟩ = some (.slice xa xn xc)) (by kernel_rfl) ?_
  generalize hY : ({ X0 with drawn := X0.drawn + 1 } : World) = Y0
  have hY0 : Below X0.heap.size X0 Y0 := by subst hY; exact (Below.refl _ _).drew
  have HELD := Lib.hid (HELDB.out Y0 hY0)
  have HBc := Lib.hid hY0
  clear hY hY0
  refine wpAnyH_take (i := 0) (v := ?_) (by simp only [List.getElem?_toArray, List.getElem?_cons_zero]; rfl) (by kernel_rfl) (by kernel_rfl) (by kernel_rfl) (fun _ _ _ h => h) (Or.inl ⟨by rfl, ?_⟩) HELD.out ?_
  rotate_left
  · intro w hSw
    (try dsimp only at hSw)
    obtain ⟨q0, q1, q2⟩ := hSw
    go_simp
    try with_reducible rfl
  try simp only [Act.put, List.setIfInBounds_toArray, List.set_cons_zero, List.set_cons_succ]
  refine wpAnyH_take (i := 1) (v := ?_) (by simp only [List.getElem?_toArray, List.getElem?_cons_zero, List.getElem?_cons_succ]; rfl) (by kernel_rfl) (by kernel_rfl) (by kernel_rfl) (fun _ _ _ h => h) (Or.inl ⟨by rfl, ?_⟩) HELD.out ?_
  rotate_left
  · intro w hSw
    (try dsimp only at hSw)
    obtain ⟨q0, q1, q2⟩ := hSw
    go_simp
    try with_reducible rfl
  try simp only [Act.put, List.setIfInBounds_toArray, List.set_cons_zero, List.set_cons_succ]
  refine wpAnyH_take (i := 2) (v := ?_) (by simp only [List.getElem?_toArray, List.getElem?_cons_zero, List.getElem?_cons_succ]; rfl) (by kernel_rfl) (by kernel_rfl) (by kernel_rfl) (fun _ _ _ h => h) (Or.inl ⟨by rfl, ?_⟩) HELD.out ?_
  rotate_left
  · intro w hSw
    (try dsimp only at hSw)
    obtain ⟨q0, q1, q2⟩ := hSw
    go_simp
    try with_reducible rfl
  try simp only [Act.put, List.setIfInBounds_toArray, List.set_cons_zero, List.set_cons_succ]
  refine wpAnyH_take (i := 3) (v := ?_) (by simp only [List.getElem?_toArray, List.getElem?_cons_zero, List.getElem?_cons_succ]; rfl) (by kernel_rfl) (by kernel_rfl) (by kernel_rfl) (fun _ _ _ h => h) (Or.inl ⟨by rfl, ?_⟩) HELD.out ?_
  rotate_left
  · intro w hSw
    (try dsimp only at hSw)
    obtain ⟨q0, q1, q2⟩ := hSw
    go_simp
    try with_reducible rfl
  try simp only [Act.put, List.setIfInBounds_toArray, List.set_cons_zero, List.set_cons_succ]
  refine wpAnyH_take (i := 4) (v := ?_) (by simp only [List.getElem?_toArray, List.getElem?_cons_zero, List.getElem?_cons_succ]; rfl) (by kernel_rfl) (by kernel_rfl) (by kernel_rfl) (fun _ _ _ h => h) (Or.inl ⟨by rfl, ?_⟩) HELD.out ?_
  rotate_left
  · intro w hSw
    (try dsimp only at hSw)
    obtain ⟨q0, q1, q2⟩ := hSw
    go_simp
    try with_reducible rfl
  try simp only [Act.put, List.setIfInBounds_toArray, List.set_cons_zero, List.set_cons_succ]
  refine wpAnyH_take (i := 5) (v := ?_) (by simp only [List.getElem?_toArray, List.getElem?_cons_zero, List.getElem?_cons_succ]; rfl) (by kernel_rfl) (by kernel_rfl) (by kernel_rfl) (fun _ _ _ h => h) (Or.inl ⟨by rfl, ?_⟩) HELD.out ?_
  rotate_left
  · intro w hSw
    (try dsimp only at hSw)
    obtain ⟨q0, q1, q2⟩ := hSw
    go_simp
    try with_reducible rfl
  try simp only [Act.put, List.setIfInBounds_toArray, List.set_cons_zero, List.set_cons_succ]
  refine wpAnyH_take (i := 6) (v := ?_) (by simp only [List.getElem?_toArray, List.getElem?_cons_zero, List.getElem?_cons_succ]; rfl) (by kernel_rfl) (by kernel_rfl) (by kernel_rfl) (fun _ _ _ h => h) (Or.inl ⟨by rfl, ?_⟩) HELD.out ?_
  rotate_left
  · intro w hSw
    (try dsimp only at hSw)
    obtain ⟨q0, q1, q2⟩ := hSw
    go_simp
    try with_reducible rfl
  try simp only [Act.put, List.setIfInBounds_toArray, List.set_cons_zero, List.set_cons_succ]
  refine wpAnyH_take (i := 7) (v := ?_) (by simp only [List.getElem?_toArray, List.getElem?_cons_zero, List.getElem?_cons_succ]; rfl) (by kernel_rfl) (by kernel_rfl) (by kernel_rfl) (fun _ _ _ h => h) (Or.inl ⟨by rfl, ?_⟩) HELD.out ?_
  rotate_left
  · intro w hSw
    (try dsimp only at hSw)
    obtain ⟨q0, q1, q2⟩ := hSw
    go_simp
    try with_reducible rfl
  try simp only [Act.put, List.setIfInBounds_toArray, List.set_cons_zero, List.set_cons_succ]
  refine wpAnyH_take (i := 8) (v := ?_) (by simp only [List.getElem?_toArray, List.getElem?_cons_zero, List.getElem?_cons_succ]; rfl) (by kernel_rfl) (by kernel_rfl) (by kernel_rfl) (fun _ _ _ h => h) (Or.inl ⟨by rfl, ?_⟩) HELD.out ?_
  rotate_left
  · intro w hSw
    (try dsimp only at hSw)
    obtain ⟨q0, q1, q2⟩ := hSw
    go_simp
    try with_reducible rfl
  try simp only [Act.put, List.setIfInBounds_toArray, List.set_cons_zero, List.set_cons_succ]
  refine wpAnyH_ready (rs := [9, 13]) (by kernel_rfl) (by simp) ?_
  refine AllReadyH.cons (by simp only [List.getElem?_toArray, List.getElem?_cons_zero, List.getElem?_cons_succ]; rfl) (fun K hK => ?_) (AllReadyH.cons (by simp only [List.getElem?_toArray, List.getElem?_cons_zero, List.getElem?_cons_succ]; rfl) (fun K hK => ?_) AllReadyH.nil)
  · go_simp
    refine (E1.out _ HBc.out).mono ?_
    rintro e V1 ⟨sx, rfl, ho, hsm, hb⟩
    have HO := Lib.hid (ho.base_le (B := X0.heap.size) HBc.out.size)
    have HSM := Lib.hid hsm
    have HO2 := Lib.hid ho
    have HWS : Hid (V1.heap.size = V1.heap.size) := rfl
    have HBc := Lib.hid (ext_trans HBc.out hb)
    have HELD := Lib.hid (HELDB.out V1 HBc.out)
    clear ho hsm hb
    refine hK.out _ _ HELD.out (fun _ => ?_)
    clear hK K
    try simp only [Act.put, List.setIfInBounds_toArray, List.set_cons_zero, List.set_cons_succ]
    refine wpAnyH_take (i := 10) (v := ?_) (by simp only [List.getElem?_toArray, List.getElem?_cons_zero, List.getElem?_cons_succ]; rfl) (by kernel_rfl) (by kernel_rfl) (by kernel_rfl) (fun _ _ _ h => h) (Or.inl ⟨by rfl, ?_⟩) HELD.out ?_
    rotate_left
    · intro w hSw
      (try dsimp only at hSw)
      obtain ⟨q0, q1, q2⟩ := hSw
      go_simp
      try with_reducible rfl
    try simp only [Act.put, List.setIfInBounds_toArray, List.set_cons_zero, List.set_cons_succ]
    refine wpAnyH_take (i := 11) (v := ?_) (by simp only [List.getElem?_toArray, List.getElem?_cons_zero, List.getElem?_cons_succ]; rfl) (by kernel_rfl) (by kernel_rfl) (by kernel_rfl) (fun _ _ _ h => h) (Or.inl ⟨by rfl, ?_⟩) HELD.out ?_
    rotate_left
    · intro w hSw
      (try dsimp only at hSw)
      obtain ⟨q0, q1, q2⟩ := hSw
      go_simp
      try with_reducible rfl
    try simp only [Act.put, List.setIfInBounds_toArray, List.set_cons_zero, List.set_cons_succ]
    refine wpAnyH_take (i := 12) (v := ?_) (by simp only [List.getElem?_toArray, List.getElem?_cons_zero, List.getElem?_cons_succ]; rfl) (by kernel_rfl) (by kernel_rfl) (by kernel_rfl) (fun _ _ _ h => h) (Or.inl ⟨by rfl, ?_⟩) HELD.out ?_
    rotate_left
    · intro w hSw
      (try dsimp only at hSw)
      obtain ⟨q0, q1, q2⟩ := hSw
      go_simp
      try with_reducible rfl
    try simp only [Act.put, List.setIfInBounds_toArray, List.set_cons_zero, List.set_cons_succ]
    refine wpAnyH_ready (rs := [13]) (by kernel_rfl) (by simp) ?_
    refine AllReadyH.cons (by simp only [List.getElem?_toArray, List.getElem?_cons_zero, List.getElem?_cons_succ]; rfl) (fun K hK => ?_) AllReadyH.nil
    go_simp
    generalize hV : World.alloc V1 _ = V2
    have hb : Below V1.heap.size V1 V2 := by subst hV; exact ext_alloc _ _
    have HO := Lib.hid (HO.out.below hb)
    have HZ : Hid (V2.heap[V1.heap.size]? = some (.cells #[.int .i64 0, .slice none 0 0, .slice none 0 0] 39 (0, 0))) := by show _ = _; subst hV; exact heap_new _ _ _ rfl
    have HG := Lib.hid HBc.out.size
    have HBc := Lib.hid (ext_trans HBc.out hb)
    have HELD := Lib.hid (HELDB.out V2 HBc.out)
    clear hV hb
    refine hK.out _ _ HELD.out (fun _ => ?_)
    clear hK K
    try simp only [Act.put, List.setIfInBounds_toArray, List.set_cons_zero, List.set_cons_succ]
    refine wpAnyH_ready (rs := [14]) (by kernel_rfl) (by simp) ?_
    refine AllReadyH.cons (by simp only [List.getElem?_toArray, List.getElem?_cons_zero, List.getElem?_cons_succ]; rfl) (fun K hK => ?_) AllReadyH.nil
    have hh := HZ.out
    have z0 := cell_of_block hh 0
    have z1 := cell_of_block hh 1
    have z2 := cell_of_block hh 2
    have y0 := unfrozen_of_block hh 0
    have y1 := unfrozen_of_block hh 1
    have y2 := unfrozen_of_block hh 2
    clear hh
    go_simp
    clear z0 z1 z2 y0 y1 y2
    have hb6 := tr_below (u0 := (.int .i64 bad)) (u1 := (.slice sx.a1 sx.n1 sx.c1)) (u2 := (.slice sx.a2 sx.n2 sx.c2)) (V1.heap.size) HG.out HBc.out
    have HT := Lib.hid (tr_set HZ.out rfl (.int .i64 bad) (.slice sx.a1 sx.n1 sx.c1) (.slice sx.a2 sx.n2 sx.c2))
    have HO := Lib.hid (HO.out.but (u0 := (.int .i64 bad)) (u1 := (.slice sx.a1 sx.n1 sx.c1)) (u2 := (.slice sx.a2 sx.n2 sx.c2)) HZ.out)
    have HELD := Lib.hid (HELDB.out _ hb6)
    generalize hV6 : World.setCell (World.setCell (World.setCell V2 _ _) _ _) _ _ = V3 at HELD hb6 HT HO ⊢
    clear hV6
    have HBc := Lib.hid hb6
    clear hb6
    refine hK.out _ _ HELD.out (fun _ => ?_)
    clear hK K
    try simp only [Act.put, List.setIfInBounds_toArray, List.set_cons_zero, List.set_cons_succ]
    refine wpAnyH_take (i := 15) (v := ?_) (by simp only [List.getElem?_toArray, List.getElem?_cons_zero, List.getElem?_cons_succ]; rfl) (by kernel_rfl) (by kernel_rfl) (by kernel_rfl) (fun _ _ _ h => h) (Or.inl ⟨by rfl, ?_⟩) HELD.out ?_
    rotate_left
    · intro w hSw
      (try dsimp only at hSw)
      obtain ⟨q0, q1, q2⟩ := hSw
      go_simp
      try with_reducible rfl
    try simp only [Act.put, List.setIfInBounds_toArray, List.set_cons_zero, List.set_cons_succ]
    refine wpAnyH_done (by kernel_rfl) ?_ _
    refine NoPanic.normal ?_
    exact hK (V1.heap.size) sx _ _ _ _ _ _ _ _ _ _ _ _ _ _ HT.out HO.out.sees HSM.out HBc.out
  · go_simp
    generalize hV : World.alloc Y0 _ = V4
    have hb : Below Y0.heap.size Y0 V4 := by subst hV; exact ext_alloc _ _
    have HZ : Hid (V4.heap[Y0.heap.size]? = some (.cells #[.int .i64 0, .slice none 0 0, .slice none 0 0] 39 (0, 0))) := by show _ = _; subst hV; exact heap_new _ _ _ rfl
    have HG := Lib.hid HBc.out.size
    have HBc := Lib.hid (ext_trans HBc.out hb)
    have HELD := Lib.hid (HELDB.out V4 HBc.out)
    clear hV hb
    refine hK.out _ _ HELD.out (fun _ => ?_)
    clear hK K
    try simp only [Act.put, List.setIfInBounds_toArray, List.set_cons_zero, List.set_cons_succ]
    refine wpAnyH_ready (rs := [9]) (by kernel_rfl) (by simp) ?_
    refine AllReadyH.cons (by simp only [List.getElem?_toArray, List.getElem?_cons_zero, List.getElem?_cons_succ]; rfl) (fun K hK => ?_) AllReadyH.nil
    go_simp
    refine (E1.out _ HBc.out).mono ?_
    rintro e V5 ⟨sx, rfl, ho, hsm, hb⟩
    have HZ := Lib.hid (heap_below HZ.out hb)
    have HO := Lib.hid (ho.base_le (B := X0.heap.size) HBc.out.size)
    have HSM := Lib.hid hsm
    skip
    have HO2 := Lib.hid ho
    have HWS : Hid (V5.heap.size = V5.heap.size) := rfl
    have HBc := Lib.hid (ext_trans HBc.out hb)
    have HELD := Lib.hid (HELDB.out V5 HBc.out)
    clear ho hsm hb
    refine hK.out _ _ HELD.out (fun _ => ?_)
    clear hK K
    try simp only [Act.put, List.setIfInBounds_toArray, List.set_cons_zero, List.set_cons_succ]
    refine wpAnyH_take (i := 10) (v := ?_) (by simp only [List.getElem?_toArray, List.getElem?_cons_zero, List.getElem?_cons_succ]; rfl) (by kernel_rfl) (by kernel_rfl) (by kernel_rfl) (fun _ _ _ h => h) (Or.inl ⟨by rfl, ?_⟩) HELD.out ?_
    rotate_left
    · intro w hSw
      (try dsimp only at hSw)
      obtain ⟨q0, q1, q2⟩ := hSw
      go_simp
      try with_reducible rfl
    try simp only [Act.put, List.setIfInBounds_toArray, List.set_cons_zero, List.set_cons_succ]
    refine wpAnyH_take (i := 11) (v := ?_) (by simp only [List.getElem?_toArray, List.getElem?_cons_zero, List.getElem?_cons_succ]; rfl) (by kernel_rfl) (by kernel_rfl) (by kernel_rfl) (fun _ _ _ h => h) (Or.inl ⟨by rfl, ?_⟩) HELD.out ?_
    rotate_left
    · intro w hSw
      (try dsimp only at hSw)
      obtain ⟨q0, q1, q2⟩ := hSw
      go_simp
      try with_reducible rfl
    try simp only [Act.put, List.setIfInBounds_toArray, List.set_cons_zero, List.set_cons_succ]
    refine wpAnyH_take (i := 12) (v := ?_) (by simp only [List.getElem?_toArray, List.getElem?_cons_zero, List.getElem?_cons_succ]; rfl) (by kernel_rfl) (by kernel_rfl) (by kernel_rfl) (fun _ _ _ h => h) (Or.inl ⟨by rfl, ?_⟩) HELD.out ?_
    rotate_left
    · intro w hSw
      (try dsimp only at hSw)
      obtain ⟨q0, q1, q2⟩ := hSw
      go_simp
      try with_reducible rfl
    try simp only [Act.put, List.setIfInBounds_toArray, List.set_cons_zero, List.set_cons_succ]
    refine wpAnyH_ready (rs := [14]) (by kernel_rfl) (by simp) ?_
    refine AllReadyH.cons (by simp only [List.getElem?_toArray, List.getElem?_cons_zero, List.getElem?_cons_succ]; rfl) (fun K hK => ?_) AllReadyH.nil
    have hh := HZ.out
    have z0 := cell_of_block hh 0
    have z1 := cell_of_block hh 1
    have z2 := cell_of_block hh 2
    have y0 := unfrozen_of_block hh 0
    have y1 := unfrozen_of_block hh 1
    have y2 := unfrozen_of_block hh 2
    clear hh
    go_simp
    clear z0 z1 z2 y0 y1 y2
    have hb6 := tr_below (u0 := (.int .i64 bad)) (u1 := (.slice sx.a1 sx.n1 sx.c1)) (u2 := (.slice sx.a2 sx.n2 sx.c2)) (Y0.heap.size) HG.out HBc.out
    have HT := Lib.hid (tr_set HZ.out rfl (.int .i64 bad) (.slice sx.a1 sx.n1 sx.c1) (.slice sx.a2 sx.n2 sx.c2))
    have HO := Lib.hid (HO.out.but (u0 := (.int .i64 bad)) (u1 := (.slice sx.a1 sx.n1 sx.c1)) (u2 := (.slice sx.a2 sx.n2 sx.c2)) HZ.out)
    have HELD := Lib.hid (HELDB.out _ hb6)
    generalize hV6 : World.setCell (World.setCell (World.setCell V5 _ _) _ _) _ _ = V6 at HELD hb6 HT HO ⊢
    clear hV6
    have HBc := Lib.hid hb6
    clear hb6
    refine hK.out _ _ HELD.out (fun _ => ?_)
    clear hK K
    try simp only [Act.put, List.setIfInBounds_toArray, List.set_cons_zero, List.set_cons_succ]
    refine wpAnyH_take (i := 15) (v := ?_) (by simp only [List.getElem?_toArray, List.getElem?_cons_zero, List.getElem?_cons_succ]; rfl) (by kernel_rfl) (by kernel_rfl) (by kernel_rfl) (fun _ _ _ h => h) (Or.inl ⟨by rfl, ?_⟩) HELD.out ?_
    rotate_left
    · intro w hSw
      (try dsimp only at hSw)
      obtain ⟨q0, q1, q2⟩ := hSw
      go_simp
      try with_reducible rfl
    try simp only [Act.put, List.setIfInBounds_toArray, List.set_cons_zero, List.set_cons_succ]
    refine wpAnyH_done (by kernel_rfl) ?_ _
    refine NoPanic.normal ?_
    exact hK (Y0.heap.size) sx _ _ _ _ _ _ _ _ _ _ _ _ _ _ HT.out HO.out.sees HSM.out HBc.out
end Go.Proofs.YtkimhlomadmnkaaDoor
/- A region of WitBack, in whatever order: with a byte more behind it it is refused. -/
namespace Go.Proofs.YtkimhlomadmnkaaDoor
open Go Go.RowKit Go.Joins

noncomputable def codeWRegB : Code := ((Tryd.f5.body.bind (findRegion 5)).getD .skip)
set_option maxRecDepth 100000 in
set_option maxHeartbeats 25600000 in
theorem reg_WRegB (P fb fo : Nat) (a1 : Option Addr) (n1 c1 n2 c2 : Nat) (xa : Option Addr) (xn xc : Nat) (va : Option Addr) (N vc : Nat) (bs : List UInt8) (more : UInt8) (X0 : World)
    (HELDB : Hid (∀ W, Below X0.heap.size X0 W → (W.cell? ⟨P, 1, none⟩ = some (.slice a1 n1 c1) ∧ W.cell? ⟨P, 2, none⟩ = some (.slice (some ⟨fb, fo, none⟩) n2 c2) ∧ W.cell? ⟨fb, fo, none⟩ = some (.slice xa xn xc) ∧ Sees W va N vc (bs.map bv))))
    (hn0 : 0 < n2) (hN : Hid (N = bs.length)) (hN0 : 0 < N) (hNb : N ≤ 1000000000) (E1 : Hid (∀ W (a' : Option Addr) (c' : Nat), Below X0.heap.size X0 W → Sees W a' (N + 1) c' (bs.map bv ++ [bv more]) → Calls Tryd.prog 18 #[.slice a' (N + 1) c', .int .i64 (n1 : Nat), .int .i64 (xn : Nat)] W fun e w' => e = .returned (.tuple #[.agg #[.int .i64 0, .slice none 0 0, .slice none 0 0], .int .i64 5]) ∧ Below W.heap.size W w'))
    (QQ : Exit → Act → World → Prop)
    {v0 v1 v4 v5 v6 v8 v9 v10 v11 v12 v13 v14 v15 v16 v17 v18 v19 v20 v21 v22 v23 v24 v25 v26 v27 v28 v29 v30 v31 v32 v33 v34 v35 v36 v37 v38 v39 v40 v41 v42 v43 v44 v45 v46 v47 v48 v49 v50 v51 v52 v53 v54 v55 v56 v57 v58 v59 v60 v61 v62 v63 v64 v65 v66 v67 v68 v69 v70 v71 v72 v73 v74 v75 v76 v77 v78 v79 v80 v81 v82 v83 v84 v85 v86 v87 v88 v89 v90 v91 v92 v93 v94 v95 v96 v97 v98 v99 v100 v101 v102 v103 v104 v105 v106 v107 v108 v109 v110 v111 v112 v113 v114 v115 v116 v117 v118 v119 v120 v121 v122 : Value}
    (hK : ∀ (G : Nat) (wx : World) (u60 u61 u62 u63 u64 u65 u66 u67 u68 u69 u70 u71 u72 u73 u74 u59 u75 u76 : Value), Below X0.heap.size X0 wx → QQ .normal ⟨#[v0, v1, .int .u8 (more.toNat : Int), .pointer (some ⟨P, 0, .none⟩), v4, v5, v6, .slice va N vc, v8, v9, v10, .pointer (some ⟨G, 0, .none⟩), .int .i64 5, 
      v13, v14, v15, v16, v17, v18, v19, v20, v21, v22, v23, v24, v25, v26, v27, v28, v29, v30, v31, v32, v33, v34, v35, v36, v37, v38, v39, v40, v41, v42, v43, 
      v44, v45, v46, v47, v48, v49, v50, v51, v52, v53, v54, v55, v56, v57, v58, u59, u60, u61, u62, u63, u64, u65, u66, u67, u68, u69, u70, u71, u72, u73, u74, 
      u75, u76, v77, v78, v79, v80, v81, v82, v83, v84, v85, v86, v87, v88, v89, v90, v91, v92, v93, v94, v95, v96, v97, v98, v99, v100, v101, v102, v103, v104, 
      v105, v106, v107, v108, v109, v110, v111, v112, v113, v114, v115, v116, v117, v118, v119, v120, v121, v122], []⟩ wx) :
    Code.wp Tryd.prog codeWRegB QQ ⟨#[v0, v1, .int .u8 (more.toNat : Int), .pointer (some ⟨P, 0, .none⟩), v4, v5, v6, .slice va N vc, v8, v9, v10, v11, v12, v13, v14, v15, v16, v17, v18, v19, 
      v20, v21, v22, v23, v24, v25, v26, v27, v28, v29, v30, v31, v32, v33, v34, v35, v36, v37, v38, v39, v40, v41, v42, v43, v44, v45, v46, v47, v48, v49, v50, 
      v51, v52, v53, v54, v55, v56, v57, v58, v59, v60, v61, v62, v63, v64, v65, v66, v67, v68, v69, v70, v71, v72, v73, v74, v75, v76, v77, v78, v79, v80, v81, 
      v82, v83, v84, v85, v86, v87, v88, v89, v90, v91, v92, v93, v94, v95, v96, v97, v98, v99, v100, v101, v102, v103, v104, v105, v106, v107, v108, v109, v110, 
      v111, v112, v113, v114, v115, v116, v117, v118, v119, v120, v121, v122], []⟩ X0 := by
  have hn2 : (0 : Int) < (n2 : Int) := by omega
  obtain ⟨i0, hi, hz0, hz1, hz2⟩ := info_parts info_u8
  conv => arg 2; whnf
  refine wp_region_noPanic ?_
  refine wp_region_held (S := fun w' => w'.cell? ⟨P, 1, none⟩ = some (.slice a1 n1 c1) ∧ w'.cell? ⟨P, 2, none⟩ = some (.slice (some ⟨fb, fo, none⟩) n2 c2) ∧ w'.cell? ⟨fb, fo, none⟩ = some (.slice xa xn xc) ∧ Sees w' va N vc (bs.map bv)) (by kernel_rfl) ?_
  generalize hY : ({ X0 with drawn := X0.drawn + 1 } : World) = Y0
  have hY0 : Below X0.heap.size X0 Y0 := by subst hY; exact (Below.refl _ _).drew
  have HELD := Lib.hid (HELDB.out Y0 hY0)
  have HBc := Lib.hid hY0
  clear hY hY0
  refine wpAnyH_take (i := 0) (v := ?_) (by simp only [List.getElem?_toArray, List.getElem?_cons_zero]; rfl) (by kernel_rfl) (by kernel_rfl) (by kernel_rfl) (fun _ _ _ h => h) (Or.inl ⟨by rfl, ?_⟩) HELD.out ?_
  rotate_left
  · intro w hSw
    (try dsimp only at hSw)
    obtain ⟨q0, q1, q2, q3⟩ := hSw
    go_simp
    try with_reducible rfl
  try simp only [Act.put, List.setIfInBounds_toArray, List.set_cons_zero, List.set_cons_succ]
  refine wpAnyH_take (i := 1) (v := ?_) (by simp only [List.getElem?_toArray, List.getElem?_cons_zero, List.getElem?_cons_succ]; rfl) (by kernel_rfl) (by kernel_rfl) (by kernel_rfl) (fun _ _ _ h => h) (Or.inl ⟨by rfl, ?_⟩) HELD.out ?_
  rotate_left
  · intro w hSw
    (try dsimp only at hSw)
    obtain ⟨q0, q1, q2, q3⟩ := hSw
    have qs := q3.str (P := Tryd.prog) 22 5 9 Tryd.underlying22 Tryd.underlying5 Tryd.underlying9
    go_simp
    try with_reducible rfl
  try simp only [Act.put, List.setIfInBounds_toArray, List.set_cons_zero, List.set_cons_succ]
  refine wpAnyH_take (i := 3) (v := ?_) (by simp only [List.getElem?_toArray, List.getElem?_cons_zero, List.getElem?_cons_succ]; rfl) (by kernel_rfl) (by kernel_rfl) (by kernel_rfl) (fun _ _ _ h => h) (Or.inl ⟨by rfl, ?_⟩) HELD.out ?_
  rotate_left
  · intro w hSw
    (try dsimp only at hSw)
    obtain ⟨q0, q1, q2, q3⟩ := hSw
    go_simp
    try with_reducible rfl
  try simp only [Act.put, List.setIfInBounds_toArray, List.set_cons_zero, List.set_cons_succ]
  refine wpAnyH_take (i := 6) (v := ?_) (by simp only [List.getElem?_toArray, List.getElem?_cons_zero, List.getElem?_cons_succ]; rfl) (by kernel_rfl) (by kernel_rfl) (by kernel_rfl) (fun _ _ _ h => h) (Or.inl ⟨by rfl, ?_⟩) HELD.out ?_
  rotate_left
  · intro w hSw
    (try dsimp only at hSw)
    obtain ⟨q0, q1, q2, q3⟩ := hSw
    go_simp
    try with_reducible rfl
  try simp only [Act.put, List.setIfInBounds_toArray, List.set_cons_zero, List.set_cons_succ]
  refine wpAnyH_take (i := 7) (v := ?_) (by simp only [List.getElem?_toArray, List.getElem?_cons_zero, List.getElem?_cons_succ]; rfl) (by kernel_rfl) (by kernel_rfl) (by kernel_rfl) (fun _ _ _ h => h) (Or.inl ⟨by rfl, ?_⟩) HELD.out ?_
  rotate_left
  · intro w hSw
    (try dsimp only at hSw)
    obtain ⟨q0, q1, q2, q3⟩ := hSw
    go_simp
    try with_reducible rfl
  try simp only [Act.put, List.setIfInBounds_toArray, List.set_cons_zero, List.set_cons_succ]
  refine wpAnyH_take (i := 8) (v := ?_) (by simp only [List.getElem?_toArray, List.getElem?_cons_zero, List.getElem?_cons_succ]; rfl) (by kernel_rfl) (by kernel_rfl) (by kernel_rfl) (fun _ _ _ h => h) (Or.inl ⟨by rfl, ?_⟩) HELD.out ?_
  rotate_left
  · intro w hSw
    (try dsimp only at hSw)
    obtain ⟨q0, q1, q2, q3⟩ := hSw
    go_simp
    try with_reducible rfl
  try simp only [Act.put, List.setIfInBounds_toArray, List.set_cons_zero, List.set_cons_succ]
  refine wpAnyH_take (i := 9) (v := ?_) (by simp only [List.getElem?_toArray, List.getElem?_cons_zero, List.getElem?_cons_succ]; rfl) (by kernel_rfl) (by kernel_rfl) (by kernel_rfl) (fun _ _ _ h => h) (Or.inl ⟨by rfl, ?_⟩) HELD.out ?_
  rotate_left
  · intro w hSw
    (try dsimp only at hSw)
    obtain ⟨q0, q1, q2, q3⟩ := hSw
    go_simp
    try with_reducible rfl
  try simp only [Act.put, List.setIfInBounds_toArray, List.set_cons_zero, List.set_cons_succ]
  refine wpAnyH_take (i := 10) (v := ?_) (by simp only [List.getElem?_toArray, List.getElem?_cons_zero, List.getElem?_cons_succ]; rfl) (by kernel_rfl) (by kernel_rfl) (by kernel_rfl) (fun _ _ _ h => h) (Or.inl ⟨by rfl, ?_⟩) HELD.out ?_
  rotate_left
  · intro w hSw
    (try dsimp only at hSw)
    obtain ⟨q0, q1, q2, q3⟩ := hSw
    go_simp
    try with_reducible rfl
  try simp only [Act.put, List.setIfInBounds_toArray, List.set_cons_zero, List.set_cons_succ]
  refine wpAnyH_take (i := 11) (v := ?_) (by simp only [List.getElem?_toArray, List.getElem?_cons_zero, List.getElem?_cons_succ]; rfl) (by kernel_rfl) (by kernel_rfl) (by kernel_rfl) (fun _ _ _ h => h) (Or.inl ⟨by rfl, ?_⟩) HELD.out ?_
  rotate_left
  · intro w hSw
    (try dsimp only at hSw)
    obtain ⟨q0, q1, q2, q3⟩ := hSw
    go_simp
    try with_reducible rfl
  try simp only [Act.put, List.setIfInBounds_toArray, List.set_cons_zero, List.set_cons_succ]
  refine wpAnyH_take (i := 12) (v := ?_) (by simp only [List.getElem?_toArray, List.getElem?_cons_zero, List.getElem?_cons_succ]; rfl) (by kernel_rfl) (by kernel_rfl) (by kernel_rfl) (fun _ _ _ h => h) (Or.inl ⟨by rfl, ?_⟩) HELD.out ?_
  rotate_left
  · intro w hSw
    (try dsimp only at hSw)
    obtain ⟨q0, q1, q2, q3⟩ := hSw
    go_simp
    try with_reducible rfl
  try simp only [Act.put, List.setIfInBounds_toArray, List.set_cons_zero, List.set_cons_succ]
  refine wpAnyH_take (i := 13) (v := ?_) (by simp only [List.getElem?_toArray, List.getElem?_cons_zero, List.getElem?_cons_succ]; rfl) (by kernel_rfl) (by kernel_rfl) (by kernel_rfl) (fun _ _ _ h => h) (Or.inl ⟨by rfl, ?_⟩) HELD.out ?_
  rotate_left
  · intro w hSw
    (try dsimp only at hSw)
    obtain ⟨q0, q1, q2, q3⟩ := hSw
    go_simp
    try with_reducible rfl
  try simp only [Act.put, List.setIfInBounds_toArray, List.set_cons_zero, List.set_cons_succ]
  refine wpAnyH_ready (rs := [2, 4, 18]) (by kernel_rfl) (by simp) ?_
  refine AllReadyH.cons (by simp only [List.getElem?_toArray, List.getElem?_cons_zero, List.getElem?_cons_succ]; rfl) (fun K hK => ?_) (AllReadyH.cons (by simp only [List.getElem?_toArray, List.getElem?_cons_zero, List.getElem?_cons_succ]; rfl) (fun K hK => ?_) (AllReadyH.cons (by simp only [List.getElem?_toArray, List.getElem?_cons_zero, List.getElem?_cons_succ]; rfl) (fun K hK => ?_) AllReadyH.nil))
  · have qc := Lib.run_convert_string_bytes (P := Tryd.prog) Y0 9 22 5 (str bs) Tryd.underlying9 Tryd.underlying22 Tryd.underlying5
    rw [size_str, ← hN.out] at qc
    have hfr := frow_bytes X0.heap.size Y0 bs HBc.out.size (by have := hN.out; omega)
    rw [← hN.out] at hfr
    have hb : Below Y0.heap.size Y0 (Lib.bytesWorld Y0 5 (str bs)) := below_bytes Y0 _ _
    obtain ⟨V1, hV⟩ : ∃ V, V = Lib.bytesWorld Y0 5 (str bs) := ⟨_, rfl⟩
    obtain ⟨cp, hcp⟩ : ∃ cp, cp = grownCap Y0 N 0 5 := ⟨_, rfl⟩
    rw [← hV] at qc hfr hb
    rw [← hcp] at qc hfr
    clear hV hcp
    go_simp
    clear qc
    have HF := Lib.hid hfr
    have HBc := Lib.hid (ext_trans HBc.out hb)
    have HELD := Lib.hid (HELDB.out V1 HBc.out)
    clear hfr hb
    refine hK.out _ _ HELD.out (fun _ => ?_)
    clear hK K
    try simp only [Act.put, List.setIfInBounds_toArray, List.set_cons_zero, List.set_cons_succ]
    refine wpAnyH_ready (rs := [4, 18]) (by kernel_rfl) (by simp) ?_
    refine AllReadyH.cons (by simp only [List.getElem?_toArray, List.getElem?_cons_zero, List.getElem?_cons_succ]; rfl) (fun K hK => ?_) (AllReadyH.cons (by simp only [List.getElem?_toArray, List.getElem?_cons_zero, List.getElem?_cons_succ]; rfl) (fun K hK => ?_) AllReadyH.nil)
    · go_simp
      generalize hV : World.alloc V1 _ = V2
      have hb : Below V1.heap.size V1 V2 := by subst hV; exact ext_alloc _ _
      have hm : Sees V2 (some ⟨V1.heap.size, 0, none⟩) 1 1 [bv more] := by subst hV; exact sees_one V1 (bv more) _
      have HF := Lib.hid (HF.out.below hb)
      have HM := Lib.hid hm
      have HBc := Lib.hid (ext_trans HBc.out hb)
      have HELD := Lib.hid (HELDB.out V2 HBc.out)
      clear hV hb hm
      skip
      refine hK.out _ _ HELD.out (fun _ => ?_)
      clear hK K
      try simp only [Act.put, List.setIfInBounds_toArray, List.set_cons_zero, List.set_cons_succ]
      refine wpAnyH_ready (rs := [5, 18]) (by kernel_rfl) (by simp) ?_
      refine AllReadyH.cons (by simp only [List.getElem?_toArray, List.getElem?_cons_zero, List.getElem?_cons_succ]; rfl) (fun K hK => ?_) (AllReadyH.cons (by simp only [List.getElem?_toArray, List.getElem?_cons_zero, List.getElem?_cons_succ]; rfl) (fun K hK => ?_) AllReadyH.nil)
      · refine oper_append_frow isByte _ _ _ 22 rfl X0.heap.size 5 i0 (.int .u8 0) 1 Tryd.underlying22 hi hz0 hz1 hz2 rfl isByte_zero _ N (bs.map bv) _ cp rfl HF.out hN0 (isByte_all bs) _ 1 1 [bv more] rfl HM.out (bv_one [more]) (isByte_all [more]) (by unfold maxLen; omega) (by omega) HBc.out.size ?_
        intro v6 V3 g6 cp6 hf6 hb6 hg6
        obtain rfl := hf6.form
        have HF := Lib.hid hf6
        have HBc := Lib.hid (HBc.out.trans hb6)
        have HELD := Lib.hid (HELDB.out V3 HBc.out)
        clear hf6 hb6 hg6 HM
        refine hK.out _ _ HELD.out (fun _ => ?_)
        clear hK K
        try simp only [Act.put, List.setIfInBounds_toArray, List.set_cons_zero, List.set_cons_succ]
        refine wpAnyH_ready (rs := [14, 18]) (by kernel_rfl) (by simp) ?_
        refine AllReadyH.cons (by simp only [List.getElem?_toArray, List.getElem?_cons_zero, List.getElem?_cons_succ]; rfl) (fun K hK => ?_) (AllReadyH.cons (by simp only [List.getElem?_toArray, List.getElem?_cons_zero, List.getElem?_cons_succ]; rfl) (fun K hK => ?_) AllReadyH.nil)
        · go_simp
          refine (E1.out _ _ _ HBc.out HF.out.sees).mono ?_
          rintro e V4 ⟨rfl, hb⟩
          have HBc := Lib.hid (ext_trans HBc.out hb)
          have HELD := Lib.hid (HELDB.out V4 HBc.out)
          clear hb
          refine hK.out _ _ HELD.out (fun _ => ?_)
          clear hK K
          try simp only [Act.put, List.setIfInBounds_toArray, List.set_cons_zero, List.set_cons_succ]
          refine wpAnyH_take (i := 15) (v := ?_) (by simp only [List.getElem?_toArray, List.getElem?_cons_zero, List.getElem?_cons_succ]; rfl) (by kernel_rfl) (by kernel_rfl) (by kernel_rfl) (fun _ _ _ h => h) (Or.inl ⟨by rfl, ?_⟩) HELD.out ?_
          rotate_left
          · intro w hSw
            (try dsimp only at hSw)
            obtain ⟨q0, q1, q2, q3⟩ := hSw
            go_simp
            try with_reducible rfl
          try simp only [Act.put, List.setIfInBounds_toArray, List.set_cons_zero, List.set_cons_succ]
          refine wpAnyH_take (i := 16) (v := ?_) (by simp only [List.getElem?_toArray, List.getElem?_cons_zero, List.getElem?_cons_succ]; rfl) (by kernel_rfl) (by kernel_rfl) (by kernel_rfl) (fun _ _ _ h => h) (Or.inl ⟨by rfl, ?_⟩) HELD.out ?_
          rotate_left
          · intro w hSw
            (try dsimp only at hSw)
            obtain ⟨q0, q1, q2, q3⟩ := hSw
            go_simp
            try with_reducible rfl
          try simp only [Act.put, List.setIfInBounds_toArray, List.set_cons_zero, List.set_cons_succ]
          refine wpAnyH_take (i := 17) (v := ?_) (by simp only [List.getElem?_toArray, List.getElem?_cons_zero, List.getElem?_cons_succ]; rfl) (by kernel_rfl) (by kernel_rfl) (by kernel_rfl) (fun _ _ _ h => h) (Or.inl ⟨by rfl, ?_⟩) HELD.out ?_
          rotate_left
          · intro w hSw
            (try dsimp only at hSw)
            obtain ⟨q0, q1, q2, q3⟩ := hSw
            go_simp
            try with_reducible rfl
          try simp only [Act.put, List.setIfInBounds_toArray, List.set_cons_zero, List.set_cons_succ]
          refine wpAnyH_ready (rs := [18]) (by kernel_rfl) (by simp) ?_
          refine AllReadyH.cons (by simp only [List.getElem?_toArray, List.getElem?_cons_zero, List.getElem?_cons_succ]; rfl) (fun K hK => ?_) AllReadyH.nil
          go_simp
          generalize hV : World.alloc V4 _ = V5
          have hb : Below V4.heap.size V4 V5 := by subst hV; exact ext_alloc _ _
          have HZ : Hid (V5.heap[V4.heap.size]? = some (.cells #[.int .i64 0, .slice none 0 0, .slice none 0 0] 39 (0, 0))) := by show _ = _; subst hV; exact heap_new _ _ _ rfl
          have HG := Lib.hid HBc.out.size
          have HBc := Lib.hid (ext_trans HBc.out hb)
          have HELD := Lib.hid (HELDB.out V5 HBc.out)
          clear hV hb
          refine hK.out _ _ HELD.out (fun _ => ?_)
          clear hK K
          try simp only [Act.put, List.setIfInBounds_toArray, List.set_cons_zero, List.set_cons_succ]
          refine wpAnyH_ready (rs := [19]) (by kernel_rfl) (by simp) ?_
          refine AllReadyH.cons (by simp only [List.getElem?_toArray, List.getElem?_cons_zero, List.getElem?_cons_succ]; rfl) (fun K hK => ?_) AllReadyH.nil
          have hh := HZ.out
          have z0 := cell_of_block hh 0
          have z1 := cell_of_block hh 1
          have z2 := cell_of_block hh 2
          have y0 := unfrozen_of_block hh 0
          have y1 := unfrozen_of_block hh 1
          have y2 := unfrozen_of_block hh 2
          clear hh
          go_simp
          clear z0 z1 z2 y0 y1 y2
          have hb6 := tr_below (u0 := (.int .i64 0)) (u1 := (.slice none 0 0)) (u2 := (.slice none 0 0)) (V4.heap.size) HG.out HBc.out
          have HELD := Lib.hid (HELDB.out _ hb6)
          generalize hV6 : World.setCell (World.setCell (World.setCell V5 _ _) _ _) _ _ = V6 at HELD hb6 ⊢
          clear hV6
          have HBc := Lib.hid hb6
          clear hb6
          refine hK.out _ _ HELD.out (fun _ => ?_)
          clear hK K
          try simp only [Act.put, List.setIfInBounds_toArray, List.set_cons_zero, List.set_cons_succ]
          refine wpAnyH_take (i := 20) (v := ?_) (by simp only [List.getElem?_toArray, List.getElem?_cons_zero, List.getElem?_cons_succ]; rfl) (by kernel_rfl) (by kernel_rfl) (by kernel_rfl) (fun _ _ _ h => h) (Or.inl ⟨by rfl, ?_⟩) HELD.out ?_
          rotate_left
          · intro w hSw
            (try dsimp only at hSw)
            obtain ⟨q0, q1, q2, q3⟩ := hSw
            go_simp
            try with_reducible rfl
          try simp only [Act.put, List.setIfInBounds_toArray, List.set_cons_zero, List.set_cons_succ]
          refine wpAnyH_done (by kernel_rfl) ?_ _
          refine NoPanic.normal ?_
          exact hK (V4.heap.size) _ _ _ _ _ _ _ _ _ _ _ _ _ _ _ _ _ _ _ HBc.out
        · go_simp
          generalize hV : World.alloc V3 _ = V7
          have hb : Below V3.heap.size V3 V7 := by subst hV; exact ext_alloc _ _
          have HF := Lib.hid (HF.out.below hb)
          have HZ : Hid (V7.heap[V3.heap.size]? = some (.cells #[.int .i64 0, .slice none 0 0, .slice none 0 0] 39 (0, 0))) := by show _ = _; subst hV; exact heap_new _ _ _ rfl
          have HG := Lib.hid HBc.out.size
          have HBc := Lib.hid (ext_trans HBc.out hb)
          have HELD := Lib.hid (HELDB.out V7 HBc.out)
          clear hV hb
          refine hK.out _ _ HELD.out (fun _ => ?_)
          clear hK K
          try simp only [Act.put, List.setIfInBounds_toArray, List.set_cons_zero, List.set_cons_succ]
          refine wpAnyH_ready (rs := [14]) (by kernel_rfl) (by simp) ?_
          refine AllReadyH.cons (by simp only [List.getElem?_toArray, List.getElem?_cons_zero, List.getElem?_cons_succ]; rfl) (fun K hK => ?_) AllReadyH.nil
          go_simp
          refine (E1.out _ _ _ HBc.out HF.out.sees).mono ?_
          rintro e V8 ⟨rfl, hb⟩
          have HZ := Lib.hid (heap_below HZ.out hb)
          have HBc := Lib.hid (ext_trans HBc.out hb)
          have HELD := Lib.hid (HELDB.out V8 HBc.out)
          clear hb
          refine hK.out _ _ HELD.out (fun _ => ?_)
          clear hK K
          try simp only [Act.put, List.setIfInBounds_toArray, List.set_cons_zero, List.set_cons_succ]
          refine wpAnyH_take (i := 15) (v := ?_) (by simp only [List.getElem?_toArray, List.getElem?_cons_zero, List.getElem?_cons_succ]; rfl) (by kernel_rfl) (by kernel_rfl) (by kernel_rfl) (fun _ _ _ h => h) (Or.inl ⟨by rfl, ?_⟩) HELD.out ?_
          rotate_left
          · intro w hSw
            (try dsimp only at hSw)
            obtain ⟨q0, q1, q2, q3⟩ := hSw
            go_simp
            try with_reducible rfl
          try simp only [Act.put, List.setIfInBounds_toArray, List.set_cons_zero, List.set_cons_succ]
          refine wpAnyH_take (i := 16) (v := ?_) (by simp only [List.getElem?_toArray, List.getElem?_cons_zero, List.getElem?_cons_succ]; rfl) (by kernel_rfl) (by kernel_rfl) (by kernel_rfl) (fun _ _ _ h => h) (Or.inl ⟨by rfl, ?_⟩) HELD.out ?_
          rotate_left
          · intro w hSw
            (try dsimp only at hSw)
            obtain ⟨q0, q1, q2, q3⟩ := hSw
            go_simp
            try with_reducible rfl
          try simp only [Act.put, List.setIfInBounds_toArray, List.set_cons_zero, List.set_cons_succ]
          refine wpAnyH_take (i := 17) (v := ?_) (by simp only [List.getElem?_toArray, List.getElem?_cons_zero, List.getElem?_cons_succ]; rfl) (by kernel_rfl) (by kernel_rfl) (by kernel_rfl) (fun _ _ _ h => h) (Or.inl ⟨by rfl, ?_⟩) HELD.out ?_
          rotate_left
          · intro w hSw
            (try dsimp only at hSw)
            obtain ⟨q0, q1, q2, q3⟩ := hSw
            go_simp
            try with_reducible rfl
          try simp only [Act.put, List.setIfInBounds_toArray, List.set_cons_zero, List.set_cons_succ]
          refine wpAnyH_ready (rs := [19]) (by kernel_rfl) (by simp) ?_
          refine AllReadyH.cons (by simp only [List.getElem?_toArray, List.getElem?_cons_zero, List.getElem?_cons_succ]; rfl) (fun K hK => ?_) AllReadyH.nil
          have hh := HZ.out
          have z0 := cell_of_block hh 0
          have z1 := cell_of_block hh 1
          have z2 := cell_of_block hh 2
          have y0 := unfrozen_of_block hh 0
          have y1 := unfrozen_of_block hh 1
          have y2 := unfrozen_of_block hh 2
          clear hh
          go_simp
          clear z0 z1 z2 y0 y1 y2
          have hb6 := tr_below (u0 := (.int .i64 0)) (u1 := (.slice none 0 0)) (u2 := (.slice none 0 0)) (V3.heap.size) HG.out HBc.out
          have HELD := Lib.hid (HELDB.out _ hb6)
          generalize hV6 : World.setCell (World.setCell (World.setCell V8 _ _) _ _) _ _ = V9 at HELD hb6 ⊢
          clear hV6
          have HBc := Lib.hid hb6
          clear hb6
          refine hK.out _ _ HELD.out (fun _ => ?_)
          clear hK K
          try simp only [Act.put, List.setIfInBounds_toArray, List.set_cons_zero, List.set_cons_succ]
          refine wpAnyH_take (i := 20) (v := ?_) (by simp only [List.getElem?_toArray, List.getElem?_cons_zero, List.getElem?_cons_succ]; rfl) (by kernel_rfl) (by kernel_rfl) (by kernel_rfl) (fun _ _ _ h => h) (Or.inl ⟨by rfl, ?_⟩) HELD.out ?_
          rotate_left
          · intro w hSw
            (try dsimp only at hSw)
            obtain ⟨q0, q1, q2, q3⟩ := hSw
            go_simp
            try with_reducible rfl
          try simp only [Act.put, List.setIfInBounds_toArray, List.set_cons_zero, List.set_cons_succ]
          refine wpAnyH_done (by kernel_rfl) ?_ _
          refine NoPanic.normal ?_
          exact hK (V3.heap.size) _ _ _ _ _ _ _ _ _ _ _ _ _ _ _ _ _ _ _ HBc.out
      · go_simp
        generalize hV : World.alloc V2 _ = V10
        have hb : Below V2.heap.size V2 V10 := by subst hV; exact ext_alloc _ _
        have HNE := Lib.hid (Nat.ne_of_lt HF.out.lt)
        have HF := Lib.hid (HF.out.below hb)
        have HM := Lib.hid (HM.out.below hb)
        have HZ : Hid (V10.heap[V2.heap.size]? = some (.cells #[.int .i64 0, .slice none 0 0, .slice none 0 0] 39 (0, 0))) := by show _ = _; subst hV; exact heap_new _ _ _ rfl
        have HG := Lib.hid HBc.out.size
        have HBc := Lib.hid (ext_trans HBc.out hb)
        have HELD := Lib.hid (HELDB.out V10 HBc.out)
        clear hV hb
        refine hK.out _ _ HELD.out (fun _ => ?_)
        clear hK K
        try simp only [Act.put, List.setIfInBounds_toArray, List.set_cons_zero, List.set_cons_succ]
        refine wpAnyH_ready (rs := [5]) (by kernel_rfl) (by simp) ?_
        refine AllReadyH.cons (by simp only [List.getElem?_toArray, List.getElem?_cons_zero, List.getElem?_cons_succ]; rfl) (fun K hK => ?_) AllReadyH.nil
        refine oper_append_frow isByte _ _ _ 22 rfl X0.heap.size 5 i0 (.int .u8 0) 1 Tryd.underlying22 hi hz0 hz1 hz2 rfl isByte_zero _ N (bs.map bv) _ cp rfl HF.out hN0 (isByte_all bs) _ 1 1 [bv more] rfl HM.out (bv_one [more]) (isByte_all [more]) (by unfold maxLen; omega) (by omega) HBc.out.size ?_
        intro v6 V11 g6 cp6 hf6 hb6 hg6
        obtain rfl := hf6.form
        have HZ := Lib.hid (heap_grown HZ.out hg6 (fun e => HNE.out (Option.some.inj e)))
        have HF := Lib.hid hf6
        have HBc := Lib.hid (HBc.out.trans hb6)
        have HELD := Lib.hid (HELDB.out V11 HBc.out)
        clear hf6 hb6 hg6 HM
        refine hK.out _ _ HELD.out (fun _ => ?_)
        clear hK K
        try simp only [Act.put, List.setIfInBounds_toArray, List.set_cons_zero, List.set_cons_succ]
        refine wpAnyH_ready (rs := [14]) (by kernel_rfl) (by simp) ?_
        refine AllReadyH.cons (by simp only [List.getElem?_toArray, List.getElem?_cons_zero, List.getElem?_cons_succ]; rfl) (fun K hK => ?_) AllReadyH.nil
        go_simp
        refine (E1.out _ _ _ HBc.out HF.out.sees).mono ?_
        rintro e V12 ⟨rfl, hb⟩
        have HZ := Lib.hid (heap_below HZ.out hb)
        have HBc := Lib.hid (ext_trans HBc.out hb)
        have HELD := Lib.hid (HELDB.out V12 HBc.out)
        clear hb
        refine hK.out _ _ HELD.out (fun _ => ?_)
        clear hK K
        try simp only [Act.put, List.setIfInBounds_toArray, List.set_cons_zero, List.set_cons_succ]
        refine wpAnyH_take (i := 15) (v := ?_) (by simp only [List.getElem?_toArray, List.getElem?_cons_zero, List.getElem?_cons_succ]; rfl) (by kernel_rfl) (by kernel_rfl) (by kernel_rfl) (fun _ _ _ h => h) (Or.inl ⟨by rfl, ?_⟩) HELD.out ?_
        rotate_left
        · intro w hSw
          (try dsimp only at hSw)
          obtain ⟨q0, q1, q2, q3⟩ := hSw
          go_simp
          try with_reducible rfl
        try simp only [Act.put, List.setIfInBounds_toArray, List.set_cons_zero, List.set_cons_succ]
        refine wpAnyH_take (i := 16) (v := ?_) (by simp only [List.getElem?_toArray, List.getElem?_cons_zero, List.getElem?_cons_succ]; rfl) (by kernel_rfl) (by kernel_rfl) (by kernel_rfl) (fun _ _ _ h => h) (Or.inl ⟨by rfl, ?_⟩) HELD.out ?_
        rotate_left
        · intro w hSw
          (try dsimp only at hSw)
          obtain ⟨q0, q1, q2, q3⟩ := hSw
          go_simp
          try with_reducible rfl
        try simp only [Act.put, List.setIfInBounds_toArray, List.set_cons_zero, List.set_cons_succ]
        refine wpAnyH_take (i := 17) (v := ?_) (by simp only [List.getElem?_toArray, List.getElem?_cons_zero, List.getElem?_cons_succ]; rfl) (by kernel_rfl) (by kernel_rfl) (by kernel_rfl) (fun _ _ _ h => h) (Or.inl ⟨by rfl, ?_⟩) HELD.out ?_
        rotate_left
        · intro w hSw
          (try dsimp only at hSw)
          obtain ⟨q0, q1, q2, q3⟩ := hSw
          go_simp
          try with_reducible rfl
        try simp only [Act.put, List.setIfInBounds_toArray, List.set_cons_zero, List.set_cons_succ]
        refine wpAnyH_ready (rs := [19]) (by kernel_rfl) (by simp) ?_
        refine AllReadyH.cons (by simp only [List.getElem?_toArray, List.getElem?_cons_zero, List.getElem?_cons_succ]; rfl) (fun K hK => ?_) AllReadyH.nil
        have hh := HZ.out
        have z0 := cell_of_block hh 0
        have z1 := cell_of_block hh 1
        have z2 := cell_of_block hh 2
        have y0 := unfrozen_of_block hh 0
        have y1 := unfrozen_of_block hh 1
        have y2 := unfrozen_of_block hh 2
        clear hh
        go_simp
        clear z0 z1 z2 y0 y1 y2
        have hb6 := tr_below (u0 := (.int .i64 0)) (u1 := (.slice none 0 0)) (u2 := (.slice none 0 0)) (V2.heap.size) HG.out HBc.out
        have HELD := Lib.hid (HELDB.out _ hb6)
        generalize hV6 : World.setCell (World.setCell (World.setCell V12 _ _) _ _) _ _ = V13 at HELD hb6 ⊢
        clear hV6
        have HBc := Lib.hid hb6
        clear hb6
        refine hK.out _ _ HELD.out (fun _ => ?_)
        clear hK K
        try simp only [Act.put, List.setIfInBounds_toArray, List.set_cons_zero, List.set_cons_succ]
        refine wpAnyH_take (i := 20) (v := ?_) (by simp only [List.getElem?_toArray, List.getElem?_cons_zero, List.getElem?_cons_succ]; rfl) (by kernel_rfl) (by kernel_rfl) (by kernel_rfl) (fun _ _ _ h => h) (Or.inl ⟨by rfl, ?_⟩) HELD.out ?_
        rotate_left
        · intro w hSw
          (try dsimp only at hSw)
          obtain ⟨q0, q1, q2, q3⟩ := hSw
          go_simp
          try with_reducible rfl
        try simp only [Act.put, List.setIfInBounds_toArray, List.set_cons_zero, List.set_cons_succ]
        refine wpAnyH_done (by kernel_rfl) ?_ _
        refine NoPanic.normal ?_
        exact hK (V2.heap.size) _ _ _ _ _ _ _ _ _ _ _ _ _ _ _ _ _ _ _ HBc.out
    · go_simp
      generalize hV : World.alloc V1 _ = V14
      have hb : Below V1.heap.size V1 V14 := by subst hV; exact ext_alloc _ _
      have HNE := Lib.hid (Nat.ne_of_lt HF.out.lt)
      have HF := Lib.hid (HF.out.below hb)
      have HZ : Hid (V14.heap[V1.heap.size]? = some (.cells #[.int .i64 0, .slice none 0 0, .slice none 0 0] 39 (0, 0))) := by show _ = _; subst hV; exact heap_new _ _ _ rfl
      have HG := Lib.hid HBc.out.size
      have HBc := Lib.hid (ext_trans HBc.out hb)
      have HELD := Lib.hid (HELDB.out V14 HBc.out)
      clear hV hb
      refine hK.out _ _ HELD.out (fun _ => ?_)
      clear hK K
      try simp only [Act.put, List.setIfInBounds_toArray, List.set_cons_zero, List.set_cons_succ]
      refine wpAnyH_ready (rs := [4]) (by kernel_rfl) (by simp) ?_
      refine AllReadyH.cons (by simp only [List.getElem?_toArray, List.getElem?_cons_zero, List.getElem?_cons_succ]; rfl) (fun K hK => ?_) AllReadyH.nil
      go_simp
      generalize hV : World.alloc V14 _ = V15
      have hb : Below V14.heap.size V14 V15 := by subst hV; exact ext_alloc _ _
      have hm : Sees V15 (some ⟨V14.heap.size, 0, none⟩) 1 1 [bv more] := by subst hV; exact sees_one V14 (bv more) _
      have HZ := Lib.hid (heap_below HZ.out hb)
      have HF := Lib.hid (HF.out.below hb)
      have HM := Lib.hid hm
      have HBc := Lib.hid (ext_trans HBc.out hb)
      have HELD := Lib.hid (HELDB.out V15 HBc.out)
      clear hV hb hm
      skip
      refine hK.out _ _ HELD.out (fun _ => ?_)
      clear hK K
      try simp only [Act.put, List.setIfInBounds_toArray, List.set_cons_zero, List.set_cons_succ]
      refine wpAnyH_ready (rs := [5]) (by kernel_rfl) (by simp) ?_
      refine AllReadyH.cons (by simp only [List.getElem?_toArray, List.getElem?_cons_zero, List.getElem?_cons_succ]; rfl) (fun K hK => ?_) AllReadyH.nil
      refine oper_append_frow isByte _ _ _ 22 rfl X0.heap.size 5 i0 (.int .u8 0) 1 Tryd.underlying22 hi hz0 hz1 hz2 rfl isByte_zero _ N (bs.map bv) _ cp rfl HF.out hN0 (isByte_all bs) _ 1 1 [bv more] rfl HM.out (bv_one [more]) (isByte_all [more]) (by unfold maxLen; omega) (by omega) HBc.out.size ?_
      intro v6 V16 g6 cp6 hf6 hb6 hg6
      obtain rfl := hf6.form
      have HZ := Lib.hid (heap_grown HZ.out hg6 (fun e => HNE.out (Option.some.inj e)))
      have HF := Lib.hid hf6
      have HBc := Lib.hid (HBc.out.trans hb6)
      have HELD := Lib.hid (HELDB.out V16 HBc.out)
      clear hf6 hb6 hg6 HM
      refine hK.out _ _ HELD.out (fun _ => ?_)
      clear hK K
      try simp only [Act.put, List.setIfInBounds_toArray, List.set_cons_zero, List.set_cons_succ]
      refine wpAnyH_ready (rs := [14]) (by kernel_rfl) (by simp) ?_
      refine AllReadyH.cons (by simp only [List.getElem?_toArray, List.getElem?_cons_zero, List.getElem?_cons_succ]; rfl) (fun K hK => ?_) AllReadyH.nil
      go_simp
      refine (E1.out _ _ _ HBc.out HF.out.sees).mono ?_
      rintro e V17 ⟨rfl, hb⟩
      have HZ := Lib.hid (heap_below HZ.out hb)
      have HBc := Lib.hid (ext_trans HBc.out hb)
      have HELD := Lib.hid (HELDB.out V17 HBc.out)
      clear hb
      refine hK.out _ _ HELD.out (fun _ => ?_)
      clear hK K
      try simp only [Act.put, List.setIfInBounds_toArray, List.set_cons_zero, List.set_cons_succ]
      refine wpAnyH_take (i := 15) (v := ?_) (by simp only [List.getElem?_toArray, List.getElem?_cons_zero, List.getElem?_cons_succ]; rfl) (by kernel_rfl) (by kernel_rfl) (by kernel_rfl) (fun _ _ _ h => h) (Or.inl ⟨by rfl, ?_⟩) HELD.out ?_
      rotate_left
      · intro w hSw
        (try dsimp only at hSw)
        obtain ⟨q0, q1, q2, q3⟩ := hSw
        go_simp
        try with_reducible rfl
      try simp only [Act.put, List.setIfInBounds_toArray, List.set_cons_zero, List.set_cons_succ]
      refine wpAnyH_take (i := 16) (v := ?_) (by simp only [List.getElem?_toArray, List.getElem?_cons_zero, List.getElem?_cons_succ]; rfl) (by kernel_rfl) (by kernel_rfl) (by kernel_rfl) (fun _ _ _ h => h) (Or.inl ⟨by rfl, ?_⟩) HELD.out ?_
      rotate_left
      · intro w hSw
        (try dsimp only at hSw)
        obtain ⟨q0, q1, q2, q3⟩ := hSw
        go_simp
        try with_reducible rfl
      try simp only [Act.put, List.setIfInBounds_toArray, List.set_cons_zero, List.set_cons_succ]
      refine wpAnyH_take (i := 17) (v := ?_) (by simp only [List.getElem?_toArray, List.getElem?_cons_zero, List.getElem?_cons_succ]; rfl) (by kernel_rfl) (by kernel_rfl) (by kernel_rfl) (fun _ _ _ h => h) (Or.inl ⟨by rfl, ?_⟩) HELD.out ?_
      rotate_left
      · intro w hSw
        (try dsimp only at hSw)
        obtain ⟨q0, q1, q2, q3⟩ := hSw
        go_simp
        try with_reducible rfl
      try simp only [Act.put, List.setIfInBounds_toArray, List.set_cons_zero, List.set_cons_succ]
      refine wpAnyH_ready (rs := [19]) (by kernel_rfl) (by simp) ?_
      refine AllReadyH.cons (by simp only [List.getElem?_toArray, List.getElem?_cons_zero, List.getElem?_cons_succ]; rfl) (fun K hK => ?_) AllReadyH.nil
      have hh := HZ.out
      have z0 := cell_of_block hh 0
      have z1 := cell_of_block hh 1
      have z2 := cell_of_block hh 2
      have y0 := unfrozen_of_block hh 0
      have y1 := unfrozen_of_block hh 1
      have y2 := unfrozen_of_block hh 2
      clear hh
      go_simp
      clear z0 z1 z2 y0 y1 y2
      have hb6 := tr_below (u0 := (.int .i64 0)) (u1 := (.slice none 0 0)) (u2 := (.slice none 0 0)) (V1.heap.size) HG.out HBc.out
      have HELD := Lib.hid (HELDB.out _ hb6)
      generalize hV6 : World.setCell (World.setCell (World.setCell V17 _ _) _ _) _ _ = V18 at HELD hb6 ⊢
      clear hV6
      have HBc := Lib.hid hb6
      clear hb6
      refine hK.out _ _ HELD.out (fun _ => ?_)
      clear hK K
      try simp only [Act.put, List.setIfInBounds_toArray, List.set_cons_zero, List.set_cons_succ]
      refine wpAnyH_take (i := 20) (v := ?_) (by simp only [List.getElem?_toArray, List.getElem?_cons_zero, List.getElem?_cons_succ]; rfl) (by kernel_rfl) (by kernel_rfl) (by kernel_rfl) (fun _ _ _ h => h) (Or.inl ⟨by rfl, ?_⟩) HELD.out ?_
      rotate_left
      · intro w hSw
        (try dsimp only at hSw)
        obtain ⟨q0, q1, q2, q3⟩ := hSw
        go_simp
        try with_reducible rfl
      try simp only [Act.put, List.setIfInBounds_toArray, List.set_cons_zero, List.set_cons_succ]
      refine wpAnyH_done (by kernel_rfl) ?_ _
      refine NoPanic.normal ?_
      exact hK (V1.heap.size) _ _ _ _ _ _ _ _ _ _ _ _ _ _ _ _ _ _ _ HBc.out
  · go_simp
    generalize hV : World.alloc Y0 _ = V19
    have hb : Below Y0.heap.size Y0 V19 := by subst hV; exact ext_alloc _ _
    have hm : Sees V19 (some ⟨Y0.heap.size, 0, none⟩) 1 1 [bv more] := by subst hV; exact sees_one Y0 (bv more) _
    have HM := Lib.hid hm
    have HBc := Lib.hid (ext_trans HBc.out hb)
    have HELD := Lib.hid (HELDB.out V19 HBc.out)
    clear hV hb hm
    refine hK.out _ _ HELD.out (fun _ => ?_)
    clear hK K
    try simp only [Act.put, List.setIfInBounds_toArray, List.set_cons_zero, List.set_cons_succ]
    refine wpAnyH_ready (rs := [2, 18]) (by kernel_rfl) (by simp) ?_
    refine AllReadyH.cons (by simp only [List.getElem?_toArray, List.getElem?_cons_zero, List.getElem?_cons_succ]; rfl) (fun K hK => ?_) (AllReadyH.cons (by simp only [List.getElem?_toArray, List.getElem?_cons_zero, List.getElem?_cons_succ]; rfl) (fun K hK => ?_) AllReadyH.nil)
    · have qc := Lib.run_convert_string_bytes (P := Tryd.prog) V19 9 22 5 (str bs) Tryd.underlying9 Tryd.underlying22 Tryd.underlying5
      rw [size_str, ← hN.out] at qc
      have hfr := frow_bytes X0.heap.size V19 bs HBc.out.size (by have := hN.out; omega)
      rw [← hN.out] at hfr
      have hb : Below V19.heap.size V19 (Lib.bytesWorld V19 5 (str bs)) := below_bytes V19 _ _
      obtain ⟨V20, hV⟩ : ∃ V, V = Lib.bytesWorld V19 5 (str bs) := ⟨_, rfl⟩
      obtain ⟨cp, hcp⟩ : ∃ cp, cp = grownCap V19 N 0 5 := ⟨_, rfl⟩
      rw [← hV] at qc hfr hb
      rw [← hcp] at qc hfr
      clear hV hcp
      go_simp
      clear qc
      have HM := Lib.hid (HM.out.below hb)
      have HF := Lib.hid hfr
      have HBc := Lib.hid (ext_trans HBc.out hb)
      have HELD := Lib.hid (HELDB.out V20 HBc.out)
      clear hfr hb
      refine hK.out _ _ HELD.out (fun _ => ?_)
      clear hK K
      try simp only [Act.put, List.setIfInBounds_toArray, List.set_cons_zero, List.set_cons_succ]
      refine wpAnyH_ready (rs := [5, 18]) (by kernel_rfl) (by simp) ?_
      refine AllReadyH.cons (by simp only [List.getElem?_toArray, List.getElem?_cons_zero, List.getElem?_cons_succ]; rfl) (fun K hK => ?_) (AllReadyH.cons (by simp only [List.getElem?_toArray, List.getElem?_cons_zero, List.getElem?_cons_succ]; rfl) (fun K hK => ?_) AllReadyH.nil)
      · refine oper_append_frow isByte _ _ _ 22 rfl X0.heap.size 5 i0 (.int .u8 0) 1 Tryd.underlying22 hi hz0 hz1 hz2 rfl isByte_zero _ N (bs.map bv) _ cp rfl HF.out hN0 (isByte_all bs) _ 1 1 [bv more] rfl HM.out (bv_one [more]) (isByte_all [more]) (by unfold maxLen; omega) (by omega) HBc.out.size ?_
        intro v6 V21 g6 cp6 hf6 hb6 hg6
        obtain rfl := hf6.form
        have HF := Lib.hid hf6
        have HBc := Lib.hid (HBc.out.trans hb6)
        have HELD := Lib.hid (HELDB.out V21 HBc.out)
        clear hf6 hb6 hg6 HM
        refine hK.out _ _ HELD.out (fun _ => ?_)
        clear hK K
        try simp only [Act.put, List.setIfInBounds_toArray, List.set_cons_zero, List.set_cons_succ]
        refine wpAnyH_ready (rs := [14, 18]) (by kernel_rfl) (by simp) ?_
        refine AllReadyH.cons (by simp only [List.getElem?_toArray, List.getElem?_cons_zero, List.getElem?_cons_succ]; rfl) (fun K hK => ?_) (AllReadyH.cons (by simp only [List.getElem?_toArray, List.getElem?_cons_zero, List.getElem?_cons_succ]; rfl) (fun K hK => ?_) AllReadyH.nil)
        · go_simp
          refine (E1.out _ _ _ HBc.out HF.out.sees).mono ?_
          rintro e V22 ⟨rfl, hb⟩
          have HBc := Lib.hid (ext_trans HBc.out hb)
          have HELD := Lib.hid (HELDB.out V22 HBc.out)
          clear hb
          refine hK.out _ _ HELD.out (fun _ => ?_)
          clear hK K
          try simp only [Act.put, List.setIfInBounds_toArray, List.set_cons_zero, List.set_cons_succ]
          refine wpAnyH_take (i := 15) (v := ?_) (by simp only [List.getElem?_toArray, List.getElem?_cons_zero, List.getElem?_cons_succ]; rfl) (by kernel_rfl) (by kernel_rfl) (by kernel_rfl) (fun _ _ _ h => h) (Or.inl ⟨by rfl, ?_⟩) HELD.out ?_
          rotate_left
          · intro w hSw
            (try dsimp only at hSw)
            obtain ⟨q0, q1, q2, q3⟩ := hSw
            go_simp
            try with_reducible rfl
          try simp only [Act.put, List.setIfInBounds_toArray, List.set_cons_zero, List.set_cons_succ]
          refine wpAnyH_take (i := 16) (v := ?_) (by simp only [List.getElem?_toArray, List.getElem?_cons_zero, List.getElem?_cons_succ]; rfl) (by kernel_rfl) (by kernel_rfl) (by kernel_rfl) (fun _ _ _ h => h) (Or.inl ⟨by rfl, ?_⟩) HELD.out ?_
          rotate_left
          · intro w hSw
            (try dsimp only at hSw)
            obtain ⟨q0, q1, q2, q3⟩ := hSw
            go_simp
            try with_reducible rfl
          try simp only [Act.put, List.setIfInBounds_toArray, List.set_cons_zero, List.set_cons_succ]
          refine wpAnyH_take (i := 17) (v := ?_) (by simp only [List.getElem?_toArray, List.getElem?_cons_zero, List.getElem?_cons_succ]; rfl) (by kernel_rfl) (by kernel_rfl) (by kernel_rfl) (fun _ _ _ h => h) (Or.inl ⟨by rfl, ?_⟩) HELD.out ?_
          rotate_left
          · intro w hSw
            (try dsimp only at hSw)
            obtain ⟨q0, q1, q2, q3⟩ := hSw
            go_simp
            try with_reducible rfl
          try simp only [Act.put, List.setIfInBounds_toArray, List.set_cons_zero, List.set_cons_succ]
          refine wpAnyH_ready (rs := [18]) (by kernel_rfl) (by simp) ?_
          refine AllReadyH.cons (by simp only [List.getElem?_toArray, List.getElem?_cons_zero, List.getElem?_cons_succ]; rfl) (fun K hK => ?_) AllReadyH.nil
          go_simp
          generalize hV : World.alloc V22 _ = V23
          have hb : Below V22.heap.size V22 V23 := by subst hV; exact ext_alloc _ _
          have HZ : Hid (V23.heap[V22.heap.size]? = some (.cells #[.int .i64 0, .slice none 0 0, .slice none 0 0] 39 (0, 0))) := by show _ = _; subst hV; exact heap_new _ _ _ rfl
          have HG := Lib.hid HBc.out.size
          have HBc := Lib.hid (ext_trans HBc.out hb)
          have HELD := Lib.hid (HELDB.out V23 HBc.out)
          clear hV hb
          refine hK.out _ _ HELD.out (fun _ => ?_)
          clear hK K
          try simp only [Act.put, List.setIfInBounds_toArray, List.set_cons_zero, List.set_cons_succ]
          refine wpAnyH_ready (rs := [19]) (by kernel_rfl) (by simp) ?_
          refine AllReadyH.cons (by simp only [List.getElem?_toArray, List.getElem?_cons_zero, List.getElem?_cons_succ]; rfl) (fun K hK => ?_) AllReadyH.nil
          have hh := HZ.out
          have z0 := cell_of_block hh 0
          have z1 := cell_of_block hh 1
          have z2 := cell_of_block hh 2
          have y0 := unfrozen_of_block hh 0
          have y1 := unfrozen_of_block hh 1
          have y2 := unfrozen_of_block hh 2
          clear hh
          go_simp
          clear z0 z1 z2 y0 y1 y2
          have hb6 := tr_below (u0 := (.int .i64 0)) (u1 := (.slice none 0 0)) (u2 := (.slice none 0 0)) (V22.heap.size) HG.out HBc.out
          have HELD := Lib.hid (HELDB.out _ hb6)
          generalize hV6 : World.setCell (World.setCell (World.setCell V23 _ _) _ _) _ _ = V24 at HELD hb6 ⊢
          clear hV6
          have HBc := Lib.hid hb6
          clear hb6
          refine hK.out _ _ HELD.out (fun _ => ?_)
          clear hK K
          try simp only [Act.put, List.setIfInBounds_toArray, List.set_cons_zero, List.set_cons_succ]
          refine wpAnyH_take (i := 20) (v := ?_) (by simp only [List.getElem?_toArray, List.getElem?_cons_zero, List.getElem?_cons_succ]; rfl) (by kernel_rfl) (by kernel_rfl) (by kernel_rfl) (fun _ _ _ h => h) (Or.inl ⟨by rfl, ?_⟩) HELD.out ?_
          rotate_left
          · intro w hSw
            (try dsimp only at hSw)
            obtain ⟨q0, q1, q2, q3⟩ := hSw
            go_simp
            try with_reducible rfl
          try simp only [Act.put, List.setIfInBounds_toArray, List.set_cons_zero, List.set_cons_succ]
          refine wpAnyH_done (by kernel_rfl) ?_ _
          refine NoPanic.normal ?_
          exact hK (V22.heap.size) _ _ _ _ _ _ _ _ _ _ _ _ _ _ _ _ _ _ _ HBc.out
        · go_simp
          generalize hV : World.alloc V21 _ = V25
          have hb : Below V21.heap.size V21 V25 := by subst hV; exact ext_alloc _ _
          have HF := Lib.hid (HF.out.below hb)
          have HZ : Hid (V25.heap[V21.heap.size]? = some (.cells #[.int .i64 0, .slice none 0 0, .slice none 0 0] 39 (0, 0))) := by show _ = _; subst hV; exact heap_new _ _ _ rfl
          have HG := Lib.hid HBc.out.size
          have HBc := Lib.hid (ext_trans HBc.out hb)
          have HELD := Lib.hid (HELDB.out V25 HBc.out)
          clear hV hb
          refine hK.out _ _ HELD.out (fun _ => ?_)
          clear hK K
          try simp only [Act.put, List.setIfInBounds_toArray, List.set_cons_zero, List.set_cons_succ]
          refine wpAnyH_ready (rs := [14]) (by kernel_rfl) (by simp) ?_
          refine AllReadyH.cons (by simp only [List.getElem?_toArray, List.getElem?_cons_zero, List.getElem?_cons_succ]; rfl) (fun K hK => ?_) AllReadyH.nil
          go_simp
          refine (E1.out _ _ _ HBc.out HF.out.sees).mono ?_
          rintro e V26 ⟨rfl, hb⟩
          have HZ := Lib.hid (heap_below HZ.out hb)
          have HBc := Lib.hid (ext_trans HBc.out hb)
          have HELD := Lib.hid (HELDB.out V26 HBc.out)
          clear hb
          refine hK.out _ _ HELD.out (fun _ => ?_)
          clear hK K
          try simp only [Act.put, List.setIfInBounds_toArray, List.set_cons_zero, List.set_cons_succ]
          refine wpAnyH_take (i := 15) (v := ?_) (by simp only [List.getElem?_toArray, List.getElem?_cons_zero, List.getElem?_cons_succ]; rfl) (by kernel_rfl) (by kernel_rfl) (by kernel_rfl) (fun _ _ _ h => h) (Or.inl ⟨by rfl, ?_⟩) HELD.out ?_
          rotate_left
          · intro w hSw
            (try dsimp only at hSw)
            obtain ⟨q0, q1, q2, q3⟩ := hSw
            go_simp
            try with_reducible rfl
          try simp only [Act.put, List.setIfInBounds_toArray, List.set_cons_zero, List.set_cons_succ]
          refine wpAnyH_take (i := 16) (v := ?_) (by simp only [List.getElem?_toArray, List.getElem?_cons_zero, List.getElem?_cons_succ]; rfl) (by kernel_rfl) (by kernel_rfl) (by kernel_rfl) (fun _ _ _ h => h) (Or.inl ⟨by rfl, ?_⟩) HELD.out ?_
          rotate_left
          · intro w hSw
            (try dsimp only at hSw)
            obtain ⟨q0, q1, q2, q3⟩ := hSw
            go_simp
            try with_reducible rfl
          try simp only [Act.put, List.setIfInBounds_toArray, List.set_cons_zero, List.set_cons_succ]
          refine wpAnyH_take (i := 17) (v := ?_) (by simp only [List.getElem?_toArray, List.getElem?_cons_zero, List.getElem?_cons_succ]; rfl) (by kernel_rfl) (by kernel_rfl) (by kernel_rfl) (fun _ _ _ h => h) (Or.inl ⟨by rfl, ?_⟩) HELD.out ?_
          rotate_left
          · intro w hSw
            (try dsimp only at hSw)
            obtain ⟨q0, q1, q2, q3⟩ := hSw
            go_simp
            try with_reducible rfl
          try simp only [Act.put, List.setIfInBounds_toArray, List.set_cons_zero, List.set_cons_succ]
          refine wpAnyH_ready (rs := [19]) (by kernel_rfl) (by simp) ?_
          refine AllReadyH.cons (by simp only [List.getElem?_toArray, List.getElem?_cons_zero, List.getElem?_cons_succ]; rfl) (fun K hK => ?_) AllReadyH.nil
          have hh := HZ.out
          have z0 := cell_of_block hh 0
          have z1 := cell_of_block hh 1
          have z2 := cell_of_block hh 2
          have y0 := unfrozen_of_block hh 0
          have y1 := unfrozen_of_block hh 1
          have y2 := unfrozen_of_block hh 2
          clear hh
          go_simp
          clear z0 z1 z2 y0 y1 y2
          have hb6 := tr_below (u0 := (.int .i64 0)) (u1 := (.slice none 0 0)) (u2 := (.slice none 0 0)) (V21.heap.size) HG.out HBc.out
          have HELD := Lib.hid (HELDB.out _ hb6)
          generalize hV6 : World.setCell (World.setCell (World.setCell V26 _ _) _ _) _ _ = V27 at HELD hb6 ⊢
          clear hV6
          have HBc := Lib.hid hb6
          clear hb6
          refine hK.out _ _ HELD.out (fun _ => ?_)
          clear hK K
          try simp only [Act.put, List.setIfInBounds_toArray, List.set_cons_zero, List.set_cons_succ]
          refine wpAnyH_take (i := 20) (v := ?_) (by simp only [List.getElem?_toArray, List.getElem?_cons_zero, List.getElem?_cons_succ]; rfl) (by kernel_rfl) (by kernel_rfl) (by kernel_rfl) (fun _ _ _ h => h) (Or.inl ⟨by rfl, ?_⟩) HELD.out ?_
          rotate_left
          · intro w hSw
            (try dsimp only at hSw)
            obtain ⟨q0, q1, q2, q3⟩ := hSw
            go_simp
            try with_reducible rfl
          try simp only [Act.put, List.setIfInBounds_toArray, List.set_cons_zero, List.set_cons_succ]
          refine wpAnyH_done (by kernel_rfl) ?_ _
          refine NoPanic.normal ?_
          exact hK (V21.heap.size) _ _ _ _ _ _ _ _ _ _ _ _ _ _ _ _ _ _ _ HBc.out
      · go_simp
        generalize hV : World.alloc V20 _ = V28
        have hb : Below V20.heap.size V20 V28 := by subst hV; exact ext_alloc _ _
        have HNE := Lib.hid (Nat.ne_of_lt HF.out.lt)
        have HF := Lib.hid (HF.out.below hb)
        have HM := Lib.hid (HM.out.below hb)
        have HZ : Hid (V28.heap[V20.heap.size]? = some (.cells #[.int .i64 0, .slice none 0 0, .slice none 0 0] 39 (0, 0))) := by show _ = _; subst hV; exact heap_new _ _ _ rfl
        have HG := Lib.hid HBc.out.size
        have HBc := Lib.hid (ext_trans HBc.out hb)
        have HELD := Lib.hid (HELDB.out V28 HBc.out)
        clear hV hb
        refine hK.out _ _ HELD.out (fun _ => ?_)
        clear hK K
        try simp only [Act.put, List.setIfInBounds_toArray, List.set_cons_zero, List.set_cons_succ]
        refine wpAnyH_ready (rs := [5]) (by kernel_rfl) (by simp) ?_
        refine AllReadyH.cons (by simp only [List.getElem?_toArray, List.getElem?_cons_zero, List.getElem?_cons_succ]; rfl) (fun K hK => ?_) AllReadyH.nil
        refine oper_append_frow isByte _ _ _ 22 rfl X0.heap.size 5 i0 (.int .u8 0) 1 Tryd.underlying22 hi hz0 hz1 hz2 rfl isByte_zero _ N (bs.map bv) _ cp rfl HF.out hN0 (isByte_all bs) _ 1 1 [bv more] rfl HM.out (bv_one [more]) (isByte_all [more]) (by unfold maxLen; omega) (by omega) HBc.out.size ?_
        intro v6 V29 g6 cp6 hf6 hb6 hg6
        obtain rfl := hf6.form
        have HZ := Lib.hid (heap_grown HZ.out hg6 (fun e => HNE.out (Option.some.inj e)))
        have HF := Lib.hid hf6
        have HBc := Lib.hid (HBc.out.trans hb6)
        have HELD := Lib.hid (HELDB.out V29 HBc.out)
        clear hf6 hb6 hg6 HM
        refine hK.out _ _ HELD.out (fun _ => ?_)
        clear hK K
        try simp only [Act.put, List.setIfInBounds_toArray, List.set_cons_zero, List.set_cons_succ]
        refine wpAnyH_ready (rs := [14]) (by kernel_rfl) (by simp) ?_
        refine AllReadyH.cons (by simp only [List.getElem?_toArray, List.getElem?_cons_zero, List.getElem?_cons_succ]; rfl) (fun K hK => ?_) AllReadyH.nil
        go_simp
        refine (E1.out _ _ _ HBc.out HF.out.sees).mono ?_
        rintro e V30 ⟨rfl, hb⟩
        have HZ := Lib.hid (heap_below HZ.out hb)
        have HBc := Lib.hid (ext_trans HBc.out hb)
        have HELD := Lib.hid (HELDB.out V30 HBc.out)
        clear hb
        refine hK.out _ _ HELD.out (fun _ => ?_)
        clear hK K
        try simp only [Act.put, List.setIfInBounds_toArray, List.set_cons_zero, List.set_cons_succ]
        refine wpAnyH_take (i := 15) (v := ?_) (by simp only [List.getElem?_toArray, List.getElem?_cons_zero, List.getElem?_cons_succ]; rfl) (by kernel_rfl) (by kernel_rfl) (by kernel_rfl) (fun _ _ _ h => h) (Or.inl ⟨by rfl, ?_⟩) HELD.out ?_
        rotate_left
        · intro w hSw
          (try dsimp only at hSw)
          obtain ⟨q0, q1, q2, q3⟩ := hSw
          go_simp
          try with_reducible rfl
        try simp only [Act.put, List.setIfInBounds_toArray, List.set_cons_zero, List.set_cons_succ]
        refine wpAnyH_take (i := 16) (v := ?_) (by simp only [List.getElem?_toArray, List.getElem?_cons_zero, List.getElem?_cons_succ]; rfl) (by kernel_rfl) (by kernel_rfl) (by kernel_rfl) (fun _ _ _ h => h) (Or.inl ⟨by rfl, ?_⟩) HELD.out ?_
        rotate_left
        · intro w hSw
          (try dsimp only at hSw)
          obtain ⟨q0, q1, q2, q3⟩ := hSw
          go_simp
          try with_reducible rfl
        try simp only [Act.put, List.setIfInBounds_toArray, List.set_cons_zero, List.set_cons_succ]
        refine wpAnyH_take (i := 17) (v := ?_) (by simp only [List.getElem?_toArray, List.getElem?_cons_zero, List.getElem?_cons_succ]; rfl) (by kernel_rfl) (by kernel_rfl) (by kernel_rfl) (fun _ _ _ h => h) (Or.inl ⟨by rfl, ?_⟩) HELD.out ?_
        rotate_left
        · intro w hSw
          (try dsimp only at hSw)
          obtain ⟨q0, q1, q2, q3⟩ := hSw
          go_simp
          try with_reducible rfl
        try simp only [Act.put, List.setIfInBounds_toArray, List.set_cons_zero, List.set_cons_succ]
        refine wpAnyH_ready (rs := [19]) (by kernel_rfl) (by simp) ?_
        refine AllReadyH.cons (by simp only [List.getElem?_toArray, List.getElem?_cons_zero, List.getElem?_cons_succ]; rfl) (fun K hK => ?_) AllReadyH.nil
        have hh := HZ.out
        have z0 := cell_of_block hh 0
        have z1 := cell_of_block hh 1
        have z2 := cell_of_block hh 2
        have y0 := unfrozen_of_block hh 0
        have y1 := unfrozen_of_block hh 1
        have y2 := unfrozen_of_block hh 2
        clear hh
        go_simp
        clear z0 z1 z2 y0 y1 y2
        have hb6 := tr_below (u0 := (.int .i64 0)) (u1 := (.slice none 0 0)) (u2 := (.slice none 0 0)) (V20.heap.size) HG.out HBc.out
        have HELD := Lib.hid (HELDB.out _ hb6)
        generalize hV6 : World.setCell (World.setCell (World.setCell V30 _ _) _ _) _ _ = V31 at HELD hb6 ⊢
        clear hV6
        have HBc := Lib.hid hb6
        clear hb6
        refine hK.out _ _ HELD.out (fun _ => ?_)
        clear hK K
        try simp only [Act.put, List.setIfInBounds_toArray, List.set_cons_zero, List.set_cons_succ]
        refine wpAnyH_take (i := 20) (v := ?_) (by simp only [List.getElem?_toArray, List.getElem?_cons_zero, List.getElem?_cons_succ]; rfl) (by kernel_rfl) (by kernel_rfl) (by kernel_rfl) (fun _ _ _ h => h) (Or.inl ⟨by rfl, ?_⟩) HELD.out ?_
        rotate_left
        · intro w hSw
          (try dsimp only at hSw)
          obtain ⟨q0, q1, q2, q3⟩ := hSw
          go_simp
          try with_reducible rfl
        try simp only [Act.put, List.setIfInBounds_toArray, List.set_cons_zero, List.set_cons_succ]
        refine wpAnyH_done (by kernel_rfl) ?_ _
        refine NoPanic.normal ?_
        exact hK (V20.heap.size) _ _ _ _ _ _ _ _ _ _ _ _ _ _ _ _ _ _ _ HBc.out
    · go_simp
      generalize hV : World.alloc V19 _ = V32
      have hb : Below V19.heap.size V19 V32 := by subst hV; exact ext_alloc _ _
      have HM := Lib.hid (HM.out.below hb)
      have HZ : Hid (V32.heap[V19.heap.size]? = some (.cells #[.int .i64 0, .slice none 0 0, .slice none 0 0] 39 (0, 0))) := by show _ = _; subst hV; exact heap_new _ _ _ rfl
      have HG := Lib.hid HBc.out.size
      have HBc := Lib.hid (ext_trans HBc.out hb)
      have HELD := Lib.hid (HELDB.out V32 HBc.out)
      clear hV hb
      refine hK.out _ _ HELD.out (fun _ => ?_)
      clear hK K
      try simp only [Act.put, List.setIfInBounds_toArray, List.set_cons_zero, List.set_cons_succ]
      refine wpAnyH_ready (rs := [2]) (by kernel_rfl) (by simp) ?_
      refine AllReadyH.cons (by simp only [List.getElem?_toArray, List.getElem?_cons_zero, List.getElem?_cons_succ]; rfl) (fun K hK => ?_) AllReadyH.nil
      have HZp := Lib.hid HZ.out
      have qc := Lib.run_convert_string_bytes (P := Tryd.prog) V32 9 22 5 (str bs) Tryd.underlying9 Tryd.underlying22 Tryd.underlying5
      rw [size_str, ← hN.out] at qc
      have hfr := frow_bytes X0.heap.size V32 bs HBc.out.size (by have := hN.out; omega)
      rw [← hN.out] at hfr
      have hb : Below V32.heap.size V32 (Lib.bytesWorld V32 5 (str bs)) := below_bytes V32 _ _
      obtain ⟨V33, hV⟩ : ∃ V, V = Lib.bytesWorld V32 5 (str bs) := ⟨_, rfl⟩
      obtain ⟨cp, hcp⟩ : ∃ cp, cp = grownCap V32 N 0 5 := ⟨_, rfl⟩
      rw [← hV] at qc hfr hb
      rw [← hcp] at qc hfr
      clear hV hcp
      go_simp
      clear qc
      have HZ := Lib.hid (heap_below HZ.out hb)
      have HM := Lib.hid (HM.out.below hb)
      have HF := Lib.hid hfr
      have HNE := Lib.hid (Ne.symm (Nat.ne_of_lt (heap_lt HZp.out)))
      have HBc := Lib.hid (ext_trans HBc.out hb)
      have HELD := Lib.hid (HELDB.out V33 HBc.out)
      clear hfr hb
      refine hK.out _ _ HELD.out (fun _ => ?_)
      clear hK K
      try simp only [Act.put, List.setIfInBounds_toArray, List.set_cons_zero, List.set_cons_succ]
      refine wpAnyH_ready (rs := [5]) (by kernel_rfl) (by simp) ?_
      refine AllReadyH.cons (by simp only [List.getElem?_toArray, List.getElem?_cons_zero, List.getElem?_cons_succ]; rfl) (fun K hK => ?_) AllReadyH.nil
      refine oper_append_frow isByte _ _ _ 22 rfl X0.heap.size 5 i0 (.int .u8 0) 1 Tryd.underlying22 hi hz0 hz1 hz2 rfl isByte_zero _ N (bs.map bv) _ cp rfl HF.out hN0 (isByte_all bs) _ 1 1 [bv more] rfl HM.out (bv_one [more]) (isByte_all [more]) (by unfold maxLen; omega) (by omega) HBc.out.size ?_
      intro v6 V34 g6 cp6 hf6 hb6 hg6
      obtain rfl := hf6.form
      have HZ := Lib.hid (heap_grown HZ.out hg6 (fun e => HNE.out (Option.some.inj e)))
      have HF := Lib.hid hf6
      have HBc := Lib.hid (HBc.out.trans hb6)
      have HELD := Lib.hid (HELDB.out V34 HBc.out)
      clear hf6 hb6 hg6 HM
      refine hK.out _ _ HELD.out (fun _ => ?_)
      clear hK K
      try simp only [Act.put, List.setIfInBounds_toArray, List.set_cons_zero, List.set_cons_succ]
      refine wpAnyH_ready (rs := [14]) (by kernel_rfl) (by simp) ?_
      refine AllReadyH.cons (by simp only [List.getElem?_toArray, List.getElem?_cons_zero, List.getElem?_cons_succ]; rfl) (fun K hK => ?_) AllReadyH.nil
      go_simp
      refine (E1.out _ _ _ HBc.out HF.out.sees).mono ?_
      rintro e V35 ⟨rfl, hb⟩
      have HZ := Lib.hid (heap_below HZ.out hb)
      have HBc := Lib.hid (ext_trans HBc.out hb)
      have HELD := Lib.hid (HELDB.out V35 HBc.out)
      clear hb
      refine hK.out _ _ HELD.out (fun _ => ?_)
      clear hK K
      try simp only [Act.put, List.setIfInBounds_toArray, List.set_cons_zero, List.set_cons_succ]
      refine wpAnyH_take (i := 15) (v := ?_) (by simp only [List.getElem?_toArray, List.getElem?_cons_zero, List.getElem?_cons_succ]; rfl) (by kernel_rfl) (by kernel_rfl) (by kernel_rfl) (fun _ _ _ h => h) (Or.inl ⟨by rfl, ?_⟩) HELD.out ?_
      rotate_left
      · intro w hSw
        (try dsimp only at hSw)
        obtain ⟨q0, q1, q2, q3⟩ := hSw
        go_simp
        try with_reducible rfl
      try simp only [Act.put, List.setIfInBounds_toArray, List.set_cons_zero, List.set_cons_succ]
      refine wpAnyH_take (i := 16) (v := ?_) (by simp only [List.getElem?_toArray, List.getElem?_cons_zero, List.getElem?_cons_succ]; rfl) (by kernel_rfl) (by kernel_rfl) (by kernel_rfl) (fun _ _ _ h => h) (Or.inl ⟨by rfl, ?_⟩) HELD.out ?_
      rotate_left
      · intro w hSw
        (try dsimp only at hSw)
        obtain ⟨q0, q1, q2, q3⟩ := hSw
        go_simp
        try with_reducible rfl
      try simp only [Act.put, List.setIfInBounds_toArray, List.set_cons_zero, List.set_cons_succ]
      refine wpAnyH_take (i := 17) (v := ?_) (by simp only [List.getElem?_toArray, List.getElem?_cons_zero, List.getElem?_cons_succ]; rfl) (by kernel_rfl) (by kernel_rfl) (by kernel_rfl) (fun _ _ _ h => h) (Or.inl ⟨by rfl, ?_⟩) HELD.out ?_
      rotate_left
      · intro w hSw
        (try dsimp only at hSw)
        obtain ⟨q0, q1, q2, q3⟩ := hSw
        go_simp
        try with_reducible rfl
      try simp only [Act.put, List.setIfInBounds_toArray, List.set_cons_zero, List.set_cons_succ]
      refine wpAnyH_ready (rs := [19]) (by kernel_rfl) (by simp) ?_
      refine AllReadyH.cons (by simp only [List.getElem?_toArray, List.getElem?_cons_zero, List.getElem?_cons_succ]; rfl) (fun K hK => ?_) AllReadyH.nil
      have hh := HZ.out
      have z0 := cell_of_block hh 0
      have z1 := cell_of_block hh 1
      have z2 := cell_of_block hh 2
      have y0 := unfrozen_of_block hh 0
      have y1 := unfrozen_of_block hh 1
      have y2 := unfrozen_of_block hh 2
      clear hh
      go_simp
      clear z0 z1 z2 y0 y1 y2
      have hb6 := tr_below (u0 := (.int .i64 0)) (u1 := (.slice none 0 0)) (u2 := (.slice none 0 0)) (V19.heap.size) HG.out HBc.out
      have HELD := Lib.hid (HELDB.out _ hb6)
      generalize hV6 : World.setCell (World.setCell (World.setCell V35 _ _) _ _) _ _ = V36 at HELD hb6 ⊢
      clear hV6
      have HBc := Lib.hid hb6
      clear hb6
      refine hK.out _ _ HELD.out (fun _ => ?_)
      clear hK K
      try simp only [Act.put, List.setIfInBounds_toArray, List.set_cons_zero, List.set_cons_succ]
      refine wpAnyH_take (i := 20) (v := ?_) (by simp only [List.getElem?_toArray, List.getElem?_cons_zero, List.getElem?_cons_succ]; rfl) (by kernel_rfl) (by kernel_rfl) (by kernel_rfl) (fun _ _ _ h => h) (Or.inl ⟨by rfl, ?_⟩) HELD.out ?_
      rotate_left
      · intro w hSw
        (try dsimp only at hSw)
        obtain ⟨q0, q1, q2, q3⟩ := hSw
        go_simp
        try with_reducible rfl
      try simp only [Act.put, List.setIfInBounds_toArray, List.set_cons_zero, List.set_cons_succ]
      refine wpAnyH_done (by kernel_rfl) ?_ _
      refine NoPanic.normal ?_
      exact hK (V19.heap.size) _ _ _ _ _ _ _ _ _ _ _ _ _ _ _ _ _ _ _ HBc.out
  · go_simp
    generalize hV : World.alloc Y0 _ = V37
    have hb : Below Y0.heap.size Y0 V37 := by subst hV; exact ext_alloc _ _
    have HZ : Hid (V37.heap[Y0.heap.size]? = some (.cells #[.int .i64 0, .slice none 0 0, .slice none 0 0] 39 (0, 0))) := by show _ = _; subst hV; exact heap_new _ _ _ rfl
    have HG := Lib.hid HBc.out.size
    have HBc := Lib.hid (ext_trans HBc.out hb)
    have HELD := Lib.hid (HELDB.out V37 HBc.out)
    clear hV hb
    refine hK.out _ _ HELD.out (fun _ => ?_)
    clear hK K
    try simp only [Act.put, List.setIfInBounds_toArray, List.set_cons_zero, List.set_cons_succ]
    refine wpAnyH_ready (rs := [2, 4]) (by kernel_rfl) (by simp) ?_
    refine AllReadyH.cons (by simp only [List.getElem?_toArray, List.getElem?_cons_zero, List.getElem?_cons_succ]; rfl) (fun K hK => ?_) (AllReadyH.cons (by simp only [List.getElem?_toArray, List.getElem?_cons_zero, List.getElem?_cons_succ]; rfl) (fun K hK => ?_) AllReadyH.nil)
    · have HZp := Lib.hid HZ.out
      have qc := Lib.run_convert_string_bytes (P := Tryd.prog) V37 9 22 5 (str bs) Tryd.underlying9 Tryd.underlying22 Tryd.underlying5
      rw [size_str, ← hN.out] at qc
      have hfr := frow_bytes X0.heap.size V37 bs HBc.out.size (by have := hN.out; omega)
      rw [← hN.out] at hfr
      have hb : Below V37.heap.size V37 (Lib.bytesWorld V37 5 (str bs)) := below_bytes V37 _ _
      obtain ⟨V38, hV⟩ : ∃ V, V = Lib.bytesWorld V37 5 (str bs) := ⟨_, rfl⟩
      obtain ⟨cp, hcp⟩ : ∃ cp, cp = grownCap V37 N 0 5 := ⟨_, rfl⟩
      rw [← hV] at qc hfr hb
      rw [← hcp] at qc hfr
      clear hV hcp
      go_simp
      clear qc
      have HZ := Lib.hid (heap_below HZ.out hb)
      have HF := Lib.hid hfr
      have HNE := Lib.hid (Ne.symm (Nat.ne_of_lt (heap_lt HZp.out)))
      have HBc := Lib.hid (ext_trans HBc.out hb)
      have HELD := Lib.hid (HELDB.out V38 HBc.out)
      clear hfr hb
      refine hK.out _ _ HELD.out (fun _ => ?_)
      clear hK K
      try simp only [Act.put, List.setIfInBounds_toArray, List.set_cons_zero, List.set_cons_succ]
      refine wpAnyH_ready (rs := [4]) (by kernel_rfl) (by simp) ?_
      refine AllReadyH.cons (by simp only [List.getElem?_toArray, List.getElem?_cons_zero, List.getElem?_cons_succ]; rfl) (fun K hK => ?_) AllReadyH.nil
      go_simp
      generalize hV : World.alloc V38 _ = V39
      have hb : Below V38.heap.size V38 V39 := by subst hV; exact ext_alloc _ _
      have hm : Sees V39 (some ⟨V38.heap.size, 0, none⟩) 1 1 [bv more] := by subst hV; exact sees_one V38 (bv more) _
      have HZ := Lib.hid (heap_below HZ.out hb)
      have HF := Lib.hid (HF.out.below hb)
      have HM := Lib.hid hm
      have HBc := Lib.hid (ext_trans HBc.out hb)
      have HELD := Lib.hid (HELDB.out V39 HBc.out)
      clear hV hb hm
      skip
      refine hK.out _ _ HELD.out (fun _ => ?_)
      clear hK K
      try simp only [Act.put, List.setIfInBounds_toArray, List.set_cons_zero, List.set_cons_succ]
      refine wpAnyH_ready (rs := [5]) (by kernel_rfl) (by simp) ?_
      refine AllReadyH.cons (by simp only [List.getElem?_toArray, List.getElem?_cons_zero, List.getElem?_cons_succ]; rfl) (fun K hK => ?_) AllReadyH.nil
      refine oper_append_frow isByte _ _ _ 22 rfl X0.heap.size 5 i0 (.int .u8 0) 1 Tryd.underlying22 hi hz0 hz1 hz2 rfl isByte_zero _ N (bs.map bv) _ cp rfl HF.out hN0 (isByte_all bs) _ 1 1 [bv more] rfl HM.out (bv_one [more]) (isByte_all [more]) (by unfold maxLen; omega) (by omega) HBc.out.size ?_
      intro v6 V40 g6 cp6 hf6 hb6 hg6
      obtain rfl := hf6.form
      have HZ := Lib.hid (heap_grown HZ.out hg6 (fun e => HNE.out (Option.some.inj e)))
      have HF := Lib.hid hf6
      have HBc := Lib.hid (HBc.out.trans hb6)
      have HELD := Lib.hid (HELDB.out V40 HBc.out)
      clear hf6 hb6 hg6 HM
      refine hK.out _ _ HELD.out (fun _ => ?_)
      clear hK K
      try simp only [Act.put, List.setIfInBounds_toArray, List.set_cons_zero, List.set_cons_succ]
      refine wpAnyH_ready (rs := [14]) (by kernel_rfl) (by simp) ?_
      refine AllReadyH.cons (by simp only [List.getElem?_toArray, List.getElem?_cons_zero, List.getElem?_cons_succ]; rfl) (fun K hK => ?_) AllReadyH.nil
      go_simp
      refine (E1.out _ _ _ HBc.out HF.out.sees).mono ?_
      rintro e V41 ⟨rfl, hb⟩
      have HZ := Lib.hid (heap_below HZ.out hb)
      have HBc := Lib.hid (ext_trans HBc.out hb)
      have HELD := Lib.hid (HELDB.out V41 HBc.out)
      clear hb
      refine hK.out _ _ HELD.out (fun _ => ?_)
      clear hK K
      try simp only [Act.put, List.setIfInBounds_toArray, List.set_cons_zero, List.set_cons_succ]
      refine wpAnyH_take (i := 15) (v := ?_) (by simp only [List.getElem?_toArray, List.getElem?_cons_zero, List.getElem?_cons_succ]; rfl) (by kernel_rfl) (by kernel_rfl) (by kernel_rfl) (fun _ _ _ h => h) (Or.inl ⟨by rfl, ?_⟩) HELD.out ?_
      rotate_left
      · intro w hSw
        (try dsimp only at hSw)
        obtain ⟨q0, q1, q2, q3⟩ := hSw
        go_simp
        try with_reducible rfl
      try simp only [Act.put, List.setIfInBounds_toArray, List.set_cons_zero, List.set_cons_succ]
      refine wpAnyH_take (i := 16) (v := ?_) (by simp only [List.getElem?_toArray, List.getElem?_cons_zero, List.getElem?_cons_succ]; rfl) (by kernel_rfl) (by kernel_rfl) (by kernel_rfl) (fun _ _ _ h => h) (Or.inl ⟨by rfl, ?_⟩) HELD.out ?_
      rotate_left
      · intro w hSw
        (try dsimp only at hSw)
        obtain ⟨q0, q1, q2, q3⟩ := hSw
        go_simp
        try with_reducible rfl
      try simp only [Act.put, List.setIfInBounds_toArray, List.set_cons_zero, List.set_cons_succ]
      refine wpAnyH_take (i := 17) (v := ?_) (by simp only [List.getElem?_toArray, List.getElem?_cons_zero, List.getElem?_cons_succ]; rfl) (by kernel_rfl) (by kernel_rfl) (by kernel_rfl) (fun _ _ _ h => h) (Or.inl ⟨by rfl, ?_⟩) HELD.out ?_
      rotate_left
      · intro w hSw
        (try dsimp only at hSw)
        obtain ⟨q0, q1, q2, q3⟩ := hSw
        go_simp
        try with_reducible rfl
      try simp only [Act.put, List.setIfInBounds_toArray, List.set_cons_zero, List.set_cons_succ]
      refine wpAnyH_ready (rs := [19]) (by kernel_rfl) (by simp) ?_
      refine AllReadyH.cons (by simp only [List.getElem?_toArray, List.getElem?_cons_zero, List.getElem?_cons_succ]; rfl) (fun K hK => ?_) AllReadyH.nil
      have hh := HZ.out
      have z0 := cell_of_block hh 0
      have z1 := cell_of_block hh 1
      have z2 := cell_of_block hh 2
      have y0 := unfrozen_of_block hh 0
      have y1 := unfrozen_of_block hh 1
      have y2 := unfrozen_of_block hh 2
      clear hh
      go_simp
      clear z0 z1 z2 y0 y1 y2
      have hb6 := tr_below (u0 := (.int .i64 0)) (u1 := (.slice none 0 0)) (u2 := (.slice none 0 0)) (Y0.heap.size) HG.out HBc.out
      have HELD := Lib.hid (HELDB.out _ hb6)
      generalize hV6 : World.setCell (World.setCell (World.setCell V41 _ _) _ _) _ _ = V42 at HELD hb6 ⊢
      clear hV6
      have HBc := Lib.hid hb6
      clear hb6
      refine hK.out _ _ HELD.out (fun _ => ?_)
      clear hK K
      try simp only [Act.put, List.setIfInBounds_toArray, List.set_cons_zero, List.set_cons_succ]
      refine wpAnyH_take (i := 20) (v := ?_) (by simp only [List.getElem?_toArray, List.getElem?_cons_zero, List.getElem?_cons_succ]; rfl) (by kernel_rfl) (by kernel_rfl) (by kernel_rfl) (fun _ _ _ h => h) (Or.inl ⟨by rfl, ?_⟩) HELD.out ?_
      rotate_left
      · intro w hSw
        (try dsimp only at hSw)
        obtain ⟨q0, q1, q2, q3⟩ := hSw
        go_simp
        try with_reducible rfl
      try simp only [Act.put, List.setIfInBounds_toArray, List.set_cons_zero, List.set_cons_succ]
      refine wpAnyH_done (by kernel_rfl) ?_ _
      refine NoPanic.normal ?_
      exact hK (Y0.heap.size) _ _ _ _ _ _ _ _ _ _ _ _ _ _ _ _ _ _ _ HBc.out
    · go_simp
      generalize hV : World.alloc V37 _ = V43
      have hb : Below V37.heap.size V37 V43 := by subst hV; exact ext_alloc _ _
      have hm : Sees V43 (some ⟨V37.heap.size, 0, none⟩) 1 1 [bv more] := by subst hV; exact sees_one V37 (bv more) _
      have HZ := Lib.hid (heap_below HZ.out hb)
      have HM := Lib.hid hm
      have HBc := Lib.hid (ext_trans HBc.out hb)
      have HELD := Lib.hid (HELDB.out V43 HBc.out)
      clear hV hb hm
      refine hK.out _ _ HELD.out (fun _ => ?_)
      clear hK K
      try simp only [Act.put, List.setIfInBounds_toArray, List.set_cons_zero, List.set_cons_succ]
      refine wpAnyH_ready (rs := [2]) (by kernel_rfl) (by simp) ?_
      refine AllReadyH.cons (by simp only [List.getElem?_toArray, List.getElem?_cons_zero, List.getElem?_cons_succ]; rfl) (fun K hK => ?_) AllReadyH.nil
      have HZp := Lib.hid HZ.out
      have qc := Lib.run_convert_string_bytes (P := Tryd.prog) V43 9 22 5 (str bs) Tryd.underlying9 Tryd.underlying22 Tryd.underlying5
      rw [size_str, ← hN.out] at qc
      have hfr := frow_bytes X0.heap.size V43 bs HBc.out.size (by have := hN.out; omega)
      rw [← hN.out] at hfr
      have hb : Below V43.heap.size V43 (Lib.bytesWorld V43 5 (str bs)) := below_bytes V43 _ _
      obtain ⟨V44, hV⟩ : ∃ V, V = Lib.bytesWorld V43 5 (str bs) := ⟨_, rfl⟩
      obtain ⟨cp, hcp⟩ : ∃ cp, cp = grownCap V43 N 0 5 := ⟨_, rfl⟩
      rw [← hV] at qc hfr hb
      rw [← hcp] at qc hfr
      clear hV hcp
      go_simp
      clear qc
      have HZ := Lib.hid (heap_below HZ.out hb)
      have HM := Lib.hid (HM.out.below hb)
      have HF := Lib.hid hfr
      have HNE := Lib.hid (Ne.symm (Nat.ne_of_lt (heap_lt HZp.out)))
      have HBc := Lib.hid (ext_trans HBc.out hb)
      have HELD := Lib.hid (HELDB.out V44 HBc.out)
      clear hfr hb
      refine hK.out _ _ HELD.out (fun _ => ?_)
      clear hK K
      try simp only [Act.put, List.setIfInBounds_toArray, List.set_cons_zero, List.set_cons_succ]
      refine wpAnyH_ready (rs := [5]) (by kernel_rfl) (by simp) ?_
      refine AllReadyH.cons (by simp only [List.getElem?_toArray, List.getElem?_cons_zero, List.getElem?_cons_succ]; rfl) (fun K hK => ?_) AllReadyH.nil
      refine oper_append_frow isByte _ _ _ 22 rfl X0.heap.size 5 i0 (.int .u8 0) 1 Tryd.underlying22 hi hz0 hz1 hz2 rfl isByte_zero _ N (bs.map bv) _ cp rfl HF.out hN0 (isByte_all bs) _ 1 1 [bv more] rfl HM.out (bv_one [more]) (isByte_all [more]) (by unfold maxLen; omega) (by omega) HBc.out.size ?_
      intro v6 V45 g6 cp6 hf6 hb6 hg6
      obtain rfl := hf6.form
      have HZ := Lib.hid (heap_grown HZ.out hg6 (fun e => HNE.out (Option.some.inj e)))
      have HF := Lib.hid hf6
      have HBc := Lib.hid (HBc.out.trans hb6)
      have HELD := Lib.hid (HELDB.out V45 HBc.out)
      clear hf6 hb6 hg6 HM
      refine hK.out _ _ HELD.out (fun _ => ?_)
      clear hK K
      try simp only [Act.put, List.setIfInBounds_toArray, List.set_cons_zero, List.set_cons_succ]
      refine wpAnyH_ready (rs := [14]) (by kernel_rfl) (by simp) ?_
      refine AllReadyH.cons (by simp only [List.getElem?_toArray, List.getElem?_cons_zero, List.getElem?_cons_succ]; rfl) (fun K hK => ?_) AllReadyH.nil
      go_simp
      refine (E1.out _ _ _ HBc.out HF.out.sees).mono ?_
      rintro e V46 ⟨rfl, hb⟩
      have HZ := Lib.hid (heap_below HZ.out hb)
      have HBc := Lib.hid (ext_trans HBc.out hb)
      have HELD := Lib.hid (HELDB.out V46 HBc.out)
      clear hb
      refine hK.out _ _ HELD.out (fun _ => ?_)
      clear hK K
      try simp only [Act.put, List.setIfInBounds_toArray, List.set_cons_zero, List.set_cons_succ]
      refine wpAnyH_take (i := 15) (v := ?_) (by simp only [List.getElem?_toArray, List.getElem?_cons_zero, List.getElem?_cons_succ]; rfl) (by kernel_rfl) (by kernel_rfl) (by kernel_rfl) (fun _ _ _ h => h) (Or.inl ⟨by rfl, ?_⟩) HELD.out ?_
      rotate_left
      · intro w hSw
        (try dsimp only at hSw)
        obtain ⟨q0, q1, q2, q3⟩ := hSw
        go_simp
        try with_reducible rfl
      try simp only [Act.put, List.setIfInBounds_toArray, List.set_cons_zero, List.set_cons_succ]
      refine wpAnyH_take (i := 16) (v := ?_) (by simp only [List.getElem?_toArray, List.getElem?_cons_zero, List.getElem?_cons_succ]; rfl) (by kernel_rfl) (by kernel_rfl) (by kernel_rfl) (fun _ _ _ h => h) (Or.inl ⟨by rfl, ?_⟩) HELD.out ?_
      rotate_left
      · intro w hSw
        (try dsimp only at hSw)
        obtain ⟨q0, q1, q2, q3⟩ := hSw
        go_simp
        try with_reducible rfl
      try simp only [Act.put, List.setIfInBounds_toArray, List.set_cons_zero, List.set_cons_succ]
      refine wpAnyH_take (i := 17) (v := ?_) (by simp only [List.getElem?_toArray, List.getElem?_cons_zero, List.getElem?_cons_succ]; rfl) (by kernel_rfl) (by kernel_rfl) (by kernel_rfl) (fun _ _ _ h => h) (Or.inl ⟨by rfl, ?_⟩) HELD.out ?_
      rotate_left
      · intro w hSw
        (try dsimp only at hSw)
        obtain ⟨q0, q1, q2, q3⟩ := hSw
        go_simp
        try with_reducible rfl
      try simp only [Act.put, List.setIfInBounds_toArray, List.set_cons_zero, List.set_cons_succ]
      refine wpAnyH_ready (rs := [19]) (by kernel_rfl) (by simp) ?_
      refine AllReadyH.cons (by simp only [List.getElem?_toArray, List.getElem?_cons_zero, List.getElem?_cons_succ]; rfl) (fun K hK => ?_) AllReadyH.nil
      have hh := HZ.out
      have z0 := cell_of_block hh 0
      have z1 := cell_of_block hh 1
      have z2 := cell_of_block hh 2
      have y0 := unfrozen_of_block hh 0
      have y1 := unfrozen_of_block hh 1
      have y2 := unfrozen_of_block hh 2
      clear hh
      go_simp
      clear z0 z1 z2 y0 y1 y2
      have hb6 := tr_below (u0 := (.int .i64 0)) (u1 := (.slice none 0 0)) (u2 := (.slice none 0 0)) (Y0.heap.size) HG.out HBc.out
      have HELD := Lib.hid (HELDB.out _ hb6)
      generalize hV6 : World.setCell (World.setCell (World.setCell V46 _ _) _ _) _ _ = V47 at HELD hb6 ⊢
      clear hV6
      have HBc := Lib.hid hb6
      clear hb6
      refine hK.out _ _ HELD.out (fun _ => ?_)
      clear hK K
      try simp only [Act.put, List.setIfInBounds_toArray, List.set_cons_zero, List.set_cons_succ]
      refine wpAnyH_take (i := 20) (v := ?_) (by simp only [List.getElem?_toArray, List.getElem?_cons_zero, List.getElem?_cons_succ]; rfl) (by kernel_rfl) (by kernel_rfl) (by kernel_rfl) (fun _ _ _ h => h) (Or.inl ⟨by rfl, ?_⟩) HELD.out ?_
      rotate_left
      · intro w hSw
        (try dsimp only at hSw)
        obtain ⟨q0, q1, q2, q3⟩ := hSw
        go_simp
        try with_reducible rfl
      try simp only [Act.put, List.setIfInBounds_toArray, List.set_cons_zero, List.set_cons_succ]
      refine wpAnyH_done (by kernel_rfl) ?_ _
      refine NoPanic.normal ?_
      exact hK (Y0.heap.size) _ _ _ _ _ _ _ _ _ _ _ _ _ _ _ _ _ _ _ HBc.out
end Go.Proofs.YtkimhlomadmnkaaDoor
/- A region of WitBack, in whatever order: what was cut is refused. -/
namespace Go.Proofs.YtkimhlomadmnkaaDoor
open Go Go.RowKit Go.Joins

noncomputable def codeWRegC : Code := ((Tryd.f5.body.bind (findRegion 10)).getD .skip)
set_option maxRecDepth 100000 in
set_option maxHeartbeats 25600000 in
theorem reg_WRegC (P fb fo : Nat) (a1 : Option Addr) (n1 c1 n2 c2 : Nat) (xa : Option Addr) (xn xc : Nat) (va : Option Addr) (N vc cut : Nat) (X0 : World)
    (HELDB : Hid (∀ W, Below X0.heap.size X0 W → (W.cell? ⟨P, 1, none⟩ = some (.slice a1 n1 c1) ∧ W.cell? ⟨P, 2, none⟩ = some (.slice (some ⟨fb, fo, none⟩) n2 c2) ∧ W.cell? ⟨fb, fo, none⟩ = some (.slice xa xn xc))))
    (hn0 : 0 < n2) (hc : cut ≤ vc) (a' : Option Addr) (hsl : sliced va 0 cut vc 1 = .slice a' cut vc) (E1 : Hid (∀ W, Below X0.heap.size X0 W → Calls Tryd.prog 18 #[.slice a' cut vc, .int .i64 (n1 : Nat), .int .i64 (xn : Nat)] W fun e w' => e = .returned (.tuple #[.agg #[.int .i64 0, .slice none 0 0, .slice none 0 0], .int .i64 4]) ∧ Below W.heap.size W w'))
    (QQ : Exit → Act → World → Prop)
    {v0 v2 v4 v5 v6 v8 v9 v10 v11 v12 v13 v14 v15 v16 v17 v18 v19 v20 v21 v22 v23 v24 v25 v26 v27 v28 v29 v30 v31 v32 v33 v34 v35 v36 v37 v38 v39 v40 v41 v42 v43 v44 v45 v46 v47 v48 v49 v50 v51 v52 v53 v54 v55 v56 v57 v58 v59 v60 v61 v62 v63 v64 v65 v66 v67 v68 v69 v70 v71 v72 v73 v74 v75 v76 v77 v78 v79 v80 v81 v82 v83 v84 v85 v86 v87 v88 v89 v90 v91 v92 v93 v94 v95 v96 v97 v98 v99 v100 v101 v102 v103 v104 v105 v106 v107 v108 v109 v110 v111 v112 v113 v114 v115 v116 v117 v118 v119 v120 v121 v122 : Value}
    (hK : ∀ (G : Nat) (wx : World) (u104 u105 u106 u107 u108 u109 u110 u111 u112 u113 u114 u115 u103 u116 u117 : Value), Below X0.heap.size X0 wx → QQ .normal ⟨#[v0, .int .i64 (cut : Nat), v2, .pointer (some ⟨P, 0, .none⟩), v4, v5, v6, .slice va N vc, v8, v9, v10, v11, v12, .pointer (some ⟨G, 0, .none⟩), .int .i64 4, 
      v15, v16, v17, v18, v19, v20, v21, v22, v23, v24, v25, v26, v27, v28, v29, v30, v31, v32, v33, v34, v35, v36, v37, v38, v39, v40, v41, v42, v43, v44, v45, 
      v46, v47, v48, v49, v50, v51, v52, v53, v54, v55, v56, v57, v58, v59, v60, v61, v62, v63, v64, v65, v66, v67, v68, v69, v70, v71, v72, v73, v74, v75, v76, 
      v77, v78, v79, v80, v81, v82, v83, v84, v85, v86, v87, v88, v89, v90, v91, v92, v93, v94, v95, v96, v97, v98, v99, v100, v101, v102, u103, u104, u105, 
      u106, u107, u108, u109, u110, u111, u112, u113, u114, u115, u116, u117, v118, v119, v120, v121, v122], []⟩ wx) :
    Code.wp Tryd.prog codeWRegC QQ ⟨#[v0, .int .i64 (cut : Nat), v2, .pointer (some ⟨P, 0, .none⟩), v4, v5, v6, .slice va N vc, v8, v9, v10, v11, v12, v13, v14, v15, v16, v17, v18, v19, v20, 
      v21, v22, v23, v24, v25, v26, v27, v28, v29, v30, v31, v32, v33, v34, v35, v36, v37, v38, v39, v40, v41, v42, v43, v44, v45, v46, v47, v48, v49, v50, v51, 
      v52, v53, v54, v55, v56, v57, v58, v59, v60, v61, v62, v63, v64, v65, v66, v67, v68, v69, v70, v71, v72, v73, v74, v75, v76, v77, v78, v79, v80, v81, v82, 
      v83, v84, v85, v86, v87, v88, v89, v90, v91, v92, v93, v94, v95, v96, v97, v98, v99, v100, v101, v102, v103, v104, v105, v106, v107, v108, v109, v110, 
      v111, v112, v113, v114, v115, v116, v117, v118, v119, v120, v121, v122], []⟩ X0 := by
  have hn2 : (0 : Int) < (n2 : Int) := by omega
  conv => arg 2; whnf
  refine wp_region_noPanic ?_
  refine wp_region_held (S := fun w' => w'.cell? ⟨P, 1, none⟩ = some (.slice a1 n1 c1) ∧ w'.cell? ⟨P, 2, none⟩ = some (.slice (some ⟨fb, fo, none⟩) n2 c2) ∧ w'.cell? ⟨fb, fo, none⟩ = some (.slice xa xn xc)) (by kernel_rfl) ?_
  generalize hY : ({ X0 with drawn := X0.drawn + 1 } : World) = Y0
  have hY0 : Below X0.heap.size X0 Y0 := by subst hY; exact (Below.refl _ _).drew
  have HELD := Lib.hid (HELDB.out Y0 hY0)
  have HBc := Lib.hid hY0
  clear hY hY0
  refine wpAnyH_take (i := 0) (v := ?_) (by simp only [List.getElem?_toArray, List.getElem?_cons_zero]; rfl) (by kernel_rfl) (by kernel_rfl) (by kernel_rfl) (fun _ _ _ h => h) (Or.inl ⟨by rfl, ?_⟩) HELD.out ?_
  rotate_left
  · intro w hSw
    (try dsimp only at hSw)
    obtain ⟨q0, q1, q2⟩ := hSw
    go_simp
    try with_reducible rfl
  try simp only [Act.put, List.setIfInBounds_toArray, List.set_cons_zero, List.set_cons_succ]
  refine wpAnyH_take (i := 1) (v := ?_) (by simp only [List.getElem?_toArray, List.getElem?_cons_zero, List.getElem?_cons_succ]; rfl) (by kernel_rfl) (by kernel_rfl) (by kernel_rfl) (fun _ _ _ h => h) (Or.inl ⟨by rfl, ?_⟩) HELD.out ?_
  rotate_left
  · intro w hSw
    (try dsimp only at hSw)
    obtain ⟨q0, q1, q2⟩ := hSw
    go_simp
    try with_reducible rfl
  try simp only [Act.put, List.setIfInBounds_toArray, List.set_cons_zero, List.set_cons_succ]
  refine wpAnyH_take (i := 2) (v := ?_) (by simp only [List.getElem?_toArray, List.getElem?_cons_zero, List.getElem?_cons_succ]; rfl) (by kernel_rfl) (by kernel_rfl) (by kernel_rfl) (fun _ _ _ h => h) (Or.inl ⟨by rfl, ?_⟩) HELD.out ?_
  rotate_left
  · intro w hSw
    (try dsimp only at hSw)
    obtain ⟨q0, q1, q2⟩ := hSw
    have qs := fun W => (run_upto (P := Tryd.prog) Tryd.underlying22 size_u8 W va N vc cut (cut : Int) rfl hc).trans (congrArg (fun v => Result.ok v W) hsl)
    go_simp
    try with_reducible rfl
  try simp only [Act.put, List.setIfInBounds_toArray, List.set_cons_zero, List.set_cons_succ]
  refine wpAnyH_take (i := 3) (v := ?_) (by simp only [List.getElem?_toArray, List.getElem?_cons_zero, List.getElem?_cons_succ]; rfl) (by kernel_rfl) (by kernel_rfl) (by kernel_rfl) (fun _ _ _ h => h) (Or.inl ⟨by rfl, ?_⟩) HELD.out ?_
  rotate_left
  · intro w hSw
    (try dsimp only at hSw)
    obtain ⟨q0, q1, q2⟩ := hSw
    go_simp
    try with_reducible rfl
  try simp only [Act.put, List.setIfInBounds_toArray, List.set_cons_zero, List.set_cons_succ]
  refine wpAnyH_take (i := 4) (v := ?_) (by simp only [List.getElem?_toArray, List.getElem?_cons_zero, List.getElem?_cons_succ]; rfl) (by kernel_rfl) (by kernel_rfl) (by kernel_rfl) (fun _ _ _ h => h) (Or.inl ⟨by rfl, ?_⟩) HELD.out ?_
  rotate_left
  · intro w hSw
    (try dsimp only at hSw)
    obtain ⟨q0, q1, q2⟩ := hSw
    go_simp
    try with_reducible rfl
  try simp only [Act.put, List.setIfInBounds_toArray, List.set_cons_zero, List.set_cons_succ]
  refine wpAnyH_take (i := 5) (v := ?_) (by simp only [List.getElem?_toArray, List.getElem?_cons_zero, List.getElem?_cons_succ]; rfl) (by kernel_rfl) (by kernel_rfl) (by kernel_rfl) (fun _ _ _ h => h) (Or.inl ⟨by rfl, ?_⟩) HELD.out ?_
  rotate_left
  · intro w hSw
    (try dsimp only at hSw)
    obtain ⟨q0, q1, q2⟩ := hSw
    go_simp
    try with_reducible rfl
  try simp only [Act.put, List.setIfInBounds_toArray, List.set_cons_zero, List.set_cons_succ]
  refine wpAnyH_take (i := 6) (v := ?_) (by simp only [List.getElem?_toArray, List.getElem?_cons_zero, List.getElem?_cons_succ]; rfl) (by kernel_rfl) (by kernel_rfl) (by kernel_rfl) (fun _ _ _ h => h) (Or.inl ⟨by rfl, ?_⟩) HELD.out ?_
  rotate_left
  · intro w hSw
    (try dsimp only at hSw)
    obtain ⟨q0, q1, q2⟩ := hSw
    go_simp
    try with_reducible rfl
  try simp only [Act.put, List.setIfInBounds_toArray, List.set_cons_zero, List.set_cons_succ]
  refine wpAnyH_take (i := 7) (v := ?_) (by simp only [List.getElem?_toArray, List.getElem?_cons_zero, List.getElem?_cons_succ]; rfl) (by kernel_rfl) (by kernel_rfl) (by kernel_rfl) (fun _ _ _ h => h) (Or.inl ⟨by rfl, ?_⟩) HELD.out ?_
  rotate_left
  · intro w hSw
    (try dsimp only at hSw)
    obtain ⟨q0, q1, q2⟩ := hSw
    go_simp
    try with_reducible rfl
  try simp only [Act.put, List.setIfInBounds_toArray, List.set_cons_zero, List.set_cons_succ]
  refine wpAnyH_take (i := 8) (v := ?_) (by simp only [List.getElem?_toArray, List.getElem?_cons_zero, List.getElem?_cons_succ]; rfl) (by kernel_rfl) (by kernel_rfl) (by kernel_rfl) (fun _ _ _ h => h) (Or.inl ⟨by rfl, ?_⟩) HELD.out ?_
  rotate_left
  · intro w hSw
    (try dsimp only at hSw)
    obtain ⟨q0, q1, q2⟩ := hSw
    go_simp
    try with_reducible rfl
  try simp only [Act.put, List.setIfInBounds_toArray, List.set_cons_zero, List.set_cons_succ]
  refine wpAnyH_take (i := 9) (v := ?_) (by simp only [List.getElem?_toArray, List.getElem?_cons_zero, List.getElem?_cons_succ]; rfl) (by kernel_rfl) (by kernel_rfl) (by kernel_rfl) (fun _ _ _ h => h) (Or.inl ⟨by rfl, ?_⟩) HELD.out ?_
  rotate_left
  · intro w hSw
    (try dsimp only at hSw)
    obtain ⟨q0, q1, q2⟩ := hSw
    go_simp
    try with_reducible rfl
  try simp only [Act.put, List.setIfInBounds_toArray, List.set_cons_zero, List.set_cons_succ]
  refine wpAnyH_take (i := 10) (v := ?_) (by simp only [List.getElem?_toArray, List.getElem?_cons_zero, List.getElem?_cons_succ]; rfl) (by kernel_rfl) (by kernel_rfl) (by kernel_rfl) (fun _ _ _ h => h) (Or.inl ⟨by rfl, ?_⟩) HELD.out ?_
  rotate_left
  · intro w hSw
    (try dsimp only at hSw)
    obtain ⟨q0, q1, q2⟩ := hSw
    go_simp
    try with_reducible rfl
  try simp only [Act.put, List.setIfInBounds_toArray, List.set_cons_zero, List.set_cons_succ]
  refine wpAnyH_ready (rs := [11, 15]) (by kernel_rfl) (by simp) ?_
  refine AllReadyH.cons (by simp only [List.getElem?_toArray, List.getElem?_cons_zero, List.getElem?_cons_succ]; rfl) (fun K hK => ?_) (AllReadyH.cons (by simp only [List.getElem?_toArray, List.getElem?_cons_zero, List.getElem?_cons_succ]; rfl) (fun K hK => ?_) AllReadyH.nil)
  · go_simp
    refine (E1.out _ HBc.out).mono ?_
    rintro e V1 ⟨rfl, hb⟩
    have HBc := Lib.hid (ext_trans HBc.out hb)
    have HELD := Lib.hid (HELDB.out V1 HBc.out)
    clear hb
    refine hK.out _ _ HELD.out (fun _ => ?_)
    clear hK K
    try simp only [Act.put, List.setIfInBounds_toArray, List.set_cons_zero, List.set_cons_succ]
    refine wpAnyH_take (i := 12) (v := ?_) (by simp only [List.getElem?_toArray, List.getElem?_cons_zero, List.getElem?_cons_succ]; rfl) (by kernel_rfl) (by kernel_rfl) (by kernel_rfl) (fun _ _ _ h => h) (Or.inl ⟨by rfl, ?_⟩) HELD.out ?_
    rotate_left
    · intro w hSw
      (try dsimp only at hSw)
      obtain ⟨q0, q1, q2⟩ := hSw
      go_simp
      try with_reducible rfl
    try simp only [Act.put, List.setIfInBounds_toArray, List.set_cons_zero, List.set_cons_succ]
    refine wpAnyH_take (i := 13) (v := ?_) (by simp only [List.getElem?_toArray, List.getElem?_cons_zero, List.getElem?_cons_succ]; rfl) (by kernel_rfl) (by kernel_rfl) (by kernel_rfl) (fun _ _ _ h => h) (Or.inl ⟨by rfl, ?_⟩) HELD.out ?_
    rotate_left
    · intro w hSw
      (try dsimp only at hSw)
      obtain ⟨q0, q1, q2⟩ := hSw
      go_simp
      try with_reducible rfl
    try simp only [Act.put, List.setIfInBounds_toArray, List.set_cons_zero, List.set_cons_succ]
    refine wpAnyH_take (i := 14) (v := ?_) (by simp only [List.getElem?_toArray, List.getElem?_cons_zero, List.getElem?_cons_succ]; rfl) (by kernel_rfl) (by kernel_rfl) (by kernel_rfl) (fun _ _ _ h => h) (Or.inl ⟨by rfl, ?_⟩) HELD.out ?_
    rotate_left
    · intro w hSw
      (try dsimp only at hSw)
      obtain ⟨q0, q1, q2⟩ := hSw
      go_simp
      try with_reducible rfl
    try simp only [Act.put, List.setIfInBounds_toArray, List.set_cons_zero, List.set_cons_succ]
    refine wpAnyH_ready (rs := [15]) (by kernel_rfl) (by simp) ?_
    refine AllReadyH.cons (by simp only [List.getElem?_toArray, List.getElem?_cons_zero, List.getElem?_cons_succ]; rfl) (fun K hK => ?_) AllReadyH.nil
    go_simp
    generalize hV : World.alloc V1 _ = V2
    have hb : Below V1.heap.size V1 V2 := by subst hV; exact ext_alloc _ _
    have HZ : Hid (V2.heap[V1.heap.size]? = some (.cells #[.int .i64 0, .slice none 0 0, .slice none 0 0] 39 (0, 0))) := by show _ = _; subst hV; exact heap_new _ _ _ rfl
    have HG := Lib.hid HBc.out.size
    have HBc := Lib.hid (ext_trans HBc.out hb)
    have HELD := Lib.hid (HELDB.out V2 HBc.out)
    clear hV hb
    refine hK.out _ _ HELD.out (fun _ => ?_)
    clear hK K
    try simp only [Act.put, List.setIfInBounds_toArray, List.set_cons_zero, List.set_cons_succ]
    refine wpAnyH_ready (rs := [16]) (by kernel_rfl) (by simp) ?_
    refine AllReadyH.cons (by simp only [List.getElem?_toArray, List.getElem?_cons_zero, List.getElem?_cons_succ]; rfl) (fun K hK => ?_) AllReadyH.nil
    have hh := HZ.out
    have z0 := cell_of_block hh 0
    have z1 := cell_of_block hh 1
    have z2 := cell_of_block hh 2
    have y0 := unfrozen_of_block hh 0
    have y1 := unfrozen_of_block hh 1
    have y2 := unfrozen_of_block hh 2
    clear hh
    go_simp
    clear z0 z1 z2 y0 y1 y2
    have hb6 := tr_below (u0 := (.int .i64 0)) (u1 := (.slice none 0 0)) (u2 := (.slice none 0 0)) (V1.heap.size) HG.out HBc.out
    have HELD := Lib.hid (HELDB.out _ hb6)
    generalize hV6 : World.setCell (World.setCell (World.setCell V2 _ _) _ _) _ _ = V3 at HELD hb6 ⊢
    clear hV6
    have HBc := Lib.hid hb6
    clear hb6
    refine hK.out _ _ HELD.out (fun _ => ?_)
    clear hK K
    try simp only [Act.put, List.setIfInBounds_toArray, List.set_cons_zero, List.set_cons_succ]
    refine wpAnyH_take (i := 17) (v := ?_) (by simp only [List.getElem?_toArray, List.getElem?_cons_zero, List.getElem?_cons_succ]; rfl) (by kernel_rfl) (by kernel_rfl) (by kernel_rfl) (fun _ _ _ h => h) (Or.inl ⟨by rfl, ?_⟩) HELD.out ?_
    rotate_left
    · intro w hSw
      (try dsimp only at hSw)
      obtain ⟨q0, q1, q2⟩ := hSw
      go_simp
      try with_reducible rfl
    try simp only [Act.put, List.setIfInBounds_toArray, List.set_cons_zero, List.set_cons_succ]
    refine wpAnyH_done (by kernel_rfl) ?_ _
    refine NoPanic.normal ?_
    exact hK (V1.heap.size) _ _ _ _ _ _ _ _ _ _ _ _ _ _ _ _ HBc.out
  · go_simp
    generalize hV : World.alloc Y0 _ = V4
    have hb : Below Y0.heap.size Y0 V4 := by subst hV; exact ext_alloc _ _
    have HZ : Hid (V4.heap[Y0.heap.size]? = some (.cells #[.int .i64 0, .slice none 0 0, .slice none 0 0] 39 (0, 0))) := by show _ = _; subst hV; exact heap_new _ _ _ rfl
    have HG := Lib.hid HBc.out.size
    have HBc := Lib.hid (ext_trans HBc.out hb)
    have HELD := Lib.hid (HELDB.out V4 HBc.out)
    clear hV hb
    refine hK.out _ _ HELD.out (fun _ => ?_)
    clear hK K
    try simp only [Act.put, List.setIfInBounds_toArray, List.set_cons_zero, List.set_cons_succ]
    refine wpAnyH_ready (rs := [11]) (by kernel_rfl) (by simp) ?_
    refine AllReadyH.cons (by simp only [List.getElem?_toArray, List.getElem?_cons_zero, List.getElem?_cons_succ]; rfl) (fun K hK => ?_) AllReadyH.nil
    go_simp
    refine (E1.out _ HBc.out).mono ?_
    rintro e V5 ⟨rfl, hb⟩
    have HZ := Lib.hid (heap_below HZ.out hb)
    have HBc := Lib.hid (ext_trans HBc.out hb)
    have HELD := Lib.hid (HELDB.out V5 HBc.out)
    clear hb
    refine hK.out _ _ HELD.out (fun _ => ?_)
    clear hK K
    try simp only [Act.put, List.setIfInBounds_toArray, List.set_cons_zero, List.set_cons_succ]
    refine wpAnyH_take (i := 12) (v := ?_) (by simp only [List.getElem?_toArray, List.getElem?_cons_zero, List.getElem?_cons_succ]; rfl) (by kernel_rfl) (by kernel_rfl) (by kernel_rfl) (fun _ _ _ h => h) (Or.inl ⟨by rfl, ?_⟩) HELD.out ?_
    rotate_left
    · intro w hSw
      (try dsimp only at hSw)
      obtain ⟨q0, q1, q2⟩ := hSw
      go_simp
      try with_reducible rfl
    try simp only [Act.put, List.setIfInBounds_toArray, List.set_cons_zero, List.set_cons_succ]
    refine wpAnyH_take (i := 13) (v := ?_) (by simp only [List.getElem?_toArray, List.getElem?_cons_zero, List.getElem?_cons_succ]; rfl) (by kernel_rfl) (by kernel_rfl) (by kernel_rfl) (fun _ _ _ h => h) (Or.inl ⟨by rfl, ?_⟩) HELD.out ?_
    rotate_left
    · intro w hSw
      (try dsimp only at hSw)
      obtain ⟨q0, q1, q2⟩ := hSw
      go_simp
      try with_reducible rfl
    try simp only [Act.put, List.setIfInBounds_toArray, List.set_cons_zero, List.set_cons_succ]
    refine wpAnyH_take (i := 14) (v := ?_) (by simp only [List.getElem?_toArray, List.getElem?_cons_zero, List.getElem?_cons_succ]; rfl) (by kernel_rfl) (by kernel_rfl) (by kernel_rfl) (fun _ _ _ h => h) (Or.inl ⟨by rfl, ?_⟩) HELD.out ?_
    rotate_left
    · intro w hSw
      (try dsimp only at hSw)
      obtain ⟨q0, q1, q2⟩ := hSw
      go_simp
      try with_reducible rfl
    try simp only [Act.put, List.setIfInBounds_toArray, List.set_cons_zero, List.set_cons_succ]
    refine wpAnyH_ready (rs := [16]) (by kernel_rfl) (by simp) ?_
    refine AllReadyH.cons (by simp only [List.getElem?_toArray, List.getElem?_cons_zero, List.getElem?_cons_succ]; rfl) (fun K hK => ?_) AllReadyH.nil
    have hh := HZ.out
    have z0 := cell_of_block hh 0
    have z1 := cell_of_block hh 1
    have z2 := cell_of_block hh 2
    have y0 := unfrozen_of_block hh 0
    have y1 := unfrozen_of_block hh 1
    have y2 := unfrozen_of_block hh 2
    clear hh
    go_simp
    clear z0 z1 z2 y0 y1 y2
    have hb6 := tr_below (u0 := (.int .i64 0)) (u1 := (.slice none 0 0)) (u2 := (.slice none 0 0)) (Y0.heap.size) HG.out HBc.out
    have HELD := Lib.hid (HELDB.out _ hb6)
    generalize hV6 : World.setCell (World.setCell (World.setCell V5 _ _) _ _) _ _ = V6 at HELD hb6 ⊢
    clear hV6
    have HBc := Lib.hid hb6
    clear hb6
    refine hK.out _ _ HELD.out (fun _ => ?_)
    clear hK K
    try simp only [Act.put, List.setIfInBounds_toArray, List.set_cons_zero, List.set_cons_succ]
    refine wpAnyH_take (i := 17) (v := ?_) (by simp only [List.getElem?_toArray, List.getElem?_cons_zero, List.getElem?_cons_succ]; rfl) (by kernel_rfl) (by kernel_rfl) (by kernel_rfl) (fun _ _ _ h => h) (Or.inl ⟨by rfl, ?_⟩) HELD.out ?_
    rotate_left
    · intro w hSw
      (try dsimp only at hSw)
      obtain ⟨q0, q1, q2⟩ := hSw
      go_simp
      try with_reducible rfl
    try simp only [Act.put, List.setIfInBounds_toArray, List.set_cons_zero, List.set_cons_succ]
    refine wpAnyH_done (by kernel_rfl) ?_ _
    refine NoPanic.normal ?_
    exact hK (Y0.heap.size) _ _ _ _ _ _ _ _ _ _ _ _ _ _ _ _ HBc.out
end Go.Proofs.YtkimhlomadmnkaaDoor
/- WitBack's walk: what is put is got; cut it ends too soon, with more behind it it is refused. -/
namespace Go.Proofs.YtkimhlomadmnkaaDoor
open Go Go.RowKit Go.Joins

theorem framesW_len : ∀ hs : List (List UInt8), (framesW hs).length = sumF hs + hs.length
  | [] => rfl
  | f :: r => by
    have := framesW_len r
    simp [framesW, lineW, sumF]; omega
theorem textW_len (t : TraceC) (h0 : 0 ≤ t.bad) (h1 : t.bad < 1024) : 0 < (textW t).length ∧ (textW t).length ≤ t.init.length + sumF t.frames + t.frames.length + 40 := by
  have h2 := dec_len t.bad.toNat (by omega)
  have h3 := framesW_len t.frames
  simp [textW, headW, lineW]; omega

set_option maxRecDepth 100000 in
set_option maxHeartbeats 6400000 in
theorem witback_any (t : TraceC) (s : TSlots) (cut : Int) (more : UInt8) (w : World) (h : SeesTr w s t) (hs2 : s.n2 ≤ 9223372036854775807) (hcut : -9223372036854775808 ≤ cut ∧ cut < 9223372036854775808) (htab : Tab w) (hdig : Dig w) :
    Calls Tryd.prog 5 #[traceV t.bad s, .int .i64 cut, bv more] w fun e w' => e = .returned (.bool true) ∧ Below w.heap.size w w' := by
  have HPUT := Lib.hid (fun W (hb : Below w.heap.size w W) => wput_any t s W (h.below hb) (htab.below hb (Nat.le_refl _)) (hdig.below hb (Nat.le_refl _)))
  have HGR := Lib.hid (fun W (hb : Below w.heap.size w W) => wgreat_any t s W (h.below hb) hs2)
  have HSEE := Lib.hid h
  obtain ⟨a1, n1, c1, a2, n2, c2, ss⟩ := s
  simp only at hs2
  obtain ⟨bad, hbad⟩ : ∃ b, b = t.bad := ⟨_, rfl⟩
  have HBAD := Lib.hid hbad
  unfold traceV at HPUT HGR ⊢
  simp only at HPUT HGR ⊢
  rw [← hbad] at HPUT HGR ⊢
  unfold bv
  clear h hbad htab hdig
  go_enter Tryd.func5, Tryd.ntmps5
  go_wp2_with fail
  generalize hW : World.alloc w _ = W1
  have B1 : Below w.heap.size w W1 := by subst hW; exact ext_alloc _ _
  have hX : W1.heap[w.heap.size]? = some (.cells #[.int .i64 bad, .slice a1 n1 c1, .slice a2 n2 c2] 39 (0, 0)) := by subst hW; exact heap_new _ _ _ rfl
  clear hW
  refine (HPUT.out W1 B1).mono ?_
  rintro e W2 ⟨hb, hcase⟩
  have hX2 := heap_below hX hb
  have B2 := ext_trans B1 hb
  have k0 := cell_of_block hX2 0
  have k1 := cell_of_block hX2 1
  have k2 := cell_of_block hX2 2
  have HX2 := Lib.hid hX2
  have HB2 := Lib.hid B2
  have HB12 := Lib.hid hb
  have HW1 := Lib.hid B1.size
  clear B1 hX hb hX2 B2 HPUT
  rcases hcase with ⟨hm, rfl⟩ | ⟨v, hm, rfl, hrow⟩
  · -- it may not be written
    clear hm
    go_wp2_with fail
    refine (HGR.out W2 HB2.out).mono ?_
    rintro e W3 ⟨q, rfl, _, hb⟩
    have hX3 := heap_below HX2.out hb
    have HB3 := Lib.hid (ext_trans HB2.out hb)
    clear k0 k1 k2 hb HX2 HB2
    have k0 := cell_of_block hX3 0
    have k1 := cell_of_block hX3 1
    have k2 := cell_of_block hX3 2
    clear hX3
    cases q with
    | true =>
      go_wp2_with fail
      refine (HGR.out W3 HB3.out).mono ?_
      rintro e W4 ⟨q4, rfl, _, hb⟩
      have HB4 := Lib.hid (ext_trans HB3.out hb)
      clear k0 k1 k2 hb HB3 HGR
      cases q4 <;>
      · go_wp2_with fail
        refine (wlives_any W4).mono ?_
        rintro e W5 ⟨rfl, hb⟩
        have HB5 := Lib.hid (ext_trans HB4.out hb)
        clear hb HB4
        go_wp2
        go_ret
        exact ⟨rfl, HB5.out⟩
    | false =>
      go_wp2_with fail
      refine (HGR.out W3 HB3.out).mono ?_
      rintro e W4 ⟨q4, rfl, _, hb⟩
      have HB4 := Lib.hid (ext_trans HB3.out hb)
      clear k0 k1 k2 hb HB3 HGR
      cases q4 <;>
      · go_wp2_with fail
        refine (wlives_any W4).mono ?_
        rintro e W5 ⟨rfl, hb⟩
        have HB5 := Lib.hid (ext_trans HB4.out hb)
        clear hb HB4
        go_wp2
        go_ret
        exact ⟨rfl, HB5.out⟩
  -- it is written
  have hmt := may_of hm
  have HM := Lib.hid hmt
  obtain ⟨va, vc, rfl⟩ := hrow.form
  have HROW := Lib.hid hrow
  obtain ⟨N, hN⟩ : ∃ N, N = (textW t).length := ⟨_, rfl⟩
  have HN := Lib.hid hN
  rw [← hN]
  clear hm hmt hrow hN
  have hfair : TSlots.fair ⟨a1, n1, c1, a2, n2, c2, ss⟩ := by
    have h1 := HSEE.out.s1.lenMap
    have h2 := HSEE.out.s2.n_eq
    simp only at h1 h2
    refine ⟨by have := HM.out.init; simp only; omega, by have := HM.out.most; simp only; omega, all_of_getD (d := slc0) (fun k hk => ?_)⟩
    simp only at hk ⊢
    have hkF : k < t.frames.length := by have := HSEE.out.s2.len; simp only at this; omega
    have h3 := (HSEE.out.s2.each k hkF).lenMap
    have h4 := (HM.out.each _ (getD_mem (d := []) hkF)).2.1
    simp only at h3
    omega
  have HFAIR := Lib.hid hfair
  clear hfair
  go_wp2_with fail
  refine (HGR.out W2 HB2.out).mono ?_
  rintro e W3 ⟨q, rfl, hq, hb⟩
  have HQ := Lib.hid (hq HFAIR.out)
  clear hq
  have hX3 := heap_below HX2.out hb
  have HB3 := Lib.hid (ext_trans HB2.out hb)
  have HR3 := Lib.hid (HROW.out.below hb)
  clear k0 k1 k2 hb HX2 HB2 HROW
  have k0 := cell_of_block hX3 0
  have k1 := cell_of_block hX3 1
  have k2 := cell_of_block hX3 2
  have HX3 := Lib.hid hX3
  clear hX3
  cases q with
  | true =>
    go_wp2_with fail
    refine (HGR.out W3 HB3.out).mono ?_
    rintro e W4 ⟨q4, rfl, hq4, hb⟩
    have hq5 := (hq4 HFAIR.out).trans HQ.out.symm
    have HB4 := Lib.hid (ext_trans HB3.out hb)
    clear k0 k1 k2 hb HB3 HGR hq4
    cases q4 with
    | true =>
      go_wp2_with fail
      refine (wlives_any W4).mono ?_
      rintro e W5 ⟨rfl, hb⟩
      have HB5 := Lib.hid (ext_trans HB4.out hb)
      clear hb HB4
      go_wp2
      go_ret
      exact ⟨rfl, HB5.out⟩
    | false => cases hq5
  | false =>
    have hn2 : 0 < n2 ∧ n2 ≤ 256 := by
      have h1 := HSEE.out.s2.n_eq
      simp only at h1
      have := HM.out.one
      have := HM.out.most
      omega
    have e0 : ((n2 : Int) == 0) = false := by simp; omega
    obtain ⟨fb, fo, hfa, hfb⟩ := HSEE.out.s2.row.addr (show 0 < n2 from hn2.1)
    simp only at hfa
    subst hfa
    have hc0 := HSEE.out.s2.cellAt 0 hn2.1
    obtain ⟨x, hx⟩ : ∃ x : Slc, x = ss.getD 0 slc0 := ⟨_, rfl⟩
    simp only at hc0
    rw [← hx] at hc0
    have hfx : (t.frames.headD []).length = x.2.1 := by
      have hhead : (t.frames.headD []) = t.frames.getD 0 [] := by cases t.frames <;> rfl
      have h1 := (HSEE.out.s2.each 0 (by have := HM.out.one; omega)).lenMap
      simp only at h1
      rw [← hx] at h1
      rw [hhead, h1]
    obtain ⟨xa, xn, xc⟩ := x
    simp only at hc0 hfx
    have hc0' : w.cell? ⟨fb, fo, none⟩ = some (.slice xa xn xc) := hc0
    have f0 := wcell_below hc0' HB3.out
    have HC0 := Lib.hid hc0'
    have HFX := Lib.hid hfx
    have HI : Hid (t.init.length = n1) := HSEE.out.s1.lenMap
    have hlen := textW_len t HM.out.lo HM.out.hi
    have hgr : t.init.length + sumF t.frames ≤ 100000 := by
      have hqq := HQ.out
      unfold greatW at hqq
      have h1 : decide (100000 < t.init.length + sumF t.frames) = false := by
        cases hd : decide (100000 < t.init.length + sumF t.frames) with
        | false => rfl
        | true => rw [hd] at hqq; simp at hqq
      have := of_decide_eq_false h1
      omega
    have hNb : 0 < N ∧ N ≤ 200000 := by have := HN.out; have := HM.out.most; omega
    have HNB := Lib.hid hNb
    have hn1 : n1 ≤ 16384 := by have := HI.out; have := HM.out.init; omega
    have hxn : xn ≤ 16384 := by have := HFX.out; have := (HM.out.each _ (head_in HM.out)).2.1; omega
    have HBYT := Lib.hid (row_sees_slice HR3.out).2
    -- the three answers
    have GA : Hid (getW (textW t) (n1 : Nat) (xn : Nat) = .ok t) := by
      have h := get_text HM.out [] (by have := HN.out; simp; omega)
      rw [List.append_nil, HI.out, HFX.out, if_pos rfl] at h
      exact h
    have GB : Hid (getW (textW t ++ [more]) (n1 : Nat) (xn : Nat) = .error 5) := by
      have h := get_text HM.out [more] (by have := HN.out; simp; omega)
      rw [HI.out, HFX.out, if_neg (by simp)] at h
      exact h
    have GC : Hid (∀ c, c < N → getW ((textW t).take c) (n1 : Nat) (xn : Nat) = .error 4) := fun c hc => by
      have h := get_cut HM.out c (by have := HN.out; omega) (by have := HN.out; omega)
      rw [HI.out, HFX.out] at h
      exact h
    have CELLS : Hid (∀ W, Below W3.heap.size W3 W → (W.cell? ⟨w.heap.size, 1, none⟩ = some (.slice a1 n1 c1) ∧ W.cell? ⟨w.heap.size, 2, none⟩ = some (.slice (some ⟨fb, fo, none⟩) n2 c2) ∧ W.cell? ⟨fb, fo, none⟩ = some (.slice xa xn xc))) :=
      fun W hb => ⟨cell_of_block (heap_below HX3.out hb) 1, cell_of_block (heap_below HX3.out hb) 2, wcell_below HC0.out (ext_trans HB3.out hb)⟩
    have BYT : Hid (∀ W, Below W3.heap.size W3 W → Sees W va N vc ((textW t).map bv)) := fun W hb => by
      have h := HBYT.out
      rw [← HN.out] at h
      exact h.below hb
    have hvc : N ≤ vc := (BYT.out W3 (Below.refl _ _)).cap
    have HVC := Lib.hid hvc
    have hw64 : n1 < 9223372036854775808 ∧ xn < 9223372036854775808 := by omega
    have HW64 := Lib.hid hw64
    have E1 : Hid (∀ W, Below W3.heap.size W3 W → Calls Tryd.prog 18 #[.slice va N vc, .int .i64 (n1 : Nat), .int .i64 (xn : Nat)] W fun e w' => ∃ sx : TSlots, e = .returned (.tuple #[.agg #[.int .i64 bad, .slice sx.a1 sx.n1 sx.c1, .slice sx.a2 sx.n2 sx.c2], .int .i64 0]) ∧ OwnT w' W.heap.size sx t ∧ sx.small ∧ Below W.heap.size W w') := fun W hb => by
      have hg := get_own (textW t) t va N vc (n1 : Nat) (xn : Nat) W (BYT.out W hb) (by have := HW64.out; omega) (by have := HW64.out; omega) GA.out
      rw [← HBAD.out] at hg
      exact hg
    clear hc0 hc0' hx hfb hfx hlen hgr hNb hn1 hxn hvc hw64
    go_upto_region 4 with fail
    clear k0 k1 k2 f0
    refine reg_WRegA w.heap.size fb fo bad a1 n1 c1 n2 c2 xa xn xc va N vc t W3 CELLS hn2.1 E1 _ ?_
    intro G sx wx
    intros
    rename_i hG hT hSM hb
    have HG := Lib.hid hG
    have HT := Lib.hid hT
    have HSM := Lib.hid hSM
    have HB5 := Lib.hid hb
    have CELLS5 : Hid (∀ W, Below wx.heap.size wx W → (W.cell? ⟨w.heap.size, 1, none⟩ = some (.slice a1 n1 c1) ∧ W.cell? ⟨w.heap.size, 2, none⟩ = some (.slice (some ⟨fb, fo, none⟩) n2 c2) ∧ W.cell? ⟨fb, fo, none⟩ = some (.slice xa xn xc) ∧ Sees W va N vc ((textW t).map bv))) :=
      fun W h => ⟨(CELLS.out W (ext_trans HB5.out h)).1, (CELLS.out W (ext_trans HB5.out h)).2.1, (CELLS.out W (ext_trans HB5.out h)).2.2, BYT.out W (ext_trans HB5.out h)⟩
    have E5 : Hid (∀ W (a' : Option Addr) (c' : Nat), Below wx.heap.size wx W → Sees W a' (N + 1) c' ((textW t).map bv ++ [bv more]) → Calls Tryd.prog 18 #[.slice a' (N + 1) c', .int .i64 (n1 : Nat), .int .i64 (xn : Nat)] W fun e w' => e = .returned (.tuple #[.agg #[.int .i64 0, .slice none 0 0, .slice none 0 0], .int .i64 5]) ∧ Below W.heap.size W w') := fun W a' c' _ hse => by
      have hse' : Sees W a' (N + 1) c' ((textW t ++ [more]).map bv) := by rw [List.map_append]; exact hse
      exact get_no (textW t ++ [more]) 5 a' (N + 1) c' (n1 : Nat) (xn : Nat) W hse' (by have := HW64.out; omega) (by have := HW64.out; omega) GB.out
    clear hG hT hSM hb
    go_upto_region 5 with fail
    refine reg_WRegB w.heap.size fb fo a1 n1 c1 n2 c2 xa xn xc va N vc (textW t) more wx CELLS5 hn2.1 HN HNB.out.1 (by have := HNB.out.2; omega) E5 _ ?_
    clear E5 CELLS5
    intro G2 wy
    intros
    rename_i hb
    have HB6 := Lib.hid (ext_trans HB5.out hb)
    have hGy := heap_below HG.out hb
    have HTY := Lib.hid (HT.out.below hb)
    have hXy := heap_below HX3.out HB6.out
    have g0 := cell_of_block hGy 0
    have g1 := cell_of_block hGy 1
    have g2 := cell_of_block hGy 2
    have x0 := cell_of_block hXy 0
    have x1 := cell_of_block hXy 1
    have x2 := cell_of_block hXy 2
    have hN1 : (N : Int) < 1048576 := by have := HNB.out.2; omega
    have HSAME : Hid (Calls Tryd.prog 22 #[.agg #[.int .i64 bad, .slice sx.a1 sx.n1 sx.c1, .slice sx.a2 sx.n2 sx.c2], .agg #[.int .i64 bad, .slice a1 n1 c1, .slice (some ⟨fb, fo, none⟩) n2 c2]] wy fun e w' => e = .returned (.bool true) ∧ Below wy.heap.size wy w') := by
      have h := sametr_any t t sx ⟨a1, n1, c1, some ⟨fb, fo, none⟩, n2, c2, ss⟩ wy HTY.out (HSEE.out.below (ext_trans HB3.out HB6.out)) HSM.out (by have := HM.out.lo; have := HM.out.hi; omega) (by have := HM.out.lo; have := HM.out.hi; omega)
      rw [decide_eq_true rfl, ← HBAD.out] at h
      exact h
    clear hb hGy hXy HB5 HG HT
    go_wp2_with fail
    refine HSAME.out.mono ?_
    rintro e wz ⟨rfl, hb⟩
    have HB7 := Lib.hid (ext_trans HB6.out hb)
    clear hb HSAME g0 g1 g2 x0 x1 x2 HB6 HTY hN1
    by_cases hc0 : cut < 0
    · clear hcut
      go_wp2_with fail
      refine (wlives_any wz).mono ?_
      rintro e w9 ⟨rfl, hb⟩
      have HB9 := Lib.hid (ext_trans HB3.out (ext_trans HB7.out hb))
      clear hb HB7
      go_wp2
      go_ret
      exact ⟨rfl, HB9.out⟩
    obtain ⟨cn, rfl⟩ : ∃ cn : Nat, cut = (cn : Int) := ⟨cut.toNat, by omega⟩
    by_cases hcN : N ≤ cn
    · have hcN' : (N : Int) ≤ (cn : Int) := by omega
      clear hcut hc0
      go_wp2_with fail
      refine (wlives_any wz).mono ?_
      rintro e w9 ⟨rfl, hb⟩
      have HB9 := Lib.hid (ext_trans HB3.out (ext_trans HB7.out hb))
      clear hb HB7
      go_wp2
      go_ret
      exact ⟨rfl, HB9.out⟩
    have hcN' : (cn : Int) < (N : Int) := by omega
    obtain ⟨a9, ec9, see9⟩ := (BYT.out wz HB7.out).cut 0 cn (Nat.zero_le _) (by omega)
    have ec9' : sliced va 0 cn vc 1 = .slice a9 cn vc := ec9
    have HS9 : Hid (∀ W, Below wz.heap.size wz W → Sees W a9 cn vc (((textW t).take cn).map bv)) := fun W h => by
      have h9 : Sees wz a9 cn vc (((textW t).take cn).map bv) := by rw [List.map_take]; exact see9
      exact h9.below h
    have CELLS9 : Hid (∀ W, Below wz.heap.size wz W → (W.cell? ⟨w.heap.size, 1, none⟩ = some (.slice a1 n1 c1) ∧ W.cell? ⟨w.heap.size, 2, none⟩ = some (.slice (some ⟨fb, fo, none⟩) n2 c2) ∧ W.cell? ⟨fb, fo, none⟩ = some (.slice xa xn xc))) :=
      fun W h => CELLS.out W (ext_trans HB7.out h)
    have E9 : Hid (∀ W, Below wz.heap.size wz W → Calls Tryd.prog 18 #[.slice a9 cn vc, .int .i64 (n1 : Nat), .int .i64 (xn : Nat)] W fun e w' => e = .returned (.tuple #[.agg #[.int .i64 0, .slice none 0 0, .slice none 0 0], .int .i64 4]) ∧ Below W.heap.size W w') := fun W hb =>
      get_no ((textW t).take cn) 4 a9 cn vc (n1 : Nat) (xn : Nat) W (HS9.out W hb) (by have := HW64.out; omega) (by have := HW64.out; omega) (GC.out cn (by omega))
    have hcv : cn ≤ vc := by have := HVC.out; omega
    clear hcut hc0 ec9 see9
    go_upto_region 10 with fail
    refine reg_WRegC w.heap.size fb fo a1 n1 c1 n2 c2 xa xn xc va N vc cn wz CELLS9 hn2.1 hcv a9 ec9' E9 _ ?_
    intro G3 wq
    intros
    rename_i hb
    have HBq := Lib.hid (ext_trans HB3.out (ext_trans HB7.out hb))
    clear hb E9 CELLS9 HS9
    go_wp2_with fail
    refine (wlives_any wq).mono ?_
    rintro e w9 ⟨rfl, hb⟩
    have HB9 := Lib.hid (ext_trans HBq.out hb)
    clear hb
    go_wp2
    go_ret
    exact ⟨rfl, HB9.out⟩
end Go.Proofs.YtkimhlomadmnkaaDoor
/- A trace that came in has no more frames than a slice can have. -/
namespace Go.Proofs.YtkimhlomadmnkaaDoor
open Go Go.ChangeShapes Go.WideShapes Go.ChangeAt Go.RowKit Go.WideElems Go.Deep Go.Joins

set_option maxRecDepth 100000 in
theorem trace_max {H : Type} {enc : TypeId × Value → H} {W : World} {bad : Int} {s : TSlots} {d : DataW H} {p : List MemPlace} (h : DataW.Trod enc Tryd.prog W 0 (fun _ => true) true 39 (traceV bad s) d p) : s.n2 ≤ 9223372036854775807 := by
  obtain ⟨fuel, hf⟩ := h
  unfold traceV at hf
  obtain ⟨xs, n, _, _, _, hlen, hg⟩ := DataW.trod_struct Tryd.underlying39 hf
  match xs, hlen with
  | [y0, y1, y2], _ =>
    have g2 := hg 2 _ rfl
    simp only [Value.cells] at g2
    rcases Go.Deep.open_slice Tryd.underlying37 (cs := [.slice s.a2 s.n2 s.c2]) g2 with ⟨hcs, _⟩ | ⟨a, len, cap, m, nf, D, Pl, hcs, _, hl, hm, _⟩
    · simp at hcs
      omega
    · simp at hcs
      unfold maxLen at hm
      omega
end Go.Proofs.YtkimhlomadmnkaaDoor
namespace Go.Proofs.YtkimhlomadmnkaaDoor.witBack
open Go Go.ChangeShapes Go.WideShapes Go.ChangeAt Go.RowKit

set_option maxRecDepth 100000 in
theorem contract (H : Type) (enc : TypeId × Value → H) (W : World) (base : Nat) (args : Array Value) (ds gs : List (DataW H)) (before : List MemPlace)
    (hval : ∀ (j : Nat) t v, Tryd.f5.params[j]? = some t → args[j]? = some v → Value.okWide Tryd.prog W .any base t v)
    (hW : DataW.Whole enc Tryd.prog Tryd.f5.params.toList Rows.witBackSpec.vars false W args.toList ds gs before) (hL : laidMetH Tryd.prog Rows.witBackRow.laid W) :
    Calls Tryd.prog 5 args W fun e W' => ∃ v, e = .returned v ∧ Rows.witBackSpec.post enc Tryd.prog Tryd.f5 false true false false W args v W' := by
  have hW' := hW
  obtain ⟨p, q, hA0, hV, rfl, hfz, hnd⟩ := hW
  have hA : DataW.TrodAll enc Tryd.prog W 0 (fun _ => true) true Tryd.f5.params.toList args.toList ds p := hA0
  rw [Tryd.params5] at hA hval
  obtain ⟨v0, vs0, d0, ds0, p0, q0, hargs, rfl, rfl, h0, r0⟩ := trodAll_cons hA
  obtain ⟨v1, vs1, d1, ds1, p1, q1, rfl, rfl, rfl, h1, r1⟩ := trodAll_cons r0
  obtain ⟨v2, vs2, d2, ds2, p2, q2, rfl, rfl, rfl, h2, r2⟩ := trodAll_cons r1
  obtain ⟨rfl, rfl, rfl⟩ := trodAll_nil r2
  obtain rfl : args = #[v0, v1, v2] := by cases args; simp_all
  obtain ⟨rfl, rfl⟩ := trodVars_none hV
  obtain ⟨t0, s0, rfl, hs0, lo0, hi0, _, _, _⟩ := open_trace (hval 0 39 _ rfl rfl) h0
  have mx0 := trace_max h0
  obtain ⟨z1, rfl, rfl, rfl, wz1⟩ := open_int Tryd.underlying3 (hval 1 3 v1 rfl rfl) h1
  have hz1 := bounds_i64 wz1
  obtain ⟨z2, rfl, rfl, rfl, wz2⟩ := open_int Tryd.underlying5 (hval 2 5 v2 rfl rfl) h2
  have hz2 := bounds_u8 wz2
  obtain ⟨u2, rfl⟩ : ∃ u : UInt8, z2 = (u.toNat : Int) := ⟨UInt8.ofNat z2.toNat, by rw [UInt8.toNat_ofNat']; omega⟩
  clear hA0 hA
  refine (witback_any t0 s0 z1 u2 W hs0 mx0 (by omega) (tab_of hL) (digtab_of hL)).mono fun e W' ⟨he, hbel⟩ => ?_
  subst he
  exact ⟨_, rfl, law_end laidOut (by decide +kernel) rfl rfl Tryd.underlying4 hW' rfl rfl rfl hbel⟩

theorem laid_met (os : Os) : laidMet Tryd.prog Rows.witBackRow.laid ((laidWorld os).forCall (fun _ _ => 0) ⟨#[], #[.agg #[.int .i64 0, .slice none 0 0, .slice none 0 0], .int .i64 0, .int .u8 0], []⟩).memory :=
  laidMet_of_run' 8 (by kernel_rfl) (by kernel_rfl)
theorem reads (os : Os) {H : Type} (enc : TypeId × Value → H) : ∃ places, DataW.whole enc Tryd.prog ((laidWorld os).forCall (fun _ _ => 0) ⟨#[], #[.agg #[.int .i64 0, .slice none 0 0, .slice none 0 0], .int .i64 0, .int .u8 0], []⟩).memory Tryd.f5.params.toList Rows.witBackSpec.vars false #[Value.agg #[.int .i64 0, .slice none 0 0, .slice none 0 0], Value.int .i64 0, Value.int .u8 0].toList 8 = some ([.agg [.lit (.int .i64 0), .nil, .nil], .lit (.int .i64 0), .lit (.int .u8 0)], [], places) :=
  ⟨[], by kernel_rfl⟩

set_option maxRecDepth 100000 in
theorem lifted (os : Os) (started : os.Started) (H : Type) (enc : TypeId × Value → H) (F : Stop.Interp) :
    ReturnsInHanded {} Tryd.checked os 5 .any ((OpenSpec.ofChange Rows.witBackSpec).preRow enc Tryd.prog Tryd.f5 Rows.witBackRow.domain false Rows.witBackRow.laid) (((OpenSpec.ofChange Rows.witBackSpec).at F).post enc Tryd.prog Tryd.f5 false true false false) := by
  obtain ⟨places, hx⟩ := reads os enc
  refine returnsInHanded_of_row (C := Tryd.checked) (s := OpenSpec.ofChange Rows.witBackSpec) own started (by kernel_rfl) Tryd.func5
    (witness_row_at (enc := enc) (C := Tryd.checked) false (laidWorld os) #[.agg #[.int .i64 0, .slice none 0 0, .slice none 0 0], .int .i64 0, .int .u8 0] rfl (by kernel_rfl) (by kernel_rfl) (by kernel_rfl)
      (OpenSpec.preRow_of_cond 8 hx (by kernel_rfl) (fun k hk => by cases hk) (by kernel_rfl) (laid_met os))) ?_
  intro W base args ds gs before hval hW _ _ _ hL _ _
  exact contract H enc W base args ds gs before hval hW hL

theorem said : Rows.WitBackSaid :=
  OpenClaim.holds_of_cond 5 Tryd.f5 rfl rfl rfl rfl rfl rfl rfl ⟨rfl, rfl, rfl, rfl, rfl⟩ rfl rfl rfl rfl rfl (by kernel_rfl) Tryd.func5 (by kernel_rfl)
    (of_decide_eq_true (by kernel_rfl)) (by unfold Func.isWrapper; first | (rw [if_pos (by decide +kernel)]; kernel_rfl) | (rw [if_neg (by decide +kernel)]; exact ⟨rfl, rfl⟩))
    (fun os started H enc _ F => by rw [OpenClaim.pre_eq_preRow]; exact lifted os started H enc F)

theorem plain (f : FuncId) (fn : Func) (hf : Tryd.pinned.checked.prog.funcNamed "inquest/inquestlaw05.WitBack" = some f) (hfn : Tryd.pinned.checked.prog.funcs[f]? = some fn) :
    false = Tryd.pinned.checked.prog.looks [] ∧ ∀ (j : Nat) t, fn.params[j]? = some t → Tryd.pinned.checked.prog.wantsStandIn t = false := by
  obtain rfl : f = 5 := Option.some.inj ((show Tryd.prog.funcNamed "inquest/inquestlaw05.WitBack" = some 5 by kernel_rfl).symm.trans hf) |>.symm
  obtain rfl : fn = Tryd.f5 := (Option.some.inj (Tryd.func5.symm.trans hfn)).symm
  refine ⟨by kernel_rfl, fun j t ht => ?_⟩
  rw [Tryd.params5] at ht
  have hm := Array.mem_of_getElem? ht
  have hall : ∀ t ∈ #[39, 3, 5], Tryd.prog.wantsStandIn t = false := by decide +kernel
  exact hall t hm

/-- ████ THE FIRST FORM's CARD ████ -/
theorem card : Rows.WitBackCardSaid :=
  Claim7.holds_tied_plain_at .later [] _ _ _ _ said (fun _ h => by cases h) (by kernel_rfl) (fun _ h => by cases h) witBack_row_tie rfl ⟨rfl, rfl⟩ (by kernel_rfl) rfl plain (by kernel_rfl)
end Go.Proofs.YtkimhlomadmnkaaDoor.witBack
