/- append to a row of the call's own whose mark lies behind its cells: '[]byte(string)' makes such a one. -/
import Derived.Test.YtglhnmbfkbjemaaDoorWrite
import Derived.Laws.IdiomCopy
namespace Go.Proofs.YtglhnmbfkbjemaaDoor
open Go Go.RowKit Go.Joins

/-- The slice value owns a row all of whose cells can be written. -/
structure FRow (w : World) (base : Nat) (v : Value) (n : Nat) (xs : List Value) (g cap : Nat) : Prop where
  form : v = .slice (some ⟨g, 0, none⟩) n cap
  le : base ≤ g
  sees : Sees w (some ⟨g, 0, none⟩) n cap xs
  max : cap ≤ maxLen
  lt : g < w.heap.size
  cells : ∀ j, j < cap → (w.cell? ⟨g, j, none⟩).isSome = true ∧ w.frozen? ⟨g, j, none⟩ = false

theorem below_setCells {B b : Nat} {w0 : World} : ∀ (vs : List Value) (o : Nat) (w : World), Below B w0 w → B ≤ b → Below B w0 (w.setCells b o vs)
  | [], _, _, h, _ => h
  | v :: r, o, _, h, hb => below_setCells r (o + 1) _ (h.setCell (p := ⟨b, o, none⟩) hb v) hb
theorem size_setCells (b : Nat) : ∀ (vs : List Value) (o : Nat) (w : World), (w.setCells b o vs).heap.size = w.heap.size
  | [], _, _ => rfl
  | v :: r, o, w => by rw [World.setCells, size_setCells b r]; simp

theorem grown_setCells (g : Nat) : ∀ (vs : List Value) (o : Nat) (w : World), w.grownBy (w.setCells g o vs) (some g)
  | [], _, w => ⟨rfl, rfl, rfl, Nat.le_refl _, fun _ _ _ => rfl⟩
  | v :: r, o, w => by
    have h1 : w.grownBy (w.setCell ⟨g, o, none⟩ v) (some g) := ⟨rfl, rfl, rfl, by simp, fun k _ hk => Below.heap_setCell _ ⟨g, o, none⟩ _ k (fun e => hk (by rw [e]))⟩
    have h2 := grown_setCells g r (o + 1) (w.setCell ⟨g, o, none⟩ v)
    exact ⟨h2.os.trans h1.os, h2.tape.trans h1.tape, h2.output.trans h1.output, Nat.le_trans h1.size h2.size, fun b hb hr => (h2.block b (Nat.lt_of_lt_of_le hb h1.size) hr).trans (h1.block b hb hr)⟩
theorem FRow.of_row {ok : Value → Prop} {w : World} {base : Nat} {e : TypeId} {v : Value} {n : Nat} {xs : List Value} (h : Row ok w base e v n xs) (hn : 0 < n) : ∃ g cap, FRow w base v n xs g cap := by
  rcases h.2 with ⟨_, h0⟩ | ⟨g, cap, cur, rfl, hb, hg, hnc, hm, hcs, ht, _⟩
  · omega
  · obtain ⟨a, c, e, _, hs⟩ := h.sees
    cases e
    refine ⟨g, cap, rfl, hb, hs, hm, heap_lt hg, fun j hj => ⟨?_, unfrozen_of_block hg j⟩⟩
    rw [cell_of_block hg j, Array.getElem?_eq_getElem (by omega)]
    rfl

theorem FRow.below {w w' : World} {base : Nat} {v : Value} {n : Nat} {xs : List Value} {g cap : Nat} (h : FRow w base v n xs g cap) (hb : Below w.heap.size w w') : FRow w' base v n xs g cap :=
  ⟨h.form, h.le, h.sees.below hb, h.max, Nat.lt_of_lt_of_le h.lt hb.size, fun j hj => ⟨by rw [hb.cell (p := ⟨g, j, none⟩) h.lt]; exact (h.cells j hj).1, by rw [hb.frozen (p := ⟨g, j, none⟩) h.lt]; exact (h.cells j hj).2⟩⟩

theorem run_append_frow {P : Program} (ok : Value → Prop) (w : World) (base : Nat) (t ty e : TypeId) (i : TypeInfo) (z : Value) (bytes : Nat) (ht : P.underlying t = some (.slice e)) (hi : P.info? e = some i) (hz : i.zero = some z)
    (hsize : i.size = 1) (hby : i.bytes = bytes) (hzs : z.cells = #[z]) (hok : ok z)
    (v : Value) (n : Nat) (xs : List Value) (g cap : Nat) (hown : FRow w base v n xs g cap) (_hn : 0 < n) (hxo : ∀ u ∈ xs, ok u)
    (a : Option Addr) (m c : Nat) (news : List Value) (hsee : Sees w a m c news) (h1 : ∀ u ∈ news, u.oneCell' = true) (hoks : ∀ u ∈ news, ok u)
    (h63 : n + m ≤ maxLen) (hbytes : (n + m) * bytes ≤ 140737488355328) (hbase : base ≤ w.heap.size) :
    ∃ v' w' g' cap', (Builtin.append_ #[t, t] ty #[v, .slice a m c]).run P w = .ok v' w' ∧ FRow w' base v' (n + m) (xs ++ news) g' cap' ∧ Below base w w' ∧ w.grownBy w' (some g) := by
  obtain ⟨rfl, hbg, hs, hmx, hlt, hcells⟩ := hown
  have hl := hsee.len
  have hxl := hs.len
  have hnc := hs.cap
  by_cases hm : m = 0
  · subst hm
    have hne : news = [] := List.eq_nil_of_length_eq_zero hl
    subst hne
    refine ⟨.slice (some ⟨g, 0, none⟩) n cap, w, g, cap, ?_, ⟨rfl, hbg, by simpa using hs, hmx, hlt, hcells⟩, Below.refl _ _, ⟨rfl, rfl, rfl, Nat.le_refl _, fun _ _ _ => rfl⟩⟩
    cases a <;> simp [Builtin.append_, run_underlying ht, sizeOf, typeInfo, hi, Builtin.lenOf, Builtin.firstCells, loadCells, loadCellsFrom, hnc, storeCells]
  · obtain ⟨b, off, rfl, hblt, hc⟩ := hsee.real (by omega)
    have hadd : ∀ (b off j : Nat), (⟨b, off, none⟩ : Addr).add j = ⟨b, off + j, none⟩ := by intro b off j; unfold Addr.add; split <;> simp_all
    have hnews : ∀ j u, news[j]? = some u → w.cell? ((⟨b, off, none⟩ : Addr).add j) = some u := by
      intro j u hj
      have hjn : j < m := by rw [← hl]; exact (List.getElem?_eq_some_iff.1 hj).1
      rw [hadd, hc j hjn, hj]
    by_cases hroom : n + m ≤ cap
    · have hf := run_firstCells_some (P := P) w i.size m ⟨b, off, none⟩ m c news (by rw [hsize]; omega) hnews
      have hst := run_storeCells_cells (P := P) g n news 0 w (fun j hj => by rw [Nat.add_zero]; exact (hcells (n + j) (by omega)).1) (fun j hj => by rw [Nat.add_zero]; exact (hcells (n + j) (by omega)).2) h1
      simp only [Nat.add_zero] at hst
      refine ⟨.slice (some ⟨g, 0, none⟩) (n + m) cap, w.setCells g n news, g, cap, ?_, ⟨rfl, hbg, ⟨by rw [List.length_append]; omega, hroom, (fun e => by cases e), fun _ => ⟨g, 0, rfl, by rw [size_setCells]; exact hlt, fun j hj => ?_⟩⟩, hmx, by rw [size_setCells]; exact hlt, fun j hj => ⟨?_, by rw [World.frozen?_setCells]; exact (hcells j hj).2⟩⟩, below_setCells news n w (Below.refl _ _) hbg, grown_setCells g news n w⟩
      · rw [hsize] at hf
        simp [Builtin.append_, run_underlying ht, sizeOf, typeInfo, hi, hsize, Builtin.lenOf, hroom, hf, hadd, hst]
      · rw [Nat.zero_add]
        by_cases hjn : j < n
        · rw [World.cell?_setCells_out g news n w _ (fun _ _ => Or.inl hjn), List.getElem?_append_left (by omega)]
          have := (hs.cell j hjn).2
          rw [Nat.zero_add] at this
          exact this
        · have hin := World.cell?_setCells_in g news n w (fun j hj => (hcells (n + j) (by omega)).1) (j - n) (by omega)
          rw [show n + (j - n) = j by omega] at hin
          rw [hin, List.getElem?_append_right (by omega), hxl, List.getElem?_eq_getElem (by omega)]
      · by_cases hjn : j < n ∨ n + news.length ≤ j
        · rw [World.cell?_setCells_out g news n w _ (fun _ _ => hjn)]; exact (hcells j hj).1
        · have hin := World.cell?_setCells_in g news n w (fun j hj => (hcells (n + j) (by omega)).1) (j - n) (by omega)
          rw [show n + (j - n) = j by omega] at hin
          rw [hin]; rfl
    · subst hby
      have holds : ∀ j u, xs[j]? = some u → w.cell? ((⟨g, 0, none⟩ : Addr).add j) = some u := by
        intro j u hj
        have hjn : j < n := by rw [← hxl]; exact (List.getElem?_eq_some_iff.1 hj).1
        rw [hadd, (hs.cell j hjn).2, hj]
      have hr := run_append_grow (P := P) w t ty e i z ht hi hz ⟨g, 0, none⟩ n cap xs (by rw [hxl, hsize]; omega) holds ⟨b, off, none⟩ m c news (by rw [hl, hsize]; omega) hnews (by omega) (by simp only [maxLen] at h63; omega) (growslice_fits (by omega) hbytes)
      have hge := grownCap_ge w (n + m) cap e
      have hcm : grownCap w (n + m) cap e ≤ maxLen := grownCap_le_maxLen w (n + m) cap e h63
      have hrow : Row ok (w.drew.alloc (.cells (xs.toArray ++ news.toArray ++ Builtin.zeroCells z.cells (grownCap w (n + m) cap e - (n + m))) e)) base e (.slice (some ⟨w.heap.size, 0, none⟩) (n + m) (grownCap w (n + m) cap e)) (n + m) (xs ++ news) := by
        have hlen : (xs ++ news).length = n + m := by rw [List.length_append]; omega
        refine ⟨hlen, .inr ⟨w.heap.size, _, _, rfl, hbase, heap_alloc_new w.drew _, hge, hcm, ?_, ?_, ?_⟩⟩
        · simp only [Array.size_append, List.size_toArray, size_zeroCells, hzs, hxl, hl]
          simp
          omega
        · simp only [Array.toList_append, List.append_assoc]
          rw [← List.append_assoc, ← hlen]
          exact List.take_left
        · intro u hu
          simp only [Array.toList_append, List.mem_append] at hu
          rcases hu with (hu | hu) | hu
          · exact hxo u hu
          · exact hoks u hu
          · rw [mem_zeroCells hzs hu]; exact hok
      obtain ⟨g', cap', hF⟩ := FRow.of_row hrow (by omega)
      exact ⟨_, _, g', cap', hr, hF, (((Below.refl base w).drew).alloc hbase _), ⟨rfl, rfl, rfl, by simp, fun k hk _ => heap_alloc_old w.drew _ hk⟩⟩

theorem wpList_append_frow {P : Program} (ok : Value → Prop) (w : World) {ops : Array Oper} {rest : List Oper} {o : Oper} {a : Act} {Q : Exit → Act → World → Prop} (hgd : o.guard = none) (s x : Operand) (t : TypeId)
    (ho : o.op = .call { callee := .builtin .append, args := #[s, x], argTypes := #[t, t] })
    (base : Nat) (e : TypeId) (i : TypeInfo) (z : Value) (bytes : Nat) (ht : P.underlying t = some (.slice e)) (hi : P.info? e = some i) (hz : i.zero = some z)
    (hsize : i.size = 1) (hby : i.bytes = bytes) (hzs : z.cells = #[z]) (hok : ok z)
    (v : Value) (n : Nat) (xs : List Value) (g cap : Nat) (hs : a.eval s = v) (hown : FRow w base v n xs g cap) (hn : 0 < n) (hxo : ∀ u ∈ xs, ok u)
    (ad : Option Addr) (m c : Nat) (news : List Value) (hx : a.eval x = .slice ad m c) (hsee : Sees w ad m c news) (h1 : ∀ u ∈ news, u.oneCell' = true) (hoks : ∀ u ∈ news, ok u)
    (h63 : n + m ≤ maxLen) (hbytes : (n + m) * bytes ≤ 140737488355328) (hbase : base ≤ w.heap.size)
    (h : ∀ v' w' g' cap', FRow w' base v' (n + m) (xs ++ news) g' cap' → Below base w w' → wpList P ops Q rest (a.put o.dst v') w') : wpList P ops Q (o :: rest) a w := by
  refine wpList_plain hgd fun K hK => ?_
  obtain ⟨v', w', g', cap', hr, h2, h3, _⟩ := run_append_frow (P := P) ok w base t o.type e i z bytes ht hi hz hsize hby hzs hok v n xs g cap hown hn hxo ad m c news hsee h1 hoks h63 hbytes hbase
  unfold Oper.wp execOp
  simp only [ho, resolve, invoke, builtin, Sem.run_bind, Sem.run_pure, Result.andThen_ok, List.map_toArray, List.map_cons, List.map_nil, hs, hx, hr]
  exact hK _ _ (h v' w' g' cap' h2 h3)
/-- What '[]byte(string)' makes. -/
theorem frow_bytes (base : Nat) (w : World) (bs : List UInt8) (hb : base ≤ w.heap.size) (hn : bs.length ≤ 1000000000) :
    FRow (Lib.bytesWorld w 5 (str bs)) base (.slice (some ⟨w.heap.size, 0, none⟩) bs.length (grownCap w bs.length 0 5)) bs.length (bs.map bv) w.heap.size (grownCap w bs.length 0 5) := by
  have hnew := Lib.bytesWorld_at_new w 5 (str bs)
  have hge := grownCap_ge w bs.length 0 5
  have hgm := grownCap_le_maxLen w bs.length 0 5 (by unfold maxLen; omega)
  have hcsz : (Lib.bytesCells w 5 (str bs)).size = grownCap w bs.length 0 5 := by
    unfold Lib.bytesCells
    rw [size_str]
    have : (str bs).data.size = bs.length := by simp [str]
    simp [this]; omega
  refine ⟨rfl, hb, ⟨by simp, hge, (fun e => by cases e), fun _ => ⟨_, 0, rfl, heap_lt hnew, fun j hj => ?_⟩⟩, hgm, heap_lt hnew, fun j hj => ⟨?_, ?_⟩⟩
  · rw [Nat.zero_add, Lib.bytesWorld_cell w _ _ j (by rw [size_str]; exact hj)]
    simp [str, bv, List.getD, List.getElem?_eq_getElem hj]
  · rw [cell_of_block hnew j, Array.getElem?_eq_getElem (by omega)]; rfl
  · unfold World.frozen?
    rw [hnew]
    simp
    omega
/-- The same at an operation of a region that draws. -/
theorem oper_append_frow {P : Program} (ok : Value → Prop) (w : World) {o : Oper} {a : Act} {K : Act → World → Prop} {Q : Exit → Act → World → Prop} (s x : Operand) (t : TypeId)
    (ho : o.op = .call { callee := .builtin .append, args := #[s, x], argTypes := #[t, t] })
    (base : Nat) (e : TypeId) (i : TypeInfo) (z : Value) (bytes : Nat) (ht : P.underlying t = some (.slice e)) (hi : P.info? e = some i) (hz : i.zero = some z)
    (hsize : i.size = 1) (hby : i.bytes = bytes) (hzs : z.cells = #[z]) (hok : ok z)
    (v : Value) (n : Nat) (xs : List Value) (g cap : Nat) (hs : a.eval s = v) (hown : FRow w base v n xs g cap) (hn : 0 < n) (hxo : ∀ u ∈ xs, ok u)
    (ad : Option Addr) (m c : Nat) (news : List Value) (hx : a.eval x = .slice ad m c) (hsee : Sees w ad m c news) (h1 : ∀ u ∈ news, u.oneCell' = true) (hoks : ∀ u ∈ news, ok u)
    (h63 : n + m ≤ maxLen) (hbytes : (n + m) * bytes ≤ 140737488355328) (hbase : base ≤ w.heap.size)
    (h : ∀ v' w' g' cap', FRow w' base v' (n + m) (xs ++ news) g' cap' → Below base w w' → w.grownBy w' (some g) → K (a.put o.dst v') w') : Oper.wp P o a w K Q := by
  obtain ⟨v', w', g', cap', hr, h2, h3, h4⟩ := run_append_frow (P := P) ok w base t o.type e i z bytes ht hi hz hsize hby hzs hok v n xs g cap hown hn hxo ad m c news hsee h1 hoks h63 hbytes hbase
  unfold Oper.wp execOp
  simp only [ho, resolve, invoke, builtin, Sem.run_bind, Sem.run_pure, Result.andThen_ok, List.map_toArray, List.map_cons, List.map_nil, hs, hx, hr]
  exact h v' w' g' cap' h2 h3 h4
end Go.Proofs.YtglhnmbfkbjemaaDoor
