/- inquestref00.Numbers, by its contract. -/
import Derived.Test.YtglhnmbfkbjemaaGreatDoorLib
import Derived.Test.YtglhnmbfkbjemaaGreatDoorRows
import Derived.KernelRfl
import Derived.ProofKit
import Derived.OpenShut
import Derived.Deep.DeepHandedRow
import Derived.Lib.LaidTab
import Derived.Stop.LaidErr
import Derived.Deep.RegionLaw
import Derived.Deep.AppendLies
import Derived.WalkKit
import Derived.Laws.EntriesVeiled
/- What every law's proof ends with: the law has answered true, and old memory is as it was: so each argument reads as it did. -/
namespace Go.Proofs.YtglhnmbfkbjemaaGreatDoor
open Go Go.ChangeShapes Go.WideShapes Go.ChangeAt Go.RowKit Go.WideElems
theorem laidOut : laidOutB Tryz.prog = true := by kernel_rfl
theorem own : ownKnob Tryz.prog.godebug = none := by kernel_rfl
theorem trodAll_below {H : Type} {enc : TypeId × Value → H} {P : Program} (hl : laidOutB P = true) {W W' : World} (hb : Below W.heap.size W W') :
    ∀ (ts : List TypeId) (vs : List Value) (ds : List (DataW H)) (ps : List MemPlace), (∀ t ∈ ts, P.readableRec t = true ∧ t < P.types.size) →
      DataW.TrodAll enc P W 0 (fun _ => true) true ts vs ds ps → (∀ x ∈ ps, x.block < W.heap.size) → DataW.TrodAll enc P W' 0 (fun b => decide (b < W.heap.size)) true ts vs ds ps
  | [], [], [], _, _, h, _ => h
  | t :: ts, v :: vs, d :: ds, ps, hr, h, hlt => by
    obtain ⟨p, q, h1, h2, rfl⟩ := h
    have ht := hr t (by simp)
    exact ⟨p, q, Below.trod hl ht.1 ht.2 h1 hb (fun x hx => hlt x (by simp [hx])), trodAll_below hl hb ts vs ds q (fun t ht => hr t (by simp [ht])) h2 (fun x hx => hlt x (by simp [hx])), rfl⟩
  | [], _ :: _, _, _, _, h, _ => by cases h
  | [], [], _ :: _, _, _, h, _ => by cases h
  | _ :: _, [], _, _, _, h, _ => by cases h
  | _ :: _, _ :: _, [], _, _, h, _ => by cases h
theorem law_end {H : Type} {enc : TypeId × Value → H} {P : Program} (hl : laidOutB P = true) {f : Func} {s : ChangeSpec} {W W' : World} {args : Array Value} {ds gs : List (DataW H)} {before : List MemPlace}
    (hread : ∀ t ∈ f.params.toList, P.readableRec t = true ∧ t < P.types.size) (hvars : s.vars = []) {tb : TypeId} (hres : f.resultTypes = #[tb]) (htb : P.underlying tb = some .bool)
    (hW : DataW.Whole enc P f.params.toList s.vars false W args.toList ds gs before)
    (hr : (s.fn H (ds ++ gs)).results = [.lit (.bool true)]) (ha : (s.fn H (ds ++ gs)).args = ds) (hv : (s.fn H (ds ++ gs)).vars = [])
    (hb : Below W.heap.size W W') : s.post enc P f false true false false W args (.bool true) W' := by
  have hW' := hW
  obtain ⟨p, q, hA, hV, rfl, _, _⟩ := hW
  have hV' := hV
  rw [hvars] at hV'
  obtain ⟨rfl, rfl⟩ := trodVars_none hV'
  refine ⟨_, _, _, [], p, [], hW', ?_, ?_, ?_, hb.frame _, fun h => by cases h⟩
  · rw [hr, hres]
    exact trodAll_cons_mk (shut_bool htb true) trodAll_mk0
  · rw [ha]
    exact trodAll_below hl hb _ _ _ _ hread hA (fun x hx => by have := hW'.lt x (by simp [hx]); simpa using this)
  · rw [hv, hvars]; rfl
end Go.Proofs.YtglhnmbfkbjemaaGreatDoor
/- A row of the call's own, every cell of which, the spare ones too, is of one kind ('Row'); what append does to it. -/
namespace Go.Proofs.YtglhnmbfkbjemaaGreatDoor
open Go Go.RowKit
def Row (ok : Value → Prop) (w : World) (base : Nat) (e : TypeId) (v : Value) (n : Nat) (xs : List Value) : Prop :=
  xs.length = n ∧ ((v = .slice none 0 0 ∧ n = 0) ∨
    ∃ g cap cur, v = .slice (some ⟨g, 0, none⟩) n cap ∧ base ≤ g ∧ w.heap[g]? = some (.cells cur e (0, 0)) ∧ n ≤ cap ∧ cap ≤ maxLen ∧ cur.size = cap ∧ cur.toList.take n = xs ∧ ∀ u ∈ cur.toList, ok u)
section
variable {ok : Value → Prop} {w w' : World} {base : Nat} {e : TypeId} {v : Value} {n : Nat} {xs : List Value}
theorem Row.nil (ok : Value → Prop) (w : World) (base : Nat) (e : TypeId) : Row ok w base e (.slice none 0 0) 0 [] := ⟨rfl, .inl ⟨rfl, rfl⟩⟩
theorem Row.own (h : Row ok w base e v n xs) : w.ownsRow base e 1 v n xs := by
  obtain ⟨h1, h2⟩ := h
  refine ⟨by omega, ?_⟩
  rcases h2 with h2 | ⟨g, cap, cur, hv, hg, hh, hn, hc, hs, ht, _⟩
  · exact .inl h2
  · exact .inr ⟨g, cap, cur, hv, hg, hh, hn, hc, by omega, by rw [Nat.mul_one]; exact ht⟩
theorem Row.base_le {base' : Nat} (h : Row ok w base e v n xs) (hb : base' ≤ base) : Row ok w base' e v n xs := by
  obtain ⟨h1, h2⟩ := h
  refine ⟨h1, ?_⟩
  rcases h2 with h2 | ⟨g, cap, cur, hv, hg, r⟩
  · exact .inl h2
  · exact .inr ⟨g, cap, cur, hv, Nat.le_trans hb hg, r⟩
theorem Row.below (h : Row ok w base e v n xs) (hb : Below w.heap.size w w') : Row ok w' base e v n xs := by
  obtain ⟨h1, h2⟩ := h
  refine ⟨h1, ?_⟩
  rcases h2 with h2 | ⟨g, cap, cur, hv, hg, hh, r⟩
  · exact .inl h2
  · exact .inr ⟨g, cap, cur, hv, hg, by rw [hb.block g (Array.getElem?_eq_some_iff.1 hh).1]; exact hh, r⟩
theorem Row.sees (h : Row ok w base e v n xs) : ∃ a c, v = .slice a n c ∧ c ≤ maxLen ∧ Sees w a n c xs := Sees.owned h.own
theorem Row.form (h : Row ok w base e v n xs) : ∃ a c, v = .slice a n c := by
  obtain ⟨a, c, h, _⟩ := h.sees
  exact ⟨a, c, h⟩
theorem Row.made (cur : Array Value) (m : Nat) (hb : base ≤ w.heap.size) (hm : cur.size ≤ maxLen) (hn : m ≤ cur.size) (ho : ∀ u ∈ cur.toList, ok u) :
    Row ok (w.alloc (.cells cur e)) base e (.slice (some ⟨w.heap.size, 0, none⟩) m cur.size) m (cur.toList.take m) :=
  ⟨by simp; omega, .inr ⟨w.heap.size, cur.size, cur, rfl, hb, heap_alloc_new w _, hn, hm, rfl, rfl, ho⟩⟩
end
theorem mem_zeroCells {z u : Value} {k : Nat} (hz : z.cells = #[z]) (h : u ∈ (Builtin.zeroCells z.cells k).toList) : u = z := by
  rw [hz] at h
  simp only [Builtin.zeroCells, Array.toList_map, List.mem_map] at h
  obtain ⟨q, _, rfl⟩ := h
  have : q % (#[z] : Array Value).size = 0 := by simp [Nat.mod_one]
  rw [this]
  rfl
section
variable {P : Program} (ok : Value → Prop) (w : World)
theorem run_append_row (base : Nat) (t ty e : TypeId) (i : TypeInfo) (z : Value) (bytes : Nat) (ht : P.underlying t = some (.slice e)) (hi : P.info? e = some i) (hz : i.zero = some z)
    (hsize : i.size = 1) (hby : i.bytes = bytes) (hzs : z.cells = #[z]) (hok : ok z)
    (v : Value) (n : Nat) (xs : List Value) (hown : Row ok w base e v n xs)
    (a : Option Addr) (m c : Nat) (news : List Value) (hsee : Sees w a m c news) (h1 : ∀ u ∈ news, u.oneCell' = true) (hoks : ∀ u ∈ news, ok u)
    (h63 : n + m ≤ maxLen) (hbytes : (n + m) * bytes ≤ 140737488355328) (hbase : base ≤ w.heap.size) :
    ∃ v' w', (Builtin.append_ #[t, t] ty #[v, .slice a m c]).run P w = .ok v' w' ∧ Row ok w' base e v' (n + m) (xs ++ news) ∧ w.grownBy w' v.ownBlock ∧ (v' = .slice none 0 0 ↔ v = .slice none 0 0 ∧ m = 0) := by
  subst hby
  have hl := hsee.len
  have hsmall : n + m ≤ 9223372036854775807 := by simp only [maxLen] at h63; omega
  have hlen : (xs ++ news).length = n + m := by rw [List.length_append, hown.1, hl]
  by_cases hm : m = 0
  · -- nothing is appended
    subst hm
    have hn : news = [] := List.eq_nil_of_length_eq_zero hl
    subst hn
    refine ⟨v, w, ?_, by simpa using hown, ⟨rfl, rfl, rfl, Nat.le_refl _, fun _ _ _ => rfl⟩, by simp⟩
    rcases hown.2 with ⟨rfl, rfl⟩ | ⟨g, cap, cur, rfl, hbg, hg, hnc, hcm, hcs, htake, hall⟩
    · cases a <;> simp [Builtin.append_, run_underlying ht, sizeOf, typeInfo, hi, Builtin.lenOf, Builtin.firstCells, loadCells, loadCellsFrom]
    · cases a <;> simp [Builtin.append_, run_underlying ht, sizeOf, typeInfo, hi, Builtin.lenOf, Builtin.firstCells, loadCells, loadCellsFrom, hnc, storeCells]
  · obtain ⟨b, off, rfl, hlt, hc⟩ := hsee.real (by omega)
    have hnews : ∀ j u, news[j]? = some u → w.cell? ((⟨b, off, none⟩ : Addr).add j) = some u := by
      intro j u hj
      have hjn : j < m := by rw [← hl]; exact (List.getElem?_eq_some_iff.1 hj).1
      have hadd : (⟨b, off, none⟩ : Addr).add j = ⟨b, off + j, none⟩ := by unfold Addr.add; split <;> simp_all
      rw [hadd, hc j hjn, hj]
    have grown : ∀ (old : Nat), old < n + m → ∀ (row : Option Nat),
        Row ok (w.drew.alloc (.cells (xs.toArray ++ news.toArray ++ Builtin.zeroCells z.cells (grownCap w (n + m) old e - (n + m))) e)) base e
          (.slice (some ⟨w.heap.size, 0, none⟩) (n + m) (grownCap w (n + m) old e)) (n + m) (xs ++ news) ∧
        w.grownBy (w.drew.alloc (.cells (xs.toArray ++ news.toArray ++ Builtin.zeroCells z.cells (grownCap w (n + m) old e - (n + m))) e)) row := by
      intro old ho row
      have hge := grownCap_ge w (n + m) old e
      have hcm : grownCap w (n + m) old e ≤ maxLen := grownCap_le_maxLen w (n + m) old e h63
      have hxo : ∀ u ∈ xs, ok u := by
        intro u hu
        rcases hown.2 with ⟨_, h0⟩ | ⟨g, cap, cur, _, _, _, _, _, _, htake, hall⟩
        · have : xs = [] := List.eq_nil_of_length_eq_zero (by rw [hown.1, h0])
          rw [this] at hu; cases hu
        · rw [← htake] at hu
          exact hall u (List.mem_of_mem_take hu)
      refine ⟨⟨hlen, .inr ⟨w.heap.size, _, _, rfl, hbase, heap_alloc_new w.drew _, hge, hcm, ?_, ?_, ?_⟩⟩, ⟨rfl, rfl, rfl, by simp, fun k hk _ => heap_alloc_old w.drew _ hk⟩⟩
      · simp only [Array.size_append, List.size_toArray, size_zeroCells, hzs, hown.1, hl, List.size_toArray]
        simp
        omega
      · simp only [Array.toList_append, List.append_assoc]
        rw [← List.append_assoc, ← hlen]
        exact List.take_left
      · intro u hu
        simp only [Array.toList_append, List.mem_append] at hu
        rcases hu with (hu | hu) | hu
        · exact hxo u hu
        · exact hoks u hu
        · rw [mem_zeroCells hzs hu]; exact hok
    rcases hown.2 with ⟨rfl, rfl⟩ | ⟨g, cap, cur, rfl, hbg, hg, hnc, hcm, hcs, htake, hall⟩
    · have hx : xs = [] := List.eq_nil_of_length_eq_zero hown.1
      subst hx
      have hr := run_append_nil (P := P) w t ty e i z ht hi hz ⟨b, off, none⟩ m c news (by rw [hsize]; omega) hnews (by omega) (by omega) (by have hb := hbytes; simp only [Nat.zero_add] at hb; omega)
      have hgr := grown 0 (by omega) (Value.ownBlock (.slice none 0 0))
      simp only [Nat.zero_add, List.nil_append, Array.empty_append] at hgr ⊢
      exact ⟨_, _, hr, hgr.1, hgr.2, by simp [hm]⟩
    · by_cases hroom : n + m ≤ cap
      · have hr := run_append_room (P := P) w t ty e i ht hi g n cap cur hg ⟨b, off, none⟩ m c news (by rw [hsize]; omega) hnews h1 hroom (by rw [hsize]; omega)
        rw [hsize] at hr
        refine ⟨_, _, hr, ⟨hlen, .inr ⟨g, cap, _, rfl, hbg, setRow_heap w g cur _ e _ hg, hroom, hcm, ?_, ?_, ?_⟩⟩, ⟨rfl, rfl, rfl, by simp, fun k _ hk => setRow_other w g k _ (fun e => hk (by simp [Value.ownBlock, e]))⟩, by simp⟩
        · simp only [List.size_toArray, List.length_append, List.length_take, List.length_drop, Array.length_toList]
          omega
        · simp only [Nat.mul_one]
          rw [htake, ← hlen]
          exact List.take_left
        · intro u hu
          simp only [List.mem_append] at hu
          rcases hu with (hu | hu) | hu
          · exact hall u (List.mem_of_mem_take hu)
          · exact hoks u hu
          · exact hall u (List.mem_of_mem_drop hu)
      · have holds : ∀ j u, xs[j]? = some u → w.cell? ((⟨g, 0, none⟩ : Addr).add j) = some u := hown.own.cells (g := g) rfl
        have hr := run_append_grow (P := P) w t ty e i z ht hi hz ⟨g, 0, none⟩ n cap xs (by rw [hown.1, hsize]; omega) holds ⟨b, off, none⟩ m c news (by rw [hl, hsize]; omega) hnews (by omega) (by omega) (growslice_fits (by omega) hbytes)
        have hgr := grown cap (by omega) (Value.ownBlock (.slice (some ⟨g, 0, none⟩) n cap))
        exact ⟨_, _, hr, hgr.1, hgr.2, by simp⟩
theorem wpList_append_row {ops : Array Oper} {rest : List Oper} {o : Oper} {a : Act} {Q : Exit → Act → World → Prop} (hgd : o.guard = none) (s x : Operand) (t : TypeId)
    (ho : o.op = .call { callee := .builtin .append, args := #[s, x], argTypes := #[t, t] })
    (base : Nat) (e : TypeId) (i : TypeInfo) (z : Value) (bytes : Nat) (ht : P.underlying t = some (.slice e)) (hi : P.info? e = some i) (hz : i.zero = some z)
    (hsize : i.size = 1) (hby : i.bytes = bytes) (hzs : z.cells = #[z]) (hok : ok z)
    (v : Value) (n : Nat) (xs : List Value) (hs : a.eval s = v) (hown : Row ok w base e v n xs)
    (ad : Option Addr) (m c : Nat) (news : List Value) (hx : a.eval x = .slice ad m c) (hsee : Sees w ad m c news) (h1 : ∀ u ∈ news, u.oneCell' = true) (hoks : ∀ u ∈ news, ok u)
    (h63 : n + m ≤ maxLen) (hbytes : (n + m) * bytes ≤ 140737488355328) (hbase : base ≤ w.heap.size)
    (h : ∀ v' w', Row ok w' base e v' (n + m) (xs ++ news) → w.grownBy w' v.ownBlock → (v' = .slice none 0 0 ↔ v = .slice none 0 0 ∧ m = 0) → wpList P ops Q rest (a.put o.dst v') w') : wpList P ops Q (o :: rest) a w := by
  refine wpList_plain hgd fun K hK => ?_
  obtain ⟨v', w', hr, h2, h3, h4⟩ := run_append_row (P := P) ok w base t o.type e i z bytes ht hi hz hsize hby hzs hok v n xs hown ad m c news hsee h1 hoks h63 hbytes hbase
  unfold Oper.wp execOp
  simp only [ho, resolve, invoke, builtin, Sem.run_bind, Sem.run_pure, Result.andThen_ok, List.map_toArray, List.map_cons, List.map_nil, hs, hx, hr]
  exact hK _ _ (h v' w' h2 h3 h4)
end
def zeros (z : Value) (m : Nat) : Array Value := (List.replicate m z).toArray
theorem size_zeros (z : Value) (m : Nat) : (zeros z m).size = m := by simp [zeros]
section
variable {P : Program} {t e : TypeId} {i : TypeInfo} {z : Value} {bytes : Nat} (ht : P.underlying t = some (.slice e)) (hi : P.info? e = some i) (hz : i.zero = some z)
  (hsize : i.size = 1) (hby : i.bytes = bytes) (hzs : z.cells = #[z])
include ht hi hz hsize hby hzs
theorem run_make_n (m : Nat) (hb : (bytes : Int) * (m : Int) ≤ 281474976710656) (hm : m ≤ 1000000000000) (W : World) :
    (Instr.makeSlice t (.int .i64 (m : Int)) (.int .i64 (m : Int))).run P W = .ok (.slice (some ⟨W.heap.size, 0, none⟩) m m) (W.alloc (.cells (zeros z m) e)) := by
  have h := run_make (P := P) W t e i z ht hi hz .i64 .i64 (m : Int) (m : Int) (by omega) (Int.le_refl _) (by rw [hby]; exact hb) (by omega)
  rw [h, hzs, hsize, Int.toNat_natCast, Nat.mul_one]
  have e : madeCells #[z] m = zeros z m := by
    apply Array.ext'
    rw [toList_madeCells_one]; simp [zeros]
  rw [e]
theorem run_make_cap (m : Nat) (y : Int) (hy : y = (m : Int)) (hb : (bytes : Int) * (m : Int) ≤ 281474976710656) (hm : m ≤ 1000000000000) (W : World) :
    (Instr.makeSlice t (.int .i64 0) (.int .i64 y)).run P W = .ok (.slice (some ⟨W.heap.size, 0, none⟩) 0 m) (W.alloc (.cells (zeros z m) e)) := by
  subst hy
  have h := run_make (P := P) W t e i z ht hi hz .i64 .i64 0 (m : Int) (by omega) (by omega) (by rw [hby]; exact hb) (by omega)
  rw [h, hzs, hsize, Int.toNat_natCast, Nat.mul_one]
  have e : madeCells #[z] m = zeros z m := by
    apply Array.ext'
    rw [toList_madeCells_one]; simp [zeros]
  rw [e]
  rfl
end
end Go.Proofs.YtglhnmbfkbjemaaGreatDoor
/- append to a row of the call's own at a step of a region that draws its order. -/
namespace Go.Proofs.YtglhnmbfkbjemaaGreatDoor
open Go Go.RowKit
section
variable {P : Program} (ok : Value → Prop) (w : World)
theorem step_append_row {ops : Array Oper} {o : Oper} {a : Act} {K : Act → World → Prop} {Q : Exit → Act → World → Prop} {E : Prop} (hgd : o.guard = none) (s x : Operand) (t : TypeId)
    (ho : o.op = .call { callee := .builtin .append, args := #[s, x], argTypes := #[t, t] })
    (base : Nat) (e : TypeId) (i : TypeInfo) (z : Value) (bytes : Nat) (ht : P.underlying t = some (.slice e)) (hi : P.info? e = some i) (hz : i.zero = some z)
    (hsize : i.size = 1) (hby : i.bytes = bytes) (hzs : z.cells = #[z]) (hok : ok z)
    (v : Value) (n : Nat) (xs : List Value) (hs : a.eval s = v) (hown : Row ok w base e v n xs)
    (ad : Option Addr) (m c : Nat) (news : List Value) (hx : a.eval x = .slice ad m c) (hsee : Sees w ad m c news) (h1 : ∀ u ∈ news, u.oneCell' = true) (hoks : ∀ u ∈ news, ok u)
    (h63 : n + m ≤ maxLen) (hbytes : (n + m) * bytes ≤ 140737488355328) (hbase : base ≤ w.heap.size)
    (h : ∀ v' w', Row ok w' base e v' (n + m) (xs ++ news) → w.grownBy w' v.ownBlock → K (a.put o.dst v') w') :
    if Region.wanted o (yielded ops a.tmps) = true then Oper.wp P o a w K Q else E := by
  have hw : Region.wanted o (yielded ops a.tmps) = true := by simp [Region.wanted, hgd]
  rw [if_pos hw]
  obtain ⟨v', w', hr, h2, h3, _⟩ := run_append_row (P := P) ok w base t o.type e i z bytes ht hi hz hsize hby hzs hok v n xs hown ad m c news hsee h1 hoks h63 hbytes hbase
  unfold Oper.wp execOp
  simp only [ho, resolve, invoke, builtin, Sem.run_bind, Sem.run_pure, Result.andThen_ok, List.map_toArray, List.map_cons, List.map_nil, hs, hx, hr]
  exact h v' w' h2 h3
theorem run_append_full (base : Nat) (t ty e : TypeId) (i : TypeInfo) (z : Value) (bytes : Nat) (ht : P.underlying t = some (.slice e)) (hi : P.info? e = some i) (hz : i.zero = some z)
    (hsize : i.size = 1) (hby : i.bytes = bytes) (hzs : z.cells = #[z]) (hok : ok z)
    (a0 : Option Addr) (n : Nat) (xs : List Value) (hold : Sees w a0 n n xs) (h0 : 0 < n) (hxo : ∀ u ∈ xs, ok u)
    (a : Option Addr) (m c : Nat) (news : List Value) (hsee : Sees w a m c news) (hm : 0 < m) (hoks : ∀ u ∈ news, ok u)
    (h63 : n + m ≤ maxLen) (hbytes : (n + m) * bytes ≤ 140737488355328) (hbase : base ≤ w.heap.size) :
    ∃ v' w', (Builtin.append_ #[t, t] ty #[.slice a0 n n, .slice a m c]).run P w = .ok v' w' ∧ Row ok w' base e v' (n + m) (xs ++ news) ∧ Below w.heap.size w w' := by
  subst hby
  have hl := hsee.len
  have hxl := hold.len
  have hsmall : n + m ≤ 9223372036854775807 := by simp only [maxLen] at h63; omega
  have hlen : (xs ++ news).length = n + m := by rw [List.length_append, hxl, hl]
  obtain ⟨b, off, rfl, hlt, hc⟩ := hsee.real (by omega)
  obtain ⟨b0, off0, rfl, hlt0, hc0⟩ := hold.real h0
  have hadd : ∀ (b off j : Nat), (⟨b, off, none⟩ : Addr).add j = ⟨b, off + j, none⟩ := by intro b off j; unfold Addr.add; split <;> simp_all
  have hnews : ∀ j u, news[j]? = some u → w.cell? ((⟨b, off, none⟩ : Addr).add j) = some u := by
    intro j u hj
    have hjn : j < m := by rw [← hl]; exact (List.getElem?_eq_some_iff.1 hj).1
    rw [hadd, hc j hjn, hj]
  have holds : ∀ j u, xs[j]? = some u → w.cell? ((⟨b0, off0, none⟩ : Addr).add j) = some u := by
    intro j u hj
    have hjn : j < n := by rw [← hxl]; exact (List.getElem?_eq_some_iff.1 hj).1
    rw [hadd, hc0 j hjn, hj]
  have hr := run_append_grow (P := P) w t ty e i z ht hi hz ⟨b0, off0, none⟩ n n xs (by rw [hxl, hsize]; omega) holds ⟨b, off, none⟩ m c news (by rw [hl, hsize]; omega) hnews (by omega) (by omega) (growslice_fits (by omega) hbytes)
  have hge := grownCap_ge w (n + m) n e
  have hcm : grownCap w (n + m) n e ≤ maxLen := grownCap_le_maxLen w (n + m) n e h63
  refine ⟨_, _, hr, ⟨hlen, .inr ⟨w.heap.size, _, _, rfl, hbase, heap_alloc_new w.drew _, hge, hcm, ?_, ?_, ?_⟩⟩, ((Below.refl _ w).drew).alloc (Nat.le_refl _) _⟩
  · simp only [Array.size_append, List.size_toArray, size_zeroCells, hzs, hxl, hl]
    simp
    omega
  · simp only [Array.toList_append, List.append_assoc]
    rw [← List.append_assoc, ← hlen]
    exact List.take_left
  · intro u hu
    simp only [Array.toList_append, List.mem_append] at hu
    rcases hu with (hu | hu) | hu
    · exact hxo u hu
    · exact hoks u hu
    · rw [mem_zeroCells hzs hu]; exact hok
theorem step_append_full {ops : Array Oper} {o : Oper} {a : Act} {K : Act → World → Prop} {Q : Exit → Act → World → Prop} {E : Prop} (hgd : o.guard = none) (s x : Operand) (t : TypeId)
    (ho : o.op = .call { callee := .builtin .append, args := #[s, x], argTypes := #[t, t] })
    (base : Nat) (e : TypeId) (i : TypeInfo) (z : Value) (bytes : Nat) (ht : P.underlying t = some (.slice e)) (hi : P.info? e = some i) (hz : i.zero = some z)
    (hsize : i.size = 1) (hby : i.bytes = bytes) (hzs : z.cells = #[z]) (hok : ok z)
    (a0 : Option Addr) (n : Nat) (xs : List Value) (hs : a.eval s = .slice a0 n n) (hold : Sees w a0 n n xs) (h0 : 0 < n) (hxo : ∀ u ∈ xs, ok u)
    (ad : Option Addr) (m c : Nat) (news : List Value) (hx : a.eval x = .slice ad m c) (hsee : Sees w ad m c news) (hm : 0 < m) (hoks : ∀ u ∈ news, ok u)
    (h63 : n + m ≤ maxLen) (hbytes : (n + m) * bytes ≤ 140737488355328) (hbase : base ≤ w.heap.size)
    (h : ∀ v' w', Row ok w' base e v' (n + m) (xs ++ news) → Below w.heap.size w w' → K (a.put o.dst v') w') :
    if Region.wanted o (yielded ops a.tmps) = true then Oper.wp P o a w K Q else E := by
  have hw : Region.wanted o (yielded ops a.tmps) = true := by simp [Region.wanted, hgd]
  rw [if_pos hw]
  obtain ⟨v', w', hr, h2, h3⟩ := run_append_full (P := P) ok w base t o.type e i z bytes ht hi hz hsize hby hzs hok a0 n xs hold h0 hxo ad m c news hsee hm hoks h63 hbytes hbase
  unfold Oper.wp execOp
  simp only [ho, resolve, invoke, builtin, Sem.run_bind, Sem.run_pure, Result.andThen_ok, List.map_toArray, List.map_cons, List.map_nil, hs, hx, hr]
  exact h v' w' h2 h3
end
end Go.Proofs.YtglhnmbfkbjemaaGreatDoor
/- Binary heaps on plain lists of numbers: what the library's up and down keep. -/
namespace Go.Proofs.YtglhnmbfkbjemaaGreatDoor
def swapL (l : List Nat) (i j : Nat) : List Nat := (l.set i (l.getD j 0)).set j (l.getD i 0)
theorem swapL_len (l : List Nat) (i j : Nat) : (swapL l i j).length = l.length := by simp [swapL]
theorem swapL_get (l : List Nat) (i j k : Nat) (hi : i < l.length) (hj : j < l.length) : (swapL l i j).getD k 0 = if k = j then l.getD i 0 else if k = i then l.getD j 0 else l.getD k 0 := by
  unfold swapL
  simp only [List.getD, List.getElem?_set]
  by_cases h1 : k = j
  · subst h1; simp [hj]
  · by_cases h2 : k = i
    · subst h2; simp [Ne.symm h1, hi, h1]
    · simp [Ne.symm h1, Ne.symm h2, h1, h2]
theorem swapL_perm (l : List Nat) (i j : Nat) (hi : i < l.length) (hj : j < l.length) : (swapL l i j).Perm l := by
  have h : swapL l i j = (l.set i l[j]).set j l[i] := by
    unfold swapL
    simp [List.getD, List.getElem?_eq_getElem hi, List.getElem?_eq_getElem hj]
  rw [h]
  exact List.set_set_perm hi hj
def HeapN (l : List Nat) (n : Nat) : Prop := ∀ k, 0 < k → k < n → l.getD ((k - 1) / 2) 0 ≤ l.getD k 0
def UpInv (l : List Nat) (n j : Nat) : Prop :=
  (∀ k, 0 < k → k < n → k ≠ j → l.getD ((k - 1) / 2) 0 ≤ l.getD k 0) ∧ (∀ k, 0 < k → k < n → (k - 1) / 2 = j → 0 < j → l.getD ((j - 1) / 2) 0 ≤ l.getD k 0)
def DownInv (l : List Nat) (n i : Nat) : Prop :=
  (∀ k, 0 < k → k < n → (k - 1) / 2 ≠ i → l.getD ((k - 1) / 2) 0 ≤ l.getD k 0) ∧ (∀ k, 0 < k → k < n → (k - 1) / 2 = i → 0 < i → l.getD ((i - 1) / 2) 0 ≤ l.getD k 0)
theorem up_done0 {l : List Nat} {n : Nat} (h : UpInv l n 0) : HeapN l n := fun k h0 hk => h.1 k h0 hk (by omega)
theorem up_done {l : List Nat} {n j : Nat} (h : UpInv l n j) (hle : l.getD ((j - 1) / 2) 0 ≤ l.getD j 0) : HeapN l n := fun k h0 hk => by
  by_cases e : k = j
  · subst e; exact hle
  · exact h.1 k h0 hk e
theorem up_step {l : List Nat} {n j : Nat} (h : UpInv l n j) (hn : n = l.length) (h0 : 0 < j) (hj : j < n) (hlt : l.getD j 0 < l.getD ((j - 1) / 2) 0) : UpInv (swapL l ((j - 1) / 2) j) n ((j - 1) / 2) := by
  have hi : (j - 1) / 2 < l.length := by omega
  have hjl : j < l.length := by omega
  refine ⟨fun k hk0 hkn hki => ?_, fun k hk0 hkn hkp hi0 => ?_⟩
  · rw [swapL_get _ _ _ _ hi hjl, swapL_get _ _ _ _ hi hjl]
    by_cases hkj : k = j
    · subst hkj
      rw [if_neg (by omega), if_pos rfl, if_pos rfl]; omega
    · have h1 := h.1 k hk0 hkn hkj
      rw [if_neg hkj, if_neg hki]
      by_cases hp : (k - 1) / 2 = j
      · rw [if_pos hp]
        exact h.2 k hk0 hkn hp h0
      · rw [if_neg hp]
        by_cases hp2 : (k - 1) / 2 = (j - 1) / 2
        · rw [if_pos hp2]; rw [hp2] at h1; omega
        · rw [if_neg hp2]; exact h1
  · rw [swapL_get _ _ _ _ hi hjl, swapL_get _ _ _ _ hi hjl]
    have h1 := h.1 ((j - 1) / 2) hi0 (by omega) (by omega)
    rw [if_neg (show ¬ ((j - 1) / 2 - 1) / 2 = j by omega), if_neg (show ¬ ((j - 1) / 2 - 1) / 2 = (j - 1) / 2 by omega)]
    by_cases hkj : k = j
    · rw [if_pos hkj]; exact h1
    · rw [if_neg hkj, if_neg (by omega)]
      have h2 := h.1 k hk0 hkn hkj
      rw [hkp] at h2
      omega
theorem down_leaf {l : List Nat} {n i : Nat} (h : DownInv l n i) (hn : n ≤ 2 * i + 1) : HeapN l n := fun k h0 hk => h.1 k h0 hk (by omega)
theorem down_done {l : List Nat} {n i j : Nat} (h : DownInv l n i) (hm : ∀ k, 0 < k → k < n → (k - 1) / 2 = i → l.getD j 0 ≤ l.getD k 0) (hle : l.getD i 0 ≤ l.getD j 0) : HeapN l n := fun k h0 hk => by
  by_cases e : (k - 1) / 2 = i
  · have := hm k h0 hk e
    rw [e]; omega
  · exact h.1 k h0 hk e
theorem down_step {l : List Nat} {n i j : Nat} (h : DownInv l n i) (hn : n ≤ l.length) (h0 : 0 < j) (hj : j < n) (hp : (j - 1) / 2 = i) (hm : ∀ k, 0 < k → k < n → (k - 1) / 2 = i → l.getD j 0 ≤ l.getD k 0) (hlt : l.getD j 0 < l.getD i 0) : DownInv (swapL l i j) n j := by
  have hi : i < l.length := by omega
  have hjl : j < l.length := by omega
  refine ⟨fun k hk0 hkn hkp => ?_, fun k hk0 hkn hkp hj0 => ?_⟩
  · rw [swapL_get _ _ _ _ hi hjl, swapL_get _ _ _ _ hi hjl]
    rw [if_neg hkp]
    by_cases hpi : (k - 1) / 2 = i
    · rw [if_pos hpi]
      by_cases hkj : k = j
      · rw [if_pos hkj]; omega
      · rw [if_neg hkj, if_neg (by omega)]
        exact hm k hk0 hkn hpi
    · rw [if_neg hpi]
      have h1 := h.1 k hk0 hkn hpi
      have hkj : k ≠ j := by intro e; subst e; exact hpi hp
      rw [if_neg hkj]
      by_cases hki : k = i
      · rw [if_pos hki]
        have := h.2 j h0 hj hp (by omega)
        rw [hki]; exact this
      · rw [if_neg hki]; exact h1
  · rw [swapL_get _ _ _ _ hi hjl, swapL_get _ _ _ _ hi hjl]
    rw [hp, if_neg (by omega), if_pos rfl, if_neg (by omega), if_neg (by omega)]
    have h1 := h.1 k hk0 hkn (by omega)
    rw [hkp] at h1
    exact h1
theorem heap_min {l : List Nat} {n : Nat} (h : HeapN l n) : ∀ k, k < n → l.getD 0 0 ≤ l.getD k 0 := by
  intro k
  induction k using Nat.strongRecOn with
  | ind k ih =>
    intro hk
    by_cases h0 : k = 0
    · subst h0; exact Nat.le_refl _
    · have h1 := ih ((k - 1) / 2) (by omega) (by omega)
      have h2 := h k (by omega) hk
      omega
theorem heap_nil : HeapN [] 0 := fun k _ h => absurd h (by omega)
theorem up_begin {l : List Nat} {x n : Nat} (h : HeapN l l.length) (hn : n = l.length + 1) : UpInv (l ++ [x]) n l.length := by
  subst hn
  have e : ∀ k, k < l.length → (l ++ [x]).getD k 0 = l.getD k 0 := fun k hk => by
    simp [List.getD, List.getElem?_append_left hk]
  refine ⟨fun k h0 hk hne => ?_, fun k h0 hk hp _ => absurd hk (by omega)⟩
  rw [e k (by omega), e ((k - 1) / 2) (by omega)]
  exact h k h0 (by omega)
theorem down_begin {l : List Nat} {m : Nat} (h : HeapN l (m + 1)) (hl : l.length = m + 1) : DownInv (swapL l 0 m) m 0 := by
  refine ⟨fun k h0 hk hp => ?_, fun k _ _ _ h => absurd h (by omega)⟩
  rw [swapL_get _ _ _ _ (by omega) (by omega), swapL_get _ _ _ _ (by omega) (by omega), if_neg (by omega), if_neg hp, if_neg (by omega), if_neg (by omega)]
  exact h k h0 (by omega)
theorem heap_take {l : List Nat} {m : Nat} (h : HeapN l m) : HeapN (l.take m) m := fun k h0 hk => by
  have e : ∀ j, j < m → (l.take m).getD j 0 = l.getD j 0 := fun j hj => by simp [List.getD, List.getElem?_take_of_lt hj]
  rw [e k hk, e _ (by omega)]; exact h k h0 hk
theorem heap_last {l l0 : List Nat} {m : Nat} (hl : l.length = m + 1) (hp : l.Perm l0) : l0.Perm (l.getD m 0 :: l.take m) := by
  refine hp.symm.trans ?_
  have e : l = l.take m ++ [l.getD m 0] := by
    conv => lhs; rw [← List.take_append_drop m l]
    congr 1
    rw [List.drop_eq_getElem_cons (by omega), List.drop_eq_nil_of_le (by omega)]
    simp [List.getD, List.getElem?_eq_getElem (show m < l.length by omega)]
  conv => lhs; rw [e]
  exact (List.perm_append_comm (l₁ := l.take m) (l₂ := [l.getD m 0]))
end Go.Proofs.YtglhnmbfkbjemaaGreatDoor
/- The base for package norm: numbers, three-cell elements, raw circuits as values, blocks by their whole content. -/
namespace Go.Proofs.YtglhnmbfkbjemaaGreatDoor
open Go Go.RowKit Go.Joins
theorem info_u32 : (Tryz.prog.info? 35).map (fun i => (i.zero, i.size, i.bytes)) = some (some (.int .u32 0), 1, 4) := by kernel_rfl
def nv32 (n : Nat) : Value := .int .u32 (n : Int)
def isU32 (u : Value) : Prop := ∃ n : Nat, n < 4294967296 ∧ u = nv32 n
theorem size_u32 : ∀ w, (sizeOf 35).run Tryz.prog w = .ok 1 w := fun w => by
  obtain ⟨i0, hi, hz0, hz1, hz2⟩ := info_parts info_u32
  simp [sizeOf, typeInfo, hi, hz1]
theorem Sees.num {w : World} {b off n c : Nat} {xs : List Nat} (h : Sees w (some ⟨b, off, .none⟩) n c (xs.map nv32)) (j : Nat) (hj : j < n) : w.cell? ⟨b, off + j, .none⟩ = some (.int .u32 (xs.getD j 0 : Nat)) := by
  have hl : xs.length = n := by have := h.len; simpa using this
  rw [(h.cell j hj).2]
  simp [nv32, List.getD, List.getElem?_eq_getElem (show j < xs.length by omega)]
abbrev Tri := Nat × Nat × Nat
structure RawC where
  max : Nat
  ins : List Nat
  lats : List Tri
  outs : List Nat
  bads : List Nat
  cons : List Nat
  gates : List Tri
deriving DecidableEq
def above (m x : Nat) : Bool := decide (2 * m + 1 < x)
def mayReset (t : Tri) : Bool := decide (t.2.2 ≤ 1) || decide (t.2.2 = t.1)
def badLatch (m : Nat) (t : Tri) : Bool := above m t.1 || above m t.2.1 || !mayReset t
def badGate (m : Nat) (t : Tri) : Bool := above m t.1 || above m t.2.1 || above m t.2.2
def badList (m : Nat) (l : List Nat) : Bool := decide (1024 < l.length) || l.any (above m)
def mayRaw (r : RawC) : Bool :=
  !(decide (16384 < r.max) || decide (r.max < r.ins.length + r.lats.length + r.gates.length)) &&
  (!badList r.max r.outs && (!badList r.max r.bads && (!badList r.max r.cons &&
  ((!r.ins.any (above r.max)) && ((!r.lats.any (badLatch r.max)) && (!r.gates.any (badGate r.max)))))))
theorem ext_trans {a b c : World} (h : Below a.heap.size a b) (k : Below b.heap.size b c) : Below a.heap.size a c := h.trans (k.mono h.size)
theorem ext_alloc (w : World) (o : Obj) : Below w.heap.size w (w.alloc o) := (Below.refl _ _).alloc (Nat.le_refl _) _
theorem ext_drewN (w : World) (q : Nat) : Below w.heap.size w (w.drewN q) := ⟨rfl, rfl, rfl, Nat.le_refl _, fun _ _ => rfl⟩
theorem ext_behind {w w' : World} {o : Obj} (k : Below (w.alloc o).heap.size (w.alloc o) w') : Below w.heap.size w w' := ext_trans (ext_alloc w o) k
theorem sees_lit (w : World) (e : TypeId) (fr : Nat × Nat) (C : Array Value) (xs : List Value) (n : Nat) (hC : C = xs.toArray) (hn : xs.length = n) : Sees (w.alloc (.cells C e fr)) (some ⟨w.heap.size, 0, none⟩) n n xs := by
  subst hC
  refine ⟨hn, Nat.le_refl _, (fun e => by cases e), fun _ => ⟨w.heap.size, 0, rfl, by simp, fun j hj => ?_⟩⟩
  rw [World.cell?_alloc_mark]
  simp
def triC (t : Tri) : List Value := [nv32 t.1, nv32 t.2.1, nv32 t.2.2]
def triCs : List Tri → List Value
  | [] => []
  | t :: r => triC t ++ triCs r
theorem triCs_append : ∀ a b : List Tri, triCs (a ++ b) = triCs a ++ triCs b
  | [], b => rfl
  | t :: a, b => by rw [List.cons_append, triCs, triCs, triCs_append a b, List.append_assoc]
def Sees3 (w : World) (a : Option Addr) (n c : Nat) (l : List Tri) : Prop := l.length = n ∧ n ≤ c ∧ Sees w a (3 * n) (3 * c) (triCs l)
theorem Sees3.below {w w' : World} {a : Option Addr} {n c : Nat} {l : List Tri} (h : Sees3 w a n c l) (hb : Below w.heap.size w w') : Sees3 w' a n c l := ⟨h.1, h.2.1, h.2.2.below hb⟩
theorem Sees3.nil (w : World) : Sees3 w none 0 0 [] := ⟨rfl, Nat.le_refl _, Sees.nil _ _ _ (fun _ => rfl)⟩
theorem Sees3.addr {w : World} {a : Option Addr} {n c : Nat} {l : List Tri} (h : Sees3 w a n c l) (h0 : 0 < n) : ∃ b off, a = some ⟨b, off, .none⟩ ∧ b < w.heap.size := h.2.2.addr (by omega)
theorem triCs_at : ∀ (l : List Tri) (k : Nat) (d : Tri), k < l.length → (triCs l)[3 * k]? = some (nv32 (l.getD k d).1) ∧ (triCs l)[3 * k + 1]? = some (nv32 (l.getD k d).2.1) ∧ (triCs l)[3 * k + 2]? = some (nv32 (l.getD k d).2.2)
  | [], k, _, h => by simp at h
  | t :: r, 0, d, _ => by simp [triCs, triC]
  | t :: r, k + 1, d, h => by
    have ih := triCs_at r k d (by simpa using h)
    have e1 : 3 * (k + 1) = 3 * k + 3 := by omega
    have e2 : 3 * (k + 1) + 1 = 3 * k + 1 + 3 := by omega
    have e3 : 3 * (k + 1) + 2 = 3 * k + 2 + 3 := by omega
    have el : ∀ i, (triCs (t :: r))[i + 3]? = (triCs r)[i]? := fun i => by
      rw [triCs, List.getElem?_append_right (by simp [triC])]; simp [triC]
    rw [e2, e3, e1, el, el, el]
    simpa using ih
theorem Sees3.cells {w : World} {b off n c : Nat} {l : List Tri} (h : Sees3 w (some ⟨b, off, .none⟩) n c l) (k : Nat) (hk : k < n) (d : Tri) :
    w.cell? ⟨b, off + k * 3, .none⟩ = some (nv32 (l.getD k d).1) ∧ w.cell? ⟨b, off + k * 3 + 1, .none⟩ = some (nv32 (l.getD k d).2.1) ∧ w.cell? ⟨b, off + k * 3 + 2, .none⟩ = some (nv32 (l.getD k d).2.2) := by
  have ht := triCs_at l k d (by rw [h.1]; exact hk)
  have e1 : off + k * 3 = off + 3 * k := by omega
  have e2 : off + k * 3 + 1 = off + (3 * k + 1) := by omega
  have e3 : off + k * 3 + 2 = off + (3 * k + 2) := by omega
  rw [e2, e3, e1]
  exact ⟨((h.2.2.cell (3 * k) (by omega)).2).trans ht.1, ((h.2.2.cell (3 * k + 1) (by omega)).2).trans ht.2.1, ((h.2.2.cell (3 * k + 2) (by omega)).2).trans ht.2.2⟩
structure Slots where
  a1 : Option Addr
  n1 : Nat
  c1 : Nat
  a2 : Option Addr
  n2 : Nat
  c2 : Nat
  a3 : Option Addr
  n3 : Nat
  c3 : Nat
  a4 : Option Addr
  n4 : Nat
  c4 : Nat
  a5 : Option Addr
  n5 : Nat
  c5 : Nat
  a6 : Option Addr
  n6 : Nat
  c6 : Nat
structure SeesRaw (w : World) (s : Slots) (r : RawC) : Prop where
  s1 : Sees w s.a1 s.n1 s.c1 (r.ins.map nv32)
  s2 : Sees3 w s.a2 s.n2 s.c2 r.lats
  s3 : Sees w s.a3 s.n3 s.c3 (r.outs.map nv32)
  s4 : Sees w s.a4 s.n4 s.c4 (r.bads.map nv32)
  s5 : Sees w s.a5 s.n5 s.c5 (r.cons.map nv32)
  s6 : Sees3 w s.a6 s.n6 s.c6 r.gates
theorem SeesRaw.below {w w' : World} {s : Slots} {r : RawC} (h : SeesRaw w s r) (hb : Below w.heap.size w w') : SeesRaw w' s r :=
  ⟨h.s1.below hb, h.s2.below hb, h.s3.below hb, h.s4.below hb, h.s5.below hb, h.s6.below hb⟩
theorem Sees.lenMap {α : Type} {f : α → Value} {w : World} {a : Option Addr} {n c : Nat} {xs : List α} (h : Sees w a n c (xs.map f)) : xs.length = n := by have := h.len; simpa using this
theorem Row.not_own {ok : Value → Prop} {w : World} {base : Nat} {e : TypeId} {v : Value} {n : Nat} {xs : List Value} (h : Row ok w base e v n xs) {D : Nat} {C : Array Value} {t : TypeId} {fr : Nat × Nat}
    (hD : w.heap[D]? = some (.cells C t fr)) (ht : t ≠ e) : v.ownBlock ≠ some D := by
  rcases h.2 with ⟨rfl, _⟩ | ⟨g, cap, cur, rfl, _, hg, _⟩
  · intro e; cases e
  · intro he
    have : g = D := by simpa [Value.ownBlock] using he
    subst this
    rw [hg] at hD
    cases hD
    exact ht rfl
theorem Row.other {ok : Value → Prop} {w w' : World} {base : Nat} {e : TypeId} {v : Value} {n : Nat} {xs : List Value} (h : Row ok w base e v n xs) (hk : ∀ k, v.ownBlock = some k → w'.heap[k]? = w.heap[k]?) : Row ok w' base e v n xs := by
  refine ⟨h.1, ?_⟩
  rcases h.2 with h2 | ⟨g, cap, cur, rfl, hb, hg, r⟩
  · exact .inl h2
  · exact .inr ⟨g, cap, cur, rfl, hb, (hk g rfl).trans hg, r⟩
theorem heap_lt {w : World} {D : Nat} {o : Obj} (h : w.heap[D]? = some o) : D < w.heap.size := (Array.getElem?_eq_some_iff.1 h).1
theorem heap_below {w w' : World} {D : Nat} {o : Obj} (h : w.heap[D]? = some o) (hb : Below w.heap.size w w') : w'.heap[D]? = some o := (hb.block D (heap_lt h)).trans h
theorem heap_grown {w w' : World} {D : Nat} {o : Obj} {row : Option Nat} (h : w.heap[D]? = some o) (hg : w.grownBy w' row) (hr : row ≠ some D) : w'.heap[D]? = some o := (hg.block D (heap_lt h) (fun e => hr e.symm)).trans h
theorem Row.made_at {ok : Value → Prop} {w : World} {base : Nat} {e : TypeId} (cur : Array Value) (m g cp : Nat) (xs : List Value) (hg : g = w.heap.size) (hcp : cp = cur.size) (hx : xs = cur.toList.take m) (hb : base ≤ w.heap.size) (hm : cur.size ≤ maxLen) (hn : m ≤ cur.size) (ho : ∀ u ∈ cur.toList, ok u) :
    Row ok (w.alloc (.cells cur e)) base e (.slice (some ⟨g, 0, none⟩) m cp) m xs := by
  subst hg; subst hcp; subst hx; exact Row.made cur m hb hm hn ho
theorem heap_new (w : World) (o : Obj) (g : Nat) (hg : g = w.heap.size) : (w.alloc o).heap[g]? = some o := by subst hg; exact heap_alloc_new _ _
theorem take_snocN (l : List Nat) (k : Nat) (h : k < l.length) : l.take (k + 1) = l.take k ++ [l.getD k 0] := by
  rw [List.take_succ_eq_append_getElem h]
  simp [List.getD, List.getElem?_eq_getElem h]
def iv (n : Nat) : Value := .int .i64 (n : Int)
def isI64 (u : Value) : Prop := ∃ n : Nat, u = iv n
theorem info_lat : (Tryz.prog.info? 55).map (fun i => (i.zero, i.size, i.bytes)) = some (some (.agg #[.int .u32 0, .int .u32 0, .int .u32 0]), 3, 12) := by kernel_rfl
theorem info_gate : (Tryz.prog.info? 58).map (fun i => (i.zero, i.size, i.bytes)) = some (some (.agg #[.int .u32 0, .int .u32 0, .int .u32 0]), 3, 12) := by kernel_rfl
def own3 (T : TypeId) (w : World) (base : Nat) (v : Value) (xs : List Tri) : Prop := w.ownsRow base T 3 v xs.length (triCs xs)
section
variable {w w' : World} {base : Nat} {e : TypeId} {v : Value} {n : Nat} {xs : List Value}
theorem owns_below (h : w.ownsRow base e 3 v n xs) (hb : Below w.heap.size w w') : w'.ownsRow base e 3 v n xs := by
  refine ⟨h.1, ?_⟩
  rcases h.2 with h2 | ⟨g, cap, cur, hv, hg, hh, r⟩
  · exact .inl h2
  · exact .inr ⟨g, cap, cur, hv, hg, heap_below hh hb, r⟩
theorem owns_other (h : w.ownsRow base e 3 v n xs) (hk : ∀ k, v.ownBlock = some k → w'.heap[k]? = w.heap[k]?) : w'.ownsRow base e 3 v n xs := by
  refine ⟨h.1, ?_⟩
  rcases h.2 with h2 | ⟨g, cap, cur, rfl, hg, hh, r⟩
  · exact .inl h2
  · exact .inr ⟨g, cap, cur, rfl, hg, (hk g rfl).trans hh, r⟩
theorem owns_notown (h : w.ownsRow base e 3 v n xs) {D : Nat} {C : Array Value} {t : TypeId} {fr : Nat × Nat} (hD : w.heap[D]? = some (.cells C t fr)) (ht : t ≠ e) : v.ownBlock ≠ some D := by
  rcases h.2 with ⟨rfl, _⟩ | ⟨g, cap, cur, rfl, _, hg, _⟩
  · intro e; cases e
  · intro he
    have : g = D := by simpa [Value.ownBlock] using he
    subst this
    rw [hg] at hD
    cases hD
    exact ht rfl
theorem but_owns {w3 w4 : World} {R : Nat} (h : w.grownBy w3 (some R)) (hrow : w3.ownsRow w.heap.size e 3 v n xs) (hg : w3.grownBy w4 v.ownBlock) : w.grownBy w4 (some R) :=
  ⟨hg.os.trans h.os, hg.tape.trans h.tape, hg.output.trans h.output, Nat.le_trans h.size hg.size, fun b hb hr => (hg.block b (Nat.lt_of_lt_of_le hb h.size) (fun e => by have := (hrow.lt b e.symm).1; omega)).trans (h.block b hb hr)⟩
end
theorem own3_nil (T : TypeId) (w : World) (base : Nat) : own3 T w base (.slice none 0 0) [] := ⟨rfl, .inl ⟨rfl, rfl⟩⟩
theorem own3_below {T : TypeId} {w w' : World} {base : Nat} {v : Value} {xs : List Tri} (h : own3 T w base v xs) (hb : Below w.heap.size w w') : own3 T w' base v xs := owns_below h hb
theorem own3_sees {T : TypeId} {w : World} {base : Nat} {v : Value} {xs : List Tri} (h : own3 T w base v xs) : ∃ a c, v = .slice a xs.length c ∧ Sees3 w a xs.length c xs := by
  rcases h.2 with ⟨rfl, h0⟩ | ⟨g, cap, cur, rfl, _, hg, hnc, hm, hcs, ht⟩
  · have : xs = [] := List.eq_nil_of_length_eq_zero h0
    subst this
    exact ⟨none, 0, rfl, Sees3.nil w⟩
  · refine ⟨_, cap, rfl, rfl, hnc, ⟨?_, by omega, (fun e => by cases e), fun _ => ⟨g, 0, rfl, heap_lt hg, fun j hj => ?_⟩⟩⟩
    · have := h.1; omega
    · rw [Nat.zero_add, cell_of_row w g j cur T (0, 0) hg, ← ht, List.getElem?_take_of_lt (by omega)]
      simp
theorem own3_form {T : TypeId} {w : World} {base : Nat} {v : Value} {xs : List Tri} (h : own3 T w base v xs) : ∃ a c, v = .slice a xs.length c := by
  obtain ⟨a, c, e, _⟩ := own3_sees h
  exact ⟨a, c, e⟩
theorem raw_set {X : World} {g : Nat} {C : Array Value} {t : TypeId} (h : X.heap[g]? = some (.cells C t (0, 0))) (hC : C.size = 7) (u0 u1 u2 u3 u4 u5 u6 : Value) :
    (((((((X.setCell ⟨g, 0, .none⟩ u0).setCell ⟨g, 1, .none⟩ u1).setCell ⟨g, 2, .none⟩ u2).setCell ⟨g, 3, .none⟩ u3).setCell ⟨g, 4, .none⟩ u4).setCell ⟨g, 5, .none⟩ u5).setCell ⟨g, 6, .none⟩ u6).heap[g]? = some (.cells #[u0, u1, u2, u3, u4, u5, u6] t (0, 0)) := by
  obtain ⟨l⟩ := C
  match l, hC with
  | [_, _, _, _, _, _, _], _ =>
    have h0 := block_setCell h (i := 0) u0
    have h1 := block_setCell h0 (i := 1) u1
    have h2 := block_setCell h1 (i := 2) u2
    have h3 := block_setCell h2 (i := 3) u3
    have h4 := block_setCell h3 (i := 4) u4
    have h5 := block_setCell h4 (i := 5) u5
    have h6 := block_setCell h5 (i := 6) u6
    simpa using h6
theorem set7 {B : Nat} {w X : World} (g : Nat) (hg : B ≤ g) (h : Below B w X) {u0 u1 u2 u3 u4 u5 u6 : Value} :
    Below B w (((((((X.setCell ⟨g, 0, .none⟩ u0).setCell ⟨g, 1, .none⟩ u1).setCell ⟨g, 2, .none⟩ u2).setCell ⟨g, 3, .none⟩ u3).setCell ⟨g, 4, .none⟩ u4).setCell ⟨g, 5, .none⟩ u5).setCell ⟨g, 6, .none⟩ u6) :=
  ((((((h.setCell hg _).setCell hg _).setCell hg _).setCell hg _).setCell hg _).setCell hg _).setCell hg _
end Go.Proofs.YtglhnmbfkbjemaaGreatDoor
/- What every law's proof ends with: the law has answered true, and old memory is as it was: so each argument reads as it did. And what a reading of an argument gives the walk. -/
namespace Go.Proofs.YtglhnmbfkbjemaaGreatDoor
open Go Go.ChangeShapes Go.WideShapes Go.ChangeAt Go.RowKit Go.WideElems
theorem bulk_one {H : Type} (x : DataW H) : 1 ≤ Rows.uptoBulk x := by
  cases x with
  | lit l => cases l <;> simp [Rows.uptoBulk]
  | nil => simp [Rows.uptoBulk]
  | ptr d => simp [Rows.uptoBulk]
  | slice elems spare => simp [Rows.uptoBulk]
  | agg parts => simp [Rows.uptoBulk]
  | iface t d => simp [Rows.uptoBulk]
  | map entries => simp [Rows.uptoBulk]
  | held h => simp [Rows.uptoBulk]
theorem bulk_len {H : Type} : ∀ l : List (DataW H), l.length ≤ Rows.uptoBulkAll l
  | [] => by simp [Rows.uptoBulkAll]
  | x :: r => by
    have := bulk_one x
    have := bulk_len r
    simp only [Rows.uptoBulkAll, List.length_cons]; omega
theorem bulk_slice {H : Type} (elems spare : List (DataW H)) : elems.length ≤ Rows.uptoBulk (.slice elems spare) := by
  have := bulk_len elems
  simp only [Rows.uptoBulk]; omega
theorem bulk_part {H : Type} {d : DataW H} : ∀ {l : List (DataW H)}, d ∈ l → Rows.uptoBulk d ≤ Rows.uptoBulkAll l
  | [], h => by cases h
  | x :: r, h => by
    simp only [Rows.uptoBulkAll]
    rcases List.mem_cons.1 h with rfl | h
    · omega
    · have := bulk_part h; omega
theorem bulk_bound {H : Type} {l : List (DataW H)} (hk : Rows.uptoSmall H l = true) : Rows.uptoBulkAll l ≤ 1048576 := of_decide_eq_true hk
set_option maxRecDepth 100000 in
theorem open_u8s {H : Type} {enc : TypeId × Value → H} {W : World} {v : Value} {d : DataW H} {p : List MemPlace} {base : Nat} (hv : Value.okWide Tryz.prog W .any base 27 v)
    (h : DataW.Trod enc Tryz.prog W 0 (fun _ => true) true 27 v d p) : ∃ a n c bs, v = .slice a n c ∧ Sees W a n c (List.map bv bs) ∧ n ≤ Rows.uptoBulk d := by
  obtain ⟨a0, len, cap, rfl⟩ := okWide_slice Tryz.underlying27 hv
  obtain ⟨fuel, hf⟩ := h
  rcases open_ints Tryz.underlying27 Tryz.underlying5 (by kernel_rfl) hf with ⟨hcs, hx⟩ | ⟨a, len', cap', zs, hcs, _, hl, hm, hz, hx, hcell, hwz⟩
  · simp [Value.cells] at hcs
    obtain ⟨rfl, rfl, rfl⟩ := hcs
    exact ⟨_, _, _, [], rfl, Sees.nil _ _ _ (fun _ => rfl), by omega⟩
  · simp [Value.cells] at hcs
    obtain ⟨rfl, rfl, rfl⟩ := hcs
    simp only [Prod.mk.injEq] at hx
    obtain ⟨rfl, rfl⟩ := hx
    simp only [if_true] at hz
    have hbs : ((zs.take len).map fun z => UInt8.ofNat z.toNat).map bv = (zs.take len).map (Value.int .u8) := by
      rw [List.map_map]
      apply List.map_congr_left
      intro z hz'
      have hw := bounds_u8 (hwz z (List.mem_of_mem_take hz'))
      show bv (UInt8.ofNat z.toNat) = _
      unfold bv
      congr 1
      rw [UInt8.toNat_ofNat']
      omega
    have hbulk : len ≤ Rows.uptoBulk (DataW.slice (H := H) (lits .u8 (zs.take len)) (lits .u8 (zs.drop len))) := by
      have h2 := bulk_slice (lits (H := H) .u8 (zs.take len)) (lits .u8 (zs.drop len))
      have h3 : (lits (H := H) .u8 (zs.take len)).length = len := by simp [lits]; omega
      omega
    refine ⟨_, _, _, (zs.take len).map fun z => UInt8.ofNat z.toNat, rfl, ⟨by simp; omega, hl, (fun e => by cases e), fun h0 => ?_⟩, hbulk⟩
    obtain ⟨b, off, rfl, hc⟩ := ints_at hcell (by omega)
    refine ⟨b, off, rfl, World.block_lt_of_cell? W ⟨b, off + 0, none⟩ (hc 0 (by omega)), fun j hj => ?_⟩
    rw [hbs, hc j (by omega)]
    simp [List.getD, List.getElem?_eq_getElem (show j < zs.length by omega), List.getElem?_take_of_lt hj]
end Go.Proofs.YtglhnmbfkbjemaaGreatDoor
namespace Go.Proofs.YtglhnmbfkbjemaaGreatDoor
open Go Go.RowKit Go.Joins
def EqInv (w : World) (xs ys : List Nat) (n : Nat) (a b : Value) (k : Nat) : Prop :=
  ∃ a1 c1 a2 c2, a = .slice a1 (n - k) c1 ∧ b = .slice a2 (n - k) c2 ∧ Sees w a1 (n - k) c1 ((xs.drop k).map nv32) ∧ Sees w a2 (n - k) c2 ((ys.drop k).map nv32) ∧ xs.take k = ys.take k
def slenQ : Value → Nat | .slice _ m _ => m | _ => 0
theorem eq_step {xs ys : List Nat} {k : Nat} (h : xs.take k = ys.take k) (hk : k < xs.length) (hk' : k < ys.length) (hx : xs.getD k 0 = ys.getD k 0) : xs.take (k + 1) = ys.take (k + 1) := by
  rw [List.take_succ_eq_append_getElem hk, List.take_succ_eq_append_getElem hk', h]
  have : xs[k] = ys[k] := by simpa [List.getD, List.getElem?_eq_getElem hk, List.getElem?_eq_getElem hk'] using hx
  rw [this]
set_option maxRecDepth 100000 in
set_option maxHeartbeats 1600000 in
theorem eqnums_any (xs ys : List Nat) (a a' : Option Addr) (n c n' c' : Nat) (w : World) (h : Sees w a n c (xs.map nv32)) (h' : Sees w a' n' c' (ys.map nv32)) (hn : n ≤ 1000000000) :
    Calls Tryz.prog 37 #[.slice a n c, .slice a' n' c'] w fun e w' => e = .returned (.bool (xs == ys)) ∧ ∃ q, w' = w.drewN q := by
  have hl : xs.length = n := by have := h.len; simpa using this
  have hl' : ys.length = n' := by have := h'.len; simpa using this
  by_cases hne : n = n'
  · subst hne
    have H := Lib.hid h
    have H' := Lib.hid h'
    have HL := Lib.hid hl
    have HL' := Lib.hid hl'
    clear h h' hl hl'
    go_enter Tryz.func37, Tryz.ntmps37
    go_wp2
    go_loopw [0, 1] (fun a b wr => ∃ k q : Nat, k ≤ n ∧ Hid (wr = w.drewN q) ∧ Hid (EqInv w xs ys n a b k) ∧ ∃ a1 c1 a2 c2, a = .slice a1 (n - k) c1 ∧ b = .slice a2 (n - k) c2)
      (fun a _ _ => slenQ a)
    case atStart => exact ⟨0, 0, Nat.zero_le _, rfl, ⟨_, _, _, _, rfl, rfl, H.out, H'.out, rfl⟩, _, _, _, _, rfl, rfl⟩
    case round =>
      obtain ⟨k, q, hk, hw, hinv, a1, c1, a2, c2, rfl, rfl⟩ := hrel
      obtain ⟨_, _, _, _, e1, e2, s1, s2, ht⟩ := hinv.out
      cases e1; cases e2
      have hw' := hw.out
      subst hw'
      clear hw hinv
      by_cases hlt : k < n
      · obtain ⟨b1, o1, rfl, _⟩ := s1.addr (by omega)
        obtain ⟨b2, o2, rfl, _⟩ := s2.addr (by omega)
        obtain ⟨x, hx⟩ : ∃ x : Nat, x = xs.getD k 0 := ⟨_, rfl⟩
        obtain ⟨y, hy⟩ : ∃ y : Nat, y = ys.getD k 0 := ⟨_, rfl⟩
        have hc1 : w.cell? ⟨b1, o1, none⟩ = some (.int .u32 (x : Int)) := by
          have := s1.num 0 (by omega)
          rw [hx, ← show (xs.drop k).getD 0 0 = xs.getD k 0 by simp [List.getD]]
          exact this
        have hc2 : w.cell? ⟨b2, o2, none⟩ = some (.int .u32 (y : Int)) := by
          have := s2.num 0 (by omega)
          rw [hy, ← show (ys.drop k).getD 0 0 = ys.getD k 0 by simp [List.getD]]
          exact this
        obtain ⟨a3, ec3, see3⟩ := s1.cut 1 (n - k) (by omega) (Nat.le_refl _)
        obtain ⟨a4, ec4, see4⟩ := s2.cut 1 (n - k) (by omega) (Nat.le_refl _)
        have q1 := fun W => (run_from (P := Tryz.prog) Tryz.underlying24 size_u32 W (some ⟨b1, o1, none⟩) (n - k) c1 1 1 rfl (by omega)).trans (congrArg (fun v => Result.ok v W) ec3)
        have q2 := fun W => (run_from (P := Tryz.prog) Tryz.underlying24 size_u32 W (some ⟨b2, o2, none⟩) (n - k) c2 1 1 rfl (by omega)).trans (congrArg (fun v => Result.ok v W) ec4)
        have S3 : Hid (Sees w a3 (n - (k + 1)) (c1 - 1) ((xs.drop (k + 1)).map nv32)) := by
          have e : (List.map nv32 (xs.drop k)).take (n - k) = List.map nv32 (xs.drop k) := List.take_of_length_le (by rw [s1.len]; exact Nat.le_refl _)
          rw [e, ← List.map_drop, List.drop_drop] at see3
          exact see3
        have S4 : Hid (Sees w a4 (n - (k + 1)) (c2 - 1) ((ys.drop (k + 1)).map nv32)) := by
          have e : (List.map nv32 (ys.drop k)).take (n - k) = List.map nv32 (ys.drop k) := List.take_of_length_le (by rw [s2.len]; exact Nat.le_refl _)
          rw [e, ← List.map_drop, List.drop_drop] at see4
          exact see4
        have HX := Lib.hid hx
        have HY := Lib.hid hy
        have HT := Lib.hid ht
        have hpos : (0 : Int) < ((n - k : Nat) : Int) := by omega
        clear ec3 ec4 see3 see4 hx hy ht s1 s2
        by_cases hxy : x = y
        · subst hxy
          go_wp2
          go_quiet (fail)
          go_wp2
          go_quiet (fail)
          go_wp2
          go_roundw
          case rel =>
            refine ⟨k + 1, _, by omega, (by unfold Hid; rw [World.drewN_drewN, World.drewN_drewN]), ⟨_, _, _, _, rfl, rfl, S3.out, S4.out, eq_step HT.out (by rw [HL.out]; exact hlt) (by rw [HL'.out]; exact hlt) (by rw [← HX.out, HY.out])⟩, _, _, _, _, rfl, rfl⟩
          case measure => simp [slenQ]; omega
        · have hn1 : ((x : Int) != (y : Int)) = true := by simp; omega
          have hn2 : ((x : Int) == (y : Int)) = false := by simp; omega
          have he : (xs == ys) = false := by
            rw [beq_eq_false_iff_ne]
            intro e
            apply hxy
            rw [HX.out, HY.out, e]
          have HE := Lib.hid he
          clear he
          go_wp2
          go_quiet (fail)
          go_wp2
          go_ret
          refine ⟨by rw [HE.out]; rfl, ?_⟩
          simp
          exact ⟨_, rfl⟩
      · have hkn : k = n := by omega
        subst hkn
        have he : (xs == ys) = true := by
          rw [List.take_of_length_le (by rw [HL.out]; exact Nat.le_refl _), List.take_of_length_le (by rw [HL'.out]; exact Nat.le_refl _)] at ht
          rw [ht]; simp
        have HE := Lib.hid he
        clear he ht s1 s2
        go_wp2
        go_ret
        exact ⟨by rw [HE.out]; rfl, _, rfl⟩
  · have hb : ((n : Int) != (n' : Int)) = true := by simp; omega
    have hb' : ((n : Int) == (n' : Int)) = false := by simp; omega
    have he : (xs == ys) = false := by
      rw [beq_eq_false_iff_ne]
      intro e
      subst e
      omega
    have HE := Lib.hid he
    clear h h' he hl hl'
    go_enter Tryz.func37, Tryz.ntmps37
    go_wp2
    go_ret
    exact ⟨by rw [HE.out]; rfl, 0, rfl⟩
end Go.Proofs.YtglhnmbfkbjemaaGreatDoor
