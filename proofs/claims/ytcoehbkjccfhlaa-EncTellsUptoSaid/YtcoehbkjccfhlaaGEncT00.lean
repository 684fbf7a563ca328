/- A row of the call's own, every cell of which, the spare ones too, is of one kind ('Row'); what append does to it. -/
import Derived.BigQuiet
import Derived.Deep.QuietTactic
import Derived.Deep.RegionWith
import Derived.Lib.ConvBytes
import Derived.Lib.Hide
import Derived.Lib.SlBytesRow
import Derived.Lib.SmallJoins
import Derived.Shelf.Bytes.SlSmallAll
import Derived.WalkKit
import Derived.WalkLawsBesides
import Derived.WalkSpells
/- Plain facts on worlds, slices and bytes: what a slice reads as ('Sees'), and how that is kept while new memory is made. No function of the program is named here. -/
namespace Go.Proofs.Ytcoehbkjccfhlaa
open Go Go.RowKit

/-- A byte's cell. -/
def bv (u : UInt8) : Value := .int .u8 (u.toNat : Int)
/-- The string of these bytes. -/
def str (l : List UInt8) : ByteArray := ⟨l.toArray⟩

/-- The slice (a, n, c) reads as the cells xs. -/
structure Sees (w : World) (a : Option Addr) (n c : Nat) (xs : List Value) : Prop where
  len : xs.length = n
  cap : n ≤ c
  nilc : a = none → c = 0
  real : 0 < n → ∃ b off, a = some ⟨b, off, none⟩ ∧ b < w.heap.size ∧ ∀ j, j < n → w.cell? ⟨b, off + j, none⟩ = xs[j]?

theorem Sees.nil (w : World) (c : Nat) (a : Option Addr) (h : a = none → c = 0) : Sees w a 0 c [] := ⟨rfl, Nat.zero_le _, h, fun h => absurd h (by omega)⟩

theorem Sees.below {w w' : World} {a : Option Addr} {n c : Nat} {xs : List Value} (h : Sees w a n c xs) (hb : Below w.heap.size w w') : Sees w' a n c xs := by
  refine ⟨h.len, h.cap, h.nilc, fun h0 => ?_⟩
  obtain ⟨b, off, e, hlt, hc⟩ := h.real h0
  exact ⟨b, off, e, Nat.lt_of_lt_of_le hlt hb.size, fun j hj => (hb.cell (p := ⟨b, off + j, .none⟩) hlt).trans (hc j hj)⟩

theorem Sees.owned {w : World} {base : Nat} {e : TypeId} {v : Value} {n : Nat} {xs : List Value} (h : w.ownsRow base e 1 v n xs) : ∃ a c, v = .slice a n c ∧ c ≤ maxLen ∧ Sees w a n c xs := by
  have hl : xs.length = n := by have := h.1; omega
  rcases h.2 with ⟨rfl, rfl⟩ | ⟨g, cap, cur, rfl, _, hg, hnc, hm, _, ht⟩
  · exact ⟨_, _, rfl, Nat.zero_le _, hl, Nat.le_refl _, fun _ => rfl, fun h => absurd h (by omega)⟩
  · refine ⟨_, _, rfl, hm, hl, hnc, (fun e => by cases e), fun _ => ⟨g, 0, rfl, (Array.getElem?_eq_some_iff.1 hg).1, fun j hj => ?_⟩⟩
    rw [Nat.zero_add, cell_of_row w g j cur e (0, 0) hg, ← ht, Nat.mul_one, List.getElem?_take_of_lt hj]
    simp

/-- 'string(b)'. -/
theorem Sees.str {P : Program} {w : World} {a : Option Addr} {n c : Nat} {bs : List UInt8} (h : Sees w a n c (bs.map bv)) (src e dst : TypeId)
    (hs : P.underlying src = some (.slice e)) (he : P.underlying e = some (.int .u8)) (hd : P.underlying dst = some .string) :
    (convert src dst (.slice a n c)).run P w = .ok (.string (str bs)) w := by
  have hl : bs.length = n := by have := h.len; simpa using this
  by_cases h0 : 0 < n
  · obtain ⟨b, off, rfl, _, hc⟩ := h.real h0
    have hB : Lib.Bytes w b off (Go.Proofs.Ytcoehbkjccfhlaa.str bs) := by
      intro i hi
      have hi' : i < bs.length := by simpa [Go.Proofs.Ytcoehbkjccfhlaa.str, ByteArray.size] using hi
      rw [hc i (by omega)]
      simp [Go.Proofs.Ytcoehbkjccfhlaa.str, bv, List.getElem?_eq_getElem hi', ByteArray.getElem_eq_getElem_data]
    have := Lib.run_convert_whole (P := P) w src e dst hs he hd b off _ hB c
    have hsz : (Go.Proofs.Ytcoehbkjccfhlaa.str bs).size = n := by simp [Go.Proofs.Ytcoehbkjccfhlaa.str, ByteArray.size, hl]
    rw [hsz] at this
    exact this
  · have hn : n = 0 := by omega
    subst hn
    have hb : bs = [] := List.eq_nil_of_length_eq_zero hl
    subst hb
    rw [run_convert_bytes_zero (P := P) w src e hs he a c dst hd]
    rfl


/-- A part of a slice: 's[i:i+m]' at its place. -/
theorem Sees.part {w : World} {b off n c : Nat} {xs : List Value} (h : Sees w (some ⟨b, off, none⟩) n c xs) (i m c' : Nat) (hi : i + m ≤ n) (hc' : m ≤ c') : Sees w (some ⟨b, off + i, none⟩) m c' ((xs.drop i).take m) := by
  have hl := h.len
  refine ⟨by simp; omega, hc', (fun e => by cases e), fun h0 => ?_⟩
  obtain ⟨b', off', e, hlt, hc⟩ := h.real (by omega)
  cases e
  refine ⟨b, off + i, rfl, hlt, fun j hj => ?_⟩
  rw [Nat.add_assoc, hc (i + j) (by omega), List.getElem?_take_of_lt hj, List.getElem?_drop]

theorem Sees.zero (w : World) (a : Option Addr) (c : Nat) (xs : List Value) (h : a = none → c = 0) (hx : xs = []) : Sees w a 0 c xs := by subst hx; exact Sees.nil w c a h

theorem Sees.cell {w : World} {b off n c : Nat} {xs : List Value} (h : Sees w (some ⟨b, off, .none⟩) n c xs) (j : Nat) (hj : j < n) : b < w.heap.size ∧ w.cell? ⟨b, off + j, .none⟩ = xs[j]? := by
  obtain ⟨b', off', e, hlt, hc⟩ := h.real (by omega)
  cases e
  exact ⟨hlt, hc j hj⟩

theorem Sees.byte {w : World} {b off n c : Nat} {bs : List UInt8} (h : Sees w (some ⟨b, off, .none⟩) n c (bs.map bv)) (j : Nat) (hj : j < n) : w.cell? ⟨b, off + j, .none⟩ = some (.int .u8 ((bs.getD j 0).toNat : Int)) := by
  have hl : bs.length = n := by have := h.len; simpa using this
  rw [(h.cell j hj).2]
  simp [bv, List.getD, List.getElem?_eq_getElem (show j < bs.length by omega)]

theorem Sees.addr {w : World} {a : Option Addr} {n c : Nat} {xs : List Value} (h : Sees w a n c xs) (h0 : 0 < n) : ∃ b off, a = some ⟨b, off, .none⟩ ∧ b < w.heap.size := by
  obtain ⟨b, off, e, hlt, _⟩ := h.real h0
  exact ⟨b, off, e, hlt⟩

theorem bv_one (bs : List UInt8) : ∀ u ∈ bs.map bv, u.oneCell' = true := by
  intro u hu
  obtain ⟨x, _, rfl⟩ := List.mem_map.1 hu
  rfl

/-- 's[l:m]': what it is, and what it reads as. -/
theorem Sees.cut {w : World} {a : Option Addr} {n c : Nat} {xs : List Value} (h : Sees w a n c xs) (l m : Nat) (hl : l ≤ m) (hm : m ≤ n) :
    ∃ a2, sliced a l m c 1 = .slice a2 (m - l) (c - l) ∧ Sees w a2 (m - l) (c - l) ((xs.take m).drop l) := by
  have hlen := h.len
  have hcap := h.cap
  refine ⟨_, rfl, by simp; omega, by omega, ?_, fun h0 => ?_⟩
  · intro e
    have ha : a = none := by
      split at e
      · exact e
      · simpa using e
    have := h.nilc ha
    omega
  · obtain ⟨b, off, rfl, hlt, hc⟩ := h.real (by omega)
    rw [if_neg (by omega), Nat.mul_one]
    have hadd : (⟨b, off, none⟩ : Addr).add l = ⟨b, off + l, none⟩ := by unfold Addr.add; split <;> simp_all
    refine ⟨b, off + l, by simp [hadd], hlt, fun j hj => ?_⟩
    rw [Nat.add_assoc, hc (l + j) (by omega), List.getElem?_drop, List.getElem?_take_of_lt (by omega)]

section
variable {P : Program} {t e : TypeId} (ht : P.underlying t = some (.slice e)) (hz : ∀ w, (sizeOf e).run P w = .ok 1 w)
include ht hz
theorem run_from (W : World) (a : Option Addr) (n c l : Nat) (z : Int) (hzl : z = (l : Int)) (hl : l ≤ n) :
    (Instr.slice t (.slice a n c) (some (.int .i64 z)) none none).run P W = .ok (sliced a l n c 1) W := by
  have he : P.elem t = e := by simp [Program.elem, ht]
  rw [run_slice_l W t a n c (by rw [he]; exact ht) .i64 z (by omega) (by omega), he, hz, hzl]
  simp [Result.andThen]
theorem run_upto (W : World) (a : Option Addr) (n c m : Nat) (z : Int) (hzl : z = (m : Int)) (hm : m ≤ c) :
    (Instr.slice t (.slice a n c) none (some (.int .i64 z)) none).run P W = .ok (sliced a 0 m c 1) W := by
  have he : P.elem t = e := by simp [Program.elem, ht]
  rw [run_slice_h W t a n c (by rw [he]; exact ht) .i64 z (by omega) (by omega), he, hz, hzl]
  simp [Result.andThen]
theorem run_part (W : World) (a : Option Addr) (n c l m : Nat) (y z : Int) (hyl : y = (l : Int)) (hzm : z = (m : Int)) (hl : l ≤ m) (hm : m ≤ c) :
    (Instr.slice t (.slice a n c) (some (.int .i64 y)) (some (.int .i64 z)) none).run P W = .ok (sliced a l m c 1) W := by
  have he : P.elem t = e := by simp [Program.elem, ht]
  rw [run_slice_lh W t a n c (by rw [he]; exact ht) .i64 .i64 y z (by omega) (by omega) (by omega), he, hz, hyl, hzm]
  simp [Result.andThen]
end

end Go.Proofs.Ytcoehbkjccfhlaa
namespace Go.Proofs.Ytcoehbkjccfhlaa
open Go Go.RowKit

/-- The slice value v, of n one-cell elements of type e, owns the cells xs; all cells of its row, the spare ones too, are ok. -/
def Row (ok : Value → Prop) (w : World) (base : Nat) (e : TypeId) (v : Value) (n : Nat) (xs : List Value) : Prop :=
  xs.length = n ∧ ((v = .slice none 0 0 ∧ n = 0) ∨
    ∃ g cap cur, v = .slice (some ⟨g, 0, none⟩) n cap ∧ base ≤ g ∧ w.heap[g]? = some (.cells cur e (0, 0)) ∧ n ≤ cap ∧ cap ≤ maxLen ∧ cur.size = cap ∧ cur.toList.take n = xs ∧ ∀ u ∈ cur.toList, ok u)

section
variable {ok : Value → Prop} {w w' : World} {base : Nat} {e : TypeId} {v : Value} {n : Nat} {xs : List Value}

theorem Row.nil (ok : Value → Prop) (w : World) (base : Nat) (e : TypeId) : Row ok w base e (.slice none 0 0) 0 [] := ⟨rfl, .inl ⟨rfl, rfl⟩⟩

theorem Row.own (h : Row ok w base e v n xs) : w.ownsRow base e 1 v n xs := by
  obtain ⟨h1, h2⟩ := h
  refine ⟨by omega, ?_⟩
  rcases h2 with h2 | ⟨g, cap, cur, hv, hg, hh, hn, hc, hs, ht, _⟩
  · exact .inl h2
  · exact .inr ⟨g, cap, cur, hv, hg, hh, hn, hc, by omega, by rw [Nat.mul_one]; exact ht⟩

theorem Row.weak (h : Row ok w base e v n xs) {ok' : Value → Prop} (hw : ∀ u, ok u → ok' u) : Row ok' w base e v n xs := by
  obtain ⟨h1, h2⟩ := h
  refine ⟨h1, ?_⟩
  rcases h2 with h2 | ⟨g, cap, cur, hv, hg, hh, hn, hc, hs, ht, ho⟩
  · exact .inl h2
  · exact .inr ⟨g, cap, cur, hv, hg, hh, hn, hc, hs, ht, fun u hu => hw u (ho u hu)⟩

theorem Row.base_le {base' : Nat} (h : Row ok w base e v n xs) (hb : base' ≤ base) : Row ok w base' e v n xs := by
  obtain ⟨h1, h2⟩ := h
  refine ⟨h1, ?_⟩
  rcases h2 with h2 | ⟨g, cap, cur, hv, hg, r⟩
  · exact .inl h2
  · exact .inr ⟨g, cap, cur, hv, Nat.le_trans hb hg, r⟩

theorem Row.below (h : Row ok w base e v n xs) (hb : Below w.heap.size w w') : Row ok w' base e v n xs := by
  obtain ⟨h1, h2⟩ := h
  refine ⟨h1, ?_⟩
  rcases h2 with h2 | ⟨g, cap, cur, hv, hg, hh, r⟩
  · exact .inl h2
  · exact .inr ⟨g, cap, cur, hv, hg, by rw [hb.block g (Array.getElem?_eq_some_iff.1 hh).1]; exact hh, r⟩

theorem Row.sees (h : Row ok w base e v n xs) : ∃ a c, v = .slice a n c ∧ c ≤ maxLen ∧ Sees w a n c xs := Sees.owned h.own

theorem Row.form (h : Row ok w base e v n xs) : ∃ a c, v = .slice a n c := by
  obtain ⟨a, c, h, _⟩ := h.sees
  exact ⟨a, c, h⟩

/-- A new row, written out. -/
theorem Row.made (cur : Array Value) (m : Nat) (hb : base ≤ w.heap.size) (hm : cur.size ≤ maxLen) (hn : m ≤ cur.size) (ho : ∀ u ∈ cur.toList, ok u) :
    Row ok (w.alloc (.cells cur e)) base e (.slice (some ⟨w.heap.size, 0, none⟩) m cur.size) m (cur.toList.take m) :=
  ⟨by simp; omega, .inr ⟨w.heap.size, cur.size, cur, rfl, hb, heap_alloc_new w _, hn, hm, rfl, rfl, ho⟩⟩
end

theorem mem_zeroCells {z u : Value} {k : Nat} (hz : z.cells = #[z]) (h : u ∈ (Builtin.zeroCells z.cells k).toList) : u = z := by
  rw [hz] at h
  simp only [Builtin.zeroCells, Array.toList_map, List.mem_map] at h
  obtain ⟨q, _, rfl⟩ := h
  have : q % (#[z] : Array Value).size = 0 := by simp [Nat.mod_one]
  rw [this]
  rfl

section
variable {P : Program} (ok : Value → Prop) (w : World)

/-- append of a slice that is read to a row of the call's own. -/
theorem run_append_row (base : Nat) (t ty e : TypeId) (i : TypeInfo) (z : Value) (bytes : Nat) (ht : P.underlying t = some (.slice e)) (hi : P.info? e = some i) (hz : i.zero = some z)
    (hsize : i.size = 1) (hby : i.bytes = bytes) (hzs : z.cells = #[z]) (hok : ok z)
    (v : Value) (n : Nat) (xs : List Value) (hown : Row ok w base e v n xs)
    (a : Option Addr) (m c : Nat) (news : List Value) (hsee : Sees w a m c news) (h1 : ∀ u ∈ news, u.oneCell' = true) (hoks : ∀ u ∈ news, ok u)
    (h63 : n + m ≤ maxLen) (hbytes : (n + m) * bytes ≤ 140737488355328) (hbase : base ≤ w.heap.size) :
    ∃ v' w', (Builtin.append_ #[t, t] ty #[v, .slice a m c]).run P w = .ok v' w' ∧ Row ok w' base e v' (n + m) (xs ++ news) ∧ w.grownBy w' v.ownBlock ∧ (v' = .slice none 0 0 ↔ v = .slice none 0 0 ∧ m = 0) := by
  subst hby
  have hl := hsee.len
  have hsmall : n + m ≤ 9223372036854775807 := by simp only [maxLen] at h63; omega
  have hlen : (xs ++ news).length = n + m := by rw [List.length_append, hown.1, hl]
  by_cases hm : m = 0
  · -- nothing is appended
    subst hm
    have hn : news = [] := List.eq_nil_of_length_eq_zero hl
    subst hn
    refine ⟨v, w, ?_, by simpa using hown, ⟨rfl, rfl, rfl, Nat.le_refl _, fun _ _ _ => rfl⟩, by simp⟩
    rcases hown.2 with ⟨rfl, rfl⟩ | ⟨g, cap, cur, rfl, hbg, hg, hnc, hcm, hcs, htake, hall⟩
    · cases a <;> simp [Builtin.append_, run_underlying ht, sizeOf, typeInfo, hi, Builtin.lenOf, Builtin.firstCells, loadCells, loadCellsFrom]
    · cases a <;> simp [Builtin.append_, run_underlying ht, sizeOf, typeInfo, hi, Builtin.lenOf, Builtin.firstCells, loadCells, loadCellsFrom, hnc, storeCells]
  · obtain ⟨b, off, rfl, hlt, hc⟩ := hsee.real (by omega)
    have hnews : ∀ j u, news[j]? = some u → w.cell? ((⟨b, off, none⟩ : Addr).add j) = some u := by
      intro j u hj
      have hjn : j < m := by rw [← hl]; exact (List.getElem?_eq_some_iff.1 hj).1
      have hadd : (⟨b, off, none⟩ : Addr).add j = ⟨b, off + j, none⟩ := by unfold Addr.add; split <;> simp_all
      rw [hadd, hc j hjn, hj]
    have grown : ∀ (old : Nat), old < n + m → ∀ (row : Option Nat),
        Row ok (w.drew.alloc (.cells (xs.toArray ++ news.toArray ++ Builtin.zeroCells z.cells (grownCap w (n + m) old e - (n + m))) e)) base e
          (.slice (some ⟨w.heap.size, 0, none⟩) (n + m) (grownCap w (n + m) old e)) (n + m) (xs ++ news) ∧
        w.grownBy (w.drew.alloc (.cells (xs.toArray ++ news.toArray ++ Builtin.zeroCells z.cells (grownCap w (n + m) old e - (n + m))) e)) row := by
      intro old ho row
      have hge := grownCap_ge w (n + m) old e
      have hcm : grownCap w (n + m) old e ≤ maxLen := grownCap_le_maxLen w (n + m) old e h63
      have hxo : ∀ u ∈ xs, ok u := by
        intro u hu
        rcases hown.2 with ⟨_, h0⟩ | ⟨g, cap, cur, _, _, _, _, _, _, htake, hall⟩
        · have : xs = [] := List.eq_nil_of_length_eq_zero (by rw [hown.1, h0])
          rw [this] at hu; cases hu
        · rw [← htake] at hu
          exact hall u (List.mem_of_mem_take hu)
      refine ⟨⟨hlen, .inr ⟨w.heap.size, _, _, rfl, hbase, heap_alloc_new w.drew _, hge, hcm, ?_, ?_, ?_⟩⟩, ⟨rfl, rfl, rfl, by simp, fun k hk _ => heap_alloc_old w.drew _ hk⟩⟩
      · simp only [Array.size_append, List.size_toArray, size_zeroCells, hzs, hown.1, hl, List.size_toArray]
        simp
        omega
      · simp only [Array.toList_append, List.append_assoc]
        rw [← List.append_assoc, ← hlen]
        exact List.take_left
      · intro u hu
        simp only [Array.toList_append, List.mem_append] at hu
        rcases hu with (hu | hu) | hu
        · exact hxo u hu
        · exact hoks u hu
        · rw [mem_zeroCells hzs hu]; exact hok
    rcases hown.2 with ⟨rfl, rfl⟩ | ⟨g, cap, cur, rfl, hbg, hg, hnc, hcm, hcs, htake, hall⟩
    · have hx : xs = [] := List.eq_nil_of_length_eq_zero hown.1
      subst hx
      have hr := run_append_nil (P := P) w t ty e i z ht hi hz ⟨b, off, none⟩ m c news (by rw [hsize]; omega) hnews (by omega) (by omega) (by have hb := hbytes; simp only [Nat.zero_add] at hb; omega)
      have hgr := grown 0 (by omega) (Value.ownBlock (.slice none 0 0))
      simp only [Nat.zero_add, List.nil_append, Array.empty_append] at hgr ⊢
      exact ⟨_, _, hr, hgr.1, hgr.2, by simp [hm]⟩
    · by_cases hroom : n + m ≤ cap
      · have hr := run_append_room (P := P) w t ty e i ht hi g n cap cur hg ⟨b, off, none⟩ m c news (by rw [hsize]; omega) hnews h1 hroom (by rw [hsize]; omega)
        rw [hsize] at hr
        refine ⟨_, _, hr, ⟨hlen, .inr ⟨g, cap, _, rfl, hbg, setRow_heap w g cur _ e _ hg, hroom, hcm, ?_, ?_, ?_⟩⟩, ⟨rfl, rfl, rfl, by simp, fun k _ hk => setRow_other w g k _ (fun e => hk (by simp [Value.ownBlock, e]))⟩, by simp⟩
        · simp only [List.size_toArray, List.length_append, List.length_take, List.length_drop, Array.length_toList]
          omega
        · simp only [Nat.mul_one]
          rw [htake, ← hlen]
          exact List.take_left
        · intro u hu
          simp only [List.mem_append] at hu
          rcases hu with (hu | hu) | hu
          · exact hall u (List.mem_of_mem_take hu)
          · exact hoks u hu
          · exact hall u (List.mem_of_mem_drop hu)
      · have holds : ∀ j u, xs[j]? = some u → w.cell? ((⟨g, 0, none⟩ : Addr).add j) = some u := hown.own.cells (g := g) rfl
        have hr := run_append_grow (P := P) w t ty e i z ht hi hz ⟨g, 0, none⟩ n cap xs (by rw [hown.1, hsize]; omega) holds ⟨b, off, none⟩ m c news (by rw [hl, hsize]; omega) hnews (by omega) (by omega) (growslice_fits (by omega) hbytes)
        have hgr := grown cap (by omega) (Value.ownBlock (.slice (some ⟨g, 0, none⟩) n cap))
        exact ⟨_, _, hr, hgr.1, hgr.2, by simp⟩

theorem wpList_append_row {ops : Array Oper} {rest : List Oper} {o : Oper} {a : Act} {Q : Exit → Act → World → Prop} (hgd : o.guard = none) (s x : Operand) (t : TypeId)
    (ho : o.op = .call { callee := .builtin .append, args := #[s, x], argTypes := #[t, t] })
    (base : Nat) (e : TypeId) (i : TypeInfo) (z : Value) (bytes : Nat) (ht : P.underlying t = some (.slice e)) (hi : P.info? e = some i) (hz : i.zero = some z)
    (hsize : i.size = 1) (hby : i.bytes = bytes) (hzs : z.cells = #[z]) (hok : ok z)
    (v : Value) (n : Nat) (xs : List Value) (hs : a.eval s = v) (hown : Row ok w base e v n xs)
    (ad : Option Addr) (m c : Nat) (news : List Value) (hx : a.eval x = .slice ad m c) (hsee : Sees w ad m c news) (h1 : ∀ u ∈ news, u.oneCell' = true) (hoks : ∀ u ∈ news, ok u)
    (h63 : n + m ≤ maxLen) (hbytes : (n + m) * bytes ≤ 140737488355328) (hbase : base ≤ w.heap.size)
    (h : ∀ v' w', Row ok w' base e v' (n + m) (xs ++ news) → w.grownBy w' v.ownBlock → (v' = .slice none 0 0 ↔ v = .slice none 0 0 ∧ m = 0) → wpList P ops Q rest (a.put o.dst v') w') : wpList P ops Q (o :: rest) a w := by
  refine wpList_plain hgd fun K hK => ?_
  obtain ⟨v', w', hr, h2, h3, h4⟩ := run_append_row (P := P) ok w base t o.type e i z bytes ht hi hz hsize hby hzs hok v n xs hown ad m c news hsee h1 hoks h63 hbytes hbase
  unfold Oper.wp execOp
  simp only [ho, resolve, invoke, builtin, Sem.run_bind, Sem.run_pure, Result.andThen_ok, List.map_toArray, List.map_cons, List.map_nil, hs, hx, hr]
  exact hK _ _ (h v' w' h2 h3 h4)
end

/-- m cells of one value. -/
def zeros (z : Value) (m : Nat) : Array Value := (List.replicate m z).toArray
theorem size_zeros (z : Value) (m : Nat) : (zeros z m).size = m := by simp [zeros]

section
variable {P : Program} {t e : TypeId} {i : TypeInfo} {z : Value} {bytes : Nat} (ht : P.underlying t = some (.slice e)) (hi : P.info? e = some i) (hz : i.zero = some z)
  (hsize : i.size = 1) (hby : i.bytes = bytes) (hzs : z.cells = #[z])
include ht hi hz hsize hby hzs
/-- 'make([]T, m)'. -/
theorem run_make_n (m : Nat) (hb : (bytes : Int) * (m : Int) ≤ 281474976710656) (hm : m ≤ 1000000000000) (W : World) :
    (Instr.makeSlice t (.int .i64 (m : Int)) (.int .i64 (m : Int))).run P W = .ok (.slice (some ⟨W.heap.size, 0, none⟩) m m) (W.alloc (.cells (zeros z m) e)) := by
  have h := run_make (P := P) W t e i z ht hi hz .i64 .i64 (m : Int) (m : Int) (by omega) (Int.le_refl _) (by rw [hby]; exact hb) (by omega)
  rw [h, hzs, hsize, Int.toNat_natCast, Nat.mul_one]
  have e : madeCells #[z] m = zeros z m := by
    apply Array.ext'
    rw [toList_madeCells_one]; simp [zeros]
  rw [e]
/-- 'make([]T, 0, m)'. -/
theorem run_make_cap (m : Nat) (y : Int) (hy : y = (m : Int)) (hb : (bytes : Int) * (m : Int) ≤ 281474976710656) (hm : m ≤ 1000000000000) (W : World) :
    (Instr.makeSlice t (.int .i64 0) (.int .i64 y)).run P W = .ok (.slice (some ⟨W.heap.size, 0, none⟩) 0 m) (W.alloc (.cells (zeros z m) e)) := by
  subst hy
  have h := run_make (P := P) W t e i z ht hi hz .i64 .i64 0 (m : Int) (by omega) (by omega) (by rw [hby]; exact hb) (by omega)
  rw [h, hzs, hsize, Int.toNat_natCast, Nat.mul_one]
  have e : madeCells #[z] m = zeros z m := by
    apply Array.ext'
    rw [toList_madeCells_one]; simp [zeros]
  rw [e]
  rfl
end

end Go.Proofs.Ytcoehbkjccfhlaa
