/- The law's text, with more bytes behind it, by its contract. -/
import Derived.Test.YtglhnmbfkbjemaaGreatDoorBkA
import Derived.Lib.AppendStr
import Derived.Test.YtglhnmbfkbjemaaGreatDoorRows
import Derived.Test.YtglhnmbfkbjemaaGreatDoorShelf
import Derived.Test.YtglhnmbfkbjemaaGreatDoorCards
import Derived.Test.YtglhnmbfkbjemaaGreatDoorTie
import Derived.Laws.IdiomCopy
/- append of a string's bytes to a row of the call's own all cells of which are of one kind. -/
namespace Go.Proofs.YtglhnmbfkbjemaaGreatDoor
open Go Go.RowKit
section
variable {P : Program} (ok : Value → Prop) (w : World)
theorem run_append_row_string (base : Nat) (t u ty e : TypeId) (i : TypeInfo) (ht : P.underlying t = some (.slice e)) (hu : P.underlying u = some .string) (hi : P.info? e = some i) (hz : i.zero = some (.int .u8 0))
    (hsize : i.size = 1) (hby : i.bytes = 1) (hok : ok (.int .u8 0))
    (v : Value) (n : Nat) (xs : List Value) (hown : Row ok w base e v n xs) (s : ByteArray) (hoks : ∀ u ∈ Lib.strCells s, ok u)
    (h63 : n + s.size ≤ maxLen) (hbytes : n + s.size ≤ 140737488355328) (hbase : base ≤ w.heap.size) :
    ∃ v' w', (Builtin.append_ #[t, u] ty #[v, .string s]).run P w = .ok v' w' ∧ Row ok w' base e v' (n + s.size) (xs ++ Lib.strCells s) ∧ w.grownBy w' v.ownBlock ∧ (v' = .slice none 0 0 ↔ v = .slice none 0 0 ∧ s.size = 0) := by
  have hsmall : n + s.size ≤ 9223372036854775807 := by simp only [maxLen] at h63; omega
  have hxl := hown.1
  have hsl := Lib.strCells_length s
  have hlen : (xs ++ Lib.strCells s).length = n + s.size := by rw [List.length_append, hxl, hsl]
  have hz1 : (Value.int IntKind.u8 0).cells = #[.int .u8 0] := rfl
  have grown : ∀ (old : Nat), old < n + s.size → ∀ (row : Option Nat),
      Row ok (w.drew.alloc (.cells (xs.toArray ++ (Lib.strCells s).toArray ++ Builtin.zeroCells (Value.int IntKind.u8 0).cells (grownCap w (n + s.size) old e - (n + s.size))) e)) base e
        (.slice (some ⟨w.heap.size, 0, none⟩) (n + s.size) (grownCap w (n + s.size) old e)) (n + s.size) (xs ++ Lib.strCells s) ∧
      w.grownBy (w.drew.alloc (.cells (xs.toArray ++ (Lib.strCells s).toArray ++ Builtin.zeroCells (Value.int IntKind.u8 0).cells (grownCap w (n + s.size) old e - (n + s.size))) e)) row := by
    intro old ho row
    have hge := grownCap_ge w (n + s.size) old e
    have hcm : grownCap w (n + s.size) old e ≤ maxLen := grownCap_le_maxLen w (n + s.size) old e h63
    have hxo : ∀ u ∈ xs, ok u := by
      intro u hu
      rcases hown.2 with ⟨_, h0⟩ | ⟨g, cap, cur, _, _, _, _, _, _, htake, hall⟩
      · have : xs = [] := List.eq_nil_of_length_eq_zero (by rw [hown.1, h0])
        rw [this] at hu; cases hu
      · rw [← htake] at hu
        exact hall u (List.mem_of_mem_take hu)
    refine ⟨⟨hlen, .inr ⟨w.heap.size, _, _, rfl, hbase, heap_alloc_new w.drew _, hge, hcm, ?_, ?_, ?_⟩⟩, ⟨rfl, rfl, rfl, by simp, fun k hk _ => heap_alloc_old w.drew _ hk⟩⟩
    · simp only [Array.size_append, List.size_toArray, size_zeroCells, hz1, hxl, hsl]
      simp
      omega
    · simp only [Array.toList_append, List.append_assoc]
      rw [← List.append_assoc, ← hlen]
      exact List.take_left
    · intro u hu
      simp only [Array.toList_append, List.mem_append] at hu
      rcases hu with (hu | hu) | hu
      · exact hxo u hu
      · exact hoks u hu
      · rw [mem_zeroCells hz1 hu]; exact hok
  rcases hown.2 with ⟨rfl, rfl⟩ | ⟨g, cap, cur, rfl, hbg, hg, hnc, hcm, hcs, htake, hall⟩
  · have hx : xs = [] := List.eq_nil_of_length_eq_zero hxl
    subst hx
    by_cases hs0 : s.size = 0
    · have hc : Lib.strCells s = [] := List.eq_nil_of_length_eq_zero (by rw [hsl, hs0])
      refine ⟨.slice none 0 0, w, ?_, by rw [hs0, hc]; exact Row.nil ok w base e, ⟨rfl, rfl, rfl, Nat.le_refl _, fun _ _ _ => rfl⟩, by simp [hs0]⟩
      have hf : (Builtin.firstCells 1 0 (.string s)).run P w = .ok #[] w := by
        have := Lib.run_firstCells_string (P := P) w 1 s
        rw [hs0, hc] at this
        exact this
      simp [Builtin.append_, run_underlying ht, run_underlying hu, sizeOf, typeInfo, hi, hsize, Builtin.lenOf, hs0, hf]
    · have hr := run_append_nil_string (P := P) w t u ty e i _ ht hu hi hz s (by omega) (by omega) (by rw [hby]; omega)
      have hgr := grown 0 (by omega) (Value.ownBlock (.slice none 0 0))
      have hcc : (s.data.map (fun b => Value.int .u8 (b.toNat : Int))) = (Lib.strCells s).toArray := by
        apply Array.ext'
        simp [Lib.strCells]
      rw [hcc] at hr
      simp only [Nat.zero_add, List.nil_append, Array.empty_append] at hgr ⊢
      exact ⟨_, _, hr, hgr.1, hgr.2, by simp [hs0]⟩
  · by_cases hroom : n + s.size ≤ cap
    · have hr := Lib.run_append_room_string (P := P) w t u ty e i ht hu hi hsize g n cap cur hg s hroom (by omega)
      refine ⟨_, _, hr, ⟨hlen, .inr ⟨g, cap, _, rfl, hbg, setRow_heap w g cur _ e _ hg, hroom, hcm, ?_, ?_, ?_⟩⟩, ⟨rfl, rfl, rfl, by simp, fun k _ hk => setRow_other w g k _ (fun e => hk (by simp [Value.ownBlock, e]))⟩, by simp⟩
      · simp only [List.size_toArray, List.length_append, List.length_take, List.length_drop, Array.length_toList]
        omega
      · rw [htake, ← hlen]
        exact List.take_left
      · intro u hu
        simp only [List.mem_append] at hu
        rcases hu with (hu | hu) | hu
        · exact hall u (List.mem_of_mem_take hu)
        · exact hoks u hu
        · exact hall u (List.mem_of_mem_drop hu)
    · have holds : ∀ j u, xs[j]? = some u → w.cell? ((⟨g, 0, none⟩ : Addr).add j) = some u := hown.own.cells (g := g) rfl
      have hr := Lib.run_append_grow_string (P := P) w t u ty e i (.int .u8 0) ht hu hi hz ⟨g, 0, none⟩ n cap xs (by rw [hxl, hsize]; omega) holds s (by omega) (by omega) (by rw [hby]; exact growslice_fits (by omega) (by omega))
      have hgr := grown cap (by omega) (Value.ownBlock (.slice (some ⟨g, 0, none⟩) n cap))
      exact ⟨_, _, hr, hgr.1, hgr.2, by simp⟩
theorem wpList_append_row_string {ops : Array Oper} {rest : List Oper} {o : Oper} {a : Act} {Q : Exit → Act → World → Prop} (hgd : o.guard = none) (sl x : Operand) (t u : TypeId)
    (ho : o.op = .call { callee := .builtin .append, args := #[sl, x], argTypes := #[t, u] })
    (base : Nat) (e : TypeId) (i : TypeInfo) (ht : P.underlying t = some (.slice e)) (hu : P.underlying u = some .string) (hi : P.info? e = some i) (hz : i.zero = some (.int .u8 0))
    (hsize : i.size = 1) (hby : i.bytes = 1) (hok : ok (.int .u8 0))
    (v : Value) (n : Nat) (xs : List Value) (hs : a.eval sl = v) (hown : Row ok w base e v n xs) (s : ByteArray) (hx : a.eval x = .string s) (hoks : ∀ u ∈ Lib.strCells s, ok u)
    (h63 : n + s.size ≤ maxLen) (hbytes : n + s.size ≤ 140737488355328) (hbase : base ≤ w.heap.size)
    (h : ∀ v' w', Row ok w' base e v' (n + s.size) (xs ++ Lib.strCells s) → w.grownBy w' v.ownBlock → (v' = .slice none 0 0 ↔ v = .slice none 0 0 ∧ s.size = 0) → wpList P ops Q rest (a.put o.dst v') w') : wpList P ops Q (o :: rest) a w := by
  refine wpList_plain hgd fun K hK => ?_
  obtain ⟨v', w', hr, h2, h3, h4⟩ := run_append_row_string (P := P) ok w base t u o.type e i ht hu hi hz hsize hby hok v n xs hown s hoks h63 hbytes hbase
  unfold Oper.wp execOp
  simp only [ho, resolve, invoke, builtin, Sem.run_bind, Sem.run_pure, Result.andThen_ok, List.map_toArray, List.map_cons, List.map_nil, hs, hx, hr]
  exact hK _ _ (h v' w' h2 h3 h4)
end
def isByte (u : Value) : Prop := ∃ b : UInt8, u = bv b
theorem isByte_zero : isByte (.int .u8 0) := ⟨0, rfl⟩
theorem isByte_all (bs : List UInt8) : ∀ u ∈ bs.map bv, isByte u := by
  intro u hu
  obtain ⟨x, _, rfl⟩ := List.mem_map.1 hu
  exact ⟨x, rfl⟩
theorem isByte_str (s : ByteArray) : ∀ u ∈ Lib.strCells s, isByte u := by
  intro u hu
  simp only [Lib.strCells, List.mem_map] at hu
  obtain ⟨b, _, rfl⟩ := hu
  exact ⟨b, rfl⟩
theorem strCells_str (bs : List UInt8) : Lib.strCells (str bs) = bs.map bv := by simp [Lib.strCells, str, bv]
theorem size_str (bs : List UInt8) : (str bs).size = bs.length := by simp [str, ByteArray.size]
def sv (l : List UInt8) : Value := .string (str l)
theorem sv_one (ls : List (List UInt8)) : ∀ u ∈ ls.map sv, u.oneCell' = true := by
  intro u hu
  obtain ⟨x, _, rfl⟩ := List.mem_map.1 hu
  rfl
theorem sees_one (w : World) (x : Value) (e : TypeId) : Sees (w.alloc (.cells #[x] e)) (some ⟨w.heap.size, 0, none⟩) 1 1 [x] := by
  refine ⟨rfl, Nat.le_refl _, (fun e => by cases e), fun _ => ⟨w.heap.size, 0, rfl, by simp, fun j hj => ?_⟩⟩
  have : j = 0 := by omega
  subst this
  rw [World.cell?_alloc_at _ _ _ _ rfl]
  rfl
def anyCell (_ : Value) : Prop := True
end Go.Proofs.YtglhnmbfkbjemaaGreatDoor
/- bytes.Clone, by its contract: a copy in new memory. -/
namespace Go.Proofs.YtglhnmbfkbjemaaGreatDoor
open Go Go.RowKit
theorem info_u8 : (Tryz.prog.info? 5).map (fun i => (i.zero, i.size, i.bytes)) = some (some (.int .u8 0), 1, 1) := by kernel_rfl
set_option maxRecDepth 100000 in
set_option maxHeartbeats 400000 in
theorem clone_any (bs : List UInt8) (a : Option Addr) (n c : Nat) (w : World) (h : Sees w a n c (bs.map bv)) (hn : n ≤ 140737488355328) :
    Calls Tryz.prog 39 #[.slice a n c] w fun e w' => ∃ v, e = .returned v ∧ Row isByte w' w.heap.size 5 v n (bs.map bv) ∧ Below w.heap.size w w' := by
  obtain ⟨i0, hi, hz0, hz1, hz2⟩ := info_parts info_u8
  have q := fun (w : World) (a : Option Addr) (n c n' c' : Nat) => Lib.run_eql_slice_nil (P := Tryz.prog) w 27 5 a n c n' c' Tryz.underlying27
  have H : Hid (Sees w a n c (bs.map bv)) := h
  clear h
  cases a with
  | none =>
    go_enter Tryz.func39, Tryz.ntmps39
    go_wp2
    go_ret
    have h := H.out
    have h0 : n = 0 := by have := h.cap; have := h.nilc rfl; omega
    subst h0
    have hx : bs.map bv = [] := List.eq_nil_of_length_eq_zero h.len
    exact ⟨_, rfl, by rw [hx]; exact Row.nil _ _ _ _, Below.refl _ _⟩
  | some ad =>
    go_enter Tryz.func39, Tryz.ntmps39
    go_wp2_with (at_builtin; refine wpList_append_row isByte _ rfl _ _ 27 rfl w.heap.size 5 i0 (.int .u8 0) 1 Tryz.underlying27 hi hz0 hz1 hz2 rfl isByte_zero _ _ _ rfl (Row.made #[] 0 (Nat.le_refl _) (Nat.zero_le _) (Nat.zero_le _) (by simp)) (some ad) n c (bs.map bv) rfl ?qc1 (bv_one bs) (isByte_all bs) ?qc4 ?qc5 ?qc6 ?_)
    case qc1 => exact H.out.below ((Below.refl _ _).alloc (Nat.le_refl _) _)
    case qc4 => unfold maxLen; omega
    case qc5 => omega
    case qc6 => simp
    intro v' w1 hown hgrow hnil
    go_wp2
    go_ret
    exact ⟨v', rfl, by simpa using hown, ((Below.refl _ w).alloc (Nat.le_refl _) _).grown hgrow (by simp) (by intro k hk; simp [Value.ownBlock] at hk; omega)⟩
theorem clone_from (w0 : World) (bs : List UInt8) (a : Option Addr) (n c : Nat) (w : World) (h : Sees w0 a n c (bs.map bv)) (hb : Below w0.heap.size w0 w) (hn : n ≤ 140737488355328) :
    Calls Tryz.prog 39 #[.slice a n c] w fun e w' => ∃ v, e = .returned v ∧ Row isByte w' w.heap.size 5 v n (bs.map bv) ∧ Below w.heap.size w w' :=
  clone_any bs a n c w (h.below hb) hn
end Go.Proofs.YtglhnmbfkbjemaaGreatDoor
/- strconv.AppendUint at base 10, by its contract: what comes back owns the cells and, behind them, the numeral; all its cells, the spare ones too, are bytes. -/
namespace Go.Proofs.YtglhnmbfkbjemaaGreatDoor
open Go Go.RowKit Go.Sort
def Tab (w : World) : Prop := Lib.TabIs Tryz.prog w "internal/strconv.uint64pow10" .u64 Lib.pow10Tab
theorem Tab.below {w w' : World} {B : Nat} (h : Tab w) (hb : Below B w w') (hB : w.heap.size ≤ B) : Tab w' := by
  unfold Tab Lib.TabIs at h ⊢
  unfold World.var? at h ⊢
  cases hg : Tryz.prog.globalNamed "internal/strconv.uint64pow10" with
  | none => simp [hg] at h
  | some g =>
    simp only [hg, Option.bind_some] at h ⊢
    have hlt : g < w.heap.size := by
      rcases Nat.lt_or_ge g w.heap.size with h' | h'
      · exact h'
      · simp [Array.getElem?_eq_none h'] at h
    rw [hb.block g (by omega)]
    exact h
theorem dec_len (u : Nat) (hu64 : u < 18446744073709551616) : (Lib.decDigits u).length ≤ 20 := by
  rw [Lib.decDigits_length]
  rcases Nat.eq_zero_or_pos u with h0 | h1
  · subst h0; rw [Lib.nDigits_small (by omega)]; omega
  · have := Lib.numDigits_eq u h1 hu64; split at this <;> omega
set_option maxHeartbeats 6400000 in
set_option maxRecDepth 100000 in
theorem appu_small (B n u : Nat) (hu : u < 100) (sv : Value) (xs : List Value) (w : World) (hown : Row isByte w B 5 sv n xs) (hBw : B ≤ w.heap.size) (hlim : n + 20 ≤ 140737488355328) :
    Calls Tryz.prog 85 #[sv, .int .u64 u, .int .i64 10] w fun e w' => ∃ v', e = .returned v' ∧ Row isByte w' B 5 v' (n + (Lib.decDigits u).length) (xs ++ (Lib.decDigits u).map bv) ∧ Below B w w' := by
  obtain ⟨i0, hi, hz0, hz1, hz2⟩ := info_parts info_u8
  have hlen := dec_len u (by omega)
  have hsz : (str (Lib.decDigits u)).size = (Lib.decDigits u).length := size_str _
  go_enter Tryz.func85, Tryz.ntmps85
  go_wp2_with (first
    | (go_at_call 110; refine (Tryz.internal_strconv_small u hu _).mono ?_; rintro e w' ⟨rfl, rfl⟩)
    | (at_builtin; refine wpList_append_row_string isByte _ rfl _ _ 27 9 rfl B 5 i0 Tryz.underlying27 Tryz.underlying9 hi hz0 hz1 hz2 isByte_zero _ _ _ rfl hown (str (Lib.decDigits u)) rfl (isByte_str _) (by rw [hsz]; unfold maxLen; omega) (by rw [hsz]; omega) hBw ?_))
  intro v' w1 hown' hgrow _
  go_wp2
  go_ret
  refine ⟨v', rfl, ?_, (Below.refl B _).grown hgrow hBw (fun k hk => (hown.own.lt k hk).1)⟩
  first
    | exact hown'
    | (have h5 := hown'; rw [strCells_str] at h5; simpa [hsz] using h5)
set_option maxHeartbeats 12800000 in
set_option maxRecDepth 100000 in
theorem appu_big (B n u : Nat) (hu : 100 ≤ u) (hu64 : u < 18446744073709551616) (sv : Value) (xs : List Value) (w : World) (hown : Row isByte w B 5 sv n xs) (hBw : B ≤ w.heap.size) (hlim : n + 20 ≤ 140737488355328)
    (htab : Tab w) :
    Calls Tryz.prog 85 #[sv, .int .u64 u, .int .i64 10] w fun e w' => ∃ v', e = .returned v' ∧ Row isByte w' B 5 v' (n + (Lib.decDigits u).length) (xs ++ (Lib.decDigits u).map bv) ∧ Below B w w' := by
  obtain ⟨i0, hi, hz0, hz1, hz2⟩ := info_parts info_u8
  have hu1 : 1 ≤ u := by omega
  have hnd20 : Lib.nDigits u ≤ 20 := by have := Lib.numDigits_eq u hu1 hu64; split at this <;> omega
  have hal : Tryz.prog.arrayLen 159 = 24 := by simp [Program.arrayLen, Tryz.underlying159]
  have hsl : ∀ W, (Instr.sliceAt 159 (.pointer (some ⟨w.heap.size, 0, none⟩)) none (some (.int .i64 (Lib.nDigits u : Int))) none).run Tryz.prog W = .ok (.slice (some ⟨w.heap.size, 0, none⟩) (Lib.nDigits u) 24) W := fun W => by
    rw [run_sliceAt_array_h W 159 ⟨w.heap.size, 0, none⟩ (by simp [Program.arrayLen, Program.elem, Tryz.underlying159]) .i64 (Lib.nDigits u : Int) (by omega) (by rw [hal]; omega)]
    go_simp
  have hH0 := Lib.holds_zero0 w 159 (Lib.nDigits u) (by omega)
  have hfmt := Tryz.internal_strconv_formatBase10 w.heap.size 0 24 u (Array.replicate (Lib.nDigits u) 0) (w.alloc (.cells Lib.zeros24 159)) hH0 (by rw [Array.size_replicate]; exact Lib.lt_pow_nDigits u) hu64 (by rw [Array.size_replicate]; omega)
  rw [Array.size_replicate] at hfmt
  have HH0 := Lib.hid hH0
  have iu : (100 : Int) ≤ (u : Int) := by omega
  have HOWN := Lib.hid hown
  clear hH0 hal hown
  go_enter Tryz.func85, Tryz.ntmps85
  go_wp2_with (first
    | (go_at_call 111; refine (Tryz.internal_strconv_numDigits u hu1 hu64 _ (Lib.tabIs_alloc htab _)).mono ?_; rintro e w' ⟨rfl, rfl⟩))
  refine hfmt.mono ?_
  rintro e w' ⟨rfl, k, v', dk, rfl, hF⟩
  have hcells : ∀ j u', (Lib.byteCells (Lib.decDigits u))[j]? = some u' → ((putRow (fun (b : UInt8) => Value.int .u8 (b.toNat : Int)) (w.alloc (.cells Lib.zeros24 159)) w.heap.size 0 dk).drewN k).cell? ((⟨w.heap.size, 0, none⟩ : Addr).add j) = some u' := by
    intro j u' hj
    have hjl : j < (Lib.decDigits u).length := by
      have h5 := (List.getElem?_eq_some_iff.1 hj).1
      rwa [Lib.byteCells_length] at h5
    have e5 : (Lib.byteCells (Lib.decDigits u))[j]? = some (Value.int .u8 ((Lib.decDigits u)[j].toNat : Int)) := by simp [Lib.byteCells, hjl]
    rw [e5] at hj
    cases hj
    rw [Lib.row_is_numeral hF j hjl, Lib.add_plain, World.cell?_drewN]
    exact cell?_putRow (fun (b : UInt8) => Value.int .u8 (b.toNat : Int)) _ w.heap.size 0 _ dk HH0.out (by rw [hF.size, Array.size_replicate]) j (by rw [hF.size]; rw [Lib.decDigits_length] at hjl; exact hjl)
  obtain ⟨os, eo⟩ := Lib.fin_at w (.cells Lib.zeros24 159) dk k 0
  have hnx2 : Below w.heap.size w ((putRow (fun (b : UInt8) => Value.int .u8 (b.toNat : Int)) (w.alloc (.cells Lib.zeros24 159)) w.heap.size 0 dk).drewN k) := by rw [eo]; exact Lib.below_grow w.heap.size w (Nat.le_refl _) k os
  have hsz1 : w.heap.size < ((putRow (fun (b : UInt8) => Value.int .u8 (b.toNat : Int)) (w.alloc (.cells Lib.zeros24 159)) w.heap.size 0 dk).drewN k).heap.size := by
    have hjl : 0 < (Lib.decDigits u).length := by rw [Lib.decDigits_length]; exact Lib.nDigits_pos u
    have h0 : (Lib.byteCells (Lib.decDigits u))[0]? = some (Value.int .u8 ((Lib.decDigits u)[0].toNat : Int)) := by simp [Lib.byteCells, hjl]
    exact World.block_lt_of_cell? _ _ (hcells 0 _ h0)
  generalize (putRow (fun (b : UInt8) => Value.int .u8 (b.toNat : Int)) (w.alloc (.cells Lib.zeros24 159)) w.heap.size 0 dk).drewN k = W2 at hcells hnx2 hsz1 ⊢
  have hown2 := HOWN.out.below hnx2
  have hsee : Sees W2 (some ⟨w.heap.size, 0, none⟩) (Lib.nDigits u) 24 ((Lib.decDigits u).map bv) := by
    refine ⟨by simp [Lib.decDigits_length], by omega, (fun e => by cases e), fun _ => ⟨w.heap.size, 0, rfl, hsz1, fun j hj => ?_⟩⟩
    have hjl : j < (Lib.decDigits u).length := by rw [Lib.decDigits_length]; exact hj
    have e5 : (Lib.byteCells (Lib.decDigits u))[j]? = some (Value.int .u8 ((Lib.decDigits u)[j].toNat : Int)) := by simp [Lib.byteCells, hjl]
    have := hcells j _ e5
    rw [Lib.add_plain] at this
    rw [Nat.zero_add] at this
    rw [Nat.zero_add, this]
    simp [bv, hjl]
  have HSEE := Lib.hid hsee
  clear eo HH0 hfmt hcells hsee
  go_wp2_with (at_builtin; refine wpList_append_row isByte _ rfl _ _ 27 rfl B 5 i0 (.int .u8 0) 1 Tryz.underlying27 hi hz0 hz1 hz2 rfl isByte_zero _ _ _ rfl hown2 (some ⟨w.heap.size, 0, none⟩) (Lib.nDigits u) 24 ((Lib.decDigits u).map bv) rfl HSEE.out (bv_one _) (isByte_all _) ?c3 ?c4 ?c5 ?_)
  case c3 => unfold maxLen; omega
  case c4 => omega
  case c5 => omega
  intro v2 w3 hown' hgrow _
  go_wp2
  go_ret
  refine ⟨v2, rfl, ?_, (hnx2.mono hBw).grown hgrow (by omega) (fun k hk => (hown2.own.lt k hk).1)⟩
  rw [Lib.decDigits_length]
  exact hown'
theorem appu (B n u : Nat) (hu64 : u < 18446744073709551616) (sv : Value) (xs : List Value) (w : World) (hown : Row isByte w B 5 sv n xs) (hBw : B ≤ w.heap.size) (hlim : n + 20 ≤ 140737488355328) (htab : Tab w) :
    Calls Tryz.prog 50 #[sv, .int .u64 u, .int .i64 10] w fun e w' => ∃ v', e = .returned v' ∧ Row isByte w' B 5 v' (n + (Lib.decDigits u).length) (xs ++ (Lib.decDigits u).map bv) ∧ Below B w w' := by
  have HC := Lib.hid (show Calls Tryz.prog 85 #[sv, .int .u64 u, .int .i64 10] w fun e w' => ∃ v', e = .returned v' ∧ Row isByte w' B 5 v' (n + (Lib.decDigits u).length) (xs ++ (Lib.decDigits u).map bv) ∧ Below B w w' from by
    rcases Nat.lt_or_ge u 100 with h | h
    · exact appu_small B n u h sv xs w hown hBw hlim
    · exact appu_big B n u h hu64 sv xs w hown hBw hlim htab)
  clear hown htab hu64
  go_enter Tryz.func50, Tryz.ntmps50
  go_wp2_with fail
  refine HC.out.mono ?_
  rintro e w1 ⟨v', rfl, hrow, hb⟩
  go_wp2
  go_ret
  exact ⟨v', rfl, hrow, hb⟩
end Go.Proofs.YtglhnmbfkbjemaaGreatDoor
/- lex.Write, by its contract. -/
namespace Go.Proofs.YtglhnmbfkbjemaaGreatDoor
open Go Go.RowKit Go.Joins
def tailOf : List Nat → List UInt8
  | [] => []
  | x :: r => 32 :: (Lib.decDigits x ++ tailOf r)
def bodyOf : List Nat → List UInt8
  | [] => []
  | x :: r => Lib.decDigits x ++ tailOf r
theorem tailOf_snoc : ∀ (l : List Nat) (x : Nat), tailOf (l ++ [x]) = tailOf l ++ 32 :: Lib.decDigits x
  | [], x => by simp [tailOf]
  | y :: r, x => by simp [tailOf, tailOf_snoc r x]
theorem bodyOf_snoc (l : List Nat) (x : Nat) : bodyOf (l ++ [x]) = if l = [] then Lib.decDigits x else bodyOf l ++ 32 :: Lib.decDigits x := by
  cases l with
  | nil => simp [bodyOf, tailOf]
  | cons y r => simp [bodyOf, tailOf_snoc]
theorem tailOf_len : ∀ (l : List Nat), (∀ x ∈ l, x < 4294967296) → (tailOf l).length ≤ 21 * l.length
  | [], _ => by simp [tailOf]
  | x :: r, h => by
    have := tailOf_len r (fun y hy => h y (by simp [hy]))
    have := dec_len x (by have := h x (by simp); omega)
    simp [tailOf]; omega
theorem bodyOf_len (l : List Nat) (h : ∀ x ∈ l, x < 4294967296) : (bodyOf l).length ≤ 21 * l.length := by
  cases l with
  | nil => simp [bodyOf]
  | cons x r =>
    have := tailOf_len r (fun y hy => h y (by simp [hy]))
    have := dec_len x (by have := h x (by simp); omega)
    simp [bodyOf]; omega
theorem bodyOf_step (l : List Nat) (k : Nat) (hk : k < l.length) : bodyOf (l.take (k + 1)) = if k = 0 then Lib.decDigits (l.getD k 0) else bodyOf (l.take k) ++ 32 :: Lib.decDigits (l.getD k 0) := by
  rw [List.take_succ_eq_append_getElem hk, bodyOf_snoc]
  have : l.take k = [] ↔ k = 0 := by
    rw [List.take_eq_nil_iff]
    constructor
    · rintro (h | h)
      · exact h
      · subst h; simp at hk
    · exact Or.inl
  simp only [this, List.getD, List.getElem?_eq_getElem hk, Option.getD_some]
structure WrInv (w wr : World) (cur : List UInt8) (v : Value) : Prop where
  row : Row isByte wr w.heap.size 5 v cur.length (cur.map bv)
  below : Below w.heap.size w wr
set_option maxRecDepth 100000 in
set_option maxHeartbeats 1600000 in
theorem write_any (bs : List UInt8) (l : List Nat) (a a' : Option Addr) (n c n' c' : Nat) (w : World) (h : Sees w a n c (bs.map bv)) (h' : Sees w a' n' c' (l.map nv32)) (hn : n ≤ 1200000) (hn' : n' ≤ 1200000)
    (h32 : ∀ x ∈ l, x < 4294967296) (htab : Tab w) :
    Calls Tryz.prog 20 #[.slice a n c, .slice a' n' c'] w fun e w' => ∃ v, e = .returned v ∧ Row isByte w' w.heap.size 5 v (bs ++ (bodyOf l ++ [10])).length ((bs ++ (bodyOf l ++ [10])).map bv) ∧ Below w.heap.size w w' := by
  obtain ⟨i0, hi, hz0, hz1, hz2⟩ := info_parts info_u8
  have hl : bs.length = n := by have := h.len; simpa using this
  have hl' : l.length = n' := by have := h'.len; simpa using this
  have hmk := run_make_cap (P := Tryz.prog) Tryz.underlying27 hi hz0 hz1 hz2 rfl (n + 2 * n' + 1) ((n : Int) + 2 * (n' : Int) + 1) (by omega) (by omega) (by omega)
  have hlens : ∀ k, (bs ++ bodyOf (l.take k)).length ≤ 30000000 := fun k => by
    have h1 := bodyOf_len (l.take k) (fun x hx => h32 x (List.mem_of_mem_take hx))
    have h2 : (l.take k).length ≤ n' := by simp; omega
    rw [List.length_append]
    omega
  have HS := Lib.hid h
  have HS' := Lib.hid h'
  have HL := Lib.hid hl
  have HL' := Lib.hid hl'
  have H32 := Lib.hid h32
  have HT := Lib.hid htab
  have HLEN := Lib.hid hlens
  have hrow0 : Row isByte (w.alloc (.cells (zeros (.int .u8 0) (n + 2 * n' + 1)) 5)) w.heap.size 5 (.slice (some ⟨w.heap.size, 0, none⟩) 0 (n + 2 * n' + 1)) 0 [] := by
    have := Row.made (ok := isByte) (w := w) (base := w.heap.size) (e := 5) (zeros (.int .u8 0) (n + 2 * n' + 1)) 0 (Nat.le_refl _) (by rw [size_zeros]; unfold maxLen; omega) (Nat.zero_le _) (by
      intro u hu
      simp only [zeros, List.mem_replicate] at hu
      rw [hu.2]; exact isByte_zero)
    rw [size_zeros] at this
    exact this
  have HR0 := Lib.hid hrow0
  clear h h' hl hl' h32 htab hlens hrow0
  go_enter Tryz.func20, Tryz.ntmps20
  go_wp2_with (at_builtin; refine wpList_append_row isByte _ rfl _ _ 27 rfl w.heap.size 5 i0 (.int .u8 0) 1 Tryz.underlying27 hi hz0 hz1 hz2 rfl isByte_zero _ _ _ rfl HR0.out a n c (bs.map bv) rfl (HS.out.below ((Below.refl _ _).alloc (Nat.le_refl _) _)) (bv_one bs) (isByte_all bs) ?qc4 ?qc5 ?qc6 ?_)
  case qc4 => unfold maxLen; omega
  case qc5 => omega
  case qc6 => simp
  intro v1 w1 hrow1 hgrow1 _
  have hb1 : Below w.heap.size w w1 := ((Below.refl _ w).alloc (Nat.le_refl _) _).grown hgrow1 (by simp) (by intro k hk; simp [Value.ownBlock] at hk; omega)
  have HI1 : Hid (WrInv w w1 bs v1) := ⟨by simpa [HL.out] using hrow1, hb1⟩
  clear hrow1 hgrow1 hb1
  go_wp2
  go_loopw [5, 6, 7, 21] (fun v _ _ j wr => ∃ (k : Nat) (cur : List UInt8), k ≤ n' ∧ j = .int .i64 k ∧ Hid (cur = bs ++ bodyOf (l.take k)) ∧ Hid (WrInv w wr cur v)) (fun _ _ _ j _ => n' - (intOf j).toNat)
  case atStart => exact ⟨0, bs, Nat.zero_le _, rfl, (by show bs = _; simp [bodyOf]), HI1⟩
  case round =>
    obtain ⟨k, cur, hk, rfl, hcur, hinv⟩ := hrel
    have hlen : cur.length ≤ 30000000 := by rw [hcur.out]; exact HLEN.out k
    have HLK := Lib.hid hlen
    clear hlen
    by_cases hlt : k < n'
    · obtain ⟨b, off, ea, hbw⟩ := HS'.out.addr (by omega)
      have hsee := HS'.out.below (w' := wr) hinv.out.below
      rw [ea] at hsee ⊢
      obtain ⟨x, hx⟩ : ∃ x : Nat, x = l.getD k 0 := ⟨_, rfl⟩
      have hcx := hsee.num k hlt
      rw [← hx] at hcx
      have hx32 : x < 4294967296 := by
        rw [hx]
        have : l.getD k 0 ∈ l := by simp [List.getD, List.getElem?_eq_getElem (show k < l.length by rw [HL'.out]; exact hlt)]
        exact H32.out _ this
      have HX := Lib.hid hx
      have hstep := bodyOf_step l k (by rw [HL'.out]; exact hlt)
      rw [← hx] at hstep
      have HST := Lib.hid hstep
      have hsz := hinv.out.below.size
      have HSZ := Lib.hid hsz
      have HD := Lib.hid (dec_len x (by omega))
      clear hsee hx ea hstep hsz
      by_cases hk0 : k = 0
      · subst hk0
        rw [Nat.add_zero] at hcx
        go_wp2_with fail
        refine (appu w.heap.size cur.length x (by omega) _ _ wr hinv.out.row HSZ.out (by have := HLK.out; omega) (HT.out.below hinv.out.below (Nat.le_refl _))).mono ?_
        rintro e w2 ⟨v2, rfl, hrow2, hb2⟩
        have HI2 : Hid (WrInv w w2 (cur ++ Lib.decDigits x) v2) := by
          refine ⟨?_, hinv.out.below.trans hb2⟩
          rw [List.length_append, List.map_append]
          exact hrow2
        have HC2 : Hid (cur ++ Lib.decDigits x = bs ++ bodyOf (l.take 1)) := by
          have e1 : bodyOf (l.take (0 + 1)) = Lib.decDigits x := HST.out
          have e2 := hcur.out
          show _ = bs ++ bodyOf (l.take (0 + 1))
          rw [e1, e2]; simp [bodyOf]
        clear hrow2 hb2 hinv
        go_wp2
        go_roundw
        case rel => exact ⟨1, _, by omega, by go_num, HC2, HI2⟩
        case measure => simp [intOf]; omega
      · have hkp : (0 : Int) < (k : Int) := by omega
        go_wp2_with (at_builtin; refine wpList_append_row isByte _ rfl _ _ 27 rfl w.heap.size 5 i0 (.int .u8 0) 1 Tryz.underlying27 hi hz0 hz1 hz2 rfl isByte_zero _ _ _ rfl (hinv.out.row.below ((Below.refl _ _).alloc (Nat.le_refl _) _)) (some ⟨wr.heap.size, 0, none⟩) 1 1 [bv 32] rfl (sees_one _ _ _) (bv_one [32]) (isByte_all [32]) ?r4 ?r5 ?r6 ?_)
        case r4 => have := HLK.out; unfold maxLen; omega
        case r5 => have := HLK.out; omega
        case r6 => have := HSZ.out; simp; omega
        intro v2 w2 hrow2 hgrow2 _
        have hlt2 := hinv.out.row.own.lt
        have hb2 : Below w.heap.size w w2 := (hinv.out.below.alloc HSZ.out _).grown hgrow2 (by have := HSZ.out; simp; omega) (fun k hk => (hlt2 k hk).1)
        have HR2 := Lib.hid hrow2
        have HB2 := Lib.hid hb2
        clear hrow2 hgrow2 hlt2 hb2
        go_wp2_with fail
        refine (appu w.heap.size (cur.length + 1) x (by omega) v2 _ w2 HR2.out HB2.out.size (by have := HLK.out; omega) (HT.out.below HB2.out (Nat.le_refl _))).mono ?_
        rintro e w3 ⟨v3, rfl, hrow3, hb3⟩
        have HI3 : Hid (WrInv w w3 ((cur ++ [32]) ++ Lib.decDigits x) v3) := by
          refine ⟨?_, HB2.out.trans hb3⟩
          have e2 : ((cur ++ [32]) ++ Lib.decDigits x).length = cur.length + 1 + (Lib.decDigits x).length := by simp only [List.length_append, List.length_cons, List.length_nil]
          have e3 : ((cur ++ [32]) ++ Lib.decDigits x).map bv = (cur.map bv ++ [bv 32]) ++ (Lib.decDigits x).map bv := by simp only [List.map_append, List.map_cons, List.map_nil]
          rw [e2, e3]
          exact hrow3
        have HC3 : Hid ((cur ++ [32]) ++ Lib.decDigits x = bs ++ bodyOf (l.take (k + 1))) := by
          have e1 := HST.out
          rw [if_neg hk0] at e1
          show _ = _
          rw [e1, hcur.out]; simp
        clear hrow3 hb3 hinv HR2 HB2
        go_wp2
        go_roundw
        case rel => exact ⟨k + 1, _, by omega, by go_num, HC3, HI3⟩
        case measure => simp [intOf]; omega
    · have hkn : k = n' := by omega
      subst hkn
      have hfull : l.take k = l := List.take_of_length_le (by rw [HL'.out]; exact Nat.le_refl _)
      have HF := Lib.hid hfull
      have HSZ := Lib.hid hinv.out.below.size
      clear hfull
      go_wp2_with (at_builtin; refine wpList_append_row isByte _ rfl _ _ 27 rfl w.heap.size 5 i0 (.int .u8 0) 1 Tryz.underlying27 hi hz0 hz1 hz2 rfl isByte_zero _ _ _ rfl (hinv.out.row.below ((Below.refl _ _).alloc (Nat.le_refl _) _)) (some ⟨wr.heap.size, 0, none⟩) 1 1 [bv 10] rfl (sees_one _ _ _) (bv_one [10]) (isByte_all [10]) ?s4 ?s5 ?s6 ?_)
      case s4 => have := HLK.out; unfold maxLen; omega
      case s5 => have := HLK.out; omega
      case s6 => have := HSZ.out; simp; omega
      intro v2 w2 hrow2 hgrow2 _
      have hlt2 := hinv.out.row.own.lt
      have hb2 : Below w.heap.size w w2 := (hinv.out.below.alloc HSZ.out _).grown hgrow2 (by have := HSZ.out; simp; omega) (fun k hk => (hlt2 k hk).1)
      have HR2 := Lib.hid hrow2
      have HB2 := Lib.hid hb2
      clear hrow2 hgrow2 hlt2 hb2
      go_wp2
      go_ret
      refine ⟨v2, rfl, ?_, HB2.out⟩
      have h := HR2.out
      have e1 := hcur.out
      rw [HF.out] at e1
      have : (bs ++ (bodyOf l ++ [10])) = cur ++ [10] := by rw [e1]; simp
      rw [this, List.length_append, List.map_append]
      exact h
end Go.Proofs.YtglhnmbfkbjemaaGreatDoor
/- The tables of the library's that the rows list: what the list gives the walk, and a world in which it is met. -/
namespace Go.Proofs.YtglhnmbfkbjemaaGreatDoor
open Go Go.ChangeShapes Go.WideShapes Go.ChangeAt Go.RowKit
theorem gPow : Tryz.prog.globalNamed "internal/strconv.uint64pow10" = some 1 := by kernel_rfl
theorem gPowType : (Tryz.prog.globals[1]?).map (·.type) = some 176 := by kernel_rfl
theorem cellsPow : Tryz.prog.cellsOf 176 = 20 := by kernel_rfl
theorem cells64 : Tryz.prog.cellsOf 88 = 1 := by kernel_rfl
theorem tab_of {W : World} (h : laidMetH Tryz.prog Rows.binBackRow.laid W) : Tab W :=
  Lib.tabIs_of_head (rest := []) gPow gPowType Tryz.underlying176 Tryz.underlying88 cells64 cellsPow (laidMet.tail (laidMet.tail h))
def tabCells (d : DataW Unit) : Array Value := match d with
  | .agg l => (l.map fun x => match x with | .lit (.int k n) => Value.int k n | _ => .int .u8 0).toArray
  | _ => #[]
def refill (C : Array Value) : Obj → Obj
  | .cells _ t frozen => .cells C t frozen
  | o => o
noncomputable def laidWorld (os : Os) : World :=
  { World.holding Tryz.prog os ⟨#[], #[], []⟩ with heap := (((World.holding Tryz.prog os ⟨#[], #[], []⟩).heap.modify 1 (refill (tabCells Rows.laid_internal_strconv_uint64pow10))).modify
      2 (refill (tabCells Rows.laid_math_bits_deBruijn32tab))).modify 3 (refill (tabCells Rows.laid_math_bits_deBruijn64tab)) }
end Go.Proofs.YtglhnmbfkbjemaaGreatDoor
/- append to a row of the call's own whose mark lies behind its cells: '[]byte(string)' makes such a one. -/
namespace Go.Proofs.YtglhnmbfkbjemaaGreatDoor
open Go Go.RowKit Go.Joins
structure FRow (w : World) (base : Nat) (v : Value) (n : Nat) (xs : List Value) (g cap : Nat) : Prop where
  form : v = .slice (some ⟨g, 0, none⟩) n cap
  le : base ≤ g
  sees : Sees w (some ⟨g, 0, none⟩) n cap xs
  max : cap ≤ maxLen
  lt : g < w.heap.size
  cells : ∀ j, j < cap → (w.cell? ⟨g, j, none⟩).isSome = true ∧ w.frozen? ⟨g, j, none⟩ = false
theorem below_setCells {B b : Nat} {w0 : World} : ∀ (vs : List Value) (o : Nat) (w : World), Below B w0 w → B ≤ b → Below B w0 (w.setCells b o vs)
  | [], _, _, h, _ => h
  | v :: r, o, _, h, hb => below_setCells r (o + 1) _ (h.setCell (p := ⟨b, o, none⟩) hb v) hb
theorem size_setCells (b : Nat) : ∀ (vs : List Value) (o : Nat) (w : World), (w.setCells b o vs).heap.size = w.heap.size
  | [], _, _ => rfl
  | v :: r, o, w => by rw [World.setCells, size_setCells b r]; simp
theorem grown_setCells (g : Nat) : ∀ (vs : List Value) (o : Nat) (w : World), w.grownBy (w.setCells g o vs) (some g)
  | [], _, w => ⟨rfl, rfl, rfl, Nat.le_refl _, fun _ _ _ => rfl⟩
  | v :: r, o, w => by
    have h1 : w.grownBy (w.setCell ⟨g, o, none⟩ v) (some g) := ⟨rfl, rfl, rfl, by simp, fun k _ hk => Below.heap_setCell _ ⟨g, o, none⟩ _ k (fun e => hk (by rw [e]))⟩
    have h2 := grown_setCells g r (o + 1) (w.setCell ⟨g, o, none⟩ v)
    exact ⟨h2.os.trans h1.os, h2.tape.trans h1.tape, h2.output.trans h1.output, Nat.le_trans h1.size h2.size, fun b hb hr => (h2.block b (Nat.lt_of_lt_of_le hb h1.size) hr).trans (h1.block b hb hr)⟩
theorem FRow.of_row {ok : Value → Prop} {w : World} {base : Nat} {e : TypeId} {v : Value} {n : Nat} {xs : List Value} (h : Row ok w base e v n xs) (hn : 0 < n) : ∃ g cap, FRow w base v n xs g cap := by
  rcases h.2 with ⟨_, h0⟩ | ⟨g, cap, cur, rfl, hb, hg, hnc, hm, hcs, ht, _⟩
  · omega
  · obtain ⟨a, c, e, _, hs⟩ := h.sees
    cases e
    refine ⟨g, cap, rfl, hb, hs, hm, heap_lt hg, fun j hj => ⟨?_, unfrozen_of_block hg j⟩⟩
    rw [cell_of_block hg j, Array.getElem?_eq_getElem (by omega)]
    rfl
theorem FRow.below {w w' : World} {base : Nat} {v : Value} {n : Nat} {xs : List Value} {g cap : Nat} (h : FRow w base v n xs g cap) (hb : Below w.heap.size w w') : FRow w' base v n xs g cap :=
  ⟨h.form, h.le, h.sees.below hb, h.max, Nat.lt_of_lt_of_le h.lt hb.size, fun j hj => ⟨by rw [hb.cell (p := ⟨g, j, none⟩) h.lt]; exact (h.cells j hj).1, by rw [hb.frozen (p := ⟨g, j, none⟩) h.lt]; exact (h.cells j hj).2⟩⟩
theorem run_append_frow {P : Program} (ok : Value → Prop) (w : World) (base : Nat) (t ty e : TypeId) (i : TypeInfo) (z : Value) (bytes : Nat) (ht : P.underlying t = some (.slice e)) (hi : P.info? e = some i) (hz : i.zero = some z)
    (hsize : i.size = 1) (hby : i.bytes = bytes) (hzs : z.cells = #[z]) (hok : ok z)
    (v : Value) (n : Nat) (xs : List Value) (g cap : Nat) (hown : FRow w base v n xs g cap) (_hn : 0 < n) (hxo : ∀ u ∈ xs, ok u)
    (a : Option Addr) (m c : Nat) (news : List Value) (hsee : Sees w a m c news) (h1 : ∀ u ∈ news, u.oneCell' = true) (hoks : ∀ u ∈ news, ok u)
    (h63 : n + m ≤ maxLen) (hbytes : (n + m) * bytes ≤ 140737488355328) (hbase : base ≤ w.heap.size) :
    ∃ v' w' g' cap', (Builtin.append_ #[t, t] ty #[v, .slice a m c]).run P w = .ok v' w' ∧ FRow w' base v' (n + m) (xs ++ news) g' cap' ∧ Below base w w' ∧ w.grownBy w' (some g) := by
  obtain ⟨rfl, hbg, hs, hmx, hlt, hcells⟩ := hown
  have hl := hsee.len
  have hxl := hs.len
  have hnc := hs.cap
  by_cases hm : m = 0
  · subst hm
    have hne : news = [] := List.eq_nil_of_length_eq_zero hl
    subst hne
    refine ⟨.slice (some ⟨g, 0, none⟩) n cap, w, g, cap, ?_, ⟨rfl, hbg, by simpa using hs, hmx, hlt, hcells⟩, Below.refl _ _, ⟨rfl, rfl, rfl, Nat.le_refl _, fun _ _ _ => rfl⟩⟩
    cases a <;> simp [Builtin.append_, run_underlying ht, sizeOf, typeInfo, hi, Builtin.lenOf, Builtin.firstCells, loadCells, loadCellsFrom, hnc, storeCells]
  · obtain ⟨b, off, rfl, hblt, hc⟩ := hsee.real (by omega)
    have hadd : ∀ (b off j : Nat), (⟨b, off, none⟩ : Addr).add j = ⟨b, off + j, none⟩ := by intro b off j; unfold Addr.add; split <;> simp_all
    have hnews : ∀ j u, news[j]? = some u → w.cell? ((⟨b, off, none⟩ : Addr).add j) = some u := by
      intro j u hj
      have hjn : j < m := by rw [← hl]; exact (List.getElem?_eq_some_iff.1 hj).1
      rw [hadd, hc j hjn, hj]
    by_cases hroom : n + m ≤ cap
    · have hf := run_firstCells_some (P := P) w i.size m ⟨b, off, none⟩ m c news (by rw [hsize]; omega) hnews
      have hst := run_storeCells_cells (P := P) g n news 0 w (fun j hj => by rw [Nat.add_zero]; exact (hcells (n + j) (by omega)).1) (fun j hj => by rw [Nat.add_zero]; exact (hcells (n + j) (by omega)).2) h1
      simp only [Nat.add_zero] at hst
      refine ⟨.slice (some ⟨g, 0, none⟩) (n + m) cap, w.setCells g n news, g, cap, ?_, ⟨rfl, hbg, ⟨by rw [List.length_append]; omega, hroom, (fun e => by cases e), fun _ => ⟨g, 0, rfl, by rw [size_setCells]; exact hlt, fun j hj => ?_⟩⟩, hmx, by rw [size_setCells]; exact hlt, fun j hj => ⟨?_, by rw [World.frozen?_setCells]; exact (hcells j hj).2⟩⟩, below_setCells news n w (Below.refl _ _) hbg, grown_setCells g news n w⟩
      · rw [hsize] at hf
        simp [Builtin.append_, run_underlying ht, sizeOf, typeInfo, hi, hsize, Builtin.lenOf, hroom, hf, hadd, hst]
      · rw [Nat.zero_add]
        by_cases hjn : j < n
        · rw [World.cell?_setCells_out g news n w _ (fun _ _ => Or.inl hjn), List.getElem?_append_left (by omega)]
          have := (hs.cell j hjn).2
          rw [Nat.zero_add] at this
          exact this
        · have hin := World.cell?_setCells_in g news n w (fun j hj => (hcells (n + j) (by omega)).1) (j - n) (by omega)
          rw [show n + (j - n) = j by omega] at hin
          rw [hin, List.getElem?_append_right (by omega), hxl, List.getElem?_eq_getElem (by omega)]
      · by_cases hjn : j < n ∨ n + news.length ≤ j
        · rw [World.cell?_setCells_out g news n w _ (fun _ _ => hjn)]; exact (hcells j hj).1
        · have hin := World.cell?_setCells_in g news n w (fun j hj => (hcells (n + j) (by omega)).1) (j - n) (by omega)
          rw [show n + (j - n) = j by omega] at hin
          rw [hin]; rfl
    · subst hby
      have holds : ∀ j u, xs[j]? = some u → w.cell? ((⟨g, 0, none⟩ : Addr).add j) = some u := by
        intro j u hj
        have hjn : j < n := by rw [← hxl]; exact (List.getElem?_eq_some_iff.1 hj).1
        rw [hadd, (hs.cell j hjn).2, hj]
      have hr := run_append_grow (P := P) w t ty e i z ht hi hz ⟨g, 0, none⟩ n cap xs (by rw [hxl, hsize]; omega) holds ⟨b, off, none⟩ m c news (by rw [hl, hsize]; omega) hnews (by omega) (by simp only [maxLen] at h63; omega) (growslice_fits (by omega) hbytes)
      have hge := grownCap_ge w (n + m) cap e
      have hcm : grownCap w (n + m) cap e ≤ maxLen := grownCap_le_maxLen w (n + m) cap e h63
      have hrow : Row ok (w.drew.alloc (.cells (xs.toArray ++ news.toArray ++ Builtin.zeroCells z.cells (grownCap w (n + m) cap e - (n + m))) e)) base e (.slice (some ⟨w.heap.size, 0, none⟩) (n + m) (grownCap w (n + m) cap e)) (n + m) (xs ++ news) := by
        have hlen : (xs ++ news).length = n + m := by rw [List.length_append]; omega
        refine ⟨hlen, .inr ⟨w.heap.size, _, _, rfl, hbase, heap_alloc_new w.drew _, hge, hcm, ?_, ?_, ?_⟩⟩
        · simp only [Array.size_append, List.size_toArray, size_zeroCells, hzs, hxl, hl]
          simp
          omega
        · simp only [Array.toList_append, List.append_assoc]
          rw [← List.append_assoc, ← hlen]
          exact List.take_left
        · intro u hu
          simp only [Array.toList_append, List.mem_append] at hu
          rcases hu with (hu | hu) | hu
          · exact hxo u hu
          · exact hoks u hu
          · rw [mem_zeroCells hzs hu]; exact hok
      obtain ⟨g', cap', hF⟩ := FRow.of_row hrow (by omega)
      exact ⟨_, _, g', cap', hr, hF, (((Below.refl base w).drew).alloc hbase _), ⟨rfl, rfl, rfl, by simp, fun k hk _ => heap_alloc_old w.drew _ hk⟩⟩
theorem wpList_append_frow {P : Program} (ok : Value → Prop) (w : World) {ops : Array Oper} {rest : List Oper} {o : Oper} {a : Act} {Q : Exit → Act → World → Prop} (hgd : o.guard = none) (s x : Operand) (t : TypeId)
    (ho : o.op = .call { callee := .builtin .append, args := #[s, x], argTypes := #[t, t] })
    (base : Nat) (e : TypeId) (i : TypeInfo) (z : Value) (bytes : Nat) (ht : P.underlying t = some (.slice e)) (hi : P.info? e = some i) (hz : i.zero = some z)
    (hsize : i.size = 1) (hby : i.bytes = bytes) (hzs : z.cells = #[z]) (hok : ok z)
    (v : Value) (n : Nat) (xs : List Value) (g cap : Nat) (hs : a.eval s = v) (hown : FRow w base v n xs g cap) (hn : 0 < n) (hxo : ∀ u ∈ xs, ok u)
    (ad : Option Addr) (m c : Nat) (news : List Value) (hx : a.eval x = .slice ad m c) (hsee : Sees w ad m c news) (h1 : ∀ u ∈ news, u.oneCell' = true) (hoks : ∀ u ∈ news, ok u)
    (h63 : n + m ≤ maxLen) (hbytes : (n + m) * bytes ≤ 140737488355328) (hbase : base ≤ w.heap.size)
    (h : ∀ v' w' g' cap', FRow w' base v' (n + m) (xs ++ news) g' cap' → Below base w w' → wpList P ops Q rest (a.put o.dst v') w') : wpList P ops Q (o :: rest) a w := by
  refine wpList_plain hgd fun K hK => ?_
  obtain ⟨v', w', g', cap', hr, h2, h3, _⟩ := run_append_frow (P := P) ok w base t o.type e i z bytes ht hi hz hsize hby hzs hok v n xs g cap hown hn hxo ad m c news hsee h1 hoks h63 hbytes hbase
  unfold Oper.wp execOp
  simp only [ho, resolve, invoke, builtin, Sem.run_bind, Sem.run_pure, Result.andThen_ok, List.map_toArray, List.map_cons, List.map_nil, hs, hx, hr]
  exact hK _ _ (h v' w' g' cap' h2 h3)
theorem frow_bytes (base : Nat) (w : World) (bs : List UInt8) (hb : base ≤ w.heap.size) (hn : bs.length ≤ 1000000000) :
    FRow (Lib.bytesWorld w 5 (str bs)) base (.slice (some ⟨w.heap.size, 0, none⟩) bs.length (grownCap w bs.length 0 5)) bs.length (bs.map bv) w.heap.size (grownCap w bs.length 0 5) := by
  have hnew := Lib.bytesWorld_at_new w 5 (str bs)
  have hge := grownCap_ge w bs.length 0 5
  have hgm := grownCap_le_maxLen w bs.length 0 5 (by unfold maxLen; omega)
  have hcsz : (Lib.bytesCells w 5 (str bs)).size = grownCap w bs.length 0 5 := by
    unfold Lib.bytesCells
    rw [size_str]
    have : (str bs).data.size = bs.length := by simp [str]
    simp [this]; omega
  refine ⟨rfl, hb, ⟨by simp, hge, (fun e => by cases e), fun _ => ⟨_, 0, rfl, heap_lt hnew, fun j hj => ?_⟩⟩, hgm, heap_lt hnew, fun j hj => ⟨?_, ?_⟩⟩
  · rw [Nat.zero_add, Lib.bytesWorld_cell w _ _ j (by rw [size_str]; exact hj)]
    simp [str, bv, List.getD, List.getElem?_eq_getElem hj]
  · rw [cell_of_block hnew j, Array.getElem?_eq_getElem (by omega)]; rfl
  · unfold World.frozen?
    rw [hnew]
    simp
    omega
end Go.Proofs.YtglhnmbfkbjemaaGreatDoor
/- lex.Number, by its contract. -/
namespace Go.Proofs.YtglhnmbfkbjemaaGreatDoor
open Go Go.RowKit
def isDig (u : UInt8) : Bool := decide (48 ≤ u.toNat) && decide (u.toNat ≤ 57)
def numVal (l : List UInt8) : Nat := l.foldl (fun n u => 10 * n + (u.toNat - 48)) 0
def numErr (l : List UInt8) (most : Nat) : Int :=
  if l = [] ∨ (l.head? = some 48 ∧ 1 < l.length) ∨ l.all isDig = false then 5 else if most < numVal l then 3 else 0
def numOf (l : List UInt8) (most : Nat) : Nat := if numErr l most = 0 then numVal l else 0
def NumPost (l : List UInt8) (most : Nat) (w : World) (e : Ending) (w' : World) : Prop :=
  e = .returned (.tuple #[.int .u32 (numOf l most : Nat), .int .i64 (numErr l most)]) ∧ Below w.heap.size w w'
theorem numVal_snoc (l : List UInt8) (u : UInt8) : numVal (l ++ [u]) = 10 * numVal l + (u.toNat - 48) := by simp [numVal]
theorem take_snoc (l : List UInt8) (k : Nat) (h : k < l.length) : l.take (k + 1) = l.take k ++ [l.getD k 0] := by
  rw [List.take_succ_eq_append_getElem h]
  simp [List.getD, List.getElem?_eq_getElem h]
theorem numVal_mono (l : List UInt8) (k : Nat) : ∀ m, k ≤ m → m ≤ l.length → numVal (l.take k) ≤ numVal (l.take m) := by
  intro m
  induction m with
  | zero => intro h _; have : k = 0 := by omega
            subst this; exact Nat.le_refl _
  | succ m ih =>
    intro h hl
    rcases Nat.lt_or_ge k (m + 1) with h' | h'
    · have := ih (by omega) (by omega)
      rw [take_snoc l m (by omega), numVal_snoc]
      omega
    · have : k = m + 1 := by omega
      subst this; exact Nat.le_refl _
theorem below_bytes (w : World) (e : TypeId) (s : ByteArray) : Below w.heap.size w (Lib.bytesWorld w e s) :=
  ⟨rfl, rfl, rfl, by rw [Lib.bytesWorld_size]; omega, fun k hk => Lib.bytesWorld_at_old w e s k hk⟩
theorem num_bad (l : List UInt8) (most k : Nat) (hk : k < l.length) (hb : isDig (l.getD k 0) = false) : numErr l most = 5 := by
  unfold numErr
  rw [if_pos]
  right; right
  rw [List.all_eq_false]
  exact ⟨l.getD k 0, by simp [List.getD, List.getElem?_eq_getElem hk], by rw [hb]; decide⟩
theorem num_end (l : List UInt8) (most : Nat) (h0 : l ≠ []) (hz : ¬ (l.head? = some 48 ∧ 1 < l.length)) (hd : ∀ m, m < l.length → isDig (l.getD m 0) = true) :
    numErr l most = if most < numVal l then 3 else 0 := by
  unfold numErr
  rw [if_neg]
  intro h
  rcases h with h | h | h
  · exact h0 h
  · exact hz h
  · rw [List.all_eq_false] at h
    obtain ⟨x, hx, hn⟩ := h
    obtain ⟨m, hm, rfl⟩ := List.getElem_of_mem hx
    have := hd m hm
    simp [List.getD, List.getElem?_eq_getElem hm] at this
    exact hn this
theorem head_of (s : ByteArray) (h0 : 0 < s.size) : s.data.toList.head? = some (s[0]'h0) := by
  have hl : s.data.toList.length = s.size := by simp
  have : 0 < s.data.toList.length := by omega
  rw [List.head?_eq_getElem?, List.getElem?_eq_getElem this]
  simp [ByteArray.getElem_eq_getElem_data]
structure NumInv (l : List UInt8) (most k : Nat) (z : Int) (o : Bool) : Prop where
  dig : ∀ m, m < k → isDig (l.getD m 0) = true
  val : o = false → z = numVal (l.take k)
  low : o = false → numVal (l.take k) ≤ most
  high : o = true → most < numVal (l.take k)
theorem NumInv.skip {l : List UInt8} {most k : Nat} {z : Int} (h : NumInv l most k z true) (hk : k < l.length) (hd : isDig (l.getD k 0) = true) : NumInv l most (k + 1) z true := by
  refine ⟨fun m hm => ?_, (fun e => by cases e), (fun e => by cases e), fun _ => Nat.lt_of_lt_of_le (h.high rfl) (numVal_mono l k (k + 1) (by omega) (by omega))⟩
  rcases Nat.lt_or_ge m k with h' | h'
  · exact h.dig m h'
  · have : m = k := by omega
    subst this; exact hd
theorem NumInv.step {l : List UInt8} {most k : Nat} {z : Int} (h : NumInv l most k z false) (hk : k < l.length) (hd : isDig (l.getD k 0) = true) (y : Int) (hy : y = 10 * z + (((l.getD k 0).toNat : Int) - 48)) (o : Bool) (ho : o = decide ((most : Int) < y)) : NumInv l most (k + 1) y o := by
  have e : y = (numVal (l.take (k + 1)) : Nat) := by
    have hv := h.val rfl
    rw [take_snoc l k hk, numVal_snoc]
    have : 48 ≤ (l.getD k 0).toNat := by simp [isDig] at hd; exact hd.1
    omega
  refine ⟨fun m hm => ?_, fun _ => e, fun e' => ?_, fun e' => ?_⟩
  · rcases Nat.lt_or_ge m k with h' | h'
    · exact h.dig m h'
    · have : m = k := by omega
      subst this; exact hd
  · subst e'; simp at ho; omega
  · subst e'; simp at ho; omega
theorem num_bad_post {l : List UInt8} {most k x : Nat} {w : World} {s : ByteArray} (hk : k < l.length) (hx : x = (l.getD k 0).toNat) (hb : x < 48 ∨ 57 < x) :
    NumPost l most w (.returned (.tuple #[.int .u32 0, .int .i64 5])) (Lib.bytesWorld w 5 s) := by
  have hd : isDig (l.getD k 0) = false := by
    rw [hx] at hb
    unfold isDig
    rcases hb with h | h
    · rw [decide_eq_false (by omega)]; rfl
    · rw [decide_eq_false (show ¬ (l.getD k 0).toNat ≤ 57 by omega), Bool.and_false]
  have e := num_bad l most k hk hd
  exact ⟨by rw [numOf, e]; rfl, below_bytes w _ s⟩
theorem dig_of {l : List UInt8} {k x : Nat} (hx : x = (l.getD k 0).toNat) (h1 : 48 ≤ x) (h2 : x ≤ 57) : isDig (l.getD k 0) = true := by
  rw [hx] at h1 h2
  unfold isDig
  rw [decide_eq_true h1, decide_eq_true h2]; rfl
set_option maxRecDepth 100000 in
set_option maxHeartbeats 1600000 in
theorem number_any (s : ByteArray) (most : Nat) (w : World) (hn : s.size ≤ 1000000000) (hm : most < 4294967296) (h0 : 0 < s.size) :
    Calls Tryz.prog 87 #[.string s, .int .u32 most] w (NumPost s.data.toList most w) := by
  have q := fun (W : World) => Lib.run_convert_string_bytes (P := Tryz.prog) W 9 27 5 s Tryz.underlying9 Tryz.underlying27 Tryz.underlying5
  have hl : s.data.toList.length = s.size := by simp
  have hh := head_of s h0
  have E : s.toList.isEmpty = false := by
    rw [ByteArray.toList_eq]
    cases h : s.data.toList with
    | nil => rw [h] at hl; simp at hl; omega
    | cons => rfl
  have HH := Lib.hid hh
  have HL := Lib.hid hl
  clear hl hh
  go_enter Tryz.func87, Tryz.ntmps87
  go_wp2
  · go_ret2
    have h48 : ((s[0]'h0).toNat : Int) = 48 := by assumption
    have h1 : (1 : Int) < (s.size : Int) := by assumption
    have e48 : s[0]'h0 = 48 := UInt8.toNat_inj.1 (by show (s[0]'h0).toNat = 48; omega)
    have ee : numErr s.data.toList most = 5 := by
      unfold numErr
      rw [if_pos]
      right; left
      exact ⟨by rw [HH.out, e48], by rw [HL.out]; omega⟩
    exact ⟨by rw [numOf, ee]; rfl, Below.refl _ _⟩
  all_goals
    have hz : ¬ (s.data.toList.head? = some 48 ∧ 1 < s.data.toList.length) := by
      rw [HH.out, HL.out]
      rintro ⟨e, h⟩
      have e' : s[0]'h0 = 48 := by simpa using e
      first
        | (exfalso; omega)
        | (have hne : ¬ ((s[0]'h0).toNat : Int) = 48 := by assumption
           exact hne (by rw [e']; rfl))
    have HZ := Lib.hid hz
    clear hz
    go_loop [6, 7, 9, 25] (fun n o x i => ∃ (k : Nat) (z : Int) (ov : Bool), k ≤ s.size ∧ 0 ≤ z ∧ z ≤ 42949672969 ∧ i = .int .i64 k ∧ o = .bool ov ∧ n = .int .u64 z ∧ (ov = false → z ≤ 4294967295) ∧ Hid (NumInv s.data.toList most k z ov)) (fun _ _ _ i => s.size - (intOf i).toNat)
    case atStart => exact ⟨0, 0, false, by omega, by omega, by omega, rfl, rfl, rfl, fun _ => by omega, ⟨fun m hm => absurd hm (by omega), fun _ => rfl, fun _ => Nat.zero_le _, (fun e => by cases e)⟩⟩
    case round =>
      obtain ⟨k, z, ov, hk, hz0, hz1, rfl, rfl, rfl, hzo, hinv⟩ := hrel
      by_cases hlt : k < s.size
      · obtain ⟨x, hx⟩ : ∃ x : Nat, x = (s.data.toList.getD k 0).toNat := ⟨_, rfl⟩
        have hx256 : x < 256 := by rw [hx]; exact UInt8.toNat_lt _
        have hcx : (Lib.bytesWorld w 5 s).cell? ⟨w.heap.size, k, none⟩ = some (.int .u8 (x : Int)) := by rw [hx]; exact Lib.bytesWorld_cell w _ s k hlt
        have HX := Lib.hid hx
        clear hx
        cases ov with
        | true =>
          clear hzo
          go_wp2
          all_goals first
            | (go_ret2; exact num_bad_post (by rw [HL.out]; exact hlt) HX.out (by omega))
            | (go_round
               case rel => exact ⟨k + 1, z, true, by omega, hz0, hz1, by go_num, rfl, rfl, (fun e => by cases e), hinv.skip (by rw [HL.out]; exact hlt) (dig_of HX.out (by omega) (by omega))⟩
               case measure => simp [intOf]; omega)
        | false =>
          have hz2 := hzo rfl
          clear hzo
          go_wp2
          all_goals first
            | (go_ret2; exact num_bad_post (by rw [HL.out]; exact hlt) HX.out (by omega))
            | (go_round
               case rel => exact ⟨k + 1, 10 * z + ((x : Int) - 48), decide ((most : Int) < 10 * z + ((x : Int) - 48)), by omega, by omega, by omega, by go_num, rfl, rfl, (fun e => by simp at e; omega), hinv.step (by rw [HL.out]; exact hlt) (dig_of HX.out (by omega) (by omega)) _ (by rw [HX.out]) _ rfl⟩
               case measure => simp [intOf]; omega)
      · have hks : k = s.size := by omega
        have hfull : s.data.toList.take k = s.data.toList := List.take_of_length_le (by rw [HL.out]; omega)
        have hall : ∀ m, m < s.data.toList.length → isDig (s.data.toList.getD m 0) = true := fun m hm => hinv.dig m (by rw [HL.out] at hm; omega)
        have hne : s.data.toList ≠ [] := by intro e; have := HL.out; rw [e] at this; simp at this; omega
        have he := num_end s.data.toList most hne HZ.out hall
        have HE := Lib.hid he
        have HF := Lib.hid hfull
        clear he hfull hks hall
        cases ov with
        | true =>
          go_wp2
          go_ret2
          have h := hinv.high rfl
          rw [HF.out] at h
          have e3 := HE.out
          rw [if_pos h] at e3
          exact ⟨by rw [numOf, e3]; rfl, below_bytes w _ s⟩
        | false =>
          have hv := hinv.val rfl
          have hlo := hinv.low rfl
          rw [HF.out] at hv hlo
          have e0 := HE.out
          rw [if_neg (by omega)] at e0
          have HV := Lib.hid hv
          have H0 := Lib.hid e0
          have hz2 := hzo rfl
          clear hv e0 hzo
          go_wp2
          go_ret2
          exact ⟨by rw [numOf, H0.out, if_pos rfl, ← HV.out]; rfl, below_bytes w _ s⟩
set_option maxRecDepth 100000 in
set_option maxHeartbeats 400000 in
theorem number_empty (most : Nat) (w : World) : Calls Tryz.prog 87 #[.string (str []), .int .u32 most] w (NumPost [] most w) := by
  have E : (str []).toList.isEmpty = true := by rw [ByteArray.toList_eq]; rfl
  go_enter Tryz.func87, Tryz.ntmps87
  go_wp2
  go_ret2
  exact ⟨by simp [numOf, numErr], Below.refl _ _⟩
theorem number_all (l : List UInt8) (most : Nat) (w : World) (hn : l.length ≤ 1000000000) (hm : most < 4294967296) :
    Calls Tryz.prog 87 #[.string (str l), .int .u32 most] w (NumPost l most w) := by
  cases l with
  | nil => exact number_empty most w
  | cons x r =>
    have hs := size_str (x :: r)
    exact number_any (str (x :: r)) most w (by rw [hs]; exact hn) hm (by rw [hs]; simp)
theorem number_named (l : List UInt8) (most : Nat) (w : World) (nv : Nat) (er : Int) (h1 : nv = numOf l most) (h2 : er = numErr l most) (hn : l.length ≤ 1000000000) (hm : most < 4294967296) :
    Calls Tryz.prog 87 #[.string (str l), .int .u32 most] w (fun e w' => e = .returned (.tuple #[.int .u32 nv, .int .i64 er]) ∧ Below w.heap.size w w') := by
  subst h1; subst h2
  exact number_all l most w hn hm
end Go.Proofs.YtglhnmbfkbjemaaGreatDoor
namespace Go.Proofs.YtglhnmbfkbjemaaGreatDoor
open Go Go.RowKit Go.Joins
def slash (u : UInt8) : UInt8 := if u = 47 then 10 else u
def slashed (l : List UInt8) (k : Nat) : Array Value := (((l.take k).map slash ++ l.drop k).map bv).toArray
theorem slashed_step (l : List UInt8) (k : Nat) (hk : k < l.length) : (slashed l k).setIfInBounds k (bv (slash (l.getD k 0))) = slashed l (k + 1) := by
  apply Array.ext'
  have hl : (l.take k).length = k := by simp; omega
  have hd : l.drop k = l.getD k 0 :: l.drop (k + 1) := by
    rw [List.drop_eq_getElem_cons hk]; simp [List.getD, List.getElem?_eq_getElem hk]
  simp only [slashed, Array.toList_setIfInBounds, hd, List.map_append, List.map_cons]
  rw [List.set_append_right _ _ (by simp; omega)]
  have e2 : k - (((l.take k).map slash).map bv).length = 0 := by simp; omega
  rw [e2, List.set_cons_zero, take_snoc l k hk, List.map_append, List.map_append, List.append_assoc]
  rfl
theorem slashed_keep (l : List UInt8) (k : Nat) (hk : k < l.length) (h : l.getD k 0 ≠ 47) : slashed l k = slashed l (k + 1) := by
  have hd : l.drop k = l.getD k 0 :: l.drop (k + 1) := by
    rw [List.drop_eq_getElem_cons hk]; simp [List.getD, List.getElem?_eq_getElem hk]
  have hs : slash (l.getD k 0) = l.getD k 0 := by unfold slash; rw [if_neg h]
  unfold slashed
  rw [hd, take_snoc l k hk]
  simp only [List.map_append, List.map_cons, List.map_nil, hs, List.append_assoc, List.cons_append, List.nil_append]
theorem slashed_cell (l : List UInt8) (k : Nat) (hk : k < l.length) : (slashed l k)[k]? = some (.int .u8 ((l.getD k 0).toNat : Int)) := by
  have hl : (l.take k).length = k := by simp; omega
  have hd : l.drop k = l.getD k 0 :: l.drop (k + 1) := by
    rw [List.drop_eq_getElem_cons hk]; simp [List.getD, List.getElem?_eq_getElem hk]
  unfold slashed
  rw [List.getElem?_toArray, hd, List.map_append, List.getElem?_append_right (by simp; omega)]
  have e : k - (((l.take k).map slash).map bv).length = 0 := by simp; omega
  rw [e]; rfl
theorem FRow.set {w : World} {base : Nat} {v : Value} {n : Nat} {xs : List Value} {g cap : Nat} (h : FRow w base v n xs g cap) (k : Nat) (hk : k < n) (u : Value) : FRow (w.setCell ⟨g, k, none⟩ u) base v n (xs.set k u) g cap := by
  have hc := h.sees.cap
  have hl := h.sees.len
  refine ⟨h.form, h.le, ⟨by rw [List.length_set]; exact hl, hc, (fun e => by cases e), fun _ => ⟨g, 0, rfl, by simpa using h.lt, fun j hj => ?_⟩⟩, h.max, by simpa using h.lt, fun j hj => ⟨?_, by rw [World.frozen?_setCell]; exact (h.cells j hj).2⟩⟩
  · rw [Nat.zero_add]
    by_cases e : k = j
    · subst e
      rw [World.cell?_setCell_same' w _ _ (h.cells k (by omega)).1, List.getElem?_set_self (by omega)]
    · rw [World.cell?_setCell_other _ _ _ _ (by intro e2; cases e2; exact e rfl), List.getElem?_set_ne e]
      have := (h.sees.cell j hj).2
      rw [Nat.zero_add] at this
      exact this
  · by_cases e : k = j
    · subst e
      rw [World.cell?_setCell_same' w _ _ (h.cells k (by omega)).1]; rfl
    · rw [World.cell?_setCell_other _ _ _ _ (by intro e2; cases e2; exact e rfl)]
      exact (h.cells j hj).1
set_option maxRecDepth 100000 in
set_option maxHeartbeats 1600000 in
theorem text4_any (l more : List UInt8) (a : Option Addr) (m c : Nat) (w : World) (hs : Sees w a m c (more.map bv)) (h0 : 0 < l.length) (hn : l.length ≤ 1000000) (hm : m ≤ 1000000) :
    Calls Tryz.prog 14 #[.string (str l), .slice a m c] w fun e w' => ∃ a2 c2, e = .returned (.slice a2 (l.length + m) c2) ∧ Sees w' a2 (l.length + m) c2 ((l.map slash ++ more).map bv) ∧ Below w.heap.size w w' := by
  obtain ⟨i0, hi, hz0, hz1, hz2⟩ := info_parts info_u8
  have q := fun (W : World) => Lib.run_convert_string_bytes (P := Tryz.prog) W 9 27 5 (str l) Tryz.underlying9 Tryz.underlying27 Tryz.underlying5
  have hsz := size_str l
  have hfr := frow_bytes w.heap.size w l (Nat.le_refl _) (by omega)
  rw [hsz] at q
  obtain ⟨W0, hW0⟩ : ∃ W0, W0 = Lib.bytesWorld w 5 (str l) := ⟨_, rfl⟩
  have q1 := q w
  rw [← hW0] at q1 hfr
  obtain ⟨cp, hcp⟩ : ∃ cp, cp = grownCap w l.length 0 5 := ⟨_, rfl⟩
  rw [← hcp] at q1 hfr
  have hb0 : Below w.heap.size w W0 := by rw [hW0]; exact below_bytes w _ _
  have e0 : l.map bv = (slashed l 0).toList := by simp [slashed]
  rw [e0] at hfr
  have HFR := Lib.hid hfr
  have HB := Lib.hid hb0
  have HS := Lib.hid hs
  clear q hsz hW0 hcp hfr hb0 e0 hs
  go_enter Tryz.func14, Tryz.ntmps14
  go_wp2
  go_loopw [6, 11] (fun _ i wr => ∃ k : Nat, k ≤ l.length ∧ i = .int .i64 k ∧ Hid (FRow wr w.heap.size (.slice (some ⟨w.heap.size, 0, none⟩) l.length cp) l.length (slashed l k).toList w.heap.size cp) ∧ Hid (Below w.heap.size w wr))
    (fun _ i _ => l.length - (intOf i).toNat)
  case atStart => exact ⟨0, Nat.zero_le _, rfl, HFR.out, HB.out⟩
  case round =>
    obtain ⟨k, hk, rfl, hf, hb⟩ := hrel
    clear HFR HB
    by_cases hlt : k < l.length
    · have hcx0 := (hf.out.sees.cell k hlt).2
      have hcx : wr.cell? ⟨w.heap.size, k, none⟩ = some (.int .u8 ((l.getD k 0).toNat : Int)) := by
        rw [Nat.zero_add] at hcx0
        rw [hcx0, Array.getElem?_toList]
        exact slashed_cell l k hlt
      have hfx := (hf.out.cells k (by have := hf.out.sees.cap; omega)).2
      have W1 : IntKind.i64.wrap ((k : Int) + 1) = (k : Int) + 1 := IntWalk.i64_in _ (by omega)
      obtain ⟨x, hx⟩ : ∃ x, x = l.getD k 0 := ⟨_, rfl⟩
      rw [← hx] at hcx
      have HX := Lib.hid hx
      clear hx hcx0
      by_cases h47 : x = 47
      · subst h47
        have hst := slashed_step l k hlt
        rw [← HX.out] at hst
        have hst2 : (slashed l k).setIfInBounds k (.int .u8 10) = slashed l (k + 1) := hst
        have hf2 := hf.out.set k hlt (.int .u8 10)
        rw [← Array.toList_setIfInBounds, hst2] at hf2
        have HF2 := Lib.hid hf2
        have HB2 := Lib.hid (hb.out.setCell (p := ⟨w.heap.size, k, none⟩) (Nat.le_refl _) (.int .u8 10))
        clear hst hst2 hf2 hf hb
        go_wp2
        go_roundw
        case rel => exact ⟨k + 1, by omega, by go_num, HF2.out, HB2.out⟩
        case measure => simp [intOf]; omega
      · have e1 : ((x.toNat : Int) == 47) = false := by
          simp
          intro e
          exact h47 (UInt8.toNat_inj.1 (by have : x.toNat = 47 := by omega
                                           rw [this]; rfl))
        have hke := slashed_keep l k hlt (by rw [← HX.out]; exact h47)
        have HF2 := Lib.hid hf.out
        rw [hke] at HF2
        have HB2 := Lib.hid hb.out
        clear hke h47 hf hb
        go_wp2
        go_roundw
        case rel => exact ⟨k + 1, by omega, by go_num, HF2.out, HB2.out⟩
        case measure => simp [intOf]; omega
    · obtain rfl : l.length = k := by omega
      have hxs : (slashed l l.length).toList = (l.map slash).map bv := by simp [slashed]
      rw [hxs] at hf
      have HF := Lib.hid hf.out
      have HB2 := Lib.hid hb.out
      have HS2 := Lib.hid (HS.out.below hb.out)
      have hmax := hf.out.max
      clear hxs hf hb HS hlt hk
      go_wp2_with (at_builtin; refine wpList_append_frow isByte _ rfl _ _ 27 rfl w.heap.size 5 i0 (.int .u8 0) 1 Tryz.underlying27 hi hz0 hz1 hz2 rfl isByte_zero _ _ _ w.heap.size cp rfl HF.out h0 (isByte_all _) a m c (more.map bv) rfl HS2.out (bv_one _) (isByte_all _) ?r4 ?r5 ?r6 ?_)
      case r4 => unfold maxLen; omega
      case r5 => omega
      case r6 => exact HB2.out.size
      intro v' w' g' cap' hf' hb'
      obtain ⟨rfl, _, hsee', _, _, _⟩ := hf'
      have HSE := Lib.hid hsee'
      have HB3 := Lib.hid (HB2.out.trans hb')
      clear hsee' hb' HF HB2 HS2
      go_wp2
      go_ret
      exact ⟨_, _, rfl, by rw [List.map_append, List.map_map]; exact HSE.out, HB3.out⟩
end Go.Proofs.YtglhnmbfkbjemaaGreatDoor
