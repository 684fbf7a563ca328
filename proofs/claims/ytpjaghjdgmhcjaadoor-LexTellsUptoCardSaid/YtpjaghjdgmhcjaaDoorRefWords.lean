/- inquestref01.Words, by its contract. -/
import Derived.Test.YtpjaghjdgmhcjaaDoorRefLine
namespace Go.Proofs.YtpjaghjdgmhcjaaDoor
open Go Go.RowKit Go.Joins

/-- A letter ahead of words. -/
def consW (x : UInt8) : List (List UInt8) → List (List UInt8)
  | [] => [[x]]
  | h :: t => (x :: h) :: t
theorem splitW_cons (x : UInt8) (r : List UInt8) : splitW (x :: r) = if x = 32 then [] :: splitW r else consW x (splitW r) := by
  rw [splitW]; rfl

theorem splitW_blank : ∀ l, splitW (l ++ [32]) = splitW l ++ [[]]
  | [] => rfl
  | x :: r => by
    have ih := splitW_blank r
    rw [List.cons_append, splitW_cons, splitW_cons, ih]
    split
    · simp
    · have hne := splitW_ne r
      cases h : splitW r with
      | nil => exact absurd h hne
      | cons a t => simp [consW]

theorem splitW_char (c : UInt8) (hc : c ≠ 32) : ∀ l, splitW (l ++ [c]) = (splitW l).dropLast ++ [(splitW l).getLastD [] ++ [c]]
  | [] => by simp [splitW, hc]
  | x :: r => by
    have ih := splitW_char c hc r
    have hne := splitW_ne r
    rw [List.cons_append, splitW_cons, splitW_cons, ih]
    cases h : splitW r with
    | nil => exact absurd h hne
    | cons a t =>
      split
      · cases t <;> simp [List.getLastD]
      · cases t with
        | nil => simp [consW]
        | cons b t => simp [consW, List.getLastD]

/-- A store into a row of the call's own. -/
theorem Row.set {ok : Value → Prop} {w : World} {base : Nat} {e : TypeId} {g n cap : Nat} {xs : List Value} (h : Row ok w base e (.slice (some ⟨g, 0, none⟩) n cap) n xs) (j : Nat) (u : Value) (hu : ok u) :
    Row ok (w.setCell ⟨g, j, none⟩ u) base e (.slice (some ⟨g, 0, none⟩) n cap) n (xs.set j u) := by
  obtain ⟨h1, h2⟩ := h
  refine ⟨by rw [List.length_set]; exact h1, ?_⟩
  rcases h2 with ⟨h2, _⟩ | ⟨g', cap', cur, hv, hg, hh, hn, hc, hs, ht, ho⟩
  · cases h2
  · cases hv
    refine .inr ⟨g, cap, _, rfl, hg, block_setCell hh u, hn, hc, by rw [Array.size_setIfInBounds, hs], ?_, fun x hx => ?_⟩
    · rw [Array.toList_setIfInBounds, List.take_set, ht]
    · rw [Array.toList_setIfInBounds] at hx
      rcases List.mem_or_eq_of_mem_set hx with hx | rfl
      · exact ho x hx
      · exact hu

theorem Row.real {ok : Value → Prop} {w : World} {base : Nat} {e : TypeId} {v : Value} {n : Nat} {xs : List Value} (h : Row ok w base e v n xs) (h0 : 0 < n) :
    ∃ g cap, v = .slice (some ⟨g, 0, none⟩) n cap ∧ base ≤ g ∧ n ≤ cap ∧ g < w.heap.size ∧ ∀ j, j < n → w.cell? ⟨g, j, none⟩ = xs[j]? ∧ w.frozen? ⟨g, j, none⟩ = false := by
  rcases h.2 with ⟨_, h2⟩ | ⟨g, cap, cur, rfl, hg, hh, hn, hc, hs, ht, ho⟩
  · omega
  · refine ⟨g, cap, rfl, hg, hn, (Array.getElem?_eq_some_iff.1 hh).1, fun j hj => ⟨?_, unfrozen_of_block hh j⟩⟩
    rw [cell_of_block hh j, ← ht, List.getElem?_take_of_lt hj]
    simp

theorem str_append (a b : List UInt8) : str a ++ str b = str (a ++ b) := by
  unfold str
  apply ByteArray.ext
  simp [ByteArray.data_append]

theorem set_last {α : Type} (l : List α) (h : l ≠ []) (x : α) : l.set (l.length - 1) x = l.dropLast ++ [x] := by
  have h1 := List.dropLast_concat_getLast h
  have hl : l.length = l.dropLast.length + 1 := by rw [List.length_dropLast]; have := List.length_pos_iff.2 h; omega
  conv => lhs; rw [← h1]
  rw [List.length_append, List.length_singleton, Nat.add_sub_cancel, List.set_append_right _ _ (Nat.le_refl _)]
  simp

set_option maxHeartbeats 3200000 in
theorem refwords_any (bs : List UInt8) (a : Option Addr) (n c : Nat) (w : World) (h : Sees w a n c (bs.map bv)) (hn : n ≤ 1000000000) (h0 : 0 < n) :
    Calls Tryd.prog 12 #[.slice a n c] w (WordsPost bs w) := by
  obtain ⟨i0, hi, hz0, hz1, hz2⟩ := info_parts info_str
  have hcn := h.cap
  have hbl : bs.length = n := by have := h.len; simpa using this
  obtain ⟨b, off, rfl, hbw⟩ := h.addr h0
  have HS : Hid (Sees w (some ⟨b, off, none⟩) n c (bs.map bv)) := h
  have HL : Hid (bs.length = n) := hbl
  have hn0 : ((n : Int) == 0) = false := by simp; omega
  have HNE : Hid (bs ≠ []) := by intro e; rw [e] at hbl; simp at hbl; omega
  clear h hbl
  have HR0 : Hid (Row anyCell (w.alloc (.cells #[.string (str [])] 9)) w.heap.size 9 (.slice (some ⟨w.heap.size, 0, none⟩) 1 1) 1 [sv []]) :=
    Row.made (ok := anyCell) (w := w) (base := w.heap.size) (e := 9) #[.string (str [])] 1 (Nat.le_refl _) (by simp [maxLen]) (by simp) (fun _ _ => trivial)
  go_enter Tryd.func12, Tryd.ntmps12
  go_wp2
  go_loopw [4, 5] (fun v j wr => ∃ (k : Nat) (P : List (List UInt8)), k ≤ n ∧ j = .int .i64 k ∧ Hid (P = splitW (bs.take k)) ∧ P.length ≤ k + 1 ∧ 1 ≤ P.length ∧ Hid (Row anyCell wr w.heap.size 9 v P.length (P.map sv)) ∧ Hid (Below w.heap.size w wr))
    (fun _ j _ => n - (intOf j).toNat)
  case atStart => exact ⟨0, [[]], Nat.zero_le _, rfl, rfl, Nat.le_refl _, Nat.le_refl _, HR0.out, ext_alloc _ _⟩
  case round =>
    obtain ⟨k, P, hk, rfl, hP, hPk, hP1, hrow, hb⟩ := hrel
    by_cases hlt : k < n
    · obtain ⟨x, hx⟩ : ∃ x : Nat, x = (bs.getD k 0).toNat := ⟨_, rfl⟩
      have hcx : wr.cell? ⟨b, off + k, none⟩ = some (.int .u8 (x : Int)) := by rw [hx]; exact (hb.out.cell (p := ⟨b, off + k, none⟩) hbw).trans (HS.out.byte k hlt)
      have HX := Lib.hid hx
      have HT := Lib.hid (take_snoc bs k (by rw [HL.out]; exact hlt))
      clear hx
      by_cases h32 : x = 32
      · have e32 : bs.getD k 0 = 32 := UInt8.toNat_inj.1 (by rw [← HX.out, h32]; rfl)
        have E32 := Lib.hid e32
        clear e32
        subst h32
        go_wp2_with (at_builtin; refine wpList_append_row anyCell _ rfl _ _ 31 rfl w.heap.size 9 i0 (.string ByteArray.empty) 16 Tryd.underlying31 hi hz0 hz1 hz2 rfl trivial _ _ _ rfl (hrow.out.below ((Below.refl _ _).alloc (Nat.le_refl _) _)) (some ⟨wr.heap.size, 0, none⟩) 1 1 [sv []] rfl (sees_one _ _ _) (sv_one [_]) (fun _ _ => trivial) ?c4 ?c5 ?c6 ?_)
        case c4 => unfold maxLen; omega
        case c5 => omega
        case c6 => have := hb.out.size; simp; omega
        intro v' w1 hrow1 hgrow1 _
        have hlt1 := hrow.out.own.lt
        have hb1 : Below w.heap.size w w1 := (hb.out.alloc hb.out.size _).grown hgrow1 (by have := hb.out.size; simp; omega) (fun k hk => (hlt1 k hk).1)
        have HR1 : Hid (Row anyCell w1 w.heap.size 9 v' (P ++ [[]]).length ((P ++ [[]]).map sv)) := by
          show Row _ _ _ _ _ _ _
          rw [List.length_append, List.map_append]; exact hrow1
        have HB1 := Lib.hid hb1
        clear hrow1 hgrow1 hlt1 hb1
        go_wp2
        go_roundw
        case rel =>
          refine ⟨k + 1, P ++ [[]], by omega, by go_num, ?_, by simp; omega, by simp, HR1.out, HB1.out⟩
          show _ = _
          rw [HT.out, E32.out, splitW_blank, hP.out]
        case measure => simp [intOf]; omega
      · have hne : ((x : Int) == 32) = false := by simp; omega
        obtain ⟨g, cap, ev, hg, hcap, hgs, hcells⟩ := hrow.out.real (by omega)
        obtain ⟨L, hL⟩ : ∃ L, L = P.getLastD [] := ⟨_, rfl⟩
        have hlast : wr.drew.cell? ⟨g, P.length - 1, none⟩ = some (.string (str L)) := by
          have := (hcells (P.length - 1) (by omega)).1
          show wr.cell? _ = _
          rw [this, List.getElem?_map, hL, List.getLastD_eq_getLast?, List.getLast?_eq_getElem?, List.getElem?_eq_getElem (by omega)]; rfl
        have hfz : wr.drew.frozen? ⟨g, P.length - 1, none⟩ = false := (hcells (P.length - 1) (by omega)).2
        obtain ⟨a2, ec2, see2⟩ := HS.out.cut k (k + 1) (by omega) (by omega)
        have e1 : k + 1 - k = 1 := by omega
        rw [e1] at ec2 see2
        have q1 := fun W => (run_part (P := Tryd.prog) Tryd.underlying22 size_u8 W (some ⟨b, off, none⟩) n c k (k + 1) (k : Int) ((k : Int) + 1) rfl (by omega) (by omega) (by omega)).trans (congrArg (fun v => Result.ok v W) ec2)
        rw [← List.map_take, ← List.map_drop] at see2
        have hd : (bs.take (k + 1)).drop k = [bs.getD k 0] := by
          rw [HT.out, List.drop_append_of_le_length (by simp; rw [HL.out]; omega), List.drop_of_length_le (by simp; omega)]; rfl
        rw [hd] at see2
        obtain ⟨ch, hch⟩ : ∃ ch, ch = bs.getD k 0 := ⟨_, rfl⟩
        rw [← hch] at see2
        have hLn : L.length ≤ n := by
          rcases List.eq_nil_or_concat P with hp | ⟨P', y, hp⟩
          · rw [hL, hp]; simp
          · have hm : L ∈ P := by rw [hL, hp, List.concat_eq_append, List.getLastD_eq_getLast?]; simp
            rw [hP.out] at hm
            have := (splitW_size (bs.take k)).2 L hm
            rw [List.length_take, HL.out] at this
            omega
        have q3 : ∀ W, (Op.stringOp .add (str L) (str [ch])).run Tryd.prog W = .ok (.string (str (L ++ [ch]))) W := fun W => by
          rw [run_string_add_sum (P := Tryd.prog) W (str L) (str [ch]) (by rw [size_str, size_str]; simp; omega), str_append]
        have HCH := Lib.hid hch
        have q2 := ((see2.below hb.out).below ((Below.refl _ wr).drew)).str (P := Tryd.prog) 22 5 9 Tryd.underlying22 Tryd.underlying5 Tryd.underlying9
        have W1 : IntKind.i64.wrap ((k : Int) + 1) = (k : Int) + 1 := IntWalk.i64_in _ (by omega)
        have W2 : IntKind.i64.wrap ((P.length : Int) - 1) = (P.length : Int) - 1 := IntWalk.i64_in _ (by omega)
        have W3 : (0 : Int) ≤ (P.length : Int) - 1 := by omega
        have W4 : (P.length : Int) - 1 < (P.length : Int) := by omega
        have W5 : ((P.length : Int) - 1).toNat = P.length - 1 := by omega
        rw [ev]
        have EV := Lib.hid ev
        have HLL := Lib.hid hL
        clear hcells ec2 see2 hd ev hL e1 hch
        have HR2 : Hid (Row anyCell (wr.drew.setCell ⟨g, P.length - 1, none⟩ (.string (str (L ++ [ch])))) w.heap.size 9 (.slice (some ⟨g, 0, none⟩) P.length cap) (P.dropLast ++ [L ++ [ch]]).length ((P.dropLast ++ [L ++ [ch]]).map sv)) := by
          have h1 : Row anyCell wr.drew w.heap.size 9 (.slice (some ⟨g, 0, none⟩) P.length cap) P.length (P.map sv) := by
            have := hrow.out.below ((Below.refl _ wr).drew)
            rw [EV.out] at this
            exact this
          have h2 := h1.set (P.length - 1) (.string (str (L ++ [ch]))) trivial
          have h3 : (P.map sv).set (P.length - 1) (.string (str (L ++ [ch]))) = (P.dropLast ++ [L ++ [ch]]).map sv := by
            have e : P.set (P.length - 1) (L ++ [ch]) = P.dropLast ++ [L ++ [ch]] := set_last P (by intro e; rw [e] at hP1; simp at hP1) _
            rw [← e, List.map_set]; rfl
          have h4 : (P.dropLast ++ [L ++ [ch]]).length = P.length := by simp; omega
          rw [h3] at h2
          show Row _ _ _ _ _ _ _
          rw [h4]; exact h2
        have HB2 : Hid (Below w.heap.size w (wr.drew.setCell ⟨g, P.length - 1, none⟩ (.string (str (L ++ [ch]))))) := hb.out.drew.setCell (p := ⟨g, P.length - 1, none⟩) hg _
        go_wp2
        go_region
        go_wp2
        go_roundw
        case rel =>
          refine ⟨k + 1, P.dropLast ++ [L ++ [ch]], by omega, by go_num, ?_, by simp; omega, by simp, ?_, HB2.out⟩
          · show _ = _
            rw [HT.out, splitW_char _ (by intro e; apply h32; rw [HX.out, e]; rfl), ← hP.out, ← HLL.out, ← HCH.out]
          · exact HR2.out
        case measure => simp [intOf]; omega
    · have hkn : k = n := by omega
      subst hkn
      have hPf : P = splitW bs := by
        have := hP.out
        rw [List.take_of_length_le (by rw [HL.out]; exact Nat.le_refl _)] at this
        exact this
      obtain ⟨g, cap, ev, hg, hcap, hgs, hcells⟩ := hrow.out.real (by omega)
      rw [ev]
      have HPF := Lib.hid hPf
      have EV := Lib.hid ev
      have HC := Lib.hid hcells
      clear hPf ev hcells
      go_wp2
      go_loop [6] (fun j => ∃ m : Nat, m ≤ P.length ∧ j = .int .i64 m ∧ Hid (∀ i, i < m → P.getD i [] ≠ [])) (fun j => P.length - (intOf j).toNat)
      case atStart => exact ⟨0, Nat.zero_le _, rfl, fun i hi => absurd hi (by omega)⟩
      case round =>
        obtain ⟨m, hm, rfl, hne⟩ := hrel
        by_cases hlt2 : m < P.length
        · obtain ⟨s, hs⟩ : ∃ s, s = P.getD m [] := ⟨_, rfl⟩
          have hcs : wr.cell? ⟨g, m, none⟩ = some (.string (str s)) := by
            rw [(HC.out m hlt2).1, List.getElem?_map, List.getElem?_eq_getElem hlt2, hs]
            simp [List.getD, List.getElem?_eq_getElem hlt2, sv]
          have HSS := Lib.hid hs
          clear hs
          by_cases hse : s = []
          · subst hse
            have he : wordsOf bs = none := by
              unfold wordsOf
              rw [if_neg HNE.out, if_pos]
              rw [List.any_eq_true]
              refine ⟨[], ?_, rfl⟩
              rw [← HPF.out, HSS.out]
              simp [List.getD, List.getElem?_eq_getElem hlt2]
            have HE := Lib.hid he
            have e0 : (str []).toList = [] := by rw [ByteArray.toList_eq]; rfl
            clear he
            go_wp2
            go_ret2
            exact Or.inl ⟨HE.out, rfl, hb.out⟩
          · have e1 : (str s).toList.isEmpty = false := by
              rw [ByteArray.toList_eq]
              cases s with
              | nil => exact absurd rfl hse
              | cons x r => rfl
            have e2 : ¬ (str s).toList = [] := by intro e; rw [e] at e1; simp at e1
            go_wp2
            go_round
            case rel =>
              refine ⟨m + 1, by omega, by go_num, fun i hi => ?_⟩
              rcases Nat.lt_or_ge i m with h | h
              · exact hne.out i h
              · have : i = m := by omega
                subst this
                rw [← HSS.out]; exact hse
            case measure => simp [intOf]; omega
        · have hml : m = P.length := by omega
          subst hml
          have he : wordsOf bs = some P := by
            unfold wordsOf
            rw [if_neg HNE.out, ← HPF.out, if_neg]
            intro h
            rw [List.any_eq_true] at h
            obtain ⟨y, hy, hy2⟩ := h
            obtain ⟨i, hi, rfl⟩ := List.getElem_of_mem hy
            have := hne.out i hi
            rw [List.getD, List.getElem?_eq_getElem hi] at this
            simp at hy2 this
            exact this hy2
          have HE := Lib.hid he
          clear he
          go_wp2
          go_ret2
          exact Or.inr ⟨P, _, HE.out, rfl, by rw [← EV.out]; exact hrow.out, hb.out⟩

set_option maxHeartbeats 400000 in
theorem refwords_empty (a : Option Addr) (c : Nat) (w : World) : Calls Tryd.prog 12 #[.slice a 0 c] w (WordsPost [] w) := by
  go_enter Tryd.func12, Tryd.ntmps12
  go_wp2
  go_ret2
  exact Or.inr ⟨[], _, rfl, rfl, Row.nil _ _ _ _, Below.refl _ _⟩

theorem refwords_all (bs : List UInt8) (a : Option Addr) (n c : Nat) (w : World) (h : Sees w a n c (bs.map bv)) (hn : n ≤ 1000000000) :
    Calls Tryd.prog 12 #[.slice a n c] w (WordsPost bs w) := by
  rcases Nat.eq_zero_or_pos n with h0 | h0
  · subst h0
    have : bs = [] := List.eq_nil_of_length_eq_zero (by have := h.len; simpa using this)
    subst this
    exact refwords_empty a c w
  · exact refwords_any bs a n c w h hn h0
end Go.Proofs.YtpjaghjdgmhcjaaDoor
