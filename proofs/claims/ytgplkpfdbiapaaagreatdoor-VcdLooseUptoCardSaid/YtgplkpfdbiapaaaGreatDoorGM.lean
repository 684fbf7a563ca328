/- What Write tells is read (circuits and traces), and the law's own example, on plain lists. -/
import Derived.Test.YtgplkpfdbiapaaaGreatDoorVdSpec
import Derived.Test.YtgplkpfdbiapaaaGreatDoorGH
import Derived.Lib.ItoaNum
import Derived.Lib.Join
import Derived.Lib.ParseIntBCases
import Derived.Test.YtgplkpfdbiapaaaGreatDoorGA1
import Derived.Test.YtgplkpfdbiapaaaGreatDoorGA3
import Derived.Test.YtgplkpfdbiapaaaGreatDoorGD1
import Derived.Test.YtgplkpfdbiapaaaGreatDoorGI2
import Derived.Test.YtgplkpfdbiapaaaGreatDoorRows
import Derived.Test.YtgplkpfdbiapaaaGreatDoorShelf
import Derived.Test.YtgplkpfdbiapaaaGreatDoorShelf2
import Derived.BigQuiet
import Derived.BigRegion
import Derived.Deep.AppendLies
import Derived.Deep.CutRange
import Derived.Deep.QuietTactic
import Derived.Deep.RegionHeld3
import Derived.Deep.RegionLaw
import Derived.Deep.RegionWith
import Derived.KernelRfl
import Derived.Laws.Bits64b
import Derived.Laws.BitsAllLaws
import Derived.Laws.BitsLemmas
import Derived.Laws.CopyOwn
import Derived.Laws.EntriesVeiled
import Derived.Laws.IdiomCopy
import Derived.Laws.OwnMore
import Derived.Laws.Runes
import Derived.Laws.Tables
import Derived.Lib.AppendIntMem
import Derived.Lib.AppendStr
import Derived.Lib.AppendZeros
import Derived.Lib.BufferWrite
import Derived.Lib.ConvBytes
import Derived.Lib.DecodeN
import Derived.Lib.Hide
import Derived.Lib.Index
import Derived.Lib.IndexEntry
import Derived.Lib.MakeNoZero
import Derived.Lib.SlBytesRow
import Derived.Lib.SmallJoins
import Derived.LoopIn
import Derived.LoopNIn
import Derived.Maps.AppendAt
import Derived.Maps.Own
import Derived.Maps.OwnOps
import Derived.Maps.OwnSet
import Derived.OrdersHeld
import Derived.OrdersIn
import Derived.OwnWalkIn
import Derived.RangeFuncBox
import Derived.RangeFuncCalls
import Derived.RangeFuncLeaves
import Derived.RangeFuncNested
import Derived.RangeFuncWrites
import Derived.Shelf.Abstract
import Derived.Shelf.Bytes.SlSmallAll
import Derived.Shelf.Pu.Lower
import Derived.Shelf.Pu.ToError
import Derived.Shelf.Pu.ToErrorRange
import Derived.Shelf.RegionOpen
import Derived.Shelf.Spec.DecodeRune
import Derived.Shelf.Unicode.DecodeSlow
import Derived.Sort.CutIn
import Derived.Stop.RegionWithIn
import Derived.TacticsInMore
import Derived.WalkKit
import Derived.WalkLawsBesides
import Derived.WalkSpells
/- What is written is read as the run, on plain lists. -/
namespace Go.Proofs.YtgplkpfdbiapaaaGreatDoor
open Go

/-- The values of a literal in the first n frames. -/
def histW (val : Nat → Nat → UInt8) (lit n : Nat) : List UInt8 := (List.range n).map (fun j => val j lit)
theorem hist_len (val : Nat → Nat → UInt8) (lit n : Nat) : (histW val lit n).length = n := by unfold histW; simp
theorem hist_succ (val : Nat → Nat → UInt8) (lit n : Nat) : histW val lit (n + 1) = histW val lit n ++ [val n lit] := by unfold histW; simp [List.range_succ]
theorem hold_last (T : Nat) (l : List UInt8) : (holdL T l).getLastD 2 = l.getLastD 2 := by
  unfold holdL
  cases h : T - l.length with
  | zero => simp
  | succ m => rw [List.replicate_succ']; simp
theorem hold_grow (T : Nat) (l : List UInt8) (h : l.length ≤ T) : holdL (T + 1) l = holdL T l ++ [(holdL T l).getLastD 2] := by
  rw [hold_last]
  unfold holdL
  rw [show T + 1 - l.length = (T - l.length) + 1 by omega, List.replicate_succ', List.append_assoc]
theorem hold_full (T : Nat) (l : List UInt8) (h : T ≤ l.length) : holdL T l = l := by
  unfold holdL
  rw [show T - l.length = 0 by omega]
  simp
/-- How it stands when k signals of frame f are told of. -/
structure MidW (val : Nat → Nat → UInt8) (S : List (List UInt8 × Nat)) (f k : Nat) (r : VRd) : Prop where
  idx : r.idx = S.map (·.1)
  times : r.times = List.range (f + 1)
  len : r.wav.length = S.length
  e : r.e = 0
  names : ∀ i, i < S.length → (r.wav.getD i ([], [])).1 = (S.getD i ([], 0)).1
  short : ∀ i, i < S.length → (r.wav.getD i ([], [])).2.length ≤ if i < k then f + 1 else f
  hist : ∀ i, i < S.length → holdL (if i < k then f + 1 else f) (r.wav.getD i ([], [])).2 = histW val (S.getD i ([], 0)).2 (if i < k then f + 1 else f)
theorem val_dig (v : UInt8) (h : v.toNat ≤ 2) : valV (digV v) = some v := by
  have : v = 0 ∨ v = 1 ∨ v = 2 := by
    have h3 : v.toNat = 0 ∨ v.toNat = 1 ∨ v.toNat = 2 := by omega
    rcases h3 with e | e | e
    · exact Or.inl (UInt8.toNat_inj.1 e)
    · exact Or.inr (Or.inl (UInt8.toNat_inj.1 e))
    · exact Or.inr (Or.inr (UInt8.toNat_inj.1 e))
  rcases this with rfl | rfl | rfl <;> rfl
theorem dig_cases (v : UInt8) : digV v = 48 ∨ digV v = 49 ∨ digV v = 120 := by
  unfold digV
  split
  · exact Or.inl rfl
  · split
    · exact Or.inr (Or.inl rfl)
    · exact Or.inr (Or.inr rfl)
theorem step_change (r : VRd) (v : UInt8) (n : List UInt8) (hv : v.toNat ≤ 2) (hn : isTextV n 8 = true) (hi : n ∈ r.idx) : stepV .tim r (digV v :: n) = (.tim, setV r (r.idx.idxOf n) v) := by
  have h1 : digV v :: n ≠ kComment := by rcases dig_cases v with e | e | e <;> rw [e] <;> simp [kComment]
  have h2 : digV v :: n ≠ kDump := by rcases dig_cases v with e | e | e <;> rw [e] <;> simp [kDump]
  have h3 : (digV v :: n).headD 0 ≠ 35 := by rcases dig_cases v with e | e | e <;> rw [e] <;> simp
  rw [stepV, if_neg (by simp), if_neg h1, if_neg h2, if_neg h3]
  unfold changeV
  rw [List.headD_cons, List.tail_cons, val_dig v hv]
  show (if isTextV n 8 = false then failV r 5 else if n ∈ r.idx then (VSt.tim, setV r (r.idx.idxOf n) v) else failV r 7) = _
  rw [if_neg (by rw [hn]; simp), if_pos hi]
theorem getD_map1 (S : List (List UInt8 × Nat)) (k : Nat) (hk : k < S.length) : (S.map (·.1)).idxOf (S.getD k ([], 0)).1 = k ∨ ¬ (S.map (·.1)).Nodup := by
  by_cases h : (S.map (·.1)).Nodup
  · left
    have e : (S.getD k ([], 0)).1 = (S.map (·.1))[k]'(by simpa using hk) := by simp [List.getD, List.getElem?_eq_getElem hk]
    rw [e]
    exact h.idxOf_getElem k (by simpa using hk)
  · exact Or.inr h
theorem mid_one (val : Nat → Nat → UInt8) (S : List (List UInt8 × Nat)) (hv : ∀ j l, (val j l).toNat ≤ 2) (hd : (S.map (·.1)).Nodup) (ht : ∀ s ∈ S, isTextV s.1 8 = true) (f k : Nat) (r : VRd) (h : MidW val S f k r) (hk : k < S.length) :
    ∃ r', GoV .tim r (if toldW val f (S.getD k ([], 0)).2 then [digV (val f (S.getD k ([], 0)).2) :: (S.getD k ([], 0)).1] else []) .tim r' ∧ MidW val S f (k + 1) r' := by
  obtain ⟨s, hs⟩ : ∃ s, s = S.getD k ([], 0) := ⟨_, rfl⟩
  have hmem : s ∈ S := by rw [hs]; simp [List.getD, List.getElem?_eq_getElem hk]
  have hwk : k < r.wav.length := by rw [h.len]; exact hk
  have hshort := h.short k hk
  have hhist := h.hist k hk
  rw [if_neg (Nat.lt_irrefl k)] at hshort hhist
  have hgrow := hold_grow f (r.wav.getD k ([], [])).2 hshort
  rw [hhist] at hgrow
  rw [← hs] at hhist hgrow ⊢
  have hT : r.times.length = f + 1 := by rw [h.times]; simp
  have other : ∀ i, i ≠ k → (if i < k + 1 then f + 1 else f) = (if i < k then f + 1 else f) := fun i hi => by
    by_cases e : i < k
    · rw [if_pos e, if_pos (by omega)]
    · rw [if_neg e, if_neg (by omega)]
  by_cases htold : toldW val f s.2 = true
  · rw [if_pos htold]
    have hidx : r.idx.idxOf s.1 = k := by
      rw [h.idx, hs]
      rcases getD_map1 S k hk with e | e
      · exact e
      · exact absurd hd e
    refine ⟨setV r k (val f s.2), GoV.one (by rw [step_change r _ s.1 (hv _ _) (ht s hmem) (by rw [h.idx]; exact List.mem_map.2 ⟨s, hmem, rfl⟩), hidx]) rfl, ?_⟩
    have hnew : (holdL r.times.length (r.wav.getD k ([], [])).2).set (r.times.length - 1) (val f s.2) = histW val s.2 (f + 1) := by
      rw [hT, hgrow, hist_succ, show f + 1 - 1 = (histW val s.2 f).length by rw [hist_len]; omega, List.set_append_right _ _ (Nat.le_refl _)]
      simp
    have hget : ∀ i, i < S.length → (setV r k (val f s.2)).wav.getD i ([], []) = if i = k then ((r.wav.getD k ([], [])).1, histW val s.2 (f + 1)) else r.wav.getD i ([], []) := fun i hi => by
      unfold setV
      rw [hnew]
      simp only [List.getD, List.getElem?_set]
      by_cases e : k = i
      · subst e; rw [if_pos rfl, if_pos hwk, if_pos rfl]; rfl
      · rw [if_neg e, if_neg (fun e2 => e e2.symm)]
    refine ⟨h.idx, h.times, by unfold setV; simp [h.len], h.e, fun i hi => ?_, fun i hi => ?_, fun i hi => ?_⟩
    · rw [hget i hi]
      by_cases e : i = k
      · rw [if_pos e, e]; exact h.names k hk
      · rw [if_neg e]; exact h.names i hi
    · rw [hget i hi]
      by_cases e : i = k
      · rw [if_pos e, if_pos (show i < k + 1 by omega)]; simp [hist_len]
      · rw [if_neg e, other i e]; exact h.short i hi
    · rw [hget i hi]
      by_cases e : i = k
      · rw [if_pos e, if_pos (show i < k + 1 by omega), e, ← hs]
        exact hold_full _ _ (by rw [hist_len]; omega)
      · rw [if_neg e, other i e]; exact h.hist i hi
  · rw [if_neg htold]
    refine ⟨r, GoV.nil _ _, h.idx, h.times, h.len, h.e, h.names, fun i hi => ?_, fun i hi => ?_⟩
    · by_cases e : i = k
      · rw [if_pos (by omega), e]; omega
      · rw [other i e]; exact h.short i hi
    · by_cases e : i = k
      · rw [if_pos (by omega), e, ← hs, hgrow, hist_succ]
        unfold toldW at htold
        simp only [Bool.or_eq_true, decide_eq_true_eq, not_or, Classical.not_not] at htold
        obtain ⟨h0, h1⟩ := htold
        obtain ⟨g, rfl⟩ : ∃ g, f = g + 1 := ⟨f - 1, by omega⟩
        rw [h1, hist_succ]
        simp
      · rw [other i e]; exact h.hist i hi
theorem mid_all (val : Nat → Nat → UInt8) (S : List (List UInt8 × Nat)) (hv : ∀ j l, (val j l).toNat ≤ 2) (hd : (S.map (·.1)).Nodup) (ht : ∀ s ∈ S, isTextV s.1 8 = true) (f : Nat) : ∀ (m k : Nat) (r : VRd), m + k = S.length → MidW val S f k r →
    ∃ r', GoV .tim r ((S.drop k).map (fun s => if toldW val f s.2 then [digV (val f s.2) :: s.1] else [])).flatten .tim r' ∧ MidW val S f S.length r'
  | 0, k, r, hm, h => by
    obtain rfl : k = S.length := by omega
    exact ⟨r, by rw [List.drop_length]; exact GoV.nil _ _, h⟩
  | m + 1, k, r, hm, h => by
    have hk : k < S.length := by omega
    obtain ⟨r1, g1, h1⟩ := mid_one val S hv hd ht f k r h hk
    obtain ⟨r2, g2, h2⟩ := mid_all val S hv hd ht f m (k + 1) r1 (by omega) h1
    refine ⟨r2, ?_, h2⟩
    rw [List.drop_eq_getElem_cons hk, List.map_cons, List.flatten_cons]
    have e : S[k] = S.getD k ([], 0) := by simp [List.getD, List.getElem?_eq_getElem hk]
    rw [e]
    exact g1.trans g2
theorem step_time (s : VSt) (r : VRd) (f : Nat) (hs : s = .unt ∨ s = .tim) (ht : r.times = List.range f) (hf : f < 4096) : stepV s r (35 :: Lib.decDigits f) = (.tim, ⟨r.idx, List.range (f + 1), r.wav, r.e⟩) := by
  have ht2 : timeV r (Lib.decDigits f) = (.tim, ⟨r.idx, List.range (f + 1), r.wav, r.e⟩) := by
    unfold timeV
    rw [numV_dec f (by omega), ht]
    simp only [List.length_range]
    rw [if_neg, if_neg (by omega), List.range_succ]
    rintro ⟨h1, h2⟩
    simp [List.getD, List.getElem?_range (show f - 1 < f by omega)] at h2
    omega
  have h1 : (35 :: Lib.decDigits f) ≠ kComment := by simp [kComment]
  have h2 : (35 :: Lib.decDigits f) ≠ kDump := by simp [kDump]
  rcases hs with rfl | rfl
  · rw [stepV, if_neg (by simp), if_neg h1, if_pos (by simp)]
    exact ht2
  · rw [stepV, if_neg (by simp), if_neg h1, if_neg h2, if_pos (by simp)]
    exact ht2
/-- How it stands when f frames are told of. -/
structure DoneW (val : Nat → Nat → UInt8) (S : List (List UInt8 × Nat)) (f : Nat) (r : VRd) : Prop where
  idx : r.idx = S.map (·.1)
  times : r.times = List.range f
  len : r.wav.length = S.length
  e : r.e = 0
  names : ∀ i, i < S.length → (r.wav.getD i ([], [])).1 = (S.getD i ([], 0)).1
  short : ∀ i, i < S.length → (r.wav.getD i ([], [])).2.length ≤ f
  hist : ∀ i, i < S.length → holdL f (r.wav.getD i ([], [])).2 = histW val (S.getD i ([], 0)).2 f
def wordsF (val : Nat → Nat → UInt8) (S : List (List UInt8 × Nat)) (f : Nat) : List (List UInt8) := (35 :: Lib.decDigits f) :: (S.map (fun s => if toldW val f s.2 then [digV (val f s.2) :: s.1] else [])).flatten
theorem frame_go (val : Nat → Nat → UInt8) (S : List (List UInt8 × Nat)) (hv : ∀ j l, (val j l).toNat ≤ 2) (hd : (S.map (·.1)).Nodup) (ht : ∀ s ∈ S, isTextV s.1 8 = true) (f : Nat) (hf : f < 4096) (s : VSt) (r : VRd) (hs : s = .unt ∨ s = .tim) (h : DoneW val S f r) :
    ∃ r', GoV s r (wordsF val S f) .tim r' ∧ DoneW val S (f + 1) r' := by
  have hm : MidW val S f 0 ⟨r.idx, List.range (f + 1), r.wav, r.e⟩ := ⟨h.idx, rfl, h.len, h.e, h.names, fun i hi => by rw [if_neg (by omega)]; exact h.short i hi, fun i hi => by rw [if_neg (by omega)]; exact h.hist i hi⟩
  obtain ⟨r', g, k⟩ := mid_all val S hv hd ht f S.length 0 _ (by omega) hm
  rw [List.drop_zero] at g
  refine ⟨r', GoV.cons (step_time s r f hs h.times hf) rfl g, k.idx, k.times, k.len, k.e, k.names, fun i hi => ?_, fun i hi => ?_⟩
  · have := k.short i hi; rw [if_pos hi] at this; exact this
  · have := k.hist i hi; rw [if_pos hi] at this; exact this
theorem frames_go (val : Nat → Nat → UInt8) (S : List (List UInt8 × Nat)) (hv : ∀ j l, (val j l).toNat ≤ 2) (hd : (S.map (·.1)).Nodup) (ht : ∀ s ∈ S, isTextV s.1 8 = true) (r : VRd) (h : DoneW val S 0 r) : ∀ F : Nat, F ≤ 4096 →
    ∃ s' r', (s' = .unt ∨ s' = .tim) ∧ GoV .unt r ((List.range F).map (wordsF val S)).flatten s' r' ∧ DoneW val S F r'
  | 0, _ => ⟨.unt, r, Or.inl rfl, GoV.nil _ _, h⟩
  | F + 1, hF => by
    obtain ⟨s1, r1, hs1, g1, h1⟩ := frames_go val S hv hd ht r h F (by omega)
    obtain ⟨r2, g2, h2⟩ := frame_go val S hv hd ht F (by omega) s1 r1 hs1 h1
    refine ⟨.tim, r2, Or.inr rfl, ?_, h2⟩
    rw [List.range_succ, List.map_append, List.flatten_append, List.map_cons, List.map_nil, List.flatten_cons, List.flatten_nil, List.append_nil]
    exact g1.trans g2
theorem vars_go : ∀ (S : List (List UInt8 × Nat)) (r : VRd), (∀ s ∈ S, isTextV s.1 8 = true) → (r.idx ++ S.map (·.1)).Nodup → r.wav.length + S.length ≤ 32768 →
    GoV .decl r (S.map (fun s => [kVar, kWire, kOne, s.1, s.1, kEnd])).flatten .decl ⟨r.idx ++ S.map (·.1), r.times, r.wav ++ S.map (fun s => (s.1, [])), r.e⟩
  | [], r, _, _, _ => by simp only [List.map_nil, List.flatten_nil, List.append_nil]; exact GoV.nil _ _
  | s :: S, r, ht, hd, hl => by
    rw [List.map_cons, List.flatten_cons]
    have hn : s.1 ∉ r.idx := fun h => by
      rw [List.nodup_append] at hd
      exact hd.2.2 s.1 h s.1 (by simp) rfl
    have g1 := go_var r s.1 (ht s (List.mem_cons_self ..)) (by simp at hl; omega) hn
    have g2 := vars_go S ⟨r.idx ++ [s.1], r.times, r.wav ++ [(s.1, [])], r.e⟩ (fun x hx => ht x (List.mem_cons_of_mem _ hx)) (by simpa using hd) (by simp at hl ⊢; omega)
    have := g1.trans g2
    simpa using this
theorem done_start (val : Nat → Nat → UInt8) (S : List (List UInt8 × Nat)) : DoneW val S 0 ⟨S.map (·.1), [], S.map (fun s => (s.1, [])), 0⟩ := by
  have hget : ∀ i, i < S.length → (S.map (fun s => (s.1, ([] : List UInt8)))).getD i ([], []) = ((S.getD i ([], 0)).1, []) := fun i hi => by simp [List.getD, List.getElem?_eq_getElem hi]
  refine ⟨rfl, rfl, by simp, rfl, fun i hi => ?_, fun i hi => ?_, fun i hi => ?_⟩
  · show ((S.map (fun s => (s.1, ([] : List UInt8)))).getD i ([], [])).1 = _; rw [hget i hi]
  · show ((S.map (fun s => (s.1, ([] : List UInt8)))).getD i ([], [])).2.length ≤ 0; rw [hget i hi]; simp
  · show holdL 0 ((S.map (fun s => (s.1, ([] : List UInt8)))).getD i ([], [])).2 = _; rw [hget i hi]; rfl
/-! The words of the file. -/
theorem spl_vars : ∀ (S : List (List UInt8 × Nat)) (rest : List UInt8), (∀ s ∈ S, isTextV s.1 8 = true) → splV [] ((S.map varW).flatten ++ rest) = (S.map (fun s => [kVar, kWire, kOne, s.1, s.1, kEnd])).flatten ++ splV [] rest
  | [], rest, _ => rfl
  | s :: S, rest, h => by
    have hs := text_word (h s (List.mem_cons_self ..))
    rw [List.map_cons, List.flatten_cons, List.append_assoc, List.map_cons, List.flatten_cons, List.append_assoc]
    unfold varW
    rw [spl_line _ _ (by simp) (by
      intro w hw
      simp only [List.mem_cons, List.not_mem_nil, or_false] at hw
      have c : ∀ k : List UInt8, (k ≠ [] ∧ k.all (fun x => !gapV x) = true) → WordOk k := fun k hk => ⟨hk.1, fun x hx => by have := List.all_eq_true.1 hk.2 x hx; simpa using this⟩
      rcases hw with rfl | rfl | rfl | rfl | rfl | rfl
      · exact c _ (by decide)
      · exact c _ (by decide)
      · exact c _ (by decide)
      · exact hs
      · exact hs
      · exact c _ (by decide))]
    have := spl_vars S rest (fun x hx => h x (List.mem_cons_of_mem _ hx))
    unfold varW at this
    rw [this]
theorem spl_ones (val : Nat → Nat → UInt8) (f : Nat) : ∀ (S : List (List UInt8 × Nat)) (rest : List UInt8), (∀ s ∈ S, isTextV s.1 8 = true) → splV [] ((S.map (oneW val f)).flatten ++ rest) = (S.map (fun s => if toldW val f s.2 then [digV (val f s.2) :: s.1] else [])).flatten ++ splV [] rest
  | [], rest, _ => rfl
  | s :: S, rest, h => by
    rw [List.map_cons, List.flatten_cons, List.append_assoc, List.map_cons, List.flatten_cons, List.append_assoc, spl_one val f s _ (h s (List.mem_cons_self ..)), spl_ones val f S rest (fun x hx => h x (List.mem_cons_of_mem _ hx))]
theorem spl_frames (val : Nat → Nat → UInt8) (S : List (List UInt8 × Nat)) (h : ∀ s ∈ S, isTextV s.1 8 = true) : ∀ (l : List Nat) (rest : List UInt8), splV [] ((l.map (frameW val S)).flatten ++ rest) = (l.map (wordsF val S)).flatten ++ splV [] rest
  | [], rest => rfl
  | f :: l, rest => by
    rw [List.map_cons, List.flatten_cons, List.append_assoc, List.map_cons, List.flatten_cons, List.append_assoc]
    unfold frameW wordsF
    rw [List.append_assoc, spl_time, spl_ones val f S _ h]
    have := spl_frames val S h l rest
    unfold frameW wordsF at this
    rw [this]
    rfl
theorem spl_head (S : List (List UInt8 × Nat)) (rest : List UInt8) (h : ∀ s ∈ S, isTextV s.1 8 = true) : splV [] (headW S ++ rest) = [kScope, kModule, kInquest, kEnd] ++ ((S.map (fun s => [kVar, kWire, kOne, s.1, s.1, kEnd])).flatten ++ ([kUpscope, kEnd, kEnddef, kEnd] ++ splV [] rest)) := by
  have c : ∀ ws : List (List UInt8), ws.all (fun k => !k.isEmpty && k.all (fun x => !gapV x)) = true → ∀ w ∈ ws, WordOk w := fun ws hws w hw => by
    have := List.all_eq_true.1 hws w hw
    simp only [Bool.and_eq_true, Bool.not_eq_true'] at this
    refine ⟨fun e => by rw [e] at this; simp at this, fun x hx => ?_⟩
    have := List.all_eq_true.1 this.2 x hx
    simpa using this
  unfold headW
  rw [List.append_assoc, List.append_assoc, List.append_assoc, spl_line _ _ (by simp) (c _ (by decide)), spl_vars S _ h, spl_line _ _ (by simp) (c _ (by decide)), spl_line _ _ (by simp) (c _ (by decide))]
  rfl
/-- What is written is read. -/
theorem read_file (val : Nat → Nat → UInt8) (S : List (List UInt8 × Nat)) (F : Nat) (hv : ∀ j l, (val j l).toNat ≤ 2) (hd : (S.map (·.1)).Nodup) (ht : ∀ s ∈ S, isTextV s.1 8 = true) (hS : S.length ≤ 32768) (h1 : 1 ≤ F) (hF : F ≤ 4095) (hlen : (fileW val S F).length ≤ 8388608) :
    readV (fileW val S F) = (List.range (F + 1), S.map (fun s => (s.1, (List.range (F + 1)).map (fun j => val (min j (F - 1)) s.2))), 0) := by
  have hw : wordsV (fileW val S F) = [kScope, kModule, kInquest, kEnd] ++ ((S.map (fun s => [kVar, kWire, kOne, s.1, s.1, kEnd])).flatten ++ ([kUpscope, kEnd, kEnddef, kEnd] ++ (((List.range F).map (wordsF val S)).flatten ++ [35 :: Lib.decDigits F]))) := by
    unfold wordsV fileW bodyW
    have ht2 := spl_time F []
    rw [List.append_nil] at ht2
    rw [List.append_assoc, spl_head S _ ht, spl_frames val S ht, ht2]
    simp [splV]
  have g1 := go_scope r0V
  have g2 := vars_go S r0V ht (by simpa [r0V] using hd) (by simpa [r0V] using hS)
  have g3 := go_upscope ⟨r0V.idx ++ S.map (·.1), r0V.times, r0V.wav ++ S.map (fun s => (s.1, [])), r0V.e⟩
  have hr : (⟨r0V.idx ++ S.map (·.1), r0V.times, r0V.wav ++ S.map (fun s => (s.1, [])), r0V.e⟩ : VRd) = ⟨S.map (·.1), [], S.map (fun s => (s.1, [])), 0⟩ := rfl
  rw [hr] at g2 g3
  obtain ⟨s4, r4, hs4, g4, h4⟩ := frames_go val S hv hd ht _ (done_start val S) F (by omega)
  have g5 := GoV.one (step_time s4 r4 F hs4 h4.times (by omega)) rfl
  have hrun : outV .decl r0V (fileW val S F) = ⟨r4.idx, List.range (F + 1), r4.wav, r4.e⟩ := by
    show runV .decl r0V (wordsV (fileW val S F)) = _
    rw [hw, g1, g2, g3, g4]
    have := g5 []
    rw [List.append_nil] at this
    rw [this]
    rfl
  rw [read_ok _ hlen, hrun]
  unfold readO
  simp only [h4.e, ne_eq, not_true_eq_false, if_false, List.length_range]
  refine Prod.ext rfl (Prod.ext ?_ rfl)
  apply List.ext_getElem
  · simp [h4.len]
  · intro i hi1 hi2
    have hi : i < S.length := by simpa using hi2
    have hi4 : i < r4.wav.length := by simpa using hi1
    have hn := h4.names i hi
    have hh := h4.hist i hi
    have hg := hold_grow F _ (h4.short i hi)
    rw [hh] at hg
    have e1 : r4.wav[i] = r4.wav.getD i ([], []) := by simp [List.getD, List.getElem?_eq_getElem hi4]
    have e2 : S[i] = S.getD i ([], 0) := by simp [List.getD, List.getElem?_eq_getElem hi]
    simp only [List.getElem_map]
    rw [e1, e2, hn, hg]
    refine Prod.ext rfl ?_
    show histW val _ F ++ [_] = _
    obtain ⟨G, rfl⟩ : ∃ G, F = G + 1 := ⟨F - 1, by omega⟩
    rw [List.range_succ, List.map_append, List.map_cons, List.map_nil]
    congr 1
    · unfold histW
      refine List.map_congr_left fun j hj => ?_
      have := List.mem_range.1 hj
      rw [show min j (G + 1 - 1) = j by omega]
    · rw [hist_succ]
      simp
end Go.Proofs.YtgplkpfdbiapaaaGreatDoor
namespace Go.Proofs.YtgplkpfdbiapaaaGreatDoor
open Go Go.RowKit Go.Joins

theorem val_le2 (c : NormC) (t : TraceC) (f lit : Nat) : (valT c t f lit).toNat ≤ 2 := value_le _ _
/-- What Write tells is read as the run. -/
theorem read_fileT (c : NormC) (t : TraceC) (hf : FitsC c t) (hlen : (fileT c t).length ≤ 8388608) :
    readV (fileT c t) = (List.range (t.frames.length + 1), (sigL c).map (fun s => (s.1, (List.range (t.frames.length + 1)).map (fun j => valT c t (min j (t.frames.length - 1)) s.2))), 0) := by
  have hm := hf.may
  refine read_file (valT c t) (sigL c) t.frames.length (val_le2 c t) (sig_nodup c) (sig_text c hm) ?_ hf.one (by have := hf.few; omega) hlen
  rw [sig_many]
  have := hm.few
  have := hm.lens.2.1
  omega
def oneV : NormC := ⟨1, [], [], [], [2], []⟩
def trV : TraceC := ⟨0, [], [[0], [1]]⟩
theorem fits_one : fitsS oneV trV = true := by decide
theorem sig_one : sigL oneV = [([105, 48], 2), ([98, 48], 2)] := by
  unfold sigL numW badW
  show (([105 :: Lib.decDigits 0].map (fun n => (n, 2)) ++ []) ++ []) ++ [98 :: Lib.decDigits 0].map (fun n => (n, 2)) = _
  rw [dgv_lt (show 0 < 10 by omega)]
  rfl
theorem val_one0 : valT oneV trV 0 2 = 0 := by decide
theorem val_one1 : valT oneV trV 1 2 = 1 := by decide
theorem time_small (n : Nat) (h : n < 10) : timeW n = [35, UInt8.ofNat (48 + n), 10] := by
  unfold timeW
  rw [dgv_lt h]
  rfl
def endOne : List UInt8 := [36, 101, 110, 100, 100, 101, 102, 105, 110, 105, 116, 105, 111, 110, 115, 32, 36, 101, 110, 100, 10, 35, 48, 10, 48, 105, 48, 10, 48, 98, 48, 10, 35, 49, 10, 49, 105, 48, 10, 49, 98, 48, 10, 35, 50, 10]
def hdOne : List UInt8 := lineW [kScope, kModule, kInquest, kEnd] ++ ([([105, 48], 2), ([98, 48], 2)].map varW).flatten ++ lineW [kUpscope, kEnd]
theorem file_one : fileT oneV trV = hdOne ++ endOne := by
  have e0 : frameW (valT oneV trV) [([105, 48], 2), ([98, 48], 2)] 0 = [35, 48, 10, 48, 105, 48, 10, 48, 98, 48, 10] := by
    unfold frameW
    rw [time_small 0 (by omega)]
    simp only [List.map_cons, List.map_nil, oneW, toldW, val_one0]
    rfl
  have e1 : frameW (valT oneV trV) [([105, 48], 2), ([98, 48], 2)] 1 = [35, 49, 10, 49, 105, 48, 10, 49, 98, 48, 10] := by
    unfold frameW
    rw [time_small 1 (by omega)]
    simp only [List.map_cons, List.map_nil, oneW, toldW, val_one0, val_one1, Nat.sub_self]
    rfl
  have eb : bodyW (valT oneV trV) [([105, 48], 2), ([98, 48], 2)] 2 = [35, 48, 10, 48, 105, 48, 10, 48, 98, 48, 10] ++ [35, 49, 10, 49, 105, 48, 10, 49, 98, 48, 10] := by
    unfold bodyW
    show ([frameW _ _ 0, frameW _ _ 1] : List (List UInt8)).flatten = _
    rw [e0, e1]
    rfl
  unfold fileT fileW
  rw [sig_one, show trV.frames.length = 2 from rfl, eb, time_small 2 (by omega)]
  unfold headW hdOne endOne
  simp only [List.append_assoc]
  rfl
set_option maxRecDepth 100000 in
theorem read_one : readV (fileT oneV trV) = ([0, 1, 2], [([105, 48], [0, 1, 1]), ([98, 48], [0, 1, 1])], 0) := by
  rw [read_fileT oneV trV (fits_iff.1 fits_one) (by rw [file_one]; decide), sig_one]
  simp only [List.map_cons, List.map_nil, show trV.frames.length = 2 from rfl, show List.range (2 + 1) = [0, 1, 2] from rfl, show min 0 (2 - 1) = 0 from rfl, show min 1 (2 - 1) = 1 from rfl, show min 2 (2 - 1) = 1 from rfl, val_one0, val_one1]
end Go.Proofs.YtgplkpfdbiapaaaGreatDoor
