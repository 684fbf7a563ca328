/- The law's own examples hold. -/
import Derived.Test.YtgplkpfdbiapaaaGreatDoorVdSpec
import Derived.Test.YtgplkpfdbiapaaaGreatDoorVG
import Derived.Lib.ItoaNum
import Derived.Lib.Join
import Derived.Lib.ParseIntBCases
import Derived.Test.YtgplkpfdbiapaaaGreatDoorNSpec
import Derived.Test.YtgplkpfdbiapaaaGreatDoorNTrace
import Derived.Test.YtgplkpfdbiapaaaGreatDoorNCirc
import Derived.Test.YtgplkpfdbiapaaaGreatDoorVD
import Derived.Test.YtgplkpfdbiapaaaGreatDoorVH
import Derived.Test.YtgplkpfdbiapaaaGreatDoorRows
import Derived.Test.YtgplkpfdbiapaaaGreatDoorShelf
import Derived.Test.YtgplkpfdbiapaaaGreatDoorShelf2
import Derived.BigQuiet
import Derived.BigRegion
import Derived.Deep.AppendLies
import Derived.Deep.CutRange
import Derived.Deep.QuietTactic
import Derived.Deep.RegionHeld3
import Derived.Deep.RegionLaw
import Derived.Deep.RegionWith
import Derived.KernelRfl
import Derived.Laws.Bits64b
import Derived.Laws.BitsAllLaws
import Derived.Laws.BitsLemmas
import Derived.Laws.CopyOwn
import Derived.Laws.EntriesVeiled
import Derived.Laws.IdiomCopy
import Derived.Laws.OwnMore
import Derived.Laws.Runes
import Derived.Laws.Tables
import Derived.Lib.AppendIntMem
import Derived.Lib.AppendStr
import Derived.Lib.AppendZeros
import Derived.Lib.BufferWrite
import Derived.Lib.ConvBytes
import Derived.Lib.DecodeN
import Derived.Lib.Hide
import Derived.Lib.Index
import Derived.Lib.IndexEntry
import Derived.Lib.MakeNoZero
import Derived.Lib.SlBytesRow
import Derived.Lib.SmallJoins
import Derived.LoopIn
import Derived.LoopNIn
import Derived.Maps.AppendAt
import Derived.Maps.Own
import Derived.Maps.OwnOps
import Derived.Maps.OwnSet
import Derived.OrdersHeld
import Derived.OrdersIn
import Derived.OwnWalkIn
import Derived.RangeFuncBox
import Derived.RangeFuncCalls
import Derived.RangeFuncLeaves
import Derived.RangeFuncNested
import Derived.RangeFuncWrites
import Derived.Shelf.Abstract
import Derived.Shelf.Bytes.SlSmallAll
import Derived.Shelf.Pu.Lower
import Derived.Shelf.Pu.ToError
import Derived.Shelf.Pu.ToErrorRange
import Derived.Shelf.RegionOpen
import Derived.Shelf.Spec.DecodeRune
import Derived.Shelf.Unicode.DecodeSlow
import Derived.Sort.CutIn
import Derived.Stop.RegionWithIn
import Derived.TacticsInMore
import Derived.WalkKit
import Derived.WalkLawsBesides
import Derived.WalkSpells
import Derived.Test.YtgplkpfdbiapaaaGreatDoorLib
import Derived.Test.YtgplkpfdbiapaaaGreatDoorNBase
import Derived.Test.YtgplkpfdbiapaaaGreatDoorOwn
import Derived.Test.YtgplkpfdbiapaaaGreatDoorVK
import Derived.Test.YtgplkpfdbiapaaaGreatDoorNOwnsN
import Derived.Test.YtgplkpfdbiapaaaGreatDoorNVal
import Derived.Test.YtgplkpfdbiapaaaGreatDoorNHeap
import Derived.Test.YtgplkpfdbiapaaaGreatDoorNOwns
import Derived.Test.YtgplkpfdbiapaaaGreatDoorVL
import Derived.Test.YtgplkpfdbiapaaaGreatDoorVB
import Derived.Test.YtgplkpfdbiapaaaGreatDoorVdRep
import Derived.Test.YtgplkpfdbiapaaaGreatDoorVA
import Derived.Test.YtgplkpfdbiapaaaGreatDoorVdNum
import Derived.Test.YtgplkpfdbiapaaaGreatDoorVJ
import Derived.Test.YtgplkpfdbiapaaaGreatDoorVdWrite
import Derived.Test.YtgplkpfdbiapaaaGreatDoorVdRead
/- What is written is read as the run, on plain lists. -/
namespace Go.Proofs.YtgplkpfdbiapaaaGreatDoor
open Go

/-- The values of a literal in the first n frames. -/
def histW (val : Nat → Nat → UInt8) (lit n : Nat) : List UInt8 := (List.range n).map (fun j => val j lit)
theorem hist_len (val : Nat → Nat → UInt8) (lit n : Nat) : (histW val lit n).length = n := by unfold histW; simp
theorem hist_succ (val : Nat → Nat → UInt8) (lit n : Nat) : histW val lit (n + 1) = histW val lit n ++ [val n lit] := by unfold histW; simp [List.range_succ]
theorem hold_last (T : Nat) (l : List UInt8) : (holdL T l).getLastD 2 = l.getLastD 2 := by
  unfold holdL
  cases h : T - l.length with
  | zero => simp
  | succ m => rw [List.replicate_succ']; simp
theorem hold_grow (T : Nat) (l : List UInt8) (h : l.length ≤ T) : holdL (T + 1) l = holdL T l ++ [(holdL T l).getLastD 2] := by
  rw [hold_last]
  unfold holdL
  rw [show T + 1 - l.length = (T - l.length) + 1 by omega, List.replicate_succ', List.append_assoc]
theorem hold_full (T : Nat) (l : List UInt8) (h : T ≤ l.length) : holdL T l = l := by
  unfold holdL
  rw [show T - l.length = 0 by omega]
  simp
/-- How it stands when k signals of frame f are told of. -/
structure MidW (val : Nat → Nat → UInt8) (S : List (List UInt8 × Nat)) (f k : Nat) (r : VRd) : Prop where
  idx : r.idx = S.map (·.1)
  times : r.times = List.range (f + 1)
  len : r.wav.length = S.length
  e : r.e = 0
  names : ∀ i, i < S.length → (r.wav.getD i ([], [])).1 = (S.getD i ([], 0)).1
  short : ∀ i, i < S.length → (r.wav.getD i ([], [])).2.length ≤ if i < k then f + 1 else f
  hist : ∀ i, i < S.length → holdL (if i < k then f + 1 else f) (r.wav.getD i ([], [])).2 = histW val (S.getD i ([], 0)).2 (if i < k then f + 1 else f)
theorem val_dig (v : UInt8) (h : v.toNat ≤ 2) : valV (digV v) = some v := by
  have : v = 0 ∨ v = 1 ∨ v = 2 := by
    have h3 : v.toNat = 0 ∨ v.toNat = 1 ∨ v.toNat = 2 := by omega
    rcases h3 with e | e | e
    · exact Or.inl (UInt8.toNat_inj.1 e)
    · exact Or.inr (Or.inl (UInt8.toNat_inj.1 e))
    · exact Or.inr (Or.inr (UInt8.toNat_inj.1 e))
  rcases this with rfl | rfl | rfl <;> rfl
theorem dig_cases (v : UInt8) : digV v = 48 ∨ digV v = 49 ∨ digV v = 120 := by
  unfold digV
  split
  · exact Or.inl rfl
  · split
    · exact Or.inr (Or.inl rfl)
    · exact Or.inr (Or.inr rfl)
theorem step_change (r : VRd) (v : UInt8) (n : List UInt8) (hv : v.toNat ≤ 2) (hn : isTextV n 8 = true) (hi : n ∈ r.idx) : stepV .tim r (digV v :: n) = (.tim, setV r (r.idx.idxOf n) v) := by
  have h1 : digV v :: n ≠ kComment := by rcases dig_cases v with e | e | e <;> rw [e] <;> simp [kComment]
  have h2 : digV v :: n ≠ kDump := by rcases dig_cases v with e | e | e <;> rw [e] <;> simp [kDump]
  have h3 : (digV v :: n).headD 0 ≠ 35 := by rcases dig_cases v with e | e | e <;> rw [e] <;> simp
  rw [stepV, if_neg (by simp), if_neg h1, if_neg h2, if_neg h3]
  unfold changeV
  rw [List.headD_cons, List.tail_cons, val_dig v hv]
  show (if isTextV n 8 = false then failV r 5 else if n ∈ r.idx then (VSt.tim, setV r (r.idx.idxOf n) v) else failV r 7) = _
  rw [if_neg (by rw [hn]; simp), if_pos hi]
theorem getD_map1 (S : List (List UInt8 × Nat)) (k : Nat) (hk : k < S.length) : (S.map (·.1)).idxOf (S.getD k ([], 0)).1 = k ∨ ¬ (S.map (·.1)).Nodup := by
  by_cases h : (S.map (·.1)).Nodup
  · left
    have e : (S.getD k ([], 0)).1 = (S.map (·.1))[k]'(by simpa using hk) := by simp [List.getD, List.getElem?_eq_getElem hk]
    rw [e]
    exact h.idxOf_getElem k (by simpa using hk)
  · exact Or.inr h
theorem mid_one (val : Nat → Nat → UInt8) (S : List (List UInt8 × Nat)) (hv : ∀ j l, (val j l).toNat ≤ 2) (hd : (S.map (·.1)).Nodup) (ht : ∀ s ∈ S, isTextV s.1 8 = true) (f k : Nat) (r : VRd) (h : MidW val S f k r) (hk : k < S.length) :
    ∃ r', GoV .tim r (if toldW val f (S.getD k ([], 0)).2 then [digV (val f (S.getD k ([], 0)).2) :: (S.getD k ([], 0)).1] else []) .tim r' ∧ MidW val S f (k + 1) r' := by
  obtain ⟨s, hs⟩ : ∃ s, s = S.getD k ([], 0) := ⟨_, rfl⟩
  have hmem : s ∈ S := by rw [hs]; simp [List.getD, List.getElem?_eq_getElem hk]
  have hwk : k < r.wav.length := by rw [h.len]; exact hk
  have hshort := h.short k hk
  have hhist := h.hist k hk
  rw [if_neg (Nat.lt_irrefl k)] at hshort hhist
  have hgrow := hold_grow f (r.wav.getD k ([], [])).2 hshort
  rw [hhist] at hgrow
  rw [← hs] at hhist hgrow ⊢
  have hT : r.times.length = f + 1 := by rw [h.times]; simp
  have other : ∀ i, i ≠ k → (if i < k + 1 then f + 1 else f) = (if i < k then f + 1 else f) := fun i hi => by
    by_cases e : i < k
    · rw [if_pos e, if_pos (by omega)]
    · rw [if_neg e, if_neg (by omega)]
  by_cases htold : toldW val f s.2 = true
  · rw [if_pos htold]
    have hidx : r.idx.idxOf s.1 = k := by
      rw [h.idx, hs]
      rcases getD_map1 S k hk with e | e
      · exact e
      · exact absurd hd e
    refine ⟨setV r k (val f s.2), GoV.one (by rw [step_change r _ s.1 (hv _ _) (ht s hmem) (by rw [h.idx]; exact List.mem_map.2 ⟨s, hmem, rfl⟩), hidx]) rfl, ?_⟩
    have hnew : (holdL r.times.length (r.wav.getD k ([], [])).2).set (r.times.length - 1) (val f s.2) = histW val s.2 (f + 1) := by
      rw [hT, hgrow, hist_succ, show f + 1 - 1 = (histW val s.2 f).length by rw [hist_len]; omega, List.set_append_right _ _ (Nat.le_refl _)]
      simp
    have hget : ∀ i, i < S.length → (setV r k (val f s.2)).wav.getD i ([], []) = if i = k then ((r.wav.getD k ([], [])).1, histW val s.2 (f + 1)) else r.wav.getD i ([], []) := fun i hi => by
      unfold setV
      rw [hnew]
      simp only [List.getD, List.getElem?_set]
      by_cases e : k = i
      · subst e; rw [if_pos rfl, if_pos hwk, if_pos rfl]; rfl
      · rw [if_neg e, if_neg (fun e2 => e e2.symm)]
    refine ⟨h.idx, h.times, by unfold setV; simp [h.len], h.e, fun i hi => ?_, fun i hi => ?_, fun i hi => ?_⟩
    · rw [hget i hi]
      by_cases e : i = k
      · rw [if_pos e, e]; exact h.names k hk
      · rw [if_neg e]; exact h.names i hi
    · rw [hget i hi]
      by_cases e : i = k
      · rw [if_pos e, if_pos (show i < k + 1 by omega)]; simp [hist_len]
      · rw [if_neg e, other i e]; exact h.short i hi
    · rw [hget i hi]
      by_cases e : i = k
      · rw [if_pos e, if_pos (show i < k + 1 by omega), e, ← hs]
        exact hold_full _ _ (by rw [hist_len]; omega)
      · rw [if_neg e, other i e]; exact h.hist i hi
  · rw [if_neg htold]
    refine ⟨r, GoV.nil _ _, h.idx, h.times, h.len, h.e, h.names, fun i hi => ?_, fun i hi => ?_⟩
    · by_cases e : i = k
      · rw [if_pos (by omega), e]; omega
      · rw [other i e]; exact h.short i hi
    · by_cases e : i = k
      · rw [if_pos (by omega), e, ← hs, hgrow, hist_succ]
        unfold toldW at htold
        simp only [Bool.or_eq_true, decide_eq_true_eq, not_or, Classical.not_not] at htold
        obtain ⟨h0, h1⟩ := htold
        obtain ⟨g, rfl⟩ : ∃ g, f = g + 1 := ⟨f - 1, by omega⟩
        rw [h1, hist_succ]
        simp
      · rw [other i e]; exact h.hist i hi
theorem mid_all (val : Nat → Nat → UInt8) (S : List (List UInt8 × Nat)) (hv : ∀ j l, (val j l).toNat ≤ 2) (hd : (S.map (·.1)).Nodup) (ht : ∀ s ∈ S, isTextV s.1 8 = true) (f : Nat) : ∀ (m k : Nat) (r : VRd), m + k = S.length → MidW val S f k r →
    ∃ r', GoV .tim r ((S.drop k).map (fun s => if toldW val f s.2 then [digV (val f s.2) :: s.1] else [])).flatten .tim r' ∧ MidW val S f S.length r'
  | 0, k, r, hm, h => by
    obtain rfl : k = S.length := by omega
    exact ⟨r, by rw [List.drop_length]; exact GoV.nil _ _, h⟩
  | m + 1, k, r, hm, h => by
    have hk : k < S.length := by omega
    obtain ⟨r1, g1, h1⟩ := mid_one val S hv hd ht f k r h hk
    obtain ⟨r2, g2, h2⟩ := mid_all val S hv hd ht f m (k + 1) r1 (by omega) h1
    refine ⟨r2, ?_, h2⟩
    rw [List.drop_eq_getElem_cons hk, List.map_cons, List.flatten_cons]
    have e : S[k] = S.getD k ([], 0) := by simp [List.getD, List.getElem?_eq_getElem hk]
    rw [e]
    exact g1.trans g2
theorem step_time (s : VSt) (r : VRd) (f : Nat) (hs : s = .unt ∨ s = .tim) (ht : r.times = List.range f) (hf : f < 4096) : stepV s r (35 :: Lib.decDigits f) = (.tim, ⟨r.idx, List.range (f + 1), r.wav, r.e⟩) := by
  have ht2 : timeV r (Lib.decDigits f) = (.tim, ⟨r.idx, List.range (f + 1), r.wav, r.e⟩) := by
    unfold timeV
    rw [numV_dec f (by omega), ht]
    simp only [List.length_range]
    rw [if_neg, if_neg (by omega), List.range_succ]
    rintro ⟨h1, h2⟩
    simp [List.getD, List.getElem?_range (show f - 1 < f by omega)] at h2
    omega
  have h1 : (35 :: Lib.decDigits f) ≠ kComment := by simp [kComment]
  have h2 : (35 :: Lib.decDigits f) ≠ kDump := by simp [kDump]
  rcases hs with rfl | rfl
  · rw [stepV, if_neg (by simp), if_neg h1, if_pos (by simp)]
    exact ht2
  · rw [stepV, if_neg (by simp), if_neg h1, if_neg h2, if_pos (by simp)]
    exact ht2
/-- How it stands when f frames are told of. -/
structure DoneW (val : Nat → Nat → UInt8) (S : List (List UInt8 × Nat)) (f : Nat) (r : VRd) : Prop where
  idx : r.idx = S.map (·.1)
  times : r.times = List.range f
  len : r.wav.length = S.length
  e : r.e = 0
  names : ∀ i, i < S.length → (r.wav.getD i ([], [])).1 = (S.getD i ([], 0)).1
  short : ∀ i, i < S.length → (r.wav.getD i ([], [])).2.length ≤ f
  hist : ∀ i, i < S.length → holdL f (r.wav.getD i ([], [])).2 = histW val (S.getD i ([], 0)).2 f
def wordsF (val : Nat → Nat → UInt8) (S : List (List UInt8 × Nat)) (f : Nat) : List (List UInt8) := (35 :: Lib.decDigits f) :: (S.map (fun s => if toldW val f s.2 then [digV (val f s.2) :: s.1] else [])).flatten
theorem frame_go (val : Nat → Nat → UInt8) (S : List (List UInt8 × Nat)) (hv : ∀ j l, (val j l).toNat ≤ 2) (hd : (S.map (·.1)).Nodup) (ht : ∀ s ∈ S, isTextV s.1 8 = true) (f : Nat) (hf : f < 4096) (s : VSt) (r : VRd) (hs : s = .unt ∨ s = .tim) (h : DoneW val S f r) :
    ∃ r', GoV s r (wordsF val S f) .tim r' ∧ DoneW val S (f + 1) r' := by
  have hm : MidW val S f 0 ⟨r.idx, List.range (f + 1), r.wav, r.e⟩ := ⟨h.idx, rfl, h.len, h.e, h.names, fun i hi => by rw [if_neg (by omega)]; exact h.short i hi, fun i hi => by rw [if_neg (by omega)]; exact h.hist i hi⟩
  obtain ⟨r', g, k⟩ := mid_all val S hv hd ht f S.length 0 _ (by omega) hm
  rw [List.drop_zero] at g
  refine ⟨r', GoV.cons (step_time s r f hs h.times hf) rfl g, k.idx, k.times, k.len, k.e, k.names, fun i hi => ?_, fun i hi => ?_⟩
  · have := k.short i hi; rw [if_pos hi] at this; exact this
  · have := k.hist i hi; rw [if_pos hi] at this; exact this
theorem frames_go (val : Nat → Nat → UInt8) (S : List (List UInt8 × Nat)) (hv : ∀ j l, (val j l).toNat ≤ 2) (hd : (S.map (·.1)).Nodup) (ht : ∀ s ∈ S, isTextV s.1 8 = true) (r : VRd) (h : DoneW val S 0 r) : ∀ F : Nat, F ≤ 4096 →
    ∃ s' r', (s' = .unt ∨ s' = .tim) ∧ GoV .unt r ((List.range F).map (wordsF val S)).flatten s' r' ∧ DoneW val S F r'
  | 0, _ => ⟨.unt, r, Or.inl rfl, GoV.nil _ _, h⟩
  | F + 1, hF => by
    obtain ⟨s1, r1, hs1, g1, h1⟩ := frames_go val S hv hd ht r h F (by omega)
    obtain ⟨r2, g2, h2⟩ := frame_go val S hv hd ht F (by omega) s1 r1 hs1 h1
    refine ⟨.tim, r2, Or.inr rfl, ?_, h2⟩
    rw [List.range_succ, List.map_append, List.flatten_append, List.map_cons, List.map_nil, List.flatten_cons, List.flatten_nil, List.append_nil]
    exact g1.trans g2
theorem vars_go : ∀ (S : List (List UInt8 × Nat)) (r : VRd), (∀ s ∈ S, isTextV s.1 8 = true) → (r.idx ++ S.map (·.1)).Nodup → r.wav.length + S.length ≤ 32768 →
    GoV .decl r (S.map (fun s => [kVar, kWire, kOne, s.1, s.1, kEnd])).flatten .decl ⟨r.idx ++ S.map (·.1), r.times, r.wav ++ S.map (fun s => (s.1, [])), r.e⟩
  | [], r, _, _, _ => by simp only [List.map_nil, List.flatten_nil, List.append_nil]; exact GoV.nil _ _
  | s :: S, r, ht, hd, hl => by
    rw [List.map_cons, List.flatten_cons]
    have hn : s.1 ∉ r.idx := fun h => by
      rw [List.nodup_append] at hd
      exact hd.2.2 s.1 h s.1 (by simp) rfl
    have g1 := go_var r s.1 (ht s (List.mem_cons_self ..)) (by simp at hl; omega) hn
    have g2 := vars_go S ⟨r.idx ++ [s.1], r.times, r.wav ++ [(s.1, [])], r.e⟩ (fun x hx => ht x (List.mem_cons_of_mem _ hx)) (by simpa using hd) (by simp at hl ⊢; omega)
    have := g1.trans g2
    simpa using this
theorem done_start (val : Nat → Nat → UInt8) (S : List (List UInt8 × Nat)) : DoneW val S 0 ⟨S.map (·.1), [], S.map (fun s => (s.1, [])), 0⟩ := by
  have hget : ∀ i, i < S.length → (S.map (fun s => (s.1, ([] : List UInt8)))).getD i ([], []) = ((S.getD i ([], 0)).1, []) := fun i hi => by simp [List.getD, List.getElem?_eq_getElem hi]
  refine ⟨rfl, rfl, by simp, rfl, fun i hi => ?_, fun i hi => ?_, fun i hi => ?_⟩
  · show ((S.map (fun s => (s.1, ([] : List UInt8)))).getD i ([], [])).1 = _; rw [hget i hi]
  · show ((S.map (fun s => (s.1, ([] : List UInt8)))).getD i ([], [])).2.length ≤ 0; rw [hget i hi]; simp
  · show holdL 0 ((S.map (fun s => (s.1, ([] : List UInt8)))).getD i ([], [])).2 = _; rw [hget i hi]; rfl
/-! The words of the file. -/
theorem spl_vars : ∀ (S : List (List UInt8 × Nat)) (rest : List UInt8), (∀ s ∈ S, isTextV s.1 8 = true) → splV [] ((S.map varW).flatten ++ rest) = (S.map (fun s => [kVar, kWire, kOne, s.1, s.1, kEnd])).flatten ++ splV [] rest
  | [], rest, _ => rfl
  | s :: S, rest, h => by
    have hs := text_word (h s (List.mem_cons_self ..))
    rw [List.map_cons, List.flatten_cons, List.append_assoc, List.map_cons, List.flatten_cons, List.append_assoc]
    unfold varW
    rw [spl_line _ _ (by simp) (by
      intro w hw
      simp only [List.mem_cons, List.not_mem_nil, or_false] at hw
      have c : ∀ k : List UInt8, (k ≠ [] ∧ k.all (fun x => !gapV x) = true) → WordOk k := fun k hk => ⟨hk.1, fun x hx => by have := List.all_eq_true.1 hk.2 x hx; simpa using this⟩
      rcases hw with rfl | rfl | rfl | rfl | rfl | rfl
      · exact c _ (by decide)
      · exact c _ (by decide)
      · exact c _ (by decide)
      · exact hs
      · exact hs
      · exact c _ (by decide))]
    have := spl_vars S rest (fun x hx => h x (List.mem_cons_of_mem _ hx))
    unfold varW at this
    rw [this]
theorem spl_ones (val : Nat → Nat → UInt8) (f : Nat) : ∀ (S : List (List UInt8 × Nat)) (rest : List UInt8), (∀ s ∈ S, isTextV s.1 8 = true) → splV [] ((S.map (oneW val f)).flatten ++ rest) = (S.map (fun s => if toldW val f s.2 then [digV (val f s.2) :: s.1] else [])).flatten ++ splV [] rest
  | [], rest, _ => rfl
  | s :: S, rest, h => by
    rw [List.map_cons, List.flatten_cons, List.append_assoc, List.map_cons, List.flatten_cons, List.append_assoc, spl_one val f s _ (h s (List.mem_cons_self ..)), spl_ones val f S rest (fun x hx => h x (List.mem_cons_of_mem _ hx))]
theorem spl_frames (val : Nat → Nat → UInt8) (S : List (List UInt8 × Nat)) (h : ∀ s ∈ S, isTextV s.1 8 = true) : ∀ (l : List Nat) (rest : List UInt8), splV [] ((l.map (frameW val S)).flatten ++ rest) = (l.map (wordsF val S)).flatten ++ splV [] rest
  | [], rest => rfl
  | f :: l, rest => by
    rw [List.map_cons, List.flatten_cons, List.append_assoc, List.map_cons, List.flatten_cons, List.append_assoc]
    unfold frameW wordsF
    rw [List.append_assoc, spl_time, spl_ones val f S _ h]
    have := spl_frames val S h l rest
    unfold frameW wordsF at this
    rw [this]
    rfl
theorem spl_head (S : List (List UInt8 × Nat)) (rest : List UInt8) (h : ∀ s ∈ S, isTextV s.1 8 = true) : splV [] (headW S ++ rest) = [kScope, kModule, kInquest, kEnd] ++ ((S.map (fun s => [kVar, kWire, kOne, s.1, s.1, kEnd])).flatten ++ ([kUpscope, kEnd, kEnddef, kEnd] ++ splV [] rest)) := by
  have c : ∀ ws : List (List UInt8), ws.all (fun k => !k.isEmpty && k.all (fun x => !gapV x)) = true → ∀ w ∈ ws, WordOk w := fun ws hws w hw => by
    have := List.all_eq_true.1 hws w hw
    simp only [Bool.and_eq_true, Bool.not_eq_true'] at this
    refine ⟨fun e => by rw [e] at this; simp at this, fun x hx => ?_⟩
    have := List.all_eq_true.1 this.2 x hx
    simpa using this
  unfold headW
  rw [List.append_assoc, List.append_assoc, List.append_assoc, spl_line _ _ (by simp) (c _ (by decide)), spl_vars S _ h, spl_line _ _ (by simp) (c _ (by decide)), spl_line _ _ (by simp) (c _ (by decide))]
  rfl
/-- What is written is read. -/
theorem read_file (val : Nat → Nat → UInt8) (S : List (List UInt8 × Nat)) (F : Nat) (hv : ∀ j l, (val j l).toNat ≤ 2) (hd : (S.map (·.1)).Nodup) (ht : ∀ s ∈ S, isTextV s.1 8 = true) (hS : S.length ≤ 32768) (h1 : 1 ≤ F) (hF : F ≤ 4095) (hlen : (fileW val S F).length ≤ 8388608) :
    readV (fileW val S F) = (List.range (F + 1), S.map (fun s => (s.1, (List.range (F + 1)).map (fun j => val (min j (F - 1)) s.2))), 0) := by
  have hw : wordsV (fileW val S F) = [kScope, kModule, kInquest, kEnd] ++ ((S.map (fun s => [kVar, kWire, kOne, s.1, s.1, kEnd])).flatten ++ ([kUpscope, kEnd, kEnddef, kEnd] ++ (((List.range F).map (wordsF val S)).flatten ++ [35 :: Lib.decDigits F]))) := by
    unfold wordsV fileW bodyW
    have ht2 := spl_time F []
    rw [List.append_nil] at ht2
    rw [List.append_assoc, spl_head S _ ht, spl_frames val S ht, ht2]
    simp [splV]
  have g1 := go_scope r0V
  have g2 := vars_go S r0V ht (by simpa [r0V] using hd) (by simpa [r0V] using hS)
  have g3 := go_upscope ⟨r0V.idx ++ S.map (·.1), r0V.times, r0V.wav ++ S.map (fun s => (s.1, [])), r0V.e⟩
  have hr : (⟨r0V.idx ++ S.map (·.1), r0V.times, r0V.wav ++ S.map (fun s => (s.1, [])), r0V.e⟩ : VRd) = ⟨S.map (·.1), [], S.map (fun s => (s.1, [])), 0⟩ := rfl
  rw [hr] at g2 g3
  obtain ⟨s4, r4, hs4, g4, h4⟩ := frames_go val S hv hd ht _ (done_start val S) F (by omega)
  have g5 := GoV.one (step_time s4 r4 F hs4 h4.times (by omega)) rfl
  have hrun : outV .decl r0V (fileW val S F) = ⟨r4.idx, List.range (F + 1), r4.wav, r4.e⟩ := by
    show runV .decl r0V (wordsV (fileW val S F)) = _
    rw [hw, g1, g2, g3, g4]
    have := g5 []
    rw [List.append_nil] at this
    rw [this]
    rfl
  rw [read_ok _ hlen, hrun]
  unfold readO
  simp only [h4.e, ne_eq, not_true_eq_false, if_false, List.length_range]
  refine Prod.ext rfl (Prod.ext ?_ rfl)
  apply List.ext_getElem
  · simp [h4.len]
  · intro i hi1 hi2
    have hi : i < S.length := by simpa using hi2
    have hi4 : i < r4.wav.length := by simpa using hi1
    have hn := h4.names i hi
    have hh := h4.hist i hi
    have hg := hold_grow F _ (h4.short i hi)
    rw [hh] at hg
    have e1 : r4.wav[i] = r4.wav.getD i ([], []) := by simp [List.getD, List.getElem?_eq_getElem hi4]
    have e2 : S[i] = S.getD i ([], 0) := by simp [List.getD, List.getElem?_eq_getElem hi]
    simp only [List.getElem_map]
    rw [e1, e2, hn, hg]
    refine Prod.ext rfl ?_
    show histW val _ F ++ [_] = _
    obtain ⟨G, rfl⟩ : ∃ G, F = G + 1 := ⟨F - 1, by omega⟩
    rw [List.range_succ, List.map_append, List.map_cons, List.map_nil]
    congr 1
    · unfold histW
      refine List.map_congr_left fun j hj => ?_
      have := List.mem_range.1 hj
      rw [show min j (G + 1 - 1) = j by omega]
    · rw [hist_succ]
      simp
end Go.Proofs.YtgplkpfdbiapaaaGreatDoor
/- What Write tells is read (circuits and traces), and the law's own example, on plain lists. -/
namespace Go.Proofs.YtgplkpfdbiapaaaGreatDoor
open Go Go.RowKit Go.Joins

theorem val_le2 (c : NormC) (t : TraceC) (f lit : Nat) : (valT c t f lit).toNat ≤ 2 := value_le _ _
/-- What Write tells is read as the run. -/
theorem read_fileT (c : NormC) (t : TraceC) (hf : FitsC c t) (hlen : (fileT c t).length ≤ 8388608) :
    readV (fileT c t) = (List.range (t.frames.length + 1), (sigL c).map (fun s => (s.1, (List.range (t.frames.length + 1)).map (fun j => valT c t (min j (t.frames.length - 1)) s.2))), 0) := by
  have hm := hf.may
  refine read_file (valT c t) (sigL c) t.frames.length (val_le2 c t) (sig_nodup c) (sig_text c hm) ?_ hf.one (by have := hf.few; omega) hlen
  rw [sig_many]
  have := hm.few
  have := hm.lens.2.1
  omega
def oneV : NormC := ⟨1, [], [], [], [2], []⟩
def trV : TraceC := ⟨0, [], [[0], [1]]⟩
theorem fits_one : fitsS oneV trV = true := by decide
theorem sig_one : sigL oneV = [([105, 48], 2), ([98, 48], 2)] := by
  unfold sigL numW badW
  show (([105 :: Lib.decDigits 0].map (fun n => (n, 2)) ++ []) ++ []) ++ [98 :: Lib.decDigits 0].map (fun n => (n, 2)) = _
  rw [dgv_lt (show 0 < 10 by omega)]
  rfl
theorem val_one0 : valT oneV trV 0 2 = 0 := by decide
theorem val_one1 : valT oneV trV 1 2 = 1 := by decide
theorem time_small (n : Nat) (h : n < 10) : timeW n = [35, UInt8.ofNat (48 + n), 10] := by
  unfold timeW
  rw [dgv_lt h]
  rfl
def endOne : List UInt8 := [36, 101, 110, 100, 100, 101, 102, 105, 110, 105, 116, 105, 111, 110, 115, 32, 36, 101, 110, 100, 10, 35, 48, 10, 48, 105, 48, 10, 48, 98, 48, 10, 35, 49, 10, 49, 105, 48, 10, 49, 98, 48, 10, 35, 50, 10]
def hdOne : List UInt8 := lineW [kScope, kModule, kInquest, kEnd] ++ ([([105, 48], 2), ([98, 48], 2)].map varW).flatten ++ lineW [kUpscope, kEnd]
theorem file_one : fileT oneV trV = hdOne ++ endOne := by
  have e0 : frameW (valT oneV trV) [([105, 48], 2), ([98, 48], 2)] 0 = [35, 48, 10, 48, 105, 48, 10, 48, 98, 48, 10] := by
    unfold frameW
    rw [time_small 0 (by omega)]
    simp only [List.map_cons, List.map_nil, oneW, toldW, val_one0]
    rfl
  have e1 : frameW (valT oneV trV) [([105, 48], 2), ([98, 48], 2)] 1 = [35, 49, 10, 49, 105, 48, 10, 49, 98, 48, 10] := by
    unfold frameW
    rw [time_small 1 (by omega)]
    simp only [List.map_cons, List.map_nil, oneW, toldW, val_one0, val_one1, Nat.sub_self]
    rfl
  have eb : bodyW (valT oneV trV) [([105, 48], 2), ([98, 48], 2)] 2 = [35, 48, 10, 48, 105, 48, 10, 48, 98, 48, 10] ++ [35, 49, 10, 49, 105, 48, 10, 49, 98, 48, 10] := by
    unfold bodyW
    show ([frameW _ _ 0, frameW _ _ 1] : List (List UInt8)).flatten = _
    rw [e0, e1]
    rfl
  unfold fileT fileW
  rw [sig_one, show trV.frames.length = 2 from rfl, eb, time_small 2 (by omega)]
  unfold headW hdOne endOne
  simp only [List.append_assoc]
  rfl
set_option maxRecDepth 100000 in
theorem read_one : readV (fileT oneV trV) = ([0, 1, 2], [([105, 48], [0, 1, 1]), ([98, 48], [0, 1, 1])], 0) := by
  rw [read_fileT oneV trV (fits_iff.1 fits_one) (by rw [file_one]; decide), sig_one]
  simp only [List.map_cons, List.map_nil, show trV.frames.length = 2 from rfl, show List.range (2 + 1) = [0, 1, 2] from rfl, show min 0 (2 - 1) = 0 from rfl, show min 1 (2 - 1) = 1 from rfl, show min 2 (2 - 1) = 1 from rfl, val_one0, val_one1]
end Go.Proofs.YtgplkpfdbiapaaaGreatDoor
/- A block read as a slice. -/
namespace Go.Proofs.YtgplkpfdbiapaaaGreatDoor
open Go Go.RowKit Go.Joins
theorem sees_cells {w : World} {g : Nat} {C : Array Value} {t : TypeId} {fr : Nat × Nat} (h : w.heap[g]? = some (.cells C t fr)) (xs : List Value) (n : Nat) (hC : C = xs.toArray) (hn : xs.length = n) : Sees w (some ⟨g, 0, none⟩) n n xs := by
  subst hC
  refine ⟨hn, Nat.le_refl _, (fun e => by cases e), fun _ => ⟨g, 0, rfl, heap_lt h, fun j hj => ?_⟩⟩
  rw [cell_of_block h]
  simp
end Go.Proofs.YtgplkpfdbiapaaaGreatDoor
namespace Go.Proofs.YtgplkpfdbiapaaaGreatDoor
open Go Go.RowKit Go.Joins Go.Shelf Go.Maps

set_option maxRecDepth 100000
/-- What is left of a slice behind its first k. -/
theorem Sees.behind {w : World} {b o n c : Nat} {xs : List Value} (h : Sees w (some ⟨b, o, none⟩) n c xs) (k : Nat) (hk : k ≤ n) : Sees w (some ⟨b, o + k, none⟩) (n - k) (c - k) (xs.drop k) := by
  obtain ⟨h1, h2, h3, h4⟩ := h
  refine ⟨by simp [h1], by omega, (fun e => by cases e), fun h0 => ?_⟩
  obtain ⟨b', o', e, h5, h6⟩ := h4 (by omega)
  cases e
  refine ⟨b, o + k, rfl, h5, fun j hj => ?_⟩
  rw [Nat.add_assoc, h6 (k + j) (by omega), List.getElem?_drop]
theorem len_one : (fileT oneV trV).length = 133 := by rw [file_one]; decide
theorem tail_one : (fileT oneV trV).drop 87 = endOne := by rw [file_one]; decide
set_option maxRecDepth 100000 in
set_option maxHeartbeats 6400000 in
theorem lives10_any (w : World) (G : GapEnv w) (GN : NumEnv w) (htab : TabV w) (hdig : DigEnv w) : Calls Tryz.prog 8 #[] w fun e w' => e = .returned (.bool true) ∧ Below w.heap.size w w' := by
  go_enter Tryz.func8, Tryz.ntmps8
  go_upto_region 3 with fail
  generalize hW : World.alloc (World.alloc (World.alloc (World.alloc (World.alloc (World.alloc w _) _) _) _) _) _ = W1
  have hb : Below w.heap.size w W1 := by subst hW; exact ext_trans (ext_trans (ext_trans (ext_trans (ext_trans (ext_alloc _ _) (ext_alloc _ _)) (ext_alloc _ _)) (ext_alloc _ _)) (ext_alloc _ _)) (ext_alloc _ _)
  have h0 : W1.heap[w.heap.size]? = some (.cells #[.int .u32 2] 42 (0, 0)) := by subst hW; exact heap_below (heap_below (heap_below (heap_below (heap_below (heap_new _ _ _ rfl) (ext_alloc _ _)) (ext_alloc _ _)) (ext_alloc _ _)) (ext_alloc _ _)) (ext_alloc _ _)
  have h1 : W1.heap[w.heap.size + 1]? = some (.cells #[.int .i64 1, .slice none 0 0, .slice none 0 0, .slice none 0 0, .slice (some ⟨w.heap.size, 0, none⟩) 1 1, .slice none 0 0] 26 (0, 0)) := by subst hW; exact heap_below (heap_below (heap_below (heap_below (heap_new _ _ _ (by simp)) (ext_alloc _ _)) (ext_alloc _ _)) (ext_alloc _ _)) (ext_alloc _ _)
  have h2 : W1.heap[w.heap.size + 1 + 1]? = some (.cells #[.int .u8 0] 5 (0, 0)) := by subst hW; exact heap_below (heap_below (heap_below (heap_new _ _ _ (by simp)) (ext_alloc _ _)) (ext_alloc _ _)) (ext_alloc _ _)
  have h3 : W1.heap[w.heap.size + 1 + 1 + 1]? = some (.cells #[.int .u8 1] 5 (0, 0)) := by subst hW; exact heap_below (heap_below (heap_new _ _ _ (by simp)) (ext_alloc _ _)) (ext_alloc _ _)
  have h4 : W1.heap[w.heap.size + 1 + 1 + 1 + 1]? = some (.cells #[.slice (some ⟨w.heap.size + 1 + 1, 0, none⟩) 1 1, .slice (some ⟨w.heap.size + 1 + 1 + 1, 0, none⟩) 1 1] 27 (0, 0)) := by subst hW; exact heap_below (heap_new _ _ _ (by simp)) (ext_alloc _ _)
  have h5 : W1.heap[w.heap.size + 1 + 1 + 1 + 1 + 1]? = some (.cells #[.int .i64 0, .slice none 0 0, .slice (some ⟨w.heap.size + 1 + 1 + 1 + 1, 0, none⟩) 2 2] 30 (0, 0)) := by subst hW; exact heap_new _ _ _ (by simp)
  clear hW
  obtain ⟨sC, hC⟩ : ∃ s : CSlots, s = ⟨none, 0, 0, none, 0, 0, none, 0, 0, some ⟨w.heap.size, 0, none⟩, 1, 1, none, 0, 0⟩ := ⟨_, rfl⟩
  have hsC : SeesCir W1 sC oneV := by
    subst hC
    exact ⟨⟨rfl, Nat.zero_le _, Sees.nil _ _ _ (fun _ => rfl)⟩, ⟨rfl, Nat.zero_le _, Sees.nil _ _ _ (fun _ => rfl)⟩, Sees.nil _ _ _ (fun _ => rfl), sees_cells h0 [.int .u32 2] 1 rfl rfl, Sees.nil _ _ _ (fun _ => rfl)⟩
  have hmC : sC.small := by subst hC; exact ⟨Nat.zero_le _, Nat.zero_le _, Nat.zero_le _, by show (1 : Nat) ≤ 1048576; omega, Nat.zero_le _⟩
  obtain ⟨sT, hT⟩ : ∃ s : TSlots, s = ⟨none, 0, 0, some ⟨w.heap.size + 1 + 1 + 1 + 1, 0, none⟩, 2, 2, [(some ⟨w.heap.size + 1 + 1, 0, none⟩, 1, 1), (some ⟨w.heap.size + 1 + 1 + 1, 0, none⟩, 1, 1)]⟩ := ⟨_, rfl⟩
  have hsT : SeesTr W1 sT trV := by
    subst hT
    refine ⟨Sees.nil _ _ _ (fun _ => rfl), sees_cells h4 [_, _] 2 rfl rfl, rfl, fun k hk => ?_⟩
    match k, hk with
    | 0, _ => exact sees_cells h2 [.int .u8 0] 1 rfl rfl
    | 1, _ => exact sees_cells h3 [.int .u8 1] 1 rfl rfl
  have hmT : sT.small := by
    subst hT
    refine ⟨Nat.zero_le _, by show (2 : Nat) ≤ 1048576; omega, fun x hx => ?_⟩
    rcases List.mem_cons.1 hx with rfl | hx
    · show (1 : Nat) ≤ 1048576; omega
    · rw [List.mem_singleton.1 hx]; show (1 : Nat) ≤ 1048576; omega
  have hwr := write10_any oneV trV sC sT W1 hsC hsT hmC hmT (by decide) (by decide) (by decide) (htab.below hb) (hdig.below hb)
  unfold cirV traceV at hwr
  rw [hC, hT] at hwr
  have HWR := Lib.hid hwr
  have HB := Lib.hid hb
  have HTAB := Lib.hid htab
  have HG := Lib.hid G
  have HGN := Lib.hid GN
  have p0 := cell_of_block h1 0
  have p1 := cell_of_block h1 1
  have p2 := cell_of_block h1 2
  have p3 := cell_of_block h1 3
  have p4 := cell_of_block h1 4
  have p5 := cell_of_block h1 5
  have q0 := cell_of_block h5 0
  have q1 := cell_of_block h5 1
  have q2 := cell_of_block h5 2
  clear hwr hb htab G GN hdig hsC hmC hC hsT hmT hT h0 h1 h2 h3 h4 h5
  go_wp2_with fail
  refine HWR.out.mono ?_
  intro e W2 hp
  obtain ⟨v, rfl, hrow⟩ := hp.1 fits_one
  have hb2 := hp.2.2
  rw [len_one] at hrow
  obtain ⟨ba, bc, rfl⟩ := ownsN_form hrow
  have HROW := Lib.hid hrow
  have HB2 : Hid (Below w.heap.size w W2) := ext_trans HB.out hb2
  clear hp hb2 hrow HWR p0 p1 p2 p3 p4 p5 q0 q1 q2
  have hnl : Sees (W2.alloc (.cells #[.int .u8 10] 5)) (some ⟨W2.heap.size, 0, none⟩) 1 1 ([(10 : UInt8)].map bv) := sees_cells (heap_new W2 (.cells #[.int .u8 10] 5) _ rfl) [bv 10] 1 rfl rfl
  have hcv := hnl.str (P := Tryz.prog) 27 5 9 Tryz.underlying27 Tryz.underlying5 Tryz.underlying9
  rw [show str [10] = (⟨#[10]⟩ : ByteArray) from rfl] at hcv
  clear hnl
  go_upto_region 5 with fail
  clear hcv
  generalize hW3 : W2.alloc (.cells #[.int .u8 10] 5) = W3
  have hb3 : Below W2.heap.size W2 W3 := by subst hW3; exact ext_alloc _ _
  have HB3 := Lib.hid hb3
  clear hW3 hb3
  go_upto_region 6 with fail
  generalize hE : ((((((((((((((((⟨#[36, 101, 110, 100, 100, 101, 102, 105, 110, 105, 116, 105, 111, 110, 115, 32, 36, 101, 110, 100]⟩ : ByteArray) ++ (⟨#[10]⟩ : ByteArray)) ++ (⟨#[35, 48]⟩ : ByteArray)) ++ (⟨#[10]⟩ : ByteArray)) ++ (⟨#[48, 105, 48]⟩ : ByteArray)) ++ (⟨#[10]⟩ : ByteArray)) ++ (⟨#[48, 98, 48]⟩ : ByteArray)) ++ (⟨#[10]⟩ : ByteArray)) ++ (⟨#[35, 49]⟩ : ByteArray)) ++ (⟨#[10]⟩ : ByteArray)) ++ (⟨#[49, 105, 48]⟩ : ByteArray)) ++ (⟨#[10]⟩ : ByteArray)) ++ (⟨#[49, 98, 48]⟩ : ByteArray)) ++ (⟨#[10]⟩ : ByteArray)) ++ (⟨#[35, 50]⟩ : ByteArray)) ++ (⟨#[10]⟩ : ByteArray)) = E
  have hEs : E = str endOne := by
    rw [← hE]
    apply ByteArray.ext
    simp [ByteArray.data_append, str, endOne]
  have hEz : E.size = 46 := by rw [hEs]; rfl
  have HE := Lib.hid hEs
  clear hE hEs
  obtain ⟨a', c', e', hbc, hsee⟩ := Sees.owned HROW.out
  cases e'
  have hcap := hsee.cap
  have hsee3 := hsee.below HB3.out
  obtain ⟨bb, bo, rfl, _⟩ := hsee3.addr (by omega)
  have HB4 : Hid (Below w.heap.size w W3) := ext_trans HB2.out HB3.out
  have hrd : Calls Tryz.prog 9 #[.slice (some ⟨bb, bo, none⟩) 133 bc] W3 fun e w' => Below W3.heap.size W3 w' ∧ ∃ tv vv ss, e = .returned (.tuple #[tv, vv, .int .i64 0]) ∧ Row isU32 w' W3.heap.size 42 tv 3 ([0, 1, 2].map nv32) ∧ OwnW w' W3.heap.size vv ss [([105, 48], [0, 1, 1]), ([98, 48], [0, 1, 1])] := by
    have := read_any W3 (HG.out.below HB4.out) (HGN.out.below HB4.out) (fileT oneV trV) (some ⟨bb, bo, none⟩) 133 bc hsee3 hbc
    unfold ReadPost at this
    rw [read_one] at this
    exact this
  have HRD := Lib.hid hrd
  have HSEE := Lib.hid hsee3
  clear hrd hsee hsee3 HG HGN HTAB
  go_wp2_with fail
  refine HRD.out.mono ?_
  rintro e W4 ⟨hb4, tv, vv, ss, rfl, ht4, hw4⟩
  obtain ⟨ta, tc, rfl⟩ := ht4.form
  obtain ⟨va, vc, rfl⟩ := ownsN_form hw4.row
  have hs4 := (HSEE.out.behind 87 (by omega)).below hb4
  rw [← List.map_drop, tail_one] at hs4
  have hst := hs4.str (P := Tryz.prog) 27 5 9 Tryz.underlying27 Tryz.underlying5 Tryz.underlying9
  rw [← HE.out] at hst
  have HT4 := Lib.hid ht4
  have HW4 := Lib.hid hw4
  have HB5 : Hid (Below w.heap.size w W4) := ext_trans HB4.out hb4
  have hself : (E.toList == E.toList) = true := beq_self_eq_true _
  have W87 : IntKind.i64.wrap ((133 : Int) - 46) = 87 := by decide
  clear hb4 ht4 hw4 hs4 HRD HSEE HB2 HB3 HB4 HROW HE
  go_wp2_with fail
  have hx5 := ext_alloc W4 (.cells #[.int .u32 0, .int .u32 1, .int .u32 2] 42)
  have hn5 := sees_lit W4 42 (0, 0) #[.int .u32 0, .int .u32 1, .int .u32 2] ([0, 1, 2].map nv32) 3 rfl rfl
  generalize hW5 : W4.alloc (.cells #[.int .u32 0, .int .u32 1, .int .u32 2] 42) = W5 at hx5 hn5 ⊢
  have hnum := eqnums_any [0, 1, 2] [0, 1, 2] ta (some ⟨W4.heap.size, 0, none⟩) 3 tc 3 3 W5 ((row_sees_slice HT4.out).2.below hx5) hn5 (by omega)
  rw [show (([0, 1, 2] : List Nat) == [0, 1, 2]) = true from rfl] at hnum
  have HX5 := Lib.hid hx5
  have HNUM := Lib.hid hnum
  clear hx5 hn5 hW5 hnum HT4 hst
  refine HNUM.out.mono ?_
  rintro e w6 ⟨rfl, q, rfl⟩
  have hx6 := HX5.out.trans ((ext_drewN W5 q).mono HX5.out.size)
  have hw6 := HW4.out.below hx6
  generalize W5.drewN q = W6 at hx6 hw6 ⊢
  obtain ⟨V, x0, m0, y0, rfl, c0, d0, s0⟩ := wave_cells hw6 (show 0 < 2 by omega)
  obtain ⟨V', x1, m1, y1, ev, c1, d1, s1⟩ := wave_cells hw6 (show 1 < 2 by omega)
  cases ev
  have c0' : W6.cell? ⟨V, 0, none⟩ = some (.string ⟨#[105, 48]⟩) := c0
  have d0' : W6.cell? ⟨V, 1, none⟩ = some (.slice x0 m0 y0) := d0
  have c1' : W6.cell? ⟨V, 2, none⟩ = some (.string ⟨#[98, 48]⟩) := c1
  have d1' : W6.cell? ⟨V, 3, none⟩ = some (.slice x1 m1 y1) := d1
  have s0' : Sees W6 x0 m0 y0 (([0, 1, 1] : List UInt8).map bv) := s0
  have s1' : Sees W6 x1 m1 y1 (([0, 1, 1] : List UInt8).map bv) := s1
  have HS0 := Lib.hid s0'
  have HS1 := Lib.hid s1'
  have HB7 : Hid (Below w.heap.size w W6) := ext_trans HB5.out hx6
  clear c0 d0 c1 d1 s0 s1 s0' s1' hx6 hw6 HNUM HX5 HW4 HB5
  go_wp2_with fail
  have hx7 := ext_alloc W6 (.cells #[.int .u8 0, .int .u8 1, .int .u8 1] 5)
  have hn7 := sees_lit W6 5 (0, 0) #[.int .u8 0, .int .u8 1, .int .u8 1] (([0, 1, 1] : List UInt8).map bv) 3 rfl rfl
  generalize hW7 : W6.alloc (.cells #[.int .u8 0, .int .u8 1, .int .u8 1] 5) = W7 at hx7 hn7 ⊢
  have hby := bytes_any [0, 1, 1] [0, 1, 1] x0 (some ⟨W6.heap.size, 0, none⟩) m0 y0 3 3 W7 (HS0.out.below hx7) hn7
  rw [beq_self_eq_true] at hby
  have HBY := Lib.hid hby
  have HS17 := Lib.hid (HS1.out.below hx7)
  have HB8 : Hid (Below w.heap.size w W7) := ext_trans HB7.out hx7
  have c2 : W7.cell? ⟨V, 2, none⟩ = some (.string ⟨#[98, 48]⟩) := (hx7.cell (lt_of_cellV c1')).trans c1'
  have d2 : W7.cell? ⟨V, 3, none⟩ = some (.slice x1 m1 y1) := (hx7.cell (lt_of_cellV d1')).trans d1'
  clear hx7 hn7 hW7 hby HS0 HS1 HB7 c0' d0' c1' d1'
  refine HBY.out.mono ?_
  rintro e w8 ⟨rfl, rfl⟩
  go_wp2_with fail
  have hx9 := ext_alloc W7 (.cells #[.int .u8 0, .int .u8 1, .int .u8 1] 5)
  have hn9 := sees_lit W7 5 (0, 0) #[.int .u8 0, .int .u8 1, .int .u8 1] (([0, 1, 1] : List UInt8).map bv) 3 rfl rfl
  generalize hW9 : W7.alloc (.cells #[.int .u8 0, .int .u8 1, .int .u8 1] 5) = W9 at hx9 hn9 ⊢
  have hby := bytes_any [0, 1, 1] [0, 1, 1] x1 (some ⟨W7.heap.size, 0, none⟩) m1 y1 3 3 W9 (HS17.out.below hx9) hn9
  rw [beq_self_eq_true] at hby
  have HBZ := Lib.hid hby
  have HB9 : Hid (Below w.heap.size w W9) := ext_trans HB8.out hx9
  clear hx9 hn9 hW9 hby HS17 HB8 c2 d2 HBY
  refine HBZ.out.mono ?_
  rintro e w10 ⟨rfl, rfl⟩
  go_wp2
  go_ret
  exact ⟨rfl, HB9.out⟩
end Go.Proofs.YtgplkpfdbiapaaaGreatDoor
