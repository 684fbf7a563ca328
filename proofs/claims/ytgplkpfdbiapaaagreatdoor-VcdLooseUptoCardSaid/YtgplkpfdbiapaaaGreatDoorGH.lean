/- bytes.Repeat of one byte, by its contract. -/
import Derived.Test.YtgplkpfdbiapaaaGreatDoorVdSpec
import Derived.Lib.ItoaNum
import Derived.Lib.ParseIntBCases
import Derived.Lib.Join
import Derived.Test.YtgplkpfdbiapaaaGreatDoorLib
import Derived.Test.YtgplkpfdbiapaaaGreatDoorNBase
import Derived.Test.YtgplkpfdbiapaaaGreatDoorNHeap
import Derived.Test.YtgplkpfdbiapaaaGreatDoorGA4
import Derived.Test.YtgplkpfdbiapaaaGreatDoorGG
import Derived.Test.YtgplkpfdbiapaaaGreatDoorRows
import Derived.Test.YtgplkpfdbiapaaaGreatDoorShelf
import Derived.BigQuiet
import Derived.Deep.AppendLies
import Derived.Deep.CutRange
import Derived.Deep.QuietTactic
import Derived.Deep.RegionHeld3
import Derived.Deep.RegionLaw
import Derived.Deep.RegionWith
import Derived.KernelRfl
import Derived.Laws.CopyOwn
import Derived.Laws.EntriesVeiled
import Derived.Laws.IdiomCopy
import Derived.Laws.Tables
import Derived.Lib.AppendStr
import Derived.Lib.AppendZeros
import Derived.Lib.BufferWrite
import Derived.Lib.ConvBytes
import Derived.Lib.Hide
import Derived.Lib.MakeNoZero
import Derived.Lib.SlBytesRow
import Derived.Lib.SmallJoins
import Derived.Maps.AppendAt
import Derived.Maps.Own
import Derived.Maps.OwnOps
import Derived.Maps.OwnSet
import Derived.OrdersHeld
import Derived.Shelf.Bytes.SlSmallAll
import Derived.Shelf.Pu.Lower
import Derived.Shelf.Pu.ToError
import Derived.Shelf.Pu.ToErrorRange
import Derived.WalkKit
import Derived.WalkLawsBesides
import Derived.WalkSpells
/- What the law VcdLoose rests on, on plain lists: gaps count for nothing, nor does a comment behind words. -/
namespace Go.Proofs.YtgplkpfdbiapaaaGreatDoor
open Go

/-- Which gap is put behind the k-th one. -/
def gapOf (more : List UInt8) (k : Nat) : UInt8 := [32, 9, 10, 13].getD ((more.getD k 0).toNat % 4) 0
theorem gapOf_gap (more : List UInt8) (k : Nat) : gapV (gapOf more k) = true := by
  have h : (more.getD k 0).toNat % 4 < 4 := Nat.mod_lt _ (by omega)
  unfold gapOf
  generalize (more.getD k 0).toNat % 4 = m at h
  rcases m with _ | _ | _ | _ | m
  · rfl
  · rfl
  · rfl
  · rfl
  · omega
/-- The bytes with a gap more behind each. -/
def looseL (more : List UInt8) : Nat → List UInt8 → List UInt8
  | _, [] => []
  | k, x :: r => if gapV x then x :: gapOf more k :: looseL more (k + 1) r else x :: looseL more k r
theorem spl_gap {x : UInt8} (h : gapV x = true) (acc r : List UInt8) : splV acc (x :: r) = if acc = [] then splV [] r else acc :: splV [] r := by
  rw [splV]; simp only [h, if_true]
theorem spl_non {x : UInt8} (h : gapV x = false) (acc r : List UInt8) : splV acc (x :: r) = splV (acc ++ [x]) r := by
  rw [splV]; simp only [h, Bool.false_eq_true, if_false]
theorem spl_loose (more : List UInt8) : ∀ (r acc : List UInt8) (k : Nat), splV acc (looseL more k r) = splV acc r
  | [], _, _ => rfl
  | x :: r, acc, k => by
    rw [looseL]
    by_cases e : gapV x = true
    · have h1 : splV [] (gapOf more k :: looseL more (k + 1) r) = splV [] r := by
        rw [spl_gap (gapOf_gap more k), if_pos rfl]
        exact spl_loose more r [] (k + 1)
      rw [if_pos e, spl_gap e, spl_gap e, h1]
    · rw [if_neg e, spl_non (by simpa using e), spl_non (by simpa using e)]
      exact spl_loose more r (acc ++ [x]) k
theorem spl_tail : ∀ (r acc t : List UInt8), splV acc (r ++ 32 :: t) = splV acc r ++ splV [] t
  | [], acc, t => by
    have hg : gapV 32 = true := rfl
    rw [List.nil_append, splV, splV]
    simp only [hg, if_true]
    by_cases e : acc = []
    · simp [e]
    · simp [e]
  | x :: r, acc, t => by
    rw [List.cons_append, splV, splV]
    by_cases e : gapV x = true
    · simp only [e, if_true]
      by_cases e2 : acc = []
      · simp only [e2, if_true]; exact spl_tail r [] t
      · simp only [e2, if_false]; rw [spl_tail r [] t, List.cons_append]
    · simp only [e, Bool.false_eq_true, if_false]
      exact spl_tail r (acc ++ [x]) t
theorem words_loose (more b : List UInt8) : wordsV (looseL more 0 b ++ [32]) = wordsV b := by
  unfold wordsV
  rw [spl_tail, spl_loose]
  simp [splV]
def kTail : List UInt8 := kComment ++ 32 :: ([119, 104, 97, 116] ++ 32 :: kEnd)
theorem words_tail : wordsV kTail = [kComment, [119, 104, 97, 116], kEnd] := by decide
theorem words_comment (x : List UInt8) : wordsV ((x ++ [32]) ++ kTail) = wordsV (x ++ [32]) ++ [kComment, [119, 104, 97, 116], kEnd] := by
  have h1 := spl_tail x [] kTail
  have h2 := spl_tail x [] []
  have h3 := words_tail
  unfold wordsV at h3 ⊢
  rw [List.append_assoc, List.singleton_append, h1, h2, h3]
  simp [splV]
/-- No state inside is the end. -/
def innerV : VSt → Bool
  | .fin => false
  | .exp _ t => innerV t
  | .ign t => innerV t
  | _ => true
theorem inner_step (s : VSt) (r : VRd) (w : List UInt8) (h : innerV s = true) (he : r.e = 0) : (innerV (stepV s r w).1 = true ∧ (stepV s r w).2.e = 0) ∨ (finV (stepV s r w).1 = true ∧ ((stepV s r w).2.e ≠ 0 ∨ w = [] ∧ (s = .unt ∨ s = .tim) ∧ (stepV s r w).2 = r)) := by
  have time : ∀ s, (innerV (timeV r s).1 = true ∧ (timeV r s).2.e = 0) ∨ (finV (timeV r s).1 = true ∧ (timeV r s).2.e ≠ 0) := by
    intro s
    unfold timeV
    cases numV s with
    | none => right; simp [failV, finV]
    | some n =>
      simp only
      split
      · right; simp [failV, finV]
      · split
        · right; simp [failV, finV]
        · left; simp [innerV, he]
  have change : ∀ w t, innerV t = true → (innerV (changeV r w t).1 = true ∧ (changeV r w t).2.e = 0) ∨ (finV (changeV r w t).1 = true ∧ (changeV r w t).2.e ≠ 0) := by
    intro w t ht
    unfold changeV
    split
    · right; simp [failV, finV]
    · split
      · right; simp [failV, finV]
      · split
        · left; simp [ht, setV, he]
        · right; simp [failV, finV]
  have w2 : ∀ p : VSt × VRd, (innerV p.1 = true ∧ p.2.e = 0) ∨ (finV p.1 = true ∧ p.2.e ≠ 0) → (innerV p.1 = true ∧ p.2.e = 0) ∨ (finV p.1 = true ∧ (p.2.e ≠ 0 ∨ w = [] ∧ (s = .unt ∨ s = .tim) ∧ p.2 = r)) := fun p hp => by
    rcases hp with h | h
    · exact Or.inl h
    · exact Or.inr ⟨h.1, Or.inl h.2⟩
  cases s with
  | fin => cases h
  | decl =>
    refine w2 _ ?_
    simp only [stepV]
    repeat' split
    all_goals first
      | (right; simp [failV, finV]; done)
      | (left; simp [innerV, he]; done)
  | exp x t =>
    refine w2 _ ?_
    simp only [stepV]
    repeat' split
    all_goals first
      | (right; simp [failV, finV]; done)
      | (left; exact ⟨h, he⟩)
  | ign t =>
    refine w2 _ ?_
    simp only [stepV]
    repeat' split
    all_goals first
      | (right; simp [failV, finV]; done)
      | (left; exact ⟨h, he⟩)
  | cod =>
    refine w2 _ ?_
    simp only [stepV]
    repeat' split
    all_goals first
      | (right; simp [failV, finV]; done)
      | (left; simp [innerV, he]; done)
  | nam =>
    refine w2 _ ?_
    simp only [stepV]
    repeat' split
    all_goals first
      | (right; simp [failV, finV]; done)
      | (left; simp [innerV, he]; done)
  | unt =>
    rw [stepV]
    split
    · rename_i hw; right; exact ⟨rfl, Or.inr ⟨hw, Or.inl rfl, rfl⟩⟩
    · split
      · left; simp [innerV, he]
      · split
        · exact w2 _ (time _)
        · right; simp [failV, finV]
  | tim =>
    rw [stepV]
    split
    · rename_i hw; right; exact ⟨rfl, Or.inr ⟨hw, Or.inr rfl, rfl⟩⟩
    · split
      · left; simp [innerV, he]
      · split
        · left; simp [innerV, he]
        · split
          · exact w2 _ (time _)
          · exact w2 _ (change _ _ rfl)
  | dmp =>
    refine w2 _ ?_
    simp only [stepV]
    split
    · right; simp [failV, finV]
    · split
      · left; simp [innerV, he]
      · split
        · left; simp [innerV, he]
        · exact change _ _ rfl
theorem run_comment : ∀ (ws : List (List UInt8)) (s : VSt) (r : VRd), innerV s = true → r.e = 0 → (∀ w ∈ ws, w ≠ []) → (runV s r ws).e = 0 → runV s r (ws ++ [kComment, [119, 104, 97, 116], kEnd]) = runV s r ws
  | [], s, r, h, he, _, h0 => by
    rw [runV] at h0
    rcases inner_step s r [] h he with h1 | ⟨h1, h2⟩
    · exact absurd (step_nil s r) (by
        have := h1.1
        cases hs : (stepV s r []).1 <;> simp [hs, innerV, finV] at this ⊢)
    · rcases h2 with h2 | ⟨_, h2 | h2, h3⟩
      · exact absurd h0 h2
      · subst h2; rfl
      · subst h2; rfl
  | w :: ws, s, r, h, he, hw, h0 => by
    rw [List.cons_append, runV, runV]
    rw [runV] at h0
    rcases inner_step s r w h he with h1 | ⟨h1, h2⟩
    · have hf : finV (stepV s r w).1 = false := by
        have := h1.1
        cases hs : (stepV s r w).1 <;> simp [hs, innerV, finV] at this ⊢
      rw [hf] at h0 ⊢
      simp only [Bool.false_eq_true, if_false] at h0 ⊢
      exact run_comment ws _ _ h1.1 h1.2 (fun v hv => hw v (List.mem_cons_of_mem _ hv)) h0
    · rw [h1]
      rfl
theorem spl_ne : ∀ (r acc : List UInt8), ∀ w ∈ splV acc r, w ≠ []
  | [], acc, w, h => by
    rw [splV] at h
    split at h
    · cases h
    · rename_i e; rw [List.mem_singleton.1 h]; exact e
  | x :: r, acc, w, h => by
    rw [splV] at h
    split at h
    · split at h
      · exact spl_ne r [] w h
      · rename_i e
        rcases List.mem_cons.1 h with h1 | h1
        · rw [h1]; exact e
        · exact spl_ne r [] w h1
    · exact spl_ne r _ w h
def readO (r : VRd) : List Nat × List (List UInt8 × List UInt8) × Nat := if r.e ≠ 0 then ([], [], r.e) else (r.times, r.wav.map (fun p => (p.1, holdL r.times.length p.2)), 0)
theorem read_ok (bs : List UInt8) (h : bs.length ≤ 8388608) : readV bs = readO (outV .decl r0V bs) := by
  unfold readV readO
  rw [if_neg (by omega)]
theorem readO_e (r : VRd) (h : (readO r).2.2 = 0) : r.e = 0 := by
  unfold readO at h
  by_cases e : r.e ≠ 0
  · rw [if_pos e] at h; exact absurd h e
  · simpa using e
theorem read_words (b b' : List UInt8) (h : wordsV b = wordsV b') (h1 : b.length ≤ 8388608) (h2 : b'.length ≤ 8388608) : readV b = readV b' := by
  have ho : outV .decl r0V b = outV .decl r0V b' := by
    show runV .decl r0V (wordsV b) = runV .decl r0V (wordsV b')
    rw [h]
  rw [read_ok b h1, read_ok b' h2, ho]
theorem read_comment (x : List UInt8) (h : (readV (x ++ [32])).2.2 = 0) (h1 : x.length ≤ 8000000) : readV ((x ++ [32]) ++ kTail) = readV (x ++ [32]) := by
  have hk : kTail.length = 18 := rfl
  have l1 : (x ++ [32]).length ≤ 8388608 := by simp; omega
  have l2 : ((x ++ [32]) ++ kTail).length ≤ 8388608 := by rw [List.length_append, hk]; simp; omega
  rw [read_ok _ l1] at h ⊢
  rw [read_ok _ l2]
  have h0 := readO_e _ h
  have hr : outV .decl r0V ((x ++ [32]) ++ kTail) = outV .decl r0V (x ++ [32]) := by
    show runV .decl r0V (wordsV ((x ++ [32]) ++ kTail)) = runV .decl r0V (wordsV (x ++ [32]))
    rw [words_comment]
    exact run_comment _ _ _ rfl rfl (fun w hw => spl_ne _ _ w hw) h0
  rw [hr]
theorem loose_len (more : List UInt8) : ∀ (r : List UInt8) (k : Nat), (looseL more k r).length ≤ 2 * r.length
  | [], _ => Nat.le_refl _
  | x :: r, k => by
    rw [looseL]
    split
    · have := loose_len more r (k + 1); simp; omega
    · have := loose_len more r k; simp; omega
end Go.Proofs.YtgplkpfdbiapaaaGreatDoor
/- Package vcd's writer on plain lists, and what its reader makes of it. -/
namespace Go.Proofs.YtgplkpfdbiapaaaGreatDoor
open Go

/-! Numerals. -/
theorem dgv_lt {u : Nat} (h : u < 10) : Lib.decDigits u = [UInt8.ofNat (48 + u)] := by rw [Lib.decDigits, dif_pos h]
theorem dgv_ge {u : Nat} (h : ¬ u < 10) : Lib.decDigits u = Lib.decDigits (u / 10) ++ [UInt8.ofNat (48 + u % 10)] := by rw [Lib.decDigits, dif_neg h]
theorem dgv_byte (d : Nat) (h : d < 10) : (UInt8.ofNat (48 + d)).toNat = 48 + d := by rw [UInt8.toNat_ofNat']; omega
theorem dgv_all (u : Nat) : ∀ x ∈ Lib.decDigits u, 48 ≤ x.toNat ∧ x.toNat ≤ 57 := by
  induction u using Nat.strongRecOn with
  | _ u ih =>
    by_cases h : u < 10
    · rw [dgv_lt h]; intro x hx; have : x = UInt8.ofNat (48 + u) := by simpa using hx
      rw [this, dgv_byte u h]; omega
    · rw [dgv_ge h]
      intro x hx
      rcases List.mem_append.1 hx with hx | hx
      · exact ih (u / 10) (by omega) x hx
      · have : x = UInt8.ofNat (48 + u % 10) := by simpa using hx
        rw [this, dgv_byte _ (by omega)]; omega
theorem dgv_ne (u : Nat) : Lib.decDigits u ≠ [] := by
  by_cases h : u < 10
  · rw [dgv_lt h]; simp
  · rw [dgv_ge h]; simp
theorem dgv_len : ∀ (k u : Nat), u < 10 ^ (k + 1) → (Lib.decDigits u).length ≤ k + 1
  | 0, u, h => by rw [dgv_lt (by omega)]; simp
  | k + 1, u, h => by
    by_cases hu : u < 10
    · rw [dgv_lt hu]; simp
    · rw [dgv_ge hu, List.length_append, List.length_singleton]
      have := dgv_len k (u / 10) (by rw [Nat.pow_succ] at h; omega)
      omega
/-- What a row of digits spells behind acc. -/
def spellV (acc : Nat) (l : List UInt8) : Nat := l.foldl (fun a c => a * 10 + (c.toNat - 48)) acc
theorem spell_le : ∀ (l : List UInt8) (acc : Nat), acc ≤ spellV acc l
  | [], _ => Nat.le_refl _
  | c :: r, acc => by
    have := spell_le r (acc * 10 + (c.toNat - 48))
    show acc ≤ spellV (acc * 10 + (c.toNat - 48)) r
    omega
theorem spell_parse (M : Nat) (hM : M < 1844674407370955162) : ∀ (l : List UInt8) (acc : Nat), (∀ c ∈ l, 48 ≤ c.toNat ∧ c.toNat ≤ 57) → spellV acc l ≤ M → Lib.parseUintM M acc l = .ok (spellV acc l)
  | [], _, _, _ => rfl
  | c :: r, acc, h, hm => by
    have hc := h c (List.mem_cons_self ..)
    have h1 : spellV (acc * 10 + (c.toNat - 48)) r ≤ M := hm
    have h2 := spell_le r (acc * 10 + (c.toNat - 48))
    rw [Lib.parseUintM, if_pos hc, if_neg (by omega), if_neg (by omega)]
    exact spell_parse M hM r _ (fun x hx => h x (List.mem_cons_of_mem _ hx)) h1
theorem spell_dec (u : Nat) : spellV 0 (Lib.decDigits u) = u := by
  induction u using Nat.strongRecOn with
  | _ u ih =>
    by_cases h : u < 10
    · rw [dgv_lt h]
      simp only [spellV, List.foldl_cons, List.foldl_nil, dgv_byte u h]; omega
    · rw [dgv_ge h]
      have := ih (u / 10) (by omega)
      unfold spellV at this ⊢
      rw [List.foldl_append, this]
      simp only [List.foldl_cons, List.foldl_nil, dgv_byte _ (show u % 10 < 10 by omega)]; omega
theorem dgv_inj {u v : Nat} (h : Lib.decDigits u = Lib.decDigits v) : u = v := by
  rw [← spell_dec u, h, spell_dec v]
theorem numV_dec (u : Nat) (h : u < 2147483648) : numV (Lib.decDigits u) = some u := by
  have h1 := spell_parse 2147483647 (by omega) (Lib.decDigits u) 0 (dgv_all u) (by rw [spell_dec]; omega)
  unfold numV Lib.parseUintB
  rw [if_neg (dgv_ne u), show 2 ^ 31 - 1 = 2147483647 by decide, h1, spell_dec]
  simp

/-! What is written. -/
def kModule : List UInt8 := [109, 111, 100, 117, 108, 101]
def kInquest : List UInt8 := [105, 110, 113, 117, 101, 115, 116]
def lineW (ws : List (List UInt8)) : List UInt8 := Lib.join ws [32] ++ [10]
def timeW (n : Nat) : List UInt8 := 35 :: (Lib.decDigits n ++ [10])
def digV (v : UInt8) : UInt8 := if v = 0 then 48 else if v = 1 then 49 else 120
def varW (s : List UInt8 × Nat) : List UInt8 := lineW [kVar, kWire, kOne, s.1, s.1, kEnd]
def headW (S : List (List UInt8 × Nat)) : List UInt8 := lineW [kScope, kModule, kInquest, kEnd] ++ (S.map varW).flatten ++ lineW [kUpscope, kEnd] ++ lineW [kEnddef, kEnd]
/-- Is the f-th frame's value of that literal told? -/
def toldW (val : Nat → Nat → UInt8) (f lit : Nat) : Bool := decide (f = 0) || decide (val f lit ≠ val (f - 1) lit)
def oneW (val : Nat → Nat → UInt8) (f : Nat) (s : List UInt8 × Nat) : List UInt8 := if toldW val f s.2 then digV (val f s.2) :: lineW [s.1] else []
def frameW (val : Nat → Nat → UInt8) (S : List (List UInt8 × Nat)) (f : Nat) : List UInt8 := timeW f ++ (S.map (oneW val f)).flatten
def bodyW (val : Nat → Nat → UInt8) (S : List (List UInt8 × Nat)) (F : Nat) : List UInt8 := ((List.range F).map (frameW val S)).flatten
def fileW (val : Nat → Nat → UInt8) (S : List (List UInt8 × Nat)) (F : Nat) : List UInt8 := headW S ++ bodyW val S F ++ timeW F

/-! Its words. -/
def WordOk (w : List UInt8) : Prop := w ≠ [] ∧ ∀ x ∈ w, gapV x = false
theorem spl_free : ∀ (w acc r : List UInt8), (∀ x ∈ w, gapV x = false) → splV acc (w ++ r) = splV (acc ++ w) r
  | [], acc, r, _ => by simp
  | x :: w, acc, r, h => by
    rw [List.cons_append, spl_non (h x (List.mem_cons_self ..)), spl_free w (acc ++ [x]) r (fun y hy => h y (List.mem_cons_of_mem _ hy))]
    simp
theorem spl_word {w : List UInt8} (h : WordOk w) {g : UInt8} (hg : gapV g = true) (r : List UInt8) : splV [] (w ++ g :: r) = w :: splV [] r := by
  rw [spl_free w [] _ h.2, List.nil_append, spl_gap hg, if_neg h.1]
theorem spl_join : ∀ (r : List (List UInt8)) (x rest : List UInt8), WordOk x → (∀ w ∈ r, WordOk w) → splV [] (x ++ (Lib.joinTail [32] r ++ 10 :: rest)) = x :: (r ++ splV [] rest)
  | [], x, rest, hx, _ => by
    show splV [] (x ++ 10 :: rest) = _
    exact spl_word hx rfl rest
  | y :: r, x, rest, hx, h => by
    have e : Lib.joinTail [32] (y :: r) ++ 10 :: rest = 32 :: (y ++ (Lib.joinTail [32] r ++ 10 :: rest)) := by
      unfold Lib.joinTail
      simp
    rw [e, spl_word hx rfl, spl_join r y rest (h y (List.mem_cons_self ..)) (fun w hw => h w (List.mem_cons_of_mem _ hw))]
    rfl
theorem spl_line (ws : List (List UInt8)) (rest : List UInt8) (h0 : ws ≠ []) (h : ∀ w ∈ ws, WordOk w) : splV [] (lineW ws ++ rest) = ws ++ splV [] rest := by
  cases ws with
  | nil => exact absurd rfl h0
  | cons x r =>
    unfold lineW
    rw [Lib.join_cons, List.append_assoc, List.append_assoc]
    exact spl_join r x rest (h x (List.mem_cons_self ..)) (fun w hw => h w (List.mem_cons_of_mem _ hw))
theorem time_word (n : Nat) : WordOk (35 :: Lib.decDigits n) := by
  refine ⟨by simp, fun x hx => ?_⟩
  rcases List.mem_cons.1 hx with rfl | hx
  · rfl
  · have := dgv_all n x hx
    unfold gapV
    have hn : ∀ k : UInt8, k.toNat < 48 → (x == k) = false := fun k hk => beq_eq_false_iff_ne.2 (fun e => by rw [e] at this; omega)
    rw [hn 32 (by decide), hn 9 (by decide), hn 10 (by decide), hn 13 (by decide)]
    rfl
theorem spl_time (n : Nat) (rest : List UInt8) : splV [] (timeW n ++ rest) = (35 :: Lib.decDigits n) :: splV [] rest := by
  have e : timeW n ++ rest = (35 :: Lib.decDigits n) ++ 10 :: rest := by unfold timeW; simp
  rw [e, spl_word (time_word n) rfl]

/-! A signal's name. -/
structure NameOk (w : List UInt8) : Prop where
  text : isTextV w 8 = true
theorem text_word {w : List UInt8} {m : Nat} (h : isTextV w m = true) : WordOk w := by
  unfold isTextV at h
  simp only [Bool.and_eq_true, decide_eq_true_eq, Bool.not_eq_true', List.any_eq_false] at h
  refine ⟨fun e => by rw [e] at h; simp at h, fun x hx => ?_⟩
  have h2 := h.2 x hx
  unfold strangeV at h2
  simp only [Bool.or_eq_true, decide_eq_true_eq, not_or] at h2
  have h3 : 33 ≤ x.toNat := by
    have := h2.1
    rw [UInt8.lt_iff_toNat_lt] at this
    have e : (33 : UInt8).toNat = 33 := rfl
    omega
  unfold gapV
  have hn : ∀ k : UInt8, k.toNat < 33 → (x == k) = false := fun k hk => beq_eq_false_iff_ne.2 (fun e => by rw [e] at h3; omega)
  rw [hn 32 (by decide), hn 9 (by decide), hn 10 (by decide), hn 13 (by decide)]
  rfl
theorem text_more {w : List UInt8} {m m' : Nat} (h : isTextV w m = true) (hm : m ≤ m') : isTextV w m' = true := by
  unfold isTextV at h ⊢
  simp only [Bool.and_eq_true, decide_eq_true_eq] at h ⊢
  exact ⟨⟨h.1.1, by omega⟩, h.2⟩
theorem dig_gap (v : UInt8) : gapV (digV v) = false := by
  unfold digV
  split
  · rfl
  · split <;> rfl
theorem spl_one (val : Nat → Nat → UInt8) (f : Nat) (s : List UInt8 × Nat) (rest : List UInt8) (h : isTextV s.1 8 = true) : splV [] (oneW val f s ++ rest) = (if toldW val f s.2 then [digV (val f s.2) :: s.1] else []) ++ splV [] rest := by
  unfold oneW
  split
  · have e : (digV (val f s.2) :: lineW [s.1]) ++ rest = (digV (val f s.2) :: s.1) ++ 10 :: rest := by unfold lineW; rw [Lib.join_one]; simp
    have hw : WordOk (digV (val f s.2) :: s.1) := ⟨by simp, fun x hx => by
      rcases List.mem_cons.1 hx with rfl | hx
      · exact dig_gap _
      · exact (text_word h).2 x hx⟩
    rw [e, spl_word hw rfl]
    rfl
  · rfl

/-! What the reader makes of it. -/
def GoV (s : VSt) (r : VRd) (ws : List (List UInt8)) (s' : VSt) (r' : VRd) : Prop := ∀ rest, runV s r (ws ++ rest) = runV s' r' rest
theorem GoV.nil (s : VSt) (r : VRd) : GoV s r [] s r := fun _ => rfl
theorem GoV.trans {s s1 s2 : VSt} {r r1 r2 : VRd} {a b : List (List UInt8)} (h : GoV s r a s1 r1) (k : GoV s1 r1 b s2 r2) : GoV s r (a ++ b) s2 r2 := fun rest => by
  rw [List.append_assoc, h, k]
theorem GoV.one {s : VSt} {r : VRd} {w : List UInt8} {s' : VSt} {r' : VRd} (h : stepV s r w = (s', r')) (hf : finV s' = false) : GoV s r [w] s' r' := fun rest => by
  rw [List.singleton_append, runV, h]
  simp only [hf, Bool.false_eq_true, if_false]
theorem GoV.cons {s s1 s2 : VSt} {r r1 r2 : VRd} {w : List UInt8} {b : List (List UInt8)} (h : stepV s r w = (s1, r1)) (hf : finV s1 = false) (k : GoV s1 r1 b s2 r2) : GoV s r (w :: b) s2 r2 := (GoV.one h hf).trans k
theorem go_scope (r : VRd) : GoV .decl r [kScope, kModule, kInquest, kEnd] .decl r := fun _ => rfl
theorem go_upscope (r : VRd) : GoV .decl r [kUpscope, kEnd, kEnddef, kEnd] .unt r := fun _ => rfl
theorem go_var (r : VRd) (n : List UInt8) (h : isTextV n 8 = true) (hr : r.wav.length < 32768) (hn : n ∉ r.idx) : GoV .decl r [kVar, kWire, kOne, n, n, kEnd] .decl ⟨r.idx ++ [n], r.times, r.wav ++ [(n, [])], r.e⟩ := by
  have hne : n ≠ [] := (text_word h).1
  refine GoV.cons (s1 := .exp kWire (.exp kOne .cod)) (r1 := r) ?_ rfl (GoV.cons (s1 := .exp kOne .cod) (r1 := r) rfl rfl (GoV.cons (s1 := .cod) (r1 := r) rfl rfl (GoV.cons (s1 := .nam) (r1 := ⟨r.idx ++ [n], r.times, r.wav, r.e⟩) ?_ rfl (GoV.cons (s1 := .exp kEnd .decl) (r1 := ⟨r.idx ++ [n], r.times, r.wav ++ [(n, [])], r.e⟩) ?_ rfl (GoV.cons (s1 := .decl) (r1 := ⟨r.idx ++ [n], r.times, r.wav ++ [(n, [])], r.e⟩) rfl rfl (GoV.nil _ _))))))
  · rw [stepV, if_pos rfl, if_neg (by omega)]
  · rw [stepV, if_neg hne, if_neg (by rw [h]; simp), if_neg hn]
  · rw [stepV, if_neg hne, if_neg (by rw [text_more h (by omega)]; simp)]
end Go.Proofs.YtgplkpfdbiapaaaGreatDoor
namespace Go.Proofs.YtgplkpfdbiapaaaGreatDoor
open Go Go.RowKit Go.Joins Go.Shelf

theorem info1_u8 : (Tryz.prog.info? 5).map (·.size) = some 1 := by kernel_rfl
theorem makeNoZero_any (n : Nat) (hn : n ≤ 4096) (w : World) :
    ∃ (cs : List Value) (w' : World), (callFunc 73 #[.int .i64 (n : Int)]).run Tryz.prog w = .ok (.value (.slice (some ⟨w.heap.size, 0, none⟩) n cs.length)) w' ∧ n ≤ cs.length ∧ w'.heap[w.heap.size]? = some (.cells cs.toArray 5 (0, 0)) ∧ Below w.heap.size w w' := by
  obtain ⟨cs, hrun, hle, hmax⟩ := Lib.run_makeNoZero (P := Tryz.prog) (w := w) #[3] 27 5 Tryz.underlying27 n (by omega)
  refine ⟨cs.toList, w.drew.drew.alloc (.cells cs 5), ?_, by simpa using hle, ?_, ?_⟩
  · rw [run_callFunc_extern Tryz.func73 (by kernel_rfl) (by kernel_rfl) (by kernel_rfl) (e := Extern.BytealgMakeNoZero.makeNoZero #[3] #[27]) (by kernel_rfl), hrun]
    simp [Result.andThen]
  · simpa using heap_new w.drew.drew (.cells cs 5) _ rfl
  · exact ((Below.refl _ w).drew.drew).alloc (Nat.le_refl _) _
set_option maxRecDepth 100000 in
set_option maxHeartbeats 800000 in
theorem repeat_any (v : UInt8) (k : Nat) (hk : k ≤ 4096) (b off c : Nat) (w : World) (hc : w.cell? ⟨b, off, none⟩ = some (.int .u8 (v.toNat : Int))) :
    Calls Tryz.prog 48 #[.slice (some ⟨b, off, none⟩) 1 c, .int .i64 (k : Int)] w fun e w' => ∃ ad c', e = .returned (.slice (some ad) k c') ∧ Sees w' (some ad) k c' ((List.replicate k v).map bv) ∧ Below w.heap.size w w' := by
  by_cases h0 : k = 0
  · subst h0
    go_enter Tryz.func48, Tryz.ntmps48
    go_wp2
    go_ret
    refine ⟨_, _, rfl, Sees.zero _ _ _ _ (fun e => by first | rfl | cases e) rfl, ?_⟩
    first | exact Below.refl _ _ | exact ext_alloc _ _
  · have hk1 : ¬ ((k : Int) < 0) := by omega
    have hk0 : ((k : Int) == 0) = false := beq_eq_false_iff_ne.2 (by omega)
    have hmul := Tryz.bits_Mul 1 k (by omega) (by omega) w
    have hw1 : IntKind.u64.wrap (k : Int) = (k : Int) := IntWalk.u64_in _ (by omega)
    obtain ⟨cs, w1, hmk, hcl, hg1, hb1⟩ := makeNoZero_any k hk w
    go_enter Tryz.func48, Tryz.ntmps48
    have hm1 : 1 * k / 18446744073709551616 = 0 := by omega
    have hm2 : 1 * k % 18446744073709551616 = k := by omega
    rw [hm1, hm2] at hmul
    have hmul : Calls Tryz.prog 72 #[.int .u64 1, .int .u64 (k : Int)] w fun e w' => e = .returned (.tuple #[.int .u64 0, .int .u64 (k : Int)]) ∧ w' = w := hmul
    have HM := Lib.hid hmul
    have hb9 : ¬ ((9223372036854775807 : Int) < (k : Int)) := by omega
    have hb8 : ¬ ((8192 : Int) < (k : Int)) := by omega
    have hw2 : IntKind.i64.wrap (k : Int) = (k : Int) := IntWalk.i64_in _ (by omega)
    have hclz : (k : Int) ≤ (cs.length : Int) := by omega
    have hc1 := (hb1.cell (p := ⟨b, off, none⟩) (lt_of_cellV hc)).trans hc
    have HB1 := Lib.hid hb1
    have HG1 := Lib.hid hg1
    have HCL := Lib.hid hcl
    have hk1' : 1 ≤ k := by omega
    clear hmul hm1 hm2 hb1 hg1 hcl
    go_wp2_with fail
    refine HM.out.mono ?_
    rintro e w' ⟨rfl, hw⟩
    rw [hw]
    go_wp2_with (with_reducible refine wpList_copy_splice rfl (.tmp 58) (.tmp 59) 27 27 rfl 5 Tryz.underlying27 info1_u8 (some ⟨w.heap.size, 0, none⟩) (some ⟨b, off, none⟩) k k 1 c rfl rfl w.heap.size 0 cs 5 HG1.out [bv v] ?c1 ?c2 ?c3 ?c4 w.heap.size w HB1.out (Nat.le_refl _) ?c5)
    case c1 => exact (Nat.min_eq_left hk1').symm
    case c2 =>
      intro j u hj
      rcases j with _ | j
      · simp at hj; subst hj; simpa [bv] using hc1
      · simp at hj
    case c3 => have := HCL.out; simp; omega
    case c4 => intro u hu; simp at hu; subst hu; rfl
    intro w2 hg2 hb2
    have HI0 : Hid (∃ cur : List Value, w2.heap[w.heap.size]? = some (.cells cur.toArray 5 (0, 0)) ∧ cur.length = cs.length ∧ ∀ j, j < 1 → cur[j]? = some (bv v)) := by
      refine ⟨_, hg2.out, ?_, ?_⟩
      · have := HCL.out
        exact length_splice cs 0 [bv v] (by simp; omega)
      · intro j hj
        have : j = 0 := by omega
        subst this
        simp [splice]
    have HB2 := Lib.hid hb2
    clear hg2 hb2 HG1 HB1 hc1 hc HM hmk
    go_wp2
    go_loopw [10, 11] (fun bp _ wr => ∃ m : Nat, 1 ≤ m ∧ m ≤ k ∧ bp = .int .i64 m ∧ Hid (Below w.heap.size w wr) ∧ Hid (∃ cur : List Value, wr.heap[w.heap.size]? = some (.cells cur.toArray 5 (0, 0)) ∧ cur.length = cs.length ∧ ∀ j, j < m → cur[j]? = some (bv v))) (fun bp _ _ => k - (intOf bp).toNat)
    case atStart => exact ⟨1, Nat.le_refl _, hk1', rfl, HB2, HI0⟩
    case round =>
      obtain ⟨m, hm1, hmk, rfl, hB, cur, hcur, hlen, hvs⟩ := hrel
      have HB := Lib.hid hB.out
      by_cases hlt : m < k
      · have hltz : (m : Int) < (k : Int) := by omega
        have hmin : min (m : Int) (k : Int) = (m : Int) := by omega
        have hcs : ((List.replicate m v).map bv).length = m := by simp
        obtain ⟨p, hp⟩ : ∃ p, p = min m (k - m) := ⟨_, rfl⟩
        obtain ⟨nx, hnx⟩ : ∃ nx, nx = m + p := ⟨_, rfl⟩
        have hp1 : 1 ≤ p := by omega
        have W1 : IntKind.i64.wrap ((m : Int) + (p : Int)) = (nx : Int) := by rw [IntWalk.i64_in _ (by omega)]; omega
        have HCUR := Lib.hid hcur
        have HCS : Hid (∀ j u, ((List.replicate p v).map bv)[j]? = some u → wr.cell? ((⟨w.heap.size, 0, none⟩ : Addr).add j) = some u) := by
          intro j u hj
          have hjp : j < p := by have := (List.getElem?_eq_some_iff.1 hj).1; simpa using this
          rw [Lib.add_plain, cell_of_block HCUR.out (0 + j), Nat.zero_add, List.getElem?_toArray, hvs j (by omega)]
          simp [hjp] at hj
          rw [hj]
        have HVS := Lib.hid hvs
        have hnmin : p = Nat.min m (k - m) := hp
        clear hvs hcur hB
        have q1 : ∀ W, (Instr.slice 27 (.slice (some ⟨w.heap.size, 0, none⟩) k k) (some (.int .i64 (m : Int))) none none).run Tryz.prog W = .ok (.slice (some ⟨w.heap.size, m, none⟩) (k - m) (k - m)) W := fun W => by
          rw [run_from (P := Tryz.prog) Tryz.underlying27 Tryz.sizeOf5 W _ k k m (m : Int) rfl hmk]
          unfold sliced
          rw [if_neg (by omega), Nat.mul_one]
          have hm0 : ¬ m = 0 := by omega
          simp [Addr.add, hm0]
        have q2 : ∀ W, (Instr.slice 27 (.slice (some ⟨w.heap.size, 0, none⟩) k k) none (some (.int .i64 (m : Int))) none).run Tryz.prog W = .ok (.slice (some ⟨w.heap.size, 0, none⟩) m k) W := fun W => by
          rw [run_upto (P := Tryz.prog) Tryz.underlying27 Tryz.sizeOf5 W _ k k m (m : Int) rfl hmk]
          unfold sliced
          simp [Addr.add]
        obtain ⟨dl, hdl⟩ : ∃ dl, dl = k - m := ⟨_, rfl⟩
        rw [← hdl] at q1 hnmin
        have HEND : ∀ w4 : World, Hid (w4.heap[w.heap.size]? = some (.cells (splice cur m ((List.replicate p v).map bv)).toArray 5 (0, 0))) → Hid (∃ cur : List Value, w4.heap[w.heap.size]? = some (.cells cur.toArray 5 (0, 0)) ∧ cur.length = cs.length ∧ ∀ j, j < nx → cur[j]? = some (bv v)) := by
          intro w4 h4
          have := HCL.out
          refine ⟨_, h4.out, ?_, ?_⟩
          · rw [length_splice cur m _ (by simp; omega)]; exact hlen
          · intro j hj
            unfold splice
            by_cases hjm : j < m
            · rw [List.getElem?_append_left (by simp; omega), List.getElem?_take_of_lt hjm]
              exact HVS.out j hjm
            · have htl : (cur.take m).length = m := by simp; omega
              rw [List.getElem?_append_right (by omega), htl, List.getElem?_append_left (by simp; omega), List.getElem?_map, List.getElem?_replicate, if_pos (by omega)]
              rfl
        have HHE := Lib.hid HEND
        have hfit : m + ((List.replicate p v).map bv).length ≤ cur.length := by have := HCL.out; simp; omega
        have hones : ∀ u ∈ (List.replicate p v).map bv, u.oneCell' = true := bv_one _
        have hpl : ((List.replicate p v).map bv).length = p := by simp
        obtain ⟨vs, hvs⟩ : ∃ vs, vs = (List.replicate p v).map bv := ⟨_, rfl⟩
        rw [← hvs] at HCS HHE hfit hones hpl
        have hn1 : vs.length = Nat.min m dl := by rw [hpl]; exact hnmin
        have HN := Lib.hid hn1
        have HF := Lib.hid hfit
        have HO := Lib.hid hones
        have HP := Lib.hid hpl
        have hnk : nx ≤ k := by omega
        have hmn : m < nx := by omega
        clear HEND hfit hones hpl hvs hn1 hnmin hdl hp hcs hlen
        go_upto_region 20 with fail
        go_region_law (refine step_copy_splice rfl (.tmp 70) (.tmp 73) 27 27 rfl 5 Tryz.underlying27 info1_u8 (some ⟨w.heap.size, m, none⟩) (some ⟨w.heap.size, 0, none⟩) dl dl m k (by simp [Act.eval, Act.put]) (by simp [Act.eval, Act.put]) w.heap.size m cur 5 HCUR.out vs HN.out (fun _ => ⟨rfl, _, rfl, HCS.out⟩) HF.out HO.out w.heap.size w HB.out.drew (Nat.le_refl _) ?_; intro w4 hg4 hb4; rw [HP.out]; have H4 := Lib.hid (HHE.out w4 hg4); have HB4 := Lib.hid hb4; clear hg4 hb4)
        all_goals go_simp
        all_goals have hcast : Value.int .i64 ((m : Int) + (p : Int)) = .int .i64 (nx : Int) := by congr 1; omega
        all_goals go_roundw
        all_goals first
          | (simp [intOf]; omega)
          | exact ⟨nx, by omega, hnk, hcast, HB4, H4.out⟩
          | exact ⟨_, _, _, _, _, _, _, _, _, _, _, _, _, _, _, _, _, ⟨nx, by omega, hnk, hcast, HB4, H4.out⟩, rfl⟩
      · obtain rfl : m = k := by omega
        go_wp2
        go_ret
        refine ⟨_, _, rfl, ?_, HB.out⟩
        refine ⟨by simp, Nat.le_refl _, (fun e => by cases e), fun _ => ⟨_, 0, rfl, heap_lt hcur, fun j hj => ?_⟩⟩
        rw [Nat.zero_add, cell_of_block hcur j]
        have := hvs j hj
        rw [List.getElem?_toArray, this]
        simp [hj]
end Go.Proofs.YtgplkpfdbiapaaaGreatDoor
