/- Package vcd's reader on plain lists: words, states, what is read. -/
import Derived.Lib.ItoaNum
import Derived.Lib.ParseIntBCases
namespace Go.Proofs.YtgplkpfdbiapaaaGreatDoor
open Go

/-- A blank, a tab, a line end. -/
def gapV (x : UInt8) : Bool := x == 32 || x == 9 || x == 10 || x == 13
def skipV : List UInt8 → List UInt8
  | [] => []
  | x :: r => if gapV x then skipV r else x :: r
def takeV : List UInt8 → List UInt8
  | [] => []
  | x :: r => if gapV x then [] else x :: takeV r
def dropV : List UInt8 → List UInt8
  | [] => []
  | x :: r => if gapV x then x :: r else dropV r
/-- The next word, and what is behind it. -/
def wordL (bs : List UInt8) : List UInt8 := takeV (skipV bs)
def restL (bs : List UInt8) : List UInt8 := dropV (skipV bs)
def splV : List UInt8 → List UInt8 → List (List UInt8)
  | acc, [] => if acc = [] then [] else [acc]
  | acc, x :: r => if gapV x then (if acc = [] then splV [] r else acc :: splV [] r) else splV (acc ++ [x]) r
/-- All words. -/
def wordsV (bs : List UInt8) : List (List UInt8) := splV [] bs

theorem spl_acc : ∀ (r acc : List UInt8), acc ≠ [] → splV acc r = (acc ++ takeV r) :: splV [] (dropV r)
  | [], acc, h => by simp [splV, takeV, dropV, h]
  | x :: r, acc, h => by
    by_cases e : gapV x = true
    · simp [splV, takeV, dropV, e, h]
    · simp only [Bool.not_eq_true] at e
      rw [splV, takeV, dropV]
      simp only [e, Bool.false_eq_true, if_false]
      rw [spl_acc r (acc ++ [x]) (by simp)]
      simp
theorem spl_skip : ∀ r : List UInt8, splV [] r = splV [] (skipV r)
  | [] => rfl
  | x :: r => by
    by_cases e : gapV x = true
    · rw [splV, skipV]; simp only [e, if_true]; exact spl_skip r
    · rw [skipV]; simp [e]
theorem words_nil (bs : List UInt8) (h : wordL bs = []) : wordsV bs = [] := by
  unfold wordsV
  rw [spl_skip]
  unfold wordL at h
  cases hs : skipV bs with
  | nil => rfl
  | cons x r =>
    rw [hs, takeV] at h
    have hx : gapV x = true := by
      by_cases e : gapV x = true
      · exact e
      · simp [e] at h
    exfalso
    clear h
    revert hs hx
    induction bs with
    | nil => intro hs; simp [skipV] at hs
    | cons y bs ih =>
      intro hs hx
      rw [skipV] at hs
      by_cases e : gapV y = true
      · simp only [e, if_true] at hs; exact ih hs hx
      · simp only [e, Bool.false_eq_true, if_false] at hs
        injection hs with h1 h2
        subst h1
        exact e hx
theorem words_cons (bs : List UInt8) (h : wordL bs ≠ []) : wordsV bs = wordL bs :: wordsV (restL bs) := by
  unfold wordsV
  rw [spl_skip]
  unfold wordL restL at *
  cases hs : skipV bs with
  | nil => rw [hs] at h; exact absurd rfl h
  | cons x r =>
    rw [hs] at h
    have hx : gapV x = false := by
      by_cases e : gapV x = true
      · simp [takeV, e] at h
      · simpa using e
    rw [splV, takeV, dropV]
    simp only [hx, Bool.false_eq_true, if_false]
    rw [spl_acc r ([] ++ [x]) (by simp)]
    rfl
theorem drop_le : ∀ r : List UInt8, (dropV r).length ≤ r.length
  | [] => Nat.le_refl _
  | x :: r => by
    rw [dropV]
    split
    · exact Nat.le_refl _
    · have := drop_le r; simp; omega
theorem skip_le : ∀ r : List UInt8, (skipV r).length ≤ r.length
  | [] => Nat.le_refl _
  | x :: r => by
    rw [skipV]
    split
    · have := skip_le r; simp; omega
    · exact Nat.le_refl _
theorem rest_lt (bs : List UInt8) (h : wordL bs ≠ []) : (restL bs).length < bs.length := by
  unfold wordL restL at *
  have h1 := skip_le bs
  cases hs : skipV bs with
  | nil => rw [hs] at h; exact absurd rfl h
  | cons x r =>
    rw [hs] at h h1
    have hx : gapV x = false := by
      by_cases e : gapV x = true
      · simp [takeV, e] at h
      · simpa using e
    rw [dropV]
    simp only [hx, Bool.false_eq_true, if_false]
    have := drop_le r
    simp at h1
    omega
theorem take_len : ∀ r : List UInt8, (takeV r).length + (dropV r).length = r.length
  | [] => rfl
  | x :: r => by
    rw [takeV, dropV]
    split
    · simp
    · have := take_len r; simp; omega
theorem take_eq : ∀ r : List UInt8, takeV r = r.take (takeV r).length
  | [] => rfl
  | x :: r => by
    rw [takeV]
    split
    · rfl
    · have := take_eq r; simp; exact this
theorem drop_eq : ∀ r : List UInt8, dropV r = r.drop (takeV r).length
  | [] => rfl
  | x :: r => by
    rw [takeV, dropV]
    split
    · rfl
    · have := drop_eq r; simp; exact this
theorem skip_eq : ∀ r : List UInt8, skipV r = r.drop (r.length - (skipV r).length)
  | [] => rfl
  | x :: r => by
    rw [skipV]
    split
    · have h := skip_eq r
      have hl := skip_le r
      rw [show (x :: r).length - (skipV r).length = (r.length - (skipV r).length) + 1 by simp; omega, List.drop_succ_cons]
      exact h
    · simp

/-- A number as a time spells it. -/
def numV (s : List UInt8) : Option Nat := match Lib.parseUintB 31 s with
  | .ok u => if Lib.decDigits u = s then some u else none
  | _ => none
/-- May it be a code or a name of at most m bytes? -/
def strangeV (x : UInt8) : Bool := decide (x < 33) || decide (126 < x)
def isTextV (s : List UInt8) (m : Nat) : Bool := decide (0 < s.length) && decide (s.length ≤ m) && !(s.any strangeV)
def valV (x : UInt8) : Option UInt8 :=
  if x = 48 then some 0 else if x = 49 then some 1 else if x = 120 ∨ x = 88 ∨ x = 122 ∨ x = 90 then some 2 else none

inductive VSt where
  | fin : VSt
  | decl : VSt
  | exp : List UInt8 → VSt → VSt
  | ign : VSt → VSt
  | cod : VSt
  | nam : VSt
  | unt : VSt
  | tim : VSt
  | dmp : VSt
structure VRd where
  idx : List (List UInt8)
  times : List Nat
  wav : List (List UInt8 × List UInt8)
  e : Nat
def finV : VSt → Bool
  | .fin => true
  | _ => false
def kVar : List UInt8 := [36, 118, 97, 114]
def kEnddef : List UInt8 := [36, 101, 110, 100, 100, 101, 102, 105, 110, 105, 116, 105, 111, 110, 115]
def kEnd : List UInt8 := [36, 101, 110, 100]
def kWire : List UInt8 := [119, 105, 114, 101]
def kOne : List UInt8 := [49]
def kComment : List UInt8 := [36, 99, 111, 109, 109, 101, 110, 116]
def kDate : List UInt8 := [36, 100, 97, 116, 101]
def kScope : List UInt8 := [36, 115, 99, 111, 112, 101]
def kTimescale : List UInt8 := [36, 116, 105, 109, 101, 115, 99, 97, 108, 101]
def kUpscope : List UInt8 := [36, 117, 112, 115, 99, 111, 112, 101]
def kVersion : List UInt8 := [36, 118, 101, 114, 115, 105, 111, 110]
def kDump : List UInt8 := [36, 100, 117, 109, 112, 118, 97, 114, 115]
def failV (r : VRd) (e : Nat) : VSt × VRd := (.fin, ⟨r.idx, r.times, r.wav, e⟩)
/-- A wave goes on as it is up to T times. -/
def holdL (T : Nat) (l : List UInt8) : List UInt8 := l ++ List.replicate (T - l.length) (l.getLastD 2)
def setV (r : VRd) (i : Nat) (v : UInt8) : VRd :=
  ⟨r.idx, r.times, r.wav.set i ((r.wav.getD i ([], [])).1, (holdL r.times.length (r.wav.getD i ([], [])).2).set (r.times.length - 1) v), r.e⟩
def changeV (r : VRd) (w : List UInt8) (t : VSt) : VSt × VRd :=
  match valV (w.headD 0) with
  | none => failV r 5
  | some v => if isTextV w.tail 8 = false then failV r 5 else if w.tail ∈ r.idx then (t, setV r (r.idx.idxOf w.tail) v) else failV r 7
def timeV (r : VRd) (s : List UInt8) : VSt × VRd :=
  match numV s with
  | none => failV r 5
  | some n => if 0 < r.times.length ∧ n ≤ r.times.getD (r.times.length - 1) 0 then failV r 5 else if r.times.length = 4096 then failV r 3 else (.tim, ⟨r.idx, r.times ++ [n], r.wav, r.e⟩)
/-- What a state makes of a word (no word at the end of the file). -/
def stepV : VSt → VRd → List UInt8 → VSt × VRd
  | .fin, r, _ => (.fin, r)
  | .decl, r, w =>
    if w = kVar then (if r.wav.length = 32768 then failV r 3 else (.exp kWire (.exp kOne .cod), r))
    else if w = kEnddef then (.exp kEnd .unt, r)
    else if w = kComment ∨ w = kDate ∨ w = kScope ∨ w = kTimescale ∨ w = kUpscope ∨ w = kVersion then (.ign .decl, r)
    else if w = [] then failV r 4 else failV r 5
  | .exp x t, r, w => if w = [] then failV r 4 else if w = x then (t, r) else failV r 5
  | .ign t, r, w => if w = [] then failV r 4 else if w = kEnd then (t, r) else (.ign t, r)
  | .cod, r, w => if w = [] then failV r 4 else if isTextV w 8 = false then failV r 5 else if w ∈ r.idx then failV r 8 else (.nam, ⟨r.idx ++ [w], r.times, r.wav, r.e⟩)
  | .nam, r, w => if w = [] then failV r 4 else if isTextV w 32 = false then failV r 5 else (.exp kEnd .decl, ⟨r.idx, r.times, r.wav ++ [(w, [])], r.e⟩)
  | .unt, r, w => if w = [] then (.fin, r) else if w = kComment then (.ign .unt, r) else if w.headD 0 = 35 then timeV r w.tail else failV r 5
  | .tim, r, w => if w = [] then (.fin, r) else if w = kComment then (.ign .tim, r) else if w = kDump then (.dmp, r) else if w.headD 0 = 35 then timeV r w.tail else changeV r w .tim
  | .dmp, r, w => if w = [] then failV r 4 else if w = kComment then (.ign .dmp, r) else if w = kEnd then (.tim, r) else changeV r w .dmp
def runV : VSt → VRd → List (List UInt8) → VRd
  | s, r, [] => (stepV s r []).2
  | s, r, w :: ws => if finV (stepV s r w).1 then (stepV s r w).2 else runV (stepV s r w).1 (stepV s r w).2 ws
def outV (s : VSt) (r : VRd) (bs : List UInt8) : VRd := if finV s then r else runV s r (wordsV bs)
def r0V : VRd := ⟨[], [], [], 0⟩
/-- Read's answer: the times, the waves, the error. -/
def readV (bs : List UInt8) : List Nat × List (List UInt8 × List UInt8) × Nat :=
  if 8388608 < bs.length then ([], [], 3)
  else if (outV .decl r0V bs).e ≠ 0 then ([], [], (outV .decl r0V bs).e)
  else ((outV .decl r0V bs).times, (outV .decl r0V bs).wav.map (fun p => (p.1, holdL (outV .decl r0V bs).times.length p.2)), 0)
theorem step_nil (s : VSt) (r : VRd) : finV (stepV s r []).1 = true := by
  cases s <;> simp [stepV, failV, finV, kVar, kEnddef, kComment, kDate, kScope, kTimescale, kUpscope, kVersion]
theorem out_step (s : VSt) (r : VRd) (bs : List UInt8) (h : finV s = false) : outV s r bs = outV (stepV s r (wordL bs)).1 (stepV s r (wordL bs)).2 (restL bs) := by
  unfold outV
  rw [h]
  simp only [Bool.false_eq_true, if_false]
  by_cases e : wordL bs = []
  · rw [words_nil bs e, runV, e, step_nil]
    simp
  · rw [words_cons bs e, runV]

/-! What holds all the way. -/
def lateV : VSt → Bool
  | .tim => true
  | .dmp => true
  | .exp _ t => lateV t
  | .ign t => lateV t
  | _ => false
def acV : VSt → Nat
  | .nam => 1
  | .exp _ t => acV t
  | .ign t => acV t
  | _ => 0
def roomV : VSt → Bool
  | .cod => true
  | .nam => true
  | .exp _ t => roomV t
  | .ign t => roomV t
  | _ => false
structure OkV (s : VSt) (r : VRd) : Prop where
  many : r.wav.length ≤ 32768
  room : roomV s = true → r.wav.length < 32768
  idx : finV s = false → r.idx.length = r.wav.length + acV s
  codes : ∀ x ∈ r.idx, x.length ≤ 8
  once : r.idx.Nodup
  names : ∀ p ∈ r.wav, p.1.length ≤ 32
  vals : ∀ p ∈ r.wav, p.2.length ≤ r.times.length
  late : lateV s = true → 0 < r.times.length
  times : r.times.length ≤ 4096
  nums : ∀ n ∈ r.times, n < 2147483648
theorem ok_start : OkV .decl r0V := ⟨Nat.zero_le _, (fun h => by cases h), fun _ => rfl, (fun x h => by cases h), List.nodup_nil, (fun x h => by cases h), (fun x h => by cases h), (fun h => by cases h), Nat.zero_le _, (fun x h => by cases h)⟩
theorem OkV.to {s s' : VSt} {r : VRd} (h : OkV s r) (hr : roomV s' = true → r.wav.length < 32768) (hi : finV s' = false → r.idx.length = r.wav.length + acV s') (hl : lateV s' = true → 0 < r.times.length) : OkV s' r :=
  ⟨h.many, hr, hi, h.codes, h.once, h.names, h.vals, hl, h.times, h.nums⟩
theorem OkV.fail {s : VSt} {r : VRd} (h : OkV s r) (e : Nat) : OkV (failV r e).1 (failV r e).2 :=
  ⟨h.many, (fun h => by cases h), (fun h => by cases h), h.codes, h.once, h.names, h.vals, (fun h => by cases h), h.times, h.nums⟩
theorem hold_len (T : Nat) (l : List UInt8) (h : l.length ≤ T) : (holdL T l).length = T := by unfold holdL; simp; omega
theorem set_all {α : Type} {P : α → Prop} (l : List α) (i : Nat) (x : α) (h : ∀ p ∈ l, P p) (hx : i < l.length → P x) : ∀ p ∈ l.set i x, P p := by
  intro p hp
  obtain ⟨j, hj, rfl⟩ := List.mem_iff_getElem.1 hp
  rw [List.getElem_set]
  rw [List.length_set] at hj
  split
  · exact hx (by omega)
  · exact h _ (List.getElem_mem _)
theorem getD_all {α : Type} {P : α → Prop} {l : List α} {i : Nat} {d : α} (h : ∀ p ∈ l, P p) (hi : i < l.length) : P (l.getD i d) := by
  simp only [List.getD, List.getElem?_eq_getElem hi, Option.getD_some]
  exact h _ (List.getElem_mem _)
theorem OkV.set {s : VSt} {r : VRd} (h : OkV s r) (i : Nat) (v : UInt8) : OkV s (setV r i v) := by
  refine ⟨by simpa [setV] using h.many, fun e => by simpa [setV] using h.room e, fun e => by simpa [setV] using h.idx e, h.codes, h.once, ?_, ?_, h.late, h.times, h.nums⟩
  · exact set_all _ _ _ h.names fun hi => getD_all (P := fun p => p.1.length ≤ 32) h.names hi
  · refine set_all _ _ _ h.vals fun hi => ?_
    have := getD_all (P := fun p => p.2.length ≤ r.times.length) (d := ([], [])) h.vals hi
    simp only [List.length_set]
    rw [hold_len _ _ this]
    exact Nat.le_refl _
theorem num_lt {s : List UInt8} {n : Nat} (h : numV s = some n) : n < 2147483648 := by
  unfold numV at h
  cases e : Lib.parseUintB 31 s with
  | ok u =>
    rw [e] at h
    simp only at h
    split at h
    · injection h with h1
      subst h1
      have := Lib.parseUintB_le e
      omega
    · cases h
  | _ => rw [e] at h; cases h
theorem OkV.time {s : VSt} {r : VRd} (h : OkV s r) (ha : acV s = 0) (hf : finV s = false) (w : List UInt8) : OkV (timeV r w).1 (timeV r w).2 := by
  unfold timeV
  cases hn : numV w with
  | none => exact h.fail 5
  | some n =>
    simp only
    split
    · exact h.fail 5
    · split
      · exact h.fail 3
      · rename_i hl
        refine ⟨h.many, (fun e => by cases e), fun _ => ?_, h.codes, h.once, h.names, ?_, fun _ => by simp, ?_, ?_⟩
        · have := h.idx hf; rw [ha] at this; exact this
        · intro p hp; have := h.vals p hp; simp; omega
        · have := h.times; simp; omega
        · intro x hx
          rcases List.mem_append.1 hx with h1 | h1
          · exact h.nums x h1
          · simp at h1; subst h1; exact num_lt hn
theorem OkV.change {s t : VSt} {r : VRd} (h : OkV s r) (ht : OkV t r) (w : List UInt8) : OkV (changeV r w t).1 (changeV r w t).2 := by
  unfold changeV
  split
  · exact h.fail 5
  · split
    · exact h.fail 5
    · split
      · exact ht.set _ _
      · exact h.fail 7
theorem step_ok (s : VSt) (r : VRd) (w : List UInt8) (h : OkV s r) : OkV (stepV s r w).1 (stepV s r w).2 := by
  cases s with
  | fin => exact h
  | decl =>
    have hi := h.idx rfl
    have hr : roomV .decl = true → r.wav.length < 32768 := h.room
    have hm := h.many
    simp only [stepV]
    split
    · split
      · exact h.fail 3
      · exact h.to (fun _ => by omega) (fun _ => hi) (fun e => by cases e)
    · split
      · exact h.to (fun e => by cases e) (fun _ => hi) (fun e => by cases e)
      · split
        · exact h.to (fun e => by cases e) (fun _ => hi) (fun e => by cases e)
        · split
          · exact h.fail 4
          · exact h.fail 5
  | exp x t =>
    simp only [stepV]
    split
    · exact h.fail 4
    · split
      · exact h.to h.room (fun _ => h.idx rfl) h.late
      · exact h.fail 5
  | ign t =>
    simp only [stepV]
    split
    · exact h.fail 4
    · split
      · exact h.to h.room (fun _ => h.idx rfl) h.late
      · exact h
  | cod =>
    simp only [stepV]
    split
    · exact h.fail 4
    · split
      · exact h.fail 5
      · rename_i ht
        split
        · exact h.fail 8
        · rename_i hni
          have h8 : w.length ≤ 8 := by simp only [isTextV, Bool.not_eq_false, Bool.and_eq_true, decide_eq_true_eq] at ht; exact ht.1.2
          have hi := h.idx rfl
          refine ⟨h.many, fun _ => h.room rfl, fun _ => by simp [hi, acV], ?_, ?_, h.names, h.vals, (fun e => by cases e), h.times, h.nums⟩
          · intro x hx
            rcases List.mem_append.1 hx with h1 | h1
            · exact h.codes x h1
            · simp at h1; subst h1; exact h8
          · rw [List.nodup_append]
            refine ⟨h.once, List.nodup_cons.2 ⟨by simp, List.nodup_nil⟩, fun a ha b hb => ?_⟩
            simp at hb
            subst hb
            exact fun e => hni (e ▸ ha)
  | nam =>
    simp only [stepV]
    split
    · exact h.fail 4
    · split
      · exact h.fail 5
      · rename_i ht
        have h32 : w.length ≤ 32 := by simp only [isTextV, Bool.not_eq_false, Bool.and_eq_true, decide_eq_true_eq] at ht; exact ht.1.2
        have hi := h.idx rfl
        have hr := h.room rfl
        refine ⟨by simp; omega, (fun e => by cases e), fun _ => by simp [hi, acV], h.codes, h.once, ?_, ?_, (fun e => by cases e), h.times, h.nums⟩
        · intro p hp
          rcases List.mem_append.1 hp with h1 | h1
          · exact h.names p h1
          · simp at h1; subst h1; exact h32
        · intro p hp
          rcases List.mem_append.1 hp with h1 | h1
          · exact h.vals p h1
          · simp at h1; subst h1; simp
  | unt =>
    have hi := h.idx rfl
    simp only [stepV]
    split
    · exact h.to (fun e => by cases e) (fun e => by cases e) (fun e => by cases e)
    · split
      · exact h.to (fun e => by cases e) (fun _ => hi) (fun e => by cases e)
      · split
        · exact h.time rfl rfl _
        · exact h.fail 5
  | tim =>
    have hi := h.idx rfl
    simp only [stepV]
    split
    · exact h.to (fun e => by cases e) (fun e => by cases e) (fun e => by cases e)
    · split
      · exact h.to (fun e => by cases e) (fun _ => hi) (fun _ => h.late rfl)
      · split
        · exact h.to (fun e => by cases e) (fun _ => hi) (fun _ => h.late rfl)
        · split
          · exact h.time rfl rfl _
          · exact h.change h _
  | dmp =>
    have hi := h.idx rfl
    simp only [stepV]
    split
    · exact h.fail 4
    · split
      · exact h.to (fun e => by cases e) (fun _ => hi) (fun _ => h.late rfl)
      · split
        · exact h.to (fun e => by cases e) (fun _ => hi) (fun _ => h.late rfl)
        · exact h.change h _
end Go.Proofs.YtgplkpfdbiapaaaGreatDoor
