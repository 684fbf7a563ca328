/- Package clause on plain lists: clauses in order; unit propagation, told by what it derives. No function of the program is named here. -/
import Derived.BigQuiet
import Derived.Deep.QuietTactic
import Derived.Deep.RegionWith
import Derived.Lib.ConvBytes
import Derived.Lib.Hide
import Derived.Lib.SlBytesRow
import Derived.Lib.SmallJoins
import Derived.Shelf.Bytes.SlSmallAll
import Derived.WalkKit
import Derived.WalkLawsBesides
import Derived.WalkSpells
namespace Go.Proofs.Ytionibckeicncaa

/-- Strictly ascending by variable. -/
def Asc (l : List Int) : Prop := l.Pairwise (fun a b => a.natAbs < b.natAbs)
theorem asc_nil : Asc [] := List.Pairwise.nil
theorem asc_cons {x : Int} {l : List Int} : Asc (x :: l) ↔ (∀ y ∈ l, x.natAbs < y.natAbs) ∧ Asc l := List.pairwise_cons
theorem asc_ext : ∀ {a b : List Int}, Asc a → Asc b → (∀ x, x ∈ a ↔ x ∈ b) → a = b
  | [], [], _, _, _ => rfl
  | [], y :: s, _, _, h => by have := (h y).2 (by simp); cases this
  | x :: r, [], _, _, h => by have := (h x).1 (by simp); cases this
  | x :: r, y :: s, ha, hb, h => by
    obtain ⟨hx, hr⟩ := asc_cons.1 ha
    obtain ⟨hy, hs⟩ := asc_cons.1 hb
    have e : x = y := by
      have h1 := (h x).1 (by simp)
      have h2 := (h y).2 (by simp)
      rcases List.mem_cons.1 h1 with h1 | h1
      · exact h1
      · rcases List.mem_cons.1 h2 with h2 | h2
        · exact h2.symm
        · have := hx y h2; have := hy x h1; omega
    subst e
    have e2 : r = s := asc_ext hr hs fun z => by
      constructor
      · intro hz
        have h1 := (h z).1 (by simp [hz])
        rcases List.mem_cons.1 h1 with h1 | h1
        · subst h1; have := hx z hz; omega
        · exact h1
      · intro hz
        have h1 := (h z).2 (by simp [hz])
        rcases List.mem_cons.1 h1 with h1 | h1
        · subst h1; have := hy z hz; omega
        · exact h1
    rw [e2]

/-- A literal, put where its variable belongs. -/
def intoS : List Int → Int → List Int
  | [], n => [n]
  | x :: r, n => if n.natAbs < x.natAbs then n :: x :: r else x :: intoS r n
theorem mem_into {n x : Int} : ∀ {l : List Int}, x ∈ intoS l n ↔ x = n ∨ x ∈ l
  | [] => by simp [intoS]
  | y :: r => by
    have ih := mem_into (n := n) (x := x) (l := r)
    unfold intoS
    split
    · simp
    · simp [ih]
      constructor
      · rintro (h | h | h) <;> simp [h]
      · rintro (h | h | h) <;> simp [h]
theorem asc_into {n : Int} : ∀ {l : List Int}, Asc l → (∀ x ∈ l, x.natAbs ≠ n.natAbs) → Asc (intoS l n)
  | [], _, _ => by simp [intoS, Asc]
  | y :: r, h, hn => by
    obtain ⟨hy, hr⟩ := asc_cons.1 h
    have h0 := hn y (by simp)
    unfold intoS
    split
    · rename_i hlt
      refine asc_cons.2 ⟨fun z hz => ?_, h⟩
      rcases List.mem_cons.1 hz with rfl | hz
      · exact hlt
      · have := hy z hz; omega
    · rename_i hlt
      refine asc_cons.2 ⟨fun z hz => ?_, asc_into hr fun x hx => hn x (by simp [hx])⟩
      rcases mem_into.1 hz with rfl | hz
      · omega
      · exact hy z hz
theorem into_len {n : Int} : ∀ {l : List Int}, (intoS l n).length = l.length + 1
  | [] => rfl
  | y :: r => by unfold intoS; split <;> simp [into_len (l := r)]

/-- One literal more, unless it is there. -/
def addS (o : List Int) (x : Int) : List Int := if o.contains x then o else intoS o x
def ordL (c : List Int) : List Int := c.foldl addS []
/-- Does it hold a literal and its opposite? -/
def opp (c : List Int) : Bool := c.any fun x => c.contains (-x)
def orderS (c : List Int) : Option (List Int) := if opp c then none else some (ordL c)
theorem opp_iff {c : List Int} : opp c = true ↔ ∃ x, x ∈ c ∧ -x ∈ c := by simp [opp]
theorem mem_addS {o : List Int} {x y : Int} : y ∈ addS o x ↔ y ∈ o ∨ y = x := by
  unfold addS
  split
  · rename_i h
    have h : x ∈ o := by simpa using h
    constructor
    · exact fun h => .inl h
    · rintro (h2 | rfl)
      · exact h2
      · exact h
  · rw [mem_into]; constructor <;> (rintro (h | h) <;> simp [h])
theorem mem_fold {y : Int} : ∀ {c o : List Int}, y ∈ c.foldl addS o ↔ y ∈ o ∨ y ∈ c
  | [], o => by simp
  | x :: r, o => by
    rw [List.foldl_cons, mem_fold (c := r), mem_addS, List.mem_cons]
    constructor
    · rintro ((h | h) | h) <;> simp [h]
    · rintro (h | h | h) <;> simp [h]
theorem mem_ordL {c : List Int} {y : Int} : y ∈ ordL c ↔ y ∈ c := by unfold ordL; rw [mem_fold]; simp
/-- Whoever has one variable twice has it by one literal. -/
def Cons (l : List Int) : Prop := ∀ x ∈ l, ∀ y ∈ l, x.natAbs = y.natAbs → x = y
theorem cons_of_opp {c : List Int} (h : opp c = false) : Cons c := by
  intro x hx y hy e
  rcases Int.natAbs_eq_natAbs_iff.1 e with e | e
  · exact e
  · exfalso
    have : opp c = true := opp_iff.2 ⟨y, hy, by rw [← e]; exact hx⟩
    rw [h] at this; cases this
theorem asc_addS {o : List Int} {x : Int} (h : Asc o) (hc : ∀ y ∈ o, y.natAbs = x.natAbs → y = x) : Asc (addS o x) := by
  unfold addS
  split
  · exact h
  · rename_i hn
    refine asc_into h fun y hy e => hn ?_
    have := hc y hy e
    subst this
    simpa using hy
theorem asc_fold : ∀ {c o : List Int}, Asc o → Cons (o ++ c) → Asc (c.foldl addS o)
  | [], o, h, _ => h
  | x :: r, o, h, hc => by
    rw [List.foldl_cons]
    refine asc_fold (asc_addS h fun y hy e => hc y (by simp [hy]) x (by simp) e) ?_
    intro a ha b hb
    refine hc a ?_ b ?_
    · rcases List.mem_append.1 ha with h | h
      · rcases mem_addS.1 h with h | h <;> simp [h]
      · simp [h]
    · rcases List.mem_append.1 hb with h | h
      · rcases mem_addS.1 h with h | h <;> simp [h]
      · simp [h]
theorem asc_ordL {c : List Int} (h : opp c = false) : Asc (ordL c) := asc_fold asc_nil (by simpa using cons_of_opp h)
theorem asc_nodup {l : List Int} (h : Asc l) : l.Nodup := h.imp fun h e => by subst e; omega
theorem asc_cons' {l : List Int} (h : Asc l) : Cons l := by
  intro x hx y hy e
  induction l with
  | nil => cases hx
  | cons z r ih =>
    obtain ⟨h1, h2⟩ := asc_cons.1 h
    rcases List.mem_cons.1 hx with rfl | hx' <;> rcases List.mem_cons.1 hy with rfl | hy'
    · rfl
    · have := h1 y hy'; omega
    · have := h1 x hx'; omega
    · exact ih h2 hx' hy'
/-- In order it stays as it is. -/
theorem ordL_asc {l : List Int} (h : Asc l) (h0 : (0 : Int) ∉ l) : opp l = false ∧ ordL l = l := by
  have ho : opp l = false := by
    cases hq : opp l with
    | false => rfl
    | true =>
      obtain ⟨x, h1, h2⟩ := opp_iff.1 hq
      have := asc_cons' h x h1 (-x) h2 (by omega)
      have : x = 0 := by omega
      subst this
      exact absurd h1 h0
  exact ⟨ho, asc_ext (asc_ordL ho) h fun x => mem_ordL⟩

/-! ### what is sorted, cut to what is once -/
theorem asc_of_adj : ∀ {l : List Int}, (∀ i, i + 1 < l.length → (l.getD i 0).natAbs < (l.getD (i + 1) 0).natAbs) → Asc l
  | [], _ => asc_nil
  | [x], _ => by simp [Asc]
  | x :: y :: r, h => by
    have ih : Asc (y :: r) := asc_of_adj fun i hi => by have := h (i + 1) (by simp at hi ⊢; omega); simpa using this
    have h0 := h 0 (by simp)
    simp only [List.getD_cons_zero, List.getD_cons_succ, Nat.zero_add] at h0
    refine asc_cons.2 ⟨fun z hz => ?_, ih⟩
    rcases List.mem_cons.1 hz with rfl | hz
    · exact h0
    · have := (asc_cons.1 ih).1 z hz; omega
/-- Ascending, no two neighbours the same, none the other's opposite: strictly ascending. -/
theorem asc_of_sorted {l : List Int} (h1 : ∀ i, i + 1 < l.length → (l.getD i 0).natAbs ≤ (l.getD (i + 1) 0).natAbs) (h2 : ∀ i, i + 1 < l.length → l.getD i 0 ≠ l.getD (i + 1) 0)
    (h3 : ∀ i, i + 1 < l.length → l.getD (i + 1) 0 ≠ - l.getD i 0) : Asc l :=
  asc_of_adj fun i hi => by have a := h1 i hi; have b := h2 i hi; have c := h3 i hi; omega

/-! ### unit propagation -/
inductive Der (cls : List (List Int)) (given : List Int) : Int → Prop
  | given {l : Int} : l ∈ given → Der cls given l
  | unit {c : List Int} {l : Int} : c ∈ cls → l ∈ c → (∀ x, x ∈ c → x ≠ l → Der cls given (-x)) → Der cls given l
def Clash (cls : List (List Int)) (given : List Int) : Prop := (∃ l, Der cls given l ∧ Der cls given (-l)) ∨ ∃ c, c ∈ cls ∧ ∀ x, x ∈ c → Der cls given (-x)
structure IsMust (cls : List (List Int)) (given : List Int) (M : List Int) : Prop where
  asc : Asc M
  mem : ∀ l, l ∈ M ↔ Der cls given l
  ok : ¬ Clash cls given
theorem closed_is {cls : List (List Int)} {given : List Int} {D : Int → Prop} (hg : ∀ l, l ∈ given → D l) (hd : ∀ l, D l → Der cls given l) (hc : ∀ l, D l → ¬ D (-l))
    (hk : ∀ c, c ∈ cls → ∃ x, x ∈ c ∧ ¬ D (-x)) (hcl : ∀ c, c ∈ cls → ∀ l, l ∈ c → (∀ x, x ∈ c → x ≠ l → D (-x)) → D l) : (∀ l, D l ↔ Der cls given l) ∧ ¬ Clash cls given := by
  have key : ∀ l, Der cls given l → D l := by
    intro l h
    induction h with
    | given h => exact hg _ h
    | unit h1 h2 _ ih => exact hcl _ h1 _ h2 ih
  refine ⟨fun l => ⟨hd l, key l⟩, ?_⟩
  rintro (⟨l, h1, h2⟩ | ⟨c, h1, h2⟩)
  · exact hc l (key l h1) (key _ h2)
  · obtain ⟨x, hx, hn⟩ := hk c h1
    exact hn (key _ (h2 x hx))

def litOk (vars l : Int) : Bool := !(decide (l = 0) || (decide (vars < l) || decide (l < -vars)))
def oneOk (vars : Int) (c : List Int) : Bool := decide (c.length ≤ 4096) && c.all (litOk vars)
def mayS (L : List (List Int)) (vars : Int) : Bool := decide (0 ≤ vars) && (decide (vars ≤ 4194304) && (decide (L.length ≤ 1048576) && L.all (oneOk vars)))
theorem litOk_iff {vars l : Int} : litOk vars l = true ↔ l ≠ 0 ∧ l ≤ vars ∧ -vars ≤ l := by
  simp [litOk]
theorem mayS_iff {L : List (List Int)} {vars : Int} : mayS L vars = true ↔ 0 ≤ vars ∧ vars ≤ 4194304 ∧ L.length ≤ 1048576 ∧ ∀ c ∈ L, c.length ≤ 4096 ∧ ∀ x ∈ c, x ≠ 0 ∧ x ≤ vars ∧ -vars ≤ x := by
  simp only [mayS, oneOk, Bool.and_eq_true, decide_eq_true_eq, List.all_eq_true, litOk_iff]
def ordAll (L : List (List Int)) : List (List Int) := L.filterMap orderS
/-- What Must answers. -/
def MustIs (L : List (List Int)) (given : List Int) (vars : Int) : Option (List Int) → Prop
  | none => mayS L vars = false ∨ mayS [given] vars = false ∨ Clash (ordAll L) given
  | some M => mayS L vars = true ∧ mayS [given] vars = true ∧ IsMust (ordAll L) given M
theorem MustIs.uniq {L : List (List Int)} {given : List Int} {vars : Int} : ∀ {a b : Option (List Int)}, MustIs L given vars a → MustIs L given vars b → a = b
  | none, none, _, _ => rfl
  | none, some M, h, h' => by
    exfalso
    rcases h with h | h | h
    · rw [h'.1] at h; cases h
    · rw [h'.2.1] at h; cases h
    · exact h'.2.2.ok h
  | some M, none, h', h => by
    exfalso
    rcases h with h | h | h
    · rw [h'.1] at h; cases h
    · rw [h'.2.1] at h; cases h
    · exact h'.2.2.ok h
  | some M, some N, h, h' => by
    rw [asc_ext h.2.2.asc h'.2.2.asc fun x => (h.2.2.mem x).trans (h'.2.2.mem x).symm]

theorem orderS_some {c d : List Int} (h : orderS c = some d) : opp c = false ∧ d = ordL c := by
  unfold orderS at h
  split at h
  · cases h
  · rename_i hn
    exact ⟨by simpa using hn, (Option.some.inj h).symm⟩
theorem ordAll_mem {L : List (List Int)} {c : List Int} (h : c ∈ ordAll L) : Asc c ∧ ∃ c0, c0 ∈ L ∧ ∀ x, x ∈ c ↔ x ∈ c0 := by
  obtain ⟨c0, h1, h2⟩ := List.mem_filterMap.1 h
  obtain ⟨h3, rfl⟩ := orderS_some h2
  exact ⟨asc_ordL h3, c0, h1, fun x => mem_ordL⟩

/-! ### models -/
def trueS (M : List Bool) (l : Int) : Bool := decide (0 < l.natAbs) && (decide (l.natAbs < M.length) && (M.getD l.natAbs false == decide (0 < l)))
def holdsS (L : List (List Int)) (M : List Bool) : Bool := L.all fun c => c.any (trueS M)
theorem true_neg {M : List Bool} {l : Int} (h : trueS M (-l) = true) : trueS M l = false := by
  cases hq : trueS M l with
  | false => rfl
  | true =>
    exfalso
    simp only [trueS, Bool.and_eq_true, decide_eq_true_eq, Int.natAbs_neg, beq_iff_eq] at h hq
    have e := h.2.2.symm.trans hq.2.2
    by_cases hl : 0 < l
    · have h1 : decide (0 < l) = true := by simpa using hl
      have h2 : decide (0 < -l) = false := by simp; omega
      rw [h1, h2] at e; cases e
    · have h1 : decide (0 < l) = false := by simp; omega
      have h2 : decide (0 < -l) = true := by simp; omega
      rw [h1, h2] at e; cases e
/-- What is derived is true in each model. -/
theorem der_true {L : List (List Int)} {given : List Int} {M : List Bool} (hL : holdsS L M = true) (hg : ∀ l ∈ given, trueS M l = true) {l : Int} (h : Der (ordAll L) given l) : trueS M l = true := by
  induction h with
  | given h => exact hg _ h
  | @unit c l h1 h2 _ ih =>
    obtain ⟨_, c0, hc0, hm⟩ := ordAll_mem h1
    have := List.all_eq_true.1 hL c0 hc0
    obtain ⟨x, hx, ht⟩ := List.any_eq_true.1 this
    by_cases e : x = l
    · rw [← e]; exact ht
    · have := true_neg (ih x ((hm x).2 hx) e)
      rw [this] at ht; cases ht
theorem clash_none {L : List (List Int)} {given : List Int} {M : List Bool} (hL : holdsS L M = true) (hg : ∀ l ∈ given, trueS M l = true) : ¬ Clash (ordAll L) given := by
  rintro (⟨l, h1, h2⟩ | ⟨c, h1, h2⟩)
  · have a := der_true hL hg h1
    rw [true_neg (der_true hL hg h2)] at a; cases a
  · obtain ⟨_, c0, hc0, hm⟩ := ordAll_mem h1
    obtain ⟨x, hx, ht⟩ := List.any_eq_true.1 (List.all_eq_true.1 hL c0 hc0)
    rw [true_neg (der_true hL hg (h2 x ((hm x).2 hx)))] at ht; cases ht
/-- A clause in order holds where it held. -/
theorem holds_ordL {c : List Int} {M : List Bool} : holdsS [ordL c] M = holdsS [c] M := by
  have e : (ordL c).any (trueS M) = c.any (trueS M) := by
    rw [Bool.eq_iff_iff, List.any_eq_true, List.any_eq_true]
    constructor
    · rintro ⟨x, h1, h2⟩; exact ⟨x, mem_ordL.1 h1, h2⟩
    · rintro ⟨x, h1, h2⟩; exact ⟨x, mem_ordL.2 h1, h2⟩
  simp [holdsS, e]
/-- Empty talk holds in each model of all its variables. -/
theorem holds_opp {c : List Int} {M : List Bool} (h : opp c = true) (h0 : ∀ x ∈ c, x ≠ 0 ∧ x.natAbs < M.length) : holdsS [c] M = true := by
  obtain ⟨x, h1, h2⟩ := opp_iff.1 h
  have hx := h0 x h1
  have : trueS M x = true ∨ trueS M (-x) = true := by
    simp only [trueS, Bool.and_eq_true, decide_eq_true_eq, Int.natAbs_neg, beq_iff_eq]
    by_cases hl : 0 < x
    · have e1 : decide (0 < x) = true := by simpa using hl
      have e2 : decide (0 < -x) = false := by simp; omega
      rw [e1, e2]
      cases M.getD x.natAbs false
      · exact .inr ⟨by omega, hx.2, rfl⟩
      · exact .inl ⟨by omega, hx.2, rfl⟩
    · have e1 : decide (0 < x) = false := by simp; omega
      have e2 : decide (0 < -x) = true := by simp; omega
      rw [e1, e2]
      cases M.getD x.natAbs false
      · exact .inl ⟨by omega, hx.2, rfl⟩
      · exact .inr ⟨by omega, hx.2, rfl⟩
  simp only [holdsS, List.all_cons, List.all_nil, Bool.and_true]
  rcases this with h | h
  · exact List.any_eq_true.2 ⟨x, h1, h⟩
  · exact List.any_eq_true.2 ⟨-x, h2, h⟩
end Go.Proofs.Ytionibckeicncaa
