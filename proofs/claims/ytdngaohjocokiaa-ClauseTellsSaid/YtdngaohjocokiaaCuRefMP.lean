/- inquestref11.Must on plain lists: a round, and its end. -/
import Derived.Test.YtdngaohjocokiaaCuPure
import Derived.Test.YtdngaohjocokiaaCuInv
import Derived.Test.YtdngaohjocokiaaRows
import Derived.Test.YtdngaohjocokiaaShelf
import Derived.BigQuiet
import Derived.Conc.LoneSelect
import Derived.Deep.AppendLies
import Derived.Deep.CutRange
import Derived.Deep.QuietTactic
import Derived.Deep.RegionHeld3
import Derived.Deep.RegionLaw
import Derived.Deep.RegionWith
import Derived.KernelRfl
import Derived.Laws.CopyOwn
import Derived.Laws.EntriesVeiled
import Derived.Laws.Tables
import Derived.Lib.ConvBytes
import Derived.Lib.Hide
import Derived.Lib.SlBytesRow
import Derived.Lib.SlicesCompact
import Derived.Lib.SmallJoins
import Derived.Maps.AppendAt
import Derived.OrdersHeld
import Derived.Shelf.Bytes.SlSmallAll
import Derived.Sort.Statements
import Derived.WalkKit
import Derived.WalkLawsBesides
import Derived.WalkSpells
namespace Go.Proofs.Ytdngaohjocokiaa
open Go

def openS (G C : List Int) : List Int := C.filter fun x => !G.contains (-x)
def holdsIn (G C : List Int) : Bool := C.any fun x => G.contains x
structure MInv (L : List (List Int)) (given : List Int) (V : Nat) (G : List Int) : Prop where
  asc : Asc G
  der : ∀ x ∈ G, Der (ordAll L) given x
  giv : ∀ x ∈ given, x ∈ G
  ins : ∀ x ∈ G, x ≠ 0 ∧ x.natAbs ≤ V
theorem mem_open {G C : List Int} {x : Int} : x ∈ openS G C ↔ x ∈ C ∧ -x ∉ G := by simp [openS]
theorem holdsIn_iff {G C : List Int} : holdsIn G C = true ↔ ∃ x, x ∈ C ∧ x ∈ G := by simp [holdsIn]
section
variable {L : List (List Int)} {given G : List Int} {V : Nat}
theorem MInv.start (hg : opp given = false) (hi : ∀ x ∈ given, x ≠ 0 ∧ x.natAbs ≤ V) : MInv L given V (ordL given) :=
  ⟨asc_ordL hg, fun _ hx => .given (mem_ordL.1 hx), fun _ hx => mem_ordL.2 hx, fun x hx => hi x (mem_ordL.1 hx)⟩
theorem MInv.len (h : MInv L given V G) : G.length ≤ V := by
  have := pigeon V (G.map Int.natAbs) (by
    have := h.asc
    unfold Asc at this
    rw [List.nodup_iff_pairwise_ne, List.pairwise_map]
    exact this.imp fun hlt => by omega) (fun x hx => by
    obtain ⟨y, hy, rfl⟩ := List.mem_map.1 hx
    have := h.ins y hy
    omega)
  simpa using this
theorem MInv.cons (h : MInv L given V G) {x : Int} (hx : x ∈ G) : -x ∉ G := fun hn => by
  have := asc_cons' h.asc x hx (-x) hn (by omega)
  have := (h.ins x hx).1
  omega
theorem MInv.clash (h : MInv L given V G) {C : List Int} (hC : C ∈ ordAll L) (ho : openS G C = []) : Clash (ordAll L) given := by
  refine .inr ⟨C, hC, fun x hx => ?_⟩
  by_cases hn : -x ∈ G
  · exact h.der _ hn
  · have : x ∈ openS G C := mem_open.2 ⟨hx, hn⟩
    rw [ho] at this; cases this
theorem MInv.unit (h : MInv L given V G) {C : List Int} (hC : C ∈ ordAll L) (hl : ∀ y ∈ C, y ≠ 0 ∧ y.natAbs ≤ V) {x : Int} (ho : openS G C = [x]) (hh : holdsIn G C = false) : MInv L given V (intoS G x) := by
  have hxo : x ∈ openS G C := by rw [ho]; simp
  obtain ⟨hxC, hxn⟩ := mem_open.1 hxo
  have hxG : x ∉ G := fun hx => by
    have : holdsIn G C = true := holdsIn_iff.2 ⟨x, hxC, hx⟩
    rw [hh] at this; cases this
  have hd : Der (ordAll L) given x := .unit hC hxC fun y hy hne => by
    by_cases hn : -y ∈ G
    · exact h.der _ hn
    · have : y ∈ openS G C := mem_open.2 ⟨hy, hn⟩
      rw [ho] at this
      exact absurd (by simpa using this) hne
  refine ⟨asc_into h.asc fun y hy e => ?_, fun y hy => ?_, fun y hy => mem_into.2 (.inr (h.giv y hy)), fun y hy => ?_⟩
  · by_cases e2 : y = x
    · subst e2; exact hxG hy
    · have : y = -x := by omega
      subst this; exact hxn hy
  · rcases mem_into.1 hy with rfl | hy
    · exact hd
    · exact h.der y hy
  · rcases mem_into.1 hy with rfl | hy
    · exact hl _ hxC
    · exact h.ins y hy
/-- One clause wants nothing more. -/
def Calm (G : List Int) (c : List Int) : Prop := ∀ C, orderS c = some C → openS G C ≠ [] ∧ ¬ ((openS G C).length = 1 ∧ holdsIn G C = false)
theorem MInv.done (h : MInv L given V G) (hc : ∀ c ∈ L, Calm G c) : IsMust (ordAll L) given G := by
  have key : ∀ C, C ∈ ordAll L → openS G C ≠ [] ∧ ¬ ((openS G C).length = 1 ∧ holdsIn G C = false) := fun C hC => by
    obtain ⟨c, h1, h2⟩ := List.mem_filterMap.1 hC
    exact hc c h1 C h2
  have := closed_is (cls := ordAll L) (given := given) (D := fun x => x ∈ G) (fun l hl => h.giv l hl) (fun l hl => h.der l hl) (fun l hl => h.cons hl)
    (fun C hC => by
      have := (key C hC).1
      cases ho : openS G C with
      | nil => exact absurd ho this
      | cons x r =>
        have hx : x ∈ openS G C := by rw [ho]; simp
        obtain ⟨h1, h2⟩ := mem_open.1 hx
        exact ⟨x, h1, h2⟩)
    (fun C hC l hl hx => by
      obtain ⟨k1, k2⟩ := key C hC
      have hsub : ∀ y, y ∈ openS G C → y = l := fun y hy => by
        obtain ⟨h1, h2⟩ := mem_open.1 hy
        by_cases e : y = l
        · exact e
        · exact absurd (hx y h1 e) h2
      have hnd : (openS G C).Nodup := (asc_nodup (ordAll_mem hC).1).filter _
      have hlen : (openS G C).length = 1 := by
        cases ho : openS G C with
        | nil => exact absurd ho k1
        | cons x r =>
          cases r with
          | nil => rfl
          | cons y r =>
            rw [ho] at hsub hnd
            have e1 := hsub x (by simp)
            have e2 := hsub y (by simp)
            subst e1; subst e2
            simp at hnd
      have hh : holdsIn G C = true := by
        cases hq : holdsIn G C with
        | true => rfl
        | false => exact absurd ⟨hlen, hq⟩ k2
      obtain ⟨y, hy, hyG⟩ := holdsIn_iff.1 hh
      by_cases e : y = l
      · subst e; exact hyG
      · exact absurd (hx y hy e) (h.cons hyG))
  exact ⟨h.asc, this.1, this.2⟩
end
/-- Between two clauses of a round. -/
structure RoundAt (L : List (List Int)) (given : List Int) (V : Nat) (Mu : List Int) (k : Nat) (G : List Int) : Prop where
  inv : MInv L given V G
  le : Mu.length ≤ G.length
  same : G.length = Mu.length → G = Mu ∧ ∀ j, j < k → Calm Mu (L.getD j [])
section
variable {L : List (List Int)} {given G Mu C : List Int} {V k : Nat}
theorem RoundAt.start (h : MInv L given V Mu) : RoundAt L given V Mu 0 Mu := ⟨h, Nat.le_refl _, fun _ => ⟨rfl, fun j hj => absurd hj (by omega)⟩⟩
theorem RoundAt.talk (h : RoundAt L given V Mu k G) (ho : orderS (L.getD k []) = none) : RoundAt L given V Mu (k + 1) G :=
  ⟨h.inv, h.le, fun e => ⟨(h.same e).1, fun j hj => by
    by_cases e2 : j = k
    · subst e2; intro C hC; rw [ho] at hC; cases hC
    · exact (h.same e).2 j (by omega)⟩⟩
theorem RoundAt.keep (h : RoundAt L given V Mu k G) (ho : orderS (L.getD k []) = some C) (h1 : openS G C ≠ []) (h2 : ¬ ((openS G C).length = 1 ∧ holdsIn G C = false)) : RoundAt L given V Mu (k + 1) G :=
  ⟨h.inv, h.le, fun e => ⟨(h.same e).1, fun j hj => by
    by_cases e2 : j = k
    · subst e2; intro D hD; rw [ho] at hD; cases hD; rw [← (h.same e).1]; exact ⟨h1, h2⟩
    · exact (h.same e).2 j (by omega)⟩⟩
theorem RoundAt.grow (h : RoundAt L given V Mu k G) {x : Int} (hm : MInv L given V (intoS G x)) : RoundAt L given V Mu (k + 1) (intoS G x) :=
  ⟨hm, by rw [into_len]; have := h.le; omega, fun e => by rw [into_len] at e; have := h.le; omega⟩
theorem RoundAt.done (h : RoundAt L given V Mu L.length G) (e : G.length = Mu.length) : IsMust (ordAll L) given Mu := by
  obtain ⟨e1, hc⟩ := h.same e
  subst e1
  refine h.inv.done fun c hc2 => ?_
  obtain ⟨i, hi, e3⟩ := List.getElem_of_mem hc2
  have := hc i hi
  simpa [List.getD, List.getElem?_eq_getElem hi, e3] using this
/-- Of a clause's literals, so many. -/
theorem open_snoc (G C : List Int) (j : Nat) (h : j < C.length) : openS G (C.take (j + 1)) = openS G (C.take j) ++ (if G.contains (-(C.getD j 0)) then [] else [C.getD j 0]) := by
  unfold openS
  rw [take_snocZ C j h, List.filter_append]
  congr 1
  generalize C.getD j 0 = y
  by_cases hq : -y ∈ G <;> simp [hq]
theorem holdsIn_snoc (G C : List Int) (j : Nat) (h : j < C.length) : holdsIn G (C.take (j + 1)) = (holdsIn G (C.take j) || G.contains (C.getD j 0)) := by
  unfold holdsIn
  rw [take_snocZ C j h, List.any_append]
  simp
end
end Go.Proofs.Ytdngaohjocokiaa
