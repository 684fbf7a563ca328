/- A word that came in. -/
import Derived.Test.YtglhnmbfkbjemaaPost0
import Derived.Test.YtglhnmbfkbjemaaTBits
import Derived.Deep.Slices
import Derived.Deep.Fields
import Derived.ChangeSame
namespace Go.Proofs.Ytglhnmbfkbjemaa
open Go Go.ChangeShapes Go.WideShapes Go.ChangeAt Go.RowKit Go.WideElems Go.Deep

section
variable {H : Type} {enc : TypeId × Value → H} {W : World}
set_option maxRecDepth 100000 in
theorem open_word {v : Value} {d : DataW H} {p : List MemPlace} {base : Nat} (hv : Value.okWide Try.prog W .any base 24 v) (h : DataW.Trod enc Try.prog W 0 (fun _ => true) true 24 v d p) :
    ∃ a : W2, v = wv a ∧ a.in := by
  obtain ⟨cs, rfl, hsz⟩ := okWide_struct Try.underlying24 hv
  have hC : Try.prog.cellsOf 24 = 2 := by kernel_rfl
  have k1 : Try.prog.cellsOf 22 = 1 := by kernel_rfl
  obtain ⟨l⟩ := cs
  match l, hsz.trans hC with
  | [v0, v1], _ =>
    obtain ⟨fuel, hf⟩ := h
    obtain ⟨xs, n, _, hx, _, hlen, hg⟩ := DataW.trod_struct Try.underlying24 hf
    match xs, hlen with
    | [y0, y1], _ =>
      have g0 := hg 0 _ rfl
      have g1 := hg 1 _ rfl
      simp only [Value.cells] at g0 g1
      obtain ⟨z0, hz0, _, hw0⟩ := DataW.trod_int Try.underlying22 g0
      obtain ⟨z1, hz1, _, hw1⟩ := DataW.trod_int Try.underlying22 g1
      have b0 := bounds_u64 hw0
      have b1 := bounds_u64 hw1
      have e0 : v0 = .int .u64 z0 := by simpa [k1] using hz0
      have e1 : v1 = .int .u64 z1 := by simpa [k1] using hz1
      subst e0
      subst e1
      refine ⟨(z0.toNat, z1.toNat), ?_, ⟨by show z0.toNat < _; omega, by show z1.toNat < _; omega⟩⟩
      show _ = Value.agg #[.int .u64 (z0.toNat : Int), .int .u64 (z1.toNat : Int)]
      rw [Int.toNat_of_nonneg b0.1, Int.toNat_of_nonneg b1.1]
end
end Go.Proofs.Ytglhnmbfkbjemaa
