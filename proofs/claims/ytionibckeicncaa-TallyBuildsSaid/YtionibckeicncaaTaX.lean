/- The law TallyBuilds: there is a model whatever is below; in each model the outs are as defined. -/
import Derived.Test.YtionibckeicncaaLib
import Derived.Test.YtionibckeicncaaOwn
import Derived.Test.YtionibckeicncaaNBase
import Derived.Test.YtionibckeicncaaRawMay
import Derived.Test.YtionibckeicncaaNTrace
import Derived.Test.YtionibckeicncaaNRegion
import Derived.Test.YtionibckeicncaaCuPure
import Derived.Test.YtionibckeicncaaCuInts
import Derived.Test.YtionibckeicncaaCuModel
import Derived.Test.YtionibckeicncaaCuHolds
import Derived.Test.YtionibckeicncaaCuRefA
import Derived.Test.YtionibckeicncaaTaRM
import Derived.Test.YtionibckeicncaaTaP
import Derived.Test.YtionibckeicncaaTaC
import Derived.Test.YtionibckeicncaaTaA
import Derived.Test.YtionibckeicncaaTaB
import Derived.Test.YtionibckeicncaaTaG
import Derived.Test.YtionibckeicncaaTaF
import Derived.Test.YtionibckeicncaaTaS
import Derived.Test.YtionibckeicncaaTaT
import Derived.Test.YtionibckeicncaaTaV
import Derived.Test.YtionibckeicncaaTaK
import Derived.Test.YtionibckeicncaaTaW
import Derived.Test.YtionibckeicncaaRows
import Derived.Test.YtionibckeicncaaShelf
import Derived.BigQuiet
import Derived.Deep.AppendLies
import Derived.Deep.CutRange
import Derived.Deep.QuietTactic
import Derived.Deep.RegionHeld3
import Derived.Deep.RegionLaw
import Derived.Deep.RegionWith
import Derived.KernelRfl
import Derived.Laws.EntriesVeiled
import Derived.Laws.Tables
import Derived.Lib.ConvBytes
import Derived.Lib.Hide
import Derived.Lib.SlBytesRow
import Derived.Lib.SlicesCompact
import Derived.Lib.SmallJoins
import Derived.Maps.AppendAt
import Derived.OrdersHeld
import Derived.Shelf.Bytes.SlSmallAll
import Derived.Sort.Statements
import Derived.WalkKit
import Derived.WalkLawsBesides
import Derived.WalkSpells
namespace Go.Proofs.Ytionibckeicncaa
open Go Go.RowKit Go.Joins

/-- A literal that may not be. -/
def badL (next x : Int) : Bool := (x == 0) || (decide (next ≤ x) || decide (x ≤ -next))
/-- What the law works out as wrong. -/
def badB (lits : List Int) (outs next : Int) : Bool := (decide (next < 1) || (decide (4194304 < next) || (decide (4096 < lits.length) || decide (outs < 0)))) || lits.any (badL next)
theorem badB_iff {lits : List Int} {outs next : Int} : badB lits outs next = true ↔ badT lits outs next := by
  unfold badB badT
  simp only [Bool.or_eq_true, decide_eq_true_eq, List.any_eq_true]
  by_cases h1 : next < 1
  · simp [h1]
  by_cases h2 : 4194304 < next
  · simp [h2]
  have hmy : mayS [lits] (next - 1) = false ↔ (4096 < lits.length ∨ ∃ x ∈ lits, badL next x = true) := by
    rw [Bool.eq_false_iff, ne_eq, mayS_iff]
    constructor
    · intro h
      by_cases h3 : 4096 < lits.length
      · exact .inl h3
      · refine .inr ?_
        by_cases h4 : ∃ x ∈ lits, badL next x = true
        · exact h4
        · exfalso
          refine h ⟨by omega, by omega, by simp, fun c hc => ?_⟩
          obtain rfl := List.mem_singleton.1 hc
          refine ⟨by omega, fun x hx => ?_⟩
          have hx2 : badL next x = false := by
            cases hq : badL next x with
            | false => rfl
            | true => exact absurd ⟨x, hx, hq⟩ h4
          unfold badL at hx2
          simp only [Bool.or_eq_false_iff, beq_eq_false_iff_ne, decide_eq_false_iff_not] at hx2
          exact ⟨hx2.1, by omega, by omega⟩
    · rintro (h | ⟨x, hx, hq⟩) ⟨_, _, _, h4⟩
      · have := (h4 lits (List.mem_singleton.2 rfl)).1
        omega
      · have := (h4 lits (List.mem_singleton.2 rfl)).2 x hx
        unfold badL at hq
        simp only [Bool.or_eq_true, beq_iff_eq, decide_eq_true_eq] at hq
        omega
  rw [hmy]
  constructor
  · rintro ((h | h | h | h) | h)
    · exact absurd h h1
    · exact absurd h h2
    · exact .inr (.inr (.inr (.inl h)))
    · exact .inl h
    · exact .inr (.inr (.inr (.inr h)))
  · rintro (h | h | h | h | h)
    · exact .inl (.inr (.inr (.inr h)))
    · exact absurd h h1
    · exact absurd h h2
    · exact .inl (.inr (.inr (.inl h)))
    · exact .inr h
theorem size8 {lits : List Int} {outs : Int} (h : lits.length ≤ 8) : (sizeT lits outs).1 ≤ 256 ∧ (sizeT lits outs).2 ≤ 64 := by
  unfold sizeT
  have h1 := sizeF_le lits.length lits.length (min outs.toNat lits.length)
  have h2 : lits.length * lits.length ≤ 8 * 8 := Nat.mul_le_mul h h
  omega
noncomputable def codeTb4 : Code := ((Try.f3.body.bind (findRegion 4)).getD .skip)
set_option maxRecDepth 100000 in
set_option maxHeartbeats 6400000 in
theorem reg_Tb4 (X0 : World) (outs next : Int) (a : Option Addr) (n c : Nat) (b0 : Bool) (hb : b0 = (decide (next < 1) || (decide (4194304 < next) || (decide (4096 < n) || decide (outs < 0)))))
    (QQ : Exit → Act → World → Prop)
    {v3 v4 v5 v6 v7 v8 v9 v10 v11 v12 v13 v14 v15 v16 v17 v18 v19 v20 v21 v22 v23 v24 v25 v26 v27 v28 v29 v30 v31 v32 v33 v34 v35 v36 v37 v38 v39 v40 v41 v42 v43 v44 v45 v46 v47 v48 v49 v50 v51 v52 v53 v54 v55 v56 v57 v58 v59 v60 v61 v62 v63 v64 v65 v66 v67 v68 v69 v70 v71 v72 v73 v74 v75 v76 v77 v78 v79 v80 v81 v82 v83 v84 v85 v86 v87 v88 v89 v90 v91 v92 v93 v94 v95 v96 v97 v98 v99 v100 v101 v102 v103 v104 v105 v106 v107 v108 v109 v110 v111 v112 v113 v114 v115 v116 v117 v118 v119 v120 v121 v122 v123 v124 v125 v126 v127 v128 v129 v130 v131 v132 v133 v134 v135 v136 v137 v138 v139 v140 v141 v142 v143 v144 v145 v146 v147 v148 v149 v150 v151 v152 v153 v154 v155 v156 v157 v158 v159 v160 v161 v162 v163 v164 v165 v166 v167 v168 v169 v170 v171 v172 v173 v174 v175 v176 v177 v178 v179 v180 v181 v182 v183 v184 v185 v186 v187 v188 v189 v190 v191 v192 v193 v194 v195 v196 v197 v198 v199 v200 v201 v202 v203 v204 v205 v206 v207 v208 v209 : Value}
    (hK : ∀ (u32 u33 u34 u35 u36 u37 u38 u39 u40 u41 u42 u43 u44 u45 u46 : Value), QQ .normal ⟨#[.slice a n c, .int .i64 outs, .int .i64 next, v3, v4, v5, v6, v7, v8, v9, v10, v11, .bool b0, v13, v14, v15, v16, v17, v18, v19, v20, v21, v22, v23, v24, v25, v26, v27, v28, v29, v30, v31, u32, u33, u34, u35, u36, u37, u38, u39, u40, u41, u42, u43, u44, u45, u46, v47, v48, v49, v50, v51, v52, v53, v54, v55, v56, v57, v58, v59, v60, v61, v62, v63, v64, v65, v66, v67, v68, v69, v70, v71, v72, v73, v74, v75, v76, v77, v78, v79, v80, v81, v82, v83, v84, v85, v86, v87, v88, v89, v90, v91, v92, v93, v94, v95, v96, v97, v98, v99, v100, v101, v102, v103, v104, v105, v106, v107, v108, v109, v110, v111, v112, v113, v114, v115, v116, v117, v118, v119, v120, v121, v122, v123, v124, v125, v126, v127, v128, v129, v130, v131, v132, v133, v134, v135, v136, v137, v138, v139, v140, v141, v142, v143, v144, v145, v146, v147, v148, v149, v150, v151, v152, v153, v154, v155, v156, v157, v158, v159, v160, v161, v162, v163, v164, v165, v166, v167, v168, v169, v170, v171, v172, v173, v174, v175, v176, v177, v178, v179, v180, v181, v182, v183, v184, v185, v186, v187, v188, v189, v190, v191, v192, v193, v194, v195, v196, v197, v198, v199, v200, v201, v202, v203, v204, v205, v206, v207, v208, v209], []⟩ X0) :
    Code.wp Try.prog codeTb4 QQ ⟨#[.slice a n c, .int .i64 outs, .int .i64 next, v3, v4, v5, v6, v7, v8, v9, v10, v11, v12, v13, v14, v15, v16, v17, v18, v19, v20, v21, v22, v23, v24, v25, v26, v27, v28, v29, v30, v31, v32, v33, v34, v35, v36, v37, v38, v39, v40, v41, v42, v43, v44, v45, v46, v47, v48, v49, v50, v51, v52, v53, v54, v55, v56, v57, v58, v59, v60, v61, v62, v63, v64, v65, v66, v67, v68, v69, v70, v71, v72, v73, v74, v75, v76, v77, v78, v79, v80, v81, v82, v83, v84, v85, v86, v87, v88, v89, v90, v91, v92, v93, v94, v95, v96, v97, v98, v99, v100, v101, v102, v103, v104, v105, v106, v107, v108, v109, v110, v111, v112, v113, v114, v115, v116, v117, v118, v119, v120, v121, v122, v123, v124, v125, v126, v127, v128, v129, v130, v131, v132, v133, v134, v135, v136, v137, v138, v139, v140, v141, v142, v143, v144, v145, v146, v147, v148, v149, v150, v151, v152, v153, v154, v155, v156, v157, v158, v159, v160, v161, v162, v163, v164, v165, v166, v167, v168, v169, v170, v171, v172, v173, v174, v175, v176, v177, v178, v179, v180, v181, v182, v183, v184, v185, v186, v187, v188, v189, v190, v191, v192, v193, v194, v195, v196, v197, v198, v199, v200, v201, v202, v203, v204, v205, v206, v207, v208, v209], []⟩ X0 := by
  have HKK := Lib.hid hK
  clear hK
  conv => arg 2; whnf
  by_cases q1 : next < 1
  · have d1 : decide (next < 1) = true := decide_eq_true q1
    have e : b0 = true := by rw [hb, d1]; rfl
    subst e
    clear hb q1
    go_wp2
    exact HKK.out _ _ _ _ _ _ _ _ _ _ _ _ _ _ _
  have d1 : decide (next < 1) = false := decide_eq_false q1
  by_cases q2 : 4194304 < next
  · have d2 : decide (4194304 < next) = true := decide_eq_true q2
    have e : b0 = true := by rw [hb, d1, d2]; rfl
    subst e
    clear hb q1 q2
    go_wp2
    exact HKK.out _ _ _ _ _ _ _ _ _ _ _ _ _ _ _
  have d2 : decide (4194304 < next) = false := decide_eq_false q2
  by_cases q3 : 4096 < n
  · have d3 : decide (4096 < n) = true := decide_eq_true q3
    have d3' : decide ((4096 : Int) < (n : Int)) = true := decide_eq_true (by omega)
    have e : b0 = true := by rw [hb, d1, d2, d3]; rfl
    subst e
    clear hb q1 q2 q3
    go_wp2
    exact HKK.out _ _ _ _ _ _ _ _ _ _ _ _ _ _ _
  have d3 : decide (4096 < n) = false := decide_eq_false q3
  have d3' : decide ((4096 : Int) < (n : Int)) = false := decide_eq_false (by omega)
  obtain ⟨q, hq⟩ : ∃ q, q = decide (outs < 0) := ⟨_, rfl⟩
  have e : b0 = q := by rw [hb, d1, d2, d3, ← hq]; rfl
  subst e
  have d4 := hq.symm
  clear hb q1 q2 q3 hq
  go_wp2
  exact HKK.out _ _ _ _ _ _ _ _ _ _ _ _ _ _ _
set_option maxRecDepth 100000 in
set_option maxHeartbeats 12800000 in
theorem tallyBuilds_any (lits : List Int) (hz : ∀ x ∈ lits, InZ x) (outs next : Int) (a : Option Addr) (n c : Nat) (w : World) (h : Sees w a n c (zvs lits)) (hn : n ≤ 17592186044416) (ho : -9223372036854775808 ≤ outs ∧ outs ≤ 9223372036854775807) (hx : -9223372036854775808 ≤ next ∧ next ≤ 9223372036854775807) :
    Calls Try.prog 3 #[.slice a n c, .int .i64 outs, .int .i64 next] w fun e w' => e = .returned (.bool true) ∧ Below w.heap.size w w' := by
  obtain ⟨i0, hi0, hz0, hz1, hz2⟩ := info_parts info_int
  have HS := Lib.hid h
  have HZ := Lib.hid hz
  have HL := Lib.hid h.zlen
  have HNO := Lib.hid (And.intro hn (And.intro ho hx))
  clear h hz
  go_enter Try.func3, Try.ntmps3
  go_wp2_with (at_builtin; refine wpList_append_row isZ _ rfl _ _ 22 rfl w.heap.size 3 i0 (.int .i64 0) 8 Try.underlying22 hi0 hz0 hz1 hz2 rfl isZ_zero (.slice none 0 0) 0 [] rfl (Row.nil _ _ _ _) a n c (zvs lits) rfl HS.out (zvs_one _) (isZ_zvs _) ?c1 ?c2 ?c3 ?_)
  case c1 => unfold maxLen; omega
  case c2 => omega
  case c3 => exact Nat.le_refl _
  intro v1 w1 hr1 hg1 _
  have HB1 : Hid (Below w.heap.size w w1) := (Below.refl w.heap.size w).grown hg1 (Nat.le_refl _) (fun j hj => by simp [Value.ownBlock] at hj)
  have hr2 : Row isZ w1 w.heap.size 3 v1 n (zvs lits) := hr1
  obtain ⟨a1, c1, hv1, _, hs1⟩ := hr2.sees
  subst hv1
  have HO1 := Lib.hid hs1
  have HBD := Lib.hid (build_any lits outs next a1 n c1 w1 hs1 (by omega) ho)
  clear hr1 hg1 hr2 hs1 hn ho hx
  go_wp2_with fail
  refine HBD.out.mono ?_
  rintro e W2 ⟨hb, hp⟩
  have HB2 := Lib.hid (ext_trans HB1.out hb)
  have HO2 := Lib.hid (HO1.out.below hb)
  have HS2 := Lib.hid (HS.out.below HB2.out)
  clear hb HBD HO1 HB1
  have HIN : Hid (Calls Try.prog 7 #[.slice a1 n c1, .slice a n c] W2 fun e w' => e = .returned (.bool true) ∧ w' = W2) := by
    refine (intsT_any lits lits a1 a n n c1 c W2 HO2.out HS2.out (by have := HNO.out; omega) (by have := HNO.out; omega)).mono ?_
    rintro e w' ⟨he, hw⟩
    exact ⟨by rw [he]; simp, hw⟩
  -- what the law tells of the answer: an error's number, two lists' lengths, a number
  obtain ⟨la, ln, lc, oa, on, oc, af, er, rfl, hcase⟩ : ∃ (la : Option Addr) (ln lc : Nat) (oa : Option Addr) (on oc : Nat) (af er : Int), e = .returned (.tuple #[.slice la ln lc, .slice oa on oc, .int .i64 af, .int .i64 er]) ∧
      ((badT lits outs next ∧ er = 2 ∧ ln = 0 ∧ on = 0 ∧ af = 0) ∨ (¬ badT lits outs next ∧ (1048576 < (sizeT lits outs).1 ∨ 4194305 < (sizeT lits outs).2 + next.toNat) ∧ er = 3 ∧ ln = 0 ∧ on = 0 ∧ af = 0) ∨
       (¬ badT lits outs next ∧ er = 0 ∧ ln = (outT lits outs next).cls.length ∧ on = (outT lits outs next).out.length ∧ af = ((outT lits outs next).next : Nat) ∧ ∃ lss, SeesZ W2 la ln lc lss (outT lits outs next).cls ∧ Sees W2 oa on oc (zvs (outT lits outs next).out))) := by
    rcases hp with ⟨h1, h2⟩ | ⟨h1, h2, h3⟩ | ⟨h1, _, _, la, lc, lss, oa, oc, h2, h3, h4⟩
    · exact ⟨none, 0, 0, none, 0, 0, 0, 2, h2, .inl ⟨h1, rfl, rfl, rfl, rfl⟩⟩
    · exact ⟨none, 0, 0, none, 0, 0, 0, 3, h3, .inr (.inl ⟨h1, h2, rfl, rfl, rfl, rfl⟩)⟩
    · exact ⟨la, _, lc, oa, _, oc, _, 0, h2, .inr (.inr ⟨h1, rfl, rfl, rfl, rfl, lss, h3, h4⟩)⟩
  have HC := Lib.hid hcase
  clear hp hcase
  -- the four tests ahead of the loop
  obtain ⟨b0, hb0⟩ : ∃ b, b = (decide (next < 1) || (decide (4194304 < next) || (decide (4096 < lits.length) || decide (outs < 0)))) := ⟨_, rfl⟩
  have HBB : Hid (badB lits outs next = (b0 || lits.any (badL next))) := by show _ = _; rw [hb0]; rfl
  have HB0 : Hid (b0 = false → 1 ≤ next ∧ next ≤ 4194304 ∧ n ≤ 4096) := fun e => by
    rw [e] at hb0
    have := hb0.symm
    simp only [Bool.or_eq_false_iff, decide_eq_false_iff_not] at this
    have := HL.out
    omega
  rw [HL.out] at hb0
  clear HO2
  go_upto_region 4 with fail
  refine reg_Tb4 W2 outs next a n c b0 hb0 _ ?_
  intro u32 u33 u34 u35 u36 u37 u38 u39 u40 u41 u42 u43 u44 u45 u46
  clear hb0
  have wneg : b0 = false → IntKind.i64.wrap (-next) = -next := fun e => IntWalk.i64_in _ (by have := HB0.out e; omega)
  have HWN := Lib.hid wneg
  clear wneg
  go_wp2_with fail
  go_loop [13, 12] (fun i b => ∃ k : Nat, k ≤ n ∧ i = .int .i64 k ∧ b = .bool (b0 || (lits.take k).any (badL next))) (fun i _ => n - (intOf i).toNat)
  case atStart => exact ⟨0, Nat.zero_le _, rfl, by simp⟩
  case round =>
    obtain ⟨k, hk, rfl, rfl⟩ := hrel
    by_cases hlt : k < n
    · obtain ⟨b, off, rfl, _⟩ := HS2.out.addr (show 0 < n by omega)
      have hc := HS2.out.z_at k hlt
      have hnx : (b0 || (lits.take (k + 1)).any (badL next)) = ((b0 || (lits.take k).any (badL next)) || badL next (lits.getD k 0)) := by rw [any_takeT (by rw [HL.out]; exact hlt), Bool.or_assoc]
      obtain ⟨y, hy⟩ : ∃ y, y = lits.getD k 0 := ⟨_, rfl⟩
      rw [← hy] at hc hnx
      obtain ⟨A, hA⟩ : ∃ A, A = (b0 || (lits.take k).any (badL next)) := ⟨_, rfl⟩
      rw [← hA] at hnx ⊢
      have HNX := Lib.hid hnx
      have hI1 : ((k : Nat) : Int) < (n : Int) := by omega
      have hI2 : (0 : Int) ≤ (k : Int) := by omega
      have W1 : IntKind.i64.wrap ((k : Int) + 1) = (k : Int) + 1 := IntWalk.i64_in _ (by have := HNO.out.1; omega)
      cases A with
      | true =>
        have HN2 : Hid ((b0 || (lits.take (k + 1)).any (badL next)) = true) := by show _ = _; rw [HNX.out]; rfl
        clear hnx hA hy
        go_wp2
        go_round
        case rel => exact ⟨k + 1, by omega, by go_num, by rw [HN2.out] <;> rfl⟩
        case measure => simp [intOf]; omega
      | false =>
        have hb0f : b0 = false := by
          cases hq : b0 with
          | false => rfl
          | true => rw [hq] at hA; cases hA
        have wn := HWN.out hb0f
        clear hnx hA hy hb0f
        cases q1 : (y == 0) with
        | true =>
          have HN2 : Hid ((b0 || (lits.take (k + 1)).any (badL next)) = true) := by show _ = _; rw [HNX.out]; unfold badL; rw [q1]; rfl
          go_wp2
          go_round
          case rel => exact ⟨k + 1, by omega, by go_num, by rw [HN2.out] <;> rfl⟩
          case measure => simp [intOf]; omega
        | false =>
          by_cases q2 : next ≤ y
          · have d2 : decide (next ≤ y) = true := decide_eq_true q2
            have HN2 : Hid ((b0 || (lits.take (k + 1)).any (badL next)) = true) := by show _ = _; rw [HNX.out]; unfold badL; rw [q1, d2]; rfl
            clear q2
            go_wp2
            go_round
            case rel => exact ⟨k + 1, by omega, by go_num, by rw [HN2.out] <;> rfl⟩
            case measure => simp [intOf]; omega
          · have d2 : decide (next ≤ y) = false := decide_eq_false q2
            obtain ⟨q3, hq3⟩ : ∃ q, q = decide (y ≤ -next) := ⟨_, rfl⟩
            have HN2 : Hid ((b0 || (lits.take (k + 1)).any (badL next)) = q3) := by show _ = _; rw [HNX.out]; unfold badL; rw [q1, d2, ← hq3]; rfl
            have d3 := hq3.symm
            clear q2 hq3
            go_wp2
            go_round
            case rel => exact ⟨k + 1, by omega, by go_num, by rw [HN2.out] <;> rfl⟩
            case measure => simp [intOf]; omega
    · have hAl : (b0 || (lits.take k).any (badL next)) = badB lits outs next := by rw [HBB.out, List.take_of_length_le (by rw [HL.out]; omega)]
      rw [hAl]
      have d1 : decide ((k : Int) < (n : Int)) = false := decide_eq_false (by omega)
      have d2 : decide (k < n) = false := decide_eq_false hlt
      clear hAl hlt hk
      rcases HC.out with ⟨hb, rfl, rfl, rfl, rfl⟩ | ⟨hb, hlim, rfl, rfl, rfl, rfl⟩ | ⟨hb, rfl, hln, hon, haf, lss, hzz, hoo⟩
      · rw [badB_iff.2 hb]
        clear hb HC
        go_wp2_with fail
        refine HIN.out.mono ?_
        rintro e w9 ⟨rfl, rfl⟩
        clear HIN
        go_wp2_with fail
        refine (lives15_any _).mono ?_
        rintro e W3 ⟨rfl, hb⟩
        have HB := Lib.hid (ext_trans HB2.out hb)
        clear hb
        go_wp2
        go_ret
        exact ⟨rfl, HB.out⟩
      · have hbf : badB lits outs next = false := by
          cases hq : badB lits outs next with
          | false => rfl
          | true => exact absurd (badB_iff.1 hq) hb
        rw [hbf]
        have hbig : 8 < n ∨ 4193304 < next := by
          by_cases h8 : 8 < n
          · exact .inl h8
          · have := size8 (outs := outs) (lits := lits) (by rw [HL.out]; omega)
            exact .inr (by omega)
        clear hb hbf HC hlim
        by_cases q8 : 8 < n
        · have d8 : decide (8 < n) = true := decide_eq_true q8
          have d8' : decide ((8 : Int) < (n : Int)) = true := decide_eq_true (by omega)
          clear hbig q8
          go_wp2_with fail
          refine HIN.out.mono ?_
          rintro e w9 ⟨rfl, rfl⟩
          clear HIN
          go_wp2_with fail
          refine (lives15_any _).mono ?_
          rintro e W3 ⟨rfl, hb⟩
          have HB := Lib.hid (ext_trans HB2.out hb)
          clear hb
          go_wp2
          go_ret
          exact ⟨rfl, HB.out⟩
        · have d8 : decide (8 < n) = false := decide_eq_false q8
          have d8' : decide ((8 : Int) < (n : Int)) = false := decide_eq_false (by omega)
          have d9 : decide (4193304 < next) = true := decide_eq_true (by omega)
          clear hbig q8
          go_wp2_with fail
          refine HIN.out.mono ?_
          rintro e w9 ⟨rfl, rfl⟩
          clear HIN
          go_wp2_with fail
          refine (lives15_any _).mono ?_
          rintro e W3 ⟨rfl, hb⟩
          have HB := Lib.hid (ext_trans HB2.out hb)
          clear hb
          go_wp2
          go_ret
          exact ⟨rfl, HB.out⟩
      · have hbf : badB lits outs next = false := by
          cases hq : badB lits outs next with
          | false => rfl
          | true => exact absurd (badB_iff.1 hq) hb
        rw [hbf]
        have HNB := Lib.hid hb
        have HFC := Lib.hid (And.intro hln (And.intro hon haf))
        have HZZ := Lib.hid hzz
        have HOO := Lib.hid hoo
        clear hb hbf HC hln hon haf hzz hoo
        go_wp2_with fail
        refine HIN.out.mono ?_
        rintro e w9 ⟨rfl, rfl⟩
        clear HIN d1 d2
        by_cases q7 : 7 < next
        · have d7 : decide (7 < next) = true := decide_eq_true q7
          clear q7
          go_wp2_with fail
          refine (lives15_any _).mono ?_
          rintro e W3 ⟨rfl, hb⟩
          have HB := Lib.hid (ext_trans HB2.out hb)
          clear hb
          go_wp2
          go_ret
          exact ⟨rfl, HB.out⟩
        have d7 : decide (7 < next) = false := decide_eq_false q7
        by_cases q8 : 8 < n
        · have d8 : decide (8 < n) = true := decide_eq_true q8
          have d8' : decide ((8 : Int) < (n : Int)) = true := decide_eq_true (by omega)
          clear q7 q8
          go_wp2_with fail
          refine (lives15_any _).mono ?_
          rintro e W3 ⟨rfl, hb⟩
          have HB := Lib.hid (ext_trans HB2.out hb)
          clear hb
          go_wp2
          go_ret
          exact ⟨rfl, HB.out⟩
        have d8 : decide (8 < n) = false := decide_eq_false q8
        have d8' : decide ((8 : Int) < (n : Int)) = false := decide_eq_false (by omega)
        have hnb := HNB.out
        have hn1 : ¬ next < 1 := fun h => hnb (.inr (.inl h))
        have ho0 : ¬ outs < 0 := fun h => hnb (.inl h)
        have hmy : mayS [lits] (next - 1) = true := by
          cases hq : mayS [lits] (next - 1) with
          | true => rfl
          | false => exact absurd (.inr (.inr (.inr hq))) hnb
        obtain ⟨nx, rfl⟩ := Int.eq_ofNat_of_zero_le (a := next) (by omega)
        obtain ⟨ou, rfl⟩ := Int.eq_ofNat_of_zero_le (a := outs) (by omega)
        obtain ⟨V, hV⟩ : ∃ V, V = nx - 1 := ⟨_, rfl⟩
        have hV6 : V ≤ 6 := by omega
        have hnV : nx = V + 1 := by omega
        have hlts : ∀ x ∈ lits, Lt (V + 1) x := fun x hx => by
          have := (may_oneT hmy).2.2.2 x hx
          exact ⟨this.1, by omega⟩
        have hlen : lits.length ≤ 8 := by rw [HL.out]; omega
        have hF := talF (most := min ou lits.length) hV6 hlen hlts
        have eT : outT lits (ou : Int) (nx : Int) = outsF lits.length (min ou lits.length) lits (V + 1) := by
          unfold outT
          rw [Int.toNat_natCast, Int.toNat_natCast, hnV]
        obtain ⟨T, hT⟩ : ∃ T, T = outsF lits.length (min ou lits.length) lits (V + 1) := ⟨_, rfl⟩
        rw [← hT] at eT hF
        rw [eT] at HZZ HOO HFC
        obtain ⟨v, hv⟩ : ∃ v, v = T.next - 1 := ⟨_, rfl⟩
        rw [← hv] at hF
        have HF := Lib.hid hF
        have hts := hF.nx
        obtain ⟨hln, hon, haf⟩ := HFC.out
        obtain ⟨aN, haN⟩ : ∃ x : Nat, x = T.next := ⟨_, rfl⟩
        rw [← haN] at haf
        subst haf
        have m1 : min (ou : Int) (n : Int) = (on : Int) := by have := hF.len; have := HL.out; omega
        have hge : decide ((aN : Int) < (nx : Int)) = false := decide_eq_false (by have := hF.few; omega)
        have hge' : decide (aN < nx) = false := decide_eq_false (by have := hF.few; omega)
        have wa : IntKind.i64.wrap ((aN : Int) - 1) = (v : Int) := by rw [show (aN : Int) - 1 = (v : Int) by omega]; exact IntWalk.i64_in _ (by have := hF.few; omega)
        have HRM1 := Lib.hid (refMay_any T.cls (v : Int) la ln lc lss w9 HZZ.out (by have := hF.ncls; omega) hF.small)
        rw [hF.may1] at HRM1
        have HRM2 := Lib.hid (refMay_any [T.out] (v : Int) (some ⟨w9.heap.size, 0, none⟩) 1 1 [(oa, on, oc)] _ (seesT_one w9 oa on oc T.out HOO.out) (by omega) (fun x hx => by obtain rfl := List.mem_singleton.1 hx; have := hF.len; omega))
        rw [hF.may2] at HRM2
        have wx : IntKind.i64.wrap ((nx : Int) - 1) = (V : Int) := by rw [show (nx : Int) - 1 = (V : Int) by omega]; exact IntWalk.i64_in _ (by omega)
        have hp2 := pow_leT V (by omega)
        have hsh := shl_minT V (by omega)
        obtain ⟨P, hP⟩ : ∃ P, P = 2 ^ V := ⟨_, rfl⟩
        rw [← hP] at hp2 hsh
        have HP := Lib.hid hp2
        have HV6 := Lib.hid (And.intro hV6 (And.intro hnV (And.intro hlen (show n ≤ 8 by omega))))
        have HON : Hid (on = T.out.length ∧ on ≤ 8 ∧ ln ≤ 1000) := ⟨hon, by have := hF.len; omega, by rw [hln]; exact hF.ncls⟩
        have HOR := Lib.hid (out_small hF.outs hts hF.few.1)
        clear hnb hn1 ho0 hmy hV hV6 hnV hlts hlen hF eT hT hv hts hln hon haN hp2 hP q7 q8 HFC HWN HB0 HBB
        go_wp2_with fail
        refine HRM1.out.mono ?_
        rintro e w9 ⟨rfl, rfl⟩
        clear HRM1
        go_wp2_with fail
        refine HRM2.out.mono ?_
        rintro e W3 ⟨rfl, hW3⟩
        have hb3 : Below w9.heap.size w9 W3 := by rw [hW3]; exact ext_alloc _ _
        have HB3 := Lib.hid (ext_trans HB2.out hb3)
        have HZ3 := Lib.hid (HZZ.out.below hb3)
        have HO3 := Lib.hid (HOO.out.below hb3)
        have HS3 := Lib.hid (HS2.out.below hb3)
        clear hW3 hb3 HRM2 HZZ HOO HS2 HB2 m1 hge hge' d7 d8 d8'
        go_wp2_with fail
        go_loopw [14] (fun i wr => ∃ j : Nat, j ≤ P ∧ i = .int .i64 j ∧ Hid (Below W3.heap.size W3 wr)) (fun i _ => P - (intOf i).toNat)
        case atStart => exact ⟨0, Nat.zero_le _, rfl, Below.refl _ _⟩
        case round =>
          obtain ⟨j, hj, rfl, hB⟩ := hrel
          have HB := Lib.hid hB.out
          clear hB
          by_cases hlt : j < P
          · have HMD := Lib.hid (model_any j V (by have := HV6.out; omega) wr)
            have I1 : decide ((j : Int) < (P : Int)) = true := by simpa using hlt
            have W1' : IntKind.i64.wrap ((j : Int) + 1) = (j : Int) + 1 := IntWalk.i64_in _ (by have := HP.out; omega)
            go_wp2_with fail
            refine HMD.out.mono ?_
            rintro e w4 ⟨am, cm, M, rfl, hM, hsm, hb4⟩
            have HB4 := Lib.hid (ext_trans HB.out hb4)
            have HSM := Lib.hid hsm
            have HMM := Lib.hid hM
            have HSD := Lib.hid (said_any M V am (V + 1) cm w4 hsm rfl (by have := HV6.out; omega))
            have e9 : ((V + 1 : Nat) : Int) = (nx : Int) := by rw [HV6.out.2.1]
            rw [e9] at HSD
            clear hM hsm hb4 HMD I1 e9 HB
            go_wp2_with fail
            refine HSD.out.mono ?_
            rintro e w5 ⟨sv, rfl, hrow, hb5⟩
            obtain ⟨sa, sc, hsv, _, hss⟩ := hrow.sees
            subst hsv
            have HG5 := Lib.hid hss
            have HB5 := Lib.hid (ext_trans HB4.out hb5)
            have HSM5 := Lib.hid (HSM.out.below hb5)
            have HCA := Lib.hid (refCan_any T.cls (saidL M V) v la sa ln lc V sc lss w5 (HZ3.out.below HB5.out) hss (by have := HON.out; omega) HF.out.small (by have := HV6.out; omega) (by have := HF.out.few; omega))
            clear hrow hss hb5 HSD HSM HB4
            go_wp2_with fail
            refine HCA.out.mono ?_
            rintro e w6 ⟨⟨b, rfl, hbi⟩, hb6⟩
            obtain rfl : b = true := hbi.2 (HF.out.yes M HMM.out)
            have HB6 := Lib.hid (ext_trans HB5.out hb6)
            have HG6 := Lib.hid (HG5.out.below hb6)
            have HM6 := Lib.hid (HSM5.out.below hb6)
            clear hbi hb6 HCA HG5 HSM5 HB5
            go_wp2_with fail
            go_loopw [17] (fun i wr => ∃ q : Nat, q ≤ on ∧ i = .int .i64 q ∧ Hid (Below w6.heap.size w6 wr)) (fun i _ => on - (intOf i).toNat)
            case atStart => exact ⟨0, Nat.zero_le _, rfl, Below.refl _ _⟩
            case round =>
              obtain ⟨q, hq, rfl, hB⟩ := hrel
              have HQ := Lib.hid hB.out
              clear hB
              by_cases hlq : q < on
              · have HW3 := Lib.hid (ext_trans HB6.out HQ.out)
                have ho3 := HO3.out.below HW3.out
                obtain ⟨ob, oo, rfl, _⟩ := ho3.addr (show 0 < on by omega)
                have hc := ho3.z_at q hlq
                have hno := HF.out.no M HMM.out q (by rw [← HON.out.1]; exact hlq)
                have hyr := HOR.out _ (getD_memZ (L := T.out) (k := q) (by rw [← HON.out.1]; exact hlq))
                obtain ⟨y, hy⟩ : ∃ y, y = T.out.getD q 0 := ⟨_, rfl⟩
                rw [← hy] at hc hno hyr
                obtain ⟨cn, hcn⟩ : ∃ x, x = lits.countP (trueS M) := ⟨_, rfl⟩
                rw [← hcn] at hno
                have HHO := Lib.hid (hold_any lits HZ.out M a n c am (V + 1) cm wr (HS3.out.below HW3.out) (HM6.out.below HQ.out) (by have := HV6.out; omega) (by have := HV6.out; omega))
                rw [← hcn] at HHO
                have wn : IntKind.i64.wrap (-y) = -y := neg_small (by omega)
                have hI1 : ((q : Nat) : Int) < (on : Int) := by omega
                have hI2 : (0 : Int) ≤ (q : Int) := by omega
                have W1' : IntKind.i64.wrap ((q : Int) + 1) = (q : Int) + 1 := IntWalk.i64_in _ (by have := HON.out; omega)
                have HNO2 : Hid (∀ z : Int, z = (if q < cn then -y else y) → ¬ CanP T.cls (saidL M V ++ [z]) v) := fun z e => by rw [e]; exact hno
                have HGW := Lib.hid (HG6.out.below HQ.out)
                clear ho3 hno hyr hy hcn
                go_wp2_with fail
                refine HHO.out.mono ?_
                rintro e w7 ⟨rfl, rfl⟩
                clear HHO
                by_cases qc : q < cn
                · have d1 : decide (q < cn) = true := decide_eq_true qc
                  have d1' : decide ((q : Int) < (cn : Int)) = true := decide_eq_true (by omega)
                  have HN3 := Lib.hid (HNO2.out (-y) (by rw [if_pos qc]))
                  clear qc HNO2
                  go_wp2_with (at_builtin; refine wpList_append_row isZ _ rfl _ _ 22 rfl w7.heap.size 3 i0 (.int .i64 0) 8 Try.underlying22 hi0 hz0 hz1 hz2 rfl isZ_zero (.slice none 0 0) 0 [] rfl (Row.nil _ _ _ _) sa V sc (zvs (saidL M V)) rfl HGW.out (zvs_one _) (isZ_zvs _) ?cA1 ?cA2 ?cA3 ?_)
                  case cA1 => have := HV6.out; unfold maxLen; omega
                  case cA2 => have := HV6.out; omega
                  case cA3 => exact Nat.le_refl _
                  intro v1 w8 hr1 hg1 _
                  have HB8 : Hid (Below w7.heap.size w7 w8) := (Below.refl w7.heap.size w7).grown hg1 (Nat.le_refl _) (fun j hj => by simp [Value.ownBlock] at hj)
                  have HR8 : Hid (Row isZ w8 w7.heap.size 3 v1 V (zvs (saidL M V))) := hr1
                  have hc8 := cell_below hc HB8.out
                  clear hr1 hg1 hc
                  go_wp2_with (at_builtin; refine wpList_append_row isZ _ rfl _ _ 22 rfl w7.heap.size 3 i0 (.int .i64 0) 8 Try.underlying22 hi0 hz0 hz1 hz2 rfl isZ_zero v1 V (zvs (saidL M V)) rfl (HR8.out.below (ext_alloc _ _)) (some ⟨w8.heap.size, 0, none⟩) 1 1 (zvs [-y]) rfl (sees_one_z w8 (-y)) (zvs_one _) (isZ_zvs _) ?dA1 ?dA2 ?dA3 ?_)
                  case dA1 => have := HV6.out; unfold maxLen; omega
                  case dA2 => have := HV6.out; omega
                  case dA3 => have := HB8.out.size; simp; omega
                  intro v2 wa9 hr2 hg2 _
                  have hb6 := ext_trans HB8.out (ext_alloc w8 (.cells #[.int .i64 (-y)] 3))
                  have HBA : Hid (Below w7.heap.size w7 wa9) := hb6.grown hg2 hb6.size (fun j hj => (HR8.out.own.lt j hj).1)
                  have hr5 : Row isZ wa9 w7.heap.size 3 v2 (V + 1) (zvs (saidL M V ++ [-y])) := by
                    have e2 : zvs (saidL M V) ++ zvs [-y] = zvs (saidL M V ++ [-y]) := by simp [zvs]
                    rw [e2] at hr2
                    exact hr2
                  obtain ⟨ga, gc, hgv, _, hgs⟩ := hr5.sees
                  subst hgv
                  have HCA := Lib.hid (refCan_any T.cls (saidL M V ++ [-y]) v la ga ln lc (V + 1) gc lss wa9 ((HZ3.out.below HW3.out).below HBA.out) hgs (by have := HON.out; omega) HF.out.small (by have := HV6.out; omega) (by have := HF.out.few; omega))
                  clear hr2 hg2 hb6 hr5 hgs HR8 HB8
                  go_wp2_with fail
                  refine HCA.out.mono ?_
                  rintro e wb9 ⟨⟨b, rfl, hbi⟩, hb9⟩
                  obtain rfl : b = false := by
                    cases b with
                    | false => rfl
                    | true => exact absurd (hbi.1 rfl) HN3.out
                  have HQ2 := Lib.hid (ext_trans HQ.out (ext_trans HBA.out hb9))
                  clear hbi hb9 HCA HBA
                  go_wp2
                  go_roundw
                  case rel => exact ⟨q + 1, by omega, by go_num, HQ2.out⟩
                  case measure => simp [intOf]; omega
                · have d1 : decide (q < cn) = false := decide_eq_false qc
                  have d1' : decide ((q : Int) < (cn : Int)) = false := decide_eq_false (by omega)
                  have HN3 := Lib.hid (HNO2.out y (by rw [if_neg qc]))
                  clear qc HNO2
                  go_wp2_with (at_builtin; refine wpList_append_row isZ _ rfl _ _ 22 rfl w7.heap.size 3 i0 (.int .i64 0) 8 Try.underlying22 hi0 hz0 hz1 hz2 rfl isZ_zero (.slice none 0 0) 0 [] rfl (Row.nil _ _ _ _) sa V sc (zvs (saidL M V)) rfl HGW.out (zvs_one _) (isZ_zvs _) ?cB1 ?cB2 ?cB3 ?_)
                  case cB1 => have := HV6.out; unfold maxLen; omega
                  case cB2 => have := HV6.out; omega
                  case cB3 => exact Nat.le_refl _
                  intro v1 w8 hr1 hg1 _
                  have HB8 : Hid (Below w7.heap.size w7 w8) := (Below.refl w7.heap.size w7).grown hg1 (Nat.le_refl _) (fun j hj => by simp [Value.ownBlock] at hj)
                  have HR8 : Hid (Row isZ w8 w7.heap.size 3 v1 V (zvs (saidL M V))) := hr1
                  have hc8 := cell_below hc HB8.out
                  clear hr1 hg1 hc
                  go_wp2_with (at_builtin; refine wpList_append_row isZ _ rfl _ _ 22 rfl w7.heap.size 3 i0 (.int .i64 0) 8 Try.underlying22 hi0 hz0 hz1 hz2 rfl isZ_zero v1 V (zvs (saidL M V)) rfl (HR8.out.below (ext_alloc _ _)) (some ⟨w8.heap.size, 0, none⟩) 1 1 (zvs [y]) rfl (sees_one_z w8 (y)) (zvs_one _) (isZ_zvs _) ?dB1 ?dB2 ?dB3 ?_)
                  case dB1 => have := HV6.out; unfold maxLen; omega
                  case dB2 => have := HV6.out; omega
                  case dB3 => have := HB8.out.size; simp; omega
                  intro v2 wa9 hr2 hg2 _
                  have hb6 := ext_trans HB8.out (ext_alloc w8 (.cells #[.int .i64 (y)] 3))
                  have HBA : Hid (Below w7.heap.size w7 wa9) := hb6.grown hg2 hb6.size (fun j hj => (HR8.out.own.lt j hj).1)
                  have hr5 : Row isZ wa9 w7.heap.size 3 v2 (V + 1) (zvs (saidL M V ++ [y])) := by
                    have e2 : zvs (saidL M V) ++ zvs [y] = zvs (saidL M V ++ [y]) := by simp [zvs]
                    rw [e2] at hr2
                    exact hr2
                  obtain ⟨ga, gc, hgv, _, hgs⟩ := hr5.sees
                  subst hgv
                  have HCA := Lib.hid (refCan_any T.cls (saidL M V ++ [y]) v la ga ln lc (V + 1) gc lss wa9 ((HZ3.out.below HW3.out).below HBA.out) hgs (by have := HON.out; omega) HF.out.small (by have := HV6.out; omega) (by have := HF.out.few; omega))
                  clear hr2 hg2 hb6 hr5 hgs HR8 HB8
                  go_wp2_with fail
                  refine HCA.out.mono ?_
                  rintro e wb9 ⟨⟨b, rfl, hbi⟩, hb9⟩
                  obtain rfl : b = false := by
                    cases b with
                    | false => rfl
                    | true => exact absurd (hbi.1 rfl) HN3.out
                  have HQ2 := Lib.hid (ext_trans HQ.out (ext_trans HBA.out hb9))
                  clear hbi hb9 HCA HBA
                  go_wp2
                  go_roundw
                  case rel => exact ⟨q + 1, by omega, by go_num, HQ2.out⟩
                  case measure => simp [intOf]; omega
              · have d1 : decide ((q : Int) < (on : Int)) = false := decide_eq_false (by omega)
                have d2 : decide (q < on) = false := decide_eq_false hlq
                have HBE := Lib.hid (ext_trans HB6.out HQ.out)
                clear hlq hq HQ
                go_wp2
                go_roundw
                case rel => exact ⟨j + 1, by omega, by go_num, HBE.out⟩
                case measure => simp [intOf]; omega
          · have I1 : decide ((j : Int) < (P : Int)) = false := by simpa using hlt
            have I2 : decide (j < P) = false := by simpa using hlt
            have HBE := Lib.hid (ext_trans HB3.out HB.out)
            clear hlt hj HB
            go_wp2_with fail
            refine (lives15_any wr).mono ?_
            rintro e W18 ⟨rfl, hb⟩
            have HBF := Lib.hid (ext_trans HBE.out hb)
            clear hb
            go_wp2
            go_ret
            exact ⟨rfl, HBF.out⟩
end Go.Proofs.Ytionibckeicncaa
