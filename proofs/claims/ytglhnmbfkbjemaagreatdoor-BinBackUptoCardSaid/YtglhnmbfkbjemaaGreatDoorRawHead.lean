/- raw.checked, by its contract. -/
import Derived.Test.YtglhnmbfkbjemaaGreatDoorBkD
import Derived.Test.YtglhnmbfkbjemaaGreatDoorBkC
import Derived.Laws.Cover3
namespace Go.Proofs.YtglhnmbfkbjemaaGreatDoor
open Go Go.RowKit Go.Joins
def sevenV (l : List Nat) : Value := .agg #[.int .u32 (l.getD 0 0 : Nat), .int .u32 (l.getD 1 0 : Nat), .int .u32 (l.getD 2 0 : Nat), .int .u32 (l.getD 3 0 : Nat), .int .u32 (l.getD 4 0 : Nat), .int .u32 (l.getD 5 0 : Nat), .int .u32 (l.getD 6 0 : Nat)]
def zeroSeven : Value := .agg #[.int .u32 0, .int .u32 0, .int .u32 0, .int .u32 0, .int .u32 0, .int .u32 0, .int .u32 0]
def SevenPost (er : Int) (l : List Nat) (w : World) (e : Ending) (w' : World) : Prop :=
  Below w.heap.size w w' ∧ ((er = 0 ∧ e = .returned (.tuple #[sevenV l, .int .i64 0])) ∨ (er ≠ 0 ∧ e = .returned (.tuple #[zeroSeven, .int .i64 er])))
set_option maxRecDepth 100000 in
set_option maxHeartbeats 1000000 in
theorem checked_any (v0 v1 v2 v3 v4 v5 v6 v7 v8 : Nat) (h0 : v0 ≤ 2147483647) (h1 : v1 ≤ 2147483647) (h2 : v2 ≤ 2147483647) (h4 : v4 ≤ 2147483647) (w : World) :
    Calls Tryz.prog 88 #[.agg #[.int .u32 v0, .int .u32 v1, .int .u32 v2, .int .u32 v3, .int .u32 v4, .int .u32 v5, .int .u32 v6, .int .u32 v7, .int .u32 v8]] w
      (SevenPost (checkErr [v0, v1, v2, v3, v4, v5, v6, v7, v8]) [v0, v1, v2, v3, v4, v5, v6] w) := by
  obtain ⟨er, her⟩ : ∃ er, er = checkErr [v0, v1, v2, v3, v4, v5, v6, v7, v8] := ⟨_, rfl⟩
  rw [← her]
  have hc : er = if 0 < v7 ∨ 0 < v8 then 6 else if 16384 < v0 ∨ 1024 < v3 ∨ 1024 < v5 ∨ 1024 < v6 then 3 else if v0 < v1 + v2 + v4 then 5 else 0 := her
  have HC := Lib.hid hc
  clear her hc
  have hat : ∀ w' : World, (Instr.arrayAt 63 (.slice (some ⟨w.heap.size, 0, none⟩) 7 9)).run Tryz.prog w' = .ok (.pointer (some ⟨w.heap.size, 0, none⟩)) w' := fun w' => run_arrayAt w' _ _ 7 _ 7 9 Tryz.underlying63 (by decide)
  go_enter Tryz.func88, Tryz.ntmps88
  by_cases c7 : 0 < v7
  · have e7 : decide ((0 : Int) < (v7 : Int)) = true := by simp; omega
    have e : er = 6 := by rw [HC.out, if_pos (Or.inl c7)]
    have E := Lib.hid e
    clear e
    go_wp2
    go_quiet (fail)
    go_wp2
    rename_i nq
    refine bodyPost_ret (v := .tuple #[zeroSeven, .int .i64 6]) ?_ rfl ?_
    · simp [results, Tryz.results88, go_sem]
      rfl
    · refine ⟨set7 (w.heap.size + 1) (by omega) (ext_trans (ext_alloc _ _) (ext_trans (ext_alloc _ _) (ext_drewN _ _))), ?_⟩
      exact Or.inr ⟨by rw [E.out]; decide, by rw [E.out]⟩
  have e7 : decide ((0 : Int) < (v7 : Int)) = false := by simp; omega
  by_cases c8 : 0 < v8
  · have e8 : decide ((0 : Int) < (v8 : Int)) = true := by simp; omega
    have e : er = 6 := by rw [HC.out, if_pos (Or.inr c8)]
    have E := Lib.hid e
    clear e
    go_wp2
    go_quiet (fail)
    go_wp2
    rename_i nq
    refine bodyPost_ret (v := .tuple #[zeroSeven, .int .i64 6]) ?_ rfl ?_
    · simp [results, Tryz.results88, go_sem]
      rfl
    · refine ⟨set7 (w.heap.size + 1) (by omega) (ext_trans (ext_alloc _ _) (ext_trans (ext_alloc _ _) (ext_drewN _ _))), ?_⟩
      exact Or.inr ⟨by rw [E.out]; decide, by rw [E.out]⟩
  have e8 : decide ((0 : Int) < (v8 : Int)) = false := by simp; omega
  by_cases c0 : 16384 < v0
  · have e0 : decide ((16384 : Int) < (v0 : Int)) = true := by simp; omega
    have e : er = 3 := by rw [HC.out, if_neg (by omega), if_pos (by omega)]
    have E := Lib.hid e
    clear e
    go_wp2
    go_quiet (fail)
    go_wp2
    rename_i nq
    refine bodyPost_ret (v := .tuple #[zeroSeven, .int .i64 3]) ?_ rfl ?_
    · simp [results, Tryz.results88, go_sem]
      rfl
    · refine ⟨set7 (w.heap.size + 1) (by omega) (ext_trans (ext_alloc _ _) (ext_trans (ext_alloc _ _) (ext_drewN _ _))), ?_⟩
      exact Or.inr ⟨by rw [E.out]; decide, by rw [E.out]⟩
  have e0 : decide ((16384 : Int) < (v0 : Int)) = false := by simp; omega
  by_cases o1 : v3 < v5
  · by_cases o2 : v5 < v6
    · skip
      have cm2 : (1024 < v3 ∨ 1024 < v5 ∨ 1024 < v6) ↔ 1024 < v6 := by omega
      by_cases cm : 1024 < v6
      · have em : decide ((1024 : Int) < (v6 : Int)) = true := by simp; omega
        have e : er = 3 := by rw [HC.out, if_neg (by omega), if_pos (by omega)]
        clear cm2
        have E := Lib.hid e
        clear e
        go_wp2
        go_quiet (fail)
        go_wp2
        rename_i nq
        refine bodyPost_ret (v := .tuple #[zeroSeven, .int .i64 3]) ?_ rfl ?_
        · simp [results, Tryz.results88, go_sem]
          rfl
        · refine ⟨set7 (w.heap.size + 1) (by omega) (ext_trans (ext_alloc _ _) (ext_trans (ext_alloc _ _) (ext_drewN _ _))), ?_⟩
          exact Or.inr ⟨by rw [E.out]; decide, by rw [E.out]⟩
      have em : decide ((1024 : Int) < (v6 : Int)) = false := by simp; omega
      by_cases cs : v0 < v1 + v2 + v4
      · have es : decide ((v0 : Int) < (v1 : Int) + (v2 : Int) + (v4 : Int)) = true := by simp; omega
        have e : er = 5 := by rw [HC.out, if_neg (by omega), if_neg (by omega), if_pos cs]
        clear cm2
        have E := Lib.hid e
        clear e
        go_wp2
        go_quiet (fail)
        go_wp2
        rename_i nq
        refine bodyPost_ret (v := .tuple #[zeroSeven, .int .i64 5]) ?_ rfl ?_
        · simp [results, Tryz.results88, go_sem]
          rfl
        · refine ⟨set7 (w.heap.size + 1) (by omega) (ext_trans (ext_alloc _ _) (ext_trans (ext_alloc _ _) (ext_drewN _ _))), ?_⟩
          exact Or.inr ⟨by rw [E.out]; decide, by rw [E.out]⟩
      have es : decide ((v0 : Int) < (v1 : Int) + (v2 : Int) + (v4 : Int)) = false := by simp; omega
      have e : er = 0 := by rw [HC.out, if_neg (by omega), if_neg (by omega), if_neg cs]
      have E := Lib.hid e
      clear e cm2
      go_wp2
      go_quiet (fail)
      go_wp2
      refine bodyPost_ret (v := .tuple #[sevenV [v0, v1, v2, v3, v4, v5, v6], .int .i64 0]) ?_ rfl ?_
      · simp [results, Tryz.results88, go_sem]
        rfl
      · refine ⟨set7 (w.heap.size + 1) (by omega) (ext_trans (ext_alloc _ _) (ext_trans (ext_alloc _ _) (ext_drewN _ _))), ?_⟩
        exact Or.inl ⟨E.out, rfl⟩
    · skip
      have cm2 : (1024 < v3 ∨ 1024 < v5 ∨ 1024 < v6) ↔ 1024 < v5 := by omega
      by_cases cm : 1024 < v5
      · have em : decide ((1024 : Int) < (v5 : Int)) = true := by simp; omega
        have e : er = 3 := by rw [HC.out, if_neg (by omega), if_pos (by omega)]
        clear cm2
        have E := Lib.hid e
        clear e
        go_wp2
        go_quiet (fail)
        go_wp2
        rename_i nq
        refine bodyPost_ret (v := .tuple #[zeroSeven, .int .i64 3]) ?_ rfl ?_
        · simp [results, Tryz.results88, go_sem]
          rfl
        · refine ⟨set7 (w.heap.size + 1) (by omega) (ext_trans (ext_alloc _ _) (ext_trans (ext_alloc _ _) (ext_drewN _ _))), ?_⟩
          exact Or.inr ⟨by rw [E.out]; decide, by rw [E.out]⟩
      have em : decide ((1024 : Int) < (v5 : Int)) = false := by simp; omega
      by_cases cs : v0 < v1 + v2 + v4
      · have es : decide ((v0 : Int) < (v1 : Int) + (v2 : Int) + (v4 : Int)) = true := by simp; omega
        have e : er = 5 := by rw [HC.out, if_neg (by omega), if_neg (by omega), if_pos cs]
        clear cm2
        have E := Lib.hid e
        clear e
        go_wp2
        go_quiet (fail)
        go_wp2
        rename_i nq
        refine bodyPost_ret (v := .tuple #[zeroSeven, .int .i64 5]) ?_ rfl ?_
        · simp [results, Tryz.results88, go_sem]
          rfl
        · refine ⟨set7 (w.heap.size + 1) (by omega) (ext_trans (ext_alloc _ _) (ext_trans (ext_alloc _ _) (ext_drewN _ _))), ?_⟩
          exact Or.inr ⟨by rw [E.out]; decide, by rw [E.out]⟩
      have es : decide ((v0 : Int) < (v1 : Int) + (v2 : Int) + (v4 : Int)) = false := by simp; omega
      have e : er = 0 := by rw [HC.out, if_neg (by omega), if_neg (by omega), if_neg cs]
      have E := Lib.hid e
      clear e cm2
      go_wp2
      go_quiet (fail)
      go_wp2
      refine bodyPost_ret (v := .tuple #[sevenV [v0, v1, v2, v3, v4, v5, v6], .int .i64 0]) ?_ rfl ?_
      · simp [results, Tryz.results88, go_sem]
        rfl
      · refine ⟨set7 (w.heap.size + 1) (by omega) (ext_trans (ext_alloc _ _) (ext_trans (ext_alloc _ _) (ext_drewN _ _))), ?_⟩
        exact Or.inl ⟨E.out, rfl⟩
  · by_cases o2 : v3 < v6
    · skip
      have cm2 : (1024 < v3 ∨ 1024 < v5 ∨ 1024 < v6) ↔ 1024 < v6 := by omega
      by_cases cm : 1024 < v6
      · have em : decide ((1024 : Int) < (v6 : Int)) = true := by simp; omega
        have e : er = 3 := by rw [HC.out, if_neg (by omega), if_pos (by omega)]
        clear cm2
        have E := Lib.hid e
        clear e
        go_wp2
        go_quiet (fail)
        go_wp2
        rename_i nq
        refine bodyPost_ret (v := .tuple #[zeroSeven, .int .i64 3]) ?_ rfl ?_
        · simp [results, Tryz.results88, go_sem]
          rfl
        · refine ⟨set7 (w.heap.size + 1) (by omega) (ext_trans (ext_alloc _ _) (ext_trans (ext_alloc _ _) (ext_drewN _ _))), ?_⟩
          exact Or.inr ⟨by rw [E.out]; decide, by rw [E.out]⟩
      have em : decide ((1024 : Int) < (v6 : Int)) = false := by simp; omega
      by_cases cs : v0 < v1 + v2 + v4
      · have es : decide ((v0 : Int) < (v1 : Int) + (v2 : Int) + (v4 : Int)) = true := by simp; omega
        have e : er = 5 := by rw [HC.out, if_neg (by omega), if_neg (by omega), if_pos cs]
        clear cm2
        have E := Lib.hid e
        clear e
        go_wp2
        go_quiet (fail)
        go_wp2
        rename_i nq
        refine bodyPost_ret (v := .tuple #[zeroSeven, .int .i64 5]) ?_ rfl ?_
        · simp [results, Tryz.results88, go_sem]
          rfl
        · refine ⟨set7 (w.heap.size + 1) (by omega) (ext_trans (ext_alloc _ _) (ext_trans (ext_alloc _ _) (ext_drewN _ _))), ?_⟩
          exact Or.inr ⟨by rw [E.out]; decide, by rw [E.out]⟩
      have es : decide ((v0 : Int) < (v1 : Int) + (v2 : Int) + (v4 : Int)) = false := by simp; omega
      have e : er = 0 := by rw [HC.out, if_neg (by omega), if_neg (by omega), if_neg cs]
      have E := Lib.hid e
      clear e cm2
      go_wp2
      go_quiet (fail)
      go_wp2
      refine bodyPost_ret (v := .tuple #[sevenV [v0, v1, v2, v3, v4, v5, v6], .int .i64 0]) ?_ rfl ?_
      · simp [results, Tryz.results88, go_sem]
        rfl
      · refine ⟨set7 (w.heap.size + 1) (by omega) (ext_trans (ext_alloc _ _) (ext_trans (ext_alloc _ _) (ext_drewN _ _))), ?_⟩
        exact Or.inl ⟨E.out, rfl⟩
    · skip
      have cm2 : (1024 < v3 ∨ 1024 < v5 ∨ 1024 < v6) ↔ 1024 < v3 := by omega
      by_cases cm : 1024 < v3
      · have em : decide ((1024 : Int) < (v3 : Int)) = true := by simp; omega
        have e : er = 3 := by rw [HC.out, if_neg (by omega), if_pos (by omega)]
        clear cm2
        have E := Lib.hid e
        clear e
        go_wp2
        go_quiet (fail)
        go_wp2
        rename_i nq
        refine bodyPost_ret (v := .tuple #[zeroSeven, .int .i64 3]) ?_ rfl ?_
        · simp [results, Tryz.results88, go_sem]
          rfl
        · refine ⟨set7 (w.heap.size + 1) (by omega) (ext_trans (ext_alloc _ _) (ext_trans (ext_alloc _ _) (ext_drewN _ _))), ?_⟩
          exact Or.inr ⟨by rw [E.out]; decide, by rw [E.out]⟩
      have em : decide ((1024 : Int) < (v3 : Int)) = false := by simp; omega
      by_cases cs : v0 < v1 + v2 + v4
      · have es : decide ((v0 : Int) < (v1 : Int) + (v2 : Int) + (v4 : Int)) = true := by simp; omega
        have e : er = 5 := by rw [HC.out, if_neg (by omega), if_neg (by omega), if_pos cs]
        clear cm2
        have E := Lib.hid e
        clear e
        go_wp2
        go_quiet (fail)
        go_wp2
        rename_i nq
        refine bodyPost_ret (v := .tuple #[zeroSeven, .int .i64 5]) ?_ rfl ?_
        · simp [results, Tryz.results88, go_sem]
          rfl
        · refine ⟨set7 (w.heap.size + 1) (by omega) (ext_trans (ext_alloc _ _) (ext_trans (ext_alloc _ _) (ext_drewN _ _))), ?_⟩
          exact Or.inr ⟨by rw [E.out]; decide, by rw [E.out]⟩
      have es : decide ((v0 : Int) < (v1 : Int) + (v2 : Int) + (v4 : Int)) = false := by simp; omega
      have e : er = 0 := by rw [HC.out, if_neg (by omega), if_neg (by omega), if_neg cs]
      have E := Lib.hid e
      clear e cm2
      go_wp2
      go_quiet (fail)
      go_wp2
      refine bodyPost_ret (v := .tuple #[sevenV [v0, v1, v2, v3, v4, v5, v6], .int .i64 0]) ?_ rfl ?_
      · simp [results, Tryz.results88, go_sem]
        rfl
      · refine ⟨set7 (w.heap.size + 1) (by omega) (ext_trans (ext_alloc _ _) (ext_trans (ext_alloc _ _) (ext_drewN _ _))), ?_⟩
        exact Or.inl ⟨E.out, rfl⟩
end Go.Proofs.YtglhnmbfkbjemaaGreatDoor
