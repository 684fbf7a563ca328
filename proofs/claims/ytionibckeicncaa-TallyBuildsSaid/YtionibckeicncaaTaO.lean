/- (*builder).outputs, by its contract. -/
import Derived.Test.YtionibckeicncaaLib
import Derived.Test.YtionibckeicncaaNBase
import Derived.Test.YtionibckeicncaaCuInts
import Derived.Test.YtionibckeicncaaTaRM
import Derived.Test.YtionibckeicncaaTaP
import Derived.Test.YtionibckeicncaaTaG
import Derived.Test.YtionibckeicncaaTaM
import Derived.Test.YtionibckeicncaaRawMay
import Derived.Test.YtionibckeicncaaRows
import Derived.Test.YtionibckeicncaaShelf
import Derived.BigQuiet
import Derived.Deep.AppendLies
import Derived.Deep.CutRange
import Derived.Deep.QuietTactic
import Derived.Deep.RegionHeld3
import Derived.Deep.RegionLaw
import Derived.Deep.RegionWith
import Derived.KernelRfl
import Derived.Laws.EntriesVeiled
import Derived.Lib.ConvBytes
import Derived.Lib.Hide
import Derived.Lib.SlBytesRow
import Derived.Lib.SlicesCompact
import Derived.Lib.SmallJoins
import Derived.OrdersHeld
import Derived.Shelf.Bytes.SlSmallAll
import Derived.Sort.Statements
import Derived.WalkKit
import Derived.WalkLawsBesides
import Derived.WalkSpells
namespace Go.Proofs.Ytionibckeicncaa
open Go Go.RowKit Go.Joins

def OutPost (N most : Nat) (lits : List Int) (next : Nat) (L : List (List Int)) (w0 : World) (B : Nat) (w : World) (e : Ending) (w' : World) : Prop :=
  ∃ a' c', e = .returned (.slice a' (outsF N most lits next).out.length c') ∧ NewT w' 0 a' (outsF N most lits next).out.length c' (outsF N most lits next).out ∧ TaSt w0 B most (outsF N most lits next).next (L ++ (outsF N most lits next).cls) w' ∧ TaGo B w w'
theorem outsF_small (N most : Nat) (lits : List Int) (next : Nat) (h : lits.length ≤ 1) : outsF N most lits next = ⟨lits.take most, [], next⟩ := by
  cases N with
  | zero => rfl
  | succ n => unfold outsF; rw [if_pos h]
set_option maxRecDepth 100000 in
set_option maxHeartbeats 3200000 in
theorem outputs_small (N : Nat) (w0 w : World) (B most next : Nat) (L : List (List Int)) (lits : List Int) (a : Option Addr) (n c : Nat) (H : TaSt w0 B most next L w) (h : NewT w 0 a n c lits) (hn : n ≤ 1) :
    Calls Try.prog 17 #[.pointer (some ⟨B, 0, none⟩), .slice a n c] w (OutPost N most lits next L w0 B w) := by
  have l1 := h.sees.zlen
  unfold OutPost
  rw [outsF_small N most lits next (by omega)]
  obtain ⟨la, ln, lc, lss, _, hbox, _⟩ := H.has
  have p0 := cell_of_block hbox 0
  obtain ⟨k, hk⟩ : ∃ k, k = min n most := ⟨_, rfl⟩
  obtain ⟨a2, e2, h2⟩ := h.part 0 k (Nat.zero_le _) (by omega)
  rw [Nat.sub_zero, Nat.sub_zero, List.drop_zero] at h2
  rw [Nat.sub_zero, Nat.sub_zero] at e2
  have hcap := h.sees.cap
  have qq := fun W => (run_upto (P := Try.prog) Try.underlying22 size_int W a n c k (k : Int) rfl (by omega)).trans (congrArg (fun v => Result.ok v W) e2)
  have m1 : min (n : Int) (most : Int) = (k : Int) := by omega
  have etake : lits.take k = lits.take most := by
    by_cases e : n ≤ most
    · rw [List.take_of_length_le (by omega), List.take_of_length_le (by omega)]
    · rw [show k = most by omega]
  have elen : (lits.take most).length = k := by rw [List.length_take]; omega
  rw [etake] at h2
  simp only
  rw [elen]
  have d1 : decide ((n : Int) ≤ 1) = true := decide_eq_true (by omega)
  have d2 : decide (n ≤ 1) = true := decide_eq_true hn
  have HST := Lib.hid H
  have HN2 := Lib.hid h2
  clear hbox hk h H hcap etake elen l1 hn h2
  go_enter Try.func17, Try.ntmps17
  go_wp2
  go_ret
  exact ⟨a2, c, rfl, HN2.out, by rw [List.append_nil]; exact HST.out, TaGo.refl _ _⟩
theorem take_lt {l : List Int} {k : Nat} {P : Int → Prop} (h : ∀ x ∈ l, P x) : ∀ x ∈ l.take k, P x := fun x hx => h x (List.mem_of_mem_take hx)
theorem drop_lt {l : List Int} {k : Nat} {P : Int → Prop} (h : ∀ x ∈ l, P x) : ∀ x ∈ l.drop k, P x := fun x hx => h x (List.mem_of_mem_drop hx)
set_option maxRecDepth 100000 in
set_option maxHeartbeats 6400000 in
theorem outputs_step (N : Nat) (w0 : World) (B most : Nat) (hm : most ≤ 4096)
    (IH : ∀ (w : World) (next : Nat) (L : List (List Int)) (lits : List Int) (a : Option Addr) (n c : Nat), TaSt w0 B most next L w → NewT w 0 a n c lits → n ≤ N + 1 → n ≤ 4096 → 1 ≤ next → (∀ x ∈ lits, Lt next x) → (outsF N most lits next).next ≤ 50000000 → L.length + (outsF N most lits next).cls.length ≤ 60000000 →
      Calls Try.prog 17 #[.pointer (some ⟨B, 0, none⟩), .slice a n c] w (OutPost N most lits next L w0 B w))
    (w : World) (next : Nat) (L : List (List Int)) (lits : List Int) (a : Option Addr) (n c : Nat) (H : TaSt w0 B most next L w) (h : NewT w 0 a n c lits) (hN : n ≤ N + 1 + 1) (hn4 : n ≤ 4096) (h1n : 1 ≤ next) (hlt : ∀ x ∈ lits, Lt next x) (hnx : (outsF (N + 1) most lits next).next ≤ 50000000) (hcl : L.length + (outsF (N + 1) most lits next).cls.length ≤ 60000000) (h2 : ¬ n ≤ 1) :
    Calls Try.prog 17 #[.pointer (some ⟨B, 0, none⟩), .slice a n c] w (OutPost (N + 1) most lits next L w0 B w) := by
  have l1 := h.sees.zlen
  obtain ⟨hf, hhf⟩ : ∃ x, x = n / 2 := ⟨_, rfl⟩
  obtain ⟨A, hA⟩ : ∃ A, A = outsF N most (lits.take hf) next := ⟨_, rfl⟩
  obtain ⟨D, hD⟩ : ∃ D, D = outsF N most (lits.drop hf) A.next := ⟨_, rfl⟩
  obtain ⟨m, hmm⟩ : ∃ m, m = min (A.out.length + D.out.length) most := ⟨_, rfl⟩
  have e0 : outsF (N + 1) most lits next = ⟨freshL D.next m, A.cls ++ D.cls ++ mergeC A.out D.out (freshL D.next m), D.next + m⟩ := by
    conv => lhs; unfold outsF
    rw [if_neg (by omega)]
    dsimp only
    rw [l1, ← hhf, ← hA, ← hD, ← hmm]
  unfold OutPost at IH ⊢
  rw [e0] at hnx hcl ⊢
  simp only at hnx hcl ⊢
  rw [fresh_len]
  have lt1 : (lits.take hf).length = hf := by rw [List.length_take]; omega
  have lt2 : (lits.drop hf).length = n - hf := by rw [List.length_drop]; omega
  have la := outsF_len N most (lits.take hf) next (by omega)
  have nA := outsF_next N most (lits.take hf) next (by omega)
  have rA := outsF_lt N most (lits.take hf) next (by omega) h1n (take_lt hlt)
  rw [← hA, lt1] at la
  rw [← hA] at nA rA
  have hltd : ∀ x ∈ lits.drop hf, Lt A.next x := fun x hx => (drop_lt hlt x hx).mono nA
  have ld := outsF_len N most (lits.drop hf) A.next (by omega)
  have nD := outsF_next N most (lits.drop hf) A.next (by omega)
  have rD := outsF_lt N most (lits.drop hf) A.next (by omega) (by omega) hltd
  rw [← hD, lt2] at ld
  rw [← hD] at nD rD
  simp only [List.length_append] at hcl
  obtain ⟨a2, e2, n2⟩ := h.part 0 hf (Nat.zero_le _) (by omega)
  obtain ⟨a3, e3, n3⟩ := h.part hf n (by omega) (Nat.le_refl _)
  rw [Nat.sub_zero, Nat.sub_zero, List.drop_zero] at n2
  rw [Nat.sub_zero, Nat.sub_zero] at e2
  rw [List.take_of_length_le (by omega)] at n3
  have hcap := h.sees.cap
  have qq := fun W => (run_upto (P := Try.prog) Try.underlying22 size_int W a n c hf (hf : Int) rfl (by omega)).trans (congrArg (fun v => Result.ok v W) e2)
  have qr := fun W => (run_from (P := Try.prog) Try.underlying22 size_int W a n c hf (hf : Int) rfl (by omega)).trans (congrArg (fun v => Result.ok v W) e3)
  obtain ⟨n9, hn9⟩ : ∃ x, x = n - hf := ⟨_, rfl⟩
  obtain ⟨c9, hc9⟩ : ∃ x, x = c - hf := ⟨_, rfl⟩
  rw [← hn9, ← hc9] at qr n3
  have HI1 := Lib.hid (fun W (h1 : TaSt w0 B most next L W) (h2 : NewT W 0 a2 hf c (lits.take hf)) => IH W next L (lits.take hf) a2 hf c h1 h2 (by omega) (by omega) h1n (take_lt hlt) (by rw [← hA]; omega) (by rw [← hA]; omega))
  rw [← hA] at HI1
  have HI2 := Lib.hid (fun W (h1 : TaSt w0 B most A.next (L ++ A.cls) W) (h2 : NewT W 0 a3 n9 c9 (lits.drop hf)) => IH W A.next (L ++ A.cls) (lits.drop hf) a3 n9 c9 h1 h2 (by omega) (by omega) (by omega) hltd (by rw [← hD]; omega) (by rw [← hD, List.length_append]; omega))
  rw [← hD] at HI2
  have HMG := Lib.hid (fun W (b1 b2 : Option Addr) (d1 d2 : Nat) (h1 : TaSt w0 B most D.next (L ++ A.cls ++ D.cls) W) (h2 : NewT W 0 b1 A.out.length d1 A.out) (h3 : NewT W 0 b2 D.out.length d2 D.out) => merge_any w0 W B most D.next (L ++ A.cls ++ D.cls) h1 A.out D.out b1 b2 A.out.length d1 D.out.length d2 h2 h3 (by omega) ⟨by omega, by omega, hm⟩ (by omega) (by rw [List.length_append, List.length_append]; omega) (fun x hx => by have := rA.1 x hx; have := this.2; omega) (fun x hx => by have := rD.1 x hx; have := this.2; omega) m hmm)
  obtain ⟨la', ln', lc', lss, _, hbox, _⟩ := H.has
  have p0 : w.cell? ⟨B, 0, none⟩ = some (.int .i64 (most : Int)) := cell_of_block hbox 0
  have HST := Lib.hid H
  have HN2 := Lib.hid n2
  have HN3 := Lib.hid n3
  have HBX := Lib.hid hbox
  have HAP : Hid (L ++ (A.cls ++ D.cls ++ mergeC A.out D.out (freshL D.next m)) = L ++ A.cls ++ D.cls ++ mergeC A.out D.out (freshL D.next m)) := by show _ = _; simp
  rw [HAP.out]
  have D1 : Int.tdiv (n : Int) 2 = (hf : Int) := by rw [hhf]; rfl
  have D2 : IntKind.i64.wrap (hf : Int) = (hf : Int) := IntWalk.i64_in _ (by omega)
  have d1 : decide ((n : Int) ≤ 1) = false := decide_eq_false (by omega)
  have d2 : decide (n ≤ 1) = false := decide_eq_false h2
  clear IH h H hN hn4 h1n hlt hnx hcl h2 l1 hhf hA hD hmm e0 lt1 lt2 la nA rA hltd ld nD rD n2 n3 hcap hn9 hc9 hbox HAP e2 e3 hm
  go_enter Try.func17, Try.ntmps17
  go_upto_region 4 with fail
  refine wp_region_noPanic ?_
  refine wp_region_held (S := fun w' => w'.cell? ⟨B, 0, none⟩ = some (.int .i64 (most : Int))) (by kernel_rfl) ?_
  generalize hYY : ({ w with drawn := w.drawn + 1 } : World) = Y0
  have HY0 : Hid (Below w.heap.size w Y0) := by subst hYY; exact (Below.refl _ _).drew
  have HS0 : Hid (Y0.cell? ⟨B, 0, none⟩ = some (.int .i64 (most : Int))) := cell_below p0 HY0.out
  clear hYY
  have HSTY := Lib.hid (HST.out.below HY0.out)
  have HNY2 := Lib.hid (HN2.out.below HY0.out)
  have HNY3 := Lib.hid (HN3.out.below HY0.out)
  have HBXY := Lib.hid (heap_below HBX.out HY0.out)
  refine wpAnyH_take (i := 0) (v := ?_) (by simp only [List.getElem?_toArray, List.getElem?_cons_zero]; rfl) (by kernel_rfl) (by kernel_rfl) (by kernel_rfl) (fun _ _ _ h => h) (Or.inl ⟨by rfl, ?_⟩) HS0.out ?_
  rotate_left
  · intro w hSw
    (try dsimp only at hSw)
    have q0_ := hSw
    go_simp
    try with_reducible rfl
  try simp only [Act.put, List.setIfInBounds_toArray, List.set_cons_zero, List.set_cons_succ]
  refine wpAnyH_take (i := 1) (v := ?_) (by simp only [List.getElem?_toArray, List.getElem?_cons_zero, List.getElem?_cons_succ]; rfl) (by kernel_rfl) (by kernel_rfl) (by kernel_rfl) (fun _ _ _ h => h) (Or.inl ⟨by rfl, ?_⟩) HS0.out ?_
  rotate_left
  · intro w hSw
    (try dsimp only at hSw)
    have q0_ := hSw
    go_simp
    try with_reducible rfl
  try simp only [Act.put, List.setIfInBounds_toArray, List.set_cons_zero, List.set_cons_succ]
  refine wpAnyH_take (i := 2) (v := ?_) (by simp only [List.getElem?_toArray, List.getElem?_cons_zero, List.getElem?_cons_succ]; rfl) (by kernel_rfl) (by kernel_rfl) (by kernel_rfl) (fun _ _ _ h => h) (Or.inl ⟨by rfl, ?_⟩) HS0.out ?_
  rotate_left
  · intro w hSw
    (try dsimp only at hSw)
    have q0_ := hSw
    go_simp
    try with_reducible rfl
  try simp only [Act.put, List.setIfInBounds_toArray, List.set_cons_zero, List.set_cons_succ]
  refine wpAnyH_take (i := 3) (v := ?_) (by simp only [List.getElem?_toArray, List.getElem?_cons_zero, List.getElem?_cons_succ]; rfl) (by kernel_rfl) (by kernel_rfl) (by kernel_rfl) (fun _ _ _ h => h) (Or.inl ⟨by rfl, ?_⟩) HS0.out ?_
  rotate_left
  · intro w hSw
    (try dsimp only at hSw)
    have q0_ := hSw
    go_simp
    try with_reducible rfl
  try simp only [Act.put, List.setIfInBounds_toArray, List.set_cons_zero, List.set_cons_succ]
  refine wpAnyH_take (i := 4) (v := ?_) (by simp only [List.getElem?_toArray, List.getElem?_cons_zero, List.getElem?_cons_succ]; rfl) (by kernel_rfl) (by kernel_rfl) (by kernel_rfl) (fun _ _ _ h => h) (Or.inl ⟨by rfl, ?_⟩) HS0.out ?_
  rotate_left
  · intro w hSw
    (try dsimp only at hSw)
    have q0_ := hSw
    go_simp
    try with_reducible rfl
  try simp only [Act.put, List.setIfInBounds_toArray, List.set_cons_zero, List.set_cons_succ]
  refine wpAnyH_take (i := 6) (v := ?_) (by simp only [List.getElem?_toArray, List.getElem?_cons_zero, List.getElem?_cons_succ]; rfl) (by kernel_rfl) (by kernel_rfl) (by kernel_rfl) (fun _ _ _ h => h) (Or.inl ⟨by rfl, ?_⟩) HS0.out ?_
  rotate_left
  · intro w hSw
    (try dsimp only at hSw)
    have q0_ := hSw
    go_simp
    try with_reducible rfl
  try simp only [Act.put, List.setIfInBounds_toArray, List.set_cons_zero, List.set_cons_succ]
  refine wpAnyH_take (i := 7) (v := ?_) (by simp only [List.getElem?_toArray, List.getElem?_cons_zero, List.getElem?_cons_succ]; rfl) (by kernel_rfl) (by kernel_rfl) (by kernel_rfl) (fun _ _ _ h => h) (Or.inl ⟨by rfl, ?_⟩) HS0.out ?_
  rotate_left
  · intro w hSw
    (try dsimp only at hSw)
    have q0_ := hSw
    go_simp
    try with_reducible rfl
  try simp only [Act.put, List.setIfInBounds_toArray, List.set_cons_zero, List.set_cons_succ]
  refine wpAnyH_take (i := 8) (v := ?_) (by simp only [List.getElem?_toArray, List.getElem?_cons_zero, List.getElem?_cons_succ]; rfl) (by kernel_rfl) (by kernel_rfl) (by kernel_rfl) (fun _ _ _ h => h) (Or.inl ⟨by rfl, ?_⟩) HS0.out ?_
  rotate_left
  · intro w hSw
    (try dsimp only at hSw)
    have q0_ := hSw
    go_simp
    try with_reducible rfl
  try simp only [Act.put, List.setIfInBounds_toArray, List.set_cons_zero, List.set_cons_succ]
  refine wpAnyH_take (i := 9) (v := ?_) (by simp only [List.getElem?_toArray, List.getElem?_cons_zero, List.getElem?_cons_succ]; rfl) (by kernel_rfl) (by kernel_rfl) (by kernel_rfl) (fun _ _ _ h => h) (Or.inl ⟨by rfl, ?_⟩) HS0.out ?_
  rotate_left
  · intro w hSw
    (try dsimp only at hSw)
    have q0_ := hSw
    go_simp
    try with_reducible rfl
  try simp only [Act.put, List.setIfInBounds_toArray, List.set_cons_zero, List.set_cons_succ]
  refine wpAnyH_ready (rs := [5]) (by kernel_rfl) (by simp) ?_
  refine AllReadyH.cons (by simp only [List.getElem?_toArray, List.getElem?_cons_zero, List.getElem?_cons_succ]; rfl) (fun K hK => ?_) AllReadyH.nil
  go_simp
  refine (HI1.out Y0 HSTY.out HNY2.out).mono ?_
  rintro e W1 ⟨oa, oc, rfl, hnew, hst, hgo⟩
  have HScW1 : Hid (W1.cell? ⟨B, 0, none⟩ = some (.int .i64 (most : Int))) := by
    obtain ⟨_, _, _, _, _, hb, _⟩ := hst.has
    exact cell_of_block hb 0
  have HST1 := Lib.hid hst
  have HO1 := Lib.hid hnew
  have HG1 := Lib.hid hgo
  have HNW3 := Lib.hid (HNY3.out.go hgo HBXY.out)
  clear hnew hst hgo HI1
  refine hK.out _ _ HScW1.out (fun _ => ?_)
  clear hK K
  try simp only [Act.put, List.setIfInBounds_toArray, List.set_cons_zero, List.set_cons_succ]
  refine wpAnyH_ready (rs := [10]) (by kernel_rfl) (by simp) ?_
  refine AllReadyH.cons (by simp only [List.getElem?_toArray, List.getElem?_cons_zero, List.getElem?_cons_succ]; rfl) (fun K hK => ?_) AllReadyH.nil
  go_simp
  refine (HI2.out W1 HST1.out HNW3.out).mono ?_
  rintro e W2 ⟨oa2, oc2, rfl, hnew, hst, hgo⟩
  have HScW2 : Hid (W2.cell? ⟨B, 0, none⟩ = some (.int .i64 (most : Int))) := by
    obtain ⟨_, _, _, _, _, hb, _⟩ := hst.has
    exact cell_of_block hb 0
  have HST2 := Lib.hid hst
  have HO2 := Lib.hid hnew
  have HG2 := Lib.hid (HG1.out.trans hgo)
  have HOW1 : Hid (NewT W2 0 oa A.out.length oc A.out) := by
    obtain ⟨X, hX⟩ := HST1.out.box
    exact HO1.out.go hgo hX
  clear hnew hst hgo HI2
  refine hK.out _ _ HScW2.out (fun _ => ?_)
  clear hK K
  try simp only [Act.put, List.setIfInBounds_toArray, List.set_cons_zero, List.set_cons_succ]
  refine wpAnyH_ready (rs := [11]) (by kernel_rfl) (by simp) ?_
  refine AllReadyH.cons (by simp only [List.getElem?_toArray, List.getElem?_cons_zero, List.getElem?_cons_succ]; rfl) (fun K hK => ?_) AllReadyH.nil
  go_simp
  refine (HMG.out W2 oa oa2 oc oc2 HST2.out HOW1.out HO2.out).mono ?_
  rintro e W3 ⟨ra, rc, rfl, hnew, hst, hgo⟩
  have HScW3 : Hid (W3.cell? ⟨B, 0, none⟩ = some (.int .i64 (most : Int))) := by
    obtain ⟨_, _, _, _, _, hb, _⟩ := hst.has
    exact cell_of_block hb 0
  have HST3 := Lib.hid hst
  have HO3 := Lib.hid hnew
  have HG3 := Lib.hid ((TaGo.below (B := B) HY0.out).trans (HG2.out.trans hgo))
  clear hnew hst hgo HMG
  refine hK.out _ _ HScW3.out (fun _ => ?_)
  clear hK K
  try simp only [Act.put, List.setIfInBounds_toArray, List.set_cons_zero, List.set_cons_succ]
  refine wpAnyH_take (i := 12) (v := ?_) (by simp only [List.getElem?_toArray, List.getElem?_cons_zero, List.getElem?_cons_succ]; rfl) (by kernel_rfl) (by kernel_rfl) (by kernel_rfl) (fun _ _ _ h => h) (Or.inl ⟨by rfl, ?_⟩) HScW3.out ?_
  rotate_left
  · intro w hSw
    (try dsimp only at hSw)
    have q0_ := hSw
    go_simp
    try with_reducible rfl
  try simp only [Act.put, List.setIfInBounds_toArray, List.set_cons_zero, List.set_cons_succ]
  refine wpAnyH_done (by kernel_rfl) ?_ _
  refine NoPanic.normal ?_
  go_wp2
  go_ret
  exact ⟨ra, rc, rfl, HO3.out, HST3.out, HG3.out⟩
theorem outputs_any : ∀ (N : Nat) (w0 : World) (B most : Nat), most ≤ 4096 → ∀ (w : World) (next : Nat) (L : List (List Int)) (lits : List Int) (a : Option Addr) (n c : Nat), TaSt w0 B most next L w → NewT w 0 a n c lits → n ≤ N + 1 → n ≤ 4096 → 1 ≤ next → (∀ x ∈ lits, Lt next x) → (outsF N most lits next).next ≤ 50000000 → L.length + (outsF N most lits next).cls.length ≤ 60000000 →
    Calls Try.prog 17 #[.pointer (some ⟨B, 0, none⟩), .slice a n c] w (OutPost N most lits next L w0 B w)
  | 0, w0, B, most, _, w, next, L, lits, a, n, c, H, h, hN, _, _, _, _, _ => outputs_small 0 w0 w B most next L lits a n c H h (by omega)
  | N + 1, w0, B, most, hm, w, next, L, lits, a, n, c, H, h, hN, hn4, h1n, hlt, hnx, hcl => by
    by_cases h2 : n ≤ 1
    · exact outputs_small (N + 1) w0 w B most next L lits a n c H h h2
    · exact outputs_step N w0 B most hm (outputs_any N w0 B most hm) w next L lits a n c H h hN hn4 h1n hlt hnx hcl h2
end Go.Proofs.Ytionibckeicncaa
