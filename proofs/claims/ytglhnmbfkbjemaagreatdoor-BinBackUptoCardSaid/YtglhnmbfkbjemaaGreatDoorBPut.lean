/- bin.Put, by its contract. -/
import Derived.Test.YtglhnmbfkbjemaaGreatDoorBkI
import Derived.Test.YtglhnmbfkbjemaaGreatDoorRawPut
import Derived.Test.YtglhnmbfkbjemaaGreatDoorNRaw
import Derived.Test.YtglhnmbfkbjemaaGreatDoorBkF
import Derived.Deep.CutRange
namespace Go.Proofs.YtglhnmbfkbjemaaGreatDoor
open Go Go.RowKit Go.Joins
def BPutPost (c : NormC) (w : World) (e : Ending) (w' : World) : Prop :=
  Below w.heap.size w w' ∧ ((mayC c = false ∧ e = .returned (.tuple #[.slice none 0 0, .int .i64 2])) ∨
    (mayC c = true ∧ ∃ v, e = .returned (.tuple #[v, .int .i64 0]) ∧ Row isByte w' w.heap.size 5 v (putB c).length ((putB c).map bv)))
structure BPutF (w0 W1 w : World) (P4 G : Nat) (r : RawC) (m : Nat) (s : Slots) (j : Nat) : Prop where
  box : w.heap[P4]? = some (.cells #[.int .u32 m, .slice s.a1 s.n1 s.c1, .slice s.a2 s.n2 s.c2, .slice s.a3 s.n3 s.c3, .slice s.a4 s.n4 s.c4, .slice s.a5 s.n5 s.c5, .slice s.a6 s.n6 s.c6] 39 (0, 0))
  sees : SeesRaw w s r
  buf : Buf W1.heap.size G w (accB r j)
  bel : Below W1.heap.size W1 w
  bel0 : Below w0.heap.size w0 W1
  lt : P4 < W1.heap.size
  gt : W1.heap.size ≤ G
  tab : Tab w
theorem BPutF.lit {w0 W1 w : World} {P4 G : Nat} {r : RawC} {m : Nat} {s : Slots} {j : Nat} (h : BPutF w0 W1 w P4 G r m s j) (x : Obj) : BPutF w0 W1 (w.alloc x) P4 G r m s j := by
  have hb := ext_alloc w x
  obtain ⟨v, h1, h2⟩ := h.buf
  exact ⟨heap_below h.box hb, h.sees.below hb, ⟨v, heap_below h1 hb, h2.below hb⟩, h.bel.trans (hb.mono h.bel.size), h.bel0, h.lt, h.gt, h.tab.below hb (Nat.le_refl _)⟩
theorem BPutF.next {w0 W1 w w' : World} {P4 G : Nat} {r : RawC} {m : Nat} {s : Slots} {j : Nat} (h : BPutF w0 W1 w P4 G r m s j) (hs : SeesRaw W1 s r) (htab : Tab W1) (l : List UInt8) (hj : j < (chunksB r).length) (hl : (chunksB r).getD j [] = l)
    (hb : Buf W1.heap.size G w' (accB r j ++ l)) (hbel : Below W1.heap.size w w') : BPutF w0 W1 w' P4 G r m s (j + 1) := by
  rw [← accB_step r j l hj hl] at hb
  have hbb := h.bel.trans hbel
  exact ⟨(hbel.block _ h.lt).trans h.box, hs.below hbb, hb, hbb, h.bel0, h.lt, h.gt, htab.below hbb (Nat.le_refl _)⟩
section
variable {P : Program} (ok : Value → Prop) (w : World)
theorem wpList_append_full {ops : Array Oper} {rest : List Oper} {o : Oper} {a : Act} {Q : Exit → Act → World → Prop} (hgd : o.guard = none) (s x : Operand) (t : TypeId)
    (ho : o.op = .call { callee := .builtin .append, args := #[s, x], argTypes := #[t, t] })
    (base : Nat) (e : TypeId) (i : TypeInfo) (z : Value) (bytes : Nat) (ht : P.underlying t = some (.slice e)) (hi : P.info? e = some i) (hz : i.zero = some z)
    (hsize : i.size = 1) (hby : i.bytes = bytes) (hzs : z.cells = #[z]) (hok : ok z)
    (a0 : Option Addr) (n : Nat) (xs : List Value) (hs : a.eval s = .slice a0 n n) (hold : Sees w a0 n n xs) (h0 : 0 < n) (hxo : ∀ u ∈ xs, ok u)
    (ad : Option Addr) (m c : Nat) (news : List Value) (hx : a.eval x = .slice ad m c) (hsee : Sees w ad m c news) (hm : 0 < m) (hoks : ∀ u ∈ news, ok u)
    (h63 : n + m ≤ maxLen) (hbytes : (n + m) * bytes ≤ 140737488355328) (hbase : base ≤ w.heap.size)
    (h : ∀ v' w', Row ok w' base e v' (n + m) (xs ++ news) → Below w.heap.size w w' → wpList P ops Q rest (a.put o.dst v') w') : wpList P ops Q (o :: rest) a w := by
  refine wpList_plain hgd fun K hK => ?_
  obtain ⟨v', w', hr, h2, h3⟩ := run_append_full (P := P) ok w base t o.type e i z bytes ht hi hz hsize hby hzs hok a0 n xs hold h0 hxo ad m c news hsee hm hoks h63 hbytes hbase
  unfold Oper.wp execOp
  simp only [ho, resolve, invoke, builtin, Sem.run_bind, Sem.run_pure, Result.andThen_ok, List.map_toArray, List.map_cons, List.map_nil, hs, hx, hr]
  exact hK _ _ (h v' w' h2 h3)
end
theorem back_delta {B G : Nat} {w w' : World} {v v2 : Value} {n2 : Nat} {xs2 : List Value} {cur2 : List UInt8} (hG : w.heap[G]? = some (.cells #[v] 27 (0, 0))) (hk : KeptT w w') (hbel : Below B w w') (r2 : Row isByte w' B 5 v2 n2 xs2) (hn2 : n2 = cur2.length) (hx2 : xs2 = cur2.map bv) (hg : B ≤ G) :
    Buf B G (w'.setCell ⟨G, 0, .none⟩ v2) cur2 ∧ Below B w (w'.setCell ⟨G, 0, .none⟩ v2) ∧ ∀ (D : Nat) (C : Array Value) (t : TypeId) (fr : Nat × Nat), w.heap[D]? = some (.cells C t fr) → t ≠ 5 → D ≠ G → (w'.setCell ⟨G, 0, .none⟩ v2).heap[D]? = some (.cells C t fr) := by
  have hh2 := hk G _ _ _ hG (by decide)
  subst hn2; subst hx2
  refine ⟨⟨v2, block_setCell hh2 v2, r2.other fun k hk2 => Below.heap_setCell w' ⟨G, 0, .none⟩ v2 k (fun e => (r2.not_own hh2 (by decide)) (by rw [hk2, e]))⟩, hbel.setCell hg v2, fun D C t fr hD ht hDg => (Below.heap_setCell w' ⟨G, 0, .none⟩ v2 D hDg).trans (hk D C t fr hD ht)⟩
theorem raw_gate {c : NormC} (hm : MayC c) (k : Nat) (hk : k < (rawS c).gates.length) : ((rawS c).gates.getD k (0, 0, 0)).2.1 ≤ ((rawS c).gates.getD k (0, 0, 0)).1 ∧ ((rawS c).gates.getD k (0, 0, 0)).2.2 ≤ ((rawS c).gates.getD k (0, 0, 0)).2.1 ∧ ((rawS c).gates.getD k (0, 0, 0)).1 < 4294967296 := by
  have hk' : k < c.gates.length := by have := upFrom_len gateR (1 + c.ins.toNat + c.lats.length) c.gates; show k < _; rw [← this]; exact hk
  have e : (rawS c).gates.getD k (0, 0, 0) = gateR (1 + c.ins.toNat + c.lats.length + k) (c.gates.getD k (0, 0)) := upFrom_at _ _ _ _ _ hk'
  have h1 := hm.gates k hk'
  have h2 := hm.few
  have h3 : c.ins.toNat + c.lats.length + c.gates.length = varsN c := by unfold varsN; omega
  rw [e]
  obtain ⟨v, hv⟩ : ∃ v, v = 1 + c.ins.toNat + c.lats.length + k := ⟨_, rfl⟩
  rw [← hv] at h1 ⊢
  show (c.gates.getD k (0, 0)).1 ≤ 2 * v ∧ (c.gates.getD k (0, 0)).2 ≤ (c.gates.getD k (0, 0)).1 ∧ 2 * v < 4294967296
  omega
theorem raw_lat {c : NormC} (hm : MayC c) (k : Nat) (hk : k < (rawS c).lats.length) : ((rawS c).lats.getD k (0, 0, 0)).2.1 < 4294967296 ∧ ((rawS c).lats.getD k (0, 0, 0)).2.2 < 4294967296 := by
  have hv := valid_of (mayRaw_raw hm)
  have hla := hv.la _ (getD_mem (d := (0, 0, 0)) hk)
  have hmax := hv.max
  obtain ⟨t, ht⟩ : ∃ t, t = (rawS c).lats.getD k (0, 0, 0) := ⟨_, rfl⟩
  rw [← ht] at hla ⊢
  obtain ⟨l1, l2, l3⟩ := hla
  unfold mayReset at l3
  simp at l3
  omega
theorem raw_fit {c : NormC} {s : Slots} {w : World} (hm : MayC c) (h : SeesRaw w s (rawS c)) : s.fit := by
  have hv := valid_of (mayRaw_raw hm)
  have e1 := h.s1.lenMap
  have e2 := h.s2.1
  have e3 := h.s3.lenMap
  have e4 := h.s4.lenMap
  have e5 := h.s5.lenMap
  have e6 := h.s6.1
  have h1 := hv.max
  have h2 := hv.sum
  have h3 := hv.l3
  have h4 := hv.l4
  have h5 := hv.l5
  unfold Slots.fit lenMax
  omega
set_option maxRecDepth 100000 in
set_option maxHeartbeats 12800000 in
theorem bput_any (c : NormC) (s : CSlots) (w : World) (h : SeesCir w s c) (hs : s.small) (hlo : -9223372036854775808 ≤ c.ins) (hhi : c.ins < 9223372036854775808) (hw : Wide c) (htab : Tab w) :
    Calls Tryz.prog 6 #[cirV c.ins s] w (BPutPost c w) := by
  have HRAW := Lib.hid (fun o : Obj => raw3_any c s (w.alloc o) (h.below (ext_alloc _ _)) hs hlo hhi hw)
  have HT := Lib.hid htab
  obtain ⟨i0, hi, hz0, hz1, hz2⟩ := info_parts info_u8
  obtain ⟨b1, k1, d1, b2, k2, d2, b3, k3, d3, b4, k4, d4, b5, k5, d5⟩ := s
  obtain ⟨zi, hzi⟩ : ∃ z, z = c.ins := ⟨_, rfl⟩
  rw [← hzi] at HRAW ⊢
  clear h hs hlo hhi hw htab hzi
  unfold cirV at HRAW ⊢
  simp only at HRAW
  go_enter Tryz.func6, Tryz.ntmps6
  go_wp2_with fail
  refine (HRAW.out _).mono ?_
  rintro e w1 ⟨hb1, hpost⟩
  have HB1 := Lib.hid (ext_behind hb1)
  have HT1 := Lib.hid (HT.out.below HB1.out (Nat.le_refl _))
  clear hb1 HRAW HT
  rcases hpost with ⟨hmay, sr, rfl, hsee, _, _⟩ | ⟨hmay, rfl⟩
  · have HMAY := Lib.hid hmay
    have HM := Lib.hid (mayC_iff.1 hmay)
    have HR := Lib.hid (mayRaw_raw HM.out)
    have hfit := raw_fit HM.out hsee
    have HPUT := Lib.hid (fun W (hb : Below w1.heap.size w1 W) => put_any (rawS c) sr W (hsee.below hb) hfit (HT1.out.below hb (Nat.le_refl _)))
    have HSEE := Lib.hid hsee
    have hl2 := hsee.s2.1
    have hl3 := hsee.s3.lenMap
    have hl4 := hsee.s4.lenMap
    have hl5 := hsee.s5.lenMap
    have hl6 := hsee.s6.1
    obtain ⟨a1, n1, c1, a2, n2, c2, a3, n3, c3, a4, n4, c4, a5, n5, c5, a6, n6, c6⟩ := sr
    simp only at hl2 hl3 hl4 hl5 hl6
    have HL2 := Lib.hid hl2
    have HL3 := Lib.hid hl3
    have HL4 := Lib.hid hl4
    have HL5 := Lib.hid hl5
    have HL6 := Lib.hid hl6
    have HGT := Lib.hid (raw_gate HM.out)
    have HLT := Lib.hid (raw_lat HM.out)
    have HV := Lib.hid (valid_of HR.out)
    have HFULL := Lib.hid (accB_full c)
    obtain ⟨r, hr⟩ : ∃ r, r = rawS c := ⟨_, rfl⟩
    obtain ⟨m, hm⟩ : ∃ m, m = varsN c := ⟨_, rfl⟩
    have hmr : (rawS c).max = varsN c := rfl
    rw [hmr] at HPUT
    rw [← hr] at HPUT HSEE HL2 HL3 HL4 HL5 HL6 HGT HLT HV HR HFULL
    rw [← hm] at HPUT
    rw [← hm]
    clear hmay hsee hfit hl2 hl3 hl4 hl5 hl6 hr hm hmr
    unfold rawV at HPUT ⊢
    simp only at HPUT
    obtain ⟨P4, hP4⟩ : ∃ P, P = w1.heap.size := ⟨_, rfl⟩
    go_wp2_with fail
    rw [← hP4]
    generalize hW : World.alloc _ _ = W2
    have hb2 : Below w1.heap.size w1 W2 := by subst hW; exact ext_alloc _ _
    have hbox2 : W2.heap[P4]? = some (.cells #[.int .u32 m, .slice a1 n1 c1, .slice a2 n2 c2, .slice a3 n3 c3, .slice a4 n4 c4, .slice a5 n5 c5, .slice a6 n6 c6] 39 (0, 0)) := by subst hW; rw [hP4]; exact heap_new _ _ _ rfl
    have HB2 := Lib.hid hb2
    have HBX2 := Lib.hid hbox2
    clear hW hb2 hbox2 hP4
    refine (HPUT.out W2 HB2.out).mono ?_
    rintro e w3 ⟨hb3, hpost⟩
    rcases hpost with ⟨hno, _⟩ | ⟨_, vt, rfl, hrow3⟩
    · rw [HR.out] at hno; cases hno
    obtain ⟨va, vc, rfl⟩ := hrow3.form
    have hsT := (row_sees_slice hrow3).2
    obtain ⟨T, hT⟩ : ∃ T, T = textOf r := ⟨_, rfl⟩
    obtain ⟨f1, f2, f3⟩ := text_first r
    rw [← hT] at f1 f2 f3 hsT
    rw [← hT]
    obtain ⟨tl, htl⟩ : ∃ k, k = T.length := ⟨_, rfl⟩
    rw [← htl] at hsT f3
    rw [← htl]
    have hcnt := chunks_count (r := r) HL2.out HL3.out HL4.out HL5.out HL6.out
    have HCO := Lib.hid hcnt
    have hfew : n2 + n3 + n4 + n5 + n6 ≤ 40000 := by
      have h1 := HV.out.max
      have h2 := HV.out.sum
      have h3 := HV.out.l3
      have h4 := HV.out.l4
      have h5 := HV.out.l5
      have e2 := HL2.out
      have e3 := HL3.out
      have e4 := HL4.out
      have e5 := HL5.out
      have e6 := HL6.out
      omega
    have HLEN : Hid (∀ j, (accB r j).length ≤ 2500000) := fun j => by
      have h1 := accB_len HV.out j
      rw [HCO.out] at h1
      omega
    have hcl := (HLEN.out 0)
    rw [accB_zero] at hcl
    have hcl2 : (binText ++ lineOf (countsOf r)).length = 4 + (lineOf (countsOf r)).length := by rw [List.length_append]; rfl
    have htl9 : tl ≤ 140737488355328 := by
      have h1 := hrow3.own
      have h2 := accT_len HV.out ((bodyLines r).length)
      rw [accT_full r _ (Nat.le_refl _)] at h2
      have h3 := lines_few HV.out
      rw [htl, hT]
      omega
    have HLB := Lib.hid (fun W (hb : Below w3.heap.size w3 W) => lineBytes_any W va tl vc T (hsT.below hb) htl9)
    obtain ⟨q, hq⟩ : ∃ q, q = lineL T := ⟨_, rfl⟩
    rw [← hq] at HLB f1 f2 f3
    obtain ⟨a9, hcut, hs9⟩ := hsT.cut 3 q (by omega) f3
    have hs9' : Sees w3 a9 (q - 3) (vc - 3) ((32 :: lineOf (countsOf r)).map bv) := by
      have e : List.drop 3 (List.take q (List.map bv T)) = (List.drop 3 (List.take q T)).map bv := by rw [List.map_drop, List.map_take]
      rw [e, f2] at hs9
      exact hs9
    have kp := fun (W : World) => run_part (P := Tryz.prog) Tryz.underlying27 size_u8 W va tl vc 3 q 3 (q : Int) rfl rfl (by omega) (by have := hsT.cap; omega)
    rw [hcut] at kp
    have hbelT := ext_trans HB2.out hb3
    have HBX3 := Lib.hid (heap_below HBX2.out hb3)
    have HSEE3 := Lib.hid (HSEE.out.below hbelT)
    have HT3 := Lib.hid (HT1.out.below hbelT (Nat.le_refl _))
    have HB3 := Lib.hid (ext_trans HB1.out hbelT)
    have hP4lt : P4 < w3.heap.size := heap_lt HBX3.out
    have HP4 := Lib.hid hP4lt
    have hq4 : q - 3 = 1 + (lineOf (countsOf r)).length := by omega
    obtain ⟨ql, hql⟩ : ∃ k, k = q - 3 := ⟨_, rfl⟩
    rw [← hql] at kp hs9' hq4
    have hql9 : ql ≤ 2500000 := by omega
    have HS9 := Lib.hid hs9'
    have HQ4 := Lib.hid hq4
    clear hq hql hrow3 hsT hT f1 f2 hs9 hs9' hcut hbelT hb3 HBX2 HSEE HT1 HB2 HB1 HPUT hcl hcl2 htl9 hq4 hP4lt hcnt htl
    have kc := fun (w : World) (C : Array Value) (n c : Nat) => Lib.run_convert_bytes_const (P := Tryz.prog) w 27 5 C n c Tryz.underlying27 Tryz.underlying5
    go_wp2_with fail
    refine (HLB.out _ (ext_alloc _ _)).mono ?_
    generalize hW : World.alloc _ _ = W4
    have hl4 : Sees W4 (some ⟨w3.heap.size, 0, none⟩) 3 3 (([97, 105, 103] : List UInt8).map bv) := by subst hW; exact sees_lit w3 _ _ _ (([97, 105, 103] : List UInt8).map bv) 3 rfl rfl
    have hb4 : Below w3.heap.size w3 W4 := by subst hW; exact ext_alloc _ _
    rintro e w4 ⟨rfl, rfl⟩
    have HL4' := Lib.hid hl4
    have HB4 := Lib.hid hb4
    have HS94 := Lib.hid (HS9.out.below hb4)
    clear hW hl4 hb4 HS9 HLB kc
    go_wp2_with (at_builtin; refine wpList_append_full isByte _ rfl _ _ 27 rfl w3.heap.size 5 i0 (.int .u8 0) 1 Tryz.underlying27 hi hz0 hz1 hz2 rfl isByte_zero (some ⟨w3.heap.size, 0, none⟩) 3 (([97, 105, 103] : List UInt8).map bv) rfl HL4'.out (by omega) (isByte_all _) a9 ql (vc - 3) ((32 :: lineOf (countsOf r)).map bv) rfl HS94.out ?r3 (isByte_all _) ?r4 ?r5 ?r6 ?_)
    case r3 => have := HQ4.out; omega
    case r4 => unfold maxLen; omega
    case r5 => omega
    case r6 => exact HB4.out.size
    intro v5 W5 hrow5 hb5
    obtain ⟨va5, vc5, rfl⟩ := hrow5.form
    obtain ⟨vl5, hvl5⟩ : ∃ k, k = 3 + ql := ⟨_, rfl⟩
    rw [← hvl5] at hrow5 ⊢
    have hrow5' : Row isByte W5 w3.heap.size 5 (.slice va5 vl5 vc5) (accB r 0).length ((accB r 0).map bv) := by
      have e1 : ([97, 105, 103] : List UInt8).map bv ++ (32 :: lineOf (countsOf r)).map bv = (accB r 0).map bv := by rw [accB_zero]; rfl
      have e2 : vl5 = (accB r 0).length := by rw [hvl5, accB_zero, List.length_append, HQ4.out]; show _ = 4 + _; omega
      rw [← e1]
      conv => arg 6; rw [← e2]
      exact hrow5
    have HB5 := Lib.hid (ext_trans HB4.out hb5)
    have HROW5 := Lib.hid hrow5'
    clear hrow5 hrow5' hb5 hvl5 HL4' HB4 HS94
    obtain ⟨G, hG⟩ : ∃ G, G = W5.heap.size := ⟨_, rfl⟩
    go_upto_region 9 with fail
    rw [← hG]
    generalize hW : World.alloc _ _ = W6
    have F : Hid (BPutF w w3 W6 P4 G r m ⟨a1, n1, c1, a2, n2, c2, a3, n3, c3, a4, n4, c4, a5, n5, c5, a6, n6, c6⟩ 0) := by
      have hb6 : Below w3.heap.size w3 W6 := by subst hW; exact ext_trans HB5.out (ext_alloc _ _)
      have hg6 : W6.heap[G]? = some (.cells #[.slice va5 vl5 vc5] 27 (0, 0)) := by subst hW; rw [hG]; exact heap_new _ _ _ rfl
      have hr6 : Row isByte W6 w3.heap.size 5 (.slice va5 vl5 vc5) (accB r 0).length ((accB r 0).map bv) := by subst hW; exact HROW5.out.below (ext_alloc _ _)
      exact ⟨heap_below HBX3.out hb6, HSEE3.out.below hb6, ⟨_, hg6, hr6⟩, hb6, HB3.out, HP4.out, by rw [hG]; exact HB5.out.size, HT3.out.below hb6 (Nat.le_refl _)⟩
    clear hW hG HB5 HROW5 HQ4 HBX3
    have hbox := F.out.box
    have x0 := cell_of_block hbox 0
    have x1 := cell_of_block hbox 1
    have x2 := cell_of_block hbox 2
    have x3 := cell_of_block hbox 3
    have x4 := cell_of_block hbox 4
    have x5 := cell_of_block hbox 5
    have x6 := cell_of_block hbox 6
    clear hbox
    go_wp2_with fail
    clear x0 x1 x2 x3 x4 x5 x6
    go_loopw [44] (fun i wr => ∃ k : Nat, k ≤ n2 ∧ i = .int .i64 k ∧ Hid (BPutF w w3 wr P4 G r m ⟨a1, n1, c1, a2, n2, c2, a3, n3, c3, a4, n4, c4, a5, n5, c5, a6, n6, c6⟩ (k))) (fun i _ => n2 - (intOf i).toNat)
    case atStart => exact ⟨0, Nat.zero_le _, rfl, F.out⟩
    case round =>
      clear F
      obtain ⟨k, hk, rfl, F⟩ := hrel
      by_cases hlt : k < n2
      · obtain ⟨b, off, rfl, hbw⟩ := F.out.sees.s2.addr (show 0 < n2 by omega)
        obtain ⟨hx, hy, hz⟩ := F.out.sees.s2.cells k hlt (0, 0, 0)
        have hln := chunk2 HL2.out k hlt
        have h32 := HLT.out k (by rw [HL2.out]; exact hlt)
        obtain ⟨t, ht⟩ : ∃ t, t = r.lats.getD k (0, 0, 0) := ⟨_, rfl⟩
        rw [← ht] at hx hy hz hln h32
        clear ht
        obtain ⟨x, y, z⟩ := t
        unfold nv32 at hx hy hz
        simp only at h32
        have hj : k < (chunksB r).length := by rw [HCO.out]; omega
        have W1 : IntKind.i64.wrap ((k : Int) + 1) = (k : Int) + 1 := IntWalk.i64_in _ (by omega)
        by_cases hz0 : z = 0
        · subst hz0
          have hln : (chunksB r).getD k [] = lineOf [y] := by rw [hln]; rfl
          have H32 : Hid (∀ x ∈ [y], x < 4294967296) := fun u hu => by simp at hu; omega
          clear h32
          have F1 := Lib.hid ((F.out.lit (.cells #[.int .u32 x, .int .u32 y, .int .u32 0] 55)).lit (.cells #[.int .u32 y] 35))
          have HLN := Lib.hid hln
          clear hln
          go_wp2_with fail
          refine (badd_any w3.heap.size G (accB r (k)) [y] (some ⟨_, 0, .none⟩) 1 1 _ F1.out.buf (sees_at (wr.alloc (.cells #[.int .u32 x, .int .u32 y, .int .u32 0] 55)) 35 (0, 0) #[.int .u32 y] [nv32 y] 1 _ rfl rfl (by simp)) (by omega) (by have := HLEN.out (k); omega) H32.out F1.out.tab F1.out.bel.size F1.out.gt).mono ?_
          rintro e w' ⟨rfl, hbuf, hbel, hkp⟩
          have F2 := Lib.hid (F1.out.next HSEE3.out HT3.out (lineOf [y]) hj HLN.out hbuf hbel)
          clear hbuf hbel hkp F F1 hx hy hz
          go_wp2
          go_roundw
          case rel => exact ⟨k + 1, by omega, by go_num, F2.out⟩
          case measure => simp [intOf]; omega
        · have hln : (chunksB r).getD k [] = lineOf [y, z] := by rw [hln]; simp [blatNums, hz0]
          have ez : ((z : Int) == 0) = false := by simp; omega
          have H32 : Hid (∀ x ∈ [y, z], x < 4294967296) := fun u hu => by simp at hu; omega
          clear hz0 h32
          have F1 := Lib.hid ((F.out.lit (.cells #[.int .u32 x, .int .u32 y, .int .u32 (z : Int)] 55)).lit (.cells #[.int .u32 y, .int .u32 z] 35))
          have HLN := Lib.hid hln
          clear hln
          go_wp2_with fail
          refine (badd_any w3.heap.size G (accB r (k)) [y, z] (some ⟨_, 0, .none⟩) 2 2 _ F1.out.buf (sees_at (wr.alloc (.cells #[.int .u32 x, .int .u32 y, .int .u32 (z : Int)] 55)) 35 (0, 0) #[.int .u32 y, .int .u32 z] [nv32 y, nv32 z] 2 _ rfl rfl (by simp)) (by omega) (by have := HLEN.out (k); omega) H32.out F1.out.tab F1.out.bel.size F1.out.gt).mono ?_
          rintro e w' ⟨rfl, hbuf, hbel, hkp⟩
          have F2 := Lib.hid (F1.out.next HSEE3.out HT3.out (lineOf [y, z]) hj HLN.out hbuf hbel)
          clear hbuf hbel hkp F F1 hx hy hz
          go_wp2
          go_roundw
          case rel => exact ⟨k + 1, by omega, by go_num, F2.out⟩
          case measure => simp [intOf]; omega
      · obtain rfl : n2 = k := by omega
        obtain ⟨V2, hV⟩ : ∃ V, V = wr := ⟨_, rfl⟩
        subst hV
        clear hlt hk
        have hbox := F.out.box
        have x0 := cell_of_block hbox 0
        have x1 := cell_of_block hbox 1
        have x2 := cell_of_block hbox 2
        have x3 := cell_of_block hbox 3
        have x4 := cell_of_block hbox 4
        have x5 := cell_of_block hbox 5
        have x6 := cell_of_block hbox 6
        clear hbox
        have hV2 : G < V2.heap.size := by obtain ⟨v, hv, _⟩ := F.out.buf; exact heap_lt hv
        have HDG : V2.heap.size ≠ G := by omega
        clear hV2
        replace F := Lib.hid (F.out.lit (.cells #[.slice a3 n3 c3, .slice a4 n4 c4, .slice a5 n5 c5] 24))
        have HD := Lib.hid (heap_new V2 (.cells #[.slice a3 n3 c3, .slice a4 n4 c4, .slice a5 n5 c5] 24) V2.heap.size rfl)
        go_wp2
        refine wp_loop_rounds 4 ?_
        rw [rounds_succ]
        go_wp2
        clear x0 x1 x2 x3 x4 x5 x6
        go_loopw [78] (fun i wr => ∃ k : Nat, k ≤ n3 ∧ i = .int .i64 k ∧ Hid (BPutF w w3 wr P4 G r m ⟨a1, n1, c1, a2, n2, c2, a3, n3, c3, a4, n4, c4, a5, n5, c5, a6, n6, c6⟩ (n2 + k)) ∧ Hid (wr.heap[V2.heap.size]? = some (.cells #[.slice a3 n3 c3, .slice a4 n4 c4, .slice a5 n5 c5] 24 (0, 0)))) (fun i _ => n3 - (intOf i).toNat)
        case atStart => exact ⟨0, Nat.zero_le _, rfl, F.out, HD.out⟩
        case round =>
          clear F HD
          obtain ⟨k, hk, rfl, F, HD⟩ := hrel
          by_cases hlt : k < n3
          · obtain ⟨b, off, rfl, hbw⟩ := F.out.sees.s3.addr (show 0 < n3 by omega)
            have hcx := F.out.sees.s3.num k hlt
            obtain ⟨x, hx⟩ : ∃ x, x = r.outs.getD k 0 := ⟨_, rfl⟩
            have hln := chunk3 HL2.out HL3.out k hlt
            have hx32 : x < 4294967296 := by rw [hx]; have h1 := HV.out.o _ (getD_mem (d := 0) (show k < r.outs.length by rw [HL3.out]; exact hlt)); have h2 := HV.out.max; omega
            rw [← hx] at hcx hln
            clear hx
            have hj : n2 + k < (chunksB r).length := by rw [HCO.out]; omega
            have W1 : IntKind.i64.wrap ((k : Int) + 1) = (k : Int) + 1 := IntWalk.i64_in _ (by omega)
            have H32 : Hid (∀ y ∈ [x], y < 4294967296) := fun u hu => by simp at hu; omega
            clear hx32
            have F1 := Lib.hid (F.out.lit (.cells #[.int .u32 x] 35))
            have HD1 := Lib.hid (heap_below HD.out (ext_alloc wr (.cells #[.int .u32 x] 35)))
            have HLN := Lib.hid hln
            clear hln
            go_wp2_with fail
            refine (badd_any w3.heap.size G (accB r (n2 + k)) [x] (some ⟨_, 0, .none⟩) 1 1 _ F1.out.buf (sees_at wr 35 (0, 0) #[.int .u32 x] [nv32 x] 1 _ rfl rfl (by simp)) (by omega) (by have := HLEN.out (n2 + k); omega) H32.out F1.out.tab F1.out.bel.size F1.out.gt).mono ?_
            rintro e w' ⟨rfl, hbuf, hbel, hkp⟩
            have F2 := Lib.hid (F1.out.next HSEE3.out HT3.out (lineOf [x]) hj HLN.out hbuf hbel)
            have HD2 := Lib.hid (hkp _ _ _ _ HD1.out (by decide) HDG)
            clear hbuf hbel hkp F F1 hcx
            go_wp2
            go_roundw
            case rel => exact ⟨k + 1, by omega, by go_num, F2.out, HD2.out⟩
            case measure => simp [intOf]; omega
          · obtain rfl : n3 = k := by omega
            obtain ⟨V3, hV⟩ : ∃ V, V = wr := ⟨_, rfl⟩
            subst hV
            clear hlt hk
            have hbox := F.out.box
            have x0 := cell_of_block hbox 0
            have x1 := cell_of_block hbox 1
            have x2 := cell_of_block hbox 2
            have x3 := cell_of_block hbox 3
            have x4 := cell_of_block hbox 4
            have x5 := cell_of_block hbox 5
            have x6 := cell_of_block hbox 6
            clear hbox
            have hdc0 := cell_of_block HD.out 0
            have hdc1 := cell_of_block HD.out 1
            have hdc2 := cell_of_block HD.out 2
            go_wp2
            rw [rounds_succ]
            go_wp2
            clear hdc0 hdc1 hdc2
            clear x0 x1 x2 x3 x4 x5 x6
            go_loopw [78] (fun i wr => ∃ k : Nat, k ≤ n4 ∧ i = .int .i64 k ∧ Hid (BPutF w w3 wr P4 G r m ⟨a1, n1, c1, a2, n2, c2, a3, n3, c3, a4, n4, c4, a5, n5, c5, a6, n6, c6⟩ (n2 + n3 + k)) ∧ Hid (wr.heap[V2.heap.size]? = some (.cells #[.slice a3 n3 c3, .slice a4 n4 c4, .slice a5 n5 c5] 24 (0, 0)))) (fun i _ => n4 - (intOf i).toNat)
            case atStart => exact ⟨0, Nat.zero_le _, rfl, F.out, HD.out⟩
            case round =>
              clear F HD
              obtain ⟨k, hk, rfl, F, HD⟩ := hrel
              by_cases hlt : k < n4
              · obtain ⟨b, off, rfl, hbw⟩ := F.out.sees.s4.addr (show 0 < n4 by omega)
                have hcx := F.out.sees.s4.num k hlt
                obtain ⟨x, hx⟩ : ∃ x, x = r.bads.getD k 0 := ⟨_, rfl⟩
                have hln := chunk4 HL2.out HL3.out HL4.out k hlt
                have hx32 : x < 4294967296 := by rw [hx]; have h1 := HV.out.b _ (getD_mem (d := 0) (show k < r.bads.length by rw [HL4.out]; exact hlt)); have h2 := HV.out.max; omega
                rw [← hx] at hcx hln
                clear hx
                have hj : n2 + n3 + k < (chunksB r).length := by rw [HCO.out]; omega
                have W1 : IntKind.i64.wrap ((k : Int) + 1) = (k : Int) + 1 := IntWalk.i64_in _ (by omega)
                have H32 : Hid (∀ y ∈ [x], y < 4294967296) := fun u hu => by simp at hu; omega
                clear hx32
                have F1 := Lib.hid (F.out.lit (.cells #[.int .u32 x] 35))
                have HD1 := Lib.hid (heap_below HD.out (ext_alloc wr (.cells #[.int .u32 x] 35)))
                have HLN := Lib.hid hln
                clear hln
                go_wp2_with fail
                refine (badd_any w3.heap.size G (accB r (n2 + n3 + k)) [x] (some ⟨_, 0, .none⟩) 1 1 _ F1.out.buf (sees_at wr 35 (0, 0) #[.int .u32 x] [nv32 x] 1 _ rfl rfl (by simp)) (by omega) (by have := HLEN.out (n2 + n3 + k); omega) H32.out F1.out.tab F1.out.bel.size F1.out.gt).mono ?_
                rintro e w' ⟨rfl, hbuf, hbel, hkp⟩
                have F2 := Lib.hid (F1.out.next HSEE3.out HT3.out (lineOf [x]) hj HLN.out hbuf hbel)
                have HD2 := Lib.hid (hkp _ _ _ _ HD1.out (by decide) HDG)
                clear hbuf hbel hkp F F1 hcx
                go_wp2
                go_roundw
                case rel => exact ⟨k + 1, by omega, by go_num, F2.out, HD2.out⟩
                case measure => simp [intOf]; omega
              · obtain rfl : n4 = k := by omega
                obtain ⟨V4, hV⟩ : ∃ V, V = wr := ⟨_, rfl⟩
                subst hV
                clear hlt hk
                have hbox := F.out.box
                have x0 := cell_of_block hbox 0
                have x1 := cell_of_block hbox 1
                have x2 := cell_of_block hbox 2
                have x3 := cell_of_block hbox 3
                have x4 := cell_of_block hbox 4
                have x5 := cell_of_block hbox 5
                have x6 := cell_of_block hbox 6
                clear hbox
                have hdc0 := cell_of_block HD.out 0
                have hdc1 := cell_of_block HD.out 1
                have hdc2 := cell_of_block HD.out 2
                go_wp2
                rw [rounds_succ]
                go_wp2
                clear hdc0 hdc1 hdc2
                clear x0 x1 x2 x3 x4 x5 x6
                go_loopw [78] (fun i wr => ∃ k : Nat, k ≤ n5 ∧ i = .int .i64 k ∧ Hid (BPutF w w3 wr P4 G r m ⟨a1, n1, c1, a2, n2, c2, a3, n3, c3, a4, n4, c4, a5, n5, c5, a6, n6, c6⟩ (n2 + n3 + n4 + k)) ∧ Hid (wr.heap[V2.heap.size]? = some (.cells #[.slice a3 n3 c3, .slice a4 n4 c4, .slice a5 n5 c5] 24 (0, 0)))) (fun i _ => n5 - (intOf i).toNat)
                case atStart => exact ⟨0, Nat.zero_le _, rfl, F.out, HD.out⟩
                case round =>
                  clear F HD
                  obtain ⟨k, hk, rfl, F, HD⟩ := hrel
                  by_cases hlt : k < n5
                  · obtain ⟨b, off, rfl, hbw⟩ := F.out.sees.s5.addr (show 0 < n5 by omega)
                    have hcx := F.out.sees.s5.num k hlt
                    obtain ⟨x, hx⟩ : ∃ x, x = r.cons.getD k 0 := ⟨_, rfl⟩
                    have hln := chunk5 HL2.out HL3.out HL4.out HL5.out k hlt
                    have hx32 : x < 4294967296 := by rw [hx]; have h1 := HV.out.c _ (getD_mem (d := 0) (show k < r.cons.length by rw [HL5.out]; exact hlt)); have h2 := HV.out.max; omega
                    rw [← hx] at hcx hln
                    clear hx
                    have hj : n2 + n3 + n4 + k < (chunksB r).length := by rw [HCO.out]; omega
                    have W1 : IntKind.i64.wrap ((k : Int) + 1) = (k : Int) + 1 := IntWalk.i64_in _ (by omega)
                    have H32 : Hid (∀ y ∈ [x], y < 4294967296) := fun u hu => by simp at hu; omega
                    clear hx32
                    have F1 := Lib.hid (F.out.lit (.cells #[.int .u32 x] 35))
                    have HD1 := Lib.hid (heap_below HD.out (ext_alloc wr (.cells #[.int .u32 x] 35)))
                    have HLN := Lib.hid hln
                    clear hln
                    go_wp2_with fail
                    refine (badd_any w3.heap.size G (accB r (n2 + n3 + n4 + k)) [x] (some ⟨_, 0, .none⟩) 1 1 _ F1.out.buf (sees_at wr 35 (0, 0) #[.int .u32 x] [nv32 x] 1 _ rfl rfl (by simp)) (by omega) (by have := HLEN.out (n2 + n3 + n4 + k); omega) H32.out F1.out.tab F1.out.bel.size F1.out.gt).mono ?_
                    rintro e w' ⟨rfl, hbuf, hbel, hkp⟩
                    have F2 := Lib.hid (F1.out.next HSEE3.out HT3.out (lineOf [x]) hj HLN.out hbuf hbel)
                    have HD2 := Lib.hid (hkp _ _ _ _ HD1.out (by decide) HDG)
                    clear hbuf hbel hkp F F1 hcx
                    go_wp2
                    go_roundw
                    case rel => exact ⟨k + 1, by omega, by go_num, F2.out, HD2.out⟩
                    case measure => simp [intOf]; omega
                  · obtain rfl : n5 = k := by omega
                    obtain ⟨V5, hV⟩ : ∃ V, V = wr := ⟨_, rfl⟩
                    subst hV
                    clear hlt hk
                    have hbox := F.out.box
                    have x0 := cell_of_block hbox 0
                    have x1 := cell_of_block hbox 1
                    have x2 := cell_of_block hbox 2
                    have x3 := cell_of_block hbox 3
                    have x4 := cell_of_block hbox 4
                    have x5 := cell_of_block hbox 5
                    have x6 := cell_of_block hbox 6
                    clear hbox
                    have hdc0 := cell_of_block HD.out 0
                    have hdc1 := cell_of_block HD.out 1
                    have hdc2 := cell_of_block HD.out 2
                    go_wp2
                    rw [rounds_succ]
                    go_wp2_with fail
                    clear hdc0 hdc1 hdc2 HD
                    clear x0 x1 x2 x3 x4 x5 x6
                    go_loopw [91] (fun i wr => ∃ k : Nat, k ≤ n6 ∧ i = .int .i64 k ∧ Hid (BPutF w w3 wr P4 G r m ⟨a1, n1, c1, a2, n2, c2, a3, n3, c3, a4, n4, c4, a5, n5, c5, a6, n6, c6⟩ (n2 + n3 + n4 + n5 + k))) (fun i _ => n6 - (intOf i).toNat)
                    case atStart => exact ⟨0, Nat.zero_le _, rfl, F.out⟩
                    case round =>
                      clear F
                      obtain ⟨k, hk, rfl, F⟩ := hrel
                      by_cases hlt : k < n6
                      · obtain ⟨b, off, rfl, hbw⟩ := F.out.sees.s6.addr (show 0 < n6 by omega)
                        obtain ⟨hx, hy, hz⟩ := F.out.sees.s6.cells k hlt (0, 0, 0)
                        have hln := chunk6 HL2.out HL3.out HL4.out HL5.out HL6.out k hlt
                        have hgt := HGT.out k (by rw [HL6.out]; exact hlt)
                        obtain ⟨t, ht⟩ : ∃ t, t = r.gates.getD k (0, 0, 0) := ⟨_, rfl⟩
                        rw [← ht] at hx hy hz hln hgt
                        clear ht
                        obtain ⟨x, y, z⟩ := t
                        unfold nv32 at hx hy hz
                        unfold gateB at hln
                        simp only at hgt hln
                        obtain ⟨g1, g2, g3⟩ := hgt
                        have hj : n2 + n3 + n4 + n5 + k < (chunksB r).length := by rw [HCO.out]; omega
                        have W1 : IntKind.i64.wrap ((k : Int) + 1) = (k : Int) + 1 := IntWalk.i64_in _ (by omega)
                        have D1 : IntKind.u32.wrap ((x : Int) - (y : Int)) = ((x - y : Nat) : Int) := by rw [IntKind.wrap_u32]; omega
                        have D2 : IntKind.u32.wrap ((y : Int) - (z : Int)) = ((y - z : Nat) : Int) := by rw [IntKind.wrap_u32]; omega
                        obtain ⟨u1, hu1⟩ : ∃ u, u = x - y := ⟨_, rfl⟩
                        obtain ⟨u2, hu2⟩ : ∃ u, u = y - z := ⟨_, rfl⟩
                        have hu132 : u1 < 4294967296 := by omega
                        have hu232 : u2 < 4294967296 := by omega
                        rw [← hu1] at D1 hln
                        rw [← hu2] at D2 hln
                        clear hu1 hu2 g1 g2 g3
                        have hlen1 := HLEN.out (n2 + n3 + n4 + n5 + k)
                        obtain ⟨cur, hcur⟩ : ∃ x, x = accB r (n2 + n3 + n4 + n5 + k) := ⟨_, rfl⟩
                        rw [← hcur] at hlen1
                        have HCUR := Lib.hid hcur
                        have HLN := Lib.hid hln
                        clear hcur hln
                        have F1 := Lib.hid (F.out.lit (.cells #[.int .u32 x, .int .u32 y, .int .u32 z] 58))
                        have hgb : (wr.alloc (.cells #[.int .u32 x, .int .u32 y, .int .u32 z] 58)).heap[wr.heap.size]? = some (.cells #[.int .u32 x, .int .u32 y, .int .u32 z] 58 (0, 0)) := heap_new _ _ _ rfl
                        have hgG : wr.heap.size ≠ G := by obtain ⟨v, hv, _⟩ := F.out.buf; have := heap_lt hv; omega
                        obtain ⟨GB, hGB⟩ : ∃ g, g = wr.heap.size := ⟨_, rfl⟩
                        rw [← hGB] at hgb hgG
                        go_upto_region 28 with fail
                        rw [← hGB]
                        generalize hW : World.alloc _ _ = X1
                        rw [hW] at F1 hgb
                        clear hW hGB F hx hy hz hbw
                        have hbuf1 := F1.out.buf
                        rw [← HCUR.out] at hbuf1
                        obtain ⟨v1, hv1, hr1⟩ := hbuf1
                        obtain ⟨e1, d1', rfl⟩ := hr1.form
                        have hc1 := bappdelta_any w3.heap.size cur.length u1 hu132 (.slice e1 cur.length d1') (cur.map bv) X1 hr1 F1.out.bel.size (by omega)
                        have HC1 := Lib.hid hc1
                        have z0 := cell_of_block hgb 0
                        have z1 := cell_of_block hgb 1
                        have z2 := cell_of_block hgb 2
                        have y0 := cell_of_block hv1 0
                        have HV1 := Lib.hid hv1
                        have HGB := Lib.hid hgb
                        clear hc1 hr1 hv1 hgb
                        go_wp2_with fail
                        refine HC1.out.mono ?_
                        rintro e Y1 ⟨v2, rfl, hr2, hb2, hk2⟩
                        obtain ⟨e2, d2', rfl⟩ := hr2.form
                        have hbk := back_delta (cur2 := cur ++ encL u1) HV1.out hk2 hb2 hr2 (by simp) (by simp) F1.out.gt
                        have hG2 := hk2 G _ _ _ HV1.out (by decide)
                        have HGB2 := Lib.hid (hbk.2.2 GB _ _ _ HGB.out (by decide) hgG)
                        have HBK := Lib.hid (And.intro hbk.1 hbk.2.1)
                        have y0' := cell_of_block hG2 0
                        have y1' := unfrozen_of_block hG2 0
                        clear hbk hG2 hr2 hb2 hk2 HV1 HGB HC1 z0 z1 z2 y0
                        go_upto_region 29 with fail
                        generalize hW : World.setCell _ _ _ = X2
                        rw [hW] at HGB2 HBK
                        clear hW y0' y1'
                        obtain ⟨hbuf2, hbel2⟩ := HBK.out
                        obtain ⟨v3, hv3, hr3⟩ := hbuf2
                        obtain ⟨e3, d3', rfl⟩ := hr3.form
                        have hsz2 : w3.heap.size ≤ X2.heap.size := Nat.le_trans F1.out.bel.size hbel2.size
                        have hl2' : (cur ++ encL u1).length ≤ 2500005 := by have := encL_len u1; simp; omega
                        have hc2 := bappdelta_any w3.heap.size (cur ++ encL u1).length u2 hu232 (.slice e3 (cur ++ encL u1).length d3') ((cur ++ encL u1).map bv) X2 hr3 hsz2 (by omega)
                        have HBE2 := Lib.hid hbel2
                        have HC2 := Lib.hid hc2
                        have z0 := cell_of_block HGB2.out 0
                        have z1 := cell_of_block HGB2.out 1
                        have z2 := cell_of_block HGB2.out 2
                        have y0 := cell_of_block hv3 0
                        have HV3 := Lib.hid hv3
                        clear hc2 hr3 hv3 hbel2 HBK hl2' hsz2
                        obtain ⟨cl, hcl⟩ : ∃ k, k = (cur ++ encL u1).length := ⟨_, rfl⟩
                        rw [← hcl] at HC2 HV3 y0
                        have HCL := Lib.hid hcl
                        clear hcl
                        go_wp2_with fail
                        refine HC2.out.mono ?_
                        rintro e Y2 ⟨v4, rfl, hr4, hb4, hk4⟩
                        obtain ⟨e4, d4', rfl⟩ := hr4.form
                        have hbk := back_delta (cur2 := cur ++ (encL u1 ++ encL u2)) HV3.out hk4 hb4 hr4 ?hlen4 (by simp) F1.out.gt
                        case hlen4 => rw [HCL.out]; simp; omega
                        have hG4 := hk4 G _ _ _ HV3.out (by decide)
                        have y0' := cell_of_block hG4 0
                        have y1' := unfrozen_of_block hG4 0
                        have HBK2 := Lib.hid (And.intro hbk.1 (HBE2.out.trans hbk.2.1))
                        clear hbk hG4 hr4 hb4 hk4 HV3 HGB2 HC2 z0 z1 z2 y0
                        have HCC := Lib.hid (show accB r (n2 + n3 + n4 + n5 + k) ++ (encL u1 ++ encL u2) = cur ++ (encL u1 ++ encL u2) by rw [HCUR.out])
                        go_wp2
                        go_roundw
                        case rel => exact ⟨k + 1, by omega, by go_num, F1.out.next HSEE3.out HT3.out (encL u1 ++ encL u2) hj HLN.out (by rw [HCC.out]; exact HBK2.out.1) HBK2.out.2⟩
                        case measure => simp [intOf]; omega
                      · obtain rfl : n6 = k := by omega
                        have hfull := HFULL.out (n2 + n3 + n4 + n5 + n6) (by rw [HCO.out]; exact Nat.le_refl _)
                        have hbuf := F.out.buf
                        rw [hfull] at hbuf
                        obtain ⟨vz, hvz, hrz⟩ := hbuf
                        obtain ⟨ez, dz, rfl⟩ := hrz.form
                        have y0 := cell_of_block hvz 0
                        have HRZ := Lib.hid hrz
                        have HLOW := Lib.hid (F.out.bel0.trans (F.out.bel.mono F.out.bel0.size))
                        have HBS := Lib.hid F.out.bel0.size
                        clear hfull hvz hrz F hlt hk
                        go_wp2
                        go_ret2
                        exact ⟨HLOW.out, Or.inr ⟨HMAY.out, _, rfl, HRZ.out.base_le HBS.out⟩⟩
  · unfold zeroRawV
    go_wp2
    go_ret2
    exact ⟨ext_trans HB1.out (ext_alloc _ _), Or.inl ⟨hmay, rfl⟩⟩
end Go.Proofs.YtglhnmbfkbjemaaGreatDoor
