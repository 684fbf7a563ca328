/- The law VcdLoose, but for its last word (lives). -/
import Derived.Test.YtgplkpfdbiapaaaGreatDoorVdRead
import Derived.Test.YtgplkpfdbiapaaaGreatDoorGO
import Derived.Test.YtgplkpfdbiapaaaGreatDoorGI1
import Derived.Test.YtgplkpfdbiapaaaGreatDoorVdLooseX
namespace Go.Proofs.YtgplkpfdbiapaaaGreatDoor
open Go Go.RowKit Go.Joins Go.Shelf Go.Maps

theorem cell_one_newV (w : World) (x : Value) (t : TypeId) : ∀ j u, [x][j]? = some u → (w.alloc (.cells #[x] t)).cell? ((⟨w.heap.size, 0, none⟩ : Addr).add j) = some u := by
  intro j u hj
  match j, hj with
  | 0, hj => simp at hj; subst hj; exact cell_of_block (heap_new w _ _ rfl) 0
theorem gapne {u : UInt8} (h : gapV u = false) (k : UInt8) (hk : gapV k = true) (e : (u.toNat : Int) = (k.toNat : Int)) : False := by
  have : u = k := UInt8.toNat_inj.1 (by omega)
  rw [this, hk] at h
  cases h
set_option maxRecDepth 100000 in
set_option maxHeartbeats 6400000 in
theorem loose_any (w : World) (G : GapEnv w) (GN : NumEnv w) (hlv : ∀ W, Below w.heap.size w W → Calls Tryz.prog 8 #[] W fun e w' => e = .returned (.bool true) ∧ Below W.heap.size W w')
    (b more : List UInt8) (a a' : Option Addr) (n c n' c' : Nat) (h : Sees w a n c (b.map bv)) (h' : Sees w a' n' c' (more.map bv)) (hc : c ≤ maxLen) (hn' : n' ≤ 1048576) :
    Calls Tryz.prog 4 #[.slice a n c, .slice a' n' c'] w fun e w' => e = .returned (.bool true) ∧ Below w.heap.size w w' := by
  obtain ⟨i0, hin, hz0, hz1, hz2⟩ := info_parts info_u8v
  have hl := h.lenMap
  have hl' := h'.lenMap
  have HLV := Lib.hid hlv
  have HS := Lib.hid h
  have HS' := Lib.hid h'
  have HL := Lib.hid hl
  have HL' := Lib.hid hl'
  have HRB := Lib.hid (read_any w G GN b a n c h hc)
  clear hlv h h' hl hl'
  by_cases hbig : 20000 < n
  · have hbz : (20000 : Int) < (n : Int) := by omega
    go_enter Tryz.func4, Tryz.ntmps4
    go_wp2_with (refine (HLV.out _ (Below.refl _ _)).mono ?_; rintro e w1 ⟨rfl, hb⟩)
    go_ret
    exact ⟨rfl, hb⟩
  · have hbz : ¬ ((20000 : Int) < (n : Int)) := by omega
    go_enter Tryz.func4, Tryz.ntmps4
    go_wp2
    go_loopg [5, 6, 8, 9, 22] n (fun g xv av _ _ iv wr => ∃ (i k : Nat) (x : List UInt8), i + g = n ∧ k ≤ i ∧ iv = .int .i64 i ∧ av = .int .i64 k ∧ Hid (LooseAt b more i k x) ∧ Hid (wr.ownsRow w.heap.size 5 1 xv x.length (x.map bv)) ∧ Hid (Below w.heap.size w wr))
    case atStart => exact ⟨0, 0, [], by omega, Nat.le_refl _, rfl, rfl, rfl, ownsN_nil _ _ _ _, Below.refl _ _⟩
    case round =>
      obtain ⟨i, k, x, hig, hki, rfl, rfl, hx, hrow, hB⟩ := hrel
      have HX := Lib.hid hx.out
      have HB := Lib.hid hB.out
      have hxl := loose_le hx.out
      rw [HL.out] at hxl
      have HROW := Lib.hid hrow.out
      obtain ⟨xa, xc, rfl⟩ := ownsN_form hrow.out
      obtain ⟨xn, hxn⟩ : ∃ xn, xn = x.length := ⟨_, rfl⟩
      rw [← hxn] at HROW hxl ⊢
      have HXN := Lib.hid hxn
      clear hx hrow hB hxn
      cases gk with
      | zero =>
        obtain rfl : i = n := by omega
        have hfin : x = looseL more 0 b := by
          have := HX.out
          unfold LooseAt at this
          rw [List.drop_eq_nil_of_le (by rw [HL.out]; exact Nat.le_refl _), looseL, List.append_nil] at this
          exact this
        obtain ⟨V, hV⟩ : ∃ V, V = readV b := ⟨_, rfl⟩
        have hsm := read_small b
        rw [← hV] at hsm
        have hbl : b.length ≤ 20000 := by have := HL.out; omega
        have hx40 : x.length ≤ 40000 := by have := HXN.out; omega
        have hv2 : readV (x ++ [32]) = V := by
          rw [hV, hfin]
          exact read_words _ _ (words_loose more b) (by have := loose_len more b 0; rw [List.length_append]; simp; omega) (by omega)
        have hv3 : V.2.2 = 0 → readV ((x ++ [32]) ++ kTail) = V := fun h0 => by
          rw [read_comment x (by rw [hv2]; exact h0) (by omega), hv2]
        have HV2 := Lib.hid hv2
        have HV3 := Lib.hid hv3
        have hr1 := read_any wr (G.below HB.out) (GN.below HB.out) b a i c (HS.out.below HB.out) hc
        unfold ReadPost at hr1
        rw [← hV] at hr1
        have HR1 := Lib.hid hr1
        obtain ⟨ez, hez⟩ : ∃ ez : Int, ez = (V.2.2 : Int) := ⟨_, rfl⟩
        have HEZ := Lib.hid hez
        have HSM := Lib.hid hsm
        obtain ⟨xs, hxs⟩ : ∃ xs, xs = x.map bv := ⟨_, rfl⟩
        have HXS := Lib.hid hxs
        obtain ⟨N, hN⟩ : ∃ N, N = V.1.length := ⟨_, rfl⟩
        have HN := Lib.hid hN
        obtain ⟨M, hM⟩ : ∃ M, M = V.2.1.length := ⟨_, rfl⟩
        have HM := Lib.hid hM
        have hxl40 : xn ≤ 40000 := by omega
        rw [← hxs] at HROW
        rw [← hez, ← hN] at HR1
        have hself : (ez != ez) = false := by simp
        clear hfin hV hsm hbl hx40 hv2 hv3 hr1 hez hxs hN hM hxl hig hki HX HRB
        go_wp2_with fail
        refine HR1.out.mono ?_
        rintro e w3 ⟨hb3, tv, vv, ss, rfl, ht3, hw3⟩
        obtain ⟨ta, tc, rfl⟩ := ht3.form
        obtain ⟨va, vc, rfl⟩ := ownsN_form hw3.row
        rw [← HM.out]
        have HT3 := Lib.hid ht3
        have HW3 := Lib.hid hw3
        have HB3 : Hid (Below w.heap.size w w3) := HB.out.trans (hb3.mono HB.out.size)
        have hsz3 := hb3.size
        have HX3 : Hid ((w3.alloc (.cells #[.int .u8 32] 5)).ownsRow w.heap.size 5 1 (.slice xa xn xc) xn xs) := ownsN_below (ownsN_below HROW.out hb3) (ext_alloc _ _)
        have HOB : Hid (∀ q, (Value.slice xa xn xc).ownBlock = some q → q < wr.heap.size) := fun q hq => (HROW.out.lt q hq).2
        have hnw := cell_one_newV w3 (.int .u8 32) 5
        have HNW := Lib.hid hnw
        clear ht3 hw3 hb3 hnw HR1 HROW
        go_wp2_with (at_builtin; refine wpList_append_keep rfl _ _ 27 rfl w.heap.size 5 i0 (.int .u8 0) 1 Tryz.underlying27 hin hz0 hz1 hz2 rfl (.slice xa xn xc) xn xs rfl HX3.out ⟨w3.heap.size, 0, none⟩ 1 1 [.int .u8 32] rfl rfl HNW.out (by simp [Value.oneCell']) ?k1 ?k2 ?k3 ?_)
        case k1 => unfold maxLen; omega
        case k2 => omega
        case k3 => exact Nat.le_trans HB3.out.size (ext_alloc w3 _).size
        intro v5 w5 hr5 hg5 hx5
        obtain ⟨a5, c5, rfl, hc5, hs5⟩ := Sees.owned hr5
        have hs5' : Sees w5 a5 (xn + 1) c5 ((x ++ [32]).map bv) := by
          rw [show List.map bv (x ++ [32]) = xs ++ [.int .u8 32] by rw [HXS.out]; simp [bv]]
          exact hs5
        have hB5 : Below w.heap.size w w5 := (HB3.out.trans ((ext_alloc _ _).mono HB3.out.size)).grown hg5 (Nat.le_trans HB3.out.size (ext_alloc w3 _).size) (fun q hq => (HX3.out.lt q hq).1)
        have hT5 := (HT3.out.onward (ext_alloc w3 (.cells #[.int .u8 32] 5))).aside hg5 HOB.out
        have hW5 := (HW3.out.below (ext_alloc w3 (.cells #[.int .u8 32] 5))).aside hg5 HOB.out
        have hr6 := read_any w5 (G.below hB5) (GN.below hB5) (x ++ [32]) a5 (xn + 1) c5 hs5' hc5
        unfold ReadPost at hr6
        rw [HV2.out] at hr6
        rw [← HEZ.out, ← HN.out] at hr6
        have HR6 := Lib.hid hr6
        have HB5 := Lib.hid hB5
        have HT5 := Lib.hid hT5
        have HW5 := Lib.hid hW5
        have HX5 := Lib.hid hx5
        clear hr5 hg5 hx5 hs5 hs5' hB5 hT5 hW5 hr6 HT3 HW3 HX3 HNW
        go_wp2_with fail
        refine HR6.out.mono ?_
        rintro e w6 ⟨hb6, tv6, vv6, ss6, rfl, ht6, hw6⟩
        obtain ⟨ta6, tc6, rfl⟩ := ht6.form
        obtain ⟨va6, vc6, rfl⟩ := ownsN_form hw6.row
        rw [← HM.out]
        have hT6 := HT5.out.onward hb6
        have hW6 := HW5.out.below hb6
        have HX6 : Hid (w6.ownsRow w.heap.size 5 1 (.slice xa xn xc) xn xs) := ownsN_below HX5.out hb6
        have HB6 : Hid (Below w.heap.size w w6) := HB5.out.trans (hb6.mono HB5.out.size)
        have s1 : Sees w6 ta N tc (V.1.map nv32) := by obtain ⟨_, _, e, _, h⟩ := hT6.sees; cases e; exact h
        have s2 : Sees w6 ta6 N tc6 (V.1.map nv32) := by obtain ⟨_, _, e, _, h⟩ := ht6.sees; cases e; exact h
        have hq := eqnums_any V.1 V.1 ta ta6 N tc N tc6 w6 s1 s2 (by have := HSM.out.1; have := HN.out; omega)
        rw [beq_self_eq_true] at hq
        have HQ := Lib.hid hq
        have HT6 := Lib.hid hT6
        have HW6 := Lib.hid hW6
        have HW6b := Lib.hid hw6
        have hsz6 := hb6.size
        clear hb6 ht6 hw6 hT6 hW6 s1 s2 hq HT5 HW5 HX5 HR6
        go_wp2_with fail
        refine HQ.out.mono ?_
        rintro e w7 ⟨rfl, q7, rfl⟩
        have hse7 := same_yes (w6.drewN q7) wr.heap.size w5.heap.size M M vc vc6 va va6 ss ss6 V.2.1 (by rw [HM.out]; exact HW6.out.below (ext_drewN _ _)) (by rw [HM.out]; exact HW6b.out.below (ext_drewN _ _)) HM.out HM.out (by have := HSM.out.2; omega)
        have HSE7 := Lib.hid hse7
        clear hse7 HQ
        go_wp2_with fail
        refine HSE7.out.mono ?_
        rintro e w8 ⟨rfl, hb8⟩
        have hb68 : Below w6.heap.size w6 w8 := (ext_drewN w6 q7).trans (hb8.mono (ext_drewN w6 q7).size)
        have HT8 := Lib.hid (HT6.out.onward hb68)
        have HW8 := Lib.hid (HW6.out.below hb68)
        have HX8 := Lib.hid (ownsN_below HX6.out hb68)
        have HB8 : Hid (Below w.heap.size w w8) := HB6.out.trans (hb68.mono HB6.out.size)
        have hsz8 := hb68.size
        clear hb8 hb68 HSE7 HT6 HW6 HW6b HX6
        by_cases he : ez = 0
        · subst he
          have hv3 := HV3.out (by have := HEZ.out; omega)
          have HV3' := Lib.hid hv3
          have hnw8 := cell_one_newV w8 (.int .u8 32) 5
          have HNW8 := Lib.hid hnw8
          have HX9 : Hid ((w8.alloc (.cells #[.int .u8 32] 5)).ownsRow w.heap.size 5 1 (.slice xa xn xc) xn xs) := ownsN_below HX8.out (ext_alloc _ _)
          clear hv3 hnw8 HX8 hself
          go_wp2_with (at_builtin; refine wpList_append_own_at _ rfl _ _ 27 rfl w.heap.size 5 i0 (.int .u8 0) 1 1 Tryz.underlying27 hin hz0 hz1 hz2 rfl (by decide) (.slice xa xn xc) xn xs rfl HX9.out ⟨w8.heap.size, 0, none⟩ 1 1 [.int .u8 32] rfl rfl HNW8.out (by simp [Value.oneCell']) ?l1 ?l2 ?l3 ?_)
          case l1 => unfold maxLen; omega
          case l2 => omega
          case l3 => exact Nat.le_trans HB8.out.size (ext_alloc w8 _).size
          intro v9 w9 hr9 hg9 _ ho9
          have hB9 : Below w.heap.size w w9 := (HB8.out.trans ((ext_alloc _ _).mono HB8.out.size)).grown hg9 (Nat.le_trans HB8.out.size (ext_alloc w8 _).size) (fun q hq => (HX9.out.lt q hq).1)
          have hM9 : MidSame wr.heap.size w8 w9 := ((MidSame.refl _ _).below (ext_alloc w8 (.cells #[.int .u8 32] 5)) (Nat.le_refl _)).grown hg9 (ext_alloc w8 _).size (fun q hq => Or.inl (HOB.out q hq))
          have ho10 : ∀ q, v9.ownBlock = some q → q < wr.heap.size ∨ w8.heap.size ≤ q := fun q hq => by
            rcases ho9 with e | e
            · exact Or.inl (HOB.out q (by rw [← e]; exact hq))
            · rw [e] at hq
              cases hq
              exact Or.inr (by omega)
          have hlt9 : ∀ q, v9.ownBlock = some q → w.heap.size ≤ q := fun q hq => (hr9.lt q hq).1
          have hs9 : w8.heap.size ≤ w9.heap.size := Nat.le_trans (ext_alloc w8 (.cells #[.int .u8 32] 5)).size hg9.size
          have HR9 := Lib.hid (Row.ofOwnsB hr9)
          have HM9 := Lib.hid hM9
          have HO10 := Lib.hid ho10
          have HLT9 := Lib.hid hlt9
          have HB9 := Lib.hid hB9
          obtain ⟨KB, hKB⟩ : ∃ KB : ByteArray, KB = { data := #[36, 99, 111, 109, 109, 101, 110, 116, 32, 119, 104, 97, 116, 32, 36, 101, 110, 100] } := ⟨_, rfl⟩
          have HKC : Hid (Lib.strCells KB = kTail.map bv) := by rw [hKB]; exact kTail_cells
          have hks : KB.size = 18 := by rw [hKB]; rfl
          rw [← hKB]
          obtain ⟨va9, vc9, rfl⟩ := ownsN_form hr9
          clear hr9 hg9 ho9 hM9 ho10 hlt9 hB9 hKB HX9 HNW8
          go_wp2_with (at_builtin; refine wpList_append_row_string AnyB _ rfl _ _ 27 9 rfl w.heap.size 5 i0 Tryz.underlying27 Tryz.underlying9 hin hz0 hz1 hz2 trivial _ _ _ rfl HR9.out KB rfl (fun _ _ => trivial) ?m1 ?m2 HB9.out.size ?_)
          case m1 => unfold maxLen; omega
          case m2 => omega
          intro v10 w10 hr10 hg10 _
          obtain ⟨a10, c10, rfl, hc10, hs10⟩ := hr10.sees
          have hs10' : Sees w10 a10 (xn + 1 + 18) c10 (((x ++ [32]) ++ kTail).map bv) := by
            rw [show List.map bv ((x ++ [32]) ++ kTail) = xs ++ .int .u8 32 :: kTail.map bv by rw [HXS.out]; simp [bv], ← HKC.out]
            exact hs10
          have hB10 : Below w.heap.size w w10 := HB9.out.grown hg10 HB9.out.size HLT9.out
          have hM10 : MidSame wr.heap.size w8 w10 := HM9.out.grown hg10 hs9 HO10.out
          have hT10 := HT8.out.mid hM10
          have hW10 := HW8.out.mid hM10
          have hr11 := read_any w10 (G.below hB10) (GN.below hB10) ((x ++ [32]) ++ kTail) a10 (xn + 1 + 18) c10 hs10' hc10
          unfold ReadPost at hr11
          rw [HV3'.out] at hr11
          rw [← HEZ.out, ← HN.out] at hr11
          have HR11 := Lib.hid hr11
          have HB10 := Lib.hid hB10
          have HT10 := Lib.hid hT10
          have HW10 := Lib.hid hW10
          clear hr10 hg10 hs10 hs10' hB10 hM10 hT10 hW10 hr11 HM9 HR9 HO10 HLT9 HB9 hks HKC HT8 HW8
          go_wp2_with fail
          refine HR11.out.mono ?_
          rintro e w11 ⟨hb11, tv11, vv11, ss11, rfl, ht11, hw11⟩
          obtain ⟨ta11, tc11, rfl⟩ := ht11.form
          obtain ⟨va11, vc11, rfl⟩ := ownsN_form hw11.row
          rw [← HM.out]
          have hT11 := HT10.out.onward hb11
          have hW11 := HW10.out.below hb11
          have HB11 : Hid (Below w.heap.size w w11) := HB10.out.trans (hb11.mono HB10.out.size)
          have s3 : Sees w11 ta N tc (V.1.map nv32) := by obtain ⟨_, _, e, _, h⟩ := hT11.sees; cases e; exact h
          have s4 : Sees w11 ta11 N tc11 (V.1.map nv32) := by obtain ⟨_, _, e, _, h⟩ := ht11.sees; cases e; exact h
          have hq2 := eqnums_any V.1 V.1 ta ta11 N tc N tc11 w11 s3 s4 (by have := HSM.out.1; have := HN.out; omega)
          rw [beq_self_eq_true] at hq2
          have HQ2 := Lib.hid hq2
          have HW11 := Lib.hid hW11
          have HW11b := Lib.hid hw11
          clear hb11 ht11 hw11 hT11 hW11 s3 s4 hq2 HT10 HW10 HR11
          go_wp2_with fail
          refine HQ2.out.mono ?_
          rintro e w12 ⟨rfl, q12, rfl⟩
          have hse12 := same_yes (w11.drewN q12) wr.heap.size w10.heap.size M M vc vc11 va va11 ss ss11 V.2.1 (by rw [HM.out]; exact HW11.out.below (ext_drewN _ _)) (by rw [HM.out]; exact HW11b.out.below (ext_drewN _ _)) HM.out HM.out (by have := HSM.out.2; omega)
          have HSE12 := Lib.hid hse12
          clear hse12 HQ2
          go_wp2_with fail
          refine HSE12.out.mono ?_
          rintro e w13 ⟨rfl, hb13⟩
          have HB13 : Hid (Below w.heap.size w w13) := HB11.out.trans (((ext_drewN w11 q12).trans (hb13.mono (ext_drewN w11 q12).size)).mono HB11.out.size)
          clear hb13 HSE12 HW11 HW11b
          go_wp2_with (go_at_call 8; refine (HLV.out _ HB13.out).mono ?_; rintro e w14 ⟨rfl, hb14⟩)
          go_ret
          exact ⟨rfl, HB13.out.trans (hb14.mono HB13.out.size)⟩
        · have hez1 : (ez != 0) = true := by simpa using he
          go_wp2_with (go_at_call 8; refine (HLV.out _ HB8.out).mono ?_; rintro e w9 ⟨rfl, hb9⟩)
          go_ret
          exact ⟨rfl, HB8.out.trans (hb9.mono HB8.out.size)⟩
      | succ g =>
        have hin2 : i < n := by omega
        have hiz : (i : Int) < (n : Int) := by omega
        have hseeb := HS.out.below HB.out
        obtain ⟨bb, bo, rfl, _⟩ := hseeb.addr (by omega)
        have hcx := hseeb.byte i hin2
        obtain ⟨u, hu⟩ : ∃ u, u = b.getD i 0 := ⟨_, rfl⟩
        rw [← hu] at hcx
        have HU := Lib.hid hu
        obtain ⟨uz, huz⟩ : ∃ uz : Int, uz = (u.toNat : Int) := ⟨_, rfl⟩
        rw [← huz] at hcx
        have HUZ := Lib.hid huz
        have hrow1 := ownsN_below HROW.out (ext_alloc wr (.cells #[.int .u8 uz] 5))
        have HR1 := Lib.hid hrow1
        have hnw := cell_one_newV wr (.int .u8 uz) 5
        have HNW := Lib.hid hnw
        have W1 : IntKind.i64.wrap ((i : Int) + 1) = ((i + 1 : Nat) : Int) := by rw [IntWalk.i64_in _ (by omega)]; omega
        have W2 : IntKind.i64.wrap ((k : Int) + 1) = ((k + 1 : Nat) : Int) := by rw [IntWalk.i64_in _ (by omega)]; omega
        clear hseeb hu hrow1 hnw huz
        go_wp2_with (at_builtin; refine wpList_append_own_at _ rfl _ _ 27 rfl w.heap.size 5 i0 (.int .u8 0) 1 1 Tryz.underlying27 hin hz0 hz1 hz2 rfl (by decide) (.slice xa xn xc) xn (x.map bv) rfl HR1.out ⟨wr.heap.size, 0, none⟩ 1 1 [.int .u8 uz] rfl rfl HNW.out (by simp [Value.oneCell']) ?a1 ?a2 ?a3 ?_)
        case a1 => unfold maxLen; omega
        case a2 => omega
        case a3 => exact Nat.le_trans HB.out.size (ext_alloc wr _).size
        intro v2 w2 hr2 hg2 _ _
        have HR2 : Hid (w2.ownsRow w.heap.size 5 1 v2 (x ++ [u]).length ((x ++ [u]).map bv)) := by
          have := hr2
          rw [HXN.out] at this
          unfold Hid
          rw [List.length_append, List.length_singleton, List.map_append, show [u].map bv = [.int .u8 uz] by rw [HUZ.out]; rfl]
          exact this
        have HB2 : Hid (Below w.heap.size w w2) := (HB.out.trans ((ext_alloc _ _).mono HB.out.size)).grown hg2 (Nat.le_trans HB.out.size (ext_alloc wr _).size) (fun q hq => (HR1.out.lt q hq).1)
        obtain ⟨xa2, xc2, rfl⟩ := ownsN_form hr2
        clear hr2 hg2 HR1 HNW HROW
        by_cases hg : gapV u = true
        · have HG := Lib.hid hg
          have HX2 := Lib.hid (loose_gap HX.out (by rw [HL.out]; exact hin2) (by rw [← HU.out]; exact hg))
          rw [← HU.out] at HX2
          have hgc := gap_cases hg
          have hkn2 : k < n' ∨ ¬ k < n' := Nat.lt_or_ge k n' |>.imp id (fun h => by omega)
          obtain ⟨kz, hkz⟩ : ∃ kz : Nat, kz = (more.getD k 0).toNat := ⟨_, rfl⟩
          have hk256 : kz < 256 := by rw [hkz]; exact (more.getD k 0).toNat_lt
          obtain ⟨gz, hgz⟩ : ∃ gz : Int, gz = ((gapOf more k).toNat : Int) := ⟨_, rfl⟩
          have hb4 : ([Value.int .u8 32, .int .u8 9, .int .u8 10, .int .u8 13] : List Value)[kz % 4]? = some (.int .u8 gz) := by
            have := gap4 (kz % 4) (Nat.mod_lt _ (by omega))
            rw [hgz]
            unfold gapOf
            rw [← hkz]
            simpa [bv] using this
          have hrow3 := ownsN_below (ownsN_below HR2.out (ext_alloc w2 (.cells #[.int .u8 32, .int .u8 9, .int .u8 10, .int .u8 13] 5))) (ext_alloc _ (.cells #[.int .u8 gz] 5))
          have HXN2 : Hid (xn + 1 = (x ++ [u]).length) := by
            have := HXN.out
            unfold Hid
            rw [List.length_append, List.length_singleton, ← this]
          rw [← HXN2.out] at hrow3
          have HR3 := Lib.hid hrow3
          have hnw3 := cell_one_newV (w2.alloc (.cells #[.int .u8 32, .int .u8 9, .int .u8 10, .int .u8 13] 5)) (.int .u8 gz) 5
          rw [show (w2.alloc (.cells #[.int .u8 32, .int .u8 9, .int .u8 10, .int .u8 13] 5)).heap.size = w2.heap.size + 1 from Array.size_push _] at hnw3
          have HNW3 := Lib.hid hnw3
          have HB3 : Hid (Below w.heap.size w ((w2.alloc (.cells #[.int .u8 32, .int .u8 9, .int .u8 10, .int .u8 13] 5)).alloc (.cells #[.int .u8 gz] 5))) :=
            (HB2.out.trans ((ext_alloc _ _).mono HB2.out.size)).trans ((ext_alloc _ _).mono (Nat.le_trans HB2.out.size (ext_alloc _ _).size))
          have HGZ := Lib.hid hgz
          have HKZ := Lib.hid hkz
          have huz4 : uz = 32 ∨ uz = 9 ∨ uz = 10 ∨ uz = 13 := by
            rcases hgc with e | e | e | e
            · exact Or.inl (by rw [HUZ.out, e]; rfl)
            · exact Or.inr (Or.inl (by rw [HUZ.out, e]; rfl))
            · exact Or.inr (Or.inr (Or.inl (by rw [HUZ.out, e]; rfl)))
            · exact Or.inr (Or.inr (Or.inr (by rw [HUZ.out, e]; rfl)))
          clear hg hgc hkz hgz hrow3 hnw3
          rcases hkn2 with hk2 | hk2
          · have hk2z : (k : Int) < (n' : Int) := by omega
            have hsee' := HS'.out.below HB2.out
            obtain ⟨bb', bo', rfl, _⟩ := hsee'.addr (by omega)
            have hcx' := hsee'.byte k hk2
            rw [← HKZ.out] at hcx'
            clear hsee'
            rcases huz4 with rfl | rfl | rfl | rfl
            all_goals
              go_upto_region 13 with fail
              go_wp2_with (at_builtin; refine wpList_append_own_at _ rfl _ _ 27 rfl w.heap.size 5 i0 (.int .u8 0) 1 1 Tryz.underlying27 hin hz0 hz1 hz2 rfl (by decide) (.slice xa2 (xn + 1) xc2) (xn + 1) ((x ++ [u]).map bv) rfl HR3.out ⟨w2.heap.size + 1, 0, none⟩ 1 1 [.int .u8 gz] rfl rfl HNW3.out (by simp [Value.oneCell']) ?c1 ?c2 ?c3 ?_)
              case c1 => unfold maxLen; omega
              case c2 => omega
              case c3 => exact Nat.le_trans HB2.out.size (Nat.le_trans (ext_alloc w2 (.cells #[.int .u8 32, .int .u8 9, .int .u8 10, .int .u8 13] 5)).size (ext_alloc _ _).size)
              intro v5 w5 hr5 hg5 _ _
              have HR5 : Hid (w5.ownsRow w.heap.size 5 1 v5 ((x ++ [u]) ++ [gapOf more k]).length (((x ++ [u]) ++ [gapOf more k]).map bv)) := by
                have := hr5
                unfold Hid
                rw [List.length_append, List.length_singleton, ← HXN2.out, show ((x ++ [u]) ++ [gapOf more k]).map bv = x.map bv ++ [bv u, .int .u8 gz] by rw [HGZ.out]; simp [bv]]
                exact this
              have HB5 : Hid (Below w.heap.size w w5) := HB3.out.grown hg5 HB3.out.size (fun q hq => (HR3.out.lt q hq).1)
              obtain ⟨xa5, xc5, rfl⟩ := ownsN_form hr5
              clear hr5 hg5 HR3 HNW3
              go_wp2
              go_roundg g
              case measure => omega
              case rel => exact ⟨i + 1, k + 1, (x ++ [u]) ++ [gapOf more k], by omega, by omega, rfl, rfl, HX2, HR5, HB5⟩
          · have hk2z : ¬ ((k : Int) < (n' : Int)) := by omega
            obtain rfl : 0 = kz := by
              rw [HKZ.out, List.getD_eq_getElem?_getD, List.getElem?_eq_none (by rw [HL'.out]; omega)]
              rfl
            have hb0 : ([Value.int .u8 32, .int .u8 9, .int .u8 10, .int .u8 13] : List Value)[0]? = some (.int .u8 gz) := hb4
            obtain rfl : 32 = gz := by simpa using hb0
            clear hb4 hb0
            rcases huz4 with rfl | rfl | rfl | rfl
            all_goals
              go_upto_region 13 with fail
              go_wp2_with (at_builtin; refine wpList_append_own_at _ rfl _ _ 27 rfl w.heap.size 5 i0 (.int .u8 0) 1 1 Tryz.underlying27 hin hz0 hz1 hz2 rfl (by decide) (.slice xa2 (xn + 1) xc2) (xn + 1) ((x ++ [u]).map bv) rfl HR3.out ⟨w2.heap.size + 1, 0, none⟩ 1 1 [.int .u8 32] rfl rfl HNW3.out (by simp [Value.oneCell']) ?d1 ?d2 ?d3 ?_)
              case d1 => unfold maxLen; omega
              case d2 => omega
              case d3 => have := HB2.out.size; omega
              intro v5 w5 hr5 hg5 _ _
              have HR5 : Hid (w5.ownsRow w.heap.size 5 1 v5 ((x ++ [u]) ++ [gapOf more k]).length (((x ++ [u]) ++ [gapOf more k]).map bv)) := by
                have := hr5
                unfold Hid
                rw [List.length_append, List.length_singleton, ← HXN2.out, show ((x ++ [u]) ++ [gapOf more k]).map bv = x.map bv ++ [bv u, .int .u8 32] by rw [HGZ.out]; simp [bv]]
                exact this
              have HB5 : Hid (Below w.heap.size w w5) := HB3.out.grown hg5 HB3.out.size (fun q hq => (HR3.out.lt q hq).1)
              obtain ⟨xa5, xc5, rfl⟩ := ownsN_form hr5
              clear hr5 hg5 HR3 HNW3
              go_wp2
              go_roundg g
              case measure => omega
              case rel => exact ⟨i + 1, k + 1, (x ++ [u]) ++ [gapOf more k], by omega, by omega, rfl, rfl, HX2, HR5, HB5⟩
        · have hng : gapV u = false := by simpa using hg
          have HX2 := Lib.hid (loose_plain HX.out (by rw [HL.out]; exact hin2) (by rw [← HU.out]; exact hng))
          rw [← HU.out] at HX2
          have t1 : (uz == 32) = false := beq_eq_false_iff_ne.2 (fun e => gapne hng 32 rfl (by rw [← HUZ.out, e]; rfl))
          have t2 : (uz == 9) = false := beq_eq_false_iff_ne.2 (fun e => gapne hng 9 rfl (by rw [← HUZ.out, e]; rfl))
          have t3 : (uz == 10) = false := beq_eq_false_iff_ne.2 (fun e => gapne hng 10 rfl (by rw [← HUZ.out, e]; rfl))
          have t4 : (uz == 13) = false := beq_eq_false_iff_ne.2 (fun e => gapne hng 13 rfl (by rw [← HUZ.out, e]; rfl))
          clear hg hng
          go_wp2
          go_roundg g
          case measure => omega
          case rel => exact ⟨i + 1, k, x ++ [u], by omega, by omega, rfl, rfl, HX2, HR2, HB2⟩
end Go.Proofs.YtgplkpfdbiapaaaGreatDoor
