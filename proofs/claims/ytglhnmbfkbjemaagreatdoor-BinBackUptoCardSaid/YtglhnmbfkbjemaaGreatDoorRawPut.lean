/- raw.Put, by its contract. -/
import Derived.Test.YtglhnmbfkbjemaaGreatDoorBkI
import Derived.Test.YtglhnmbfkbjemaaGreatDoorBkF
import Derived.Lib.SlBytesConst
namespace Go.Proofs.YtglhnmbfkbjemaaGreatDoor
open Go Go.RowKit Go.Joins
def PutPost (r : RawC) (w : World) (e : Ending) (w' : World) : Prop :=
  Below w.heap.size w w' ∧ ((mayRaw r = false ∧ e = .returned (.tuple #[.slice none 0 0, .int .i64 2])) ∨
    (mayRaw r = true ∧ ∃ v, e = .returned (.tuple #[v, .int .i64 0]) ∧ Row isByte w' w.heap.size 5 v (textOf r).length ((textOf r).map bv)))
structure PutF (w0 w1 w : World) (r : RawC) (m : Nat) (s : Slots) (j : Nat) : Prop where
  box : w.heap[w0.heap.size]? = some (.cells #[.int .u32 m, .slice s.a1 s.n1 s.c1, .slice s.a2 s.n2 s.c2, .slice s.a3 s.n3 s.c3, .slice s.a4 s.n4 s.c4, .slice s.a5 s.n5 s.c5, .slice s.a6 s.n6 s.c6] 39 (0, 0))
  sees : SeesRaw w s r
  buf : Buf w1.heap.size (w1.heap.size + 1) w (accT r j)
  bel : Below w1.heap.size w1 w
  bel0 : Below w0.heap.size w0 w1
  lt : w0.heap.size < w1.heap.size
  tab : Tab w
theorem PutF.lit {w0 w1 w : World} {r : RawC} {m : Nat} {s : Slots} {j : Nat} (h : PutF w0 w1 w r m s j) (x : Obj) : PutF w0 w1 (w.alloc x) r m s j := by
  have hb := ext_alloc w x
  obtain ⟨v, h1, h2⟩ := h.buf
  exact ⟨heap_below h.box hb, h.sees.below hb, ⟨v, heap_below h1 hb, h2.below hb⟩, h.bel.trans (hb.mono h.bel.size), h.bel0, h.lt, h.tab.below hb (Nat.le_refl _)⟩
theorem PutF.next {w0 w1 w w' : World} {r : RawC} {m : Nat} {s : Slots} {j : Nat} (h : PutF w0 w1 w r m s j) (hs : SeesRaw w1 s r) (htab : Tab w1) (l : List Nat) (hj : j < (bodyLines r).length) (hl : (bodyLines r).getD j [] = l)
    (hb : Buf w1.heap.size (w1.heap.size + 1) w' (accT r j ++ lineOf l)) (hbel : Below w1.heap.size w w') : PutF w0 w1 w' r m s (j + 1) := by
  rw [← accT_step r j l hj hl] at hb
  have hbb := h.bel.trans hbel
  exact ⟨(hbel.block _ h.lt).trans h.box, hs.below hbb, hb, hbb, h.bel0, h.lt, htab.below hbb (Nat.le_refl _)⟩
theorem line_ok {r : RawC} {j : Nat} {l : List Nat} (h : ValidR r) (hj : j < (bodyLines r).length) (hl : (bodyLines r).getD j [] = l) : ∀ x ∈ l, x < 4294967296 := by
  intro x hx
  have := (lines_small h l (by rw [← hl]; exact getD_mem hj)).2.2 x hx
  have := h.max
  omega
theorem sees_at (w : World) (e : TypeId) (fr : Nat × Nat) (C : Array Value) (xs : List Value) (n g : Nat) (hC : C = xs.toArray) (hn : xs.length = n) (hg : g = w.heap.size) : Sees (w.alloc (.cells C e fr)) (some ⟨g, 0, none⟩) n n xs := by
  subst hg; exact sees_lit w e fr C xs n hC hn
set_option maxRecDepth 100000 in
set_option maxHeartbeats 3200000 in
theorem put_any (r : RawC) (s : Slots) (w : World) (h : SeesRaw w s r) (hf : s.fit) (htab : Tab w) :
    Calls Tryz.prog 17 #[rawV r.max s] w (PutPost r w) := by
  have HMAY := fun o : Obj => may_any r s (w.alloc o) (h.below (ext_alloc _ _)) hf
  have HMY := Lib.hid HMAY
  clear HMAY
  obtain ⟨m, hm⟩ : ∃ m, m = r.max := ⟨_, rfl⟩
  have HCT := fun (w' : World) (hv : ValidR r) (hs : SeesRaw w' s r) => counts_any r s w' hs hv.max (by
    intro x hx
    have h1 := hv.max
    have h2 := hv.sum
    have h3 := hv.l3
    have h4 := hv.l4
    have h5 := hv.l5
    simp [lensOf] at hx
    rcases hx with rfl | rfl | rfl | rfl | rfl | rfl <;> omega)
  have HCN := Lib.hid HCT
  clear HCT
  rw [← hm] at HMY HCN ⊢
  have HM := Lib.hid hm
  have HS := Lib.hid h
  have HT := Lib.hid htab
  have hl1 := h.s1.lenMap
  have hl2 := h.s2.1
  have hl3 := h.s3.lenMap
  have hl4 := h.s4.lenMap
  have hl5 := h.s5.lenMap
  have hl6 := h.s6.1
  obtain ⟨a1, n1, c1, a2, n2, c2, a3, n3, c3, a4, n4, c4, a5, n5, c5, a6, n6, c6⟩ := s
  simp only at hl1 hl2 hl3 hl4 hl5 hl6
  have HL1 := Lib.hid hl1
  have HL2 := Lib.hid hl2
  have HL3 := Lib.hid hl3
  have HL4 := Lib.hid hl4
  have HL5 := Lib.hid hl5
  have HL6 := Lib.hid hl6
  clear hm h htab hl1 hl2 hl3 hl4 hl5 hl6
  unfold rawV at HMY HCN ⊢
  simp only at HMY HCN
  cases hq : mayRaw r with
  | false =>
    have HQ := Lib.hid hq
    clear hq
    go_enter Tryz.func17, Tryz.ntmps17
    go_wp2_with fail
    refine (HMY.out _).mono ?_
    rw [HQ.out]
    rintro e w1 ⟨rfl, hb⟩
    go_wp2
    go_ret2
    exact ⟨ext_behind hb, Or.inl ⟨HQ.out, rfl⟩⟩
  | true =>
    have hv := valid_of hq
    have HVV := Lib.hid hv
    have HQ := Lib.hid hq
    clear hq hv
    go_enter Tryz.func17, Tryz.ntmps17
    go_wp2_with fail
    refine (HMY.out _).mono ?_
    rw [HQ.out]
    rintro e w1 ⟨rfl, hb⟩
    have hbox : w1.heap[w.heap.size]? = some (.cells #[.int .u32 m, .slice a1 n1 c1, .slice a2 n2 c2, .slice a3 n3 c3, .slice a4 n4 c4, .slice a5 n5 c5, .slice a6 n6 c6] 39 (0, 0)) := heap_below (heap_new _ _ _ rfl) hb
    have x0 := cell_of_block hbox 0
    have x1 := cell_of_block hbox 1
    have x2 := cell_of_block hbox 2
    have x3 := cell_of_block hbox 3
    have x4 := cell_of_block hbox 4
    have x5 := cell_of_block hbox 5
    have x6 := cell_of_block hbox 6
    have hlt1 : w.heap.size < w1.heap.size := heap_lt hbox
    have hb01 := ext_behind hb
    have HB01 := Lib.hid hb01
    have HBX := Lib.hid hbox
    clear hb hbox hb01
    have kc := fun (w : World) (C : Array Value) (n c : Nat) => Lib.run_convert_bytes_const (P := Tryz.prog) w 27 5 C n c Tryz.underlying27 Tryz.underlying5
    have HS1 := Lib.hid (HS.out.below HB01.out)
    have HT1 := Lib.hid (HT.out.below HB01.out (Nat.le_refl _))
    go_wp2_with fail
    generalize hW : World.alloc (World.alloc w1 _) _ = W3
    have hb3 : Below w1.heap.size w1 W3 := by subst hW; exact ext_trans (ext_alloc _ _) (ext_alloc _ _)
    have hg3 : W3.heap[w1.heap.size + 1]? = some (.cells #[.slice (some ⟨w1.heap.size, 0, .none⟩) 4 4] 27 (0, 0)) := by subst hW; exact heap_new _ _ _ (by simp)
    have hl3 : Sees W3 (some ⟨w1.heap.size, 0, .none⟩) 4 4 (headText.map bv) := by subst hW; exact (sees_lit w1 _ _ _ (headText.map bv) 4 rfl rfl).below (ext_alloc _ _)
    have HB3 := Lib.hid hb3
    have HG3 := Lib.hid hg3
    have HL3' := Lib.hid hl3
    clear hW hb3 hg3 hl3 x0 x1 x2 x3 x4 x5 x6 kc
    refine (HCN.out W3 HVV.out (HS1.out.below HB3.out)).mono ?_
    rintro e W4 ⟨a, n, c, rfl, hn7, hsee, hb4⟩
    have HB4 := Lib.hid hb4
    have HSE := Lib.hid hsee
    clear hb4 hsee
    go_wp2_with fail
    have hcs := counts_small HVV.out
    refine (add_first w1.heap.size (w1.heap.size + 1) w1.heap.size headText (countsOf r) a n c W4 (heap_below HG3.out HB4.out) (HL3'.out.below HB4.out) (by decide) HSE.out hn7 (by decide) (fun x hx => by have := hcs x hx; omega) (HT1.out.below (ext_trans HB3.out HB4.out) (Nat.le_refl _)) (by have := (ext_trans HB3.out HB4.out).size; omega) (by omega)).mono ?_
    rintro e W5 ⟨rfl, hbuf, hbel, _⟩
    have hb5 : Below w1.heap.size w1 W5 := (ext_trans HB3.out HB4.out).trans hbel
    have F : Hid (PutF w w1 W5 r m ⟨a1, n1, c1, a2, n2, c2, a3, n3, c3, a4, n4, c4, a5, n5, c5, a6, n6, c6⟩ 0) := by
      refine ⟨(hb5.block _ hlt1).trans HBX.out, HS1.out.below hb5, ?_, hb5, HB01.out, hlt1, HT1.out.below hb5 (Nat.le_refl _)⟩
      rw [accT_zero]; exact hbuf
    clear hcs hbuf hbel hb5 HB4 HSE HB3 HG3 HL3'
    have hcount := lines_count HL1.out HL2.out HL3.out HL4.out HL5.out HL6.out
    have hlen0 := accT_len HVV.out
    have hfew := lines_few HVV.out
    have HLEN := Lib.hid hlen0
    have HCO := Lib.hid hcount
    clear hlen0 hcount
    have hbox := F.out.box
    have x0 := cell_of_block hbox 0
    have x1 := cell_of_block hbox 1
    have x2 := cell_of_block hbox 2
    have x3 := cell_of_block hbox 3
    have x4 := cell_of_block hbox 4
    have x5 := cell_of_block hbox 5
    have x6 := cell_of_block hbox 6
    clear hbox
    go_wp2
    clear x0 x1 x2 x3 x4 x5 x6
    go_loopw [29] (fun i wr => ∃ k : Nat, k ≤ n1 ∧ i = .int .i64 k ∧ Hid (PutF w w1 wr r m ⟨a1, n1, c1, a2, n2, c2, a3, n3, c3, a4, n4, c4, a5, n5, c5, a6, n6, c6⟩ (k)))
      (fun i _ => n1 - (intOf i).toNat)
    case atStart => exact ⟨0, Nat.zero_le _, rfl, F.out⟩
    case round =>
      clear F
      obtain ⟨k, hk, rfl, F⟩ := hrel
      by_cases hlt : k < n1
      · skip
        obtain ⟨b, off, rfl, hbw⟩ := F.out.sees.s1.addr (show 0 < n1 by omega)
        have hcx := F.out.sees.s1.num k hlt
        obtain ⟨x, hx⟩ : ∃ x, x = r.ins.getD k 0 := ⟨_, rfl⟩
        have hln := line1 HL1.out k hlt
        rw [← hx] at hcx hln
        clear hx
        have hj : k < (bodyLines r).length := by rw [HCO.out]; omega
        have W1 : IntKind.i64.wrap ((k : Int) + 1) = (k : Int) + 1 := IntWalk.i64_in _ (by have := HCO.out; omega)
        have h32 := line_ok HVV.out hj hln
        have F1 := Lib.hid (F.out.lit (.cells #[.int .u32 x] 35))
        have HLN := Lib.hid hln
        have H32 := Lib.hid h32
        clear hln h32
        go_wp2_with fail
        refine (add_any w1.heap.size (w1.heap.size + 1) (accT r (k)) [x] (some ⟨_, 0, .none⟩) 1 1 _ F1.out.buf (sees_at wr 35 (0, 0) #[.int .u32 x] [nv32 x] 1 _ rfl rfl (by simp)) (by omega) (by have := HLEN.out (k); omega) H32.out F1.out.tab F1.out.bel.size (by omega)).mono ?_
        rintro e w' ⟨rfl, hbuf, hbel, hkp⟩
        have F2 := Lib.hid (F1.out.next HS1.out HT1.out [x] hj HLN.out hbuf hbel)
        clear hbuf hbel hkp F F1 hcx
        go_wp2
        go_roundw
        case rel => exact ⟨k + 1, by omega, by go_num, F2.out⟩
        case measure => simp [intOf]; omega
      · skip
        obtain rfl : n1 = k := by omega
        obtain ⟨V1, hV⟩ : ∃ V, V = wr := ⟨_, rfl⟩
        subst hV
        clear hlt hk
        have hbox := F.out.box
        have x0 := cell_of_block hbox 0
        have x1 := cell_of_block hbox 1
        have x2 := cell_of_block hbox 2
        have x3 := cell_of_block hbox 3
        have x4 := cell_of_block hbox 4
        have x5 := cell_of_block hbox 5
        have x6 := cell_of_block hbox 6
        clear hbox
        go_wp2
        clear x0 x1 x2 x3 x4 x5 x6
        go_loopw [41] (fun i wr => ∃ k : Nat, k ≤ n2 ∧ i = .int .i64 k ∧ Hid (PutF w w1 wr r m ⟨a1, n1, c1, a2, n2, c2, a3, n3, c3, a4, n4, c4, a5, n5, c5, a6, n6, c6⟩ (n1 + k)))
          (fun i _ => n2 - (intOf i).toNat)
        case atStart => exact ⟨0, Nat.zero_le _, rfl, F.out⟩
        case round =>
          clear F
          obtain ⟨k, hk, rfl, F⟩ := hrel
          by_cases hlt : k < n2
          · skip
            obtain ⟨b, off, rfl, hbw⟩ := F.out.sees.s2.addr (show 0 < n2 by omega)
            obtain ⟨hx, hy, hz⟩ := F.out.sees.s2.cells k hlt (0, 0, 0)
            have hln := line2 HL1.out HL2.out k hlt
            obtain ⟨t, ht⟩ : ∃ t, t = r.lats.getD k (0, 0, 0) := ⟨_, rfl⟩
            rw [← ht] at hx hy hz hln
            clear ht
            obtain ⟨x, y, z⟩ := t
            unfold nv32 at hx hy hz
            have hj : n1 + k < (bodyLines r).length := by rw [HCO.out]; omega
            have W1 : IntKind.i64.wrap ((k : Int) + 1) = (k : Int) + 1 := IntWalk.i64_in _ (by have := HCO.out; omega)
            by_cases hz0 : z = 0
            · subst hz0
              have hln : (bodyLines r).getD (n1 + k) [] = [x, y] := by rw [hln]; rfl
              have h32 := line_ok HVV.out hj hln
              have F1 := Lib.hid ((F.out.lit (.cells #[.int .u32 x, .int .u32 y, .int .u32 0] 55)).lit (.cells #[.int .u32 x, .int .u32 y] 35))
              have HLN := Lib.hid hln
              have H32 := Lib.hid h32
              clear hln h32
              go_wp2_with fail
              refine (add_any w1.heap.size (w1.heap.size + 1) (accT r (n1 + k)) [x, y] (some ⟨_, 0, .none⟩) 2 2 _ F1.out.buf (sees_at (wr.alloc (.cells #[.int .u32 x, .int .u32 y, .int .u32 0] 55)) 35 (0, 0) #[.int .u32 x, .int .u32 y] [nv32 x, nv32 y] 2 _ rfl rfl (by simp)) (by omega) (by have := HLEN.out (n1 + k); omega) H32.out F1.out.tab F1.out.bel.size (by omega)).mono ?_
              rintro e w' ⟨rfl, hbuf, hbel, hkp⟩
              have F2 := Lib.hid (F1.out.next HS1.out HT1.out [x, y] hj HLN.out hbuf hbel)
              clear hbuf hbel hkp F F1 hx hy hz
              go_wp2
              go_roundw
              case rel => exact ⟨k + 1, by omega, by go_num, F2.out⟩
              case measure => simp [intOf]; omega
            · skip
              have hln : (bodyLines r).getD (n1 + k) [] = [x, y, z] := by rw [hln]; simp [latNums, hz0]
              have ez : ((z : Int) == 0) = false := by simp; omega
              clear hz0
              have h32 := line_ok HVV.out hj hln
              have F1 := Lib.hid ((F.out.lit (.cells #[.int .u32 x, .int .u32 y, .int .u32 (z : Int)] 55)).lit (.cells #[.int .u32 x, .int .u32 y, .int .u32 z] 35))
              have HLN := Lib.hid hln
              have H32 := Lib.hid h32
              clear hln h32
              go_wp2_with fail
              refine (add_any w1.heap.size (w1.heap.size + 1) (accT r (n1 + k)) [x, y, z] (some ⟨_, 0, .none⟩) 3 3 _ F1.out.buf (sees_at (wr.alloc (.cells #[.int .u32 x, .int .u32 y, .int .u32 (z : Int)] 55)) 35 (0, 0) #[.int .u32 x, .int .u32 y, .int .u32 z] [nv32 x, nv32 y, nv32 z] 3 _ rfl rfl (by simp)) (by omega) (by have := HLEN.out (n1 + k); omega) H32.out F1.out.tab F1.out.bel.size (by omega)).mono ?_
              rintro e w' ⟨rfl, hbuf, hbel, hkp⟩
              have F2 := Lib.hid (F1.out.next HS1.out HT1.out [x, y, z] hj HLN.out hbuf hbel)
              clear hbuf hbel hkp F F1 hx hy hz
              go_wp2
              go_roundw
              case rel => exact ⟨k + 1, by omega, by go_num, F2.out⟩
              case measure => simp [intOf]; omega
          · skip
            obtain rfl : n2 = k := by omega
            obtain ⟨V2, hV⟩ : ∃ V, V = wr := ⟨_, rfl⟩
            subst hV
            clear hlt hk
            have hbox := F.out.box
            have x0 := cell_of_block hbox 0
            have x1 := cell_of_block hbox 1
            have x2 := cell_of_block hbox 2
            have x3 := cell_of_block hbox 3
            have x4 := cell_of_block hbox 4
            have x5 := cell_of_block hbox 5
            have x6 := cell_of_block hbox 6
            clear hbox
            have hV2 : w1.heap.size + 1 < V2.heap.size := by obtain ⟨v, hv, _⟩ := F.out.buf; exact heap_lt hv
            replace F := Lib.hid (F.out.lit (.cells #[.slice a3 n3 c3, .slice a4 n4 c4, .slice a5 n5 c5] 24))
            have HD := Lib.hid (heap_new V2 (.cells #[.slice a3 n3 c3, .slice a4 n4 c4, .slice a5 n5 c5] 24) V2.heap.size rfl)
            go_wp2
            refine wp_loop_rounds 4 ?_
            rw [rounds_succ]
            go_wp2
            clear x0 x1 x2 x3 x4 x5 x6
            go_loopw [79] (fun i wr => ∃ k : Nat, k ≤ n3 ∧ i = .int .i64 k ∧ Hid (PutF w w1 wr r m ⟨a1, n1, c1, a2, n2, c2, a3, n3, c3, a4, n4, c4, a5, n5, c5, a6, n6, c6⟩ (n1 + n2 + k)) ∧ Hid (wr.heap[V2.heap.size]? = some (.cells #[.slice a3 n3 c3, .slice a4 n4 c4, .slice a5 n5 c5] 24 (0, 0))))
              (fun i _ => n3 - (intOf i).toNat)
            case atStart => exact ⟨0, Nat.zero_le _, rfl, F.out, HD.out⟩
            case round =>
              clear F HD
              obtain ⟨k, hk, rfl, F, HD⟩ := hrel
              by_cases hlt : k < n3
              · skip
                obtain ⟨b, off, rfl, hbw⟩ := F.out.sees.s3.addr (show 0 < n3 by omega)
                have hcx := F.out.sees.s3.num k hlt
                obtain ⟨x, hx⟩ : ∃ x, x = r.outs.getD k 0 := ⟨_, rfl⟩
                have hln := line3 HL1.out HL2.out HL3.out k hlt
                rw [← hx] at hcx hln
                clear hx
                have hj : n1 + n2 + k < (bodyLines r).length := by rw [HCO.out]; omega
                have W1 : IntKind.i64.wrap ((k : Int) + 1) = (k : Int) + 1 := IntWalk.i64_in _ (by have := HCO.out; omega)
                have h32 := line_ok HVV.out hj hln
                have F1 := Lib.hid (F.out.lit (.cells #[.int .u32 x] 35))
                have HD1 := Lib.hid (heap_below HD.out (ext_alloc wr (.cells #[.int .u32 x] 35)))
                have HLN := Lib.hid hln
                have H32 := Lib.hid h32
                clear hln h32
                go_wp2_with fail
                refine (add_any w1.heap.size (w1.heap.size + 1) (accT r (n1 + n2 + k)) [x] (some ⟨_, 0, .none⟩) 1 1 _ F1.out.buf (sees_at wr 35 (0, 0) #[.int .u32 x] [nv32 x] 1 _ rfl rfl (by simp)) (by omega) (by have := HLEN.out (n1 + n2 + k); omega) H32.out F1.out.tab F1.out.bel.size (by omega)).mono ?_
                rintro e w' ⟨rfl, hbuf, hbel, hkp⟩
                have F2 := Lib.hid (F1.out.next HS1.out HT1.out [x] hj HLN.out hbuf hbel)
                have HD2 := Lib.hid (hkp _ _ _ _ HD1.out (by decide) (by have := heap_lt F.out.box; have := hV2; omega))
                clear hbuf hbel hkp F F1 hcx
                go_wp2
                go_roundw
                case rel => exact ⟨k + 1, by omega, by go_num, F2.out, HD2.out⟩
                case measure => simp [intOf]; omega
              · skip
                obtain rfl : n3 = k := by omega
                obtain ⟨V3, hV⟩ : ∃ V, V = wr := ⟨_, rfl⟩
                subst hV
                clear hlt hk
                have hbox := F.out.box
                have x0 := cell_of_block hbox 0
                have x1 := cell_of_block hbox 1
                have x2 := cell_of_block hbox 2
                have x3 := cell_of_block hbox 3
                have x4 := cell_of_block hbox 4
                have x5 := cell_of_block hbox 5
                have x6 := cell_of_block hbox 6
                clear hbox
                have hdc0 := cell_of_block HD.out 0
                have hdc1 := cell_of_block HD.out 1
                have hdc2 := cell_of_block HD.out 2
                go_wp2
                rw [rounds_succ]
                go_wp2
                clear hdc0 hdc1 hdc2
                clear x0 x1 x2 x3 x4 x5 x6
                go_loopw [79] (fun i wr => ∃ k : Nat, k ≤ n4 ∧ i = .int .i64 k ∧ Hid (PutF w w1 wr r m ⟨a1, n1, c1, a2, n2, c2, a3, n3, c3, a4, n4, c4, a5, n5, c5, a6, n6, c6⟩ (n1 + n2 + n3 + k)) ∧ Hid (wr.heap[V2.heap.size]? = some (.cells #[.slice a3 n3 c3, .slice a4 n4 c4, .slice a5 n5 c5] 24 (0, 0))))
                  (fun i _ => n4 - (intOf i).toNat)
                case atStart => exact ⟨0, Nat.zero_le _, rfl, F.out, HD.out⟩
                case round =>
                  clear F HD
                  obtain ⟨k, hk, rfl, F, HD⟩ := hrel
                  by_cases hlt : k < n4
                  · skip
                    obtain ⟨b, off, rfl, hbw⟩ := F.out.sees.s4.addr (show 0 < n4 by omega)
                    have hcx := F.out.sees.s4.num k hlt
                    obtain ⟨x, hx⟩ : ∃ x, x = r.bads.getD k 0 := ⟨_, rfl⟩
                    have hln := line4 HL1.out HL2.out HL3.out HL4.out k hlt
                    rw [← hx] at hcx hln
                    clear hx
                    have hj : n1 + n2 + n3 + k < (bodyLines r).length := by rw [HCO.out]; omega
                    have W1 : IntKind.i64.wrap ((k : Int) + 1) = (k : Int) + 1 := IntWalk.i64_in _ (by have := HCO.out; omega)
                    have h32 := line_ok HVV.out hj hln
                    have F1 := Lib.hid (F.out.lit (.cells #[.int .u32 x] 35))
                    have HD1 := Lib.hid (heap_below HD.out (ext_alloc wr (.cells #[.int .u32 x] 35)))
                    have HLN := Lib.hid hln
                    have H32 := Lib.hid h32
                    clear hln h32
                    go_wp2_with fail
                    refine (add_any w1.heap.size (w1.heap.size + 1) (accT r (n1 + n2 + n3 + k)) [x] (some ⟨_, 0, .none⟩) 1 1 _ F1.out.buf (sees_at wr 35 (0, 0) #[.int .u32 x] [nv32 x] 1 _ rfl rfl (by simp)) (by omega) (by have := HLEN.out (n1 + n2 + n3 + k); omega) H32.out F1.out.tab F1.out.bel.size (by omega)).mono ?_
                    rintro e w' ⟨rfl, hbuf, hbel, hkp⟩
                    have F2 := Lib.hid (F1.out.next HS1.out HT1.out [x] hj HLN.out hbuf hbel)
                    have HD2 := Lib.hid (hkp _ _ _ _ HD1.out (by decide) (by have := heap_lt F.out.box; have := hV2; omega))
                    clear hbuf hbel hkp F F1 hcx
                    go_wp2
                    go_roundw
                    case rel => exact ⟨k + 1, by omega, by go_num, F2.out, HD2.out⟩
                    case measure => simp [intOf]; omega
                  · skip
                    obtain rfl : n4 = k := by omega
                    obtain ⟨V4, hV⟩ : ∃ V, V = wr := ⟨_, rfl⟩
                    subst hV
                    clear hlt hk
                    have hbox := F.out.box
                    have x0 := cell_of_block hbox 0
                    have x1 := cell_of_block hbox 1
                    have x2 := cell_of_block hbox 2
                    have x3 := cell_of_block hbox 3
                    have x4 := cell_of_block hbox 4
                    have x5 := cell_of_block hbox 5
                    have x6 := cell_of_block hbox 6
                    clear hbox
                    have hdc0 := cell_of_block HD.out 0
                    have hdc1 := cell_of_block HD.out 1
                    have hdc2 := cell_of_block HD.out 2
                    go_wp2
                    rw [rounds_succ]
                    go_wp2
                    clear hdc0 hdc1 hdc2
                    clear x0 x1 x2 x3 x4 x5 x6
                    go_loopw [79] (fun i wr => ∃ k : Nat, k ≤ n5 ∧ i = .int .i64 k ∧ Hid (PutF w w1 wr r m ⟨a1, n1, c1, a2, n2, c2, a3, n3, c3, a4, n4, c4, a5, n5, c5, a6, n6, c6⟩ (n1 + n2 + n3 + n4 + k)) ∧ Hid (wr.heap[V2.heap.size]? = some (.cells #[.slice a3 n3 c3, .slice a4 n4 c4, .slice a5 n5 c5] 24 (0, 0))))
                      (fun i _ => n5 - (intOf i).toNat)
                    case atStart => exact ⟨0, Nat.zero_le _, rfl, F.out, HD.out⟩
                    case round =>
                      clear F HD
                      obtain ⟨k, hk, rfl, F, HD⟩ := hrel
                      by_cases hlt : k < n5
                      · skip
                        obtain ⟨b, off, rfl, hbw⟩ := F.out.sees.s5.addr (show 0 < n5 by omega)
                        have hcx := F.out.sees.s5.num k hlt
                        obtain ⟨x, hx⟩ : ∃ x, x = r.cons.getD k 0 := ⟨_, rfl⟩
                        have hln := line5 HL1.out HL2.out HL3.out HL4.out HL5.out k hlt
                        rw [← hx] at hcx hln
                        clear hx
                        have hj : n1 + n2 + n3 + n4 + k < (bodyLines r).length := by rw [HCO.out]; omega
                        have W1 : IntKind.i64.wrap ((k : Int) + 1) = (k : Int) + 1 := IntWalk.i64_in _ (by have := HCO.out; omega)
                        have h32 := line_ok HVV.out hj hln
                        have F1 := Lib.hid (F.out.lit (.cells #[.int .u32 x] 35))
                        have HD1 := Lib.hid (heap_below HD.out (ext_alloc wr (.cells #[.int .u32 x] 35)))
                        have HLN := Lib.hid hln
                        have H32 := Lib.hid h32
                        clear hln h32
                        go_wp2_with fail
                        refine (add_any w1.heap.size (w1.heap.size + 1) (accT r (n1 + n2 + n3 + n4 + k)) [x] (some ⟨_, 0, .none⟩) 1 1 _ F1.out.buf (sees_at wr 35 (0, 0) #[.int .u32 x] [nv32 x] 1 _ rfl rfl (by simp)) (by omega) (by have := HLEN.out (n1 + n2 + n3 + n4 + k); omega) H32.out F1.out.tab F1.out.bel.size (by omega)).mono ?_
                        rintro e w' ⟨rfl, hbuf, hbel, hkp⟩
                        have F2 := Lib.hid (F1.out.next HS1.out HT1.out [x] hj HLN.out hbuf hbel)
                        have HD2 := Lib.hid (hkp _ _ _ _ HD1.out (by decide) (by have := heap_lt F.out.box; have := hV2; omega))
                        clear hbuf hbel hkp F F1 hcx
                        go_wp2
                        go_roundw
                        case rel => exact ⟨k + 1, by omega, by go_num, F2.out, HD2.out⟩
                        case measure => simp [intOf]; omega
                      · skip
                        obtain rfl : n5 = k := by omega
                        obtain ⟨V5, hV⟩ : ∃ V, V = wr := ⟨_, rfl⟩
                        subst hV
                        clear hlt hk
                        have hbox := F.out.box
                        have x0 := cell_of_block hbox 0
                        have x1 := cell_of_block hbox 1
                        have x2 := cell_of_block hbox 2
                        have x3 := cell_of_block hbox 3
                        have x4 := cell_of_block hbox 4
                        have x5 := cell_of_block hbox 5
                        have x6 := cell_of_block hbox 6
                        clear hbox
                        have hdc0 := cell_of_block HD.out 0
                        have hdc1 := cell_of_block HD.out 1
                        have hdc2 := cell_of_block HD.out 2
                        go_wp2
                        rw [rounds_succ]
                        go_wp2
                        clear hdc0 hdc1 hdc2
                        clear HD
                        clear x0 x1 x2 x3 x4 x5 x6
                        go_loopw [92] (fun i wr => ∃ k : Nat, k ≤ n6 ∧ i = .int .i64 k ∧ Hid (PutF w w1 wr r m ⟨a1, n1, c1, a2, n2, c2, a3, n3, c3, a4, n4, c4, a5, n5, c5, a6, n6, c6⟩ (n1 + n2 + n3 + n4 + n5 + k)))
                          (fun i _ => n6 - (intOf i).toNat)
                        case atStart => exact ⟨0, Nat.zero_le _, rfl, F.out⟩
                        case round =>
                          clear F
                          obtain ⟨k, hk, rfl, F⟩ := hrel
                          by_cases hlt : k < n6
                          · skip
                            obtain ⟨b, off, rfl, hbw⟩ := F.out.sees.s6.addr (show 0 < n6 by omega)
                            obtain ⟨hx, hy, hz⟩ := F.out.sees.s6.cells k hlt (0, 0, 0)
                            have hln := line6 HL1.out HL2.out HL3.out HL4.out HL5.out HL6.out k hlt
                            obtain ⟨t, ht⟩ : ∃ t, t = r.gates.getD k (0, 0, 0) := ⟨_, rfl⟩
                            rw [← ht] at hx hy hz hln
                            clear ht
                            obtain ⟨x, y, z⟩ := t
                            unfold nv32 at hx hy hz
                            have hln : (bodyLines r).getD (n1 + n2 + n3 + n4 + n5 + k) [] = [x, y, z] := hln
                            have hj : n1 + n2 + n3 + n4 + n5 + k < (bodyLines r).length := by rw [HCO.out]; omega
                            have W1 : IntKind.i64.wrap ((k : Int) + 1) = (k : Int) + 1 := IntWalk.i64_in _ (by have := HCO.out; omega)
                            have h32 := line_ok HVV.out hj hln
                            have F1 := Lib.hid ((F.out.lit (.cells #[.int .u32 x, .int .u32 y, .int .u32 (z : Int)] 58)).lit (.cells #[.int .u32 x, .int .u32 y, .int .u32 z] 35))
                            have HLN := Lib.hid hln
                            have H32 := Lib.hid h32
                            clear hln h32
                            go_wp2_with fail
                            refine (add_any w1.heap.size (w1.heap.size + 1) (accT r (n1 + n2 + n3 + n4 + n5 + k)) [x, y, z] (some ⟨_, 0, .none⟩) 3 3 _ F1.out.buf (sees_at (wr.alloc (.cells #[.int .u32 x, .int .u32 y, .int .u32 (z : Int)] 58)) 35 (0, 0) #[.int .u32 x, .int .u32 y, .int .u32 z] [nv32 x, nv32 y, nv32 z] 3 _ rfl rfl (by simp)) (by omega) (by have := HLEN.out (n1 + n2 + n3 + n4 + n5 + k); omega) H32.out F1.out.tab F1.out.bel.size (by omega)).mono ?_
                            rintro e w' ⟨rfl, hbuf, hbel, hkp⟩
                            have F2 := Lib.hid (F1.out.next HS1.out HT1.out [x, y, z] hj HLN.out hbuf hbel)
                            clear hbuf hbel hkp F F1 hx hy hz
                            go_wp2
                            go_roundw
                            case rel => exact ⟨k + 1, by omega, by go_num, F2.out⟩
                            case measure => simp [intOf]; omega
                          · skip
                            obtain rfl : n6 = k := by omega
                            obtain ⟨V6, hV⟩ : ∃ V, V = wr := ⟨_, rfl⟩
                            subst hV
                            clear hlt hk
                            have hbox := F.out.box
                            have x0 := cell_of_block hbox 0
                            have x1 := cell_of_block hbox 1
                            have x2 := cell_of_block hbox 2
                            have x3 := cell_of_block hbox 3
                            have x4 := cell_of_block hbox 4
                            have x5 := cell_of_block hbox 5
                            have x6 := cell_of_block hbox 6
                            clear hbox
                            obtain ⟨v, hv, hrow⟩ := F.out.buf
                            have hcv := cell_of_block hv 0
                            obtain ⟨va, vc, rfl⟩ := hrow.form
                            have HR := Lib.hid hrow
                            clear hv hrow
                            go_wp2
                            go_ret2
                            have hbf := F.out.bel
                            have ef := accT_full r (n1 + n2 + n3 + n4 + n5 + n6) (by rw [HCO.out]; exact Nat.le_refl _)
                            refine ⟨ext_trans HB01.out hbf, Or.inr ⟨HQ.out, _, rfl, ?_⟩⟩
                            have hr := HR.out
                            rw [ef] at hr
                            rw [ef]
                            exact hr.base_le HB01.out.size
end Go.Proofs.YtglhnmbfkbjemaaGreatDoor
