/- (*bin.reader).gates, by its contract. -/
import Derived.Test.YtglhnmbfkbjemaaGreatDoorBkC
import Derived.Test.YtglhnmbfkbjemaaGreatDoorBkD
import Derived.Test.YtglhnmbfkbjemaaGreatDoorBkA
import Derived.Test.YtglhnmbfkbjemaaGreatDoorBkB
import Derived.Laws.BitsAllLaws
import Derived.Maps.AppendAt
import Derived.Laws.CopyRow
import Derived.Deep.RegionHeld3
import Derived.Laws.Tables
import Derived.BigQuiet
import Derived.Laws.MakeOwn
/- (*bin.reader).below, by its contract. -/
namespace Go.Proofs.YtglhnmbfkbjemaaGreatDoor
open Go Go.RowKit Go.Joins
theorem dGo_er (es ef : Int) : ∀ (b : List UInt8) (i s : Nat) (er : Int), dGo es ef b i s = .error er → er = es ∨ er = ef
  | [], _, _, _, h => by cases h; exact Or.inl rfl
  | x :: r, i, s, er, h => by
    unfold dGo at h
    split at h
    · cases h; exact Or.inr rfl
    · split at h
      · first | exact dGo_er es ef r _ _ er h | cases h
      · first | exact dGo_er es ef r _ _ er h | cases h
structure Rdr (R : Nat) (a : Option Addr) (n c most : Nat) (er : Int) (bs : List UInt8) (w : World) : Prop where
  box : w.heap[R]? = some (.cells #[.slice a n c, .int .u32 most, .int .i64 er] 67 (0, 0))
  sees : Sees w a n c (bs.map bv)
  ne : ∀ b, a.map Addr.block = some b → b ≠ R
theorem Rdr.err {R : Nat} {a : Option Addr} {n c most : Nat} {e0 : Int} {bs : List UInt8} {w : World} (h : Rdr R a n c most e0 bs w) (er : Int) :
    Rdr R a n c most er bs (w.setCell ⟨R, 2, .none⟩ (.int .i64 er)) ∧ w.grownBy (w.setCell ⟨R, 2, .none⟩ (.int .i64 er)) (some R) := by
  have hg := Lib.grownBy_setCell w R 2 (.int .i64 er)
  refine ⟨⟨?_, sees_but h.sees hg (fun b off e => h.ne b (by rw [e]; rfl)), h.ne⟩, hg⟩
  have h1 := block_setCell h.box (i := 2) (.int .i64 er)
  simpa using h1
theorem Rdr.move {R : Nat} {a a' : Option Addr} {n c n' c' most : Nat} {bs bs' : List UInt8} {w : World} (h : Rdr R a n c most 0 bs w) (hs : Sees w a' n' c' (bs'.map bv)) (hne : ∀ b, a'.map Addr.block = some b → b ≠ R) :
    Rdr R a' n' c' most 0 bs' (w.setCell ⟨R, 0, .none⟩ (.slice a' n' c')) ∧ w.grownBy (w.setCell ⟨R, 0, .none⟩ (.slice a' n' c')) (some R) := by
  have hg := Lib.grownBy_setCell w R 0 (.slice a' n' c')
  refine ⟨⟨?_, sees_but hs hg (fun b off e => hne b (by rw [e]; rfl)), hne⟩, hg⟩
  have h1 := block_setCell h.box (i := 0) (.slice a' n' c')
  simpa using h1
def belowL (bs : List UInt8) (lit least : Nat) : Except Int (Nat × List UInt8) :=
  match deltaL 4 5 bs with
  | .error er => .error er
  | .ok (m, k) => if m < least ∨ lit < m then .error 5 else .ok (lit - m, bs.drop k)
def BelowPost (R : Nat) (a : Option Addr) (n c most : Nat) (bs : List UInt8) (w : World) (s : Except Int (Nat × List UInt8)) (e : Ending) (w' : World) : Prop :=
  w.grownBy w' (some R) ∧ match s with
    | .ok (v, rest) => e = .returned (.int .u32 (v : Int)) ∧ ∃ a' c', Rdr R a' rest.length c' most 0 rest w' ∧ a'.map Addr.block = a.map Addr.block
    | .error er => e = .returned (.int .u32 0) ∧ Rdr R a n c most er bs w'
set_option maxRecDepth 100000 in
set_option maxHeartbeats 1600000 in
theorem below_any (R : Nat) (a : Option Addr) (n c most lit least : Nat) (bs : List UInt8) (w : World) (h : Rdr R a n c most 0 bs w) (hn : n ≤ 140737488355328) (hl : lit < 4294967296) :
    Calls Tryz.prog 55 #[.pointer (some ⟨R, 0, none⟩), .int .u32 lit, .int .u32 least] w (BelowPost R a n c most bs w (belowL bs lit least)) := by
  have hd := delta_any bs a n c w h.sees hn
  have hbl : bs.length = n := h.sees.lenMap
  have c0 := cell_of_block h.box 0
  have c1 := cell_of_block h.box 1
  have c2 := cell_of_block h.box 2
  have f0 := unfrozen_of_block h.box 0
  have f2 := unfrozen_of_block h.box 2
  have HR := Lib.hid h
  have HD := Lib.hid hd
  clear h hd
  go_enter Tryz.func55, Tryz.ntmps55
  go_wp2_with fail
  refine HD.out.mono ?_
  rintro e w' ⟨rfl, hm⟩
  rcases hdl : deltaL 4 5 bs with er | ⟨m, k⟩
  · rw [hdl] at hm
    have hm : e = _ := hm
    subst hm
    have her : er = 4 ∨ er = 5 := dGo_er 4 5 bs 0 0 er hdl
    have HE : Hid (belowL bs lit least = .error er) := by show _ = _; unfold belowL; rw [hdl]
    have hb := HR.out.err er
    have HB := Lib.hid hb
    clear hdl hb hbl
    rcases her with rfl | rfl
    · go_wp2
      go_ret
      exact ⟨HB.out.2, by rw [HE.out]; exact ⟨rfl, HB.out.1⟩⟩
    · go_wp2
      go_ret
      exact ⟨HB.out.2, by rw [HE.out]; exact ⟨rfl, HB.out.1⟩⟩
  · rw [hdl] at hm
    have hm : e = _ := hm
    subst hm
    obtain ⟨hk1, hk2, hk3, hk4⟩ := enc_delta 4 5 hdl
    have HDL := Lib.hid hdl
    clear hdl hk1
    rw [hbl] at hk2
    by_cases h1 : m < least
    · have HE : Hid (belowL bs lit least = .error 5) := by show _ = _; unfold belowL; rw [HDL.out]; exact if_pos (Or.inl h1)
      have hb := Lib.hid (HR.out.err 5)
      go_wp2
      go_ret
      exact ⟨hb.out.2, by rw [HE.out]; exact ⟨rfl, hb.out.1⟩⟩
    · by_cases h2 : lit < m
      · have HE : Hid (belowL bs lit least = .error 5) := by show _ = _; unfold belowL; rw [HDL.out]; exact if_pos (Or.inr h2)
        have hb := Lib.hid (HR.out.err 5)
        go_wp2
        go_ret
        exact ⟨hb.out.2, by rw [HE.out]; exact ⟨rfl, hb.out.1⟩⟩
      · have HE : Hid (belowL bs lit least = .ok (lit - m, bs.drop k)) := by show _ = _; unfold belowL; rw [HDL.out]; exact if_neg (by omega)
        obtain ⟨a2, ec, see⟩ := HR.out.sees.cut k n (by omega) (by omega)
        have hab : ∀ b, a2.map Addr.block = some b → b ≠ R := by
          intro b hb
          exact HR.out.ne b (by rw [← hb]; exact (sliced_block (show sliced a k n c 1 = _ from ec)).symm)
        have HBK := Lib.hid (sliced_block (show sliced a k n c 1 = _ from ec))
        have see2 : Sees w' a2 (n - k) (c - k) ((bs.drop k).map bv) := by
          have e : (bs.drop k).map bv = List.drop k (List.take n (bs.map bv)) := by rw [List.take_of_length_le (by rw [List.length_map]; omega), List.map_drop]
          rw [e]; exact see
        have q := fun W => (run_from (P := Tryz.prog) Tryz.underlying27 size_u8 W a n c k (k : Int) rfl (by omega)).trans (congrArg (fun v => Result.ok v W) (show sliced a k n c 1 = _ from ec))
        have hb := Lib.hid (HR.out.move see2 hab)
        have HL : Hid ((bs.drop k).length = n - k) := by show _ = _; rw [List.length_drop]; omega
        have hw : IntKind.u32.wrap ((lit : Int) - (m : Int)) = ((lit - m : Nat) : Int) := by rw [IntKind.wrap_u32]; omega
        clear see see2 ec hab
        go_wp2
        go_ret
        refine ⟨hb.out.2, ?_⟩
        rw [HE.out]
        exact ⟨by go_num, a2, c - k, by rw [HL.out]; exact hb.out.1, HBK.out⟩
theorem below_off (R : Nat) (a : Option Addr) (n c most lit least : Nat) (er : Int) (bs : List UInt8) (w : World) (h : Rdr R a n c most er bs w) (he : er ≠ 0) :
    Calls Tryz.prog 55 #[.pointer (some ⟨R, 0, none⟩), .int .u32 lit, .int .u32 least] w fun e w' => e = .returned (.int .u32 0) ∧ w' = w := by
  have c0 := cell_of_block h.box 0
  have c1 := cell_of_block h.box 1
  have c2 := cell_of_block h.box 2
  have hx : (er == (0 : Int)) = false := by simpa using he
  clear h
  go_enter Tryz.func55, Tryz.ntmps55
  go_wp2
  go_ret
  exact ⟨rfl, rfl⟩
end Go.Proofs.YtglhnmbfkbjemaaGreatDoor
/- The gates of a binary circuit, on plain lists: what is written is read, and what is read is written. -/
namespace Go.Proofs.YtglhnmbfkbjemaaGreatDoor
open Go Go.RowKit Go.Joins
theorem below_put {lit least v : Nat} (rest : List UInt8) (hv : v ≤ lit) (hl : least ≤ lit - v) (hb : lit ≤ 4294967295) : belowL (encL (lit - v) ++ rest) lit least = .ok (v, rest) := by
  unfold belowL
  rw [delta_enc 4 5 (lit - v) rest (by omega)]
  show (if _ then _ else _) = _
  rw [if_neg (by omega), List.drop_left, show lit - (lit - v) = v by omega]
theorem below_get {lit least v : Nat} {bs rest : List UInt8} (h : belowL bs lit least = .ok (v, rest)) : bs = encL (lit - v) ++ rest ∧ v ≤ lit ∧ least ≤ lit - v := by
  unfold belowL at h
  rcases hd : deltaL 4 5 bs with er | ⟨m, k⟩
  · rw [hd] at h; cases h
  · rw [hd] at h
    have h : (if m < least ∨ lit < m then (Except.error 5 : Except Int (Nat × List UInt8)) else .ok (lit - m, bs.drop k)) = .ok (v, rest) := h
    obtain ⟨h1, h2, h3, h4⟩ := enc_delta 4 5 hd
    by_cases hc : m < least ∨ lit < m
    · rw [if_pos hc] at h; cases h
    · rw [if_neg hc] at h
      cases h
      rw [show lit - (lit - m) = m by omega, ← h1]
      exact ⟨(List.take_append_drop k bs).symm, by omega, by omega⟩
def putG : Nat → List (Nat × Nat) → List UInt8
  | _, [] => []
  | own, (a, b) :: r => encL (own - a) ++ (encL (a - b) ++ putG (own + 2) r)
def okG : Nat → List (Nat × Nat) → Prop
  | _, [] => True
  | own, (a, b) :: r => a < own ∧ b ≤ a ∧ okG (own + 2) r
end Go.Proofs.YtglhnmbfkbjemaaGreatDoor
/- bin.appendDelta, by its contract. -/
namespace Go.Proofs.YtglhnmbfkbjemaaGreatDoor
open Go Go.RowKit Go.Joins
set_option maxRecDepth 100000 in
theorem or128 : ∀ q, q < 256 → q ||| 128 = q % 128 + 128 := by decide
theorem dEnc_big {f m : Nat} (h : 128 ≤ m) : dEnc (f + 1) m = UInt8.ofNat (m % 128 + 128) :: dEnc f (m / 128) := by show (if 128 ≤ m then _ else _) = _; rw [if_pos h]
theorem dEnc_small {f m : Nat} (h : m < 128) : dEnc f m = [UInt8.ofNat m] := by
  cases f with
  | zero => rfl
  | succ f => show (if 128 ≤ m then _ else _) = _; rw [if_neg (by omega)]
theorem bv_of (n : Nat) (h : n < 256) : bv (UInt8.ofNat n) = .int .u8 (n : Int) := by unfold bv; rw [u8_of n h]
end Go.Proofs.YtglhnmbfkbjemaaGreatDoor
/- bin.lineBytes, by its contract. -/
namespace Go.Proofs.YtglhnmbfkbjemaaGreatDoor
open Go Go.RowKit Go.Joins
def lineL (bs : List UInt8) : Nat := if ahead bs < bs.length then ahead bs + 1 else 0
theorem lineL_le (bs : List UInt8) : lineL bs ≤ bs.length := by unfold lineL; split <;> omega
theorem lineL_index (bs : List UInt8) : Lib.indexByte bs 10 = (lineL bs : Int) - 1 := by
  rw [indexByte_ahead]; unfold lineL; split <;> omega
theorem lineBytes_any (w : World) (a : Option Addr) (n c : Nat) (bs : List UInt8) (h : Sees w a n c (bs.map bv)) (hn : n ≤ 140737488355328) :
    Calls Tryz.prog 18 #[.slice a n c] w fun e w' => e = .returned (.int .i64 (lineL bs : Int)) ∧ w = w' := by
  have hidx := idxByte_any w a n c bs h 10
  have hl : bs.length = n := h.lenMap
  have hle := lineL_le bs
  rw [show (10 : Int).toNat.toUInt8 = 10 from rfl, lineL_index] at hidx
  obtain ⟨z, hz⟩ : ∃ z, z = lineL bs := ⟨_, rfl⟩
  rw [← hz] at hidx hle ⊢
  have HI := Lib.hid hidx
  have HZ : z ≤ 140737488355328 := by omega
  have hz0 : IntKind.i64.wrap ((z : Int) - 1 + 1) = (z : Int) := by rw [IntWalk.i64_in _ (by omega)]; omega
  clear h hz hidx hl hle
  go_enter Tryz.func18, Tryz.ntmps18
  go_wp2_with (go_at_call 49; refine HI.out.mono ?_; rintro e w' ⟨rfl, rfl⟩)
  go_ret
  exact ⟨by go_num, rfl⟩
end Go.Proofs.YtglhnmbfkbjemaaGreatDoor
/- The reader's state, on plain lists; (*bin.reader).line, by its contract. -/
namespace Go.Proofs.YtglhnmbfkbjemaaGreatDoor
open Go Go.RowKit Go.Joins
abbrev St := Except Int (List UInt8)
def lineSt (most : Nat) (many : Int) : St → (Nat × Nat) × St
  | .error er => ((0, 0), .error er)
  | .ok bs => match cutS bs with
    | none => ((0, 0), .error 4)
    | some (line, rest) => if numsErr line 1 many most = 0 then (((numsOf line most).getD 0 0, (numsOf line most).getD 1 0), .ok rest) else ((0, 0), .error (numsErr line 1 many most))
theorem sees_keep {w w' : World} {a : Option Addr} {n c : Nat} {xs : List Value} (h : Sees w a n c xs) (hk : ∀ b, a.map Addr.block = some b → w'.heap[b]? = w.heap[b]?) (hs : w.heap.size ≤ w'.heap.size) : Sees w' a n c xs := by
  refine ⟨h.len, h.cap, h.nilc, fun h0 => ?_⟩
  obtain ⟨b, off, e, hlt, hc⟩ := h.real h0
  exact ⟨b, off, e, Nat.lt_of_lt_of_le hlt hs, fun j hj => (World.cell?_of_block (w := w) (hk b (by rw [e]; rfl))).trans (hc j hj)⟩
def RdS (R B most : Nat) (st : St) (w : World) : Prop := ∃ a n c er bs, Rdr R a n c most er bs w ∧ (∀ b, a.map Addr.block = some b → b < B) ∧ n ≤ 1048576 ∧ match st with
  | .ok rest => er = 0 ∧ bs = rest
  | .error e => er = e ∧ e ≠ 0
theorem RdS.keep {R B most : Nat} {st : St} {w w' : World} (h : RdS R B most st w) (hk : ∀ b, b < B ∨ b = R → w'.heap[b]? = w.heap[b]?) (hs : w.heap.size ≤ w'.heap.size) : RdS R B most st w' := by
  obtain ⟨a, n, c, er, bs, h1, h2, h3, h4⟩ := h
  exact ⟨a, n, c, er, bs, ⟨(hk R (Or.inr rfl)).trans h1.box, sees_keep h1.sees (fun b hb => hk b (Or.inl (h2 b hb))) hs, h1.ne⟩, h2, h3, h4⟩
theorem RdS.lt {R B most : Nat} {st : St} {w : World} (h : RdS R B most st w) : R < w.heap.size := by
  obtain ⟨a, n, c, er, bs, h1, h2, h3, h4⟩ := h
  exact heap_lt h1.box
theorem RdS.below {R B most : Nat} {st : St} {w w' : World} (h : RdS R B most st w) (hB : B ≤ R) (hb : Below w.heap.size w w') : RdS R B most st w' := by
  have := h.lt
  exact h.keep (fun b hb' => hb.block b (by omega)) hb.size
theorem lineL_cut (bs : List UInt8) : (cutS bs = none ∧ lineL bs = 0) ∨ (∃ line rest, cutS bs = some (line, rest) ∧ lineL bs = line.length + 1 ∧ ahead (bs.take (lineL bs)) = line.length ∧ (bs.take (lineL bs)).take line.length = line ∧ bs.drop (lineL bs) = rest ∧ line.length < bs.length) := by
  by_cases h : ahead bs < bs.length
  · right
    have hz : lineL bs = ahead bs + 1 := by unfold lineL; rw [if_pos h]
    have hl : (bs.take (ahead bs)).length = ahead bs := by rw [List.length_take]; omega
    refine ⟨bs.take (ahead bs), bs.drop (ahead bs + 1), by unfold cutS; rw [if_pos h], by rw [hz, hl], ?_, ?_, by rw [hz], by rw [hl]; exact h⟩
    · rw [hz, hl]; exact ahead_take bs h
    · rw [hz, hl, List.take_take]; congr 1; omega
  · left
    exact ⟨by unfold cutS; rw [if_neg h], by unfold lineL; rw [if_neg h]⟩
theorem RdS.set {R B most L j : Nat} {v : Value} {st : St} {w : World} (h : RdS R B most st w) (hL : L ≠ R) (hB : B ≤ L) : RdS R B most st (w.setCell ⟨L, j, .none⟩ v) :=
  h.keep (fun b hb => Below.heap_setCell w ⟨L, j, .none⟩ v b (by show b ≠ L; omega)) (by simp)
theorem row_base2 {ok : Value → Prop} {w : World} {base : Nat} {e : TypeId} {a : Option Addr} {n m c : Nat} {xs : List Value} (h : Row ok w base e (.slice a m c) n xs) : ∀ b, a.map Addr.block = some b → base ≤ b := by
  intro b hb
  rcases h.2 with ⟨e, _⟩ | ⟨g, cap, cur, e, hg, _⟩
  · cases e; cases hb
  · cases e; cases hb; exact hg
def RLinePost (R B most : Nat) (many : Int) (st : St) (w : World) (e : Ending) (w' : World) : Prop :=
  w.grownBy w' (some R) ∧ RdS R B most (lineSt most many st).2 w' ∧ e = .returned (.agg #[nv32 (lineSt most many st).1.1, nv32 (lineSt most many st).1.2])
theorem cell2_set {X : World} {g : Nat} {C : Array Value} {t : TypeId} (h : X.heap[g]? = some (.cells C t (0, 0))) (hC : C.size = 2) (u0 u1 : Value) :
    ((X.setCell ⟨g, 0, .none⟩ u0).setCell ⟨g, 1, .none⟩ u1).heap[g]? = some (.cells #[u0, u1] t (0, 0)) := by
  obtain ⟨l⟩ := C
  match l, hC with
  | [_, _], _ =>
    have h0 := block_setCell h (i := 0) u0
    have h1 := block_setCell h0 (i := 1) u1
    simpa using h1
theorem grown_new {w w' : World} {R D j : Nat} {v : Value} (h : w.grownBy w' (some R)) (hD : w.heap.size ≤ D) : w.grownBy (w'.setCell ⟨D, j, .none⟩ v) (some R) :=
  ⟨h.os, h.tape, h.output, by simpa using h.size, fun b hb hr => (Below.heap_setCell w' ⟨D, j, .none⟩ v b (by intro e; simp at e; omega)).trans (h.block b hb hr)⟩
theorem grown_newrow {w w' : World} {R D : Nat} {C : Array Value} (h : w.grownBy w' (some R)) (hD : w.heap.size ≤ D) : w.grownBy (w'.setRow D C) (some R) :=
  ⟨h.os, h.tape, h.output, by simpa using h.size, fun b hb hr => (setRow_other w' D b C (by omega)).trans (h.block b hb hr)⟩
set_option maxRecDepth 100000 in
set_option maxHeartbeats 1600000 in
theorem rline_err (R B most : Nat) (many : Int) (er : Int) (w : World) (h : RdS R B most (.error er) w) (hBR : B ≤ R) :
    Calls Tryz.prog 54 #[.pointer (some ⟨R, 0, none⟩), .int .i64 many] w (RLinePost R B most many (.error er) w) := by
  have H := Lib.hid h
  have hlt := h.lt
  obtain ⟨a, n, c, er', bs, h1, h2, h3, rfl, h0⟩ := h
  have c2 := cell_of_block h1.box 2
  have e1 : (er' != (0 : Int)) = true := by simpa using h0
  have HB := Lib.hid hBR
  have HLT := Lib.hid hlt
  have hD : R ≠ w.heap.size := by omega
  clear h1 h2 h3 h0 hBR hlt
  have HN := Lib.hid (heap_new w (.cells #[.int .u32 0, .int .u32 0] 96) w.heap.size rfl)
  have c2' : (w.alloc (.cells #[.int .u32 0, .int .u32 0] 96)).cell? ⟨R, 2, none⟩ = some (.int .i64 er') := cell_old c2
  have d0 := cell_of_block HN.out 0
  have d1 := cell_of_block HN.out 1
  have f0 := unfrozen_of_block HN.out 0
  have f1 := unfrozen_of_block HN.out 1
  go_enter Tryz.func54, Tryz.ntmps54
  go_wp2
  refine bodyPost_ret (v := .agg #[.int .u32 0, .int .u32 0]) ?_ rfl ?_
  · simp [results, Tryz.results54, go_sem, d0, d1]
  · have hg : w.grownBy (w.alloc (.cells #[.int .u32 0, .int .u32 0] 96)) (some R) := but_below (World.grownBy.refl _ _) (ext_alloc _ _)
    refine ⟨hg, H.out.keep (fun b hb => ?_) hg.size, rfl⟩
    have := HLT.out
    have := HB.out
    exact (ext_alloc w _).block b (by omega)
theorem nums_len {l : List UInt8} {many : Int} {most : Nat} (h : numsErr l 1 many most = 0) : 1 ≤ (numsOf l most).length ∧ ((numsOf l most).length : Int) ≤ many := by
  unfold numsErr at h
  unfold numsOf
  split at h
  · cases h
  · rename_i W hW
    split at h
    · cases h
    · rw [hW]
      simp
      omega
theorem copy2 {w : World} {L : Nat} {t : TypeId} {a : Option Addr} {m c : Nat} {xs : List Nat} (hN : w.heap[L]? = some (.cells #[.int .u32 0, .int .u32 0] t (0, 0))) (h : Sees w a m c (xs.map nv32)) (h1 : 1 ≤ m) (h2 : m ≤ 2) (ty : TypeId) :
    (Builtin.copy_ #[24, 24] ty #[.slice (some ⟨L, 0, none⟩) 2 2, .slice a m c]).run Tryz.prog w = .ok (goInt m) (w.setRow L #[nv32 (xs.getD 0 0), nv32 (xs.getD 1 0)]) := by
  have hl : xs.length = m := h.lenMap
  obtain ⟨b, off, rfl, _, hc⟩ := h.real (by omega)
  have e := run_copy_row (P := Tryz.prog) w 24 24 ty 35 L 0 2 2 ⟨b, off, none⟩ m c #[.int .u32 0, .int .u32 0] t (xs.map nv32) Tryz.underlying24 (by kernel_rfl) hN (by rw [List.length_map, hl]; exact (Nat.min_eq_left h2).symm) (by
    intro j v hj
    have hjm : j < m := by
      have := (List.getElem?_eq_some_iff.1 hj).1
      rw [List.length_map] at this; omega
    have hadd : (⟨b, off, none⟩ : Addr).add j = ⟨b, off + j, none⟩ := by unfold Addr.add; split <;> simp_all
    rw [hadd, hc j hjm]; exact hj) (by rw [List.length_map, hl]; simpa using h2) (by
    intro v hv
    obtain ⟨x, _, rfl⟩ := List.mem_map.1 hv
    rfl)
  rw [List.length_map, hl] at e
  refine e.trans (congrArg (fun C => Result.ok (goInt m) (w.setRow L C)) ?_)
  match xs, hl with
  | [x], h => subst h; simp [nv32]
  | [x, y], h => subst h; simp [nv32]
  | [], h => simp at h; omega
  | _ :: _ :: _ :: _, h => simp at h; omega
set_option maxRecDepth 100000 in
set_option maxHeartbeats 1600000 in
theorem rline_ok (R B most : Nat) (many : Int) (bs : List UInt8) (w : World) (h : RdS R B most (.ok bs) w) (hBR : B ≤ R) (hmany : 1 ≤ many ∧ many ≤ 2) (hm : most < 4294967296) :
    Calls Tryz.prog 54 #[.pointer (some ⟨R, 0, none⟩), .int .i64 many] w (RLinePost R B most many (.ok bs) w) := by
  have hlt := h.lt
  obtain ⟨a, n, c, er', bs', h1, h2, h3, rfl, rfl⟩ := h
  have hn : bs'.length = n := h1.sees.lenMap
  obtain ⟨W0, hW0⟩ : ∃ W0, W0 = w.alloc (.cells #[.int .u32 0, .int .u32 0] 96) := ⟨_, rfl⟩
  have hb0 : Below w.heap.size w W0 := by rw [hW0]; exact ext_alloc _ _
  have hg0 : w.grownBy W0 (some R) := but_below (World.grownBy.refl _ _) hb0
  obtain ⟨L, hL⟩ : ∃ L, L = w.heap.size := ⟨_, rfl⟩
  have hN : W0.heap[L]? = some (.cells #[.int .u32 0, .int .u32 0] 96 (0, 0)) := by rw [hW0]; exact heap_new _ _ _ hL
  have hR0 : Rdr R a n c most 0 bs' W0 := ⟨heap_below h1.box hb0, h1.sees.below hb0, h1.ne⟩
  have hRL : R < L := by omega
  have c0 := cell_of_block hR0.box 0
  have c1 := cell_of_block hR0.box 1
  have c2 := cell_of_block hR0.box 2
  have d0 := cell_of_block hN 0
  have d1 := cell_of_block hN 1
  have k0 := c0
  have k1 := c1
  have k2 := c2
  rw [hW0] at k0 k1 k2
  have HLB := Lib.hid (lineBytes_any W0 a n c bs' hR0.sees (by omega))
  have HW0 := Lib.hid hW0
  have HL := Lib.hid hL
  have j0 := d0
  have j1 := d1
  rw [hW0, hL] at j0 j1
  clear hb0 h1 hL hW0
  go_enter Tryz.func54, Tryz.ntmps54
  go_wp2_with fail
  rw [← HW0.out]
  refine HLB.out.mono ?_
  rintro e w1 ⟨rfl, rfl⟩
  rw [← HL.out]
  obtain ⟨z, hz⟩ : ∃ z, z = lineL bs' := ⟨_, rfl⟩
  rw [← hz]
  have hzn : z ≤ n := by have := lineL_le bs'; omega
  have hcap := hR0.sees.cap
  obtain ⟨a2, ec, see⟩ := hR0.sees.cut 0 z (Nat.zero_le _) hzn
  have q := fun W => (run_upto (P := Tryz.prog) Tryz.underlying27 size_u8 W a n c z (z : Int) rfl (by omega)).trans (congrArg (fun v => Result.ok v W) (show sliced a 0 z c 1 = _ from ec))
  have see2 : Sees W0 a2 z c ((bs'.take z).map bv) := by
    have e : (bs'.take z).map bv = List.drop 0 (List.take z (bs'.map bv)) := by rw [List.drop_zero, List.map_take]
    rw [e]; simpa using see
  have HLI := Lib.hid (line_any (bs'.take z) a2 z c W0 see2 (by omega))
  have HR0 := Lib.hid hR0
  have HN0 := Lib.hid hN
  have HG0 := Lib.hid hg0
  have HZ := Lib.hid hz
  have HZN := Lib.hid hzn
  have HBR := Lib.hid hBR
  have HRL := Lib.hid hRL
  have HH := Lib.hid h2
  have HLN := Lib.hid hn
  have HNB := Lib.hid h3
  have hq1 : Hid (z ≤ n) := hzn
  simp only [Nat.sub_zero] at q
  clear see see2 ec hR0 hN hg0 hz hzn hBR hRL h2 hn h3 hcap hlt k0 k1 k2 j0 j1
  go_wp2_with fail
  refine HLI.out.mono ?_
  clear c0 c1 c2 d0 d1 q
  rcases lineL_cut bs' with ⟨hc, hz0⟩ | ⟨line, rest, hc, hzl, hah, htk, hdr, hll⟩
  · have hz0 : z = 0 := HZ.out.trans hz0
    have hst : lineSt most many (.ok bs') = ((0, 0), .error 4) := by simp only [lineSt, hc]
    subst hz0
    intro e w2 hp
    have hah0 : ahead (List.take 0 bs') = 0 := rfl
    rcases hp with ⟨hlt, _⟩ | ⟨_, rfl, hb⟩
    · omega
    have hR := (HR0.out.sees.below hb)
    have hbx := heap_below HR0.out.box hb
    have hN := heap_below HN0.out hb
    have hg := but_below HG0.out hb
    have d0 := cell_of_block hN 0
    have d1 := cell_of_block hN 1
    have f2 := unfrozen_of_block hbx 2
    have e0 := unfrozen_of_block hN 0
    have e1 := unfrozen_of_block hN 1
    have r0 := cell_of_block hbx 0
    have r2 := cell_of_block hbx 2
    have HE := Lib.hid ((⟨hbx, hR, HR0.out.ne⟩ : Rdr R a n c most 0 bs' w2).err 4)
    have HST := Lib.hid hst
    have HG := Lib.hid hg
    have hLR : L ≠ R := by have := HRL.out; omega
    have HLR := Lib.hid hLR
    have hN4 := Lib.hid (heap_grown hN (HE.out.2) (by intro e; cases e; exact hLR rfl))
    clear hah0 hb hR hbx hN hg hst hc
    go_wp2
    refine bodyPost_ret (v := .agg #[.int .u32 0, .int .u32 0]) ?_ rfl ?_
    · simp [results, Tryz.results54, go_sem, cell_of_block hN4.out 0, cell_of_block hN4.out 1]
    · unfold RLinePost
      rw [HST.out]
      have hBL : B ≤ L := by have := HRL.out; have := HBR.out; omega
      have hrs : RdS R B most (.error 4) (w2.setCell ⟨R, 2, .none⟩ (.int .i64 4)) := ⟨a, n, c, 4, bs', HE.out.1, HH.out, HNB.out, rfl, by decide⟩
      exact ⟨grown_new (grown_new (but_trans HG.out HE.out.2) (by rw [HL.out]; exact Nat.le_refl _)) (by rw [HL.out]; exact Nat.le_refl _), (hrs.set HLR.out hBL).set HLR.out hBL, rfl⟩
  · have hzl : z = line.length + 1 := HZ.out.trans hzl
    have hah : ahead (bs'.take z) = line.length := by rw [HZ.out]; exact hah
    have htk : (bs'.take z).take line.length = line := by rw [HZ.out]; exact htk
    have hdr : bs'.drop z = rest := by rw [HZ.out]; exact hdr
    obtain ⟨k, hk⟩ : ∃ k, k = line.length := ⟨_, rfl⟩
    rw [← hk] at hzl hah htk hll
    have hst : ∀ er, numsErr line 1 many most = er → lineSt most many (.ok bs') = if er = 0 then (((numsOf line most).getD 0 0, (numsOf line most).getD 1 0), .ok rest) else ((0, 0), .error er) := by
      intro er he; subst he; simp only [lineSt, hc]
    intro e w2 hp
    rcases hp with ⟨_, v1, v2, rfl, hr1, _, hb⟩ | ⟨hh, _⟩
    case inr => omega
    rw [hah, htk] at hr1
    obtain ⟨a1, c1, rfl, _, s1⟩ := hr1.sees
    have hcap := HR0.out.sees.cap
    obtain ⟨a3, ec, see⟩ := HR0.out.sees.cut z n HZN.out (Nat.le_refl n)
    have q := fun W => (run_from (P := Tryz.prog) Tryz.underlying27 size_u8 W a n c z (z : Int) rfl HZN.out).trans (congrArg (fun v => Result.ok v W) (show sliced a z n c 1 = _ from ec))
    have HBK := Lib.hid (sliced_block (show sliced a z n c 1 = _ from ec))
    have see3 : Sees w2 a3 (n - z) (c - z) (rest.map bv) := by
      have e : (rest.map bv) = List.drop z (List.take n (bs'.map bv)) := by rw [List.take_of_length_le (by rw [List.length_map]; have := HLN.out; omega), ← List.map_drop, hdr]
      rw [e]; exact see.below hb
    have hR := (HR0.out.sees.below hb)
    have hbx := heap_below HR0.out.box hb
    have hN := heap_below HN0.out hb
    have hg := but_below HG0.out hb
    have HRD := (⟨hbx, hR, HR0.out.ne⟩ : Rdr R a n c most 0 bs' w2)
    have hne3 : ∀ b, a3.map Addr.block = some b → b ≠ R := fun b hb => HR0.out.ne b (by rw [← HBK.out]; exact hb)
    have HM := Lib.hid (HRD.move see3 hne3)
    have d0 := cell_of_block hbx 0
    have d1 := cell_of_block hbx 1
    have f0 := unfrozen_of_block hbx 0
    have h1b := row_base2 hr1
    have HS1 := Lib.hid (sees_but s1 HM.out.2 (fun b off e => by have := h1b b (by rw [e]; rfl); have := HRL.out; have := HL.out; have := HG0.out.size; omega))
    have hNR : L ≠ R := by have := HRL.out; omega
    have HN3 := Lib.hid (heap_grown hN HM.out.2 (by intro e; cases e; exact hNR rfl))
    have HG3 := Lib.hid (but_trans hg HM.out.2)
    have HST := Lib.hid hst
    have HK : Hid (k ≤ n ∧ z = k + 1) := by have := HLN.out; refine ⟨by omega, hzl⟩
    have HKL := Lib.hid hk
    clear hk
    clear hah htk hdr hll hst hr1 s1 hcap see see3 hR hbx hN hg HRD hne3 h1b hNR hb hc hzl ec
    go_wp2_with fail
    obtain ⟨W3, hW3⟩ : ∃ W3, W3 = w2.setCell ⟨R, 0, .none⟩ (.slice a3 (n - z) (c - z)) := ⟨_, rfl⟩
    rw [← hW3] at HM HS1 HN3 HG3 ⊢
    have HW3 := Lib.hid hW3
    clear hW3
    refine (numbers_any line a1 k c1 1 many most W3 HS1.out (by have := HK.out; have := HNB.out; omega) hm).mono ?_
    rintro e w4 ⟨hb4, hp⟩
    have hbx4 := heap_below HM.out.1.box hb4
    have hRD4 : Rdr R a3 (n - z) (c - z) most 0 rest w4 := ⟨hbx4, HM.out.1.sees.below hb4, HM.out.1.ne⟩
    have hN4 := heap_below HN3.out hb4
    have hg4 := but_below HG3.out hb4
    have hLt : L < W3.heap.size := heap_lt HN3.out
    have t0 := cell_of_block hN4 0
    have t1 := cell_of_block hN4 1
    have t2 := cell_of_block hbx4 2
    have u0 := unfrozen_of_block hN4 0
    have u1 := unfrozen_of_block hN4 1
    have u2 := unfrozen_of_block hbx4 2
    have hBL : B ≤ L := by have := HRL.out; have := HBR.out; omega
    have hLR : L ≠ R := by have := HRL.out; omega
    rcases hp with ⟨h0, rfl⟩ | ⟨h0, v, rfl, hrow⟩
    · have hst := HST.out _ rfl
      rw [if_neg h0] at hst
      obtain ⟨er, her⟩ : ∃ er, er = numsErr line 1 many most := ⟨_, rfl⟩
      rw [← her] at hst h0 ⊢
      have cp := fun ty => run_copy_nil (P := Tryz.prog) w4 24 24 ty 35 ⟨L, 0, none⟩ 2 2 Tryz.underlying24 (by kernel_rfl)
      have hE := hRD4.err er
      have HE := Lib.hid hE
      have HS4 := Lib.hid hst
      have H0 := Lib.hid h0
      have HG4 := Lib.hid hg4
      have HBL := Lib.hid hBL
      have HLR := Lib.hid hLR
      have HN4 := Lib.hid hN4
      clear hb4 hbx4 hRD4 hN4 hg4 hLt hst h0 her hE hBL hLR
      have hN5 := Lib.hid (heap_grown HN4.out HE.out.2 (by intro e; cases e; exact HLR.out rfl))
      go_wp2
      refine bodyPost_ret (v := .agg #[.int .u32 0, .int .u32 0]) ?_ rfl ?_
      · simp [results, Tryz.results54, go_sem, cell_of_block hN5.out 0, cell_of_block hN5.out 1]
      · unfold RLinePost
        rw [HS4.out]
        have hrs : RdS R B most (.error er) (w4.setCell ⟨R, 2, .none⟩ (.int .i64 er)) := ⟨a3, n - z, c - z, er, rest, HE.out.1, fun b hb => HH.out b (by rw [← HBK.out]; exact hb), by have := HNB.out; omega, rfl, H0.out⟩
        have hLW : w.heap.size ≤ L := by rw [HL.out]; exact Nat.le_refl _
        exact ⟨grown_new (grown_new (but_trans HG4.out HE.out.2) hLW) hLW, (hrs.set HLR.out HBL.out).set HLR.out HBL.out, rfl⟩
    · have hst := HST.out _ h0
      rw [if_pos rfl] at hst
      obtain ⟨g1, g2⟩ := nums_len h0
      obtain ⟨a5, c5, rfl, _, s5⟩ := hrow.sees
      obtain ⟨xs, hxs⟩ : ∃ xs, xs = numsOf line most := ⟨_, rfl⟩
      rw [← hxs] at hst g1 g2 s5 ⊢
      obtain ⟨m, hmm⟩ : ∃ m, m = xs.length := ⟨_, rfl⟩
      rw [← hmm] at g1 g2 s5 ⊢
      obtain ⟨x0, hx0⟩ : ∃ x, x = xs.getD 0 0 := ⟨_, rfl⟩
      obtain ⟨x1, hx1⟩ : ∃ x, x = xs.getD 1 0 := ⟨_, rfl⟩
      have cp := fun ty => copy2 hN4 s5 g1 (by have := hmany.2; omega) ty
      rw [← hx0, ← hx1] at cp hst
      obtain ⟨W5, hW5⟩ : ∃ W5, W5 = w4.setRow L #[nv32 x0, nv32 x1] := ⟨_, rfl⟩
      have hN5 : W5.heap[L]? = some (.cells #[nv32 x0, nv32 x1] 96 (0, 0)) := by rw [hW5]; exact setRow_heap w4 L _ _ _ _ hN4
      have hR5 : RdS R B most (.ok rest) W5 := by
        have h : RdS R B most (.ok rest) w4 := ⟨a3, n - z, c - z, 0, rest, hRD4, fun b hb => HH.out b (by rw [← HBK.out]; exact hb), by have := HNB.out; omega, rfl, rfl⟩
        rw [hW5]
        exact h.keep (fun b hb => setRow_other w4 L b _ (by omega)) (by simp)
      have hLW : w.heap.size ≤ L := by rw [HL.out]; exact Nat.le_refl _
      have hg5 : w.grownBy W5 (some R) := by rw [hW5]; exact grown_newrow hg4 hLW
      rw [← hW5] at cp
      obtain ⟨a6, n6, c6, er6, bs6, hr6, hb6, hn6, rfl, rfl⟩ := hR5
      have y2 := cell_of_block hr6.box 2
      have v2 := unfrozen_of_block hr6.box 2
      have y0 := cell_of_block hN5 0
      have y1 := cell_of_block hN5 1
      have v0 := unfrozen_of_block hN5 0
      have v1 := unfrozen_of_block hN5 1
      have HE := Lib.hid (hr6.err 0)
      have HS5 := Lib.hid hst
      have HG5 := Lib.hid hg5
      have HBL := Lib.hid hBL
      have HLR := Lib.hid hLR
      have HN5 := Lib.hid hN5
      have HB6 := Lib.hid hb6
      have HN6 := Lib.hid hn6
      have HLW := Lib.hid hLW
      clear hb4 hbx4 hRD4 hN4 hg4 hLt hst h0 hBL hLR g1 g2 s5 hrow hxs hmm hx0 hx1 hW5 hN5 hg5 hr6 hb6 hn6 hLW t0 t1 t2 u0 u1 u2
      have hN6 := Lib.hid (heap_grown HN5.out HE.out.2 (by intro e; cases e; exact HLR.out rfl))
      unfold nv32 at y0 y1
      go_wp2
      refine bodyPost_ret (v := .agg #[.int .u32 x0, .int .u32 x1]) ?_ rfl ?_
      · have h6 := cell2_set hN6.out rfl (.int .u32 x0) (.int .u32 x1)
        simp [results, Tryz.results54, go_sem, cell_of_block h6 0, cell_of_block h6 1]
      · unfold RLinePost
        rw [HS5.out]
        have hrs : RdS R B most (.ok bs6) (W5.setCell ⟨R, 2, .none⟩ (.int .i64 0)) := ⟨a6, n6, c6, 0, bs6, HE.out.1, HB6.out, HN6.out, rfl, rfl⟩
        exact ⟨grown_new (grown_new (but_trans HG5.out HE.out.2) HLW.out) HLW.out, (hrs.set HLR.out HBL.out).set HLR.out HBL.out, rfl⟩
theorem rline_any (R B most : Nat) (many : Int) (st : St) (w : World) (h : RdS R B most st w) (hBR : B ≤ R) (hmany : 1 ≤ many ∧ many ≤ 2) (hm : most < 4294967296) :
    Calls Tryz.prog 54 #[.pointer (some ⟨R, 0, none⟩), .int .i64 many] w (RLinePost R B most many st w) := by
  cases st with
  | error er => exact rline_err R B most many er w h hBR
  | ok bs => exact rline_ok R B most many bs w h hBR hmany hm
end Go.Proofs.YtglhnmbfkbjemaaGreatDoor
/- Rows of elements of any size, that are owned. -/
namespace Go.Proofs.YtglhnmbfkbjemaaGreatDoor
open Go Go.RowKit Go.Joins
section
variable {w w' : World} {base k : Nat} {e : TypeId} {v : Value} {n : Nat} {xs : List Value}
theorem ownsN_below (h : w.ownsRow base e k v n xs) (hb : Below w.heap.size w w') : w'.ownsRow base e k v n xs := by
  refine ⟨h.1, ?_⟩
  rcases h.2 with h2 | ⟨g, cap, cur, hv, hg, hh, r⟩
  · exact .inl h2
  · exact .inr ⟨g, cap, cur, hv, hg, heap_below hh hb, r⟩
theorem ownsN_base {base' : Nat} (h : w.ownsRow base e k v n xs) (hb : base' ≤ base) : w.ownsRow base' e k v n xs := by
  refine ⟨h.1, ?_⟩
  rcases h.2 with h2 | ⟨g, cap, cur, hv, hg, r⟩
  · exact .inl h2
  · exact .inr ⟨g, cap, cur, hv, Nat.le_trans hb hg, r⟩
theorem ownsN_form (h : w.ownsRow base e k v n xs) : ∃ a c, v = .slice a n c := by
  rcases h.2 with ⟨rfl, rfl⟩ | ⟨g, cap, cur, rfl, _⟩
  · exact ⟨_, _, rfl⟩
  · exact ⟨_, _, rfl⟩
theorem ownsN_notown (h : w.ownsRow base e k v n xs) {D : Nat} {C : Array Value} {t : TypeId} {fr : Nat × Nat} (hD : w.heap[D]? = some (.cells C t fr)) (ht : t ≠ e) : v.ownBlock ≠ some D := by
  rcases h.2 with ⟨rfl, _⟩ | ⟨g, cap, cur, rfl, _, hg, _⟩
  · intro e; cases e
  · intro he
    have : g = D := by simpa [Value.ownBlock] using he
    subst this
    rw [hg] at hD
    cases hD
    exact ht rfl
theorem ownsN_nil (w : World) (base : Nat) (e : TypeId) (k : Nat) : w.ownsRow base e k (.slice none 0 0) 0 [] := ⟨by simp, .inl ⟨rfl, rfl⟩⟩
theorem ownsN_low (h : w.ownsRow base e k v n xs) (hg : w.grownBy w' v.ownBlock) (hb : base ≤ w.heap.size) : Below base w w' :=
  (Below.refl base w).grown hg hb (fun k hk => (h.lt k hk).1)
end
end Go.Proofs.YtglhnmbfkbjemaaGreatDoor
/- Steps of drawn regions; small facts of worlds and rows. -/
namespace Go.Proofs.YtglhnmbfkbjemaaGreatDoor
open Go Go.RowKit Go.Joins
theorem ownsN_other {w w' : World} {base k : Nat} {e : TypeId} {v : Value} {n : Nat} {xs : List Value} (h : w.ownsRow base e k v n xs) (hk : ∀ k, v.ownBlock = some k → w'.heap[k]? = w.heap[k]?) : w'.ownsRow base e k v n xs := by
  refine ⟨h.1, ?_⟩
  rcases h.2 with h2 | ⟨g, cap, cur, rfl, hg, hh, r⟩
  · exact .inl h2
  · exact .inr ⟨g, cap, cur, rfl, hg, (hk g rfl).trans hh, r⟩
theorem below_step {B : Nat} {a b c : World} (h : Below B a b) (k : Below b.heap.size b c) (hs : B ≤ b.heap.size) : Below B a c := h.trans (k.mono hs)
theorem heap_newD (X : World) (o : Obj) : (X.alloc o).drew.heap[X.heap.size]? = some o := heap_new X o _ rfl
theorem step_append_own_at {P : Program} {ops : Array Oper} {o : Oper} {a : Act} {w : World} {K : Act → World → Prop} {Q : Exit → Act → World → Prop} {E : Prop} (hgd : o.guard = none) (s x : Operand) (t : TypeId)
    (ho : o.op = .call { callee := .builtin .append, args := #[s, x], argTypes := #[t, t] })
    (base : Nat) (e : TypeId) (i : TypeInfo) (z : Value) (size bytes : Nat) (ht : P.underlying t = some (.slice e)) (hi : P.info? e = some i) (hz : i.zero = some z)
    (hsize : i.size = size) (hby : i.bytes = bytes) (hzs : z.cells.size = size) (hsz : 0 < size)
    (v : Value) (n : Nat) (xs : List Value) (hs : a.eval s = v) (hown : w.ownsRow base e size v n xs)
    (ad : Addr) (m c : Nat) (news : List Value) (hx : a.eval x = .slice (some ad) m c) (hl : news.length = m * size) (hnews : ∀ j u, news[j]? = some u → w.cell? (ad.add j) = some u) (h1 : ∀ u ∈ news, u.oneCell' = true)
    (h63 : n + m ≤ maxLen) (hbytes : (n + m) * bytes ≤ 140737488355328) (hbase : base ≤ w.heap.size)
    (h : ∀ v' w', w'.ownsRow base e size v' (n + m) (xs ++ news) → w.grownBy w' v.ownBlock → K (a.put o.dst v') w') :
    if Region.wanted o (yielded ops a.tmps) = true then Oper.wp P o a w K Q else E := by
  have hw : Region.wanted o (yielded ops a.tmps) = true := by simp [Region.wanted, hgd]
  rw [if_pos hw]
  obtain ⟨v', w', hr, h2, h3, _⟩ := run_append_own_at (P := P) w base t o.type e i z size bytes ht hi hz hsize hby hzs hsz v n xs hown ad m c news hl hnews h1 h63 hbytes hbase
  unfold Oper.wp execOp
  simp only [ho, resolve, invoke, builtin, Sem.run_bind, Sem.run_pure, Result.andThen_ok, List.map_toArray, List.map_cons, List.map_nil, hs, hx, hr]
  exact h v' w' h2 h3
theorem row_grown {ok : Value → Prop} {w w' : World} {base : Nat} {e : TypeId} {v : Value} {n : Nat} {xs : List Value} (h : Row ok w base e v n xs) {base2 k m : Nat} {T : TypeId} {u : Value} {ys : List Value} (hr : w.ownsRow base2 T k u m ys) (hg : w.grownBy w' u.ownBlock) (ht : e ≠ T) : Row ok w' base e v n xs := by
  refine h.other fun j hj => ?_
  have hlt := (h.own.lt j hj).2
  refine hg.block j hlt ?_
  intro e'
  rcases h.2 with ⟨rfl, _⟩ | ⟨g, cap, cur, rfl, _, hh, _⟩
  · cases hj
  · have : g = j := by simpa [Value.ownBlock] using hj
    subst this
    exact (ownsN_notown hr hh ht) e'.symm
theorem owns_grown {w w' : World} {base kk : Nat} {e : TypeId} {v : Value} {n : Nat} {xs : List Value} (h : w.ownsRow base e kk v n xs) {base2 k m : Nat} {T : TypeId} {u : Value} {ys : List Value} (hr : w.ownsRow base2 T k u m ys) (hg : w.grownBy w' u.ownBlock) (ht : e ≠ T) : w'.ownsRow base e kk v n xs := by
  refine ownsN_other h fun j hj => ?_
  have hlt := (h.lt j hj).2
  refine hg.block j hlt ?_
  intro e'
  rcases h.2 with ⟨rfl, _⟩ | ⟨g, cap, cur, rfl, _, hh, _⟩
  · cases hj
  · have : g = j := by simpa [Value.ownBlock] using hj
    subst this
    exact (ownsN_notown hr hh ht) e'.symm
structure But2 (base U T : Nat) (w w' : World) : Prop where
  os : w'.os = w.os
  tape : w'.tape = w.tape
  output : w'.output = w.output
  size : w.heap.size ≤ w'.heap.size
  block : ∀ D, D < base → D ≠ U → D ≠ T → w'.heap[D]? = w.heap[D]?
theorem But2.refl (base U T : Nat) (w : World) : But2 base U T w w := ⟨rfl, rfl, rfl, Nat.le_refl _, fun _ _ _ _ => rfl⟩
theorem But2.trans {base U T : Nat} {a b c : World} (h : But2 base U T a b) (k : But2 base U T b c) : But2 base U T a c :=
  ⟨k.os.trans h.os, k.tape.trans h.tape, k.output.trans h.output, Nat.le_trans h.size k.size, fun D h1 h2 h3 => (k.block D h1 h2 h3).trans (h.block D h1 h2 h3)⟩
theorem But2.of_below {base U T : Nat} {w w' : World} (h : Below base w w') : But2 base U T w w' := ⟨h.os, h.tape, h.output, h.size, fun D h1 _ _ => h.block D h1⟩
theorem But2.low {base U T B : Nat} {w w' : World} (h : But2 base U T w w') (hB : B ≤ base) (hU : B ≤ U) (hT : B ≤ T) : Below B w w' :=
  ⟨h.os, h.tape, h.output, h.size, fun D hD => h.block D (by omega) (by omega) (by omega)⟩
theorem But2.at {base U T : Nat} {w w' : World} (h : But2 base U T w w') {D : Nat} {o : Obj} (hD : w.heap[D]? = some o) (h1 : D < base) (h2 : D ≠ U) (h3 : D ≠ T) : w'.heap[D]? = some o := (h.block D h1 h2 h3).trans hD
theorem cell_set6 {w : World} {G b k : Nat} {v u0 u1 u2 u3 u4 u5 : Value} (h : w.cell? ⟨b, k, none⟩ = some v) (hne : b ≠ G) :
    ((((((w.setCell ⟨G, 0, .none⟩ u0).setCell ⟨G, 1, .none⟩ u1).setCell ⟨G, 2, .none⟩ u2).setCell ⟨G, 3, .none⟩ u3).setCell ⟨G, 4, .none⟩ u4).setCell ⟨G, 5, .none⟩ u5).cell? ⟨b, k, none⟩ = some v := by
  have ne : ∀ j, (⟨G, j, none⟩ : Addr) ≠ ⟨b, k, none⟩ := fun j e => hne (by cases e; rfl)
  rw [World.cell?_setCell_other _ _ _ _ (ne 5), World.cell?_setCell_other _ _ _ _ (ne 4), World.cell?_setCell_other _ _ _ _ (ne 3), World.cell?_setCell_other _ _ _ _ (ne 2), World.cell?_setCell_other _ _ _ _ (ne 1), World.cell?_setCell_other _ _ _ _ (ne 0)]
  exact h
theorem cell_drew {w : World} {a : Addr} {v : Value} (h : w.cell? a = some v) : w.drew.cell? a = some v := h
theorem cell_row {w : World} {G b k : Nat} {v : Value} {C : Array Value} (h : w.cell? ⟨b, k, none⟩ = some v) (hne : b ≠ G) : (w.setRow G C).cell? ⟨b, k, none⟩ = some v := by
  have one : (w.setRow G C).cell? ⟨b, k, none⟩ = w.cell? ⟨b, k, none⟩ := World.cell?_of_block (setRow_other w G b C hne)
  exact one.trans h
def ncells (t : List Nat) : Array Value := (t.map nv32).toArray
theorem ncells_get (t : List Nat) (i : Nat) (h : i < t.length) : (ncells t)[i]? = some (.int .u32 (t.getD i 0 : Nat)) := by
  simp [ncells, nv32, List.getD, List.getElem?_eq_getElem h]
theorem ncells_set (t : List Nat) (i x : Nat) : (ncells t).setIfInBounds i (.int .u32 x) = ncells (t.set i x) := by
  apply Array.ext'
  simp [ncells, nv32]
theorem ncells_zero (m : Nat) : zeros (.int .u32 0) m = ncells (List.replicate m 0) := by
  simp [zeros, ncells, nv32]
theorem run_make_u32 {P : Program} {t e : TypeId} {i : TypeInfo} {z : Value} {bytes : Nat} (ht : P.underlying t = some (.slice e)) (hi : P.info? e = some i) (hz : i.zero = some z)
    (hsize : i.size = 1) (hby : i.bytes = bytes) (hzs : z.cells = #[z]) (m : Nat) (y : Int) (hy : y = (m : Int)) (hb : (bytes : Int) * (m : Int) ≤ 281474976710656) (hm : m ≤ 1000000000000) (W : World) :
    (Instr.makeSlice t (.int .u32 y) (.int .u32 y)).run P W = .ok (.slice (some ⟨W.heap.size, 0, none⟩) m m) (W.alloc (.cells (zeros z m) e)) := by
  subst hy
  have h := run_make (P := P) W t e i z ht hi hz .u32 .u32 (m : Int) (m : Int) (by omega) (Int.le_refl _) (by rw [hby]; exact hb) (by omega)
  rw [h, hzs, hsize, Int.toNat_natCast, Nat.mul_one]
  have e : madeCells #[z] m = zeros z m := by
    apply Array.ext'
    rw [toList_madeCells_one]; simp [zeros]
  rw [e]
end Go.Proofs.YtglhnmbfkbjemaaGreatDoor
/- (*bin.reader).literals, by its contract. -/
namespace Go.Proofs.YtglhnmbfkbjemaaGreatDoor
open Go Go.RowKit Go.Joins
def litsSt (most : Nat) : Nat → St → List Nat × St
  | 0, st => ([], st)
  | k + 1, st => ((lineSt most 1 st).1.1 :: (litsSt most k (lineSt most 1 st).2).1, (litsSt most k (lineSt most 1 st).2).2)
theorem litsSt_len (most : Nat) : ∀ (k : Nat) (st : St), (litsSt most k st).1.length = k
  | 0, _ => rfl
  | k + 1, st => by rw [litsSt, List.length_cons, litsSt_len most k]
theorem getD_le {most : Nat} (l : List UInt8) (i : Nat) : (numsOf l most).getD i 0 ≤ most := by
  unfold numsOf
  rw [List.getD_eq_getElem?_getD, List.getElem?_map]
  cases ((wordsOf l).getD [])[i]? with
  | none => simp
  | some y => simpa using numOf_le y most
theorem lineSt_le (most : Nat) (many : Int) (st : St) : (lineSt most many st).1.1 ≤ most ∧ (lineSt most many st).1.2 ≤ most := by
  unfold lineSt
  split
  · exact ⟨Nat.zero_le _, Nat.zero_le _⟩
  · split
    · exact ⟨Nat.zero_le _, Nat.zero_le _⟩
    · split
      · exact ⟨getD_le _ _, getD_le _ _⟩
      · exact ⟨Nat.zero_le _, Nat.zero_le _⟩
theorem row_ncells {w : World} {D n : Nat} {ls : List Nat} (base : Nat) (hb : base ≤ D) (h : w.heap[D]? = some (.cells (ncells ls) 35 (0, 0))) (hn : ls.length = n) (hl : n ≤ 1000000) (h32 : ∀ x ∈ ls, x < 4294967296) :
    Row isU32 w base 35 (.slice (some ⟨D, 0, .none⟩) n n) n (ls.map nv32) := by
  refine ⟨by simp [hn], .inr ⟨D, n, _, rfl, hb, h, Nat.le_refl _, by unfold maxLen; omega, by simp [ncells, hn], ?_, ?_⟩⟩
  · simp [ncells, ← hn, List.take_of_length_le]
  · intro u hu
    simp only [ncells] at hu
    obtain ⟨x, hx, rfl⟩ := List.mem_map.1 (by simpa using hu : u ∈ ls.map nv32)
    exact ⟨x, h32 x hx, rfl⟩
set_option maxRecDepth 100000 in
set_option maxHeartbeats 1600000 in
theorem literals_any (R B most count : Nat) (st : St) (w : World) (h : RdS R B most st w) (hBR : B ≤ R) (hc : count ≤ 100000) (hm : most < 4294967296) :
    Calls Tryz.prog 25 #[.pointer (some ⟨R, 0, none⟩), .int .u32 count] w fun e w' => ∃ v, e = .returned v ∧ Row isU32 w' w.heap.size 35 v count ((litsSt most count st).1.map nv32) ∧ RdS R B most (litsSt most count st).2 w' ∧ w.grownBy w' (some R) := by
  obtain ⟨i0, hi, hz0, hz1, hz2⟩ := info_parts info_u32
  have mk := fun W => run_make_u32 (P := Tryz.prog) Tryz.underlying24 hi hz0 hz1 hz2 rfl count (count : Int) rfl (by omega) (by omega) W
  rw [ncells_zero] at mk
  have hlt := h.lt
  obtain ⟨D, hD⟩ : ∃ D, D = w.heap.size := ⟨_, rfl⟩
  have mk1 := mk w
  rw [← hD] at mk1 ⊢
  have HRD : Hid (R ≠ D ∧ B ≤ D) := ⟨by omega, by omega⟩
  have HBR := Lib.hid hBR
  have H0 : Hid (RdS R B most st (w.alloc (.cells (ncells (List.replicate count 0)) 35))) := h.below hBR (ext_alloc _ _)
  have HD0 : Hid ((w.alloc (.cells (ncells (List.replicate count 0)) 35)).heap[D]? = some (.cells (ncells (List.replicate count 0)) 35 (0, 0))) := heap_new _ _ _ hD
  have HG0 : Hid (w.grownBy (w.alloc (.cells (ncells (List.replicate count 0)) 35)) (some R)) := but_below (World.grownBy.refl _ _) (ext_alloc _ _)
  have HDW : Hid (D = w.heap.size) := hD
  clear mk hlt h hBR hD hi hz0 hz1 hz2
  go_enter Tryz.func25, Tryz.ntmps25
  go_wp2
  go_loopw [6, 11] (fun i j wr => ∃ (k : Nat) (acc : List Nat) (stk : St), k ≤ count ∧ j = .int .i64 k ∧ Hid (acc.length = k ∧ litsSt most count st = (acc ++ (litsSt most (count - k) stk).1, (litsSt most (count - k) stk).2)) ∧ Hid (RdS R B most stk wr) ∧
      Hid (wr.heap[D]? = some (.cells (ncells (acc ++ List.replicate (count - k) 0)) 35 (0, 0))) ∧ Hid (w.grownBy wr (some R)) ∧ Hid (∀ x ∈ acc, x < 4294967296))
    (fun _ j _ => count - (intOf j).toNat)
  case atStart => exact ⟨0, [], st, Nat.zero_le _, rfl, ⟨rfl, rfl⟩, H0, HD0, HG0, fun x hx => by cases hx⟩
  case round =>
    obtain ⟨k, acc, stk, hk, rfl, hl, hR, hDh, hG, h32⟩ := hrel
    by_cases hlt : k < count
    · obtain ⟨q, hq⟩ : ∃ q, count - k = q + 1 := ⟨count - k - 1, by omega⟩
      have HL1 := RLinePost R B most 1 stk wr
      have HC := Lib.hid (rline_any R B most 1 stk wr hR.out HBR.out (by omega) hm)
      have HQ := Lib.hid hq
      clear hq
      go_wp2_with fail
      refine HC.out.mono ?_
      rintro e w1 ⟨hg1, hR1, rfl⟩
      obtain ⟨x, hx⟩ : ∃ x, x = (lineSt most 1 stk).1.1 := ⟨_, rfl⟩
      obtain ⟨y, hy⟩ : ∃ y, y = (lineSt most 1 stk).1.2 := ⟨_, rfl⟩
      obtain ⟨s1, hs1⟩ : ∃ s, s = (lineSt most 1 stk).2 := ⟨_, rfl⟩
      have hx32 : x < 4294967296 := by have := (lineSt_le most 1 stk).1; omega
      have hstep : litsSt most (q + 1) stk = (x :: (litsSt most q s1).1, (litsSt most q s1).2) := by rw [litsSt, ← hx, ← hs1]
      rw [← hx, ← hy]
      rw [← hs1] at hR1
      have hD1 : w1.heap[D]? = some (.cells (ncells (acc ++ List.replicate (q + 1) 0)) 35 (0, 0)) := by
        rw [← HQ.out]; exact heap_grown hDh.out hg1 (by intro e; cases e; exact HRD.out.1 rfl)
      have hlen : (acc ++ List.replicate (q + 1) 0).length = count := by have := HQ.out; have := hl.out.1; simp; omega
      have cD := cell_of_block hD1 k
      have fD := unfrozen_of_block hD1 k
      rw [ncells_get _ _ (by omega)] at cD
      have hD2 : (w1.setCell ⟨D, k, .none⟩ (.int .u32 x)).heap[D]? = some (.cells (ncells ((acc ++ [x]) ++ List.replicate (count - (k + 1)) 0)) 35 (0, 0)) := by
        have h1 := block_setCell hD1 (i := k) (.int .u32 x)
        rw [ncells_set] at h1
        rw [h1]
        have hq2 : count - (k + 1) = q := by have := HQ.out; omega
        have hl1 : acc.length = k := hl.out.1
        rw [hq2]
        congr 3
        rw [← hl1, List.set_append_right _ _ (Nat.le_refl _), Nat.sub_self, List.replicate_succ, List.set_cons_zero]
        simp
      have hw : w.heap.size ≤ D := by rw [HDW.out]; exact Nat.le_refl _
      have HR2 := Lib.hid (hR1.set (j := k) (v := .int .u32 x) (Ne.symm HRD.out.1) HRD.out.2)
      have HD2 := Lib.hid hD2
      have HG2 := Lib.hid (grown_new (v := .int .u32 x) (j := k) (but_trans hG.out hg1) hw)
      have HX := Lib.hid hx32
      have HL2 : Hid ((acc ++ [x]).length = k + 1 ∧ litsSt most count st = ((acc ++ [x]) ++ (litsSt most (count - (k + 1)) s1).1, (litsSt most (count - (k + 1)) s1).2)) := by
        have hq2 : count - (k + 1) = q := by have := HQ.out; omega
        refine ⟨by simp [hl.out.1], ?_⟩
        rw [hl.out.2, HQ.out, hstep, hq2]
        simp
      have H32 : Hid (∀ z ∈ acc ++ [x], z < 4294967296) := by
        intro z hz
        rcases List.mem_append.1 hz with h | h
        · exact h32.out z h
        · rw [List.mem_singleton.1 h]; exact HX.out
      have W1 : IntKind.i64.wrap ((k : Int) + 1) = (k : Int) + 1 := IntWalk.i64_in _ (by omega)
      clear hg1 hR1 hx hy hs1 hx32 hstep hD1 hlen hD2 hw hl hR hDh hG h32
      have ix : ∀ W, (Instr.index 96 (.agg #[.int .u32 (x : Int), .int .u32 (y : Int)]) (.int .i64 0)).run Tryz.prog W = .ok (.int .u32 (x : Int)) W := fun _ => by kernel_rfl
      unfold nv32
      go_wp2
      go_roundw
      case rel => exact ⟨k + 1, acc ++ [x], s1, by omega, by go_num, HL2, HR2, HD2, HG2, H32⟩
      case measure => simp [intOf]; omega
    · obtain rfl : count = k := by omega
      have hll : litsSt most count st = (acc, stk) := by
        have := hl.out.2
        rw [Nat.sub_self] at this
        simpa [litsSt] using this
      have HLL := Lib.hid hll
      have HLN := Lib.hid hl.out.1
      have hrow : Row isU32 wr D 35 (.slice (some ⟨D, 0, .none⟩) count count) count (acc.map nv32) := by
        have h := hDh.out
        rw [Nat.sub_self, List.replicate_zero, List.append_nil] at h
        exact row_ncells D (Nat.le_refl _) h HLN.out (by omega) h32.out
      have HRW := Lib.hid hrow
      have HR := Lib.hid hR.out
      have HG := Lib.hid hG.out
      clear hll hrow hl hR hDh hG h32
      go_wp2
      go_ret
      rw [HLL.out]
      exact ⟨_, rfl, HRW.out, HR.out, HG.out⟩
end Go.Proofs.YtglhnmbfkbjemaaGreatDoor
/- Package norm, on plain lists: what defines, what is referred to, the order of gates, the circuit of a raw circuit. -/
namespace Go.Proofs.YtglhnmbfkbjemaaGreatDoor
open Go Go.RowKit
structure NormC where
  ins : Int
  lats : List (Nat × Nat)
  gates : List (Nat × Nat)
  outs : List Nat
  bads : List Nat
  cons : List Nat
deriving DecidableEq
def gate1 (t : Tri) : List Nat := [t.2.1, t.2.2]
def ownsL (r : RawC) : List Nat := r.ins ++ (r.lats.map (·.1) ++ r.gates.map (·.1))
def refsL (r : RawC) : List Nat := (r.outs ++ (r.bads ++ r.cons)) ++ (r.lats.map (·.2.1) ++ r.gates.flatMap gate1)
def defsF : List Bool → List Nat → Option (List Bool)
  | d, [] => some d
  | d, x :: r => if x % 2 = 1 then none else if d.getD (x / 2) false = true then none else defsF (d.set (x / 2) true) r
def defs0 (m : Nat) : List Bool := (List.replicate (m + 1) false).set 0 true
def defsS (r : RawC) : Option (List Bool) := defsF (defs0 r.max) (ownsL r)
def missing (d : List Bool) (x : Nat) : Bool := !d.getD (x / 2) false
def isG (gs : List Tri) (v : Nat) : Bool := gs.any (fun g => g.1 / 2 == v)
def waitsFor (gs : List Tri) (nd : List Nat) (x : Nat) : Nat := if isG gs (x / 2) = true then (if nd.contains (x / 2) = true then 0 else 1) else 0
def gAt (gs : List Tri) (i : Nat) : Tri := gs.getD i (0, 0, 0)
def varAt (gs : List Tri) (i : Nat) : Nat := (gAt gs i).1 / 2
def wt (gs : List Tri) (nd : List Nat) (i : Nat) : Nat := waitsFor gs nd (gAt gs i).2.1 + waitsFor gs nd (gAt gs i).2.2
def readyB (gs : List Tri) (nd : List Nat) (i : Nat) : Bool := !nd.contains (varAt gs i) && decide (wt gs nd i = 0)
def orderF (gs : List Tri) : Nat → List Nat → List Tri
  | 0, _ => []
  | f + 1, nd => match (List.range gs.length).find? (readyB gs nd) with
    | none => []
    | some i => gAt gs i :: orderF gs f (nd ++ [varAt gs i])
def inOrderS (gs : List Tri) : List Tri := orderF gs gs.length []
def toF : List Nat → Nat → List Nat → List Nat
  | t, _, [] => t
  | t, i, x :: r => toF (t.set (x / 2) (2 * (1 + i))) (i + 1) r
def toS (r : RawC) : List Nat := toF (List.replicate (r.max + 1) 0) 0 (ownsL r)
def nowS (t : List Nat) (x : Nat) : Nat := t.getD (x / 2) 0 + x % 2
def resetS (l : Tri) : Nat := if l.2.2 = l.1 then 2 else l.2.2 % 256
def latS3 (t : List Nat) (l : Tri) : Nat × Nat := (nowS t l.2.1, resetS l)
def gateS3 (t : List Nat) (g : Tri) : Nat × Nat := (max (nowS t g.2.1) (nowS t g.2.2), min (nowS t g.2.1) (nowS t g.2.2))
def renumS (r : RawC) : NormC := ⟨r.ins.length, r.lats.map (latS3 (toS r)), r.gates.map (gateS3 (toS r)), r.outs.map (nowS (toS r)), r.bads.map (nowS (toS r)), r.cons.map (nowS (toS r))⟩
def ofS (r : RawC) : Except Int NormC :=
  if mayRaw r = false then .error 2 else
  match defsS r with
  | none => .error 8
  | some d => if (refsL r).any (missing d) = true then .error 7 else
    if (inOrderS r.gates).length < r.gates.length then .error 9 else .ok (renumS { r with gates := inOrderS r.gates })
example : ofS ⟨3, [6], [], [], [], [], [(2, 4, 6), (4, 7, 6)]⟩ = .ok ⟨1, [], [(3, 2), (4, 2)], [], [], []⟩ := by rfl
example : ofS ⟨2, [], [], [], [], [], [(2, 4, 1), (4, 2, 1)]⟩ = .error 9 := by rfl
example : ofS ⟨2, [], [], [], [], [], [(2, 4, 1)]⟩ = .error 7 := by rfl
example : ofS ⟨2, [2], [], [], [], [], [(2, 1, 1)]⟩ = .error 8 := by rfl
example : ofS ⟨1, [3], [], [], [], [], []⟩ = .error 8 := by rfl
example : ofS ⟨1, [0], [], [], [], [], []⟩ = .error 8 := by rfl
end Go.Proofs.YtglhnmbfkbjemaaGreatDoor
/- A circuit as a value: its lists are slices that read as its numbers; two-cell elements. -/
namespace Go.Proofs.YtglhnmbfkbjemaaGreatDoor
open Go Go.RowKit Go.Joins
def nv8 (n : Nat) : Value := .int .u8 (n : Int)
def prCs (K : Nat → Value) : List (Nat × Nat) → List Value
  | [] => []
  | p :: r => nv32 p.1 :: K p.2 :: prCs K r
theorem prCs_len (K : Nat → Value) : ∀ l, (prCs K l).length = 2 * l.length
  | [] => rfl
  | p :: r => by rw [prCs, List.length_cons, List.length_cons, prCs_len K r, List.length_cons]; omega
theorem prCs_append (K : Nat → Value) : ∀ a b, prCs K (a ++ b) = prCs K a ++ prCs K b
  | [], b => rfl
  | p :: a, b => by rw [List.cons_append, prCs, prCs, prCs_append K a b]; rfl
theorem prCs_at (K : Nat → Value) : ∀ (l : List (Nat × Nat)) (k : Nat) (d : Nat × Nat), k < l.length → (prCs K l)[2 * k]? = some (nv32 (l.getD k d).1) ∧ (prCs K l)[2 * k + 1]? = some (K (l.getD k d).2)
  | [], k, _, h => by simp at h
  | p :: r, 0, d, _ => by simp [prCs]
  | p :: r, k + 1, d, h => by
    have ih := prCs_at K r k d (by simpa using h)
    have el : ∀ i, (prCs K (p :: r))[i + 2]? = (prCs K r)[i]? := fun i => by simp [prCs]
    rw [show 2 * (k + 1) + 1 = 2 * k + 1 + 2 by omega, show 2 * (k + 1) = 2 * k + 2 by omega, el, el]
    simpa using ih
def Sees2 (K : Nat → Value) (w : World) (a : Option Addr) (n c : Nat) (l : List (Nat × Nat)) : Prop := l.length = n ∧ n ≤ c ∧ Sees w a (2 * n) (2 * c) (prCs K l)
theorem Sees2.below {K : Nat → Value} {w w' : World} {a : Option Addr} {n c : Nat} {l : List (Nat × Nat)} (h : Sees2 K w a n c l) (hb : Below w.heap.size w w') : Sees2 K w' a n c l := ⟨h.1, h.2.1, h.2.2.below hb⟩
theorem Sees2.nil (K : Nat → Value) (w : World) : Sees2 K w none 0 0 [] := ⟨rfl, Nat.le_refl _, Sees.nil _ _ _ (fun _ => rfl)⟩
theorem Sees2.addr {K : Nat → Value} {w : World} {a : Option Addr} {n c : Nat} {l : List (Nat × Nat)} (h : Sees2 K w a n c l) (h0 : 0 < n) : ∃ b off, a = some ⟨b, off, .none⟩ ∧ b < w.heap.size := h.2.2.addr (by omega)
theorem Sees2.cells {K : Nat → Value} {w : World} {b off n c : Nat} {l : List (Nat × Nat)} (h : Sees2 K w (some ⟨b, off, .none⟩) n c l) (k : Nat) (hk : k < n) (d : Nat × Nat) :
    w.cell? ⟨b, off + k * 2, .none⟩ = some (nv32 (l.getD k d).1) ∧ w.cell? ⟨b, off + k * 2 + 1, .none⟩ = some (K (l.getD k d).2) := by
  have ht := prCs_at K l k d (by rw [h.1]; exact hk)
  rw [show off + k * 2 = off + 2 * k by omega, show off + 2 * k + 1 = off + (2 * k + 1) by omega]
  exact ⟨((h.2.2.cell (2 * k) (by omega)).2).trans ht.1, ((h.2.2.cell (2 * k + 1) (by omega)).2).trans ht.2⟩
def own2 (K : Nat → Value) (T : TypeId) (w : World) (base : Nat) (v : Value) (xs : List (Nat × Nat)) : Prop := w.ownsRow base T 2 v xs.length (prCs K xs)
theorem own2_nil (K : Nat → Value) (T : TypeId) (w : World) (base : Nat) : own2 K T w base (.slice none 0 0) [] := ⟨rfl, .inl ⟨rfl, rfl⟩⟩
theorem own2_form {K : Nat → Value} {T : TypeId} {w : World} {base : Nat} {v : Value} {xs : List (Nat × Nat)} (h : own2 K T w base v xs) : ∃ a c, v = .slice a xs.length c := ownsN_form h
theorem own2_sees {K : Nat → Value} {T : TypeId} {w : World} {base : Nat} {v : Value} {xs : List (Nat × Nat)} (h : own2 K T w base v xs) : ∃ a c, v = .slice a xs.length c ∧ Sees2 K w a xs.length c xs := by
  rcases h.2 with ⟨rfl, h0⟩ | ⟨g, cap, cur, rfl, _, hg, hnc, hm, hcs, ht⟩
  · have : xs = [] := List.eq_nil_of_length_eq_zero h0
    subst this
    exact ⟨none, 0, rfl, Sees2.nil K w⟩
  · refine ⟨_, cap, rfl, rfl, hnc, ⟨?_, by omega, (fun e => by cases e), fun _ => ⟨g, 0, rfl, heap_lt hg, fun j hj => ?_⟩⟩⟩
    · have := h.1; omega
    · rw [Nat.zero_add, cell_of_row w g j cur T (0, 0) hg, ← ht, List.getElem?_take_of_lt (by omega)]
      simp
theorem own2_below {K : Nat → Value} {T : TypeId} {w w' : World} {base : Nat} {v : Value} {xs : List (Nat × Nat)} (h : own2 K T w base v xs) (hb : Below w.heap.size w w') : own2 K T w' base v xs := ownsN_below h hb
structure CSlots where
  a1 : Option Addr
  n1 : Nat
  c1 : Nat
  a2 : Option Addr
  n2 : Nat
  c2 : Nat
  a3 : Option Addr
  n3 : Nat
  c3 : Nat
  a4 : Option Addr
  n4 : Nat
  c4 : Nat
  a5 : Option Addr
  n5 : Nat
  c5 : Nat
def cirV (ins : Int) (s : CSlots) : Value := .agg #[.int .i64 ins, .slice s.a1 s.n1 s.c1, .slice s.a2 s.n2 s.c2, .slice s.a3 s.n3 s.c3, .slice s.a4 s.n4 s.c4, .slice s.a5 s.n5 s.c5]
def zeroCir : Value := .agg #[.int .i64 0, .slice none 0 0, .slice none 0 0, .slice none 0 0, .slice none 0 0, .slice none 0 0]
structure SeesCir (w : World) (s : CSlots) (c : NormC) : Prop where
  s1 : Sees2 nv8 w s.a1 s.n1 s.c1 c.lats
  s2 : Sees2 nv32 w s.a2 s.n2 s.c2 c.gates
  s3 : Sees w s.a3 s.n3 s.c3 (c.outs.map nv32)
  s4 : Sees w s.a4 s.n4 s.c4 (c.bads.map nv32)
  s5 : Sees w s.a5 s.n5 s.c5 (c.cons.map nv32)
theorem SeesCir.below {w w' : World} {s : CSlots} {c : NormC} (h : SeesCir w s c) (hb : Below w.heap.size w w') : SeesCir w' s c :=
  ⟨h.s1.below hb, h.s2.below hb, h.s3.below hb, h.s4.below hb, h.s5.below hb⟩
structure OwnCir (w : World) (base : Nat) (s : CSlots) (c : NormC) : Prop where
  o1 : own2 nv8 61 w base (.slice s.a1 s.n1 s.c1) c.lats
  o2 : own2 nv32 46 w base (.slice s.a2 s.n2 s.c2) c.gates
  o3 : Row isU32 w base 35 (.slice s.a3 s.n3 s.c3) c.outs.length (c.outs.map nv32)
  o4 : Row isU32 w base 35 (.slice s.a4 s.n4 s.c4) c.bads.length (c.bads.map nv32)
  o5 : Row isU32 w base 35 (.slice s.a5 s.n5 s.c5) c.cons.length (c.cons.map nv32)
theorem row_sees_slice {ok : Value → Prop} {w : World} {base : Nat} {e : TypeId} {a : Option Addr} {n c m : Nat} {xs : List Value} (h : Row ok w base e (.slice a n c) m xs) : n = m ∧ Sees w a n c xs := by
  obtain ⟨a', c', e, _, hs⟩ := h.sees
  cases e
  exact ⟨rfl, hs⟩
theorem own2_sees_slice {K : Nat → Value} {T : TypeId} {w : World} {base : Nat} {a : Option Addr} {n c : Nat} {xs : List (Nat × Nat)} (h : own2 K T w base (.slice a n c) xs) : Sees2 K w a n c xs := by
  obtain ⟨a', c', e, hs⟩ := own2_sees h
  cases e
  exact hs
theorem OwnCir.sees {w : World} {base : Nat} {s : CSlots} {c : NormC} (h : OwnCir w base s c) : SeesCir w s c :=
  ⟨own2_sees_slice h.o1, own2_sees_slice h.o2, (row_sees_slice h.o3).2, (row_sees_slice h.o4).2, (row_sees_slice h.o5).2⟩
theorem OwnCir.below {w w' : World} {base : Nat} {s : CSlots} {c : NormC} (h : OwnCir w base s c) (hb : Below w.heap.size w w') : OwnCir w' base s c :=
  ⟨own2_below h.o1 hb, own2_below h.o2 hb, h.o3.below hb, h.o4.below hb, h.o5.below hb⟩
theorem info_latch : (Tryz.prog.info? 61).map (fun i => (i.zero, i.size, i.bytes)) = some (some (.agg #[.int .u32 0, .int .u8 0]), 2, 8) := by kernel_rfl
theorem info_cgate : (Tryz.prog.info? 46).map (fun i => (i.zero, i.size, i.bytes)) = some (some (.agg #[.int .u32 0, .int .u32 0]), 2, 8) := by kernel_rfl
theorem toF_len : ∀ (l : List Nat) (t : List Nat) (i : Nat), (toF t i l).length = t.length
  | [], _, _ => rfl
  | x :: r, t, i => by rw [toF, toF_len r]; simp
theorem toF_le : ∀ (l : List Nat) (t : List Nat) (i b : Nat), (∀ k, t.getD k 0 ≤ b) → 2 * (i + l.length) ≤ b → ∀ k, (toF t i l).getD k 0 ≤ b
  | [], _, _, _, h, _, k => h k
  | x :: r, t, i, b, h, hb, k => by
    rw [toF]
    refine toF_le r _ (i + 1) b (fun k => ?_) (by simp at hb; omega) k
    by_cases e : x / 2 = k
    · subst e
      by_cases hl : x / 2 < t.length
      · simp only [List.length_cons] at hb
        simp [List.getD, hl]; omega
      · simp [List.getD, hl]
    · have := h k
      simpa [List.getD, List.getElem?_set, e] using this
theorem cir_set {X : World} {g : Nat} {C : Array Value} {t : TypeId} (h : X.heap[g]? = some (.cells C t (0, 0))) (hC : C.size = 6) (u0 u1 u2 u3 u4 u5 : Value) :
    ((((((X.setCell ⟨g, 0, .none⟩ u0).setCell ⟨g, 1, .none⟩ u1).setCell ⟨g, 2, .none⟩ u2).setCell ⟨g, 3, .none⟩ u3).setCell ⟨g, 4, .none⟩ u4).setCell ⟨g, 5, .none⟩ u5).heap[g]? = some (.cells #[u0, u1, u2, u3, u4, u5] t (0, 0)) := by
  obtain ⟨l⟩ := C
  match l, hC with
  | [_, _, _, _, _, _], _ =>
    have h0 := block_setCell h (i := 0) u0
    have h1 := block_setCell h0 (i := 1) u1
    have h2 := block_setCell h1 (i := 2) u2
    have h3 := block_setCell h2 (i := 3) u3
    have h4 := block_setCell h3 (i := 4) u4
    have h5 := block_setCell h4 (i := 5) u5
    simpa using h5
theorem set6 {B : Nat} {w X : World} (g : Nat) (hg : B ≤ g) (h : Below B w X) {u0 u1 u2 u3 u4 u5 : Value} :
    Below B w ((((((X.setCell ⟨g, 0, .none⟩ u0).setCell ⟨g, 1, .none⟩ u1).setCell ⟨g, 2, .none⟩ u2).setCell ⟨g, 3, .none⟩ u3).setCell ⟨g, 4, .none⟩ u4).setCell ⟨g, 5, .none⟩ u5) :=
  (((((h.setCell hg _).setCell hg _).setCell hg _).setCell hg _).setCell hg _).setCell hg _
theorem set6_other {X : World} (g D : Nat) (hD : D ≠ g) (u0 u1 u2 u3 u4 u5 : Value) :
    ((((((X.setCell ⟨g, 0, .none⟩ u0).setCell ⟨g, 1, .none⟩ u1).setCell ⟨g, 2, .none⟩ u2).setCell ⟨g, 3, .none⟩ u3).setCell ⟨g, 4, .none⟩ u4).setCell ⟨g, 5, .none⟩ u5).heap[D]? = X.heap[D]? := by
  rw [Below.heap_setCell _ ⟨g, 5, .none⟩ _ D hD, Below.heap_setCell _ ⟨g, 4, .none⟩ _ D hD, Below.heap_setCell _ ⟨g, 3, .none⟩ _ D hD, Below.heap_setCell _ ⟨g, 2, .none⟩ _ D hD, Below.heap_setCell _ ⟨g, 1, .none⟩ _ D hD, Below.heap_setCell _ ⟨g, 0, .none⟩ _ D hD]
end Go.Proofs.YtglhnmbfkbjemaaGreatDoor
/- (*bin.reader).latch, by its contract. -/
namespace Go.Proofs.YtglhnmbfkbjemaaGreatDoor
open Go Go.RowKit Go.Joins
def latSt (most own : Nat) (st : St) : (Nat × Nat) × St :=
  if (lineSt most 2 st).1.2 = own then (((lineSt most 2 st).1.1, 2), (lineSt most 2 st).2)
  else if 1 < (lineSt most 2 st).1.2 then (((lineSt most 2 st).1.1, (lineSt most 2 st).1.2 % 256), .error 5)
  else (((lineSt most 2 st).1.1, (lineSt most 2 st).1.2), (lineSt most 2 st).2)
theorem RdS.fail {R B most : Nat} {st : St} {w : World} (h : RdS R B most st w) (er : Int) (h0 : er ≠ 0) : RdS R B most (.error er) (w.setCell ⟨R, 2, .none⟩ (.int .i64 er)) ∧ w.grownBy (w.setCell ⟨R, 2, .none⟩ (.int .i64 er)) (some R) := by
  obtain ⟨a, n, c, er', bs, h1, h2, h3, h4⟩ := h
  have hg := Lib.grownBy_setCell w R 2 (.int .i64 er)
  refine ⟨⟨a, n, c, er, bs, ⟨?_, sees_but h1.sees hg (fun b off e => h1.ne b (by rw [e]; rfl)), h1.ne⟩, h2, h3, rfl, h0⟩, hg⟩
  have h5 := block_setCell h1.box (i := 2) (.int .i64 er)
  simpa using h5
theorem RdS.box {R B most : Nat} {st : St} {w : World} (h : RdS R B most st w) : ∃ u0 u1 er, w.heap[R]? = some (.cells #[u0, u1, .int .i64 er] 67 (0, 0)) := by
  obtain ⟨a, n, c, er', bs, h1, _⟩ := h
  exact ⟨_, _, _, h1.box⟩
set_option maxRecDepth 100000 in
set_option maxHeartbeats 1600000 in
theorem latch_any (R B most own : Nat) (st : St) (w : World) (h : RdS R B most st w) (hBR : B ≤ R) (hm : most < 4294967296) :
    Calls Tryz.prog 53 #[.pointer (some ⟨R, 0, none⟩), .int .u32 own] w fun e w' => e = .returned (.agg #[nv32 (latSt most own st).1.1, nv8 (latSt most own st).1.2]) ∧ RdS R B most (latSt most own st).2 w' ∧ w.grownBy w' (some R) := by
  have hlt := h.lt
  obtain ⟨W0, hW0⟩ : ∃ W0, W0 = w.alloc (.cells #[.int .u32 0, .int .u8 0] 61) := ⟨_, rfl⟩
  obtain ⟨L, hL⟩ : ∃ L, L = w.heap.size := ⟨_, rfl⟩
  have hb0 : Below w.heap.size w W0 := by rw [hW0]; exact ext_alloc _ _
  have hN : W0.heap[L]? = some (.cells #[.int .u32 0, .int .u8 0] 61 (0, 0)) := by rw [hW0]; exact heap_new _ _ _ hL
  have HC := Lib.hid (rline_any R B most 2 st W0 (h.below hBR hb0) hBR (by omega) hm)
  have HG0 := Lib.hid (but_below (World.grownBy.refl w (some R)) hb0)
  have HN := Lib.hid hN
  have HL : Hid (L = w.heap.size ∧ R < L ∧ B ≤ L) := ⟨hL, by omega, by omega⟩
  have HW0 := Lib.hid hW0
  clear hlt hb0 hN h hW0 hL
  go_enter Tryz.func53, Tryz.ntmps53
  go_wp2_with fail
  rw [← HW0.out, ← HL.out.1]
  refine HC.out.mono ?_
  rintro e w1 ⟨hg1, hR1, rfl⟩
  obtain ⟨x, hx⟩ : ∃ x, x = (lineSt most 2 st).1.1 := ⟨_, rfl⟩
  obtain ⟨y, hy⟩ : ∃ y, y = (lineSt most 2 st).1.2 := ⟨_, rfl⟩
  obtain ⟨s1, hs1⟩ : ∃ s, s = (lineSt most 2 st).2 := ⟨_, rfl⟩
  have hxy := lineSt_le most 2 st
  have hst : latSt most own st = if y = own then ((x, 2), s1) else if 1 < y then ((x, y % 256), .error 5) else ((x, y), s1) := by
    unfold latSt; rw [← hx, ← hy, ← hs1]
  rw [← hx, ← hy] at hxy ⊢
  rw [← hs1] at hR1
  have HST := Lib.hid hst
  have hx32 : x < 4294967296 := by omega
  have hy32 : y < 4294967296 := by omega
  have hN1 := heap_grown HN.out hg1 (by intro e; cases e; have := HL.out.2.1; omega)
  obtain ⟨u0, u1, er1, hbx⟩ := hR1.box
  have HG1 := Lib.hid (but_trans HG0.out hg1)
  obtain ⟨W2, hW2⟩ : ∃ W2, W2 = (w1.alloc (.cells #[.int .u32 x, .int .u32 y] 96)) := ⟨_, rfl⟩
  obtain ⟨M, hM⟩ : ∃ M, M = w1.heap.size := ⟨_, rfl⟩
  have hb2 : Below w1.heap.size w1 W2 := by rw [hW2]; exact ext_alloc _ _
  have hN2 : W2.heap[M]? = some (.cells #[.int .u32 x, .int .u32 y] 96 (0, 0)) := by rw [hW2]; exact heap_new _ _ _ hM
  have c0 := cell_of_block hN2 0
  have c1 := cell_of_block hN2 1
  have HR1 := Lib.hid (hR1.below hBR hb2)
  have HN1 := Lib.hid (heap_below hN1 hb2)
  have HG2 := Lib.hid (but_below HG1.out hb2)
  have HBX := Lib.hid (heap_below hbx hb2)
  have HW2 := Lib.hid hW2
  have HM := Lib.hid hM
  have HBR := Lib.hid hBR
  have k0 := c0
  have k1 := c1
  clear hx hy hs1 hxy hst hg1 hR1 hN1 hbx hW2 hb2 hN2 hM hBR
  unfold nv32
  go_wp2_with fail
  rw [← HW2.out, ← HM.out]
  go_quiet (fail)
  rename_i nq
  obtain ⟨W3, hW3⟩ : ∃ W3, W3 = W2.drewN nq := ⟨_, rfl⟩
  have hb3 : Below W2.heap.size W2 W3 := by rw [hW3]; exact ext_drewN _ _
  rw [← hW3]
  have HR3 := Lib.hid (HR1.out.below HBR.out hb3)
  have HN3 := Lib.hid (heap_below HN1.out hb3)
  have HG3 := Lib.hid (but_below HG2.out hb3)
  have HB3 := heap_below HBX.out hb3
  have d0 := cell_of_block HN3.out 0
  have d1 := cell_of_block HN3.out 1
  have f0 := unfrozen_of_block HN3.out 0
  have f1 := unfrozen_of_block HN3.out 1
  have r2 := cell_of_block HB3 2
  have s2 := unfrozen_of_block HB3 2
  have hLR : L ≠ R := by have := HL.out; omega
  have HLR := Lib.hid hLR
  have hLW : w.heap.size ≤ L := by rw [HL.out.1]; exact Nat.le_refl _
  have HLW := Lib.hid hLW
  clear hb3 hW3 HB3 hLR hLW c0 c1 k0 k1
  by_cases h1 : y = own
  · have HS : Hid (latSt most own st = ((x, 2), s1)) := by show _ = _; rw [HST.out, if_pos h1]
    have e1 : ((y : Int) == (own : Int)) = true := by simp [h1]
    have W1 : IntKind.u8.wrap (2 : Int) = 2 := by rfl
    have H1 := Lib.hid h1
    clear h1
    go_wp2
    refine bodyPost_ret (v := .agg #[.int .u32 x, .int .u8 2]) ?_ rfl ?_
    · have h6 := cell2_set HN3.out rfl (.int .u32 x) (.int .u8 2)
      simp [results, Tryz.results53, go_sem, cell_of_block h6 0, cell_of_block h6 1]
    · rw [HS.out]
      exact ⟨rfl, (HR3.out.set HLR.out HL.out.2.2).set HLR.out HL.out.2.2, grown_new (grown_new HG3.out HLW.out) HLW.out⟩
  · have e1 : ((y : Int) == (own : Int)) = false := by simp; omega
    by_cases h2 : 1 < y
    · obtain ⟨r, hr⟩ : ∃ r, r = y % 256 := ⟨_, rfl⟩
      have HS : Hid (latSt most own st = ((x, r), .error 5)) := by show _ = _; rw [HST.out, if_neg h1, if_pos h2, ← hr]
      have W1 : IntKind.u8.wrap (y : Int) = (r : Int) := by rw [IntKind.wrap_u8]; omega
      clear hr
      have HF := Lib.hid (HR3.out.fail 5 (by decide))
      have HN4 := Lib.hid (heap_grown HN3.out HF.out.2 (by intro e; cases e; exact HLR.out rfl))
      have H1 := Lib.hid h1
      clear h1
      go_wp2
      refine bodyPost_ret (v := .agg #[.int .u32 x, .int .u8 (r : Int)]) ?_ rfl ?_
      · have h6 := cell2_set HN4.out rfl (.int .u32 x) (.int .u8 (r : Int))
        simp [results, Tryz.results53, go_sem, cell_of_block h6 0, cell_of_block h6 1]
      · rw [HS.out]
        exact ⟨rfl, (HF.out.1.set HLR.out HL.out.2.2).set HLR.out HL.out.2.2, grown_new (grown_new (but_trans HG3.out HF.out.2) HLW.out) HLW.out⟩
    · have HS : Hid (latSt most own st = ((x, y), s1)) := by show _ = _; rw [HST.out, if_neg h1, if_neg h2]
      have W1 : IntKind.u8.wrap (y : Int) = (y : Int) := by rw [IntKind.wrap_u8]; omega
      have H1 := Lib.hid h1
      clear h1
      go_wp2
      refine bodyPost_ret (v := .agg #[.int .u32 x, .int .u8 y]) ?_ rfl ?_
      · have h6 := cell2_set HN3.out rfl (.int .u32 x) (.int .u8 y)
        simp [results, Tryz.results53, go_sem, cell_of_block h6 0, cell_of_block h6 1]
      · rw [HS.out]
        exact ⟨rfl, (HR3.out.set HLR.out HL.out.2.2).set HLR.out HL.out.2.2, grown_new (grown_new HG3.out HLW.out) HLW.out⟩
end Go.Proofs.YtglhnmbfkbjemaaGreatDoor
/- Tables of two-cell elements, by their whole content. -/
namespace Go.Proofs.YtglhnmbfkbjemaaGreatDoor
open Go Go.RowKit Go.Joins
def pcells (K : Nat → Value) (ps : List (Nat × Nat)) : Array Value := (prCs K ps).toArray
theorem pcells_zero (K : Nat → Value) (m : Nat) : madeCells #[nv32 0, K 0] (m * 2) = pcells K (List.replicate m (0, 0)) := by
  apply Array.ext'
  simp only [madeCells, pcells, Array.toList_map, Array.toList_range]
  induction m with
  | zero => simp [prCs]
  | succ m ih =>
    rw [show (m + 1) * 2 = m * 2 + 1 + 1 by omega, List.range_succ, List.range_succ, List.map_append, List.map_append, ih, List.replicate_succ', prCs_append]
    simp [prCs, show (m * 2 + 1) % 2 = 1 by omega]
theorem prCs_set1 (K : Nat → Value) (a : Nat) : ∀ (ps : List (Nat × Nat)) (i : Nat), (prCs K ps).set (i * 2) (nv32 a) = prCs K (ps.set i (a, (ps.getD i (0, 0)).2))
  | [], _ => by simp [prCs]
  | p :: r, 0 => by simp [prCs]
  | p :: r, i + 1 => by
    rw [show (i + 1) * 2 = i * 2 + 1 + 1 by omega]
    have := prCs_set1 K a r i
    simpa [prCs] using this
theorem prCs_set2 (K : Nat → Value) (b : Nat) : ∀ (ps : List (Nat × Nat)) (i : Nat), (prCs K ps).set (i * 2 + 1) (K b) = prCs K (ps.set i ((ps.getD i (0, 0)).1, b))
  | [], _ => by simp [prCs]
  | p :: r, 0 => by simp [prCs]
  | p :: r, i + 1 => by
    rw [show (i + 1) * 2 + 1 = (i * 2 + 1) + 1 + 1 by omega]
    have := prCs_set2 K b r i
    simpa [prCs] using this
theorem pcells_set1 (K : Nat → Value) (ps : List (Nat × Nat)) (i a : Nat) : (pcells K ps).setIfInBounds (i * 2) (nv32 a) = pcells K (ps.set i (a, (ps.getD i (0, 0)).2)) := by
  apply Array.ext'
  simpa [pcells] using prCs_set1 K a ps i
theorem pcells_set2 (K : Nat → Value) (ps : List (Nat × Nat)) (i b : Nat) : (pcells K ps).setIfInBounds (i * 2 + 1) (K b) = pcells K (ps.set i ((ps.getD i (0, 0)).1, b)) := by
  apply Array.ext'
  simpa [pcells] using prCs_set2 K b ps i
theorem pcells_get (K : Nat → Value) (ps : List (Nat × Nat)) (i : Nat) (h : i < ps.length) : (pcells K ps)[i * 2]? = some (nv32 (ps.getD i (0, 0)).1) ∧ (pcells K ps)[i * 2 + 1]? = some (K (ps.getD i (0, 0)).2) := by
  have := prCs_at K ps i (0, 0) h
  rw [Nat.mul_comm] at this
  simpa [pcells] using this
theorem set_end (acc : List (Nat × Nat)) (q : Nat) (p : Nat × Nat) : (acc ++ List.replicate (q + 1) (0, 0)).set acc.length p = (acc ++ [p]) ++ List.replicate q (0, 0) := by
  rw [List.set_append_right _ _ (Nat.le_refl _), Nat.sub_self, List.replicate_succ, List.set_cons_zero]
  simp
theorem pcells_both (K : Nat → Value) (acc : List (Nat × Nat)) (q k a b : Nat) (hk : acc.length = k) : ((pcells K (acc ++ List.replicate (q + 1) (0, 0))).setIfInBounds (k * 2) (nv32 a)).setIfInBounds (k * 2 + 1) (K b) = pcells K ((acc ++ [(a, b)]) ++ List.replicate q (0, 0)) := by
  subst hk
  rw [pcells_set1, set_end, pcells_set2]
  congr 1
  rw [List.append_assoc, List.set_append_right _ _ (Nat.le_refl _), Nat.sub_self]
  simp [List.getD]
theorem own2_pcells {K : Nat → Value} {T : TypeId} {w : World} {D n : Nat} {ps : List (Nat × Nat)} (base : Nat) (hb : base ≤ D) (h : w.heap[D]? = some (.cells (pcells K ps) T (0, 0))) (hn : ps.length = n) (hl : n ≤ 1000000) : own2 K T w base (.slice (some ⟨D, 0, .none⟩) n n) ps := by
  subst hn
  unfold own2
  refine ⟨by rw [prCs_len]; omega, .inr ⟨D, ps.length, _, rfl, hb, h, Nat.le_refl _, by unfold maxLen; omega, ?_, ?_⟩⟩
  · simp [pcells, prCs_len]; omega
  · simp [pcells, List.take_of_length_le, prCs_len, Nat.mul_comm]
theorem run_make2 {P : Program} {t e : TypeId} {i : TypeInfo} {z : Value} {bytes : Nat} (K : Nat → Value) (ht : P.underlying t = some (.slice e)) (hi : P.info? e = some i) (hz : i.zero = some z)
    (hsize : i.size = 2) (hby : i.bytes = bytes) (hzs : z.cells = #[nv32 0, K 0]) (m : Nat) (y : Int) (hy : y = (m : Int)) (hb : (bytes : Int) * (m : Int) ≤ 281474976710656) (hm : m ≤ 1000000000000) (W : World) :
    (Instr.makeSlice t (.int .u32 y) (.int .u32 y)).run P W = .ok (.slice (some ⟨W.heap.size, 0, none⟩) m m) (W.alloc (.cells (pcells K (List.replicate m (0, 0))) e)) := by
  subst hy
  have h := run_make (P := P) W t e i z ht hi hz .u32 .u32 (m : Int) (m : Int) (by omega) (Int.le_refl _) (by rw [hby]; exact hb) (by omega)
  rw [h, hzs, hsize, Int.toNat_natCast, pcells_zero]
theorem info_clat : (Tryz.prog.info? 61).map (fun i => (i.zero, i.size, i.bytes)) = some (some (.agg #[.int .u32 0, .int .u8 0]), 2, 8) := by kernel_rfl
end Go.Proofs.YtglhnmbfkbjemaaGreatDoor
/- (*bin.reader).latches, by its contract. -/
namespace Go.Proofs.YtglhnmbfkbjemaaGreatDoor
open Go Go.RowKit Go.Joins
def latsSt (most : Nat) : Nat → Nat → St → List (Nat × Nat) × St
  | 0, _, st => ([], st)
  | k + 1, own, st => ((latSt most own st).1 :: (latsSt most k (own + 2) (latSt most own st).2).1, (latsSt most k (own + 2) (latSt most own st).2).2)
theorem latsSt_len (most : Nat) : ∀ (k own : Nat) (st : St), (latsSt most k own st).1.length = k
  | 0, _, _ => rfl
  | k + 1, own, st => by rw [latsSt, List.length_cons, latsSt_len most k]
set_option maxRecDepth 100000 in
set_option maxHeartbeats 1600000 in
theorem latches_any (R B most first count : Nat) (st : St) (w : World) (h : RdS R B most st w) (hBR : B ≤ R) (hc : first + count ≤ 100000) (hm : most < 4294967296) :
    Calls Tryz.prog 24 #[.pointer (some ⟨R, 0, none⟩), .int .u32 first, .int .u32 count] w fun e w' => ∃ v, e = .returned v ∧ own2 nv8 61 w' w.heap.size v (latsSt most count (2 * first) st).1 ∧ RdS R B most (latsSt most count (2 * first) st).2 w' ∧ w.grownBy w' (some R) := by
  obtain ⟨i0, hi, hz0, hz1, hz2⟩ := info_parts info_clat
  have mk := fun W => run_make2 (P := Tryz.prog) nv8 Tryz.underlying22 hi hz0 hz1 hz2 rfl count (count : Int) rfl (by omega) (by omega) W
  have hlt := h.lt
  obtain ⟨D, hD⟩ : ∃ D, D = w.heap.size := ⟨_, rfl⟩
  have mk1 := mk w
  rw [← hD] at mk1 ⊢
  obtain ⟨WA, hWA⟩ : ∃ WA, WA = w.alloc (.cells (pcells nv8 (List.replicate count (0, 0))) 61) := ⟨_, rfl⟩
  have HRD : Hid (R ≠ D ∧ B ≤ D) := ⟨by omega, by omega⟩
  have HBR := Lib.hid hBR
  have hbA : Below w.heap.size w WA := by rw [hWA]; exact ext_alloc _ _
  have H0 : Hid (RdS R B most st WA) := h.below hBR hbA
  have HD0 : Hid (WA.heap[D]? = some (.cells (pcells nv8 (List.replicate count (0, 0))) 61 (0, 0))) := by rw [hWA]; exact heap_new _ _ _ hD
  have HG0 : Hid (w.grownBy WA (some R)) := but_below (World.grownBy.refl _ _) hbA
  have HDW : Hid (D = w.heap.size) := hD
  rw [← hWA] at mk1
  clear mk hlt h hBR hD hi hz0 hz1 hz2 hWA hbA
  go_enter Tryz.func24, Tryz.ntmps24
  go_wp2
  go_loopw [8, 13] (fun i j wr => ∃ (k : Nat) (acc : List (Nat × Nat)) (stk : St), k ≤ count ∧ j = .int .i64 k ∧ Hid (acc.length = k ∧ latsSt most count (2 * first) st = (acc ++ (latsSt most (count - k) (2 * (first + k)) stk).1, (latsSt most (count - k) (2 * (first + k)) stk).2)) ∧ Hid (RdS R B most stk wr) ∧
      Hid (wr.heap[D]? = some (.cells (pcells nv8 (acc ++ List.replicate (count - k) (0, 0))) 61 (0, 0))) ∧ Hid (w.grownBy wr (some R)))
    (fun _ j _ => count - (intOf j).toNat)
  case atStart => exact ⟨0, [], st, Nat.zero_le _, rfl, ⟨rfl, rfl⟩, H0, HD0, HG0⟩
  case round =>
    obtain ⟨k, acc, stk, hk, rfl, hl, hR, hDh, hG⟩ := hrel
    by_cases hlt : k < count
    · obtain ⟨q, hq⟩ : ∃ q, count - k = q + 1 := ⟨count - k - 1, by omega⟩
      obtain ⟨o, ho⟩ : ∃ o, o = 2 * (first + k) := ⟨_, rfl⟩
      have HC := Lib.hid (latch_any R B most o stk wr hR.out HBR.out hm)
      have HQ := Lib.hid hq
      have W2 : IntKind.u32.wrap (k : Int) = (k : Int) := by rw [IntKind.wrap_u32]; omega
      have W3 : IntKind.u32.wrap ((first : Int) + (k : Int)) = (first : Int) + (k : Int) := by rw [IntKind.wrap_u32]; omega
      have W4 : IntKind.u32.wrap (2 * ((first : Int) + (k : Int))) = (o : Int) := by rw [IntKind.wrap_u32, ho]; omega
      have HO := Lib.hid ho
      clear hq ho
      go_wp2_with fail
      refine HC.out.mono ?_
      rintro e w1 ⟨rfl, hR1, hg1⟩
      obtain ⟨x, hx⟩ : ∃ x, x = (latSt most o stk).1.1 := ⟨_, rfl⟩
      obtain ⟨y, hy⟩ : ∃ y, y = (latSt most o stk).1.2 := ⟨_, rfl⟩
      obtain ⟨s1, hs1⟩ : ∃ s, s = (latSt most o stk).2 := ⟨_, rfl⟩
      have hstep : latsSt most (q + 1) o stk = ((x, y) :: (latsSt most q (o + 2) s1).1, (latsSt most q (o + 2) s1).2) := by rw [latsSt, hx, hy, hs1]
      rw [← hx, ← hy]
      rw [← hs1] at hR1
      have hq2 : count - (k + 1) = q := by have := HQ.out; omega
      have hD1 : w1.heap[D]? = some (.cells (pcells nv8 (acc ++ List.replicate (q + 1) (0, 0))) 61 (0, 0)) := by
        rw [← HQ.out]; exact heap_grown hDh.out hg1 (by intro e; cases e; exact HRD.out.1 rfl)
      have hlen : k < (acc ++ List.replicate (q + 1) (0, 0)).length := by have := hl.out.1; simp; omega
      have cD := (cell_of_block hD1 (k * 2)).trans (pcells_get nv8 _ k hlen).1
      have cE := (cell_of_block hD1 (k * 2 + 1)).trans (pcells_get nv8 _ k hlen).2
      have fD := unfrozen_of_block hD1 (k * 2)
      have fE := unfrozen_of_block hD1 (k * 2 + 1)
      have hD2 : ((w1.setCell ⟨D, k * 2, .none⟩ (nv32 x)).setCell ⟨D, k * 2 + 1, .none⟩ (nv8 y)).heap[D]? = some (.cells (pcells nv8 ((acc ++ [(x, y)]) ++ List.replicate (count - (k + 1)) (0, 0))) 61 (0, 0)) := by
        have h1 := block_setCell hD1 (i := k * 2) (nv32 x)
        have h2 := block_setCell h1 (i := k * 2 + 1) (nv8 y)
        rw [pcells_both nv8 acc q k x y hl.out.1] at h2
        rw [h2, hq2]
      have hw : w.heap.size ≤ D := by rw [HDW.out]; exact Nat.le_refl _
      have HR2 := Lib.hid ((hR1.set (j := k * 2) (v := nv32 x) (Ne.symm HRD.out.1) HRD.out.2).set (j := k * 2 + 1) (v := nv8 y) (Ne.symm HRD.out.1) HRD.out.2)
      have HD2 := Lib.hid hD2
      have HG2 := Lib.hid (grown_new (v := nv8 y) (j := k * 2 + 1) (grown_new (v := nv32 x) (j := k * 2) (but_trans hG.out hg1) hw) hw)
      have HL2 : Hid ((acc ++ [(x, y)]).length = k + 1 ∧ latsSt most count (2 * first) st = ((acc ++ [(x, y)]) ++ (latsSt most (count - (k + 1)) (2 * (first + (k + 1))) s1).1, (latsSt most (count - (k + 1)) (2 * (first + (k + 1))) s1).2)) := by
        refine ⟨by simp [hl.out.1], ?_⟩
        rw [hl.out.2, HQ.out, ← HO.out, hstep, hq2, show 2 * (first + (k + 1)) = o + 2 by have := HO.out; omega]
        simp
      have W1 : IntKind.i64.wrap ((k : Int) + 1) = (k : Int) + 1 := IntWalk.i64_in _ (by omega)
      clear hg1 hR1 hx hy hs1 hstep hD1 hlen hD2 hw hl hR hDh hG hq2
      unfold nv32 nv8 at *
      go_wp2
      go_roundw
      case rel => exact ⟨k + 1, acc ++ [(x, y)], s1, by omega, by go_num, HL2, HR2, HD2, HG2⟩
      case measure => simp [intOf]; omega
    · obtain rfl : count = k := by omega
      have hll : latsSt most count (2 * first) st = (acc, stk) := by
        have := hl.out.2
        rw [Nat.sub_self] at this
        simpa [latsSt] using this
      have HLL := Lib.hid hll
      have hrow : own2 nv8 61 wr D (.slice (some ⟨D, 0, .none⟩) count count) acc := by
        have h := hDh.out
        rw [Nat.sub_self, List.replicate_zero, List.append_nil] at h
        exact own2_pcells D (Nat.le_refl _) h hl.out.1 (by omega)
      have HRW := Lib.hid hrow
      have HR := Lib.hid hR.out
      have HG := Lib.hid hG.out
      clear hll hrow hl hR hDh hG
      go_wp2
      go_ret
      rw [HLL.out]
      exact ⟨_, rfl, HRW.out, HR.out, HG.out⟩
end Go.Proofs.YtglhnmbfkbjemaaGreatDoor
namespace Go.Proofs.YtglhnmbfkbjemaaGreatDoor
open Go Go.RowKit Go.Joins
def belowSt (lit least : Nat) : St → Nat × St
  | .error er => (0, .error er)
  | .ok bs => match belowL bs lit least with
    | .error er => (0, .error er)
    | .ok (v, rest) => (v, .ok rest)
def gatesSt : Nat → Nat → St → List (Nat × Nat) × St
  | 0, _, st => ([], st)
  | k + 1, own, st => (((belowSt own 1 st).1, (belowSt (belowSt own 1 st).1 0 (belowSt own 1 st).2).1) :: (gatesSt k (own + 2) (belowSt (belowSt own 1 st).1 0 (belowSt own 1 st).2).2).1, (gatesSt k (own + 2) (belowSt (belowSt own 1 st).1 0 (belowSt own 1 st).2).2).2)
theorem gatesSt_len : ∀ (k own : Nat) (st : St), (gatesSt k own st).1.length = k
  | 0, _, _ => rfl
  | k + 1, own, st => by rw [gatesSt, List.length_cons, gatesSt_len k]
theorem pset_self (L : List (Nat × Nat)) (k : Nat) (p : Nat × Nat) (h : k < L.length) : (L.set k p).getD k (0, 0) = p := by
  rw [List.getD_eq_getElem?_getD, List.getElem?_set_self h]
  rfl
theorem belowL_er {bs : List UInt8} {lit least : Nat} {er : Int} (h : belowL bs lit least = .error er) : er ≠ 0 := by
  unfold belowL at h
  split at h
  · rename_i e he
    cases h
    rcases dGo_er 4 5 bs 0 0 er he with rfl | rfl <;> decide
  · split at h
    · cases h; decide
    · cases h
theorem belowL_le {bs rest : List UInt8} {lit least v : Nat} (h : belowL bs lit least = .ok (v, rest)) : v ≤ lit := (below_get h).2.1
theorem belowSt_le (lit least : Nat) (st : St) : (belowSt lit least st).1 ≤ lit := by
  unfold belowSt
  split
  · exact Nat.zero_le _
  · split
    · exact Nat.zero_le _
    · rename_i h; exact belowL_le h
theorem belowSt_any (R B most lit least : Nat) (st : St) (w : World) (h : RdS R B most st w) (hl : lit < 4294967296) :
    Calls Tryz.prog 55 #[.pointer (some ⟨R, 0, none⟩), .int .u32 lit, .int .u32 least] w fun e w' => e = .returned (.int .u32 ((belowSt lit least st).1 : Nat)) ∧ RdS R B most (belowSt lit least st).2 w' ∧ w.grownBy w' (some R) := by
  have H := h
  obtain ⟨a, n, c, er, bs, h1, h2, h3, h4⟩ := h
  cases st with
  | error e =>
    obtain ⟨rfl, h0⟩ := h4
    refine (below_off R a n c most lit least er bs w h1 h0).mono ?_
    rintro e w' ⟨rfl, rfl⟩
    exact ⟨rfl, H, World.grownBy.refl _ _⟩
  | ok rest =>
    obtain ⟨rfl, rfl⟩ := h4
    refine (below_any R a n c most lit least bs w h1 (by omega) hl).mono ?_
    rintro e w' ⟨hg, hp⟩
    cases hb : belowL bs lit least with
    | error er =>
      rw [hb] at hp
      obtain ⟨rfl, hr⟩ := hp
      have hs : belowSt lit least (.ok bs) = (0, .error er) := by simp only [belowSt, hb]
      rw [hs]
      exact ⟨rfl, ⟨a, n, c, er, bs, hr, h2, h3, rfl, belowL_er hb⟩, hg⟩
    | ok p =>
      obtain ⟨v, rest⟩ := p
      rw [hb] at hp
      obtain ⟨rfl, a', c', hr, hbk⟩ := hp
      have hs : belowSt lit least (.ok bs) = (v, .ok rest) := by simp only [belowSt, hb]
      rw [hs]
      have hle : rest.length ≤ n := by
        have e := (below_get hb).1
        have hn := h1.sees.lenMap
        have := congrArg List.length e
        rw [List.length_append] at this
        omega
      exact ⟨rfl, ⟨a', rest.length, c', 0, rest, hr, fun b hb2 => h2 b (by rw [← hbk]; exact hb2), by omega, rfl, rfl⟩, hg⟩
set_option maxRecDepth 100000 in
set_option maxHeartbeats 1600000 in
theorem gates_any (R B most first count : Nat) (st : St) (w : World) (h : RdS R B most st w) (hBR : B ≤ R) (hc : first + count ≤ 100000) :
    Calls Tryz.prog 26 #[.pointer (some ⟨R, 0, none⟩), .int .u32 first, .int .u32 count] w fun e w' => ∃ v, e = .returned v ∧ own2 nv32 46 w' w.heap.size v (gatesSt count (2 * first) st).1 ∧ RdS R B most (gatesSt count (2 * first) st).2 w' ∧ w.grownBy w' (some R) := by
  obtain ⟨i0, hi, hz0, hz1, hz2⟩ := info_parts info_cgate
  have mk := fun W => run_make2 (P := Tryz.prog) nv32 Tryz.underlying23 hi hz0 hz1 hz2 rfl count (count : Int) rfl (by omega) (by omega) W
  have hlt := h.lt
  obtain ⟨D, hD⟩ : ∃ D, D = w.heap.size := ⟨_, rfl⟩
  have mk1 := mk w
  rw [← hD] at mk1 ⊢
  obtain ⟨WA, hWA⟩ : ∃ WA, WA = w.alloc (.cells (pcells nv32 (List.replicate count (0, 0))) 46) := ⟨_, rfl⟩
  have HRD : Hid (R ≠ D ∧ B ≤ D) := ⟨by omega, by omega⟩
  have HBR := Lib.hid hBR
  have hbA : Below w.heap.size w WA := by rw [hWA]; exact ext_alloc _ _
  have H0 : Hid (RdS R B most st WA) := h.below hBR hbA
  have HD0 : Hid (WA.heap[D]? = some (.cells (pcells nv32 (List.replicate count (0, 0))) 46 (0, 0))) := by rw [hWA]; exact heap_new _ _ _ hD
  have HG0 : Hid (w.grownBy WA (some R)) := but_below (World.grownBy.refl _ _) hbA
  have HDW : Hid (D = w.heap.size) := hD
  rw [← hWA] at mk1
  clear mk hlt h hBR hD hi hz0 hz1 hz2 hWA hbA
  go_enter Tryz.func26, Tryz.ntmps26
  go_wp2
  go_loopw [8, 9, 14] (fun i own j wr => ∃ (k : Nat) (acc : List (Nat × Nat)) (stk : St), k ≤ count ∧ j = .int .i64 k ∧ Hid (acc.length = k ∧ gatesSt count (2 * first) st = (acc ++ (gatesSt (count - k) (2 * (first + k)) stk).1, (gatesSt (count - k) (2 * (first + k)) stk).2)) ∧ Hid (RdS R B most stk wr) ∧
      Hid (wr.heap[D]? = some (.cells (pcells nv32 (acc ++ List.replicate (count - k) (0, 0))) 46 (0, 0))) ∧ Hid (w.grownBy wr (some R)))
    (fun _ _ j _ => count - (intOf j).toNat)
  case atStart => exact ⟨0, [], st, Nat.zero_le _, rfl, ⟨rfl, rfl⟩, H0, HD0, HG0⟩
  case round =>
    obtain ⟨k, acc, stk, hk, rfl, hl, hR, hDh, hG⟩ := hrel
    by_cases hlt : k < count
    · obtain ⟨q, hq⟩ : ∃ q, count - k = q + 1 := ⟨count - k - 1, by omega⟩
      obtain ⟨o, ho⟩ : ∃ o, o = 2 * (first + k) := ⟨_, rfl⟩
      have ho32 : o < 4294967296 := by omega
      have HC := Lib.hid (belowSt_any R B most o 1 stk wr hR.out ho32)
      have HQ := Lib.hid hq
      have W2 : IntKind.u32.wrap (k : Int) = (k : Int) := by rw [IntKind.wrap_u32]; omega
      have W3 : IntKind.u32.wrap ((first : Int) + (k : Int)) = (first : Int) + (k : Int) := by rw [IntKind.wrap_u32]; omega
      have W4 : IntKind.u32.wrap (2 * ((first : Int) + (k : Int))) = (o : Int) := by rw [IntKind.wrap_u32, ho]; omega
      have HO := Lib.hid ho
      clear hq ho
      go_wp2_with fail
      refine HC.out.mono ?_
      rintro e w1 ⟨rfl, hR1, hg1⟩
      obtain ⟨x, hx⟩ : ∃ x, x = (belowSt o 1 stk).1 := ⟨_, rfl⟩
      obtain ⟨s1, hs1⟩ : ∃ s, s = (belowSt o 1 stk).2 := ⟨_, rfl⟩
      have hxo : x ≤ o := by rw [hx]; exact belowSt_le _ _ _
      have hstep : gatesSt (q + 1) o stk = ((x, (belowSt x 0 s1).1) :: (gatesSt q (o + 2) (belowSt x 0 s1).2).1, (gatesSt q (o + 2) (belowSt x 0 s1).2).2) := by rw [gatesSt, ← hx, ← hs1]
      rw [← hx]
      rw [← hs1] at hR1
      have hq2 : count - (k + 1) = q := by have := HQ.out; omega
      have hD1 : w1.heap[D]? = some (.cells (pcells nv32 (acc ++ List.replicate (q + 1) (0, 0))) 46 (0, 0)) := by
        rw [← HQ.out]; exact heap_grown hDh.out hg1 (by intro e; cases e; exact HRD.out.1 rfl)
      have hlen : k < (acc ++ List.replicate (q + 1) (0, 0)).length := by have := hl.out.1; simp; omega
      have cD := (cell_of_block hD1 (k * 2)).trans (pcells_get nv32 _ k hlen).1
      have fD := unfrozen_of_block hD1 (k * 2)
      have hw : w.heap.size ≤ D := by rw [HDW.out]; exact Nat.le_refl _
      obtain ⟨w2, hw2⟩ : ∃ w2, w2 = w1.setCell ⟨D, k * 2, .none⟩ (.int .u32 x) := ⟨_, rfl⟩
      have hD2 : w2.heap[D]? = some (.cells ((pcells nv32 (acc ++ List.replicate (q + 1) (0, 0))).setIfInBounds (k * 2) (nv32 x)) 46 (0, 0)) := by rw [hw2]; exact block_setCell hD1 (i := k * 2) (nv32 x)
      have hR2 : RdS R B most s1 w2 := by rw [hw2]; exact hR1.set (Ne.symm HRD.out.1) HRD.out.2
      have hg2 : w.grownBy w2 (some R) := by rw [hw2]; exact grown_new (but_trans hG.out hg1) hw
      have cD2 : w2.cell? ⟨D, k * 2, none⟩ = some (.int .u32 x) := by
        rw [pcells_set1] at hD2
        have hl2 : k < ((acc ++ List.replicate (q + 1) (0, 0)).set k (x, ((acc ++ List.replicate (q + 1) (0, 0)).getD k (0, 0)).2)).length := by rw [List.length_set]; exact hlen
        have h := (cell_of_block hD2 (k * 2)).trans (pcells_get nv32 _ k hl2).1
        rw [h, pset_self _ _ _ hlen]
        rfl
      have HC2 := Lib.hid (belowSt_any R B most x 0 s1 w2 hR2 (by omega))
      have HST := Lib.hid hstep
      have HD2 := Lib.hid hD2
      have HG2 := Lib.hid hg2
      have HW2 := Lib.hid hw2
      have HLEN := Lib.hid hlen
      have HL := Lib.hid hl.out
      have HWD := Lib.hid hw
      have HQ2 := Lib.hid hq2
      have HXO := Lib.hid hxo
      have W1 : IntKind.i64.wrap ((k : Int) + 1) = (k : Int) + 1 := IntWalk.i64_in _ (by omega)
      have cD3 : (w1.setCell ⟨D, k * 2, .none⟩ (.int .u32 x)).cell? ⟨D, k * 2, none⟩ = some (.int .u32 x) := by rw [← hw2]; exact cD2
      clear hg1 hR1 hx hs1 hstep hD1 hlen hw hl hR hDh hG hq2 hw2 hD2 hR2 hg2 cD2 hxo
      unfold nv32 at cD
      go_wp2_with fail
      rw [← HW2.out]
      refine HC2.out.mono ?_
      rintro e w3 ⟨rfl, hR3, hg3⟩
      obtain ⟨y, hy⟩ : ∃ y, y = (belowSt x 0 s1).1 := ⟨_, rfl⟩
      obtain ⟨s2, hs2⟩ : ∃ s, s = (belowSt x 0 s1).2 := ⟨_, rfl⟩
      have hstep := HST.out
      rw [← hy, ← hs2] at hstep
      rw [← hy]
      rw [← hs2] at hR3
      have hD3 : w3.heap[D]? = _ := heap_grown HD2.out hg3 (by intro e; cases e; exact HRD.out.1 rfl)
      have hD4 : (w3.setCell ⟨D, k * 2 + 1, .none⟩ (nv32 y)).heap[D]? = some (.cells (pcells nv32 ((acc ++ [(x, y)]) ++ List.replicate (count - (k + 1)) (0, 0))) 46 (0, 0)) := by
        have h2 := block_setCell hD3 (i := k * 2 + 1) (nv32 y)
        rw [pcells_both nv32 acc q k x y HL.out.1] at h2
        rw [h2, HQ2.out]
      have cE : w3.cell? ⟨D, k * 2 + 1, none⟩ = some (.int .u32 (((((acc ++ List.replicate (q + 1) (0, 0)).set k (x, ((acc ++ List.replicate (q + 1) (0, 0)).getD k (0, 0)).2)).getD k (0, 0)).2 : Nat) : Int)) := by
        rw [pcells_set1] at hD3
        have hl2 : k < ((acc ++ List.replicate (q + 1) (0, 0)).set k (x, ((acc ++ List.replicate (q + 1) (0, 0)).getD k (0, 0)).2)).length := by rw [List.length_set]; exact HLEN.out
        exact (cell_of_block hD3 (k * 2 + 1)).trans (pcells_get nv32 _ k hl2).2
      have fE := unfrozen_of_block hD3 (k * 2 + 1)
      have HR4 := Lib.hid (hR3.set (j := k * 2 + 1) (v := nv32 y) (Ne.symm HRD.out.1) HRD.out.2)
      have HD4 := Lib.hid hD4
      have HG4 := Lib.hid (grown_new (v := nv32 y) (j := k * 2 + 1) (but_trans HG2.out hg3) HWD.out)
      have HL2 : Hid ((acc ++ [(x, y)]).length = k + 1 ∧ gatesSt count (2 * first) st = ((acc ++ [(x, y)]) ++ (gatesSt (count - (k + 1)) (2 * (first + (k + 1))) s2).1, (gatesSt (count - (k + 1)) (2 * (first + (k + 1))) s2).2)) := by
        refine ⟨by simp [HL.out.1], ?_⟩
        rw [HL.out.2, HQ.out, ← HO.out, hstep, HQ2.out, show 2 * (first + (k + 1)) = o + 2 by have := HO.out; omega]
        simp
      clear hy hs2 hstep hR3 hD3 hD4 hg3 cD cD3 fD
      unfold nv32 at *
      go_wp2
      go_roundw
      case rel => exact ⟨k + 1, acc ++ [(x, y)], s2, by omega, by go_num, HL2, HR4, HD4, HG4⟩
      case measure => simp [intOf]; omega
    · obtain rfl : count = k := by omega
      have hll : gatesSt count (2 * first) st = (acc, stk) := by
        have := hl.out.2
        rw [Nat.sub_self] at this
        simpa [gatesSt] using this
      have HLL := Lib.hid hll
      have hrow : own2 nv32 46 wr D (.slice (some ⟨D, 0, .none⟩) count count) acc := by
        have h := hDh.out
        rw [Nat.sub_self, List.replicate_zero, List.append_nil] at h
        exact own2_pcells D (Nat.le_refl _) h hl.out.1 (by omega)
      have HRW := Lib.hid hrow
      have HR := Lib.hid hR.out
      have HG := Lib.hid hG.out
      clear hll hrow hl hR hDh hG
      go_wp2
      go_ret
      rw [HLL.out]
      exact ⟨_, rfl, HRW.out, HR.out, HG.out⟩
end Go.Proofs.YtglhnmbfkbjemaaGreatDoor
