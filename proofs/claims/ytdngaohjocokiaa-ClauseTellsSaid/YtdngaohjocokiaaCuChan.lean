/- A channel in one goroutine, in the walk's terms: a region whose operations send to a channel with room, or select from one (with a default). No function of the program is named here. -/
import Derived.BigQuiet
import Derived.Conc.LoneSelect
import Derived.Deep.QuietTactic
import Derived.Deep.RegionWith
import Derived.Lib.ConvBytes
import Derived.Lib.Hide
import Derived.Lib.SlBytesRow
import Derived.Lib.SmallJoins
import Derived.Shelf.Bytes.SlSmallAll
import Derived.WalkKit
import Derived.WalkLawsBesides
import Derived.WalkSpells
namespace Go.Proofs.Ytdngaohjocokiaa
open Go Go.RowKit Go.Conc

/-- What is left of a region leads to Q. -/
def RestTo (P : Program) (ops : Array Oper) (Q : Exit → Act → World → Prop) (l : List Nat) (a : Act) (w : World) : Prop :=
  ∀ (b : Frame) (k : List Item) (cs : List Frame), ∃ e a' w', Q e a' w' ∧ Arrives P (lone (b.at a (.inRegion ops l :: k)) cs w) b k cs e a' w'

section
variable {P : Program} {ops : Array Oper} {Q : Exit → Act → World → Prop} {a : Act} {w w' : World} {i : Nat} {rest : List Nat} {o : Oper} {v : Value}

theorem rest_ops (h : wpOps P ops Q rest a w) : RestTo P ops Q rest a w := fun b k cs => wp_ops rest a w h b k cs

/-- The region, its order fixed. -/
theorem wp_of_rest {id : Nat} (h : RestTo P ops Q (List.range ops.size) a w) : (Code.region id ops false).wp P Q a w :=
  fun b k cs => let ⟨e, a', w', q, r⟩ := h b k cs; ⟨e, a', w', q, .of_steps (.one step_region) r⟩

/-- An operation that yields a value. -/
theorem rest_value (ho : ops[i]? = some o) (hw : Region.wanted o (yielded ops a.tmps) = true) (hr : (execOp a.eval o).run P w = .ok (.value v) w') (h : RestTo P ops Q rest (a.put o.dst v) w') :
    RestTo P ops Q (i :: rest) a w := by
  intro b k cs
  obtain ⟨e, a', w2, hq, harr⟩ := h b k cs
  refine ⟨e, a', w2, hq, .of_steps (.one (step_lone_go ?_)) harr⟩
  have hfin : (b.at a (.inRegion ops (i :: rest) :: k)).finish v = b.at (a.put o.dst v) (.inRegion ops rest :: k) := by rw [Frame.finish_at, ho]; rfl
  rw [stepG_op ho hw, ← hfin]; simp [stepG.apply, hr]

theorem stepG_commAny (ho : ops[i]? = some o) (hw : Region.wanted o (yielded ops a.tmps) = true) {cases : Array CommCase} {blocking : Bool} {shape : CommShape}
    (hr : (execOp a.eval o).run P w = .ok (.comm cases blocking shape) w') (b : Frame) (k : List Item) (cs : List Frame) :
    ∃ es, stepG P true (G (b.at a (.inRegion ops (i :: rest) :: k)) cs) w = .comm (G (b.at a (.inRegion ops (i :: rest) :: k)) cs) cases blocking shape w' es := by
  have h : (stepG P true (G (b.at a (.inRegion ops (i :: rest) :: k)) cs) w).bare = (GStep.comm (G (b.at a (.inRegion ops (i :: rest) :: k)) cs) cases blocking shape w').bare := by
    show (stepG P true { frame := b.at a (.inRegion ops (i :: rest) :: k), callers := cs, status := .running, dying := none } w).bare = _
    rw [stepG_op ho hw]
    simp [stepG.apply, hr, G]
  generalize hs : stepG P true (G (b.at a (.inRegion ops (i :: rest) :: k)) cs) w = s at h
  cases s <;> simp at h
  obtain ⟨rfl, rfl, rfl, rfl, rfl⟩ := h
  exact ⟨_, rfl⟩

/-- A send into a buffer with room. -/
theorem rest_send {c cap s r : Nat} {buf : Array Value} {z : Value} {tm : Bool} (ho : ops[i]? = some o) (hw : Region.wanted o (yielded ops a.tmps) = true)
    (hr : (execOp a.eval o).run P w = .ok (.comm #[scase c v z] true .send) w') (hc : w'.heap[c]? = some (.chan cap buf false s r tm)) (hroom : buf.size < cap)
    (h : RestTo P ops Q rest (a.put o.dst undef) (w'.setChan c cap (buf.push v) false (s + 1) r tm)) : RestTo P ops Q (i :: rest) a w := by
  intro b k cs
  obtain ⟨e, a', w2, hq, harr⟩ := h b k cs
  refine ⟨e, a', w2, hq, .of_steps (.one ?_) harr⟩
  have hfin : (b.at a (.inRegion ops (i :: rest) :: k)).finish undef = b.at (a.put o.dst undef) (.inRegion ops rest :: k) := by rw [Frame.finish_at, ho]; rfl
  obtain ⟨es, he⟩ := stepG_commAny (rest := rest) ho hw hr b k cs
  have := step_lone_send_room he hc hroom
  rw [hfin] at this
  exact this

/-- A select of one receive, with a default, from a buffer that holds something. -/
theorem rest_select_buf {c cap s r : Nat} {buf : Array Value} {z : Value} {tm closed : Bool} (ho : ops[i]? = some o) (hw : Region.wanted o (yielded ops a.tmps) = true)
    (hr : (execOp a.eval o).run P w = .ok (.comm #[rcase c z] false .select) w') (hc : w'.heap[c]? = some (.chan cap buf closed s r tm)) (hsome : 0 < buf.size)
    (h : RestTo P ops Q rest (a.put o.dst (.tuple #[goInt 0, .bool true, buf.getD 0 undef])) (w'.setChan c cap (buf.extract 1 buf.size) closed s (r + 1) tm)) : RestTo P ops Q (i :: rest) a w := by
  intro b k cs
  obtain ⟨e, a', w2, hq, harr⟩ := h b k cs
  refine ⟨e, a', w2, hq, .of_steps (.one ?_) harr⟩
  have hfin : ∀ u, (b.at a (.inRegion ops (i :: rest) :: k)).finish u = b.at (a.put o.dst u) (.inRegion ops rest :: k) := fun u => by rw [Frame.finish_at, ho]; rfl
  obtain ⟨es, he⟩ := stepG_commAny (rest := rest) ho hw hr b k cs
  have := step_lone_select_recv_buf he hc hsome
  rw [hfin] at this
  exact this

/-- .. from an empty one that is open: the default. -/
theorem rest_select_none {c cap s r : Nat} {z : Value} {tm : Bool} (ho : ops[i]? = some o) (hw : Region.wanted o (yielded ops a.tmps) = true)
    (hr : (execOp a.eval o).run P w = .ok (.comm #[rcase c z] false .select) w') (hc : w'.heap[c]? = some (.chan cap #[] false s r tm))
    (h : RestTo P ops Q rest (a.put o.dst (.tuple #[goInt (-1), .bool false, z])) w') : RestTo P ops Q (i :: rest) a w := by
  intro b k cs
  obtain ⟨e, a', w2, hq, harr⟩ := h b k cs
  refine ⟨e, a', w2, hq, .of_steps (.one ?_) harr⟩
  have hfin : ∀ u, (b.at a (.inRegion ops (i :: rest) :: k)).finish u = b.at (a.put o.dst u) (.inRegion ops rest :: k) := fun u => by rw [Frame.finish_at, ho]; rfl
  obtain ⟨es, he⟩ := stepG_commAny (rest := rest) ho hw hr b k cs
  have := step_lone_select_default he hc
  rw [hfin] at this
  exact this
end
end Go.Proofs.Ytdngaohjocokiaa
