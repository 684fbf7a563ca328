/- The law VcdLoose: the bytes with gaps more, as the law makes them. -/
import Derived.Test.YtgplkpfdbiapaaaGreatDoorGH
import Derived.Test.YtgplkpfdbiapaaaGreatDoorVdHold
import Derived.Deep.CutRange
import Derived.Maps.AppendAt
namespace Go.Proofs.YtgplkpfdbiapaaaGreatDoor
open Go Go.RowKit Go.Joins Go.Shelf Go.Maps

/-- What the loop has made of the first i bytes. -/
def LooseAt (b more : List UInt8) (i k : Nat) (x : List UInt8) : Prop := x ++ looseL more k (b.drop i) = looseL more 0 b
theorem loose_plain {b more : List UInt8} {i k : Nat} {x : List UInt8} (h : LooseAt b more i k x) (hi : i < b.length) (hg : gapV (b.getD i 0) = false) : LooseAt b more (i + 1) k (x ++ [b.getD i 0]) := by
  unfold LooseAt at *
  rw [List.drop_eq_getElem_cons hi, looseL] at h
  have e : b[i] = b.getD i 0 := by simp [List.getD, List.getElem?_eq_getElem hi]
  rw [e, if_neg (by rw [hg]; simp)] at h
  rw [List.append_assoc]
  exact h
theorem loose_gap {b more : List UInt8} {i k : Nat} {x : List UInt8} (h : LooseAt b more i k x) (hi : i < b.length) (hg : gapV (b.getD i 0) = true) : LooseAt b more (i + 1) (k + 1) ((x ++ [b.getD i 0]) ++ [gapOf more k]) := by
  unfold LooseAt at *
  rw [List.drop_eq_getElem_cons hi, looseL] at h
  have e : b[i] = b.getD i 0 := by simp [List.getD, List.getElem?_eq_getElem hi]
  rw [e, if_pos hg] at h
  rw [List.append_assoc, List.append_assoc]
  exact h
theorem gap_cases {u : UInt8} (h : gapV u = true) : u = 32 ∨ u = 9 ∨ u = 10 ∨ u = 13 := by
  unfold gapV at h
  simp only [Bool.or_eq_true, beq_iff_eq] at h
  rcases h with ((h | h) | h) | h
  · exact Or.inl h
  · exact Or.inr (Or.inl h)
  · exact Or.inr (Or.inr (Or.inl h))
  · exact Or.inr (Or.inr (Or.inr h))
theorem loose_le {b more : List UInt8} {i k : Nat} {x : List UInt8} (h : LooseAt b more i k x) : x.length ≤ 2 * b.length := by
  have h1 := loose_len more b 0
  unfold LooseAt at h
  rw [← h, List.length_append] at h1
  omega
theorem gap4 (q : Nat) (hq : q < 4) : (#[Value.int .u8 32, .int .u8 9, .int .u8 10, .int .u8 13])[q]? = some (bv ([32, 9, 10, 13].getD q 0)) := by
  rcases q with _ | _ | _ | _ | q
  · rfl
  · rfl
  · rfl
  · rfl
  · omega
/-- 'append(x, ..)' of a row that the call owns: what comes back owns its cells, and so does x still. -/
theorem run_append_keep {P : Program} {w : World} (base : Nat) (t ty e : TypeId) (i : TypeInfo) (z : Value) (bytes : Nat) (ht : P.underlying t = some (.slice e)) (hi : P.info? e = some i) (hz : i.zero = some z)
    (hsize : i.size = 1) (hby : i.bytes = bytes) (hzs : z.cells.size = 1)
    (v : Value) (n : Nat) (xs : List Value) (hown : w.ownsRow base e 1 v n xs)
    (a : Addr) (m c : Nat) (news : List Value) (hl : news.length = m) (hnews : ∀ j u, news[j]? = some u → w.cell? (a.add j) = some u) (h1 : ∀ u ∈ news, u.oneCell' = true)
    (h63 : n + m ≤ maxLen) (hbytes : (n + m) * bytes ≤ 140737488355328) (hbase : base ≤ w.heap.size) :
    ∃ v' w', (Builtin.append_ #[t, t] ty #[v, .slice (some a) m c]).run P w = .ok v' w' ∧ w'.ownsRow base e 1 v' (n + m) (xs ++ news) ∧ w.grownBy w' v.ownBlock ∧ w'.ownsRow base e 1 v n xs := by
  have hl1 : news.length = m * 1 := by omega
  obtain ⟨v', w', hr, h2, h3, _, _⟩ := run_append_own_at (P := P) w base t ty e i z 1 bytes ht hi hz hsize hby hzs (by decide) v n xs hown a m c news hl1 hnews h1 h63 hbytes hbase
  refine ⟨v', w', hr, h2, h3, ?_⟩
  rcases hown.2 with ⟨rfl, rfl⟩ | ⟨g, cap, cur, rfl, hbg, hg, hnc, hcm, hcs, htake⟩
  · have hx : xs = [] := List.eq_nil_of_length_eq_zero (by simpa using hown.1)
    subst hx
    exact World.ownsRow_nil w' base e 1
  · by_cases hroom : n + m ≤ cap
    · have hfit : n * i.size + news.length ≤ cur.size := by rw [hl, hcs, hsize]; omega
      have hr2 := run_append_room (P := P) w t ty e i ht hi g n cap cur hg a m c news (by rw [hl, hsize]; omega) hnews h1 hroom hfit
      rw [hr] at hr2
      injection hr2 with e1 e2
      subst e2
      refine ⟨hown.1, .inr ⟨g, cap, _, rfl, hbg, setRow_heap w g cur _ e _ hg, hnc, hcm, ?_, ?_⟩⟩
      · simp only [List.size_toArray, List.length_append, List.length_take, List.length_drop, Array.length_toList]
        rw [hsize] at hfit ⊢
        omega
      · rw [hsize]
        simp only [List.append_assoc]
        rw [List.take_append_of_le_length (by simp only [List.length_take, Array.length_toList]; omega), List.take_take, Nat.min_self]
        exact htake
    · have holds : ∀ j u, xs[j]? = some u → w.cell? ((⟨g, 0, none⟩ : Addr).add j) = some u := hown.cells (g := g) rfl
      have hr2 := run_append_grow (P := P) w t ty e i z ht hi hz ⟨g, 0, none⟩ n cap xs (by rw [hsize]; exact hown.1) holds a m c news (by rw [hl, hsize]; omega) hnews (by omega) (by unfold maxLen at h63; omega) (growslice_fits (by omega) (by rw [hby]; exact hbytes))
      rw [hr] at hr2
      injection hr2 with e1 e2
      subst e2
      exact World.ownsRow.alloc (show w.drew.ownsRow base e 1 _ n xs from hown) _
theorem wpList_append_keep {P : Program} {w : World} {ops : Array Oper} {rest : List Oper} {o : Oper} {ac : Act} {Q : Exit → Act → World → Prop} (hgd : o.guard = none) (s x : Operand) (t : TypeId)
    (ho : o.op = .call { callee := .builtin .append, args := #[s, x], argTypes := #[t, t] })
    (base : Nat) (e : TypeId) (i : TypeInfo) (z : Value) (bytes : Nat) (ht : P.underlying t = some (.slice e)) (hi : P.info? e = some i) (hz : i.zero = some z)
    (hsize : i.size = 1) (hby : i.bytes = bytes) (hzs : z.cells.size = 1)
    (v : Value) (n : Nat) (xs : List Value) (hs : ac.eval s = v) (hown : w.ownsRow base e 1 v n xs)
    (a : Addr) (m c : Nat) (news : List Value) (hx : ac.eval x = .slice (some a) m c) (hl : news.length = m) (hnews : ∀ j u, news[j]? = some u → w.cell? (a.add j) = some u) (h1 : ∀ u ∈ news, u.oneCell' = true)
    (h63 : n + m ≤ maxLen) (hbytes : (n + m) * bytes ≤ 140737488355328) (hbase : base ≤ w.heap.size)
    (h : ∀ v' w', w'.ownsRow base e 1 v' (n + m) (xs ++ news) → w.grownBy w' v.ownBlock → w'.ownsRow base e 1 v n xs → wpList P ops Q rest (ac.put o.dst v') w') :
    wpList P ops Q (o :: rest) ac w := by
  refine wpList_plain hgd fun K hK => ?_
  obtain ⟨v', w', hr, h2, h3, h4⟩ := run_append_keep (P := P) (w := w) base t o.type e i z bytes ht hi hz hsize hby hzs v n xs hown a m c news hl hnews h1 h63 hbytes hbase
  unfold Oper.wp execOp
  simp only [ho, resolve, invoke, builtin, Sem.run_bind, Sem.run_pure, Result.andThen_ok, List.map_toArray, List.map_cons, List.map_nil, hs, hx, hr]
  exact hK _ _ (h v' w' h2 h3 h4)
end Go.Proofs.YtgplkpfdbiapaaaGreatDoor
