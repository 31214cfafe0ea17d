/-
  append of any slice to a row of the call's own, with the block of what it gives.
-/
import Derived.Test.YtpfnmjcomdckgaaDoorRSpoA
import Derived.Deep.Upon
import Derived.Maps.AppendAt
namespace Go.Proofs.YtpfnmjcomdckgaaDoor
open Go.RowKit Go.Shelf
set_option linter.unusedVariables false
set_option linter.unusedSimpArgs false

theorem wpList_append_src {P : Program} (w : World) {ops : Array Oper} {rest : List Oper} {o : Oper} {a : Act} {Q : Exit → Act → World → Prop} (hgd : o.guard = none) (s x : Operand) (t : TypeId)
    (ho : o.op = .call { callee := .builtin .append, args := #[s, x], argTypes := #[t, t] })
    (base : Nat) (e : TypeId) (i : TypeInfo) (z : Value) (size bytes : Nat) (ht : P.underlying t = some (.slice e)) (hi : P.info? e = some i) (hz : i.zero = some z)
    (hsize : i.size = size) (hby : i.bytes = bytes) (hzs : z.cells.size = size) (hsz : 0 < size)
    (v : Value) (n : Nat) (xs : List Value) (hs : a.eval s = v) (hown : w.ownsRow base e size v n xs)
    (ao : Option Addr) (m c : Nat) (news : List Value) (hx : a.eval x = .slice ao m c) (hl : news.length = m * size) (hc : ∀ ad, ao = some ad → ∀ j u, news[j]? = some u → w.cell? (ad.add j) = some u) (hn : ao = none → m = 0) (h1 : ∀ u ∈ news, u.oneCell' = true)
    (h63 : n + m ≤ maxLen) (hbytes : (n + m) * bytes ≤ 140737488355328) (hbase : base ≤ w.heap.size)
    (h : ∀ v' w', w'.ownsRow base e size v' (n + m) (xs ++ news) → w.grownBy w' v.ownBlock → (v'.ownBlock = v.ownBlock ∨ v'.ownBlock = some w.heap.size) → wpList P ops Q rest (a.put o.dst v') w') : wpList P ops Q (o :: rest) a w := by
  refine wpList_plain hgd fun K hK => ?_
  have key : ∃ v' w', (Builtin.append_ #[t, t] o.type #[v, .slice ao m c]).run P w = .ok v' w' ∧ w'.ownsRow base e size v' (n + m) (xs ++ news) ∧ w.grownBy w' v.ownBlock ∧ (v'.ownBlock = v.ownBlock ∨ v'.ownBlock = some w.heap.size) := by
    cases ao with
    | some ad =>
      obtain ⟨v', w', g1, g2, g3, _, g5⟩ := run_append_own_at (P := P) w base t o.type e i z size bytes ht hi hz hsize hby hzs hsz v n xs hown ad m c news hl (hc ad rfl) h1 h63 hbytes hbase
      exact ⟨v', w', g1, g2, g3, g5⟩
    | none =>
      obtain rfl := hn rfl
      have hnn : news = [] := List.eq_nil_of_length_eq_zero (by simpa using hl)
      subst hnn
      have hv : ∃ bo sl sc, v = .slice bo sl sc ∧ sl ≤ sc := by
        rcases hown.2 with ⟨rfl, _⟩ | ⟨g, cap, cur, rfl, _, _, hnc, _⟩
        · exact ⟨_, _, _, rfl, Nat.le_refl _⟩
        · exact ⟨_, _, _, rfl, hnc⟩
      obtain ⟨bo, sl, sc, rfl, hle⟩ := hv
      refine ⟨_, w, run_append_nothing w t t o.type e i ht hi bo sl sc hle _ (Src.ofNil w (size := i.size) ht c), by simpa using hown, ⟨rfl, rfl, rfl, Nat.le_refl _, fun _ _ _ => rfl⟩, .inl rfl⟩
  obtain ⟨v', w', hrun, h2, h3, h4⟩ := key
  unfold Oper.wp execOp
  simp only [ho, resolve, invoke, builtin, Sem.run_bind, Sem.run_pure, Result.andThen_ok, List.map_toArray, List.map_cons, List.map_nil, hs, hx, hrun]
  exact hK _ _ (h v' w' h2 h3 h4)
theorem subCells_one (l : List SubM) : ∀ u ∈ subCells l, u.oneCell' = true := by
  intro u hu
  unfold subCells at hu
  obtain ⟨q, _, hq⟩ := List.mem_flatMap.1 hu
  simp at hq
  rcases hq with rfl | rfl <;> rfl
theorem subCells_size (l : List SubM) : (subCells l).length = l.length * 2 := by
  unfold subCells
  induction l with
  | nil => rfl
  | cons a r ih => simp only [List.flatMap_cons, List.length_append, ih, List.length_cons, List.length_nil]; omega
theorem sub_at : ∀ (l : List SubM) (i : Nat) (h : i < l.length), (subCells l)[i * 2]? = some (.int .u8 (l[i].code.toNat : Int)) ∧ (subCells l)[i * 2 + 1]? = some (str l[i].text)
  | [], i, h => by simp at h
  | q :: r, 0, h => by simp [subCells]
  | q :: r, i + 1, h => by
    obtain ⟨h0, h1⟩ := sub_at r i (by simpa using h)
    have hc : subCells (q :: r) = [.int .u8 (q.code.toNat : Int), str q.text] ++ subCells r := by simp [subCells]
    have e : ∀ j, ([Value.int .u8 (q.code.toNat : Int), str q.text] ++ subCells r)[(i + 1) * 2 + j]? = (subCells r)[i * 2 + j]? := fun j => by
      rw [List.getElem?_append_right (by simp; omega), show (i + 1) * 2 + j - [Value.int .u8 (q.code.toNat : Int), str q.text].length = i * 2 + j by simp; omega]
    rw [hc]
    exact ⟨(e 0).trans h0, (e 1).trans h1⟩
theorem add_off2 (b off i : Nat) : (⟨b, off, none⟩ : Addr).add i = ⟨b, off + i, none⟩ := by
  unfold Addr.add
  split
  · rename_i h; subst h; rfl
  · rfl
theorem SubsAt.cells {w : World} {ao : Option Addr} {m c : Nat} {l : List SubM} (h : SubsAt w (.slice ao m c) l) (ad : Addr) (ha : ao = some ad) : ∀ j u, (subCells l)[j]? = some u → w.cell? (ad.add j) = some u := by
  intro j u hu
  have hj : j < l.length * 2 := by
    rcases Nat.lt_or_ge j (l.length * 2) with h | h
    · exact h
    · rw [List.getElem?_eq_none (by rw [subCells_size]; exact h)] at hu; cases hu
  rcases h with ⟨a', c', _, rfl⟩ | ⟨b, off, cap, hv, hm, hlt, hc⟩
  · simp at hj
  · simp only [Value.slice.injEq] at hv
    obtain ⟨rfl, -, -⟩ := hv
    cases ha
    have hi : j / 2 < l.length := by omega
    obtain ⟨c0, c1⟩ := hc (j / 2) hi
    obtain ⟨t0, t1⟩ := sub_at l (j / 2) hi
    rw [add_off2]
    have hm3 : j % 2 = 0 ∨ j % 2 = 1 := by omega
    rcases hm3 with h3 | h3
    · have e : j = j / 2 * 2 := by omega
      rw [e] at hu ⊢
      rw [t0] at hu; rw [c0, hu]
    · have e : j = j / 2 * 2 + 1 := by omega
      rw [e] at hu ⊢
      rw [t1] at hu; rw [← Nat.add_assoc, c1, hu]
theorem SubsAt.len {w : World} {ao : Option Addr} {m c : Nat} {l : List SubM} (h : SubsAt w (.slice ao m c) l) : l.length = m ∧ (ao = none → m = 0) := by
  rcases h with ⟨a', c', hv, rfl⟩ | ⟨b, off, cap, hv, hm, hlt, hc⟩
  · simp only [Value.slice.injEq] at hv
    exact ⟨hv.2.1.symm, fun _ => hv.2.1⟩
  · simp only [Value.slice.injEq] at hv
    exact ⟨hv.2.1.symm, fun e => by rw [e] at hv; cases hv.1⟩
end Go.Proofs.YtpfnmjcomdckgaaDoor
