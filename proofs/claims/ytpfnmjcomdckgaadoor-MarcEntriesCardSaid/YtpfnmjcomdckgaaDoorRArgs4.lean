/-
  A slice of triples: appended to a row of the call's own; its size.
-/
import Derived.Test.YtpfnmjcomdckgaaDoorRArgs3
import Derived.Test.YtpfnmjcomdckgaaDoorRLet
import Derived.Deep.Upon
import Derived.Laws.OwnMore
import Derived.SizedLaws
namespace Go.Proofs.YtpfnmjcomdckgaaDoor
open Go.ChangeShapes Go.WideShapes Go.ChangeAt Go.RowKit Go.Shelf
set_option linter.unusedVariables false
set_option linter.unusedSimpArgs false

def tripCells (l : List (Int × Int × Int)) : List Value := l.flatMap fun q => [.int .i64 q.1, .int .i64 q.2.1, .int .i64 q.2.2]
theorem tripCells_len (l : List (Int × Int × Int)) : (tripCells l).length = l.length * 3 := by
  unfold tripCells
  induction l with
  | nil => rfl
  | cons a r ih => simp only [List.flatMap_cons, List.length_append, ih, List.length_cons, List.length_nil]; omega
theorem trip_at : ∀ (l : List (Int × Int × Int)) (i : Nat) (h : i < l.length), (tripCells l)[i * 3]? = some (.int .i64 l[i].1) ∧ (tripCells l)[i * 3 + 1]? = some (.int .i64 l[i].2.1) ∧ (tripCells l)[i * 3 + 2]? = some (.int .i64 l[i].2.2)
  | [], i, h => by simp at h
  | q :: r, 0, h => by simp [tripCells]
  | q :: r, i + 1, h => by
    have ih := trip_at r i (by simpa using h)
    have hc : tripCells (q :: r) = [.int .i64 q.1, .int .i64 q.2.1, .int .i64 q.2.2] ++ tripCells r := by simp [tripCells]
    rw [hc]
    refine ⟨?_, ?_, ?_⟩
    · rw [List.getElem?_append_right (by simp; omega), show (i + 1) * 3 - [Value.int .i64 q.1, .int .i64 q.2.1, .int .i64 q.2.2].length = i * 3 by simp; omega]; exact ih.1
    · rw [List.getElem?_append_right (by simp; omega), show (i + 1) * 3 + 1 - [Value.int .i64 q.1, .int .i64 q.2.1, .int .i64 q.2.2].length = i * 3 + 1 by simp; omega]; exact ih.2.1
    · rw [List.getElem?_append_right (by simp; omega), show (i + 1) * 3 + 2 - [Value.int .i64 q.1, .int .i64 q.2.1, .int .i64 q.2.2].length = i * 3 + 2 by simp; omega]; exact ih.2.2
theorem ReadsT.fits {w : World} {v : Value} {l : List (Int × Int × Int)} (h : ReadsT w v l) : ∀ q ∈ l, Fits q.1 ∧ Fits q.2.1 ∧ Fits q.2.2 := by
  intro q hq
  obtain ⟨i, hi, rfl⟩ := List.getElem_of_mem hq
  obtain ⟨a, cap, -, -, hc⟩ := h.slice
  obtain ⟨b, off, -, -, -, -, -, h1⟩ := hc i hi
  exact h1
theorem ReadsT.cells {w : World} {a : Addr} {m c : Nat} {l : List (Int × Int × Int)} (h : ReadsT w (.slice (some a) m c) l) : ∀ j u, (tripCells l)[j]? = some u → w.cell? (a.add j) = some u := by
  intro j u hu
  have hj : j < l.length * 3 := by
    rcases Nat.lt_or_ge j (l.length * 3) with h | h
    · exact h
    · rw [List.getElem?_eq_none (by rw [tripCells_len]; exact h)] at hu; cases hu
  rcases h with ⟨a', c', _, rfl⟩ | ⟨b, off, cap, hv, hm, hlt, hc⟩
  · simp at hj
  · simp only [Value.slice.injEq, Option.some.injEq] at hv
    obtain ⟨rfl, -, -⟩ := hv
    have hi : j / 3 < l.length := by omega
    obtain ⟨c0, c1, c2, -⟩ := hc (j / 3) hi
    obtain ⟨t0, t1, t2⟩ := trip_at l (j / 3) hi
    rw [add_off]
    have hm3 : j % 3 = 0 ∨ j % 3 = 1 ∨ j % 3 = 2 := by omega
    rcases hm3 with h3 | h3 | h3
    · have e : j = j / 3 * 3 := by omega
      rw [e] at hu ⊢
      rw [t0] at hu; rw [c0, hu]
    · have e : j = j / 3 * 3 + 1 := by omega
      rw [e] at hu ⊢
      rw [t1] at hu; rw [← Nat.add_assoc, c1, hu]
    · have e : j = j / 3 * 3 + 2 := by omega
      rw [e] at hu ⊢
      rw [t2] at hu; rw [← Nat.add_assoc, c2, hu]
theorem trips_of_own {w : World} {B : Nat} {v : Value} {l : List (Int × Int × Int)} (h : w.ownsRow B 23 3 v l.length (tripCells l)) (hf : ∀ q ∈ l, Fits q.1 ∧ Fits q.2.1 ∧ Fits q.2.2) : ReadsT w v l := by
  rcases h.2 with ⟨rfl, h0⟩ | ⟨g, cap, cur, rfl, hB, hg, hnc, hcm, hsz, htake⟩
  · exact .inl ⟨_, _, rfl, List.eq_nil_of_length_eq_zero h0⟩
  · refine .inr ⟨g, 0, cap, rfl, Nat.le_trans hnc hcm, (Array.getElem?_eq_some_iff.1 hg).1, fun i hi => ?_⟩
    obtain ⟨t0, t1, t2⟩ := trip_at l i hi
    refine ⟨?_, ?_, ?_, hf _ (List.getElem_mem hi)⟩
    · rw [Nat.zero_add, h.cellAt _ (by omega)]; exact t0
    · rw [Nat.zero_add, h.cellAt _ (by omega)]; exact t1
    · rw [Nat.zero_add, h.cellAt _ (by omega)]; exact t2
/-- append(own, xs...), xs any slice of triples. -/
theorem wpList_append_trips {P : Program} (w : World) {ops : Array Oper} {rest : List Oper} {o : Oper} {a : Act} {Q : Exit → Act → World → Prop} (hgd : o.guard = none) (s x : Operand) (t : TypeId)
    (ho : o.op = .call { callee := .builtin .append, args := #[s, x], argTypes := #[t, t] })
    (base : Nat) (e : TypeId) (i : TypeInfo) (z : Value) (bytes : Nat) (ht : P.underlying t = some (.slice e)) (hi : P.info? e = some i) (hz : i.zero = some z)
    (hsize : i.size = 3) (hby : i.bytes = bytes) (hzs : z.cells.size = 3)
    (v : Value) (n : Nat) (xs : List Value) (hs : a.eval s = v) (hown : w.ownsRow base e 3 v n xs)
    (ao : Option Addr) (m c : Nat) (ys : List (Int × Int × Int)) (hx : a.eval x = .slice ao m c) (hr : ReadsT w (.slice ao m c) ys) (hyl : ys.length = m)
    (h63 : n + m ≤ maxLen) (hbytes : (n + m) * bytes ≤ 140737488355328) (hbase : base ≤ w.heap.size)
    (h : ∀ v' w', w'.ownsRow base e 3 v' (n + m) (xs ++ tripCells ys) → w.grownBy w' v.ownBlock → wpList P ops Q rest (a.put o.dst v') w') : wpList P ops Q (o :: rest) a w := by
  refine wpList_plain hgd fun K hK => ?_
  have key : ∃ v' w', (Builtin.append_ #[t, t] o.type #[v, .slice ao m c]).run P w = .ok v' w' ∧ w'.ownsRow base e 3 v' (n + m) (xs ++ tripCells ys) ∧ w.grownBy w' v.ownBlock := by
    cases ao with
    | some ad =>
      obtain ⟨v', w', h1, h2, h3, _⟩ := run_append_own (P := P) w base t o.type e i z 3 bytes ht hi hz hsize hby hzs (by decide) v n xs hown ad m c (tripCells ys) (by rw [tripCells_len, hyl]) hr.cells (by
        intro u hu
        unfold tripCells at hu
        obtain ⟨q, _, hq⟩ := List.mem_flatMap.1 hu
        simp at hq
        rcases hq with rfl | rfl | rfl <;> rfl) h63 hbytes hbase
      exact ⟨v', w', h1, h2, h3⟩
    | none =>
      have hm0 : m = 0 ∧ ys = [] := by
        rcases hr with ⟨a', c', hv, rfl⟩ | ⟨b, off, cap, hv, _⟩
        · simp only [Value.slice.injEq] at hv; exact ⟨hv.2.1, rfl⟩
        · simp at hv
      obtain ⟨rfl, rfl⟩ := hm0
      have hv : ∃ bo sl sc, v = .slice bo sl sc ∧ sl ≤ sc := by
        rcases hown.2 with ⟨rfl, _⟩ | ⟨g, cap, cur, rfl, _, _, hnc, _⟩
        · exact ⟨_, _, _, rfl, Nat.le_refl _⟩
        · exact ⟨_, _, _, rfl, hnc⟩
      obtain ⟨bo, sl, sc, rfl, hle⟩ := hv
      refine ⟨_, w, run_append_nothing w t t o.type e i ht hi bo sl sc hle _ (Src.ofNil w (size := i.size) ht c), by simpa [tripCells] using hown, ⟨rfl, rfl, rfl, Nat.le_refl _, fun _ _ _ => rfl⟩⟩
  obtain ⟨v', w', hrun, h2, h3⟩ := key
  unfold Oper.wp execOp
  simp only [ho, resolve, invoke, builtin, Sem.run_bind, Sem.run_pure, Result.andThen_ok, List.map_toArray, List.map_cons, List.map_nil, hs, hx, hrun]
  exact hK _ _ (h v' w' h2 h3)
section
variable {H : Type} {enc : TypeId × Value → H} {P : Program} {W : World}
/-- The datum of a slice that was read. -/
theorem st_size {t e : TypeId} (ht : P.underlying t = some (.slice e)) {r : Reach} {b0 : Nat} {v : Value} {d : DataW H} {ps : List MemPlace} (hval : Value.okWide P W r b0 t v) (h : DataW.Trod enc P W 0 (fun _ => true) true t v d ps) :
    v = .slice none 0 0 ∨ ∃ elems rest a c, d = .slice elems rest ∧ v = .slice a elems.length c := by
  obtain ⟨a0, len, cap, rfl⟩ := okWide_slice ht hval
  obtain ⟨fuel, hfu⟩ := h
  rcases DataW.trod_slice ht hfu with ⟨hcs, _⟩ | ⟨a, len', cap', elems, rest, n, _, hcs, hx, _, _, _, hlen, _⟩
  · simp [Value.cells] at hcs
    obtain ⟨rfl, rfl, rfl⟩ := hcs
    exact .inl rfl
  · simp [Value.cells] at hcs
    obtain ⟨rfl, rfl, rfl⟩ := hcs
    obtain ⟨rfl, -⟩ := Prod.mk.inj hx
    exact .inr ⟨_, _, some a, _, rfl, by rw [List.length_map, hlen]⟩
end
end Go.Proofs.YtpfnmjcomdckgaaDoor
