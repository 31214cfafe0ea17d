/-
  What the reference's Spoiled keeps while it changes a record: no walk.
-/
import Derived.Test.YtpfnmjcomdckgaaDoorRMade
import Derived.Laws.OwnMore
namespace Go.Proofs.YtpfnmjcomdckgaaDoor
open Go.RowKit Go.Shelf
set_option linter.unusedVariables false
set_option linter.unusedSimpArgs false

/-- The subfields of each field lie in a row of its own. -/
def SubsOwn (W : World) (B : Nat) (acc : List (FldM × Value)) : Prop := ∀ q ∈ acc, W.ownsRow B 64 2 q.2 q.1.subs.length (subCells q.1.subs)
/-- No two fields share a row. -/
def Dist (acc : List (FldM × Value)) : Prop := acc.Pairwise (fun p q => p.2.ownBlock = none ∨ p.2.ownBlock ≠ q.2.ownBlock)
theorem SubsOwn.below {w w' : World} {B : Nat} {l : List (FldM × Value)} (h : SubsOwn w B l) (hb : Below w.heap.size w w') : SubsOwn w' B l := fun q hq => own_bel (h q hq) hb
theorem SubsOwn.drew {w : World} {B : Nat} {l : List (FldM × Value)} (h : SubsOwn w B l) : SubsOwn w.drew B l := fun q hq => (h q hq).drew
/-- The sizes. -/
def SizeOk (S : Nat) (r : RecM) : Prop := sizeR r ≤ S ∧ ∀ f ∈ r.fields, f.tag.length ≤ 4
theorem fldCells_len (l : List (FldM × Value)) : (fldCells l).length = l.length * 4 := by
  unfold fldCells
  induction l with
  | nil => rfl
  | cons a r ih => simp only [List.flatMap_cons, List.length_append, ih, List.length_cons, List.length_nil]; omega
theorem fldCells_cons (p : FldM × Value) (r : List (FldM × Value)) : fldCells (p :: r) = [str p.1.tag, str p.1.ind, str p.1.data, p.2] ++ fldCells r := by simp [fldCells]
/-- One cell of one field is changed. -/
theorem fldCells_set : ∀ (l : List (FldM × Value)) (m j : Nat) (h : m < l.length) (p : FldM × Value) (u : Value), j < 4 → [str l[m].1.tag, str l[m].1.ind, str l[m].1.data, l[m].2].set j u = [str p.1.tag, str p.1.ind, str p.1.data, p.2] →
    (fldCells l).set (m * 4 + j) u = fldCells (l.set m p)
  | [], m, j, h, _, _, _, _ => by simp at h
  | q :: r, 0, j, h, p, u, hj, he => by
    simp only [List.getElem_cons_zero] at he
    rw [List.set_cons_zero, fldCells_cons, fldCells_cons, Nat.zero_mul, Nat.zero_add, List.set_append_left _ _ (by simpa using hj), he]
  | q :: r, m + 1, j, h, p, u, hj, he => by
    simp only [List.getElem_cons_succ] at he
    have ih := fldCells_set r m j (by simpa using h) p u hj he
    rw [List.set_cons_succ, fldCells_cons, fldCells_cons, List.set_append_right _ _ (by simp; omega), show (m + 1) * 4 + j - [str q.1.tag, str q.1.ind, str q.1.data, q.2].length = m * 4 + j by simp; omega, ih]
theorem fld_cell : ∀ (l : List (FldM × Value)) (m : Nat) (h : m < l.length), (fldCells l)[m * 4]? = some (str l[m].1.tag) ∧ (fldCells l)[m * 4 + 1]? = some (str l[m].1.ind) ∧ (fldCells l)[m * 4 + 2]? = some (str l[m].1.data) ∧ (fldCells l)[m * 4 + 3]? = some l[m].2
  | [], m, h => by simp at h
  | q :: r, 0, h => by simp [fldCells]
  | q :: r, m + 1, h => by
    obtain ⟨h0, h1, h2, h3⟩ := fld_cell r m (by simpa using h)
    rw [fldCells_cons]
    have e : ∀ j, ([str q.1.tag, str q.1.ind, str q.1.data, q.2] ++ fldCells r)[(m + 1) * 4 + j]? = (fldCells r)[m * 4 + j]? := fun j => by
      rw [List.getElem?_append_right (by simp; omega), show (m + 1) * 4 + j - [str q.1.tag, str q.1.ind, str q.1.data, q.2].length = m * 4 + j by simp; omega]
    exact ⟨(e 0).trans h0, (e 1).trans h1, (e 2).trans h2, (e 3).trans h3⟩
/-- The record that is changed: block ob; the result lies in block rb. -/
structure SpI (w W : World) (ob : Nat) (kd lv : UInt8) (acc : List (FldM × Value)) (sv : Value) : Prop where
  rec_ : RecO W ob kd lv acc sv
  subs : SubsOwn W (ob + 1) acc
  dist : Dist acc
  bel : Below w.heap.size w W
  hob : w.heap.size < ob
theorem SpI.below {w W W' : World} {ob : Nat} {kd lv : UInt8} {acc : List (FldM × Value)} {sv : Value} (h : SpI w W ob kd lv acc sv) (hb : Below W.heap.size W W') : SpI w W' ob kd lv acc sv :=
  ⟨h.rec_.below hb (Nat.le_refl _), h.subs.below hb, h.dist, h.bel.trans (hb.mono h.bel.size), h.hob⟩
theorem SpI.kind {w W : World} {ob : Nat} {kd lv : UInt8} {acc : List (FldM × Value)} {sv : Value} (h : SpI w W ob kd lv acc sv) (c : UInt8) : SpI w (W.setCell ⟨ob, 0, none⟩ (.int .u8 (c.toNat : Int))) ob c lv acc sv := by
  refine ⟨⟨?_, own_same h.rec_.2 (fun g hg _ => far_set _ _ _ _ (by omega))⟩, fun q hq => own_same (h.subs q hq) (fun g hg _ => far_set _ _ _ _ (by omega)), h.dist, h.bel.setCell (p := ⟨ob, 0, none⟩) (Nat.le_of_lt h.hob) _, h.hob⟩
  have := blk_set h.rec_.1 0 (.int .u8 (c.toNat : Int))
  simpa using this
theorem SpI.level {w W : World} {ob : Nat} {kd lv : UInt8} {acc : List (FldM × Value)} {sv : Value} (h : SpI w W ob kd lv acc sv) (c : UInt8) : SpI w (W.setCell ⟨ob, 1, none⟩ (.int .u8 (c.toNat : Int))) ob kd c acc sv := by
  refine ⟨⟨?_, own_same h.rec_.2 (fun g hg _ => far_set _ _ _ _ (by omega))⟩, fun q hq => own_same (h.subs q hq) (fun g hg _ => far_set _ _ _ _ (by omega)), h.dist, h.bel.setCell (p := ⟨ob, 1, none⟩) (Nat.le_of_lt h.hob) _, h.hob⟩
  have := blk_set h.rec_.1 1 (.int .u8 (c.toNat : Int))
  simpa using this
/-- A cell of one field is changed; its row of subfields is another one or the same. -/
theorem SpI.fld {w W : World} {ob : Nat} {kd lv : UInt8} {acc : List (FldM × Value)} {g cap n : Nat} (h : SpI w W ob kd lv acc (.slice (some ⟨g, 0, none⟩) n cap)) (hn : acc.length = n) (m j : Nat) (hm : m < acc.length) (hj : j < 4) (p : FldM × Value) (u : Value)
    (he : [str acc[m].1.tag, str acc[m].1.ind, str acc[m].1.data, acc[m].2].set j u = [str p.1.tag, str p.1.ind, str p.1.data, p.2])
    (hp : W.ownsRow (ob + 1) 64 2 p.2 p.1.subs.length (subCells p.1.subs)) (hd : Dist (acc.set m p)) :
    SpI w (W.setCell ⟨g, m * 4 + j, none⟩ u) ob kd lv (acc.set m p) (.slice (some ⟨g, 0, none⟩) n cap) := by
  subst hn
  have hlt := h.rec_.2.lt g rfl
  have hob := h.hob
  have far : ∀ b, b ≠ g → (W.setCell ⟨g, m * 4 + j, none⟩ u).heap[b]? = W.heap[b]? := fun b hb => far_set W g _ u hb
  obtain ⟨h1, h2⟩ := h.rec_.2.stored (m * 4 + j) u
  rw [fldCells_set acc m j hm p u hj he] at h1
  have hty : ∀ {v : Value} {k : Nat} {xs : List Value}, W.ownsRow (ob + 1) 64 2 v k xs → (W.setCell ⟨g, m * 4 + j, none⟩ u).ownsRow (ob + 1) 64 2 v k xs := fun {v k xs} hx => by
    refine ⟨hx.1, ?_⟩
    rcases hx.2 with h0 | ⟨g', cap', cur', hv', hb', hg', rest⟩
    · exact .inl h0
    · refine .inr ⟨g', cap', cur', hv', hb', (far g' (fun e => ?_)).trans hg', rest⟩
      subst e
      rcases h.rec_.2.2 with ⟨hx1, _⟩ | ⟨g2, cap2, cur2, hv2, _, hg2, _⟩
      · cases hx1
      · simp only [Value.slice.injEq, Option.some.injEq, Addr.mk.injEq] at hv2
        rw [← hv2.1.1, hg'] at hg2
        cases hg2
  refine ⟨⟨(far ob (by omega)).trans h.rec_.1, by rw [List.length_set]; exact h1⟩, fun q hq => ?_, hd, h.bel.setCell (p := ⟨g, m * 4 + j, none⟩) (by show w.heap.size ≤ g; omega) u, hob⟩
  rcases List.mem_or_eq_of_mem_set hq with hq | rfl
  · exact hty (h.subs q hq)
  · exact hty hp
end Go.Proofs.YtpfnmjcomdckgaaDoor
