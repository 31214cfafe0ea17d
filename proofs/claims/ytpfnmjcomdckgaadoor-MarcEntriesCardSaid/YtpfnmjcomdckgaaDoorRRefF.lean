/-
  What the reference's field keeps while it reads.
-/
import Derived.Test.YtpfnmjcomdckgaaDoorRFldR
import Derived.Test.YtpfnmjcomdckgaaDoorRRefN
import Derived.Test.YtpfnmjcomdckgaaDoorRRefB
import Derived.Test.YtpfnmjcomdckgaaDoorRMade
import Derived.Laws.OwnMore
namespace Go.Proofs.YtpfnmjcomdckgaaDoor
open Go.RowKit Go.Shelf
set_option linter.unusedVariables false
set_option linter.unusedSimpArgs false

def FRPost (tag : List UInt8) (x : PR FS) (w : World) (e : Ending) (w' : World) : Prop := ∃ (fv : Value) (bad : Int), e = .returned (.tuple #[fv, .int .i64 bad]) ∧ Below w.heap.size w w' ∧ (match x with
  | .bad p _ => bad = (p : Int) ∧ ∃ x0 x1 x2 a n c, fv = .agg #[str x0, str x1, str x2, .slice a n c]
  | .ok s => bad = -1 ∧ ∃ sv, fv = .agg #[str tag, str s.ind, str s.data, sv] ∧ w'.ownsRow w.heap.size 64 2 sv s.subs.length (subCells s.subs))
/-- The two fields. -/
structure FB (tag : List UInt8) (b : Nat) (w wr : World) (s : FS) (sv : Value) : Prop where
  res : wr.heap[b]? = some (.cells #[.string ⟨#[]⟩, .string ⟨#[]⟩, .string ⟨#[]⟩, .slice none 0 0] 62 (0, 0))
  fld : wr.heap[b + 1]? = some (.cells #[str tag, str s.ind, str s.data, sv] 62 (0, 0))
  own : wr.ownsRow (b + 1 + 1 + 1) 64 2 sv s.subs.length (subCells s.subs)
  bel : Below w.heap.size w wr
  hb : w.heap.size ≤ b
/-- What the loop keeps. -/
structure FInv (tag : List UInt8) (b : Nat) (w wr : World) (k : Nat) (s : FS) (sv : Value) : Prop where
  res : wr.heap[b]? = some (.cells #[.string ⟨#[]⟩, .string ⟨#[]⟩, .string ⟨#[]⟩, .slice none 0 0] 62 (0, 0))
  fld : wr.heap[b + 1]? = some (.cells #[str tag, str s.ind, str s.data, sv] 62 (0, 0))
  ch : ChAt wr (b + 1 + 1) s.ch
  left : s.ch.left ≤ 3
  own : wr.ownsRow (b + 1 + 1 + 1) 64 2 sv s.subs.length (subCells s.subs)
  bel : Below w.heap.size w wr
  hb : w.heap.size ≤ b
  li : s.ind.length ≤ k
  ld : s.data.length ≤ k
  ls : s.subs.length ≤ k
  lt : ∀ x ∈ s.subs, x.text.length ≤ k
section
variable {tag : List UInt8} {b : Nat} {w wr : World} {k : Nat} {s : FS} {sv : Value}
theorem FInv.base (h : FInv tag b w wr k s sv) : FB tag b w wr s sv := ⟨h.res, h.fld, h.own, h.bel, h.hb⟩
theorem FInv.basen (h : FInv tag b w wr k s sv) {w5 : World} (hg : wr.grownBy w5 (some (b + 1 + 1))) : FB tag b w w5 s sv := by
  have hlt := lt_at h.ch
  have hbs := h.hb
  exact ⟨(hg.block b (by omega) (fun e => by simp at e; omega)).trans h.res, (hg.block (b + 1) (by omega) (fun e => by simp at e)).trans h.fld, own_same h.own (fun g h1 h2 => hg.block g h2 (fun e => by simp at e; omega)),
    h.bel.grown hg h.bel.size (fun j hj => by cases hj; omega), h.hb⟩
theorem FInv.drew (h : FInv tag b w wr k s sv) : FInv tag b w wr.drew k s sv :=
  ⟨h.res, h.fld, h.ch, h.left, h.own.drew, h.bel.drew, h.hb, h.li, h.ld, h.ls, h.lt⟩
theorem FInv.up (h : FInv tag b w wr k s sv) : FInv tag b w wr (k + 1) s sv :=
  ⟨h.res, h.fld, h.ch, h.left, h.own, h.bel, h.hb, Nat.le_succ_of_le h.li, Nat.le_succ_of_le h.ld, Nat.le_succ_of_le h.ls, fun x hx => Nat.le_succ_of_le (h.lt x hx)⟩
theorem FB.cells (h : FB tag b w wr s sv) : wr.cell? ⟨b + 1, 0, none⟩ = some (str tag) ∧ wr.cell? ⟨b + 1, 1, none⟩ = some (str s.ind) ∧ wr.cell? ⟨b + 1, 2, none⟩ = some (str s.data) ∧ wr.cell? ⟨b + 1, 3, none⟩ = some sv ∧
    wr.frozen? ⟨b + 1, 1, none⟩ = false ∧ wr.frozen? ⟨b + 1, 2, none⟩ = false ∧ wr.frozen? ⟨b + 1, 3, none⟩ = false :=
  ⟨by rw [cell_at h.fld]; rfl, by rw [cell_at h.fld]; rfl, by rw [cell_at h.fld]; rfl, by rw [cell_at h.fld]; rfl, Lib.frozen_of_heap h.fld 1, Lib.frozen_of_heap h.fld 2, Lib.frozen_of_heap h.fld 3⟩
theorem FB.resf (h : FB tag b w wr s sv) : wr.frozen? ⟨b, 0, none⟩ = false ∧ wr.frozen? ⟨b, 1, none⟩ = false ∧ wr.frozen? ⟨b, 2, none⟩ = false ∧ wr.frozen? ⟨b, 3, none⟩ = false ∧
    wr.cell? ⟨b, 0, none⟩ = some (.string ⟨#[]⟩) ∧ wr.cell? ⟨b, 1, none⟩ = some (.string ⟨#[]⟩) ∧ wr.cell? ⟨b, 2, none⟩ = some (.string ⟨#[]⟩) ∧ wr.cell? ⟨b, 3, none⟩ = some (.slice none 0 0) :=
  ⟨Lib.frozen_of_heap h.res 0, Lib.frozen_of_heap h.res 1, Lib.frozen_of_heap h.res 2, Lib.frozen_of_heap h.res 3, by rw [cell_at h.res]; rfl, by rw [cell_at h.res]; rfl, by rw [cell_at h.res]; rfl, by rw [cell_at h.res]; rfl⟩
/-- A store into the field's block. -/
theorem FInv.set (h : FInv tag b w wr k s sv) (j : Nat) (u : Value) {cs : Array Value} (hcs : (#[str tag, str s.ind, str s.data, sv] : Array Value).setIfInBounds j u = cs) :
    (wr.setCell ⟨b + 1, j, none⟩ u).heap[b]? = some (.cells #[.string ⟨#[]⟩, .string ⟨#[]⟩, .string ⟨#[]⟩, .slice none 0 0] 62 (0, 0)) ∧
    (wr.setCell ⟨b + 1, j, none⟩ u).heap[b + 1]? = some (.cells cs 62 (0, 0)) ∧ ChAt (wr.setCell ⟨b + 1, j, none⟩ u) (b + 1 + 1) s.ch ∧
    (wr.setCell ⟨b + 1, j, none⟩ u).ownsRow (b + 1 + 1 + 1) 64 2 sv s.subs.length (subCells s.subs) ∧ Below w.heap.size w (wr.setCell ⟨b + 1, j, none⟩ u) := by
  refine ⟨(far_set wr _ j u (by omega)).trans h.res, ?_, (far_set wr _ j u (by omega)).trans h.ch, own_same h.own (fun g hg _ => far_set wr _ j u (by omega)), h.bel.setCell (p := ⟨b + 1, j, none⟩) (by have := h.hb; show w.heap.size ≤ b + 1; omega) u⟩
  have := blk_set h.fld j u
  rw [hcs] at this
  exact this
theorem FInv.ind (h : FInv tag b w wr k s sv) (u : List UInt8) (hu : u.length ≤ k) : FInv tag b w (wr.setCell ⟨b + 1, 1, none⟩ (str u)) k { s with ind := u } sv := by
  obtain ⟨h1, h2, h3, h4, h5⟩ := h.set 1 (str u) rfl
  exact ⟨h1, h2, h3, h.left, h4, h5, h.hb, hu, h.ld, h.ls, h.lt⟩
theorem FInv.data (h : FInv tag b w wr k s sv) (u : List UInt8) (hu : u.length ≤ k) : FInv tag b w (wr.setCell ⟨b + 1, 2, none⟩ (str u)) k { s with data := u } sv := by
  obtain ⟨h1, h2, h3, h4, h5⟩ := h.set 2 (str u) rfl
  exact ⟨h1, h2, h3, h.left, h4, h5, h.hb, h.li, hu, h.ls, h.lt⟩
theorem FInv.next (h : FInv tag b w wr k s sv) {w5 : World} {t : Ch} (hg : wr.grownBy w5 (some (b + 1 + 1))) (ht : ChAt w5 (b + 1 + 1) t) (hl : t.left ≤ 3) : FInv tag b w w5 k { s with ch := t } sv := by
  have hlt := lt_at h.ch
  have hbs := h.hb
  refine ⟨(hg.block b (by omega) (fun e => by simp at e; omega)).trans h.res, (hg.block (b + 1) (by omega) (fun e => by simp at e)).trans h.fld, ht, hl, own_same h.own (fun g h1 h2 => hg.block g h2 (fun e => by simp at e; omega)), ?_, h.hb, h.li, h.ld, h.ls, h.lt⟩
  exact h.bel.grown hg h.bel.size (fun j hj => by cases hj; omega)
theorem subCells_len (l : List SubM) : (subCells l).length = l.length * 2 := by
  unfold subCells
  induction l with
  | nil => rfl
  | cons a r ih => simp only [List.flatMap_cons, List.length_append, ih, List.length_cons, List.length_nil]; omega
theorem FInv.form (h : FInv tag b w wr k s sv) {acc : List SubM} {c : UInt8} {tx : List UInt8} (hs : s.subs = acc ++ [⟨c, tx⟩]) : ∃ g cap, sv = .slice (some ⟨g, 0, none⟩) (acc.length + 1) cap ∧ b + 1 + 1 + 1 ≤ g ∧
    wr.cell? ⟨g, acc.length * 2, none⟩ = some (.int .u8 (c.toNat : Int)) ∧ wr.cell? ⟨g, acc.length * 2 + 1, none⟩ = some (str tx) ∧ wr.frozen? ⟨g, acc.length * 2, none⟩ = false ∧ wr.frozen? ⟨g, acc.length * 2 + 1, none⟩ = false := by
  have hown := h.own
  rw [hs, List.length_append, List.length_singleton] at hown
  rcases hown.2 with ⟨_, h0⟩ | ⟨g, cap, cur, rfl, hbg, hg, rest⟩
  · omega
  · refine ⟨g, cap, rfl, hbg, ?_, ?_, hown.frozenAt _, hown.frozenAt _⟩
    · rw [hown.cellAt _ (by omega), subCells_snoc, List.getElem?_append_right (by rw [subCells_len]; exact Nat.le_refl _), subCells_len, Nat.sub_self]; rfl
    · rw [hown.cellAt _ (by omega), subCells_snoc, List.getElem?_append_right (by rw [subCells_len]; omega), subCells_len, Nat.add_sub_cancel_left]; rfl
theorem FInv.sub (h : FInv tag b w wr k s sv) {acc : List SubM} {c : UInt8} {tx : List UInt8} (hs : s.subs = acc ++ [⟨c, tx⟩]) {g cap : Nat} (hsv : sv = .slice (some ⟨g, 0, none⟩) (acc.length + 1) cap) (j : Nat) (u : Value) (y : SubM)
    (hset : (subCells (acc ++ [⟨c, tx⟩])).set j u = subCells (acc ++ [y])) (hy : y.text.length ≤ k) : FInv tag b w (wr.setCell ⟨g, j, none⟩ u) k { s with subs := acc ++ [y] } sv := by
  have hown := h.own
  subst hsv
  rw [hs, List.length_append, List.length_singleton] at hown
  have hbg := (hown.lt g rfl).1
  obtain ⟨h1, h2⟩ := hown.stored j u
  rw [hset] at h1
  have hbs := h.hb
  refine ⟨(far_set wr g j u (by omega)).trans h.res, (far_set wr g j u (by omega)).trans h.fld, (far_set wr g j u (by omega)).trans h.ch, h.left, ?_, h.bel.setCell (p := ⟨g, j, none⟩) (by show w.heap.size ≤ g; omega) u, h.hb, h.li, h.ld, ?_, ?_⟩
  · rw [List.length_append, List.length_singleton]; exact h1
  · have := h.ls; rw [hs] at this; simpa using this
  · intro x hx
    rcases List.mem_append.1 hx with hx | hx
    · exact h.lt x (by rw [hs]; exact List.mem_append_left _ hx)
    · rw [List.mem_singleton.1 hx]; exact hy
theorem set_code (acc : List SubM) (c c2 : UInt8) (tx : List UInt8) : (subCells (acc ++ [⟨c, tx⟩])).set (acc.length * 2) (.int .u8 (c2.toNat : Int)) = subCells (acc ++ [⟨c2, tx⟩]) := by
  rw [subCells_snoc, subCells_snoc, List.set_append_right _ _ (by rw [subCells_len]; exact Nat.le_refl _), subCells_len, Nat.sub_self]; rfl
theorem set_text (acc : List SubM) (c : UInt8) (tx t2 : List UInt8) : (subCells (acc ++ [⟨c, tx⟩])).set (acc.length * 2 + 1) (str t2) = subCells (acc ++ [⟨c, t2⟩]) := by
  rw [subCells_snoc, subCells_snoc, List.set_append_right _ _ (by rw [subCells_len]; omega), subCells_len, Nat.add_sub_cancel_left]; rfl
theorem FInv.app (h : FInv tag b w wr k s sv) {o : Obj} {w8 : World} {v' : Value} (hown : w8.ownsRow (b + 1 + 1 + 1) 64 2 v' (s.subs.length + 1) (subCells s.subs ++ [.int .u8 0, .string ⟨#[]⟩])) (hg : (wr.alloc o).grownBy w8 sv.ownBlock) :
    FInv tag b w (w8.setCell ⟨b + 1, 3, none⟩ v') (k + 1) { s with subs := s.subs ++ [⟨0, []⟩] } v' ∧ w8.frozen? ⟨b + 1, 3, none⟩ = false ∧ w8.cell? ⟨b + 1, 3, none⟩ = some sv := by
  have hlt := lt_at h.ch
  have hbs := h.hb
  have hne : ∀ j, j ≤ b + 1 + 1 → some j ≠ sv.ownBlock := fun j hj e => by have := (h.own.lt j e.symm).1; omega
  have hk : ∀ j, j ≤ b + 1 + 1 → w8.heap[j]? = wr.heap[j]? := fun j hj => (hg.block j (by simp; omega) (hne j hj)).trans ((below_new wr o).block j (by omega))
  have hf8 := (hk (b + 1) (by omega)).trans h.fld
  refine ⟨⟨(far_set w8 _ 3 _ (by omega)).trans ((hk b (by omega)).trans h.res), ?_, (far_set w8 _ 3 _ (by omega)).trans ((hk _ (Nat.le_refl _)).trans h.ch), h.left, ?_, ?_, h.hb, Nat.le_succ_of_le h.li, Nat.le_succ_of_le h.ld, ?_, ?_⟩, Lib.frozen_of_heap hf8 3, by rw [cell_at hf8]; rfl⟩
  · have := blk_set hf8 3 v'
    simpa using this
  · simp only [List.length_append, List.length_singleton]
    rw [subCells_snoc]
    exact own_same hown (fun g hg' _ => far_set w8 _ 3 _ (by omega))
  · refine Below.setCell ?_ (p := ⟨b + 1, 3, none⟩) (by show w.heap.size ≤ b + 1; omega) _
    refine Below.grown (h.bel.alloc h.bel.size o) hg (by have := h.bel.size; simp; omega) (fun j hj => by have := (h.own.lt j hj).1; omega)
  · have := h.ls; simpa using this
  · intro x hx
    rcases List.mem_append.1 hx with hx | hx
    · exact Nat.le_succ_of_le (h.lt x hx)
    · rw [List.mem_singleton.1 hx]; exact Nat.zero_le _
/-- The result's cells, written. -/
def fin4 (W : World) (g : Nat) (x0 x1 x2 x3 : Value) : World := (((W.setCell ⟨g, 0, none⟩ x0).setCell ⟨g, 1, none⟩ x1).setCell ⟨g, 2, none⟩ x2).setCell ⟨g, 3, none⟩ x3
theorem FB.fin (h : FB tag b w wr s sv) : Below w.heap.size w (fin4 wr b (str tag) (str s.ind) (str s.data) sv) ∧ (fin4 wr b (str tag) (str s.ind) (str s.data) sv).ownsRow w.heap.size 64 2 sv s.subs.length (subCells s.subs) ∧
    (fin4 wr b (str tag) (str s.ind) (str s.data) sv).cell? ⟨b, 0, none⟩ = some (str tag) ∧ (fin4 wr b (str tag) (str s.ind) (str s.data) sv).cell? ⟨b, 1, none⟩ = some (str s.ind) ∧
    (fin4 wr b (str tag) (str s.ind) (str s.data) sv).cell? ⟨b, 2, none⟩ = some (str s.data) ∧ (fin4 wr b (str tag) (str s.ind) (str s.data) sv).cell? ⟨b, 3, none⟩ = some sv := by
  have hbs := h.hb
  have far : ∀ g, g ≠ b → (fin4 wr b (str tag) (str s.ind) (str s.data) sv).heap[g]? = wr.heap[g]? := fun g hg => by
    unfold fin4
    rw [far_set _ _ 3 _ hg, far_set _ _ 2 _ hg, far_set _ _ 1 _ hg, far_set _ _ 0 _ hg]
  have hnew : (fin4 wr b (str tag) (str s.ind) (str s.data) sv).heap[b]? = some (.cells #[str tag, str s.ind, str s.data, sv] 62 (0, 0)) := by
    have := blk_set (blk_set (blk_set (blk_set h.res 0 (str tag)) 1 (str s.ind)) 2 (str s.data)) 3 sv
    unfold fin4
    simpa using this
  refine ⟨?_, own_le (own_same h.own (fun g hg _ => far g (by omega))) (by omega), by rw [cell_at hnew]; rfl, by rw [cell_at hnew]; rfl, by rw [cell_at hnew]; rfl, by rw [cell_at hnew]; rfl⟩
  unfold fin4
  exact (((h.bel.setCell (p := ⟨b, 0, none⟩) h.hb _).setCell (p := ⟨b, 1, none⟩) h.hb _).setCell (p := ⟨b, 2, none⟩) h.hb _).setCell (p := ⟨b, 3, none⟩) h.hb _
end
/-- The beginning. -/
theorem FInv.start (tag : List UInt8) (w : World) : FInv tag w.heap.size w (((w.alloc (.cells #[.string ⟨#[]⟩, .string ⟨#[]⟩, .string ⟨#[]⟩, .slice none 0 0] 62)).alloc (.cells #[str tag, .string ⟨#[]⟩, .string ⟨#[]⟩, .slice none 0 0] 62)).alloc (.cells #[.int .i64 0, .int .i64 0, .int .i64 0] 125)) 0 ⟨false, [], [], [], ⟨0, 0, 0⟩⟩ (.slice none 0 0) := by
  obtain ⟨A, hA⟩ : ∃ A, w.alloc (.cells #[.string ⟨#[]⟩, .string ⟨#[]⟩, .string ⟨#[]⟩, .slice none 0 0] 62) = A := ⟨_, rfl⟩
  have a1 : A.heap[w.heap.size]? = some (.cells #[.string ⟨#[]⟩, .string ⟨#[]⟩, .string ⟨#[]⟩, .slice none 0 0] 62 (0, 0)) := by rw [← hA]; exact new_at _ _
  have a2 : A.heap.size = w.heap.size + 1 := by rw [← hA]; simp
  have a3 : Below w.heap.size w A := by rw [← hA]; exact below_new _ _
  rw [hA]
  obtain ⟨B, hB⟩ : ∃ B, A.alloc (.cells #[str tag, .string ⟨#[]⟩, .string ⟨#[]⟩, .slice none 0 0] 62) = B := ⟨_, rfl⟩
  have b1 : B.heap[A.heap.size]? = some (.cells #[str tag, .string ⟨#[]⟩, .string ⟨#[]⟩, .slice none 0 0] 62 (0, 0)) := by rw [← hB]; exact new_at _ _
  have b2 : B.heap.size = A.heap.size + 1 := by rw [← hB]; simp
  have b3 : Below A.heap.size A B := by rw [← hB]; exact below_new _ _
  rw [hB]
  have c3 : Below B.heap.size B (B.alloc (.cells #[.int .i64 0, .int .i64 0, .int .i64 0] 125)) := below_new _ _
  have c1 : (B.alloc (.cells #[.int .i64 0, .int .i64 0, .int .i64 0] 125)).heap[B.heap.size]? = some (.cells #[.int .i64 0, .int .i64 0, .int .i64 0] 125 (0, 0)) := new_at _ _
  rw [a2] at b1
  rw [b2, a2] at c1
  exact ⟨heap_below c3 (heap_below b3 a1), heap_below c3 b1, c1, by decide, World.ownsRow_nil _ _ _ _, a3.trans ((b3.mono a3.size).trans (c3.mono (Nat.le_trans a3.size b3.size))), Nat.le_refl _, by simp, by simp, by simp, by simp⟩
end Go.Proofs.YtpfnmjcomdckgaaDoor
