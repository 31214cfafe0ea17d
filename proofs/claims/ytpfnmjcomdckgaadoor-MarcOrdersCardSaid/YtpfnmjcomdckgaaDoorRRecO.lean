/-
  A record in a block of its own, its fields in a row of its own.
-/
import Derived.Test.YtpfnmjcomdckgaaDoorRFields
import Derived.Test.YtpfnmjcomdckgaaDoorRLet
namespace Go.Proofs.YtpfnmjcomdckgaaDoor
open Go.RowKit Go.Shelf
set_option linter.unusedVariables false
set_option linter.unusedSimpArgs false

/-- Block p is a record of these fields, in a row from block p + 1 on; sv is the row's value. -/
def RecO (w : World) (p : Nat) (kd lv : UInt8) (l : List (FldM × Value)) (sv : Value) : Prop :=
  w.heap[p]? = some (.cells #[.int .u8 (kd.toNat : Int), .int .u8 (lv.toNat : Int), sv] 27 (0, 0)) ∧ w.ownsRow (p + 1) 62 4 sv l.length (fldCells l)
theorem RecO.cells {w : World} {p : Nat} {kd lv : UInt8} {l : List (FldM × Value)} {sv : Value} (h : RecO w p kd lv l sv) :
    w.cell? ⟨p, 0, none⟩ = some (.int .u8 (kd.toNat : Int)) ∧ w.cell? ⟨p, 1, none⟩ = some (.int .u8 (lv.toNat : Int)) ∧ w.cell? ⟨p, 2, none⟩ = some sv ∧ w.frozen? ⟨p, 0, none⟩ = false ∧ w.frozen? ⟨p, 1, none⟩ = false ∧ w.frozen? ⟨p, 2, none⟩ = false :=
  ⟨by rw [cell_at h.1]; rfl, by rw [cell_at h.1]; rfl, by rw [cell_at h.1]; rfl, Lib.frozen_of_heap h.1 0, Lib.frozen_of_heap h.1 1, Lib.frozen_of_heap h.1 2⟩
theorem RecO.new {w : World} (kd lv : UInt8) : RecO (w.alloc (.cells #[.int .u8 (kd.toNat : Int), .int .u8 (lv.toNat : Int), .slice none 0 0] 27)) w.heap.size kd lv [] (.slice none 0 0) :=
  ⟨new_at _ _, World.ownsRow_nil _ _ _ _⟩
theorem RecO.below {w w' : World} {B p : Nat} {kd lv : UInt8} {l : List (FldM × Value)} {sv : Value} (h : RecO w p kd lv l sv) (hb : Below B w w') (hB : w.heap.size ≤ B) : RecO w' p kd lv l sv :=
  ⟨(hb.block p (Nat.lt_of_lt_of_le (lt_at h.1) hB)).trans h.1, own_same h.2 (fun g _ hg => hb.block g (Nat.lt_of_lt_of_le hg hB))⟩
theorem RecO.form {w : World} {p : Nat} {kd lv : UInt8} {l : List (FldM × Value)} {sv : Value} (h : RecO w p kd lv l sv) : ∃ a cap, sv = .slice a l.length cap := own_form h.2
theorem RecO.recV {w : World} {p : Nat} {kd lv : UInt8} {l : List (FldM × Value)} {sv : Value} (h : RecO w p kd lv l sv) (hs : ∀ q ∈ l, SubsAt w q.2 q.1.subs) :
    RecV w (.agg #[.int .u8 (kd.toNat : Int), .int .u8 (lv.toNat : Int), sv]) ⟨kd, lv, l.map (fun q => q.1)⟩ := ⟨_, rfl, flds_of_own h.2 hs⟩
theorem fld_cells (w : World) (c0 c1 c2 c3 : Value) (T : TypeId) (j : Nat) (u : Value) (hu : [c0, c1, c2, c3][j]? = some u) : (w.alloc (.cells #[c0, c1, c2, c3] T)).cell? ((⟨w.heap.size, 0, none⟩ : Addr).add j) = some u := by
  have hj : j < 4 := by
    rcases Nat.lt_or_ge j 4 with h | h
    · exact h
    · rw [List.getElem?_eq_none (by simpa using h)] at hu; cases hu
  rw [add_at, cell_at (new_at _ _)]
  match j, hj with
  | 0, _ => exact hu
  | 1, _ => exact hu
  | 2, _ => exact hu
  | 3, _ => exact hu
/-- Behind an append of one field: the world in which the store has been done. -/
theorem RecO.app {w w8 : World} {o : Obj} {p : Nat} {kd lv : UInt8} {l : List (FldM × Value)} {sv v' : Value} {f : FldM} {s2 : Value} (h : RecO w p kd lv l sv)
    (hown : w8.ownsRow (p + 1) 62 4 v' (l.length + 1) (fldCells l ++ [str f.tag, str f.ind, str f.data, s2])) (hg : (w.alloc o).grownBy w8 sv.ownBlock) :
    RecO (w8.setCell ⟨p, 2, none⟩ v') p kd lv (l ++ [(f, s2)]) v' ∧ w8.cell? ⟨p, 2, none⟩ = some sv ∧ w8.frozen? ⟨p, 2, none⟩ = false ∧
      (∀ B, B ≤ p → Below B w (w8.setCell ⟨p, 2, none⟩ v')) ∧ (∀ g, g < w.heap.size → g ≠ p → some g ≠ sv.ownBlock → (w8.setCell ⟨p, 2, none⟩ v').heap[g]? = w.heap[g]?) := by
  have hlt := lt_at h.1
  have hne : some p ≠ sv.ownBlock := fun e => by have := (h.2.lt p e.symm).1; omega
  have hp8 : w8.heap[p]? = some (.cells #[.int .u8 (kd.toNat : Int), .int .u8 (lv.toNat : Int), sv] 27 (0, 0)) :=
    ((hg.block p (by simp; omega) hne).trans ((below_new w o).block p hlt)).trans h.1
  refine ⟨⟨by simp [World.setCell, Array.getElem?_modify, hp8], ?_⟩, by rw [cell_at hp8]; rfl, Lib.frozen_of_heap hp8 2, fun B hB => ?_, fun g hgl hgp hgs => ?_⟩
  · rw [fldCells_snoc, List.length_append]
    exact own_same hown (fun g hg' _ => far_set w8 _ 2 _ (by omega))
  · refine Below.setCell ?_ (p := ⟨p, 2, none⟩) hB _
    refine Below.grown (Below.alloc (Below.refl B w) (by omega) o) hg (by simp; omega) (fun k hk => by have := (h.2.lt k hk).1; omega)
  · rw [far_set w8 p 2 _ hgp]
    exact (hg.block g (by simp; omega) hgs).trans ((below_new w o).block g hgl)
end Go.Proofs.YtpfnmjcomdckgaaDoor
