/-
  convert: a conversion that a panic ends.
-/
import Derived.Test.YtjndekmpnihamaaDoorMDec4
import Derived.Test.YtjndekmpnihamaaDoorMPlain
import Derived.Defers
import Derived.Recover
import Derived.Laws.Pointers
import Derived.BigRegion
namespace Go.Proofs.YtjndekmpnihamaaDoor
open Go.RowKit Go.Shelf
set_option linter.unusedVariables false

/-- What the three results' variables hold. -/
structure Three (b : Nat) (x y z : Value) (w : World) : Prop where
  c0 : ∃ T, w.heap[b]? = some (.cells #[x] T (0, 0))
  c1 : ∃ T, w.heap[b + 1]? = some (.cells #[y] T (0, 0))
  c2 : ∃ T, w.heap[b + 2]? = some (.cells #[z] T (0, 0))

theorem run_assert_nil (w : World) : (Instr.typeAssert .nilIface 20 43 true).run Tryd.prog w = .ok (.tuple #[.agg #[.int .i64 0, .int .i64 0], .bool false]) w := by kernel_rfl
theorem run_assert_fail (a k : Int) (w : World) : (Instr.typeAssert (failV a k) 20 43 true).run Tryd.prog w = .ok (.tuple #[.agg #[.int .i64 a, .int .i64 k], .bool true]) w := by kernel_rfl

theorem lt_of_cell {w : World} {b o : Nat} {v : Value} (h : w.cell? ⟨b, o, none⟩ = some v) : b < w.heap.size := by
  rcases Nat.lt_or_ge b w.heap.size with h' | h'
  · exact h'
  · simp [World.cell?, Array.getElem?_eq_none h'] at h
theorem cell_alloc (w : World) (o : Obj) (p : Addr) (h : p.block < w.heap.size) : (w.alloc o).cell? p = w.cell? p := ((below_new w o).cell h)
theorem frozen_alloc' (w : World) (o : Obj) (p : Addr) (h : p.block < w.heap.size) : (w.alloc o).frozen? p = w.frozen? p := ((below_new w o).frozen h)

set_option maxRecDepth 100000 in
set_option maxHeartbeats 1000000 in
theorem closure_idle (b : Nat) (w : World) :
    CallsD Tryd.prog 21 #[.pointer (some ⟨b, 0, none⟩), .pointer (some ⟨b + 1, 0, none⟩), .pointer (some ⟨b + 2, 0, none⟩)] .returning w fun e u' w' =>
      e = .returned (.tuple #[]) ∧ u' = .returning ∧ w' = w.alloc (.cells #[.int .i64 0, .int .i64 0] 43) := by
  refine callsD_of_wpS Tryd.func21 rfl fun c₀ cs hu => ?_
  simp only [Tryd.ntmps21, List.size_toArray, List.length_cons, List.length_nil, Nat.reduceAdd, Nat.reduceSub, Array.replicate_succ, Array.replicate_zero, List.push_toArray, List.append_toArray, List.nil_append, List.cons_append]
  have hta := run_assert_nil
  apply wpS_seq
  apply wpS_region
  simp [wpOpsS, go_sem, recoverD, hu, hta, Exit.thenS]
  apply wpS_seq
  apply wpS_region
  simp [wpOpsS, go_sem, Exit.thenS]
  refine wpS_cond (t := false) (by simp [Act.eval]) ?_
  simp only [Bool.false_eq_true, if_false]
  refine wpS_of_wp (wp_skip ?_)
  cases c₀
  simp_all [bodyPostS, results, Tryd.results21]

/-- What the closure leaves where it has found a failure. -/
structure Caught (b : Nat) (a k : Int) (w w' : World) : Prop where
  c0 : w'.cell? ⟨b, 0, none⟩ = some (.string ⟨#[]⟩)
  c1 : w'.cell? ⟨b + 1, 0, none⟩ = some (.int .i64 a)
  c2 : w'.cell? ⟨b + 2, 0, none⟩ = some (.int .i64 k)
  below : Below b w w'

set_option maxRecDepth 100000 in
set_option maxHeartbeats 1000000 in
theorem closure_caught (b : Nat) (a k : Int) (older : List PanicEntry) (w : World) (x y z : Value) (hc0 : w.cell? ⟨b, 0, none⟩ = some x) (hc1 : w.cell? ⟨b + 1, 0, none⟩ = some y) (hc2 : w.cell? ⟨b + 2, 0, none⟩ = some z)
    (hz0 : w.frozen? ⟨b, 0, none⟩ = false) (hz1 : w.frozen? ⟨b + 1, 0, none⟩ = false) (hz2 : w.frozen? ⟨b + 2, 0, none⟩ = false) (hx : x.cells.size = 1) (hy : y.cells.size = 1) (hz : z.cells.size = 1) :
    CallsD Tryd.prog 21 #[.pointer (some ⟨b, 0, none⟩), .pointer (some ⟨b + 1, 0, none⟩), .pointer (some ⟨b + 2, 0, none⟩)] (.panicking ({ v := failV a k, recovered := false } :: older)) w fun e u' w' =>
      e = .returned (.tuple #[]) ∧ u' = .panicking ({ v := failV a k, recovered := true } :: older) ∧ Caught b a k w w' := by
  refine callsD_of_wpS Tryd.func21 rfl fun c₀ cs hu => ?_
  simp only [Tryd.ntmps21, List.size_toArray, List.length_cons, List.length_nil, Nat.reduceAdd, Nat.reduceSub, Array.replicate_succ, Array.replicate_zero, List.push_toArray, List.append_toArray, List.nil_append, List.cons_append]
  have hta := run_assert_fail a k
  apply wpS_seq
  apply wpS_region
  simp [wpOpsS, go_sem, recoverD, hu, hta, Exit.thenS]
  apply wpS_seq
  apply wpS_region
  simp [wpOpsS, go_sem, Exit.thenS]
  refine wpS_cond (t := true) (by simp [Act.eval]) ?_
  simp only [if_true]
  refine wpS_of_wp ?_
  obtain ⟨W, hW⟩ : ∃ W, w.alloc (.cells #[.int .i64 a, .int .i64 k] 43) = W := ⟨_, rfl⟩
  obtain ⟨d, hd⟩ : ∃ d, w.heap.size = d := ⟨_, rfl⟩
  have hl0 : b < w.heap.size := lt_of_cell hc0
  have hl1 : b + 1 < w.heap.size := lt_of_cell hc1
  have hl2 : b + 2 < w.heap.size := lt_of_cell hc2
  have g0 : W.cell? ⟨b, 0, none⟩ = some x := by rw [← hW, cell_alloc _ _ _ hl0]; exact hc0
  have g1 : W.cell? ⟨b + 1, 0, none⟩ = some y := by rw [← hW, cell_alloc _ _ _ hl1]; exact hc1
  have g2 : W.cell? ⟨b + 2, 0, none⟩ = some z := by rw [← hW, cell_alloc _ _ _ hl2]; exact hc2
  have gn := World.alloc_heap_new w (.cells #[.int .i64 a, .int .i64 k] 43)
  rw [hW, hd] at gn
  have n0 : W.cell? ⟨d, 0, none⟩ = some (.int .i64 a) := by rw [cell_at gn]; rfl
  have n1 : W.cell? ⟨d, 1, none⟩ = some (.int .i64 k) := by rw [cell_at gn]; rfl
  have f0 : W.frozen? ⟨b, 0, none⟩ = false := by rw [← hW, frozen_alloc' _ _ _ hl0]; exact hz0
  have f1 : W.frozen? ⟨b + 1, 0, none⟩ = false := by rw [← hW, frozen_alloc' _ _ _ hl1]; exact hz1
  have f2 : W.frozen? ⟨b + 2, 0, none⟩ = false := by rw [← hW, frozen_alloc' _ _ _ hl2]; exact hz2
  have hbW : Below b w W := by rw [← hW]; exact (Below.refl b w).alloc (by omega) _
  have hdb : b + 2 < d := by omega
  simp only [hd, hW]
  clear gn hW hd hc0 hc1 hc2 hz0 hz1 hz2 hl0 hl1 hl2
  go_region
  have hC : Caught b a k w (((W.setCell ⟨b, 0, none⟩ (.string ⟨#[]⟩)).setCell ⟨b + 1, 0, none⟩ (.int .i64 a)).setCell ⟨b + 2, 0, none⟩ (.int .i64 k)).drew := by
    refine ⟨?_, ?_, ?_, ?_⟩
    · show (((W.setCell ⟨b, 0, none⟩ (.string ⟨#[]⟩)).setCell ⟨b + 1, 0, none⟩ (.int .i64 a)).setCell ⟨b + 2, 0, none⟩ (.int .i64 k)).cell? _ = _
      rw [World.cell?_setCell_far _ _ _ _ (show b + 2 ≠ b by omega), World.cell?_setCell_far _ _ _ _ (show b + 1 ≠ b by omega)]
      exact World.cell?_setCell_same' _ _ _ (by rw [g0]; rfl)
    · show (((W.setCell ⟨b, 0, none⟩ (.string ⟨#[]⟩)).setCell ⟨b + 1, 0, none⟩ (.int .i64 a)).setCell ⟨b + 2, 0, none⟩ (.int .i64 k)).cell? _ = _
      rw [World.cell?_setCell_far _ _ _ _ (show b + 2 ≠ b + 1 by omega)]
      exact World.cell?_setCell_same' _ _ _ (by rw [World.cell?_setCell_far _ _ _ _ (show b ≠ b + 1 by omega), g1]; rfl)
    · exact World.cell?_setCell_same' _ _ _ (by rw [World.cell?_setCell_far _ _ _ _ (show b + 1 ≠ b + 2 by omega), World.cell?_setCell_far _ _ _ _ (show b ≠ b + 2 by omega), g2]; rfl)
    · exact (((hbW.setCell (p := ⟨b, 0, none⟩) (Nat.le_refl _) _).setCell (p := ⟨b + 1, 0, none⟩) (by simp) _).setCell (p := ⟨b + 2, 0, none⟩) (by simp) _).drew
  simp [bodyPostS, results, Tryd.results21]
  exact hC
end Go.Proofs.YtjndekmpnihamaaDoor
