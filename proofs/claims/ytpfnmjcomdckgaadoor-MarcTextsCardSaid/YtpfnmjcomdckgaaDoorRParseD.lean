/-
  marc.Parse's deferred closure.
-/
import Derived.Test.YtpfnmjcomdckgaaDoorRPCheck
import Derived.Defers
import Derived.Recover
import Derived.Laws.Pointers
import Derived.BigRegion
namespace Go.Proofs.YtpfnmjcomdckgaaDoor
open Go.RowKit Go.Shelf
set_option linter.unusedVariables false
set_option linter.unusedSimpArgs false

theorem run_assert_nil (w : World) : (Instr.typeAssert .nilIface 20 86 true).run Tryd.prog w = .ok (.tuple #[.agg #[.int .i64 0, .int .i64 0], .bool false]) w := by kernel_rfl
theorem run_assert_fail (a k : Int) (w : World) : (Instr.typeAssert (failV a k) 20 86 true).run Tryd.prog w = .ok (.tuple #[.agg #[.int .i64 a, .int .i64 k], .bool true]) w := by kernel_rfl
theorem cell_alloc (w : World) (o : Obj) (p : Addr) (h : p.block < w.heap.size) : (w.alloc o).cell? p = w.cell? p := ((below_new w o).cell h)
theorem frozen_alloc' (w : World) (o : Obj) (p : Addr) (h : p.block < w.heap.size) : (w.alloc o).frozen? p = w.frozen? p := ((below_new w o).frozen h)
set_option maxRecDepth 100000 in
set_option maxHeartbeats 1000000 in
theorem closure_idle (b : Nat) (w : World) :
    CallsD Tryd.prog 47 #[.pointer (some ⟨b, 0, none⟩), .pointer (some ⟨b + 1, 0, none⟩), .pointer (some ⟨b + 2, 0, none⟩)] .returning w fun e u' w' =>
      e = .returned (.tuple #[]) ∧ u' = .returning ∧ w' = w.alloc (.cells #[.int .i64 0, .int .i64 0] 86) := by
  refine callsD_of_wpS Tryd.func47 rfl fun c₀ cs hu => ?_
  simp only [Tryd.ntmps47, List.size_toArray, List.length_cons, List.length_nil, Nat.reduceAdd, Nat.reduceSub, Array.replicate_succ, Array.replicate_zero, List.push_toArray, List.append_toArray, List.nil_append, List.cons_append]
  have hta := run_assert_nil
  apply wpS_seq
  apply wpS_region
  simp [wpOpsS, go_sem, recoverD, hu, hta, Exit.thenS]
  apply wpS_seq
  apply wpS_region
  simp [wpOpsS, go_sem, Exit.thenS]
  refine wpS_cond (t := false) (by simp [Act.eval]) ?_
  simp only [Bool.false_eq_true, if_false]
  refine wpS_of_wp (wp_skip ?_)
  cases c₀
  simp_all [bodyPostS, results, Tryd.results47]
/-- What the closure leaves where it has found a failure. -/
structure Caught (b : Nat) (a k : Int) (w w' : World) : Prop where
  c0 : w'.cell? ⟨b, 0, none⟩ = some (.int .u8 0)
  c1 : w'.cell? ⟨b, 1, none⟩ = some (.int .u8 0)
  c2 : w'.cell? ⟨b, 2, none⟩ = some (.slice none 0 0)
  c3 : w'.cell? ⟨b + 1, 0, none⟩ = some (.int .i64 a)
  c4 : w'.cell? ⟨b + 2, 0, none⟩ = some (.int .i64 k)
  below : Below b w w'
theorem blk_set' {w : World} {g : Nat} {cs : Array Value} {T : TypeId} (h : w.heap[g]? = some (.cells cs T (0, 0))) (j : Nat) (v : Value) : (w.setCell ⟨g, j, none⟩ v).heap[g]? = some (.cells (cs.setIfInBounds j v) T (0, 0)) := by
  simp [World.setCell, Array.getElem?_modify, h]
theorem far_set' (w : World) (g j : Nat) (v : Value) {k : Nat} (h : k ≠ g) : (w.setCell ⟨g, j, none⟩ v).heap[k]? = w.heap[k]? := Below.heap_setCell _ _ _ _ h
/-- Five stores into three blocks. -/
def five (W : World) (g0 g1 g2 : Nat) (v0 v1 v2 v3 v4 : Value) : World :=
  (((((W.setCell ⟨g0, 0, none⟩ v0).setCell ⟨g0, 1, none⟩ v1).setCell ⟨g0, 2, none⟩ v2).setCell ⟨g1, 0, none⟩ v3).setCell ⟨g2, 0, none⟩ v4)
theorem five_at {W : World} {g0 g1 g2 : Nat} {x0 x1 x2 x3 x4 v0 v1 v2 v3 v4 : Value} {T0 T1 T2 : TypeId} (h01 : g0 ≠ g1) (h02 : g0 ≠ g2) (h12 : g1 ≠ g2)
    (h0 : W.heap[g0]? = some (.cells #[x0, x1, x2] T0 (0, 0))) (h1 : W.heap[g1]? = some (.cells #[x3] T1 (0, 0))) (h2 : W.heap[g2]? = some (.cells #[x4] T2 (0, 0))) :
    (five W g0 g1 g2 v0 v1 v2 v3 v4).heap[g0]? = some (.cells #[v0, v1, v2] T0 (0, 0)) ∧ (five W g0 g1 g2 v0 v1 v2 v3 v4).heap[g1]? = some (.cells #[v3] T1 (0, 0)) ∧ (five W g0 g1 g2 v0 v1 v2 v3 v4).heap[g2]? = some (.cells #[v4] T2 (0, 0)) := by
  refine ⟨?_, ?_, ?_⟩
  · unfold five
    rw [far_set' _ g2 0 v4 h02, far_set' _ g1 0 v3 h01]
    exact blk_set' (blk_set' (blk_set' h0 0 v0) 1 v1) 2 v2
  · unfold five
    rw [far_set' _ g2 0 v4 h12]
    refine blk_set' (cs := #[x3]) ?_ 0 v3
    rw [far_set' _ g0 2 v2 h01.symm, far_set' _ g0 1 v1 h01.symm, far_set' _ g0 0 v0 h01.symm]
    exact h1
  · unfold five
    refine blk_set' (cs := #[x4]) ?_ 0 v4
    rw [far_set' _ g1 0 v3 h12.symm, far_set' _ g0 2 v2 h02.symm, far_set' _ g0 1 v1 h02.symm, far_set' _ g0 0 v0 h02.symm]
    exact h2
theorem five_below {b : Nat} {w W : World} {g0 g1 g2 : Nat} {v0 v1 v2 v3 v4 : Value} (h : Below b w W) (h0 : b ≤ g0) (h1 : b ≤ g1) (h2 : b ≤ g2) : Below b w (five W g0 g1 g2 v0 v1 v2 v3 v4) :=
  (((((h.setCell (p := ⟨g0, 0, none⟩) h0 _).setCell (p := ⟨g0, 1, none⟩) h0 _).setCell (p := ⟨g0, 2, none⟩) h0 _).setCell (p := ⟨g1, 0, none⟩) h1 _).setCell (p := ⟨g2, 0, none⟩) h2 _)
set_option maxRecDepth 100000 in
set_option maxHeartbeats 4000000 in
theorem closure_caught (b : Nat) (a k : Int) (older : List PanicEntry) (w : World)
    (h0 : w.heap[b]? = some (.cells #[.int .u8 0, .int .u8 0, .slice none 0 0] 27 (0, 0))) (h1 : w.heap[b + 1]? = some (.cells #[.int .i64 0] 3 (0, 0))) (h2 : w.heap[b + 2]? = some (.cells #[.int .i64 0] 31 (0, 0))) :
    CallsD Tryd.prog 47 #[.pointer (some ⟨b, 0, none⟩), .pointer (some ⟨b + 1, 0, none⟩), .pointer (some ⟨b + 2, 0, none⟩)] (.panicking ({ v := failV a k, recovered := false } :: older)) w fun e u' w' =>
      e = .returned (.tuple #[]) ∧ u' = .panicking ({ v := failV a k, recovered := true } :: older) ∧ Caught b a k w w' := by
  refine callsD_of_wpS Tryd.func47 rfl fun c₀ cs hu => ?_
  simp only [Tryd.ntmps47, List.size_toArray, List.length_cons, List.length_nil, Nat.reduceAdd, Nat.reduceSub, Array.replicate_succ, Array.replicate_zero, List.push_toArray, List.append_toArray, List.nil_append, List.cons_append]
  have hta := run_assert_fail a k
  apply wpS_seq
  apply wpS_region
  simp [wpOpsS, go_sem, recoverD, hu, hta, Exit.thenS]
  apply wpS_seq
  apply wpS_region
  simp [wpOpsS, go_sem, Exit.thenS]
  refine wpS_cond (t := true) (by simp [Act.eval]) ?_
  simp only [if_true]
  refine wpS_of_wp ?_
  obtain ⟨W, hW⟩ : ∃ W, w.alloc (.cells #[.int .i64 a, .int .i64 k] 86) = W := ⟨_, rfl⟩
  obtain ⟨d, hd⟩ : ∃ d, w.heap.size = d := ⟨_, rfl⟩
  have hl2 : b + 2 < w.heap.size := lt_at h2
  have m0 := heap_below (below_new w (.cells #[.int .i64 a, .int .i64 k] 86)) h0
  rw [hW] at m0
  have m1 := heap_below (below_new w (.cells #[.int .i64 a, .int .i64 k] 86)) h1
  rw [hW] at m1
  have m2 := heap_below (below_new w (.cells #[.int .i64 a, .int .i64 k] 86)) h2
  rw [hW] at m2
  have gn := new_at w (.cells #[.int .i64 a, .int .i64 k] 86)
  rw [hW, hd] at gn
  have n0 : W.cell? ⟨d, 0, none⟩ = some (.int .i64 a) := by rw [cell_at gn]; rfl
  have n1 : W.cell? ⟨d, 1, none⟩ = some (.int .i64 k) := by rw [cell_at gn]; rfl
  have g00 : W.cell? ⟨b, 0, none⟩ = some (.int .u8 0) := by rw [cell_at m0]; rfl
  have g01 : W.cell? ⟨b, 1, none⟩ = some (.int .u8 0) := by rw [cell_at m0]; rfl
  have g02 : W.cell? ⟨b, 2, none⟩ = some (.slice none 0 0) := by rw [cell_at m0]; rfl
  have g1 : W.cell? ⟨b + 1, 0, none⟩ = some (.int .i64 0) := by rw [cell_at m1]; rfl
  have g2 : W.cell? ⟨b + 2, 0, none⟩ = some (.int .i64 0) := by rw [cell_at m2]; rfl
  have f00 : W.frozen? ⟨b, 0, none⟩ = false := Lib.frozen_of_heap m0 0
  have f01 : W.frozen? ⟨b, 1, none⟩ = false := Lib.frozen_of_heap m0 1
  have f02 : W.frozen? ⟨b, 2, none⟩ = false := Lib.frozen_of_heap m0 2
  have f1 : W.frozen? ⟨b + 1, 0, none⟩ = false := Lib.frozen_of_heap m1 0
  have f2 : W.frozen? ⟨b + 2, 0, none⟩ = false := Lib.frozen_of_heap m2 0
  have hbW : Below b w W := by rw [← hW]; exact (Below.refl b w).alloc (by omega) _
  have hdb : b + 2 < d := by omega
  simp only [hd, hW]
  have M0 := Lib.hid m0
  have M1 := Lib.hid m1
  have M2 := Lib.hid m2
  have HbW := Lib.hid hbW
  clear gn hW hd h0 h1 h2 hl2 m0 m1 m2 hbW
  go_region
  have hC : Caught b a k w (five W b (b + 1) (b + 2) (.int .u8 0) (.int .u8 0) (.slice none 0 0) (.int .i64 a) (.int .i64 k)).drew := by
    obtain ⟨u0, u1, u2⟩ := five_at (v0 := .int .u8 0) (v1 := .int .u8 0) (v2 := .slice none 0 0) (v3 := .int .i64 a) (v4 := .int .i64 k) (show b ≠ b + 1 by omega) (show b ≠ b + 2 by omega) (show b + 1 ≠ b + 2 by omega) M0.out M1.out M2.out
    have hB := (five_below (v0 := .int .u8 0) (v1 := .int .u8 0) (v2 := .slice none 0 0) (v3 := .int .i64 a) (v4 := .int .i64 k) HbW.out (Nat.le_refl b) (show b ≤ b + 1 by omega) (show b ≤ b + 2 by omega))
    generalize five W b (b + 1) (b + 2) (.int .u8 0) (.int .u8 0) (.slice none 0 0) (.int .i64 a) (.int .i64 k) = V at u0 u1 u2 hB ⊢
    refine ⟨?_, ?_, ?_, ?_, ?_, hB.drew⟩
    · show V.cell? _ = _
      rw [cell_at u0]; rfl
    · show V.cell? _ = _
      rw [cell_at u0]; rfl
    · show V.cell? _ = _
      rw [cell_at u0]; rfl
    · show V.cell? _ = _
      rw [cell_at u1]; rfl
    · show V.cell? _ = _
      rw [cell_at u2]; rfl
  have HC := Lib.hid hC
  clear hC
  simp only [five] at HC
  simp [bodyPostS, results, Tryd.results47]
  exact HC.out
end Go.Proofs.YtpfnmjcomdckgaaDoor
