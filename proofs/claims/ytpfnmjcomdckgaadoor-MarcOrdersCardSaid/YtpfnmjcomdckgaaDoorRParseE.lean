/-
  marc.Parse's deferred closure. marc.Parse: the record at a list of bytes, or the first fault's place and kind.
-/
import Derived.Test.YtpfnmjcomdckgaaDoorRPHead
import Derived.Defers
import Derived.Recover
import Derived.Laws.Pointers
import Derived.BigRegion
import Derived.Test.YtpfnmjcomdckgaaDoorRParse
namespace Go.Proofs.YtpfnmjcomdckgaaDoor
open Go.RowKit Go.Shelf
set_option linter.unusedVariables false
set_option linter.unusedSimpArgs false

theorem run_assert_nil (w : World) : (Instr.typeAssert .nilIface 20 86 true).run Tryd.prog w = .ok (.tuple #[.agg #[.int .i64 0, .int .i64 0], .bool false]) w := by kernel_rfl
theorem run_assert_fail (a k : Int) (w : World) : (Instr.typeAssert (failV a k) 20 86 true).run Tryd.prog w = .ok (.tuple #[.agg #[.int .i64 a, .int .i64 k], .bool true]) w := by kernel_rfl
theorem cell_alloc (w : World) (o : Obj) (p : Addr) (h : p.block < w.heap.size) : (w.alloc o).cell? p = w.cell? p := ((below_new w o).cell h)
theorem frozen_alloc' (w : World) (o : Obj) (p : Addr) (h : p.block < w.heap.size) : (w.alloc o).frozen? p = w.frozen? p := ((below_new w o).frozen h)
set_option maxRecDepth 100000 in
set_option maxHeartbeats 1000000 in
theorem closure_idle (b : Nat) (w : World) :
    CallsD Tryd.prog 47 #[.pointer (some ⟨b, 0, none⟩), .pointer (some ⟨b + 1, 0, none⟩), .pointer (some ⟨b + 2, 0, none⟩)] .returning w fun e u' w' =>
      e = .returned (.tuple #[]) ∧ u' = .returning ∧ w' = w.alloc (.cells #[.int .i64 0, .int .i64 0] 86) := by
  refine callsD_of_wpS Tryd.func47 rfl fun c₀ cs hu => ?_
  simp only [Tryd.ntmps47, List.size_toArray, List.length_cons, List.length_nil, Nat.reduceAdd, Nat.reduceSub, Array.replicate_succ, Array.replicate_zero, List.push_toArray, List.append_toArray, List.nil_append, List.cons_append]
  have hta := run_assert_nil
  apply wpS_seq
  apply wpS_region
  simp [wpOpsS, go_sem, recoverD, hu, hta, Exit.thenS]
  apply wpS_seq
  apply wpS_region
  simp [wpOpsS, go_sem, Exit.thenS]
  refine wpS_cond (t := false) (by simp [Act.eval]) ?_
  simp only [Bool.false_eq_true, if_false]
  refine wpS_of_wp (wp_skip ?_)
  cases c₀
  simp_all [bodyPostS, results, Tryd.results47]
/-- What the closure leaves where it has found a failure. -/
structure Caught (b : Nat) (a k : Int) (w w' : World) : Prop where
  c0 : w'.cell? ⟨b, 0, none⟩ = some (.int .u8 0)
  c1 : w'.cell? ⟨b, 1, none⟩ = some (.int .u8 0)
  c2 : w'.cell? ⟨b, 2, none⟩ = some (.slice none 0 0)
  c3 : w'.cell? ⟨b + 1, 0, none⟩ = some (.int .i64 a)
  c4 : w'.cell? ⟨b + 2, 0, none⟩ = some (.int .i64 k)
  below : Below b w w'
theorem blk_set' {w : World} {g : Nat} {cs : Array Value} {T : TypeId} (h : w.heap[g]? = some (.cells cs T (0, 0))) (j : Nat) (v : Value) : (w.setCell ⟨g, j, none⟩ v).heap[g]? = some (.cells (cs.setIfInBounds j v) T (0, 0)) := by
  simp [World.setCell, Array.getElem?_modify, h]
theorem far_set' (w : World) (g j : Nat) (v : Value) {k : Nat} (h : k ≠ g) : (w.setCell ⟨g, j, none⟩ v).heap[k]? = w.heap[k]? := Below.heap_setCell _ _ _ _ h
/-- Five stores into three blocks. -/
def five (W : World) (g0 g1 g2 : Nat) (v0 v1 v2 v3 v4 : Value) : World :=
  (((((W.setCell ⟨g0, 0, none⟩ v0).setCell ⟨g0, 1, none⟩ v1).setCell ⟨g0, 2, none⟩ v2).setCell ⟨g1, 0, none⟩ v3).setCell ⟨g2, 0, none⟩ v4)
theorem five_at {W : World} {g0 g1 g2 : Nat} {x0 x1 x2 x3 x4 v0 v1 v2 v3 v4 : Value} {T0 T1 T2 : TypeId} (h01 : g0 ≠ g1) (h02 : g0 ≠ g2) (h12 : g1 ≠ g2)
    (h0 : W.heap[g0]? = some (.cells #[x0, x1, x2] T0 (0, 0))) (h1 : W.heap[g1]? = some (.cells #[x3] T1 (0, 0))) (h2 : W.heap[g2]? = some (.cells #[x4] T2 (0, 0))) :
    (five W g0 g1 g2 v0 v1 v2 v3 v4).heap[g0]? = some (.cells #[v0, v1, v2] T0 (0, 0)) ∧ (five W g0 g1 g2 v0 v1 v2 v3 v4).heap[g1]? = some (.cells #[v3] T1 (0, 0)) ∧ (five W g0 g1 g2 v0 v1 v2 v3 v4).heap[g2]? = some (.cells #[v4] T2 (0, 0)) := by
  refine ⟨?_, ?_, ?_⟩
  · unfold five
    rw [far_set' _ g2 0 v4 h02, far_set' _ g1 0 v3 h01]
    exact blk_set' (blk_set' (blk_set' h0 0 v0) 1 v1) 2 v2
  · unfold five
    rw [far_set' _ g2 0 v4 h12]
    refine blk_set' (cs := #[x3]) ?_ 0 v3
    rw [far_set' _ g0 2 v2 h01.symm, far_set' _ g0 1 v1 h01.symm, far_set' _ g0 0 v0 h01.symm]
    exact h1
  · unfold five
    refine blk_set' (cs := #[x4]) ?_ 0 v4
    rw [far_set' _ g1 0 v3 h12.symm, far_set' _ g0 2 v2 h02.symm, far_set' _ g0 1 v1 h02.symm, far_set' _ g0 0 v0 h02.symm]
    exact h2
theorem five_below {b : Nat} {w W : World} {g0 g1 g2 : Nat} {v0 v1 v2 v3 v4 : Value} (h : Below b w W) (h0 : b ≤ g0) (h1 : b ≤ g1) (h2 : b ≤ g2) : Below b w (five W g0 g1 g2 v0 v1 v2 v3 v4) :=
  (((((h.setCell (p := ⟨g0, 0, none⟩) h0 _).setCell (p := ⟨g0, 1, none⟩) h0 _).setCell (p := ⟨g0, 2, none⟩) h0 _).setCell (p := ⟨g1, 0, none⟩) h1 _).setCell (p := ⟨g2, 0, none⟩) h2 _)
set_option maxRecDepth 100000 in
set_option maxHeartbeats 4000000 in
theorem closure_caught (b : Nat) (a k : Int) (older : List PanicEntry) (w : World)
    (h0 : w.heap[b]? = some (.cells #[.int .u8 0, .int .u8 0, .slice none 0 0] 27 (0, 0))) (h1 : w.heap[b + 1]? = some (.cells #[.int .i64 0] 3 (0, 0))) (h2 : w.heap[b + 2]? = some (.cells #[.int .i64 0] 31 (0, 0))) :
    CallsD Tryd.prog 47 #[.pointer (some ⟨b, 0, none⟩), .pointer (some ⟨b + 1, 0, none⟩), .pointer (some ⟨b + 2, 0, none⟩)] (.panicking ({ v := failV a k, recovered := false } :: older)) w fun e u' w' =>
      e = .returned (.tuple #[]) ∧ u' = .panicking ({ v := failV a k, recovered := true } :: older) ∧ Caught b a k w w' := by
  refine callsD_of_wpS Tryd.func47 rfl fun c₀ cs hu => ?_
  simp only [Tryd.ntmps47, List.size_toArray, List.length_cons, List.length_nil, Nat.reduceAdd, Nat.reduceSub, Array.replicate_succ, Array.replicate_zero, List.push_toArray, List.append_toArray, List.nil_append, List.cons_append]
  have hta := run_assert_fail a k
  apply wpS_seq
  apply wpS_region
  simp [wpOpsS, go_sem, recoverD, hu, hta, Exit.thenS]
  apply wpS_seq
  apply wpS_region
  simp [wpOpsS, go_sem, Exit.thenS]
  refine wpS_cond (t := true) (by simp [Act.eval]) ?_
  simp only [if_true]
  refine wpS_of_wp ?_
  obtain ⟨W, hW⟩ : ∃ W, w.alloc (.cells #[.int .i64 a, .int .i64 k] 86) = W := ⟨_, rfl⟩
  obtain ⟨d, hd⟩ : ∃ d, w.heap.size = d := ⟨_, rfl⟩
  have hl2 : b + 2 < w.heap.size := lt_at h2
  have m0 := heap_below (below_new w (.cells #[.int .i64 a, .int .i64 k] 86)) h0
  rw [hW] at m0
  have m1 := heap_below (below_new w (.cells #[.int .i64 a, .int .i64 k] 86)) h1
  rw [hW] at m1
  have m2 := heap_below (below_new w (.cells #[.int .i64 a, .int .i64 k] 86)) h2
  rw [hW] at m2
  have gn := new_at w (.cells #[.int .i64 a, .int .i64 k] 86)
  rw [hW, hd] at gn
  have n0 : W.cell? ⟨d, 0, none⟩ = some (.int .i64 a) := by rw [cell_at gn]; rfl
  have n1 : W.cell? ⟨d, 1, none⟩ = some (.int .i64 k) := by rw [cell_at gn]; rfl
  have g00 : W.cell? ⟨b, 0, none⟩ = some (.int .u8 0) := by rw [cell_at m0]; rfl
  have g01 : W.cell? ⟨b, 1, none⟩ = some (.int .u8 0) := by rw [cell_at m0]; rfl
  have g02 : W.cell? ⟨b, 2, none⟩ = some (.slice none 0 0) := by rw [cell_at m0]; rfl
  have g1 : W.cell? ⟨b + 1, 0, none⟩ = some (.int .i64 0) := by rw [cell_at m1]; rfl
  have g2 : W.cell? ⟨b + 2, 0, none⟩ = some (.int .i64 0) := by rw [cell_at m2]; rfl
  have f00 : W.frozen? ⟨b, 0, none⟩ = false := Lib.frozen_of_heap m0 0
  have f01 : W.frozen? ⟨b, 1, none⟩ = false := Lib.frozen_of_heap m0 1
  have f02 : W.frozen? ⟨b, 2, none⟩ = false := Lib.frozen_of_heap m0 2
  have f1 : W.frozen? ⟨b + 1, 0, none⟩ = false := Lib.frozen_of_heap m1 0
  have f2 : W.frozen? ⟨b + 2, 0, none⟩ = false := Lib.frozen_of_heap m2 0
  have hbW : Below b w W := by rw [← hW]; exact (Below.refl b w).alloc (by omega) _
  have hdb : b + 2 < d := by omega
  simp only [hd, hW]
  have M0 := Lib.hid m0
  have M1 := Lib.hid m1
  have M2 := Lib.hid m2
  have HbW := Lib.hid hbW
  clear gn hW hd h0 h1 h2 hl2 m0 m1 m2 hbW
  go_region
  have hC : Caught b a k w (five W b (b + 1) (b + 2) (.int .u8 0) (.int .u8 0) (.slice none 0 0) (.int .i64 a) (.int .i64 k)).drew := by
    obtain ⟨u0, u1, u2⟩ := five_at (v0 := .int .u8 0) (v1 := .int .u8 0) (v2 := .slice none 0 0) (v3 := .int .i64 a) (v4 := .int .i64 k) (show b ≠ b + 1 by omega) (show b ≠ b + 2 by omega) (show b + 1 ≠ b + 2 by omega) M0.out M1.out M2.out
    have hB := (five_below (v0 := .int .u8 0) (v1 := .int .u8 0) (v2 := .slice none 0 0) (v3 := .int .i64 a) (v4 := .int .i64 k) HbW.out (Nat.le_refl b) (show b ≤ b + 1 by omega) (show b ≤ b + 2 by omega))
    generalize five W b (b + 1) (b + 2) (.int .u8 0) (.int .u8 0) (.slice none 0 0) (.int .i64 a) (.int .i64 k) = V at u0 u1 u2 hB ⊢
    refine ⟨?_, ?_, ?_, ?_, ?_, hB.drew⟩
    · show V.cell? _ = _
      rw [cell_at u0]; rfl
    · show V.cell? _ = _
      rw [cell_at u0]; rfl
    · show V.cell? _ = _
      rw [cell_at u0]; rfl
    · show V.cell? _ = _
      rw [cell_at u1]; rfl
    · show V.cell? _ = _
      rw [cell_at u2]; rfl
  have HC := Lib.hid hC
  clear hC
  simp only [five] at HC
  simp [bodyPostS, results, Tryd.results47]
  exact HC.out
end Go.Proofs.YtpfnmjcomdckgaaDoor

namespace Go.Proofs.YtpfnmjcomdckgaaDoor
open Go.RowKit Go.Shelf
set_option linter.unusedVariables false
set_option linter.unusedSimpArgs false

/-- What Parse returns: the fault, or the record. -/
def PV (x : PR RecM) (w : World) (e : Ending) (w' : World) : Prop := match x with
  | .bad p k => e = .returned (.tuple #[.agg #[.int .u8 0, .int .u8 0, .slice none 0 0], .int .i64 p, .int .i64 k]) ∧ Below w.heap.size w w'
  | .ok r => ∃ fv, e = .returned (.tuple #[.agg #[.int .u8 (r.kind.toNat : Int), .int .u8 (r.level.toNat : Int), fv], .int .i64 0, .int .i64 0]) ∧ Below w.heap.size w w' ∧ FldsAt w' fv r.fields
/-- Three new variables for the results. -/
def three (w : World) : World := ((w.alloc (.cells #[.int .u8 0, .int .u8 0, .slice none 0 0] 27)).alloc (.cells #[.int .i64 0] 3)).alloc (.cells #[.int .i64 0] 31)
theorem new2' (w : World) (o1 o2 : Obj) : ((w.alloc o1).alloc o2).heap[w.heap.size + 1]? = some o2 := by
  have := new_at (w.alloc o1) o2
  rwa [World.size_alloc] at this
theorem three_cells (w : World) : (three w).heap.size = w.heap.size + 3 ∧ Below w.heap.size w (three w) ∧
    (three w).heap[w.heap.size]? = some (.cells #[.int .u8 0, .int .u8 0, .slice none 0 0] 27 (0, 0)) ∧ (three w).heap[w.heap.size + 1]? = some (.cells #[.int .i64 0] 3 (0, 0)) ∧ (three w).heap[w.heap.size + 2]? = some (.cells #[.int .i64 0] 31 (0, 0)) := by
  refine ⟨by simp [three], ?_, ?_, ?_, ?_⟩
  · exact (((Below.refl _ w).alloc (Nat.le_refl _) _).alloc (by simp) _).alloc (by simp; omega) _
  · unfold three
    rw [Lib.alloc_old _ _ _ (by simp; omega), Lib.alloc_old _ _ _ (by simp)]
    exact new_at _ _
  · unfold three
    rw [Lib.alloc_old _ _ _ (by simp)]
    exact new2' _ _ _
  · unfold three
    have := new2' (w.alloc (.cells #[.int .u8 0, .int .u8 0, .slice none 0 0] 27)) (.cells #[.int .i64 0] 3) (.cells #[.int .i64 0] 31)
    rwa [World.size_alloc] at this
theorem nostr1 {W : World} {r : Nat} {T : TypeId} {m : Int} {k : IntKind} (h : W.heap[r]? = some (.cells #[.int k m] T (0, 0))) : NoStr W r := by
  intro o s
  rw [cell_at h]
  rcases o with _ | o
  · simp
  · simp
theorem five_flds {W : World} {g0 g1 g2 : Nat} {v0 v1 v2 v3 v4 : Value} {T0 T1 T2 : TypeId} {m0 m1 m3 m4 : Int} {k0 k3 k4 : IntKind} {a : Option Addr} {l c : Nat} (h01 : g0 ≠ g1) (h02 : g0 ≠ g2) (h12 : g1 ≠ g2)
    (h0 : W.heap[g0]? = some (.cells #[.int k0 m0, .int k0 m1, .slice a l c] T0 (0, 0))) (h1 : W.heap[g1]? = some (.cells #[.int k3 m3] T1 (0, 0))) (h2 : W.heap[g2]? = some (.cells #[.int k4 m4] T2 (0, 0))) {v : Value} {fs : List FldM} (h : FldsAt W v fs) :
    FldsAt (five W g0 g1 g2 v0 v1 v2 v3 v4) v fs := by
  unfold five
  have a1 : FldsAt (((W.setCell ⟨g0, 0, none⟩ v0).setCell ⟨g0, 1, none⟩ v1).setCell ⟨g0, 2, none⟩ v2) v fs := by
    refine flds_far (r := g0) h (nostr3 h0) (fun k hk => ?_) (by simp [World.setCell])
    rw [far_set' _ g0 2 v2 hk, far_set' _ g0 1 v1 hk, far_set' _ g0 0 v0 hk]
  have b1 : (((W.setCell ⟨g0, 0, none⟩ v0).setCell ⟨g0, 1, none⟩ v1).setCell ⟨g0, 2, none⟩ v2).heap[g1]? = some (.cells #[.int k3 m3] T1 (0, 0)) := by
    rw [far_set' _ g0 2 v2 h01.symm, far_set' _ g0 1 v1 h01.symm, far_set' _ g0 0 v0 h01.symm]; exact h1
  have b2 : (((W.setCell ⟨g0, 0, none⟩ v0).setCell ⟨g0, 1, none⟩ v1).setCell ⟨g0, 2, none⟩ v2).heap[g2]? = some (.cells #[.int k4 m4] T2 (0, 0)) := by
    rw [far_set' _ g0 2 v2 h02.symm, far_set' _ g0 1 v1 h02.symm, far_set' _ g0 0 v0 h02.symm]; exact h2
  have a2 := flds_far (W' := (((W.setCell ⟨g0, 0, none⟩ v0).setCell ⟨g0, 1, none⟩ v1).setCell ⟨g0, 2, none⟩ v2).setCell ⟨g1, 0, none⟩ v3) (r := g1) a1 (nostr1 b1) (fun k hk => far_set' _ g1 0 v3 hk) (by simp [World.setCell])
  refine flds_far (r := g2) a2 (nostr1 (k := k4) (m := m4) (T := T2) ?_) (fun k hk => far_set' _ g2 0 v4 hk) (by simp [World.setCell])
  rw [far_set' _ g1 0 v3 h12.symm]; exact b2
set_option maxRecDepth 100000 in
set_option maxHeartbeats 1000000 in
theorem Parse_bad (l : List UInt8) (p k : Nat) (w : World) (hf : Calls Tryd.prog 48 #[str l] (three w) (PPost (.bad p k) (three w))) :
    Calls Tryd.prog 20 #[str l] w (PV (.bad p k) w) := by
  obtain ⟨hz, hb3, h0, h1, h2⟩ := three_cells w
  have Hc := Lib.hid hf
  have Hb3 := Lib.hid hb3
  have H0 := Lib.hid h0
  have H1 := Lib.hid h1
  have H2 := Lib.hid h2
  have Hz := Lib.hid hz
  clear hf hb3 h0 h1 h2 hz
  go_enter_defers Tryd.func20, Tryd.ntmps20
  go_wp2_with fail
  refine Hc.out.mono ?_
  rintro e w4 ⟨rfl, hb4⟩
  have g0 := (hb4.block _ (lt_at H0.out)).trans H0.out
  have g1 := (hb4.block _ (lt_at H1.out)).trans H1.out
  have g2 := (hb4.block _ (lt_at H2.out)).trans H2.out
  have Hb4 := Lib.hid (Hb3.out.trans (hb4.mono (by rw [Hz.out]; omega)))
  clear hb4
  simp only [pan]
  try go_wp2_with fail
  obtain ⟨b, hbb⟩ : ∃ b, w.heap.size = b := ⟨_, rfl⟩
  rw [hbb] at g0 g1 g2 ⊢
  refine leaves_cons (f := 47) (args := #[.pointer (some ⟨b, 0, none⟩), .pointer (some ⟨b + 1, 0, none⟩), .pointer (some ⟨b + 1 + 1, 0, none⟩)]) (by simp) (by simp [go_sem]) ?_
  refine (closure_caught b p k [] w4 g0 g1 g2).mono ?_
  rintro e u' w5 ⟨rfl, rfl, hC⟩
  have j0 := hC.c0
  have j1 := hC.c1
  have j2 := hC.c2
  have j3 := hC.c3
  have j4 : w5.cell? ⟨b + 1 + 1, 0, none⟩ = some (.int .i64 k) := hC.c4
  have hfin : Below w.heap.size w w5 := Hb4.out.trans (by rw [hbb]; exact hC.below)
  have Hfin := Lib.hid hfin
  clear hfin hC
  simp [Leaves, settle, results, Tryd.results20, go_sem, j0, j1, j2, j3, j4]
  exact ⟨rfl, Hfin.out⟩
set_option maxRecDepth 100000 in
set_option maxHeartbeats 1000000 in
theorem Parse_ok (l : List UInt8) (r : RecM) (w : World) (hf : Calls Tryd.prog 48 #[str l] (three w) (PPost (.ok r) (three w))) :
    Calls Tryd.prog 20 #[str l] w (PV (.ok r) w) := by
  obtain ⟨hz, hb3, h0, h1, h2⟩ := three_cells w
  have Hc := Lib.hid hf
  have Hb3 := Lib.hid hb3
  have H0 := Lib.hid h0
  have H1 := Lib.hid h1
  have H2 := Lib.hid h2
  have Hz := Lib.hid hz
  clear hf hb3 h0 h1 h2 hz
  go_enter_defers Tryd.func20, Tryd.ntmps20
  go_wp2_with fail
  refine Hc.out.mono ?_
  rintro e w4 ⟨fv, rfl, hb4, hF⟩
  have m0 := (hb4.block _ (lt_at H0.out)).trans H0.out
  have m1 := (hb4.block _ (lt_at H1.out)).trans H1.out
  have m2 := (hb4.block _ (lt_at H2.out)).trans H2.out
  have g00 : w4.cell? ⟨w.heap.size, 0, none⟩ = some (.int .u8 0) := by rw [cell_at m0]; rfl
  have g01 : w4.cell? ⟨w.heap.size, 1, none⟩ = some (.int .u8 0) := by rw [cell_at m0]; rfl
  have g02 : w4.cell? ⟨w.heap.size, 2, none⟩ = some (.slice none 0 0) := by rw [cell_at m0]; rfl
  have g1 : w4.cell? ⟨w.heap.size + 1, 0, none⟩ = some (.int .i64 0) := by rw [cell_at m1]; rfl
  have g2 : w4.cell? ⟨w.heap.size + 1 + 1, 0, none⟩ = some (.int .i64 0) := by rw [show w.heap.size + 1 + 1 = w.heap.size + 2 from rfl, cell_at m2]; rfl
  have f00 : w4.frozen? ⟨w.heap.size, 0, none⟩ = false := Lib.frozen_of_heap m0 0
  have f01 : w4.frozen? ⟨w.heap.size, 1, none⟩ = false := Lib.frozen_of_heap m0 1
  have f02 : w4.frozen? ⟨w.heap.size, 2, none⟩ = false := Lib.frozen_of_heap m0 2
  have f1 : w4.frozen? ⟨w.heap.size + 1, 0, none⟩ = false := Lib.frozen_of_heap m1 0
  have f2 : w4.frozen? ⟨w.heap.size + 1 + 1, 0, none⟩ = false := Lib.frozen_of_heap m2 0
  have Hb4 := Lib.hid (Hb3.out.trans (hb4.mono (by rw [Hz.out]; omega)))
  have hsz4 := lt_at m2
  have M0 := Lib.hid m0
  have M1 := Lib.hid m1
  have M2 := Lib.hid m2
  have HF := Lib.hid hF
  clear hb4 m0 m1 m2 hF
  obtain ⟨sa, sl, sc, hfv⟩ : ∃ a n c, fv = .slice a n c := by
    rcases HF.out with ⟨a, c, h, _⟩ | ⟨b, o, c, h, _⟩
    · exact ⟨_, _, _, h⟩
    · exact ⟨_, _, _, h⟩
  subst hfv
  go_wp2_with fail
  obtain ⟨b, hbb⟩ : ∃ b, w.heap.size = b := ⟨_, rfl⟩
  rw [hbb] at M0 M1 M2 hsz4 ⊢
  obtain ⟨u0, u1, u2⟩ := five_at (v0 := .int .u8 (r.kind.toNat : Int)) (v1 := .int .u8 (r.level.toNat : Int)) (v2 := .slice sa sl sc) (v3 := .int .i64 0) (v4 := .int .i64 0) (show b ≠ b + 1 by omega) (show b ≠ b + 2 by omega) (show b + 1 ≠ b + 2 by omega) M0.out M1.out M2.out
  have hF5 := five_flds (v0 := .int .u8 (r.kind.toNat : Int)) (v1 := .int .u8 (r.level.toNat : Int)) (v2 := .slice sa sl sc) (v3 := .int .i64 0) (v4 := .int .i64 0) (show b ≠ b + 1 by omega) (show b ≠ b + 2 by omega) (show b + 1 ≠ b + 2 by omega) M0.out M1.out M2.out HF.out
  have hB5 := (five_below (v0 := .int .u8 (r.kind.toNat : Int)) (v1 := .int .u8 (r.level.toNat : Int)) (v2 := .slice sa sl sc) (v3 := .int .i64 0) (v4 := .int .i64 0) (show Below b w w4 by rw [← hbb]; exact Hb4.out) (Nat.le_refl b) (show b ≤ b + 1 by omega) (show b ≤ b + 2 by omega))
  have hs5 : (five w4 b (b + 1) (b + 2) (.int .u8 (r.kind.toNat : Int)) (.int .u8 (r.level.toNat : Int)) (.slice sa sl sc) (.int .i64 0) (.int .i64 0)).heap.size = w4.heap.size := by simp [five, World.setCell]
  rw [show (((((w4.setCell ⟨b, 0, none⟩ (.int .u8 (r.kind.toNat : Int))).setCell ⟨b, 1, none⟩ (.int .u8 (r.level.toNat : Int))).setCell ⟨b, 2, none⟩ (.slice sa sl sc)).setCell ⟨b + 1, 0, none⟩ (.int .i64 0)).setCell ⟨b + 1 + 1, 0, none⟩ (.int .i64 0)) = five w4 b (b + 1) (b + 2) (.int .u8 (r.kind.toNat : Int)) (.int .u8 (r.level.toNat : Int)) (.slice sa sl sc) (.int .i64 0) (.int .i64 0) from rfl]
  generalize five w4 b (b + 1) (b + 2) (.int .u8 (r.kind.toNat : Int)) (.int .u8 (r.level.toNat : Int)) (.slice sa sl sc) (.int .i64 0) (.int .i64 0) = W5 at u0 u1 u2 hF5 hB5 hs5 ⊢
  refine leaves_cons (f := 47) (args := #[.pointer (some ⟨b, 0, none⟩), .pointer (some ⟨b + 1, 0, none⟩), .pointer (some ⟨b + 1 + 1, 0, none⟩)]) (by simp) (by simp [go_sem]) ?_
  refine (closure_idle b W5).mono ?_
  rintro e u' w'' ⟨rfl, rfl, rfl⟩
  have hn := below_new W5 (.cells #[.int .i64 0, .int .i64 0] 86)
  have j0 : (W5.alloc (.cells #[.int .i64 0, .int .i64 0] 86)).cell? ⟨b, 0, none⟩ = some (.int .u8 (r.kind.toNat : Int)) := (cell_alloc _ _ _ (show b < W5.heap.size by omega)).trans (by rw [cell_at u0]; rfl)
  have j1 : (W5.alloc (.cells #[.int .i64 0, .int .i64 0] 86)).cell? ⟨b, 1, none⟩ = some (.int .u8 (r.level.toNat : Int)) := (cell_alloc _ _ _ (show b < W5.heap.size by omega)).trans (by rw [cell_at u0]; rfl)
  have j2 : (W5.alloc (.cells #[.int .i64 0, .int .i64 0] 86)).cell? ⟨b, 2, none⟩ = some (.slice sa sl sc) := (cell_alloc _ _ _ (show b < W5.heap.size by omega)).trans (by rw [cell_at u0]; rfl)
  have j3 : (W5.alloc (.cells #[.int .i64 0, .int .i64 0] 86)).cell? ⟨b + 1, 0, none⟩ = some (.int .i64 0) := (cell_alloc _ _ _ (show b + 1 < W5.heap.size by omega)).trans (by rw [cell_at u1]; rfl)
  have j4 : (W5.alloc (.cells #[.int .i64 0, .int .i64 0] 86)).cell? ⟨b + 1 + 1, 0, none⟩ = some (.int .i64 0) := (cell_alloc _ _ _ (show b + 1 + 1 < W5.heap.size by omega)).trans (by rw [show b + 1 + 1 = b + 2 from rfl, cell_at u2]; rfl)
  have Hfin := Lib.hid (show Below w.heap.size w (W5.alloc (.cells #[.int .i64 0, .int .i64 0] 86)) by rw [hbb]; exact hB5.alloc (by omega) _)
  have HF' := Lib.hid (hF5.below hn (Nat.le_refl _))
  clear hn u0 u1 u2 hF5 hB5 HF
  simp [Leaves, settle, results, Tryd.results20, go_sem, j0, j1, j2, j3, j4]
  exact ⟨_, rfl, Hfin.out, HF'.out⟩
/-- Parse at any list of bytes. -/
theorem Parse_c (l : List UInt8) (hl : l.length ≤ 1099511627776) (w : World) (hT : Tabs w) :
    Calls Tryd.prog 20 #[str l] w (PV (parseM l) w) := by
  have h := parse_c l hl (three w) (tabs_below hT (three_cells w).2.1)
  revert h
  cases parseM l with
  | ok r => exact fun h => Parse_ok l r w h
  | bad p k => exact fun h => Parse_bad l p k w h
end Go.Proofs.YtpfnmjcomdckgaaDoor
