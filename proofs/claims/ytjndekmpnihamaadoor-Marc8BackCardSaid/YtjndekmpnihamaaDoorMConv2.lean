/-
  convert, Decode and Encode around a conversion.
-/
import Derived.Test.YtjndekmpnihamaaDoorMConv
namespace Go.Proofs.YtjndekmpnihamaaDoor
open Go.RowKit Go.Shelf
set_option linter.unusedVariables false

def ConvPost (x : Res) (w : World) (e : Ending) (w' : World) : Prop := match x with
  | .bad a k => e = .returned (.tuple #[str [], .int .i64 (a : Int), .int .i64 (k : Int)]) ∧ Below w.heap.size w w'
  | .ok o => e = .returned (.tuple #[str o, .int .i64 0, .int .i64 0]) ∧ Below w.heap.size w w'

/-- Three new variables for the results. -/
def three (w : World) : World := ((w.alloc (.cells #[.string ⟨#[]⟩] 9)).alloc (.cells #[.int .i64 0] 3)).alloc (.cells #[.int .i64 0] 25)
theorem three_cells (w : World) : (three w).heap.size = w.heap.size + 3 ∧ Below w.heap.size w (three w) ∧
    (three w).heap[w.heap.size]? = some (.cells #[.string ⟨#[]⟩] 9 (0, 0)) ∧ (three w).heap[w.heap.size + 1]? = some (.cells #[.int .i64 0] 3 (0, 0)) ∧ (three w).heap[w.heap.size + 2]? = some (.cells #[.int .i64 0] 25 (0, 0)) := by
  refine ⟨by simp [three], ?_, ?_, ?_, ?_⟩
  · exact (((Below.refl _ w).alloc (Nat.le_refl _) _).alloc (by simp) _).alloc (by simp; omega) _
  · unfold three
    rw [Lib.alloc_old _ _ _ (by simp; omega), Lib.alloc_old _ _ _ (by simp)]
    exact World.alloc_heap_new _ _
  · unfold three
    rw [Lib.alloc_old _ _ _ (by simp)]
    exact new2 _ _ _
  · unfold three
    have := new2 (w.alloc (.cells #[.string ⟨#[]⟩] 9)) (.cells #[.int .i64 0] 3) (.cells #[.int .i64 0] 25)
    rwa [World.size_alloc] at this

theorem set3 (w : World) (b : Nat) (x y z : Value) (h0 : (w.cell? ⟨b, 0, none⟩).isSome = true) (h1 : (w.cell? ⟨b + 1, 0, none⟩).isSome = true) (h2 : (w.cell? ⟨b + 2, 0, none⟩).isSome = true) :
    (((w.setCell ⟨b, 0, none⟩ x).setCell ⟨b + 1, 0, none⟩ y).setCell ⟨b + 1 + 1, 0, none⟩ z).cell? ⟨b, 0, none⟩ = some x ∧ (((w.setCell ⟨b, 0, none⟩ x).setCell ⟨b + 1, 0, none⟩ y).setCell ⟨b + 1 + 1, 0, none⟩ z).cell? ⟨b + 1, 0, none⟩ = some y ∧
    (((w.setCell ⟨b, 0, none⟩ x).setCell ⟨b + 1, 0, none⟩ y).setCell ⟨b + 1 + 1, 0, none⟩ z).cell? ⟨b + 1 + 1, 0, none⟩ = some z ∧ Below b w (((w.setCell ⟨b, 0, none⟩ x).setCell ⟨b + 1, 0, none⟩ y).setCell ⟨b + 1 + 1, 0, none⟩ z) := by
  refine ⟨?_, ?_, ?_, ?_⟩
  · rw [World.cell?_setCell_far _ _ _ _ (show b + 1 + 1 ≠ b by omega), World.cell?_setCell_far _ _ _ _ (show b + 1 ≠ b by omega)]
    exact World.cell?_setCell_same' _ _ _ h0
  · rw [World.cell?_setCell_far _ _ _ _ (show b + 1 + 1 ≠ b + 1 by omega)]
    exact World.cell?_setCell_same' _ _ _ (by rw [World.cell?_setCell_far _ _ _ _ (show b ≠ b + 1 by omega)]; exact h1)
  · exact World.cell?_setCell_same' _ _ _ (by rw [World.cell?_setCell_far _ _ _ _ (show b + 1 ≠ b + 1 + 1 by omega), World.cell?_setCell_far _ _ _ _ (show b ≠ b + 1 + 1 by omega)]; exact h2)
  · exact (((Below.refl b w).setCell (p := ⟨b, 0, none⟩) (Nat.le_refl _) _).setCell (p := ⟨b + 1, 0, none⟩) (by simp) _).setCell (p := ⟨b + 1 + 1, 0, none⟩) (by simp; omega) _

set_option maxRecDepth 100000 in
set_option maxHeartbeats 1000000 in
theorem convert_plain (fid : FuncId) (l : List UInt8) (w : World) (hl : l.length ≤ 140737488355328) (hp : plainB l = true) :
    Calls Tryd.prog 16 #[str l, .func (.func fid) #[] #[]] w (ConvPost (.ok l) w) := by
  have hmf : ∀ (fn : Fn) (first cap : Array Value) (w : World), (Instr.makeFunc fn first cap).run Tryd.prog w = .ok (.func fn first cap) w := fun _ _ _ _ => rfl
  obtain ⟨hz, hb3, h0, h1, h2⟩ := three_cells w
  have hpl := isPlain_c l (three w) hl
  rw [hp] at hpl
  have Hp := Lib.hid hpl
  have Hc := Lib.hid (sclone_c ⟨l.toArray⟩ (three w) (by rw [size_str]; omega))
  have Hb3 := Lib.hid hb3
  have H0 := Lib.hid h0
  have H1 := Lib.hid h1
  have H2 := Lib.hid h2
  have Hz := Lib.hid hz
  clear hpl hp hb3 h0 h1 h2 hz
  go_enter_defers Tryd.func16, Tryd.ntmps16
  go_wp2_with fail
  refine Hp.out.mono ?_
  rintro e w1 ⟨rfl, rfl⟩
  go_wp2_with fail
  refine Hc.out.mono ?_
  rintro e w4 ⟨rfl, hb4⟩
  have g0 : w4.cell? ⟨w.heap.size, 0, none⟩ = some (.string ⟨#[]⟩) := by rw [cell_at ((hb4.block _ (lt_at H0.out)).trans H0.out)]; rfl
  have g1 : w4.cell? ⟨w.heap.size + 1, 0, none⟩ = some (.int .i64 0) := by rw [cell_at ((hb4.block _ (lt_at H1.out)).trans H1.out)]; rfl
  have g2 : w4.cell? ⟨w.heap.size + 2, 0, none⟩ = some (.int .i64 0) := by rw [cell_at ((hb4.block _ (lt_at H2.out)).trans H2.out)]; rfl
  have f0 : w4.frozen? ⟨w.heap.size, 0, none⟩ = false := Lib.frozen_of_heap ((hb4.block _ (lt_at H0.out)).trans H0.out) 0
  have f1 : w4.frozen? ⟨w.heap.size + 1, 0, none⟩ = false := Lib.frozen_of_heap ((hb4.block _ (lt_at H1.out)).trans H1.out) 0
  have f2 : w4.frozen? ⟨w.heap.size + 2, 0, none⟩ = false := Lib.frozen_of_heap ((hb4.block _ (lt_at H2.out)).trans H2.out) 0
  have Hb4 := Lib.hid (Hb3.out.trans (hb4.mono (by rw [Hz.out]; omega)))
  clear hb4
  go_wp2_with fail
  obtain ⟨b, hbb⟩ : ∃ b, w.heap.size = b := ⟨_, rfl⟩
  have hlt4 : b + 2 < w4.heap.size := by rw [← hbb]; exact lt_of_cell g2
  rw [hbb] at g0 g1 g2 f0 f1 f2 ⊢
  obtain ⟨k0, k1, k2, kb⟩ := set3 w4 b (str l) (.int .i64 0) (.int .i64 0) (by rw [g0]; rfl) (by rw [g1]; rfl) (by rw [g2]; rfl)
  obtain ⟨W5, hW5⟩ : ∃ W5, ((w4.setCell ⟨b, 0, none⟩ (str l)).setCell ⟨b + 1, 0, none⟩ (.int .i64 0)).setCell ⟨b + 1 + 1, 0, none⟩ (.int .i64 0) = W5 := ⟨_, rfl⟩
  rw [hW5] at k0 k1 k2 kb ⊢
  have hs5 : W5.heap.size = w4.heap.size := by rw [← hW5]; simp [World.setCell]
  refine leaves_cons (f := 21) (args := #[.pointer (some ⟨b, 0, none⟩), .pointer (some ⟨b + 1, 0, none⟩), .pointer (some ⟨b + 1 + 1, 0, none⟩)]) (by simp) (by simp [go_sem]) ?_
  refine (closure_idle b W5).mono ?_
  rintro e u' w'' ⟨rfl, rfl, rfl⟩
  have j0 : (W5.alloc (.cells #[.int .i64 0, .int .i64 0] 43)).cell? ⟨b, 0, none⟩ = some (str l) := (cell_alloc _ _ _ (show b < W5.heap.size by omega)).trans k0
  have j1 : (W5.alloc (.cells #[.int .i64 0, .int .i64 0] 43)).cell? ⟨b + 1, 0, none⟩ = some (.int .i64 0) := (cell_alloc _ _ _ (show b + 1 < W5.heap.size by omega)).trans k1
  have j2 : (W5.alloc (.cells #[.int .i64 0, .int .i64 0] 43)).cell? ⟨b + 1 + 1, 0, none⟩ = some (.int .i64 0) := (cell_alloc _ _ _ (show b + 1 + 1 < W5.heap.size by omega)).trans k2
  have hfin : Below w.heap.size w (W5.alloc (.cells #[.int .i64 0, .int .i64 0] 43)) := by
    have := Hb4.out.trans (show Below w.heap.size w4 W5 by rw [hbb]; exact kb)
    exact this.alloc (by rw [hbb]; omega) _
  have Hfin := Lib.hid hfin
  clear hfin
  simp [Leaves, settle, results, Tryd.results16, go_sem, j0, j1, j2]
  exact ⟨rfl, Hfin.out⟩
set_option maxRecDepth 100000 in
set_option maxHeartbeats 1000000 in
theorem convert_ok (fid : FuncId) (he : ∀ args w, (callFunc fid args).run Tryd.prog w = .ok (.enter fid args) w) (l o : List UInt8) (w : World) (hl : l.length ≤ 1099511627776) (hp : plainB l = false) (hf : Calls Tryd.prog fid #[str l] (three w) (DecPost (.ok o) (three w))) :
    Calls Tryd.prog 16 #[str l, .func (.func fid) #[] #[]] w (ConvPost (.ok o) w) := by
  have hmf : ∀ (fn : Fn) (first cap : Array Value) (w : World), (Instr.makeFunc fn first cap).run Tryd.prog w = .ok (.func fn first cap) w := fun _ _ _ _ => rfl
  obtain ⟨hz, hb3, h0, h1, h2⟩ := three_cells w
  have hpl := isPlain_c l (three w) (by omega)
  rw [hp] at hpl
  have Hp := Lib.hid hpl
  have Hc := Lib.hid hf
  have Hb3 := Lib.hid hb3
  have H0 := Lib.hid h0
  have H1 := Lib.hid h1
  have H2 := Lib.hid h2
  have Hz := Lib.hid hz
  clear hpl hp hf hb3 h0 h1 h2 hz
  go_enter_defers Tryd.func16, Tryd.ntmps16
  go_wp2_with fail
  refine Hp.out.mono ?_
  rintro e w1 ⟨rfl, rfl⟩
  go_wp2_with fail
  refine Hc.out.mono ?_
  rintro e w4 ⟨rfl, hb4⟩
  have g0 : w4.cell? ⟨w.heap.size, 0, none⟩ = some (.string ⟨#[]⟩) := by rw [cell_at ((hb4.block _ (lt_at H0.out)).trans H0.out)]; rfl
  have g1 : w4.cell? ⟨w.heap.size + 1, 0, none⟩ = some (.int .i64 0) := by rw [cell_at ((hb4.block _ (lt_at H1.out)).trans H1.out)]; rfl
  have g2 : w4.cell? ⟨w.heap.size + 2, 0, none⟩ = some (.int .i64 0) := by rw [cell_at ((hb4.block _ (lt_at H2.out)).trans H2.out)]; rfl
  have f0 : w4.frozen? ⟨w.heap.size, 0, none⟩ = false := Lib.frozen_of_heap ((hb4.block _ (lt_at H0.out)).trans H0.out) 0
  have f1 : w4.frozen? ⟨w.heap.size + 1, 0, none⟩ = false := Lib.frozen_of_heap ((hb4.block _ (lt_at H1.out)).trans H1.out) 0
  have f2 : w4.frozen? ⟨w.heap.size + 2, 0, none⟩ = false := Lib.frozen_of_heap ((hb4.block _ (lt_at H2.out)).trans H2.out) 0
  have Hb4 := Lib.hid (Hb3.out.trans (hb4.mono (by rw [Hz.out]; omega)))
  clear hb4
  go_wp2_with fail
  obtain ⟨b, hbb⟩ : ∃ b, w.heap.size = b := ⟨_, rfl⟩
  have hlt4 : b + 2 < w4.heap.size := by rw [← hbb]; exact lt_of_cell g2
  rw [hbb] at g0 g1 g2 f0 f1 f2 ⊢
  obtain ⟨k0, k1, k2, kb⟩ := set3 w4 b (str o) (.int .i64 0) (.int .i64 0) (by rw [g0]; rfl) (by rw [g1]; rfl) (by rw [g2]; rfl)
  obtain ⟨W5, hW5⟩ : ∃ W5, ((w4.setCell ⟨b, 0, none⟩ (str o)).setCell ⟨b + 1, 0, none⟩ (.int .i64 0)).setCell ⟨b + 1 + 1, 0, none⟩ (.int .i64 0) = W5 := ⟨_, rfl⟩
  rw [hW5] at k0 k1 k2 kb ⊢
  have hs5 : W5.heap.size = w4.heap.size := by rw [← hW5]; simp [World.setCell]
  refine leaves_cons (f := 21) (args := #[.pointer (some ⟨b, 0, none⟩), .pointer (some ⟨b + 1, 0, none⟩), .pointer (some ⟨b + 1 + 1, 0, none⟩)]) (by simp) (by simp [go_sem]) ?_
  refine (closure_idle b W5).mono ?_
  rintro e u' w'' ⟨rfl, rfl, rfl⟩
  have j0 : (W5.alloc (.cells #[.int .i64 0, .int .i64 0] 43)).cell? ⟨b, 0, none⟩ = some (str o) := (cell_alloc _ _ _ (show b < W5.heap.size by omega)).trans k0
  have j1 : (W5.alloc (.cells #[.int .i64 0, .int .i64 0] 43)).cell? ⟨b + 1, 0, none⟩ = some (.int .i64 0) := (cell_alloc _ _ _ (show b + 1 < W5.heap.size by omega)).trans k1
  have j2 : (W5.alloc (.cells #[.int .i64 0, .int .i64 0] 43)).cell? ⟨b + 1 + 1, 0, none⟩ = some (.int .i64 0) := (cell_alloc _ _ _ (show b + 1 + 1 < W5.heap.size by omega)).trans k2
  have hfin : Below w.heap.size w (W5.alloc (.cells #[.int .i64 0, .int .i64 0] 43)) := by
    have := Hb4.out.trans (show Below w.heap.size w4 W5 by rw [hbb]; exact kb)
    exact this.alloc (by rw [hbb]; omega) _
  have Hfin := Lib.hid hfin
  clear hfin
  simp [Leaves, settle, results, Tryd.results16, go_sem, j0, j1, j2]
  exact ⟨rfl, Hfin.out⟩
set_option maxRecDepth 100000 in
set_option maxHeartbeats 1000000 in
theorem convert_bad (fid : FuncId) (he : ∀ args w, (callFunc fid args).run Tryd.prog w = .ok (.enter fid args) w) (l : List UInt8) (a k : Nat) (w : World) (hl : l.length ≤ 1099511627776) (hp : plainB l = false) (hf : Calls Tryd.prog fid #[str l] (three w) (DecPost (.bad a k) (three w))) :
    Calls Tryd.prog 16 #[str l, .func (.func fid) #[] #[]] w (ConvPost (.bad a k) w) := by
  have hmf : ∀ (fn : Fn) (first cap : Array Value) (w : World), (Instr.makeFunc fn first cap).run Tryd.prog w = .ok (.func fn first cap) w := fun _ _ _ _ => rfl
  obtain ⟨hz, hb3, h0, h1, h2⟩ := three_cells w
  have hpl := isPlain_c l (three w) (by omega)
  rw [hp] at hpl
  have Hp := Lib.hid hpl
  have Hc := Lib.hid hf
  have Hb3 := Lib.hid hb3
  have H0 := Lib.hid h0
  have H1 := Lib.hid h1
  have H2 := Lib.hid h2
  have Hz := Lib.hid hz
  clear hpl hp hf hb3 h0 h1 h2 hz
  go_enter_defers Tryd.func16, Tryd.ntmps16
  go_wp2_with fail
  refine Hp.out.mono ?_
  rintro e w1 ⟨rfl, rfl⟩
  go_wp2_with fail
  refine Hc.out.mono ?_
  rintro e w4 ⟨rfl, hb4⟩
  have g0 : w4.cell? ⟨w.heap.size, 0, none⟩ = some (.string ⟨#[]⟩) := by rw [cell_at ((hb4.block _ (lt_at H0.out)).trans H0.out)]; rfl
  have g1 : w4.cell? ⟨w.heap.size + 1, 0, none⟩ = some (.int .i64 0) := by rw [cell_at ((hb4.block _ (lt_at H1.out)).trans H1.out)]; rfl
  have g2 : w4.cell? ⟨w.heap.size + 2, 0, none⟩ = some (.int .i64 0) := by rw [cell_at ((hb4.block _ (lt_at H2.out)).trans H2.out)]; rfl
  have f0 : w4.frozen? ⟨w.heap.size, 0, none⟩ = false := Lib.frozen_of_heap ((hb4.block _ (lt_at H0.out)).trans H0.out) 0
  have f1 : w4.frozen? ⟨w.heap.size + 1, 0, none⟩ = false := Lib.frozen_of_heap ((hb4.block _ (lt_at H1.out)).trans H1.out) 0
  have f2 : w4.frozen? ⟨w.heap.size + 2, 0, none⟩ = false := Lib.frozen_of_heap ((hb4.block _ (lt_at H2.out)).trans H2.out) 0
  have Hb4 := Lib.hid (Hb3.out.trans (hb4.mono (by rw [Hz.out]; omega)))
  clear hb4
  go_wp2_with fail
  obtain ⟨b, hbb⟩ : ∃ b, w.heap.size = b := ⟨_, rfl⟩
  have hlt4 : b + 2 < w4.heap.size := by rw [← hbb]; exact lt_of_cell g2
  rw [hbb] at g0 g1 g2 f0 f1 f2 ⊢
  refine leaves_cons (f := 21) (args := #[.pointer (some ⟨b, 0, none⟩), .pointer (some ⟨b + 1, 0, none⟩), .pointer (some ⟨b + 1 + 1, 0, none⟩)]) (by simp) (by simp [go_sem]) ?_
  refine (closure_caught b a k [] w4 _ _ _ g0 g1 g2 f0 f1 f2 rfl rfl rfl).mono ?_
  rintro e u' w5 ⟨rfl, rfl, hC⟩
  have j0 := hC.c0
  have j1 := hC.c1
  have j2 : w5.cell? ⟨b + 1 + 1, 0, none⟩ = some (.int .i64 k) := hC.c2
  have hfin : Below w.heap.size w w5 := Hb4.out.trans (by rw [hbb]; exact hC.below)
  have Hfin := Lib.hid hfin
  clear hfin hC
  simp [Leaves, settle, results, Tryd.results16, go_sem, j0, j1, j2]
  exact ⟨rfl, Hfin.out⟩
end Go.Proofs.YtjndekmpnihamaaDoor
