/-
  The reference's char.
-/
import Derived.Test.YtjndekmpnihamaaDoorMBack
import Derived.Test.YtjndekmpnihamaaDoorWMarc8Marks
namespace Go.Proofs.YtjndekmpnihamaaDoor
open Go.RowKit Go.Shelf
set_option linter.unusedVariables false
set_option linter.unusedSimpArgs false

theorem run_char (W : World) (g cap : Nat) (c : Int) (h : W.cell? ⟨g, 0, none⟩ = some (.int .i32 c)) :
    (convert 33 9 (.slice (some ⟨g, 0, none⟩) 1 cap)).run Tryd.prog W = .ok (.string (runesBytes [c])) W := by
  have := run_convert_runes W 33 9 21 ⟨g, 0, none⟩ 1 cap [c] (by simp) Tryd.underlying33 Tryd.underlying21 Tryd.underlying9 (fun i hi => by
    obtain rfl : i = 0 := by simp at hi; exact hi
    rw [add_off]; simpa using h)
  rw [this]; rfl
set_option maxRecDepth 100000 in
theorem char_c (c : Int) (h0 : 0 ≤ c) (h1 : c ≤ 1114111) (w : World) :
    Calls Tryd.prog 20 #[.int .i64 c] w fun e w' => e = .returned (.string (runesBytes [c])) ∧ Below w.heap.size w w' := by
  obtain ⟨W3, hW3⟩ : ∃ W3, w.alloc (.cells #[.int .i32 c] 21) = W3 := ⟨_, rfl⟩
  have hb3 : Below w.heap.size w W3 := by rw [← hW3]; exact below_new w _
  have hc := run_char W3 w.heap.size 1 c (by
    have h1 : W3.heap[w.heap.size]? = some (.cells #[.int .i32 c] 21) := by rw [← hW3]; exact World.alloc_heap_new _ _
    rw [cell_at h1]; rfl)
  have Hb3 := Lib.hid hb3
  clear hb3
  go_enter Tryd.func20, Tryd.ntmps20
  go_wp2
  go_ret
  exact ⟨rfl, Hb3.out⟩
end Go.Proofs.YtjndekmpnihamaaDoor
