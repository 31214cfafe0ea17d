/-
  The law's data.
-/
import Derived.Test.YtfccpepmjklodaaSSame
namespace Go.Proofs.Ytfccpepmjklodaa
open Go.RowKit Go.Shelf
set_option linter.unusedVariables false
set_option linter.unusedSimpArgs false

def DataPost (w : World) (t i : List UInt8) (c : UInt8) (x : List UInt8) (e : Ending) (w' : World) : Prop :=
  e = .returned (.agg #[str t, str i, .string ⟨#[]⟩, .slice (some ⟨w.heap.size + 1, 0, none⟩) 1 1]) ∧ w'.heap[w.heap.size + 1]? = some (.cells #[.int .u8 (c.toNat : Int), str x] 48 (0, 0)) ∧ Below w.heap.size w w' ∧ w'.heap.size = w.heap.size + 2
theorem DataPost.fld {w w' : World} {c : UInt8} {x : List UInt8} (h : w'.heap[w.heap.size + 1]? = some (.cells #[.int .u8 (c.toNat : Int), str x] 48 (0, 0))) :
    SubsAt w' (.slice (some ⟨w.heap.size + 1, 0, none⟩) 1 1) [⟨c, x⟩] := by
  refine .inr ⟨_, 0, 1, rfl, by show 1 ≤ maxLen; decide, lt_at h, fun i hi => ?_⟩
  obtain rfl : i = 0 := by simp at hi; exact hi
  simp only [cell_at h]
  exact ⟨rfl, rfl⟩
set_option maxHeartbeats 4000000 in
theorem data_c (t i : List UInt8) (c : UInt8) (x : List UInt8) (w : World) : Calls Try.prog 23 #[str t, str i, .int .u8 (c.toNat : Int), str x] w (DataPost w t i c x) := by
  unfold DataPost
  obtain ⟨W1, hW1⟩ : ∃ W1, w.alloc (.cells #[str t, str i, .string ⟨#[]⟩, .slice (some ⟨w.heap.size + 1, 0, none⟩) 1 1] 46) = W1 := ⟨_, rfl⟩
  have hs1 : W1.heap.size = w.heap.size + 1 := by rw [← hW1]; simp
  have hb1 : Below w.heap.size w W1 := by rw [← hW1]; exact below_new _ _
  have hn1 : W1.heap[w.heap.size]? = some (.cells #[str t, str i, .string ⟨#[]⟩, .slice (some ⟨w.heap.size + 1, 0, none⟩) 1 1] 46 (0, 0)) := by rw [← hW1]; exact new_at _ _
  obtain ⟨W2, hW2⟩ : ∃ W2, W1.alloc (.cells #[.int .u8 (c.toNat : Int), str x] 48) = W2 := ⟨_, rfl⟩
  have hb2 : Below W1.heap.size W1 W2 := by rw [← hW2]; exact below_new _ _
  have hs2 : W2.heap.size = w.heap.size + 2 := by rw [← hW2, World.size_alloc, hs1]
  have hn2 : W2.heap[w.heap.size + 1]? = some (.cells #[.int .u8 (c.toNat : Int), str x] 48 (0, 0)) := by rw [← hW2, ← hs1]; exact new_at _ _
  have hn1 := heap_below hb2 (by omega) hn1
  have q0 : W2.cell? ⟨w.heap.size, 0, none⟩ = some (str t) := by rw [cell_at hn1]; rfl
  have q1 : W2.cell? ⟨w.heap.size, 1, none⟩ = some (str i) := by rw [cell_at hn1]; rfl
  have q2 : W2.cell? ⟨w.heap.size, 2, none⟩ = some (.string ⟨#[]⟩) := by rw [cell_at hn1]; rfl
  have q3 : W2.cell? ⟨w.heap.size, 3, none⟩ = some (.slice (some ⟨w.heap.size + 1, 0, none⟩) 1 1) := by rw [cell_at hn1]; rfl
  have HR := Lib.hid (And.intro hn2 (And.intro (below_tr hb1 hb2) hs2))
  clear hs1 hb1 hn1 hb2 hs2 hn2
  go_enter Try.func23, Try.ntmps23
  go_wp2
  refine bodyPost_ret (v := .agg #[str t, str i, .string ⟨#[]⟩, .slice (some ⟨w.heap.size + 1, 0, none⟩) 1 1]) ?_ rfl ⟨rfl, HR.out.1, HR.out.2.1, HR.out.2.2⟩
  simp [results, Try.results23, go_sem, q0, q1, q2, q3]
end Go.Proofs.Ytfccpepmjklodaa
