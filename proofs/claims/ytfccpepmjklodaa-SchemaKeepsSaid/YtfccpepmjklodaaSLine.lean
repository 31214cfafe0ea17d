/-
  The reference's standard rules: line.
-/
import Derived.Test.YtfccpepmjklodaaSStd
namespace Go.Proofs.Ytfccpepmjklodaa
open Go.RowKit Go.Shelf
set_option linter.unusedVariables false
set_option linter.unusedSimpArgs false

def LinePost (w : World) (t : List UInt8) (h0 h1 : UInt8) (i0 i1 c s : List UInt8) (e : Ending) (w' : World) : Prop :=
  e = .returned (.agg #[str t, .bool ((h0.toNat : Int) == 121), .bool ((h1.toNat : Int) == 121), str i0, str i1, str c, str s]) ∧ Below w.heap.size w w'
set_option maxHeartbeats 4000000 in
theorem line_c (t : List UInt8) (h0 h1 : UInt8) (i0 i1 c s : List UInt8) (w : World) : Calls Try.prog 24 #[str t, str [h0, h1], str i0, str i1, str c, str s] w (LinePost w t h0 h1 i0 i1 c s) := by
  unfold LinePost
  have hb := below_new w (.cells #[str t, .bool ((h0.toNat : Int) == 121), .bool ((h1.toNat : Int) == 121), str i0, str i1, str c, str s] 27)
  have hn : ((w.alloc (.cells #[str t, .bool ((h0.toNat : Int) == 121), .bool ((h1.toNat : Int) == 121), str i0, str i1, str c, str s] 27)).drew).heap[w.heap.size]? = some (.cells #[str t, .bool ((h0.toNat : Int) == 121), .bool ((h1.toNat : Int) == 121), str i0, str i1, str c, str s] 27 (0, 0)) := new_at w _
  have q0 : ((w.alloc (.cells #[str t, .bool ((h0.toNat : Int) == 121), .bool ((h1.toNat : Int) == 121), str i0, str i1, str c, str s] 27)).drew).cell? ⟨w.heap.size, 0, none⟩ = some (str t) := by rw [cell_at hn]; rfl
  have q1 : ((w.alloc (.cells #[str t, .bool ((h0.toNat : Int) == 121), .bool ((h1.toNat : Int) == 121), str i0, str i1, str c, str s] 27)).drew).cell? ⟨w.heap.size, 1, none⟩ = some (.bool ((h0.toNat : Int) == 121)) := by rw [cell_at hn]; rfl
  have q2 : ((w.alloc (.cells #[str t, .bool ((h0.toNat : Int) == 121), .bool ((h1.toNat : Int) == 121), str i0, str i1, str c, str s] 27)).drew).cell? ⟨w.heap.size, 2, none⟩ = some (.bool ((h1.toNat : Int) == 121)) := by rw [cell_at hn]; rfl
  have q3 : ((w.alloc (.cells #[str t, .bool ((h0.toNat : Int) == 121), .bool ((h1.toNat : Int) == 121), str i0, str i1, str c, str s] 27)).drew).cell? ⟨w.heap.size, 3, none⟩ = some (str i0) := by rw [cell_at hn]; rfl
  have q4 : ((w.alloc (.cells #[str t, .bool ((h0.toNat : Int) == 121), .bool ((h1.toNat : Int) == 121), str i0, str i1, str c, str s] 27)).drew).cell? ⟨w.heap.size, 4, none⟩ = some (str i1) := by rw [cell_at hn]; rfl
  have q5 : ((w.alloc (.cells #[str t, .bool ((h0.toNat : Int) == 121), .bool ((h1.toNat : Int) == 121), str i0, str i1, str c, str s] 27)).drew).cell? ⟨w.heap.size, 5, none⟩ = some (str c) := by rw [cell_at hn]; rfl
  have q6 : ((w.alloc (.cells #[str t, .bool ((h0.toNat : Int) == 121), .bool ((h1.toNat : Int) == 121), str i0, str i1, str c, str s] 27)).drew).cell? ⟨w.heap.size, 6, none⟩ = some (str s) := by rw [cell_at hn]; rfl
  have HB := Lib.hid hb.drew
  have HQ := Lib.hid (And.intro q0 (And.intro q1 (And.intro q2 (And.intro q3 (And.intro q4 (And.intro q5 q6))))))
  clear hb hn q0 q1 q2 q3 q4 q5 q6
  go_enter Try.func24, Try.ntmps24
  go_wp2
  go_region
  go_wp2
  obtain ⟨q0, q1, q2, q3, q4, q5, q6⟩ := HQ.out
  refine bodyPost_ret (v := .agg #[str t, .bool ((h0.toNat : Int) == 121), .bool ((h1.toNat : Int) == 121), str i0, str i1, str c, str s]) ?_ rfl ⟨rfl, HB.out⟩
  simp [results, Try.results24, go_sem]
  exact ⟨rfl, rfl⟩
set_option maxRecDepth 100000 in
set_option maxHeartbeats 8000000 in
theorem refStandard_c (w : World) : Calls Try.prog 13 #[] w (fun e w' => ∃ b, e = .returned (.slice (some ⟨b, 0, none⟩) 24 24) ∧ w.heap.size ≤ b ∧ w'.heap[b]? = some (.cells stdArr 27 (0, 0)) ∧ Below w.heap.size w w') := by
  have HB := Lib.hid (Below.refl w.heap.size w)
  go_enter Try.func13, Try.ntmps13
  go_wp2_with (go_at_call 24; refine (line_c _ _ _ _ _ _ _ _).mono ?_; rintro e W ⟨rfl, hb⟩; replace HB := Lib.hid (below_tr HB.out hb); clear hb)
  rename_i W K hK
  refine wp_buildTo 23 27 24 _ rfl (some 28) rfl Try.underlying23 stdArr (by kernel_rfl) ?_
  refine hK _ _ ?_
  have HC := Lib.hid (And.intro HB.out.size (And.intro (new_at W (.cells stdArr 27)) (below_tr HB.out (below_new W (.cells stdArr 27)))))
  obtain ⟨W2, hW2⟩ : ∃ W2, W.alloc (.cells stdArr 27) = W2 := ⟨_, rfl⟩
  rw [hW2] at HC ⊢
  clear hW2 hK
  go_wp2
  go_ret
  exact ⟨_, rfl, HC.out.1, HC.out.2.1, HC.out.2.2⟩
end Go.Proofs.Ytfccpepmjklodaa
