/-
  The walk of SchemaRaw.
-/
import Derived.Test.YtfccpepmjklodaaSRawM
import Derived.ChangeKeysEq
namespace Go.Proofs.Ytfccpepmjklodaa
open Go.RowKit Go.Shelf
set_option linter.unusedVariables false
set_option linter.unusedSimpArgs false

set_option maxRecDepth 100000 in
set_option maxHeartbeats 20000000 in
theorem walk_SchemaRaw (a0 a1 a2 a3 a4 b0 b1 b2 b3 c0 c1 c2 c3 : List UInt8) (ha0 : a0.length ≤ 140737488351232) (ha1 : a1.length ≤ 140737488351232) (ha2 : a2.length ≤ 140737488351232) (ha3 : a3.length ≤ 140737488351232) (ha4 : a4.length ≤ 140737488351232) (hb0 : b0.length ≤ 140737488351232) (hb1 : b1.length ≤ 140737488351232) (hb2 : b2.length ≤ 140737488351232) (hb3 : b3.length ≤ 140737488351232) (hc0 : c0.length ≤ 140737488351232) (hc1 : c1.length ≤ 140737488351232) (hc2 : c2.length ≤ 140737488351232) (hc3 : c3.length ≤ 140737488351232) (w : World) :
    Calls Try.prog 6 #[.agg #[str a0, str a1, str a2, str a3, str a4], .agg #[str b0, str b1, str b2, str b3], .agg #[str c0, str c1, str c2, str c3]] w (fun e w' => e = .returned (.bool true) ∧ Below w.heap.size w w') := by
  obtain ⟨r, hr⟩ : ∃ r : RuleM, r = ⟨a0, true, true, a1, a2, a3, a4⟩ := ⟨_, rfl⟩
  have Hsh := Lib.hid (show RShort r by rw [hr]; refine ⟨?_, ?_, ?_, ?_, ?_⟩ <;> dsimp only <;> omega)
  have Hr := Lib.hid hr
  clear hr
  obtain ⟨W1, hW1⟩ : ∃ W1, w.alloc (.cells #[str a0, str a1, str a2, str a3, str a4] 42) = W1 := ⟨_, rfl⟩
  have hs1 : W1.heap.size = w.heap.size + 1 := by rw [← hW1]; simp
  have hb1 : Below w.heap.size w W1 := by rw [← hW1]; exact below_new _ _
  have hn1 : W1.heap[w.heap.size]? = some (.cells #[str a0, str a1, str a2, str a3, str a4] 42 (0, 0)) := by rw [← hW1]; exact new_at _ _
  obtain ⟨W2, hW2⟩ : ∃ W2, W1.alloc (.cells #[str b0, str b1, str b2, str b3] 43) = W2 := ⟨_, rfl⟩
  have hs2 : W2.heap.size = w.heap.size + 1 + 1 := by rw [← hW2, World.size_alloc, hs1]
  have hb2 : Below W1.heap.size W1 W2 := by rw [← hW2]; exact below_new _ _
  have hn2 : W2.heap[w.heap.size + 1]? = some (.cells #[str b0, str b1, str b2, str b3] 43 (0, 0)) := by rw [← hW2, ← hs1]; exact new_at _ _
  obtain ⟨W3, hW3⟩ : ∃ W3, W2.alloc (.cells #[str c0, str c1, str c2, str c3] 43) = W3 := ⟨_, rfl⟩
  have hb3 : Below W2.heap.size W2 W3 := by rw [← hW3]; exact below_new _ _
  have hn3 : W3.heap[w.heap.size + 1 + 1]? = some (.cells #[str c0, str c1, str c2, str c3] 43 (0, 0)) := by rw [← hW3, ← hs2]; exact new_at _ _
  have Hw := Lib.hid (And.intro (below_tr (below_tr hb1 hb2) hb3) (And.intro (heap_below hb3 (Nat.le_refl _) (heap_below hb2 (Nat.le_refl _) hn1)) (And.intro (heap_below hb3 (Nat.le_refl _) hn2) hn3)))
  have HS := Lib.hid (sanity_c W3)
  clear hb1 hb2 hb3 hn1 hn2 hn3
  go_enter Try.func6, Try.ntmps6
  go_wp2_with fail
  refine HS.out.mono ?_
  rintro e w4 ⟨rfl, hb4⟩
  obtain ⟨g0, g1, g2, g3⟩ := Hw.out
  have g1 := heap_below hb4 (Nat.le_refl _) g1
  have g2 := heap_below hb4 (Nat.le_refl _) g2
  have g3 := heap_below hb4 (Nat.le_refl _) g3
  have g0 := below_tr g0 hb4
  have q0 : w4.cell? ⟨w.heap.size, 0, none⟩ = some (str a0) := by rw [cell_at g1]; rfl
  have q1 : w4.cell? ⟨w.heap.size, 1, none⟩ = some (str a1) := by rw [cell_at g1]; rfl
  have q2 : w4.cell? ⟨w.heap.size, 2, none⟩ = some (str a2) := by rw [cell_at g1]; rfl
  have q3 : w4.cell? ⟨w.heap.size, 3, none⟩ = some (str a3) := by rw [cell_at g1]; rfl
  have q4 : w4.cell? ⟨w.heap.size, 4, none⟩ = some (str a4) := by rw [cell_at g1]; rfl
  obtain ⟨w5, hw5⟩ : ∃ x, w4.alloc (.cells #[str a0, .bool true, .bool true, str a1, str a2, str a3, str a4] 27) = x := ⟨_, rfl⟩
  have hb5 : Below w4.heap.size w4 w5 := by rw [← hw5]; exact below_new _ _
  have hn5 : w5.heap[w4.heap.size]? = some (.cells ⟨ruleL r⟩ 27 (0, 0)) := by rw [← hw5, Hr.out]; exact new_at _ _
  have hA : RawA w w5 w4.heap.size r a0 a1 a2 a3 a4 b0 b1 b2 b3 c0 c1 c2 c3 := ⟨below_tr g0 hb5, heap_below hb5 (Nat.le_refl _) g1, heap_below hb5 (Nat.le_refl _) g2, heap_below hb5 (Nat.le_refl _) g3, hn5⟩
  obtain ⟨lb, hlb⟩ : ∃ k, w4.heap.size = k := ⟨_, rfl⟩
  rw [hlb] at hA hn5
  have HA := Lib.hid hA
  clear HS hb4 g0 g1 g2 g3 hb5 hn5 hA Hw hW1 hW2 hW3
  go_wp2_with fail
  clear hw5 q0 q1 q2 q3 q4 hs1 hs2
  go_cut [10] from 26 to 42 (fun s10 wx => RawR w lb r [⟨b0, b1, b2, rawSubs b3 20⟩, ⟨c0, c1, c2, rawSubs c3 20⟩, ⟨a0, c1, [], rawSubs b3 20⟩] s10 wx)
  case first =>
    obtain ⟨W0, hW0⟩ : ∃ x, w5.drew = x := ⟨_, rfl⟩
    have hS0 : RawA w W0 lb r a0 a1 a2 a3 a4 b0 b1 b2 b3 c0 c1 c2 c3 := by rw [← hW0]; exact HA.out.below (Below.refl _ _).drew
    refine wp_region_C 18 19 (fun w' => RawA w w' lb r a0 a1 a2 a3 a4 b0 b1 b2 b3 c0 c1 c2 c3) rfl rfl ?_
    rw [hW0]
    clear hW0 HA
    refine wpAnyC_takeD 0 26 (.func (.func 21) #[] #[]) rfl rfl rfl (by kernel_rfl) (by kernel_rfl) (by kernel_rfl) (by kernel_rfl) (fun _ _ _ h => h) (fun w9 hw9 => ?_) hS0 ?_
    · obtain ⟨z0, ⟨y0, y1, y2, y3⟩, x0, x1, x2, x3⟩ := hw9.cells
      simp only [List.getElem_toArray, List.getElem_cons_zero, List.getElem_cons_succ]
      go_simp
    simp only [Act.put, List.setIfInBounds_toArray, List.set_cons_zero, List.set_cons_succ]
    refine wpAnyC_takeD 1 27 (.agg #[str b0, str b1, str b2, str b3]) rfl rfl rfl (by kernel_rfl) (by kernel_rfl) (by kernel_rfl) (by kernel_rfl) (fun _ _ _ h => h) (fun w9 hw9 => ?_) hS0 ?_
    · obtain ⟨z0, ⟨y0, y1, y2, y3⟩, x0, x1, x2, x3⟩ := hw9.cells
      simp only [List.getElem_toArray, List.getElem_cons_zero, List.getElem_cons_succ]
      go_simp
    simp only [Act.put, List.setIfInBounds_toArray, List.set_cons_zero, List.set_cons_succ]
    refine wpAnyC_takeD 3 29 (.func (.func 21) #[] #[]) rfl rfl rfl (by kernel_rfl) (by kernel_rfl) (by kernel_rfl) (by kernel_rfl) (fun _ _ _ h => h) (fun w9 hw9 => ?_) hS0 ?_
    · obtain ⟨z0, ⟨y0, y1, y2, y3⟩, x0, x1, x2, x3⟩ := hw9.cells
      simp only [List.getElem_toArray, List.getElem_cons_zero, List.getElem_cons_succ]
      go_simp
    simp only [Act.put, List.setIfInBounds_toArray, List.set_cons_zero, List.set_cons_succ]
    refine wpAnyC_takeD 4 30 (.agg #[str c0, str c1, str c2, str c3]) rfl rfl rfl (by kernel_rfl) (by kernel_rfl) (by kernel_rfl) (by kernel_rfl) (fun _ _ _ h => h) (fun w9 hw9 => ?_) hS0 ?_
    · obtain ⟨z0, ⟨y0, y1, y2, y3⟩, x0, x1, x2, x3⟩ := hw9.cells
      simp only [List.getElem_toArray, List.getElem_cons_zero, List.getElem_cons_succ]
      go_simp
    simp only [Act.put, List.setIfInBounds_toArray, List.set_cons_zero, List.set_cons_succ]
    refine wpAnyC_takeD 6 32 (.func (.func 21) #[] #[]) rfl rfl rfl (by kernel_rfl) (by kernel_rfl) (by kernel_rfl) (by kernel_rfl) (fun _ _ _ h => h) (fun w9 hw9 => ?_) hS0 ?_
    · obtain ⟨z0, ⟨y0, y1, y2, y3⟩, x0, x1, x2, x3⟩ := hw9.cells
      simp only [List.getElem_toArray, List.getElem_cons_zero, List.getElem_cons_succ]
      go_simp
    simp only [Act.put, List.setIfInBounds_toArray, List.set_cons_zero, List.set_cons_succ]
    refine wpAnyC_takeD 7 33 (.pointer (some ⟨w.heap.size, 0, none⟩)) rfl rfl rfl (by kernel_rfl) (by kernel_rfl) (by kernel_rfl) (by kernel_rfl) (fun _ _ _ h => h) (fun w9 hw9 => ?_) hS0 ?_
    · obtain ⟨z0, ⟨y0, y1, y2, y3⟩, x0, x1, x2, x3⟩ := hw9.cells
      simp only [List.getElem_toArray, List.getElem_cons_zero, List.getElem_cons_succ]
      go_simp
    simp only [Act.put, List.setIfInBounds_toArray, List.set_cons_zero, List.set_cons_succ]
    refine wpAnyC_takeD 8 34 (str a0) rfl rfl rfl (by kernel_rfl) (by kernel_rfl) (by kernel_rfl) (by kernel_rfl) (fun _ _ _ h => h) (fun w9 hw9 => ?_) hS0 ?_
    · obtain ⟨z0, ⟨y0, y1, y2, y3⟩, x0, x1, x2, x3⟩ := hw9.cells
      simp only [List.getElem_toArray, List.getElem_cons_zero, List.getElem_cons_succ]
      go_simp
    simp only [Act.put, List.setIfInBounds_toArray, List.set_cons_zero, List.set_cons_succ]
    refine wpAnyC_takeD 9 35 (.pointer (some ⟨w.heap.size + 1 + 1, 1, none⟩)) rfl rfl rfl (by kernel_rfl) (by kernel_rfl) (by kernel_rfl) (by kernel_rfl) (fun _ _ _ h => h) (fun w9 hw9 => ?_) hS0 ?_
    · obtain ⟨z0, ⟨y0, y1, y2, y3⟩, x0, x1, x2, x3⟩ := hw9.cells
      simp only [List.getElem_toArray, List.getElem_cons_zero, List.getElem_cons_succ]
      go_simp
    simp only [Act.put, List.setIfInBounds_toArray, List.set_cons_zero, List.set_cons_succ]
    refine wpAnyC_takeD 10 36 (str c1) rfl rfl rfl (by kernel_rfl) (by kernel_rfl) (by kernel_rfl) (by kernel_rfl) (fun _ _ _ h => h) (fun w9 hw9 => ?_) hS0 ?_
    · obtain ⟨z0, ⟨y0, y1, y2, y3⟩, x0, x1, x2, x3⟩ := hw9.cells
      simp only [List.getElem_toArray, List.getElem_cons_zero, List.getElem_cons_succ]
      go_simp
    simp only [Act.put, List.setIfInBounds_toArray, List.set_cons_zero, List.set_cons_succ]
    refine wpAnyC_takeD 11 37 (.pointer (some ⟨w.heap.size + 1, 3, none⟩)) rfl rfl rfl (by kernel_rfl) (by kernel_rfl) (by kernel_rfl) (by kernel_rfl) (fun _ _ _ h => h) (fun w9 hw9 => ?_) hS0 ?_
    · obtain ⟨z0, ⟨y0, y1, y2, y3⟩, x0, x1, x2, x3⟩ := hw9.cells
      simp only [List.getElem_toArray, List.getElem_cons_zero, List.getElem_cons_succ]
      go_simp
    simp only [Act.put, List.setIfInBounds_toArray, List.set_cons_zero, List.set_cons_succ]
    refine wpAnyC_takeD 12 38 (str b3) rfl rfl rfl (by kernel_rfl) (by kernel_rfl) (by kernel_rfl) (by kernel_rfl) (fun _ _ _ h => h) (fun w9 hw9 => ?_) hS0 ?_
    · obtain ⟨z0, ⟨y0, y1, y2, y3⟩, x0, x1, x2, x3⟩ := hw9.cells
      simp only [List.getElem_toArray, List.getElem_cons_zero, List.getElem_cons_succ]
      go_simp
    simp only [Act.put, List.setIfInBounds_toArray, List.set_cons_zero, List.set_cons_succ]
    refine wpAnyC_takeD 13 39 (.agg #[str a0, str c1, .string ⟨#[]⟩, str b3]) rfl rfl rfl (by kernel_rfl) (by kernel_rfl) (by kernel_rfl) (by kernel_rfl) (fun _ _ _ h => h) (fun w9 hw9 => ?_) hS0 ?_
    · obtain ⟨z0, ⟨y0, y1, y2, y3⟩, x0, x1, x2, x3⟩ := hw9.cells
      simp only [List.getElem_toArray, List.getElem_cons_zero, List.getElem_cons_succ]
      go_simp
    simp only [Act.put, List.setIfInBounds_toArray, List.set_cons_zero, List.set_cons_succ]
    refine wpAnyC_two (i := 2) (j := 17) rfl rfl (by kernel_rfl) (fun K hK => ?_) (fun K hK => ?_)
    · skip
      rw [if_pos (by rfl)]
      go_wp2_with (go_at_call 21; refine (rawField_c b0 b1 b2 b3 (by omega) _).mono ?_; rintro e V1 ⟨s1, rfl, nV1, mV1⟩)
      have A1 := hS0.below mV1
      clear hS0
      refine hK _ _ (fun _ => A1) ?_
      clear hK mV1
      refine wpAnyC_two (i := 5) (j := 17) rfl rfl (by kernel_rfl) (fun K hK => ?_) (fun K hK => ?_)
      · skip
        rw [if_pos (by rfl)]
        go_wp2_with (go_at_call 21; refine (rawField_c c0 c1 c2 c3 (by omega) _).mono ?_; rintro e V2 ⟨s2, rfl, nV2, mV2⟩)
        have A2 := A1.below mV2
        have s1_2 := nV1.below mV2 (Nat.le_refl _)
        clear A1 nV1
        refine hK _ _ (fun _ => A2) ?_
        clear hK mV2
        refine wpAnyC_two (i := 14) (j := 17) rfl rfl (by kernel_rfl) (fun K hK => ?_) (fun K hK => ?_)
        · skip
          rw [if_pos (by rfl)]
          go_wp2_with (go_at_call 21; refine (rawField_c a0 c1 [] b3 (by omega) _).mono ?_; rintro e V3 ⟨s3, rfl, nV3, mV3⟩)
          have A3 := A2.below mV3
          have s1_3 := s1_2.below mV3 (Nat.le_refl _)
          have s2_3 := nV2.below mV3 (Nat.le_refl _)
          clear A2 s1_2 nV2
          refine hK _ _ (fun _ => A3) ?_
          clear hK mV3
          refine wpAnyC_two (i := 15) (j := 17) rfl rfl (by kernel_rfl) (fun K hK => ?_) (fun K hK => ?_)
          · skip
            rw [if_pos (by rfl)]
            go_wp2_with fail
            obtain ⟨V4, hV4⟩ : ∃ x, V3.alloc (.cells #[str b0, str b1, str b2, s1, str c0, str c1, str c2, s2, str a0, str c1, .string ⟨#[]⟩, s3] 46) = x := ⟨_, rfl⟩
            have mV4 : Below V3.heap.size V3 V4 := by rw [← hV4]; exact below_new _ _
            have nV4 : V4.heap[V3.heap.size]? = some (.cells #[str b0, str b1, str b2, s1, str c0, str c1, str c2, s2, str a0, str c1, .string ⟨#[]⟩, s3] 46 (0, 0)) := by rw [← hV4]; exact new_at _ _
            rw [hV4]
            have A4 := A3.below mV4
            have s1_4 := s1_3.below mV4 (Nat.le_refl _)
            have s2_4 := s2_3.below mV4 (Nat.le_refl _)
            have s3_4 := nV3.below mV4 (Nat.le_refl _)
            clear A3 s1_3 s2_3 nV3
            refine hK _ _ (fun _ => A4) ?_
            clear hK mV4 hV4
            refine wpAnyC_takeD 16 42 (.agg #[.int .u8 0, .int .u8 0, .slice (some ⟨V3.heap.size, 0, none⟩) 3 3]) rfl rfl rfl (by kernel_rfl) (by kernel_rfl) (by kernel_rfl) (by kernel_rfl) (fun _ _ _ h => h) (fun w9 hw9 => ?_) A4 ?_
            · obtain ⟨z0, ⟨y0, y1, y2, y3⟩, x0, x1, x2, x3⟩ := hw9.cells
              simp only [List.getElem_toArray, List.getElem_cons_zero, List.getElem_cons_succ]
              go_simp
            simp only [Act.put, List.setIfInBounds_toArray, List.set_cons_zero, List.set_cons_succ]
            refine wpAnyC_step (k := 17) rfl (by kernel_rfl) (fun K hK => ?_)
            rw [if_pos (by rfl)]
            go_wp2_with fail
            obtain ⟨V5, hV5⟩ : ∃ x, V4.alloc (.cells #[.int .u8 0, .int .u8 0, .slice none 0 0] 32) = x := ⟨_, rfl⟩
            have mV5 : Below V4.heap.size V4 V5 := by rw [← hV5]; exact below_new _ _
            have nV5 : V5.heap[V4.heap.size]? = some (.cells #[.int .u8 0, .int .u8 0, .slice none 0 0] 32 (0, 0)) := by rw [← hV5]; exact new_at _ _
            have lV5 : w.heap.size ≤ V4.heap.size := A4.bel.size
            rw [hV5]
            have A5 := A4.below mV5
            have s1_5 := s1_4.below mV5 (Nat.le_refl _)
            have s2_5 := s2_4.below mV5 (Nat.le_refl _)
            have s3_5 := s3_4.below mV5 (Nat.le_refl _)
            have f_5 := heap_below mV5 (Nat.le_refl _) nV4
            clear A4 s1_4 s2_4 s3_4 nV4
            refine hK _ _ (fun _ => A5) ?_
            clear hK mV5 hV5
            refine wpAnyC_step (k := 18) rfl (by kernel_rfl) (fun K hK => ?_)
            rw [if_pos (by rfl)]
            obtain ⟨⟨r0, f0⟩, ⟨r1, f1⟩, ⟨r2, f2⟩, -⟩ := rec_cells nV5 (.slice (some ⟨V3.heap.size, 0, none⟩) 3 3)
            go_wp2_with fail
            refine hK _ _ (fun h => absurd (of_decide_eq_true h) (by decide)) ?_
            clear hK
            refine wpAnyC_done (by kernel_rfl) ?_
            clear r0 f0 r1 f1 r2 f2
            have HE := Lib.hid (raw_end A5 lV5 nV5 f_5 s1_5 s2_5 s3_5)
            go_wp2
            go_meet
            case rel => exact HE.out
          · skip
            rw [if_pos (by rfl)]
            go_wp2_with fail
            obtain ⟨V6, hV6⟩ : ∃ x, V3.alloc (.cells #[.int .u8 0, .int .u8 0, .slice none 0 0] 32) = x := ⟨_, rfl⟩
            have mV6 : Below V3.heap.size V3 V6 := by rw [← hV6]; exact below_new _ _
            have nV6 : V6.heap[V3.heap.size]? = some (.cells #[.int .u8 0, .int .u8 0, .slice none 0 0] 32 (0, 0)) := by rw [← hV6]; exact new_at _ _
            have lV6 : w.heap.size ≤ V3.heap.size := A3.bel.size
            rw [hV6]
            have A6 := A3.below mV6
            have s1_6 := s1_3.below mV6 (Nat.le_refl _)
            have s2_6 := s2_3.below mV6 (Nat.le_refl _)
            have s3_6 := nV3.below mV6 (Nat.le_refl _)
            clear A3 s1_3 s2_3 nV3
            refine hK _ _ (fun _ => A6) ?_
            clear hK mV6 hV6
            refine wpAnyC_step (k := 15) rfl (by kernel_rfl) (fun K hK => ?_)
            rw [if_pos (by rfl)]
            go_wp2_with fail
            obtain ⟨V7, hV7⟩ : ∃ x, V6.alloc (.cells #[str b0, str b1, str b2, s1, str c0, str c1, str c2, s2, str a0, str c1, .string ⟨#[]⟩, s3] 46) = x := ⟨_, rfl⟩
            have mV7 : Below V6.heap.size V6 V7 := by rw [← hV7]; exact below_new _ _
            have nV7 : V7.heap[V6.heap.size]? = some (.cells #[str b0, str b1, str b2, s1, str c0, str c1, str c2, s2, str a0, str c1, .string ⟨#[]⟩, s3] 46 (0, 0)) := by rw [← hV7]; exact new_at _ _
            rw [hV7]
            have A7 := A6.below mV7
            have s1_7 := s1_6.below mV7 (Nat.le_refl _)
            have s2_7 := s2_6.below mV7 (Nat.le_refl _)
            have s3_7 := s3_6.below mV7 (Nat.le_refl _)
            have x_7 := heap_below mV7 (Nat.le_refl _) nV6
            clear A6 s1_6 s2_6 s3_6 nV6
            refine hK _ _ (fun _ => A7) ?_
            clear hK mV7 hV7
            refine wpAnyC_takeD 16 42 (.agg #[.int .u8 0, .int .u8 0, .slice (some ⟨V6.heap.size, 0, none⟩) 3 3]) rfl rfl rfl (by kernel_rfl) (by kernel_rfl) (by kernel_rfl) (by kernel_rfl) (fun _ _ _ h => h) (fun w9 hw9 => ?_) A7 ?_
            · obtain ⟨z0, ⟨y0, y1, y2, y3⟩, x0, x1, x2, x3⟩ := hw9.cells
              simp only [List.getElem_toArray, List.getElem_cons_zero, List.getElem_cons_succ]
              go_simp
            simp only [Act.put, List.setIfInBounds_toArray, List.set_cons_zero, List.set_cons_succ]
            refine wpAnyC_step (k := 18) rfl (by kernel_rfl) (fun K hK => ?_)
            rw [if_pos (by rfl)]
            obtain ⟨⟨r0, f0⟩, ⟨r1, f1⟩, ⟨r2, f2⟩, -⟩ := rec_cells x_7 (.slice (some ⟨V6.heap.size, 0, none⟩) 3 3)
            go_wp2_with fail
            refine hK _ _ (fun h => absurd (of_decide_eq_true h) (by decide)) ?_
            clear hK
            refine wpAnyC_done (by kernel_rfl) ?_
            clear r0 f0 r1 f1 r2 f2
            have HE := Lib.hid (raw_end A7 lV6 x_7 nV7 s1_7 s2_7 s3_7)
            go_wp2
            go_meet
            case rel => exact HE.out
        · skip
          rw [if_pos (by rfl)]
          go_wp2_with fail
          obtain ⟨V8, hV8⟩ : ∃ x, V2.alloc (.cells #[.int .u8 0, .int .u8 0, .slice none 0 0] 32) = x := ⟨_, rfl⟩
          have mV8 : Below V2.heap.size V2 V8 := by rw [← hV8]; exact below_new _ _
          have nV8 : V8.heap[V2.heap.size]? = some (.cells #[.int .u8 0, .int .u8 0, .slice none 0 0] 32 (0, 0)) := by rw [← hV8]; exact new_at _ _
          have lV8 : w.heap.size ≤ V2.heap.size := A2.bel.size
          rw [hV8]
          have A8 := A2.below mV8
          have s1_8 := s1_2.below mV8 (Nat.le_refl _)
          have s2_8 := nV2.below mV8 (Nat.le_refl _)
          clear A2 s1_2 nV2
          refine hK _ _ (fun _ => A8) ?_
          clear hK mV8 hV8
          refine wpAnyC_step (k := 14) rfl (by kernel_rfl) (fun K hK => ?_)
          rw [if_pos (by rfl)]
          go_wp2_with (go_at_call 21; refine (rawField_c a0 c1 [] b3 (by omega) _).mono ?_; rintro e V9 ⟨s3, rfl, nV9, mV9⟩)
          have A9 := A8.below mV9
          have s1_9 := s1_8.below mV9 (Nat.le_refl _)
          have s2_9 := s2_8.below mV9 (Nat.le_refl _)
          have x_9 := heap_below mV9 (Nat.le_refl _) nV8
          clear A8 s1_8 s2_8 nV8
          refine hK _ _ (fun _ => A9) ?_
          clear hK mV9
          refine wpAnyC_step (k := 15) rfl (by kernel_rfl) (fun K hK => ?_)
          rw [if_pos (by rfl)]
          go_wp2_with fail
          obtain ⟨V10, hV10⟩ : ∃ x, V9.alloc (.cells #[str b0, str b1, str b2, s1, str c0, str c1, str c2, s2, str a0, str c1, .string ⟨#[]⟩, s3] 46) = x := ⟨_, rfl⟩
          have mV10 : Below V9.heap.size V9 V10 := by rw [← hV10]; exact below_new _ _
          have nV10 : V10.heap[V9.heap.size]? = some (.cells #[str b0, str b1, str b2, s1, str c0, str c1, str c2, s2, str a0, str c1, .string ⟨#[]⟩, s3] 46 (0, 0)) := by rw [← hV10]; exact new_at _ _
          rw [hV10]
          have A10 := A9.below mV10
          have s1_10 := s1_9.below mV10 (Nat.le_refl _)
          have s2_10 := s2_9.below mV10 (Nat.le_refl _)
          have s3_10 := nV9.below mV10 (Nat.le_refl _)
          have x_10 := heap_below mV10 (Nat.le_refl _) x_9
          clear A9 s1_9 s2_9 nV9 x_9
          refine hK _ _ (fun _ => A10) ?_
          clear hK mV10 hV10
          refine wpAnyC_takeD 16 42 (.agg #[.int .u8 0, .int .u8 0, .slice (some ⟨V9.heap.size, 0, none⟩) 3 3]) rfl rfl rfl (by kernel_rfl) (by kernel_rfl) (by kernel_rfl) (by kernel_rfl) (fun _ _ _ h => h) (fun w9 hw9 => ?_) A10 ?_
          · obtain ⟨z0, ⟨y0, y1, y2, y3⟩, x0, x1, x2, x3⟩ := hw9.cells
            simp only [List.getElem_toArray, List.getElem_cons_zero, List.getElem_cons_succ]
            go_simp
          simp only [Act.put, List.setIfInBounds_toArray, List.set_cons_zero, List.set_cons_succ]
          refine wpAnyC_step (k := 18) rfl (by kernel_rfl) (fun K hK => ?_)
          rw [if_pos (by rfl)]
          obtain ⟨⟨r0, f0⟩, ⟨r1, f1⟩, ⟨r2, f2⟩, -⟩ := rec_cells x_10 (.slice (some ⟨V9.heap.size, 0, none⟩) 3 3)
          go_wp2_with fail
          refine hK _ _ (fun h => absurd (of_decide_eq_true h) (by decide)) ?_
          clear hK
          refine wpAnyC_done (by kernel_rfl) ?_
          clear r0 f0 r1 f1 r2 f2
          have HE := Lib.hid (raw_end A10 lV8 x_10 nV10 s1_10 s2_10 s3_10)
          go_wp2
          go_meet
          case rel => exact HE.out
      · skip
        rw [if_pos (by rfl)]
        go_wp2_with fail
        obtain ⟨V11, hV11⟩ : ∃ x, V1.alloc (.cells #[.int .u8 0, .int .u8 0, .slice none 0 0] 32) = x := ⟨_, rfl⟩
        have mV11 : Below V1.heap.size V1 V11 := by rw [← hV11]; exact below_new _ _
        have nV11 : V11.heap[V1.heap.size]? = some (.cells #[.int .u8 0, .int .u8 0, .slice none 0 0] 32 (0, 0)) := by rw [← hV11]; exact new_at _ _
        have lV11 : w.heap.size ≤ V1.heap.size := A1.bel.size
        rw [hV11]
        have A11 := A1.below mV11
        have s1_11 := nV1.below mV11 (Nat.le_refl _)
        clear A1 nV1
        refine hK _ _ (fun _ => A11) ?_
        clear hK mV11 hV11
        refine wpAnyC_step (k := 5) rfl (by kernel_rfl) (fun K hK => ?_)
        rw [if_pos (by rfl)]
        go_wp2_with (go_at_call 21; refine (rawField_c c0 c1 c2 c3 (by omega) _).mono ?_; rintro e V12 ⟨s2, rfl, nV12, mV12⟩)
        have A12 := A11.below mV12
        have s1_12 := s1_11.below mV12 (Nat.le_refl _)
        have x_12 := heap_below mV12 (Nat.le_refl _) nV11
        clear A11 s1_11 nV11
        refine hK _ _ (fun _ => A12) ?_
        clear hK mV12
        refine wpAnyC_step (k := 14) rfl (by kernel_rfl) (fun K hK => ?_)
        rw [if_pos (by rfl)]
        go_wp2_with (go_at_call 21; refine (rawField_c a0 c1 [] b3 (by omega) _).mono ?_; rintro e V13 ⟨s3, rfl, nV13, mV13⟩)
        have A13 := A12.below mV13
        have s1_13 := s1_12.below mV13 (Nat.le_refl _)
        have s2_13 := nV12.below mV13 (Nat.le_refl _)
        have x_13 := heap_below mV13 (Nat.le_refl _) x_12
        clear A12 s1_12 nV12 x_12
        refine hK _ _ (fun _ => A13) ?_
        clear hK mV13
        refine wpAnyC_step (k := 15) rfl (by kernel_rfl) (fun K hK => ?_)
        rw [if_pos (by rfl)]
        go_wp2_with fail
        obtain ⟨V14, hV14⟩ : ∃ x, V13.alloc (.cells #[str b0, str b1, str b2, s1, str c0, str c1, str c2, s2, str a0, str c1, .string ⟨#[]⟩, s3] 46) = x := ⟨_, rfl⟩
        have mV14 : Below V13.heap.size V13 V14 := by rw [← hV14]; exact below_new _ _
        have nV14 : V14.heap[V13.heap.size]? = some (.cells #[str b0, str b1, str b2, s1, str c0, str c1, str c2, s2, str a0, str c1, .string ⟨#[]⟩, s3] 46 (0, 0)) := by rw [← hV14]; exact new_at _ _
        rw [hV14]
        have A14 := A13.below mV14
        have s1_14 := s1_13.below mV14 (Nat.le_refl _)
        have s2_14 := s2_13.below mV14 (Nat.le_refl _)
        have s3_14 := nV13.below mV14 (Nat.le_refl _)
        have x_14 := heap_below mV14 (Nat.le_refl _) x_13
        clear A13 s1_13 s2_13 nV13 x_13
        refine hK _ _ (fun _ => A14) ?_
        clear hK mV14 hV14
        refine wpAnyC_takeD 16 42 (.agg #[.int .u8 0, .int .u8 0, .slice (some ⟨V13.heap.size, 0, none⟩) 3 3]) rfl rfl rfl (by kernel_rfl) (by kernel_rfl) (by kernel_rfl) (by kernel_rfl) (fun _ _ _ h => h) (fun w9 hw9 => ?_) A14 ?_
        · obtain ⟨z0, ⟨y0, y1, y2, y3⟩, x0, x1, x2, x3⟩ := hw9.cells
          simp only [List.getElem_toArray, List.getElem_cons_zero, List.getElem_cons_succ]
          go_simp
        simp only [Act.put, List.setIfInBounds_toArray, List.set_cons_zero, List.set_cons_succ]
        refine wpAnyC_step (k := 18) rfl (by kernel_rfl) (fun K hK => ?_)
        rw [if_pos (by rfl)]
        obtain ⟨⟨r0, f0⟩, ⟨r1, f1⟩, ⟨r2, f2⟩, -⟩ := rec_cells x_14 (.slice (some ⟨V13.heap.size, 0, none⟩) 3 3)
        go_wp2_with fail
        refine hK _ _ (fun h => absurd (of_decide_eq_true h) (by decide)) ?_
        clear hK
        refine wpAnyC_done (by kernel_rfl) ?_
        clear r0 f0 r1 f1 r2 f2
        have HE := Lib.hid (raw_end A14 lV11 x_14 nV14 s1_14 s2_14 s3_14)
        go_wp2
        go_meet
        case rel => exact HE.out
    · skip
      rw [if_pos (by rfl)]
      go_wp2_with fail
      obtain ⟨V15, hV15⟩ : ∃ x, W0.alloc (.cells #[.int .u8 0, .int .u8 0, .slice none 0 0] 32) = x := ⟨_, rfl⟩
      have mV15 : Below W0.heap.size W0 V15 := by rw [← hV15]; exact below_new _ _
      have nV15 : V15.heap[W0.heap.size]? = some (.cells #[.int .u8 0, .int .u8 0, .slice none 0 0] 32 (0, 0)) := by rw [← hV15]; exact new_at _ _
      have lV15 : w.heap.size ≤ W0.heap.size := hS0.bel.size
      rw [hV15]
      have A15 := hS0.below mV15
      clear hS0
      refine hK _ _ (fun _ => A15) ?_
      clear hK mV15 hV15
      refine wpAnyC_step (k := 2) rfl (by kernel_rfl) (fun K hK => ?_)
      rw [if_pos (by rfl)]
      go_wp2_with (go_at_call 21; refine (rawField_c b0 b1 b2 b3 (by omega) _).mono ?_; rintro e V16 ⟨s1, rfl, nV16, mV16⟩)
      have A16 := A15.below mV16
      have x_16 := heap_below mV16 (Nat.le_refl _) nV15
      clear A15 nV15
      refine hK _ _ (fun _ => A16) ?_
      clear hK mV16
      refine wpAnyC_step (k := 5) rfl (by kernel_rfl) (fun K hK => ?_)
      rw [if_pos (by rfl)]
      go_wp2_with (go_at_call 21; refine (rawField_c c0 c1 c2 c3 (by omega) _).mono ?_; rintro e V17 ⟨s2, rfl, nV17, mV17⟩)
      have A17 := A16.below mV17
      have s1_17 := nV16.below mV17 (Nat.le_refl _)
      have x_17 := heap_below mV17 (Nat.le_refl _) x_16
      clear A16 nV16 x_16
      refine hK _ _ (fun _ => A17) ?_
      clear hK mV17
      refine wpAnyC_step (k := 14) rfl (by kernel_rfl) (fun K hK => ?_)
      rw [if_pos (by rfl)]
      go_wp2_with (go_at_call 21; refine (rawField_c a0 c1 [] b3 (by omega) _).mono ?_; rintro e V18 ⟨s3, rfl, nV18, mV18⟩)
      have A18 := A17.below mV18
      have s1_18 := s1_17.below mV18 (Nat.le_refl _)
      have s2_18 := nV17.below mV18 (Nat.le_refl _)
      have x_18 := heap_below mV18 (Nat.le_refl _) x_17
      clear A17 s1_17 nV17 x_17
      refine hK _ _ (fun _ => A18) ?_
      clear hK mV18
      refine wpAnyC_step (k := 15) rfl (by kernel_rfl) (fun K hK => ?_)
      rw [if_pos (by rfl)]
      go_wp2_with fail
      obtain ⟨V19, hV19⟩ : ∃ x, V18.alloc (.cells #[str b0, str b1, str b2, s1, str c0, str c1, str c2, s2, str a0, str c1, .string ⟨#[]⟩, s3] 46) = x := ⟨_, rfl⟩
      have mV19 : Below V18.heap.size V18 V19 := by rw [← hV19]; exact below_new _ _
      have nV19 : V19.heap[V18.heap.size]? = some (.cells #[str b0, str b1, str b2, s1, str c0, str c1, str c2, s2, str a0, str c1, .string ⟨#[]⟩, s3] 46 (0, 0)) := by rw [← hV19]; exact new_at _ _
      rw [hV19]
      have A19 := A18.below mV19
      have s1_19 := s1_18.below mV19 (Nat.le_refl _)
      have s2_19 := s2_18.below mV19 (Nat.le_refl _)
      have s3_19 := nV18.below mV19 (Nat.le_refl _)
      have x_19 := heap_below mV19 (Nat.le_refl _) x_18
      clear A18 s1_18 s2_18 nV18 x_18
      refine hK _ _ (fun _ => A19) ?_
      clear hK mV19 hV19
      refine wpAnyC_takeD 16 42 (.agg #[.int .u8 0, .int .u8 0, .slice (some ⟨V18.heap.size, 0, none⟩) 3 3]) rfl rfl rfl (by kernel_rfl) (by kernel_rfl) (by kernel_rfl) (by kernel_rfl) (fun _ _ _ h => h) (fun w9 hw9 => ?_) A19 ?_
      · obtain ⟨z0, ⟨y0, y1, y2, y3⟩, x0, x1, x2, x3⟩ := hw9.cells
        simp only [List.getElem_toArray, List.getElem_cons_zero, List.getElem_cons_succ]
        go_simp
      simp only [Act.put, List.setIfInBounds_toArray, List.set_cons_zero, List.set_cons_succ]
      refine wpAnyC_step (k := 18) rfl (by kernel_rfl) (fun K hK => ?_)
      rw [if_pos (by rfl)]
      obtain ⟨⟨r0, f0⟩, ⟨r1, f1⟩, ⟨r2, f2⟩, -⟩ := rec_cells x_19 (.slice (some ⟨V18.heap.size, 0, none⟩) 3 3)
      go_wp2_with fail
      refine hK _ _ (fun h => absurd (of_decide_eq_true h) (by decide)) ?_
      clear hK
      refine wpAnyC_done (by kernel_rfl) ?_
      clear r0 f0 r1 f1 r2 f2
      have HE := Lib.hid (raw_end A19 lV15 x_19 nV19 s1_19 s2_19 s3_19)
      go_wp2
      go_meet
      case rel => exact HE.out
  case rest =>
    obtain ⟨xb, fb, rfl, hbel, hx, hf, hl⟩ := hcut
    clear HA
    go_wp2_with fail
    refine (standard_c wc).mono ?_
    rintro e w6 ⟨rfl, hs6, hb6⟩
    have hown := std_own hs6
    obtain ⟨i0', hi0, hz0, hz1, hz2⟩ := info_parts infoRule
    have hl6 := heap_below hb6 (Nat.le_refl _) hl
    have hsz := hb6.size
    have hln : (ruleL r).length = 7 := rfl
    go_wp2_with (at_builtin; go_loud (refine wpList_append_own _ rfl _ _ 23 rfl wc.heap.size 27 i0' _ 7 88 Try.underlying23 hi0 hz0 hz1 hz2 rfl (by decide) _ _ _ rfl hown ⟨lb, 0, none⟩ 1 1 (ruleL r) rfl rfl ?sa ?sb ?sc ?sd ?se ?_))
    case sa => exact cells_src hl6
    case sb => simp [ruleL, Value.oneCell']
    case sc => unfold maxLen; omega
    case sd => omega
    case se => exact hsz
    intro v9 w9 hown9 hgrow9 _
    have hb9 : Below wc.heap.size wc w9 := hb6.trans ((Below.refl wc.heap.size w6).grown hgrow9 hsz (fun q hq => (hown.lt q hq).1))
    obtain ⟨g, cap, hv9, hrm⟩ := rules_of_own (l := stdR ++ [r]) (by simp) (by rw [List.flatMap_append]; exact hown9)
    have hv9 : v9 = .slice (some ⟨g, 0, none⟩) 25 cap := hv9
    subst hv9
    obtain ⟨FS, hFS⟩ : ∃ FS : List FldM, FS = [⟨b0, b1, b2, rawSubs b3 20⟩, ⟨c0, c1, c2, rawSubs c3 20⟩, ⟨a0, c1, [], rawSubs b3 20⟩] := ⟨_, rfl⟩
    rw [← hFS] at hf
    have hft : ∀ f ∈ FS, f.tag.length ≤ 140737488355328 := by
      rw [hFS]; intro f hf'
      rcases List.mem_cons.1 hf' with rfl | hf'
      · dsimp only; omega
      rcases List.mem_cons.1 hf' with rfl | hf'
      · dsimp only; omega
      · rw [List.mem_singleton.1 hf']; dsimp only; omega
    have hfl : FS.length ≤ 100 := by rw [hFS]; show 3 ≤ 100; decide
    have hW : RawW w w9 lb g cap xb (.slice (some ⟨fb, 0, none⟩) 3 3) r FS := ⟨below_tr hbel hb9, heap_below hb9 (Nat.le_refl _) hx, hf.below hb9 (Nat.le_refl _), rules_at [r] (heap_below hb9 (Nat.le_refl _) (by rw [hl]; simp)) (by show 1 ≤ maxLen; decide) 1, hrm⟩
    have C1 := fun W (h : RawW w W lb g cap xb (.slice (some ⟨fb, 0, none⟩) 3 3) r FS) => raw_checks (rules := [r]) rfl (by show 1 ≤ 100; decide) h.rl h.flds hfl (fun q hq => by rw [List.mem_singleton.1 hq]; exact Hsh.out) hft
    have C2 := fun W (h : RawW w W lb g cap xb (.slice (some ⟨fb, 0, none⟩) 3 3) r FS) => raw_checks (rules := stdR ++ [r]) (n := 25) rfl (by decide) h.rm h.flds hfl (fun q hq => by
      rcases List.mem_append.1 hq with hq | hq
      · exact stdShort q hq
      · rw [List.mem_singleton.1 hq]; exact Hsh.out) hft
    obtain ⟨L1, hL1⟩ : ∃ L1, checkS [r] FS = L1 := ⟨_, rfl⟩
    obtain ⟨L2, hL2⟩ : ∃ L2, checkS (stdR ++ [r]) FS = L2 := ⟨_, rfl⟩
    rw [hL1] at C1
    rw [hL2] at C2
    have C1 := Lib.hid C1
    have C2 := Lib.hid C2
    have HW := Lib.hid hW
    clear hbel hx hf hl hs6 hb6 hown hi0 hz0 hz1 hz2 hl6 hsz hln hown9 hgrow9 hb9 hrm hft hfl hW hL1 hL2
    go_wp2_with fail
    obtain ⟨W0, hW0⟩ : ∃ x, w9.drew = x := ⟨_, rfl⟩
    have hS0 : RawW w W0 lb g cap xb (.slice (some ⟨fb, 0, none⟩) 3 3) r FS := by rw [← hW0]; exact HW.out.below (Below.refl _ _).drew
    refine wp_region_C 20 20 (fun w' => RawW w w' lb g cap xb (.slice (some ⟨fb, 0, none⟩) 3 3) r FS) rfl rfl ?_
    rw [hW0]
    clear hW0 HW
    refine wpAnyC_takeD 0 46 (.bool true) rfl rfl rfl (by kernel_rfl) (by kernel_rfl) (by kernel_rfl) (by kernel_rfl) (fun _ _ _ h => h) (fun w5 hw5 => ?_) hS0 ?_
    · obtain ⟨y0, y1, y2⟩ := hw5.cells
      simp only [List.getElem_toArray, List.getElem_cons_zero, List.getElem_cons_succ]
      go_simp
    simp only [Act.put, List.setIfInBounds_toArray, List.set_cons_zero, List.set_cons_succ]
    refine wpAnyC_takeD 1 47 (.bool true) rfl rfl rfl (by kernel_rfl) (by kernel_rfl) (by kernel_rfl) (by kernel_rfl) (fun _ _ _ h => h) (fun w5 hw5 => ?_) hS0 ?_
    · obtain ⟨y0, y1, y2⟩ := hw5.cells
      simp only [List.getElem_toArray, List.getElem_cons_zero, List.getElem_cons_succ]
      go_simp
    simp only [Act.put, List.setIfInBounds_toArray, List.set_cons_zero, List.set_cons_succ]
    refine wpAnyC_takeG 2 48 (.slice (some ⟨lb, 0, none⟩) 1 1) rfl rfl (by rfl) (by kernel_rfl) (by kernel_rfl) (by kernel_rfl) (by kernel_rfl) (fun _ _ _ h => h) (fun w5 hw5 => ?_) hS0 ?_
    · obtain ⟨y0, y1, y2⟩ := hw5.cells
      simp only [List.getElem_toArray, List.getElem_cons_zero, List.getElem_cons_succ]
      go_simp
    simp only [Act.put, List.setIfInBounds_toArray, List.set_cons_zero, List.set_cons_succ]
    refine wpAnyC_takeG 3 49 (.agg #[.int .u8 0, .int .u8 0, .slice (some ⟨fb, 0, none⟩) 3 3]) rfl rfl (by rfl) (by kernel_rfl) (by kernel_rfl) (by kernel_rfl) (by kernel_rfl) (fun _ _ _ h => h) (fun w5 hw5 => ?_) hS0 ?_
    · obtain ⟨y0, y1, y2⟩ := hw5.cells
      simp only [List.getElem_toArray, List.getElem_cons_zero, List.getElem_cons_succ]
      go_simp
    simp only [Act.put, List.setIfInBounds_toArray, List.set_cons_zero, List.set_cons_succ]
    refine wpAnyC_takeG 5 51 (.slice (some ⟨lb, 0, none⟩) 1 1) rfl rfl (by rfl) (by kernel_rfl) (by kernel_rfl) (by kernel_rfl) (by kernel_rfl) (fun _ _ _ h => h) (fun w5 hw5 => ?_) hS0 ?_
    · obtain ⟨y0, y1, y2⟩ := hw5.cells
      simp only [List.getElem_toArray, List.getElem_cons_zero, List.getElem_cons_succ]
      go_simp
    simp only [Act.put, List.setIfInBounds_toArray, List.set_cons_zero, List.set_cons_succ]
    refine wpAnyC_takeG 6 52 (.agg #[.int .u8 0, .int .u8 0, .slice (some ⟨fb, 0, none⟩) 3 3]) rfl rfl (by rfl) (by kernel_rfl) (by kernel_rfl) (by kernel_rfl) (by kernel_rfl) (fun _ _ _ h => h) (fun w5 hw5 => ?_) hS0 ?_
    · obtain ⟨y0, y1, y2⟩ := hw5.cells
      simp only [List.getElem_toArray, List.getElem_cons_zero, List.getElem_cons_succ]
      go_simp
    simp only [Act.put, List.setIfInBounds_toArray, List.set_cons_zero, List.set_cons_succ]
    refine wpAnyC_step (k := 4) rfl (by kernel_rfl) (fun K hK => ?_)
    rw [if_pos (by rfl)]
    go_wp2_with (go_at_call 18; refine (C1.out _ hS0).1.mono ?_; rintro e X11 ⟨p1, k1, rfl, hp1, hb1⟩)
    have hS11 := hS0.below hb1
    refine hK _ _ (fun _ => hS11) ?_
    clear hK hb1
    refine wpAnyC_step (k := 7) rfl (by kernel_rfl) (fun K hK => ?_)
    rw [if_pos (by rfl)]
    go_wp2_with (go_at_call 16; refine (C1.out _ hS11).2.mono ?_; rintro e X12 ⟨p2, k2, rfl, hq1, hb2⟩)
    have hS12 := hS11.below hb2
    have hp1 := hp1.below hb2 (Nat.le_refl _)
    refine hK _ _ (fun _ => hS12) ?_
    clear hK hb2
    refine wpAnyC_step (k := 8) rfl (by kernel_rfl) (fun K hK => ?_)
    rw [if_pos (by rfl)]
    go_wp2_with (go_at_call 17; refine (same_t L1 _ _ _ hp1 hq1).mono ?_; rintro e X13 ⟨rfl, hb3⟩)
    have hS13 := hS12.below hb3
    refine hK _ _ (fun _ => hS13) ?_
    clear hK hb3 hp1 hq1
    refine wpAnyC_takeD 9 55 (.bool true) rfl rfl rfl (by kernel_rfl) (by kernel_rfl) (by kernel_rfl) (by kernel_rfl) (fun _ _ _ h => h) (fun w5 hw5 => ?_) hS13 ?_
    · obtain ⟨y0, y1, y2⟩ := hw5.cells
      simp only [List.getElem_toArray, List.getElem_cons_zero, List.getElem_cons_succ]
      go_simp
    simp only [Act.put, List.setIfInBounds_toArray, List.set_cons_zero, List.set_cons_succ]
    refine wpAnyC_takeD 10 56 (.bool true) rfl rfl rfl (by kernel_rfl) (by kernel_rfl) (by kernel_rfl) (by kernel_rfl) (fun _ _ _ h => h) (fun w5 hw5 => ?_) hS13 ?_
    · obtain ⟨y0, y1, y2⟩ := hw5.cells
      simp only [List.getElem_toArray, List.getElem_cons_zero, List.getElem_cons_succ]
      go_simp
    simp only [Act.put, List.setIfInBounds_toArray, List.set_cons_zero, List.set_cons_succ]
    refine wpAnyC_takeG 11 57 (.slice (some ⟨g, 0, none⟩) 25 cap) rfl rfl (by rfl) (by kernel_rfl) (by kernel_rfl) (by kernel_rfl) (by kernel_rfl) (fun _ _ _ h => h) (fun w5 hw5 => ?_) hS13 ?_
    · obtain ⟨y0, y1, y2⟩ := hw5.cells
      simp only [List.getElem_toArray, List.getElem_cons_zero, List.getElem_cons_succ]
      go_simp
    simp only [Act.put, List.setIfInBounds_toArray, List.set_cons_zero, List.set_cons_succ]
    refine wpAnyC_takeG 12 58 (.agg #[.int .u8 0, .int .u8 0, .slice (some ⟨fb, 0, none⟩) 3 3]) rfl rfl (by rfl) (by kernel_rfl) (by kernel_rfl) (by kernel_rfl) (by kernel_rfl) (fun _ _ _ h => h) (fun w5 hw5 => ?_) hS13 ?_
    · obtain ⟨y0, y1, y2⟩ := hw5.cells
      simp only [List.getElem_toArray, List.getElem_cons_zero, List.getElem_cons_succ]
      go_simp
    simp only [Act.put, List.setIfInBounds_toArray, List.set_cons_zero, List.set_cons_succ]
    refine wpAnyC_takeG 14 60 (.slice (some ⟨g, 0, none⟩) 25 cap) rfl rfl (by rfl) (by kernel_rfl) (by kernel_rfl) (by kernel_rfl) (by kernel_rfl) (fun _ _ _ h => h) (fun w5 hw5 => ?_) hS13 ?_
    · obtain ⟨y0, y1, y2⟩ := hw5.cells
      simp only [List.getElem_toArray, List.getElem_cons_zero, List.getElem_cons_succ]
      go_simp
    simp only [Act.put, List.setIfInBounds_toArray, List.set_cons_zero, List.set_cons_succ]
    refine wpAnyC_takeG 15 61 (.agg #[.int .u8 0, .int .u8 0, .slice (some ⟨fb, 0, none⟩) 3 3]) rfl rfl (by rfl) (by kernel_rfl) (by kernel_rfl) (by kernel_rfl) (by kernel_rfl) (fun _ _ _ h => h) (fun w5 hw5 => ?_) hS13 ?_
    · obtain ⟨y0, y1, y2⟩ := hw5.cells
      simp only [List.getElem_toArray, List.getElem_cons_zero, List.getElem_cons_succ]
      go_simp
    simp only [Act.put, List.setIfInBounds_toArray, List.set_cons_zero, List.set_cons_succ]
    refine wpAnyC_step (k := 13) rfl (by kernel_rfl) (fun K hK => ?_)
    rw [if_pos (by rfl)]
    go_wp2_with (go_at_call 18; refine (C2.out _ hS13).1.mono ?_; rintro e X21 ⟨p1, k1, rfl, hp2, hb1⟩)
    have hS21 := hS13.below hb1
    refine hK _ _ (fun _ => hS21) ?_
    clear hK hb1
    refine wpAnyC_step (k := 16) rfl (by kernel_rfl) (fun K hK => ?_)
    rw [if_pos (by rfl)]
    go_wp2_with (go_at_call 16; refine (C2.out _ hS21).2.mono ?_; rintro e X22 ⟨p2, k2, rfl, hq2, hb2⟩)
    have hS22 := hS21.below hb2
    have hp2 := hp2.below hb2 (Nat.le_refl _)
    refine hK _ _ (fun _ => hS22) ?_
    clear hK hb2
    refine wpAnyC_step (k := 17) rfl (by kernel_rfl) (fun K hK => ?_)
    rw [if_pos (by rfl)]
    go_wp2_with (go_at_call 17; refine (same_t L2 _ _ _ hp2 hq2).mono ?_; rintro e X23 ⟨rfl, hb3⟩)
    have hS23 := hS22.below hb3
    refine hK _ _ (fun _ => hS23) ?_
    clear hK hb3 hp2 hq2
    refine wpAnyC_takeD 18 64 (.bool true) rfl rfl rfl (by kernel_rfl) (by kernel_rfl) (by kernel_rfl) (by kernel_rfl) (fun _ _ _ h => h) (fun w5 hw5 => ?_) hS23 ?_
    · obtain ⟨y0, y1, y2⟩ := hw5.cells
      simp only [List.getElem_toArray, List.getElem_cons_zero, List.getElem_cons_succ]
      go_simp
    simp only [Act.put, List.setIfInBounds_toArray, List.set_cons_zero, List.set_cons_succ]
    refine wpAnyC_step (k := 19) rfl (by kernel_rfl) (fun K hK => ?_)
    rw [if_pos (by rfl)]
    go_wp2_with fail
    refine hK _ _ (fun _ => hS23) ?_
    clear hK
    refine wpAnyC_done (by kernel_rfl) ?_
    have HB := Lib.hid hS23.bel
    go_wp2
    go_ret
    exact ⟨rfl, HB.out⟩
end Go.Proofs.Ytfccpepmjklodaa
