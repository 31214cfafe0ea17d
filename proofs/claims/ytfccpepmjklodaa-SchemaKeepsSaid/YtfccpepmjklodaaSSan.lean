/-
  The law's sanity.
-/
import Derived.Test.YtfccpepmjklodaaSSanM
import Derived.Test.YtfccpepmjklodaaSFloat
namespace Go.Proofs.Ytfccpepmjklodaa
open Go.RowKit Go.Shelf
set_option linter.unusedVariables false
set_option linter.unusedSimpArgs false

set_option maxRecDepth 100000 in
set_option maxHeartbeats 8000000 in
theorem sanity_c (w : World) : Calls Try.prog 11 #[] w (fun e w' => e = .returned (.bool true) ∧ Below w.heap.size w w') := by
  have HS := Lib.hid (standard_c w)
  go_enter Try.func11, Try.ntmps11
  go_wp2_with fail
  refine HS.out.mono ?_
  rintro e w1 ⟨rfl, hs1, hb1⟩
  clear HS
  go_wp2_with fail
  obtain ⟨w2, hw2⟩ : ∃ w2, w1.alloc (.cells #[str [48, 48, 49], .string ⟨#[]⟩, str [55], .slice none 0 0] 46) = w2 := ⟨_, rfl⟩
  rw [hw2]
  have hb12 : Below w1.heap.size w1 w2 := by rw [← hw2]; exact below_new _ _
  have hi2 : w2.heap[w1.heap.size]? = some (.cells #[str [48, 48, 49], .string ⟨#[]⟩, str [55], .slice none 0 0] 46 (0, 0)) := by rw [← hw2]; exact new_at _ _
  have N := Lib.hid (data_c [50, 52, 53] [49, 48] 97 [69, 109, 109, 97] w2)
  refine N.out.mono ?_
  rintro e w3 ⟨rfl, he3, hb3, hs3⟩
  clear N hw2
  obtain ⟨w4, hw4⟩ : ∃ w4, w3.alloc (.cells #[str [50, 52, 53], str [49, 48], .string ⟨#[]⟩, .slice (some ⟨w2.heap.size + 1, 0, none⟩) 1 1] 46) = w4 := ⟨_, rfl⟩
  have hb34 : Below w3.heap.size w3 w4 := by rw [← hw4]; exact below_new _ _
  have he4 : w4.heap[w3.heap.size]? = some (.cells #[str [50, 52, 53], str [49, 48], .string ⟨#[]⟩, .slice (some ⟨w2.heap.size + 1, 0, none⟩) 1 1] 46 (0, 0)) := by rw [← hw4]; exact new_at _ _
  have hes4 := DataPost.fld (heap_below hb34 (Nat.le_refl _) he3)
  have hbw4 := below_tr (below_tr (below_tr hb1 hb12) hb3) hb34
  have hstd4 := heap_below hb34 (Nat.le_refl _) (heap_below hb3 (Nat.le_refl _) (heap_below hb12 (Nat.le_refl _) hs1))
  have hid4 := heap_below hb34 (Nat.le_refl _) (heap_below hb3 (Nat.le_refl _) hi2)
  have H4 := Lib.hid (And.intro hbw4 (And.intro hstd4 (And.intro hid4 (And.intro he4 hes4))))
  clear hs1 hb1 hb12 hi2 he3 hb3 hs3 hb34 he4 hes4 hbw4 hstd4 hid4
  go_wp2_with fail
  have N := Lib.hid (data_c [50, 52, 53] [49, 48] 97 [120] w4)
  refine N.out.mono ?_
  rintro e w5 ⟨rfl, hd5, hb5, hs5⟩
  clear N hw4
  obtain ⟨w6, hw6⟩ : ∃ w6, w5.alloc (.cells #[str [50, 52, 53], str [49, 48], .string ⟨#[]⟩, .slice (some ⟨w4.heap.size + 1, 0, none⟩) 1 1] 46) = w6 := ⟨_, rfl⟩
  have hb56 : Below w5.heap.size w5 w6 := by rw [← hw6]; exact below_new _ _
  have hn6 : w6.heap[w5.heap.size]? = some (.cells #[str [50, 52, 53], str [49, 48], .string ⟨#[]⟩, .slice (some ⟨w4.heap.size + 1, 0, none⟩) 1 1] 46 (0, 0)) := by rw [← hw6]; exact new_at _ _
  have hz6 : w6.heap.size = w5.heap.size + 1 := by rw [← hw6]; simp
  have ho6 := own_one (heap_below hb56 (Nat.le_refl _) hd5)
  obtain ⟨I, hI⟩ : ∃ k, w1.heap.size = k := ⟨_, rfl⟩
  obtain ⟨E, hE⟩ : ∃ k, w3.heap.size = k := ⟨_, rfl⟩
  obtain ⟨eb, heb⟩ : ∃ k, w2.heap.size + 1 = k := ⟨_, rfl⟩
  obtain ⟨B, hB⟩ : ∃ k, w4.heap.size + 1 = k := ⟨_, rfl⟩
  rw [hI, hE, heb] at H4
  rw [hB] at hn6
  rw [hB] at ho6
  have c3 : w6.cell? ⟨w5.heap.size, 3, none⟩ = some (.slice (some ⟨B, 0, none⟩) 1 1) := by rw [cell_at hn6]; rfl
  have hDB : w5.heap.size = B + 1 := by omega
  have hb46 := Lib.hid (below_tr hb5 hb56)
  have Hn6 := Lib.hid hn6
  have Ho6 := Lib.hid ho6
  have Hz := Lib.hid (And.intro hz6 (And.intro hDB hB))
  obtain ⟨i0', hi0, hz0, hz1, hz2⟩ := info_parts infoSub
  have hBz : B ≤ w6.heap.size := by omega
  clear hd5 hb5 hs5 hb56 hn6 hz6 ho6 hDB
  rw [hB] at hw6
  rw [hI, hE, hB]
  go_wp2_with (at_builtin; refine wpList_append_own _ rfl _ _ 44 rfl B 48 i0' _ 2 24 Try.underlying44 hi0 hz0 hz1 hz2 rfl (by decide) _ _ _ rfl (Ho6.out.alloc _) ⟨w6.heap.size, 0, none⟩ 1 1 [.int .u8 97, str [121]] rfl rfl ?sa ?sb ?sc ?sd ?se ?_)
  case sa => exact two_cells w6 _ _ _
  case sb => simp [Value.oneCell']
  case sc => unfold maxLen; omega
  case sd => omega
  case se => simp; omega
  intro v9 w9 hown9 hgrow9 _
  obtain ⟨na, nc, rfl⟩ := own_form hown9
  have hz := Hz.out
  have hb69 : Below B w6 w9 := ((Below.refl B w6).alloc (by omega) _).grown hgrow9 (by simp; omega) (fun q hq => (Ho6.out.lt q hq).1)
  have hn9 : w9.heap[w5.heap.size]? = some (.cells #[str [50, 52, 53], str [49, 48], .string ⟨#[]⟩, .slice (some ⟨B, 0, none⟩) 1 1] 46 (0, 0)) := by
    refine ((hgrow9.block w5.heap.size (by simp; omega) (fun e => ?_)).trans ((below_new w6 _).block w5.heap.size (by omega))).trans Hn6.out
    simp only [Value.ownBlock, Option.some.injEq] at e
    omega
  have c9 : w9.cell? ⟨w5.heap.size, 3, none⟩ = some (.slice (some ⟨B, 0, none⟩) 1 1) := by rw [cell_at hn9]; rfl
  have f9 : w9.frozen? ⟨w5.heap.size, 3, none⟩ = false := Lib.frozen_of_heap hn9 3
  obtain ⟨w10, hw10⟩ : ∃ w10, w9.setCell ⟨w5.heap.size, 3, none⟩ (.slice na 2 nc) = w10 := ⟨_, rfl⟩
  have hb10 : Below w4.heap.size w4 w10 := by rw [← hw10]; exact below_set (hb46.out.trans (hb69.mono (by omega))) (by omega) 3 _
  have hC : SanW w w10 I E eb w5.heap.size na nc := by
    obtain ⟨q0, q1, q2, q3, q4⟩ := H4.out
    refine ⟨below_tr q0 hb10, heap_below hb10 (Nat.le_refl _) q1, heap_below hb10 (Nat.le_refl _) q2, heap_below hb10 (Nat.le_refl _) q3, q4.below hb10 (Nat.le_refl _), ?_, ?_⟩
    · rw [← hw10]; exact blk_set hn9 3 (.slice na 2 nc)
    · rw [← hw10]; exact subs_two (own_set hown9 hn9 (by decide))
  have HC := Lib.hid hC
  clear hz hb69 hn9 hb10 hC hown9 hgrow9 Hz H4 Hn6 Ho6 hb46 hBz c3 hw6 hi0 hz0 hz1 hz2 hI hE hB heb
  obtain ⟨⟨i0, i1, i2, i3⟩, ⟨e0, e1, e2, e3⟩, d0, d1, d2, d3⟩ := HC.out.cells
  obtain ⟨D, hD⟩ : ∃ k, w5.heap.size = k := ⟨_, rfl⟩
  rw [hD] at HC d0 d1 d2 d3 c9 f9 hw10
  go_wp2_with fail
  have hN := (HC.out.below (below_new w10 (.cells #[str [48, 48, 49], .string ⟨#[]⟩, str [55], .slice none 0 0, str [50, 52, 53], str [49, 48], .string ⟨#[]⟩, .slice (some ⟨eb, 0, none⟩) 1 1] 46))).checkA (new_at w10 _)
  have N := Lib.hid hN.1
  have hb1 := Lib.hid (below_new w10 (.cells #[str [48, 48, 49], .string ⟨#[]⟩, str [55], .slice none 0 0, str [50, 52, 53], str [49, 48], .string ⟨#[]⟩, .slice (some ⟨eb, 0, none⟩) 1 1] 46))
  clear hN
  refine N.out.mono ?_
  rintro e w11 ⟨pa, pc, rfl, hpA, hb2⟩
  have HC := Lib.hid (HC.out.below (below_tr hb1.out hb2))
  have HA := Lib.hid hpA
  clear hpA hb2 hb1 N i0 i1 i2 i3 e0 e1 e2 e3 d0 d1 d2 d3 hw10 c9 f9
  obtain ⟨⟨i0, i1, i2, i3⟩, ⟨e0, e1, e2, e3⟩, d0, d1, d2, d3⟩ := HC.out.cells
  go_wp2_with fail
  clear i0 i1 i2 i3 e0 e1 e2 e3 d0 d1 d2 d3
  have hS0 : SanW w w11.drew I E eb D na nc := HC.out.below (Below.refl _ _).drew
  refine wp_region_C 6 7 (fun w' => SanW w w' I E eb D na nc) rfl rfl ?_
  refine wpAnyC_takeD 0 26 (.slice (some ⟨w.heap.size, 0, none⟩) 24 24) rfl rfl rfl (by kernel_rfl) (by kernel_rfl) (by kernel_rfl) (by kernel_rfl) (fun _ _ _ h => h) (fun w5 hw5 => ?_) hS0 ?_
  · simp only [List.getElem_toArray, List.getElem_cons_zero, List.getElem_cons_succ]
    go_simp
  simp only [Act.put, List.setIfInBounds_toArray, List.set_cons_zero, List.set_cons_succ]
  refine wpAnyC_takeD 1 27 (.agg #[str [50, 52, 53], str [49, 48], .string ⟨#[]⟩, .slice (some ⟨eb, 0, none⟩) 1 1]) rfl rfl rfl (by kernel_rfl) (by kernel_rfl) (by kernel_rfl) (by kernel_rfl) (fun _ _ _ h => h) (fun w5 hw5 => ?_) hS0 ?_
  · obtain ⟨-, ⟨e0, e1, e2, e3⟩, -⟩ := hw5.cells
    simp only [List.getElem_toArray, List.getElem_cons_zero, List.getElem_cons_succ]
    go_simp
  simp only [Act.put, List.setIfInBounds_toArray, List.set_cons_zero, List.set_cons_succ]
  refine wpAnyC_step (k := 2) rfl (by kernel_rfl) (fun K hK => ?_)
  rw [if_pos (by rfl)]
  go_wp2_with (go_at_call 23; refine (data_c [50, 52, 53] [49, 32] 97 [69, 109, 109, 97] _).mono ?_; rintro e W2 ⟨rfl, hx2, hb2, hz2⟩)
  clear hz2
  have hS2 := hS0.below hb2
  refine hK _ _ (fun _ => hS2) ?_
  clear hK
  refine wpAnyC_step (k := 3) rfl (by kernel_rfl) (fun K hK => ?_)
  rw [if_pos (by rfl)]
  go_wp2_with fail
  refine hK _ _ (fun _ => hS2.below (below_new W2 _)) ?_
  clear hK
  refine wpAnyC_step (k := 4) rfl (by kernel_rfl) (fun K hK => ?_)
  rw [if_pos (by rfl)]
  go_wp2_with fail
  refine hK _ _ (fun _ => hS2.below (below_new W2 _)) ?_
  clear hK
  refine wpAnyC_step (k := 5) rfl (by kernel_rfl) (fun K hK => ?_)
  rw [if_pos (by rfl)]
  go_wp2_with (go_at_call 18; refine ((hS2.below (below_new W2 _)).checkB (DataPost.fld (heap_below (below_new W2 _) (Nat.le_refl _) hx2)) (new_at W2 _)).mono ?_; rintro e W4 ⟨pa2, pc2, rfl, hpB, hb4⟩)
  have hS4 := hS2.below (below_tr (below_new W2 _) hb4)
  refine hK _ _ (fun _ => hS4) ?_
  clear hK
  refine wpAnyC_step (k := 6) rfl (by kernel_rfl) (fun K hK => ?_)
  rw [if_pos (by rfl)]
  go_wp2_with fail
  refine hK _ _ (fun h => absurd (of_decide_eq_true h) (by decide)) ?_
  clear hK
  refine wpAnyC_done (by kernel_rfl) ?_
  have hbb := below_tr (below_new W2 _) hb4
  have HC := Lib.hid (hS2.below hbb)
  have HA := Lib.hid (HA.out.below (below_tr (below_tr (Below.refl _ _).drew hb2) hbb) (Nat.le_refl _))
  have HB := Lib.hid hpB
  clear hS0 hS2 hS4 hbb hpB hb4 hb2 hx2
  go_wp2_with fail
  have hS0 : SanW w W4.drew I E eb D na nc := HC.out.below (Below.refl _ _).drew
  refine wp_region_C 8 9 (fun w' => SanW w w' I E eb D na nc) rfl rfl ?_
  refine wpAnyC_takeD 0 32 (.slice (some ⟨w.heap.size, 0, none⟩) 24 24) rfl rfl rfl (by kernel_rfl) (by kernel_rfl) (by kernel_rfl) (by kernel_rfl) (fun _ _ _ h => h) (fun w5 hw5 => ?_) hS0 ?_
  · simp only [List.getElem_toArray, List.getElem_cons_zero, List.getElem_cons_succ]
    go_simp
  simp only [Act.put, List.setIfInBounds_toArray, List.set_cons_zero, List.set_cons_succ]
  refine wpAnyC_takeD 1 33 (.agg #[str [48, 48, 49], .string ⟨#[]⟩, str [55], .slice none 0 0]) rfl rfl rfl (by kernel_rfl) (by kernel_rfl) (by kernel_rfl) (by kernel_rfl) (fun _ _ _ h => h) (fun w5 hw5 => ?_) hS0 ?_
  · obtain ⟨⟨i0, i1, i2, i3⟩, -, -⟩ := hw5.cells
    simp only [List.getElem_toArray, List.getElem_cons_zero, List.getElem_cons_succ]
    go_simp
  simp only [Act.put, List.setIfInBounds_toArray, List.set_cons_zero, List.set_cons_succ]
  refine wpAnyC_takeD 2 34 (.agg #[str [50, 52, 53], str [49, 48], .string ⟨#[]⟩, .slice na 2 nc]) rfl rfl rfl (by kernel_rfl) (by kernel_rfl) (by kernel_rfl) (by kernel_rfl) (fun _ _ _ h => h) (fun w5 hw5 => ?_) hS0 ?_
  · obtain ⟨-, -, d0, d1, d2, d3⟩ := hw5.cells
    simp only [List.getElem_toArray, List.getElem_cons_zero, List.getElem_cons_succ]
    go_simp
  simp only [Act.put, List.setIfInBounds_toArray, List.set_cons_zero, List.set_cons_succ]
  refine wpAnyC_step (k := 3) rfl (by kernel_rfl) (fun K hK => ?_)
  rw [if_pos (by rfl)]
  go_wp2_with (go_at_call 23; refine (data_c [57, 57, 57] [32, 55] 113 [122] _).mono ?_; rintro e W5 ⟨rfl, hx5, hb5, hz5⟩)
  clear hz5
  have hS5 := hS0.below hb5
  have hZ := DataPost.fld hx5
  refine hK _ _ (fun _ => hS5) ?_
  clear hK
  refine wpAnyC_step (k := 4) rfl (by kernel_rfl) (fun K hK => ?_)
  rw [if_pos (by rfl)]
  go_wp2_with (go_at_call 23; refine (data_c [49, 97, 50] [32, 32] 97 [98] _).mono ?_; rintro e W6 ⟨rfl, hx6, hb6, hz6⟩)
  clear hz6
  have hS6 := hS5.below hb6
  have hZ6 := hZ.below hb6 (Nat.le_refl _)
  have hY6 := DataPost.fld hx6
  refine hK _ _ (fun _ => hS6) ?_
  clear hK
  refine wpAnyC_step (k := 5) rfl (by kernel_rfl) (fun K hK => ?_)
  rw [if_pos (by rfl)]
  go_wp2_with fail
  refine hK _ _ (fun _ => hS6.below (below_new W6 _)) ?_
  clear hK
  refine wpAnyC_step (k := 6) rfl (by kernel_rfl) (fun K hK => ?_)
  rw [if_pos (by rfl)]
  go_wp2_with fail
  refine hK _ _ (fun _ => hS6.below (below_new W6 _)) ?_
  clear hK
  refine wpAnyC_step (k := 7) rfl (by kernel_rfl) (fun K hK => ?_)
  rw [if_pos (by rfl)]
  go_wp2_with (go_at_call 18; refine ((hS6.below (below_new W6 _)).checkC (hZ6.below (below_new W6 _) (Nat.le_refl _)) (hY6.below (below_new W6 _) (Nat.le_refl _)) (new_at W6 _)).mono ?_; rintro e W8 ⟨pa3, pc3, rfl, hpC, hb8⟩)
  have hS8 := hS6.below (below_tr (below_new W6 _) hb8)
  refine hK _ _ (fun _ => hS8) ?_
  clear hK
  refine wpAnyC_step (k := 8) rfl (by kernel_rfl) (fun K hK => ?_)
  rw [if_pos (by rfl)]
  go_wp2_with fail
  refine hK _ _ (fun h => absurd (of_decide_eq_true h) (by decide)) ?_
  clear hK
  refine wpAnyC_done (by kernel_rfl) ?_
  have hbb := below_tr (below_tr (below_tr (below_tr (Below.refl _ _).drew hb5) hb6) (below_new W6 _)) hb8
  have HC := Lib.hid (HC.out.below hbb)
  have HA := Lib.hid (HA.out.below hbb (Nat.le_refl _))
  have HB := Lib.hid (HB.out.below hbb (Nat.le_refl _))
  have HD := Lib.hid hpC
  clear hS0 hS5 hS6 hS8 hbb hpC hb5 hb6 hx5 hx6 hb8 hZ hZ6 hY6
  go_wp2_with fail
  refine (std_none HC.out.std).mono ?_
  rintro e W9 ⟨pa4, pc4, rfl, hpD, hb9⟩
  have HC := Lib.hid (HC.out.below hb9)
  have HA := Lib.hid (HA.out.below hb9 (Nat.le_refl _))
  have HB := Lib.hid (HB.out.below hb9 (Nat.le_refl _))
  have HD := Lib.hid (HD.out.below hb9 (Nat.le_refl _))
  have HE := Lib.hid hpD
  clear hpD hb9
  obtain ⟨W10, hW10⟩ : ∃ x, W9.alloc (.cells #[.int .i64 (-1), .int .i64 21] 54) = x := ⟨_, rfl⟩
  have hb10 : Below W9.heap.size W9 W10 := by rw [← hW10]; exact below_new _ _
  have hp10 : W10.heap[W9.heap.size]? = some (.cells #[.int .i64 (-1), .int .i64 21] 54 (0, 0)) := by rw [← hW10]; exact new_at _ _
  have p0 : W10.cell? ⟨W9.heap.size, 0, none⟩ = some (.int .i64 (-1)) := by rw [cell_at hp10]; rfl
  have p1 : W10.cell? ⟨W9.heap.size, 1, none⟩ = some (.int .i64 21) := by rw [cell_at hp10]; rfl
  have HC := Lib.hid (HC.out.below hb10)
  have HB := Lib.hid (HB.out.below hb10 (Nat.le_refl _))
  have HD := Lib.hid (HD.out.below hb10 (Nat.le_refl _))
  have HE := Lib.hid (HE.out.below hb10 (Nat.le_refl _))
  clear hb10 hp10
  obtain ⟨⟨i0, i1, i2, i3⟩, ⟨e0, e1, e2, e3⟩, d0, d1, d2, d3⟩ := HC.out.cells
  go_wp2_with fail
  clear hW10 i0 i1 i2 i3 e0 e1 e2 e3 d0 d1 d2 d3
  refine ((HC.out.below (below_new W10 _)).checkA (new_at W10 _)).2.mono ?_
  rintro e W11 ⟨rfl, hb11⟩
  have hbb := below_tr (below_new W10 _) hb11
  have p0 := cell_below hbb (Nat.le_refl _) p0
  have p1 := cell_below hbb (Nat.le_refl _) p1
  have HC := Lib.hid (HC.out.below hbb)
  have HB := Lib.hid (HB.out.below hbb (Nat.le_refl _))
  have HD := Lib.hid (HD.out.below hbb (Nat.le_refl _))
  have HE := Lib.hid (HE.out.below hbb (Nat.le_refl _))
  clear hbb hb11
  go_wp2_with fail
  refine (same_t [(1, 22), (-1, 21)] _ _ _ (HB.out.below (below_new W11 _) (Nat.le_refl _)) (lit_prob [(1, 22), (-1, 21)] (by show 2 ≤ maxLen; decide) (new_at W11 _))).mono ?_
  rintro e W12 ⟨rfl, hb12⟩
  have hbb := below_tr (below_new W11 _) hb12
  have p0 := cell_below hbb (Nat.le_refl _) p0
  have p1 := cell_below hbb (Nat.le_refl _) p1
  have HC := Lib.hid (HC.out.below hbb)
  have HD := Lib.hid (HD.out.below hbb (Nat.le_refl _))
  have HE := Lib.hid (HE.out.below hbb (Nat.le_refl _))
  clear hbb hb12 HB
  go_wp2_with fail
  refine (same_t [(1, 22), (3, 20)] _ _ _ (HD.out.below (below_new W12 _) (Nat.le_refl _)) (lit_prob [(1, 22), (3, 20)] (by show 2 ≤ maxLen; decide) (new_at W12 _))).mono ?_
  rintro e W13 ⟨rfl, hb13⟩
  have hbb := below_tr (below_new W12 _) hb13
  have p0 := cell_below hbb (Nat.le_refl _) p0
  have p1 := cell_below hbb (Nat.le_refl _) p1
  have HC := Lib.hid (HC.out.below hbb)
  have HE := Lib.hid (HE.out.below hbb (Nat.le_refl _))
  clear hbb hb13 HD
  go_wp2_with fail
  refine (same_t [(-1, 21), (-1, 21)] _ _ _ (HE.out.below (below_new W13 _) (Nat.le_refl _)) (lit_prob [(-1, 21), (-1, 21)] (by show 2 ≤ maxLen; decide) (new_at W13 _))).mono ?_
  rintro e W14 ⟨rfl, hb14⟩
  have hbb := below_tr (below_new W13 _) hb14
  have HC := Lib.hid (HC.out.below hbb)
  clear hbb hb14 HE
  go_wp2
  go_ret
  exact ⟨rfl, HC.out.bel⟩
end Go.Proofs.Ytfccpepmjklodaa
