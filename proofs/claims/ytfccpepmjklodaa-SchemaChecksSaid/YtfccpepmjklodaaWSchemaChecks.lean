/-
  The walk of SchemaChecks.
-/
import Derived.Test.YtfccpepmjklodaaSChk
import Derived.Deep.Cut
namespace Go.Proofs.Ytfccpepmjklodaa
open Go.RowKit Go.Shelf
set_option linter.unusedVariables false
set_option linter.unusedSimpArgs false

/-- A record in a variable. -/
structure RecS (w W : World) (xb : Nat) (fv : Value) (r : RecM) : Prop where
  bel : Below w.heap.size w W
  box : W.heap[xb]? = some (.cells #[.int .u8 (r.kind.toNat : Int), .int .u8 (r.level.toNat : Int), fv] 32 (0, 0))
  flds : FldsAt W fv r.fields
theorem RecS.below {w W W' : World} {xb : Nat} {fv : Value} {r : RecM} (h : RecS w W xb fv r) (hb : Below W.heap.size W W') : RecS w W' xb fv r := ⟨below_tr h.bel hb, heap_below hb (Nat.le_refl _) h.box, h.flds.below hb (Nat.le_refl _)⟩
theorem RecS.cells {w W : World} {xb : Nat} {fv : Value} {r : RecM} (h : RecS w W xb fv r) : W.cell? ⟨xb, 0, none⟩ = some (.int .u8 (r.kind.toNat : Int)) ∧ W.cell? ⟨xb, 1, none⟩ = some (.int .u8 (r.level.toNat : Int)) ∧ W.cell? ⟨xb, 2, none⟩ = some fv := by
  simp only [cell_at h.box]
  exact ⟨rfl, rfl, rfl⟩
set_option maxRecDepth 100000 in
set_option maxHeartbeats 20000000 in
theorem walk_SchemaChecks (v : Value) (l : List (Int × Int × Int × Int)) (x0 x1 x2 y0 y1 y2 : Int) (w0 : World) (hv : ReadsQ w0 v l) (fx0 : Fits x0) (fx1 : Fits x1) (fx2 : Fits x2) (fy0 : Fits y0) (fy1 : Fits y1) (fy2 : Fits y2) :
    Calls Try.prog 4 #[v, .agg #[.int .i64 x0, .int .i64 x1, .int .i64 x2], .agg #[.int .i64 y0, .int .i64 y1, .int .i64 y2]] w0 (fun e w' => e = .returned (.bool true) ∧ Below w0.heap.size w0 w') := by
  obtain ⟨w, hw⟩ : ∃ w, w0 = w := ⟨_, rfl⟩
  rw [hw] at hv ⊢
  clear hw
  obtain ⟨a, cap, rfl, -⟩ := id hv.slice
  obtain ⟨W1, hW1⟩ : ∃ W1, w.alloc (.cells #[.int .i64 x0, .int .i64 x1, .int .i64 x2] 29) = W1 := ⟨_, rfl⟩
  have hs1 : W1.heap.size = w.heap.size + 1 := by rw [← hW1]; simp
  have hb1 : Below w.heap.size w W1 := by rw [← hW1]; exact below_new _ _
  have hn1 : W1.heap[w.heap.size]? = some (.cells #[.int .i64 x0, .int .i64 x1, .int .i64 x2] 29 (0, 0)) := by rw [← hW1]; exact new_at _ _
  obtain ⟨W2, hW2⟩ : ∃ W2, W1.alloc (.cells #[.int .i64 y0, .int .i64 y1, .int .i64 y2] 29) = W2 := ⟨_, rfl⟩
  have hb2 : Below W1.heap.size W1 W2 := by rw [← hW2]; exact below_new _ _
  have hn2 : W2.heap[w.heap.size + 1]? = some (.cells #[.int .i64 y0, .int .i64 y1, .int .i64 y2] 29 (0, 0)) := by rw [← hW2, ← hs1]; exact new_at _ _
  have hA2 : ArgW w W2 (.slice a l.length cap) l w.heap.size (w.heap.size + 1) x0 x1 x2 y0 y1 y2 := ⟨below_tr hb1 hb2, (hv.below hb1 (Nat.le_refl _)).below hb2 (Nat.le_refl _), heap_below hb2 (Nat.le_refl _) hn1, hn2⟩
  have HA := Lib.hid hA2
  have HS := Lib.hid (sanity_c W2)
  obtain ⟨r, hr⟩ : ∃ r, r = bentM (bentM (madeM l) x0 x1 x2) y0 y1 y2 := ⟨_, rfl⟩
  have Hr := Lib.hid hr
  have hsm1 : Small 4 (bentM (madeM l) x0 x1 x2) := bent_small (by decide) (made_small l)
  have hsm : Small 5 r := by rw [hr]; exact bent_small (by decide) hsm1
  have Hsm1 := Lib.hid hsm1
  have Hsm := Lib.hid hsm
  clear hb1 hn1 hb2 hn2 hA2 hv hr hsm hsm1
  go_enter Try.func4, Try.ntmps4
  go_wp2_with fail
  refine HS.out.mono ?_
  rintro e w4 ⟨rfl, hb4⟩
  have HA := Lib.hid (HA.out.below hb4)
  clear HS hb4 hW1 hW2 hs1
  go_wp2_with fail
  go_cut [8] from 11 to 16 (fun s8 wx => VarR w r s8 wx)
  case first =>
    obtain ⟨W0, hW0⟩ : ∃ x, w4.drew = x := ⟨_, rfl⟩
    have hS0 : ArgW w W0 (.slice a l.length cap) l w.heap.size (w.heap.size + 1) x0 x1 x2 y0 y1 y2 := by rw [← hW0]; exact HA.out.below (Below.refl _ _).drew
    refine wp_region_C 7 8 (fun w' => ArgW w w' (.slice a l.length cap) l w.heap.size (w.heap.size + 1) x0 x1 x2 y0 y1 y2) rfl rfl ?_
    rw [hW0]
    clear hW0 HA
    refine wpAnyC_takeD 0 11 (.slice a l.length cap) rfl rfl rfl (by kernel_rfl) (by kernel_rfl) (by kernel_rfl) (by kernel_rfl) (fun _ _ _ h => h) (fun w9 hw9 => ?_) hS0 ?_
    · obtain ⟨⟨z0, z1, z2⟩, u0, u1, u2⟩ := hw9.cells
      simp only [List.getElem_toArray, List.getElem_cons_zero, List.getElem_cons_succ]
      go_simp
    simp only [Act.put, List.setIfInBounds_toArray, List.set_cons_zero, List.set_cons_succ]
    refine wpAnyC_takeD 2 13 (.agg #[.int .i64 x0, .int .i64 x1, .int .i64 x2]) rfl rfl rfl (by kernel_rfl) (by kernel_rfl) (by kernel_rfl) (by kernel_rfl) (fun _ _ _ h => h) (fun w9 hw9 => ?_) hS0 ?_
    · obtain ⟨⟨z0, z1, z2⟩, u0, u1, u2⟩ := hw9.cells
      simp only [List.getElem_toArray, List.getElem_cons_zero, List.getElem_cons_succ]
      go_simp
    simp only [Act.put, List.setIfInBounds_toArray, List.set_cons_zero, List.set_cons_succ]
    refine wpAnyC_takeD 4 15 (.agg #[.int .i64 y0, .int .i64 y1, .int .i64 y2]) rfl rfl rfl (by kernel_rfl) (by kernel_rfl) (by kernel_rfl) (by kernel_rfl) (fun _ _ _ h => h) (fun w9 hw9 => ?_) hS0 ?_
    · obtain ⟨⟨z0, z1, z2⟩, u0, u1, u2⟩ := hw9.cells
      simp only [List.getElem_toArray, List.getElem_cons_zero, List.getElem_cons_succ]
      go_simp
    simp only [Act.put, List.setIfInBounds_toArray, List.set_cons_zero, List.set_cons_succ]
    refine wpAnyC_two (i := 1) (j := 6) rfl rfl (by kernel_rfl) (fun K hK => ?_) (fun K hK => ?_)
    · skip
      rw [if_pos (by rfl)]
      go_wp2_with (go_at_call 15; refine (made_v hS0.rd).mono ?_; rintro e V1 ⟨qV1, rfl, nV1, mV1⟩)
      have A1 := hS0.below mV1
      clear hS0
      refine hK _ _ (fun _ => A1) ?_
      clear hK mV1
      refine wpAnyC_two (i := 3) (j := 6) rfl rfl (by kernel_rfl) (fun K hK => ?_) (fun K hK => ?_)
      · skip
        rw [if_pos (by rfl)]
        go_wp2_with (go_at_call 14; refine (bent_v (r := madeM l) nV1 (made_small l) (by decide) fx0 fx1 fx2).mono ?_; rintro e V2 ⟨qV2, rfl, nV2, mV2⟩)
        have A2 := A1.below mV2
        have h_2 := nV1.below mV2 (Nat.le_refl _)
        clear A1 nV1
        clear h_2
        refine hK _ _ (fun _ => A2) ?_
        clear hK mV2
        refine wpAnyC_two (i := 5) (j := 6) rfl rfl (by kernel_rfl) (fun K hK => ?_) (fun K hK => ?_)
        · skip
          rw [if_pos (by rfl)]
          go_wp2_with (go_at_call 14; refine (bent_v (r := bentM (madeM l) x0 x1 x2) nV2 Hsm1.out (by decide) fy0 fy1 fy2).mono ?_; rintro e V3 ⟨qV3, rfl, nV3, mV3⟩)
          have A3 := A2.below mV3
          have h_3 := nV2.below mV3 (Nat.le_refl _)
          clear A2 nV2
          clear h_3
          obtain ⟨fa, fc, rfl⟩ := FldsAt.slice' nV3
          refine hK _ _ (fun _ => A3) ?_
          clear hK mV3
          refine wpAnyC_step (k := 6) rfl (by kernel_rfl) (fun K hK => ?_)
          rw [if_pos (by rfl)]
          go_wp2_with fail
          obtain ⟨V4, hV4⟩ : ∃ x, V3.alloc (.cells #[.int .u8 0, .int .u8 0, .slice none 0 0] 32) = x := ⟨_, rfl⟩
          have mV4 : Below V3.heap.size V3 V4 := by rw [← hV4]; exact below_new _ _
          have nV4 : V4.heap[V3.heap.size]? = some (.cells #[.int .u8 0, .int .u8 0, .slice none 0 0] 32 (0, 0)) := by rw [← hV4]; exact new_at _ _
          have lV4 : w.heap.size ≤ V3.heap.size := A3.bel.size
          rw [hV4]
          have A4 := A3.below mV4
          have h_4 := nV3.below mV4 (Nat.le_refl _)
          clear A3 nV3
          refine hK _ _ (fun _ => A4) ?_
          clear hK mV4 hV4
          refine wpAnyC_step (k := 7) rfl (by kernel_rfl) (fun K hK => ?_)
          rw [if_pos (by rfl)]
          rw [← Hr.out] at h_4 ⊢
          obtain ⟨⟨r0, f0⟩, ⟨r1, f1⟩, ⟨r2, f2⟩, -⟩ := rec_put nV4 (.int .u8 (r.kind.toNat : Int)) (.int .u8 (r.level.toNat : Int)) (.slice fa r.fields.length fc)
          go_wp2_with fail
          refine hK _ _ (fun h => absurd (of_decide_eq_true h) (by decide)) ?_
          clear hK
          refine wpAnyC_done (by kernel_rfl) ?_
          clear r0 f0 r1 f1 r2 f2
          have HE := Lib.hid (var_put A4.bel lV4 nV4 h_4)
          go_wp2
          go_meet
          case rel => exact HE.out
        · skip
          rw [if_pos (by rfl)]
          go_wp2_with fail
          obtain ⟨V5, hV5⟩ : ∃ x, V2.alloc (.cells #[.int .u8 0, .int .u8 0, .slice none 0 0] 32) = x := ⟨_, rfl⟩
          have mV5 : Below V2.heap.size V2 V5 := by rw [← hV5]; exact below_new _ _
          have nV5 : V5.heap[V2.heap.size]? = some (.cells #[.int .u8 0, .int .u8 0, .slice none 0 0] 32 (0, 0)) := by rw [← hV5]; exact new_at _ _
          have lV5 : w.heap.size ≤ V2.heap.size := A2.bel.size
          rw [hV5]
          have A5 := A2.below mV5
          have h_5 := nV2.below mV5 (Nat.le_refl _)
          clear A2 nV2
          refine hK _ _ (fun _ => A5) ?_
          clear hK mV5 hV5
          refine wpAnyC_step (k := 5) rfl (by kernel_rfl) (fun K hK => ?_)
          rw [if_pos (by rfl)]
          go_wp2_with (go_at_call 14; refine (bent_v (r := bentM (madeM l) x0 x1 x2) h_5 Hsm1.out (by decide) fy0 fy1 fy2).mono ?_; rintro e V6 ⟨qV6, rfl, nV6, mV6⟩)
          have A6 := A5.below mV6
          have h_6 := h_5.below mV6 (Nat.le_refl _)
          have x_6 := heap_below mV6 (Nat.le_refl _) nV5
          clear A5 h_5 nV5
          clear h_6
          obtain ⟨fa, fc, rfl⟩ := FldsAt.slice' nV6
          refine hK _ _ (fun _ => A6) ?_
          clear hK mV6
          refine wpAnyC_step (k := 7) rfl (by kernel_rfl) (fun K hK => ?_)
          rw [if_pos (by rfl)]
          rw [← Hr.out] at nV6 ⊢
          obtain ⟨⟨r0, f0⟩, ⟨r1, f1⟩, ⟨r2, f2⟩, -⟩ := rec_put x_6 (.int .u8 (r.kind.toNat : Int)) (.int .u8 (r.level.toNat : Int)) (.slice fa r.fields.length fc)
          go_wp2_with fail
          refine hK _ _ (fun h => absurd (of_decide_eq_true h) (by decide)) ?_
          clear hK
          refine wpAnyC_done (by kernel_rfl) ?_
          clear r0 f0 r1 f1 r2 f2
          have HE := Lib.hid (var_put A6.bel lV5 x_6 nV6)
          go_wp2
          go_meet
          case rel => exact HE.out
      · skip
        rw [if_pos (by rfl)]
        go_wp2_with fail
        obtain ⟨V7, hV7⟩ : ∃ x, V1.alloc (.cells #[.int .u8 0, .int .u8 0, .slice none 0 0] 32) = x := ⟨_, rfl⟩
        have mV7 : Below V1.heap.size V1 V7 := by rw [← hV7]; exact below_new _ _
        have nV7 : V7.heap[V1.heap.size]? = some (.cells #[.int .u8 0, .int .u8 0, .slice none 0 0] 32 (0, 0)) := by rw [← hV7]; exact new_at _ _
        have lV7 : w.heap.size ≤ V1.heap.size := A1.bel.size
        rw [hV7]
        have A7 := A1.below mV7
        have h_7 := nV1.below mV7 (Nat.le_refl _)
        clear A1 nV1
        refine hK _ _ (fun _ => A7) ?_
        clear hK mV7 hV7
        refine wpAnyC_step (k := 3) rfl (by kernel_rfl) (fun K hK => ?_)
        rw [if_pos (by rfl)]
        go_wp2_with (go_at_call 14; refine (bent_v (r := madeM l) h_7 (made_small l) (by decide) fx0 fx1 fx2).mono ?_; rintro e V8 ⟨qV8, rfl, nV8, mV8⟩)
        have A8 := A7.below mV8
        have h_8 := h_7.below mV8 (Nat.le_refl _)
        have x_8 := heap_below mV8 (Nat.le_refl _) nV7
        clear A7 h_7 nV7
        clear h_8
        refine hK _ _ (fun _ => A8) ?_
        clear hK mV8
        refine wpAnyC_step (k := 5) rfl (by kernel_rfl) (fun K hK => ?_)
        rw [if_pos (by rfl)]
        go_wp2_with (go_at_call 14; refine (bent_v (r := bentM (madeM l) x0 x1 x2) nV8 Hsm1.out (by decide) fy0 fy1 fy2).mono ?_; rintro e V9 ⟨qV9, rfl, nV9, mV9⟩)
        have A9 := A8.below mV9
        have h_9 := nV8.below mV9 (Nat.le_refl _)
        have x_9 := heap_below mV9 (Nat.le_refl _) x_8
        clear A8 nV8 x_8
        clear h_9
        obtain ⟨fa, fc, rfl⟩ := FldsAt.slice' nV9
        refine hK _ _ (fun _ => A9) ?_
        clear hK mV9
        refine wpAnyC_step (k := 7) rfl (by kernel_rfl) (fun K hK => ?_)
        rw [if_pos (by rfl)]
        rw [← Hr.out] at nV9 ⊢
        obtain ⟨⟨r0, f0⟩, ⟨r1, f1⟩, ⟨r2, f2⟩, -⟩ := rec_put x_9 (.int .u8 (r.kind.toNat : Int)) (.int .u8 (r.level.toNat : Int)) (.slice fa r.fields.length fc)
        go_wp2_with fail
        refine hK _ _ (fun h => absurd (of_decide_eq_true h) (by decide)) ?_
        clear hK
        refine wpAnyC_done (by kernel_rfl) ?_
        clear r0 f0 r1 f1 r2 f2
        have HE := Lib.hid (var_put A9.bel lV7 x_9 nV9)
        go_wp2
        go_meet
        case rel => exact HE.out
    · skip
      rw [if_pos (by rfl)]
      go_wp2_with fail
      obtain ⟨V10, hV10⟩ : ∃ x, W0.alloc (.cells #[.int .u8 0, .int .u8 0, .slice none 0 0] 32) = x := ⟨_, rfl⟩
      have mV10 : Below W0.heap.size W0 V10 := by rw [← hV10]; exact below_new _ _
      have nV10 : V10.heap[W0.heap.size]? = some (.cells #[.int .u8 0, .int .u8 0, .slice none 0 0] 32 (0, 0)) := by rw [← hV10]; exact new_at _ _
      have lV10 : w.heap.size ≤ W0.heap.size := hS0.bel.size
      rw [hV10]
      have A10 := hS0.below mV10
      clear hS0
      refine hK _ _ (fun _ => A10) ?_
      clear hK mV10 hV10
      refine wpAnyC_step (k := 1) rfl (by kernel_rfl) (fun K hK => ?_)
      rw [if_pos (by rfl)]
      go_wp2_with (go_at_call 15; refine (made_v A10.rd).mono ?_; rintro e V11 ⟨qV11, rfl, nV11, mV11⟩)
      have A11 := A10.below mV11
      have x_11 := heap_below mV11 (Nat.le_refl _) nV10
      clear A10 nV10
      refine hK _ _ (fun _ => A11) ?_
      clear hK mV11
      refine wpAnyC_step (k := 3) rfl (by kernel_rfl) (fun K hK => ?_)
      rw [if_pos (by rfl)]
      go_wp2_with (go_at_call 14; refine (bent_v (r := madeM l) nV11 (made_small l) (by decide) fx0 fx1 fx2).mono ?_; rintro e V12 ⟨qV12, rfl, nV12, mV12⟩)
      have A12 := A11.below mV12
      have h_12 := nV11.below mV12 (Nat.le_refl _)
      have x_12 := heap_below mV12 (Nat.le_refl _) x_11
      clear A11 nV11 x_11
      clear h_12
      refine hK _ _ (fun _ => A12) ?_
      clear hK mV12
      refine wpAnyC_step (k := 5) rfl (by kernel_rfl) (fun K hK => ?_)
      rw [if_pos (by rfl)]
      go_wp2_with (go_at_call 14; refine (bent_v (r := bentM (madeM l) x0 x1 x2) nV12 Hsm1.out (by decide) fy0 fy1 fy2).mono ?_; rintro e V13 ⟨qV13, rfl, nV13, mV13⟩)
      have A13 := A12.below mV13
      have h_13 := nV12.below mV13 (Nat.le_refl _)
      have x_13 := heap_below mV13 (Nat.le_refl _) x_12
      clear A12 nV12 x_12
      clear h_13
      obtain ⟨fa, fc, rfl⟩ := FldsAt.slice' nV13
      refine hK _ _ (fun _ => A13) ?_
      clear hK mV13
      refine wpAnyC_step (k := 7) rfl (by kernel_rfl) (fun K hK => ?_)
      rw [if_pos (by rfl)]
      rw [← Hr.out] at nV13 ⊢
      obtain ⟨⟨r0, f0⟩, ⟨r1, f1⟩, ⟨r2, f2⟩, -⟩ := rec_put x_13 (.int .u8 (r.kind.toNat : Int)) (.int .u8 (r.level.toNat : Int)) (.slice fa r.fields.length fc)
      go_wp2_with fail
      refine hK _ _ (fun h => absurd (of_decide_eq_true h) (by decide)) ?_
      clear hK
      refine wpAnyC_done (by kernel_rfl) ?_
      clear r0 f0 r1 f1 r2 f2
      have HE := Lib.hid (var_put A13.bel lV10 x_13 nV13)
      go_wp2
      go_meet
      case rel => exact HE.out
  case rest =>
    obtain ⟨xb, fv, rfl, hbel, hxb, hx, hf⟩ := hcut
    have hR : RecS w wc xb fv r := ⟨hbel, hx, hf⟩
    have HR := Lib.hid hR
    clear hbel hx hf hR HA
    go_wp2_with fail
    obtain ⟨W0, hW0⟩ : ∃ x, wc.drew = x := ⟨_, rfl⟩
    have hS0 : RecS w W0 xb fv r := by rw [← hW0]; exact HR.out.below (Below.refl _ _).drew
    refine wp_region_C 4 4 (fun w' => RecS w w' xb fv r) rfl rfl ?_
    rw [hW0]
    clear hW0 HR
    refine wpAnyC_takeD 1 18 (.agg #[.int .u8 (r.kind.toNat : Int), .int .u8 (r.level.toNat : Int), fv]) rfl rfl rfl (by kernel_rfl) (by kernel_rfl) (by kernel_rfl) (by kernel_rfl) (fun _ _ _ h => h) (fun w9 hw9 => ?_) hS0 ?_
    · obtain ⟨z0, z1, z2⟩ := hw9.cells
      simp only [List.getElem_toArray, List.getElem_cons_zero, List.getElem_cons_succ]
      go_simp
    simp only [Act.put, List.setIfInBounds_toArray, List.set_cons_zero, List.set_cons_succ]
    refine wpAnyC_step (k := 0) rfl (by kernel_rfl) (fun K hK => ?_)
    rw [if_pos (by rfl)]
    go_wp2_with (go_at_call 13; refine (refStandard_c _).mono ?_; rintro e X1 ⟨bb, rfl, hl1, hs1, hb1⟩)
    have hS1 := hS0.below hb1
    refine hK _ _ (fun _ => hS1) ?_
    clear hK hb1 hl1 hS0
    refine wpAnyC_step (k := 2) rfl (by kernel_rfl) (fun K hK => ?_)
    rw [if_pos (by rfl)]
    go_wp2_with (go_at_call 16; refine (std_checks hs1 hS1.flds Hsm.out).2.1.mono ?_; rintro e X2 ⟨pa, pc, rfl, hp, hb2⟩)
    have hS2 := hS1.below hb2
    refine hK _ _ (fun _ => hS2) ?_
    clear hK hb2 hs1 hS1
    refine wpAnyC_step (k := 3) rfl (by kernel_rfl) (fun K hK => ?_)
    rw [if_pos (by rfl)]
    go_wp2_with fail
    refine hK _ _ (fun _ => hS2) ?_
    clear hK
    refine wpAnyC_done (by kernel_rfl) ?_
    have HR := Lib.hid hS2
    have HP := Lib.hid hp
    clear hS2 hp
    go_wp2_with fail
    obtain ⟨W0, hW0⟩ : ∃ x, X2.drew = x := ⟨_, rfl⟩
    have hS0 : RecS w W0 xb fv r := by rw [← hW0]; exact HR.out.below (Below.refl _ _).drew
    have hp := HP.out.below (show Below X2.heap.size X2 W0 by rw [← hW0]; exact (Below.refl _ _).drew) (Nat.le_refl _)
    refine wp_region_C 18 18 (fun w' => RecS w w' xb fv r) rfl rfl ?_
    rw [hW0]
    clear hW0 HR HP
    refine wpAnyC_takeD 0 20 (.bool true) rfl rfl rfl (by kernel_rfl) (by kernel_rfl) (by kernel_rfl) (by kernel_rfl) (fun _ _ _ h => h) (fun w9 hw9 => ?_) hS0 ?_
    · obtain ⟨z0, z1, z2⟩ := hw9.cells
      simp only [List.getElem_toArray, List.getElem_cons_zero, List.getElem_cons_succ]
      go_simp
    simp only [Act.put, List.setIfInBounds_toArray, List.set_cons_zero, List.set_cons_succ]
    refine wpAnyC_takeD 1 21 (.bool true) rfl rfl rfl (by kernel_rfl) (by kernel_rfl) (by kernel_rfl) (by kernel_rfl) (fun _ _ _ h => h) (fun w9 hw9 => ?_) hS0 ?_
    · obtain ⟨z0, z1, z2⟩ := hw9.cells
      simp only [List.getElem_toArray, List.getElem_cons_zero, List.getElem_cons_succ]
      go_simp
    simp only [Act.put, List.setIfInBounds_toArray, List.set_cons_zero, List.set_cons_succ]
    refine wpAnyC_takeG 3 23 (.agg #[.int .u8 (r.kind.toNat : Int), .int .u8 (r.level.toNat : Int), fv]) rfl rfl (by rfl) (by kernel_rfl) (by kernel_rfl) (by kernel_rfl) (by kernel_rfl) (fun _ _ _ h => h) (fun w9 hw9 => ?_) hS0 ?_
    · obtain ⟨z0, z1, z2⟩ := hw9.cells
      simp only [List.getElem_toArray, List.getElem_cons_zero, List.getElem_cons_succ]
      go_simp
    simp only [Act.put, List.setIfInBounds_toArray, List.set_cons_zero, List.set_cons_succ]
    refine wpAnyC_takeG 5 25 (.slice pa (checkS stdR r.fields).length pc) rfl rfl (by rfl) (by kernel_rfl) (by kernel_rfl) (by kernel_rfl) (by kernel_rfl) (fun _ _ _ h => h) (fun w9 hw9 => ?_) hS0 ?_
    · obtain ⟨z0, z1, z2⟩ := hw9.cells
      simp only [List.getElem_toArray, List.getElem_cons_zero, List.getElem_cons_succ]
      go_simp
    simp only [Act.put, List.setIfInBounds_toArray, List.set_cons_zero, List.set_cons_succ]
    refine wpAnyC_step (k := 2) rfl (by kernel_rfl) (fun K hK => ?_)
    rw [if_pos (by rfl)]
    go_wp2_with (go_at_call 12; refine (standard_c _).mono ?_; rintro e Y1 ⟨rfl, hs1, hb1⟩)
    have hS1 := hS0.below hb1
    have hp := hp.below hb1 (Nat.le_refl _)
    refine hK _ _ (fun _ => hS1) ?_
    clear hK hb1 hS0
    refine wpAnyC_step (k := 4) rfl (by kernel_rfl) (fun K hK => ?_)
    rw [if_pos (by rfl)]
    go_wp2_with (go_at_call 18; refine (std_checks hs1 hS1.flds Hsm.out).1.mono ?_; rintro e Y2 ⟨pa2, pc2, rfl, hp2, hb2⟩)
    have hS2 := hS1.below hb2
    have hp := hp.below hb2 (Nat.le_refl _)
    refine hK _ _ (fun _ => hS2) ?_
    clear hK hb2 hs1 hS1
    refine wpAnyC_step (k := 6) rfl (by kernel_rfl) (fun K hK => ?_)
    rw [if_pos (by rfl)]
    go_wp2_with (go_at_call 17; refine (same_t (checkS stdR r.fields) _ _ _ hp2 hp).mono ?_; rintro e Y3 ⟨rfl, hb3⟩)
    have hS3 := hS2.below hb3
    refine hK _ _ (fun _ => hS3) ?_
    clear hK hb3 hS2 hp hp2
    refine wpAnyC_takeD 7 27 (.bool true) rfl rfl rfl (by kernel_rfl) (by kernel_rfl) (by kernel_rfl) (by kernel_rfl) (fun _ _ _ h => h) (fun w9 hw9 => ?_) hS3 ?_
    · obtain ⟨z0, z1, z2⟩ := hw9.cells
      simp only [List.getElem_toArray, List.getElem_cons_zero, List.getElem_cons_succ]
      go_simp
    simp only [Act.put, List.setIfInBounds_toArray, List.set_cons_zero, List.set_cons_succ]
    refine wpAnyC_takeD 8 28 (.bool true) rfl rfl rfl (by kernel_rfl) (by kernel_rfl) (by kernel_rfl) (by kernel_rfl) (fun _ _ _ h => h) (fun w9 hw9 => ?_) hS3 ?_
    · obtain ⟨z0, z1, z2⟩ := hw9.cells
      simp only [List.getElem_toArray, List.getElem_cons_zero, List.getElem_cons_succ]
      go_simp
    simp only [Act.put, List.setIfInBounds_toArray, List.set_cons_zero, List.set_cons_succ]
    refine wpAnyC_takeG 10 30 (.agg #[.int .u8 (r.kind.toNat : Int), .int .u8 (r.level.toNat : Int), fv]) rfl rfl (by rfl) (by kernel_rfl) (by kernel_rfl) (by kernel_rfl) (by kernel_rfl) (fun _ _ _ h => h) (fun w9 hw9 => ?_) hS3 ?_
    · obtain ⟨z0, z1, z2⟩ := hw9.cells
      simp only [List.getElem_toArray, List.getElem_cons_zero, List.getElem_cons_succ]
      go_simp
    simp only [Act.put, List.setIfInBounds_toArray, List.set_cons_zero, List.set_cons_succ]
    refine wpAnyC_takeG 12 32 (.slice pa (checkS stdR r.fields).length pc) rfl rfl (by rfl) (by kernel_rfl) (by kernel_rfl) (by kernel_rfl) (by kernel_rfl) (fun _ _ _ h => h) (fun w9 hw9 => ?_) hS3 ?_
    · obtain ⟨z0, z1, z2⟩ := hw9.cells
      simp only [List.getElem_toArray, List.getElem_cons_zero, List.getElem_cons_succ]
      go_simp
    simp only [Act.put, List.setIfInBounds_toArray, List.set_cons_zero, List.set_cons_succ]
    refine wpAnyC_takeG 13 33 (.int .i64 (checkS stdR r.fields).length) rfl rfl (by rfl) (by kernel_rfl) (by kernel_rfl) (by kernel_rfl) (by kernel_rfl) (fun _ _ _ h => h) (fun w9 hw9 => ?_) hS3 ?_
    · obtain ⟨z0, z1, z2⟩ := hw9.cells
      simp only [List.getElem_toArray, List.getElem_cons_zero, List.getElem_cons_succ]
      go_simp
    simp only [Act.put, List.setIfInBounds_toArray, List.set_cons_zero, List.set_cons_succ]
    refine wpAnyC_takeG 14 34 (.bool (((checkS stdR r.fields).length : Int) == 0)) rfl rfl (by rfl) (by kernel_rfl) (by kernel_rfl) (by kernel_rfl) (by kernel_rfl) (fun _ _ _ h => h) (fun w9 hw9 => ?_) hS3 ?_
    · obtain ⟨z0, z1, z2⟩ := hw9.cells
      simp only [List.getElem_toArray, List.getElem_cons_zero, List.getElem_cons_succ]
      go_simp
    simp only [Act.put, List.setIfInBounds_toArray, List.set_cons_zero, List.set_cons_succ]
    refine wpAnyC_step (k := 9) rfl (by kernel_rfl) (fun K hK => ?_)
    rw [if_pos (by rfl)]
    go_wp2_with (go_at_call 12; refine (standard_c _).mono ?_; rintro e Y4 ⟨rfl, hs4, hb4⟩)
    have hS4 := hS3.below hb4
    refine hK _ _ (fun _ => hS4) ?_
    clear hK hb4 hS3
    refine wpAnyC_step (k := 11) rfl (by kernel_rfl) (fun K hK => ?_)
    rw [if_pos (by rfl)]
    go_wp2_with (go_at_call 19; refine (std_checks hs4 hS4.flds Hsm.out).2.2.mono ?_; rintro e Y5 ⟨rfl, hb5⟩)
    have hS5 := hS4.below hb5
    refine hK _ _ (fun _ => hS5) ?_
    clear hK hb5 hs4 hS4
    refine wpAnyC_takeG 15 35 (.bool true) rfl rfl (by rfl) (by kernel_rfl) (by kernel_rfl) (by kernel_rfl) (by kernel_rfl) (fun _ _ _ h => h) (fun w9 hw9 => ?_) hS5 ?_
    · obtain ⟨z0, z1, z2⟩ := hw9.cells
      simp only [List.getElem_toArray, List.getElem_cons_zero, List.getElem_cons_succ]
      go_simp
    simp only [Act.put, List.setIfInBounds_toArray, List.set_cons_zero, List.set_cons_succ]
    refine wpAnyC_takeD 16 36 (.bool true) rfl rfl rfl (by kernel_rfl) (by kernel_rfl) (by kernel_rfl) (by kernel_rfl) (fun _ _ _ h => h) (fun w9 hw9 => ?_) hS5 ?_
    · obtain ⟨z0, z1, z2⟩ := hw9.cells
      simp only [List.getElem_toArray, List.getElem_cons_zero, List.getElem_cons_succ]
      go_simp
    simp only [Act.put, List.setIfInBounds_toArray, List.set_cons_zero, List.set_cons_succ]
    refine wpAnyC_step (k := 17) rfl (by kernel_rfl) (fun K hK => ?_)
    rw [if_pos (by rfl)]
    go_wp2_with fail
    refine hK _ _ (fun _ => hS5) ?_
    clear hK
    refine wpAnyC_done (by kernel_rfl) ?_
    have HB := Lib.hid hS5.bel
    clear hS5
    go_wp2
    go_ret
    exact ⟨rfl, HB.out⟩
end Go.Proofs.Ytfccpepmjklodaa
