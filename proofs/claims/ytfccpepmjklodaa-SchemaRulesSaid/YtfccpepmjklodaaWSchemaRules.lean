/-
  The walk of SchemaRules.
-/
import Derived.Test.YtfccpepmjklodaaSRulW
import Derived.Deep.Cut
namespace Go.Proofs.Ytfccpepmjklodaa
open Go.RowKit Go.Shelf
set_option linter.unusedVariables false
set_option linter.unusedSimpArgs false

/-- What the law keeps while it makes the record. -/
structure ArgR (w W : World) (vx : Value) (x : List (Int × Int × Int × Int)) (v : Value) (l : List (Int × Int × Int × Int)) (P0 : Nat) (y0 y1 y2 : Int) : Prop where
  bel : Below w.heap.size w W
  rx : ReadsQ W vx x
  rd : ReadsQ W v l
  xq : W.heap[P0]? = some (.cells #[.int .i64 y0, .int .i64 y1, .int .i64 y2] 29 (0, 0))
theorem ArgR.below {w W W' : World} {vx : Value} {x : List (Int × Int × Int × Int)} {v : Value} {l : List (Int × Int × Int × Int)} {P0 : Nat} {y0 y1 y2 : Int} (h : ArgR w W vx x v l P0 y0 y1 y2) (hb : Below W.heap.size W W') : ArgR w W' vx x v l P0 y0 y1 y2 :=
  ⟨below_tr h.bel hb, h.rx.below hb (Nat.le_refl _), h.rd.below hb (Nat.le_refl _), heap_below hb (Nat.le_refl _) h.xq⟩
theorem ArgR.cells {w W : World} {vx : Value} {x : List (Int × Int × Int × Int)} {v : Value} {l : List (Int × Int × Int × Int)} {P0 : Nat} {y0 y1 y2 : Int} (h : ArgR w W vx x v l P0 y0 y1 y2) :
    W.cell? ⟨P0, 0, none⟩ = some (.int .i64 y0) ∧ W.cell? ⟨P0, 1, none⟩ = some (.int .i64 y1) ∧ W.cell? ⟨P0, 2, none⟩ = some (.int .i64 y2) := by
  simp only [cell_at h.xq]
  exact ⟨rfl, rfl, rfl⟩
set_option maxRecDepth 100000 in
set_option maxHeartbeats 20000000 in
theorem walk_SchemaRules (vx : Value) (x : List (Int × Int × Int × Int)) (v : Value) (l : List (Int × Int × Int × Int)) (y0 y1 y2 : Int) (w0 : World) (hx : ReadsQ w0 vx x) (hv : ReadsQ w0 v l) (fy0 : Fits y0) (fy1 : Fits y1) (fy2 : Fits y2) :
    Calls Try.prog 5 #[vx, v, .agg #[.int .i64 y0, .int .i64 y1, .int .i64 y2]] w0 (fun e w' => e = .returned (.bool true) ∧ Below w0.heap.size w0 w') := by
  obtain ⟨w, hw⟩ : ∃ w, w0 = w := ⟨_, rfl⟩
  rw [hw] at hv hx ⊢
  clear hw
  obtain ⟨a, cap, rfl, -⟩ := id hv.slice
  obtain ⟨ax, capx, rfl, -⟩ := id hx.slice
  obtain ⟨W1, hW1⟩ : ∃ W1, w.alloc (.cells #[.int .i64 y0, .int .i64 y1, .int .i64 y2] 29) = W1 := ⟨_, rfl⟩
  have hb1 : Below w.heap.size w W1 := by rw [← hW1]; exact below_new _ _
  have hn1 : W1.heap[w.heap.size]? = some (.cells #[.int .i64 y0, .int .i64 y1, .int .i64 y2] 29 (0, 0)) := by rw [← hW1]; exact new_at _ _
  have hA2 : ArgR w W1 (.slice ax x.length capx) x (.slice a l.length cap) l w.heap.size y0 y1 y2 := ⟨hb1, hx.below hb1 (Nat.le_refl _), hv.below hb1 (Nat.le_refl _), hn1⟩
  have HA := Lib.hid hA2
  have HX0 := Lib.hid hx
  have HS := Lib.hid (sanity_c W1)
  obtain ⟨r, hr⟩ : ∃ r, r = bentM (madeM l) y0 y1 y2 := ⟨_, rfl⟩
  have Hr := Lib.hid hr
  have hsm : Small 5 r := by rw [hr]; exact (bent_small (by decide) (made_small l)).mono (by decide)
  have Hsm := Lib.hid hsm
  clear hb1 hn1 hA2 hv hx hr hsm
  go_enter Try.func5, Try.ntmps5
  go_wp2_with fail
  refine HS.out.mono ?_
  rintro e w4 ⟨rfl, hb4⟩
  have HA := Lib.hid (HA.out.below hb4)
  clear HS hb4 hW1
  go_wp2_with fail
  have HX := Lib.hid HA.out.rx
  have HBX := Lib.hid HA.out.bel
  go_cut [8] from 10 to 13 (fun s8 wx => VarR w r s8 wx ∧ ReadsQ wx (.slice ax x.length capx) x)
  case first =>
    obtain ⟨W0, hW0⟩ : ∃ x, w4.drew = x := ⟨_, rfl⟩
    have hS0 : ArgR w W0 (.slice ax x.length capx) x (.slice a l.length cap) l w.heap.size y0 y1 y2 := by rw [← hW0]; exact HA.out.below (Below.refl _ _).drew
    refine wp_region_C 5 6 (fun w' => ArgR w w' (.slice ax x.length capx) x (.slice a l.length cap) l w.heap.size y0 y1 y2) rfl rfl ?_
    rw [hW0]
    clear hW0 HA
    refine wpAnyC_takeD 0 10 (.slice a l.length cap) rfl rfl rfl (by kernel_rfl) (by kernel_rfl) (by kernel_rfl) (by kernel_rfl) (fun _ _ _ h => h) (fun w9 hw9 => ?_) hS0 ?_
    · obtain ⟨z0, z1, z2⟩ := hw9.cells
      simp only [List.getElem_toArray, List.getElem_cons_zero, List.getElem_cons_succ]
      go_simp
    simp only [Act.put, List.setIfInBounds_toArray, List.set_cons_zero, List.set_cons_succ]
    refine wpAnyC_takeD 2 12 (.agg #[.int .i64 y0, .int .i64 y1, .int .i64 y2]) rfl rfl rfl (by kernel_rfl) (by kernel_rfl) (by kernel_rfl) (by kernel_rfl) (fun _ _ _ h => h) (fun w9 hw9 => ?_) hS0 ?_
    · obtain ⟨z0, z1, z2⟩ := hw9.cells
      simp only [List.getElem_toArray, List.getElem_cons_zero, List.getElem_cons_succ]
      go_simp
    simp only [Act.put, List.setIfInBounds_toArray, List.set_cons_zero, List.set_cons_succ]
    refine wpAnyC_two (i := 1) (j := 4) rfl rfl (by kernel_rfl) (fun K hK => ?_) (fun K hK => ?_)
    · skip
      rw [if_pos (by rfl)]
      go_wp2_with (go_at_call 15; refine (made_v hS0.rd).mono ?_; rintro e V1 ⟨qV1, rfl, nV1, mV1⟩)
      have A1 := hS0.below mV1
      clear hS0
      refine hK _ _ (fun _ => A1) ?_
      clear hK mV1
      refine wpAnyC_two (i := 3) (j := 4) rfl rfl (by kernel_rfl) (fun K hK => ?_) (fun K hK => ?_)
      · skip
        rw [if_pos (by rfl)]
        go_wp2_with (go_at_call 14; refine (bent_v (r := madeM l) nV1 (made_small l) (by decide) fy0 fy1 fy2).mono ?_; rintro e V2 ⟨qV2, rfl, nV2, mV2⟩)
        have A2 := A1.below mV2
        have h_2 := nV1.below mV2 (Nat.le_refl _)
        clear A1 nV1
        clear h_2
        obtain ⟨fa, fc, rfl⟩ := FldsAt.slice' nV2
        refine hK _ _ (fun _ => A2) ?_
        clear hK mV2
        refine wpAnyC_step (k := 4) rfl (by kernel_rfl) (fun K hK => ?_)
        rw [if_pos (by rfl)]
        go_wp2_with fail
        obtain ⟨V3, hV3⟩ : ∃ x, V2.alloc (.cells #[.int .u8 0, .int .u8 0, .slice none 0 0] 32) = x := ⟨_, rfl⟩
        have mV3 : Below V2.heap.size V2 V3 := by rw [← hV3]; exact below_new _ _
        have nV3 : V3.heap[V2.heap.size]? = some (.cells #[.int .u8 0, .int .u8 0, .slice none 0 0] 32 (0, 0)) := by rw [← hV3]; exact new_at _ _
        have lV3 : w.heap.size ≤ V2.heap.size := A2.bel.size
        rw [hV3]
        have A3 := A2.below mV3
        have h_3 := nV2.below mV3 (Nat.le_refl _)
        clear A2 nV2
        refine hK _ _ (fun _ => A3) ?_
        clear hK mV3 hV3
        refine wpAnyC_step (k := 5) rfl (by kernel_rfl) (fun K hK => ?_)
        rw [if_pos (by rfl)]
        rw [← Hr.out] at h_3 ⊢
        obtain ⟨⟨r0, f0⟩, ⟨r1, f1⟩, ⟨r2, f2⟩, -⟩ := rec_put nV3 (.int .u8 (r.kind.toNat : Int)) (.int .u8 (r.level.toNat : Int)) (.slice fa r.fields.length fc)
        go_wp2_with fail
        refine hK _ _ (fun h => absurd (of_decide_eq_true h) (by decide)) ?_
        clear hK
        refine wpAnyC_done (by kernel_rfl) ?_
        clear r0 f0 r1 f1 r2 f2
        have hE := var_put A3.bel lV3 nV3 h_3
        obtain ⟨xb', fv', _, hbe, _⟩ := id hE
        have HE := Lib.hid (And.intro hE (show ReadsQ _ (.slice ax x.length capx) x from HX0.out.below hbe (Nat.le_refl _)))
        clear hE hbe
        go_wp2
        go_meet
        case rel => exact HE.out
      · skip
        rw [if_pos (by rfl)]
        go_wp2_with fail
        obtain ⟨V4, hV4⟩ : ∃ x, V1.alloc (.cells #[.int .u8 0, .int .u8 0, .slice none 0 0] 32) = x := ⟨_, rfl⟩
        have mV4 : Below V1.heap.size V1 V4 := by rw [← hV4]; exact below_new _ _
        have nV4 : V4.heap[V1.heap.size]? = some (.cells #[.int .u8 0, .int .u8 0, .slice none 0 0] 32 (0, 0)) := by rw [← hV4]; exact new_at _ _
        have lV4 : w.heap.size ≤ V1.heap.size := A1.bel.size
        rw [hV4]
        have A4 := A1.below mV4
        have h_4 := nV1.below mV4 (Nat.le_refl _)
        clear A1 nV1
        refine hK _ _ (fun _ => A4) ?_
        clear hK mV4 hV4
        refine wpAnyC_step (k := 3) rfl (by kernel_rfl) (fun K hK => ?_)
        rw [if_pos (by rfl)]
        go_wp2_with (go_at_call 14; refine (bent_v (r := madeM l) h_4 (made_small l) (by decide) fy0 fy1 fy2).mono ?_; rintro e V5 ⟨qV5, rfl, nV5, mV5⟩)
        have A5 := A4.below mV5
        have h_5 := h_4.below mV5 (Nat.le_refl _)
        have x_5 := heap_below mV5 (Nat.le_refl _) nV4
        clear A4 h_4 nV4
        clear h_5
        obtain ⟨fa, fc, rfl⟩ := FldsAt.slice' nV5
        refine hK _ _ (fun _ => A5) ?_
        clear hK mV5
        refine wpAnyC_step (k := 5) rfl (by kernel_rfl) (fun K hK => ?_)
        rw [if_pos (by rfl)]
        rw [← Hr.out] at nV5 ⊢
        obtain ⟨⟨r0, f0⟩, ⟨r1, f1⟩, ⟨r2, f2⟩, -⟩ := rec_put x_5 (.int .u8 (r.kind.toNat : Int)) (.int .u8 (r.level.toNat : Int)) (.slice fa r.fields.length fc)
        go_wp2_with fail
        refine hK _ _ (fun h => absurd (of_decide_eq_true h) (by decide)) ?_
        clear hK
        refine wpAnyC_done (by kernel_rfl) ?_
        clear r0 f0 r1 f1 r2 f2
        have hE := var_put A5.bel lV4 x_5 nV5
        obtain ⟨xb', fv', _, hbe, _⟩ := id hE
        have HE := Lib.hid (And.intro hE (show ReadsQ _ (.slice ax x.length capx) x from HX0.out.below hbe (Nat.le_refl _)))
        clear hE hbe
        go_wp2
        go_meet
        case rel => exact HE.out
    · skip
      rw [if_pos (by rfl)]
      go_wp2_with fail
      obtain ⟨V6, hV6⟩ : ∃ x, W0.alloc (.cells #[.int .u8 0, .int .u8 0, .slice none 0 0] 32) = x := ⟨_, rfl⟩
      have mV6 : Below W0.heap.size W0 V6 := by rw [← hV6]; exact below_new _ _
      have nV6 : V6.heap[W0.heap.size]? = some (.cells #[.int .u8 0, .int .u8 0, .slice none 0 0] 32 (0, 0)) := by rw [← hV6]; exact new_at _ _
      have lV6 : w.heap.size ≤ W0.heap.size := hS0.bel.size
      rw [hV6]
      have A6 := hS0.below mV6
      clear hS0
      refine hK _ _ (fun _ => A6) ?_
      clear hK mV6 hV6
      refine wpAnyC_step (k := 1) rfl (by kernel_rfl) (fun K hK => ?_)
      rw [if_pos (by rfl)]
      go_wp2_with (go_at_call 15; refine (made_v A6.rd).mono ?_; rintro e V7 ⟨qV7, rfl, nV7, mV7⟩)
      have A7 := A6.below mV7
      have x_7 := heap_below mV7 (Nat.le_refl _) nV6
      clear A6 nV6
      refine hK _ _ (fun _ => A7) ?_
      clear hK mV7
      refine wpAnyC_step (k := 3) rfl (by kernel_rfl) (fun K hK => ?_)
      rw [if_pos (by rfl)]
      go_wp2_with (go_at_call 14; refine (bent_v (r := madeM l) nV7 (made_small l) (by decide) fy0 fy1 fy2).mono ?_; rintro e V8 ⟨qV8, rfl, nV8, mV8⟩)
      have A8 := A7.below mV8
      have h_8 := nV7.below mV8 (Nat.le_refl _)
      have x_8 := heap_below mV8 (Nat.le_refl _) x_7
      clear A7 nV7 x_7
      clear h_8
      obtain ⟨fa, fc, rfl⟩ := FldsAt.slice' nV8
      refine hK _ _ (fun _ => A8) ?_
      clear hK mV8
      refine wpAnyC_step (k := 5) rfl (by kernel_rfl) (fun K hK => ?_)
      rw [if_pos (by rfl)]
      rw [← Hr.out] at nV8 ⊢
      obtain ⟨⟨r0, f0⟩, ⟨r1, f1⟩, ⟨r2, f2⟩, -⟩ := rec_put x_8 (.int .u8 (r.kind.toNat : Int)) (.int .u8 (r.level.toNat : Int)) (.slice fa r.fields.length fc)
      go_wp2_with fail
      refine hK _ _ (fun h => absurd (of_decide_eq_true h) (by decide)) ?_
      clear hK
      refine wpAnyC_done (by kernel_rfl) ?_
      clear r0 f0 r1 f1 r2 f2
      have hE := var_put A8.bel lV6 x_8 nV8
      obtain ⟨xb', fv', _, hbe, _⟩ := id hE
      have HE := Lib.hid (And.intro hE (show ReadsQ _ (.slice ax x.length capx) x from HX0.out.below hbe (Nat.le_refl _)))
      clear hE hbe
      go_wp2
      go_meet
      case rel => exact HE.out
  case rest =>
    obtain ⟨⟨xb, fv, rfl, hbel, hxb, hxx, hf⟩, hrx⟩ := hcut
    have HR := Lib.hid (show RecS w wc xb fv r ∧ ReadsQ wc (.slice ax x.length capx) x from ⟨⟨hbel, hxx, hf⟩, hrx⟩)
    clear hbel hxx hf hrx HA HX HBX HX0
    go_wp2_with fail
    obtain ⟨W0, hW0⟩ : ∃ x, wc.drew = x := ⟨_, rfl⟩
    have hS0 : RecS w W0 xb fv r ∧ ReadsQ W0 (.slice ax x.length capx) x := by rw [← hW0]; exact ⟨HR.out.1.below (Below.refl _ _).drew, HR.out.2.below (Below.refl _ wc).drew (Nat.le_refl _)⟩
    refine wp_region_C 13 13 (fun w' => RecS w w' xb fv r ∧ ReadsQ w' (.slice ax x.length capx) x) rfl rfl ?_
    rw [hW0]
    clear hW0 HR
    refine wpAnyC_takeD 0 14 (.bool true) rfl rfl rfl (by kernel_rfl) (by kernel_rfl) (by kernel_rfl) (by kernel_rfl) (fun _ _ _ h => h) (fun w9 hw9 => ?_) hS0 ?_
    · obtain ⟨z0, z1, z2⟩ := hw9.1.cells
      simp only [List.getElem_toArray, List.getElem_cons_zero, List.getElem_cons_succ]
      go_simp
    simp only [Act.put, List.setIfInBounds_toArray, List.set_cons_zero, List.set_cons_succ]
    refine wpAnyC_takeD 1 15 (.bool true) rfl rfl rfl (by kernel_rfl) (by kernel_rfl) (by kernel_rfl) (by kernel_rfl) (fun _ _ _ h => h) (fun w9 hw9 => ?_) hS0 ?_
    · obtain ⟨z0, z1, z2⟩ := hw9.1.cells
      simp only [List.getElem_toArray, List.getElem_cons_zero, List.getElem_cons_succ]
      go_simp
    simp only [Act.put, List.setIfInBounds_toArray, List.set_cons_zero, List.set_cons_succ]
    refine wpAnyC_takeG 2 16 (.slice ax x.length capx) rfl rfl (by rfl) (by kernel_rfl) (by kernel_rfl) (by kernel_rfl) (by kernel_rfl) (fun _ _ _ h => h) (fun w9 hw9 => ?_) hS0 ?_
    · obtain ⟨z0, z1, z2⟩ := hw9.1.cells
      simp only [List.getElem_toArray, List.getElem_cons_zero, List.getElem_cons_succ]
      go_simp
    simp only [Act.put, List.setIfInBounds_toArray, List.set_cons_zero, List.set_cons_succ]
    refine wpAnyC_takeG 4 18 (.agg #[.int .u8 (r.kind.toNat : Int), .int .u8 (r.level.toNat : Int), fv]) rfl rfl (by rfl) (by kernel_rfl) (by kernel_rfl) (by kernel_rfl) (by kernel_rfl) (fun _ _ _ h => h) (fun w9 hw9 => ?_) hS0 ?_
    · obtain ⟨z0, z1, z2⟩ := hw9.1.cells
      simp only [List.getElem_toArray, List.getElem_cons_zero, List.getElem_cons_succ]
      go_simp
    simp only [Act.put, List.setIfInBounds_toArray, List.set_cons_zero, List.set_cons_succ]
    refine wpAnyC_takeG 6 20 (.slice ax x.length capx) rfl rfl (by rfl) (by kernel_rfl) (by kernel_rfl) (by kernel_rfl) (by kernel_rfl) (fun _ _ _ h => h) (fun w9 hw9 => ?_) hS0 ?_
    · obtain ⟨z0, z1, z2⟩ := hw9.1.cells
      simp only [List.getElem_toArray, List.getElem_cons_zero, List.getElem_cons_succ]
      go_simp
    simp only [Act.put, List.setIfInBounds_toArray, List.set_cons_zero, List.set_cons_succ]
    refine wpAnyC_takeG 8 22 (.agg #[.int .u8 (r.kind.toNat : Int), .int .u8 (r.level.toNat : Int), fv]) rfl rfl (by rfl) (by kernel_rfl) (by kernel_rfl) (by kernel_rfl) (by kernel_rfl) (fun _ _ _ h => h) (fun w9 hw9 => ?_) hS0 ?_
    · obtain ⟨z0, z1, z2⟩ := hw9.1.cells
      simp only [List.getElem_toArray, List.getElem_cons_zero, List.getElem_cons_succ]
      go_simp
    simp only [Act.put, List.setIfInBounds_toArray, List.set_cons_zero, List.set_cons_succ]
    refine wpAnyC_step (k := 3) rfl (by kernel_rfl) (fun K hK => ?_)
    rw [if_pos (by rfl)]
    go_wp2_with (go_at_call 20; refine (rul_v hS0.2).mono ?_; rintro e Y1 ⟨ra, rc, rb, rfl, hr1, hra1, hb1⟩)
    have hS1 := And.intro (hS0.1.below hb1) (hS0.2.below hb1 (Nat.le_refl _))
    refine hK _ _ (fun _ => hS1) ?_
    clear hK hb1 hS0
    refine wpAnyC_step (k := 5) rfl (by kernel_rfl) (fun K hK => ?_)
    rw [if_pos (by rfl)]
    go_wp2_with (go_at_call 18; refine (rul_checks hr1 hra1 hS1.1.flds Hsm.out (rules_short x) (rules_len x)).1.mono ?_; rintro e Y2 ⟨pa, pc, rfl, hp, hb2⟩)
    have hS2 := And.intro (hS1.1.below hb2) (hS1.2.below hb2 (Nat.le_refl _))
    refine hK _ _ (fun _ => hS2) ?_
    clear hK hb2 hr1 hra1 hS1
    refine wpAnyC_step (k := 7) rfl (by kernel_rfl) (fun K hK => ?_)
    rw [if_pos (by rfl)]
    go_wp2_with (go_at_call 20; refine (rul_v hS2.2).mono ?_; rintro e Y3 ⟨ra3, rc3, rb3, rfl, hr3, hra3, hb3⟩)
    have hS3 := And.intro (hS2.1.below hb3) (hS2.2.below hb3 (Nat.le_refl _))
    have hp := hp.below hb3 (Nat.le_refl _)
    refine hK _ _ (fun _ => hS3) ?_
    clear hK hb3 hS2
    refine wpAnyC_step (k := 9) rfl (by kernel_rfl) (fun K hK => ?_)
    rw [if_pos (by rfl)]
    go_wp2_with (go_at_call 16; refine (rul_checks hr3 hra3 hS3.1.flds Hsm.out (rules_short x) (rules_len x)).2.1.mono ?_; rintro e Y4 ⟨pa4, pc4, rfl, hp4, hb4⟩)
    have hS4 := And.intro (hS3.1.below hb4) (hS3.2.below hb4 (Nat.le_refl _))
    have hp := hp.below hb4 (Nat.le_refl _)
    refine hK _ _ (fun _ => hS4) ?_
    clear hK hb4 hr3 hra3 hS3
    refine wpAnyC_step (k := 10) rfl (by kernel_rfl) (fun K hK => ?_)
    rw [if_pos (by rfl)]
    go_wp2_with (go_at_call 17; refine (same_t (checkS (rulesM x) r.fields) _ _ _ hp hp4).mono ?_; rintro e Y5 ⟨rfl, hb5⟩)
    have hS5 := And.intro (hS4.1.below hb5) (hS4.2.below hb5 (Nat.le_refl _))
    refine hK _ _ (fun _ => hS5) ?_
    clear hK hb5 hS4 hp hp4
    refine wpAnyC_takeD 11 25 (.bool true) rfl rfl rfl (by kernel_rfl) (by kernel_rfl) (by kernel_rfl) (by kernel_rfl) (fun _ _ _ h => h) (fun w9 hw9 => ?_) hS5 ?_
    · obtain ⟨z0, z1, z2⟩ := hw9.1.cells
      simp only [List.getElem_toArray, List.getElem_cons_zero, List.getElem_cons_succ]
      go_simp
    simp only [Act.put, List.setIfInBounds_toArray, List.set_cons_zero, List.set_cons_succ]
    refine wpAnyC_step (k := 12) rfl (by kernel_rfl) (fun K hK => ?_)
    rw [if_pos (by rfl)]
    go_wp2_with fail
    refine hK _ _ (fun _ => hS5) ?_
    clear hK
    refine wpAnyC_done (by kernel_rfl) ?_
    have HB := Lib.hid hS5.1.bel
    clear hS5
    go_wp2
    go_ret
    exact ⟨rfl, HB.out⟩
end Go.Proofs.Ytfccpepmjklodaa
