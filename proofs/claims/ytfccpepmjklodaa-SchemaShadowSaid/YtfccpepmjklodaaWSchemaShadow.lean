/-
  The walk of SchemaShadow.
-/
import Derived.Test.YtfccpepmjklodaaSShad
namespace Go.Proofs.Ytfccpepmjklodaa
open Go.RowKit Go.Shelf
set_option linter.unusedVariables false
set_option linter.unusedSimpArgs false

set_option maxRecDepth 100000 in
set_option maxHeartbeats 20000000 in
theorem walk_SchemaShadow (vx : Value) (x : List (Int × Int × Int × Int)) (v : Value) (l : List (Int × Int × Int × Int)) (w0 : World) (hx : ReadsQ w0 vx x) (hv : ReadsQ w0 v l) :
    Calls Try.prog 9 #[vx, v] w0 (fun e w' => e = .returned (.bool true) ∧ Below w0.heap.size w0 w') := by
  obtain ⟨w, hw⟩ : ∃ w, w0 = w := ⟨_, rfl⟩
  rw [hw] at hv hx ⊢
  clear hw
  obtain ⟨a, cap, rfl, -⟩ := id hv.slice
  obtain ⟨ax, capx, rfl, -⟩ := id hx.slice
  have HS := Lib.hid (sanity_c w)
  have HX := Lib.hid hx
  have HV := Lib.hid hv
  obtain ⟨r, hr⟩ : ∃ r, madeM l = r := ⟨_, rfl⟩
  have Hr := Lib.hid hr
  have hsm : Small 5 r := by rw [← hr]; exact (made_small l).mono (by decide)
  have Hsm := Lib.hid hsm
  clear hv hx hr hsm
  go_enter Try.func9, Try.ntmps9
  go_wp2_with fail
  refine HS.out.mono ?_
  rintro e w4 ⟨rfl, hb4⟩
  have HX := Lib.hid (HX.out.below hb4 (Nat.le_refl _))
  have HV := Lib.hid (HV.out.below hb4 (Nat.le_refl _))
  have Hb := Lib.hid hb4
  clear HS hb4
  go_wp2_with fail
  refine (made_v HV.out).mono ?_
  rintro e w5 ⟨fv', rfl, hf5, hb5⟩
  rw [Hr.out] at hf5 ⊢
  obtain ⟨fa, fc, rfl⟩ := FldsAt.slice' hf5
  obtain ⟨fv, hfv⟩ : ∃ fv, Value.slice fa r.fields.length fc = fv := ⟨_, rfl⟩
  obtain ⟨w6, hw6⟩ : ∃ x, w5.alloc (.cells #[.int .u8 (r.kind.toNat : Int), .int .u8 (r.level.toNat : Int), .slice fa r.fields.length fc] 32) = x := ⟨_, rfl⟩
  have hb6 : Below w5.heap.size w5 w6 := by rw [← hw6]; exact below_new _ _
  have hn6 : w6.heap[w5.heap.size]? = some (.cells #[.int .u8 (r.kind.toNat : Int), .int .u8 (r.level.toNat : Int), .slice fa r.fields.length fc] 32 (0, 0)) := by rw [← hw6]; exact new_at _ _
  obtain ⟨xb, hxb⟩ : ∃ k, w5.heap.size = k := ⟨_, rfl⟩
  have hR6 : RecS w w6 xb (.slice fa r.fields.length fc) r := ⟨below_tr (below_tr Hb.out hb5) hb6, by rw [← hxb]; exact hn6, hf5.below hb6 (Nat.le_refl _)⟩
  have HR6 := Lib.hid hR6
  have HX6 := Lib.hid ((HX.out.below hb5 (Nat.le_refl _)).below hb6 (Nat.le_refl _))
  have HW6 := Lib.hid hw6
  clear hf5 hb5 hb6 hn6 hR6 hw6 HX HV hfv fv
  go_wp2_with fail
  rw [HW6.out]
  clear HW6
  refine (rules_c _ x w6 HX6.out).mono ?_
  rintro e w7 ⟨pv, rfl, hown7, hb7⟩
  obtain ⟨ra, rc, rb, rfl, hr7, hra⟩ := rul_at hown7
  obtain ⟨B1, hB1⟩ : ∃ k, w6.heap.size = k := ⟨_, rfl⟩
  rw [hB1] at hown7
  have hS7 : ShW w w7 xb (.slice fa r.fields.length fc) r B1 ra rc (rulesM x) := ⟨HR6.out.below hb7, hown7⟩
  have hn8 := rules_len x
  have Hra := Lib.hid hra
  have HS7 := Lib.hid hS7
  obtain ⟨B2, hB2⟩ : ∃ k, w7.heap.size = k := ⟨_, rfl⟩
  have HB2 := Lib.hid hB2
  clear hown7 hb7 hr7 hra hB1 HX6 HR6 hS7 hB2
  try rw [hxb]
  clear hxb
  go_wp2_with fail
  go_loopw [8, 18] (fun pv iv wr => ∃ (k : Nat), k ≤ (rulesM x).length ∧ iv = .int .i64 k ∧ Below B2 w7 wr ∧
    wr.ownsRow B2 27 7 pv k ((((rulesM x).take k).map shadowR).flatMap ruleL)) (fun _ iv _ => (rulesM x).length - (intOf iv).toNat)
  case atStart => exact ⟨0, Nat.zero_le _, rfl, Below.refl _ _, World.ownsRow_nil _ _ _ _⟩
  case round =>
    obtain ⟨k, hk, rfl, hbw, hown⟩ := hrel
    have hS := HS7.out.below (by rw [HB2.out]; exact hbw)
    have hB2r : B2 ≤ wr.heap.size := by rw [← HB2.out]; exact hbw.size
    obtain ⟨pa, pc, rfl⟩ := own_form hown
    by_cases hlt : k < (rulesM x).length
    · have i0 : (0 : Int) ≤ (k : Int) := by omega
      have i1 : (k : Int) < ((rulesM x).length : Int) := by omega
      obtain ⟨_, _, _, hveq, hrr, -⟩ := rul_at hS.first
      simp only [Value.slice.injEq] at hveq
      obtain ⟨rfl, -, rfl⟩ := hveq
      obtain ⟨_, _, he, -, hcc⟩ := hrr.slice
      simp only [Value.slice.injEq] at he
      obtain ⟨rfl, -, rfl⟩ := he
      obtain ⟨gb, go, hae, hbl2, q0, q1, q2, q3, q4, q5, q6⟩ := hcc k hlt
      have htk : (((rulesM x).take (k + 1)).map shadowR).flatMap ruleL = (((rulesM x).take k).map shadowR).flatMap ruleL ++ ruleL (shadowR (rulesM x)[k]) := by
        rw [take_snoc _ k hlt, List.map_append, List.flatMap_append]; simp
      obtain ⟨q, hq⟩ : ∃ q, (rulesM x)[k] = q := ⟨_, rfl⟩
      rw [hq] at q0 q1 q2 q3 q4 q5 q6 htk
      have Htk := Lib.hid htk
      obtain ⟨W8, hW8⟩ : ∃ y, wr.alloc (.cells #[str q.tag, .bool q.must, .bool q.once, str q.ind0, str q.ind1, str q.codes, str q.single] 27) = y := ⟨_, rfl⟩
      have hb8 : Below wr.heap.size wr W8 := by rw [← hW8]; exact below_new _ _
      have hn8' : W8.heap[wr.heap.size]? = some (.cells ⟨ruleL q⟩ 27 (0, 0)) := by rw [← hW8]; exact new_at _ _
      obtain ⟨yb, hyb⟩ : ∃ k, wr.heap.size = k := ⟨_, rfl⟩
      rw [hyb] at hn8'
      obtain ⟨c2, ⟨c1, d1⟩, ⟨c2', d2⟩, ⟨c5, d5⟩, ⟨c6, d6⟩, hfin⟩ := shadow_cells hn8'
      have hb9 : Below wr.heap.size wr ((((W8.setCell ⟨yb, 1, none⟩ (.bool false)).setCell ⟨yb, 2, none⟩ (.bool (!q.once))).setCell ⟨yb, 5, none⟩ (.string ⟨#[122]⟩)).setCell ⟨yb, 6, none⟩ (.string ⟨#[97, 98, 99]⟩)) :=
        below_set (below_set (below_set (below_set hb8 (Nat.le_of_eq hyb) _ _) (Nat.le_of_eq hyb) _ _) (Nat.le_of_eq hyb) _ _) (Nat.le_of_eq hyb) _ _
      obtain ⟨Z, hZ⟩ : ∃ Z, (((W8.setCell ⟨yb, 1, none⟩ (.bool false)).setCell ⟨yb, 2, none⟩ (.bool (!q.once))).setCell ⟨yb, 5, none⟩ (.string ⟨#[122]⟩)).setCell ⟨yb, 6, none⟩ (.string ⟨#[97, 98, 99]⟩) = Z := ⟨_, rfl⟩
      rw [hZ] at hfin hb9
      have z0 : Z.cell? ⟨yb, 0, none⟩ = some (str q.tag) := by rw [cell_at hfin]; rfl
      have z1 : Z.cell? ⟨yb, 1, none⟩ = some (.bool false) := by rw [cell_at hfin]; rfl
      have z2 : Z.cell? ⟨yb, 2, none⟩ = some (.bool (!q.once)) := by rw [cell_at hfin]; rfl
      have z3 : Z.cell? ⟨yb, 3, none⟩ = some (str q.ind0) := by rw [cell_at hfin]; rfl
      have z4 : Z.cell? ⟨yb, 4, none⟩ = some (str q.ind1) := by rw [cell_at hfin]; rfl
      have z5 : Z.cell? ⟨yb, 5, none⟩ = some (.string ⟨#[122]⟩) := by rw [cell_at hfin]; rfl
      have z6 : Z.cell? ⟨yb, 6, none⟩ = some (.string ⟨#[97, 98, 99]⟩) := by rw [cell_at hfin]; rfl
      have HbZ := Lib.hid (hbw.trans (hb9.mono hB2r))
      have hownZ := own_bel hown hb9
      have HownZ := Lib.hid hownZ
      have hBZ : B2 ≤ Z.heap.size := Nat.le_trans hB2r hb9.size
      obtain ⟨i0', hi, hz0, hz1, hz2⟩ := info_parts infoRule
      subst hae
      clear hb8 hn8' hfin hb9 hS hbw hown hownZ hrr hcc hq htk hbl2 hB2r
      go_wp2_with (at_builtin; go_loud (refine wpList_append_own _ rfl _ _ 23 rfl B2 27 i0' _ 7 88 Try.underlying23 hi hz0 hz1 hz2 rfl (by decide) _ _ _ rfl (HownZ.out.alloc _) ⟨Z.heap.size, 0, none⟩ 1 1 (ruleL (shadowR q)) rfl rfl ?sa ?sb ?sc ?sd ?se ?_))
      case sa => exact cells_src (new_at Z _)
      case sb => simp [ruleL, Value.oneCell']
      case sc => unfold maxLen; omega
      case sd => omega
      case se => first | (simp; omega) | exact cells_src (new_at Z _)
      intro v9 w9 hown9 hgrow9 _
      obtain ⟨na, nc, rfl⟩ := own_form hown9
      have hb9 : Below B2 Z w9 := ((Below.refl B2 Z).alloc hBZ _).grown hgrow9 (by simp; omega) (fun q hq => (HownZ.out.lt q hq).1)
      have hown10 : w9.ownsRow B2 27 7 (.slice na (k + 1) nc) (k + 1) ((((rulesM x).take (k + 1)).map shadowR).flatMap ruleL) := by rw [Htk.out, List.map_take]; exact hown9
      have Hown10 := Lib.hid hown10
      have Hb10 := Lib.hid (HbZ.out.trans hb9)
      clear hown9 hgrow9 hb9 hown10 hi hz0 hz1 hz2 c2 c1 d1 c2' d2 c5 d5 c6 d6 z0 z1 z2 z3 z4 z5 z6 q0 q1 q2 q3 q4 q5 q6 hW8 hZ
      go_wp2
      go_roundw
      case rel => exact ⟨k + 1, hlt, by go_num, Hb10.out, Hown10.out⟩
      case measure => simp [intOf]; omega
    · have hkn : k = (rulesM x).length := by omega
      subst hkn
      rw [List.take_length] at hown
      have HSr := Lib.hid hS
      have Hown := Lib.hid hown
      have i1 : ¬ ((rulesM x).length : Int) < ((rulesM x).length : Int) := by omega
      clear hS hbw hown HS7
      go_wp2_with fail
      obtain ⟨W0, hW0⟩ : ∃ x, wr.drew = x := ⟨_, rfl⟩
      have hS0 : ShW w W0 xb (.slice fa r.fields.length fc) r B1 ra rc (rulesM x) ∧ W0.ownsRow B2 27 7 (.slice pa (rulesM x).length pc) (rulesM x).length (((rulesM x).map shadowR).flatMap ruleL) := by rw [← hW0]; exact ⟨HSr.out.below (Below.refl _ _).drew, own_bel Hown.out (Below.refl _ _).drew⟩
      refine wp_region_C 15 15 (fun w' => ShW w w' xb (.slice fa r.fields.length fc) r B1 ra rc (rulesM x) ∧ w'.ownsRow B2 27 7 (.slice pa (rulesM x).length pc) (rulesM x).length (((rulesM x).map shadowR).flatMap ruleL)) rfl rfl ?_
      rw [hW0]
      clear hW0 HSr Hown HB2
      refine wpAnyC_takeD 0 34 (.bool true) rfl rfl rfl (by kernel_rfl) (by kernel_rfl) (by kernel_rfl) (by kernel_rfl) (fun _ _ _ h => h) (fun w9 hw9 => ?_) hS0 ?_
      · obtain ⟨z0, z1, z2⟩ := hw9.1.rec_.cells
        simp only [List.getElem_toArray, List.getElem_cons_zero, List.getElem_cons_succ]
        go_simp
      simp only [Act.put, List.setIfInBounds_toArray, List.set_cons_zero, List.set_cons_succ]
      refine wpAnyC_takeD 1 35 (.bool true) rfl rfl rfl (by kernel_rfl) (by kernel_rfl) (by kernel_rfl) (by kernel_rfl) (fun _ _ _ h => h) (fun w9 hw9 => ?_) hS0 ?_
      · obtain ⟨z0, z1, z2⟩ := hw9.1.rec_.cells
        simp only [List.getElem_toArray, List.getElem_cons_zero, List.getElem_cons_succ]
        go_simp
      simp only [Act.put, List.setIfInBounds_toArray, List.set_cons_zero, List.set_cons_succ]
      refine wpAnyC_takeG 2 36 (.slice ra (rulesM x).length rc) rfl rfl (by rfl) (by kernel_rfl) (by kernel_rfl) (by kernel_rfl) (by kernel_rfl) (fun _ _ _ h => h) (fun w9 hw9 => ?_) hS0 ?_
      · obtain ⟨z0, z1, z2⟩ := hw9.1.rec_.cells
        simp only [List.getElem_toArray, List.getElem_cons_zero, List.getElem_cons_succ]
        go_simp
      simp only [Act.put, List.setIfInBounds_toArray, List.set_cons_zero, List.set_cons_succ]
      refine wpAnyC_takeG 3 37 (.agg #[.int .u8 (r.kind.toNat : Int), .int .u8 (r.level.toNat : Int), .slice fa r.fields.length fc]) rfl rfl (by rfl) (by kernel_rfl) (by kernel_rfl) (by kernel_rfl) (by kernel_rfl) (fun _ _ _ h => h) (fun w9 hw9 => ?_) hS0 ?_
      · obtain ⟨z0, z1, z2⟩ := hw9.1.rec_.cells
        simp only [List.getElem_toArray, List.getElem_cons_zero, List.getElem_cons_succ]
        go_simp
      simp only [Act.put, List.setIfInBounds_toArray, List.set_cons_zero, List.set_cons_succ]
      refine wpAnyC_takeG 6 40 (.slice ra (rulesM x).length rc) rfl rfl (by rfl) (by kernel_rfl) (by kernel_rfl) (by kernel_rfl) (by kernel_rfl) (fun _ _ _ h => h) (fun w9 hw9 => ?_) hS0 ?_
      · obtain ⟨z0, z1, z2⟩ := hw9.1.rec_.cells
        simp only [List.getElem_toArray, List.getElem_cons_zero, List.getElem_cons_succ]
        go_simp
      simp only [Act.put, List.setIfInBounds_toArray, List.set_cons_zero, List.set_cons_succ]
      refine wpAnyC_takeG 8 42 (.slice pa (rulesM x).length pc) rfl rfl (by rfl) (by kernel_rfl) (by kernel_rfl) (by kernel_rfl) (by kernel_rfl) (fun _ _ _ h => h) (fun w9 hw9 => ?_) hS0 ?_
      · obtain ⟨z0, z1, z2⟩ := hw9.1.rec_.cells
        simp only [List.getElem_toArray, List.getElem_cons_zero, List.getElem_cons_succ]
        go_simp
      simp only [Act.put, List.setIfInBounds_toArray, List.set_cons_zero, List.set_cons_succ]
      refine wpAnyC_takeG 10 44 (.agg #[.int .u8 (r.kind.toNat : Int), .int .u8 (r.level.toNat : Int), .slice fa r.fields.length fc]) rfl rfl (by rfl) (by kernel_rfl) (by kernel_rfl) (by kernel_rfl) (by kernel_rfl) (fun _ _ _ h => h) (fun w9 hw9 => ?_) hS0 ?_
      · obtain ⟨z0, z1, z2⟩ := hw9.1.rec_.cells
        simp only [List.getElem_toArray, List.getElem_cons_zero, List.getElem_cons_succ]
        go_simp
      simp only [Act.put, List.setIfInBounds_toArray, List.set_cons_zero, List.set_cons_succ]
      obtain ⟨i0', hi, hz0, hz1, hz2⟩ := info_parts infoRule
      have hfl := flat_len (rulesM x)
      have hfl2 : (((rulesM x).map shadowR).flatMap ruleL).length = (rulesM x).length * 7 := by rw [flat_len, List.length_map]
      refine wpAnyC_two (i := 4) (j := 5) rfl rfl (by kernel_rfl) (fun K hK => ?_) (fun K hK => ?_)
      · skip
        rw [if_pos (by rfl)]
        obtain ⟨_, _, rb', hve, hrr, hraa⟩ := rul_at hS0.1.first
        simp only [Value.slice.injEq] at hve
        obtain ⟨rfl, -, rfl⟩ := hve
        go_wp2_with (go_at_call 18; refine (rul_checks2 hrr hraa hS0.1.rec_.flds Hsm.out (rules_short x) (by omega)).mono ?_; rintro e V1 ⟨p1, k1, rfl, hp, mV1⟩)
        clear hrr hraa
        have hS1 := And.intro (hS0.1.below mV1) (own_bel hS0.2 mV1)
        refine hK _ _ (fun _ => hS1) ?_
        clear hK mV1 hS0
        refine wpAnyC_step (k := 5) rfl (by kernel_rfl) (fun K hK => ?_)
        rw [if_pos (by rfl)]
        go_wp2_with fail
        obtain ⟨V2, hV2⟩ : ∃ x, V1.alloc (.cells #[] 27) = x := ⟨_, rfl⟩
        have mV2 : Below V1.heap.size V1 V2 := by rw [← hV2]; exact below_new _ _
        have lit : V2.ownsRow V1.heap.size 27 7 (.slice (some ⟨V1.heap.size, 0, none⟩) 0 0) 0 [] := by rw [← hV2]; exact own_lit_rule V1 (Nat.le_refl _)
        have nil : V2.heap[V1.heap.size]? = some (.cells #[] 27 (0, 0)) := by rw [← hV2]; exact new_at _ _
        rw [hV2]
        have hS2 := And.intro (hS1.1.below mV2) (own_bel hS1.2 mV2)
        have hp := hp.below mV2 (Nat.le_refl _)
        refine hK _ _ (fun _ => hS2) ?_
        clear hK hV2
        refine wpAnyC_step (k := 7) rfl (by kernel_rfl) (fun K hK => ?_)
        rw [if_pos (by rfl)]
        refine wp_append_src _ _ _ 23 (by rfl) V1.heap.size 27 i0' _ 7 88 Try.underlying23 hi hz0 hz1 hz2 rfl (by decide) _ 0 [] (by rfl) lit ra (rulesM x).length rc ((rulesM x).flatMap ruleL) (by rfl) hfl (rul_src hS2.1.first hfl).1 (rul_src hS2.1.first hfl).2 (flat_one _) (by unfold maxLen; omega) (by omega) (mV2.size) ?_
        intro v1 u1 hown1 hgrow1 hblk1
        obtain ⟨va, vc, rfl⟩ := own_form hown1
        simp only [Act.put, List.setIfInBounds_toArray, List.set_cons_zero, List.set_cons_succ]
        have mu1 : Below V1.heap.size V1 u1 := mV2.trans ((Below.refl _ V2).grown hgrow1 mV2.size (fun g hg => (lit.lt g hg).1))
        have hSu := And.intro (hS1.1.below mu1) (own_bel hS1.2 mu1)
        refine hK _ _ (fun _ => hSu) ?_
        clear hK
        refine wpAnyC_step (k := 9) rfl (by kernel_rfl) (fun K hK => ?_)
        rw [if_pos (by rfl)]
        refine wp_append_src _ _ _ 23 (by rfl) V1.heap.size 27 i0' _ 7 88 Try.underlying23 hi hz0 hz1 hz2 rfl (by decide) _ _ _ (by rfl) hown1 pa (rulesM x).length pc (((rulesM x).map shadowR).flatMap ruleL) (by rfl) hfl2 (rul_src hSu.2 hfl2).1 (rul_src hSu.2 hfl2).2 (flat_one _) (by unfold maxLen; omega) (by omega) (mu1.size) ?_
        intro v2 u2 hown2 hgrow2 hblk2
        simp only [Act.put, List.setIfInBounds_toArray, List.set_cons_zero, List.set_cons_succ]
        have mu2 : Below V1.heap.size V1 u2 := mu1.trans ((Below.refl _ u1).grown hgrow2 mu1.size (fun g hg => (hown1.lt g hg).1))
        have hSv := And.intro (hS1.1.below mu2) (own_bel hS1.2 mu2)
        obtain ⟨rs2, hrs2⟩ : ∃ rs2, rs2 = rulesM x ++ (rulesM x).map shadowR := ⟨_, rfl⟩
        have hown3 : u2.ownsRow V1.heap.size 27 7 v2 rs2.length (rs2.flatMap ruleL) := by
          rw [hrs2]
          exact rul_join (by rw [List.length_map]; have h2 := hown2; rw [Nat.zero_add, List.nil_append] at h2; exact h2)
        have hck : checkS rs2 r.fields = checkS (rulesM x) r.fields := by rw [hrs2, checkS_shadow]
        have hsh2 : ∀ q ∈ rs2, RShort q := by rw [hrs2]; exact shadow_short (rules_short x)
        have hln2 : rs2.length ≤ 100 := by rw [hrs2, List.length_append, List.length_map]; omega
        have Hck := Lib.hid hck
        clear hrs2 hck
        obtain ⟨r2, c2, b2, rfl, hr2, hra2⟩ := rul_at hown3
        have hp2 := hp.other (Z := u2) nil (fun b hb hne => (hgrow2.block b (Nat.lt_of_lt_of_le hb hgrow1.size) (fun e => by
          rcases hblk1 with h | h
          · rw [h] at e; exact hne (by simpa [Value.ownBlock] using e)
          · rw [h] at e; simp at e; omega)).trans (hgrow1.block b hb (fun e => hne (by simpa [Value.ownBlock] using e)))) (Nat.le_trans hgrow1.size hgrow2.size)
        refine hK _ _ (fun _ => hSv) ?_
        clear hK
        refine wpAnyC_step (k := 11) rfl (by kernel_rfl) (fun K hK => ?_)
        rw [if_pos (by rfl)]
        go_wp2_with (go_at_call 18; refine (rul_checks2 hr2 hra2 hSv.1.rec_.flds Hsm.out hsh2 hln2).mono ?_; rintro e u3 ⟨p3, k3, rfl, hp3, m3⟩)
        rw [Hck.out] at hp3 ⊢
        have hSx := And.intro (hSv.1.below m3) (own_bel hSv.2 m3)
        have hp2 := hp2.below m3 (Nat.le_refl _)
        refine hK _ _ (fun _ => hSx) ?_
        clear hK m3
        refine wpAnyC_step (k := 12) rfl (by kernel_rfl) (fun K hK => ?_)
        rw [if_pos (by rfl)]
        go_wp2_with (go_at_call 17; refine (same_t (checkS (rulesM x) r.fields) _ _ _ hp2 hp3).mono ?_; rintro e u4 ⟨rfl, m4⟩)
        have hSy := And.intro (hSx.1.below m4) (own_bel hSx.2 m4)
        refine hK _ _ (fun _ => hSy) ?_
        clear hK m4
        refine wpAnyC_takeD 13 47 (.bool true) rfl rfl rfl (by kernel_rfl) (by kernel_rfl) (by kernel_rfl) (by kernel_rfl) (fun _ _ _ h => h) (fun w9 hw9 => ?_) hSy ?_
        · obtain ⟨z0, z1, z2⟩ := hw9.1.rec_.cells
          simp only [List.getElem_toArray, List.getElem_cons_zero, List.getElem_cons_succ]
          go_simp
        simp only [Act.put, List.setIfInBounds_toArray, List.set_cons_zero, List.set_cons_succ]
        refine wpAnyC_step (k := 14) rfl (by kernel_rfl) (fun K hK => ?_)
        rw [if_pos (by rfl)]
        go_wp2_with fail
        refine hK _ _ (fun _ => hSy) ?_
        clear hK
        refine wpAnyC_done (by kernel_rfl) ?_
        have HB := Lib.hid hSy.1.rec_.bel
        clear hSy
        go_wp2
        go_ret
        exact ⟨rfl, HB.out⟩
      · skip
        rw [if_pos (by rfl)]
        go_wp2_with fail
        obtain ⟨V1, hV1⟩ : ∃ x, W0.alloc (.cells #[] 27) = x := ⟨_, rfl⟩
        have mV1 : Below W0.heap.size W0 V1 := by rw [← hV1]; exact below_new _ _
        have lit : V1.ownsRow W0.heap.size 27 7 (.slice (some ⟨W0.heap.size, 0, none⟩) 0 0) 0 [] := by rw [← hV1]; exact own_lit_rule W0 (Nat.le_refl _)
        have nil : V1.heap[W0.heap.size]? = some (.cells #[] 27 (0, 0)) := by rw [← hV1]; exact new_at _ _
        rw [hV1]
        have hS1 := And.intro (hS0.1.below mV1) (own_bel hS0.2 mV1)
        refine hK _ _ (fun _ => hS1) ?_
        clear hK hV1
        refine wpAnyC_step (k := 4) rfl (by kernel_rfl) (fun K hK => ?_)
        rw [if_pos (by rfl)]
        obtain ⟨_, _, rb', hve, hrr, hraa⟩ := rul_at hS1.1.first
        simp only [Value.slice.injEq] at hve
        obtain ⟨rfl, -, rfl⟩ := hve
        go_wp2_with (go_at_call 18; refine (rul_checks2 hrr hraa hS1.1.rec_.flds Hsm.out (rules_short x) (by omega)).mono ?_; rintro e V2 ⟨p1, k1, rfl, hp, mV2⟩)
        clear hrr hraa
        have mb := below_tr mV1 mV2
        have hS2 := And.intro (hS1.1.below mV2) (own_bel hS1.2 mV2)
        have lit := own_bel lit mV2
        have nil := heap_below mV2 (Nat.le_refl _) nil
        refine hK _ _ (fun _ => hS2) ?_
        clear hK hS1 mV1 mV2
        refine wpAnyC_step (k := 7) rfl (by kernel_rfl) (fun K hK => ?_)
        rw [if_pos (by rfl)]
        refine wp_append_src _ _ _ 23 (by rfl) W0.heap.size 27 i0' _ 7 88 Try.underlying23 hi hz0 hz1 hz2 rfl (by decide) _ 0 [] (by rfl) lit ra (rulesM x).length rc ((rulesM x).flatMap ruleL) (by rfl) hfl (rul_src hS2.1.first hfl).1 (rul_src hS2.1.first hfl).2 (flat_one _) (by unfold maxLen; omega) (by omega) (mb.size) ?_
        intro v1 u1 hown1 hgrow1 hblk1
        obtain ⟨va, vc, rfl⟩ := own_form hown1
        simp only [Act.put, List.setIfInBounds_toArray, List.set_cons_zero, List.set_cons_succ]
        have mu1 : Below W0.heap.size W0 u1 := mb.trans ((Below.refl _ V2).grown hgrow1 mb.size (fun g hg => (lit.lt g hg).1))
        have hSu := And.intro (hS0.1.below mu1) (own_bel hS0.2 mu1)
        refine hK _ _ (fun _ => hSu) ?_
        clear hK
        refine wpAnyC_step (k := 9) rfl (by kernel_rfl) (fun K hK => ?_)
        rw [if_pos (by rfl)]
        refine wp_append_src _ _ _ 23 (by rfl) W0.heap.size 27 i0' _ 7 88 Try.underlying23 hi hz0 hz1 hz2 rfl (by decide) _ _ _ (by rfl) hown1 pa (rulesM x).length pc (((rulesM x).map shadowR).flatMap ruleL) (by rfl) hfl2 (rul_src hSu.2 hfl2).1 (rul_src hSu.2 hfl2).2 (flat_one _) (by unfold maxLen; omega) (by omega) (mu1.size) ?_
        intro v2 u2 hown2 hgrow2 hblk2
        simp only [Act.put, List.setIfInBounds_toArray, List.set_cons_zero, List.set_cons_succ]
        have mu2 : Below W0.heap.size W0 u2 := mu1.trans ((Below.refl _ u1).grown hgrow2 mu1.size (fun g hg => (hown1.lt g hg).1))
        have hSv := And.intro (hS0.1.below mu2) (own_bel hS0.2 mu2)
        obtain ⟨rs2, hrs2⟩ : ∃ rs2, rs2 = rulesM x ++ (rulesM x).map shadowR := ⟨_, rfl⟩
        have hown3 : u2.ownsRow W0.heap.size 27 7 v2 rs2.length (rs2.flatMap ruleL) := by
          rw [hrs2]
          exact rul_join (by rw [List.length_map]; have h2 := hown2; rw [Nat.zero_add, List.nil_append] at h2; exact h2)
        have hck : checkS rs2 r.fields = checkS (rulesM x) r.fields := by rw [hrs2, checkS_shadow]
        have hsh2 : ∀ q ∈ rs2, RShort q := by rw [hrs2]; exact shadow_short (rules_short x)
        have hln2 : rs2.length ≤ 100 := by rw [hrs2, List.length_append, List.length_map]; omega
        have Hck := Lib.hid hck
        clear hrs2 hck
        obtain ⟨r2, c2, b2, rfl, hr2, hra2⟩ := rul_at hown3
        have hp2 := hp.other (Z := u2) nil (fun b hb hne => (hgrow2.block b (Nat.lt_of_lt_of_le hb hgrow1.size) (fun e => by
          rcases hblk1 with h | h
          · rw [h] at e; exact hne (by simpa [Value.ownBlock] using e)
          · rw [h] at e; simp at e; omega)).trans (hgrow1.block b hb (fun e => hne (by simpa [Value.ownBlock] using e)))) (Nat.le_trans hgrow1.size hgrow2.size)
        refine hK _ _ (fun _ => hSv) ?_
        clear hK
        refine wpAnyC_step (k := 11) rfl (by kernel_rfl) (fun K hK => ?_)
        rw [if_pos (by rfl)]
        go_wp2_with (go_at_call 18; refine (rul_checks2 hr2 hra2 hSv.1.rec_.flds Hsm.out hsh2 hln2).mono ?_; rintro e u3 ⟨p3, k3, rfl, hp3, m3⟩)
        rw [Hck.out] at hp3 ⊢
        have hSx := And.intro (hSv.1.below m3) (own_bel hSv.2 m3)
        have hp2 := hp2.below m3 (Nat.le_refl _)
        refine hK _ _ (fun _ => hSx) ?_
        clear hK m3
        refine wpAnyC_step (k := 12) rfl (by kernel_rfl) (fun K hK => ?_)
        rw [if_pos (by rfl)]
        go_wp2_with (go_at_call 17; refine (same_t (checkS (rulesM x) r.fields) _ _ _ hp2 hp3).mono ?_; rintro e u4 ⟨rfl, m4⟩)
        have hSy := And.intro (hSx.1.below m4) (own_bel hSx.2 m4)
        refine hK _ _ (fun _ => hSy) ?_
        clear hK m4
        refine wpAnyC_takeD 13 47 (.bool true) rfl rfl rfl (by kernel_rfl) (by kernel_rfl) (by kernel_rfl) (by kernel_rfl) (fun _ _ _ h => h) (fun w9 hw9 => ?_) hSy ?_
        · obtain ⟨z0, z1, z2⟩ := hw9.1.rec_.cells
          simp only [List.getElem_toArray, List.getElem_cons_zero, List.getElem_cons_succ]
          go_simp
        simp only [Act.put, List.setIfInBounds_toArray, List.set_cons_zero, List.set_cons_succ]
        refine wpAnyC_step (k := 14) rfl (by kernel_rfl) (fun K hK => ?_)
        rw [if_pos (by rfl)]
        go_wp2_with fail
        refine hK _ _ (fun _ => hSy) ?_
        clear hK
        refine wpAnyC_done (by kernel_rfl) ?_
        have HB := Lib.hid hSy.1.rec_.bel
        clear hSy
        go_wp2
        go_ret
        exact ⟨rfl, HB.out⟩
end Go.Proofs.Ytfccpepmjklodaa
