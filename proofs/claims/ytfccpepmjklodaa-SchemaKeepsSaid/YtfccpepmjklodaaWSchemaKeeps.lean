/-
  The walk of SchemaKeeps.
-/
import Derived.Test.YtfccpepmjklodaaSKeep
import Derived.ChangeKeysEq
namespace Go.Proofs.Ytfccpepmjklodaa
open Go.RowKit Go.Shelf
set_option linter.unusedVariables false
set_option linter.unusedSimpArgs false

theorem infoStr : ∃ i, Try.prog.info? 9 = some i := by
  have h : (Try.prog.info? 9).isSome = true := by kernel_rfl
  exact Option.isSome_iff_exists.1 h
theorem und2 : Try.prog.underlying 25 = some (.array 2 9) := by kernel_rfl
theorem und1 : Try.prog.underlying 9 = some .string := by kernel_rfl
theorem eq_pair (p q : List UInt8) (w : World) : (Op.equalIn 9999 25 (.agg #[str p, str q]) (.agg #[str p, str q])).run Try.prog w = .ok true w := by
  obtain ⟨i, hi⟩ := infoStr
  have hp : Try.prog.plainKey 9 = true := by kernel_rfl
  have hc : Try.prog.cellsOf 9 = 1 := by kernel_rfl
  have p0 := run_part_plain (P := Try.prog) w hp (xs := #[str p, str q]) (off := 0) (v := str p) rfl
  have p1 := run_part_plain (P := Try.prog) w hp (xs := #[str p, str q]) (off := 1) (v := str q) rfl
  have s1 : ∀ x : List UInt8, (Op.equalIn 9998 9 (str x) (str x)).run Try.prog w = .ok true w := by
    intro x
    have := run_equalIn_string (P := Try.prog) w 9997 9 ⟨x.toArray⟩ ⟨x.toArray⟩ und1
    simpa using this
  rw [run_equalIn_array (P := Try.prog) w 9998 _ _ und2 hi, hc]
  show (Op.eqItems 9998 9 1 _ _ [0, 1]).run _ _ = _
  simp only [Op.eqItems, Sem.run_bind, Nat.zero_mul, Nat.one_mul, p0, p1, s1, Result.andThen_ok, Bool.not_true, Bool.false_eq_true, if_false, Sem.run_pure]
/-- What the law keeps. -/
structure KpW (w W : World) (xb yb : Nat) (fv1 fv2 : Value) (r : RecM) (sa : Option Addr) (sc : Nat) (ta : Option Addr) (tc : Nat) (rs : List RuleM) : Prop where
  rec1 : RecS w W xb fv1 r
  rec2 : RecS w W yb fv2 r
  r1 : RulesAt W (.slice sa rs.length sc) rs
  r2 : RulesAt W (.slice ta rs.length tc) rs
theorem KpW.below {w W W' : World} {xb yb : Nat} {fv1 fv2 : Value} {r : RecM} {sa : Option Addr} {sc : Nat} {ta : Option Addr} {tc : Nat} {rs : List RuleM} (h : KpW w W xb yb fv1 fv2 r sa sc ta tc rs) (hb : Below W.heap.size W W') : KpW w W' xb yb fv1 fv2 r sa sc ta tc rs :=
  ⟨h.rec1.below hb, h.rec2.below hb, h.r1.below hb (Nat.le_refl _), h.r2.below hb (Nat.le_refl _)⟩
/-- A row of problems whose numbers of fields are ints. -/
def IntC (B : Nat) (W : World) (v : Value) (n : Nat) : Prop := n = 0 ∨ ∃ b cap cur, v = .slice (some ⟨b, 0, none⟩) n cap ∧ B ≤ b ∧ W.heap[b]? = some (.cells cur 54 (0, 0)) ∧ ∀ i, i < n → ∃ z, cur[i * 2]? = some (.int .i64 z)
theorem IntC.of_own {B : Nat} {W : World} {v : Value} {l : List (Int × Nat)} (h : W.ownsRow B 54 2 v l.length (probCells l)) : IntC B W v l.length := by
  rcases h.2 with ⟨_, h0⟩ | ⟨g, cap, cur, hv, hbg, hg, hnc, hcm, hcs, htake⟩
  · exact .inl h0
  · refine .inr ⟨g, cap, cur, hv, hbg, hg, fun i hi => ?_⟩
    have hc := (probCells_at l i hi).1
    refine ⟨l[i].1, ?_⟩
    rw [← hc, ← htake, List.getElem?_take_of_lt (by omega), Array.getElem?_toList]
theorem IntC.set {B : Nat} {W : World} {b n cap : Nat} (h : IntC B W (.slice (some ⟨b, 0, none⟩) n cap) n) (k : Nat) (z : Int) : IntC B (W.setCell ⟨b, k * 2, none⟩ (.int .i64 z)) (.slice (some ⟨b, 0, none⟩) n cap) n := by
  rcases h with h | ⟨b', cap', cur, hv, hB, hg, hc⟩
  · exact .inl h
  · simp only [Value.slice.injEq, Option.some.injEq, Addr.mk.injEq] at hv
    obtain ⟨⟨rfl, -⟩, -, rfl⟩ := hv
    refine .inr ⟨b, cap, _, rfl, hB, blk_set hg _ _, fun i hi => ?_⟩
    obtain ⟨y, hy⟩ := hc i hi
    by_cases e : k = i
    · subst e
      exact ⟨z, by rw [Array.getElem?_setIfInBounds_self_of_lt (Array.getElem?_eq_some_iff.1 hy).1]⟩
    · exact ⟨y, by rw [Array.getElem?_setIfInBounds_ne (by omega)]; exact hy⟩
set_option maxRecDepth 100000 in
set_option maxHeartbeats 20000000 in
theorem walk_SchemaKeeps (vx : Value) (x : List (Int × Int × Int × Int)) (v : Value) (l : List (Int × Int × Int × Int)) (w0 : World) (hx : ReadsQ w0 vx x) (hv : ReadsQ w0 v l) :
    Calls Try.prog 10 #[vx, v] w0 (fun e w' => e = .returned (.bool true) ∧ Below w0.heap.size w0 w') := by
  obtain ⟨w, hw⟩ : ∃ w, w0 = w := ⟨_, rfl⟩
  rw [hw] at hv hx ⊢
  clear hw
  have EP := eq_pair
  obtain ⟨a, cap, rfl, -⟩ := id hv.slice
  obtain ⟨ax, capx, rfl, -⟩ := id hx.slice
  have HS := Lib.hid (sanity_c w)
  have HX := Lib.hid hx
  have HV := Lib.hid hv
  have HEP := Lib.hid EP
  obtain ⟨r, hr⟩ : ∃ r, madeM l = r := ⟨_, rfl⟩
  have Hr := Lib.hid hr
  have hsm : Small 5 r := by rw [← hr]; exact (made_small l).mono (by decide)
  have Hsm := Lib.hid hsm
  obtain ⟨rs, hrs⟩ : ∃ rs, rulesM x = rs := ⟨_, rfl⟩
  have Hrs := Lib.hid hrs
  have hn8 : rs.length ≤ 8 := by rw [← hrs]; exact rules_len x
  have Hsh := Lib.hid (show ∀ q ∈ rs, RShort q by rw [← hrs]; exact rules_short x)
  clear hv hx hr hsm hrs EP
  go_enter Try.func10, Try.ntmps10
  go_wp2_with fail
  refine HS.out.mono ?_
  rintro e w4 ⟨rfl, hb4⟩
  have HX := Lib.hid (HX.out.below hb4 (Nat.le_refl _))
  have HV := Lib.hid (HV.out.below hb4 (Nat.le_refl _))
  have Hb := Lib.hid hb4
  clear HS hb4
  go_wp2_with fail
  refine (made_v HV.out).mono ?_
  rintro e w5 ⟨fv', rfl, hf5, hb5⟩
  rw [Hr.out] at hf5 ⊢
  obtain ⟨fa, fc, rfl⟩ := FldsAt.slice' hf5
  have HX := Lib.hid (HX.out.below hb5 (Nat.le_refl _))
  have HV := Lib.hid (HV.out.below hb5 (Nat.le_refl _))
  have Hb := Lib.hid (below_tr Hb.out hb5)
  have Hf5 := Lib.hid hf5
  clear hb5 hf5
  go_wp2_with fail
  refine (made_v HV.out).mono ?_
  rintro e w6 ⟨fv', rfl, hf6, hb6⟩
  rw [Hr.out] at hf6 ⊢
  obtain ⟨ga, gc, rfl⟩ := FldsAt.slice' hf6
  have hf56 := Hf5.out.below hb6 (Nat.le_refl _)
  obtain ⟨w7, hw7⟩ : ∃ y, w6.alloc (.cells #[.int .u8 (r.kind.toNat : Int), .int .u8 (r.level.toNat : Int), .slice fa r.fields.length fc] 32) = y := ⟨_, rfl⟩
  have hs7 : w7.heap.size = w6.heap.size + 1 := by rw [← hw7]; simp
  have hb7 : Below w6.heap.size w6 w7 := by rw [← hw7]; exact below_new _ _
  have hn7 : w7.heap[w6.heap.size]? = some (.cells #[.int .u8 (r.kind.toNat : Int), .int .u8 (r.level.toNat : Int), .slice fa r.fields.length fc] 32 (0, 0)) := by rw [← hw7]; exact new_at _ _
  obtain ⟨w8, hw8⟩ : ∃ y, w7.alloc (.cells #[.int .u8 (r.kind.toNat : Int), .int .u8 (r.level.toNat : Int), .slice ga r.fields.length gc] 32) = y := ⟨_, rfl⟩
  have hb8 : Below w7.heap.size w7 w8 := by rw [← hw8]; exact below_new _ _
  have hn8' : w8.heap[w6.heap.size + 1]? = some (.cells #[.int .u8 (r.kind.toNat : Int), .int .u8 (r.level.toNat : Int), .slice ga r.fields.length gc] 32 (0, 0)) := by rw [← hw8, ← hs7]; exact new_at _ _
  have hb68 : Below w6.heap.size w6 w8 := below_tr hb7 hb8
  obtain ⟨xb, hxb⟩ : ∃ k, w6.heap.size = k := ⟨_, rfl⟩
  have HR1 := Lib.hid (show RecS w w8 xb (.slice fa r.fields.length fc) r from ⟨below_tr (below_tr Hb.out hb6) hb68, by rw [← hxb]; exact heap_below hb8 (Nat.le_refl _) hn7, hf56.below hb68 (Nat.le_refl _)⟩)
  have HR2 := Lib.hid (show RecS w w8 (xb + 1) (.slice ga r.fields.length gc) r from ⟨below_tr (below_tr Hb.out hb6) hb68, by rw [← hxb]; exact hn8', hf6.below hb68 (Nat.le_refl _)⟩)
  have HX := Lib.hid ((HX.out.below hb6 (Nat.le_refl _)).below hb68 (Nat.le_refl _))
  have HW7 := Lib.hid hw7
  have HW8 := Lib.hid hw8
  have Hxb := Lib.hid hxb
  clear hf6 hf56 hb6 hb7 hn7 hb8 hn8' hb68 HV Hf5 hs7 hw7 hw8 hxb
  go_wp2_with fail
  rw [HW7.out, HW8.out]
  try rw [Hxb.out]
  refine (rul_v HX.out).mono ?_
  rintro e w9 ⟨sa, sc, sb, rfl, hr9, hsa, hb9⟩
  rw [Hrs.out] at hr9 hsa ⊢
  have HX := Lib.hid (HX.out.below hb9 (Nat.le_refl _))
  have HR1 := Lib.hid (HR1.out.below hb9)
  have HR2 := Lib.hid (HR2.out.below hb9)
  have Hr9 := Lib.hid hr9
  have Hsa := Lib.hid hsa
  have hxb := Hxb.out
  clear hb9 HW7 HW8 Hxb hr9 hsa
  go_wp2_with fail
  refine (rul_v HX.out).mono ?_
  rintro e w10 ⟨ta, tc, tb, rfl, hr10, hta, hb10⟩
  rw [Hrs.out] at hr10 hta ⊢
  have hK : KpW w w10 xb (xb + 1) (.slice fa r.fields.length fc) (.slice ga r.fields.length gc) r sa sc ta tc rs := ⟨HR1.out.below hb10, HR2.out.below hb10, Hr9.out.below hb10 (Nat.le_refl _), hr10⟩
  have HK := Lib.hid hK
  have Hta := Lib.hid hta
  obtain ⟨z0, z1, z2⟩ := hK.rec1.cells
  clear hr10 hta hb10 HX HR1 HR2 Hr9 hK
  go_wp2_with fail
  clear z0 z1 z2
  have hv1 : RecV w10 (.agg #[.int .u8 (r.kind.toNat : Int), .int .u8 (r.level.toNat : Int), .slice fa r.fields.length fc]) r := ⟨_, rfl, HK.out.rec1.flds⟩
  refine (check_c rs sb 0 sa sc _ r Hsa.out w10 HK.out.r1 hv1 (fun q hq => (Hsh.out q hq).1) (fun f hf => by have := Hsm.out.2 f hf; omega) (by have := Hsm.out.1; omega)).mono ?_
  rintro e w11 ⟨pv, rfl, hown, hb11⟩
  obtain ⟨aa, ac, rfl⟩ := own_form hown
  obtain ⟨L, hL⟩ : ∃ L, checkS rs r.fields = L := ⟨_, rfl⟩
  have HL := Lib.hid hL
  rw [hL] at hown ⊢
  have hlm : L.length ≤ 9223372036854775807 := by
    rcases hown.2 with ⟨_, h0⟩ | ⟨g, cp, cur, hv, hbg, hg, hnc, hcm, _⟩
    · omega
    · simp only [maxLen] at hcm; omega
  have HI := Lib.hid (IntC.of_own hown)
  have Hb11 := Lib.hid hb11
  clear hown hb11 hv1 hL
  try rw [hxb]
  clear hxb
  go_wp2_with fail
  go_loopw [11, 27] (fun v11 iv wr => ∃ (k : Nat), k ≤ L.length ∧ iv = .int .i64 k ∧ Below w10.heap.size w10 wr ∧ IntC w10.heap.size wr (.slice aa L.length ac) L.length) (fun _ iv _ => L.length - (intOf iv).toNat)
  case atStart => exact ⟨0, Nat.zero_le _, rfl, Hb11.out, HI.out⟩
  case round =>
    obtain ⟨k, hk, rfl, hbw, hI⟩ := hrel
    by_cases hlt : k < L.length
    · have i0 : (0 : Int) ≤ (k : Int) := by omega
      have i1 : (k : Int) < (L.length : Int) := by omega
      rcases id hI with h0 | ⟨ab, cp, cur, hve, hBb, hbh, hcc⟩
      · omega
      obtain ⟨rfl, rfl⟩ : aa = some ⟨ab, 0, none⟩ ∧ ac = cp := by simpa using hve
      obtain ⟨z, hz⟩ := hcc k hlt
      have x1 : wr.cell? ⟨ab, k * 2, none⟩ = some (.int .i64 z) := by rw [cell_at hbh]; exact hz
      have x2 : wr.frozen? ⟨ab, k * 2, none⟩ = false := Lib.frozen_of_heap hbh _
      have HN := Lib.hid (fun y => hI.set k y)
      have HB := Lib.hid (fun y : Int => below_set hbw hBb (k * 2) (.int .i64 y))
      clear hI hbw hve hbh hcc hz
      go_wp2_with fail
      go_roundw
      case rel => exact ⟨k + 1, hlt, by go_num, HB.out _, HN.out _⟩
      case measure => simp [intOf]; omega
    · have i1 : ¬ (k : Int) < (L.length : Int) := by omega
      have HK := Lib.hid (HK.out.below hbw)
      clear hI hbw HI Hb11
      go_wp2_with fail
      obtain ⟨W3, hW3⟩ : ∃ y, y = wr := ⟨_, rfl⟩
      subst hW3
      have EP := HEP.out
      go_loopw [12, 41] (fun v12 iv wx => ∃ (j n : Nat), j ≤ rs.length ∧ iv = .int .i64 j ∧ wx = W3.drewN n) (fun _ iv _ => rs.length - (intOf iv).toNat)
      case atStart => exact ⟨0, 0, Nat.zero_le _, rfl, rfl⟩
      case round =>
        obtain ⟨j, n, hj, rfl, hwr⟩ := hrel
        have hbx : Below W3.heap.size W3 wr := by rw [hwr]; exact below_dr (Below.refl _ _) n
        have Hwr := Lib.hid hwr
        by_cases hjl : j < rs.length
        · have j0 : (0 : Int) ≤ (j : Int) := by omega
          have j1 : (j : Int) < (rs.length : Int) := by omega
          obtain ⟨_, _, he, -, hcc⟩ := HK.out.r1.slice
          simp only [Value.slice.injEq] at he
          obtain ⟨rfl, -, rfl⟩ := he
          obtain ⟨ga1, oa1, hae, -, p0, p1, p2, p3, p4, p5, p6⟩ := hcc j hjl
          obtain ⟨_, _, he, -, hdd⟩ := HK.out.r2.slice
          simp only [Value.slice.injEq] at he
          obtain ⟨rfl, -, rfl⟩ := he
          obtain ⟨gb1, ob1, hbe, -, q0, q1, q2, q3, q4, q5, q6⟩ := hdd j hjl
          obtain ⟨u, hu⟩ : ∃ u, rs[j] = u := ⟨_, rfl⟩
          rw [hu] at p0 p1 p2 p3 p4 p5 p6 q0 q1 q2 q3 q4 q5 q6
          have p0 := cell_below hbx (Nat.le_refl _) p0
          have p1 := cell_below hbx (Nat.le_refl _) p1
          have p2 := cell_below hbx (Nat.le_refl _) p2
          have p3 := cell_below hbx (Nat.le_refl _) p3
          have p4 := cell_below hbx (Nat.le_refl _) p4
          have p5 := cell_below hbx (Nat.le_refl _) p5
          have p6 := cell_below hbx (Nat.le_refl _) p6
          have q0 := cell_below hbx (Nat.le_refl _) q0
          have q1 := cell_below hbx (Nat.le_refl _) q1
          have q2 := cell_below hbx (Nat.le_refl _) q2
          have q3 := cell_below hbx (Nat.le_refl _) q3
          have q4 := cell_below hbx (Nat.le_refl _) q4
          have q5 := cell_below hbx (Nat.le_refl _) q5
          have q6 := cell_below hbx (Nat.le_refl _) q6
          obtain ⟨t, m, oo, i0s, i1s, cs, sn⟩ := u
          simp only at p0 p1 p2 p3 p4 p5 p6 q0 q1 q2 q3 q4 q5 q6
          subst hae
          subst hbe
          clear hwr hbx hcc hdd hu HK
          go_wp2_with fail
          go_region
          go_wp2
          go_roundw
          case rel => exact ⟨j + 1, n + 1, hjl, by go_num, by rw [Hwr.out]; exact drN W3 n 1⟩
          case measure => simp [intOf]; omega
        · have j1 : ¬ (j : Int) < (rs.length : Int) := by omega
          have HK := Lib.hid (HK.out.below hbx)
          clear hwr hbx EP
          go_wp2_with fail
          obtain ⟨W0, hW0⟩ : ∃ y, wr.drew = y := ⟨_, rfl⟩
          have hS0 : KpW w W0 xb (xb + 1) (.slice fa r.fields.length fc) (.slice ga r.fields.length gc) r sa sc ta tc rs := by rw [← hW0]; exact HK.out.below (Below.refl _ _).drew
          refine wp_region_C 25 25 (fun w' => KpW w w' xb (xb + 1) (.slice fa r.fields.length fc) (.slice ga r.fields.length gc) r sa sc ta tc rs) rfl rfl ?_
          rw [hW0]
          clear hW0 HK
          refine wpAnyC_takeD 0 54 (.bool true) rfl rfl rfl (by kernel_rfl) (by kernel_rfl) (by kernel_rfl) (by kernel_rfl) (fun _ _ _ h => h) (fun w9 hw9 => ?_) hS0 ?_
          · obtain ⟨z0, z1, z2⟩ := hw9.rec1.cells; obtain ⟨y0, y1, y2⟩ := hw9.rec2.cells
            simp only [List.getElem_toArray, List.getElem_cons_zero, List.getElem_cons_succ]
            go_simp
          simp only [Act.put, List.setIfInBounds_toArray, List.set_cons_zero, List.set_cons_succ]
          refine wpAnyC_takeD 1 55 (.bool true) rfl rfl rfl (by kernel_rfl) (by kernel_rfl) (by kernel_rfl) (by kernel_rfl) (fun _ _ _ h => h) (fun w9 hw9 => ?_) hS0 ?_
          · obtain ⟨z0, z1, z2⟩ := hw9.rec1.cells; obtain ⟨y0, y1, y2⟩ := hw9.rec2.cells
            simp only [List.getElem_toArray, List.getElem_cons_zero, List.getElem_cons_succ]
            go_simp
          simp only [Act.put, List.setIfInBounds_toArray, List.set_cons_zero, List.set_cons_succ]
          refine wpAnyC_takeG 2 56 (.agg #[.int .u8 (r.kind.toNat : Int), .int .u8 (r.level.toNat : Int), .slice fa r.fields.length fc]) rfl rfl (by rfl) (by kernel_rfl) (by kernel_rfl) (by kernel_rfl) (by kernel_rfl) (fun _ _ _ h => h) (fun w9 hw9 => ?_) hS0 ?_
          · obtain ⟨z0, z1, z2⟩ := hw9.rec1.cells; obtain ⟨y0, y1, y2⟩ := hw9.rec2.cells
            simp only [List.getElem_toArray, List.getElem_cons_zero, List.getElem_cons_succ]
            go_simp
          simp only [Act.put, List.setIfInBounds_toArray, List.set_cons_zero, List.set_cons_succ]
          refine wpAnyC_takeG 3 57 (.agg #[.int .u8 (r.kind.toNat : Int), .int .u8 (r.level.toNat : Int), .slice ga r.fields.length gc]) rfl rfl (by rfl) (by kernel_rfl) (by kernel_rfl) (by kernel_rfl) (by kernel_rfl) (fun _ _ _ h => h) (fun w9 hw9 => ?_) hS0 ?_
          · obtain ⟨z0, z1, z2⟩ := hw9.rec1.cells; obtain ⟨y0, y1, y2⟩ := hw9.rec2.cells
            simp only [List.getElem_toArray, List.getElem_cons_zero, List.getElem_cons_succ]
            go_simp
          simp only [Act.put, List.setIfInBounds_toArray, List.set_cons_zero, List.set_cons_succ]
          refine wpAnyC_step (k := 4) rfl (by kernel_rfl) (fun K hK => ?_)
          rw [if_pos (by rfl)]
          go_wp2_with (go_at_call 22; refine (sameRec_t r _ _ _ hS0.rec1.flds hS0.rec2.flds).mono ?_; rintro e X1 ⟨rfl, m1⟩)
          have hS1 := hS0.below m1
          refine hK _ _ (fun _ => hS1) ?_
          clear hK m1 hS0
          refine wpAnyC_takeD 5 59 (.bool true) rfl rfl rfl (by kernel_rfl) (by kernel_rfl) (by kernel_rfl) (by kernel_rfl) (fun _ _ _ h => h) (fun w9 hw9 => ?_) hS1 ?_
          · obtain ⟨z0, z1, z2⟩ := hw9.rec1.cells; obtain ⟨y0, y1, y2⟩ := hw9.rec2.cells
            simp only [List.getElem_toArray, List.getElem_cons_zero, List.getElem_cons_succ]
            go_simp
          simp only [Act.put, List.setIfInBounds_toArray, List.set_cons_zero, List.set_cons_succ]
          refine wpAnyC_takeD 6 60 (.bool true) rfl rfl rfl (by kernel_rfl) (by kernel_rfl) (by kernel_rfl) (by kernel_rfl) (fun _ _ _ h => h) (fun w9 hw9 => ?_) hS1 ?_
          · obtain ⟨z0, z1, z2⟩ := hw9.rec1.cells; obtain ⟨y0, y1, y2⟩ := hw9.rec2.cells
            simp only [List.getElem_toArray, List.getElem_cons_zero, List.getElem_cons_succ]
            go_simp
          simp only [Act.put, List.setIfInBounds_toArray, List.set_cons_zero, List.set_cons_succ]
          refine wpAnyC_takeG 7 61 (.slice sa rs.length sc) rfl rfl (by rfl) (by kernel_rfl) (by kernel_rfl) (by kernel_rfl) (by kernel_rfl) (fun _ _ _ h => h) (fun w9 hw9 => ?_) hS1 ?_
          · obtain ⟨z0, z1, z2⟩ := hw9.rec1.cells; obtain ⟨y0, y1, y2⟩ := hw9.rec2.cells
            simp only [List.getElem_toArray, List.getElem_cons_zero, List.getElem_cons_succ]
            go_simp
          simp only [Act.put, List.setIfInBounds_toArray, List.set_cons_zero, List.set_cons_succ]
          refine wpAnyC_takeG 8 62 (.agg #[.int .u8 (r.kind.toNat : Int), .int .u8 (r.level.toNat : Int), .slice fa r.fields.length fc]) rfl rfl (by rfl) (by kernel_rfl) (by kernel_rfl) (by kernel_rfl) (by kernel_rfl) (fun _ _ _ h => h) (fun w9 hw9 => ?_) hS1 ?_
          · obtain ⟨z0, z1, z2⟩ := hw9.rec1.cells; obtain ⟨y0, y1, y2⟩ := hw9.rec2.cells
            simp only [List.getElem_toArray, List.getElem_cons_zero, List.getElem_cons_succ]
            go_simp
          simp only [Act.put, List.setIfInBounds_toArray, List.set_cons_zero, List.set_cons_succ]
          refine wpAnyC_takeG 10 64 (.slice ta rs.length tc) rfl rfl (by rfl) (by kernel_rfl) (by kernel_rfl) (by kernel_rfl) (by kernel_rfl) (fun _ _ _ h => h) (fun w9 hw9 => ?_) hS1 ?_
          · obtain ⟨z0, z1, z2⟩ := hw9.rec1.cells; obtain ⟨y0, y1, y2⟩ := hw9.rec2.cells
            simp only [List.getElem_toArray, List.getElem_cons_zero, List.getElem_cons_succ]
            go_simp
          simp only [Act.put, List.setIfInBounds_toArray, List.set_cons_zero, List.set_cons_succ]
          refine wpAnyC_takeG 11 65 (.agg #[.int .u8 (r.kind.toNat : Int), .int .u8 (r.level.toNat : Int), .slice ga r.fields.length gc]) rfl rfl (by rfl) (by kernel_rfl) (by kernel_rfl) (by kernel_rfl) (by kernel_rfl) (fun _ _ _ h => h) (fun w9 hw9 => ?_) hS1 ?_
          · obtain ⟨z0, z1, z2⟩ := hw9.rec1.cells; obtain ⟨y0, y1, y2⟩ := hw9.rec2.cells
            simp only [List.getElem_toArray, List.getElem_cons_zero, List.getElem_cons_succ]
            go_simp
          simp only [Act.put, List.setIfInBounds_toArray, List.set_cons_zero, List.set_cons_succ]
          refine wpAnyC_step (k := 9) rfl (by kernel_rfl) (fun K hK => ?_)
          rw [if_pos (by rfl)]
          go_wp2_with (go_at_call 18; refine (rul_checks hS1.r1 Hsa.out hS1.rec1.flds Hsm.out Hsh.out hn8).1.mono ?_; rintro e X2 ⟨p2, k2, rfl, hp2, m2⟩)
          have hS2 := hS1.below m2
          refine hK _ _ (fun _ => hS2) ?_
          clear hK m2 hS1
          refine wpAnyC_step (k := 12) rfl (by kernel_rfl) (fun K hK => ?_)
          rw [if_pos (by rfl)]
          go_wp2_with (go_at_call 18; refine (rul_checks hS2.r2 Hta.out hS2.rec2.flds Hsm.out Hsh.out hn8).1.mono ?_; rintro e X3 ⟨p3, k3, rfl, hp3, m3⟩)
          have hS3 := hS2.below m3
          have hp2 := hp2.below m3 (Nat.le_refl _)
          refine hK _ _ (fun _ => hS3) ?_
          clear hK m3 hS2
          refine wpAnyC_step (k := 13) rfl (by kernel_rfl) (fun K hK => ?_)
          rw [if_pos (by rfl)]
          go_wp2_with (go_at_call 17; refine (same_t (checkS rs r.fields) _ _ _ hp2 hp3).mono ?_; rintro e X4 ⟨rfl, m4⟩)
          have hS4 := hS3.below m4
          refine hK _ _ (fun _ => hS4) ?_
          clear hK m4 hS3 hp2 hp3
          refine wpAnyC_takeD 14 68 (.bool true) rfl rfl rfl (by kernel_rfl) (by kernel_rfl) (by kernel_rfl) (by kernel_rfl) (fun _ _ _ h => h) (fun w9 hw9 => ?_) hS4 ?_
          · obtain ⟨z0, z1, z2⟩ := hw9.rec1.cells; obtain ⟨y0, y1, y2⟩ := hw9.rec2.cells
            simp only [List.getElem_toArray, List.getElem_cons_zero, List.getElem_cons_succ]
            go_simp
          simp only [Act.put, List.setIfInBounds_toArray, List.set_cons_zero, List.set_cons_succ]
          refine wpAnyC_takeD 15 69 (.bool true) rfl rfl rfl (by kernel_rfl) (by kernel_rfl) (by kernel_rfl) (by kernel_rfl) (fun _ _ _ h => h) (fun w9 hw9 => ?_) hS4 ?_
          · obtain ⟨z0, z1, z2⟩ := hw9.rec1.cells; obtain ⟨y0, y1, y2⟩ := hw9.rec2.cells
            simp only [List.getElem_toArray, List.getElem_cons_zero, List.getElem_cons_succ]
            go_simp
          simp only [Act.put, List.setIfInBounds_toArray, List.set_cons_zero, List.set_cons_succ]
          refine wpAnyC_takeG 16 70 (.slice sa rs.length sc) rfl rfl (by rfl) (by kernel_rfl) (by kernel_rfl) (by kernel_rfl) (by kernel_rfl) (fun _ _ _ h => h) (fun w9 hw9 => ?_) hS4 ?_
          · obtain ⟨z0, z1, z2⟩ := hw9.rec1.cells; obtain ⟨y0, y1, y2⟩ := hw9.rec2.cells
            simp only [List.getElem_toArray, List.getElem_cons_zero, List.getElem_cons_succ]
            go_simp
          simp only [Act.put, List.setIfInBounds_toArray, List.set_cons_zero, List.set_cons_succ]
          refine wpAnyC_takeG 17 71 (.agg #[.int .u8 (r.kind.toNat : Int), .int .u8 (r.level.toNat : Int), .slice fa r.fields.length fc]) rfl rfl (by rfl) (by kernel_rfl) (by kernel_rfl) (by kernel_rfl) (by kernel_rfl) (fun _ _ _ h => h) (fun w9 hw9 => ?_) hS4 ?_
          · obtain ⟨z0, z1, z2⟩ := hw9.rec1.cells; obtain ⟨y0, y1, y2⟩ := hw9.rec2.cells
            simp only [List.getElem_toArray, List.getElem_cons_zero, List.getElem_cons_succ]
            go_simp
          simp only [Act.put, List.setIfInBounds_toArray, List.set_cons_zero, List.set_cons_succ]
          refine wpAnyC_takeG 19 73 (.slice aa L.length ac) rfl rfl (by rfl) (by kernel_rfl) (by kernel_rfl) (by kernel_rfl) (by kernel_rfl) (fun _ _ _ h => h) (fun w9 hw9 => ?_) hS4 ?_
          · obtain ⟨z0, z1, z2⟩ := hw9.rec1.cells; obtain ⟨y0, y1, y2⟩ := hw9.rec2.cells
            simp only [List.getElem_toArray, List.getElem_cons_zero, List.getElem_cons_succ]
            go_simp
          simp only [Act.put, List.setIfInBounds_toArray, List.set_cons_zero, List.set_cons_succ]
          refine wpAnyC_takeG 20 74 (.int .i64 L.length) rfl rfl (by rfl) (by kernel_rfl) (by kernel_rfl) (by kernel_rfl) (by kernel_rfl) (fun _ _ _ h => h) (fun w9 hw9 => ?_) hS4 ?_
          · obtain ⟨z0, z1, z2⟩ := hw9.rec1.cells; obtain ⟨y0, y1, y2⟩ := hw9.rec2.cells
            simp only [List.getElem_toArray, List.getElem_cons_zero, List.getElem_cons_succ]
            go_simp
          simp only [Act.put, List.setIfInBounds_toArray, List.set_cons_zero, List.set_cons_succ]
          refine wpAnyC_takeG 21 75 (.bool ((L.length : Int) == 0)) rfl rfl (by rfl) (by kernel_rfl) (by kernel_rfl) (by kernel_rfl) (by kernel_rfl) (fun _ _ _ h => h) (fun w9 hw9 => ?_) hS4 ?_
          · obtain ⟨z0, z1, z2⟩ := hw9.rec1.cells; obtain ⟨y0, y1, y2⟩ := hw9.rec2.cells
            simp only [List.getElem_toArray, List.getElem_cons_zero, List.getElem_cons_succ]
            go_simp
          simp only [Act.put, List.setIfInBounds_toArray, List.set_cons_zero, List.set_cons_succ]
          have HF := Lib.hid (rul_checks hS4.r1 Hsa.out hS4.rec1.flds Hsm.out Hsh.out hn8).2.2
          rw [HL.out] at HF
          refine wpAnyC_step (k := 18) rfl (by kernel_rfl) (fun K hK => ?_)
          rw [if_pos (by rfl)]
          go_wp2_with (go_at_call 19; refine HF.out.mono ?_; rintro e X5 ⟨rfl, m5⟩)
          have hS5 := hS4.below m5
          refine hK _ _ (fun _ => hS5) ?_
          clear hK m5 hS4 HF
          refine wpAnyC_takeG 22 76 (.bool true) rfl rfl (by rfl) (by kernel_rfl) (by kernel_rfl) (by kernel_rfl) (by kernel_rfl) (fun _ _ _ h => h) (fun w9 hw9 => ?_) hS5 ?_
          · obtain ⟨z0, z1, z2⟩ := hw9.rec1.cells; obtain ⟨y0, y1, y2⟩ := hw9.rec2.cells
            simp only [List.getElem_toArray, List.getElem_cons_zero, List.getElem_cons_succ]
            go_simp
          simp only [Act.put, List.setIfInBounds_toArray, List.set_cons_zero, List.set_cons_succ]
          refine wpAnyC_takeD 23 77 (.bool true) rfl rfl rfl (by kernel_rfl) (by kernel_rfl) (by kernel_rfl) (by kernel_rfl) (fun _ _ _ h => h) (fun w9 hw9 => ?_) hS5 ?_
          · obtain ⟨z0, z1, z2⟩ := hw9.rec1.cells; obtain ⟨y0, y1, y2⟩ := hw9.rec2.cells
            simp only [List.getElem_toArray, List.getElem_cons_zero, List.getElem_cons_succ]
            go_simp
          simp only [Act.put, List.setIfInBounds_toArray, List.set_cons_zero, List.set_cons_succ]
          refine wpAnyC_step (k := 24) rfl (by kernel_rfl) (fun K hK => ?_)
          rw [if_pos (by rfl)]
          go_wp2_with fail
          refine hK _ _ (fun _ => hS5) ?_
          clear hK
          refine wpAnyC_done (by kernel_rfl) ?_
          have HB := Lib.hid hS5.rec1.bel
          clear hS5
          go_wp2
          go_ret
          exact ⟨rfl, HB.out⟩
end Go.Proofs.Ytfccpepmjklodaa
