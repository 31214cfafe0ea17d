/-
  The walk of SchemaTexts.
-/
import Derived.Test.YtfccpepmjklodaaSTxt
namespace Go.Proofs.Ytfccpepmjklodaa
open Go.RowKit Go.Shelf
set_option linter.unusedVariables false
set_option linter.unusedSimpArgs false

set_option maxRecDepth 100000 in
set_option maxHeartbeats 20000000 in
theorem walk_SchemaTexts (v : Value) (l : List (Int × Int × Int × Int)) (T : List UInt8) (w0 : World) (hv : ReadsQ w0 v l) (hT : T.length ≤ 140737488351232) :
    Calls Try.prog 8 #[v, str T] w0 (fun e w' => e = .returned (.bool true) ∧ Below w0.heap.size w0 w') := by
  obtain ⟨w, hw⟩ : ∃ w, w0 = w := ⟨_, rfl⟩
  rw [hw] at hv ⊢
  clear hw
  obtain ⟨a, cap, rfl, -⟩ := id hv.slice
  have HS := Lib.hid (sanity_c w)
  have HV := Lib.hid hv
  obtain ⟨r, hr⟩ : ∃ r, madeM l = r := ⟨_, rfl⟩
  have Hr := Lib.hid hr
  have hsm : Small 5 r := by rw [← hr]; exact (made_small l).mono (by decide)
  have Hsm := Lib.hid hsm
  clear hv hr hsm
  go_enter Try.func8, Try.ntmps8
  go_wp2_with fail
  refine HS.out.mono ?_
  rintro e w4 ⟨rfl, hb4⟩
  have HV := Lib.hid (HV.out.below hb4 (Nat.le_refl _))
  have Hb := Lib.hid hb4
  clear HS hb4
  go_wp2_with fail
  refine (made_v HV.out).mono ?_
  rintro e w5 ⟨fv', rfl, hf5, hb5⟩
  rw [Hr.out] at hf5 ⊢
  obtain ⟨fa, fc, rfl⟩ := FldsAt.slice' hf5
  obtain ⟨w6, hw6⟩ : ∃ x, w5.alloc (.cells #[.int .u8 (r.kind.toNat : Int), .int .u8 (r.level.toNat : Int), .slice fa r.fields.length fc] 32) = x := ⟨_, rfl⟩
  have hb6 : Below w5.heap.size w5 w6 := by rw [← hw6]; exact below_new _ _
  have hn6 : w6.heap[w5.heap.size]? = some (.cells #[.int .u8 (r.kind.toNat : Int), .int .u8 (r.level.toNat : Int), .slice fa r.fields.length fc] 32 (0, 0)) := by rw [← hw6]; exact new_at _ _
  obtain ⟨xb, hxb⟩ : ∃ k, w5.heap.size = k := ⟨_, rfl⟩
  have HR6 := Lib.hid (show RecS w w6 xb (.slice fa r.fields.length fc) r from ⟨below_tr (below_tr Hb.out hb5) hb6, by rw [← hxb]; exact hn6, hf5.below hb6 (Nat.le_refl _)⟩)
  have HW6 := Lib.hid hw6
  clear hf5 hb5 hb6 hn6 hw6 HV
  go_wp2_with fail
  rw [HW6.out]
  clear HW6
  try rw [hxb]
  clear hxb
  refine (standard_c w6).mono ?_
  rintro e w7 ⟨rfl, hs7, hb7⟩
  obtain ⟨sb, hsb⟩ : ∃ k, w6.heap.size = k := ⟨_, rfl⟩
  rw [hsb] at hs7 ⊢
  have hR7 := HR6.out.below hb7
  obtain ⟨z0, z1, z2⟩ := hR7.cells
  have HR7 := Lib.hid hR7
  have Hs7 := Lib.hid hs7
  clear hs7 hb7 hsb hR7 HR6
  go_wp2_with fail
  refine (std_checks Hs7.out HR7.out.flds Hsm.out).1.mono ?_
  rintro e w8 ⟨pa, pc, rfl, hp8, hb8⟩
  have hR8 := HR7.out.below hb8
  obtain ⟨z0, z1, z2⟩ := hR8.cells
  have HR8 := Lib.hid hR8
  have Hs8 := Lib.hid (heap_below hb8 (Nat.le_refl _) Hs7.out)
  have Hp8 := Lib.hid hp8
  clear hp8 hb8 hR8 HR7 Hs7
  go_wp2_with fail
  refine (bent_c (.agg #[.int .u8 (r.kind.toNat : Int), .int .u8 (r.level.toNat : Int), .slice fa r.fields.length fc]) r 8 0 0 w8 ⟨_, rfl, HR8.out.flds⟩ (Hsm.out.fit (by decide)) (by unfold Fits; decide) (by unfold Fits; decide) (by unfold Fits; decide)).mono ?_
  rintro e w9 ⟨p, acc, sv, rfl, hrow9, hacc9, hmap9, hb9, hp9⟩
  obtain ⟨hbe, -, -⟩ := bent_eight r
  rw [hbe] at hmap9
  obtain ⟨sva, svc, rfl⟩ := own_form hrow9
  obtain ⟨yk, hyk⟩ : ∃ y, Value.int .u8 ((bentM r 8 0 0).kind.toNat : Int) = y := ⟨_, rfl⟩
  obtain ⟨yl, hyl⟩ : ∃ y, Value.int .u8 ((bentM r 8 0 0).level.toNat : Int) = y := ⟨_, rfl⟩
  obtain ⟨w10, hw10⟩ : ∃ x, w9.alloc (.cells #[.int .u8 ((bentM r 8 0 0).kind.toNat : Int), .int .u8 ((bentM r 8 0 0).level.toNat : Int), .slice sva acc.length svc] 32) = x := ⟨_, rfl⟩
  have hb10 : Below w9.heap.size w9 w10 := by rw [← hw10]; exact below_new _ _
  have hn10 : w10.heap[w9.heap.size]? = some (.cells #[yk, yl, .slice sva acc.length svc] 32 (0, 0)) := by rw [← hw10, ← hyk, ← hyl]; exact new_at _ _
  have hy98 : w8.heap.size ≤ w9.heap.size := hb9.size
  obtain ⟨yb, hyb⟩ : ∃ k, w9.heap.size = k := ⟨_, rfl⟩
  rw [hyb] at hn10
  have h11 := blk_set hn10 0 (.int .u8 120)
  have h12 := blk_set h11 1 (.int .u8 0)
  have c0 : w10.cell? ⟨yb, 0, none⟩ = some yk := by rw [cell_at hn10]; rfl
  have d0 : w10.frozen? ⟨yb, 0, none⟩ = false := Lib.frozen_of_heap hn10 0
  have c1 : (w10.setCell ⟨yb, 0, none⟩ (.int .u8 120)).cell? ⟨yb, 1, none⟩ = some yl := by rw [cell_at h11]; rfl
  have d1 : (w10.setCell ⟨yb, 0, none⟩ (.int .u8 120)).frozen? ⟨yb, 1, none⟩ = false := Lib.frozen_of_heap h11 1
  have hb9z : Below w9.heap.size w9 ((w10.setCell ⟨yb, 0, none⟩ (.int .u8 120)).setCell ⟨yb, 1, none⟩ (.int .u8 0)) := below_set (below_set hb10 (Nat.le_of_eq hyb) _ _) (Nat.le_of_eq hyb) _ _
  obtain ⟨w12, hw12⟩ : ∃ Z, (w10.setCell ⟨yb, 0, none⟩ (.int .u8 120)).setCell ⟨yb, 1, none⟩ (.int .u8 0) = Z := ⟨_, rfl⟩
  rw [hw12] at h12 hb9z
  have hT12 : TxW w8 w12 yb (p + 1) (.slice sva acc.length svc) acc := ⟨below_tr hb9 hb9z, h12, own_bel hrow9 hb9z, fun q hq => (RowC.of_own (hacc9 q hq)).below hb9z⟩
  have hlow : ∀ q ∈ acc, ∀ g, q.2.ownBlock = some g → w8.heap.size ≤ g := fun q hq g hg => by have := ((hacc9 q hq).lt g hg).1; omega
  have hlen : acc.length ≤ 20 := by have := congrArg List.length hmap9; rw [List.length_map] at this; rw [this]; exact Hsm.out.1
  have c2 : w12.cell? ⟨yb, 2, none⟩ = some (.slice sva acc.length svc) := by rw [cell_at h12]; rfl
  have HT12 := Lib.hid hT12
  have Hlow := Lib.hid hlow
  have Hmap := Lib.hid hmap9
  have HW10 := Lib.hid hw10
  clear hrow9 hacc9 hmap9 hb9 hp9 hbe hb10 hn10 hy98 h11 h12 hb9z hT12 hlow hyk hyl z0 z1 z2 hw10
  go_upto_region 6 with fail
  rw [HW10.out]
  try rw [hyb]
  clear HW10 hyb
  go_wp2_with fail
  clear c0 d0 c1 d1 hw12
  go_loopw [10, 27] (fun v10 iv wr => ∃ (k : Nat), k ≤ acc.length ∧ iv = .int .i64 k ∧ TxW w8 wr yb (p + 1) (.slice sva acc.length svc) acc) (fun _ iv _ => acc.length - (intOf iv).toNat)
  case atStart => exact ⟨0, Nat.zero_le _, rfl, HT12.out⟩
  case round =>
    obtain ⟨k, hk, rfl, hX⟩ := hrel
    clear HT12 c2
    have c2 : wr.cell? ⟨yb, 2, none⟩ = some (.slice sva acc.length svc) := by rw [cell_at hX.box]; rfl
    by_cases hlt : k < acc.length
    · have i0 : (0 : Int) ≤ (k : Int) := by omega
      have i1 : (k : Int) < (acc.length : Int) := by omega
      obtain ⟨g, gc, hge, s3⟩ := hX.slot k hlt
      obtain ⟨rfl, rfl⟩ : sva = some ⟨g, 0, none⟩ ∧ svc = gc := by simpa using hge
      obtain ⟨q, hq⟩ : ∃ q, acc[k] = q := ⟨_, rfl⟩
      have hqm : q ∈ acc := by rw [← hq]; exact List.getElem_mem hlt
      have Hq := Lib.hid (show ∃ h : k < acc.length, acc[k] = q from ⟨hlt, hq⟩)
      rw [hq] at s3
      obtain ⟨qa, qc, hqv⟩ := (hX.subs q hqm).len
      obtain ⟨qf, qv⟩ := q
      simp only at hqv s3
      subst hqv
      have hmx : (qf.subs.map (·.code)).length ≤ 9223372036854775807 := by
        rcases hX.subs _ hqm with ⟨_, _, _, hn⟩ | ⟨_, _, _, _, hm, _⟩
        · simp only at hn; rw [hn]; simp
        · simpa [maxLen] using hm
      have HX := Lib.hid hX
      have Hqm := Lib.hid hqm
      obtain ⟨m, hm⟩ : ∃ m, (qf.subs.map (·.code)).length = m := ⟨_, rfl⟩
      rw [hm] at s3 Hqm Hq hmx
      have Hm := Lib.hid hm
      clear hX hq hqm hge hm
      go_wp2_with fail
      clear c2 s3
      go_loopw [11, 37] (fun v11 jv wr => ∃ (j : Nat), j ≤ m ∧ jv = .int .i64 j ∧ TxW w8 wr yb (p + 1) (.slice (some ⟨g, 0, none⟩) acc.length svc) acc) (fun _ jv _ => m - (intOf jv).toNat)
      case atStart => exact ⟨0, Nat.zero_le _, rfl, HX.out⟩
      case round =>
        obtain ⟨j, hj, rfl, hX⟩ := hrel
        clear HX
        by_cases hjl : j < m
        · have j0 : (0 : Int) ≤ (j : Int) := by omega
          have j1 : (j : Int) < (m : Int) := by omega
          have c2 : wr.cell? ⟨yb, 2, none⟩ = some (.slice (some ⟨g, 0, none⟩) acc.length svc) := by rw [cell_at hX.box]; rfl
          obtain ⟨g', gc', hge, s3⟩ := hX.slot k hlt
          obtain ⟨rfl, -⟩ : g = g' ∧ svc = gc' := by simpa using hge
          obtain ⟨hk2, hqe⟩ := Hq.out
          rw [hqe] at s3
          simp only at s3
          obtain ⟨bb, bc, cur, t, hbv, hbh, x1, x2⟩ := (hX.subs _ Hqm.out).cell (j := j) (by rw [Hm.out]; exact hjl)
          simp only at hbv
          rw [Hm.out] at hbv
          obtain ⟨rfl, rfl⟩ : qa = some ⟨bb, 0, none⟩ ∧ qc = bc := by simpa using hbv
          have hlow := Hlow.out _ Hqm.out bb rfl
          have HN := Lib.hid (hX.set hbh hlow (i := j) T)
          clear hX hge hbv hbh hlow hqe
          go_wp2_with fail
          go_roundw
          case rel => exact ⟨j + 1, hjl, by go_num, HN.out⟩
          case measure => simp [intOf]; omega
        · have j1 : ¬ (j : Int) < (m : Int) := by omega
          have HN := Lib.hid hX
          clear hX
          go_wp2_with fail
          go_roundw
          case rel => exact ⟨k + 1, hlt, by go_num, HN.out⟩
          case measure => simp [intOf]; omega
    · have i1 : ¬ (k : Int) < (acc.length : Int) := by omega
      have y0 : wr.cell? ⟨yb, 0, none⟩ = some (.int .u8 120) := by rw [cell_at hX.box]; rfl
      have y1 : wr.cell? ⟨yb, 1, none⟩ = some (.int .u8 0) := by rw [cell_at hX.box]; rfl
      obtain ⟨fs', hfs, hsh⟩ := hX.flds
      rw [Hmap.out] at hsh
      have hck : checkS stdR fs' = checkS stdR r.fields := checkS_alike hsh
      have HC := Lib.hid (std_checks (W := wr) (r := ⟨120, 0, fs'⟩) (heap_below hX.bel (Nat.le_refl _) Hs8.out) hfs (small_shape Hsm.out hsh)).1
      have Hck := Lib.hid hck
      have HB := Lib.hid (below_tr HR8.out.bel hX.bel)
      have HP := Lib.hid (Hp8.out.below hX.bel (Nat.le_refl _))
      clear hX hlt hfs hsh hck
      go_wp2_with fail
      refine HC.out.mono ?_
      rintro e w20 ⟨pa2, pc2, rfl, hp2, hb2⟩

      rw [Hck.out] at hp2
      have hp := HP.out.below hb2 (Nat.le_refl _)
      have HB := Lib.hid (below_tr HB.out hb2)
      rw [Hck.out]
      have HS := Lib.hid (same_t (checkS stdR r.fields) _ _ w20 hp hp2)
      clear hp hp2 hb2 HC HP
      go_wp2_with fail
      refine HS.out.mono ?_
      rintro e w21 ⟨rfl, hb3⟩
      have HB := Lib.hid (below_tr HB.out hb3)
      clear hb3
      go_wp2
      go_ret
      exact ⟨rfl, HB.out⟩
end Go.Proofs.Ytfccpepmjklodaa
