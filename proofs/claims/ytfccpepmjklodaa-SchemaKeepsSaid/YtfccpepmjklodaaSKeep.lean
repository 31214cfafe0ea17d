/-
  SchemaKeeps: the reference's SameField and SameRecord at equal records.
-/
import Derived.Test.YtfccpepmjklodaaSRulW
import Derived.LoopNIn
namespace Go.Proofs.Ytfccpepmjklodaa
open Go.RowKit Go.Shelf
set_option linter.unusedVariables false
set_option linter.unusedSimpArgs false

set_option maxRecDepth 100000 in
set_option maxHeartbeats 8000000 in
theorem sameField_t (f : FldM) (va vb : Value) (w : World) (ha : SubsAt w va f.subs) (hb : SubsAt w vb f.subs) :
    Calls Try.prog 34 #[.agg #[str f.tag, str f.ind, str f.data, va], .agg #[str f.tag, str f.ind, str f.data, vb]] w (fun e w' => e = .returned (.bool true) ∧ Below w.heap.size w w') := by
  obtain ⟨sa, ca, rfl, hma, hca⟩ := ha.slice
  obtain ⟨sb, cb, rfl, hmb, hcb⟩ := hb.slice
  unfold maxLen at hma
  obtain ⟨W1, hW1⟩ : ∃ W1, w.alloc (.cells #[str f.tag, str f.ind, str f.data, .slice sa f.subs.length ca] 46) = W1 := ⟨_, rfl⟩
  have hs1 : W1.heap.size = w.heap.size + 1 := by rw [← hW1]; simp
  have hb1 : Below w.heap.size w W1 := by rw [← hW1]; exact below_new _ _
  have hn1 : W1.heap[w.heap.size]? = some (.cells #[str f.tag, str f.ind, str f.data, .slice sa f.subs.length ca] 46 (0, 0)) := by rw [← hW1]; exact new_at _ _
  obtain ⟨W2, hW2⟩ : ∃ W2, W1.alloc (.cells #[str f.tag, str f.ind, str f.data, .slice sb f.subs.length cb] 46) = W2 := ⟨_, rfl⟩
  have hb2 : Below W1.heap.size W1 W2 := by rw [← hW2]; exact below_new _ _
  have hn2 : W2.heap[w.heap.size + 1]? = some (.cells #[str f.tag, str f.ind, str f.data, .slice sb f.subs.length cb] 46 (0, 0)) := by rw [← hW2, ← hs1]; exact new_at _ _
  have hn1 := heap_below hb2 (Nat.le_refl _) hn1
  have a0 : W2.cell? ⟨w.heap.size, 0, none⟩ = some (str f.tag) := by rw [cell_at hn1]; rfl
  have a1 : W2.cell? ⟨w.heap.size, 1, none⟩ = some (str f.ind) := by rw [cell_at hn1]; rfl
  have a2 : W2.cell? ⟨w.heap.size, 2, none⟩ = some (str f.data) := by rw [cell_at hn1]; rfl
  have a3 : W2.cell? ⟨w.heap.size, 3, none⟩ = some (.slice sa f.subs.length ca) := by rw [cell_at hn1]; rfl
  have b0 : W2.cell? ⟨w.heap.size + 1, 0, none⟩ = some (str f.tag) := by rw [cell_at hn2]; rfl
  have b1 : W2.cell? ⟨w.heap.size + 1, 1, none⟩ = some (str f.ind) := by rw [cell_at hn2]; rfl
  have b2 : W2.cell? ⟨w.heap.size + 1, 2, none⟩ = some (str f.data) := by rw [cell_at hn2]; rfl
  have b3 : W2.cell? ⟨w.heap.size + 1, 3, none⟩ = some (.slice sb f.subs.length cb) := by rw [cell_at hn2]; rfl
  have HB := Lib.hid (below_tr hb1 hb2)
  have Ha := Lib.hid hca
  have Hb := Lib.hid hcb
  clear hb1 hn1 hb2 hn2 hca hcb ha hb
  go_enter Try.func34, Try.ntmps34
  go_wp2_with fail
  clear hW1 hW2 hs1 a0 a1 a2 b0 b1 b2
  go_loopw [5] (fun iv wr => ∃ k n : Nat, k ≤ f.subs.length ∧ iv = .int .i64 k ∧ wr = W2.drewN n) (fun iv _ => f.subs.length - (intOf iv).toNat)
  case atStart => exact ⟨0, 0, Nat.zero_le _, rfl, rfl⟩
  case round =>
    obtain ⟨k, n, hk, rfl, hwr⟩ := hrel
    have hbr : Below w.heap.size w wr := by rw [hwr]; exact below_dr HB.out n
    have a3 : wr.cell? ⟨w.heap.size, 3, none⟩ = some (.slice sa f.subs.length ca) := by rw [hwr]; exact a3
    have b3 : wr.cell? ⟨w.heap.size + 1, 3, none⟩ = some (.slice sb f.subs.length cb) := by rw [hwr]; exact b3
    have Hwr := Lib.hid hwr
    by_cases hlt : k < f.subs.length
    · have i0 : (0 : Int) ≤ (k : Int) := by omega
      have i1 : (k : Int) < (f.subs.length : Int) := by omega
      obtain ⟨ba, oa, hae, -, p0, p1⟩ := Ha.out k hlt
      obtain ⟨bb, ob, hbe, -, q0, q1⟩ := Hb.out k hlt
      have p0 := cell_below hbr (Nat.le_refl _) p0
      have p1 := cell_below hbr (Nat.le_refl _) p1
      have q0 := cell_below hbr (Nat.le_refl _) q0
      have q1 := cell_below hbr (Nat.le_refl _) q1
      obtain ⟨s, hs⟩ : ∃ s, f.subs[k] = s := ⟨_, rfl⟩
      rw [hs] at p0 p1 q0 q1
      obtain ⟨c, t⟩ := s
      simp only at p0 p1 q0 q1
      subst hae
      subst hbe
      clear hwr hbr hs
      go_wp2_with fail
      go_region
      go_wp2
      go_roundw
      case rel => exact ⟨k + 1, n + 1, hlt, by go_num, by rw [Hwr.out]; exact drN W2 n 1⟩
      case measure => simp [intOf]; omega
    · have i1 : ¬ (k : Int) < (f.subs.length : Int) := by omega
      have HR := Lib.hid hbr
      clear hwr hbr
      go_wp2
      go_ret
      exact ⟨rfl, HR.out⟩
set_option maxRecDepth 100000 in
set_option maxHeartbeats 8000000 in
theorem sameRec_t (r : RecM) (va vb : Value) (w : World) (ha : FldsAt w va r.fields) (hb : FldsAt w vb r.fields) :
    Calls Try.prog 22 #[.agg #[.int .u8 (r.kind.toNat : Int), .int .u8 (r.level.toNat : Int), va], .agg #[.int .u8 (r.kind.toNat : Int), .int .u8 (r.level.toNat : Int), vb]] w (fun e w' => e = .returned (.bool true) ∧ Below w.heap.size w w') := by
  obtain ⟨sa, ca, rfl, hma, hca⟩ := ha.slice
  obtain ⟨sb, cb, rfl, hmb, hcb⟩ := hb.slice
  unfold maxLen at hma
  obtain ⟨W1, hW1⟩ : ∃ W1, w.alloc (.cells #[.int .u8 (r.kind.toNat : Int), .int .u8 (r.level.toNat : Int), .slice sa r.fields.length ca] 32) = W1 := ⟨_, rfl⟩
  have hs1 : W1.heap.size = w.heap.size + 1 := by rw [← hW1]; simp
  have hb1 : Below w.heap.size w W1 := by rw [← hW1]; exact below_new _ _
  have hn1 : W1.heap[w.heap.size]? = some (.cells #[.int .u8 (r.kind.toNat : Int), .int .u8 (r.level.toNat : Int), .slice sa r.fields.length ca] 32 (0, 0)) := by rw [← hW1]; exact new_at _ _
  obtain ⟨W2, hW2⟩ : ∃ W2, W1.alloc (.cells #[.int .u8 (r.kind.toNat : Int), .int .u8 (r.level.toNat : Int), .slice sb r.fields.length cb] 32) = W2 := ⟨_, rfl⟩
  have hb2 : Below W1.heap.size W1 W2 := by rw [← hW2]; exact below_new _ _
  have hn2 : W2.heap[w.heap.size + 1]? = some (.cells #[.int .u8 (r.kind.toNat : Int), .int .u8 (r.level.toNat : Int), .slice sb r.fields.length cb] 32 (0, 0)) := by rw [← hW2, ← hs1]; exact new_at _ _
  have hn1 := heap_below hb2 (Nat.le_refl _) hn1
  have a0 : W2.cell? ⟨w.heap.size, 0, none⟩ = some (.int .u8 (r.kind.toNat : Int)) := by rw [cell_at hn1]; rfl
  have a1 : W2.cell? ⟨w.heap.size, 1, none⟩ = some (.int .u8 (r.level.toNat : Int)) := by rw [cell_at hn1]; rfl
  have a2 : W2.cell? ⟨w.heap.size, 2, none⟩ = some (.slice sa r.fields.length ca) := by rw [cell_at hn1]; rfl
  have b0 : W2.cell? ⟨w.heap.size + 1, 0, none⟩ = some (.int .u8 (r.kind.toNat : Int)) := by rw [cell_at hn2]; rfl
  have b1 : W2.cell? ⟨w.heap.size + 1, 1, none⟩ = some (.int .u8 (r.level.toNat : Int)) := by rw [cell_at hn2]; rfl
  have b2 : W2.cell? ⟨w.heap.size + 1, 2, none⟩ = some (.slice sb r.fields.length cb) := by rw [cell_at hn2]; rfl
  have HB := Lib.hid (below_tr hb1 hb2)
  have HB12 := Lib.hid (And.intro hn1 hn2)
  have Ha := Lib.hid hca
  have Hb := Lib.hid hcb
  have hw2 : w.heap.size + 1 < W2.heap.size := lt_at hn2
  have HN1 := Lib.hid hn1
  have HN2 := Lib.hid hn2
  clear hb1 hn1 hb2 hn2 hca hcb ha hb
  go_enter Try.func22, Try.ntmps22
  go_wp2_with fail
  clear hW1 hW2 hs1 a0 a1 b0 b1 a2 b2
  go_loopw [5, 6] (fun iv v6 wr => ∃ k : Nat, k ≤ r.fields.length ∧ iv = .int .i64 k ∧ Below W2.heap.size W2 wr) (fun iv _ _ => r.fields.length - (intOf iv).toNat)
  case atStart => exact ⟨0, Nat.zero_le _, rfl, Below.refl _ _⟩
  case round =>
    obtain ⟨k, hk, rfl, hb2r⟩ := hrel
    have hbr : Below w.heap.size w wr := HB.out.trans (hb2r.mono (by omega))
    have n1 := heap_below hb2r (Nat.le_refl _) HN1.out
    have n2 := heap_below hb2r (Nat.le_refl _) HN2.out
    have a2 : wr.cell? ⟨w.heap.size, 2, none⟩ = some (.slice sa r.fields.length ca) := by rw [cell_at n1]; rfl
    have b2 : wr.cell? ⟨w.heap.size + 1, 2, none⟩ = some (.slice sb r.fields.length cb) := by rw [cell_at n2]; rfl
    by_cases hlt : k < r.fields.length
    · have i0 : (0 : Int) ≤ (k : Int) := by omega
      have i1 : (k : Int) < (r.fields.length : Int) := by omega
      obtain ⟨ba, oa, hae, -, p0, p1, p2, pv, p3, hsa⟩ := Ha.out k hlt
      obtain ⟨bb, ob, hbe, -, q0, q1, q2, qv, q3, hsb⟩ := Hb.out k hlt
      obtain ⟨f, hf⟩ : ∃ f, r.fields[k] = f := ⟨_, rfl⟩
      rw [hf] at p0 p1 p2 hsa q0 q1 q2 hsb
      have hsa := hsa.below hbr (Nat.le_refl _)
      have hsb := hsb.below hbr (Nat.le_refl _)
      have p0 := cell_below hbr (Nat.le_refl _) p0
      have p1 := cell_below hbr (Nat.le_refl _) p1
      have p2 := cell_below hbr (Nat.le_refl _) p2
      have p3 := cell_below hbr (Nat.le_refl _) p3
      have q0 := cell_below hbr (Nat.le_refl _) q0
      have q1 := cell_below hbr (Nat.le_refl _) q1
      have q2 := cell_below hbr (Nat.le_refl _) q2
      have q3 := cell_below hbr (Nat.le_refl _) q3
      obtain ⟨xa, xc, rfl, -, -⟩ := id hsa.slice
      obtain ⟨ya, yc, rfl, -, -⟩ := id hsb.slice
      subst hae
      subst hbe
      have HF := Lib.hid (sameField_t f _ _ wr.drew (hsa.below (Below.refl _ wr).drew (Nat.le_refl _)) (hsb.below (Below.refl _ wr).drew (Nat.le_refl _)))
      have H2r := Lib.hid hb2r
      clear hbr n1 n2 hf hsa hsb hb2r
      go_wp2_with fail
      obtain ⟨W0, hW0⟩ : ∃ x, wr.drew = x := ⟨_, rfl⟩
      have a2 := cell_below (Below.refl wr.heap.size wr).drew (Nat.le_refl _) a2
      have b2 := cell_below (Below.refl wr.heap.size wr).drew (Nat.le_refl _) b2
      have p0 := cell_below (Below.refl wr.heap.size wr).drew (Nat.le_refl _) p0
      have p1 := cell_below (Below.refl wr.heap.size wr).drew (Nat.le_refl _) p1
      have p2 := cell_below (Below.refl wr.heap.size wr).drew (Nat.le_refl _) p2
      have p3 := cell_below (Below.refl wr.heap.size wr).drew (Nat.le_refl _) p3
      have q0 := cell_below (Below.refl wr.heap.size wr).drew (Nat.le_refl _) q0
      have q1 := cell_below (Below.refl wr.heap.size wr).drew (Nat.le_refl _) q1
      have q2 := cell_below (Below.refl wr.heap.size wr).drew (Nat.le_refl _) q2
      have q3 := cell_below (Below.refl wr.heap.size wr).drew (Nat.le_refl _) q3
      have hd : Below wr.heap.size wr W0 := by rw [← hW0]; exact (Below.refl _ _).drew
      rw [hW0] at a2 b2 p0 p1 p2 p3 q0 q1 q2 q3 HF
      refine wp_region_C 12 12 (fun w' => Below W0.heap.size W0 w') rfl rfl ?_
      rw [hW0]
      have hS0 : Below W0.heap.size W0 W0 := Below.refl _ _
      refine wpAnyC_takeD 0 35 (.pointer (some ⟨w.heap.size, 2, none⟩)) rfl rfl rfl (by kernel_rfl) (by kernel_rfl) (by kernel_rfl) (by kernel_rfl) (fun _ _ _ h => h) (fun w9 hw9 => ?_) hS0 ?_
      · have a2 := cell_below hw9 (Nat.le_refl _) a2; have b2 := cell_below hw9 (Nat.le_refl _) b2; have p0 := cell_below hw9 (Nat.le_refl _) p0; have p1 := cell_below hw9 (Nat.le_refl _) p1; have p2 := cell_below hw9 (Nat.le_refl _) p2; have p3 := cell_below hw9 (Nat.le_refl _) p3; have q0 := cell_below hw9 (Nat.le_refl _) q0; have q1 := cell_below hw9 (Nat.le_refl _) q1; have q2 := cell_below hw9 (Nat.le_refl _) q2; have q3 := cell_below hw9 (Nat.le_refl _) q3
        simp only [List.getElem_toArray, List.getElem_cons_zero, List.getElem_cons_succ]
        go_simp
      simp only [Act.put, List.setIfInBounds_toArray, List.set_cons_zero, List.set_cons_succ]
      refine wpAnyC_takeD 1 36 (.slice (some ⟨ba, oa, none⟩) r.fields.length ca) rfl rfl rfl (by kernel_rfl) (by kernel_rfl) (by kernel_rfl) (by kernel_rfl) (fun _ _ _ h => h) (fun w9 hw9 => ?_) hS0 ?_
      · have a2 := cell_below hw9 (Nat.le_refl _) a2; have b2 := cell_below hw9 (Nat.le_refl _) b2; have p0 := cell_below hw9 (Nat.le_refl _) p0; have p1 := cell_below hw9 (Nat.le_refl _) p1; have p2 := cell_below hw9 (Nat.le_refl _) p2; have p3 := cell_below hw9 (Nat.le_refl _) p3; have q0 := cell_below hw9 (Nat.le_refl _) q0; have q1 := cell_below hw9 (Nat.le_refl _) q1; have q2 := cell_below hw9 (Nat.le_refl _) q2; have q3 := cell_below hw9 (Nat.le_refl _) q3
        simp only [List.getElem_toArray, List.getElem_cons_zero, List.getElem_cons_succ]
        go_simp
      simp only [Act.put, List.setIfInBounds_toArray, List.set_cons_zero, List.set_cons_succ]
      refine wpAnyC_takeD 2 37 (.int .i64 k) rfl rfl rfl (by kernel_rfl) (by kernel_rfl) (by kernel_rfl) (by kernel_rfl) (fun _ _ _ h => h) (fun w9 hw9 => ?_) hS0 ?_
      · have a2 := cell_below hw9 (Nat.le_refl _) a2; have b2 := cell_below hw9 (Nat.le_refl _) b2; have p0 := cell_below hw9 (Nat.le_refl _) p0; have p1 := cell_below hw9 (Nat.le_refl _) p1; have p2 := cell_below hw9 (Nat.le_refl _) p2; have p3 := cell_below hw9 (Nat.le_refl _) p3; have q0 := cell_below hw9 (Nat.le_refl _) q0; have q1 := cell_below hw9 (Nat.le_refl _) q1; have q2 := cell_below hw9 (Nat.le_refl _) q2; have q3 := cell_below hw9 (Nat.le_refl _) q3
        simp only [List.getElem_toArray, List.getElem_cons_zero, List.getElem_cons_succ]
        go_simp
      simp only [Act.put, List.setIfInBounds_toArray, List.set_cons_zero, List.set_cons_succ]
      refine wpAnyC_takeD 3 38 (.pointer (some ⟨ba, oa + k * 4, none⟩)) rfl rfl rfl (by kernel_rfl) (by kernel_rfl) (by kernel_rfl) (by kernel_rfl) (fun _ _ _ h => h) (fun w9 hw9 => ?_) hS0 ?_
      · have a2 := cell_below hw9 (Nat.le_refl _) a2; have b2 := cell_below hw9 (Nat.le_refl _) b2; have p0 := cell_below hw9 (Nat.le_refl _) p0; have p1 := cell_below hw9 (Nat.le_refl _) p1; have p2 := cell_below hw9 (Nat.le_refl _) p2; have p3 := cell_below hw9 (Nat.le_refl _) p3; have q0 := cell_below hw9 (Nat.le_refl _) q0; have q1 := cell_below hw9 (Nat.le_refl _) q1; have q2 := cell_below hw9 (Nat.le_refl _) q2; have q3 := cell_below hw9 (Nat.le_refl _) q3
        simp only [List.getElem_toArray, List.getElem_cons_zero, List.getElem_cons_succ]
        go_simp
      simp only [Act.put, List.setIfInBounds_toArray, List.set_cons_zero, List.set_cons_succ]
      refine wpAnyC_takeD 4 39 (.agg #[str f.tag, str f.ind, str f.data, .slice xa f.subs.length xc]) rfl rfl rfl (by kernel_rfl) (by kernel_rfl) (by kernel_rfl) (by kernel_rfl) (fun _ _ _ h => h) (fun w9 hw9 => ?_) hS0 ?_
      · have a2 := cell_below hw9 (Nat.le_refl _) a2; have b2 := cell_below hw9 (Nat.le_refl _) b2; have p0 := cell_below hw9 (Nat.le_refl _) p0; have p1 := cell_below hw9 (Nat.le_refl _) p1; have p2 := cell_below hw9 (Nat.le_refl _) p2; have p3 := cell_below hw9 (Nat.le_refl _) p3; have q0 := cell_below hw9 (Nat.le_refl _) q0; have q1 := cell_below hw9 (Nat.le_refl _) q1; have q2 := cell_below hw9 (Nat.le_refl _) q2; have q3 := cell_below hw9 (Nat.le_refl _) q3
        simp only [List.getElem_toArray, List.getElem_cons_zero, List.getElem_cons_succ]
        go_simp
      simp only [Act.put, List.setIfInBounds_toArray, List.set_cons_zero, List.set_cons_succ]
      refine wpAnyC_takeD 5 40 (.pointer (some ⟨w.heap.size + 1, 2, none⟩)) rfl rfl rfl (by kernel_rfl) (by kernel_rfl) (by kernel_rfl) (by kernel_rfl) (fun _ _ _ h => h) (fun w9 hw9 => ?_) hS0 ?_
      · have a2 := cell_below hw9 (Nat.le_refl _) a2; have b2 := cell_below hw9 (Nat.le_refl _) b2; have p0 := cell_below hw9 (Nat.le_refl _) p0; have p1 := cell_below hw9 (Nat.le_refl _) p1; have p2 := cell_below hw9 (Nat.le_refl _) p2; have p3 := cell_below hw9 (Nat.le_refl _) p3; have q0 := cell_below hw9 (Nat.le_refl _) q0; have q1 := cell_below hw9 (Nat.le_refl _) q1; have q2 := cell_below hw9 (Nat.le_refl _) q2; have q3 := cell_below hw9 (Nat.le_refl _) q3
        simp only [List.getElem_toArray, List.getElem_cons_zero, List.getElem_cons_succ]
        go_simp
      simp only [Act.put, List.setIfInBounds_toArray, List.set_cons_zero, List.set_cons_succ]
      refine wpAnyC_takeD 6 41 (.slice (some ⟨bb, ob, none⟩) r.fields.length cb) rfl rfl rfl (by kernel_rfl) (by kernel_rfl) (by kernel_rfl) (by kernel_rfl) (fun _ _ _ h => h) (fun w9 hw9 => ?_) hS0 ?_
      · have a2 := cell_below hw9 (Nat.le_refl _) a2; have b2 := cell_below hw9 (Nat.le_refl _) b2; have p0 := cell_below hw9 (Nat.le_refl _) p0; have p1 := cell_below hw9 (Nat.le_refl _) p1; have p2 := cell_below hw9 (Nat.le_refl _) p2; have p3 := cell_below hw9 (Nat.le_refl _) p3; have q0 := cell_below hw9 (Nat.le_refl _) q0; have q1 := cell_below hw9 (Nat.le_refl _) q1; have q2 := cell_below hw9 (Nat.le_refl _) q2; have q3 := cell_below hw9 (Nat.le_refl _) q3
        simp only [List.getElem_toArray, List.getElem_cons_zero, List.getElem_cons_succ]
        go_simp
      simp only [Act.put, List.setIfInBounds_toArray, List.set_cons_zero, List.set_cons_succ]
      refine wpAnyC_takeD 7 42 (.int .i64 k) rfl rfl rfl (by kernel_rfl) (by kernel_rfl) (by kernel_rfl) (by kernel_rfl) (fun _ _ _ h => h) (fun w9 hw9 => ?_) hS0 ?_
      · have a2 := cell_below hw9 (Nat.le_refl _) a2; have b2 := cell_below hw9 (Nat.le_refl _) b2; have p0 := cell_below hw9 (Nat.le_refl _) p0; have p1 := cell_below hw9 (Nat.le_refl _) p1; have p2 := cell_below hw9 (Nat.le_refl _) p2; have p3 := cell_below hw9 (Nat.le_refl _) p3; have q0 := cell_below hw9 (Nat.le_refl _) q0; have q1 := cell_below hw9 (Nat.le_refl _) q1; have q2 := cell_below hw9 (Nat.le_refl _) q2; have q3 := cell_below hw9 (Nat.le_refl _) q3
        simp only [List.getElem_toArray, List.getElem_cons_zero, List.getElem_cons_succ]
        go_simp
      simp only [Act.put, List.setIfInBounds_toArray, List.set_cons_zero, List.set_cons_succ]
      refine wpAnyC_takeD 8 43 (.pointer (some ⟨bb, ob + k * 4, none⟩)) rfl rfl rfl (by kernel_rfl) (by kernel_rfl) (by kernel_rfl) (by kernel_rfl) (fun _ _ _ h => h) (fun w9 hw9 => ?_) hS0 ?_
      · have a2 := cell_below hw9 (Nat.le_refl _) a2; have b2 := cell_below hw9 (Nat.le_refl _) b2; have p0 := cell_below hw9 (Nat.le_refl _) p0; have p1 := cell_below hw9 (Nat.le_refl _) p1; have p2 := cell_below hw9 (Nat.le_refl _) p2; have p3 := cell_below hw9 (Nat.le_refl _) p3; have q0 := cell_below hw9 (Nat.le_refl _) q0; have q1 := cell_below hw9 (Nat.le_refl _) q1; have q2 := cell_below hw9 (Nat.le_refl _) q2; have q3 := cell_below hw9 (Nat.le_refl _) q3
        simp only [List.getElem_toArray, List.getElem_cons_zero, List.getElem_cons_succ]
        go_simp
      simp only [Act.put, List.setIfInBounds_toArray, List.set_cons_zero, List.set_cons_succ]
      refine wpAnyC_takeD 9 44 (.agg #[str f.tag, str f.ind, str f.data, .slice ya f.subs.length yc]) rfl rfl rfl (by kernel_rfl) (by kernel_rfl) (by kernel_rfl) (by kernel_rfl) (fun _ _ _ h => h) (fun w9 hw9 => ?_) hS0 ?_
      · have a2 := cell_below hw9 (Nat.le_refl _) a2; have b2 := cell_below hw9 (Nat.le_refl _) b2; have p0 := cell_below hw9 (Nat.le_refl _) p0; have p1 := cell_below hw9 (Nat.le_refl _) p1; have p2 := cell_below hw9 (Nat.le_refl _) p2; have p3 := cell_below hw9 (Nat.le_refl _) p3; have q0 := cell_below hw9 (Nat.le_refl _) q0; have q1 := cell_below hw9 (Nat.le_refl _) q1; have q2 := cell_below hw9 (Nat.le_refl _) q2; have q3 := cell_below hw9 (Nat.le_refl _) q3
        simp only [List.getElem_toArray, List.getElem_cons_zero, List.getElem_cons_succ]
        go_simp
      simp only [Act.put, List.setIfInBounds_toArray, List.set_cons_zero, List.set_cons_succ]
      refine wpAnyC_step (k := 10) rfl (by kernel_rfl) (fun K hK => ?_)
      rw [if_pos (by rfl)]
      go_wp2_with (go_at_call 34; refine HF.out.mono ?_; rintro e X1 ⟨rfl, hb1⟩)
      refine hK _ _ (fun _ => hb1) ?_
      clear hK
      refine wpAnyC_step (k := 11) rfl (by kernel_rfl) (fun K hK => ?_)
      rw [if_pos (by rfl)]
      go_wp2_with fail
      refine hK _ _ (fun _ => hb1) ?_
      clear hK
      refine wpAnyC_done (by kernel_rfl) ?_
      have H3 := Lib.hid (H2r.out.trans ((below_tr hd hb1).mono H2r.out.size))
      clear hb1 hd hW0 hS0 HF a2 b2 p0 p1 p2 p3 q0 q1 q2 q3
      go_wp2
      go_roundw
      case rel => exact ⟨k + 1, hlt, by go_num, H3.out⟩
      case measure => simp [intOf]; omega
    · have i1 : ¬ (k : Int) < (r.fields.length : Int) := by omega
      have HR := Lib.hid hbr
      clear hb2r hbr n1 n2
      go_wp2
      go_ret
      exact ⟨rfl, HR.out⟩
end Go.Proofs.Ytfccpepmjklodaa
