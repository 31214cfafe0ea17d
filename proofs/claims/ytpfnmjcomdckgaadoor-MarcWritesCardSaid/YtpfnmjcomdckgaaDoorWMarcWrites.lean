/-
  MarcWrites: Write and Right of records, right and wrong ones.
-/
import Derived.Test.YtpfnmjcomdckgaaDoorWMarcBack
import Derived.Test.YtpfnmjcomdckgaaDoorRRefZ
namespace Go.Proofs.YtpfnmjcomdckgaaDoor
open Go.RowKit Go.Shelf
set_option linter.unusedVariables false
set_option linter.unusedSimpArgs false

/-- Element k of the array of records. -/
def RecAt (W : World) (ab k : Nat) : Prop := ∃ (r : RecM) (fa : Option Addr) (fc : Nat), W.cell? ⟨ab, k * 3, none⟩ = some (.int .u8 (r.kind.toNat : Int)) ∧ W.cell? ⟨ab, k * 3 + 1, none⟩ = some (.int .u8 (r.level.toNat : Int)) ∧ W.cell? ⟨ab, k * 3 + 2, none⟩ = some (.slice fa r.fields.length fc) ∧
  FldsAt W (.slice fa r.fields.length fc) r.fields ∧ SizeOk 70000 r
theorem int3_at {W : World} {b : Nat} {x y z : Int} (h : W.heap[b]? = some (.cells #[.int .i64 x, .int .i64 y, .int .i64 z] 23 (0, 0))) :
    W.cell? ⟨b, 0, none⟩ = some (.int .i64 x) ∧ W.cell? ⟨b, 1, none⟩ = some (.int .i64 y) ∧ W.cell? ⟨b, 2, none⟩ = some (.int .i64 z) :=
  ⟨by rw [cell_at h]; rfl, by rw [cell_at h]; rfl, by rw [cell_at h]; rfl⟩
theorem recs_at {W : World} {ab : Nat} {r0 r1 r2 : RecM} {fa0 fa1 fa2 : Option Addr} {fc0 fc1 fc2 : Nat}
    (h : W.heap[ab]? = some (.cells #[.int .u8 (r0.kind.toNat : Int), .int .u8 (r0.level.toNat : Int), .slice fa0 r0.fields.length fc0, .int .u8 (r1.kind.toNat : Int), .int .u8 (r1.level.toNat : Int), .slice fa1 r1.fields.length fc1, .int .u8 (r2.kind.toNat : Int), .int .u8 (r2.level.toNat : Int), .slice fa2 r2.fields.length fc2] 30 (0, 0)))
    (h0 : FldsAt W (.slice fa0 r0.fields.length fc0) r0.fields) (h1 : FldsAt W (.slice fa1 r1.fields.length fc1) r1.fields) (h2 : FldsAt W (.slice fa2 r2.fields.length fc2) r2.fields)
    (s0 : SizeOk 70000 r0) (s1 : SizeOk 70000 r1) (s2 : SizeOk 70000 r2) : ∀ k, k < 3 → RecAt W ab k := by
  intro k hk
  match k, hk with
  | 0, _ => exact ⟨r0, fa0, fc0, by rw [cell_at h]; rfl, by rw [cell_at h]; rfl, by rw [cell_at h]; rfl, h0, s0⟩
  | 1, _ => exact ⟨r1, fa1, fc1, by rw [cell_at h]; rfl, by rw [cell_at h]; rfl, by rw [cell_at h]; rfl, h1, s1⟩
  | 2, _ => exact ⟨r2, fa2, fc2, by rw [cell_at h]; rfl, by rw [cell_at h]; rfl, by rw [cell_at h]; rfl, h2, s2⟩
set_option maxRecDepth 100000 in
set_option maxHeartbeats 20000000 in
theorem walk_MarcWrites (v : Value) (ll : List (Int × Int × Int)) (q0 q1 q2 u0 u1 u2 : Int) (w : World) (hv : ReadsT w v ll) (f0 : Fits q0) (f1 : Fits q1) (f2 : Fits q2) (e0 : Fits u0) (e1 : Fits u1) (e2 : Fits u2) (hT : Tabs w) :
    Calls Tryd.prog 3 #[v, .agg #[.int .i64 q0, .int .i64 q1, .int .i64 q2], .agg #[.int .i64 u0, .int .i64 u1, .int .i64 u2]] w (Yes w) := by
  obtain ⟨W2, hW2⟩ : ∃ W2, (w.alloc (.cells #[.int .i64 q0, .int .i64 q1, .int .i64 q2] 23)).alloc (.cells #[.int .i64 u0, .int .i64 u1, .int .i64 u2] 23) = W2 := ⟨_, rfl⟩
  have hb2 : Below w.heap.size w W2 := by rw [← hW2]; exact (below_new _ _).alloc (below_new _ _).size _
  have hq2 : W2.heap[w.heap.size]? = some (.cells #[.int .i64 q0, .int .i64 q1, .int .i64 q2] 23 (0, 0)) := by rw [← hW2]; exact heap_below (below_new _ _) (new_at _ _)
  have hu2 : W2.heap[w.heap.size + 1]? = some (.cells #[.int .i64 u0, .int .i64 u1, .int .i64 u2] 23 (0, 0)) := by
    rw [← hW2]
    have := new_at (w.alloc (.cells #[.int .i64 q0, .int .i64 q1, .int .i64 q2] 23)) (.cells #[.int .i64 u0, .int .i64 u1, .int .i64 u2] 23)
    rw [show (w.alloc (.cells #[.int .i64 q0, .int .i64 q1, .int .i64 q2] 23)).heap.size = w.heap.size + 1 by simp] at this
    exact this
  have hs := sanity_c W2 (tabs_below hT hb2)
  unfold Yes at hs
  have HS := Lib.hid hs
  have Hb2 := Lib.hid hb2
  have Hq2 := Lib.hid hq2
  have Hu2 := Lib.hid hu2
  have Hv := Lib.hid hv
  have MA := Lib.hid (fun W (h : ReadsT W v ll) => made_k v ll W h)
  have SP1 := Lib.hid (fun W x r (h : RecV W x r) (hs : SizeOk 5000 r) => spoiled_c x r q0 q1 q2 W h 5000 (by omega) hs f0 f1 f2)
  have SP2 := Lib.hid (fun W x r (h : RecV W x r) (hs : SizeOk 35000 r) => spoiled_c x r u0 u1 u2 W h 35000 (by omega) hs e0 e1 e2)
  unfold MadePostK at MA
  unfold SpPost at SP1 SP2
  clear hs hb2 hq2 hu2 hT hv
  unfold Yes
  go_enter Tryd.func3, Tryd.ntmps3
  go_wp2_with fail
  refine HS.out.mono ?_
  rintro e w3 ⟨rfl, hb3⟩
  have hq3 := heap_below hb3 Hq2.out
  have hu3 := heap_below hb3 Hu2.out
  have hw3 := Hb2.out.trans (hb3.mono Hb2.out.size)
  have Hq3 := Lib.hid hq3
  have Hu3 := Lib.hid hu3
  have Hw3 := Lib.hid hw3
  clear hb3 hq3 hu3 hw3 HS Hb2 Hq2 Hu2 hW2
  go_wp2_with fail
  refine (MA.out w3 (Hv.out.below Hw3.out (Nat.le_refl _))).mono ?_
  rintro _ w4 ⟨v0, r0, rfl, hrv0, hck0, hsz0, hb4, -, -⟩
  obtain ⟨fv0, rfl, hf0⟩ := hrv0
  obtain ⟨fa0, fc0, rfl, -, -⟩ := id hf0.slice
  have hq4 := heap_below hb4 Hq3.out
  have hu4 := heap_below hb4 Hu3.out
  have hw4 := Hw3.out.trans (hb4.mono Hw3.out.size)
  obtain ⟨W5, hW5⟩ : ∃ W, w4.alloc (.cells #[.int .u8 (r0.kind.toNat : Int), .int .u8 (r0.level.toNat : Int), .slice fa0 r0.fields.length fc0] 27) = W := ⟨_, rfl⟩
  have hn0 : W5.heap[w4.heap.size]? = some (.cells #[.int .u8 (r0.kind.toNat : Int), .int .u8 (r0.level.toNat : Int), .slice fa0 r0.fields.length fc0] 27 (0, 0)) := by rw [← hW5]; exact new_at _ _
  have hba : Below w4.heap.size w4 W5 := by rw [← hW5]; exact below_new _ _
  replace hf0 := hf0.below hba (Nat.le_refl _)
  obtain ⟨pb0, hpb0⟩ : ∃ k, w4.heap.size = k := ⟨_, rfl⟩
  rw [hpb0] at hn0
  replace hq4 := heap_below hba hq4
  replace hu4 := heap_below hba hu4
  replace hw4 := hw4.trans (hba.mono hw4.size)
  have hok0 := made_size hck0 hsz0
  obtain ⟨a0, a1, a2, -, -, -⟩ := zero_cells hn0
  obtain ⟨b0, b1, b2⟩ := int3_at hq4
  have Hq4 := Lib.hid hq4
  have Hu4 := Lib.hid hu4
  have Hw4 := Lib.hid hw4
  have Hn0 := Lib.hid hn0
  have Hf0 := Lib.hid hf0
  have Hok0 := Lib.hid hok0
  have Hck0 := Lib.hid hck0
  clear hq4 hu4 hw4 hn0 hf0 hok0 hck0 hsz0 hb4 hba Hq3 Hu3 Hw3 Hv MA
  go_wp2_with fail

  clear hW5 hpb0
  refine (SP1.out W5 _ r0 ⟨_, rfl, Hf0.out⟩ Hok0.out).mono ?_
  rintro _ w6 ⟨v1, r1, rfl, hrv1, hok1, hb6, -⟩
  obtain ⟨fv1, rfl, hf1⟩ := hrv1
  obtain ⟨fa1, fc1, rfl, -, -⟩ := id hf1.slice
  have hu6 := heap_below hb6 Hu4.out
  have hw6 := Hw4.out.trans (hb6.mono Hw4.out.size)
  have hn0 := heap_below hb6 Hn0.out
  have hf0 := Hf0.out.below hb6 (Nat.le_refl _)
  obtain ⟨W7, hW7⟩ : ∃ W, w6.alloc (.cells #[.int .u8 (r1.kind.toNat : Int), .int .u8 (r1.level.toNat : Int), .slice fa1 r1.fields.length fc1] 27) = W := ⟨_, rfl⟩
  have hn1 : W7.heap[w6.heap.size]? = some (.cells #[.int .u8 (r1.kind.toNat : Int), .int .u8 (r1.level.toNat : Int), .slice fa1 r1.fields.length fc1] 27 (0, 0)) := by rw [← hW7]; exact new_at _ _
  have hba : Below w6.heap.size w6 W7 := by rw [← hW7]; exact below_new _ _
  replace hf1 := hf1.below hba (Nat.le_refl _)
  obtain ⟨pb1, hpb1⟩ : ∃ k, w6.heap.size = k := ⟨_, rfl⟩
  rw [hpb1] at hn1
  replace hu6 := heap_below hba hu6
  replace hw6 := hw6.trans (hba.mono hw6.size)
  replace hn0 := heap_below hba hn0
  replace hf0 := hf0.below hba (Nat.le_refl _)
  clear a0 a1 a2 b0 b1 b2
  obtain ⟨a0, a1, a2, -, -, -⟩ := zero_cells hn1
  obtain ⟨b0, b1, b2⟩ := int3_at hu6
  have Hu6 := Lib.hid hu6
  have Hw6 := Lib.hid hw6
  have Hm0 := Lib.hid hn0
  have Hg0 := Lib.hid hf0
  have Hn1 := Lib.hid hn1
  have Hf1 := Lib.hid hf1
  have Hok1 := Lib.hid hok1
  clear hu6 hw6 hn0 hf0 hn1 hf1 hok1 hb6 hba Hq4 Hu4 Hw4 Hn0 Hf0 SP1
  go_wp2_with fail

  clear hW7 hpb1
  refine (SP2.out W7 _ r1 ⟨_, rfl, Hf1.out⟩ Hok1.out).mono ?_
  rintro _ w8 ⟨v2, r2, rfl, hrv2, hok2, hb8, -⟩
  obtain ⟨fv2, rfl, hf2⟩ := hrv2
  obtain ⟨fa2, fc2, rfl, -, -⟩ := id hf2.slice
  have hw8 := Hw6.out.trans (hb8.mono Hw6.out.size)
  have hn0 := heap_below hb8 Hm0.out
  have hf0 := Hg0.out.below hb8 (Nat.le_refl _)
  have hn1 := heap_below hb8 Hn1.out
  have hf1 := Hf1.out.below hb8 (Nat.le_refl _)
  obtain ⟨W9, hW9⟩ : ∃ W, w8.alloc (.cells #[.int .u8 (r2.kind.toNat : Int), .int .u8 (r2.level.toNat : Int), .slice fa2 r2.fields.length fc2] 27) = W := ⟨_, rfl⟩
  have hn2 : W9.heap[w8.heap.size]? = some (.cells #[.int .u8 (r2.kind.toNat : Int), .int .u8 (r2.level.toNat : Int), .slice fa2 r2.fields.length fc2] 27 (0, 0)) := by rw [← hW9]; exact new_at _ _
  have hba : Below w8.heap.size w8 W9 := by rw [← hW9]; exact below_new _ _
  replace hf2 := hf2.below hba (Nat.le_refl _)
  obtain ⟨pb2, hpb2⟩ : ∃ k, w8.heap.size = k := ⟨_, rfl⟩
  rw [hpb2] at hn2
  replace hw8 := hw8.trans (hba.mono hw8.size)
  replace hn0 := heap_below hba hn0
  replace hf0 := hf0.below hba (Nat.le_refl _)
  replace hn1 := heap_below hba hn1
  replace hf1 := hf1.below hba (Nat.le_refl _)
  clear a0 a1 a2 b0 b1 b2 hba
  obtain ⟨a0, a1, a2, -, -, -⟩ := zero_cells hn0
  obtain ⟨b0, b1, b2, -, -, -⟩ := zero_cells hn1
  obtain ⟨c0, c1, c2, -, -, -⟩ := zero_cells hn2
  obtain ⟨W10, hW10⟩ : ∃ W, W9.alloc (.cells #[.int .u8 (r0.kind.toNat : Int), .int .u8 (r0.level.toNat : Int), .slice fa0 r0.fields.length fc0, .int .u8 (r1.kind.toNat : Int), .int .u8 (r1.level.toNat : Int), .slice fa1 r1.fields.length fc1, .int .u8 (r2.kind.toNat : Int), .int .u8 (r2.level.toNat : Int), .slice fa2 r2.fields.length fc2] 30) = W := ⟨_, rfl⟩
  have hba : Below W9.heap.size W9 W10 := by rw [← hW10]; exact below_new _ _
  have hna := new_at W9 (.cells #[.int .u8 (r0.kind.toNat : Int), .int .u8 (r0.level.toNat : Int), .slice fa0 r0.fields.length fc0, .int .u8 (r1.kind.toNat : Int), .int .u8 (r1.level.toNat : Int), .slice fa1 r1.fields.length fc1, .int .u8 (r2.kind.toNat : Int), .int .u8 (r2.level.toNat : Int), .slice fa2 r2.fields.length fc2] 30)
  rw [hW10] at hna
  replace hf0 := hf0.below hba (Nat.le_refl _)
  replace hf1 := hf1.below hba (Nat.le_refl _)
  replace hf2 := hf2.below hba (Nat.le_refl _)
  have hall := recs_at hna hf0 hf1 hf2 (SizeOk.mono Hok0.out (by omega)) (SizeOk.mono Hok1.out (by omega)) (SizeOk.mono hok2 (by omega))
  obtain ⟨ab, hab⟩ : ∃ k, W9.heap.size = k := ⟨_, rfl⟩
  rw [hab] at hall
  have Hall := Lib.hid hall
  have Hw10 := Lib.hid (hw8.trans (hba.mono hw8.size))
  have Hn0 := Lib.hid (heap_below hba hn0)
  have Hf0 := Lib.hid hf0
  clear hw8 hn0 hf0 hn1 hf1 hn2 hf2 hok2 hb8 hba hna hall Hw6 Hu6 Hm0 Hg0 Hn1 Hf1 Hok1 SP2
  go_wp2_with fail

  clear hW9 hW10 hpb2 hab a0 a1 a2 b0 b1 b2 c0 c1 c2
  go_loopw [12] (fun iv wx => ∃ k : Nat, k ≤ 3 ∧ iv = .int .i64 k ∧ Below W10.heap.size W10 wx) (fun iv _ => 3 - (intOf iv).toNat)
  case atStart => exact ⟨0, by omega, rfl, Below.refl _ _⟩
  case round =>
    obtain ⟨k, hk, rfl, hb⟩ := hrel
    by_cases hlt : k < 3
    · have n1 : (k : Int) < 3 := by omega
      have n2 : (0 : Int) ≤ (k : Int) := by omega
      obtain ⟨r, fa, fc, a0, a1, a2, hf, hok⟩ := Hall.out k hlt
      replace a0 := cell_below hb (Nat.le_refl _) a0
      replace a1 := cell_below hb (Nat.le_refl _) a1
      replace a2 := cell_below hb (Nat.le_refl _) a2
      replace hf := hf.below hb (Nat.le_refl _)
      have hr1 : sizeR r ≤ 1099511627776 := by have := hok.1; omega
      have hr2 : ∀ f ∈ r.fields, f.tag.length ≤ 1099511627776 := fun f hf => by have := hok.2 f hf; omega
      have NW := write_c _ r wr ⟨_, rfl, hf⟩ hr1 hr2
      unfold WritePost at NW
      have NR := Lib.hid (fun W (h : Below wr.heap.size wr W) => rWrite_c (.agg #[.int .u8 (r.kind.toNat : Int), .int .u8 (r.level.toNat : Int), .slice fa r.fields.length fc]) r W ⟨_, rfl, hf.below h (Nat.le_refl _)⟩ hr1 hr2)
      unfold WrPost at NR
      have NG := Lib.hid (fun W (h : Below wr.heap.size wr W) => right_c (.agg #[.int .u8 (r.kind.toNat : Int), .int .u8 (r.level.toNat : Int), .slice fa r.fields.length fc]) r W ⟨_, rfl, hf.below h (Nat.le_refl _)⟩ hr1 hr2)
      obtain ⟨X, hX⟩ : ∃ X, writeR r = X := ⟨_, rfl⟩
      obtain ⟨C, hC⟩ : ∃ C, checkM r = C := ⟨_, rfl⟩
      rw [hX, hC] at NW NR
      rw [hC] at NG
      have NW := Lib.hid NW
      have Hb := Lib.hid hb
      clear hX hC hf hok hr1 hr2 hb
      go_wp2_with fail
      refine NW.out.mono ?_
      rintro _ w11 ⟨rfl, hb11⟩
      have p0 := cell_below hb11 (Nat.le_refl _) a0
      have p1 := cell_below hb11 (Nat.le_refl _) a1
      have p2 := cell_below hb11 (Nat.le_refl _) a2
      have Hb11 := Lib.hid hb11
      clear hb11 a0 a1 a2 NW
      go_wp2_with fail
      refine (NR.out w11 Hb11.out).mono ?_
      rintro _ w12 ⟨rfl, hb12⟩
      have s0 := cell_below hb12 (Nat.le_refl _) p0
      have s1 := cell_below hb12 (Nat.le_refl _) p1
      have s2 := cell_below hb12 (Nat.le_refl _) p2
      have Hb12 := Lib.hid (Hb11.out.trans (hb12.mono Hb11.out.size))
      clear hb12 p0 p1 p2 NR
      have G := NG.out w12 Hb12.out
      by_cases hC0 : C = 0
      · have g1 : (C == 0) = true := by rw [beq_iff_eq]; exact hC0
        have g2 : ((C : Int) == 0) = true := by rw [beq_iff_eq]; omega
        rw [g1] at G
        have G := Lib.hid G
        clear NG hC0 g1
        go_wp2_with fail
        refine G.out.mono ?_
        rintro _ w13 ⟨rfl, hb13⟩
        have Hb13 := Lib.hid (Hb.out.trans ((Hb12.out.trans (hb13.mono Hb12.out.size)).mono Hb.out.size))
        clear hb13
        go_wp2
        go_roundw
        case rel => exact ⟨k + 1, by omega, by go_num, Hb13.out⟩
        case measure => simp [intOf]; omega
      · have g1 : (C == 0) = false := by rw [beq_eq_false_iff_ne]; exact hC0
        have g2 : ((C : Int) == 0) = false := by rw [beq_eq_false_iff_ne]; omega
        rw [g1] at G
        have G := Lib.hid G
        clear NG g1
        go_wp2_with fail
        refine G.out.mono ?_
        rintro _ w13 ⟨rfl, hb13⟩
        have Hb13 := Lib.hid (Hb.out.trans ((Hb12.out.trans (hb13.mono Hb12.out.size)).mono Hb.out.size))
        clear hb13
        go_wp2
        go_roundw
        case rel => exact ⟨k + 1, by omega, by go_num, Hb13.out⟩
        case measure => simp [intOf]; omega
    · have hk3 : k = 3 := by omega
      subst hk3
      have hn0 := heap_below hb Hn0.out
      obtain ⟨a0, a1, a2, -, -, -⟩ := zero_cells hn0
      have G := right_c _ r0 wr ⟨_, rfl, Hf0.out.below hb (Nat.le_refl _)⟩ (by have := Hok0.out.1; omega) (fun f hf => by have := Hok0.out.2 f hf; omega)
      rw [show (checkM r0 == 0) = true by rw [Hck0.out]; rfl] at G
      have G := Lib.hid G
      have Hb := Lib.hid (Hw10.out.trans (hb.mono Hw10.out.size))
      clear hn0 hb
      go_wp2_with fail
      refine G.out.mono ?_
      rintro _ w13 ⟨rfl, hb13⟩
      have Hb13 := Lib.hid (Hb.out.trans (hb13.mono Hb.out.size))
      clear hb13
      go_wp2
      go_ret
      exact ⟨rfl, Hb13.out⟩
end Go.Proofs.YtpfnmjcomdckgaaDoor
