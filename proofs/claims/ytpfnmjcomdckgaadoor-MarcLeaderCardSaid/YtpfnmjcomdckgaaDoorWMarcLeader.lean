/-
  The walk of MarcLeader.
-/
import Derived.Test.YtpfnmjcomdckgaaDoorRWrap
import Derived.Test.YtpfnmjcomdckgaaDoorRParses
import Derived.Test.YtpfnmjcomdckgaaDoorRMade
import Derived.Test.YtpfnmjcomdckgaaDoorRRefZ
import Derived.Test.YtpfnmjcomdckgaaDoorRRefL
import Derived.Test.YtpfnmjcomdckgaaDoorRSame
namespace Go.Proofs.YtpfnmjcomdckgaaDoor
open Go.RowKit Go.Shelf
set_option linter.unusedVariables false
set_option linter.unusedSimpArgs false

theorem win {l : List UInt8} {k a n : Nat} {c : UInt8} (h : k < a ∨ a + n ≤ k) : ((l.set k c).drop a).take n = (l.drop a).take n := by
  apply List.ext_getElem?
  intro i
  rw [List.getElem?_take, List.getElem?_take]
  split
  · rw [List.getElem?_drop, List.getElem?_drop, List.getElem?_set_ne (by omega)]
  · rfl
theorem getD_set {l : List UInt8} {k j : Nat} {c : UInt8} (h : k ≠ j) : (l.set k c).getD j 0 = l.getD j 0 := by
  unfold List.getD
  rw [List.getElem?_set_ne h]
theorem drop_set {l : List UInt8} {k a : Nat} {c : UInt8} (h : k < a) : (l.set k c).drop a = l.drop a := by
  apply List.ext_getElem?
  intro i
  rw [List.getElem?_drop, List.getElem?_drop, List.getElem?_set_ne (by omega)]
theorem dirP_set {l : List UInt8} {k d : Nat} {c : UInt8} : ∀ (n a sum : Nat), k < a → dirP (l.set k c) d n a sum = dirP l d n a sum
  | 0, _, _, _ => rfl
  | n + 1, a, sum, h => by
    unfold dirP
    rw [win (n := 12) (.inl h), dirP_set n (a + 12) _ (by omega)]
theorem hasAt_set {l : List UInt8} {k a : Nat} {c : UInt8} (p : List UInt8) (h : k < a ∨ a + p.length ≤ k) (hl : a + p.length ≤ l.length) : hasAt (l.set k c) a p = hasAt l a p := by
  rw [hasAt_eq _ _ _ (by rw [List.length_set]; exact hl), hasAt_eq _ _ _ hl, win h]
/-- Bytes of the leader that play no part. -/
theorem parse_set (l : List UInt8) (k : Nat) (c : UInt8) (hk : k = 5 ∨ k = 8 ∨ (16 < k ∧ k < 20)) (hl : 26 ≤ l.length) : parseM (l.set k c) = parseM l := by
  have t5 : (l.set k c).take 5 = l.take 5 := by
    have := win (l := l) (k := k) (a := 0) (n := 5) (c := c) (.inr (by omega))
    simpa using this
  have e1 : lenErr (l.set k c) = lenErr l := by unfold lenErr; rw [List.length_set, t5]
  have e2 : leadErr (l.set k c) = leadErr l := by
    unfold leadErr
    rw [getD_set (by omega), getD_set (by omega), hasAt_set [97] (by simp; omega) (by simp; omega), hasAt_set [50, 50] (by simp; omega) (by simp; omega), hasAt_set [52, 53, 48, 48] (by simp; omega) (by simp; omega)]
  have e3 : headDigs (l.set k c) = headDigs l := win (by omega)
  have e4 : headOf (l.set k c) = headOf l := by
    unfold headOf
    rw [e3]
    by_cases h : 25 ≤ valL (headDigs l)
    · have : headB (l.set k c) (valL (headDigs l)) = headB l (valL (headDigs l)) := by unfold headB; rw [List.length_set, getD_set (by omega)]
      rw [this]
    · have h1 : headB (l.set k c) (valL (headDigs l)) = false := by unfold headB; simp; omega
      have h2 : headB l (valL (headDigs l)) = false := by unfold headB; simp; omega
      rw [h1, h2]
  unfold parseM
  rw [e1]
  cases lenErr l with
  | some p => rfl
  | none =>
  simp only
  rw [e2]
  cases leadErr l with
  | some p => rfl
  | none =>
  simp only
  rw [e4]
  cases h3 : headOf l with
  | bad p q => rfl
  | ok h =>
  obtain ⟨n, rfl, hn, hlt⟩ := headOf_ok h3
  simp only
  rw [List.length_set, getD_set (by omega), dirP_set _ _ _ (by omega), drop_set (by omega), getD_set (by omega), getD_set (by omega)]
theorem set_parts (l : List UInt8) (k : Nat) (c : UInt8) (h : k < l.length) : l.take k ++ [c] ++ l.drop (k + 1) = l.set k c := by
  rw [List.set_eq_take_append_cons_drop, if_pos h]; simp
set_option maxRecDepth 100000 in
set_option maxHeartbeats 8000000 in
theorem leader_walk (hP : ParsesC) (v : Value) (ll : List (Int × Int × Int)) (c : Int) (x : UInt8) (w : World) (hv : ReadsT w v ll) (hc : Fits c) (hT : Tabs w) :
    Calls Tryd.prog 7 #[v, .int .i64 c, .int .u8 (x.toNat : Int)] w (Yes w) := by
  have Hs := Lib.hid (sanity_c w hT)
  unfold Yes at Hs ⊢
  have HT := Lib.hid hT
  have HP := Lib.hid hP
  have Hv := Lib.hid hv
  obtain ⟨a, cap, rfl, -, -⟩ := hv.slice
  clear hT hP hv
  go_enter Tryd.func7, Tryd.ntmps7
  go_wp2_with fail
  refine Hs.out.mono ?_
  rintro e w1 ⟨rfl, hb1⟩
  have HM := Lib.hid (made_c _ _ w1 (Hv.out.below hb1 (Nat.le_refl _)))
  have Hb1 := Lib.hid hb1
  have HT1 := Lib.hid (tabs_below HT.out hb1)
  clear hb1 Hs HT Hv
  unfold MadePost at HM
  go_wp2_with fail
  refine HM.out.mono ?_
  rintro e w2 ⟨rv, r, rfl, hrv, hck, hsz, hb2⟩
  obtain ⟨fv, rfl, hfv⟩ := hrv
  obtain ⟨fa, fc, rfl, -⟩ := hfv.slice
  have hrs := sizeR_ge r
  have hwl := writeM_len (check_zero hck)
  have hps := parse_writeR hck
  have hwr : writeR r = writeM r := by unfold writeR; rw [if_pos hck]
  rw [hwr] at hps
  have htl : ∀ f ∈ r.fields, f.tag.length ≤ 1099511627776 := fun f hf => by have := tagB_len ((check_zero hck).tags f hf); omega
  obtain ⟨W3, hW3⟩ : ∃ W3, w2.alloc (.cells #[.int .u8 (r.kind.toNat : Int), .int .u8 (r.level.toNat : Int), .slice fa r.fields.length fc] 27) = W3 := ⟨_, rfl⟩
  have hn3 : W3.heap[w2.heap.size]? = some (.cells #[.int .u8 (r.kind.toNat : Int), .int .u8 (r.level.toNat : Int), .slice fa r.fields.length fc] 27 (0, 0)) := by rw [← hW3]; exact new_at _ _
  have hb3 : Below w.heap.size w W3 := by rw [← hW3]; exact (Hb1.out.trans (hb2.mono Hb1.out.size)).alloc (Nat.le_trans Hb1.out.size hb2.size) _
  have hf3 : FldsAt W3 (.slice fa r.fields.length fc) r.fields := by rw [← hW3]; exact hfv.below (below_new _ _) (Nat.le_refl _)
  have hT3 : Tabs W3 := by rw [← hW3]; exact tabs_below (tabs_below HT1.out hb2) (below_new _ _)
  have r0 : W3.cell? ⟨w2.heap.size, 0, none⟩ = some (.int .u8 (r.kind.toNat : Int)) := by rw [cell_at hn3]; rfl
  have r1 : W3.cell? ⟨w2.heap.size, 1, none⟩ = some (.int .u8 (r.level.toNat : Int)) := by rw [cell_at hn3]; rfl
  have r2 : W3.cell? ⟨w2.heap.size, 2, none⟩ = some (.slice fa r.fields.length fc) := by rw [cell_at hn3]; rfl
  have HW := Lib.hid (rWrite_c _ r W3 ⟨_, rfl, hf3⟩ (by omega) htl)
  unfold WrPost at HW
  rw [hwr, hck] at HW
  obtain ⟨X, hX⟩ : ∃ X, writeM r = X := ⟨_, rfl⟩
  rw [hX] at HW hwl hps
  obtain ⟨nf, hnf⟩ : ∃ nf, r.fields.length = nf := ⟨_, rfl⟩
  have Hn3 := Lib.hid hn3
  have Hb3 := Lib.hid hb3
  have Hf3 := Lib.hid hf3
  have HT3 := Lib.hid hT3
  have Hps := Lib.hid hps
  have hXl : 26 + 12 * nf ≤ X.length := by omega
  have hXu : X.length ≤ 5000 := by omega
  have Hnf := Lib.hid hnf
  clear hnf
  clear hfv hck hsz hb2 htl hn3 hb3 hf3 hT3 hps hwr hX hrs hwl HM Hb1 HT1
  go_wp2_with fail
  clear hW3
  refine HW.out.mono ?_
  rintro e w4 ⟨rfl, hb4⟩
  have hn4 := heap_below hb4 Hn3.out
  have q2 : w4.cell? ⟨w2.heap.size, 2, none⟩ = some (.slice fa nf fc) := by rw [cell_at hn4, Hnf.out]; rfl
  have Hn4 := Lib.hid hn4
  have Hf4 := Lib.hid (Hf3.out.below hb4 (Nat.le_refl _))
  have Hb4 := Lib.hid (Hb3.out.trans (hb4.mono Hb3.out.size))
  have HT4 := Lib.hid (tabs_below HT3.out hb4)
  obtain ⟨rb, hrb⟩ : ∃ rb, w2.heap.size = rb := ⟨_, rfl⟩
  rw [hrb] at q2 Hn4 ⊢
  clear hn4 hb4 HW r0 r1 r2 Hn3 Hb3 Hf3 HT3 hrb
  obtain ⟨M, hM⟩ : ∃ M, 25 + 12 * nf = M := ⟨_, rfl⟩
  obtain ⟨M1, hM1⟩ : ∃ M1, 12 * nf = M1 := ⟨_, rfl⟩
  have jM1 : (12 : Int) * (nf : Int) = (M1 : Int) := by omega
  have jM : (25 : Int) + (M1 : Int) = (M : Int) := by omega
  have MD := Lib.hid (fun W => mod_c c (M : Int) (by omega) (by omega) hc W)
  have hj := modN_lt (n := c) (m := (M : Int)) (by omega)
  obtain ⟨k, hk⟩ : ∃ k, modN c (M : Int) = k := ⟨_, rfl⟩
  rw [hk] at hj MD
  have hkM : k < M := by omega
  clear hk hj
  go_wp2_with fail
  refine (MD.out _).mono ?_
  rintro e w5 ⟨rfl, rfl⟩
  have hszX := size_str X
  have i0 : (0 : Int) ≤ (k : Int) := by omega
  have i1 : (k : Int) ≤ (X.length : Int) := by omega
  obtain ⟨z, hz⟩ : ∃ z, k + 1 = z := ⟨_, rfl⟩
  have jz : (k : Int) + 1 = (z : Int) := by omega
  have jz0 : (0 : Int) ≤ (z : Int) := by omega
  have jz1 : (z : Int) ≤ (X.length : Int) := by omega
  have ex1 := ext_take X k
  have ex2 := ext_drop X z
  have hset := set_parts X k x (by omega)
  rw [hz] at hset
  have hYl : (X.set k x).length = X.length := List.length_set
  have hpset := fun h => parse_set X k x h (by omega)
  obtain ⟨A1, hA1⟩ : ∃ A, X.take k = A := ⟨_, rfl⟩
  obtain ⟨A2, hA2⟩ : ∃ A, A1 ++ [x] = A := ⟨_, rfl⟩
  obtain ⟨A3, hA3⟩ : ∃ A, X.drop z = A := ⟨_, rfl⟩
  obtain ⟨Y, hY⟩ : ∃ Y, X.set k x = Y := ⟨_, rfl⟩
  rw [hA1] at ex1
  rw [hA3] at ex2
  rw [hA1, hA2, hA3, hY] at hset
  rw [hY] at hYl hpset
  have hl1 : A1.length ≤ 5000 := by rw [← hA1]; simp; omega
  have hl3 : A3.length ≤ 5000 := by rw [← hA3]; simp; omega
  have hl2 : A2.length ≤ 5001 := by rw [← hA2]; simp; omega
  have a1 := add_str A1 [x] (by simp; omega)
  rw [hA2] at a1
  have a2 := add_str A2 A3 (by omega)
  rw [hset] at a2
  have hcv := conv1 x
  have wz := wrapI (z : Int) (by omega) (by omega)
  have Hps2 := Lib.hid (fun h => (hpset h).trans Hps.out)
  have Hz := Lib.hid hz
  clear hz hset hpset hA1 hA2 hA3 hY hM hM1 jM1 jM
  go_wp2_with fail
  go_region
  all_goals
    obtain ⟨W6, hW6⟩ : ∃ W6, (w4.alloc (.cells #[.int .u8 (x.toNat : Int)] 5)).drew = W6 := ⟨_, rfl⟩
    have hb6 : Below w4.heap.size w4 W6 := by rw [← hW6]; exact (below_new _ _).drew
    rw [hW6]
    clear hW6
    have hn6 := heap_below hb6 Hn4.out
    have hf6 := Hf4.out.below hb6 (Nat.le_refl _)
    have hT6 := tabs_below HT4.out hb6
    have hB6 := Hb4.out.trans (hb6.mono Hb4.out.size)
    have P6 := Lib.hid (HP.out Y W6 (by omega) hT6)
    unfold Yes at P6
    have Hn6 := Lib.hid hn6
    have Hf6 := Lib.hid hf6
    have HT6 := Lib.hid hT6
    have HB6 := Lib.hid hB6
    have hYl2 : Y.length ≤ 5000 := by omega
    clear hn6 hf6 hT6 hB6 hb6 q2 Hn4 Hf4 HT4 Hb4 ex1 ex2 a1 a2 hcv wz jz jz0 jz1 i0 i1
    go_wp2_with fail
    refine P6.out.mono ?_
    rintro e w7 ⟨rfl, hb7⟩
    have Hn7 := Lib.hid (heap_below hb7 Hn6.out)
    have Hf7 := Lib.hid (Hf6.out.below hb7 (Nat.le_refl _))
    have HT7 := Lib.hid (tabs_below HT6.out hb7)
    have HB7 := Lib.hid (HB6.out.trans (hb7.mono HB6.out.size))
    clear hb7 P6 Hn6 Hf6 HT6 HB6
    by_cases k5 : k = 5
    · subst k5
      have hp := Parse_c Y (by omega) w7 HT7.out
      rw [Hps2.out (by omega)] at hp
      unfold PV at hp
      have Hpp := Lib.hid hp
      clear hp
      go_wp2_with fail
      refine Hpp.out.mono ?_
      rintro e w8 ⟨gv, rfl, hb8, hgv⟩
      obtain ⟨ga, gc, rfl, -⟩ := hgv.slice
      have hn8 := heap_below hb8 Hn7.out
      have hf8 := Hf7.out.below hb8 (Nat.le_refl _)
      have hB8 := HB7.out.trans (hb8.mono HB7.out.size)
      obtain ⟨W9, hW9⟩ : ∃ W9, w8.alloc (.cells #[.int .u8 (r.kind.toNat : Int), .int .u8 (r.level.toNat : Int), .slice ga r.fields.length gc] 27) = W9 := ⟨_, rfl⟩
      have hn9 : W9.heap[w8.heap.size]? = some (.cells #[.int .u8 (r.kind.toNat : Int), .int .u8 (r.level.toNat : Int), .slice ga r.fields.length gc] 27 (0, 0)) := by rw [← hW9]; exact new_at _ _
      have hr9 : W9.heap[rb]? = some (.cells #[.int .u8 (r.kind.toNat : Int), .int .u8 (r.level.toNat : Int), .slice fa r.fields.length fc] 27 (0, 0)) := by rw [← hW9]; exact heap_below (below_new _ _) hn8
      have hf9 : FldsAt W9 (.slice fa r.fields.length fc) r.fields := by rw [← hW9]; exact hf8.below (below_new _ _) (Nat.le_refl _)
      have hg9 : FldsAt W9 (.slice ga r.fields.length gc) r.fields := by rw [← hW9]; exact hgv.below (below_new _ _) (Nat.le_refl _)
      have hB9 : Below w.heap.size w W9 := by rw [← hW9]; exact hB8.alloc hB8.size _
      have s0 : W9.cell? ⟨rb, 0, none⟩ = some (.int .u8 (r.kind.toNat : Int)) := by rw [cell_at hr9]; rfl
      have s1 : W9.cell? ⟨rb, 1, none⟩ = some (.int .u8 (r.level.toNat : Int)) := by rw [cell_at hr9]; rfl
      have s2 : W9.cell? ⟨rb, 2, none⟩ = some (.slice fa r.fields.length fc) := by rw [cell_at hr9]; rfl
      have t0 : W9.cell? ⟨w8.heap.size, 0, none⟩ = some (.int .u8 (r.kind.toNat : Int)) := by rw [cell_at hn9]; rfl
      have t1 : W9.cell? ⟨w8.heap.size, 1, none⟩ = some (.int .u8 (r.level.toNat : Int)) := by rw [cell_at hn9]; rfl
      have t2 : W9.cell? ⟨w8.heap.size, 2, none⟩ = some (.slice ga r.fields.length gc) := by rw [cell_at hn9]; rfl
      have NS := same_c _ _ r r W9 ⟨_, rfl, hg9⟩ ⟨_, rfl, hf9⟩
      rw [decide_eq_true rfl] at NS
      unfold SP at NS
      have NS := Lib.hid NS
      have HB9 := Lib.hid hB9
      clear hn8 hf8 hB8 hn9 hr9 hf9 hg9 hB9 hgv hb8 Hpp
      go_wp2_with fail
      refine NS.out.mono ?_
      rintro e w10 ⟨rfl, hb10⟩
      have HB10 := Lib.hid (HB9.out.trans (hb10.mono HB9.out.size))
      clear hb10
      go_wp2
      go_ret
      exact ⟨rfl, HB10.out⟩
    by_cases k8 : k = 8
    · subst k8
      have hp := Parse_c Y (by omega) w7 HT7.out
      rw [Hps2.out (by omega)] at hp
      unfold PV at hp
      have Hpp := Lib.hid hp
      clear hp
      go_wp2_with fail
      refine Hpp.out.mono ?_
      rintro e w8 ⟨gv, rfl, hb8, hgv⟩
      obtain ⟨ga, gc, rfl, -⟩ := hgv.slice
      have hn8 := heap_below hb8 Hn7.out
      have hf8 := Hf7.out.below hb8 (Nat.le_refl _)
      have hB8 := HB7.out.trans (hb8.mono HB7.out.size)
      obtain ⟨W9, hW9⟩ : ∃ W9, w8.alloc (.cells #[.int .u8 (r.kind.toNat : Int), .int .u8 (r.level.toNat : Int), .slice ga r.fields.length gc] 27) = W9 := ⟨_, rfl⟩
      have hn9 : W9.heap[w8.heap.size]? = some (.cells #[.int .u8 (r.kind.toNat : Int), .int .u8 (r.level.toNat : Int), .slice ga r.fields.length gc] 27 (0, 0)) := by rw [← hW9]; exact new_at _ _
      have hr9 : W9.heap[rb]? = some (.cells #[.int .u8 (r.kind.toNat : Int), .int .u8 (r.level.toNat : Int), .slice fa r.fields.length fc] 27 (0, 0)) := by rw [← hW9]; exact heap_below (below_new _ _) hn8
      have hf9 : FldsAt W9 (.slice fa r.fields.length fc) r.fields := by rw [← hW9]; exact hf8.below (below_new _ _) (Nat.le_refl _)
      have hg9 : FldsAt W9 (.slice ga r.fields.length gc) r.fields := by rw [← hW9]; exact hgv.below (below_new _ _) (Nat.le_refl _)
      have hB9 : Below w.heap.size w W9 := by rw [← hW9]; exact hB8.alloc hB8.size _
      have s0 : W9.cell? ⟨rb, 0, none⟩ = some (.int .u8 (r.kind.toNat : Int)) := by rw [cell_at hr9]; rfl
      have s1 : W9.cell? ⟨rb, 1, none⟩ = some (.int .u8 (r.level.toNat : Int)) := by rw [cell_at hr9]; rfl
      have s2 : W9.cell? ⟨rb, 2, none⟩ = some (.slice fa r.fields.length fc) := by rw [cell_at hr9]; rfl
      have t0 : W9.cell? ⟨w8.heap.size, 0, none⟩ = some (.int .u8 (r.kind.toNat : Int)) := by rw [cell_at hn9]; rfl
      have t1 : W9.cell? ⟨w8.heap.size, 1, none⟩ = some (.int .u8 (r.level.toNat : Int)) := by rw [cell_at hn9]; rfl
      have t2 : W9.cell? ⟨w8.heap.size, 2, none⟩ = some (.slice ga r.fields.length gc) := by rw [cell_at hn9]; rfl
      have NS := same_c _ _ r r W9 ⟨_, rfl, hg9⟩ ⟨_, rfl, hf9⟩
      rw [decide_eq_true rfl] at NS
      unfold SP at NS
      have NS := Lib.hid NS
      have HB9 := Lib.hid hB9
      clear hn8 hf8 hB8 hn9 hr9 hf9 hg9 hB9 hgv hb8 Hpp
      go_wp2_with fail
      refine NS.out.mono ?_
      rintro e w10 ⟨rfl, hb10⟩
      have HB10 := Lib.hid (HB9.out.trans (hb10.mono HB9.out.size))
      clear hb10
      go_wp2
      go_ret
      exact ⟨rfl, HB10.out⟩
    have e5 : ((k : Int) == 5) = false := by rw [beq_eq_false_iff_ne]; omega
    have e8 : ((k : Int) == 8) = false := by rw [beq_eq_false_iff_ne]; omega
    by_cases k16 : 16 < k
    case neg =>
      have g16 : ¬ ((16 : Int) < (k : Int)) := by omega
      go_wp2
      go_ret
      exact ⟨rfl, HB7.out⟩
    have g16 : (16 : Int) < (k : Int) := by omega
    by_cases k20 : k < 20
    case neg =>
      have g20 : ¬ ((k : Int) < 20) := by omega
      go_wp2
      go_ret
      exact ⟨rfl, HB7.out⟩
    have g20 : (k : Int) < 20 := by omega
    have hp := Parse_c Y (by omega) w7 HT7.out
    rw [Hps2.out (by omega)] at hp
    unfold PV at hp
    have Hpp := Lib.hid hp
    clear hp
    go_wp2_with fail
    refine Hpp.out.mono ?_
    rintro e w8 ⟨gv, rfl, hb8, hgv⟩
    obtain ⟨ga, gc, rfl, -⟩ := hgv.slice
    have hn8 := heap_below hb8 Hn7.out
    have hf8 := Hf7.out.below hb8 (Nat.le_refl _)
    have hB8 := HB7.out.trans (hb8.mono HB7.out.size)
    obtain ⟨W9, hW9⟩ : ∃ W9, w8.alloc (.cells #[.int .u8 (r.kind.toNat : Int), .int .u8 (r.level.toNat : Int), .slice ga r.fields.length gc] 27) = W9 := ⟨_, rfl⟩
    have hn9 : W9.heap[w8.heap.size]? = some (.cells #[.int .u8 (r.kind.toNat : Int), .int .u8 (r.level.toNat : Int), .slice ga r.fields.length gc] 27 (0, 0)) := by rw [← hW9]; exact new_at _ _
    have hr9 : W9.heap[rb]? = some (.cells #[.int .u8 (r.kind.toNat : Int), .int .u8 (r.level.toNat : Int), .slice fa r.fields.length fc] 27 (0, 0)) := by rw [← hW9]; exact heap_below (below_new _ _) hn8
    have hf9 : FldsAt W9 (.slice fa r.fields.length fc) r.fields := by rw [← hW9]; exact hf8.below (below_new _ _) (Nat.le_refl _)
    have hg9 : FldsAt W9 (.slice ga r.fields.length gc) r.fields := by rw [← hW9]; exact hgv.below (below_new _ _) (Nat.le_refl _)
    have hB9 : Below w.heap.size w W9 := by rw [← hW9]; exact hB8.alloc hB8.size _
    have s0 : W9.cell? ⟨rb, 0, none⟩ = some (.int .u8 (r.kind.toNat : Int)) := by rw [cell_at hr9]; rfl
    have s1 : W9.cell? ⟨rb, 1, none⟩ = some (.int .u8 (r.level.toNat : Int)) := by rw [cell_at hr9]; rfl
    have s2 : W9.cell? ⟨rb, 2, none⟩ = some (.slice fa r.fields.length fc) := by rw [cell_at hr9]; rfl
    have t0 : W9.cell? ⟨w8.heap.size, 0, none⟩ = some (.int .u8 (r.kind.toNat : Int)) := by rw [cell_at hn9]; rfl
    have t1 : W9.cell? ⟨w8.heap.size, 1, none⟩ = some (.int .u8 (r.level.toNat : Int)) := by rw [cell_at hn9]; rfl
    have t2 : W9.cell? ⟨w8.heap.size, 2, none⟩ = some (.slice ga r.fields.length gc) := by rw [cell_at hn9]; rfl
    have NS := same_c _ _ r r W9 ⟨_, rfl, hg9⟩ ⟨_, rfl, hf9⟩
    rw [decide_eq_true rfl] at NS
    unfold SP at NS
    have NS := Lib.hid NS
    have HB9 := Lib.hid hB9
    clear hn8 hf8 hB8 hn9 hr9 hf9 hg9 hB9 hgv hb8 Hpp
    go_wp2_with fail
    refine NS.out.mono ?_
    rintro e w10 ⟨rfl, hb10⟩
    have HB10 := Lib.hid (HB9.out.trans (hb10.mono HB9.out.size))
    clear hb10
    go_wp2
    go_ret
    exact ⟨rfl, HB10.out⟩
theorem walk_MarcLeader (v : Value) (ll : List (Int × Int × Int)) (c : Int) (x : UInt8) (w : World) (hv : ReadsT w v ll) (hc : Fits c) (hT : Tabs w) :
    Calls Tryd.prog 7 #[v, .int .i64 c, .int .u8 (x.toNat : Int)] w (Yes w) := leader_walk (fun l w hl hT => parses_c l hl w hT) v ll c x w hv hc hT
end Go.Proofs.YtpfnmjcomdckgaaDoor
