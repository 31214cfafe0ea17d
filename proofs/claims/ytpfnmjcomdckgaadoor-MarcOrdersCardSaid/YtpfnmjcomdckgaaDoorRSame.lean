/-
  The reference's Same: two records are equal.
-/
import Derived.Test.YtpfnmjcomdckgaaDoorRWrite
import Derived.Test.YtpfnmjcomdckgaaDoorRParseE
namespace Go.Proofs.YtpfnmjcomdckgaaDoor
open Go.RowKit Go.Shelf
set_option linter.unusedVariables false
set_option linter.unusedSimpArgs false

def SP (x : Bool) (w : World) (e : Ending) (w' : World) : Prop := e = .returned (.bool x) ∧ Below w.heap.size w w'
set_option maxRecDepth 100000 in
set_option maxHeartbeats 2000000 in
theorem sameField_all (t i d t' i' d' : List UInt8) (fs gs : List SubM) (va vb : Value) (w : World) (ha : SubsAt w va fs) (hb : SubsAt w vb gs) :
    Calls Tryd.prog 49 #[.agg #[str t, str i, str d, va], .agg #[str t', str i', str d', vb]] w (SP (decide (FldM.mk t i d fs = FldM.mk t' i' d' gs)) w) := by
  obtain ⟨a, ca, rfl, hma, hca⟩ := ha.slice
  obtain ⟨b, cb, rfl, hmb, hcb⟩ := hb.slice
  have Ha := Lib.hid hca
  have Hb := Lib.hid hcb
  obtain ⟨W3, hW3⟩ : ∃ W3, w.alloc (.cells #[str t, str i, str d, .slice a fs.length ca] 62) = W3 := ⟨_, rfl⟩
  obtain ⟨W4, hW4⟩ : ∃ W4, W3.alloc (.cells #[str t', str i', str d', .slice b gs.length cb] 62) = W4 := ⟨_, rfl⟩
  have hb3 : Below w.heap.size w W3 := by rw [← hW3]; exact below_new w _
  have hb34 : Below W3.heap.size W3 W4 := by rw [← hW4]; exact below_new W3 _
  have hn3 := new_at w (.cells #[str t, str i, str d, .slice a fs.length ca] 62)
  rw [hW3] at hn3
  have hn3' := heap_below hb34 hn3
  have hn4 := new_at W3 (.cells #[str t', str i', str d', .slice b gs.length cb] 62)
  rw [hW4] at hn4
  have g0 : W4.cell? ⟨w.heap.size, 0, none⟩ = some (str t) := by rw [cell_at hn3']; rfl
  have g1 : W4.cell? ⟨w.heap.size, 1, none⟩ = some (str i) := by rw [cell_at hn3']; rfl
  have g2 : W4.cell? ⟨w.heap.size, 2, none⟩ = some (str d) := by rw [cell_at hn3']; rfl
  have g3 : W4.cell? ⟨w.heap.size, 3, none⟩ = some (.slice a fs.length ca) := by rw [cell_at hn3']; rfl
  have k0 : W4.cell? ⟨W3.heap.size, 0, none⟩ = some (str t') := by rw [cell_at hn4]; rfl
  have k1 : W4.cell? ⟨W3.heap.size, 1, none⟩ = some (str i') := by rw [cell_at hn4]; rfl
  have k2 : W4.cell? ⟨W3.heap.size, 2, none⟩ = some (str d') := by rw [cell_at hn4]; rfl
  have k3 : W4.cell? ⟨W3.heap.size, 3, none⟩ = some (.slice b gs.length cb) := by rw [cell_at hn4]; rfl
  have Hb4 := Lib.hid (hb3.trans (hb34.mono hb3.size))
  unfold maxLen at hma hmb
  clear hb3 hb34 hn3 hn3' hn4 hca hcb ha hb
  unfold SP
  by_cases h1 : t = t'
  case neg =>
    rw [decide_eq_false (p := FldM.mk t i d fs = FldM.mk t' i' d' gs) (by intro h; exact h1 (congrArg FldM.tag h))]
    have e1 : (t == t') = false := by simpa using h1
    go_enter Tryd.func49, Tryd.ntmps49
    go_wp2
    go_ret
    exact ⟨rfl, Hb4.out⟩
  subst h1
  by_cases h2 : i = i'
  case neg =>
    rw [decide_eq_false (p := FldM.mk t i d fs = FldM.mk t i' d' gs) (by intro h; exact h2 (congrArg FldM.ind h))]
    have e1 : (i == i') = false := by simpa using h2
    go_enter Tryd.func49, Tryd.ntmps49
    go_wp2
    go_ret
    exact ⟨rfl, Hb4.out⟩
  subst h2
  by_cases h3 : d = d'
  case neg =>
    rw [decide_eq_false (p := FldM.mk t i d fs = FldM.mk t i d' gs) (by intro h; exact h3 (congrArg FldM.data h))]
    have e1 : (d == d') = false := by simpa using h3
    go_enter Tryd.func49, Tryd.ntmps49
    go_wp2
    go_ret
    exact ⟨rfl, Hb4.out⟩
  subst h3
  by_cases h4 : fs.length = gs.length
  case neg =>
    rw [decide_eq_false (p := FldM.mk t i d fs = FldM.mk t i d gs) (by intro h; exact h4 (congrArg List.length (congrArg FldM.subs h)))]
    have e1 : ((fs.length : Int) == (gs.length : Int)) = false := by simp; omega
    have e2 : ¬ (fs.length : Int) = (gs.length : Int) := by omega
    go_enter Tryd.func49, Tryd.ntmps49
    go_wp2
    go_ret
    exact ⟨rfl, Hb4.out⟩
  rw [show decide (FldM.mk t i d fs = FldM.mk t i d gs) = decide (fs = gs) by simp]
  rw [h4] at hW3 g3 ⊢
  rw [h4] at hma
  have hma' := Lib.hid h4
  clear h4
  go_enter Tryd.func49, Tryd.ntmps49
  go_wp2
  go_loopw [5] (fun i wr => ∃ k : Nat, k ≤ gs.length ∧ i = .int .i64 k ∧ fs.take k = gs.take k ∧ Below W4.heap.size W4 wr) (fun i _ => gs.length - (intOf i).toNat)
  case atStart => exact ⟨0, Nat.zero_le _, rfl, rfl, Below.refl _ _⟩
  case round =>
    obtain ⟨k, hk, rfl, htk, hb⟩ := hrel
    by_cases hlt : k < gs.length
    · obtain ⟨b1, o1, rfl, hl1, c0, c1⟩ := Ha.out k (by rw [hma'.out]; exact hlt)
      obtain ⟨b2, o2, rfl, hl2, d0, d1⟩ := Hb.out k hlt
      have hbw := Hb4.out.trans (hb.mono Hb4.out.size)
      have c0 := cell_below hbw (Nat.le_refl _) c0
      have c1 := cell_below hbw (Nat.le_refl _) c1
      have d0 := cell_below hbw (Nat.le_refl _) d0
      have d1 := cell_below hbw (Nat.le_refl _) d1
      have g3 := cell_below hb (Nat.le_refl _) g3
      have k3 := cell_below hb (Nat.le_refl _) k3
      have i0 : (0 : Int) ≤ (k : Int) := by omega
      have i2 : (k : Int) < (gs.length : Int) := by omega
      have j1 := Ha.out k (by rw [hma'.out]; exact hlt)
      obtain ⟨x, hx⟩ : ∃ x, fs[k]'(by rw [hma'.out]; exact hlt) = x := ⟨_, rfl⟩
      obtain ⟨y, hy⟩ : ∃ y, gs[k] = y := ⟨_, rfl⟩
      rw [hx] at c0 c1
      rw [hy] at d0 d1
      clear j1 hl1 hl2 g0 g1 g2 k0 k1 k2
      have hgk : gs.take (k + 1) = gs.take k ++ [y] := by rw [List.take_succ_eq_append_getElem hlt, hy]
      have hfk : fs.take (k + 1) = fs.take k ++ [x] := by rw [List.take_succ_eq_append_getElem (by rw [hma'.out]; exact hlt), hx]
      have hne : x ≠ y → fs ≠ gs := by
        intro h e
        subst e
        exact h (hx.symm.trans hy)
      have Hgk := Lib.hid hgk
      have Hfk := Lib.hid hfk
      have Hne := Lib.hid hne
      have Htk := Lib.hid htk
      have HB := Lib.hid hb
      have HBw := Lib.hid hbw
      clear hgk hfk hne htk hb hbw hx hy
      obtain ⟨xc, xt⟩ := x
      obtain ⟨yc, yt⟩ := y
      by_cases hc : xc = yc
      · subst hc
        by_cases ht : xt = yt
        · subst ht
          go_wp2_with fail
          go_region
          go_wp2
          go_roundw
          case rel => exact ⟨k + 1, by omega, by go_num, by rw [Hgk.out, Hfk.out, Htk.out], HB.out.drew⟩
          case measure => simp [intOf]; omega
        · have hr : decide (fs = gs) = false := decide_eq_false (Hne.out (by intro h; cases h; exact ht rfl))
          have Hr := Lib.hid hr
          clear hr
          go_wp2_with fail
          go_region
          go_wp2
          go_ret
          exact ⟨by rw [Hr.out]; rfl, HBw.out.drew⟩
      · have hr : decide (fs = gs) = false := decide_eq_false (Hne.out (by intro h; cases h; exact hc rfl))
        have hcz : ¬ ((xc.toNat : Int) = (yc.toNat : Int)) := by
          intro h
          exact hc (UInt8.toNat_inj.1 (by omega))
        have Hr := Lib.hid hr
        clear hr
        go_wp2_with fail
        go_region
        go_wp2
        go_ret
        exact ⟨by rw [Hr.out]; rfl, HBw.out.drew⟩
    · have hk2 : k = gs.length := by omega
      subst hk2
      have hr : decide (fs = gs) = true := decide_eq_true (by rw [List.take_of_length_le (by rw [hma'.out]; exact Nat.le_refl _), List.take_length] at htk; exact htk)
      have g3 := cell_below hb (Nat.le_refl _) g3
      have k3 := cell_below hb (Nat.le_refl _) k3
      go_wp2
      go_ret
      exact ⟨by rw [hr]; rfl, Hb4.out.trans (hb.mono Hb4.out.size)⟩
set_option maxRecDepth 100000 in
set_option maxHeartbeats 4000000 in
theorem same_c (va vb : Value) (x y : RecM) (w : World) (ha : RecV w va x) (hb : RecV w vb y) :
    Calls Tryd.prog 21 #[va, vb] w (SP (decide (x = y)) w) := by
  obtain ⟨v1, rfl, hf⟩ := ha
  obtain ⟨v2, rfl, hg⟩ := hb
  obtain ⟨xk, xl, fs⟩ := x
  obtain ⟨yk, yl, gs⟩ := y
  obtain ⟨a, ca, rfl, hma, hca⟩ := hf.slice
  obtain ⟨b, cb, rfl, hmb, hcb⟩ := hg.slice
  have Ha := Lib.hid hca
  have Hb := Lib.hid hcb
  obtain ⟨W3, hW3⟩ : ∃ W3, w.alloc (.cells #[.int .u8 (xk.toNat : Int), .int .u8 (xl.toNat : Int), .slice a fs.length ca] 27) = W3 := ⟨_, rfl⟩
  obtain ⟨W4, hW4⟩ : ∃ W4, W3.alloc (.cells #[.int .u8 (yk.toNat : Int), .int .u8 (yl.toNat : Int), .slice b gs.length cb] 27) = W4 := ⟨_, rfl⟩
  have hb3 : Below w.heap.size w W3 := by rw [← hW3]; exact below_new w _
  have hb34 : Below W3.heap.size W3 W4 := by rw [← hW4]; exact below_new W3 _
  have hn3 := new_at w (.cells #[.int .u8 (xk.toNat : Int), .int .u8 (xl.toNat : Int), .slice a fs.length ca] 27)
  rw [hW3] at hn3
  have hn3' := heap_below hb34 hn3
  have hn4 := new_at W3 (.cells #[.int .u8 (yk.toNat : Int), .int .u8 (yl.toNat : Int), .slice b gs.length cb] 27)
  rw [hW4] at hn4
  have g0 : W4.cell? ⟨w.heap.size, 0, none⟩ = some (.int .u8 (xk.toNat : Int)) := by rw [cell_at hn3']; rfl
  have g1 : W4.cell? ⟨w.heap.size, 1, none⟩ = some (.int .u8 (xl.toNat : Int)) := by rw [cell_at hn3']; rfl
  have g2 : W4.cell? ⟨w.heap.size, 2, none⟩ = some (.slice a fs.length ca) := by rw [cell_at hn3']; rfl
  have k0 : W4.cell? ⟨W3.heap.size, 0, none⟩ = some (.int .u8 (yk.toNat : Int)) := by rw [cell_at hn4]; rfl
  have k1 : W4.cell? ⟨W3.heap.size, 1, none⟩ = some (.int .u8 (yl.toNat : Int)) := by rw [cell_at hn4]; rfl
  have k2 : W4.cell? ⟨W3.heap.size, 2, none⟩ = some (.slice b gs.length cb) := by rw [cell_at hn4]; rfl
  have Hb4 := Lib.hid (hb3.trans (hb34.mono hb3.size))
  unfold maxLen at hma hmb
  simp only at hma hmb Ha Hb
  clear hb3 hb34 hn3 hn3' hn4 hca hcb hf hg
  unfold SP
  by_cases h1 : xk = yk
  case neg =>
    rw [decide_eq_false (p := RecM.mk xk xl fs = RecM.mk yk yl gs) (by intro h; exact h1 (congrArg RecM.kind h))]
    have e1 : ¬ ((xk.toNat : Int) = (yk.toNat : Int)) := by
      intro h
      exact h1 (UInt8.toNat_inj.1 (by omega))
    go_enter Tryd.func21, Tryd.ntmps21
    go_wp2
    go_ret
    exact ⟨rfl, Hb4.out⟩
  subst h1
  by_cases h2 : xl = yl
  case neg =>
    rw [decide_eq_false (p := RecM.mk xk xl fs = RecM.mk xk yl gs) (by intro h; exact h2 (congrArg RecM.level h))]
    have e1 : ¬ ((xl.toNat : Int) = (yl.toNat : Int)) := by
      intro h
      exact h2 (UInt8.toNat_inj.1 (by omega))
    go_enter Tryd.func21, Tryd.ntmps21
    go_wp2
    go_ret
    exact ⟨rfl, Hb4.out⟩
  subst h2
  by_cases h4 : fs.length = gs.length
  case neg =>
    rw [decide_eq_false (p := RecM.mk xk xl fs = RecM.mk xk xl gs) (by intro h; exact h4 (congrArg List.length (congrArg RecM.fields h)))]
    have e2 : ¬ (fs.length : Int) = (gs.length : Int) := by omega
    go_enter Tryd.func21, Tryd.ntmps21
    go_wp2
    go_ret
    exact ⟨rfl, Hb4.out⟩
  rw [show decide (RecM.mk xk xl fs = RecM.mk xk xl gs) = decide (fs = gs) by simp]
  rw [h4] at hW3 g2 ⊢
  rw [h4] at hma
  have hma' := Lib.hid h4
  clear h4
  go_enter Tryd.func21, Tryd.ntmps21
  go_wp2
  go_loopw [5] (fun i wr => ∃ k : Nat, k ≤ gs.length ∧ i = .int .i64 k ∧ fs.take k = gs.take k ∧ Below W4.heap.size W4 wr) (fun i _ => gs.length - (intOf i).toNat)
  case atStart => exact ⟨0, Nat.zero_le _, rfl, rfl, Below.refl _ _⟩
  case round =>
    obtain ⟨k, hk, rfl, htk, hb⟩ := hrel
    have g2 := cell_below hb (Nat.le_refl _) g2
    have k2 := cell_below hb (Nat.le_refl _) k2
    by_cases hlt : k < gs.length
    · obtain ⟨b1, o1, rfl, hl1, c0, c1, c2, sv, c3, c4⟩ := Ha.out k (by rw [hma'.out]; exact hlt)
      obtain ⟨b2, o2, rfl, hl2, d0, d1, d2, tv, d3, d4⟩ := Hb.out k hlt
      have hbw := Hb4.out.trans (hb.mono Hb4.out.size)
      have c0 := cell_below hbw (Nat.le_refl _) c0
      have c1 := cell_below hbw (Nat.le_refl _) c1
      have c2 := cell_below hbw (Nat.le_refl _) c2
      have c3 := cell_below hbw (Nat.le_refl _) c3
      have c4 := c4.below hbw (Nat.le_refl _)
      have d0 := cell_below hbw (Nat.le_refl _) d0
      have d1 := cell_below hbw (Nat.le_refl _) d1
      have d2 := cell_below hbw (Nat.le_refl _) d2
      have d3 := cell_below hbw (Nat.le_refl _) d3
      have d4 := d4.below hbw (Nat.le_refl _)
      have i0 : (0 : Int) ≤ (k : Int) := by omega
      have i2 : (k : Int) < (gs.length : Int) := by omega
      obtain ⟨x, hx⟩ : ∃ x, fs[k]'(by rw [hma'.out]; exact hlt) = x := ⟨_, rfl⟩
      obtain ⟨y, hy⟩ : ∃ y, gs[k] = y := ⟨_, rfl⟩
      rw [hx] at c0 c1 c2 c4
      rw [hy] at d0 d1 d2 d4
      have hgk : gs.take (k + 1) = gs.take k ++ [y] := by rw [List.take_succ_eq_append_getElem hlt, hy]
      have hfk : fs.take (k + 1) = fs.take k ++ [x] := by rw [List.take_succ_eq_append_getElem (by rw [hma'.out]; exact hlt), hx]
      have hne : x ≠ y → fs ≠ gs := by
        intro h e
        subst e
        exact h (hx.symm.trans hy)
      obtain ⟨t, i, d, ss⟩ := x
      obtain ⟨t', i', d', ss'⟩ := y
      have N1 := Lib.hid (fun W (hb : Below wr.heap.size wr W) => sameField_all t i d t' i' d' ss ss' sv tv W (c4.below hb (Nat.le_refl _)) (d4.below hb (Nat.le_refl _)))
      obtain ⟨q, hq⟩ : ∃ q, decide (FldM.mk t i d ss = FldM.mk t' i' d' ss') = q := ⟨_, rfl⟩
      rw [hq] at N1
      have Hq := Lib.hid hq
      have Hgk := Lib.hid hgk
      have Hfk := Lib.hid hfk
      have Hne := Lib.hid hne
      have Htk := Lib.hid htk
      have HB := Lib.hid hb
      have HBw := Lib.hid hbw
      clear hgk hfk hne htk hb hbw hx hy hq c4 d4 hl1 hl2 g0 g1 k0 k1
      go_wp2_with fail
      go_region_with (go_at_call 49; refine (N1.out _ (Below.refl _ _).drew).mono ?_; rintro e W9 ⟨rfl, hb9⟩)
      all_goals
        have hB9 := Lib.hid ((Below.refl wr.heap.size wr).drew.trans hb9)
        clear hb9
        cases q with
        | false =>
          have hr : decide (fs = gs) = false := decide_eq_false (Hne.out (by have := Hq.out; simpa using this))
          have Hr := Lib.hid hr
          clear hr
          go_wp2
          go_ret
          exact ⟨by rw [Hr.out]; rfl, HBw.out.trans (hB9.out.mono HBw.out.size)⟩
        | true =>
          go_wp2
          go_roundw
          case rel => exact ⟨k + 1, by omega, by go_num, by rw [Hgk.out, Hfk.out, Htk.out, of_decide_eq_true Hq.out], HB.out.trans (hB9.out.mono HB.out.size)⟩
          case measure => simp [intOf]; omega
    · have hk2 : k = gs.length := by omega
      subst hk2
      have hr : decide (fs = gs) = true := decide_eq_true (by rw [List.take_of_length_le (by rw [hma'.out]; exact Nat.le_refl _), List.take_length] at htk; exact htk)
      go_wp2
      go_ret
      exact ⟨by rw [hr]; rfl, Hb4.out.trans (hb.mono Hb4.out.size)⟩
end Go.Proofs.YtpfnmjcomdckgaaDoor
