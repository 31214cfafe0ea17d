/-
  Fits, and the reference's Same.
-/
import Derived.Test.YtfccpepmjklodaaSLine
namespace Go.Proofs.Ytfccpepmjklodaa
open Go.RowKit Go.Shelf
set_option linter.unusedVariables false
set_option linter.unusedSimpArgs false

def ProbAt (w : World) (v : Value) (l : List (Int × Nat)) : Prop :=
  ∃ a c, v = .slice a l.length c ∧ l.length ≤ maxLen ∧ ∀ i (h : i < l.length), ∃ b o, a = some ⟨b, o, none⟩ ∧ b < w.heap.size ∧
    w.cell? ⟨b, o + i * 2, none⟩ = some (.int .i64 l[i].1) ∧ w.cell? ⟨b, o + i * 2 + 1, none⟩ = some (.int .i64 (l[i].2 : Nat))
theorem ProbAt.below {w w' : World} {B : Nat} {v : Value} {l : List (Int × Nat)} (h : ProbAt w v l) (hb : Below B w w') (hB : w.heap.size ≤ B) : ProbAt w' v l := by
  obtain ⟨a, c, hv, hm, hc⟩ := h
  refine ⟨a, c, hv, hm, fun i hi => ?_⟩
  obtain ⟨b, o, ha, hl, c0, c1⟩ := hc i hi
  exact ⟨b, o, ha, Nat.lt_of_lt_of_le hl hb.size, cell_below hb hB c0, cell_below hb hB c1⟩
theorem probCells_at : ∀ (l : List (Int × Nat)) (i : Nat) (h : i < l.length), (probCells l)[i * 2]? = some (.int .i64 l[i].1) ∧ (probCells l)[i * 2 + 1]? = some (.int .i64 (l[i].2 : Nat))
  | p :: l, 0, _ => ⟨rfl, rfl⟩
  | p :: l, i + 1, h => by
    have ih := probCells_at l i (by simpa using h)
    have e : probCells (p :: l) = [.int .i64 p.1, .int .i64 (p.2 : Nat)] ++ probCells l := rfl
    rw [e, List.getElem?_append_right (by simp; omega), List.getElem?_append_right (by simp; omega)]
    simp only [List.length_cons, List.length_nil, List.getElem_cons_succ]
    rw [show (i + 1) * 2 - (0 + 1 + 1) = i * 2 by omega, show (i + 1) * 2 + 1 - (0 + 1 + 1) = i * 2 + 1 by omega]
    exact ih
theorem prob_of_own {w : World} {B : Nat} {v : Value} {l : List (Int × Nat)} (h : w.ownsRow B 54 2 v l.length (probCells l)) : ProbAt w v l := by
  rcases h.2 with ⟨hv, h0⟩ | ⟨g, cap, cur, hv, hbg, hg, hnc, hcm, hcs, htake⟩
  · refine ⟨none, 0, ?_, by omega, fun i hi => by omega⟩
    rw [hv, h0]
  · refine ⟨_, _, hv, by simp only [maxLen] at *; omega, fun i hi => ⟨g, 0, rfl, (Array.getElem?_eq_some_iff.1 hg).1, ?_⟩⟩
    have hc := probCells_at l i hi
    have hx : ∀ j, j < l.length * 2 → cur[j]? = (probCells l)[j]? := by
      intro j hj
      rw [← htake, List.getElem?_take_of_lt hj, Array.getElem?_toList]
    simp only [cell_at hg, Nat.zero_add]
    exact ⟨(hx _ (by omega)).trans hc.1, (hx _ (by omega)).trans hc.2⟩
set_option maxHeartbeats 4000000 in
theorem fits_c (rules : List RuleM) (rb ro : Nat) (ra : Option Addr) (rc : Nat) (v : Value) (r : RecM) (hra : rules ≠ [] → ra = some ⟨rb, ro, none⟩) (w : World) (hr : RulesAt w (.slice ra rules.length rc) rules) (hv : RecV w v r)
    (hrt : ∀ q ∈ rules, q.tag.length ≤ 140737488355328) (hft : ∀ f ∈ r.fields, f.tag.length ≤ 140737488355328) (hsm : rules.length + r.fields.length ≤ 1000000) :
    Calls Try.prog 19 #[.slice ra rules.length rc, v] w (fun e w' => e = .returned (.bool (((checkS rules r.fields).length : Int) == 0)) ∧ Below w.heap.size w w') := by
  have hv' := hv
  obtain ⟨fv, rfl, hf⟩ := hv
  obtain ⟨W1, hW1⟩ : ∃ W1, w.alloc (.cells #[.int .u8 (r.kind.toNat : Int), .int .u8 (r.level.toNat : Int), fv] 32) = W1 := ⟨_, rfl⟩
  have hb1 : Below w.heap.size w W1 := by rw [← hW1]; exact below_new _ _
  have hn1 : W1.heap[w.heap.size]? = some (.cells #[.int .u8 (r.kind.toNat : Int), .int .u8 (r.level.toNat : Int), fv] 32 (0, 0)) := by rw [← hW1]; exact new_at _ _
  have e0 : W1.cell? ⟨w.heap.size, 0, none⟩ = some (.int .u8 (r.kind.toNat : Int)) := by rw [cell_at hn1]; rfl
  have e1 : W1.cell? ⟨w.heap.size, 1, none⟩ = some (.int .u8 (r.level.toNat : Int)) := by rw [cell_at hn1]; rfl
  have e2 : W1.cell? ⟨w.heap.size, 2, none⟩ = some fv := by rw [cell_at hn1]; rfl
  have N := Lib.hid (check_c rules rb ro ra rc _ r hra W1 (hr.below hb1 (Nat.le_refl _)) (hv'.below hb1 (Nat.le_refl _)) hrt hft hsm)
  have HB := Lib.hid hb1
  clear hb1 hn1 hr hv' hf hrt hft hra
  go_enter Try.func19, Try.ntmps19
  go_wp2_with fail
  refine N.out.mono ?_
  rintro e W2 ⟨pv, rfl, hown, hb⟩
  have HB2 := Lib.hid (below_tr HB.out hb)
  obtain ⟨pa, pc, rfl⟩ := own_form hown
  clear N hown hb
  go_wp2
  go_ret
  exact ⟨rfl, HB2.out⟩
set_option maxRecDepth 100000 in
set_option maxHeartbeats 4000000 in
theorem same_c (fs gs : List (Int × Nat)) (va vb : Value) (w : World) (ha : ProbAt w va fs) (hb : ProbAt w vb gs) :
    Calls Try.prog 17 #[va, vb] w (fun e w' => e = .returned (.bool (decide (fs = gs))) ∧ Below w.heap.size w w') := by
  obtain ⟨a, ca, rfl, hma, hca⟩ := ha
  obtain ⟨b, cb, rfl, hmb, hcb⟩ := hb
  have Ha := Lib.hid hca
  have Hb := Lib.hid hcb
  unfold maxLen at hma hmb
  clear hca hcb
  by_cases h4 : fs.length = gs.length
  case neg =>
    rw [decide_eq_false (p := fs = gs) (by intro h; exact h4 (congrArg List.length h))]
    have e1 : ((fs.length : Int) == (gs.length : Int)) = false := by simp; omega
    have e2 : ¬ (fs.length : Int) = (gs.length : Int) := by omega
    go_enter Try.func17, Try.ntmps17
    go_wp2
    go_ret
    exact ⟨rfl, Below.refl _ _⟩
  rw [h4]
  rw [h4] at hma
  have hma' := Lib.hid h4
  clear h4
  have HQ : ∀ x : Bool, (decide (fs = gs)) = x → decide (fs = gs) = x := fun _ h => h
  go_enter Try.func17, Try.ntmps17
  go_wp2
  go_loopw [5] (fun i wr => ∃ k : Nat, k ≤ gs.length ∧ i = .int .i64 k ∧ fs.take k = gs.take k ∧ Below w.heap.size w wr) (fun i _ => gs.length - (intOf i).toNat)
  case atStart => exact ⟨0, Nat.zero_le _, rfl, rfl, Below.refl _ _⟩
  case round =>
    obtain ⟨k, hk, rfl, htk, hb⟩ := hrel
    by_cases hlt : k < gs.length
    · obtain ⟨b1, o1, rfl, hl1, c0, c1⟩ := Ha.out k (by rw [hma'.out]; exact hlt)
      obtain ⟨b2, o2, rfl, hl2, d0, d1⟩ := Hb.out k hlt
      have c0 := cell_below hb (Nat.le_refl _) c0
      have c1 := cell_below hb (Nat.le_refl _) c1
      have d0 := cell_below hb (Nat.le_refl _) d0
      have d1 := cell_below hb (Nat.le_refl _) d1
      have i0 : (0 : Int) ≤ (k : Int) := by omega
      have i2 : (k : Int) < (gs.length : Int) := by omega
      obtain ⟨x, hx⟩ : ∃ x, fs[k]'(by rw [hma'.out]; exact hlt) = x := ⟨_, rfl⟩
      obtain ⟨y, hy⟩ : ∃ y, gs[k] = y := ⟨_, rfl⟩
      rw [hx] at c0 c1
      rw [hy] at d0 d1
      clear hl1 hl2
      have hgk : gs.take (k + 1) = gs.take k ++ [y] := by rw [List.take_succ_eq_append_getElem hlt, hy]
      have hfk : fs.take (k + 1) = fs.take k ++ [x] := by rw [List.take_succ_eq_append_getElem (by rw [hma'.out]; exact hlt), hx]
      have hne : x ≠ y → fs ≠ gs := by
        intro h e
        subst e
        exact h (hx.symm.trans hy)
      have Hgk := Lib.hid hgk
      have Hfk := Lib.hid hfk
      have Hne := Lib.hid hne
      have Htk := Lib.hid htk
      have HB := Lib.hid hb
      clear hgk hfk hne htk hb hx hy HQ
      obtain ⟨xc, xt⟩ := x
      obtain ⟨yc, yt⟩ := y
      simp only at c0 c1 d0 d1
      by_cases hc : xc = yc
      · subst hc
        by_cases ht : xt = yt
        · subst ht
          go_wp2_with fail
          go_region
          go_wp2
          go_roundw
          case rel => exact ⟨k + 1, by omega, by go_num, by rw [Hgk.out, Hfk.out, Htk.out], HB.out.drew⟩
          case measure => simp [intOf]; omega
        · have hr : decide (fs = gs) = false := decide_eq_false (Hne.out (by intro h; cases h; exact ht rfl))
          have Hr := Lib.hid hr
          have htz : ¬ ((xt : Int) = (yt : Int)) := by omega
          clear hr
          go_wp2_with fail
          go_region
          go_wp2
          go_ret
          exact ⟨by rw [Hr.out]; rfl, HB.out.drew⟩
      · have hr : decide (fs = gs) = false := decide_eq_false (Hne.out (by intro h; cases h; exact hc rfl))
        have Hr := Lib.hid hr
        clear hr
        go_wp2_with fail
        go_region
        go_wp2
        go_ret
        exact ⟨by rw [Hr.out]; rfl, HB.out.drew⟩
    · have i2 : ¬ (k : Int) < (gs.length : Int) := by omega
      obtain rfl : k = gs.length := by omega
      have hr : decide (fs = gs) = true := by
        rw [List.take_of_length_le (by rw [hma'.out]; exact Nat.le_refl _), List.take_of_length_le (Nat.le_refl _)] at htk
        exact decide_eq_true htk
      have Hr := Lib.hid hr
      have HB := Lib.hid hb
      clear hr hb htk
      go_wp2
      go_ret
      exact ⟨by rw [Hr.out]; rfl, HB.out⟩
end Go.Proofs.Ytfccpepmjklodaa
