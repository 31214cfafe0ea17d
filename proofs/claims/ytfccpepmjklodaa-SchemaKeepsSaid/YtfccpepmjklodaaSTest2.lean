/-
  The tests of a field: its indicators and its codes.
-/
import Derived.Test.YtfccpepmjklodaaSTest1
namespace Go.Proofs.Ytfccpepmjklodaa
open Go.RowKit Go.Shelf
set_option linter.unusedVariables false
set_option linter.unusedSimpArgs false

set_option maxRecDepth 100000 in
theorem hasWrongIndicator_c (f : FldM) (a : Option Addr) (c : Nat) (b o : Nat) (r : RuleM) (again : Bool) (w : World) (hr : RuleC w b o r) (hm : misB f = false) :
    Calls Try.prog 40 #[visV f a c (some ⟨b, o, none⟩) again] w (BP (indBad f r) w) := by
  obtain ⟨W1, h1, hb1, hs1, c0, c1, c2, c3, c4, c5⟩ := vis_new w f a c (some ⟨b, o, none⟩) again
  have N := Lib.hid (isControl_c f (.slice a f.subs.length c) a f.subs.length c rfl W1)
  have Hb1 := Lib.hid hb1
  have hr1 := hr.below hb1 (Nat.le_refl _)
  have Hr1 := Lib.hid hr1
  have hmis : misB f = if ctlB f.tag then !f.ind.isEmpty || !f.subs.isEmpty else !f.data.isEmpty || !(f.ind.length == 2) || f.subs.isEmpty := rfl
  unfold BP visV
  clear hb1 hr hr1
  cases hc : ctlB f.tag with
  | true =>
    rw [hc] at N
    rw [show indBad f r = false by unfold indBad; rw [hc]; rfl]
    clear hmis hm hc
    go_enter Try.func40, Try.ntmps40
    go_wp2_with fail
    refine N.out.mono ?_
    rintro _ w3 ⟨rfl, hb3⟩
    have Hb3 := Lib.hid (Hb1.out.trans (hb3.mono Hb1.out.size))
    clear hb3
    go_wp2
    go_ret
    exact ⟨rfl, Hb3.out⟩
  | false =>
    rw [hc, if_neg (by decide), hm] at hmis
    have hlen : f.ind.length = 2 := by
      have := hmis.symm
      simp only [Bool.or_eq_false_iff, Bool.not_eq_false'] at this
      exact beq_iff_eq.1 this.1.2
    obtain ⟨x, y, hxy⟩ : ∃ x y, f.ind = [x, y] := by
      match f.ind, hlen with
      | [x, y], _ => exact ⟨x, y, rfl⟩
    rw [hc] at N
    have hbad : indBad f r = (!hasB r.ind0 x || !hasB r.ind1 y) := by unfold indBad; rw [hc, hxy]; rfl
    have Hbad := Lib.hid hbad
    have g0 : ∀ h, (ByteArray.mk f.ind.toArray)[0]'h = x := fun h => by rw [get_str]; simp [hxy]
    have g1 : ∀ h, (ByteArray.mk f.ind.toArray)[1]'h = y := fun h => by rw [get_str]; simp [hxy]
    have sz : (ByteArray.mk f.ind.toArray).size = 2 := by rw [size_str, hlen]
    have O1 := fun W => occurs_c x r.ind0 W
    have O2 := fun W => occurs_c y r.ind1 W
    clear hbad hmis hm hc hxy hlen
    go_enter Try.func40, Try.ntmps40
    go_wp2_with fail
    refine N.out.mono ?_
    rintro _ w3 ⟨rfl, hb3⟩
    have e1 := cell_below hb3 (Nat.le_refl _) c1
    have e4 := cell_below hb3 (Nat.le_refl _) c4
    obtain ⟨-, -, -, q3, q4, -, -⟩ := Hr1.out.below hb3 (Nat.le_refl _)
    have Hb3 := Lib.hid (Hb1.out.trans (hb3.mono Hb1.out.size))
    clear hb3 c0 c1 c2 c3 c4 c5 N
    go_wp2_with fail
    go_quiet (fail)
    obtain ⟨W5, hW5⟩ : ∃ W5, w3.drewN nq = W5 := ⟨_, rfl⟩
    have p4 : W5.cell? ⟨w.heap.size, 4, none⟩ = some (.pointer (some ⟨b, o, none⟩)) := by rw [← hW5]; exact e4
    have p5 : W5.cell? ⟨b, o + 3, none⟩ = some (str r.ind0) := by rw [← hW5]; exact q3
    have p6 : W5.cell? ⟨b, o + 3 + 1, none⟩ = some (str r.ind1) := by rw [← hW5]; exact q4
    have p7 : W5.cell? ⟨b, o + 4, none⟩ = some (str r.ind1) := by rw [← hW5]; exact q4
    have Hb5 := Lib.hid (show Below w.heap.size w W5 by rw [← hW5]; exact below_dr Hb3.out nq)
    rw [hW5]
    clear hW5 e1 e4 q3 q4 Hb3 g0 g1 sz
    have O1 := O1 W5
    have O2 := O2 W5
    cases h0 : hasB r.ind0 x with
    | false =>
      rw [h0] at O1 Hbad
      have O1 := Lib.hid O1
      go_wp2_with fail
      refine O1.out.mono ?_
      rintro _ _ ⟨rfl, rfl⟩
      go_wp2
      go_ret
      exact ⟨by rw [Hbad.out]; rfl, Hb5.out⟩
    | true =>
      rw [h0] at O1 Hbad
      have O1 := Lib.hid O1
      cases h1 : hasB r.ind1 y with
      | false =>
        rw [h1] at O2 Hbad
        have O2 := Lib.hid O2
        go_wp2_with fail
        refine O1.out.mono ?_
        rintro _ _ ⟨rfl, rfl⟩
        go_wp2_with fail
        refine O2.out.mono ?_
        rintro _ _ ⟨rfl, rfl⟩
        go_wp2
        go_ret
        exact ⟨by rw [Hbad.out]; rfl, Hb5.out⟩
      | true =>
        rw [h1] at O2 Hbad
        have O2 := Lib.hid O2
        go_wp2_with fail
        refine O1.out.mono ?_
        rintro _ _ ⟨rfl, rfl⟩
        go_wp2_with fail
        refine O2.out.mono ?_
        rintro _ _ ⟨rfl, rfl⟩
        go_wp2
        go_ret
        exact ⟨by rw [Hbad.out]; rfl, Hb5.out⟩
theorem code_any {l : List SubM} {set : List UInt8} {i : Nat} (hi : i < l.length) (h : hasB set l[i].code = false) : (l.any fun s => !hasB set s.code) = true := by
  rw [List.any_eq_true]
  exact ⟨l[i], List.getElem_mem hi, by rw [h]; rfl⟩
theorem code_all {l : List SubM} {set : List UInt8} (h : ∀ i (hi : i < l.length), hasB set l[i].code = true) : (l.any fun s => !hasB set s.code) = false := by
  rw [List.any_eq_false]
  intro s hs
  obtain ⟨i, hi, rfl⟩ := List.getElem_of_mem hs
  rw [h i hi]
  decide
set_option maxRecDepth 100000 in
set_option maxHeartbeats 4000000 in
theorem hasWrongCode_c (f : FldM) (a : Option Addr) (c : Nat) (b o : Nat) (r : RuleM) (again : Bool) (w : World) (hr : RuleC w b o r) (hs : SubsAt w (.slice a f.subs.length c) f.subs) :
    Calls Try.prog 41 #[visV f a c (some ⟨b, o, none⟩) again] w (BP (codeBad f r) w) := by
  obtain ⟨W1, h1, hb1, hs1, c0, c1, c2, c3, c4, c5⟩ := vis_new w f a c (some ⟨b, o, none⟩) again
  obtain ⟨_, _, hse, hsm, hsc⟩ := hs.slice
  simp only [Value.slice.injEq] at hse
  obtain ⟨rfl, -, rfl⟩ := hse
  have Hb1 := Lib.hid hb1
  have Hr := Lib.hid hr
  have Hsc := Lib.hid hsc
  have hl1 : w.heap.size < W1.heap.size := by omega
  have C4 := Lib.hid c4
  unfold maxLen at hsm
  unfold BP visV
  clear hb1 hr hsc hs
  go_enter Try.func41, Try.ntmps41
  go_wp2_with fail
  go_loopw [9] (fun iv wr => ∃ i : Nat, i ≤ f.subs.length ∧ iv = .int .i64 i ∧ Below W1.heap.size W1 wr ∧ ∀ k (h : k < f.subs.length), k < i → hasB r.codes f.subs[k].code = true) (fun iv _ => f.subs.length - (intOf iv).toNat)
  case atStart => exact ⟨0, Nat.zero_le _, rfl, Below.refl _ _, fun k _ h => absurd h (Nat.not_lt_zero k)⟩
  case round =>
    obtain ⟨i, hi, rfl, hb, hall⟩ := hrel
    clear c0 c1 c2 c3 c4 c5 h1
    by_cases hlt : i < f.subs.length
    · have i0 : (0 : Int) ≤ (i : Int) := by omega
      have i1 : (i : Int) < (f.subs.length : Int) := by omega
      obtain ⟨sb, off, hae, hsbl, q0, q1⟩ := Hsc.out i hlt
      have hbw := Hb1.out.trans (hb.mono Hb1.out.size)
      have q0 := cell_below hbw (Nat.le_refl _) q0
      have q1 := cell_below hbw (Nat.le_refl _) q1
      obtain ⟨s, hse⟩ : ∃ s, f.subs[i] = s := ⟨_, rfl⟩
      rw [hse] at q0 q1
      obtain ⟨W4, hW4⟩ : ∃ W4, wr.alloc (.cells #[.int .u8 (s.code.toNat : Int), str s.text] 48) = W4 := ⟨_, rfl⟩
      have hn4 : W4.heap[wr.heap.size]? = some (.cells #[.int .u8 (s.code.toNat : Int), str s.text] 48 (0, 0)) := by rw [← hW4]; exact new_at _ _
      have hb4 : Below W1.heap.size W1 W4 := by rw [← hW4]; exact hb.alloc hb.size _
      have d0 : W4.cell? ⟨wr.heap.size, 0, none⟩ = some (.int .u8 (s.code.toNat : Int)) := by rw [cell_at hn4]; rfl
      have p4 := cell_below hb4 (Nat.le_refl _) C4.out
      obtain ⟨-, -, -, -, -, r5, -⟩ := Hr.out.below (Hb1.out.trans (hb4.mono Hb1.out.size)) (Nat.le_refl _)
      have N := fun W => occurs_c s.code r.codes W
      have Hb4 := Lib.hid hb4
      have Hall := Lib.hid hall
      subst hae
      clear hn4 hb4 hbw hall hb hsbl
      cases hh : hasB r.codes s.code with
      | true =>
        have N := Lib.hid (show ∀ W : World, Calls Try.prog 45 #[.int .u8 (s.code.toNat : Int), str r.codes] W fun e w' => e = .returned (.bool true) ∧ w' = W from fun W => by have h := N W; rw [hh] at h; exact h)
        have hnew : ∀ k (h : k < f.subs.length), k < i + 1 → hasB r.codes f.subs[k].code = true := by
          intro k h hk
          rcases Nat.lt_or_ge k i with h2 | h2
          · exact Hall.out k h h2
          · obtain rfl : k = i := by omega
            rw [hse]; exact hh
        have Hnew := Lib.hid hnew
        clear hnew hh hse
        go_wp2_with fail
        go_quiet (exact Calls.quiet_of_same (N.out _))
        have Hb5 := Lib.hid (below_dr Hb4.out nq)
        go_wp2
        go_roundw
        case rel => exact ⟨i + 1, by omega, by go_num, Hb5.out, Hnew.out⟩
        case measure => simp [intOf]; omega
      | false =>
        have N := Lib.hid (show ∀ W : World, Calls Try.prog 45 #[.int .u8 (s.code.toNat : Int), str r.codes] W fun e w' => e = .returned (.bool false) ∧ w' = W from fun W => by have h := N W; rw [hh] at h; exact h)
        have hbad : codeBad f r = true := code_any hlt (by rw [hse]; exact hh)
        have Hbad := Lib.hid hbad
        clear hbad hh hse
        go_wp2_with fail
        go_quiet (exact Calls.quiet_of_same (N.out _))
        have Hb5 := Lib.hid (Hb1.out.trans ((below_dr Hb4.out nq).mono Hb1.out.size))
        go_wp2
        go_ret
        exact ⟨by rw [Hbad.out]; rfl, Hb5.out⟩
    · have hin : i = f.subs.length := by omega
      subst hin
      have hbad : codeBad f r = false := code_all (fun k hk => hall k hk hk)
      have Hbad := Lib.hid hbad
      have Hb5 := Lib.hid (Hb1.out.trans (hb.mono Hb1.out.size))
      have hd0 : decide (f.subs.length < f.subs.length) = false := by simp
      clear hbad hall hb hlt
      go_wp2
      go_ret
      exact ⟨by rw [Hbad.out]; rfl, Hb5.out⟩
end Go.Proofs.Ytfccpepmjklodaa
