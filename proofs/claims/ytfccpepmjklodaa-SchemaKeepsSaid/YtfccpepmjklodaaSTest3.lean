/-
  The tests of a field: a code that may occur only once occurs twice.
-/
import Derived.Test.YtfccpepmjklodaaSTest2
import Derived.Deep.Cut
namespace Go.Proofs.Ytfccpepmjklodaa
open Go.RowKit Go.Shelf
set_option linter.unusedVariables false
set_option linter.unusedSimpArgs false

/-- The table of the codes that have been seen. -/
def SeenAt (W : World) (b : Nat) (seen : List UInt8) : Prop := ∃ A : Array Value, W.heap[b]? = some (.cells A 87 (0, 0)) ∧ A.size = 256 ∧ ∀ c : UInt8, A[c.toNat]? = some (.bool (hasB seen c))
theorem SeenAt.below {W W' : World} {b B : Nat} {seen : List UInt8} (h : SeenAt W b seen) (hb : Below B W W') (hB : W.heap.size ≤ B) : SeenAt W' b seen := by
  obtain ⟨A, h1, h2, h3⟩ := h
  exact ⟨A, heap_below hb hB h1, h2, h3⟩
theorem SeenAt.cell {W : World} {b : Nat} {seen : List UInt8} (h : SeenAt W b seen) (c : UInt8) : W.cell? ⟨b, c.toNat, none⟩ = some (.bool (hasB seen c)) ∧ W.frozen? ⟨b, c.toNat, none⟩ = false := by
  obtain ⟨A, h1, h2, h3⟩ := h
  exact ⟨by rw [cell_at h1]; exact h3 c, Lib.frozen_of_heap h1 _⟩
theorem SeenAt.set {W : World} {b : Nat} {seen : List UInt8} (h : SeenAt W b seen) (c : UInt8) : SeenAt (W.setCell ⟨b, c.toNat, none⟩ (.bool true)) b (c :: seen) := by
  obtain ⟨A, h1, h2, h3⟩ := h
  refine ⟨A.setIfInBounds c.toNat (.bool true), ?_, by rw [Array.size_setIfInBounds]; exact h2, fun d => ?_⟩
  · simp [World.setCell, Array.getElem?_modify, h1]
  · have hh : hasB (c :: seen) d = (c == d || hasB seen d) := by unfold hasB; simp
    rw [hh]
    by_cases e : c = d
    · subst e
      have hlt := c.toNat_lt
      rw [Array.getElem?_setIfInBounds_self_of_lt (by omega)]
      simp
    · have hne : c.toNat ≠ d.toNat := fun h => e (UInt8.toNat_inj.1 h)
      rw [Array.getElem?_setIfInBounds_ne hne, h3 d]
      have : (c == d) = false := by rw [beq_eq_false_iff_ne]; exact e
      rw [this]
      rfl
theorem zero256 : ∃ Z : Array Value, (∀ w, (zeroValue 87).run Try.prog w = .ok (.agg Z) w) ∧ Z.size = 256 ∧ ∀ c : UInt8, Z[c.toNat]? = some (.bool false) := by
  refine ⟨Array.replicate 256 (.bool false), fun w => by kernel_rfl, by simp, fun c => ?_⟩
  have := c.toNat_lt
  rw [Array.getElem?_replicate, if_pos (by omega)]
set_option maxRecDepth 100000 in
set_option maxHeartbeats 4000000 in
theorem hasRepeatedCode_c (f : FldM) (a : Option Addr) (c : Nat) (b o : Nat) (r : RuleM) (again : Bool) (w : World) (hr : RuleC w b o r) (hs : SubsAt w (.slice a f.subs.length c) f.subs) :
    Calls Try.prog 42 #[visV f a c (some ⟨b, o, none⟩) again] w (BP (twiceBad f r) w) := by
  obtain ⟨W1, h1, hb1, hs1, c0, c1, c2, c3, c4, c5⟩ := vis_new w f a c (some ⟨b, o, none⟩) again
  obtain ⟨_, _, hse, hsm, hsc⟩ := hs.slice
  simp only [Value.slice.injEq] at hse
  obtain ⟨rfl, -, rfl⟩ := hse
  have Hb1 := Lib.hid hb1
  have Hr := Lib.hid hr
  have Hsc := Lib.hid hsc
  have hl1 : w.heap.size < W1.heap.size := by omega
  have C4 := Lib.hid c4
  unfold maxLen at hsm
  unfold BP visV
  clear hb1 hr hsc hs
  obtain ⟨Z, hZ, hZs, hZ0⟩ := zero256
  have hz := hZ W1
  obtain ⟨W2, hW2⟩ : ∃ W2, W1.alloc (.cells Z 87) = W2 := ⟨_, rfl⟩
  have hb2 : Below W1.heap.size W1 W2 := by rw [← hW2]; exact below_new _ _
  have hs2 : SeenAt W2 W1.heap.size [] := by rw [← hW2]; exact ⟨Z, new_at _ _, hZs, hZ0⟩
  have c3' := cell_below hb2 (Nat.le_refl _) c3
  have Hb2 := Lib.hid hb2
  have Hs2 := Lib.hid hs2
  clear hZ hZs hZ0 hb2 hs2
  go_enter Try.func42, Try.ntmps42
  have Hs2' := Lib.hid (show SeenAt W2 (w.heap.size + 1) [] by rw [← hs1]; exact Hs2.out)
  have hl2 : w.heap.size + 1 < W2.heap.size := by rw [← hW2]; simp; omega
  go_wp2_with fail
  go_loopw [10] (fun iv wr => ∃ (i : Nat) (seen : List UInt8), i ≤ f.subs.length ∧ iv = .int .i64 i ∧ Below W1.heap.size W1 wr ∧ w.heap.size + 1 < wr.heap.size ∧ SeenAt wr (w.heap.size + 1) seen ∧ twiceAux r.single seen (f.subs.drop i) = twiceBad f r) (fun iv _ => f.subs.length - (intOf iv).toNat)
  case atStart => exact ⟨0, [], Nat.zero_le _, rfl, Hb2.out, hl2, Hs2'.out, rfl⟩
  case round =>
    obtain ⟨i, seen, hi, rfl, hb, hlw, hse, htw⟩ := hrel
    clear c0 c1 c2 c3 c4 c5 h1 Hb2 Hs2 Hs2' hl2 hW2 hz c3'
    by_cases hlt : i < f.subs.length
    · have i0 : (0 : Int) ≤ (i : Int) := by omega
      have i1 : (i : Int) < (f.subs.length : Int) := by omega
      obtain ⟨sb, off, hae, hsbl, q0, q1⟩ := Hsc.out i hlt
      have hbw := Hb1.out.trans (hb.mono Hb1.out.size)
      have q0 := cell_below hbw (Nat.le_refl _) q0
      have q1 := cell_below hbw (Nat.le_refl _) q1
      rw [List.drop_eq_getElem_cons hlt] at htw
      obtain ⟨s, hse'⟩ : ∃ s, f.subs[i] = s := ⟨_, rfl⟩
      rw [hse'] at q0 q1 htw
      have htw2 : ((hasB seen s.code && hasB r.single s.code) || twiceAux r.single (s.code :: seen) (f.subs.drop (i + 1))) = twiceBad f r := htw
      obtain ⟨W4, hW4⟩ : ∃ W4, wr.alloc (.cells #[.int .u8 (s.code.toNat : Int), str s.text] 48) = W4 := ⟨_, rfl⟩
      have hn4 : W4.heap[wr.heap.size]? = some (.cells #[.int .u8 (s.code.toNat : Int), str s.text] 48 (0, 0)) := by rw [← hW4]; exact new_at _ _
      have hb4 : Below W1.heap.size W1 W4 := by rw [← hW4]; exact hb.alloc hb.size _
      have hse4 : SeenAt W4 (w.heap.size + 1) seen := by rw [← hW4]; exact hse.below (below_new _ _) (Nat.le_refl _)
      have hl4 : wr.heap.size < W4.heap.size := by rw [← hW4]; simp
      have d0 : W4.cell? ⟨wr.heap.size, 0, none⟩ = some (.int .u8 (s.code.toNat : Int)) := by rw [cell_at hn4]; rfl
      obtain ⟨g0, g1⟩ := hse4.cell s.code
      have k0 : (0 : Int) ≤ (s.code.toNat : Int) := by omega
      have k1 : (s.code.toNat : Int) < 256 := by have := s.code.toNat_lt; omega
      have p4 := cell_below hb4 (Nat.le_refl _) C4.out
      obtain ⟨-, -, -, -, -, -, r6⟩ := Hr.out.below (Hb1.out.trans (hb4.mono Hb1.out.size)) (Nat.le_refl _)
      have N := fun W => occurs_c s.code r.single W
      have Hb4 := Lib.hid hb4
      have Hse4 := Lib.hid hse4
      have Hn4 := Lib.hid hn4
      obtain ⟨wb, hwb⟩ : ∃ k, wr.heap.size = k := ⟨_, rfl⟩
      rw [hwb] at d0 hn4 hl4
      have hwbl : w.heap.size + 1 < wb := by omega
      have Hwb := Lib.hid hwb
      subst hae
      clear hn4 hb4 hbw hb hsbl hse htw hse4 hse'
      cases hA : hasB seen s.code with
      | false =>
        rw [hA] at g0 htw2
        have htw3 : twiceAux r.single (s.code :: seen) (f.subs.drop (i + 1)) = twiceBad f r := by rw [← htw2]; rfl
        have Htw := Lib.hid htw3
        clear htw2 htw3 hA
        go_wp2_with fail
        go_quiet (fail)
        have e0 : (W4.drewN nq).cell? ⟨wb, 0, none⟩ = some (.int .u8 (s.code.toNat : Int)) := d0
        have e1 : (W4.drewN nq).frozen? ⟨w.heap.size + 1, s.code.toNat, none⟩ = false := g1
        obtain ⟨W5, hW5⟩ : ∃ W5, W4.drewN nq = W5 := ⟨_, rfl⟩
        have hse5 : SeenAt W5 (w.heap.size + 1) seen := by rw [← hW5]; exact Hse4.out
        obtain ⟨e2, -⟩ := hse5.cell s.code
        have hse6 := hse5.set s.code
        have hb5 : Below W1.heap.size W1 W5 := by rw [← hW5]; exact below_dr Hb4.out nq
        have hb6 : Below W1.heap.size W1 (W5.setCell ⟨w.heap.size + 1, s.code.toNat, none⟩ (.bool true)) := hb5.setCell (p := ⟨w.heap.size + 1, s.code.toNat, none⟩) (by show W1.heap.size ≤ w.heap.size + 1; omega) _
        have hl6 : w.heap.size + 1 < (W5.setCell ⟨w.heap.size + 1, s.code.toNat, none⟩ (.bool true)).heap.size := by
          have : W5.heap.size = W4.heap.size := by rw [← hW5]; rfl
          simp
          omega
        rw [hW5] at e0 e1
        have Hse6 := Lib.hid hse6
        have Hb6 := Lib.hid hb6
        have Hl6 := Lib.hid hl6
        rw [hW5]
        clear hW5 hse5 hse6 hb5 hb6 hl6 d0 g0 g1 p4 r6
        go_wp2
        go_roundw
        case rel => exact ⟨i + 1, _, by omega, by go_num, Hb6.out, Hl6.out, Hse6.out, Htw.out⟩
        case measure => simp [intOf]; omega
      | true =>
        rw [hA] at g0 htw2
        cases hB : hasB r.single s.code with
        | true =>
          have N := Lib.hid (show ∀ W : World, Calls Try.prog 45 #[.int .u8 (s.code.toNat : Int), str r.single] W fun e w' => e = .returned (.bool true) ∧ w' = W from fun W => by have h := N W; rw [hB] at h; exact h)
          rw [hB] at htw2
          have Htw := Lib.hid htw2
          clear htw2 hA hB
          go_wp2_with fail
          go_quiet (exact Calls.quiet_of_same (N.out _))
          have Hb5 := Lib.hid (Hb1.out.trans ((below_dr Hb4.out nq).mono Hb1.out.size))
          go_wp2
          go_ret
          exact ⟨by rw [← Htw.out]; rfl, Hb5.out⟩
        | false =>
          have N := Lib.hid (show ∀ W : World, Calls Try.prog 45 #[.int .u8 (s.code.toNat : Int), str r.single] W fun e w' => e = .returned (.bool false) ∧ w' = W from fun W => by have h := N W; rw [hB] at h; exact h)
          rw [hB] at htw2
          have htw3 : twiceAux r.single (s.code :: seen) (f.subs.drop (i + 1)) = twiceBad f r := by rw [← htw2]; rfl
          have Htw := Lib.hid htw3
          clear htw2 htw3 hA hB
          go_wp2_with fail
          go_quiet (exact Calls.quiet_of_same (N.out _))
          have e0 : (W4.drewN nq).cell? ⟨wb, 0, none⟩ = some (.int .u8 (s.code.toNat : Int)) := d0
          have e1 : (W4.drewN nq).frozen? ⟨w.heap.size + 1, s.code.toNat, none⟩ = false := g1
          obtain ⟨W5, hW5⟩ : ∃ W5, W4.drewN nq = W5 := ⟨_, rfl⟩
          have hse5 : SeenAt W5 (w.heap.size + 1) seen := by rw [← hW5]; exact Hse4.out
          obtain ⟨e2, -⟩ := hse5.cell s.code
          have hse6 := hse5.set s.code
          have hb5 : Below W1.heap.size W1 W5 := by rw [← hW5]; exact below_dr Hb4.out nq
          have hb6 : Below W1.heap.size W1 (W5.setCell ⟨w.heap.size + 1, s.code.toNat, none⟩ (.bool true)) := hb5.setCell (p := ⟨w.heap.size + 1, s.code.toNat, none⟩) (by show W1.heap.size ≤ w.heap.size + 1; omega) _
          have hl6 : w.heap.size + 1 < (W5.setCell ⟨w.heap.size + 1, s.code.toNat, none⟩ (.bool true)).heap.size := by
            have : W5.heap.size = W4.heap.size := by rw [← hW5]; rfl
            simp
            omega
          rw [hW5] at e0 e1
          have Hse6 := Lib.hid hse6
          have Hb6 := Lib.hid hb6
          have Hl6 := Lib.hid hl6
          rw [hW5]
          clear hW5 hse5 hse6 hb5 hb6 hl6 d0 g0 g1 p4 r6
          go_wp2
          go_roundw
          case rel => exact ⟨i + 1, _, by omega, by go_num, Hb6.out, Hl6.out, Hse6.out, Htw.out⟩
          case measure => simp [intOf]; omega
    · have hin : i = f.subs.length := by omega
      subst hin
      rw [List.drop_length] at htw
      have Htw := Lib.hid htw
      have Hb5 := Lib.hid (Hb1.out.trans (hb.mono Hb1.out.size))
      have hd0 : decide (f.subs.length < f.subs.length) = false := by simp
      clear htw hb hlt hse
      go_wp2
      go_ret
      exact ⟨by rw [← Htw.out]; rfl, Hb5.out⟩
end Go.Proofs.Ytfccpepmjklodaa
