/-
  testsOfFields, firstProblem.
-/
import Derived.Test.YtfccpepmjklodaaSTest3
import Derived.Laws.EntriesVeiled
namespace Go.Proofs.Ytfccpepmjklodaa
open Go.RowKit Go.Shelf
set_option linter.unusedVariables false
set_option linter.unusedSimpArgs false

def testArr : Array Value := #[.int .i64 14, .func (.func 37) #[] #[], .int .i64 20, .func (.func 38) #[] #[], .int .i64 22, .func (.func 39) #[] #[],
  .int .i64 23, .func (.func 40) #[] #[], .int .i64 24, .func (.func 41) #[] #[], .int .i64 22, .func (.func 42) #[] #[]]
theorem tests_c (w : World) : Calls Try.prog 31 #[] w fun e w' => e = .returned (.slice (some ⟨w.heap.size, 0, none⟩) 6 6) ∧ w'.heap[w.heap.size]? = some (.cells testArr 83 (0, 0)) ∧ Below w.heap.size w w' := by
  have h1 := new_at w (.cells testArr 83)
  have h2 := below_new w (.cells testArr 83)
  obtain ⟨W, hW⟩ : ∃ W, w.alloc (.cells testArr 83) = W := ⟨_, rfl⟩
  rw [hW] at h1 h2
  unfold testArr at hW
  have H1 := Lib.hid h1
  have H2 := Lib.hid h2
  clear h1 h2
  go_enter Try.func31, Try.ntmps31
  go_wp2
  go_ret
  exact ⟨rfl, H1.out, H2.out⟩
/-- The six tests. -/
def tst (f : FldM) (ro : Option RuleM) (again : Bool) : Nat → Bool
  | 0 => misB f
  | 1 => ro.isNone
  | 2 => match ro with | some r => r.once && again | none => false
  | 3 => match ro with | some r => indBad f r | none => false
  | 4 => match ro with | some r => codeBad f r | none => false
  | 5 => match ro with | some r => twiceBad f r | none => false
  | _ => false
def kindN : Nat → Nat
  | 0 => 14 | 1 => 20 | 2 => 22 | 3 => 23 | 4 => 24 | 5 => 22 | _ => 0
theorem vis_hit {f : FldM} {ro : Option RuleM} {again : Bool} (i : Nat) (hi : i < 6) (h : tst f ro again i = true) (hno : ∀ j, j < i → tst f ro again j = false) : visM f ro again = kindN i := by
  match i, hi with
  | 0, _ =>
    have h : misB f = true := h
    unfold visM; rw [if_pos h]; rfl
  | 1, _ =>
    have h0 : misB f = false := hno 0 (by omega)
    cases ro with
    | none => unfold visM; rw [h0]; rfl
    | some r => cases h
  | 2, _ =>
    have h0 : misB f = false := hno 0 (by omega)
    cases ro with
    | none => cases h
    | some r =>
      have h : (r.once && again) = true := h
      unfold visM; simp only [h0, h]; rfl
  | 3, _ =>
    have h0 : misB f = false := hno 0 (by omega)
    cases ro with
    | none => cases h
    | some r =>
      have h2 : (r.once && again) = false := hno 2 (by omega)
      have h : indBad f r = true := h
      unfold visM; simp only [h0, h2, h]; rfl
  | 4, _ =>
    have h0 : misB f = false := hno 0 (by omega)
    cases ro with
    | none => cases h
    | some r =>
      have h2 : (r.once && again) = false := hno 2 (by omega)
      have h3 : indBad f r = false := hno 3 (by omega)
      have h : codeBad f r = true := h
      unfold visM; simp only [h0, h2, h3, h]; rfl
  | 5, _ =>
    have h0 : misB f = false := hno 0 (by omega)
    cases ro with
    | none => cases h
    | some r =>
      have h2 : (r.once && again) = false := hno 2 (by omega)
      have h3 : indBad f r = false := hno 3 (by omega)
      have h4 : codeBad f r = false := hno 4 (by omega)
      have h : twiceBad f r = true := h
      unfold visM; simp only [h0, h2, h3, h4, h]; rfl
theorem vis_none {f : FldM} {ro : Option RuleM} {again : Bool} (hno : ∀ j, j < 6 → tst f ro again j = false) : visM f ro again = 0 := by
  have h0 : misB f = false := hno 0 (by omega)
  cases ro with
  | none => have h1 : true = false := hno 1 (by omega); cases h1
  | some r =>
    have h2 : (r.once && again) = false := hno 2 (by omega)
    have h3 : indBad f r = false := hno 3 (by omega)
    have h4 : codeBad f r = false := hno 4 (by omega)
    have h5 : twiceBad f r = false := hno 5 (by omega)
    unfold visM; simp only [h0, h2, h3, h4, h5]; rfl
/-- What the pointer of a visit leads to. -/
def PtrTo (w : World) (p : Option Addr) (ro : Option RuleM) : Prop := (p = none ∧ ro = none) ∨ ∃ b o r, p = some ⟨b, o, none⟩ ∧ ro = some r ∧ RuleC w b o r
theorem PtrTo.below {w w' : World} {B : Nat} {p : Option Addr} {ro : Option RuleM} (h : PtrTo w p ro) (hb : Below B w w') (hB : w.heap.size ≤ B) : PtrTo w' p ro := by
  rcases h with h | ⟨b, o, r, h1, h2, h3⟩
  · exact .inl h
  · exact .inr ⟨b, o, r, h1, h2, h3.below hb hB⟩
theorem PtrTo.some {w : World} {p : Option Addr} {r : RuleM} (h : PtrTo w p (some r)) : ∃ b o, p = Option.some ⟨b, o, none⟩ ∧ RuleC w b o r := by
  rcases h with ⟨_, h⟩ | ⟨b, o, r', h1, h2, h3⟩
  · cases h
  · cases h2; exact ⟨b, o, h1, h3⟩
theorem tstM (w : World) (f : FldM) (a : Option Addr) (c : Nat) (p : Option Addr) (ro : Option RuleM) (again : Bool) (hp : PtrTo w p ro) (hs : SubsAt w (.slice a f.subs.length c) f.subs) :
    Calls Try.prog 37 #[visV f a c p again] w (BP (tst f ro again 0) w) ∧ Calls Try.prog 38 #[visV f a c p again] w (BP (tst f ro again 1) w) ∧
    (tst f ro again 1 = false → Calls Try.prog 39 #[visV f a c p again] w (BP (tst f ro again 2) w)) ∧
    (tst f ro again 0 = false → tst f ro again 1 = false → Calls Try.prog 40 #[visV f a c p again] w (BP (tst f ro again 3) w)) ∧
    (tst f ro again 1 = false → Calls Try.prog 41 #[visV f a c p again] w (BP (tst f ro again 4) w)) ∧
    (tst f ro again 1 = false → Calls Try.prog 42 #[visV f a c p again] w (BP (tst f ro again 5) w)) := by
  refine ⟨isMisshapen_c f a c p again w, ?_, ?_, ?_, ?_, ?_⟩
  · have h := hasNoRule_c f a c p again w
    have e : (p == none) = tst f ro again 1 := by
      rcases hp with ⟨rfl, rfl⟩ | ⟨b, o, r, rfl, rfl, _⟩ <;> rfl
    rw [e] at h
    exact h
  all_goals (cases ro with | none => (first | (intro _ h; cases h; done) | (intro h; cases h; done)) | some r => ?_)
  all_goals obtain ⟨b, o, rfl, hr⟩ := hp.some
  · exact fun _ => isRepeated_c f a c b o r again w hr
  · exact fun h _ => hasWrongIndicator_c f a c b o r again w hr h
  · exact fun _ => hasWrongCode_c f a c b o r again w hr hs
  · exact fun _ => hasRepeatedCode_c f a c b o r again w hr hs
def FP (n : Nat) (w : World) (e : Ending) (w' : World) : Prop := e = .returned (.int .i64 (n : Nat)) ∧ Below w.heap.size w w'
set_option maxRecDepth 100000 in
set_option maxHeartbeats 8000000 in
theorem firstProblem_c (tb : Nat) (f : FldM) (a : Option Addr) (c : Nat) (p : Option Addr) (ro : Option RuleM) (again : Bool) (w : World) (ht : w.heap[tb]? = some (.cells testArr 83 (0, 0))) (hp : PtrTo w p ro) (hs : SubsAt w (.slice a f.subs.length c) f.subs) :
    Calls Try.prog 32 #[.slice (some ⟨tb, 0, none⟩) 6 6, visV f a c p again] w (FP (visM f ro again) w) := by
  obtain ⟨W1, h1, hb1, hs1, c0, c1, c2, c3, c4, c5⟩ := vis_new w f a c p again
  have Hb1 := Lib.hid hb1
  have Ht := Lib.hid ht
  have Hp := Lib.hid hp
  have Hs := Lib.hid hs
  have C := Lib.hid (And.intro c0 (And.intro c1 (And.intro c2 (And.intro c3 (And.intro c4 c5)))))
  have hl1 : w.heap.size < W1.heap.size := by omega
  unfold FP visV
  clear hb1 ht hp hs
  go_enter Try.func32, Try.ntmps32
  go_wp2_with fail
  go_loopw [9] (fun iv wr => ∃ i : Nat, i ≤ 6 ∧ iv = .int .i64 i ∧ Below W1.heap.size W1 wr ∧ ∀ j, j < i → tst f ro again j = false) (fun iv _ => 6 - (intOf iv).toNat)
  case atStart => exact ⟨0, by omega, rfl, Below.refl _ _, fun j h => absurd h (Nat.not_lt_zero j)⟩
  case round =>
    obtain ⟨i, hi, rfl, hb, hno⟩ := hrel
    clear c0 c1 c2 c3 c4 c5 h1
    have hbw := Hb1.out.trans (hb.mono Hb1.out.size)
    have htw := heap_below hbw (Nat.le_refl _) Ht.out
    obtain ⟨c0, c1, c2, c3, c4, c5⟩ := C.out
    have Hno := Lib.hid hno
    have Hbw := Lib.hid hbw
    have Hb := Lib.hid hb
    have Htw := Lib.hid htw
    match i, hi with
    | 0, _ =>
      obtain ⟨W4, hW4⟩ : ∃ W4, wr.alloc (.cells #[testArr[0]!, testArr[1]!] 83) = W4 := ⟨_, rfl⟩
      have q0 : wr.cell? ⟨tb, 0, none⟩ = some testArr[0]! := by rw [cell_at Htw.out]; rfl
      have q1 : wr.cell? ⟨tb, 1, none⟩ = some testArr[1]! := by rw [cell_at Htw.out]; rfl
      have hb4 : Below W1.heap.size W1 W4 := by rw [← hW4]; exact Hb.out.alloc Hb.out.size _
      have hn4 : W4.heap[wr.heap.size]? = some (.cells #[testArr[0]!, testArr[1]!] 83 (0, 0)) := by rw [← hW4]; exact new_at _ _
      have d0 : W4.cell? ⟨wr.heap.size, 0, none⟩ = some testArr[0]! := by rw [cell_at hn4]; rfl
      have d1 : W4.cell? ⟨wr.heap.size, 1, none⟩ = some testArr[1]! := by rw [cell_at hn4]; rfl
      rw [show testArr[0]! = Value.int .i64 14 from rfl] at hW4 q0 d0 hn4
      rw [show testArr[1]! = Value.func (.func 37) #[] #[] from rfl] at hW4 q1 d1 hn4
      have hb4w := Hb1.out.trans (hb4.mono Hb1.out.size)
      have M := (tstM W4 f a c p ro again (Hp.out.below hb4w (Nat.le_refl _)) (Hs.out.below hb4w (Nat.le_refl _))).1
      unfold BP visV at M
      have x0 := cell_below hb4 (Nat.le_refl _) c0
      have x1 := cell_below hb4 (Nat.le_refl _) c1
      have x2 := cell_below hb4 (Nat.le_refl _) c2
      have x3 := cell_below hb4 (Nat.le_refl _) c3
      have x4 := cell_below hb4 (Nat.le_refl _) c4
      have x5 := cell_below hb4 (Nat.le_refl _) c5
      have Hb4 := Lib.hid hb4
      have Hb4w := Lib.hid hb4w
      obtain ⟨wb, hwb⟩ : ∃ k, wr.heap.size = k := ⟨_, rfl⟩
      rw [hwb] at d0 d1 hn4
      have Hn4 := Lib.hid hn4
      clear hn4 hb4 hb4w hno hb hbw htw c0 c1 c2 c3 c4 c5
      cases ht : tst f ro again 0 with
      | true =>
        rw [ht] at M
        have M := Lib.hid M
        have hv := vis_hit 0 (by omega) ht Hno.out
        have Hv := Lib.hid hv
        clear ht hv
        go_wp2_with fail
        refine M.out.mono ?_
        rintro _ w5 ⟨rfl, hb5⟩
        have hn5 := heap_below hb5 (Nat.le_refl _) Hn4.out
        have d0 : w5.cell? ⟨wb, 0, none⟩ = some (Value.int .i64 14) := by rw [cell_at hn5]; rfl
        have Hb5 := Lib.hid (Hb4w.out.trans (hb5.mono Hb4w.out.size))
        clear hb5 hn5
        go_wp2
        go_ret
        exact ⟨by rw [Hv.out]; rfl, Hb5.out⟩
      | false =>
        rw [ht] at M
        have M := Lib.hid M
        have hno2 : ∀ j, j < 0 + 1 → tst f ro again j = false := by
          intro j hj
          rcases Nat.lt_or_ge j 0 with h | h
          · exact Hno.out j h
          · obtain rfl : j = 0 := by omega
            exact ht
        have Hno2 := Lib.hid hno2
        clear ht hno2
        go_wp2_with fail
        refine M.out.mono ?_
        rintro _ w5 ⟨rfl, hb5⟩
        have Hb5 := Lib.hid (Hb4.out.trans (hb5.mono Hb4.out.size))
        clear hb5
        go_wp2
        go_roundw
        case rel => exact ⟨0 + 1, by omega, by first | rfl | go_num, Hb5.out, Hno2.out⟩
        case measure => simp [intOf]
    | 1, _ =>
      obtain ⟨W4, hW4⟩ : ∃ W4, wr.alloc (.cells #[testArr[2]!, testArr[3]!] 83) = W4 := ⟨_, rfl⟩
      have q0 : wr.cell? ⟨tb, 2, none⟩ = some testArr[2]! := by rw [cell_at Htw.out]; rfl
      have q1 : wr.cell? ⟨tb, 3, none⟩ = some testArr[3]! := by rw [cell_at Htw.out]; rfl
      have hb4 : Below W1.heap.size W1 W4 := by rw [← hW4]; exact Hb.out.alloc Hb.out.size _
      have hn4 : W4.heap[wr.heap.size]? = some (.cells #[testArr[2]!, testArr[3]!] 83 (0, 0)) := by rw [← hW4]; exact new_at _ _
      have d0 : W4.cell? ⟨wr.heap.size, 0, none⟩ = some testArr[2]! := by rw [cell_at hn4]; rfl
      have d1 : W4.cell? ⟨wr.heap.size, 1, none⟩ = some testArr[3]! := by rw [cell_at hn4]; rfl
      rw [show testArr[2]! = Value.int .i64 20 from rfl] at hW4 q0 d0 hn4
      rw [show testArr[3]! = Value.func (.func 38) #[] #[] from rfl] at hW4 q1 d1 hn4
      have hb4w := Hb1.out.trans (hb4.mono Hb1.out.size)
      have M := (tstM W4 f a c p ro again (Hp.out.below hb4w (Nat.le_refl _)) (Hs.out.below hb4w (Nat.le_refl _))).2.1
      unfold BP visV at M
      have x0 := cell_below hb4 (Nat.le_refl _) c0
      have x1 := cell_below hb4 (Nat.le_refl _) c1
      have x2 := cell_below hb4 (Nat.le_refl _) c2
      have x3 := cell_below hb4 (Nat.le_refl _) c3
      have x4 := cell_below hb4 (Nat.le_refl _) c4
      have x5 := cell_below hb4 (Nat.le_refl _) c5
      have Hb4 := Lib.hid hb4
      have Hb4w := Lib.hid hb4w
      obtain ⟨wb, hwb⟩ : ∃ k, wr.heap.size = k := ⟨_, rfl⟩
      rw [hwb] at d0 d1 hn4
      have Hn4 := Lib.hid hn4
      clear hn4 hb4 hb4w hno hb hbw htw c0 c1 c2 c3 c4 c5
      cases ht : tst f ro again 1 with
      | true =>
        rw [ht] at M
        have M := Lib.hid M
        have hv := vis_hit 1 (by omega) ht Hno.out
        have Hv := Lib.hid hv
        clear ht hv
        go_wp2_with fail
        refine M.out.mono ?_
        rintro _ w5 ⟨rfl, hb5⟩
        have hn5 := heap_below hb5 (Nat.le_refl _) Hn4.out
        have d0 : w5.cell? ⟨wb, 0, none⟩ = some (Value.int .i64 20) := by rw [cell_at hn5]; rfl
        have Hb5 := Lib.hid (Hb4w.out.trans (hb5.mono Hb4w.out.size))
        clear hb5 hn5
        go_wp2
        go_ret
        exact ⟨by rw [Hv.out]; rfl, Hb5.out⟩
      | false =>
        rw [ht] at M
        have M := Lib.hid M
        have hno2 : ∀ j, j < 1 + 1 → tst f ro again j = false := by
          intro j hj
          rcases Nat.lt_or_ge j 1 with h | h
          · exact Hno.out j h
          · obtain rfl : j = 1 := by omega
            exact ht
        have Hno2 := Lib.hid hno2
        clear ht hno2
        go_wp2_with fail
        refine M.out.mono ?_
        rintro _ w5 ⟨rfl, hb5⟩
        have Hb5 := Lib.hid (Hb4.out.trans (hb5.mono Hb4.out.size))
        clear hb5
        go_wp2
        go_roundw
        case rel => exact ⟨1 + 1, by omega, by first | rfl | go_num, Hb5.out, Hno2.out⟩
        case measure => simp [intOf]
    | 2, _ =>
      obtain ⟨W4, hW4⟩ : ∃ W4, wr.alloc (.cells #[testArr[4]!, testArr[5]!] 83) = W4 := ⟨_, rfl⟩
      have q0 : wr.cell? ⟨tb, 4, none⟩ = some testArr[4]! := by rw [cell_at Htw.out]; rfl
      have q1 : wr.cell? ⟨tb, 5, none⟩ = some testArr[5]! := by rw [cell_at Htw.out]; rfl
      have hb4 : Below W1.heap.size W1 W4 := by rw [← hW4]; exact Hb.out.alloc Hb.out.size _
      have hn4 : W4.heap[wr.heap.size]? = some (.cells #[testArr[4]!, testArr[5]!] 83 (0, 0)) := by rw [← hW4]; exact new_at _ _
      have d0 : W4.cell? ⟨wr.heap.size, 0, none⟩ = some testArr[4]! := by rw [cell_at hn4]; rfl
      have d1 : W4.cell? ⟨wr.heap.size, 1, none⟩ = some testArr[5]! := by rw [cell_at hn4]; rfl
      rw [show testArr[4]! = Value.int .i64 22 from rfl] at hW4 q0 d0 hn4
      rw [show testArr[5]! = Value.func (.func 39) #[] #[] from rfl] at hW4 q1 d1 hn4
      have hb4w := Hb1.out.trans (hb4.mono Hb1.out.size)
      have M := (tstM W4 f a c p ro again (Hp.out.below hb4w (Nat.le_refl _)) (Hs.out.below hb4w (Nat.le_refl _))).2.2.1 (Hno.out 1 (by omega))
      unfold BP visV at M
      have x0 := cell_below hb4 (Nat.le_refl _) c0
      have x1 := cell_below hb4 (Nat.le_refl _) c1
      have x2 := cell_below hb4 (Nat.le_refl _) c2
      have x3 := cell_below hb4 (Nat.le_refl _) c3
      have x4 := cell_below hb4 (Nat.le_refl _) c4
      have x5 := cell_below hb4 (Nat.le_refl _) c5
      have Hb4 := Lib.hid hb4
      have Hb4w := Lib.hid hb4w
      obtain ⟨wb, hwb⟩ : ∃ k, wr.heap.size = k := ⟨_, rfl⟩
      rw [hwb] at d0 d1 hn4
      have Hn4 := Lib.hid hn4
      clear hn4 hb4 hb4w hno hb hbw htw c0 c1 c2 c3 c4 c5
      cases ht : tst f ro again 2 with
      | true =>
        rw [ht] at M
        have M := Lib.hid M
        have hv := vis_hit 2 (by omega) ht Hno.out
        have Hv := Lib.hid hv
        clear ht hv
        go_wp2_with fail
        refine M.out.mono ?_
        rintro _ w5 ⟨rfl, hb5⟩
        have hn5 := heap_below hb5 (Nat.le_refl _) Hn4.out
        have d0 : w5.cell? ⟨wb, 0, none⟩ = some (Value.int .i64 22) := by rw [cell_at hn5]; rfl
        have Hb5 := Lib.hid (Hb4w.out.trans (hb5.mono Hb4w.out.size))
        clear hb5 hn5
        go_wp2
        go_ret
        exact ⟨by rw [Hv.out]; rfl, Hb5.out⟩
      | false =>
        rw [ht] at M
        have M := Lib.hid M
        have hno2 : ∀ j, j < 2 + 1 → tst f ro again j = false := by
          intro j hj
          rcases Nat.lt_or_ge j 2 with h | h
          · exact Hno.out j h
          · obtain rfl : j = 2 := by omega
            exact ht
        have Hno2 := Lib.hid hno2
        clear ht hno2
        go_wp2_with fail
        refine M.out.mono ?_
        rintro _ w5 ⟨rfl, hb5⟩
        have Hb5 := Lib.hid (Hb4.out.trans (hb5.mono Hb4.out.size))
        clear hb5
        go_wp2
        go_roundw
        case rel => exact ⟨2 + 1, by omega, by first | rfl | go_num, Hb5.out, Hno2.out⟩
        case measure => simp [intOf]
    | 3, _ =>
      obtain ⟨W4, hW4⟩ : ∃ W4, wr.alloc (.cells #[testArr[6]!, testArr[7]!] 83) = W4 := ⟨_, rfl⟩
      have q0 : wr.cell? ⟨tb, 6, none⟩ = some testArr[6]! := by rw [cell_at Htw.out]; rfl
      have q1 : wr.cell? ⟨tb, 7, none⟩ = some testArr[7]! := by rw [cell_at Htw.out]; rfl
      have hb4 : Below W1.heap.size W1 W4 := by rw [← hW4]; exact Hb.out.alloc Hb.out.size _
      have hn4 : W4.heap[wr.heap.size]? = some (.cells #[testArr[6]!, testArr[7]!] 83 (0, 0)) := by rw [← hW4]; exact new_at _ _
      have d0 : W4.cell? ⟨wr.heap.size, 0, none⟩ = some testArr[6]! := by rw [cell_at hn4]; rfl
      have d1 : W4.cell? ⟨wr.heap.size, 1, none⟩ = some testArr[7]! := by rw [cell_at hn4]; rfl
      rw [show testArr[6]! = Value.int .i64 23 from rfl] at hW4 q0 d0 hn4
      rw [show testArr[7]! = Value.func (.func 40) #[] #[] from rfl] at hW4 q1 d1 hn4
      have hb4w := Hb1.out.trans (hb4.mono Hb1.out.size)
      have M := (tstM W4 f a c p ro again (Hp.out.below hb4w (Nat.le_refl _)) (Hs.out.below hb4w (Nat.le_refl _))).2.2.2.1 (Hno.out 0 (by omega)) (Hno.out 1 (by omega))
      unfold BP visV at M
      have x0 := cell_below hb4 (Nat.le_refl _) c0
      have x1 := cell_below hb4 (Nat.le_refl _) c1
      have x2 := cell_below hb4 (Nat.le_refl _) c2
      have x3 := cell_below hb4 (Nat.le_refl _) c3
      have x4 := cell_below hb4 (Nat.le_refl _) c4
      have x5 := cell_below hb4 (Nat.le_refl _) c5
      have Hb4 := Lib.hid hb4
      have Hb4w := Lib.hid hb4w
      obtain ⟨wb, hwb⟩ : ∃ k, wr.heap.size = k := ⟨_, rfl⟩
      rw [hwb] at d0 d1 hn4
      have Hn4 := Lib.hid hn4
      clear hn4 hb4 hb4w hno hb hbw htw c0 c1 c2 c3 c4 c5
      cases ht : tst f ro again 3 with
      | true =>
        rw [ht] at M
        have M := Lib.hid M
        have hv := vis_hit 3 (by omega) ht Hno.out
        have Hv := Lib.hid hv
        clear ht hv
        go_wp2_with fail
        refine M.out.mono ?_
        rintro _ w5 ⟨rfl, hb5⟩
        have hn5 := heap_below hb5 (Nat.le_refl _) Hn4.out
        have d0 : w5.cell? ⟨wb, 0, none⟩ = some (Value.int .i64 23) := by rw [cell_at hn5]; rfl
        have Hb5 := Lib.hid (Hb4w.out.trans (hb5.mono Hb4w.out.size))
        clear hb5 hn5
        go_wp2
        go_ret
        exact ⟨by rw [Hv.out]; rfl, Hb5.out⟩
      | false =>
        rw [ht] at M
        have M := Lib.hid M
        have hno2 : ∀ j, j < 3 + 1 → tst f ro again j = false := by
          intro j hj
          rcases Nat.lt_or_ge j 3 with h | h
          · exact Hno.out j h
          · obtain rfl : j = 3 := by omega
            exact ht
        have Hno2 := Lib.hid hno2
        clear ht hno2
        go_wp2_with fail
        refine M.out.mono ?_
        rintro _ w5 ⟨rfl, hb5⟩
        have Hb5 := Lib.hid (Hb4.out.trans (hb5.mono Hb4.out.size))
        clear hb5
        go_wp2
        go_roundw
        case rel => exact ⟨3 + 1, by omega, by first | rfl | go_num, Hb5.out, Hno2.out⟩
        case measure => simp [intOf]
    | 4, _ =>
      obtain ⟨W4, hW4⟩ : ∃ W4, wr.alloc (.cells #[testArr[8]!, testArr[9]!] 83) = W4 := ⟨_, rfl⟩
      have q0 : wr.cell? ⟨tb, 8, none⟩ = some testArr[8]! := by rw [cell_at Htw.out]; rfl
      have q1 : wr.cell? ⟨tb, 9, none⟩ = some testArr[9]! := by rw [cell_at Htw.out]; rfl
      have hb4 : Below W1.heap.size W1 W4 := by rw [← hW4]; exact Hb.out.alloc Hb.out.size _
      have hn4 : W4.heap[wr.heap.size]? = some (.cells #[testArr[8]!, testArr[9]!] 83 (0, 0)) := by rw [← hW4]; exact new_at _ _
      have d0 : W4.cell? ⟨wr.heap.size, 0, none⟩ = some testArr[8]! := by rw [cell_at hn4]; rfl
      have d1 : W4.cell? ⟨wr.heap.size, 1, none⟩ = some testArr[9]! := by rw [cell_at hn4]; rfl
      rw [show testArr[8]! = Value.int .i64 24 from rfl] at hW4 q0 d0 hn4
      rw [show testArr[9]! = Value.func (.func 41) #[] #[] from rfl] at hW4 q1 d1 hn4
      have hb4w := Hb1.out.trans (hb4.mono Hb1.out.size)
      have M := (tstM W4 f a c p ro again (Hp.out.below hb4w (Nat.le_refl _)) (Hs.out.below hb4w (Nat.le_refl _))).2.2.2.2.1 (Hno.out 1 (by omega))
      unfold BP visV at M
      have x0 := cell_below hb4 (Nat.le_refl _) c0
      have x1 := cell_below hb4 (Nat.le_refl _) c1
      have x2 := cell_below hb4 (Nat.le_refl _) c2
      have x3 := cell_below hb4 (Nat.le_refl _) c3
      have x4 := cell_below hb4 (Nat.le_refl _) c4
      have x5 := cell_below hb4 (Nat.le_refl _) c5
      have Hb4 := Lib.hid hb4
      have Hb4w := Lib.hid hb4w
      obtain ⟨wb, hwb⟩ : ∃ k, wr.heap.size = k := ⟨_, rfl⟩
      rw [hwb] at d0 d1 hn4
      have Hn4 := Lib.hid hn4
      clear hn4 hb4 hb4w hno hb hbw htw c0 c1 c2 c3 c4 c5
      cases ht : tst f ro again 4 with
      | true =>
        rw [ht] at M
        have M := Lib.hid M
        have hv := vis_hit 4 (by omega) ht Hno.out
        have Hv := Lib.hid hv
        clear ht hv
        go_wp2_with fail
        refine M.out.mono ?_
        rintro _ w5 ⟨rfl, hb5⟩
        have hn5 := heap_below hb5 (Nat.le_refl _) Hn4.out
        have d0 : w5.cell? ⟨wb, 0, none⟩ = some (Value.int .i64 24) := by rw [cell_at hn5]; rfl
        have Hb5 := Lib.hid (Hb4w.out.trans (hb5.mono Hb4w.out.size))
        clear hb5 hn5
        go_wp2
        go_ret
        exact ⟨by rw [Hv.out]; rfl, Hb5.out⟩
      | false =>
        rw [ht] at M
        have M := Lib.hid M
        have hno2 : ∀ j, j < 4 + 1 → tst f ro again j = false := by
          intro j hj
          rcases Nat.lt_or_ge j 4 with h | h
          · exact Hno.out j h
          · obtain rfl : j = 4 := by omega
            exact ht
        have Hno2 := Lib.hid hno2
        clear ht hno2
        go_wp2_with fail
        refine M.out.mono ?_
        rintro _ w5 ⟨rfl, hb5⟩
        have Hb5 := Lib.hid (Hb4.out.trans (hb5.mono Hb4.out.size))
        clear hb5
        go_wp2
        go_roundw
        case rel => exact ⟨4 + 1, by omega, by first | rfl | go_num, Hb5.out, Hno2.out⟩
        case measure => simp [intOf]
    | 5, _ =>
      obtain ⟨W4, hW4⟩ : ∃ W4, wr.alloc (.cells #[testArr[10]!, testArr[11]!] 83) = W4 := ⟨_, rfl⟩
      have q0 : wr.cell? ⟨tb, 10, none⟩ = some testArr[10]! := by rw [cell_at Htw.out]; rfl
      have q1 : wr.cell? ⟨tb, 11, none⟩ = some testArr[11]! := by rw [cell_at Htw.out]; rfl
      have hb4 : Below W1.heap.size W1 W4 := by rw [← hW4]; exact Hb.out.alloc Hb.out.size _
      have hn4 : W4.heap[wr.heap.size]? = some (.cells #[testArr[10]!, testArr[11]!] 83 (0, 0)) := by rw [← hW4]; exact new_at _ _
      have d0 : W4.cell? ⟨wr.heap.size, 0, none⟩ = some testArr[10]! := by rw [cell_at hn4]; rfl
      have d1 : W4.cell? ⟨wr.heap.size, 1, none⟩ = some testArr[11]! := by rw [cell_at hn4]; rfl
      rw [show testArr[10]! = Value.int .i64 22 from rfl] at hW4 q0 d0 hn4
      rw [show testArr[11]! = Value.func (.func 42) #[] #[] from rfl] at hW4 q1 d1 hn4
      have hb4w := Hb1.out.trans (hb4.mono Hb1.out.size)
      have M := (tstM W4 f a c p ro again (Hp.out.below hb4w (Nat.le_refl _)) (Hs.out.below hb4w (Nat.le_refl _))).2.2.2.2.2 (Hno.out 1 (by omega))
      unfold BP visV at M
      have x0 := cell_below hb4 (Nat.le_refl _) c0
      have x1 := cell_below hb4 (Nat.le_refl _) c1
      have x2 := cell_below hb4 (Nat.le_refl _) c2
      have x3 := cell_below hb4 (Nat.le_refl _) c3
      have x4 := cell_below hb4 (Nat.le_refl _) c4
      have x5 := cell_below hb4 (Nat.le_refl _) c5
      have Hb4 := Lib.hid hb4
      have Hb4w := Lib.hid hb4w
      obtain ⟨wb, hwb⟩ : ∃ k, wr.heap.size = k := ⟨_, rfl⟩
      rw [hwb] at d0 d1 hn4
      have Hn4 := Lib.hid hn4
      clear hn4 hb4 hb4w hno hb hbw htw c0 c1 c2 c3 c4 c5
      cases ht : tst f ro again 5 with
      | true =>
        rw [ht] at M
        have M := Lib.hid M
        have hv := vis_hit 5 (by omega) ht Hno.out
        have Hv := Lib.hid hv
        clear ht hv
        go_wp2_with fail
        refine M.out.mono ?_
        rintro _ w5 ⟨rfl, hb5⟩
        have hn5 := heap_below hb5 (Nat.le_refl _) Hn4.out
        have d0 : w5.cell? ⟨wb, 0, none⟩ = some (Value.int .i64 22) := by rw [cell_at hn5]; rfl
        have Hb5 := Lib.hid (Hb4w.out.trans (hb5.mono Hb4w.out.size))
        clear hb5 hn5
        go_wp2
        go_ret
        exact ⟨by rw [Hv.out]; rfl, Hb5.out⟩
      | false =>
        rw [ht] at M
        have M := Lib.hid M
        have hno2 : ∀ j, j < 5 + 1 → tst f ro again j = false := by
          intro j hj
          rcases Nat.lt_or_ge j 5 with h | h
          · exact Hno.out j h
          · obtain rfl : j = 5 := by omega
            exact ht
        have Hno2 := Lib.hid hno2
        clear ht hno2
        go_wp2_with fail
        refine M.out.mono ?_
        rintro _ w5 ⟨rfl, hb5⟩
        have Hb5 := Lib.hid (Hb4.out.trans (hb5.mono Hb4.out.size))
        clear hb5
        go_wp2
        go_roundw
        case rel => exact ⟨5 + 1, by omega, by first | rfl | go_num, Hb5.out, Hno2.out⟩
        case measure => simp [intOf]
    | 6, _ =>
      have hv := vis_none Hno.out
      have Hv := Lib.hid hv
      clear hv hno hb hbw htw
      go_wp2
      go_ret
      exact ⟨by rw [Hv.out]; rfl, Hbw.out⟩
end Go.Proofs.Ytfccpepmjklodaa
