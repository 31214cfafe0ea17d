/-
  The field reader's text and indicators; lengthOfBeginning.
-/
import Derived.Test.YtpfnmjcomdckgaaDoorRFld2
import Derived.Deep.RegionWith
namespace Go.Proofs.YtpfnmjcomdckgaaDoor
open Go.RowKit Go.Shelf
set_option linter.unusedVariables false
set_option linter.unusedSimpArgs false

theorem tabs_below {w w' : World} (hT : Tabs w) (h : Below w.heap.size w w') : Tabs w' := by
  have hold : ∀ (p : Addr) (v : Value), w.cell? p = some v → w'.cell? p = some v := fun p v hv => by
    have hlt : p.block < w.heap.size := World.block_lt_of_cell? w _ hv
    exact (h.cell hlt).trans hv
  exact ⟨fun c hc => hold _ _ (hT.1 c hc), fun i hi => ⟨hold _ _ (hT.2 i hi).1, hold _ _ (hT.2 i hi).2⟩⟩
theorem begN_le : ∀ (f k : Nat) (r : List UInt8), k ≤ r.length → begN f k r ≤ r.length
  | 0, k, r, h => h
  | f + 1, k, r, h => by
    unfold begN
    split
    · rename_i hc
      simp only [Bool.and_eq_true, decide_eq_true_eq] at hc
      exact begN_le f (k + 1) r (by omega)
    · exact h
set_option maxRecDepth 100000 in
set_option maxHeartbeats 1000000 in
theorem lengthOfBeginning_c (r : List UInt8) (hl : r.length ≤ 1099511627776) (w : World) (hT : Tabs w) :
    Calls Tryd.prog 99 #[str r] w fun e w' => e = .returned (.int .i64 (begL r)) ∧ Below w.heap.size w w' := by
  have hsz := size_str r
  have HT := Lib.hid hT
  unfold begL
  clear hT
  go_enter Tryd.func99, Tryd.ntmps99
  go_wp2
  go_loopw [3] (fun n wr => ∃ (k f : Nat), k ≤ r.length ∧ n = .int .i64 k ∧ r.length ≤ k + f ∧ begN r.length 0 r = begN f k r ∧ Below w.heap.size w wr) (fun n _ => r.length - (intOf n).toNat)
  case atStart => exact ⟨0, r.length, Nat.zero_le _, rfl, by omega, rfl, Below.refl _ _⟩
  case round =>
    obtain ⟨k, f, hk, rfl, hf, heq, hb⟩ := hrel
    by_cases hlt : k < r.length
    · obtain ⟨g, rfl⟩ : ∃ g, f = g + 1 := ⟨f - 1, by omega⟩
      have hex := ext_take r (k + 1)
      have i0 : (0 : Int) ≤ (k : Int) := by omega
      have i1 : (k : Int) < (r.length : Int) := by omega
      have i2 : (k : Int) + 1 ≤ (r.length : Int) := by omega
      have N := Lib.hid (full_c (r.take (k + 1)) (by rw [List.length_take]; omega) wr (tabs_below HT.out hb))
      have hstep : begN (g + 1) k r = if !fullM (r.take (k + 1)) then begN g (k + 1) r else k := by
        show ite _ _ _ = _; rw [decide_eq_true hlt, Bool.true_and]
      rw [hstep] at heq
      have Hb := Lib.hid hb
      clear hb hstep
      cases hf : fullM (r.take (k + 1)) with
      | true =>
        rw [hf] at N heq
        have Heq := Lib.hid heq
        unfold FullPost at N
        obtain ⟨R, hR⟩ : ∃ R, r.take (k + 1) = R := ⟨_, rfl⟩
        rw [hR] at hex N
        clear hf hR heq
        go_wp2_with fail
        refine N.out.mono ?_
        rintro e w1 ⟨rfl, hb1⟩
        have Hb1 := Lib.hid (Hb.out.trans (hb1.mono Hb.out.size))
        clear hb1
        go_wp2
        go_ret
        exact ⟨by rw [Heq.out]; rfl, Hb1.out⟩
      | false =>
        rw [hf] at N heq
        have Heq := Lib.hid heq
        unfold FullPost at N
        obtain ⟨R, hR⟩ : ∃ R, r.take (k + 1) = R := ⟨_, rfl⟩
        rw [hR] at hex N
        clear hf hR heq
        go_wp2_with fail
        refine N.out.mono ?_
        rintro e w1 ⟨rfl, hb1⟩
        have Hb1 := Lib.hid (Hb.out.trans (hb1.mono Hb.out.size))
        clear hb1
        go_wp2
        go_roundw
        case rel => exact ⟨k + 1, g, by omega, by go_num, by omega, by rw [Heq.out]; rfl, Hb1.out⟩
        case measure => simp [intOf]; omega
    · have i1 : ¬ (k : Int) < (r.length : Int) := by omega
      have hk2 : begN f k r = k := by
        cases f with
        | zero => rfl
        | succ f => show ite _ _ _ = _; rw [decide_eq_false hlt, Bool.false_and, if_neg (by decide)]
      rw [hk2] at heq
      have Heq := Lib.hid heq
      have Hb := Lib.hid hb
      clear heq hk2 hb
      go_wp2
      go_ret
      exact ⟨by rw [Heq.out]; rfl, Hb.out⟩
/-- A text is read, from a place on. -/
def textM (bs : List UInt8) (off a : Nat) : PR (Value × Nat) :=
  if decide (a + textLen (bs.drop a) < bs.length) && decide (32 ≤ (bs.getD (a + textLen (bs.drop a)) 0).toNat) then .bad (failAt bs off (a + textLen (bs.drop a) + begL (bs.drop (a + textLen (bs.drop a))))) 14
  else .ok (str ((bs.drop a).take (textLen (bs.drop a))), a + textLen (bs.drop a))
end Go.Proofs.YtpfnmjcomdckgaaDoor
