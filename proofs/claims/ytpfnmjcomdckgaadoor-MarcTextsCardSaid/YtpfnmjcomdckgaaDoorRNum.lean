/-
  marc.number, isTag, isControl.
-/
import Derived.Test.YtpfnmjcomdckgaaDoorRModel
import Derived.Lib.Hide
namespace Go.Proofs.YtpfnmjcomdckgaaDoor
open Go.RowKit Go.Shelf
set_option linter.unusedVariables false
set_option linter.unusedSimpArgs false

def numW (l : List UInt8) : Int := l.foldl (fun n c => wrap64 (wrap64 (10 * n) + ((c.toNat : Int) - 48))) 0
theorem numW_snoc (l : List UInt8) (c : UInt8) : numW (l ++ [c]) = wrap64 (wrap64 (10 * numW l) + ((c.toNat : Int) - 48)) := by simp [numW]
theorem valL_snoc (l : List UInt8) (c : UInt8) : valL (l ++ [c]) = 10 * valL l + (c.toNat - 48) := by simp [valL]
def numV (l : List UInt8) : Int := if l.all digB then numW l else 0
theorem take_snoc {α : Type} (l : List α) (k : Nat) (h : k < l.length) : l.take (k + 1) = l.take k ++ [l[k]] := by
  rw [List.take_succ_eq_append_getElem h]
theorem digB_iff {b : UInt8} : digB b = true ↔ 48 ≤ b.toNat ∧ b.toNat ≤ 57 := by unfold digB; simp
theorem valL_lt : ∀ (l : List UInt8), l.all digB = true → valL l < 10 ^ l.length := by
  intro l
  induction hn : l.length generalizing l with
  | zero => intro _; rw [List.length_eq_zero_iff.1 hn]; decide
  | succ n ih =>
    intro h
    obtain ⟨t, c, rfl⟩ : ∃ t c, l = t ++ [c] := by
      have hne : l ≠ [] := by intro e; rw [e] at hn; simp at hn
      exact ⟨l.dropLast, l.getLast hne, (List.dropLast_concat_getLast hne).symm⟩
    simp only [List.all_append, List.all_cons, List.all_nil, Bool.and_true, Bool.and_eq_true] at h
    have := ih t (by simpa using hn) h.1
    have := digB_iff.1 h.2
    rw [valL_snoc, Nat.pow_succ]
    omega
theorem numW_val : ∀ (l : List UInt8), l.all digB = true → l.length ≤ 18 → numW l = (valL l : Int) := by
  intro l
  induction hn : l.length generalizing l with
  | zero => intro _ _; rw [List.length_eq_zero_iff.1 hn]; rfl
  | succ n ih =>
    intro h hl
    obtain ⟨t, c, rfl⟩ : ∃ t c, l = t ++ [c] := by
      have hne : l ≠ [] := by intro e; rw [e] at hn; simp at hn
      exact ⟨l.dropLast, l.getLast hne, (List.dropLast_concat_getLast hne).symm⟩
    simp only [List.all_append, List.all_cons, List.all_nil, Bool.and_true, Bool.and_eq_true] at h
    have htl : t.length = n := by simpa using hn
    have h1 := ih t htl h.1 (by omega)
    have h2 := digB_iff.1 h.2
    have h3 := valL_lt t h.1
    have h4 : 10 ^ t.length ≤ 10 ^ 17 := Nat.pow_le_pow_right (by decide) (by omega)
    rw [numW_snoc, valL_snoc, h1]
    unfold wrap64
    omega
theorem numV_val {l : List UInt8} (h : l.all digB = true) (hl : l.length ≤ 18) : numV l = (valL l : Int) := by
  unfold numV; rw [if_pos h]; exact numW_val l h hl
theorem numV_bad {l : List UInt8} (h : l.all digB = false) : numV l = 0 := by unfold numV; rw [if_neg (by rw [h]; decide)]

set_option maxRecDepth 100000 in
set_option maxHeartbeats 1000000 in
theorem number_c (l : List UInt8) (hl : l.length ≤ 9223372036854775807) (w : World) :
    Calls Tryd.prog 75 #[str l] w fun e w' => e = .returned (.tuple #[.int .i64 (numV l), .bool (l.all digB)]) ∧ w' = w := by
  have hsz := size_str l
  go_enter Tryd.func75, Tryd.ntmps75
  go_wp2
  go_loopw [4, 8] (fun n i wr => ∃ k : Nat, k ≤ l.length ∧ i = .int .i64 k ∧ n = .int .i64 (numW (l.take k)) ∧ (l.take k).all digB = true ∧ wr = w) (fun _ i _ => l.length - (intOf i).toNat)
  case atStart => exact ⟨0, Nat.zero_le _, rfl, rfl, rfl, rfl⟩
  case round =>
    obtain ⟨k, hk, rfl, rfl, hall, rfl⟩ := hrel
    by_cases hlt : k < l.length
    · have hs := take_snoc l k hlt
      have hb := l[k].toNat_lt
      obtain ⟨c, hc⟩ : ∃ c, l[k] = c := ⟨_, rfl⟩
      have hg : ∀ h, (ByteArray.mk l.toArray)[k]'h = c := fun h => by rw [get_str, hc]
      rw [hc] at hs hb
      have i0 : (0 : Int) ≤ (k : Int) := by omega
      have i1 : (k : Int) < (l.length : Int) := by omega
      by_cases h1 : 48 ≤ c.toNat
      · have j1 : (48 : Int) ≤ (c.toNat : Int) := by omega
        by_cases h2 : c.toNat ≤ 57
        · have j2 : (c.toNat : Int) ≤ 57 := by omega
          have Hs := Lib.hid hs
          have hd : digB c = true := digB_iff.2 ⟨h1, h2⟩
          have Hd := Lib.hid hd
          have Hall := Lib.hid hall
          clear hs hd hall
          go_wp2
          go_roundw
          case rel => exact ⟨k + 1, by omega, by go_num, by rw [Hs.out, numW_snoc], by rw [Hs.out, List.all_append, Hall.out]; simp [Hd.out]⟩
          case measure => simp [intOf]; omega
        · have j2 : ¬ (c.toNat : Int) ≤ 57 := by omega
          have hbad : l.all digB = false := by
            rw [List.all_eq_false]
            exact ⟨c, hc ▸ List.getElem_mem _, by rw [digB_iff]; omega⟩
          have Hb := Lib.hid hbad
          clear hs hall hbad
          go_wp2
          go_ret2
          exact ⟨by rw [numV_bad Hb.out, Hb.out]; rfl, rfl⟩
      · have j1 : ¬ (48 : Int) ≤ (c.toNat : Int) := by omega
        have hbad : l.all digB = false := by
          rw [List.all_eq_false]
          exact ⟨c, hc ▸ List.getElem_mem _, by rw [digB_iff]; omega⟩
        have Hb := Lib.hid hbad
        clear hs hall hbad
        go_wp2
        go_ret2
        exact ⟨by rw [numV_bad Hb.out, Hb.out]; rfl, rfl⟩
    · have hkl : k = l.length := by omega
      subst hkl
      rw [List.take_length] at hall
      have hd : decide (l.length < l.length) = false := by simp
      go_wp2
      go_ret2
      exact ⟨by rw [List.take_length]; unfold numV; rw [if_pos hall, hall]; rfl, rfl⟩
end Go.Proofs.YtpfnmjcomdckgaaDoor
