/-
  marc.isRightField.
-/
import Derived.Test.YtpfnmjcomdckgaaDoorRRight
namespace Go.Proofs.YtpfnmjcomdckgaaDoor
open Go.RowKit Go.Shelf
set_option linter.unusedVariables false
set_option linter.unusedSimpArgs false

theorem indB_iff {b : UInt8} : indB b = true ↔ 32 ≤ b.toNat ∧ b.toNat ≤ 126 := by unfold indB; simp
theorem signB_iff {b : UInt8} : signB b = true ↔ 33 ≤ b.toNat ∧ b.toNat ≤ 126 := by unfold signB; simp
set_option maxRecDepth 100000 in
theorem isIndicator_c (b : UInt8) (w : World) :
    Calls Tryd.prog 79 #[.int .u8 (b.toNat : Int)] w fun e w' => e = .returned (.bool (indB b)) ∧ w' = w := by
  by_cases h1 : 32 ≤ b.toNat
  · have j1 : (32 : Int) ≤ (b.toNat : Int) := by omega
    by_cases h2 : b.toNat ≤ 126
    · have j2 : (b.toNat : Int) ≤ 126 := by omega
      rw [indB_iff.2 ⟨h1, h2⟩]
      go_enter Tryd.func79, Tryd.ntmps79
      go_wp2
      go_ret
      exact ⟨rfl, rfl⟩
    · have j2 : ¬ (b.toNat : Int) ≤ 126 := by omega
      rw [show indB b = false by rw [Bool.eq_false_iff, ne_eq, indB_iff]; omega]
      go_enter Tryd.func79, Tryd.ntmps79
      go_wp2
      go_ret
      exact ⟨rfl, rfl⟩
  · have j1 : ¬ (32 : Int) ≤ (b.toNat : Int) := by omega
    rw [show indB b = false by rw [Bool.eq_false_iff, ne_eq, indB_iff]; omega]
    go_enter Tryd.func79, Tryd.ntmps79
    go_wp2
    go_ret
    exact ⟨rfl, rfl⟩
set_option maxRecDepth 100000 in
theorem isSign_c (b : UInt8) (w : World) :
    Calls Tryd.prog 80 #[.int .u8 (b.toNat : Int)] w fun e w' => e = .returned (.bool (signB b)) ∧ w' = w := by
  by_cases h1 : 33 ≤ b.toNat
  · have j1 : (33 : Int) ≤ (b.toNat : Int) := by omega
    by_cases h2 : b.toNat ≤ 126
    · have j2 : (b.toNat : Int) ≤ 126 := by omega
      rw [signB_iff.2 ⟨h1, h2⟩]
      go_enter Tryd.func80, Tryd.ntmps80
      go_wp2
      go_ret
      exact ⟨rfl, rfl⟩
    · have j2 : ¬ (b.toNat : Int) ≤ 126 := by omega
      rw [show signB b = false by rw [Bool.eq_false_iff, ne_eq, signB_iff]; omega]
      go_enter Tryd.func80, Tryd.ntmps80
      go_wp2
      go_ret
      exact ⟨rfl, rfl⟩
  · have j1 : ¬ (33 : Int) ≤ (b.toNat : Int) := by omega
    rw [show signB b = false by rw [Bool.eq_false_iff, ne_eq, signB_iff]; omega]
    go_enter Tryd.func80, Tryd.ntmps80
    go_wp2
    go_ret
    exact ⟨rfl, rfl⟩

def RF (f : FldM) (w : World) (e : Ending) (w' : World) : Prop := e = .returned (.bool (fieldB f)) ∧ Below w.heap.size w w'
set_option maxRecDepth 100000 in
set_option maxHeartbeats 2000000 in
theorem isRightField_ctl (tag ind data : List UInt8) (subs : List SubM) (a : Option Addr) (cap : Nat) (w : World) (hd : data.length ≤ 1099511627776) (hm : subs.length ≤ maxLen) (hc : ctlB tag = true) :
    Calls Tryd.prog 56 #[.agg #[str tag, str ind, str data, .slice a subs.length cap]] w (RF ⟨tag, ind, data, subs⟩ w) := by
  obtain ⟨W3, hW3⟩ : ∃ W3, w.alloc (.cells #[str tag, str ind, str data, .slice a subs.length cap] 62) = W3 := ⟨_, rfl⟩
  have hb3 : Below w.heap.size w W3 := by rw [← hW3]; exact below_new w _
  have hn3 := new_at w (.cells #[str tag, str ind, str data, .slice a subs.length cap] 62)
  rw [hW3] at hn3
  have g0 : W3.cell? ⟨w.heap.size, 0, none⟩ = some (str tag) := by rw [cell_at hn3]; rfl
  have g1 : W3.cell? ⟨w.heap.size, 1, none⟩ = some (str ind) := by rw [cell_at hn3]; rfl
  have g2 : W3.cell? ⟨w.heap.size, 2, none⟩ = some (str data) := by rw [cell_at hn3]; rfl
  have g3 : W3.cell? ⟨w.heap.size, 3, none⟩ = some (.slice a subs.length cap) := by rw [cell_at hn3]; rfl
  have Hb3 := Lib.hid hb3
  have N0 := Lib.hid (isControl_c tag W3)
  rw [hc] at N0
  unfold maxLen at hm
  have hfb : fieldB ⟨tag, ind, data, subs⟩ = (ind.isEmpty && subs.isEmpty && textB data) := by unfold fieldB; rw [if_pos hc]
  unfold RF
  rw [hfb]
  clear hb3 hn3 hfb
  by_cases hi : ind = []
  · subst hi
    by_cases hs : subs = []
    · have hz : ((subs.length : Int) == 0) = true := by rw [hs]; rfl
      have he : subs.isEmpty = true := by rw [hs]; rfl
      rw [he]
      clear hs he
      have N1 := Lib.hid (isText_c data hd W3)
      go_enter Tryd.func56, Tryd.ntmps56
      go_wp2_with fail
      refine N0.out.mono ?_
      rintro e w4 ⟨rfl, rfl⟩
      go_wp2_with fail
      refine N1.out.mono ?_
      rintro e w5 ⟨rfl, hb5⟩
      have Hb5 := Lib.hid (below_tr Hb3.out hb5)
      clear hb5
      go_wp2
      go_ret
      exact ⟨rfl, Hb5.out⟩
    · have hz : ((subs.length : Int) == 0) = false := by rw [beq_eq_false_iff_ne]; have := List.length_pos_iff.2 hs; omega
      have he : subs.isEmpty = false := by simpa using hs
      rw [he]
      clear hs he
      go_enter Tryd.func56, Tryd.ntmps56
      go_wp2_with fail
      refine N0.out.mono ?_
      rintro e w4 ⟨rfl, rfl⟩
      go_wp2
      go_ret
      exact ⟨by simp, Hb3.out⟩
  · have hz : (ind == []) = false := by simpa using hi
    have he : ind.isEmpty = false := by simpa using hi
    rw [he]
    clear hi he
    go_enter Tryd.func56, Tryd.ntmps56
    go_wp2_with fail
    refine N0.out.mono ?_
    rintro e w4 ⟨rfl, rfl⟩
    go_wp2
    go_ret
    exact ⟨by simp, Hb3.out⟩
end Go.Proofs.YtpfnmjcomdckgaaDoor
