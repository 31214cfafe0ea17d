/-
  The law file's valid: a string is a text.
-/
import Derived.Test.YtpfnmjcomdckgaaDoorRText
namespace Go.Proofs.YtpfnmjcomdckgaaDoor
open Go.RowKit Go.Shelf
set_option linter.unusedVariables false
set_option linter.unusedSimpArgs false

theorem bad_text {l : List UInt8} (h : textLen l < l.length) : textB l = false := by
  unfold textB
  rw [beq_eq_false_iff_ne]
  omega
set_option maxRecDepth 100000 in
set_option maxHeartbeats 1000000 in
theorem valid_c (l : List UInt8) (hl : l.length ≤ 1099511627776) (w : World) :
    Calls Tryd.prog 30 #[str l] w fun e w' => e = .returned (.bool (textB l)) ∧ Below w.heap.size w w' := by
  have hsz := size_str l
  have hnew : ((w.iter ⟨l.toArray⟩ 0).heap[w.heap.size]?) = some (.stringIter ⟨l.toArray⟩ 0) := by
    show (w.heap.push _)[w.heap.size]? = _
    simp
  have hb0 : Below w.heap.size w (w.iter ⟨l.toArray⟩ 0) := below_new _ _
  have Hnew := Lib.hid hnew
  have Hb0 := Lib.hid hb0
  clear hnew hb0
  go_enter Tryd.func30, Tryd.ntmps30
  go_wp2
  go_loopw [7] (fun _ wr => ∃ (pos fuel : Nat), wr.heap[w.heap.size]? = some (.stringIter ⟨l.toArray⟩ pos) ∧ pos ≤ l.length ∧ l.length ≤ pos + fuel ∧ textLen l = pos + lenT fuel (l.drop pos) ∧ Below w.heap.size w wr) (fun _ wr => l.length - wr.iterPos w.heap.size)
  case atStart => exact ⟨0, l.length, Hnew.out, Nat.zero_le _, by omega, by simp [textLen], Hb0.out⟩
  case round =>
    obtain ⟨pos, fuel, hit, hpl, hfu, htl, hb⟩ := hrel
    by_cases hpos : pos < l.length
    · obtain ⟨f, rfl⟩ : ∃ f, fuel = f + 1 := ⟨fuel - 1, by omega⟩
      have hp' : pos < (ByteArray.mk l.toArray).size := by rw [hsz]; exact hpos
      have hnx := Lib.run_next_any_at (P := Tryd.prog) wr w.heap.size ⟨l.toArray⟩ pos 0 hit hp'
      rw [decode_list] at hnx
      have hne : l.drop pos ≠ [] := by intro e; have := congrArg List.length e; simp at this; omega
      have hw1 := dec_pos (l.drop pos)
      have hw2 := dec_le (l.drop pos) hne
      rw [List.length_drop] at hw2
      have hgo := lenT_go f (l.drop pos) hne
      have hstop := lenT_stop (f + 1) (l.drop pos)
      rw [List.drop_drop] at hgo
      unfold stopB at hgo hstop
      obtain ⟨R, hR⟩ : ∃ R, (dec (l.drop pos)).1 = R := ⟨_, rfl⟩
      obtain ⟨S, hS⟩ : ∃ S, (dec (l.drop pos)).2 = S := ⟨_, rfl⟩
      rw [hR, hS] at hnx
      rw [hR] at hgo hstop hw1
      rw [hS] at hgo hw1 hw2
      have hit2 := Lib.iterAt_heap wr w.heap.size ⟨l.toArray⟩ pos (pos + S) hit
      have hbi : Below w.heap.size w (wr.iterAt w.heap.size ⟨l.toArray⟩ (pos + S)) := by
        exact hb.trans ⟨rfl, rfl, rfl, by rw [Lib.iterAt_size]; exact Nat.le_refl _, fun i hi => Lib.iterAt_other wr w.heap.size i ⟨l.toArray⟩ (pos + S) (by omega)⟩
      have hmz : l.length - (wr.iterAt w.heap.size ⟨l.toArray⟩ (pos + S)).iterPos w.heap.size < l.length - wr.iterPos w.heap.size := by
        have e1 : (wr.iterAt w.heap.size ⟨l.toArray⟩ (pos + S)).iterPos w.heap.size = pos + S := by unfold World.iterPos; rw [hit2]
        have e2 : wr.iterPos w.heap.size = pos := by unfold World.iterPos; rw [hit]
        rw [e1, e2]; omega
      have Hbi := Lib.hid hbi
      have Hit2 := Lib.hid hit2
      have Hmz := Lib.hid hmz
      have Hgo := Lib.hid hgo
      have Hstop := Lib.hid hstop
      have Htl := Lib.hid htl
      have hex := ext_drop l pos
      have i0 : (0 : Int) ≤ (pos : Int) := by omega
      have i1 : (pos : Int) ≤ (l.length : Int) := by omega
      obtain ⟨r, hr⟩ : ∃ r, l.drop pos = r := ⟨_, rfl⟩
      rw [hr] at hex
      have Hr := Lib.hid hr
      clear hbi hit2 hmz hgo hstop htl hR hS hne hr hb
      by_cases h32 : R < 32
      · have j32 : (R : Int) < 32 := by omega
        go_wp2
        go_ret
        exact ⟨by rw [bad_text (by rw [Htl.out, Hstop.out (by simp [h32])]; omega)]; rfl, Hbi.out⟩
      · have j32 : ¬ (R : Int) < 32 := by omega
        by_cases hE : R = 65533
        · have jE : ((R : Int) == 65533) = true := by rw [hE]; rfl
          have hrl : r.length = l.length - pos := by rw [← Hr.out, List.length_drop]
          by_cases h3 : l.length < pos + 3
          · have j3 : (l.length : Int) < (pos : Int) + 3 := by omega
            have hq : (r.take 3 == [239, 191, 189]) = false := by
              rw [beq_eq_false_iff_ne]
              intro h
              have := congrArg List.length h
              simp at this
              omega
            have Hq := Lib.hid hq
            clear hq
            go_wp2
            go_ret
            exact ⟨by rw [bad_text (by rw [Htl.out, Hstop.out (by rw [Hr.out, Hq.out]; simp [hE])]; omega)]; rfl, Hbi.out⟩
          · have j3 : ¬ (l.length : Int) < (pos : Int) + 3 := by omega
            have j4 : (pos : Int) + 3 ≤ (l.length : Int) := by omega
            have j5 : (pos : Int) ≤ (pos : Int) + 3 := by omega
            have j6 : (0 : Int) ≤ (pos : Int) + 3 := by omega
            have j7 : ((pos : Int) + 3).toNat = pos + 3 := by omega
            have hmid := ext_mid l pos (pos + 3)
            rw [Hr.out, show pos + 3 - pos = 3 by omega] at hmid
            cases hq : (r.take 3 == [239, 191, 189]) with
            | true =>
              have hq2 : r.take 3 = [239, 191, 189] := by simpa using hq
              rw [hq2] at hmid
              have Hq := Lib.hid hq
              clear hq hq2
              go_wp2
              go_roundw
              case rel => exact ⟨pos + S, f, Hit2.out, by omega, by omega, by rw [Htl.out, Hgo.out (by rw [Hr.out, Hq.out]; simp [h32])]; omega, Hbi.out⟩
              case measure => exact Hmz.out
            | false =>
              have hq2 : ¬ r.take 3 = [239, 191, 189] := by simpa using hq
              have Hq := Lib.hid hq
              have hq3 : ¬ (ByteArray.mk (r.take 3).toArray = ByteArray.mk #[239, 191, 189]) := by
                intro h
                exact hq2 (by simpa using congrArg (fun b : ByteArray => b.data.toList) h)
              go_wp2
              go_ret
              exact ⟨by rw [bad_text (by rw [Htl.out, Hstop.out (by rw [Hr.out, Hq.out]; simp [hE])]; omega)]; rfl, Hbi.out⟩
        · have jE : ((R : Int) == 65533) = false := by rw [beq_eq_false_iff_ne]; omega
          go_wp2
          go_roundw
          case rel => exact ⟨pos + S, f, Hit2.out, by omega, by omega, by rw [Htl.out, Hgo.out (by simp [h32, hE])]; omega, Hbi.out⟩
          case measure => exact Hmz.out
    · have hd : ¬ pos < (ByteArray.mk l.toArray).size := by rw [hsz]; exact hpos
      have hnx := Lib.run_next_end_at (P := Tryd.prog) wr w.heap.size ⟨l.toArray⟩ pos 0 hit hd
      have hT : textB l = true := by
        unfold textB
        rw [beq_iff_eq, htl, List.drop_eq_nil_of_le (by omega), lenT_nil]; omega
      have HT := Lib.hid hT
      have Hb := Lib.hid hb
      clear htl hit hd hT hb
      go_wp2
      go_ret
      exact ⟨by rw [HT.out]; rfl, Hb.out⟩
end Go.Proofs.YtpfnmjcomdckgaaDoor
