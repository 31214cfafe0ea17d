/-
  The reference's IsText, isTag, control, letter, sign.
-/
import Derived.Test.YtpfnmjcomdckgaaDoorRCh
namespace Go.Proofs.YtpfnmjcomdckgaaDoor
open Go.RowKit Go.Shelf
set_option linter.unusedVariables false
set_option linter.unusedSimpArgs false

theorem nextC_left {s t : Ch} {c : UInt8} (h : nextC s c = some t) (hl : s.left ≤ 3) : t.left ≤ 3 := by
  unfold nextC at h
  repeat' split at h
  all_goals (cases h <;> (simp only; omega))
theorem left_bool (s : Ch) : Ending.returned (.bool ((s.left : Int) == 0)) = .returned (.bool (endC (some s))) := by
  show _ = Ending.returned (Value.bool (s.left == 0))
  congr 2
  rw [Bool.eq_iff_iff, beq_iff_eq, beq_iff_eq]
  omega
theorem sees_lt {bs : List UInt8} {k : Nat} (h : k < bs.length) : bs.drop k = bs[k] :: bs.drop (k + 1) := List.drop_eq_getElem_cons h
set_option maxRecDepth 100000 in
set_option maxHeartbeats 4000000 in
theorem rText_c (l : List UInt8) (hl : l.length ≤ 1099511627776) (w : World) :
    Calls Tryd.prog 83 #[str l] w fun e w' => e = .returned (.bool (endC (runC ⟨0, 0, 0⟩ l))) ∧ Below w.heap.size w w' := by
  have hsz := size_str l
  obtain ⟨R, hR⟩ : ∃ R, runC ⟨0, 0, 0⟩ l = R := ⟨_, rfl⟩
  rw [hR]
  have HR := Lib.hid hR
  clear hR
  have hch : ChAt (w.alloc (.cells #[.int .i64 0, .int .i64 0, .int .i64 0] 125)) w.heap.size ⟨0, 0, 0⟩ := new_at _ _
  have hb0 := below_new w (.cells #[.int .i64 0, .int .i64 0, .int .i64 0] 125)
  have Hch := Lib.hid hch
  have Hb0 := Lib.hid hb0
  clear hch hb0
  go_enter Tryd.func83, Tryd.ntmps83
  go_wp2
  go_loopw [4] (fun i wr => ∃ (k : Nat) (s : Ch), k ≤ l.length ∧ i = .int .i64 k ∧ ChAt wr w.heap.size s ∧ s.left ≤ 3 ∧ R = runC s (l.drop k) ∧ Below w.heap.size w wr) (fun i _ => l.length - (intOf i).toNat)
  case atStart => exact ⟨0, ⟨0, 0, 0⟩, Nat.zero_le _, rfl, Hch.out, by decide, by rw [List.drop_zero]; exact HR.out.symm, Hb0.out⟩
  case round =>
    obtain ⟨k, s, hk, rfl, hch, hsl, hrun, hb⟩ := hrel
    clear Hch Hb0 HR
    by_cases hlt : k < l.length
    · have hdr := sees_lt hlt
      have i0 : (0 : Int) ≤ (k : Int) := by omega
      have i1 : (k : Int) < (l.length : Int) := by omega
      have hg := get_str l k (by rw [hsz]; exact hlt)
      obtain ⟨c, hc⟩ : ∃ c, l[k] = c := ⟨_, rfl⟩
      rw [hc] at hg hdr
      rw [hdr] at hrun
      have N := next_c w.heap.size s c wr hch hsl
      unfold NextPost at N
      cases hn : nextC s c with
      | none =>
        rw [hn] at N
        have N := Lib.hid N
        have hR2 : R = none := by rw [hrun, runC_none _ hn]
        have HR2 := Lib.hid hR2
        have Hb := Lib.hid hb
        have hlt' := lt_at hch
        clear hR2 hrun hn hdr hc hch hb
        go_wp2_with fail
        refine N.out.mono ?_
        rintro e w5 ⟨hg5, rfl⟩
        have Hb5 := Lib.hid (Hb.out.grown hg5 Hb.out.size (fun j hj => by cases hj; exact Nat.le_refl _))
        clear hg5
        go_wp2
        go_ret
        exact ⟨by rw [HR2.out]; rfl, Hb5.out⟩
      | some t =>
        rw [hn] at N
        have N := Lib.hid N
        have hR2 : R = runC t (l.drop (k + 1)) := by rw [hrun, runC_some _ hn]
        have HR2 := Lib.hid hR2
        have Hb := Lib.hid hb
        have htl := nextC_left hn hsl
        have hlt' := lt_at hch
        clear hR2 hrun hn hdr hc hch hb
        go_wp2_with fail
        refine N.out.mono ?_
        rintro e w5 ⟨hg5, rfl, ht⟩
        have Hb5 := Lib.hid (Hb.out.grown hg5 Hb.out.size (fun j hj => by cases hj; exact Nat.le_refl _))
        have Ht := Lib.hid ht
        clear hg5 ht
        go_wp2
        go_roundw
        case rel => exact ⟨k + 1, t, by omega, by go_num, Ht.out, htl, HR2.out, Hb5.out⟩
        case measure => simp [intOf]; omega
    · have hkn : k = l.length := by omega
      subst hkn
      have hR2 : R = some s := by rw [hrun, List.drop_length]; rfl
      obtain ⟨c0, c1, c2, -, -, -⟩ := hch.cells
      have HR2 := Lib.hid hR2
      have Hb := Lib.hid hb
      have hd2 : decide (l.length < l.length) = false := by simp
      clear hR2 hrun hch hb
      go_wp2
      go_ret
      exact ⟨by rw [HR2.out]; exact left_bool s, Hb.out⟩
theorem ret_bool {a b : Bool} (h : a = b) : Ending.returned (.bool a) = .returned (.bool b) := by rw [h]
theorem rLetter_c (c : UInt8) (w : World) : Calls Tryd.prog 63 #[.int .u8 (c.toNat : Int)] w fun e w' => e = .returned (.bool (lowB c)) ∧ w' = w := by
  have hc := c.toNat_lt
  unfold lowB
  by_cases h1 : 97 ≤ c.toNat
  · by_cases h2 : c.toNat ≤ 122
    all_goals
      rw [decide_eq_true h1]
      first | rw [decide_eq_true h2] | rw [decide_eq_false h2]
      go_enter Tryd.func63, Tryd.ntmps63
      go_wp2
      go_ret
      exact ⟨ret_bool (by simp; omega), rfl⟩
  · rw [decide_eq_false h1]
    go_enter Tryd.func63, Tryd.ntmps63
    go_wp2
    go_ret
    exact ⟨rfl, rfl⟩
theorem rDigit_c (c : UInt8) (w : World) : Calls Tryd.prog 88 #[.int .u8 (c.toNat : Int)] w fun e w' => e = .returned (.bool (digB c)) ∧ w' = w := by
  have hc := c.toNat_lt
  unfold digB
  by_cases h1 : 48 ≤ c.toNat
  · by_cases h2 : c.toNat ≤ 57
    all_goals
      rw [decide_eq_true h1]
      first | rw [decide_eq_true h2] | rw [decide_eq_false h2]
      go_enter Tryd.func88, Tryd.ntmps88
      go_wp2
      go_ret
      exact ⟨ret_bool (by simp; omega), rfl⟩
  · rw [decide_eq_false h1]
    go_enter Tryd.func88, Tryd.ntmps88
    go_wp2
    go_ret
    exact ⟨rfl, rfl⟩
set_option maxRecDepth 100000 in
theorem rSign_c (c : UInt8) (w : World) : Calls Tryd.prog 84 #[.int .u8 (c.toNat : Int)] w fun e w' => e = .returned (.bool (signB c)) ∧ w' = w := by
  have hc := c.toNat_lt
  unfold signB
  by_cases h1 : 32 < c.toNat
  · have h1' : 33 ≤ c.toNat := h1
    by_cases h2 : c.toNat < 127
    · have h2' : c.toNat ≤ 126 := by omega
      rw [decide_eq_true h1', decide_eq_true h2']
      go_enter Tryd.func84, Tryd.ntmps84
      go_wp2
      go_ret
      exact ⟨ret_bool (by simp; omega), rfl⟩
    · have h2' : ¬ c.toNat ≤ 126 := by omega
      rw [decide_eq_true h1', decide_eq_false h2']
      go_enter Tryd.func84, Tryd.ntmps84
      go_wp2
      go_ret
      exact ⟨ret_bool (by simp; omega), rfl⟩
  · have h1' : ¬ 33 ≤ c.toNat := by omega
    rw [decide_eq_false h1']
    go_enter Tryd.func84, Tryd.ntmps84
    go_wp2
    go_ret
    exact ⟨rfl, rfl⟩
theorem rControl_c (t : List UInt8) (h : 2 ≤ t.length) (hm : t.length ≤ 9223372036854775807) (w : World) : Calls Tryd.prog 34 #[str t] w fun e w' => e = .returned (.bool (ctlB t)) ∧ w' = w := by
  have hsz := size_str t
  have hex := ext_take t 2
  unfold ctlB
  obtain ⟨u, hu⟩ : ∃ u, t.take 2 = u := ⟨_, rfl⟩
  rw [hu] at hex ⊢
  clear hu
  have i2 : (2 : Int) ≤ (t.length : Int) := by omega
  go_enter Tryd.func34, Tryd.ntmps34
  go_wp2
  go_ret
  exact ⟨rfl, rfl⟩
set_option maxRecDepth 100000 in
set_option maxHeartbeats 4000000 in
theorem rTag_c (t : List UInt8) (hm : t.length ≤ 9223372036854775807) (w : World) : Calls Tryd.prog 73 #[str t] w fun e w' => e = .returned (.bool (tagB t)) ∧ w' = w := by
  by_cases h3 : t.length = 3
  case neg =>
    have hsz := size_str t
    have i3 : ((t.length : Int) == 3) = false := by rw [beq_eq_false_iff_ne]; omega
    have ht : tagB t = false := by unfold tagB; simp [h3]
    rw [ht]
    clear ht h3
    go_enter Tryd.func73, Tryd.ntmps73
    go_wp2
    go_ret
    exact ⟨rfl, rfl⟩
  match t, h3 with
  | [a, b, c], _ =>
    have D1 := Lib.hid (rDigit_c a w)
    have D2 := Lib.hid (rDigit_c b w)
    have D3 := Lib.hid (rDigit_c c w)
    have ht : tagB [a, b, c] = (digB a && digB b && digB c && ([a, b, c] != [48, 48, 48])) := by unfold tagB; simp [Bool.and_assoc]
    rw [ht]
    clear ht
    have g0 := get_str [a, b, c] 0 (by rw [size_str]; simp)
    have g1 := get_str [a, b, c] 1 (by rw [size_str]; simp)
    have g2 := get_str [a, b, c] 2 (by rw [size_str]; simp)
    cases ha : digB a with
    | false =>
      rw [ha] at D1
      go_enter Tryd.func73, Tryd.ntmps73
      go_wp2_with fail
      refine D1.out.mono ?_
      rintro e w1 ⟨rfl, rfl⟩
      go_wp2
      go_ret
      exact ⟨rfl, rfl⟩
    | true =>
      rw [ha] at D1
      cases hb : digB b with
      | false =>
        rw [hb] at D2
        go_enter Tryd.func73, Tryd.ntmps73
        go_wp2_with fail
        refine D1.out.mono ?_
        rintro e w1 ⟨rfl, rfl⟩
        go_wp2_with fail
        refine D2.out.mono ?_
        rintro e w1 ⟨rfl, rfl⟩
        go_wp2
        go_ret
        exact ⟨rfl, rfl⟩
      | true =>
        rw [hb] at D2
        cases hcc : digB c with
        | false =>
          rw [hcc] at D3
          go_enter Tryd.func73, Tryd.ntmps73
          go_wp2_with fail
          refine D1.out.mono ?_
          rintro e w1 ⟨rfl, rfl⟩
          go_wp2_with fail
          refine D2.out.mono ?_
          rintro e w1 ⟨rfl, rfl⟩
          go_wp2_with fail
          refine D3.out.mono ?_
          rintro e w1 ⟨rfl, rfl⟩
          go_wp2
          go_ret
          exact ⟨rfl, rfl⟩
        | true =>
          rw [hcc] at D3
          obtain ⟨v, hv⟩ : ∃ v, ([a, b, c] != [48, 48, 48]) = v := ⟨_, rfl⟩
          have Hv := Lib.hid hv
          rw [hv]
          clear hv
          go_enter Tryd.func73, Tryd.ntmps73
          go_wp2_with fail
          refine D1.out.mono ?_
          rintro e w1 ⟨rfl, rfl⟩
          go_wp2_with fail
          refine D2.out.mono ?_
          rintro e w1 ⟨rfl, rfl⟩
          go_wp2_with fail
          refine D3.out.mono ?_
          rintro e w1 ⟨rfl, rfl⟩
          go_wp2
          go_ret
          refine ⟨ret_bool ?_, rfl⟩
          rw [← Hv.out]
          have he : ([a, b, c] != [48, 48, 48]) = !(a == 48 && (b == 48 && (c == 48 && true))) := rfl
          rw [he]
          cases (a == 48) <;> cases (b == 48) <;> cases (c == 48) <;> rfl
end Go.Proofs.YtpfnmjcomdckgaaDoor
