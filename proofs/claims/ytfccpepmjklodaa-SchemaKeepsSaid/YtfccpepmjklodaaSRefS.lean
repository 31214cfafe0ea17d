/-
  The reference's has and matches.
-/
import Derived.Test.YtfccpepmjklodaaSMatch
namespace Go.Proofs.Ytfccpepmjklodaa
open Go.RowKit Go.Shelf
set_option linter.unusedVariables false
set_option linter.unusedSimpArgs false

set_option maxHeartbeats 4000000 in
theorem rHas_c (s : List UInt8) (b : UInt8) (hs : s.length ≤ 140737488355328) (w : World) : Calls Try.prog 35 #[str s, .int .u8 (b.toNat : Int)] w fun e w' => e = .returned (.bool (hasB s b)) ∧ w' = w := by
  have ss := size_str s
  go_enter Try.func35, Try.ntmps35
  go_wp2_with fail
  go_loopw [5] (fun iv wr => ∃ i : Nat, i ≤ s.length ∧ iv = .int .i64 i ∧ (∀ j, j < i → s.getD j 0 ≠ b) ∧ wr = w) (fun iv _ => s.length - (intOf iv).toNat)
  case atStart => exact ⟨0, Nat.zero_le _, rfl, fun j hj => absurd hj (Nat.not_lt_zero j), rfl⟩
  case round =>
    obtain ⟨i, hi, rfl, hall, rfl⟩ := hrel
    have Hall := Lib.hid hall
    clear hall
    by_cases hlt : i < s.length
    · have i0 : (0 : Int) ≤ (i : Int) := by omega
      have i1 : (i : Int) < (s.length : Int) := by omega
      obtain ⟨a, ha⟩ : ∃ a, s.getD i 0 = a := ⟨_, rfl⟩
      have g1 : ∀ h, (ByteArray.mk s.toArray)[i]'h = a := fun h => by rw [get_str, getD_at s i hlt, ha]
      have Ha := Lib.hid ha
      have Hlt := Lib.hid hlt
      clear ha hlt
      by_cases hab : a = b
      · have e1 : ((a.toNat : Int) == (b.toNat : Int)) = true := by rw [beq_iff_eq, hab]
        have Hr := Lib.hid (show hasB s b = true from hasB_iff.2 (by rw [← hab, ← Ha.out, ← getD_at s i Hlt.out]; exact List.getElem_mem _))
        clear hab
        go_wp2
        go_ret
        exact ⟨by rw [Hr.out]; rfl, rfl⟩
      · have e1 : ((a.toNat : Int) == (b.toNat : Int)) = false := by
          rw [beq_eq_false_iff_ne]
          intro h
          exact hab (UInt8.toNat_inj.1 (by omega))
        have hnew : ∀ j, j < i + 1 → s.getD j 0 ≠ b := by
          intro j hj
          rcases Nat.lt_or_ge j i with h | h
          · exact Hall.out j h
          · obtain rfl : j = i := by omega
            rw [Ha.out]; exact hab
        have Hnew := Lib.hid hnew
        clear hnew hab
        go_wp2
        go_roundw
        case rel => exact ⟨i + 1, by have := Hlt.out; omega, by go_num, Hnew.out, trivial⟩
        case measure => have := Hlt.out; simp [intOf]; omega
    · have i1 : ¬ (i : Int) < (s.length : Int) := by omega
      have hr : hasB s b = false := by
        rw [Bool.eq_false_iff]
        intro h
        obtain ⟨k, hk, he⟩ := List.mem_iff_getElem.1 (hasB_iff.1 h)
        exact Hall.out k (by omega) (by rw [← getD_at s k hk, he])
      have Hr := Lib.hid hr
      clear hr hlt
      go_wp2
      go_ret
      exact ⟨by rw [Hr.out]; rfl, rfl⟩
set_option maxRecDepth 100000 in
set_option maxHeartbeats 4000000 in
theorem rMatches_c (r t : List UInt8) (ht : t.length ≤ 140737488355328) (hr : r.length ≤ 140737488355328) (w : World) : Calls Try.prog 29 #[str r, str t] w (QB (matchB t r) w) := by
  have st := size_str t
  have sr := size_str r
  unfold QB
  by_cases hl : t.length = r.length
  case neg =>
    rw [matchB_len hl]
    have hl' : ((r.length : Int) != (t.length : Int)) = true := by rw [bne_iff_ne]; omega
    clear hl
    go_enter Try.func29, Try.ntmps29
    go_wp2
    go_ret
    exact ⟨rfl, 0, rfl⟩
  have hl' : ((r.length : Int) != (t.length : Int)) = false := by rw [bne_eq_false_iff_eq]; omega
  have Hl := Lib.hid hl
  clear hl
  go_enter Try.func29, Try.ntmps29
  go_wp2_with fail
  go_loopw [5, 6] (fun iv v6 wr => ∃ i n : Nat, i ≤ t.length ∧ iv = .int .i64 i ∧ (∀ j, j < i → okAt t r j = true) ∧ wr = w.drewN n) (fun iv _ _ => t.length - (intOf iv).toNat)
  case atStart => exact ⟨0, 0, Nat.zero_le _, rfl, fun j hj => absurd hj (Nat.not_lt_zero j), rfl⟩
  case round =>
    obtain ⟨i, n, hi, rfl, hall, hwr⟩ := hrel
    have Hwr := Lib.hid hwr
    clear hwr
    by_cases hlt : i < t.length
    · have hltr : i < r.length := by rw [← Hl.out]; exact hlt
      have i0 : (0 : Int) ≤ (i : Int) := by omega
      have i1 : (i : Int) < (t.length : Int) := by omega
      have i2 : (i : Int) < (r.length : Int) := by omega
      obtain ⟨a, ha⟩ : ∃ a, t.getD i 0 = a := ⟨_, rfl⟩
      obtain ⟨b, hb⟩ : ∃ b, r.getD i 0 = b := ⟨_, rfl⟩
      have g1 : ∀ h, (ByteArray.mk t.toArray)[i]'h = a := fun h => by rw [get_str, getD_at t i hlt, ha]
      have g2 : ∀ h, (ByteArray.mk r.toArray)[i]'h = b := fun h => by rw [get_str, getD_at r i hltr, hb]
      have hok : okAt t r i = ((a == b) || ((b == 120) && digB a)) := by unfold okAt; rw [ha, hb]
      have Hall := Lib.hid hall
      have Hok := Lib.hid hok
      have Hlt := Lib.hid hlt
      clear ha hb hok hall hlt hltr
      have hnext : okAt t r i = true → ∀ j, j < i + 1 → okAt t r j = true := by
        intro ho j hj
        rcases Nat.lt_or_ge j i with h | h
        · exact Hall.out j h
        · obtain rfl : j = i := by omega
          exact ho
      have Hnext := Lib.hid hnext
      clear hnext
      -- the digit test's ways
      rcases (show (48 ≤ a.toNat ∧ a.toNat ≤ 57) ∨ (48 ≤ a.toNat ∧ ¬ a.toNat ≤ 57) ∨ ¬ 48 ≤ a.toNat by omega) with ⟨d1, d2⟩ | ⟨d1, d2⟩ | d1
      · have hd : digB a = true := digB_iff.2 ⟨d1, d2⟩
        have Hd := Lib.hid hd
        have j1 : (48 : Int) ≤ (a.toNat : Int) := by omega
        have j2 : (a.toNat : Int) ≤ 57 := by omega
        clear hd d1 d2
        by_cases hab : a = b
        · have e1 : ((a.toNat : Int) != (b.toNat : Int)) = false := by rw [bne_eq_false_iff_eq, hab]
          have Hab := Lib.hid (show (a == b) = true by rw [beq_iff_eq]; exact hab)
          clear hab
          go_wp2_with fail
          go_quiet (fail)
          go_wp2
          go_roundw
          case rel => exact ⟨i + 1, n + nq, by have := Hlt.out; omega, by go_num, Hnext.out (by rw [Hok.out, Hab.out]; rfl), by rw [Hwr.out]; exact drN w n nq⟩
          case measure => have := Hlt.out; simp [intOf]; omega
        have e1 : ((a.toNat : Int) != (b.toNat : Int)) = true := by
          rw [bne_iff_ne]
          intro h
          exact hab (UInt8.toNat_inj.1 (by omega))
        have Hab := Lib.hid (show (a == b) = false by rw [beq_eq_false_iff_ne]; exact hab)
        clear hab
        by_cases hx : b = 120
        · have e2 : ((b.toNat : Int) != 120) = false := by rw [bne_eq_false_iff_eq, hx]; rfl
          have Hx := Lib.hid (show (b == 120) = true by rw [beq_iff_eq]; exact hx)
          clear hx
          go_wp2_with fail
          go_quiet (fail)
          go_wp2
          go_roundw
          case rel => exact ⟨i + 1, n + nq, by have := Hlt.out; omega, by go_num, Hnext.out (by rw [Hok.out, Hab.out, Hx.out, Hd.out]; rfl), by rw [Hwr.out]; exact drN w n nq⟩
          case measure => have := Hlt.out; simp [intOf]; omega
        · have e2 : ((b.toNat : Int) != 120) = true := by
            rw [bne_iff_ne]
            intro h
            exact hx (UInt8.toNat_inj.1 (show b.toNat = 120 by omega))
          have Hx := Lib.hid (show (b == 120) = false by rw [beq_eq_false_iff_ne]; exact hx)
          clear hx
          have Hnew := Lib.hid (show matchB t r = false from matchB_false Hlt.out (by rw [Hok.out, Hab.out, Hx.out]; rfl))
          go_wp2_with fail
          go_quiet (fail)
          go_wp2
          go_ret
          exact ⟨by rw [Hnew.out]; rfl, n + nq, by rw [Hwr.out]; exact drN w n nq⟩
      · have hd : digB a = false := by rw [Bool.eq_false_iff]; intro h; exact d2 (digB_iff.1 h).2
        have Hd := Lib.hid hd
        have j1 : (48 : Int) ≤ (a.toNat : Int) := by omega
        have j2 : ¬ (a.toNat : Int) ≤ 57 := by omega
        clear hd d1 d2
        by_cases hab : a = b
        · have e1 : ((a.toNat : Int) != (b.toNat : Int)) = false := by rw [bne_eq_false_iff_eq, hab]
          have Hab := Lib.hid (show (a == b) = true by rw [beq_iff_eq]; exact hab)
          clear hab
          go_wp2_with fail
          go_quiet (fail)
          go_wp2
          go_roundw
          case rel => exact ⟨i + 1, n + nq, by have := Hlt.out; omega, by go_num, Hnext.out (by rw [Hok.out, Hab.out]; rfl), by rw [Hwr.out]; exact drN w n nq⟩
          case measure => have := Hlt.out; simp [intOf]; omega
        have e1 : ((a.toNat : Int) != (b.toNat : Int)) = true := by
          rw [bne_iff_ne]
          intro h
          exact hab (UInt8.toNat_inj.1 (by omega))
        have Hab := Lib.hid (show (a == b) = false by rw [beq_eq_false_iff_ne]; exact hab)
        clear hab
        by_cases hx : b = 120
        · have e2 : ((b.toNat : Int) != 120) = false := by rw [bne_eq_false_iff_eq, hx]; rfl
          have Hx := Lib.hid (show (b == 120) = true by rw [beq_iff_eq]; exact hx)
          clear hx
          have Hnew := Lib.hid (show matchB t r = false from matchB_false Hlt.out (by rw [Hok.out, Hab.out, Hx.out, Hd.out]; rfl))
          go_wp2_with fail
          go_quiet (fail)
          go_wp2
          go_ret
          exact ⟨by rw [Hnew.out]; rfl, n + nq, by rw [Hwr.out]; exact drN w n nq⟩
        · have e2 : ((b.toNat : Int) != 120) = true := by
            rw [bne_iff_ne]
            intro h
            exact hx (UInt8.toNat_inj.1 (show b.toNat = 120 by omega))
          have Hx := Lib.hid (show (b == 120) = false by rw [beq_eq_false_iff_ne]; exact hx)
          clear hx
          have Hnew := Lib.hid (show matchB t r = false from matchB_false Hlt.out (by rw [Hok.out, Hab.out, Hx.out]; rfl))
          go_wp2_with fail
          go_quiet (fail)
          go_wp2
          go_ret
          exact ⟨by rw [Hnew.out]; rfl, n + nq, by rw [Hwr.out]; exact drN w n nq⟩
      · have hd : digB a = false := by rw [Bool.eq_false_iff]; intro h; exact d1 (digB_iff.1 h).1
        have Hd := Lib.hid hd
        have j1 : ¬ (48 : Int) ≤ (a.toNat : Int) := by omega
        clear hd d1
        by_cases hab : a = b
        · have e1 : ((a.toNat : Int) != (b.toNat : Int)) = false := by rw [bne_eq_false_iff_eq, hab]
          have Hab := Lib.hid (show (a == b) = true by rw [beq_iff_eq]; exact hab)
          clear hab
          go_wp2_with fail
          go_quiet (fail)
          go_wp2
          go_roundw
          case rel => exact ⟨i + 1, n + nq, by have := Hlt.out; omega, by go_num, Hnext.out (by rw [Hok.out, Hab.out]; rfl), by rw [Hwr.out]; exact drN w n nq⟩
          case measure => have := Hlt.out; simp [intOf]; omega
        have e1 : ((a.toNat : Int) != (b.toNat : Int)) = true := by
          rw [bne_iff_ne]
          intro h
          exact hab (UInt8.toNat_inj.1 (by omega))
        have Hab := Lib.hid (show (a == b) = false by rw [beq_eq_false_iff_ne]; exact hab)
        clear hab
        by_cases hx : b = 120
        · have e2 : ((b.toNat : Int) != 120) = false := by rw [bne_eq_false_iff_eq, hx]; rfl
          have Hx := Lib.hid (show (b == 120) = true by rw [beq_iff_eq]; exact hx)
          clear hx
          have Hnew := Lib.hid (show matchB t r = false from matchB_false Hlt.out (by rw [Hok.out, Hab.out, Hx.out, Hd.out]; rfl))
          go_wp2_with fail
          go_quiet (fail)
          go_wp2
          go_ret
          exact ⟨by rw [Hnew.out]; rfl, n + nq, by rw [Hwr.out]; exact drN w n nq⟩
        · have e2 : ((b.toNat : Int) != 120) = true := by
            rw [bne_iff_ne]
            intro h
            exact hx (UInt8.toNat_inj.1 (show b.toNat = 120 by omega))
          have Hx := Lib.hid (show (b == 120) = false by rw [beq_eq_false_iff_ne]; exact hx)
          clear hx
          have Hnew := Lib.hid (show matchB t r = false from matchB_false Hlt.out (by rw [Hok.out, Hab.out, Hx.out]; rfl))
          go_wp2_with fail
          go_quiet (fail)
          go_wp2
          go_ret
          exact ⟨by rw [Hnew.out]; rfl, n + nq, by rw [Hwr.out]; exact drN w n nq⟩
    · have i1 : ¬ (i : Int) < (t.length : Int) := by omega
      have hr : matchB t r = true := matchB_true Hl.out (fun j hj => hall j (by omega))
      have Hr := Lib.hid hr
      clear hr hlt hall
      go_wp2
      go_ret
      exact ⟨by rw [Hr.out]; rfl, n, Hwr.out⟩
end Go.Proofs.Ytfccpepmjklodaa
