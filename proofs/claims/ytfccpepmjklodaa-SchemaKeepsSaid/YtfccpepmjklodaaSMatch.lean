/-
  Small functions of package schema: isDigit, matches, occurs, isControl.
-/
import Derived.Test.YtfccpepmjklodaaSModel
import Derived.Test.YtfccpepmjklodaaSShelf
import Derived.Deep.QuietTactic
import Derived.BigQuiet
namespace Go.Proofs.Ytfccpepmjklodaa
open Go.RowKit Go.Shelf
set_option linter.unusedVariables false
set_option linter.unusedSimpArgs false

theorem digB_iff {b : UInt8} : digB b = true ↔ 48 ≤ b.toNat ∧ b.toNat ≤ 57 := by unfold digB; simp
theorem hasB_iff {s : List UInt8} {b : UInt8} : hasB s b = true ↔ b ∈ s := by
  unfold hasB
  rw [List.any_eq_true]
  constructor
  · rintro ⟨x, hx, he⟩
    rw [← beq_iff_eq.1 he]; exact hx
  · intro h
    exact ⟨b, h, by rw [beq_iff_eq]⟩
theorem index_has : ∀ (s : List UInt8) (b : UInt8), (Lib.indexByte s b = -1 ∧ hasB s b = false) ∨ (0 ≤ Lib.indexByte s b ∧ hasB s b = true)
  | [], b => .inl ⟨rfl, rfl⟩
  | c :: l, b => by
    unfold Lib.indexByte
    have hh : hasB (c :: l) b = (c == b || hasB l b) := by unfold hasB; simp
    rw [hh]
    cases hc : c == b with
    | true => exact .inr ⟨by simp, by simp⟩
    | false =>
      rcases index_has l b with ⟨h1, h2⟩ | ⟨h1, h2⟩
      · left; rw [h1, h2]; simp
      · right
        have hne : (Lib.indexByte l b == -1) = false := by rw [beq_eq_false_iff_ne]; omega
        rw [h2]
        simp [hne]
        omega
/-- What a quiet function does. -/
def QB (x : Bool) (w : World) (e : Ending) (w' : World) : Prop := e = .returned (.bool x) ∧ ∃ n, w' = w.drewN n
theorem isDigit_c (b : UInt8) (w : World) : Calls Try.prog 43 #[.int .u8 (b.toNat : Int)] w fun e w' => e = .returned (.bool (digB b)) ∧ w' = w := by
  by_cases h1 : 48 ≤ b.toNat
  · have j1 : (48 : Int) ≤ (b.toNat : Int) := by omega
    by_cases h2 : b.toNat ≤ 57
    · have j2 : (b.toNat : Int) ≤ 57 := by omega
      rw [show digB b = true from digB_iff.2 ⟨h1, h2⟩]
      go_enter Try.func43, Try.ntmps43
      go_wp2
      go_ret
      exact ⟨rfl, rfl⟩
    · have j2 : ¬ (b.toNat : Int) ≤ 57 := by omega
      rw [show digB b = false by rw [Bool.eq_false_iff]; intro h; exact h2 (digB_iff.1 h).2]
      go_enter Try.func43, Try.ntmps43
      go_wp2
      go_ret
      exact ⟨rfl, rfl⟩
  · have j1 : ¬ (48 : Int) ≤ (b.toNat : Int) := by omega
    rw [show digB b = false by rw [Bool.eq_false_iff]; intro h; exact h1 (digB_iff.1 h).1]
    go_enter Try.func43, Try.ntmps43
    go_wp2
    go_ret
    exact ⟨rfl, rfl⟩
theorem occurs_c (b : UInt8) (s : List UInt8) (w : World) : Calls Try.prog 45 #[.int .u8 (b.toNat : Int), str s] w fun e w' => e = .returned (.bool (hasB s b)) ∧ w' = w := by
  have N := indexByte ⟨s.toArray⟩ (b.toNat : Int) w
  rw [show ((b.toNat : Int)).toNat.toUInt8 = b by simp] at N
  rw [show (ByteArray.mk s.toArray).data.toList = s by simp] at N
  obtain ⟨k, hk⟩ : ∃ k, Lib.indexByte s b = k := ⟨_, rfl⟩
  have hh := index_has s b
  rw [hk] at N hh
  have N := Lib.hid N
  rcases hh with ⟨h1, h2⟩ | ⟨h1, h2⟩
  · subst h1
    rw [h2]
    clear hk h2
    go_enter Try.func45, Try.ntmps45
    go_wp2_with fail
    refine N.out.mono ?_
    rintro _ _ ⟨rfl, rfl⟩
    go_wp2
    go_ret
    exact ⟨rfl, rfl⟩
  · rw [h2]
    clear hk h2
    go_enter Try.func45, Try.ntmps45
    go_wp2_with fail
    refine N.out.mono ?_
    rintro _ _ ⟨rfl, rfl⟩
    go_wp2
    go_ret
    exact ⟨rfl, rfl⟩
theorem prefix_ctl (l : List UInt8) : Lib.hasPrefix l [48, 48] = ctlB l := by
  unfold Lib.hasPrefix ctlB
  match l with
  | [] => rfl
  | [a] => simp [List.isPrefixOf]
  | a :: b :: r =>
    have bc : ∀ x : UInt8, ((48 : UInt8) == x) = (x == 48) := fun x => by
      rw [Bool.eq_iff_iff, beq_iff_eq, beq_iff_eq]
      exact eq_comm
    simp [List.isPrefixOf, bc]
theorem isControl_c (f : FldM) (sv : Value) (a : Option Addr) (n c : Nat) (hsv : sv = .slice a n c) (w : World) :
    Calls Try.prog 44 #[.agg #[str f.tag, str f.ind, str f.data, sv]] w fun e w' => e = .returned (.bool (ctlB f.tag)) ∧ Below w.heap.size w w' := by
  subst hsv
  obtain ⟨W1, hW1⟩ : ∃ W1, w.alloc (.cells #[str f.tag, str f.ind, str f.data, .slice a n c] 46) = W1 := ⟨_, rfl⟩
  have hb1 : Below w.heap.size w W1 := by rw [← hW1]; exact below_new _ _
  have hn1 : W1.heap[w.heap.size]? = some (.cells #[str f.tag, str f.ind, str f.data, .slice a n c] 46 (0, 0)) := by rw [← hW1]; exact Array.getElem?_push_size
  have c0 : W1.cell? ⟨w.heap.size, 0, none⟩ = some (str f.tag) := by rw [cell_at hn1]; rfl
  have N := hasPrefix ⟨f.tag.toArray⟩ ⟨[48, 48].toArray⟩ W1
  rw [show (ByteArray.mk f.tag.toArray).data.toList = f.tag by simp, show (ByteArray.mk [48, 48].toArray).data.toList = [48, 48] from rfl, prefix_ctl] at N
  have N := Lib.hid N
  have Hb := Lib.hid hb1
  clear hb1 hn1
  go_enter Try.func44, Try.ntmps44
  go_wp2_with fail
  refine N.out.mono ?_
  rintro _ _ ⟨rfl, rfl⟩
  go_wp2
  go_ret
  exact ⟨rfl, Hb.out⟩
theorem getD_at (l : List UInt8) (k : Nat) (h : k < l.length) : l[k] = l.getD k 0 := by
  rw [List.getD_eq_getElem?_getD, List.getElem?_eq_getElem h]; rfl
theorem drN (w : World) (n m : Nat) : (w.drewN n).drewN m = w.drewN (n + m) := World.drewN_drewN ..
set_option maxRecDepth 100000 in
set_option maxHeartbeats 4000000 in
theorem matches_c (t r : List UInt8) (ht : t.length ≤ 140737488355328) (hr : r.length ≤ 140737488355328) (w : World) : Calls Try.prog 36 #[str t, str r] w (QB (matchB t r) w) := by
  have st := size_str t
  have sr := size_str r
  unfold QB
  by_cases hl : t.length = r.length
  case neg =>
    rw [matchB_len hl]
    have hl' : ((t.length : Int) != (r.length : Int)) = true := by rw [bne_iff_ne]; omega
    clear hl
    go_enter Try.func36, Try.ntmps36
    go_wp2
    go_ret
    exact ⟨rfl, 0, rfl⟩
  have hl' : ((t.length : Int) != (r.length : Int)) = false := by rw [bne_eq_false_iff_eq]; omega
  have Hl := Lib.hid hl
  clear hl
  go_enter Try.func36, Try.ntmps36
  go_wp2_with fail
  go_loopw [13] (fun iv wr => ∃ i n : Nat, i ≤ t.length ∧ iv = .int .i64 i ∧ (∀ j, j < i → okAt t r j = true) ∧ wr = w.drewN n) (fun iv _ => t.length - (intOf iv).toNat)
  case atStart => exact ⟨0, 0, Nat.zero_le _, rfl, fun j hj => absurd hj (Nat.not_lt_zero j), rfl⟩
  case round =>
    obtain ⟨i, n, hi, rfl, hall, hwr⟩ := hrel
    have Hwr := Lib.hid hwr
    clear hwr
    by_cases hlt : i < t.length
    · have hltr : i < r.length := by rw [← Hl.out]; exact hlt
      have i0 : (0 : Int) ≤ (i : Int) := by omega
      have i1 : (i : Int) < (t.length : Int) := by omega
      have i2 : (i : Int) < (r.length : Int) := by omega
      obtain ⟨a, ha⟩ : ∃ a, t.getD i 0 = a := ⟨_, rfl⟩
      obtain ⟨b, hb⟩ : ∃ b, r.getD i 0 = b := ⟨_, rfl⟩
      have g1 : ∀ h, (ByteArray.mk t.toArray)[i]'h = a := fun h => by rw [get_str, getD_at t i hlt, ha]
      have g2 : ∀ h, (ByteArray.mk r.toArray)[i]'h = b := fun h => by rw [get_str, getD_at r i hltr, hb]
      have hok : okAt t r i = ((a == b) || ((b == 120) && digB a)) := by unfold okAt; rw [ha, hb]
      have Hall := Lib.hid hall
      have Hok := Lib.hid hok
      have Hlt := Lib.hid hlt
      clear ha hb hok hall hlt hltr
      by_cases hab : a = b
      · have e1 : ((a.toNat : Int) != (b.toNat : Int)) = false := by rw [bne_eq_false_iff_eq, hab]
        have Hab := Lib.hid (show (a == b) = true by rw [beq_iff_eq]; exact hab)
        clear hab
        have hnew : ∀ j, j < i + 1 → okAt t r j = true := by
          intro j hj
          rcases Nat.lt_or_ge j i with h | h
          · exact Hall.out j h
          · obtain rfl : j = i := by omega
            rw [Hok.out, Hab.out]
            rfl
        have Hnew := Lib.hid hnew
        clear hnew
        go_wp2_with fail
        go_quiet (fail)
        go_wp2
        go_roundw
        case rel => exact ⟨i + 1, n + nq, by have := Hlt.out; omega, by go_num, Hnew.out, by rw [Hwr.out]; exact drN w n nq⟩
        case measure => have := Hlt.out; simp [intOf]; omega
      have e1 : ((a.toNat : Int) != (b.toNat : Int)) = true := by
        rw [bne_iff_ne]
        intro h
        exact hab (UInt8.toNat_inj.1 (by omega))
      have Hab := Lib.hid (show (a == b) = false by rw [beq_eq_false_iff_ne]; exact hab)
      clear hab
      by_cases hx : b = 120
      case neg =>
        have e2 : ((b.toNat : Int) == 120) = false := by
          rw [beq_eq_false_iff_ne]
          intro h
          exact hx (UInt8.toNat_inj.1 (show b.toNat = 120 by omega))
        have Hx := Lib.hid (show (b == 120) = false by rw [beq_eq_false_iff_ne]; exact hx)
        clear hx
        have hnew : matchB t r = false := matchB_false Hlt.out (by rw [Hok.out, Hab.out, Hx.out]; rfl)
        have Hnew := Lib.hid hnew
        clear hnew
        go_wp2_with fail
        go_quiet (fail)
        go_wp2
        go_ret
        exact ⟨by rw [Hnew.out]; rfl, n + nq, by rw [Hwr.out]; exact drN w n nq⟩
      have e2 : ((b.toNat : Int) == 120) = true := by
        rw [beq_iff_eq, hx]; rfl
      have Hx := Lib.hid (show (b == 120) = true by rw [beq_iff_eq]; exact hx)
      clear hx
      cases hd : digB a with
      | true =>
        rw [hd] at Hok
        have N := Lib.hid (show ∀ W : World, Calls Try.prog 43 #[.int .u8 (a.toNat : Int)] W fun e w' => e = .returned (.bool true) ∧ w' = W from fun W => by have h := isDigit_c a W; rw [hd] at h; exact h)
        clear hd
        have hnew : ∀ j, j < i + 1 → okAt t r j = true := by
          intro j hj
          rcases Nat.lt_or_ge j i with h | h
          · exact Hall.out j h
          · obtain rfl : j = i := by omega
            rw [Hok.out, Hab.out, Hx.out]
            rfl
        have Hnew := Lib.hid hnew
        clear hnew
        go_wp2_with fail
        go_quiet (exact Calls.quiet_of_same (N.out _))
        go_wp2
        go_roundw
        case rel => exact ⟨i + 1, n + nq, by have := Hlt.out; omega, by go_num, Hnew.out, by rw [Hwr.out]; exact drN w n nq⟩
        case measure => have := Hlt.out; simp [intOf]; omega
      | false =>
        rw [hd] at Hok
        have N := Lib.hid (show ∀ W : World, Calls Try.prog 43 #[.int .u8 (a.toNat : Int)] W fun e w' => e = .returned (.bool false) ∧ w' = W from fun W => by have h := isDigit_c a W; rw [hd] at h; exact h)
        clear hd
        have hnew : matchB t r = false := matchB_false Hlt.out (by rw [Hok.out, Hab.out, Hx.out]; rfl)
        have Hnew := Lib.hid hnew
        clear hnew
        go_wp2_with fail
        go_quiet (exact Calls.quiet_of_same (N.out _))
        go_wp2
        go_ret
        exact ⟨by rw [Hnew.out]; rfl, n + nq, by rw [Hwr.out]; exact drN w n nq⟩
    · have hit : i = t.length := by omega
      subst hit
      have Hall := Lib.hid hall
      have hd0 : decide (t.length < t.length) = false := by simp
      clear hall hlt
      go_wp2
      go_ret
      exact ⟨by rw [matchB_true Hl.out Hall.out]; rfl, n, Hwr.out⟩
end Go.Proofs.Ytfccpepmjklodaa
