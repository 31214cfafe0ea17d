/-
  The reference's leader.
-/
import Derived.Test.YtpfnmjcomdckgaaDoorRRefN
import Derived.Test.YtpfnmjcomdckgaaDoorRPHead
namespace Go.Proofs.YtpfnmjcomdckgaaDoor
open Go.RowKit Go.Shelf
set_option linter.unusedVariables false
set_option linter.unusedSimpArgs false

/-- The offset and the error of the leader; 0, 0 if it is right. -/
def leadR (l : List UInt8) : Nat × Nat := match lenErr l with
  | some p => p
  | none => match leadErr l with
    | some p => p
    | none => match headOf l with
      | .bad p k => (p, k)
      | .ok _ => if l.getD (l.length - 1) 0 = 29 then (0, 0) else (l.length - 1, 14)
def pairV (p : Nat × Nat) : Ending := .returned (.tuple #[.int .i64 (p.1 : Nat), .int .i64 (p.2 : Nat)])
theorem rnumV_good {l : List UInt8} (h : l.all digB = true) (hl : l.length ≤ 18) : rnumV l = (valL l : Int) := by
  unfold rnumV; rw [if_pos h, numW_val l h hl]
theorem rnumV_bad {l : List UInt8} (h : l.all digB = false) : rnumV l = -1 := by
  unfold rnumV; rw [if_neg (by rw [h]; decide)]
theorem hasAt_eq (l : List UInt8) (k : Nat) (p : List UInt8) (h : k + p.length ≤ l.length) : hasAt l k p = ((l.drop k).take p.length == p) := by
  have : ∀ (p r : List UInt8), p.length ≤ r.length → Lib.hasPrefix r p = (r.take p.length == p) := by
    intro p
    induction p with
    | nil => intro r _; cases r <;> rfl
    | cons a p ih =>
      intro r hr
      cases r with
      | nil => simp at hr
      | cons b r =>
        have h2 := ih r (by simpa using hr)
        have h3 : Lib.hasPrefix (b :: r) (a :: p) = (b == a && Lib.hasPrefix r p) := by
          unfold Lib.hasPrefix
          rw [List.isPrefixOf_cons_cons]
          congr 1
          rw [Bool.eq_iff_iff, beq_iff_eq, beq_iff_eq]
          exact eq_comm
        rw [h3, h2]
        rfl
  unfold hasAt
  exact this p (l.drop k) (by rw [List.length_drop]; omega)
set_option maxRecDepth 100000 in
set_option maxHeartbeats 4000000 in
theorem rLeader_c (l : List UInt8) (hl : l.length ≤ 1099511627776) (w : World) :
    Calls Tryd.prog 71 #[str l] w fun e w' => e = pairV (leadR l) ∧ w' = w := by
  have hsz := size_str l
  obtain ⟨R, hR⟩ : ∃ R, leadR l = R := ⟨_, rfl⟩
  rw [hR]
  unfold leadR lenErr at hR
  unfold pairV
  by_cases h24 : l.length < 24
  · rw [if_pos h24] at hR
    subst hR
    have j24 : (l.length : Int) < 24 := by omega
    go_enter Tryd.func71, Tryd.ntmps71
    go_wp2
    go_ret2
    exact ⟨rfl, rfl⟩
  rw [if_neg h24] at hR
  have j24 : ¬ (l.length : Int) < 24 := by omega
  have hex := ext_take l 5
  have h5 : (l.take 5).length = 5 := by rw [List.length_take]; omega
  have hex2 := ext_mid l 12 17
  rw [show (l.drop 12).take (17 - 12) = headDigs l from rfl] at hex2
  have h5b : (headDigs l).length = 5 := by unfold headDigs; rw [List.length_take, List.length_drop]; omega
  have N := rNumber_c (l.take 5) (by omega) w
  have N2 := rNumber_c (headDigs l) (by omega) w
  have j5 : (5 : Int) ≤ (l.length : Int) := by omega
  have j12 : (12 : Int) ≤ (l.length : Int) := by omega
  have j17 : (17 : Int) ≤ (l.length : Int) := by omega
  have j20 : (20 : Int) ≤ (l.length : Int) := by omega
  have j24' : (24 : Int) ≤ (l.length : Int) := by omega
  have j6 : (6 : Int) < (l.length : Int) := by omega
  have j7 : (7 : Int) < (l.length : Int) := by omega
  have j9 : (9 : Int) < (l.length : Int) := by omega
  cases hd : (l.take 5).all digB with
  | false =>
    rw [rnumV_bad hd] at N
    rw [if_neg (by rw [hd]; decide)] at hR
    have N := Lib.hid N
    subst hR
    clear hd h24
    go_enter Tryd.func71, Tryd.ntmps71
    go_wp2_with fail
    refine N.out.mono ?_
    rintro e w1 ⟨rfl, rfl⟩
    go_wp2
    go_ret2
    exact ⟨rfl, rfl⟩
  | true =>
  rw [rnumV_good hd (by omega)] at N
  rw [if_pos hd] at hR
  have N := Lib.hid N
  obtain ⟨v, hv⟩ : ∃ v, valL (l.take 5) = v := ⟨_, rfl⟩
  rw [hv] at N hR
  clear hd h24 hv
  have jv : ¬ (v : Int) < 0 := by omega
  by_cases h1 : l.length < v
  · rw [if_pos h1] at hR
    subst hR
    have j1 : (l.length : Int) < (v : Int) := by omega
    go_enter Tryd.func71, Tryd.ntmps71
    go_wp2_with fail
    refine N.out.mono ?_
    rintro e w1 ⟨rfl, rfl⟩
    go_wp2
    go_ret2
    exact ⟨rfl, rfl⟩
  rw [if_neg h1] at hR
  by_cases h2 : v < l.length
  · rw [if_pos h2] at hR
    subst hR
    have j1 : ¬ (l.length : Int) < (v : Int) := by omega
    have j2 : (v : Int) < (l.length : Int) := by omega
    go_enter Tryd.func71, Tryd.ntmps71
    go_wp2_with fail
    refine N.out.mono ?_
    rintro e w1 ⟨rfl, rfl⟩
    go_wp2
    go_ret2
    exact ⟨rfl, rfl⟩
  rw [if_neg h2] at hR
  obtain rfl : v = l.length := by omega
  clear h1 h2
  simp only at hR
  have jd1 : decide (l.length < l.length) = false := by simp
  have hg6 : ∀ h, (ByteArray.mk l.toArray)[6]'h = l.getD 6 0 := fun h => by rw [getD_at l 6 (by omega)]; rfl
  have hg7 : ∀ h, (ByteArray.mk l.toArray)[7]'h = l.getD 7 0 := fun h => by rw [getD_at l 7 (by omega)]; rfl
  have hg9 : ∀ h, (ByteArray.mk l.toArray)[9]'h = l.getD 9 0 := fun h => by rw [getD_at l 9 (by omega)]; rfl
  have hexA := ext_mid l 10 12
  have hexB := ext_mid l 20 24
  have e9 : hasAt l 9 [97] = (l.getD 9 0 == 97) := by
    rw [hasAt_eq l 9 [97] (by simp; omega)]
    rw [List.drop_eq_getElem_cons (by omega : 9 < l.length), getD_at l 9 (by omega)]
    show (l[9] == 97 && true) = _
    rw [Bool.and_true]
  have e10 := hasAt_eq l 10 [50, 50] (by simp; omega)
  have e20 := hasAt_eq l 20 [52, 53, 48, 48] (by simp; omega)
  unfold leadErr at hR
  rw [e9, e10, e20] at hR
  rw [show [(50 : UInt8), 50].length = 2 from rfl, show [(52 : UInt8), 53, 48, 48].length = 4 from rfl] at hR
  rw [show (12 - 10 : Nat) = 2 from rfl] at hexA
  rw [show (24 - 20 : Nat) = 4 from rfl] at hexB
  obtain ⟨x6, hx6⟩ : ∃ x, l.getD 6 0 = x := ⟨_, rfl⟩
  obtain ⟨x7, hx7⟩ : ∃ x, l.getD 7 0 = x := ⟨_, rfl⟩
  obtain ⟨x9, hx9⟩ : ∃ x, l.getD 9 0 = x := ⟨_, rfl⟩
  obtain ⟨A, hA⟩ : ∃ x, (l.drop 10).take 2 = x := ⟨_, rfl⟩
  obtain ⟨B, hB⟩ : ∃ x, (l.drop 20).take 4 = x := ⟨_, rfl⟩
  rw [hx6] at hg6 hR
  rw [hx7] at hg7 hR
  rw [hx9] at hg9 hR
  rw [hA] at hexA hR
  rw [hB] at hexB hR
  have L6 := Lib.hid (rLetter_c x6 w)
  have L7 := Lib.hid (rLetter_c x7 w)
  clear e9 e10 e20 hx6 hx7 hx9 hA hB
  have HR := Lib.hid hR
  clear hR
  go_enter Tryd.func71, Tryd.ntmps71
  go_wp2_with fail
  refine N.out.mono ?_
  rintro e w1 ⟨rfl, rfl⟩
  go_wp2_with fail
  refine L6.out.mono ?_
  rintro e w1 ⟨rfl, rfl⟩
  cases h6 : lowB x6 with
  | false =>
    have hR := HR.out
    rw [if_neg (by rw [h6]; decide)] at hR
    subst hR
    go_wp2
    go_ret2
    exact ⟨rfl, rfl⟩
  | true =>
  have hR := HR.out
  rw [if_pos h6] at hR
  have HR := Lib.hid hR
  clear hR h6 L6
  go_wp2_with fail
  refine L7.out.mono ?_
  rintro e w1 ⟨rfl, rfl⟩
  cases h7 : lowB x7 with
  | false =>
    have hR := HR.out
    rw [if_neg (by rw [h7]; decide)] at hR
    subst hR
    go_wp2
    go_ret2
    exact ⟨rfl, rfl⟩
  | true =>
  have hR := HR.out
  rw [if_pos h7] at hR
  have HR := Lib.hid hR
  clear hR h7 L7
  by_cases h9 : x9 = 97
  case neg =>
    have hR := HR.out
    rw [if_neg (by simpa using h9)] at hR
    have j9' : ((x9.toNat : Int) == 97) = false := by
      rw [beq_eq_false_iff_ne]; intro e; apply h9; apply UInt8.toNat_inj.1; show x9.toNat = 97; omega
    subst hR
    go_wp2
    go_ret2
    exact ⟨rfl, rfl⟩
  have hR := HR.out
  rw [if_pos (by simpa using h9)] at hR
  subst h9
  cases h10 : (A == [50, 50]) with
  | false =>
    rw [if_neg (by rw [h10]; decide)] at hR
    subst hR
    have hA : A ≠ [50, 50] := by simpa using h10
    go_wp2
    go_ret2
    exact ⟨rfl, rfl⟩
  | true =>
  rw [if_pos h10] at hR
  obtain rfl : A = [50, 50] := by simpa using h10
  cases h20 : (B == [52, 53, 48, 48]) with
  | false =>
    rw [if_neg (by rw [h20]; decide)] at hR
    subst hR
    have hA : B ≠ [52, 53, 48, 48] := by simpa using h20
    go_wp2
    go_ret2
    exact ⟨rfl, rfl⟩
  | true =>
  rw [if_pos h20] at hR
  obtain rfl : B = [52, 53, 48, 48] := by simpa using h20
  have HR := Lib.hid hR
  clear hR h10 h20
  go_wp2_with fail
  refine N2.mono ?_
  rintro e w2 ⟨rfl, rfl⟩
  have hR := HR.out
  unfold headOf at hR
  cases hd : (headDigs l).all digB with
  | false =>
    rw [if_neg (by rw [hd]; decide)] at hR
    subst hR
    rw [rnumV_bad hd]
    go_wp2
    go_ret2
    exact ⟨rfl, rfl⟩
  | true =>
  rw [rnumV_good hd (by omega)]
  rw [if_pos hd] at hR
  have hvl := valL_lt _ hd
  rw [h5b] at hvl
  obtain ⟨v, hv⟩ : ∃ v, valL (headDigs l) = v := ⟨_, rfl⟩
  rw [hv] at hR hvl ⊢
  clear hd hv N2 HR
  by_cases h1 : 25 ≤ v
  case neg =>
    have hb : headB l v = false := by unfold headB; simp; omega
    rw [if_neg (by rw [hb]; decide)] at hR
    subst hR
    have j1 : (v : Int) < 25 := by omega
    go_wp2
    go_ret2
    exact ⟨rfl, rfl⟩
  have j1 : ¬ (v : Int) < 25 := by omega
  by_cases h2 : v < l.length
  case neg =>
    have hb : headB l v = false := by unfold headB; simp; omega
    rw [if_neg (by rw [hb]; decide)] at hR
    subst hR
    have j2 : (l.length : Int) ≤ (v : Int) := by omega
    clear hb
    go_wp2
    go_ret2
    exact ⟨rfl, rfl⟩
  have j2 : ¬ (l.length : Int) ≤ (v : Int) := by omega
  by_cases h3 : (v - 25) % 12 = 0
  case neg =>
    have hb : headB l v = false := by unfold headB; simp; omega
    rw [if_neg (by rw [hb]; decide)] at hR
    subst hR
    have j3 : (((v : Int) - 25).tmod 12 == 0) = false := by
      have : (v : Int) - 25 = ((v - 25 : Nat) : Int) := by omega
      rw [this]; show ((((v - 25) % 12 : Nat) : Int) == 0) = false; rw [beq_eq_false_iff_ne]; omega
    clear hb
    go_wp2
    go_ret2
    exact ⟨rfl, rfl⟩
  have j3 : ((v : Int) - 25).tmod 12 = 0 := by
    have : (v : Int) - 25 = ((v - 25 : Nat) : Int) := by omega
    rw [this]; show (((v - 25) % 12 : Nat) : Int) = 0; omega
  obtain ⟨u, hu⟩ : ∃ u, v = u + 1 := ⟨v - 1, by omega⟩
  have ju : (v : Int) - 1 = (u : Int) := by omega
  have hg : ∀ h, (ByteArray.mk l.toArray)[u]'h = l.getD u 0 := fun h => by rw [getD_at l u (by omega)]; rfl
  obtain ⟨x, hx⟩ : ∃ x, l.getD u 0 = x := ⟨_, rfl⟩
  rw [hx] at hg
  have jv0 : (0 : Int) ≤ (u : Int) := by omega
  have jv1 : (u : Int) < (l.length : Int) := by omega
  have hbx : headB l v = (x == 30) := by
    unfold headB
    rw [decide_eq_true h1, decide_eq_true h2, decide_eq_true h3, hu, Nat.add_sub_cancel, hx]; rfl
  rw [hbx] at hR
  have Hu := Lib.hid hu
  clear hx hu hbx
  by_cases h30 : x = 30
  case neg =>
    rw [if_neg (by simpa using h30)] at hR
    subst hR
    have j30 : ((x.toNat : Int) == 30) = false := by
      rw [beq_eq_false_iff_ne]; intro e; apply h30; apply UInt8.toNat_inj.1; show x.toNat = 30; omega
    have j30b : ((x.toNat : Int) != 30) = true := by unfold bne; rw [j30]; rfl
    go_wp2
    go_ret2
    exact ⟨rfl, rfl⟩
  subst h30
  rw [if_pos (by decide)] at hR
  have hq : ((v : Int) - 25).tdiv 12 = (((v - 25) / 12 : Nat) : Int) := by
    have : (v : Int) - 25 = ((v - 25 : Nat) : Int) := by omega
    rw [this]; rfl
  by_cases hbig : 12013 < v
  · rw [if_pos hbig] at hR
    simp only at hR
    subst hR
    have jb : (999 : Int) < (((v - 25) / 12 : Nat) : Int) := by omega
    rw [← hq] at jb
    clear hq
    go_wp2
    go_ret2
    exact ⟨rfl, rfl⟩
  rw [if_neg hbig] at hR
  simp only at hR
  have jb : ¬ (999 : Int) < (((v - 25) / 12 : Nat) : Int) := by omega
  rw [← hq] at jb
  clear hq
  obtain ⟨m, hm⟩ : ∃ m, l.length - 1 = m := ⟨_, rfl⟩
  have jm : (l.length : Int) - 1 = (m : Int) := by omega
  have hgm : ∀ h, (ByteArray.mk l.toArray)[m]'h = l.getD m 0 := fun h => by rw [getD_at l m (by omega)]; rfl
  rw [hm] at hR
  obtain ⟨y, hy⟩ : ∃ x, l.getD m 0 = x := ⟨_, rfl⟩
  rw [hy] at hgm hR
  have jm0 : (0 : Int) ≤ (m : Int) := by omega
  have jm1 : (m : Int) < (l.length : Int) := by omega
  clear hy
  by_cases h29 : y = 29
  · rw [if_pos h29] at hR
    subst hR
    subst h29
    go_wp2
    go_ret2
    exact ⟨rfl, rfl⟩
  · rw [if_neg h29] at hR
    subst hR
    have j29 : ((y.toNat : Int) == 29) = false := by
      rw [beq_eq_false_iff_ne]; intro e; apply h29; apply UInt8.toNat_inj.1; show y.toNat = 29; omega
    go_wp2
    go_ret2
    exact ⟨rfl, rfl⟩
end Go.Proofs.YtpfnmjcomdckgaaDoor
