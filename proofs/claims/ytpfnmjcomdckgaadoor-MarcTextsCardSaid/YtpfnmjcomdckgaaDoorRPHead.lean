/-
  marc.readHead.
-/
import Derived.Test.YtpfnmjcomdckgaaDoorRPLead
namespace Go.Proofs.YtpfnmjcomdckgaaDoor
open Go.RowKit Go.Shelf
set_option linter.unusedVariables false
set_option linter.unusedSimpArgs false

theorem headB_iff {l : List UInt8} {v : Nat} : headB l v = true ↔ 25 ≤ v ∧ v < l.length ∧ (v - 25) % 12 = 0 ∧ l.getD (v - 1) 0 = 30 := by
  unfold headB; simp [and_assoc]
def HPost (x : PR Nat) (w : World) (e : Ending) (w' : World) : Prop := match x with
  | .bad a k => e = pan a k ∧ Below w.heap.size w w'
  | .ok v => e = .returned (.int .i64 v) ∧ Below w.heap.size w w'
set_option maxRecDepth 100000 in
set_option maxHeartbeats 2000000 in
theorem readHead_c (l : List UInt8) (h24 : 24 ≤ l.length) (hl : l.length ≤ 1099511627776) (w : World) :
    Calls Tryd.prog 67 #[str l] w (HPost (headOf l) w) := by
  have hsz := size_str l
  have hex := ext_mid l 12 17
  rw [show (l.drop 12).take (17 - 12) = headDigs l from rfl] at hex
  have h5 : (headDigs l).length = 5 := by unfold headDigs; rw [List.length_take, List.length_drop]; omega
  have N := number_c (headDigs l) (by omega) w
  have S0 := Lib.hid (sizeOfHead_c 0 (by omega) w)
  have S9 := Lib.hid (sizeOfHead_c 999 (by omega) w)
  have j17 : (17 : Int) ≤ (l.length : Int) := by omega
  unfold headOf
  cases hd : (headDigs l).all digB with
  | false =>
    rw [numV_bad hd, hd] at N
    have N := Lib.hid N
    rw [if_neg (by decide)]
    unfold HPost
    clear hd h24
    go_enter Tryd.func67, Tryd.ntmps67
    go_wp2_with fail
    refine N.out.mono ?_
    rintro e w1 ⟨rfl, rfl⟩
    go_wp2_with fail
    refine (fail_c _ _ _).mono ?_
    rintro e w8 ⟨rfl, rfl⟩
    go_wp2_with fail
    exact ⟨rfl, rfl, Below.refl _ _⟩
  | true =>
    rw [numV_val hd (by omega), hd] at N
    have hvl := valL_lt _ hd
    rw [h5] at hvl
    have N := Lib.hid N
    rw [if_pos rfl]
    obtain ⟨v, hv⟩ : ∃ v, valL (headDigs l) = v := ⟨_, rfl⟩
    rw [hv] at N hvl ⊢
    clear hd hv
    by_cases h1 : 25 ≤ v
    · have j1 : ¬ (v : Int) < 25 := by omega
      by_cases h2 : v < l.length
      · have j2 : ¬ (l.length : Int) ≤ (v : Int) := by omega
        by_cases h3 : (v - 25) % 12 = 0
        · have j3 : ((v : Int) - 25).tmod 12 = 0 := by
            have : (v : Int) - 25 = ((v - 25 : Nat) : Int) := by omega
            rw [this]; show (((v - 25) % 12 : Nat) : Int) = 0; omega
          obtain ⟨u, rfl⟩ : ∃ u, v = u + 1 := ⟨v - 1, by omega⟩
          have hg : ∀ h, (ByteArray.mk l.toArray)[u]'h = l.getD u 0 := fun h => by rw [getD_at l u (by omega)]; rfl
          obtain ⟨x, hx⟩ : ∃ x, l.getD u 0 = x := ⟨_, rfl⟩
          rw [hx] at hg
          have jv0 : (0 : Int) ≤ (u : Int) := by omega
          have jv1 : (u : Int) < (l.length : Int) := by omega
          push_cast at N j1 j2 j3
          by_cases h30 : x = 30
          · have hb : headB l (u + 1) = true := by rw [headB_iff, Nat.add_sub_cancel, hx]; exact ⟨h1, h2, h3, h30⟩
            rw [hb, if_pos rfl]
            subst h30
            by_cases hbig : 12013 < u + 1
            · have jb : (12013 : Int) < (u : Int) + 1 := by omega
              rw [if_pos hbig]
              unfold HPost
              clear hb hx
              go_enter Tryd.func67, Tryd.ntmps67
              go_wp2_with fail
              refine N.out.mono ?_
              rintro e w1 ⟨rfl, rfl⟩
              go_wp2_with fail
              refine S0.out.mono ?_
              rintro e w2 ⟨rfl, rfl⟩
              go_wp2_with fail
              refine S0.out.mono ?_
              rintro e w2 ⟨rfl, rfl⟩
              go_wp2_with fail
              refine S9.out.mono ?_
              rintro e w2 ⟨rfl, rfl⟩
              go_wp2_with fail
              refine (fail_c _ _ _).mono ?_
              rintro e w8 ⟨rfl, rfl⟩
              go_wp2_with fail
              exact ⟨rfl, rfl, Below.refl _ _⟩
            · have jb : ¬ (12013 : Int) < (u : Int) + 1 := by omega
              rw [if_neg hbig]
              unfold HPost
              clear hb hx
              go_enter Tryd.func67, Tryd.ntmps67
              go_wp2_with fail
              refine N.out.mono ?_
              rintro e w1 ⟨rfl, rfl⟩
              go_wp2_with fail
              refine S0.out.mono ?_
              rintro e w2 ⟨rfl, rfl⟩
              go_wp2_with fail
              refine S0.out.mono ?_
              rintro e w2 ⟨rfl, rfl⟩
              go_wp2_with fail
              refine S9.out.mono ?_
              rintro e w2 ⟨rfl, rfl⟩
              go_wp2
              go_ret
              exact ⟨rfl, Below.refl _ _⟩
          · have hb : headB l (u + 1) = false := by rw [Bool.eq_false_iff, ne_eq, headB_iff, Nat.add_sub_cancel, hx]; intro h; exact h30 h.2.2.2
            have hx30 : ((x.toNat : Int) != 30) = true := by
              rw [bne_iff_ne]
              intro e
              apply h30
              have : x.toNat = 30 := by omega
              exact UInt8.toNat_inj.1 this
            rw [hb, if_neg (by decide)]
            unfold HPost
            clear hb hx h30
            go_enter Tryd.func67, Tryd.ntmps67
            go_wp2_with fail
            refine N.out.mono ?_
            rintro e w1 ⟨rfl, rfl⟩
            go_wp2_with fail
            refine S0.out.mono ?_
            rintro e w2 ⟨rfl, rfl⟩
            go_wp2_with fail
            refine S0.out.mono ?_
            rintro e w2 ⟨rfl, rfl⟩
            go_wp2_with fail
            refine (fail_c _ _ _).mono ?_
            rintro e w8 ⟨rfl, rfl⟩
            go_wp2_with fail
            exact ⟨rfl, rfl, Below.refl _ _⟩
        · have j3 : ((v : Int) - 25).tmod 12 ≠ 0 := by
            have : (v : Int) - 25 = ((v - 25 : Nat) : Int) := by omega
            rw [this]; show (((v - 25) % 12 : Nat) : Int) ≠ 0; omega
          have j3' : (((v : Int) - 25).tmod 12 != 0) = true := by simpa using j3
          have hb : headB l v = false := by rw [Bool.eq_false_iff, ne_eq, headB_iff]; omega
          rw [hb, if_neg (by decide)]
          unfold HPost
          clear hb
          go_enter Tryd.func67, Tryd.ntmps67
          go_wp2_with fail
          refine N.out.mono ?_
          rintro e w1 ⟨rfl, rfl⟩
          go_wp2_with fail
          refine S0.out.mono ?_
          rintro e w2 ⟨rfl, rfl⟩
          go_wp2_with fail
          refine S0.out.mono ?_
          rintro e w2 ⟨rfl, rfl⟩
          go_wp2_with fail
          refine (fail_c _ _ _).mono ?_
          rintro e w8 ⟨rfl, rfl⟩
          go_wp2_with fail
          exact ⟨rfl, rfl, Below.refl _ _⟩
      · have j2 : (l.length : Int) ≤ (v : Int) := by omega
        have hb : headB l v = false := by rw [Bool.eq_false_iff, ne_eq, headB_iff]; omega
        rw [hb, if_neg (by decide)]
        unfold HPost
        clear hb
        go_enter Tryd.func67, Tryd.ntmps67
        go_wp2_with fail
        refine N.out.mono ?_
        rintro e w1 ⟨rfl, rfl⟩
        go_wp2_with fail
        refine S0.out.mono ?_
        rintro e w2 ⟨rfl, rfl⟩
        go_wp2_with fail
        refine (fail_c _ _ _).mono ?_
        rintro e w8 ⟨rfl, rfl⟩
        go_wp2_with fail
        exact ⟨rfl, rfl, Below.refl _ _⟩
    · have j1 : (v : Int) < 25 := by omega
      have hb : headB l v = false := by rw [Bool.eq_false_iff, ne_eq, headB_iff]; omega
      rw [hb, if_neg (by decide)]
      unfold HPost
      clear hb
      go_enter Tryd.func67, Tryd.ntmps67
      go_wp2_with fail
      refine N.out.mono ?_
      rintro e w1 ⟨rfl, rfl⟩
      go_wp2_with fail
      refine S0.out.mono ?_
      rintro e w2 ⟨rfl, rfl⟩
      go_wp2_with fail
      refine (fail_c _ _ _).mono ?_
      rintro e w8 ⟨rfl, rfl⟩
      go_wp2_with fail
      exact ⟨rfl, rfl, Below.refl _ _⟩
end Go.Proofs.YtpfnmjcomdckgaaDoor
