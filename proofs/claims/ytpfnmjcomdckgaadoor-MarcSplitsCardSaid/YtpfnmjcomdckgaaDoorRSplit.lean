/-
  The program's Split.
-/
import Derived.Test.YtpfnmjcomdckgaaDoorRRefS
import Derived.Test.YtpfnmjcomdckgaaDoorRParse
namespace Go.Proofs.YtpfnmjcomdckgaaDoor
open Go.RowKit Go.Shelf
set_option linter.unusedVariables false
set_option linter.unusedSimpArgs false

/-- The size of the first record, and the error. -/
def firstV (l : List UInt8) : Nat × Nat :=
  if l.length < 5 then (0, 10) else if rnumV (l.take 5) < 26 then (0, 12) else if l.length < (rnumV (l.take 5)).toNat then (0, 10) else ((rnumV (l.take 5)).toNat, 0)
set_option maxRecDepth 100000 in
set_option maxHeartbeats 2000000 in
theorem sizeFirst_c (l : List UInt8) (hl : l.length ≤ 140737488351232) (w : World) :
    Calls Tryd.prog 51 #[str l] w fun e w' => e = .returned (.tuple #[.int .i64 ((firstV l).1 : Nat), .int .i64 ((firstV l).2 : Nat)]) ∧ w' = w := by
  have hsz := size_str l
  obtain ⟨R, hR⟩ : ∃ R, firstV l = R := ⟨_, rfl⟩
  rw [hR]
  unfold firstV at hR
  have hl2 : (l.length : Int) ≤ 140737488351232 := by omega
  by_cases h5 : l.length < 5
  · rw [if_pos h5] at hR
    subst hR
    have j5 : (l.length : Int) < 5 := by omega
    go_enter Tryd.func51, Tryd.ntmps51
    go_wp2
    go_ret2
    exact ⟨rfl, rfl⟩
  · rw [if_neg h5] at hR
    have j5 : ¬ ((l.length : Int) < 5) := by omega
    have hex := ext_take l 5
    obtain ⟨P, hP⟩ : ∃ P, l.take 5 = P := ⟨_, rfl⟩
    have hpl : P.length ≤ 5 := by rw [← hP]; simp; omega
    rw [hP] at hex hR
    obtain ⟨hn1, hn2⟩ := rnumV_small hpl
    have N := number_c P (by omega) w
    have j6 : (5 : Int) ≤ (l.length : Int) := by omega
    cases hall : P.all digB with
    | false =>
      have hr : rnumV P = -1 := by unfold rnumV; rw [if_neg (by rw [hall]; decide)]
      rw [hr, if_pos (by decide)] at hR
      subst hR
      rw [hall, numV_bad hall] at N
      have HN := Lib.hid N
      clear N hn1 hn2 hr hall hP
      go_enter Tryd.func51, Tryd.ntmps51
      go_wp2_with fail
      refine HN.out.mono ?_
      rintro e w7 ⟨rfl, rfl⟩
      go_wp2
      go_ret2
      exact ⟨rfl, rfl⟩
    | true =>
      have hr : rnumV P = numV P := by unfold rnumV numV; rw [if_pos hall, if_pos hall]
      have hr2 := numV_val hall (by omega)
      rw [hr, hr2] at hR hn2
      rw [hall, hr2] at N
      obtain ⟨n, hn⟩ : ∃ n, valL P = n := ⟨_, rfl⟩
      rw [hn] at hR N hn2
      rw [Int.toNat_natCast] at hR
      have HN := Lib.hid N
      clear N hn1 hr hr2 hall hP hn
      by_cases h26 : (n : Int) < 26
      · rw [if_pos h26] at hR
        subst hR
        clear hn2
        go_enter Tryd.func51, Tryd.ntmps51
        go_wp2_with fail
        refine HN.out.mono ?_
        rintro e w7 ⟨rfl, rfl⟩
        go_wp2
        go_ret2
        exact ⟨rfl, rfl⟩
      · rw [if_neg h26] at hR
        by_cases hbig : l.length < n
        · rw [if_pos hbig] at hR
          subst hR
          have jb : (l.length : Int) < (n : Int) := by omega
          clear hn2 hbig
          go_enter Tryd.func51, Tryd.ntmps51
          go_wp2_with fail
          refine HN.out.mono ?_
          rintro e w7 ⟨rfl, rfl⟩
          go_wp2
          go_ret2
          exact ⟨rfl, rfl⟩
        · rw [if_neg hbig] at hR
          subst hR
          have jb : ¬ ((l.length : Int) < (n : Int)) := by omega
          clear hn2 hbig
          go_enter Tryd.func51, Tryd.ntmps51
          go_wp2_with fail
          refine HN.out.mono ?_
          rintro e w7 ⟨rfl, rfl⟩
          go_wp2
          go_ret2
          exact ⟨rfl, rfl⟩
set_option maxRecDepth 100000 in
set_option maxHeartbeats 4000000 in
theorem split_c (s : List UInt8) (hl : s.length ≤ 140737488351232) (w : World) :
    Calls Tryd.prog 27 #[str s] w (SplitPost (splitM (s.length + 1) s 0 []) w) := by
  have hsz := size_str s
  obtain ⟨i0', hi, hz0, hz1, hz2⟩ := info_parts infoStrg
  obtain ⟨R, hR⟩ : ∃ R, splitM (s.length + 1) s 0 [] = R := ⟨_, rfl⟩
  rw [hR]
  have HR0 := Lib.hid hR
  clear hR
  unfold SplitPost
  go_enter Tryd.func27, Tryd.ntmps27
  go_wp2
  go_loopw [5, 6] (fun sv iv wr => ∃ (q f : Nat) (acc : List (List UInt8)), q ≤ s.length ∧ s.length + 1 ≤ q + f ∧ iv = .int .i64 q ∧ acc.length * 26 ≤ q ∧ wr.ownsRow w.heap.size 9 1 sv acc.length (acc.map str) ∧ Below w.heap.size w wr ∧ R = splitM f s q acc) (fun _ iv _ => s.length - (intOf iv).toNat)
  case atStart => exact ⟨0, s.length + 1, [], Nat.zero_le _, by omega, rfl, by simp, World.ownsRow_nil _ _ _ _, Below.refl _ _, HR0.out.symm⟩
  case round =>
    obtain ⟨q, f, acc, hq, hf, rfl, hacc, hown, hb, hR⟩ := hrel
    have i0 : (0 : Int) ≤ (q : Int) := by omega
    have hbs := hb.size
    by_cases hlt : q < s.length
    · obtain ⟨g, rfl⟩ : ∃ g, f = g + 1 := ⟨f - 1, by omega⟩
      have i1 : (q : Int) < (s.length : Int) := by omega
      have i2 : (q : Int) ≤ (s.length : Int) := by omega
      have hex := ext_drop s q
      have hF : firstV (s.drop q) = if s.length < q + 5 then (0, 10) else if rnumV ((s.drop q).take 5) < 26 then (0, 12) else if s.length < q + (rnumV ((s.drop q).take 5)).toNat then (0, 10) else ((rnumV ((s.drop q).take 5)).toNat, 0) := by
        unfold firstV
        rw [List.length_drop]
        congr 1
        · exact propext (by omega)
        · congr 1
          congr 1
          exact propext (by omega)
      have hN := sizeFirst_c (s.drop q) (by rw [List.length_drop]; omega) wr
      unfold splitM at hR
      rw [if_pos hlt] at hR
      obtain ⟨D, hD⟩ : ∃ D, s.drop q = D := ⟨_, rfl⟩
      rw [hD] at hex hF hN
      by_cases hbad : (firstV D).2 = 0
      · have hcase : ∃ n : Nat, firstV D = (n, 0) ∧ q + n ≤ s.length ∧ 26 ≤ n ∧ R = splitM g s (q + n) (acc ++ [(s.drop q).take n]) := by
          rw [hD] at hR ⊢
          rw [hF] at hbad ⊢
          split at hbad
          · simp at hbad
          · rename_i h5
            rw [if_neg h5] at hR ⊢
            split at hbad
            · simp at hbad
            · rename_i h26
              rw [if_neg h26] at hR ⊢
              split at hbad
              · simp at hbad
              · rename_i hbig
                rw [if_neg hbig] at hR ⊢
                exact ⟨_, rfl, by omega, by omega, hR⟩
        obtain ⟨n, hfn, hle, h26, hR'⟩ := hcase
        rw [hfn] at hN
        obtain ⟨y, hy⟩ : ∃ y, q + n = y := ⟨_, rfl⟩
        have hex2 := ext_mid s q y
        rw [show y - q = n by omega] at hex2
        obtain ⟨Z, hZ⟩ : ∃ Z, (s.drop q).take n = Z := ⟨_, rfl⟩
        have hzl : Z.length ≤ 281474976710656 := by rw [← hZ]; simp; omega
        rw [hZ] at hex2 hR'
        rw [hy] at hR'
        have jq : (q : Int) + (n : Int) = (y : Int) := by omega
        have jn : (q : Int) ≤ (y : Int) := by omega
        have jm : (y : Int) ≤ (s.length : Int) := by omega
        have jo : (0 : Int) ≤ (y : Int) := by omega
        have hyq : y ≤ s.length := by omega
        have hyq2 : q + 26 ≤ y := by omega
        have HR := Lib.hid hR'
        have HN := Lib.hid hN
        have HC := Lib.hid (clone_c Z hzl wr)
        have Hown := Lib.hid hown
        have Hb := Lib.hid hb
        clear hR hR' hZ hy hfn hle h26 hF hN hbad hD hown hb hzl
        go_wp2_with fail
        refine HN.out.mono ?_
        rintro e w7 ⟨rfl, rfl⟩
        go_wp2_with fail
        refine HC.out.mono ?_
        rintro e w6 ⟨rfl, hb6⟩
        have Hown6 := Lib.hid (own_same Hown.out (fun k _ hk => hb6.block k hk))
        have Hb6 := Lib.hid (Hb.out.trans (hb6.mono Hb.out.size))
        have hbs6 := Hb6.out.size
        clear hb6
        go_wp2_with (at_builtin; refine wpList_append_own _ rfl _ _ 46 rfl w.heap.size 9 i0' _ 1 16 Tryd.underlying46 hi hz0 hz1 hz2 rfl (by decide) _ _ _ rfl (Hown6.out.alloc _) ⟨w6.heap.size, 0, none⟩ 1 1 [str Z] rfl rfl ?c1 ?c2 ?c3 ?c4 ?c5 ?_)
        case c1 => exact one_cell w6 _ _
        case c2 => simp [Value.oneCell']
        case c3 => unfold maxLen; omega
        case c4 => omega
        case c5 => simp; omega
        intro v' w8 hown8 hgrow _
        have hb8 : Below w.heap.size w w8 := Below.grown (Hb6.out.alloc Hb6.out.size _) hgrow (by simp; omega) (fun k hk => (Hown6.out.lt k hk).1)
        have Hb8 := Lib.hid hb8
        have Hown8 := Lib.hid hown8
        clear hown8 hgrow hb8
        go_wp2
        go_roundw
        case rel => exact ⟨y, g, acc ++ [Z], by omega, by omega, by go_num, by rw [List.length_append]; simp; omega, by rw [List.length_append, List.map_append]; exact Hown8.out, Hb8.out, HR.out⟩
        case measure => simp [intOf]; omega
      · have hcase : R = (acc, q, (firstV D).2) := by
          rw [hD] at hR
          rw [hF] at hbad ⊢
          rw [hR]
          split
          · rfl
          · rename_i h5
            rw [if_neg h5] at hbad
            split
            · rfl
            · rename_i h26
              rw [if_neg h26] at hbad
              split
              · rfl
              · rename_i hbig
                rw [if_neg hbig] at hbad
                exact absurd rfl hbad
        obtain ⟨⟨n, k⟩, hfn⟩ : ∃ p, firstV D = p := ⟨_, rfl⟩
        rw [hfn] at hN hbad hcase
        simp only at hN hbad hcase
        have jk : ¬ ((k : Int) = 0) := by omega
        have HR := Lib.hid hcase
        have HN := Lib.hid hN
        have Hown := Lib.hid hown
        have Hb := Lib.hid hb
        clear hR hfn hF hN hbad hD hown hb hcase
        go_wp2_with fail
        refine HN.out.mono ?_
        rintro e w7 ⟨rfl, rfl⟩
        go_wp2
        go_ret3
        rw [HR.out]
        exact ⟨_, rfl, Hown.out, Hb.out⟩
    · have hkl : q = s.length := by omega
      subst hkl
      have hR2 : R = (acc, 0, 0) := by
        rw [hR]
        cases f with
        | zero => rfl
        | succ g => unfold splitM; rw [if_neg (by omega)]
      have hd : decide (s.length < s.length) = false := by simp
      have Hown := Lib.hid hown
      have Hb := Lib.hid hb
      have HR := Lib.hid hR2
      clear hown hb hR hR2
      go_wp2
      go_ret3
      rw [HR.out]
      exact ⟨_, rfl, Hown.out, Hb.out⟩
end Go.Proofs.YtpfnmjcomdckgaaDoor
