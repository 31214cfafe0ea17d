/-
  The reference's Split.
-/
import Derived.Test.YtpfnmjcomdckgaaDoorRRefN
import Derived.Test.YtpfnmjcomdckgaaDoorRPDir
import Derived.Test.YtpfnmjcomdckgaaDoorRRecO
namespace Go.Proofs.YtpfnmjcomdckgaaDoor
open Go.RowKit Go.Shelf
set_option linter.unusedVariables false
set_option linter.unusedSimpArgs false

theorem infoStrg : (Tryd.prog.info? 9).map (fun i => (i.zero, i.size, i.bytes)) = some (some (.string ⟨#[]⟩), 1, 16) := by kernel_rfl
/-- The parts, the offset and the error. -/
def splitM : Nat → List UInt8 → Nat → List (List UInt8) → List (List UInt8) × Nat × Nat
  | 0, _, _, acc => (acc, 0, 0)
  | f + 1, s, q, acc =>
    if q < s.length then
      if s.length < q + 5 then (acc, q, 10)
      else if rnumV ((s.drop q).take 5) < 26 then (acc, q, 12)
      else if s.length < q + (rnumV ((s.drop q).take 5)).toNat then (acc, q, 10)
      else splitM f s (q + (rnumV ((s.drop q).take 5)).toNat) (acc ++ [(s.drop q).take (rnumV ((s.drop q).take 5)).toNat])
    else (acc, 0, 0)
theorem rnumV_small {l : List UInt8} (h : l.length ≤ 5) : -1 ≤ rnumV l ∧ rnumV l < 100000 := by
  unfold rnumV
  split
  · rename_i h1
    have h2 := numW_val l h1 (by omega)
    have h3 := valL_lt l h1
    have h4 : 10 ^ l.length ≤ 10 ^ 5 := Nat.pow_le_pow_right (by decide) h
    rw [h2]
    omega
  · omega
def SplitPost (R : List (List UInt8) × Nat × Nat) (w : World) (e : Ending) (w' : World) : Prop :=
  ∃ sv, e = .returned (.tuple #[sv, .int .i64 (R.2.1 : Nat), .int .i64 (R.2.2 : Nat)]) ∧ w'.ownsRow w.heap.size 9 1 sv R.1.length (R.1.map str) ∧ Below w.heap.size w w'
theorem one_cell (w : World) (c0 : Value) (T : TypeId) (j : Nat) (u : Value) (hu : [c0][j]? = some u) : (w.alloc (.cells #[c0] T)).cell? ((⟨w.heap.size, 0, none⟩ : Addr).add j) = some u := by
  have hj : j < 1 := by
    rcases Nat.lt_or_ge j 1 with h | h
    · exact h
    · rw [List.getElem?_eq_none (by simpa using h)] at hu; cases hu
  rw [add_at, cell_at (new_at _ _)]
  match j, hj with
  | 0, _ => exact hu
set_option maxRecDepth 100000 in
set_option maxHeartbeats 4000000 in
theorem rSplit_c (s : List UInt8) (hl : s.length ≤ 140737488351232) (w : World) :
    Calls Tryd.prog 53 #[str s] w (SplitPost (splitM (s.length + 1) s 0 []) w) := by
  have hsz := size_str s
  obtain ⟨i0', hi, hz0, hz1, hz2⟩ := info_parts infoStrg
  obtain ⟨R, hR⟩ : ∃ R, splitM (s.length + 1) s 0 [] = R := ⟨_, rfl⟩
  rw [hR]
  have HR0 := Lib.hid hR
  clear hR
  unfold SplitPost
  go_enter Tryd.func53, Tryd.ntmps53
  go_wp2
  go_loopw [5, 6] (fun sv iv wr => ∃ (q f : Nat) (acc : List (List UInt8)), q ≤ s.length ∧ s.length + 1 ≤ q + f ∧ iv = .int .i64 q ∧ acc.length * 26 ≤ q ∧ wr.ownsRow w.heap.size 9 1 sv acc.length (acc.map str) ∧ Below w.heap.size w wr ∧ R = splitM f s q acc) (fun _ iv _ => s.length - (intOf iv).toNat)
  case atStart => exact ⟨0, s.length + 1, [], Nat.zero_le _, by omega, rfl, by simp, World.ownsRow_nil _ _ _ _, Below.refl _ _, HR0.out.symm⟩
  case round =>
    obtain ⟨q, f, acc, hq, hf, rfl, hacc, hown, hb, hR⟩ := hrel
    have i0 : (0 : Int) ≤ (q : Int) := by omega
    have hbs := hb.size
    by_cases hlt : q < s.length
    · obtain ⟨g, rfl⟩ : ∃ g, f = g + 1 := ⟨f - 1, by omega⟩
      have i1 : (q : Int) < (s.length : Int) := by omega
      obtain ⟨d, hd0⟩ : ∃ d, s.length - q = d := ⟨_, rfl⟩
      have jd : (s.length : Int) - (q : Int) = (d : Int) := by omega
      unfold splitM at hR
      rw [if_pos hlt] at hR
      by_cases h5 : s.length < q + 5
      · rw [if_pos h5] at hR
        have j5 : (d : Int) < 5 := by omega
        have Hown := Lib.hid hown
        have Hb := Lib.hid hb
        have HR := Lib.hid hR
        clear hown hb hR
        go_wp2
        go_ret3
        rw [HR.out]
        exact ⟨_, rfl, Hown.out, Hb.out⟩
      · rw [if_neg h5] at hR
        have j5 : ¬ ((d : Int) < 5) := by omega
        obtain ⟨z, hz⟩ : ∃ z, q + 5 = z := ⟨_, rfl⟩
        have j6 : (q : Int) + 5 = (z : Int) := by omega
        have j7 : (q : Int) ≤ (z : Int) := by omega
        have j8 : (z : Int) ≤ (s.length : Int) := by omega
        have j9 : (0 : Int) ≤ (z : Int) := by omega
        have hex := ext_mid s q z
        rw [show z - q = 5 by omega] at hex
        obtain ⟨P, hP⟩ : ∃ P, (s.drop q).take 5 = P := ⟨_, rfl⟩
        have hpl : P.length ≤ 5 := by rw [← hP]; simp; omega
        rw [hP] at hex hR
        obtain ⟨hn1, hn2⟩ := rnumV_small hpl
        have hN0 := rNumber_c P (by omega) wr
        obtain ⟨N, hN⟩ : ∃ N, rnumV P = N := ⟨_, rfl⟩
        rw [hN] at hR hn1 hn2 hN0
        have HN := Lib.hid hN0
        have Hown := Lib.hid hown
        have Hb := Lib.hid hb
        clear hown hb hN0 hP hN hz
        by_cases h26 : N < 26
        · rw [if_pos h26] at hR
          have HR := Lib.hid hR
          clear hR
          go_wp2_with fail
          refine HN.out.mono ?_
          rintro e w7 ⟨rfl, rfl⟩
          go_wp2
          go_ret3
          rw [HR.out]
          exact ⟨_, rfl, Hown.out, Hb.out⟩
        · rw [if_neg h26] at hR
          obtain ⟨n, rfl⟩ : ∃ n : Nat, N = (n : Int) := ⟨N.toNat, by omega⟩
          rw [Int.toNat_natCast] at hR
          by_cases hbig : s.length < q + n
          · rw [if_pos hbig] at hR
            have jb : (d : Int) < (n : Int) := by omega
            have j26 : ¬ ((n : Int) < 26) := h26
            clear h26 hbig hn1 hn2 hd0
            have HR := Lib.hid hR
            clear hR
            go_wp2_with fail
            refine HN.out.mono ?_
            rintro e w7 ⟨rfl, rfl⟩
            go_wp2
            go_ret3
            rw [HR.out]
            exact ⟨_, rfl, Hown.out, Hb.out⟩
          · rw [if_neg hbig] at hR
            have jb : ¬ ((d : Int) < (n : Int)) := by omega
            have j26 : ¬ ((n : Int) < 26) := h26
            have hbig2 : q + n ≤ s.length := by omega
            have hn26 : 26 ≤ n := by omega
            obtain ⟨y, hy⟩ : ∃ y, q + n = y := ⟨_, rfl⟩
            have hex2 := ext_mid s q y
            rw [show y - q = n by omega] at hex2
            obtain ⟨Z, hZ⟩ : ∃ Z, (s.drop q).take n = Z := ⟨_, rfl⟩
            rw [hZ] at hex2 hR
            rw [hy] at hR
            have jq : (q : Int) + (n : Int) = (y : Int) := by omega
            have jn : (q : Int) ≤ (y : Int) := by omega
            have jm : (y : Int) ≤ (s.length : Int) := by omega
            have jo : (0 : Int) ≤ (y : Int) := by omega
            have hyq : y ≤ s.length := by omega
            have hyq2 : q + 26 ≤ y := by omega
            have HR := Lib.hid hR
            clear hR hZ hy h26 hbig hn1 hn2 hbig2 hn26 hd0
            go_wp2_with fail
            refine HN.out.mono ?_
            rintro e w7 ⟨rfl, rfl⟩
            go_wp2_with (at_builtin; refine wpList_append_own _ rfl _ _ 46 rfl w.heap.size 9 i0' _ 1 16 Tryd.underlying46 hi hz0 hz1 hz2 rfl (by decide) _ _ _ rfl (Hown.out.alloc _) ⟨w7.heap.size, 0, none⟩ 1 1 [str Z] rfl rfl ?c1 ?c2 ?c3 ?c4 ?c5 ?_)
            case c1 => exact one_cell w7 _ _
            case c2 => simp [Value.oneCell']
            case c3 => unfold maxLen; omega
            case c4 => omega
            case c5 => simp; omega
            intro v' w8 hown8 hgrow _
            have hb8 : Below w.heap.size w w8 := Below.grown (Hb.out.alloc Hb.out.size _) hgrow (by simp; omega) (fun k hk => (Hown.out.lt k hk).1)
            have Hb8 := Lib.hid hb8
            have Hown8 := Lib.hid hown8
            clear hown8 hgrow hb8
            go_wp2
            go_roundw
            case rel => exact ⟨y, g, acc ++ [Z], by omega, by omega, by go_num, by rw [List.length_append]; simp; omega, by rw [List.length_append, List.map_append]; exact Hown8.out, Hb8.out, HR.out⟩
            case measure => simp [intOf]; omega
    · have hkl : q = s.length := by omega
      subst hkl
      have hR2 : R = (acc, 0, 0) := by
        rw [hR]
        cases f with
        | zero => rfl
        | succ g => unfold splitM; rw [if_neg (by omega)]
      have hd : decide (s.length < s.length) = false := by simp
      have Hown := Lib.hid hown
      have Hb := Lib.hid hb
      have HR := Lib.hid hR2
      clear hown hb hR hR2
      go_wp2
      go_ret3
      rw [HR.out]
      exact ⟨_, rfl, Hown.out, Hb.out⟩
end Go.Proofs.YtpfnmjcomdckgaaDoor
