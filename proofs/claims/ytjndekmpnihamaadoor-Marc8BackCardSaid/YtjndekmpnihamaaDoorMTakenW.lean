/-
  The reference's Taken.
-/
import Derived.Test.YtjndekmpnihamaaDoorMRefP
namespace Go.Proofs.YtjndekmpnihamaaDoor
open Go.RowKit Go.Shelf
set_option linter.unusedVariables false
set_option linter.unusedSimpArgs false

def compOk (p : Int × Int × Int) : Bool := decide (0 ≤ p.2.1) && decide (p.2.1 < 55296) && decide (0 < p.2.2) && decide (p.2.2 < 55296)
theorem comp_ok : composedL.all compOk = true := by decide +kernel
theorem comp_in {c : Int} {x : Int × Int} (h : compC c = some x) : 0 ≤ x.1 ∧ x.1 < 55296 ∧ 0 < x.2 ∧ x.2 < 55296 := by
  have := List.all_eq_true.1 comp_ok _ (compC_mem h)
  unfold compOk at this
  simp only [Bool.and_eq_true, decide_eq_true_eq] at this
  omega
theorem char_s (c : Int) (h0 : 0 ≤ c) (h1 : c ≤ 1114111) (hs : c < 55296 ∨ 57343 < c) (w : World) :
    Calls Tryd.prog 20 #[.int .i64 c] w fun e w' => e = .returned (str (Lib.encodeRune c)) ∧ Below w.heap.size w w' := by
  have := char_c c h0 h1 w
  rw [rune_is c h0 h1 hs] at this
  exact this
theorem rune_len (c : Int) : (Lib.encodeRune c).length ≤ 4 := by
  rw [← Lib.runeCells_length]; exact (Lib.runeCells_le c).2
set_option maxRecDepth 100000 in
set_option maxHeartbeats 4000000 in
theorem taken_c (l : List UInt8) (hl : l.length ≤ 100000) (w : World) :
    Calls Tryd.prog 12 #[str l] w fun e w' => e = .returned (str (takM l)) ∧ Below w.heap.size w w' := by
  obtain ⟨cap, W5, hconv, hb5, hlt5, hc5⟩ := run_runes w l (by omega)
  have hlen := runesR_len l.length l
  have hok := runesR_ok l.length l
  have htk : takM l = (runesR l.length l).flatMap takenC := takR_eq _ _
  obtain ⟨R, hR⟩ : ∃ R, runesR l.length l = R := ⟨_, rfl⟩
  rw [hR] at hconv hc5 hlen hok htk
  have Hb5 := Lib.hid hb5
  have Hc5 := Lib.hid hc5
  have Hok := Lib.hid hok
  rw [htk]
  clear hb5 hc5 hok hR htk
  go_enter Tryd.func12, Tryd.ntmps12
  go_wp2
  clear hconv
  go_loopw [3, 5] (fun sv i wr => ∃ k : Nat, k ≤ R.length ∧ i = .int .i64 k ∧ sv = str ((R.take k).flatMap takenC) ∧ ((R.take k).flatMap takenC).length ≤ 8 * k ∧ Below W5.heap.size W5 wr) (fun _ i _ => R.length - (intOf i).toNat)
  case atStart => exact ⟨0, Nat.zero_le _, rfl, rfl, by simp, Below.refl _ _⟩
  case round =>
    obtain ⟨k, hk, rfl, rfl, hol, hb⟩ := hrel
    by_cases hlt : k < R.length
    · have hcn := (hb.cell (p := ⟨w.heap.size, k, none⟩) hlt5).trans (Hc5.out k hlt)
      have htk : R.take (k + 1) = R.take k ++ [R[k]] := by rw [List.take_succ_eq_append_getElem hlt]
      obtain ⟨x0, x1, x2⟩ := Hok.out _ (List.getElem_mem hlt)
      have i0 : (0 : Int) ≤ (k : Int) := by omega
      have i1 : (k : Int) < (R.length : Int) := by omega
      obtain ⟨x, hx⟩ : ∃ x, R[k] = x := ⟨_, rfl⟩
      rw [hx] at x0 x1 x2 htk hcn
      have N1 := Lib.hid (parts_c x wr)
      obtain ⟨S, hS⟩ : ∃ S, (R.take k).flatMap takenC = S := ⟨_, rfl⟩
      have hfl : (R.take (k + 1)).flatMap takenC = S ++ takenC x := by rw [htk, List.flatMap_append, hS]; simp
      rw [hS] at hol ⊢
      have Hfl := Lib.hid hfl
      have Hb := Lib.hid hb
      clear hb htk hfl hx hS
      cases hcp : compC x with
      | none =>
        have N1' := N1.out
        unfold partsV at N1'
        rw [hcp] at N1'
        have N1 := Lib.hid N1'
        have htx : takenC x = Lib.encodeRune x := by unfold takenC; rw [hcp]
        rw [htx] at Hfl
        have N2 := Lib.hid (fun W => char_s x x0 x1 x2 W)
        have hle := rune_len x
        obtain ⟨E, hE⟩ : ∃ E, Lib.encodeRune x = E := ⟨_, rfl⟩
        rw [hE] at N2 Hfl hle
        have ha := add_str S E (by omega)
        clear N1' htx hcp x2 hE
        go_wp2_with fail
        refine N1.out.mono ?_
        rintro e w6 ⟨rfl, hb6⟩
        have Hb6 := Lib.hid (Hb.out.trans (hb6.mono Hb.out.size))
        clear hb6
        go_wp2_with fail
        refine (N2.out _).mono ?_
        rintro e w7 ⟨rfl, hb7⟩
        have Hb7 := Lib.hid (Hb6.out.trans (hb7.mono Hb6.out.size))
        clear hb7
        go_wp2
        go_roundw
        case rel => exact ⟨k + 1, by omega, by go_num, by rw [Hfl.out], by rw [Hfl.out, List.length_append]; omega, Hb7.out⟩
        case measure => simp [intOf]; omega
      | some p =>
        obtain ⟨p0, p1, q0, q1⟩ := comp_in hcp
        obtain ⟨y, z⟩ := p
        simp only at p0 p1 q0 q1
        have N1' := N1.out
        unfold partsV at N1'
        rw [hcp] at N1'
        have N1 := Lib.hid N1'
        have htx : takenC x = Lib.encodeRune y ++ Lib.encodeRune z := by unfold takenC; rw [hcp]
        rw [htx] at Hfl
        have N2 := Lib.hid (fun W => char_s y p0 (by omega) (.inl p1) W)
        have N3 := Lib.hid (fun W => char_s z (by omega) (by omega) (.inl q1) W)
        have hle := rune_len y
        have hle2 := rune_len z
        obtain ⟨E, hE⟩ : ∃ E, Lib.encodeRune y = E := ⟨_, rfl⟩
        obtain ⟨G, hG⟩ : ∃ G, Lib.encodeRune z = G := ⟨_, rfl⟩
        rw [hE] at N2 Hfl hle
        rw [hG] at N3 Hfl hle2
        have ha := add_str S E (by omega)
        have ha2 := add_str (S ++ E) G (by rw [List.length_append]; omega)
        clear N1' htx hcp x2 hE hG
        go_wp2_with fail
        refine N1.out.mono ?_
        rintro e w6 ⟨rfl, hb6⟩
        have Hb6 := Lib.hid (Hb.out.trans (hb6.mono Hb.out.size))
        clear hb6
        go_wp2_with fail
        refine (N2.out _).mono ?_
        rintro e w7 ⟨rfl, hb7⟩
        have Hb7 := Lib.hid (Hb6.out.trans (hb7.mono Hb6.out.size))
        clear hb7
        go_wp2_with fail
        refine (N3.out _).mono ?_
        rintro e w8 ⟨rfl, hb8⟩
        have Hb8 := Lib.hid (Hb7.out.trans (hb8.mono Hb7.out.size))
        clear hb8
        go_wp2
        go_roundw
        case rel => exact ⟨k + 1, by omega, by go_num, by rw [Hfl.out], by rw [Hfl.out, List.length_append, List.length_append]; omega, Hb8.out⟩
        case measure => simp [intOf]; omega
    · have hkl : k = R.length := by omega
      subst hkl
      rw [List.take_length]
      have hd2 : decide (R.length < R.length) = false := by simp
      have Hb := Lib.hid (Hb5.out.trans (hb.mono Hb5.out.size))
      clear hb
      go_wp2
      go_ret
      exact ⟨rfl, Hb.out⟩
end Go.Proofs.YtjndekmpnihamaaDoor
