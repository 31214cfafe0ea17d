/-
  The law's digits and wrapped: strings of some bytes.
-/
import Derived.Test.YtpfnmjcomdckgaaDoorRRefX
import Derived.Test.YtpfnmjcomdckgaaDoorRSan
namespace Go.Proofs.YtpfnmjcomdckgaaDoor
open Go.RowKit Go.Shelf
set_option linter.unusedVariables false
set_option linter.unusedSimpArgs false

def SomeStr (n : Nat) (w : World) (e : Ending) (w' : World) : Prop := ∃ u : List UInt8, u.length = n ∧ e = .returned (str u) ∧ Below w.heap.size w w'
/-- At every string of a size that can be, the law's parses is true. -/
def ParsesC : Prop := ∀ (l : List UInt8) (w : World), l.length ≤ 1099511627776 → Tabs w → Calls Tryd.prog 23 #[str l] w (Yes w)
set_option maxRecDepth 100000 in
set_option maxHeartbeats 4000000 in
theorem lawDig_c (v n : Nat) (hv : v ≤ 1099511627776) (hn : n ≤ 20) (w : World) :
    Calls Tryd.prog 26 #[.int .i64 (v : Int), .int .i64 (n : Int)] w (SomeStr n w) := by
  unfold SomeStr
  go_enter Tryd.func26, Tryd.ntmps26
  go_wp2
  go_loopw [0, 5, 6] (fun vv sv iv wr => ∃ (x k : Nat) (u : List UInt8), k ≤ n ∧ iv = .int .i64 k ∧ vv = .int .i64 x ∧ x ≤ 1099511627776 ∧ sv = str u ∧ u.length = k ∧ Below w.heap.size w wr) (fun _ _ iv _ => n - (intOf iv).toNat)
  case atStart => exact ⟨v, 0, [], Nat.zero_le _, rfl, rfl, hv, rfl, rfl, Below.refl _ _⟩
  case round =>
    obtain ⟨x, k, u, hk, rfl, rfl, hx, rfl, hu, hb⟩ := hrel
    have Hb := Lib.hid hb
    have Hu := Lib.hid hu
    by_cases hlt : k < n
    · have i1 : (k : Int) < (n : Int) := by omega
      have h1 : Int.tdiv (x : Int) 10 = ((x / 10 : Nat) : Int) := by rw [Int.tdiv_eq_ediv_of_nonneg (by omega)]; omega
      have h2 : Int.tmod (x : Int) 10 = ((x % 10 : Nat) : Int) := by rw [Int.tmod_eq_emod_of_nonneg (by omega)]; omega
      obtain ⟨q, hq⟩ : ∃ q, x / 10 = q := ⟨_, rfl⟩
      obtain ⟨r, hr⟩ : ∃ r, x % 10 = r := ⟨_, rfl⟩
      rw [hq] at h1
      rw [hr] at h2
      have hqle : q ≤ 1099511627776 := by omega
      obtain ⟨d, hd⟩ : ∃ d, 48 + r = d := ⟨_, rfl⟩
      have hd1 : (48 : Int) + (r : Int) = (d : Int) := by omega
      have hd2 : d < 256 := by omega
      have hcv := conv1 (UInt8.ofNat d)
      rw [ofNat8 hd2] at hcv
      have ha := add_str [UInt8.ofNat d] u (by rw [hu]; simp; omega)
      obtain ⟨D, hD⟩ : ∃ D, [UInt8.ofNat d] ++ u = D := ⟨_, rfl⟩
      rw [hD] at ha
      have hDl : D.length = k + 1 := by rw [← hD]; simp [hu]
      have HDl := Lib.hid hDl
      have hw3 : IntKind.u8.wrap (d : Int) = (d : Int) := by rw [IntKind.wrap_u8]; omega
      clear hb hu hD hDl hq hr hd
      go_wp2
      go_roundw
      case rel => exact ⟨q, k + 1, D, by omega, by go_num, rfl, hqle, rfl, HDl.out, by first | exact Hb.out.alloc Hb.out.size _ | exact (Hb.out.alloc Hb.out.size _).drew | exact Hb.out⟩
      case measure => simp [intOf]; omega
    · have hkn : k = n := by omega
      subst hkn
      have hd2 : decide (k < k) = false := by simp
      clear hb hu
      go_wp2
      go_ret
      exact ⟨u, Hu.out, rfl, Hb.out⟩
set_option maxRecDepth 100000 in
set_option maxHeartbeats 4000000 in
theorem wrapped_c (t f : List UInt8) (ht : t.length = 3) (hf : f.length ≤ 1000) (w : World) :
    Calls Tryd.prog 24 #[str t, str f] w fun e w' => ∃ u : List UInt8, u.length ≤ 2000 ∧ e = .returned (str u) ∧ Below w.heap.size w w' := by
  obtain ⟨n, hn⟩ : ∃ n, f.length = n := ⟨_, rfl⟩
  have hszf := size_str f
  rw [hn] at hszf hf
  obtain ⟨n38, hn38⟩ : ∃ n38, 38 + n = n38 := ⟨_, rfl⟩
  have j38 : (38 : Int) + (n : Int) = (n38 : Int) := by omega
  have D1 := Lib.hid (fun W => lawDig_c n38 5 (by omega) (by decide) W)
  have D2 := Lib.hid (fun W => lawDig_c n 4 (by omega) (by decide) W)
  have Hn := Lib.hid hn
  unfold SomeStr at D1 D2
  clear hn hn38
  go_enter Tryd.func24, Tryd.ntmps24
  go_wp2_with fail
  refine (D1.out _).mono ?_
  rintro e w1 ⟨u1, hu1, rfl, hb1⟩
  have a1 := add_str u1 [110, 97, 109, 32, 97, 50, 50, 48, 48, 48, 51, 55, 32, 32, 32, 52, 53, 48, 48] (by rw [hu1]; simp)
  obtain ⟨A1, hA1⟩ : ∃ A1, u1 ++ [110, 97, 109, 32, 97, 50, 50, 48, 48, 48, 51, 55, 32, 32, 32, 52, 53, 48, 48] = A1 := ⟨_, rfl⟩
  have l1 : A1.length = 24 := by rw [← hA1]; simp [hu1]
  rw [hA1] at a1
  have a2 := add_str A1 t (by omega)
  obtain ⟨A2, hA2⟩ : ∃ A2, A1 ++ t = A2 := ⟨_, rfl⟩
  have l2 : A2.length = 27 := by rw [← hA2]; simp [l1, ht]
  rw [hA2] at a2
  have Hb1 := Lib.hid hb1
  have L2 := Lib.hid l2
  clear hb1 hA1 hA2 l1 l2 hu1 ht
  go_wp2_with fail
  refine (D2.out _).mono ?_
  rintro e w2 ⟨u2, hu2, rfl, hb2⟩
  have a3 := add_str A2 u2 (by rw [L2.out]; omega)
  obtain ⟨A3, hA3⟩ : ∃ A3, A2 ++ u2 = A3 := ⟨_, rfl⟩
  have l3 : A3.length = 31 := by rw [← hA3]; simp [L2.out, hu2]
  rw [hA3] at a3
  have a4 := add_str A3 [48, 48, 48, 48, 48, 30] (by rw [l3]; simp)
  obtain ⟨A4, hA4⟩ : ∃ A4, A3 ++ [48, 48, 48, 48, 48, 30] = A4 := ⟨_, rfl⟩
  have l4 : A4.length = 37 := by rw [← hA4]; simp [l3]
  rw [hA4] at a4
  have a5 := add_str A4 f (by rw [l4, Hn.out]; omega)
  obtain ⟨A5, hA5⟩ : ∃ A5, A4 ++ f = A5 := ⟨_, rfl⟩
  have l5 : A5.length = 37 + n := by rw [← hA5]; simp [l4, Hn.out]
  rw [hA5] at a5
  have a6 := add_str A5 [29] (by rw [l5]; simp; omega)
  obtain ⟨A6, hA6⟩ : ∃ A6, A5 ++ [29] = A6 := ⟨_, rfl⟩
  have l6 : A6.length ≤ 2000 := by rw [← hA6]; simp [l5]; omega
  rw [hA6] at a6
  have Hb2 := Lib.hid (Hb1.out.trans (hb2.mono Hb1.out.size))
  have L6 := Lib.hid l6
  clear hb2 hA3 hA4 hA5 hA6 l3 l4 l5 l6 hu2 a1 a2
  go_wp2
  go_ret
  exact ⟨A6, L6.out, rfl, Hb2.out⟩
def headsL : List (List UInt8) := [[], [49, 48], [49, 48, 31], [49, 48, 31, 97], [49, 48, 31, 97, 84, 31]]
def headsA : Array Value := #[.string ⟨#[]⟩, .string ⟨#[49, 48]⟩, .string ⟨#[49, 48, 31]⟩, .string ⟨#[49, 48, 31, 97]⟩, .string ⟨#[49, 48, 31, 97, 84, 31]⟩]
theorem heads_at {j : Nat} (h : j < 5) : headsA[j]? = some (str (headsL.getD j [])) := by
  match j, h with
  | 0, _ => rfl | 1, _ => rfl | 2, _ => rfl | 3, _ => rfl | 4, _ => rfl
theorem heads_le {j : Nat} (h : j < 5) : (headsL.getD j []).length ≤ 6 := by
  match j, h with
  | 0, _ => decide | 1, _ => decide | 2, _ => decide | 3, _ => decide | 4, _ => decide
def tags2L : List (List UInt8) := [[48, 48, 49], [50, 52, 53]]
def tags2A : Array Value := #[.string ⟨#[48, 48, 49]⟩, .string ⟨#[50, 52, 53]⟩]
theorem tags2_at {j : Nat} (h : j < 2) : tags2A[j]? = some (str (tags2L.getD j [])) := by
  match j, h with
  | 0, _ => rfl | 1, _ => rfl
theorem tags2_le {j : Nat} (h : j < 2) : (tags2L.getD j []).length = 3 := by
  match j, h with
  | 0, _ => rfl | 1, _ => rfl
end Go.Proofs.YtpfnmjcomdckgaaDoor
