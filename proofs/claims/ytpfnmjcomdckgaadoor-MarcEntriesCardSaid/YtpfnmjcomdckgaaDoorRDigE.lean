/-
  The law's digits: which digits.
-/
import Derived.Test.YtpfnmjcomdckgaaDoorRWrap
namespace Go.Proofs.YtpfnmjcomdckgaaDoor
open Go.RowKit Go.Shelf
set_option linter.unusedVariables false
set_option linter.unusedSimpArgs false

def ThisStr (l : List UInt8) (w : World) (e : Ending) (w' : World) : Prop := e = .returned (str l) ∧ Below w.heap.size w w'
set_option maxRecDepth 100000 in
set_option maxHeartbeats 4000000 in
theorem lawDigE_c (v n : Nat) (hv : v ≤ 1099511627776) (hn : n ≤ 20) (w : World) :
    Calls Tryd.prog 26 #[.int .i64 (v : Int), .int .i64 (n : Int)] w (ThisStr (digsN v n) w) := by
  unfold ThisStr
  obtain ⟨R, hR⟩ : ∃ R, digsN v n = R := ⟨_, rfl⟩
  rw [hR]
  have HR := Lib.hid hR
  clear hR
  go_enter Tryd.func26, Tryd.ntmps26
  go_wp2
  go_loopw [0, 5, 6] (fun vv sv iv wr => ∃ (x k m : Nat) (u : List UInt8), k + m = n ∧ iv = .int .i64 k ∧ vv = .int .i64 x ∧ x ≤ 1099511627776 ∧ sv = str u ∧ u.length = k ∧ Below w.heap.size w wr ∧ R = digsN x m ++ u) (fun _ _ iv _ => n - (intOf iv).toNat)
  case atStart => exact ⟨v, 0, n, [], Nat.zero_add n, rfl, rfl, hv, rfl, rfl, Below.refl _ _, by rw [List.append_nil]; exact HR.out.symm⟩
  case round =>
    obtain ⟨x, k, m, u, hkm, rfl, rfl, hx, rfl, hu, hb, hres⟩ := hrel
    have Hb := Lib.hid hb
    have Hu := Lib.hid hu
    have Hkm := Lib.hid hkm
    have Hres := Lib.hid hres
    by_cases hlt : k < n
    · obtain ⟨m', hm'⟩ : ∃ m', m = m' + 1 := ⟨m - 1, by omega⟩
      have i1 : (k : Int) < (n : Int) := by omega
      have h1 : Int.tdiv (x : Int) 10 = ((x / 10 : Nat) : Int) := by rw [Int.tdiv_eq_ediv_of_nonneg (by omega)]; omega
      have h2 : Int.tmod (x : Int) 10 = ((x % 10 : Nat) : Int) := by rw [Int.tmod_eq_emod_of_nonneg (by omega)]; omega
      have hdg : digsN x (m' + 1) = digsN (x / 10) m' ++ [UInt8.ofNat (48 + x % 10)] := rfl
      obtain ⟨q, hq⟩ : ∃ q, x / 10 = q := ⟨_, rfl⟩
      obtain ⟨r, hr⟩ : ∃ r, x % 10 = r := ⟨_, rfl⟩
      rw [hq] at h1
      rw [hr] at h2
      rw [hq, hr] at hdg
      have hqle : q ≤ 1099511627776 := by omega
      obtain ⟨d, hd⟩ : ∃ d, 48 + r = d := ⟨_, rfl⟩
      have hd1 : (48 : Int) + (r : Int) = (d : Int) := by omega
      have hd2 : d < 256 := by omega
      rw [hd] at hdg
      have hcv := conv1 (UInt8.ofNat d)
      rw [ofNat8 hd2] at hcv
      have ha := add_str [UInt8.ofNat d] u (by rw [hu]; simp; omega)
      have hR2 : R = digsN q m' ++ ([UInt8.ofNat d] ++ u) := by rw [hres, hm', hdg, List.append_assoc]
      obtain ⟨D, hD⟩ : ∃ D, [UInt8.ofNat d] ++ u = D := ⟨_, rfl⟩
      rw [hD] at ha hR2
      have hDl : D.length = k + 1 := by rw [← hD]; simp [hu]
      have HDl := Lib.hid hDl
      have HR2 := Lib.hid hR2
      have Hm' := Lib.hid hm'
      have hw3 : IntKind.u8.wrap (d : Int) = (d : Int) := by rw [IntKind.wrap_u8]; omega
      clear hb hu hD hDl hq hr hd hkm hres hR2 hm' hdg Hres HR
      go_wp2
      go_roundw
      case rel => exact ⟨q, k + 1, m', D, by have := Hkm.out; have := Hm'.out; omega, by go_num, rfl, hqle, rfl, HDl.out, by first | exact Hb.out.alloc Hb.out.size _ | exact (Hb.out.alloc Hb.out.size _).drew | exact Hb.out, HR2.out⟩
      case measure => simp [intOf]; omega
    · have hkn : k = n := by omega
      have hm0 : m = 0 := by omega
      subst hkn
      subst hm0
      have hd2 : decide (k < k) = false := by simp
      clear hb hu hkm hres
      go_wp2
      go_ret
      exact ⟨by rw [Hres.out]; rfl, Hb.out⟩
end Go.Proofs.YtpfnmjcomdckgaaDoor
