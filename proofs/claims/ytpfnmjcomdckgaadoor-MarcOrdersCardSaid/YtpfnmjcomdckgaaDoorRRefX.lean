/-
  The reference's fixed and Write.
-/
import Derived.Test.YtpfnmjcomdckgaaDoorRRefW
import Derived.Deep.RegionWith
namespace Go.Proofs.YtpfnmjcomdckgaaDoor
open Go.RowKit Go.Shelf
set_option linter.unusedVariables false
set_option linter.unusedSimpArgs false

theorem bcell {W w1 : World} (hb : Below W.heap.size W w1) : (∀ b o, b < W.heap.size → w1.cell? ⟨b, o, none⟩ = W.cell? ⟨b, o, none⟩) ∧ (∀ b o, b < W.heap.size → w1.frozen? ⟨b, o, none⟩ = W.frozen? ⟨b, o, none⟩) :=
  ⟨fun b o h => hb.cell (p := ⟨b, o, none⟩) h, fun b o h => hb.frozen (p := ⟨b, o, none⟩) h⟩
theorem ofNat8 {n : Nat} (h : n < 256) : ((UInt8.ofNat n).toNat : Int) = (n : Int) := by
  have : (UInt8.ofNat n).toNat = n := by rw [UInt8.toNat_ofNat']; omega
  rw [this]
set_option maxRecDepth 100000 in
set_option maxHeartbeats 2000000 in
theorem fixed_step (v q r d k : Nat) (w : World) (hk : k ≤ 20) (hq : Int.tdiv (v : Int) 10 = (q : Int)) (hr : Int.tmod (v : Int) 10 = (r : Int)) (hd : 48 + (r : Int) = (d : Int)) (hd2 : d < 256) (hv : v ≤ 1099511627776) (hq2 : q ≤ 1099511627776)
    (ih : ∀ w, Calls Tryd.prog 46 #[.int .i64 (q : Int), .int .i64 (k : Int)] w (StrPost (digsN q k) w)) :
    Calls Tryd.prog 46 #[.int .i64 (v : Int), .int .i64 ((k : Int) + 1)] w (StrPost (digsN q k ++ [UInt8.ofNat d]) w) := by
  unfold StrPost
  have hcv := conv1 (UInt8.ofNat d)
  rw [ofNat8 hd2] at hcv
  have hl := digsN_len k q
  have ha := add_str (digsN q k) [UInt8.ofNat d] (by rw [hl]; simp; omega)
  obtain ⟨D, hD⟩ : ∃ D, digsN q k ++ [UInt8.ofNat d] = D := ⟨_, rfl⟩
  rw [hD] at ha ⊢
  have hw1 : IntKind.i64.wrap (k : Int) = (k : Int) := IntWalk.i64_in _ (by constructor <;> omega)
  have hw2 : IntKind.i64.wrap (d : Int) = (d : Int) := IntWalk.i64_in _ (by constructor <;> omega)
  have hw3 : IntKind.u8.wrap (d : Int) = (d : Int) := by rw [IntKind.wrap_u8]; omega
  have hw4 : IntKind.i64.wrap (q : Int) = (q : Int) := IntWalk.i64_in _ (by constructor <;> omega)
  have IH := Lib.hid ih
  have hz : (((k : Int) + 1) == 0) = false := by rw [beq_eq_false_iff_ne]; omega
  clear ih hl hD
  go_enter Tryd.func46, Tryd.ntmps46
  go_wp2_with fail
  go_region_with (go_at_call 46; (with_reducible refine (IH.out _).mono ?_); rintro e W2 ⟨rfl, hb⟩; obtain ⟨hk4, _⟩ := bcell hb)
  all_goals
    go_wp2
    go_ret
    first
      | exact ⟨rfl, ((Below.refl _ w).alloc (Nat.le_refl _) _).drew.trans (hb.mono (by simp))⟩
      | exact ⟨rfl, ((Below.refl _ w).drew.trans hb).alloc (by have := hb.size; simpa using this) _⟩
theorem fixed_c : ∀ (k v : Nat) (w : World), k ≤ 20 → v ≤ 1099511627776 → Calls Tryd.prog 46 #[.int .i64 (v : Int), .int .i64 (k : Int)] w (StrPost (digsN v k) w)
  | 0, v, w, _, _ => by
    unfold StrPost
    go_enter Tryd.func46, Tryd.ntmps46
    go_wp2
    go_ret
    exact ⟨rfl, Below.refl _ _⟩
  | k + 1, v, w, hk, hv => by
    have h1 : Int.tdiv (v : Int) 10 = ((v / 10 : Nat) : Int) := by rw [Int.tdiv_eq_ediv_of_nonneg (by omega)]; omega
    have h2 : Int.tmod (v : Int) 10 = ((v % 10 : Nat) : Int) := by rw [Int.tmod_eq_emod_of_nonneg (by omega)]; omega
    have := fixed_step v (v / 10) (v % 10) (48 + v % 10) k w (by omega) h1 h2 (by push_cast; rfl) (by omega) hv (by omega) (fun w => fixed_c k (v / 10) w (by omega) (by omega))
    exact this
end Go.Proofs.YtpfnmjcomdckgaaDoor
