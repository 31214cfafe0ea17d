/-
  One character's UTF-8, by the model's encoder and by the shelf's.
-/
import Derived.Test.YtjndekmpnihamaaDoorMChar
import Derived.Lib.RuneBytes
namespace Go.Proofs.YtjndekmpnihamaaDoor
open Go.RowKit Go.Shelf
set_option linter.unusedVariables false
set_option linter.unusedSimpArgs false

theorem encode_is (c : Int) (h0 : 0 ≤ c) (h1 : c ≤ 1114111) (hs : c < 55296 ∨ 57343 < c) : Utf8.encode c = ⟨(Lib.encodeRune c).toArray⟩ := by
  obtain ⟨n, rfl⟩ : ∃ n : Nat, c = (n : Int) := ⟨c.toNat, by omega⟩
  have hv : Utf8.valid (n : Int) = true := by unfold Utf8.valid; simp; omega
  unfold Utf8.encode
  simp only [hv, if_true, Int.toNat_natCast]
  unfold Lib.encodeRune
  have conv : ∀ z : Int, 0 ≤ z → ∀ k : Nat, z = (k : Int) → z.toNat.toUInt8 = UInt8.ofNat k := by
    intro z hz k hk
    rw [hk]; rfl
  by_cases a1 : n < 128
  · rw [if_pos a1, Lib.encodeRuneZ_one (by omega) (by omega)]
    rfl
  · rw [if_neg a1]
    by_cases a2 : n < 2048
    · rw [if_pos a2, Lib.encodeRuneZ_two (by omega) (by omega)]
      simp only [List.map_cons, List.map_nil]
      rw [conv _ (by omega) (192 + n / 64) (by omega), conv _ (by omega) (128 + n % 64) (by omega)]
    · rw [if_neg a2]
      by_cases a3 : n < 65536
      · rw [if_pos a3, Lib.encodeRuneZ_three (by omega)]
        simp only [List.map_cons, List.map_nil]
        rw [conv _ (by omega) (224 + n / 4096) (by omega), conv _ (by omega) (128 + n / 64 % 64) (by omega), conv _ (by omega) (128 + n % 64) (by omega)]
      · rw [if_neg a3, Lib.encodeRuneZ_four (by omega) (by omega)]
        simp only [List.map_cons, List.map_nil]
        rw [conv _ (by omega) (240 + n / 262144) (by omega), conv _ (by omega) (128 + n / 4096 % 64) (by omega), conv _ (by omega) (128 + n / 64 % 64) (by omega), conv _ (by omega) (128 + n % 64) (by omega)]
theorem rune_is (c : Int) (h0 : 0 ≤ c) (h1 : c ≤ 1114111) (hs : c < 55296 ∨ 57343 < c) : runesBytes [c] = ⟨(Lib.encodeRune c).toArray⟩ := by
  show ByteArray.empty ++ Utf8.encode c = _
  rw [encode_is c h0 h1 hs]
  apply ByteArray.ext
  simp
end Go.Proofs.YtjndekmpnihamaaDoor
