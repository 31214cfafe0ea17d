/-
  The walk of MarcFields.
-/
import Derived.Test.YtpfnmjcomdckgaaDoorRWrap
import Derived.Test.YtpfnmjcomdckgaaDoorRParses
import Derived.Test.YtpfnmjcomdckgaaDoorRMade
namespace Go.Proofs.YtpfnmjcomdckgaaDoor
open Go.RowKit Go.Shelf
set_option linter.unusedVariables false
set_option linter.unusedSimpArgs false

set_option maxRecDepth 100000 in
set_option maxHeartbeats 8000000 in
theorem fields_walk (hP : ParsesC) (t : List UInt8) (c : Int) (w : World) (ht : t.length ≤ 140737488351232) (hc : Fits c) (hT : Tabs w) :
    Calls Tryd.prog 6 #[str t, .int .i64 c] w (Yes w) := by
  have Hs := Lib.hid (sanity_c w hT)
  unfold Yes at Hs ⊢
  have hszt := size_str t
  obtain ⟨mm, hmm⟩ : ∃ mm, min t.length 40 = mm := ⟨_, rfl⟩
  have m0 : min (t.length : Int) 40 = (mm : Int) := by omega
  have m1 : (mm : Int) ≤ (t.length : Int) := by omega
  have m2 : (0 : Int) ≤ (mm : Int) := by omega
  have hex := ext_take t mm
  obtain ⟨Z, hZ⟩ : ∃ Z, t.take mm = Z := ⟨_, rfl⟩
  have hzl : Z.length ≤ 40 := by rw [← hZ]; simp; omega
  rw [hZ] at hex
  have MD := Lib.hid (fun W => mod_c c 2 (by decide) (by decide) hc W)
  have hj := modN_lt (n := c) (m := 2) (by decide)
  obtain ⟨j, hjj⟩ : ∃ j, modN c 2 = j := ⟨_, rfl⟩
  rw [hjj] at hj MD
  have hj2 : j < 2 := by omega
  have j0 : (0 : Int) ≤ (j : Int) := by omega
  have j1 : (j : Int) < 2 := by omega
  have htg := tags2_at hj2
  have htl := tags2_le hj2
  obtain ⟨T, hTe⟩ : ∃ T, tags2L.getD j [] = T := ⟨_, rfl⟩
  rw [hTe] at htg htl
  have HT := Lib.hid hT
  have HP := Lib.hid hP
  clear hT hP hmm hZ hjj hTe hj hj2
  go_enter Tryd.func6, Tryd.ntmps6
  go_wp2_with fail
  refine Hs.out.mono ?_
  rintro e w1 ⟨rfl, hb1⟩
  have hT1 := tabs_below HT.out hb1
  obtain ⟨W2, hW2⟩ : ∃ W2, w1.alloc (.cells #[.string ⟨#[48, 48, 49]⟩, .string ⟨#[50, 52, 53]⟩] 9) = W2 := ⟨_, rfl⟩
  have hn2 : W2.heap[w1.heap.size]? = some (.cells tags2A 9 (0, 0)) := by rw [← hW2]; exact new_at _ _
  have hb2 : Below w.heap.size w W2 := by rw [← hW2]; exact hb1.alloc hb1.size _
  have hT2 : Tabs W2 := by rw [← hW2]; exact tabs_below hT1 (below_new _ _)
  have x0 : W2.cell? ⟨w1.heap.size, j, none⟩ = some (str T) := by rw [cell_at hn2]; exact htg
  have Hb2 := Lib.hid hb2
  have HT2 := Lib.hid hT2
  clear hb1 hT1 hn2 hb2 hT2 Hs htg HT
  go_wp2_with fail
  clear hW2
  refine (MD.out _).mono ?_
  rintro e w3 ⟨rfl, rfl⟩
  obtain ⟨W4, hW4⟩ : ∃ W4, W2.alloc (.cells #[.string ⟨#[]⟩, .string ⟨#[49, 48]⟩, .string ⟨#[49, 48, 31]⟩, .string ⟨#[49, 48, 31, 97]⟩, .string ⟨#[49, 48, 31, 97, 84, 31]⟩] 9) = W4 := ⟨_, rfl⟩
  have hn4 : W4.heap[W2.heap.size]? = some (.cells headsA 9 (0, 0)) := by rw [← hW4]; exact new_at _ _
  have hb4 : Below w.heap.size w W4 := by rw [← hW4]; exact Hb2.out.alloc Hb2.out.size _
  have hT4 : Tabs W4 := by rw [← hW4]; exact tabs_below HT2.out (below_new _ _)
  have HT4 := Lib.hid hT4
  have Hb4 := Lib.hid hb4
  have Hn4 := Lib.hid hn4
  clear hn4 hb4 hT4 Hb2 HT2
  go_wp2_with fail
  clear hW4 x0
  obtain ⟨hb, hhb⟩ : ∃ hb, W2.heap.size = hb := ⟨_, rfl⟩
  rw [hhb] at Hn4 ⊢
  clear hhb
  go_loopw [9] (fun iv wr => ∃ k : Nat, k ≤ 5 ∧ iv = .int .i64 k ∧ Below W4.heap.size W4 wr) (fun iv _ => 5 - (intOf iv).toNat)
  case atStart => exact ⟨0, by decide, rfl, Below.refl _ _⟩
  case round =>
    obtain ⟨k, hk, rfl, hbr⟩ := hrel
    by_cases hlt : k < 5
    · have hn := heap_below hbr Hn4.out
      have i0 : (0 : Int) ≤ (k : Int) := by omega
      have i1 : (k : Int) < 5 := by omega
      have x0 : wr.cell? ⟨hb, k, none⟩ = some (str (headsL.getD k [])) := by rw [cell_at hn]; exact heads_at hlt
      have hhl := heads_le hlt
      obtain ⟨H, hH⟩ : ∃ H, headsL.getD k [] = H := ⟨_, rfl⟩
      rw [hH] at x0 hhl
      have a1 := add_str H Z (by omega)
      obtain ⟨G, hG⟩ : ∃ G, H ++ Z = G := ⟨_, rfl⟩
      have hGl : G.length ≤ 46 := by rw [← hG]; simp; omega
      rw [hG] at a1
      have a2 := add_str G [30] (by simp; omega)
      obtain ⟨K, hK⟩ : ∃ K, G ++ [30] = K := ⟨_, rfl⟩
      have hKl : K.length ≤ 47 := by rw [← hK]; simp; omega
      rw [hK] at a2
      have W1 := Lib.hid (fun W => wrapped_c T K htl (by omega) W)
      have W2' := Lib.hid (fun W => wrapped_c T G htl (by omega) W)
      have Hbr := Lib.hid hbr
      have HTr := Lib.hid (tabs_below HT4.out hbr)
      clear hn hH hG hK hbr hGl hKl hhl
      go_wp2_with fail
      refine (W1.out _).mono ?_
      rintro e w5 ⟨u, hu, rfl, hb5⟩
      have P5 := Lib.hid (HP.out u w5 (by omega) (tabs_below HTr.out hb5))
      have Hb5 := Lib.hid (Hbr.out.trans (hb5.mono Hbr.out.size))
      have HT5 := Lib.hid (tabs_below HTr.out hb5)
      clear hb5 hu W1
      unfold Yes at P5
      go_wp2_with fail
      refine P5.out.mono ?_
      rintro e w6 ⟨rfl, hb6⟩
      have Hb6 := Lib.hid (Hb5.out.trans (hb6.mono Hb5.out.size))
      have HT6 := Lib.hid (tabs_below HT5.out hb6)
      clear hb6 P5
      go_wp2_with fail
      refine (W2'.out _).mono ?_
      rintro e w7 ⟨u7, hu7, rfl, hb7⟩
      have P7 := Lib.hid (HP.out u7 w7 (by omega) (tabs_below HT6.out hb7))
      have Hb7 := Lib.hid (Hb6.out.trans (hb7.mono Hb6.out.size))
      clear hb7 hu7 W2'
      unfold Yes at P7
      go_wp2_with fail
      refine P7.out.mono ?_
      rintro e w8 ⟨rfl, hb8⟩
      have Hb8 := Lib.hid (Hb7.out.trans (hb8.mono Hb7.out.size))
      clear hb8 P7 x0
      go_wp2
      go_roundw
      case rel => exact ⟨k + 1, by omega, by go_num, Hb8.out⟩
      case measure => simp [intOf]; omega
    · have hk5 : k = 5 := by omega
      subst hk5
      have Hbr := Lib.hid (Hb4.out.trans (hbr.mono Hb4.out.size))
      clear hbr
      go_wp2
      go_ret
      exact ⟨rfl, Hbr.out⟩
theorem walk_MarcFields (t : List UInt8) (ht : t.length ≤ 140737488351232) (c : Int) (hc : Fits c) (w : World) (hT : Tabs w) :
    Calls Tryd.prog 6 #[str t, .int .i64 c] w (Yes w) := fields_walk (fun l w hl hT => parses_c l hl w hT) t c w ht hc hT
end Go.Proofs.YtpfnmjcomdckgaaDoor
