/-
  The walk of CodecSums.
-/
import Derived.Test.YtehacegpnhclnaaHelp
namespace Go.Proofs.Ytehacegpnhclnaa
open Go.RowKit Go.Shelf

set_option maxRecDepth 100000 in
set_option maxHeartbeats 400000 in
theorem walk_CodecSums (l : List UInt8) (hl : l.length ≤ maxLen) (w : World) :
    Calls Try.prog 3 #[str l] w fun e w' => e = .returned (.bool true) ∧ Below w.heap.size w w' := by
  unfold maxLen at hl
  have hsz := size_str l
  have hex : (ByteArray.mk l.toArray).extract 0 (min (l.length : Int) 400).toNat = ⟨(l.take 400).toArray⟩ := ext_min l 400
  have hlt : (l.take 400).length ≤ 140737488355328 := by rw [List.length_take]; omega
  have H1 := Lib.hid (sanity_c w)
  have H2 := Lib.hid (fun W => sum_str (l.take 400) W hlt)
  have H3 := Lib.hid (fun W => rsum_str (l.take 400) W hlt)
  clear hlt
  go_enter Try.func3, Try.ntmps3
  go_wp2_with fail
  refine H1.out.mono ?_
  clear H1
  rintro e w1 ⟨rfl, hb⟩
  go_wp2_with fail
  refine (H2.out _).mono ?_
  rintro e w' ⟨rfl, rfl⟩
  go_wp2_with fail
  refine (H3.out _).mono ?_
  rintro e w' ⟨rfl, rfl⟩
  go_wp2
  go_ret
  exact ⟨rfl, hb⟩
end Go.Proofs.Ytehacegpnhclnaa
