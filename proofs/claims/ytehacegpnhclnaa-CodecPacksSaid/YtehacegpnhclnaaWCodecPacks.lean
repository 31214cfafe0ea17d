/-
  The walk of CodecPacks.
-/
import Derived.Test.YtehacegpnhclnaaUn
namespace Go.Proofs.Ytehacegpnhclnaa
open Go.RowKit Go.Shelf

set_option maxRecDepth 100000 in
set_option maxHeartbeats 2000000 in
theorem walk_CodecPacks (sl : Value) (l : List (List UInt8)) (many : Int) (_hn : Fits many) (w : World) (hr : Reads encS w sl l) :
    Calls Try.prog 9 #[sl, .int .i64 many] w fun e w' => e = .returned (.bool true) ∧ Below w.heap.size w w' := by
  have H1 := Lib.hid (fun W => sanity_c W)
  have Hr := Lib.hid hr
  clear hr
  go_enter Try.func9, Try.ntmps9
  go_wp2_with fail
  refine (H1.out _).mono ?_
  clear H1
  rintro e w1 ⟨rfl, hb1⟩
  have H2 := Lib.hid (some_c sl l many w1 (Hr.out.below hb1 rfl))
  have Hb1 := Lib.hid hb1
  clear hb1
  go_wp2_with fail
  refine H2.out.mono ?_
  clear H2
  rintro e w2 ⟨x, out, rfl, hown, hlen, hsm, hb2⟩
  obtain ⟨hpl, hun⟩ := some_pack hlen hsm
  have hrx := reads_of_own hown
  have H3 := Lib.hid (pack_c x out w2 hrx (by omega))
  have Hrx := Lib.hid hrx
  have Hb2 := Lib.hid (below_tr Hb1.out hb2)
  have Hpl := Lib.hid hpl
  have Hun := Lib.hid hun
  clear hown hlen hsm hrx hb2 Hb1 hpl hun
  go_wp2_with fail
  refine H3.out.mono ?_
  clear H3
  rintro e w3 ⟨rfl, hb3⟩
  have hrx3 := Hrx.out.below hb3 rfl
  have h4 := unpack_c (pack out) w3 (by have := Hpl.out; omega)
  rw [Hun.out] at h4
  have H4 := Lib.hid h4
  have Hb3 := Lib.hid (below_tr Hb2.out hb3)
  have Hrx3 := Lib.hid hrx3
  clear h4 hb3 Hb2 hrx3 Hrx
  go_wp2_with fail
  refine H4.out.mono ?_
  clear H4
  rintro e w4 ⟨y, rfl, hown, hb4⟩
  have hry := reads_of_own hown
  have hrx4 := Hrx3.out.below hb4 rfl
  have H5 := Lib.hid (strings_eq hrx4 hry)
  have Hrx4 := Lib.hid hrx4
  have Hb4 := Lib.hid (below_tr Hb3.out hb4)
  clear hown hb4 hry hrx4 Hrx3 Hb3
  go_wp2_with fail
  refine H5.out.mono ?_
  clear H5
  rintro e w5 ⟨rfl, hb5⟩
  have H6 := Lib.hid (rpack_c x out w5 (Hrx4.out.below hb5 rfl) (by have := Hpl.out; omega))
  have Hb5 := Lib.hid (below_tr Hb4.out hb5)
  clear hb5 Hb4 Hrx4
  go_wp2_with fail
  refine H6.out.mono ?_
  clear H6
  rintro e w6 ⟨rfl, hb6⟩
  have Hb6 := Lib.hid (below_tr Hb5.out hb6)
  clear hb6 Hb5
  go_wp2
  go_ret
  exact ⟨rfl, Hb6.out⟩
end Go.Proofs.Ytehacegpnhclnaa
