/-
  The walk of CodecSigns.
-/
import Derived.Test.YtehacegpnhclnaaHelp
namespace Go.Proofs.Ytehacegpnhclnaa
open Go.RowKit Go.Shelf

set_option maxRecDepth 100000 in
set_option maxHeartbeats 2000000 in
theorem walk_CodecSigns (n : Int) (hn : Fits n) (m : Nat) (hm : m < 18446744073709551616) (qa qb : Int) (_ha : Fits qa) (_hb : Fits qb) (w : World) :
    Calls Try.prog 8 #[.int .i64 n, .int .u64 (m : Int), .agg #[.int .i64 qa, .int .i64 qb]] w fun e w' => e = .returned (.bool true) ∧ Below w.heap.size w w' := by
  have H1 := Lib.hid (fun W => sanity_c W)
  have H2 := Lib.hid (fun W => near_c qa qb W)
  have S := Lib.hid (fun (k : Int) (hk : Fits k) W => signed_c k W hk.1 hk.2)
  have R := Lib.hid (fun (k : Int) (hk : Fits k) W => rsigned_c k W hk.1 hk.2)
  have U := Lib.hid (fun (k : Int) (h0 : 0 ≤ k) (h1 : k < 18446744073709551616) W => unsigned_c k W h0 h1)
  have V := Lib.hid (fun (k : Int) (h0 : 0 ≤ k) (h1 : k < 18446744073709551616) W => runsigned_c k W h0 h1)
  have SR := Lib.hid (fun (k : Int) (hk : Fits k) => sg_range k hk.1 hk.2)
  have UR := Lib.hid (fun (k : Int) (h0 : 0 ≤ k) (h1 : k < 18446744073709551616) => us_range k h0 h1)
  have hus1 := us_sg
  have hsu1 := sg_us (m : Int) (by omega)
  have m0 : (0 : Int) ≤ (m : Int) := by omega
  have m1 : (m : Int) < 18446744073709551616 := by omega
  have Hn := Lib.hid hn
  clear hn hm
  go_enter Try.func8, Try.ntmps8
  go_wp2_with fail
  refine (H1.out _).mono ?_
  rintro e w1 ⟨rfl, hb1⟩
  have hb1' := below_tr (below_new w _) hb1
  obtain ⟨hc1, _⟩ := bcell hb1
  go_wp2_with fail
  refine (H2.out _).mono ?_
  rintro e w' ⟨⟨x, hx0, hx1, rfl⟩, rfl⟩
  go_wp2_with fail
  refine (S.out _ Hn.out _).mono ?_
  rintro e w' ⟨rfl, rfl⟩
  go_wp2_with fail
  refine (R.out _ Hn.out _).mono ?_
  rintro e w' ⟨rfl, rfl⟩
  go_wp2_with fail
  refine (U.out _ m0 m1 _).mono ?_
  rintro e w' ⟨rfl, rfl⟩
  go_wp2_with fail
  refine (V.out _ m0 m1 _).mono ?_
  rintro e w' ⟨rfl, rfl⟩
  go_wp2_with fail
  refine (S.out _ (fits_wrap x) _).mono ?_
  rintro e w' ⟨rfl, rfl⟩
  go_wp2_with fail
  refine (R.out _ (fits_wrap x) _).mono ?_
  rintro e w' ⟨rfl, rfl⟩
  go_wp2_with fail
  refine (U.out _ hx0 hx1 _).mono ?_
  rintro e w' ⟨rfl, rfl⟩
  go_wp2_with fail
  refine (V.out _ hx0 hx1 _).mono ?_
  rintro e w' ⟨rfl, rfl⟩
  go_wp2_with fail
  refine (S.out _ Hn.out _).mono ?_
  rintro e w' ⟨rfl, rfl⟩
  go_wp2_with fail
  refine (U.out _ (SR.out _ Hn.out).1 (SR.out _ Hn.out).2 _).mono ?_
  rintro e w' ⟨rfl, rfl⟩
  go_wp2_with fail
  refine (U.out _ m0 m1 _).mono ?_
  rintro e w' ⟨rfl, rfl⟩
  go_wp2_with fail
  refine (S.out _ (UR.out _ m0 m1) _).mono ?_
  rintro e w' ⟨rfl, rfl⟩
  go_wp2_with fail
  refine (S.out _ (fits_wrap _) _).mono ?_
  rintro e w' ⟨rfl, rfl⟩
  go_wp2_with fail
  refine (U.out _ (SR.out _ (fits_wrap _)).1 (SR.out _ (fits_wrap _)).2 _).mono ?_
  rintro e w' ⟨rfl, rfl⟩
  go_wp2
  go_ret
  exact ⟨rfl, hb1'⟩
end Go.Proofs.Ytehacegpnhclnaa
