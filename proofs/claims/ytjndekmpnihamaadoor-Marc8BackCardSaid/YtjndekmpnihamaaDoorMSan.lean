/-
  sanity: the examples of the chapter.
-/
import Derived.Test.YtjndekmpnihamaaDoorMEncode
namespace Go.Proofs.YtjndekmpnihamaaDoor
open Go.RowKit Go.Shelf
set_option linter.unusedVariables false
set_option linter.unusedSimpArgs false

set_option maxRecDepth 100000 in
theorem is_yes (a : ByteArray) (i e : Int) (w : World) : Calls Tryd.prog 14 #[.string a, .int .i64 i, .int .i64 e, .string a, .int .i64 i, .int .i64 e] w fun r w' => r = .returned (.bool true) ∧ w = w' := by
  go_enter Tryd.func14, Tryd.ntmps14
  go_wp2
  go_ret
  exact ⟨rfl, rfl⟩
def Said (text : List UInt8) (a k : Int) (w : World) (e : Ending) (w' : World) : Prop := e = .returned (.tuple #[.string ⟨text.toArray⟩, .int .i64 a, .int .i64 k]) ∧ Below w.heap.size w w'
set_option maxRecDepth 100000 in
theorem ex1 (w : World) : Calls Tryd.prog 11 #[.string ⟨#[67, 97, 102, 226, 101]⟩] w (Said [67, 97, 102, 101, 204, 129] 0 0 w) := by
  have h : decF [67, 97, 102, 226, 101] = .ok [67, 97, 102, 101, 204, 129] := by kernel_rfl
  have := decode_all [67, 97, 102, 226, 101] w (by decide)
  rw [h] at this
  exact this
set_option maxRecDepth 100000 in
theorem ex2 (w : World) (hT : Tabs w) : Calls Tryd.prog 10 #[.string ⟨#[67, 97, 102, 195, 169]⟩] w (Said [67, 97, 102, 226, 101] 0 0 w) := by
  have h : encF [67, 97, 102, 195, 169] = .ok [67, 97, 102, 226, 101] := by kernel_rfl
  have := encode_all [67, 97, 102, 195, 169] w (by decide) hT
  rw [h] at this
  exact this
set_option maxRecDepth 100000 in
theorem ex3 (w : World) : Calls Tryd.prog 11 #[.string ⟨#[27, 40, 83, 97, 98, 27, 40, 66, 120]⟩] w (Said [206, 177, 206, 178, 120] 0 0 w) := by
  have h : decF [27, 40, 83, 97, 98, 27, 40, 66, 120] = .ok [206, 177, 206, 178, 120] := by kernel_rfl
  have := decode_all [27, 40, 83, 97, 98, 27, 40, 66, 120] w (by decide)
  rw [h] at this
  exact this
set_option maxRecDepth 100000 in
theorem ex4 (w : World) (hT : Tabs w) : Calls Tryd.prog 10 #[.string ⟨#[206, 177, 44, 32, 97]⟩] w (Said [27, 40, 83, 97, 44, 32, 27, 40, 66, 97] 0 0 w) := by
  have h : encF [206, 177, 44, 32, 97] = .ok [27, 40, 83, 97, 44, 32, 27, 40, 66, 97] := by kernel_rfl
  have := encode_all [206, 177, 44, 32, 97] w (by decide) hT
  rw [h] at this
  exact this
set_option maxRecDepth 100000 in
theorem ex5 (w : World) : Calls Tryd.prog 11 #[.string ⟨#[97, 226]⟩] w (Said [] 1 10 w) := by
  have h : decF [97, 226] = .bad 1 10 := by kernel_rfl
  have := decode_all [97, 226] w (by decide)
  rw [h] at this
  exact this
set_option maxRecDepth 100000 in
theorem ex6 (w : World) : Calls Tryd.prog 11 #[.string ⟨#[226, 27, 40, 66, 97]⟩] w (Said [] 1 15 w) := by
  have h : decF [226, 27, 40, 66, 97] = .bad 1 15 := by kernel_rfl
  have := decode_all [226, 27, 40, 66, 97] w (by decide)
  rw [h] at this
  exact this
set_option maxRecDepth 100000 in
theorem ex7 (w : World) : Calls Tryd.prog 11 #[.string ⟨#[27, 40]⟩] w (Said [] 0 10 w) := by
  have h : decF [27, 40] = .bad 0 10 := by kernel_rfl
  have := decode_all [27, 40] w (by decide)
  rw [h] at this
  exact this
set_option maxRecDepth 100000 in
theorem ex8 (w : World) (hT : Tabs w) : Calls Tryd.prog 10 #[.string ⟨#[230, 151, 165]⟩] w (Said [] 0 15 w) := by
  have h : encF [230, 151, 165] = .bad 0 15 := by kernel_rfl
  have := encode_all [230, 151, 165] w (by decide) hT
  rw [h] at this
  exact this

set_option maxRecDepth 100000 in
set_option maxHeartbeats 2000000 in
theorem sanity_c (w : World) (hT : Tabs w) : Calls Tryd.prog 8 #[] w fun e w' => e = .returned (.bool true) ∧ Below w.heap.size w w' := by
  have HT := Lib.hid hT
  clear hT
  go_enter Tryd.func8, Tryd.ntmps8
  go_wp2_with fail
  refine (ex1 _).mono ?_
  rintro e w1 ⟨rfl, hb1⟩
  have B1 := Lib.hid (hb1)
  clear hb1
  go_wp2_with fail
  refine (ex2 _ (tabs_below HT.out B1.out)).mono ?_
  rintro e w2 ⟨rfl, hb2⟩
  have B2 := Lib.hid (below_tr B1.out hb2)
  clear hb2
  go_wp2_with fail
  refine (ex3 _).mono ?_
  rintro e w3 ⟨rfl, hb3⟩
  have B3 := Lib.hid (below_tr B2.out hb3)
  clear hb3
  go_wp2_with fail
  refine (ex4 _ (tabs_below HT.out B3.out)).mono ?_
  rintro e w4 ⟨rfl, hb4⟩
  have B4 := Lib.hid (below_tr B3.out hb4)
  clear hb4
  go_wp2_with fail
  refine (is_yes _ _ _ _).mono ?_
  rintro e wi ⟨rfl, rfl⟩
  go_wp2_with fail
  refine (is_yes _ _ _ _).mono ?_
  rintro e wi ⟨rfl, rfl⟩
  go_wp2_with fail
  refine (is_yes _ _ _ _).mono ?_
  rintro e wi ⟨rfl, rfl⟩
  go_wp2_with fail
  refine (is_yes _ _ _ _).mono ?_
  rintro e wi ⟨rfl, rfl⟩
  go_wp2_with fail
  refine (ex5 _).mono ?_
  rintro e w5 ⟨rfl, hb5⟩
  have B5 := Lib.hid (below_tr B4.out hb5)
  clear hb5
  go_wp2_with fail
  refine (ex6 _).mono ?_
  rintro e w6 ⟨rfl, hb6⟩
  have B6 := Lib.hid (below_tr B5.out hb6)
  clear hb6
  go_wp2_with fail
  refine (ex7 _).mono ?_
  rintro e w7 ⟨rfl, hb7⟩
  have B7 := Lib.hid (below_tr B6.out hb7)
  clear hb7
  go_wp2_with fail
  refine (ex8 _ (tabs_below HT.out B7.out)).mono ?_
  rintro e w8 ⟨rfl, hb8⟩
  have B8 := Lib.hid (below_tr B7.out hb8)
  clear hb8
  go_wp2_with fail
  refine (is_yes _ _ _ _).mono ?_
  rintro e wi ⟨rfl, rfl⟩
  go_wp2_with fail
  refine (is_yes _ _ _ _).mono ?_
  rintro e wi ⟨rfl, rfl⟩
  go_wp2_with fail
  refine (is_yes _ _ _ _).mono ?_
  rintro e wi ⟨rfl, rfl⟩
  go_wp2_with fail
  refine (is_yes _ _ _ _).mono ?_
  rintro e wi ⟨rfl, rfl⟩
  go_wp2_with fail
  go_ret
  exact ⟨rfl, B8.out⟩
end Go.Proofs.YtjndekmpnihamaaDoor
