/-
  The walk of Marc8Back.
-/
import Derived.Test.YtjndekmpnihamaaDoorMBackL
import Derived.Test.YtjndekmpnihamaaDoorMText
import Derived.Test.YtjndekmpnihamaaDoorWMarc8Again
namespace Go.Proofs.YtjndekmpnihamaaDoor
open Go.RowKit Go.Shelf
set_option linter.unusedVariables false
set_option linter.unusedSimpArgs false

set_option maxRecDepth 100000 in
set_option maxHeartbeats 4000000 in
theorem walk_Marc8Back (sl : Value) (l : List Int) (hf : ∀ n ∈ l, -9223372036854775808 ≤ n ∧ n ≤ 9223372036854775807) (w : World)
    (hr : Reads (Value.int .i64) w sl l) (hT : Tabs w) :
    Calls Tryd.prog 3 #[sl] w fun e w' => e = .returned (.bool true) ∧ Below w.heap.size w w' := by
  have H1 := Lib.hid (sanity_c w hT)
  have Hr := Lib.hid hr
  have Hf := Lib.hid hf
  have HT := Lib.hid hT
  clear hT hr hf
  go_enter Tryd.func3, Tryd.ntmps3
  go_wp2_with fail
  refine H1.out.mono ?_
  clear H1
  rintro e w1 ⟨rfl, hb1⟩
  have N1 := Lib.hid (text_c sl l Hf.out w1 (Hr.out.below hb1))
  have Hb1 := Lib.hid hb1
  clear hb1 Hr
  go_wp2_with fail
  refine N1.out.mono ?_
  clear N1
  rintro e w2 ⟨S, rfl, hSl, hb2⟩
  have Hb2 := Lib.hid (below_tr Hb1.out hb2)
  have M1 := Lib.hid (encode_all S w2 (by omega) (tabs_below HT.out Hb2.out))
  have M3 := Lib.hid (fun W => taken_c S (by omega) W)
  clear hb2 Hb1
  cases hX : encF S with
  | bad i e =>
    have hk : e ≠ 0 := encF_bad hX
    rw [hX] at M1
    simp only [resV] at M1
    have he : ((e : Int) != 0) = true := by rw [bne_iff_ne]; omega
    obtain ⟨e', he'⟩ : ∃ e' : Int, (e : Int) = e' := ⟨_, rfl⟩
    rw [he'] at M1 he
    clear hX hk he'
    go_wp2_with fail
    refine M1.out.mono ?_
    rintro e w4 ⟨rfl, hb4⟩
    have Hb4 := Lib.hid (below_tr Hb2.out hb4)
    clear hb4
    go_wp2
    all_goals go_ret
    all_goals exact ⟨rfl, Hb4.out⟩
  | ok t =>
    have htl : t.length ≤ 1099511627776 := by have := encF_len hX; omega
    have hbk := back hX
    rw [hX] at M1
    have M2 := Lib.hid (fun W => decode_all t W htl)
    rw [hbk] at M2
    simp only [resV] at M1 M2
    obtain ⟨U, hU⟩ : ∃ U, takM S = U := ⟨_, rfl⟩
    rw [hU] at M2 M3
    clear hX htl hbk hSl hU
    go_wp2_with fail
    refine M1.out.mono ?_
    rintro e w4 ⟨rfl, hb4⟩
    have Hb4 := Lib.hid (below_tr Hb2.out hb4)
    clear hb4
    go_wp2_with fail
    refine (M2.out _).mono ?_
    rintro e w5 ⟨rfl, hb5⟩
    have Hb5 := Lib.hid (below_tr Hb4.out hb5)
    clear hb5
    go_wp2_with fail
    refine (M3.out _).mono ?_
    rintro e w6 ⟨rfl, hb6⟩
    have Hb6 := Lib.hid (below_tr Hb5.out hb6)
    clear hb6
    go_wp2
    all_goals go_ret
    all_goals exact ⟨rfl, Hb6.out⟩
end Go.Proofs.YtjndekmpnihamaaDoor
