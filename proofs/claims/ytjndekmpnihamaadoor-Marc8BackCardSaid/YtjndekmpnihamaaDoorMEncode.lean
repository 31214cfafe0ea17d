/-
  Encode.
-/
import Derived.Test.YtjndekmpnihamaaDoorMDecode
import Derived.Test.YtjndekmpnihamaaDoorMEnc6
namespace Go.Proofs.YtjndekmpnihamaaDoor
open Go.RowKit Go.Shelf
set_option linter.unusedVariables false

/-- What Encode returns. -/
def encF (l : List UInt8) : Res := if plainB l then .ok l else encM l

theorem convertE_c (l : List UInt8) (w : World) (hl : l.length ≤ 1099511627776) (hT : Tabs w) :
    Calls Tryd.prog 16 #[str l, .func (.func 17) #[] #[]] w (ConvPost (encF l) w) := by
  unfold encF
  cases hp : plainB l with
  | true => exact convert_plain _ l w (by omega) hp
  | false =>
    rw [if_neg (by simp)]
    cases hd : encM l with
    | ok o => exact convert_ok _ (enters_of Tryd.func17 (by kernel_rfl) rfl) l o w hl hp (by have := encode_c l (three w) hl (tabs_below hT (three_cells w).2.1); rwa [hd] at this)
    | bad a k => exact convert_bad _ (enters_of Tryd.func17 (by kernel_rfl) rfl) l a k w hl hp (by have := encode_c l (three w) hl (tabs_below hT (three_cells w).2.1); rwa [hd] at this)

set_option maxRecDepth 100000 in
set_option maxHeartbeats 400000 in
theorem encode_of (l : List UInt8) (x : Res) (w : World) (h : Calls Tryd.prog 16 #[str l, .func (.func 17) #[] #[]] w (ConvPost x w)) :
    Calls Tryd.prog 10 #[str l] w fun e w' => e = .returned (resV x) ∧ Below w.heap.size w w' := by
  have N := Lib.hid h
  clear h
  cases hd : x with
  | ok o =>
    have Hd := Lib.hid hd
    clear hd
    go_enter Tryd.func10, Tryd.ntmps10
    go_wp2_with fail
    refine N.out.mono ?_
    rintro e w1 hp
    rw [Hd.out] at hp
    obtain ⟨rfl, hb⟩ := hp
    have Hb := Lib.hid hb
    clear hb
    go_wp2_with fail
    go_ret3
    exact ⟨rfl, Hb.out⟩
  | bad a k =>
    have Hd := Lib.hid hd
    clear hd
    go_enter Tryd.func10, Tryd.ntmps10
    go_wp2_with fail
    refine N.out.mono ?_
    rintro e w1 hp
    rw [Hd.out] at hp
    obtain ⟨rfl, hb⟩ := hp
    have Hb := Lib.hid hb
    clear hb
    go_wp2_with fail
    go_ret3
    exact ⟨rfl, Hb.out⟩
theorem encode_all (l : List UInt8) (w : World) (hl : l.length ≤ 1099511627776) (hT : Tabs w) :
    Calls Tryd.prog 10 #[str l] w fun e w' => e = .returned (resV (encF l)) ∧ Below w.heap.size w w' := encode_of l _ w (convertE_c l w hl hT)
/-- A plain text of any length. -/
theorem encode_plain (l : List UInt8) (w : World) (hl : l.length ≤ 140737488355328) (hp : plainB l = true) :
    Calls Tryd.prog 10 #[str l] w fun e w' => e = .returned (.tuple #[str l, .int .i64 0, .int .i64 0]) ∧ Below w.heap.size w w' := encode_of l (.ok l) w (convert_plain _ l w hl hp)
end Go.Proofs.YtjndekmpnihamaaDoor
