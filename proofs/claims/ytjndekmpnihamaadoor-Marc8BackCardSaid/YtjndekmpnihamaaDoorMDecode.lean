/-
  Decode.
-/
import Derived.Test.YtjndekmpnihamaaDoorMConv2
import Derived.Test.YtjndekmpnihamaaDoorMDec5
namespace Go.Proofs.YtjndekmpnihamaaDoor
open Go.RowKit Go.Shelf
set_option linter.unusedVariables false

/-- What Decode returns. -/
def decF (l : List UInt8) : Res := if plainB l then .ok l else decM l

theorem convertD_c (l : List UInt8) (w : World) (hl : l.length ≤ 1099511627776) :
    Calls Tryd.prog 16 #[str l, .func (.func 18) #[] #[]] w (ConvPost (decF l) w) := by
  unfold decF
  cases hp : plainB l with
  | true => exact convert_plain _ l w (by omega) hp
  | false =>
    rw [if_neg (by simp)]
    cases hd : decM l with
    | ok o => exact convert_ok _ (enters_of Tryd.func18 (by kernel_rfl) rfl) l o w hl hp (by have := decode_c l (three w) hl; rwa [hd] at this)
    | bad a k => exact convert_bad _ (enters_of Tryd.func18 (by kernel_rfl) rfl) l a k w hl hp (by have := decode_c l (three w) hl; rwa [hd] at this)

/-- The three results of a conversion. -/
def resV : Res → Value
  | .bad a k => .tuple #[str [], .int .i64 (a : Int), .int .i64 (k : Int)]
  | .ok o => .tuple #[str o, .int .i64 0, .int .i64 0]
set_option maxRecDepth 100000 in
set_option maxHeartbeats 400000 in
theorem decode_of (l : List UInt8) (x : Res) (w : World) (h : Calls Tryd.prog 16 #[str l, .func (.func 18) #[] #[]] w (ConvPost x w)) :
    Calls Tryd.prog 11 #[str l] w fun e w' => e = .returned (resV x) ∧ Below w.heap.size w w' := by
  have N := Lib.hid h
  clear h
  cases hd : x with
  | ok o =>
    have Hd := Lib.hid hd
    clear hd
    go_enter Tryd.func11, Tryd.ntmps11
    go_wp2_with fail
    refine N.out.mono ?_
    rintro e w1 hp
    rw [Hd.out] at hp
    obtain ⟨rfl, hb⟩ := hp
    have Hb := Lib.hid hb
    clear hb
    go_wp2_with fail
    go_ret3
    exact ⟨rfl, Hb.out⟩
  | bad a k =>
    have Hd := Lib.hid hd
    clear hd
    go_enter Tryd.func11, Tryd.ntmps11
    go_wp2_with fail
    refine N.out.mono ?_
    rintro e w1 hp
    rw [Hd.out] at hp
    obtain ⟨rfl, hb⟩ := hp
    have Hb := Lib.hid hb
    clear hb
    go_wp2_with fail
    go_ret3
    exact ⟨rfl, Hb.out⟩
theorem decode_all (l : List UInt8) (w : World) (hl : l.length ≤ 1099511627776) :
    Calls Tryd.prog 11 #[str l] w fun e w' => e = .returned (resV (decF l)) ∧ Below w.heap.size w w' := decode_of l _ w (convertD_c l w hl)
/-- A plain text of any length. -/
theorem decode_plain (l : List UInt8) (w : World) (hl : l.length ≤ 140737488355328) (hp : plainB l = true) :
    Calls Tryd.prog 11 #[str l] w fun e w' => e = .returned (.tuple #[str l, .int .i64 0, .int .i64 0]) ∧ Below w.heap.size w w' := decode_of l (.ok l) w (convert_plain _ l w hl hp)
end Go.Proofs.YtjndekmpnihamaaDoor
