/-
  isPlain and strings.Clone.
-/
import Derived.Test.YtjndekmpnihamaaDoorMRuns
namespace Go.Proofs.YtjndekmpnihamaaDoor
open Go.RowKit Go.Shelf
set_option linter.unusedVariables false

def okPlain (x : UInt8) : Bool := !(decide (127 ≤ x.toNat) || x.toNat == 27)
/-- Whether a text is plain. -/
def plainB (l : List UInt8) : Bool := l.all okPlain

set_option maxRecDepth 100000 in
set_option maxHeartbeats 400000 in
theorem sclone_c (s : ByteArray) (w : World) (hl : s.size ≤ 140737488355328) :
    Calls Tryd.prog 23 #[.string s] w fun e w' => e = .returned (.string s) ∧ Below w.heap.size w w' := by
  have H1 := Lib.hid (sliteClone s w (by omega))
  go_enter Tryd.func23, Tryd.ntmps23
  go_wp2_with fail
  refine H1.out.mono ?_
  clear H1
  rintro e w' ⟨rfl, hb⟩
  go_wp2
  go_ret
  exact ⟨rfl, hb⟩

set_option maxRecDepth 100000 in
set_option maxHeartbeats 1000000 in
theorem isPlain_c (l : List UInt8) (w : World) (hl : l.length ≤ 140737488355328) :
    Calls Tryd.prog 22 #[str l] w fun e w' => e = .returned (.bool (plainB l)) ∧ w = w' := by
  have hsz := size_str l
  go_enter Tryd.func22, Tryd.ntmps22
  go_wp2
  go_loop [6] (fun i => ∃ k : Nat, k ≤ l.length ∧ i = .int .i64 k ∧ (l.take k).all okPlain = true) (fun i => l.length - (intOf i).toNat)
  case atStart => exact ⟨0, Nat.zero_le _, rfl, by simp⟩
  case round =>
    obtain ⟨k, hk, rfl, hall⟩ := hrel
    have Hall := Lib.hid hall
    clear hall
    by_cases hlt : k < l.length
    · have hget2 : (ByteArray.mk l.toArray)[k]'(by rw [hsz]; exact hlt) = l[k] := rfl
      have hts := List.take_succ_eq_append_getElem hlt
      have Hts := Lib.hid hts
      have hdr := Lib.hid (List.drop_eq_getElem_cons hlt)
      obtain ⟨x, hx⟩ : ∃ x, l[k] = x := ⟨_, rfl⟩
      have Hx := Lib.hid hx
      rw [hx] at hget2
      clear hts hx
      by_cases c1 : 127 ≤ x.toNat
      · have hbad : plainB l = false := by
          unfold plainB
          rw [← List.take_append_drop k l, hdr.out, Hx.out, List.all_append, List.all_cons]
          simp [okPlain, c1]
        have c1' : (127 : Int) ≤ (x.toNat : Int) := by omega
        have Hbad := Lib.hid hbad
        clear hbad c1
        go_wp2
        go_ret
        exact ⟨by rw [Hbad.out]; rfl, rfl⟩
      · by_cases c2 : x.toNat = 27
        · have hbad : plainB l = false := by
            unfold plainB
            rw [← List.take_append_drop k l, hdr.out, Hx.out, List.all_append, List.all_cons]
            simp [okPlain, c2]
          have c1' : (x.toNat : Int) < 127 := by omega
          have c2' : ((x.toNat : Int) == 27) = true := by simp; omega
          have Hbad := Lib.hid hbad
          clear hbad c1 c2
          go_wp2
          go_ret
          exact ⟨by rw [Hbad.out]; rfl, rfl⟩
        · have c1' : (x.toNat : Int) < 127 := by omega
          have c2' : ((x.toNat : Int) == 27) = false := by simp; omega
          have Hok := Lib.hid (show okPlain x = true by simp [okPlain]; omega)
          clear c1 c2
          go_wp2
          go_round
          case rel => exact ⟨k + 1, by omega, by go_num, by rw [Hts.out, List.all_append, Hall.out, Hx.out]; simp [Hok.out]⟩
          case measure => simp [intOf]; omega
    · have hd : decide (k < l.length) = false := decide_eq_false hlt
      have Hk := Lib.hid (show l.take k = l from List.take_of_length_le (by omega))
      clear hlt
      go_wp2
      go_ret
      refine ⟨?_, rfl⟩
      have := Hall.out
      rw [Hk.out] at this
      unfold plainB
      rw [this]
      rfl
end Go.Proofs.YtjndekmpnihamaaDoor
