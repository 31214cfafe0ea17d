/-
  The law's parses is true: the program's Parse and the reference's agree.
-/
import Derived.Test.YtpfnmjcomdckgaaDoorRRefQ
import Derived.Test.YtpfnmjcomdckgaaDoorRRefG
import Derived.Test.YtpfnmjcomdckgaaDoorRRefH
import Derived.Test.YtpfnmjcomdckgaaDoorRSame
import Derived.Test.YtpfnmjcomdckgaaDoorRSan
namespace Go.Proofs.YtpfnmjcomdckgaaDoor
open Go.RowKit Go.Shelf
set_option linter.unusedVariables false
set_option linter.unusedSimpArgs false

theorem fieldC : FieldC := fun tag bs w h3 hl h1 => by
  cases h : ctlB tag with
  | true => exact rField_ctl tag bs h3 hl h1 w h
  | false => exact rField_var tag bs h3 hl h1 w h
theorem rParse_c (l : List UInt8) (hl : l.length ≤ 1099511627776) (w : World) :
    Calls Tryd.prog 50 #[str l] w (PV (parseM l) w) := rParse_f fieldC l hl w
theorem eqB (n : Nat) : ((n : Int) == (n : Int)) = true := by rw [beq_iff_eq]
set_option maxRecDepth 100000 in
set_option maxHeartbeats 4000000 in
theorem parses_c (l : List UInt8) (hl : l.length ≤ 1099511627776) (w : World) (hT : Tabs w) :
    Calls Tryd.prog 23 #[str l] w (Yes w) := by
  unfold Yes
  have H1 := Parse_c l hl w hT
  have H2 := fun W => rParse_c l hl W
  cases hx : parseM l with
  | bad p k =>
    rw [hx] at H1
    simp only [hx] at H2
    unfold PV at H1 H2
    have H1 := Lib.hid H1
    have H2 := Lib.hid H2
    clear hx hl hT
    go_enter Tryd.func23, Tryd.ntmps23
    go_wp2_with fail
    refine H1.out.mono ?_
    rintro e w1 ⟨rfl, hb1⟩
    go_wp2_with fail
    obtain ⟨W2, hW2⟩ : ∃ W2, w1.alloc (.cells #[.int .u8 0, .int .u8 0, .slice none 0 0] 27) = W2 := ⟨_, rfl⟩
    have hn2 : W2.heap[w1.heap.size]? = some (.cells #[.int .u8 0, .int .u8 0, .slice none 0 0] 27 (0, 0)) := by rw [← hW2]; exact new_at _ _
    have hb2 : Below w.heap.size w W2 := by rw [← hW2]; exact hb1.alloc hb1.size _
    rw [hW2]
    clear hW2 hb1 H1
    refine (H2.out W2).mono ?_
    rintro e w3 ⟨rfl, hb3⟩
    have hn3 := heap_below hb3 hn2
    have hb4 := hb2.trans (hb3.mono hb2.size)
    obtain ⟨q1, hq1⟩ : ∃ q1, w1.heap.size = q1 := ⟨_, rfl⟩
    rw [hq1] at hn3 ⊢
    clear hn2 hb2 hb3 hq1 H2
    have hn4 : (w3.alloc (.cells #[.int .u8 0, .int .u8 0, .slice none 0 0] 27)).heap[w3.heap.size]? = some (.cells #[.int .u8 0, .int .u8 0, .slice none 0 0] 27 (0, 0)) := new_at _ _
    have hn3' : (w3.alloc (.cells #[.int .u8 0, .int .u8 0, .slice none 0 0] 27)).heap[q1]? = some (.cells #[.int .u8 0, .int .u8 0, .slice none 0 0] 27 (0, 0)) := heap_below (below_new _ _) hn3
    have hb5 : Below w.heap.size w (w3.alloc (.cells #[.int .u8 0, .int .u8 0, .slice none 0 0] 27)) := hb4.alloc hb4.size _
    have a0 : (w3.alloc (.cells #[.int .u8 0, .int .u8 0, .slice none 0 0] 27)).cell? ⟨q1, 0, none⟩ = some (.int .u8 0) := by rw [cell_at hn3']; rfl
    have a1 : (w3.alloc (.cells #[.int .u8 0, .int .u8 0, .slice none 0 0] 27)).cell? ⟨q1, 1, none⟩ = some (.int .u8 0) := by rw [cell_at hn3']; rfl
    have a2 : (w3.alloc (.cells #[.int .u8 0, .int .u8 0, .slice none 0 0] 27)).cell? ⟨q1, 2, none⟩ = some (.slice none 0 0) := by rw [cell_at hn3']; rfl
    have b0 : (w3.alloc (.cells #[.int .u8 0, .int .u8 0, .slice none 0 0] 27)).cell? ⟨w3.heap.size, 0, none⟩ = some (.int .u8 0) := by rw [cell_at hn4]; rfl
    have b1 : (w3.alloc (.cells #[.int .u8 0, .int .u8 0, .slice none 0 0] 27)).cell? ⟨w3.heap.size, 1, none⟩ = some (.int .u8 0) := by rw [cell_at hn4]; rfl
    have b2 : (w3.alloc (.cells #[.int .u8 0, .int .u8 0, .slice none 0 0] 27)).cell? ⟨w3.heap.size, 2, none⟩ = some (.slice none 0 0) := by rw [cell_at hn4]; rfl
    have hr : RecV (w3.alloc (.cells #[.int .u8 0, .int .u8 0, .slice none 0 0] 27)) (.agg #[.int .u8 0, .int .u8 0, .slice none 0 0]) ⟨0, 0, []⟩ := ⟨_, rfl, .inl ⟨_, _, rfl, rfl⟩⟩
    have N := same_c _ _ _ _ (w3.alloc (.cells #[.int .u8 0, .int .u8 0, .slice none 0 0] 27)) hr hr
    rw [decide_eq_true rfl] at N
    unfold SP at N
    have N := Lib.hid N
    have Hb5 := Lib.hid hb5
    have e1 := eqB p
    have e2 := eqB k
    clear hn3 hn3' hn4 hb4 hb5 hr
    go_wp2_with fail
    refine N.out.mono ?_
    rintro e w5 ⟨rfl, hb6⟩
    have Hb6 := Lib.hid (Hb5.out.trans (hb6.mono Hb5.out.size))
    clear hb6
    go_wp2
    go_ret
    exact ⟨rfl, Hb6.out⟩
  | ok r =>
    rw [hx] at H1
    simp only [hx] at H2
    unfold PV at H1 H2
    have H1 := Lib.hid H1
    have H2 := Lib.hid H2
    clear hx hl hT
    go_enter Tryd.func23, Tryd.ntmps23
    go_wp2_with fail
    refine H1.out.mono ?_
    rintro e w1 ⟨fv, rfl, hb1, hfv⟩
    obtain ⟨fa, fc, rfl, -⟩ := hfv.slice
    go_wp2_with fail
    obtain ⟨W2, hW2⟩ : ∃ W2, w1.alloc (.cells #[.int .u8 (r.kind.toNat : Int), .int .u8 (r.level.toNat : Int), .slice fa r.fields.length fc] 27) = W2 := ⟨_, rfl⟩
    have hn2 : W2.heap[w1.heap.size]? = some (.cells #[.int .u8 (r.kind.toNat : Int), .int .u8 (r.level.toNat : Int), .slice fa r.fields.length fc] 27 (0, 0)) := by rw [← hW2]; exact new_at _ _
    have hb2 : Below w.heap.size w W2 := by rw [← hW2]; exact hb1.alloc hb1.size _
    have hf2 : FldsAt W2 (.slice fa r.fields.length fc) r.fields := by rw [← hW2]; exact hfv.below (below_new _ _) (Nat.le_refl _)
    rw [hW2]
    clear hW2 hb1 H1 hfv
    refine (H2.out W2).mono ?_
    rintro e w3 ⟨gv, rfl, hb3, hgv⟩
    obtain ⟨ga, gc, rfl, -⟩ := hgv.slice
    have hn3 := heap_below hb3 hn2
    have hb4 := hb2.trans (hb3.mono hb2.size)
    have hf3 := hf2.below hb3 (Nat.le_refl _)
    obtain ⟨q1, hq1⟩ : ∃ q1, w1.heap.size = q1 := ⟨_, rfl⟩
    rw [hq1] at hn3 ⊢
    clear hn2 hb2 hb3 hq1 H2 hf2
    obtain ⟨W4, hW4⟩ : ∃ W4, w3.alloc (.cells #[.int .u8 (r.kind.toNat : Int), .int .u8 (r.level.toNat : Int), .slice ga r.fields.length gc] 27) = W4 := ⟨_, rfl⟩
    have hn4 : W4.heap[w3.heap.size]? = some (.cells #[.int .u8 (r.kind.toNat : Int), .int .u8 (r.level.toNat : Int), .slice ga r.fields.length gc] 27 (0, 0)) := by rw [← hW4]; exact new_at _ _
    have hn3' : W4.heap[q1]? = some (.cells #[.int .u8 (r.kind.toNat : Int), .int .u8 (r.level.toNat : Int), .slice fa r.fields.length fc] 27 (0, 0)) := by rw [← hW4]; exact heap_below (below_new _ _) hn3
    have hb5 : Below w.heap.size w W4 := by rw [← hW4]; exact hb4.alloc hb4.size _
    have hf4 : FldsAt W4 (.slice fa r.fields.length fc) r.fields := by rw [← hW4]; exact hf3.below (below_new _ _) (Nat.le_refl _)
    have hg4 : FldsAt W4 (.slice ga r.fields.length gc) r.fields := by rw [← hW4]; exact hgv.below (below_new _ _) (Nat.le_refl _)
    have a0 : W4.cell? ⟨q1, 0, none⟩ = some (.int .u8 (r.kind.toNat : Int)) := by rw [cell_at hn3']; rfl
    have a1 : W4.cell? ⟨q1, 1, none⟩ = some (.int .u8 (r.level.toNat : Int)) := by rw [cell_at hn3']; rfl
    have a2 : W4.cell? ⟨q1, 2, none⟩ = some (.slice fa r.fields.length fc) := by rw [cell_at hn3']; rfl
    have b0 : W4.cell? ⟨w3.heap.size, 0, none⟩ = some (.int .u8 (r.kind.toNat : Int)) := by rw [cell_at hn4]; rfl
    have b1 : W4.cell? ⟨w3.heap.size, 1, none⟩ = some (.int .u8 (r.level.toNat : Int)) := by rw [cell_at hn4]; rfl
    have b2 : W4.cell? ⟨w3.heap.size, 2, none⟩ = some (.slice ga r.fields.length gc) := by rw [cell_at hn4]; rfl
    have N := same_c _ _ r r W4 ⟨_, rfl, hf4⟩ ⟨_, rfl, hg4⟩
    rw [decide_eq_true rfl] at N
    unfold SP at N
    have N := Lib.hid N
    have Hb5 := Lib.hid hb5
    clear hn3 hn3' hn4 hb4 hb5 hf3 hgv hf4 hg4
    go_wp2_with fail
    refine N.out.mono ?_
    rintro e w5 ⟨rfl, hb6⟩
    have Hb6 := Lib.hid (Hb5.out.trans (hb6.mono Hb5.out.size))
    clear hb6
    go_wp2
    go_ret
    exact ⟨rfl, Hb6.out⟩
end Go.Proofs.YtpfnmjcomdckgaaDoor
