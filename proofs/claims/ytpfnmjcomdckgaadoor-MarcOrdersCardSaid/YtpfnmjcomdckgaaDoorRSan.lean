/-
  sanity: the examples of the chapter.
-/
import Derived.Test.YtpfnmjcomdckgaaDoorRSame
namespace Go.Proofs.YtpfnmjcomdckgaaDoor
open Go.RowKit Go.Shelf
set_option linter.unusedVariables false
set_option linter.unusedSimpArgs false

def exR : RecM := ⟨97, 109, [⟨[48, 48, 49], [], [120], []⟩, ⟨[50, 52, 53], [49, 48], [], [⟨97, [84]⟩]⟩]⟩
def exW : List UInt8 := [48, 48, 48, 53, 56, 110, 97, 109, 32, 97, 50, 50, 48, 48, 48, 52, 57, 32, 32, 32, 52, 53, 48, 48, 48, 48, 49, 48, 48, 48, 50, 48, 48, 48, 48, 48, 50, 52, 53, 48, 48, 48, 54, 48, 48, 48, 48, 50, 30, 120, 30, 49, 48, 31, 97, 84, 30, 29]
def exC : List UInt8 := [48, 48, 48, 53, 56, 110, 97, 109, 32, 99, 50, 50, 48, 48, 48, 52, 57, 32, 32, 32, 52, 53, 48, 48, 48, 48, 49, 48, 48, 48, 50, 48, 48, 48, 48, 48, 50, 52, 53, 48, 48, 48, 54, 48, 48, 48, 48, 50, 30, 120, 30, 49, 48, 31, 97, 84, 30, 29]
set_option maxRecDepth 100000 in
theorem ex_write : writeR exR = exW := by decide +kernel
set_option maxRecDepth 100000 in
theorem ex_check : checkM exR = 0 := by decide +kernel
set_option maxRecDepth 100000 in
theorem ex_parse : parseM exW = .ok exR := by kernel_rfl
set_option maxRecDepth 100000 in
theorem ex_cut : parseM (exW.take 57) = .bad 57 10 := by kernel_rfl
set_option maxRecDepth 100000 in
theorem ex_changed : parseM exC = .bad 9 12 := by kernel_rfl
set_option maxRecDepth 100000 in
set_option maxHeartbeats 2000000 in
theorem example_c (w : World) : Calls Tryd.prog 32 #[] w fun e w' => ∃ v, e = .returned v ∧ RecV w' v exR ∧ Below w.heap.size w w' := by
  go_enter Tryd.func32, Tryd.ntmps32
  go_wp2_with fail
  obtain ⟨W1, hW1⟩ : ∃ W1, w.alloc (.cells #[.int .u8 97, .int .u8 109, .slice (some ⟨w.heap.size + 1 + 1, 0, none⟩) 2 2] 27) = W1 := ⟨_, rfl⟩
  have z1 : W1.heap.size = w.heap.size + 1 := by rw [← hW1]; simp
  have b1 : Below w.heap.size w W1 := by rw [← hW1]; exact below_new w _
  rw [hW1]
  obtain ⟨W2, hW2⟩ : ∃ W2, W1.alloc (.cells #[.int .u8 97, .string ⟨#[84]⟩] 64) = W2 := ⟨_, rfl⟩
  have z2 : W2.heap.size = w.heap.size + 2 := by rw [← hW2]; simp [z1]
  have b2 : Below W1.heap.size W1 W2 := by rw [← hW2]; exact below_new W1 _
  have n2 := new_at W1 (.cells #[.int .u8 97, .string ⟨#[84]⟩] 64)
  rw [hW2, z1] at n2
  rw [hW2]
  obtain ⟨W3, hW3⟩ : ∃ W3, W2.alloc (.cells #[.string ⟨#[48, 48, 49]⟩, .string ⟨#[]⟩, .string ⟨#[120]⟩, .slice none 0 0, .string ⟨#[50, 52, 53]⟩, .string ⟨#[49, 48]⟩, .string ⟨#[]⟩, .slice (some ⟨w.heap.size + 1, 0, none⟩) 1 1] 62) = W3 := ⟨_, rfl⟩
  have b3 : Below W2.heap.size W2 W3 := by rw [← hW3]; exact below_new W2 _
  have n3 := new_at W2 (.cells #[.string ⟨#[48, 48, 49]⟩, .string ⟨#[]⟩, .string ⟨#[120]⟩, .slice none 0 0, .string ⟨#[50, 52, 53]⟩, .string ⟨#[49, 48]⟩, .string ⟨#[]⟩, .slice (some ⟨w.heap.size + 1, 0, none⟩) 1 1] 62)
  rw [hW3, z2] at n3
  rw [hW3]
  have n2' := heap_below b3 n2
  have hz3 : W2.heap.size < W3.heap.size := by rw [← hW3]; simp
  have hs : SubsAt W3 (.slice (some ⟨w.heap.size + 1, 0, none⟩) 1 1) [⟨97, [84]⟩] := by
    refine .inr ⟨w.heap.size + 1, 0, 1, rfl, by decide, by omega, ?_⟩
    intro i hi
    have hi0 : i = 0 := by simpa using hi
    subst hi0
    exact ⟨by rw [cell_at n2']; rfl, by rw [cell_at n2']; rfl⟩
  have n1 := new_at w (.cells #[.int .u8 97, .int .u8 109, .slice (some ⟨w.heap.size + 1 + 1, 0, none⟩) 2 2] 27)
  rw [hW1] at n1
  have n1' := heap_below b3 (heap_below b2 n1)
  have a0 : W3.cell? ⟨w.heap.size, 0, none⟩ = some (.int .u8 97) := by rw [cell_at n1']; rfl
  have a1 : W3.cell? ⟨w.heap.size, 1, none⟩ = some (.int .u8 109) := by rw [cell_at n1']; rfl
  have a2 : W3.cell? ⟨w.heap.size, 2, none⟩ = some (.slice (some ⟨w.heap.size + 1 + 1, 0, none⟩) 2 2) := by rw [cell_at n1']; rfl
  have hB := (b1.trans (b2.mono b1.size)).trans (b3.mono (show w.heap.size ≤ W2.heap.size by omega))
  clear hW1 hW2 hW3 n1 n1' b1 b2 b3 n2 z1 z2 hz3
  simp [bodyPost, results, Tryd.results32, go_sem, a0, a1, a2]
  refine ⟨?_, hB⟩
  refine ⟨_, rfl, ?_⟩
  have hlt := lt_at n3
  refine .inr ⟨w.heap.size + 2, 0, 2, rfl, by decide, hlt, ?_⟩
  intro i hi
  match i, hi with
  | 0, _ => exact ⟨by rw [cell_at n3]; rfl, by rw [cell_at n3]; rfl, by rw [cell_at n3]; rfl, .slice none 0 0, by rw [cell_at n3]; rfl, .inl ⟨_, _, rfl, rfl⟩⟩
  | 1, _ => exact ⟨by rw [cell_at n3]; rfl, by rw [cell_at n3]; rfl, by rw [cell_at n3]; rfl, _, by rw [cell_at n3]; rfl, hs⟩
  | k + 2, h => exact absurd h (by simp [exR])
def ExW (w : World) (e : Ending) (w' : World) : Prop := e = .returned (.tuple #[.string ⟨exW.toArray⟩, .int .i64 0]) ∧ Below w.heap.size w w'
def ExP (w : World) (e : Ending) (w' : World) : Prop := ∃ a c, e = .returned (.tuple #[.agg #[.int .u8 97, .int .u8 109, .slice a 2 c], .int .i64 0, .int .i64 0]) ∧ RecV w' (.agg #[.int .u8 97, .int .u8 109, .slice a 2 c]) exR ∧ Below w.heap.size w w'
def ExB (p k : Int) (w : World) (e : Ending) (w' : World) : Prop := e = .returned (.tuple #[.agg #[.int .u8 0, .int .u8 0, .slice none 0 0], .int .i64 p, .int .i64 k]) ∧ Below w.heap.size w w'
theorem ex1 (v : Value) (w : World) (hr : RecV w v exR) : Calls Tryd.prog 16 #[v] w (ExW w) := by
  have h := write_c v exR w hr (by decide +kernel) (by decide +kernel)
  refine h.mono ?_
  rintro e w' ⟨rfl, hb⟩
  exact ⟨by rw [ex_write, ex_check]; rfl, hb⟩
theorem ex2 (w : World) (hT : Tabs w) : Calls Tryd.prog 20 #[.string ⟨#[48, 48, 48, 53, 56, 110, 97, 109, 32, 97, 50, 50, 48, 48, 48, 52, 57, 32, 32, 32, 52, 53, 48, 48, 48, 48, 49, 48, 48, 48, 50, 48, 48, 48, 48, 48, 50, 52, 53, 48, 48, 48, 54, 48, 48, 48, 48, 50, 30, 120, 30, 49, 48, 31, 97, 84, 30, 29]⟩] w (ExP w) := by
  have h := Parse_c exW (by decide +kernel) w hT
  rw [ex_parse] at h
  refine Calls.mono h ?_
  rintro e w' ⟨fv, rfl, hb, hF⟩
  obtain ⟨a, c, rfl, -⟩ := hF.slice
  exact ⟨a, c, rfl, ⟨_, rfl, hF⟩, hb⟩
theorem ex3 (w : World) (hT : Tabs w) : Calls Tryd.prog 20 #[.string ((ByteArray.mk #[48, 48, 48, 53, 56, 110, 97, 109, 32, 97, 50, 50, 48, 48, 48, 52, 57, 32, 32, 32, 52, 53, 48, 48, 48, 48, 49, 48, 48, 48, 50, 48, 48, 48, 48, 48, 50, 52, 53, 48, 48, 48, 54, 48, 48, 48, 48, 50, 30, 120, 30, 49, 48, 31, 97, 84, 30, 29]).extract 0 57)] w (ExB 57 10 w) := by
  rw [show (ByteArray.mk #[48, 48, 48, 53, 56, 110, 97, 109, 32, 97, 50, 50, 48, 48, 48, 52, 57, 32, 32, 32, 52, 53, 48, 48, 48, 48, 49, 48, 48, 48, 50, 48, 48, 48, 48, 48, 50, 52, 53, 48, 48, 48, 54, 48, 48, 48, 48, 50, 30, 120, 30, 49, 48, 31, 97, 84, 30, 29]).extract 0 57 = ⟨(exW.take 57).toArray⟩ by decide +kernel]
  have h := Parse_c (exW.take 57) (by decide +kernel) w hT
  rw [ex_cut] at h
  exact h
theorem ex4 (w : World) (hT : Tabs w) : Calls Tryd.prog 20 #[.string ((ByteArray.mk #[48, 48, 48, 53, 56, 110, 97, 109, 32, 97, 50, 50, 48, 48, 48, 52, 57, 32, 32, 32, 52, 53, 48, 48, 48, 48, 49, 48, 48, 48, 50, 48, 48, 48, 48, 48, 50, 52, 53, 48, 48, 48, 54, 48, 48, 48, 48, 50, 30, 120, 30, 49, 48, 31, 97, 84, 30, 29]).extract 0 9 ++ ⟨#[99]⟩ ++ (ByteArray.mk #[48, 48, 48, 53, 56, 110, 97, 109, 32, 97, 50, 50, 48, 48, 48, 52, 57, 32, 32, 32, 52, 53, 48, 48, 48, 48, 49, 48, 48, 48, 50, 48, 48, 48, 48, 48, 50, 52, 53, 48, 48, 48, 54, 48, 48, 48, 48, 50, 30, 120, 30, 49, 48, 31, 97, 84, 30, 29]).extract 10 58)] w (ExB 9 12 w) := by
  rw [show (ByteArray.mk #[48, 48, 48, 53, 56, 110, 97, 109, 32, 97, 50, 50, 48, 48, 48, 52, 57, 32, 32, 32, 52, 53, 48, 48, 48, 48, 49, 48, 48, 48, 50, 48, 48, 48, 48, 48, 50, 52, 53, 48, 48, 48, 54, 48, 48, 48, 48, 50, 30, 120, 30, 49, 48, 31, 97, 84, 30, 29]).extract 0 9 ++ ⟨#[99]⟩ ++ (ByteArray.mk #[48, 48, 48, 53, 56, 110, 97, 109, 32, 97, 50, 50, 48, 48, 48, 52, 57, 32, 32, 32, 52, 53, 48, 48, 48, 48, 49, 48, 48, 48, 50, 48, 48, 48, 48, 48, 50, 52, 53, 48, 48, 48, 54, 48, 48, 48, 48, 50, 30, 120, 30, 49, 48, 31, 97, 84, 30, 29]).extract 10 58 = ⟨exC.toArray⟩ by decide +kernel]
  have h := Parse_c exC (by decide +kernel) w hT
  rw [ex_changed] at h
  exact h
theorem zeros_at {w : World} {b : Nat} {T : TypeId} (h : w.heap[b]? = some (.cells #[.int .u8 0, .int .u8 0, .slice none 0 0] T (0, 0))) :
    w.cell? ⟨b, 0, none⟩ = some (.int .u8 0) ∧ w.cell? ⟨b, 1, none⟩ = some (.int .u8 0) ∧ w.cell? ⟨b, 2, none⟩ = some (.slice none 0 0) ∧ w.frozen? ⟨b, 0, none⟩ = false ∧ w.frozen? ⟨b, 1, none⟩ = false ∧ w.frozen? ⟨b, 2, none⟩ = false :=
  ⟨by rw [cell_at h]; rfl, by rw [cell_at h]; rfl, by rw [cell_at h]; rfl, Lib.frozen_of_heap h 0, Lib.frozen_of_heap h 1, Lib.frozen_of_heap h 2⟩
theorem ex5 (p : Nat) (a3 : Option Addr) (c3 : Nat) (W7 : World) (R7 : RecV W7 (.agg #[.int .u8 97, .int .u8 109, .slice a3 2 c3]) exR) (N7 : W7.heap[p]? = some (.cells #[.int .u8 97, .int .u8 109, .slice a3 2 c3] 27 (0, 0))) (W : World) (hb : Below W7.heap.size W7 W) :
    Calls Tryd.prog 32 #[] W fun e w' => ∃ v, e = .returned v ∧ RecV w' v exR ∧ RecV w' (.agg #[.int .u8 97, .int .u8 109, .slice a3 2 c3]) exR ∧ Below W7.heap.size W7 w' ∧
      w'.cell? ⟨p, 0, none⟩ = some (.int .u8 97) ∧ w'.cell? ⟨p, 1, none⟩ = some (.int .u8 109) ∧ w'.cell? ⟨p, 2, none⟩ = some (.slice a3 2 c3) := by
  refine (example_c W).mono ?_
  rintro e w' ⟨v, rfl, hr, hb'⟩
  have h := below_tr hb hb'
  have n := heap_below h N7
  exact ⟨v, rfl, hr, R7.below h (Nat.le_refl _), h, by rw [cell_at n]; rfl, by rw [cell_at n]; rfl, by rw [cell_at n]; rfl⟩
theorem ex6 (va vb : Value) (W : World) (ha : RecV W va exR) (hb : RecV W vb exR) : Calls Tryd.prog 21 #[va, vb] W fun e w' => e = .returned (.bool true) ∧ Below W.heap.size W w' := by
  refine (same_c va vb exR exR W ha hb).mono ?_
  rintro e w' ⟨rfl, hb'⟩
  exact ⟨by simp, hb'⟩
def Yes (w : World) (e : Ending) (w' : World) : Prop := e = .returned (.bool true) ∧ Below w.heap.size w w'
set_option maxRecDepth 100000 in
set_option maxHeartbeats 4000000 in
theorem sanity_c (w : World) (hT : Tabs w) : Calls Tryd.prog 13 #[] w (Yes w) := by
  unfold Yes
  have HT := Lib.hid hT
  clear hT
  go_enter Tryd.func13, Tryd.ntmps13
  go_wp2_with fail
  refine (example_c _).mono ?_
  rintro e w1 ⟨v1, rfl, hr1, hb1⟩
  have B1 := Lib.hid hb1
  have R1 := Lib.hid hr1
  clear hb1 hr1
  go_wp2_with fail
  refine (ex1 v1 w1 R1.out).mono ?_
  rintro e w2 ⟨rfl, hb2⟩
  have B2 := Lib.hid (below_tr B1.out hb2)
  clear hb2
  go_wp2_with fail
  refine (ex2 w2 (tabs_below HT.out B2.out)).mono ?_
  rintro e w3 ⟨a3, c3, rfl, hr3, hb3⟩
  have B3 := Lib.hid (below_tr B2.out hb3)
  have R3 := Lib.hid hr3
  clear hb3 hr3
  go_wp2_with fail
  have hr3 := R3.out.below (below_new w3 (.cells #[.int .u8 97, .int .u8 109, .slice a3 2 c3] 27)) (Nat.le_refl _)
  have hn3 := new_at w3 (.cells #[.int .u8 97, .int .u8 109, .slice a3 2 c3] 27)
  have hb3 := below_tr B3.out (below_new w3 (.cells #[.int .u8 97, .int .u8 109, .slice a3 2 c3] 27))
  obtain ⟨W4, hW4⟩ : ∃ W4, w3.alloc (.cells #[.int .u8 97, .int .u8 109, .slice a3 2 c3] 27) = W4 := ⟨_, rfl⟩
  rw [hW4] at hr3 hn3 hb3 ⊢
  obtain ⟨p, hp⟩ : ∃ p, w3.heap.size = p := ⟨_, rfl⟩
  rw [hp] at hn3 ⊢
  have B4 := Lib.hid hb3
  have N4 := Lib.hid hn3
  have R4 := Lib.hid hr3
  clear hb3 hn3 hr3 hW4 hp
  refine (ex3 W4 (tabs_below HT.out B4.out)).mono ?_
  rintro e w5 ⟨rfl, hb5⟩
  have R5 := Lib.hid (R4.out.below hb5 (Nat.le_refl _))
  have N5 := Lib.hid (heap_below hb5 N4.out)
  have B5 := Lib.hid (below_tr B4.out hb5)
  clear hb5
  go_wp2_with fail
  have hb6 := below_new w5 (.cells #[.int .u8 0, .int .u8 0, .slice none 0 0] 27)
  obtain ⟨Z, hZ⟩ : ∃ Z, w5.alloc (.cells #[.int .u8 0, .int .u8 0, .slice none 0 0] 27) = Z := ⟨_, rfl⟩
  rw [hZ] at hb6 ⊢
  have B6 := Lib.hid hb6
  have HT6 := Lib.hid (tabs_below HT.out (below_tr B5.out hb6))
  have N6 := Lib.hid (fun W (hb : Below Z.heap.size Z W) => ex4 W (tabs_below HT6.out hb))
  clear hb6 hZ
  go_region_with (go_at_call 20; refine (N6.out _ (by first | exact (Below.refl _ _).drew | exact ((Below.refl _ _).alloc (Nat.le_refl _) _).drew)).mono ?_; rintro e w6 ⟨rfl, hb7⟩; try obtain ⟨d0, d1, d2, f0, f1, f2⟩ := zeros_at (heap_below hb7 (new_at Z (.cells #[.int .u8 0, .int .u8 0, .slice none 0 0] 27))))
  · have hB : Below Z.heap.size Z (w6.alloc (.cells #[.int .u8 0, .int .u8 0, .slice none 0 0] 27)) := by
      have h : Below Z.heap.size Z w6 := (Below.refl Z.heap.size Z).drew.trans hb7
      exact h.alloc h.size _
    generalize w6.alloc (.cells #[.int .u8 0, .int .u8 0, .slice none 0 0] 27) = W7 at hB ⊢
    generalize w6.heap.size = zz
    clear hb7
    have R7 := Lib.hid (R5.out.below (below_tr B6.out hB) (Nat.le_refl _))
    have N7 := Lib.hid (heap_below (below_tr B6.out hB) N5.out)
    have B7 := Lib.hid (below_tr B5.out (below_tr B6.out hB))
    clear hB N6
    have c0 : W7.cell? ⟨p, 0, none⟩ = some (.int .u8 97) := by rw [cell_at N7.out]; rfl
    have c1 : W7.cell? ⟨p, 1, none⟩ = some (.int .u8 109) := by rw [cell_at N7.out]; rfl
    have c2 : W7.cell? ⟨p, 2, none⟩ = some (.slice a3 2 c3) := by rw [cell_at N7.out]; rfl
    go_wp2_with fail
    have E7 := Lib.hid (ex5 p a3 c3 W7 R7.out N7.out)
    clear c0 c1 c2
    have c0 : W7.cell? ⟨p, 0, none⟩ = some (.int .u8 97) := by rw [cell_at N7.out]; rfl
    have c1 : W7.cell? ⟨p, 1, none⟩ = some (.int .u8 109) := by rw [cell_at N7.out]; rfl
    have c2 : W7.cell? ⟨p, 2, none⟩ = some (.slice a3 2 c3) := by rw [cell_at N7.out]; rfl
    go_region_with (first | (go_at_call 32; refine (E7.out _ (by first | exact Below.refl _ _ | exact (Below.refl _ _).drew)).mono ?_; rintro e w8 ⟨v8, rfl, hr8, hR8, hb8, e0, e1, e2⟩) | (go_at_call 21; refine (ex6 _ _ _ (by first | exact hR8 | exact hR8.below (Below.refl _ _).drew (Nat.le_refl _)) (by first | exact hr8 | exact hr8.below (Below.refl _ _).drew (Nat.le_refl _))).mono ?_; rintro e w9 ⟨rfl, hb9⟩))
    all_goals
      have hfin := Lib.hid (below_tr B7.out (below_tr hb8 (by first | exact hb9 | exact (Below.refl _ _).drew.trans hb9)))
      clear hb8 hb9 e0 e1 e2 hr8 hR8 c0 c1 c2 E7
      go_wp2
      go_ret
      exact ⟨rfl, hfin.out⟩
  · have hB : Below Z.heap.size Z (((w6.setCell ⟨Z.heap.size, 0, none⟩ (.int .u8 0)).setCell ⟨Z.heap.size, 1, none⟩ (.int .u8 0)).setCell ⟨Z.heap.size, 2, none⟩ (.slice none 0 0)) := by
      have h0 : Below Z.heap.size Z (Z.alloc (.cells #[.int .u8 0, .int .u8 0, .slice none 0 0] 27)).drew := ((Below.refl _ _).alloc (Nat.le_refl _) _).drew
      have h : Below Z.heap.size Z w6 := h0.trans (hb7.mono h0.size)
      exact ((h.setCell (p := ⟨Z.heap.size, 0, none⟩) (Nat.le_refl _) _).setCell (p := ⟨Z.heap.size, 1, none⟩) (Nat.le_refl _) _).setCell (p := ⟨Z.heap.size, 2, none⟩) (Nat.le_refl _) _
    clear d0 d1 d2 f0 f1 f2
    generalize ((w6.setCell ⟨Z.heap.size, 0, none⟩ (.int .u8 0)).setCell ⟨Z.heap.size, 1, none⟩ (.int .u8 0)).setCell ⟨Z.heap.size, 2, none⟩ (.slice none 0 0) = W7 at hB ⊢
    clear hb7
    have R7 := Lib.hid (R5.out.below (below_tr B6.out hB) (Nat.le_refl _))
    have N7 := Lib.hid (heap_below (below_tr B6.out hB) N5.out)
    have B7 := Lib.hid (below_tr B5.out (below_tr B6.out hB))
    clear hB N6
    have c0 : W7.cell? ⟨p, 0, none⟩ = some (.int .u8 97) := by rw [cell_at N7.out]; rfl
    have c1 : W7.cell? ⟨p, 1, none⟩ = some (.int .u8 109) := by rw [cell_at N7.out]; rfl
    have c2 : W7.cell? ⟨p, 2, none⟩ = some (.slice a3 2 c3) := by rw [cell_at N7.out]; rfl
    go_wp2_with fail
    have E7 := Lib.hid (ex5 p a3 c3 W7 R7.out N7.out)
    clear c0 c1 c2
    have c0 : W7.cell? ⟨p, 0, none⟩ = some (.int .u8 97) := by rw [cell_at N7.out]; rfl
    have c1 : W7.cell? ⟨p, 1, none⟩ = some (.int .u8 109) := by rw [cell_at N7.out]; rfl
    have c2 : W7.cell? ⟨p, 2, none⟩ = some (.slice a3 2 c3) := by rw [cell_at N7.out]; rfl
    go_region_with (first | (go_at_call 32; refine (E7.out _ (by first | exact Below.refl _ _ | exact (Below.refl _ _).drew)).mono ?_; rintro e w8 ⟨v8, rfl, hr8, hR8, hb8, e0, e1, e2⟩) | (go_at_call 21; refine (ex6 _ _ _ (by first | exact hR8 | exact hR8.below (Below.refl _ _).drew (Nat.le_refl _)) (by first | exact hr8 | exact hr8.below (Below.refl _ _).drew (Nat.le_refl _))).mono ?_; rintro e w9 ⟨rfl, hb9⟩))
    all_goals
      have hfin := Lib.hid (below_tr B7.out (below_tr hb8 (by first | exact hb9 | exact (Below.refl _ _).drew.trans hb9)))
      clear hb8 hb9 e0 e1 e2 hr8 hR8 c0 c1 c2 E7
      go_wp2
      go_ret
      exact ⟨rfl, hfin.out⟩
end Go.Proofs.YtpfnmjcomdckgaaDoor
