/-
  marc.readEntry.
-/
import Derived.Test.YtpfnmjcomdckgaaDoorRPHead
import Derived.Deep.RegionHeld3
import Derived.Deep.RegionWith
import Derived.BigRegion
namespace Go.Proofs.YtpfnmjcomdckgaaDoor
open Go.RowKit Go.Shelf
set_option linter.unusedVariables false
set_option linter.unusedSimpArgs false


theorem set3o (w : World) (g : Nat) (cs : Array Value) (T : TypeId) (x y z p q r : Value) (h : w.heap[g]? = some (.cells #[p, q, r] T (0, 0))) :
    (((w.setCell ⟨g, 0, none⟩ x).setCell ⟨g, 1, none⟩ y).setCell ⟨g, 2, none⟩ z).drew.heap[g]? = some (.cells #[x, y, z] T (0, 0)) := by
  have set_at : ∀ {w : World} {cs : Array Value} (hb : w.heap[g]? = some (.cells cs T (0, 0))) (j : Nat) (v : Value), (w.setCell ⟨g, j, none⟩ v).heap[g]? = some (.cells (cs.setIfInBounds j v) T (0, 0)) := by
    intro w cs hb j v
    simp [World.setCell, Array.getElem?_modify, hb]
  exact set_at (set_at (set_at h 0 x) 1 y) 2 z
/-- An entry as the program has it. -/
def entV (e : EntM) : Value := .agg #[str e.tag, .int .i64 e.from', .int .i64 e.size]
theorem numV_numN (l : List UInt8) (h : l.length ≤ 18) : numV l = (numN l : Int) := by
  unfold numN
  cases hd : l.all digB with
  | false => rw [numV_bad hd, if_neg (by decide)]; rfl
  | true => rw [numV_val hd h, if_pos rfl]
theorem numN_lt (l : List UInt8) (h : l.length ≤ 5) : numN l < 100000 := by
  unfold numN
  split
  · rename_i hd
    have := valL_lt l hd
    have h2 : 10 ^ l.length ≤ 10 ^ 5 := Nat.pow_le_pow_right (by decide) h
    omega
  · omega
set_option maxRecDepth 100000 in
set_option maxHeartbeats 2000000 in
theorem readEntry_c (b : List UInt8) (hb : b.length = 12) (w : World) :
    Calls Tryd.prog 86 #[str b] w fun e w' => e = .returned (.tuple #[entV (entOf b), .bool (entB b)]) ∧ Below w.heap.size w w' := by
  have hsz := size_str b
  rw [hb] at hsz
  have hex1 := ext_mid b 3 7
  have hex2 := ext_drop b 7
  rw [hb] at hex2
  have hex3 := ext_take b 3
  have l1 : ((b.drop 3).take (7 - 3)).length = 4 := by rw [List.length_take, List.length_drop]; omega
  have l2 : (b.drop 7).length = 5 := by rw [List.length_drop]; omega
  have l3 : (b.take 3).length = 3 := by rw [List.length_take]; omega
  have N1 := Lib.hid (fun W => number_c ((b.drop 3).take (7 - 3)) (by omega) W)
  have N2 := Lib.hid (fun W => number_c (b.drop 7) (by omega) W)
  have N3 := Lib.hid (fun W => isTag_c (b.take 3) (by omega) W)
  rw [numV_numN _ (by omega)] at N1
  rw [numV_numN _ (by omega)] at N2
  unfold entV entOf entB
  simp only
  rw [show (7 : Nat) - 3 = 4 from rfl] at hex1 N1
  obtain ⟨T, hT⟩ : ∃ T, b.take 3 = T := ⟨_, rfl⟩
  obtain ⟨S, hS⟩ : ∃ S, (b.drop 3).take 4 = S := ⟨_, rfl⟩
  obtain ⟨F, hF⟩ : ∃ F, b.drop 7 = F := ⟨_, rfl⟩
  rw [hT] at hex3 N3 ⊢
  rw [hS] at hex1 N1 ⊢
  rw [hF] at hex2 N2 ⊢
  obtain ⟨bt, hbt⟩ : ∃ x, tagB T = x := ⟨_, rfl⟩
  obtain ⟨bs, hbs⟩ : ∃ x, S.all digB = x := ⟨_, rfl⟩
  obtain ⟨bf, hbf⟩ : ∃ x, F.all digB = x := ⟨_, rfl⟩
  rw [hbt] at N3
  rw [hbs] at N1
  rw [hbf] at N2
  rw [hbt, hbs, hbf]
  clear hT hS hF l1 l2 l3 hbt hbs hbf
  rcases bt with _ | _
  rotate_left
  rcases bs with _ | _
  all_goals
    go_enter Tryd.func86, Tryd.ntmps86
    go_wp2_with fail
    refine (N1.out _).mono ?_
    rintro e w1 ⟨rfl, rfl⟩
    go_wp2_with fail
    refine (N2.out _).mono ?_
    rintro e w2 ⟨rfl, rfl⟩
    go_wp2_with fail
    have hWb : Below w.heap.size w ((w.alloc (.cells #[.string ⟨#[]⟩, .int .i64 0, .int .i64 0] 117)).alloc (.cells #[str T, .int .i64 (numN F), .int .i64 (numN S)] 117)) := ((Below.refl _ w).alloc (Nat.le_refl _) _).alloc (by simp) _
    have hn0 : ((w.alloc (.cells #[.string ⟨#[]⟩, .int .i64 0, .int .i64 0] 117)).alloc (.cells #[str T, .int .i64 (numN F), .int .i64 (numN S)] 117)).heap[w.heap.size]? = some (.cells #[.string ⟨#[]⟩, .int .i64 0, .int .i64 0] 117 (0, 0)) := heap_below (below_new _ _) (new_at _ _)
    have hn1 : ((w.alloc (.cells #[.string ⟨#[]⟩, .int .i64 0, .int .i64 0] 117)).alloc (.cells #[str T, .int .i64 (numN F), .int .i64 (numN S)] 117)).heap[w.heap.size + 1]? = some (.cells #[str T, .int .i64 (numN F), .int .i64 (numN S)] 117 (0, 0)) := by
      have := new_at (w.alloc (.cells #[.string ⟨#[]⟩, .int .i64 0, .int .i64 0] 117)) (.cells #[str T, .int .i64 (numN F), .int .i64 (numN S)] 117)
      rwa [World.size_alloc] at this
    obtain ⟨W5, hW5⟩ : ∃ W5, (w.alloc (.cells #[.string ⟨#[]⟩, .int .i64 0, .int .i64 0] 117)).alloc (.cells #[str T, .int .i64 (numN F), .int .i64 (numN S)] 117) = W5 := ⟨_, rfl⟩
    rw [hW5] at hWb hn0 hn1 ⊢
    clear hW5
    have a0 : W5.cell? ⟨w.heap.size, 0, none⟩ = some (.string ⟨#[]⟩) := by rw [cell_at hn0]; rfl
    have a1 : W5.cell? ⟨w.heap.size, 1, none⟩ = some (.int .i64 0) := by rw [cell_at hn0]; rfl
    have a2 : W5.cell? ⟨w.heap.size, 2, none⟩ = some (.int .i64 0) := by rw [cell_at hn0]; rfl
    have f0 : W5.frozen? ⟨w.heap.size, 0, none⟩ = false := Lib.frozen_of_heap hn0 0
    have f1 : W5.frozen? ⟨w.heap.size, 1, none⟩ = false := Lib.frozen_of_heap hn0 1
    have f2 : W5.frozen? ⟨w.heap.size, 2, none⟩ = false := Lib.frozen_of_heap hn0 2
    have b0 : W5.cell? ⟨w.heap.size + 1, 0, none⟩ = some (str T) := by rw [cell_at hn1]; rfl
    have b1 : W5.cell? ⟨w.heap.size + 1, 1, none⟩ = some (.int .i64 (numN F)) := by rw [cell_at hn1]; rfl
    have b2 : W5.cell? ⟨w.heap.size + 1, 2, none⟩ = some (.int .i64 (numN S)) := by rw [cell_at hn1]; rfl
    obtain ⟨g, hg⟩ : ∃ g, w.heap.size = g := ⟨_, rfl⟩
    have Hg := Lib.hid hg
    rw [hg] at a0 a1 a2 f0 f1 f2 b0 b1 b2 hn0 hn1 hWb ⊢
    clear hn1 hg
    have hW9 : Below g w (((W5.setCell ⟨g, 0, none⟩ (str T)).setCell ⟨g, 1, none⟩ (.int .i64 (numN F))).setCell ⟨g, 2, none⟩ (.int .i64 (numN S))).drew := (((hWb.setCell (p := ⟨g, 0, none⟩) (Nat.le_refl _) _).setCell (p := ⟨g, 1, none⟩) (Nat.le_refl _) _).setCell (p := ⟨g, 2, none⟩) (Nat.le_refl _) _).drew
    have HW9 := Lib.hid hW9
    have hn9 := set3o W5 g #[] _ (str T) (.int .i64 (numN F)) (.int .i64 (numN S)) _ _ _ hn0
    have Hn9 := Lib.hid hn9
    clear N1 N2 hex1 hex2 hex3 hWb hn0 hW9
    first
      | go_region_with (go_at_call 55; refine (N3.out _).mono ?_; rintro e W2 ⟨rfl, rfl⟩)
      | fail
    all_goals go_wp2
    all_goals
      simp [bodyPost, results, Tryd.results86, go_sem, Act.put, a0, a1, a2]
    all_goals
      rw [Hg.out]
      exact HW9.out
end Go.Proofs.YtpfnmjcomdckgaaDoor
