/-
  marc.readEntry. marc.readDirectory.
-/
import Derived.Test.YtpfnmjcomdckgaaDoorRPHead
import Derived.Deep.RegionHeld3
import Derived.Deep.RegionWith
import Derived.BigRegion
import Derived.Laws.AppendOwn
namespace Go.Proofs.YtpfnmjcomdckgaaDoor
open Go.RowKit Go.Shelf
set_option linter.unusedVariables false
set_option linter.unusedSimpArgs false


theorem set3o (w : World) (g : Nat) (cs : Array Value) (T : TypeId) (x y z p q r : Value) (h : w.heap[g]? = some (.cells #[p, q, r] T (0, 0))) :
    (((w.setCell ⟨g, 0, none⟩ x).setCell ⟨g, 1, none⟩ y).setCell ⟨g, 2, none⟩ z).drew.heap[g]? = some (.cells #[x, y, z] T (0, 0)) := by
  have set_at : ∀ {w : World} {cs : Array Value} (hb : w.heap[g]? = some (.cells cs T (0, 0))) (j : Nat) (v : Value), (w.setCell ⟨g, j, none⟩ v).heap[g]? = some (.cells (cs.setIfInBounds j v) T (0, 0)) := by
    intro w cs hb j v
    simp [World.setCell, Array.getElem?_modify, hb]
  exact set_at (set_at (set_at h 0 x) 1 y) 2 z
/-- An entry as the program has it. -/
def entV (e : EntM) : Value := .agg #[str e.tag, .int .i64 e.from', .int .i64 e.size]
theorem numV_numN (l : List UInt8) (h : l.length ≤ 18) : numV l = (numN l : Int) := by
  unfold numN
  cases hd : l.all digB with
  | false => rw [numV_bad hd, if_neg (by decide)]; rfl
  | true => rw [numV_val hd h, if_pos rfl]
theorem numN_lt (l : List UInt8) (h : l.length ≤ 5) : numN l < 100000 := by
  unfold numN
  split
  · rename_i hd
    have := valL_lt l hd
    have h2 : 10 ^ l.length ≤ 10 ^ 5 := Nat.pow_le_pow_right (by decide) h
    omega
  · omega
set_option maxRecDepth 100000 in
set_option maxHeartbeats 2000000 in
theorem readEntry_c (b : List UInt8) (hb : b.length = 12) (w : World) :
    Calls Tryd.prog 86 #[str b] w fun e w' => e = .returned (.tuple #[entV (entOf b), .bool (entB b)]) ∧ Below w.heap.size w w' := by
  have hsz := size_str b
  rw [hb] at hsz
  have hex1 := ext_mid b 3 7
  have hex2 := ext_drop b 7
  rw [hb] at hex2
  have hex3 := ext_take b 3
  have l1 : ((b.drop 3).take (7 - 3)).length = 4 := by rw [List.length_take, List.length_drop]; omega
  have l2 : (b.drop 7).length = 5 := by rw [List.length_drop]; omega
  have l3 : (b.take 3).length = 3 := by rw [List.length_take]; omega
  have N1 := Lib.hid (fun W => number_c ((b.drop 3).take (7 - 3)) (by omega) W)
  have N2 := Lib.hid (fun W => number_c (b.drop 7) (by omega) W)
  have N3 := Lib.hid (fun W => isTag_c (b.take 3) (by omega) W)
  rw [numV_numN _ (by omega)] at N1
  rw [numV_numN _ (by omega)] at N2
  unfold entV entOf entB
  simp only
  rw [show (7 : Nat) - 3 = 4 from rfl] at hex1 N1
  obtain ⟨T, hT⟩ : ∃ T, b.take 3 = T := ⟨_, rfl⟩
  obtain ⟨S, hS⟩ : ∃ S, (b.drop 3).take 4 = S := ⟨_, rfl⟩
  obtain ⟨F, hF⟩ : ∃ F, b.drop 7 = F := ⟨_, rfl⟩
  rw [hT] at hex3 N3 ⊢
  rw [hS] at hex1 N1 ⊢
  rw [hF] at hex2 N2 ⊢
  obtain ⟨bt, hbt⟩ : ∃ x, tagB T = x := ⟨_, rfl⟩
  obtain ⟨bs, hbs⟩ : ∃ x, S.all digB = x := ⟨_, rfl⟩
  obtain ⟨bf, hbf⟩ : ∃ x, F.all digB = x := ⟨_, rfl⟩
  rw [hbt] at N3
  rw [hbs] at N1
  rw [hbf] at N2
  rw [hbt, hbs, hbf]
  clear hT hS hF l1 l2 l3 hbt hbs hbf
  rcases bt with _ | _
  rotate_left
  rcases bs with _ | _
  all_goals
    go_enter Tryd.func86, Tryd.ntmps86
    go_wp2_with fail
    refine (N1.out _).mono ?_
    rintro e w1 ⟨rfl, rfl⟩
    go_wp2_with fail
    refine (N2.out _).mono ?_
    rintro e w2 ⟨rfl, rfl⟩
    go_wp2_with fail
    have hWb : Below w.heap.size w ((w.alloc (.cells #[.string ⟨#[]⟩, .int .i64 0, .int .i64 0] 117)).alloc (.cells #[str T, .int .i64 (numN F), .int .i64 (numN S)] 117)) := ((Below.refl _ w).alloc (Nat.le_refl _) _).alloc (by simp) _
    have hn0 : ((w.alloc (.cells #[.string ⟨#[]⟩, .int .i64 0, .int .i64 0] 117)).alloc (.cells #[str T, .int .i64 (numN F), .int .i64 (numN S)] 117)).heap[w.heap.size]? = some (.cells #[.string ⟨#[]⟩, .int .i64 0, .int .i64 0] 117 (0, 0)) := heap_below (below_new _ _) (new_at _ _)
    have hn1 : ((w.alloc (.cells #[.string ⟨#[]⟩, .int .i64 0, .int .i64 0] 117)).alloc (.cells #[str T, .int .i64 (numN F), .int .i64 (numN S)] 117)).heap[w.heap.size + 1]? = some (.cells #[str T, .int .i64 (numN F), .int .i64 (numN S)] 117 (0, 0)) := by
      have := new_at (w.alloc (.cells #[.string ⟨#[]⟩, .int .i64 0, .int .i64 0] 117)) (.cells #[str T, .int .i64 (numN F), .int .i64 (numN S)] 117)
      rwa [World.size_alloc] at this
    obtain ⟨W5, hW5⟩ : ∃ W5, (w.alloc (.cells #[.string ⟨#[]⟩, .int .i64 0, .int .i64 0] 117)).alloc (.cells #[str T, .int .i64 (numN F), .int .i64 (numN S)] 117) = W5 := ⟨_, rfl⟩
    rw [hW5] at hWb hn0 hn1 ⊢
    clear hW5
    have a0 : W5.cell? ⟨w.heap.size, 0, none⟩ = some (.string ⟨#[]⟩) := by rw [cell_at hn0]; rfl
    have a1 : W5.cell? ⟨w.heap.size, 1, none⟩ = some (.int .i64 0) := by rw [cell_at hn0]; rfl
    have a2 : W5.cell? ⟨w.heap.size, 2, none⟩ = some (.int .i64 0) := by rw [cell_at hn0]; rfl
    have f0 : W5.frozen? ⟨w.heap.size, 0, none⟩ = false := Lib.frozen_of_heap hn0 0
    have f1 : W5.frozen? ⟨w.heap.size, 1, none⟩ = false := Lib.frozen_of_heap hn0 1
    have f2 : W5.frozen? ⟨w.heap.size, 2, none⟩ = false := Lib.frozen_of_heap hn0 2
    have b0 : W5.cell? ⟨w.heap.size + 1, 0, none⟩ = some (str T) := by rw [cell_at hn1]; rfl
    have b1 : W5.cell? ⟨w.heap.size + 1, 1, none⟩ = some (.int .i64 (numN F)) := by rw [cell_at hn1]; rfl
    have b2 : W5.cell? ⟨w.heap.size + 1, 2, none⟩ = some (.int .i64 (numN S)) := by rw [cell_at hn1]; rfl
    obtain ⟨g, hg⟩ : ∃ g, w.heap.size = g := ⟨_, rfl⟩
    have Hg := Lib.hid hg
    rw [hg] at a0 a1 a2 f0 f1 f2 b0 b1 b2 hn0 hn1 hWb ⊢
    clear hn1 hg
    have hW9 : Below g w (((W5.setCell ⟨g, 0, none⟩ (str T)).setCell ⟨g, 1, none⟩ (.int .i64 (numN F))).setCell ⟨g, 2, none⟩ (.int .i64 (numN S))).drew := (((hWb.setCell (p := ⟨g, 0, none⟩) (Nat.le_refl _) _).setCell (p := ⟨g, 1, none⟩) (Nat.le_refl _) _).setCell (p := ⟨g, 2, none⟩) (Nat.le_refl _) _).drew
    have HW9 := Lib.hid hW9
    have hn9 := set3o W5 g #[] _ (str T) (.int .i64 (numN F)) (.int .i64 (numN S)) _ _ _ hn0
    have Hn9 := Lib.hid hn9
    clear N1 N2 hex1 hex2 hex3 hWb hn0 hW9
    first
      | go_region_with (go_at_call 55; refine (N3.out _).mono ?_; rintro e W2 ⟨rfl, rfl⟩)
      | fail
    all_goals go_wp2
    all_goals
      simp [bodyPost, results, Tryd.results86, go_sem, Act.put, a0, a1, a2]
    all_goals
      rw [Hg.out]
      exact HW9.out
end Go.Proofs.YtpfnmjcomdckgaaDoor

namespace Go.Proofs.YtpfnmjcomdckgaaDoor
open Go.RowKit Go.Shelf
set_option linter.unusedVariables false
set_option linter.unusedSimpArgs false

/-- The cells of a row of entries. -/
def entCells (l : List EntM) : List Value := l.flatMap fun e => [str e.tag, .int .i64 e.from', .int .i64 e.size]
def DPost (x : PR (List EntM)) (w : World) (e : Ending) (w' : World) : Prop := match x with
  | .bad a k => e = pan a k ∧ Below w.heap.size w w'
  | .ok es => ∃ v, e = .returned v ∧ Below w.heap.size w w' ∧ w'.ownsRow w.heap.size 117 3 v es.length (entCells es)
/-- The way that is left, with what was found. -/
def pre (acc : List EntM) : PR (List EntM) → PR (List EntM)
  | .bad a k => .bad a k
  | .ok es => .ok (acc ++ es)
theorem dirP_bad {l : List UInt8} {data n a sum : Nat} (h : entOk data sum ((l.drop a).take 12) = false) : dirP l data (n + 1) a sum = .bad a 13 := by
  show ite _ _ _ = _; rw [if_neg (by rw [h]; decide)]
theorem dirP_go {l : List UInt8} {data n a sum : Nat} {b : List UInt8} (hb : (l.drop a).take 12 = b) (h : entOk data sum b = true) (acc : List EntM) :
    pre acc (dirP l data (n + 1) a sum) = pre (acc ++ [entOf b]) (dirP l data n (a + 12) (sum + (entOf b).size)) := by
  subst hb
  have : dirP l data (n + 1) a sum = (match dirP l data n (a + 12) (sum + (entOf ((l.drop a).take 12)).size) with
      | .bad x k => .bad x k
      | .ok es => .ok (entOf ((l.drop a).take 12) :: es)) := by
    exact if_pos h
  rw [this]
  cases dirP l data n (a + 12) (sum + (entOf ((l.drop a).take 12)).size) with
  | bad x k => rfl
  | ok es => simp [pre]
theorem infoEnt : (Tryd.prog.info? 117).map (fun i => (i.zero, i.size, i.bytes)) = some (some (.agg #[.string ⟨#[]⟩, .int .i64 0, .int .i64 0]), 3, 32) := by kernel_rfl
theorem info_parts {t : TypeId} {z : Value} {n m : Nat} (h : (Tryd.prog.info? t).map (fun i => (i.zero, i.size, i.bytes)) = some (some z, n, m)) : ∃ i, Tryd.prog.info? t = some i ∧ i.zero = some z ∧ i.size = n ∧ i.bytes = m := by
  cases hi : Tryd.prog.info? t with
  | none => rw [hi] at h; cases h
  | some i =>
    rw [hi] at h
    simp only [Option.map_some, Option.some.injEq, Prod.mk.injEq] at h
    exact ⟨i, rfl, h.1, h.2.1, h.2.2⟩
theorem entCells_snoc (l : List EntM) (e : EntM) : entCells (l ++ [e]) = entCells l ++ [str e.tag, .int .i64 e.from', .int .i64 e.size] := by simp [entCells]
theorem set3n (w : World) (g : Nat) (T : TypeId) (x y z p q r : Value) (h : w.heap[g]? = some (.cells #[p, q, r] T (0, 0))) :
    (((w.setCell ⟨g, 0, none⟩ x).setCell ⟨g, 1, none⟩ y).setCell ⟨g, 2, none⟩ z).heap[g]? = some (.cells #[x, y, z] T (0, 0)) := by
  have set_at : ∀ {w : World} {cs : Array Value} (hb : w.heap[g]? = some (.cells cs T (0, 0))) (j : Nat) (v : Value), (w.setCell ⟨g, j, none⟩ v).heap[g]? = some (.cells (cs.setIfInBounds j v) T (0, 0)) := by
    intro w cs hb j v
    simp [World.setCell, Array.getElem?_modify, hb]
  exact set_at (set_at (set_at h 0 x) 1 y) 2 z
set_option maxRecDepth 100000 in
set_option maxHeartbeats 4000000 in
theorem readDir_c (l : List UInt8) (n : Nat) (hn : n ≤ 999) (hl : 25 + 12 * n < l.length) (hl2 : l.length ≤ 1099511627776) (w : World) :
    Calls Tryd.prog 69 #[str l, .int .i64 (25 + 12 * n : Nat)] w (DPost (dirP l (l.length - 1 - (25 + 12 * n)) n 24 0) w) := by
  have hsz := size_str l
  obtain ⟨D, hD⟩ : ∃ D, l.length - 1 - (25 + 12 * n) = D := ⟨_, rfl⟩
  have hDi : (l.length : Int) - 1 - (25 + 12 * (n : Int)) = (D : Int) := by omega
  rw [hD]
  obtain ⟨R, hR⟩ : ∃ R, dirP l D n 24 0 = R := ⟨_, rfl⟩
  rw [hR]
  have HR := Lib.hid hR
  push_cast
  clear hR hD
  go_enter Tryd.func69, Tryd.ntmps69
  go_wp2
  go_loopw [6, 7, 8] (fun v sv av wr => ∃ (k a sum : Nat) (acc : List EntM), k ≤ n ∧ a = 24 + 12 * k ∧ av = .int .i64 a ∧ sv = .int .i64 sum ∧ sum ≤ D ∧ acc.length = k ∧ wr.ownsRow w.heap.size 117 3 v k (entCells acc) ∧ R = pre acc (dirP l D (n - k) a sum) ∧ Below w.heap.size w wr) (fun _ _ av _ => 12 * n + 25 - (intOf av).toNat)
  case atStart => exact ⟨0, 24, 0, [], Nat.zero_le _, rfl, rfl, rfl, Nat.zero_le _, rfl, World.ownsRow_nil _ _ _ _, by rw [← HR.out]; cases dirP l D n 24 0 <;> rfl, Below.refl _ _⟩
  case round =>
    obtain ⟨k, a, sum, acc, hk, ha, rfl, rfl, hsum, hacc, hown, hres, hbel⟩ := hrel
    by_cases hlt : k < n
    · obtain ⟨m, hm⟩ : ∃ m, n - k = m + 1 := ⟨n - k - 1, by omega⟩
      rw [hm] at hres
      have hm2 : n - (k + 1) = m := by omega
      obtain ⟨z, hz12⟩ : ∃ z, a + 12 = z := ⟨_, rfl⟩
      have hex := ext_mid l a z
      rw [show z - a = 12 by omega] at hex
      have k12 : (a : Int) + 12 = (z : Int) := by omega
      obtain ⟨B, hB⟩ : ∃ B, (l.drop a).take 12 = B := ⟨_, rfl⟩
      have hBl : B.length = 12 := by rw [← hB, List.length_take, List.length_drop]; omega
      rw [hB] at hex
      have hF0 := numN_lt (B.drop 7) (by rw [List.length_drop]; omega)
      have hS0 := numN_lt ((B.drop 3).take 4) (by rw [List.length_take, List.length_drop]; omega)
      have N := Lib.hid (readEntry_c B hBl wr)
      have hgo := fun h => dirP_go (l := l) (data := D) (n := m) (a := a) (sum := sum) hB h acc
      have hbad : entOk D sum B = false → R = .bad a 13 := fun h => by rw [hres, dirP_bad (by rw [hB]; exact h)]; rfl
      have hok : entOk D sum B = (entB B && !((entOf B).size == 0) && decide ((entOf B).from' + (entOf B).size ≤ D) && decide (sum + (entOf B).size ≤ D)) := rfl
      have hE1 : (entOf B).from' < 100000 := hF0
      have hE2 : (entOf B).size < 100000 := hS0
      obtain ⟨⟨T, F, S⟩, hE⟩ : ∃ e, entOf B = e := ⟨_, rfl⟩
      obtain ⟨bo, hbo⟩ : ∃ x, entB B = x := ⟨_, rfl⟩
      rw [hE, hbo] at N
      rw [hE] at hE1 hE2 hgo
      rw [hE, hbo] at hok
      unfold entV at N
      simp only at N hok hE1 hE2 hgo
      have i0 : (0 : Int) ≤ (a : Int) := by omega
      have i1 : (z : Int) ≤ (l.length : Int) := by omega
      have i3 : (a : Int) ≤ (z : Int) := by omega
      have i4 : (0 : Int) ≤ (z : Int) := by omega
      have i2 : (a : Int) < 25 + 12 * (n : Int) - 1 := by omega
      have Hbel := Lib.hid hbel
      have Hgo := Lib.hid hgo
      have Hres0 := Lib.hid hres
      have Ha := Lib.hid ha
      clear hF0 hS0 hbel hgo hres hE hbo hB hBl hm ha
      cases bo with
      | false =>
        have Hres := Lib.hid (hbad (by rw [hok]; rfl))
        clear hbad hok Hgo
        go_wp2_with fail
        refine N.out.mono ?_
        rintro e w1 ⟨rfl, hb1⟩
        obtain ⟨W5, hW5⟩ : ∃ W5, w1.alloc (.cells #[str T, .int .i64 F, .int .i64 S] 117) = W5 := ⟨_, rfl⟩
        have hn5 := new_at w1 (.cells #[str T, .int .i64 F, .int .i64 S] 117)
        have hbr : Below wr.heap.size wr W5 := by rw [← hW5]; exact hb1.alloc hb1.size _
        rw [hW5] at hn5
        have b0 : W5.cell? ⟨w1.heap.size, 0, none⟩ = some (str T) := by rw [cell_at hn5]; rfl
        have b1 : W5.cell? ⟨w1.heap.size, 1, none⟩ = some (.int .i64 F) := by rw [cell_at hn5]; rfl
        have b2 : W5.cell? ⟨w1.heap.size, 2, none⟩ = some (.int .i64 S) := by rw [cell_at hn5]; rfl
        have Hbr := Lib.hid hbr
        clear hbr hb1
        go_wp2_with fail
        refine (fail_c _ _ _).mono ?_
        rintro e w8 ⟨rfl, rfl⟩
        go_wp2_with fail
        refine ⟨rfl, ?_⟩
        rw [Hres.out]
        exact ⟨rfl, Hbel.out.trans (Hbr.out.mono Hbel.out.size)⟩
      | true =>
      by_cases hz : S = 0
      · have jz : ((S : Int) == 0) = true := by rw [hz]; rfl
        have Hres := Lib.hid (hbad (by rw [hok, hz]; rfl))
        clear hbad hok Hgo hz
        go_wp2_with fail
        refine N.out.mono ?_
        rintro e w1 ⟨rfl, hb1⟩
        obtain ⟨W5, hW5⟩ : ∃ W5, w1.alloc (.cells #[str T, .int .i64 F, .int .i64 S] 117) = W5 := ⟨_, rfl⟩
        have hn5 := new_at w1 (.cells #[str T, .int .i64 F, .int .i64 S] 117)
        have hbr : Below wr.heap.size wr W5 := by rw [← hW5]; exact hb1.alloc hb1.size _
        rw [hW5] at hn5
        have b0 : W5.cell? ⟨w1.heap.size, 0, none⟩ = some (str T) := by rw [cell_at hn5]; rfl
        have b1 : W5.cell? ⟨w1.heap.size, 1, none⟩ = some (.int .i64 F) := by rw [cell_at hn5]; rfl
        have b2 : W5.cell? ⟨w1.heap.size, 2, none⟩ = some (.int .i64 S) := by rw [cell_at hn5]; rfl
        have Hbr := Lib.hid hbr
        clear hbr hb1
        go_wp2_with fail
        refine (fail_c _ _ _).mono ?_
        rintro e w8 ⟨rfl, rfl⟩
        go_wp2_with fail
        refine ⟨rfl, ?_⟩
        rw [Hres.out]
        exact ⟨rfl, Hbel.out.trans (Hbr.out.mono Hbel.out.size)⟩
      have jz : ((S : Int) == 0) = false := by rw [beq_eq_false_iff_ne]; omega
      have jz' : (S == 0) = false := by simpa using hz
      by_cases h3 : D < F + S
      · have j3 : (D : Int) < (F : Int) + (S : Int) := by omega
        have Hres := Lib.hid (hbad (by rw [hok, decide_eq_false (show ¬ F + S ≤ D by omega)]; simp))
        clear hbad hok Hgo hz
        go_wp2_with fail
        refine N.out.mono ?_
        rintro e w1 ⟨rfl, hb1⟩
        obtain ⟨W5, hW5⟩ : ∃ W5, w1.alloc (.cells #[str T, .int .i64 F, .int .i64 S] 117) = W5 := ⟨_, rfl⟩
        have hn5 := new_at w1 (.cells #[str T, .int .i64 F, .int .i64 S] 117)
        have hbr : Below wr.heap.size wr W5 := by rw [← hW5]; exact hb1.alloc hb1.size _
        rw [hW5] at hn5
        have b0 : W5.cell? ⟨w1.heap.size, 0, none⟩ = some (str T) := by rw [cell_at hn5]; rfl
        have b1 : W5.cell? ⟨w1.heap.size, 1, none⟩ = some (.int .i64 F) := by rw [cell_at hn5]; rfl
        have b2 : W5.cell? ⟨w1.heap.size, 2, none⟩ = some (.int .i64 S) := by rw [cell_at hn5]; rfl
        have Hbr := Lib.hid hbr
        clear hbr hb1
        go_wp2_with fail
        refine (fail_c _ _ _).mono ?_
        rintro e w8 ⟨rfl, rfl⟩
        go_wp2_with fail
        refine ⟨rfl, ?_⟩
        rw [Hres.out]
        exact ⟨rfl, Hbel.out.trans (Hbr.out.mono Hbel.out.size)⟩
      have j3 : ¬ (D : Int) < (F : Int) + (S : Int) := by omega
      by_cases h4 : D < sum + S
      · have j4 : (D : Int) < (sum : Int) + (S : Int) := by omega
        have Hres := Lib.hid (hbad (by rw [hok, decide_eq_false (show ¬ sum + S ≤ D by omega)]; simp))
        clear hbad hok Hgo hz
        go_wp2_with fail
        refine N.out.mono ?_
        rintro e w1 ⟨rfl, hb1⟩
        obtain ⟨W5, hW5⟩ : ∃ W5, w1.alloc (.cells #[str T, .int .i64 F, .int .i64 S] 117) = W5 := ⟨_, rfl⟩
        have hn5 := new_at w1 (.cells #[str T, .int .i64 F, .int .i64 S] 117)
        have hbr : Below wr.heap.size wr W5 := by rw [← hW5]; exact hb1.alloc hb1.size _
        rw [hW5] at hn5
        have b0 : W5.cell? ⟨w1.heap.size, 0, none⟩ = some (str T) := by rw [cell_at hn5]; rfl
        have b1 : W5.cell? ⟨w1.heap.size, 1, none⟩ = some (.int .i64 F) := by rw [cell_at hn5]; rfl
        have b2 : W5.cell? ⟨w1.heap.size, 2, none⟩ = some (.int .i64 S) := by rw [cell_at hn5]; rfl
        have Hbr := Lib.hid hbr
        clear hbr hb1
        go_wp2_with fail
        refine (fail_c _ _ _).mono ?_
        rintro e w8 ⟨rfl, rfl⟩
        go_wp2_with fail
        refine ⟨rfl, ?_⟩
        rw [Hres.out]
        exact ⟨rfl, Hbel.out.trans (Hbr.out.mono Hbel.out.size)⟩
      have j4 : ¬ (D : Int) < (sum : Int) + (S : Int) := by omega
      have Hg := Lib.hid (Hres0.out.trans (Hgo.out (by rw [hok, jz', decide_eq_true (show F + S ≤ D by omega), decide_eq_true (show sum + S ≤ D by omega)]; rfl)))
      clear hbad hok Hgo Hres0 hz
      focus
        go_wp2_with fail
        refine N.out.mono ?_
        rintro e w1 ⟨rfl, hb1⟩
        obtain ⟨W5, hW5⟩ : ∃ W5, w1.alloc (.cells #[str T, .int .i64 F, .int .i64 S] 117) = W5 := ⟨_, rfl⟩
        have hn5 := new_at w1 (.cells #[str T, .int .i64 F, .int .i64 S] 117)
        have hbr : Below wr.heap.size wr W5 := by rw [← hW5]; exact hb1.alloc hb1.size _
        rw [hW5] at hn5
        have b0 : W5.cell? ⟨w1.heap.size, 0, none⟩ = some (str T) := by rw [cell_at hn5]; rfl
        have b1 : W5.cell? ⟨w1.heap.size, 1, none⟩ = some (.int .i64 F) := by rw [cell_at hn5]; rfl
        have b2 : W5.cell? ⟨w1.heap.size, 2, none⟩ = some (.int .i64 S) := by rw [cell_at hn5]; rfl
        have Hbr := Lib.hid hbr
        clear hbr hb1
        have hown5 : W5.ownsRow w.heap.size 117 3 u6 k (entCells acc) := by
          refine ⟨hown.1, ?_⟩
          rcases hown.2 with h | ⟨g, cap, cur, hv, hbg, hg, rest⟩
          · exact .inl h
          · exact .inr ⟨g, cap, cur, hv, hbg, (Hbr.out.block g (lt_at hg)).trans hg, rest⟩
        have hbel5 := Hbel.out.trans (Hbr.out.mono Hbel.out.size)
        have hwl := hbel5.size
        obtain ⟨i0', hi, hz0, hz1, hz2⟩ := info_parts infoEnt
        have hcells : ∀ (j : Nat) (u : Value), [str T, Value.int .i64 F, Value.int .i64 S][j]? = some u → (W5.alloc (.cells #[str T, .int .i64 F, .int .i64 S] 117)).cell? ((⟨W5.heap.size, 0, none⟩ : Addr).add j) = some u := by
          intro j u hu
          have hj : j < 3 := by
            rcases Nat.lt_or_ge j 3 with h | h
            · exact h
            · rw [List.getElem?_eq_none (by simpa using h)] at hu; cases hu
          match j, hj with
          | 0, _ => cases hu; rw [show ((⟨W5.heap.size, 0, none⟩ : Addr).add 0) = ⟨W5.heap.size, 0, none⟩ from rfl, cell_at (new_at _ _)]; rfl
          | 1, _ => cases hu; rw [show ((⟨W5.heap.size, 0, none⟩ : Addr).add 1) = ⟨W5.heap.size, 1, none⟩ from rfl, cell_at (new_at _ _)]; rfl
          | 2, _ => cases hu; rw [show ((⟨W5.heap.size, 0, none⟩ : Addr).add 2) = ⟨W5.heap.size, 2, none⟩ from rfl, cell_at (new_at _ _)]; rfl
        have Hown5 := Lib.hid hown5
        have Hbel5 := Lib.hid hbel5
        have Hcells := Lib.hid hcells
        clear hown hown5 hbel5 hcells hn5 Hbr
        go_wp2_with (at_builtin; refine wpList_append_own _ rfl _ _ 106 rfl w.heap.size 117 i0' _ 3 32 Tryd.underlying106 hi hz0 hz1 hz2 rfl (by decide) _ _ _ rfl (Hown5.out.alloc _) ⟨W5.heap.size, 0, none⟩ 1 1 [str T, .int .i64 F, .int .i64 S] rfl rfl ?c1 ?c2 ?c3 ?c4 ?c5 ?_)
        case c1 => exact Hcells.out
        case c2 => simp [Value.oneCell']
        case c3 => unfold maxLen; omega
        case c4 => omega
        case c5 => simp; omega
        intro v' w4 hown4 hgrow _
        have hbel4 : Below w.heap.size w w4 := (Hbel5.out.alloc hwl _).grown hgrow (by simp; omega) (fun k hk => (Hown5.out.lt k hk).1)
        rw [show [str T, Value.int .i64 F, Value.int .i64 S] = [str (EntM.mk T F S).tag, .int .i64 (EntM.mk T F S).from', .int .i64 (EntM.mk T F S).size] from rfl, ← entCells_snoc] at hown4
        have Hown4 := Lib.hid hown4
        have Hbel4 := Lib.hid hbel4
        clear hown4 hbel4 hgrow hW5 b0 b1 b2 hi hz0 hz1 hz2 Hown5 Hbel5 Hcells hwl
        go_wp2
        go_roundw
        case rel => exact ⟨k + 1, z, sum + S, acc ++ [⟨T, F, S⟩], by omega, by have := Ha.out; omega, by go_num, by go_num, by omega, by rw [List.length_append, hacc]; rfl, Hown4.out, by rw [hm2, ← hz12]; exact Hg.out, Hbel4.out⟩
        case measure => have := Ha.out; simp only [intOf]; omega
    · have hkn : k = n := by omega
      subst hkn
      rw [Nat.sub_self] at hres
      have hR2 : R = .ok acc := by rw [hres]; simp [dirP, pre]
      have i2 : ¬ (a : Int) < 25 + 12 * (k : Int) - 1 := by omega
      have Hown := Lib.hid hown
      have Hbel := Lib.hid hbel
      have HR2 := Lib.hid hR2
      have Ha := Lib.hid ha
      clear hres hR2 hown hbel ha
      go_wp2
      go_ret
      rw [HR2.out]
      exact ⟨_, rfl, Hbel.out, by rw [hacc]; exact Hown.out⟩
end Go.Proofs.YtpfnmjcomdckgaaDoor
