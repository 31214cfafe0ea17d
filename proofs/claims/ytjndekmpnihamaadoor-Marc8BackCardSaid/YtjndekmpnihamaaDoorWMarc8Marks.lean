/-
  The walk of Marc8Marks.
-/
import Derived.Test.YtjndekmpnihamaaDoorMSan
import Derived.Test.YtjndekmpnihamaaDoorMMarks
import Derived.Test.YtjndekmpnihamaaDoorMArgs
import Derived.Laws.IdiomStrings
import Derived.Laws.Cover4
import Derived.BigQuiet
import Derived.Deep.QuietTactic
namespace Go.Proofs.YtjndekmpnihamaaDoor
open Go.RowKit Go.Shelf
set_option linter.unusedVariables false

theorem str_app (a b : List UInt8) : ByteArray.mk a.toArray ++ ByteArray.mk b.toArray = ⟨(a ++ b).toArray⟩ := by
  apply ByteArray.ext
  simp
theorem add_str (a b : List UInt8) (h : a.length + b.length ≤ 9223372036854775807) (W : World) : (Op.stringOp .add ⟨a.toArray⟩ ⟨b.toArray⟩).run Tryd.prog W = .ok (str (a ++ b)) W := by
  rw [run_string_add_sum W _ _ (by rw [size_str, size_str]; exact h), str_app]
theorem str_one (W : World) (g off cap : Nat) (y : UInt8) (h : W.cell? ⟨g, off, none⟩ = some (.int .u8 (y.toNat : Int))) :
    (convert 30 9 (.slice (some ⟨g, off, none⟩) 1 cap)).run Tryd.prog W = .ok (str [y]) W := by
  refine run_convert_bytes_back W _ _ 5 ⟨g, off, none⟩ cap [y] Tryd.underlying30 Tryd.underlying5 Tryd.underlying9 ?_
  intro j hj
  obtain rfl : j = 0 := by simp at hj; exact hj
  rw [add_off]; exact h
def mkN (j : Nat) : Int := [777, 768, 769, 776, 779, 807, 803, 787].getD j 0
theorem mkN_bytes {j : Nat} (hj : j < 8) : runesBytes [mkN j] = ⟨(mkC j).toArray⟩ := by
  have := all8 (p := fun j => (runesBytes [mkN j]).data.toList == mkC j) (by decide +kernel) hj
  simp only [beq_iff_eq] at this
  apply ByteArray.ext
  rw [← this]
theorem rune_one (W : World) (g off cap : Nat) {j : Nat} (hj : j < 8) (h : W.cell? ⟨g, off, none⟩ = some (.int .i32 (mkN j))) :
    (convert 33 9 (.slice (some ⟨g, off, none⟩) 1 cap)).run Tryd.prog W = .ok (str (mkC j)) W := by
  have := run_convert_runes W 33 9 21 ⟨g, off, none⟩ 1 cap [mkN j] (by simp) Tryd.underlying33 Tryd.underlying21 Tryd.underlying9 (fun i hi => by
    obtain rfl : i = 0 := by simp at hi; exact hi
    rw [add_off]; simpa using h)
  rw [this]
  show _ = Result.ok (Value.string ⟨(mkC j).toArray⟩) W
  rw [← mkN_bytes hj]; rfl
abbrev blkB : Obj := .cells #[.int .u8 224, .int .u8 225, .int .u8 226, .int .u8 232, .int .u8 238, .int .u8 240, .int .u8 242, .int .u8 254] 5
abbrev blkN : Obj := .cells #[.int .i32 777, .int .i32 768, .int .i32 769, .int .i32 776, .int .i32 779, .int .i32 807, .int .i32 803, .int .i32 787] 21

/-- The numbers of the marks so far. -/
def jsOf (l : List Int) (k : Nat) : List Nat := (l.take k).map fun n => (n % 8).toNat
theorem jsOf_len (l : List Int) (k : Nat) (h : k ≤ l.length) : (jsOf l k).length = k := by unfold jsOf; rw [List.length_map, List.length_take]; omega
theorem jsOf_flat : ∀ (js : List Nat), (js.flatMap mkC).length = 2 * js.length
  | [] => rfl
  | j :: t => by have := jsOf_flat t; rw [List.flatMap_cons, List.length_append, this, List.length_cons]; simp [mkC]; omega
theorem jsOf_lt (l : List Int) (k : Nat) : ∀ j ∈ jsOf l k, j < 8 := by
  intro j hj
  obtain ⟨n, _, rfl⟩ := List.mem_map.1 hj
  omega

set_option maxRecDepth 100000 in
set_option maxHeartbeats 2000000 in
theorem walk_Marc8Marks (sl : Value) (l : List Int) (hf : ∀ n ∈ l, 0 ≤ n ∧ n < 256) (x : UInt8) (w : World) (hr : Reads (Value.int .u8) w sl l) (hT : Tabs w) :
    Calls Tryd.prog 6 #[sl, .int .u8 (x.toNat : Int)] w fun e w' => e = .returned (.bool true) ∧ Below w.heap.size w w' := by
  obtain ⟨a, cap, rfl, hm, hcell⟩ := hr.slice
  unfold maxLen at hm
  have Hcell := Lib.hid hcell
  have H1 := Lib.hid (sanity_c w hT)
  have HT := Lib.hid hT
  clear hr hcell hT
  go_enter Tryd.func6, Tryd.ntmps6
  go_wp2_with fail
  refine H1.out.mono ?_
  clear H1
  rintro e w1 ⟨rfl, hb1⟩
  have Hb1 := Lib.hid hb1
  have hz1 := hb1.size
  have hxl := x.toNat_lt
  obtain ⟨y, hy, hyl⟩ : ∃ y : UInt8, 97 + (x.toNat : Int) % 26 = (y.toNat : Int) ∧ isLow y = true := by
    have hq : (UInt8.ofNat (97 + x.toNat % 26)).toNat = 97 + x.toNat % 26 := by simp; omega
    refine ⟨UInt8.ofNat (97 + x.toNat % 26), ?_, ?_⟩
    · rw [hq]; omega
    · unfold isLow; rw [hq]; simp; omega
  obtain ⟨W3, hW3⟩ : ∃ W3, ((w1.alloc blkB).alloc blkN).alloc (.cells #[.int .u8 (y.toNat : Int)] 5) = W3 := ⟨_, rfl⟩
  have hB3 : W3.heap[w1.heap.size]? = some blkB := by
    rw [← hW3, Lib.alloc_old _ _ _ (by simp; omega), Lib.alloc_old _ _ _ (by simp)]; exact World.alloc_heap_new _ _
  have hN3 : W3.heap[w1.heap.size + 1]? = some blkN := by
    rw [← hW3, Lib.alloc_old _ _ _ (by simp)]
    have := World.alloc_heap_new (w1.alloc blkB) blkN
    rwa [World.size_alloc] at this
  have hY3 : W3.cell? ⟨w1.heap.size + 1 + 1, 0, none⟩ = some (.int .u8 (y.toNat : Int)) := by
    have := World.alloc_heap_new ((w1.alloc blkB).alloc blkN) (.cells #[.int .u8 (y.toNat : Int)] 5)
    rw [World.size_alloc, World.size_alloc, hW3] at this
    rw [cell_at this]; rfl
  have hcY := str_one W3 (w1.heap.size + 1 + 1) 0 1 y hY3
  have hb3 : Below w.heap.size w W3 := by
    rw [← hW3]
    exact ((hb1.alloc hz1 _).alloc (by simp; omega) _).alloc (by simp; omega) _
  have Hb3 := Lib.hid hb3
  clear hb1 hY3 hb3
  unfold blkB blkN at hW3
  go_wp2_with fail
  have hz3 := Hb3.out.size
  have HB3 := Lib.hid hB3
  have HN3 := Lib.hid hN3
  have hl3 : w1.heap.size + 1 < W3.heap.size := lt_at hN3
  clear hB3 hN3 hcY hW3
  go_loopw [8, 9, 10] (fun sv tv i wr => ∃ k : Nat, k ≤ l.length ∧ k ≤ 20 ∧ i = .int .i64 k ∧ sv = str ((jsOf l k).map mkB) ∧ tv = str (y :: (jsOf l k).flatMap mkC) ∧ Below W3.heap.size W3 wr) (fun _ _ i _ => l.length - (intOf i).toNat)
  case atStart => exact ⟨0, Nat.zero_le _, Nat.zero_le _, rfl, rfl, rfl, Below.refl _ _⟩
  case round =>
    obtain ⟨k, hk, hk20, rfl, rfl, rfl, hbel⟩ := hrel
    obtain ⟨A, hA⟩ : ∃ A, (jsOf l k).map mkB = A := ⟨_, rfl⟩
    obtain ⟨B, hB⟩ : ∃ B, y :: (jsOf l k).flatMap mkC = B := ⟨_, rfl⟩
    have hAl : A.length = k := by rw [← hA, List.length_map, jsOf_len l k hk]
    have hBl : B.length = 2 * k + 1 := by rw [← hB, List.length_cons, jsOf_flat, jsOf_len l k hk]
    rw [hA, hB]
    by_cases hlt : k < l.length ∧ k < 20
    · obtain ⟨h1, h2⟩ := hlt
      obtain ⟨b, off, rfl, hc, hbl⟩ := Hcell.out k h1
      have hbw1 : b < W3.heap.size := by have := Hb3.out.size; omega
      have hcr : wr.cell? ⟨b, off + k, none⟩ = some (.int .u8 l[k]) := ((hbel.cell (p := ⟨b, off + k, none⟩) hbw1).trans (Hb3.out.cell (p := ⟨b, off + k, none⟩) hbl)).trans hc
      have hn := hf l[k] (List.getElem_mem _)
      have hjs : jsOf l (k + 1) = jsOf l k ++ [(l[k] % 8).toNat] := by unfold jsOf; rw [List.take_succ_eq_append_getElem h1, List.map_append]; rfl
      obtain ⟨n, hnn⟩ : ∃ n, l[k] = n := ⟨_, rfl⟩
      rw [hnn] at hcr hn hjs
      obtain ⟨j, hj⟩ : ∃ j, (n % 8).toNat = j := ⟨_, rfl⟩
      have hj8 : j < 8 := by omega
      have hnj : n.tmod 8 = (j : Int) := by rw [Int.tmod_eq_emod_of_nonneg hn.1]; omega
      rw [hj] at hjs
      have hBw : wr.heap[w1.heap.size]? = some blkB := (hbel.block _ (by omega)).trans HB3.out
      have hNw : wr.heap[w1.heap.size + 1]? = some blkN := (hbel.block _ (by omega)).trans HN3.out
      have hcB : ∀ m cap, (convert 30 9 (.slice (some ⟨w1.heap.size, j, none⟩) 1 cap)).run Tryd.prog (wr.drewN m) = .ok (str [mkB j]) (wr.drewN m) := fun m cap => str_one (wr.drewN m) _ _ _ _ (by
        rw [cell_at (w := wr.drewN m) hBw]
        have : ∀ j, j < 8 → (#[Value.int .u8 224, .int .u8 225, .int .u8 226, .int .u8 232, .int .u8 238, .int .u8 240, .int .u8 242, .int .u8 254])[j]? = some (Value.int .u8 ((mkB j).toNat : Int)) := by
          intro j hj
          rcases (by omega : j = 0 ∨ j = 1 ∨ j = 2 ∨ j = 3 ∨ j = 4 ∨ j = 5 ∨ j = 6 ∨ j = 7) with rfl | rfl | rfl | rfl | rfl | rfl | rfl | rfl <;> rfl
        exact this j hj8)
      have hcN : ∀ q m cap, (convert 33 9 (.slice (some ⟨w1.heap.size + 1, j, none⟩) 1 cap)).run Tryd.prog ((wr.drewN q).drewN m) = .ok (str (mkC j)) ((wr.drewN q).drewN m) := fun q m cap => rune_one ((wr.drewN q).drewN m) _ _ _ hj8 (by
        rw [cell_at (w := (wr.drewN q).drewN m) hNw]
        have : ∀ j, j < 8 → (#[Value.int .i32 777, .int .i32 768, .int .i32 769, .int .i32 776, .int .i32 779, .int .i32 807, .int .i32 803, .int .i32 787])[j]? = some (Value.int .i32 (mkN j)) := by
          intro j hj
          rcases (by omega : j = 0 ∨ j = 1 ∨ j = 2 ∨ j = 3 ∨ j = 4 ∨ j = 5 ∨ j = 6 ∨ j = 7) with rfl | rfl | rfl | rfl | rfl | rfl | rfl | rfl <;> rfl
        exact this j hj8)
      have hnA : (jsOf l (k + 1)).map mkB = A ++ [mkB j] := by rw [hjs, List.map_append, hA]; rfl
      have hnB : y :: (jsOf l (k + 1)).flatMap mkC = B ++ mkC j := by rw [hjs, List.flatMap_append, ← List.cons_append, hB]; simp
      have ha1 := add_str A [mkB j] (by simp; omega)
      have ha2 := add_str B (mkC j) (by simp [mkC]; omega)
      obtain ⟨xb, hxb⟩ : ∃ xb, [mkB j] = xb := ⟨_, rfl⟩
      obtain ⟨xc, hxc⟩ : ∃ xc, mkC j = xc := ⟨_, rfl⟩
      rw [hxb] at ha1 hcB hnA
      rw [hxc] at ha2 hcN hnB
      have HnA := Lib.hid hnA
      have HnB := Lib.hid hnB
      have Hbel := Lib.hid hbel
      have i0 : (0 : Int) ≤ (k : Int) := by omega
      have i1 : (k : Int) < (l.length : Int) := by omega
      have i2 : (k : Int) < 20 := by omega
      clear hbel hnA hnB hjs hj hc hBw hNw hA hB hAl hBl hxb hxc hnn
      rcases (by omega : j = 0 ∨ j = 1 ∨ j = 2 ∨ j = 3 ∨ j = 4 ∨ j = 5 ∨ j = 6 ∨ j = 7) with rfl | rfl | rfl | rfl | rfl | rfl | rfl | rfl
      · have hn1 : n.tmod 8 = 0 := hnj
        have hw1 : IntKind.u8.wrap (0 + 1) = 1 := by decide
        clear hnj
        go_wp2_with fail
        go_quiet (fail)
        have hcq : (wr.drewN nq).cell? ⟨b, off + k, none⟩ = some (.int .u8 n) := hcr
        have hcNq := hcN nq
        have hbq := Lib.hid (Hbel.out.trans (below_drewN _ wr nq))
        obtain ⟨wq, hwq⟩ : ∃ wq, wr.drewN nq = wq := ⟨_, rfl⟩
        rw [hwq] at hcq hcNq hbq ⊢
        clear hcr hcN hcB hwq
        go_wp2_with fail
        go_quiet (fail)
        go_wp2
        go_roundw
        case rel => exact ⟨k + 1, h1, h2, by go_num, by rw [HnA.out], by rw [HnB.out], hbq.out.trans (below_drewN _ _ _)⟩
        case measure => simp [intOf]; omega
      · have hn1 : n.tmod 8 = 1 := hnj
        have hw1 : IntKind.u8.wrap (1 + 1) = 2 := by decide
        clear hnj
        go_wp2_with fail
        go_quiet (fail)
        have hcq : (wr.drewN nq).cell? ⟨b, off + k, none⟩ = some (.int .u8 n) := hcr
        have hcNq := hcN nq
        have hbq := Lib.hid (Hbel.out.trans (below_drewN _ wr nq))
        obtain ⟨wq, hwq⟩ : ∃ wq, wr.drewN nq = wq := ⟨_, rfl⟩
        rw [hwq] at hcq hcNq hbq ⊢
        clear hcr hcN hcB hwq
        go_wp2_with fail
        go_quiet (fail)
        go_wp2
        go_roundw
        case rel => exact ⟨k + 1, h1, h2, by go_num, by rw [HnA.out], by rw [HnB.out], hbq.out.trans (below_drewN _ _ _)⟩
        case measure => simp [intOf]; omega
      · have hn1 : n.tmod 8 = 2 := hnj
        have hw1 : IntKind.u8.wrap (2 + 1) = 3 := by decide
        clear hnj
        go_wp2_with fail
        go_quiet (fail)
        have hcq : (wr.drewN nq).cell? ⟨b, off + k, none⟩ = some (.int .u8 n) := hcr
        have hcNq := hcN nq
        have hbq := Lib.hid (Hbel.out.trans (below_drewN _ wr nq))
        obtain ⟨wq, hwq⟩ : ∃ wq, wr.drewN nq = wq := ⟨_, rfl⟩
        rw [hwq] at hcq hcNq hbq ⊢
        clear hcr hcN hcB hwq
        go_wp2_with fail
        go_quiet (fail)
        go_wp2
        go_roundw
        case rel => exact ⟨k + 1, h1, h2, by go_num, by rw [HnA.out], by rw [HnB.out], hbq.out.trans (below_drewN _ _ _)⟩
        case measure => simp [intOf]; omega
      · have hn1 : n.tmod 8 = 3 := hnj
        have hw1 : IntKind.u8.wrap (3 + 1) = 4 := by decide
        clear hnj
        go_wp2_with fail
        go_quiet (fail)
        have hcq : (wr.drewN nq).cell? ⟨b, off + k, none⟩ = some (.int .u8 n) := hcr
        have hcNq := hcN nq
        have hbq := Lib.hid (Hbel.out.trans (below_drewN _ wr nq))
        obtain ⟨wq, hwq⟩ : ∃ wq, wr.drewN nq = wq := ⟨_, rfl⟩
        rw [hwq] at hcq hcNq hbq ⊢
        clear hcr hcN hcB hwq
        go_wp2_with fail
        go_quiet (fail)
        go_wp2
        go_roundw
        case rel => exact ⟨k + 1, h1, h2, by go_num, by rw [HnA.out], by rw [HnB.out], hbq.out.trans (below_drewN _ _ _)⟩
        case measure => simp [intOf]; omega
      · have hn1 : n.tmod 8 = 4 := hnj
        have hw1 : IntKind.u8.wrap (4 + 1) = 5 := by decide
        clear hnj
        go_wp2_with fail
        go_quiet (fail)
        have hcq : (wr.drewN nq).cell? ⟨b, off + k, none⟩ = some (.int .u8 n) := hcr
        have hcNq := hcN nq
        have hbq := Lib.hid (Hbel.out.trans (below_drewN _ wr nq))
        obtain ⟨wq, hwq⟩ : ∃ wq, wr.drewN nq = wq := ⟨_, rfl⟩
        rw [hwq] at hcq hcNq hbq ⊢
        clear hcr hcN hcB hwq
        go_wp2_with fail
        go_quiet (fail)
        go_wp2
        go_roundw
        case rel => exact ⟨k + 1, h1, h2, by go_num, by rw [HnA.out], by rw [HnB.out], hbq.out.trans (below_drewN _ _ _)⟩
        case measure => simp [intOf]; omega
      · have hn1 : n.tmod 8 = 5 := hnj
        have hw1 : IntKind.u8.wrap (5 + 1) = 6 := by decide
        clear hnj
        go_wp2_with fail
        go_quiet (fail)
        have hcq : (wr.drewN nq).cell? ⟨b, off + k, none⟩ = some (.int .u8 n) := hcr
        have hcNq := hcN nq
        have hbq := Lib.hid (Hbel.out.trans (below_drewN _ wr nq))
        obtain ⟨wq, hwq⟩ : ∃ wq, wr.drewN nq = wq := ⟨_, rfl⟩
        rw [hwq] at hcq hcNq hbq ⊢
        clear hcr hcN hcB hwq
        go_wp2_with fail
        go_quiet (fail)
        go_wp2
        go_roundw
        case rel => exact ⟨k + 1, h1, h2, by go_num, by rw [HnA.out], by rw [HnB.out], hbq.out.trans (below_drewN _ _ _)⟩
        case measure => simp [intOf]; omega
      · have hn1 : n.tmod 8 = 6 := hnj
        have hw1 : IntKind.u8.wrap (6 + 1) = 7 := by decide
        clear hnj
        go_wp2_with fail
        go_quiet (fail)
        have hcq : (wr.drewN nq).cell? ⟨b, off + k, none⟩ = some (.int .u8 n) := hcr
        have hcNq := hcN nq
        have hbq := Lib.hid (Hbel.out.trans (below_drewN _ wr nq))
        obtain ⟨wq, hwq⟩ : ∃ wq, wr.drewN nq = wq := ⟨_, rfl⟩
        rw [hwq] at hcq hcNq hbq ⊢
        clear hcr hcN hcB hwq
        go_wp2_with fail
        go_quiet (fail)
        go_wp2
        go_roundw
        case rel => exact ⟨k + 1, h1, h2, by go_num, by rw [HnA.out], by rw [HnB.out], hbq.out.trans (below_drewN _ _ _)⟩
        case measure => simp [intOf]; omega
      · have hn1 : n.tmod 8 = 7 := hnj
        have hw1 : IntKind.u8.wrap (7 + 1) = 8 := by decide
        clear hnj
        go_wp2_with fail
        go_quiet (fail)
        have hcq : (wr.drewN nq).cell? ⟨b, off + k, none⟩ = some (.int .u8 n) := hcr
        have hcNq := hcN nq
        have hbq := Lib.hid (Hbel.out.trans (below_drewN _ wr nq))
        obtain ⟨wq, hwq⟩ : ∃ wq, wr.drewN nq = wq := ⟨_, rfl⟩
        rw [hwq] at hcq hcNq hbq ⊢
        clear hcr hcN hcB hwq
        go_wp2_with fail
        go_quiet (fail)
        go_wp2
        go_roundw
        case rel => exact ⟨k + 1, h1, h2, by go_num, by rw [HnA.out], by rw [HnB.out], hbq.out.trans (below_drewN _ _ _)⟩
        case measure => simp [intOf]; omega
    · have hAj : ∀ j ∈ jsOf l k, j < 8 := jsOf_lt l k
      have hend : (k : Int) < (l.length : Int) → ¬ ((k : Int) < 20) := by omega
      obtain ⟨W5, hW5⟩ : ∃ W5, wr.alloc (.cells #[.int .u8 (y.toNat : Int)] 5) = W5 := ⟨_, rfl⟩
      have hY5 : W5.cell? ⟨wr.heap.size, 0, none⟩ = some (.int .u8 (y.toNat : Int)) := by
        have := World.alloc_heap_new wr (.cells #[.int .u8 (y.toNat : Int)] 5)
        rw [hW5] at this
        rw [cell_at this]; rfl
      have hcY := str_one W5 wr.heap.size 0 1 y hY5
      have hzr := hbel.size
      have hb5 : Below w.heap.size w W5 := by rw [← hW5]; exact (Hb3.out.trans (hbel.mono (by have := Hb3.out.size; omega))).alloc (by omega) _
      have Hb5 := Lib.hid hb5
      have ha1 := add_str A [y] (by simp; omega)
      have ha2 := add_str [120] (A ++ [y]) (by simp; omega)
      have ha3 := add_str ([120] ++ (A ++ [y])) [121] (by simp; omega)
      have ha4 := add_str [120] B (by simp; omega)
      have ha5 := add_str ([120] ++ B) [121] (by simp; omega)
      obtain ⟨D, hD⟩ : ∃ D, [120] ++ (A ++ [y]) ++ [121] = D := ⟨_, rfl⟩
      obtain ⟨E, hE⟩ : ∃ E, [120] ++ B ++ [121] = E := ⟨_, rfl⟩
      have hD2 : 120 :: ((jsOf l k).map mkB ++ [y, 121]) = D := by rw [← hD, hA]; simp
      have hE2 : 120 :: y :: ((jsOf l k).flatMap mkC ++ [121]) = E := by rw [← hE, ← hB]; simp
      have hDl : D.length ≤ 1099511627776 := by rw [← hD]; simp; omega
      have hEl : E.length ≤ 1099511627776 := by rw [← hE]; simp; omega
      have hdec : decF D = .ok E := by rw [← hD2, decF_marks _ hAj _ hyl, hE2]
      have henc : encF E = .ok D := by rw [← hE2, encF_marks _ hAj _ hyl, hD2]
      have N1 := Lib.hid (fun W => decode_all D W hDl)
      have N2 := Lib.hid (fun W (hT : Tabs W) => encode_all E W hEl hT)
      rw [hdec] at N1
      rw [henc] at N2
      simp only [resV] at N1 N2
      rw [hD] at ha3
      rw [hE] at ha5
      obtain ⟨S, hS⟩ : ∃ S, A ++ [y] = S := ⟨_, rfl⟩
      obtain ⟨S2, hS2⟩ : ∃ S2, [120] ++ S = S2 := ⟨_, rfl⟩
      obtain ⟨B2, hB2⟩ : ∃ B2, [120] ++ B = B2 := ⟨_, rfl⟩
      rw [hS] at ha1 ha2 ha3
      rw [hS2] at ha2 ha3
      rw [hB2] at ha4 ha5
      clear hbel hb5 hY5 hdec henc hD2 hE2 hA hB hS hS2 hB2 hD hE hAl hBl hAj
      by_cases hkl : k < l.length
      · have i1 : (k : Int) < (l.length : Int) := by omega
        have i2 : ¬ ((k : Int) < 20) := by omega
        go_wp2_with fail
        refine (N1.out _).mono ?_
        rintro e w6 ⟨rfl, hb6⟩
        have Hb6 := Lib.hid (Hb5.out.trans (hb6.mono Hb5.out.size))
        clear hb6
        go_wp2_with fail
        refine (N2.out _ (tabs_below HT.out Hb6.out)).mono ?_
        rintro e w7 ⟨rfl, hb7⟩
        have Hb7 := Lib.hid (Hb6.out.trans (hb7.mono Hb6.out.size))
        clear hb7
        go_wp2_with fail
        go_ret
        exact ⟨rfl, Hb7.out⟩
      · have i1 : ¬ ((k : Int) < (l.length : Int)) := by omega
        go_wp2_with fail
        refine (N1.out _).mono ?_
        rintro e w6 ⟨rfl, hb6⟩
        have Hb6 := Lib.hid (Hb5.out.trans (hb6.mono Hb5.out.size))
        clear hb6
        go_wp2_with fail
        refine (N2.out _ (tabs_below HT.out Hb6.out)).mono ?_
        rintro e w7 ⟨rfl, hb7⟩
        have Hb7 := Lib.hid (Hb6.out.trans (hb7.mono Hb6.out.size))
        clear hb7
        go_wp2_with fail
        go_ret
        exact ⟨rfl, Hb7.out⟩
end Go.Proofs.YtjndekmpnihamaaDoor
