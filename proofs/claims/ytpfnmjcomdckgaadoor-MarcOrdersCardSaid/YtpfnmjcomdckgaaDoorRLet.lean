/-
  n letters.
-/
import Derived.Test.YtpfnmjcomdckgaaDoorRMod
import Derived.Deep.OwnRows
namespace Go.Proofs.YtpfnmjcomdckgaaDoor
open Go.RowKit Go.Shelf
set_option linter.unusedVariables false
set_option linter.unusedSimpArgs false

theorem infoB : (Tryd.prog.info? 5).map (fun i => (i.zero, i.size, i.bytes)) = some (some (.int .u8 0), 1, 1) := by kernel_rfl
theorem add_at (b j : Nat) : ((⟨b, 0, none⟩ : Addr).add j) = ⟨b, j, none⟩ := by
  unfold Addr.add
  split
  · rename_i h0; subst h0; rfl
  · simp
/-- A block of n bytes that are all c. -/
def Reps (w : World) (b n : Nat) (c : UInt8) : Prop := b < w.heap.size ∧ ∀ j, j < n → w.cell? ⟨b, j, none⟩ = some (.int .u8 (c.toNat : Int))
theorem Reps.conv {w : World} {b n : Nat} {c : UInt8} (h : Reps w b n c) (cap : Nat) : (convert 42 9 (.slice (some ⟨b, 0, none⟩) n cap)).run Tryd.prog w = .ok (str (List.replicate n c)) w := by
  have := run_convert_bytes_back (P := Tryd.prog) w 42 9 5 ⟨b, 0, none⟩ cap (List.replicate n c) Tryd.underlying42 Tryd.underlying5 Tryd.underlying9 (fun j hj => by
    rw [add_at, h.2 j (by simpa using hj)]; simp)
  rw [List.length_replicate] at this
  exact this
theorem Reps.below {w w' : World} {B b n : Nat} {c : UInt8} (h : Reps w b n c) (hb : Below B w w') (hB : b < B) : Reps w' b n c :=
  ⟨Nat.lt_of_lt_of_le h.1 hb.size, fun j hj => (hb.cell (p := ⟨b, j, none⟩) hB).trans (h.2 j hj)⟩
set_option maxRecDepth 100000 in
set_option maxHeartbeats 1000000 in
theorem letters_c (n : Nat) (hn : n ≤ 100000) (w : World) : Calls Tryd.prog 31 #[.int .i64 n] w fun e w' => e = .returned (.slice (some ⟨w.heap.size, 0, none⟩) n n) ∧ Reps w' w.heap.size n 121 ∧ Below w.heap.size w w' := by
  have hrun := run_make_row' (P := Tryd.prog) 42 5 (.int .u8 0) 1 Tryd.underlying42 infoB rfl .i64 .i64 n (by omega) (by omega) w
  have hnew := new_at w (.cells (madeCells #[.int .u8 0] n) 5)
  have hsz : (madeCells #[.int .u8 0] n).size = n := by rw [← Array.length_toList, toList_madeCells_one]; simp
  have hb0 := below_new w (.cells (madeCells #[.int .u8 0] n) 5)
  obtain ⟨W1, hW1⟩ : ∃ W1, w.alloc (.cells (madeCells #[.int .u8 0] n) 5) = W1 := ⟨_, rfl⟩
  rw [hW1] at hrun hnew hb0
  have Hnew := Lib.hid hnew
  have Hb0 := Lib.hid hb0
  have Hsz := Lib.hid hsz
  clear hnew hb0 hsz hW1
  go_enter Tryd.func31, Tryd.ntmps31
  go_wp2
  clear hrun
  go_loopw [4] (fun i wr => ∃ k : Nat, k ≤ n ∧ i = .int .i64 k ∧ (∃ cs : Array Value, wr.heap[w.heap.size]? = some (.cells cs 5 (0, 0)) ∧ cs.size = n ∧ ∀ j, j < k → cs[j]? = some (.int .u8 121)) ∧ Below w.heap.size w wr) (fun i _ => n - (intOf i).toNat)
  case atStart => exact ⟨0, Nat.zero_le _, rfl, ⟨_, Hnew.out, Hsz.out, fun j hj => by omega⟩, Hb0.out⟩
  case round =>
    obtain ⟨k, hk, rfl, ⟨cs, hh, hcs, hall⟩, hb⟩ := hrel
    clear Hnew Hb0
    by_cases hlt : k < n
    · have hc : ∃ v, wr.cell? ⟨w.heap.size, k, none⟩ = some v := by rw [cell_at hh]; exact ⟨_, Array.getElem?_eq_getElem (by omega)⟩
      obtain ⟨v0, hc⟩ := hc
      have hf : wr.frozen? ⟨w.heap.size, k, none⟩ = false := Lib.frozen_of_heap hh k
      have hh2 : (wr.setCell ⟨w.heap.size, k, none⟩ (.int .u8 121)).heap[w.heap.size]? = some (.cells (cs.setIfInBounds k (.int .u8 121)) 5 (0, 0)) := by
        simp [World.setCell, Array.getElem?_modify, hh]
      have hb2 : Below w.heap.size w (wr.setCell ⟨w.heap.size, k, none⟩ (.int .u8 121)) := hb.setCell (p := ⟨w.heap.size, k, none⟩) (Nat.le_refl _) _
      have Hh2 := Lib.hid hh2
      have Hb2 := Lib.hid hb2
      have Hall := Lib.hid hall
      have Hcs := Lib.hid hcs
      have i0 : (0 : Int) ≤ (k : Int) := by omega
      have i1 : (k : Int) < (n : Int) := by omega
      clear hh hh2 hb2 hb hall hcs Hsz
      go_wp2
      go_roundw
      case rel =>
        refine ⟨k + 1, by omega, by go_num, ⟨_, Hh2.out, by rw [Array.size_setIfInBounds]; exact Hcs.out, fun j hj => ?_⟩, Hb2.out⟩
        by_cases e : j = k
        · subst e; simp [Hcs.out, hlt]
        · rw [Array.getElem?_setIfInBounds_ne (by omega)]; exact Hall.out j (by omega)
      case measure => simp [intOf]; omega
    · have hkn : k = n := by omega
      subst hkn
      have hlt' := lt_at hh
      have hr : Reps wr w.heap.size k 121 := ⟨hlt', fun j hj => by rw [cell_at hh]; exact hall j hj⟩
      have Hr := Lib.hid hr
      have Hb := Lib.hid hb
      have hd2 : decide (k < k) = false := by simp
      clear hr hb hall hh Hsz
      go_wp2
      go_ret
      exact ⟨rfl, Hr.out, Hb.out⟩
set_option maxRecDepth 100000 in
set_option maxHeartbeats 1000000 in
theorem long_c (n : Nat) (hn : n ≤ 100000) (w : World) : Calls Tryd.prog 35 #[.int .i64 n] w fun e w' => e = .returned (.slice (some ⟨w.heap.size, 0, none⟩) n n) ∧ Reps w' w.heap.size n 108 ∧ Below w.heap.size w w' := by
  have hrun := run_make_row' (P := Tryd.prog) 42 5 (.int .u8 0) 1 Tryd.underlying42 infoB rfl .i64 .i64 n (by omega) (by omega) w
  have hnew := new_at w (.cells (madeCells #[.int .u8 0] n) 5)
  have hsz : (madeCells #[.int .u8 0] n).size = n := by rw [← Array.length_toList, toList_madeCells_one]; simp
  have hb0 := below_new w (.cells (madeCells #[.int .u8 0] n) 5)
  obtain ⟨W1, hW1⟩ : ∃ W1, w.alloc (.cells (madeCells #[.int .u8 0] n) 5) = W1 := ⟨_, rfl⟩
  rw [hW1] at hrun hnew hb0
  have Hnew := Lib.hid hnew
  have Hb0 := Lib.hid hb0
  have Hsz := Lib.hid hsz
  clear hnew hb0 hsz hW1
  go_enter Tryd.func35, Tryd.ntmps35
  go_wp2
  clear hrun
  go_loopw [4] (fun i wr => ∃ k : Nat, k ≤ n ∧ i = .int .i64 k ∧ (∃ cs : Array Value, wr.heap[w.heap.size]? = some (.cells cs 5 (0, 0)) ∧ cs.size = n ∧ ∀ j, j < k → cs[j]? = some (.int .u8 108)) ∧ Below w.heap.size w wr) (fun i _ => n - (intOf i).toNat)
  case atStart => exact ⟨0, Nat.zero_le _, rfl, ⟨_, Hnew.out, Hsz.out, fun j hj => by omega⟩, Hb0.out⟩
  case round =>
    obtain ⟨k, hk, rfl, ⟨cs, hh, hcs, hall⟩, hb⟩ := hrel
    clear Hnew Hb0
    by_cases hlt : k < n
    · have hc : ∃ v, wr.cell? ⟨w.heap.size, k, none⟩ = some v := by rw [cell_at hh]; exact ⟨_, Array.getElem?_eq_getElem (by omega)⟩
      obtain ⟨v0, hc⟩ := hc
      have hf : wr.frozen? ⟨w.heap.size, k, none⟩ = false := Lib.frozen_of_heap hh k
      have hh2 : (wr.setCell ⟨w.heap.size, k, none⟩ (.int .u8 108)).heap[w.heap.size]? = some (.cells (cs.setIfInBounds k (.int .u8 108)) 5 (0, 0)) := by
        simp [World.setCell, Array.getElem?_modify, hh]
      have hb2 : Below w.heap.size w (wr.setCell ⟨w.heap.size, k, none⟩ (.int .u8 108)) := hb.setCell (p := ⟨w.heap.size, k, none⟩) (Nat.le_refl _) _
      have Hh2 := Lib.hid hh2
      have Hb2 := Lib.hid hb2
      have Hall := Lib.hid hall
      have Hcs := Lib.hid hcs
      have i0 : (0 : Int) ≤ (k : Int) := by omega
      have i1 : (k : Int) < (n : Int) := by omega
      clear hh hh2 hb2 hb hall hcs Hsz
      go_wp2
      go_roundw
      case rel =>
        refine ⟨k + 1, by omega, by go_num, ⟨_, Hh2.out, by rw [Array.size_setIfInBounds]; exact Hcs.out, fun j hj => ?_⟩, Hb2.out⟩
        by_cases e : j = k
        · subst e; simp [Hcs.out, hlt]
        · rw [Array.getElem?_setIfInBounds_ne (by omega)]; exact Hall.out j (by omega)
      case measure => simp [intOf]; omega
    · have hkn : k = n := by omega
      subst hkn
      have hlt' := lt_at hh
      have hr : Reps wr w.heap.size k 108 := ⟨hlt', fun j hj => by rw [cell_at hh]; exact hall j hj⟩
      have Hr := Lib.hid hr
      have Hb := Lib.hid hb
      have hd2 : decide (k < k) = false := by simp
      clear hr hb hall hh Hsz
      go_wp2
      go_ret
      exact ⟨rfl, Hr.out, Hb.out⟩

end Go.Proofs.YtpfnmjcomdckgaaDoor
