/-
  The tables of marc8: rows of characters with their first bytes; what the functions that make them return; room.
-/
import Derived.Test.YtjndekmpnihamaaDoorMMap
import Derived.RangeFuncNested
import Derived.RangeFuncBound
import Derived.RangeFuncCalls
import Derived.RangeFuncLeaves
import Derived.LoopTactic
namespace Go.Proofs.YtjndekmpnihamaaDoor
open Go.RowKit Go.Shelf

def charsR : List (Int × List UInt8) := [(136, [194, 152, 194, 156]),
  (141, [226, 128, 141, 226, 128, 140]),
  (161, [197, 129, 195, 152, 196, 144, 195, 158, 195, 134, 197, 146, 202, 185, 194, 183, 226, 153, 173, 194, 174, 194, 177, 198, 160, 198, 175, 202, 188]),
  (176, [202, 187, 197, 130, 195, 184, 196, 145, 195, 190, 195, 166, 197, 147, 202, 186, 196, 177, 194, 163, 195, 176]),
  (188, [198, 161, 198, 176]),
  (192, [194, 176, 226, 132, 147, 226, 132, 151, 194, 169, 226, 153, 175, 194, 191, 194, 161, 195, 159, 226, 130, 172])]
def marksR : List (Int × List UInt8) := [(224, [204, 137, 204, 128, 204, 129, 204, 130, 204, 131, 204, 132, 204, 134, 204, 135, 204, 136, 204, 140, 204, 138, 239, 184, 160, 239, 184, 161, 204, 149, 204, 139, 204, 144]),
  (240, [204, 167, 204, 168, 204, 163, 204, 164, 204, 165, 204, 179, 204, 178, 204, 166, 204, 156, 204, 174, 239, 184, 162, 239, 184, 163]),
  (254, [204, 147])]
def asciiR : List (Int × List UInt8) := [(32, [32, 33, 34, 35, 36, 37, 38, 39, 40, 41, 42, 43, 44, 45, 46, 47, 48, 49, 50, 51, 52, 53, 54, 55, 56, 57, 58, 59, 60, 61, 62, 63]),
  (64, [64, 65, 66, 67, 68, 69, 70, 71, 72, 73, 74, 75, 76, 77, 78, 79, 80, 81, 82, 83, 84, 85, 86, 87, 88, 89, 90, 91, 92, 93, 94, 95, 96, 97, 98, 99, 100, 101, 102, 103, 104, 105, 106, 107, 108, 109, 110, 111, 112, 113, 114, 115, 116, 117, 118, 119, 120, 121, 122, 123, 124, 125, 126])]
def greekR : List (Int × List UInt8) := [(32, [32, 33, 34, 35, 36, 37, 38, 39, 40, 41, 42, 43, 44, 45, 46, 47, 48, 49, 50, 51, 52, 53, 54, 55, 56, 57, 58, 59, 60, 61, 62, 63]),
  (64, [64]),
  (65, [206, 145, 206, 146, 206, 147, 206, 148, 206, 149, 206, 150, 206, 151, 206, 152, 206, 153, 206, 154, 206, 155, 206, 156, 206, 157, 206, 158, 206, 159, 206, 160, 206, 161, 206, 163, 206, 164, 206, 165, 206, 166, 206, 167, 206, 168, 206, 169]),
  (97, [206, 177, 206, 178, 206, 179, 206, 180, 206, 181, 206, 182, 206, 183, 206, 184, 206, 185, 206, 186, 206, 187, 206, 188, 206, 189, 206, 190, 206, 191, 207, 128, 207, 129, 207, 131, 207, 132, 207, 133, 207, 134, 207, 135, 207, 136, 207, 137]),
  (121, [207, 130])]
def cyrR : List (Int × List UInt8) := [(32, [32, 33, 34, 35, 36, 37, 38, 39, 40, 41, 42, 43, 44, 45, 46, 47, 48, 49, 50, 51, 52, 53, 54, 55, 56, 57, 58, 59, 60, 61, 62, 63]),
  (64, [209, 142, 208, 176, 208, 177, 209, 134, 208, 180, 208, 181, 209, 132, 208, 179, 209, 133, 208, 184, 208, 185, 208, 186, 208, 187, 208, 188, 208, 189, 208, 190, 208, 191, 209, 143, 209, 128, 209, 129, 209, 130, 209, 131, 208, 182, 208, 178, 209, 140, 209, 139, 208, 183, 209, 136, 209, 141, 209, 137, 209, 135, 209, 138]),
  (96, [208, 174, 208, 144, 208, 145, 208, 166, 208, 148, 208, 149, 208, 164, 208, 147, 208, 165, 208, 152, 208, 153, 208, 154, 208, 155, 208, 156, 208, 157, 208, 158, 208, 159, 208, 175, 208, 160, 208, 161, 208, 162, 208, 163, 208, 150, 208, 146, 208, 172, 208, 171, 208, 151, 208, 168, 208, 173, 208, 169, 208, 167])]
def familyR : List (Int × List UInt8 × List UInt8) := [(768, [65, 69, 73, 79, 85, 97, 101, 105, 111, 117], [195, 128, 195, 136, 195, 140, 195, 146, 195, 153, 195, 160, 195, 168, 195, 172, 195, 178, 195, 185]),
  (769, [65, 69, 73, 79, 85, 89, 97, 101, 105, 111, 117, 121, 67, 99, 76, 108, 78, 110, 82, 114, 83, 115, 90, 122], [195, 129, 195, 137, 195, 141, 195, 147, 195, 154, 195, 157, 195, 161, 195, 169, 195, 173, 195, 179, 195, 186, 195, 189, 196, 134, 196, 135, 196, 185, 196, 186, 197, 131, 197, 132, 197, 148, 197, 149, 197, 154, 197, 155, 197, 185, 197, 186]),
  (770, [65, 69, 73, 79, 85, 97, 101, 105, 111, 117, 67, 99, 71, 103, 72, 104, 74, 106, 83, 115, 87, 119, 89, 121], [195, 130, 195, 138, 195, 142, 195, 148, 195, 155, 195, 162, 195, 170, 195, 174, 195, 180, 195, 187, 196, 136, 196, 137, 196, 156, 196, 157, 196, 164, 196, 165, 196, 180, 196, 181, 197, 156, 197, 157, 197, 180, 197, 181, 197, 182, 197, 183]),
  (771, [65, 78, 79, 97, 110, 111, 73, 105, 85, 117], [195, 131, 195, 145, 195, 149, 195, 163, 195, 177, 195, 181, 196, 168, 196, 169, 197, 168, 197, 169]),
  (776, [65, 69, 73, 79, 85, 97, 101, 105, 111, 117, 121, 89], [195, 132, 195, 139, 195, 143, 195, 150, 195, 156, 195, 164, 195, 171, 195, 175, 195, 182, 195, 188, 195, 191, 197, 184]),
  (778, [65, 97, 85, 117], [195, 133, 195, 165, 197, 174, 197, 175]),
  (807, [67, 99, 71, 103, 75, 107, 76, 108, 78, 110, 82, 114, 83, 115, 84, 116], [195, 135, 195, 167, 196, 162, 196, 163, 196, 182, 196, 183, 196, 187, 196, 188, 197, 133, 197, 134, 197, 150, 197, 151, 197, 158, 197, 159, 197, 162, 197, 163]),
  (772, [65, 97, 69, 101, 73, 105, 79, 111, 85, 117], [196, 128, 196, 129, 196, 146, 196, 147, 196, 170, 196, 171, 197, 140, 197, 141, 197, 170, 197, 171]),
  (774, [65, 97, 69, 101, 71, 103, 73, 105, 79, 111, 85, 117], [196, 130, 196, 131, 196, 148, 196, 149, 196, 158, 196, 159, 196, 172, 196, 173, 197, 142, 197, 143, 197, 172, 197, 173]),
  (808, [65, 97, 69, 101, 73, 105, 85, 117], [196, 132, 196, 133, 196, 152, 196, 153, 196, 174, 196, 175, 197, 178, 197, 179]),
  (775, [67, 99, 69, 101, 71, 103, 73, 90, 122], [196, 138, 196, 139, 196, 150, 196, 151, 196, 160, 196, 161, 196, 176, 197, 187, 197, 188]),
  (780, [67, 99, 68, 100, 69, 101, 76, 108, 78, 110, 82, 114, 83, 115, 84, 116, 90, 122], [196, 140, 196, 141, 196, 142, 196, 143, 196, 154, 196, 155, 196, 189, 196, 190, 197, 135, 197, 136, 197, 152, 197, 153, 197, 160, 197, 161, 197, 164, 197, 165, 197, 189, 197, 190]),
  (779, [79, 111, 85, 117], [197, 144, 197, 145, 197, 176, 197, 177])]

/-- A string of these bytes. -/
abbrev str (l : List UInt8) : Value := .string ⟨l.toArray⟩
theorem size_str (l : List UInt8) : (ByteArray.mk l.toArray).size = l.length := by
  simp [ByteArray.size]
/-- A row's cells. -/
def runCells (l : List (Int × List UInt8)) : List Value := l.flatMap fun r => [.int .u8 r.1, str r.2]
/-- The slice v has the rows l, in a block at B or above. -/
def RunsAt (B : Nat) (w : World) (v : Value) (l : List (Int × List UInt8)) : Prop :=
  ∃ g T, v = .slice (some ⟨g, 0, none⟩) l.length l.length ∧ B ≤ g ∧ w.heap[g]? = some (.cells (runCells l).toArray T (0, 0))
def RunsPost (l : List (Int × List UInt8)) (w : World) (e : Ending) (w' : World) : Prop := ∃ v, e = .returned v ∧ RunsAt w.heap.size w' v l ∧ Below w.heap.size w w'

set_option maxRecDepth 100000 in
set_option maxHeartbeats 1000000 in
theorem characterRuns_c (w : World) : Calls Tryd.prog 25 #[] w (RunsPost charsR w) := by
  go_enter Tryd.func25, Tryd.ntmps25
  go_wp2
  go_ret
  exact ⟨_, rfl, ⟨_, _, rfl, Nat.le_refl _, World.alloc_heap_new _ _⟩, (Below.refl _ _).alloc (Nat.le_refl _) _⟩
set_option maxRecDepth 100000 in
set_option maxHeartbeats 1000000 in
theorem markRuns_c (w : World) : Calls Tryd.prog 26 #[] w (RunsPost marksR w) := by
  go_enter Tryd.func26, Tryd.ntmps26
  go_wp2
  go_ret
  exact ⟨_, rfl, ⟨_, _, rfl, Nat.le_refl _, World.alloc_heap_new _ _⟩, (Below.refl _ _).alloc (Nat.le_refl _) _⟩

theorem new2 (w : World) (o1 o2 : Obj) : ((w.alloc o1).alloc o2).heap[w.heap.size + 1]? = some o2 := by
  have := World.alloc_heap_new (w.alloc o1) o2
  rwa [World.size_alloc] at this
/-- The rows of the set with a name; none for another byte. -/
def runsR (c : Int) : List (Int × List UInt8) := if c = 66 then asciiR else if c = 83 then greekR else if c = 78 then cyrR else []
set_option maxRecDepth 100000 in
set_option maxHeartbeats 1000000 in
theorem runsOf_66 (w : World) : Calls Tryd.prog 48 #[.int .u8 66] w (RunsPost asciiR w) := by
  go_enter Tryd.func48, Tryd.ntmps48
  go_wp2
  go_ret
  exact ⟨_, rfl, ⟨_, _, rfl, by simp, new2 _ _ _⟩, ((Below.refl _ _).alloc (Nat.le_refl _) _).alloc (by simp) _⟩
set_option maxRecDepth 100000 in
set_option maxHeartbeats 1000000 in
theorem runsOf_83 (w : World) : Calls Tryd.prog 48 #[.int .u8 83] w (RunsPost greekR w) := by
  go_enter Tryd.func48, Tryd.ntmps48
  go_wp2
  go_ret
  exact ⟨_, rfl, ⟨_, _, rfl, by simp, new2 _ _ _⟩, ((Below.refl _ _).alloc (Nat.le_refl _) _).alloc (by simp) _⟩
set_option maxRecDepth 100000 in
set_option maxHeartbeats 1000000 in
theorem runsOf_78 (w : World) : Calls Tryd.prog 48 #[.int .u8 78] w (RunsPost cyrR w) := by
  go_enter Tryd.func48, Tryd.ntmps48
  go_wp2
  go_ret
  exact ⟨_, rfl, ⟨_, _, rfl, by simp, new2 _ _ _⟩, ((Below.refl _ _).alloc (Nat.le_refl _) _).alloc (by simp) _⟩
set_option maxRecDepth 100000 in
set_option maxHeartbeats 1000000 in
theorem runsOf_none (c : Int) (h1 : c ≠ 66) (h2 : c ≠ 83) (h3 : c ≠ 78) (w : World) : Calls Tryd.prog 48 #[.int .u8 c] w fun e w' => e = .returned (.slice none 0 0) ∧ Below w.heap.size w w' := by
  have g1 : (c == 66) = false := by simpa using h1
  have g2 : (c == 83) = false := by simpa using h2
  have g3 : (c == 78) = false := by simpa using h3
  clear h1 h2 h3
  go_enter Tryd.func48, Tryd.ntmps48
  go_wp2
  go_ret
  exact ⟨rfl, (Below.refl _ _).alloc (Nat.le_refl _) _⟩
theorem runsOf_c (c : Int) (h : c = 66 ∨ c = 83 ∨ c = 78) (w : World) : Calls Tryd.prog 48 #[.int .u8 c] w (RunsPost (runsR c) w) := by
  rcases h with rfl | rfl | rfl
  · exact runsOf_66 w
  · exact runsOf_83 w
  · exact runsOf_78 w

/-- How many bytes the characters of rows have. -/
def roomN (l : List (Int × List UInt8)) : Nat := (l.map (·.2.length)).sum
theorem roomN_take (l : List (Int × List UInt8)) (k : Nat) (h : k < l.length) : roomN (l.take (k + 1)) = roomN (l.take k) + l[k].2.length := by
  unfold roomN
  rw [List.take_succ_eq_append_getElem h]
  simp only [List.map_append, List.sum_append, List.map_cons, List.map_nil, List.sum_cons, List.sum_nil, Nat.add_zero]
theorem roomN_le (l : List (Int × List UInt8)) (k : Nat) : roomN (l.take k) ≤ roomN l := by
  unfold roomN
  conv => rhs; rw [← List.take_append_drop k l, List.map_append, List.sum_append]
  exact Nat.le_add_right _ _
theorem runCells_at (l : List (Int × List UInt8)) : ∀ k (h : k < l.length), (runCells l)[k * 2]? = some (.int .u8 l[k].1) ∧ (runCells l)[k * 2 + 1]? = some (str l[k].2) := by
  induction l with
  | nil => intro k h; simp at h
  | cons x r ih =>
    intro k h
    cases k with
    | zero => simp [runCells]
    | succ k =>
      have := ih k (by simpa using h)
      simp only [runCells, List.flatMap_cons, List.cons_append, List.nil_append, List.getElem_cons_succ] at this ⊢
      rw [show (k + 1) * 2 = k * 2 + 1 + 1 from by omega]
      simpa using this
theorem RunsAt.cells {B : Nat} {w : World} {v : Value} {l : List (Int × List UInt8)} (h : RunsAt B w v l) : ∃ g, v = .slice (some ⟨g, 0, none⟩) l.length l.length ∧ B ≤ g ∧ g < w.heap.size ∧ ∀ k (hk : k < l.length), w.cell? ⟨g, k * 2, none⟩ = some (.int .u8 l[k].1) ∧ w.cell? ⟨g, k * 2 + 1, none⟩ = some (str l[k].2) := by
  obtain ⟨g, T, hv, hB, hb⟩ := h
  refine ⟨g, hv, hB, lt_at hb, fun k hk => ?_⟩
  have := runCells_at l k hk
  rw [cell_at hb, cell_at hb]
  simpa using this

set_option maxRecDepth 100000 in
set_option maxHeartbeats 1000000 in
theorem room_c (g : Nat) (l : List (Int × List UInt8)) (w : World) (hg : g < w.heap.size) (hl : l.length ≤ 1000) (hr : roomN l ≤ 100000)
    (hc : ∀ k (hk : k < l.length), w.cell? ⟨g, k * 2, none⟩ = some (.int .u8 l[k].1) ∧ w.cell? ⟨g, k * 2 + 1, none⟩ = some (str l[k].2)) :
    Calls Tryd.prog 39 #[.slice (some ⟨g, 0, none⟩) l.length l.length] w fun e w' => e = .returned (.int .i64 (roomN l)) ∧ Below w.heap.size w w' := by
  have Hc := Lib.hid hc
  clear hc
  go_enter Tryd.func39, Tryd.ntmps39
  go_wp2
  go_loopw [3, 8] (fun n i wr => ∃ k : Nat, k ≤ l.length ∧ i = .int .i64 k ∧ n = .int .i64 (roomN (l.take k)) ∧ Below w.heap.size w wr) (fun _ i _ => l.length - (intOf i).toNat)
  case atStart => exact ⟨0, Nat.zero_le _, rfl, by simp [roomN], Below.refl _ _⟩
  case round =>
    obtain ⟨k, hk, rfl, rfl, hb⟩ := hrel
    have hle := roomN_le l k
    by_cases hlt : k < l.length
    · have h0 := (hb.cell (p := ⟨g, k * 2, none⟩) hg).trans (Hc.out k hlt).1
      have h1 := (hb.cell (p := ⟨g, k * 2 + 1, none⟩) hg).trans (Hc.out k hlt).2
      have hsz := size_str l[k].2
      have hs := roomN_take l k hlt
      have hle2 := roomN_le l (k + 1)
      have Hs := Lib.hid hs
      have hbd : roomN (l.take k) + l[k].2.length ≤ 100000 := by omega
      clear hs hle2
      go_wp2
      go_roundw
      case rel => exact ⟨k + 1, by omega, by go_num, by rw [Hs.out]; go_num, hb.alloc hb.size _⟩
      case measure => simp [intOf]; omega
    · have hge : l.length ≤ k := by omega
      have Ht := Lib.hid (List.take_of_length_le hge)
      have hd : decide (k < l.length) = false := decide_eq_false hlt
      clear hlt
      go_wp2
      go_ret
      exact ⟨by rw [Ht.out]; rfl, hb⟩
end Go.Proofs.YtjndekmpnihamaaDoor
