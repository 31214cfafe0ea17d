/-
  The walk of CodecNumbers.
-/
import Derived.Test.YtehacegpnhclnaaHelp
namespace Go.Proofs.Ytehacegpnhclnaa
open Go.RowKit Go.Shelf

theorem heap_cell {w : World} {b : Nat} {cs : Array Value} {t : TypeId} {fr : Nat × Nat} (h : w.heap[b]? = some (.cells cs t fr)) (j : Nat) : w.cell? ⟨b, j, none⟩ = cs[j]? := Lib.cell_of_heap h j

/-- What one round asks of one number. -/
structure NumFacts (v : Nat) (x : List UInt8) : Prop where
  lt : v < 18446744073709551616
  pos : 0 < (num v).length
  len : (num v).length ≤ 10
  read : readN (num v ++ x) = (v, (num v).length, 0)
theorem numFacts {v : Nat} {x : List UInt8} (h : v < 18446744073709551616) : NumFacts v x := ⟨h, num_pos v, num_len v h, readN_num v h x⟩

set_option maxRecDepth 100000 in
set_option maxHeartbeats 2000000 in
theorem walk_CodecNumbers (m : Nat) (hm : m < 18446744073709551616) (qa qb : Int) (_ha : Fits qa) (_hb : Fits qb) (l : List UInt8) (hl : l.length ≤ maxLen) (w : World) :
    Calls Try.prog 5 #[.int .u64 (m : Int), .agg #[.int .i64 qa, .int .i64 qb], str l] w fun e w' => e = .returned (.bool true) ∧ Below w.heap.size w w' := by
  unfold maxLen at hl
  have hsz := size_str l
  have hex : (ByteArray.mk l.toArray).extract 0 (min (l.length : Int) 20).toNat = ⟨(l.take 20).toArray⟩ := ext_min l 20
  have hlt : (l.take 20).length ≤ 20 := by rw [List.length_take]; omega
  obtain ⟨t, ht⟩ : ∃ t, l.take 20 = t := ⟨_, rfl⟩
  rw [ht] at hex hlt
  clear ht
  have H1 := Lib.hid (fun W => sanity_c W)
  have H2 := Lib.hid (fun W => near_c qa qb W)
  have hm' := Lib.hid hm
  clear hm
  go_enter Try.func5, Try.ntmps5
  go_wp2_with fail
  refine (H1.out _).mono ?_
  rintro e w1 ⟨rfl, hb1⟩
  have hb1' := below_tr (below_new w _) hb1
  obtain ⟨hc1, _⟩ := bcell hb1
  go_wp2_with fail
  refine (H2.out _).mono ?_
  clear H1 H2
  rintro e w' ⟨⟨x', hx0, hx1, rfl⟩, rfl⟩
  obtain ⟨x, rfl⟩ : ∃ x : Nat, x' = (x : Int) := ⟨x'.toNat, by omega⟩
  have hx' := Lib.hid (show x < 18446744073709551616 by omega)
  have hb2 := Lib.hid (below_tr hb1' (below_new w1 (.cells #[.int .u64 (m : Int), .int .u64 (x : Int)] 32)))
  have hblk := Lib.hid (World.alloc_heap_new w1 (.cells #[.int .u64 (m : Int), .int .u64 (x : Int)] 32))
  clear hb1 hb1' hc1 hx0 hx1
  go_wp2_with fail
  go_loopw [9] (fun i wr => ∃ k : Nat, k ≤ 2 ∧ i = .int .i64 k ∧ wr.heap[w1.heap.size]? = some (.cells #[.int .u64 (m : Int), .int .u64 (x : Int)] 32 (0, 0)) ∧ Below w.heap.size w wr) (fun i _ => 2 - (intOf i).toNat)
  case atStart => exact ⟨0, by omega, rfl, hblk.out, hb2.out⟩
  case round =>
    obtain ⟨k, hk, rfl, hblkr, hbel⟩ := hrel
    clear hblk hb2
    by_cases hlt2 : k < 2
    · obtain ⟨V, hV, hcV⟩ : ∃ V : Nat, V < 18446744073709551616 ∧ wr.cell? ⟨w1.heap.size, k, none⟩ = some (.int .u64 (V : Int)) := by
        have hm2 := hm'.out
        have hx2 := hx'.out
        rcases (show k = 0 ∨ k = 1 by omega) with rfl | rfl
        · exact ⟨m, hm2, by rw [heap_cell hblkr]; rfl⟩
        · exact ⟨x, hx2, by rw [heap_cell hblkr]; rfl⟩
      have hbw : w1.heap.size < wr.heap.size := (Array.getElem?_eq_some_iff.1 hblkr).1
      have F := numFacts (x := t) hV
      have N1 := Lib.hid (fun W => number_c V W hV)
      have N2 := Lib.hid (fun W => rnumber_c V W hV)
      have hlen := F.len
      have hrd := fun W => read_str (num V ++ t) W (by rw [List.length_append]; omega)
      rw [F.read] at hrd
      have N3 := Lib.hid hrd
      have hadd := add_str (num V) t (by omega)
      have hsz2 := size_str (num V)
      have Hblk := Lib.hid hblkr
      have Hbel := Lib.hid hbel
      clear hrd hV F hblkr hbel
      go_wp2_with fail
      refine (N1.out _).mono ?_
      rintro e w3 ⟨rfl, hb3⟩
      have hc3 : w3.cell? ⟨w1.heap.size, k, none⟩ = some (.int .u64 (V : Int)) := (hb3.cell (p := ⟨w1.heap.size, k, none⟩) hbw).trans hcV
      go_wp2_with fail
      refine (N3.out _).mono ?_
      rintro e w' ⟨rfl, rfl⟩
      go_wp2_with fail
      refine (N2.out _).mono ?_
      rintro e w4 ⟨rfl, hb4⟩
      have hc4 : w4.cell? ⟨w1.heap.size, k, none⟩ = some (.int .u64 (V : Int)) := (hb4.cell (p := ⟨w1.heap.size, k, none⟩) (Nat.lt_of_lt_of_le hbw hb3.size)).trans hc3
      have Hf : Hid (w4.heap[w1.heap.size]? = some (.cells #[.int .u64 (m : Int), .int .u64 (x : Int)] 32 (0, 0)) ∧ Below w.heap.size w w4) :=
        ⟨(hb4.block _ (Nat.lt_of_lt_of_le hbw hb3.size)).trans ((hb3.block _ hbw).trans Hblk.out), below_tr (below_tr Hbel.out hb3) hb4⟩
      clear hb3 hb4 N1 N2 N3 Hblk Hbel
      go_wp2
      go_roundw
      case rel => exact ⟨k + 1, by omega, by go_num, Hf.out.1, Hf.out.2⟩
      case measure => simp [intOf]; omega
    · have hk2 : k = 2 := by omega
      subst hk2
      go_wp2
      go_ret
      exact ⟨rfl, hbel⟩
end Go.Proofs.Ytehacegpnhclnaa
