/-
  The walk of CodecUnpacks.
-/
import Derived.Test.YtehacegpnhclnaaUn
import Derived.RegionTactic
namespace Go.Proofs.Ytehacegpnhclnaa
open Go.RowKit Go.Shelf

/-- Block B holds the three numbers. -/
def Q3 (w : World) (B : Nat) (qa qb qc : Int) : Prop := w.heap[B]? = some (.cells #[.int .i64 qa, .int .i64 qb, .int .i64 qc] 50 (0, 0))
theorem Q3.lt {w : World} {B : Nat} {qa qb qc : Int} (h : Q3 w B qa qb qc) : B < w.heap.size := (Array.getElem?_eq_some_iff.1 h).1
theorem Q3.below {w w' : World} {B : Nat} {qa qb qc : Int} (h : Q3 w B qa qb qc) (hb : Below w.heap.size w w') : Q3 w' B qa qb qc := (hb.block B h.lt).trans h
theorem Q3.set {w : World} {B : Nat} {qa qb qc : Int} (h : Q3 w B qa qb qc) {b : Nat} (hne : B ≠ b) (o : Nat) (v : Value) : Q3 (w.setCell ⟨b, o, none⟩ v) B qa qb qc := by
  unfold Q3 at *
  simp [World.setCell, Array.getElem?_modify, h, Ne.symm hne]
theorem Q3.c0 {w : World} {B : Nat} {qa qb qc : Int} (h : Q3 w B qa qb qc) : w.cell? ⟨B, 0, none⟩ = some (.int .i64 qa) := by rw [Lib.cell_of_heap h]; rfl
theorem Q3.c1 {w : World} {B : Nat} {qa qb qc : Int} (h : Q3 w B qa qb qc) : w.cell? ⟨B, 1, none⟩ = some (.int .i64 qb) := by rw [Lib.cell_of_heap h]; rfl
theorem Q3.c2 {w : World} {B : Nat} {qa qb qc : Int} (h : Q3 w B qa qb qc) : w.cell? ⟨B, 2, none⟩ = some (.int .i64 qc) := by rw [Lib.cell_of_heap h]; rfl

set_option maxRecDepth 100000 in
set_option maxHeartbeats 2000000 in
theorem walk_CodecUnpacks (sl : Value) (l : List (List UInt8)) (qa qb qc : Int) (_ha : Fits qa) (_hb : Fits qb) (_hc : Fits qc) (tl : List UInt8) (hl : tl.length ≤ maxLen) (w : World) (hr : Reads encS w sl l) :
    Calls Try.prog 10 #[sl, .agg #[.int .i64 qa, .int .i64 qb, .int .i64 qc], str tl] w fun e w' => e = .returned (.bool true) ∧ Below w.heap.size w w' := by
  unfold maxLen at hl
  have hsz := size_str tl
  have hex : (ByteArray.mk tl.toArray).extract 0 (min (tl.length : Int) 30).toNat = ⟨(tl.take 30).toArray⟩ := ext_min tl 30
  have hlt : (tl.take 30).length ≤ 30 := by rw [List.length_take]; omega
  obtain ⟨t, ht⟩ : ∃ t, tl.take 30 = t := ⟨_, rfl⟩
  rw [ht] at hex hlt
  clear ht
  have H1 := Lib.hid (fun W => sanity_c W)
  have Hr := Lib.hid hr
  clear hr
  go_enter Try.func10, Try.ntmps10
  go_wp2_with fail
  refine (H1.out _).mono ?_
  clear H1
  rintro e w1 ⟨rfl, hb1⟩
  have hq1 : Q3 w1 w.heap.size qa qb qc := Q3.below (World.alloc_heap_new w (.cells #[.int .i64 qa, .int .i64 qb, .int .i64 qc] 50)) hb1
  have hb1' := below_tr (below_new w _) hb1
  have H2 := Lib.hid (some_c sl l 1 w1 (Hr.out.below hb1' rfl))
  have Hb1 := Lib.hid hb1'
  have Hq1 := Lib.hid hq1
  clear hb1 hb1' hq1 Hr
  go_wp2_with fail
  refine H2.out.mono ?_
  clear H2
  rintro e w2 ⟨x, out, rfl, hown, hlen, hsm, hb2⟩
  obtain ⟨hpl, -⟩ := some_pack hlen hsm
  have H3 := Lib.hid (rpack_c x out w2 (reads_of_own hown) (by omega))
  obtain ⟨s, hs⟩ : ∃ s, pack out = s := ⟨_, rfl⟩
  have hs0 : 0 < s.length := by
    rw [← hs]; unfold pack codeL; rw [List.length_append]
    have := num_pos out.length
    omega
  rw [hs] at H3 hpl
  have Hq2 := Lib.hid (Hq1.out.below hb2)
  have Hb2 := Lib.hid (below_tr Hb1.out hb2)
  clear hown hlen hsm hb2 Hb1 Hq1 hs
  go_wp2_with fail
  refine H3.out.mono ?_
  clear H3
  rintro e w3 ⟨rfl, hb3⟩
  have Hq3 := Lib.hid (Hq2.out.below hb3)
  have Hwl := Lib.hid (Hq3.out.lt)
  have Hb3 := Lib.hid (below_tr Hb2.out hb3)
  clear hb3 Hb2 Hq2
  obtain ⟨cap, w4, hrun, hbt, hb4⟩ := bytes_new s w3
  have hq4 := Hq3.out.below hb4
  have hc0 := hq4.c0
  have Hq4 := Lib.hid hq4
  have Hb4 := Lib.hid (below_tr Hb3.out hb4)
  have Hw3 := Lib.hid (Hb3.out.size)
  have Hbt := Lib.hid hbt
  clear hq4 hb4 hbt Hb3 Hq3
  go_wp2_with fail
  have hk0 := Int.emod_nonneg qa (show (s.length : Int) ≠ 0 by omega)
  have hk1 := Int.emod_lt_of_pos qa (show (0 : Int) < (s.length : Int) by omega)
  refine (mod_t qa s.length _ (by omega) (by omega)).mono ?_
  obtain ⟨k, hk⟩ : ∃ k : Nat, qa % (s.length : Int) = (k : Int) := ⟨(qa % (s.length : Int)).toNat, by omega⟩
  rw [hk] at hk0 hk1 ⊢
  clear hk
  have hks : k < s.length := by omega
  rintro e w' ⟨rfl, rfl⟩
  have hc1 := Hq4.out.c1
  have hfro := Hbt.out.frozen k hks
  have hcell := Hbt.out.cell k hks
  obtain ⟨c, hc⟩ : ∃ c : UInt8, qb % 256 = (c.toNat : Int) := ⟨UInt8.ofNat (qb % 256).toNat, by rw [ofNat_toNat (by omega)]; omega⟩
  have hb5 := Hb4.out.setCell (p := ⟨w3.heap.size, k, none⟩) Hw3.out (.int .u8 (qb % 256))
  have hq5 : Q3 (w4.setCell ⟨w3.heap.size, k, none⟩ (.int .u8 (qb % 256))) w.heap.size qa qb qc := Q3.set Hq4.out (Nat.ne_of_lt Hwl.out) _ _
  have hstr := (Hbt.out.set k c).str cap
  rw [List.length_set, ← hc] at hstr
  have Hq5 := Lib.hid hq5
  have Hb5 := Lib.hid hb5
  have U1 := Lib.hid (unpacks_c (s.set k c) (w4.setCell ⟨w3.heap.size, k, none⟩ (.int .u8 (qb % 256))) (by rw [List.length_set]; omega))
  clear hb5 hq5 Hbt Hq4 Hb4 Hw3 Hwl hc
  go_wp2_with fail
  refine U1.out.mono ?_
  clear U1 hstr
  rintro e w6 ⟨rfl, hb6⟩
  have hq6 := Hq5.out.below hb6
  have hc6 := hq6.c2
  have Hb6 := Lib.hid (below_tr Hb5.out hb6)
  clear hq6 hb6 Hq5 Hb5 hrun hc0 hc1 hfro hcell
  go_wp2_with fail
  have hm0 := Int.emod_nonneg qc (show ((s.length : Int) + 1) ≠ 0 by omega)
  have hm1 := Int.emod_lt_of_pos qc (show (0 : Int) < (s.length : Int) + 1 by omega)
  refine (mod_t qc (s.length + 1) _ (by omega) (by omega)).mono ?_
  obtain ⟨m, hm⟩ : ∃ m : Nat, qc % ((s.length : Int) + 1) = (m : Int) := ⟨(qc % ((s.length : Int) + 1)).toNat, by omega⟩
  rw [hm] at hm0 hm1 ⊢
  clear hm
  have hms : m ≤ s.length := by omega
  have hszs := size_str s
  have hexs : (ByteArray.mk s.toArray).extract 0 m = ⟨(s.take m).toArray⟩ := ext_take s m
  have hadd := add_str s t (by omega)
  have U2 := Lib.hid (fun W => unpacks_c (s.take m) W (by rw [List.length_take]; omega))
  have U3 := Lib.hid (fun W => unpacks_c (s ++ t) W (by rw [List.length_append]; omega))
  have U4 := Lib.hid (fun W => unpacks_c t W (by omega))
  have b1 : (0 : Int) ≤ (m : Int) := by omega
  have b2 : (m : Int) ≤ (s.length : Int) := by omega
  rintro e w' ⟨rfl, rfl⟩
  clear hm0 hm1 hc6 hk1 hk0
  go_wp2_with fail
  refine (U2.out _).mono ?_
  clear U2
  rintro e w7 ⟨rfl, hb7⟩
  have Hb7 := Lib.hid (below_tr Hb6.out hb7)
  clear hb7 Hb6
  go_wp2_with fail
  refine (U3.out _).mono ?_
  clear U3
  rintro e w8 ⟨rfl, hb8⟩
  have Hb8 := Lib.hid (below_tr Hb7.out hb8)
  clear hb8 Hb7
  go_wp2_with fail
  refine (U4.out _).mono ?_
  clear U4
  rintro e w9 ⟨rfl, hb9⟩
  have Hb9 := Lib.hid (below_tr Hb8.out hb9)
  clear hb9 Hb8
  go_wp2
  go_ret
  exact ⟨rfl, Hb9.out⟩
end Go.Proofs.Ytehacegpnhclnaa
