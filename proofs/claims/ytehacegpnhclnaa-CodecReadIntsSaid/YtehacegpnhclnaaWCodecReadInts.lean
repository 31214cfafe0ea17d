/-
  The walk of CodecReadInts.
-/
import Derived.Test.YtehacegpnhclnaaWCodecUnpacks
import Derived.Test.YtehacegpnhclnaaOpen2
import Derived.Deep.RegionWith
namespace Go.Proofs.Ytehacegpnhclnaa
open Go.RowKit Go.Shelf

set_option maxRecDepth 100000 in
set_option maxHeartbeats 2000000 in
theorem walk_CodecReadInts (a0 : Option Addr) (len0 cap0 : Nat) (hcap : len0 ≤ cap0 ∧ cap0 ≤ 9223372036854775807) (l : List Int) (hf : ∀ n ∈ l, Fits n) (qa qb qc : Int) (_ha : Fits qa) (_hb : Fits qb) (_hc : Fits qc) (tl : List UInt8) (hl : tl.length ≤ maxLen) (w : World) (hr : Reads encI w (.slice a0 len0 cap0) l) :
    Calls Try.prog 14 #[.slice a0 len0 cap0, .agg #[.int .i64 qa, .int .i64 qb, .int .i64 qc], str tl] w fun e w' => e = .returned (.bool true) ∧ Below w.heap.size w w' := by
  unfold maxLen at hl
  have hsz := size_str tl
  have hex : (ByteArray.mk tl.toArray).extract 0 (min (tl.length : Int) 30).toNat = ⟨(tl.take 30).toArray⟩ := ext_min tl 30
  have hlt : (tl.take 30).length ≤ 30 := by rw [List.length_take]; omega
  obtain ⟨t, ht⟩ : ∃ t, tl.take 30 = t := ⟨_, rfl⟩
  rw [ht] at hex hlt
  clear ht
  have H1 := Lib.hid (fun W => sanity_c W)
  obtain ⟨hcap1, hcap2⟩ := hcap
  have hl0 : len0 = l.length := by obtain ⟨_, _, h, _⟩ := hr.slice; simp at h; omega
  subst hl0
  have b1 : (0 : Int) ≤ min (l.length : Int) 40 := by omega
  have b2 : min (l.length : Int) 40 ≤ (cap0 : Int) := by omega
  have Hf := Lib.hid hf
  have Hr := Lib.hid hr
  clear hr hf
  go_enter Try.func14, Try.ntmps14
  go_wp2_with fail
  refine (H1.out _).mono ?_
  clear H1
  rintro e w1 ⟨rfl, hb1⟩
  have hq1 : Q3 w1 w.heap.size qa qb qc := Q3.below (World.alloc_heap_new w (.cells #[.int .i64 qa, .int .i64 qb, .int .i64 qc] 50)) hb1
  have hb1' := below_tr (below_new w _) hb1
  have Hb1 := Lib.hid hb1'
  have Hq1 := Lib.hid hq1
  clear hb1 hb1' hq1
  go_wp2_with fail
  have hmn : (min (l.length : Int) 40).toNat ≤ l.length ∧ (min (l.length : Int) 40).toNat ≤ 40 := by omega
  have hrt := reads_take (Hr.out.below Hb1.out rfl) (min (l.length : Int) 40).toNat hmn.1
  obtain ⟨lt, hlt'⟩ : ∃ lt, l.take (min (l.length : Int) 40).toNat = lt := ⟨_, rfl⟩
  have hft : ∀ n ∈ lt, Fits n := by rw [← hlt']; intro n hn; exact Hf.out n (List.mem_of_mem_take hn)
  have hll : lt.length ≤ 40 := by rw [← hlt', List.length_take]; omega
  rw [hlt'] at hrt
  have hpl := ints_len lt hft (by omega)
  have H3 := Lib.hid (rints_c _ lt w1 hrt hft (by omega))
  obtain ⟨s, hs⟩ : ∃ s, intsL lt = s := ⟨_, rfl⟩
  have hs0 : 0 < s.length := by
    rw [← hs]; unfold intsL codeL; rw [List.length_append]
    have := num_pos lt.length
    omega
  rw [hs] at H3 hpl
  have hsl : s.length ≤ 500 := by omega
  clear hs hrt hft hll hlt' hmn hpl Hr Hf
  refine H3.out.mono ?_
  clear H3
  rintro e w3 ⟨rfl, hb3⟩
  have Hq3 := Lib.hid (Hq1.out.below hb3)
  have Hwl := Lib.hid (Hq3.out.lt)
  have Hb3 := Lib.hid (below_tr Hb1.out hb3)
  clear hb3 Hb1 Hq1 b1 b2
  obtain ⟨cap, w4, hrun, hbt, hb4⟩ := bytes_new s w3
  have hq4 := Hq3.out.below hb4
  have hc0 := hq4.c0
  have hc1 := hq4.c1
  have Hq4 := Lib.hid hq4
  have Hb4 := Lib.hid (below_tr Hb3.out hb4)
  have Hw3 := Lib.hid (Hb3.out.size)
  have Hbt := Lib.hid hbt
  clear hq4 hb4 hbt Hb3 Hq3
  have hk0 := Int.emod_nonneg qa (show (s.length : Int) ≠ 0 by omega)
  have hk1 := Int.emod_lt_of_pos qa (show (0 : Int) < (s.length : Int) by omega)
  have M0 := Lib.hid (fun W => mod_t qa s.length W (by omega) (by omega))
  obtain ⟨k, hk⟩ : ∃ k : Nat, qa % (s.length : Int) = (k : Int) := ⟨(qa % (s.length : Int)).toNat, by omega⟩
  rw [hk] at hk0 hk1 M0
  clear hk
  have hks : k < s.length := by omega
  have hfro := Hbt.out.frozen k hks
  have hcell := Hbt.out.cell k hks
  go_wp2_with fail
  go_region_with (go_at_call 18; refine (M0.out _).mono ?_; rintro e W2 ⟨rfl, rfl⟩)
  all_goals
    have h0 : IntKind.u8.wrap qb = qb % 256 := by simp [IntKind.wrap, IntKind.signed, IntKind.bits]
    rw [h0]
    clear h0
    obtain ⟨c, hc⟩ : ∃ c : UInt8, qb % 256 = (c.toNat : Int) := ⟨UInt8.ofNat (qb % 256).toNat, by rw [ofNat_toNat (by omega)]; omega⟩
    have hb5 := Hb4.out.setCell (p := ⟨w3.heap.size, k, none⟩) Hw3.out (.int .u8 (qb % 256))
    have hq5 : Q3 (w4.setCell ⟨w3.heap.size, k, none⟩ (.int .u8 (qb % 256))).drew w.heap.size qa qb qc := Q3.set Hq4.out (Nat.ne_of_lt Hwl.out) _ _
    have hstr := ((Hbt.out.set k c).drew).str cap
    rw [List.length_set, ← hc] at hstr
    have Hq5 := Lib.hid hq5
    have Hb5 := Lib.hid hb5.drew
    have U1 := Lib.hid (readsInts_c (s.set k c) (w4.setCell ⟨w3.heap.size, k, none⟩ (.int .u8 (qb % 256))).drew (by rw [List.length_set]; omega))
    clear hb5 hq5 Hbt Hq4 Hb4 Hw3 Hwl hc M0
    go_wp2_with fail
    refine U1.out.mono ?_
    clear U1 hstr
    rintro e w6 ⟨rfl, hb6⟩
    have hq6 := Hq5.out.below hb6
    have hc6 := hq6.c2
    have Hb6 := Lib.hid (below_tr Hb5.out hb6)
    clear hq6 hb6 Hq5 Hb5 hrun hc0 hc1 hfro hcell
    go_wp2_with fail
    have hm0 := Int.emod_nonneg qc (show ((s.length : Int) + 1) ≠ 0 by omega)
    have hm1 := Int.emod_lt_of_pos qc (show (0 : Int) < (s.length : Int) + 1 by omega)
    refine (mod_t qc (s.length + 1) _ (by omega) (by omega)).mono ?_
    obtain ⟨m, hm⟩ : ∃ m : Nat, qc % ((s.length : Int) + 1) = (m : Int) := ⟨(qc % ((s.length : Int) + 1)).toNat, by omega⟩
    rw [hm] at hm0 hm1 ⊢
    clear hm
    have hms : m ≤ s.length := by omega
    have hszs := size_str s
    have hexs : (ByteArray.mk s.toArray).extract 0 m = ⟨(s.take m).toArray⟩ := ext_take s m
    have hadd := add_str s t (by omega)
    have U2 := Lib.hid (fun W => readsInts_c (s.take m) W (by rw [List.length_take]; omega))
    have U3 := Lib.hid (fun W => readsInts_c (s ++ t) W (by rw [List.length_append]; omega))
    have U4 := Lib.hid (fun W => readsInts_c t W (by omega))
    have b1 : (0 : Int) ≤ (m : Int) := by omega
    have b2 : (m : Int) ≤ (s.length : Int) := by omega
    rintro e w' ⟨rfl, rfl⟩
    clear hm0 hm1 hc6 hk1 hk0
    go_wp2_with fail
    refine (U2.out _).mono ?_
    clear U2
    rintro e w7 ⟨rfl, hb7⟩
    have Hb7 := Lib.hid (below_tr Hb6.out hb7)
    clear hb7 Hb6
    go_wp2_with fail
    refine (U3.out _).mono ?_
    clear U3
    rintro e w8 ⟨rfl, hb8⟩
    have Hb8 := Lib.hid (below_tr Hb7.out hb8)
    clear hb8 Hb7
    go_wp2_with fail
    refine (U4.out _).mono ?_
    clear U4
    rintro e w9 ⟨rfl, hb9⟩
    have Hb9 := Lib.hid (below_tr Hb8.out hb9)
    clear hb9 Hb8
    go_wp2
    go_ret
    exact ⟨rfl, Hb9.out⟩
end Go.Proofs.Ytehacegpnhclnaa
