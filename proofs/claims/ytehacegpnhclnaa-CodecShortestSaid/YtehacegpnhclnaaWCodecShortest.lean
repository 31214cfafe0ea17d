/-
  The walk of CodecShortest.
-/
import Derived.Test.YtehacegpnhclnaaBytes
import Derived.Test.YtehacegpnhclnaaWCodecNumbers
namespace Go.Proofs.Ytehacegpnhclnaa
open Go.RowKit Go.Shelf

theorem readF_all (l : List UInt8) : ∀ (left i acc : Nat), (∀ x ∈ l, 128 ≤ x.toNat) → readF left i acc l = (0, 0, if l.length < left then 10 else 11) := by
  induction l with
  | nil => intro left i acc _; cases left <;> simp [readF]
  | cons c l ih =>
    intro left i acc h
    cases left with
    | zero => simp [readF]
    | succ left =>
      simp only [readF]
      rw [if_pos (h c (by simp)), ih left _ _ (fun x hx => h x (by simp [hx]))]
      simp
theorem readF_zeroLast (l : List UInt8) : ∀ (left i acc : Nat), (∀ x ∈ l, 128 ≤ x.toNat) → 0 < i + l.length → l.length < left → readF left i acc (l ++ [0]) = (0, 0, 11) := by
  induction l with
  | nil =>
    intro left i acc _ hi hl
    obtain ⟨left, rfl⟩ : ∃ m, left = m + 1 := ⟨left - 1, by simp at hl; omega⟩
    have : lastOk i 0 = false := by unfold lastOk; simp at hi ⊢; omega
    simp [readF, this]
  | cons c l ih =>
    intro left i acc h hi hl
    obtain ⟨left, rfl⟩ : ∃ m, left = m + 1 := ⟨left - 1, by simp at hl; omega⟩
    simp only [List.cons_append, readF]
    rw [if_pos (h c (by simp)), ih left _ _ (fun x hx => h x (by simp [hx])) (by omega) (by simp at hl; omega)]
theorem readF_over (l m : List UInt8) : ∀ (left i acc : Nat), (∀ x ∈ l, 128 ≤ x.toNat) → left ≤ l.length → readF left i acc (l ++ m) = (0, 0, 11) := by
  induction l with
  | nil => intro left i acc _ hl; simp at hl; subst hl; simp [readF]
  | cons c l ih =>
    intro left i acc h hl
    cases left with
    | zero => simp [readF]
    | succ left =>
      simp only [List.cons_append, readF]
      rw [if_pos (h c (by simp)), ih left _ _ (fun x hx => h x (by simp [hx])) (by simp at hl; omega)]

/-- A number's bytes with 128 added to the last are no number, also with a zero behind them. -/
theorem shortest_facts (V : Nat) : ∃ (pre : List UInt8) (c d : UInt8) (e : Nat), num V = pre ++ [c] ∧ c.toNat < 128 ∧ (d.toNat : Int) = (c.toNat : Int) + 128 ∧ readN (pre ++ [d]) = (0, 0, e) ∧ e ≠ 0 ∧ readN (pre ++ [d] ++ [0]) = (0, 0, 11) := by
  obtain ⟨pre, c, he, hp, hc, _, _⟩ := num_form V
  have hd : (UInt8.ofNat (c.toNat + 128)).toNat = c.toNat + 128 := ofNat_toNat (by omega)
  have hall : ∀ x ∈ pre ++ [UInt8.ofNat (c.toNat + 128)], 128 ≤ x.toNat := by
    intro x hx
    rcases List.mem_append.1 hx with hx | hx
    · exact hp x hx
    · rw [List.mem_singleton.1 hx, hd]; omega
  refine ⟨pre, c, UInt8.ofNat (c.toNat + 128), _, he, hc, by rw [hd]; omega, readF_all _ 10 0 0 hall, by split <;> omega, ?_⟩
  by_cases hl : (pre ++ [UInt8.ofNat (c.toNat + 128)]).length < 10
  · exact readF_zeroLast _ 10 0 0 hall (by simp) hl
  · exact readF_over _ _ 10 0 0 hall (by omega)

set_option maxRecDepth 100000 in
set_option maxHeartbeats 2000000 in
theorem walk_CodecShortest (m : Nat) (hm : m < 18446744073709551616) (qa qb : Int) (_ha : Fits qa) (_hb : Fits qb) (w : World) :
    Calls Try.prog 7 #[.int .u64 (m : Int), .agg #[.int .i64 qa, .int .i64 qb]] w fun e w' => e = .returned (.bool true) ∧ Below w.heap.size w w' := by
  have H1 := Lib.hid (fun W => sanity_c W)
  have H2 := Lib.hid (fun W => near_c qa qb W)
  have hm' := Lib.hid hm
  clear hm
  go_enter Try.func7, Try.ntmps7
  go_wp2_with fail
  refine (H1.out _).mono ?_
  rintro e w1 ⟨rfl, hb1⟩
  have hb1' := below_tr (below_new w _) hb1
  obtain ⟨hc1, _⟩ := bcell hb1
  go_wp2_with fail
  refine (H2.out _).mono ?_
  clear H1 H2
  rintro e w' ⟨⟨x', hx0, hx1, rfl⟩, rfl⟩
  obtain ⟨x, rfl⟩ : ∃ x : Nat, x' = (x : Int) := ⟨x'.toNat, by omega⟩
  have hx' := Lib.hid (show x < 18446744073709551616 by omega)
  have hb2 := Lib.hid (below_tr hb1' (below_new w1 (.cells #[.int .u64 (m : Int), .int .u64 (x : Int)] 32)))
  have hblk := Lib.hid (World.alloc_heap_new w1 (.cells #[.int .u64 (m : Int), .int .u64 (x : Int)] 32))
  clear hb1 hb1' hc1 hx0 hx1
  go_wp2_with fail
  go_loopw [7] (fun i wr => ∃ k : Nat, k ≤ 2 ∧ i = .int .i64 k ∧ wr.heap[w1.heap.size]? = some (.cells #[.int .u64 (m : Int), .int .u64 (x : Int)] 32 (0, 0)) ∧ Below w.heap.size w wr) (fun i _ => 2 - (intOf i).toNat)
  case atStart => exact ⟨0, by omega, rfl, hblk.out, hb2.out⟩
  case round =>
    obtain ⟨k, hk, rfl, hblkr, hbel⟩ := hrel
    clear hblk hb2
    by_cases hlt2 : k < 2
    · obtain ⟨V, hV, hcV⟩ : ∃ V : Nat, V < 18446744073709551616 ∧ wr.cell? ⟨w1.heap.size, k, none⟩ = some (.int .u64 (V : Int)) := by
        have hm2 := hm'.out
        have hx2 := hx'.out
        rcases (show k = 0 ∨ k = 1 by omega) with rfl | rfl
        · exact ⟨m, hm2, by rw [heap_cell hblkr]; rfl⟩
        · exact ⟨x, hx2, by rw [heap_cell hblkr]; rfl⟩
      have hbw : w1.heap.size < wr.heap.size := (Array.getElem?_eq_some_iff.1 hblkr).1
      have hlen := num_len V hV
      have N1 := number_c V wr hV
      obtain ⟨pre, c, d, e, hn, hc, hd, hr1, he0, hr2⟩ := shortest_facts V
      obtain ⟨L, hL⟩ : ∃ L, pre ++ [c] = L := ⟨_, rfl⟩
      obtain ⟨M, hM⟩ : ∃ M, pre ++ [d] = M := ⟨_, rfl⟩
      obtain ⟨n, hnn⟩ : ∃ n, pre.length = n := ⟨_, rfl⟩
      rw [hL] at hn
      rw [hM] at hr1 hr2
      rw [hn] at N1 hlen
      have hln : L.length = n + 1 := by rw [← hL, ← hnn]; simp
      have hml : M.length = n + 1 := by rw [← hM, ← hnn]; simp
      have hset : L.set n d = M := by rw [← hL, ← hM, ← hnn]; simp
      have hLn : L[n]'(by omega) = c := by simp [← hL, ← hnn]
      have hemp : L.isEmpty = false := by rw [← hL]; simp
      have hget : ∀ h, ((ByteArray.mk L.toArray)[n]'h).toNat = c.toNat := fun h => congrArg UInt8.toNat hLn
      have hci : (c.toNat : Int) < 128 := by omega
      have hbq : ((e : Int) == 0) = false := by rw [beq_eq_false_iff_ne]; omega
      have hn10 : n + 1 ≤ 10 := by omega
      have R1 := fun W => read_str M W (by omega)
      have R2 := fun W => read_str (M ++ [0]) W (by rw [List.length_append]; simp; omega)
      rw [hr1] at R1
      rw [hr2] at R2
      have hadd := add_str M [0] (by simp; omega)
      have N1 := Lib.hid N1
      have R1 := Lib.hid R1
      have R2 := Lib.hid R2
      have Hblk := Lib.hid hblkr
      have Hbel := Lib.hid hbel
      have Hd := Lib.hid hd
      have hsz := size_str L
      rw [hln] at hsz
      clear hn hV hblkr hbel hlen hL hM hnn hr1 hr2 hd he0 hc
      go_wp2_with fail
      refine N1.out.mono ?_
      clear N1
      rintro e w3 ⟨rfl, hb3⟩
      obtain ⟨cap, w4, hrun, hbt, hb4⟩ := bytes_new L w3
      have hc4 := hbt.cell n (by omega)
      have hz4 := hbt.frozen n (by omega)
      rw [hLn] at hc4
      have hbt5 := hbt.set n d
      have hb45 := (Below.refl w3.heap.size w4).setCell (p := ⟨w3.heap.size, n, none⟩) (Nat.le_refl _) (.int .u8 (d.toNat : Int))
      rw [hset, Hd.out] at hbt5
      rw [Hd.out] at hb45
      rw [hln] at hrun
      obtain ⟨w5, hw5⟩ : ∃ w5, w4.setCell ⟨w3.heap.size, n, none⟩ (.int .u8 ((c.toNat : Int) + 128)) = w5 := ⟨_, rfl⟩
      rw [hw5] at hbt5 hb45
      have hback := hbt5.str cap
      rw [hml] at hback
      have Hfin : Hid (w5.heap[w1.heap.size]? = some (.cells #[.int .u64 (m : Int), .int .u64 (x : Int)] 32 (0, 0)) ∧ Below w.heap.size w w5) := by
        have hb35 := hb4.trans hb45
        exact ⟨(hb35.block _ (Nat.lt_of_lt_of_le hbw hb3.size)).trans ((hb3.block _ hbw).trans Hblk.out), below_tr (below_tr Hbel.out hb3) hb35⟩
      clear hbt hbt5 hb45 hb4 hb3 Hblk Hbel Hd hLn hset hln hml
      go_wp2_with fail
      refine (R1.out _).mono ?_
      rintro e w' ⟨rfl, rfl⟩
      go_wp2_with fail
      refine (R2.out _).mono ?_
      rintro e w' ⟨rfl, rfl⟩
      clear R1 R2
      go_wp2
      go_roundw
      case rel => exact ⟨k + 1, by omega, by go_num, Hfin.out.1, Hfin.out.2⟩
      case measure => simp [intOf]; omega
    · have hk2 : k = 2 := by omega
      subst hk2
      go_wp2
      go_ret
      exact ⟨rfl, hbel⟩
end Go.Proofs.Ytehacegpnhclnaa
