/-
  The walk of CodecInts.
-/
import Derived.Test.YtehacegpnhclnaaUn
import Derived.Test.YtehacegpnhclnaaAppR
import Derived.Deep.RegionHeld3
import Derived.Deep.RegionWith
import Derived.Deep.AppendLies
import Derived.WalkSmall
namespace Go.Proofs.Ytehacegpnhclnaa
open Go.RowKit Go.Shelf

theorem wrap_i64' (n : Int) : IntKind.i64.wrap n = wrap64 n := by
  simp [IntKind.wrap, IntKind.signed, IntKind.bits, wrap64]
  split <;> omega
/-- What near returns. -/
def nearV (n off : Int) : Int := IntKind.u64.wrap (IntKind.u64.wrap (2 ^ (n % 64).toNat) + IntKind.u64.wrap (off.tmod 5))
set_option maxRecDepth 100000 in
set_option maxHeartbeats 400000 in
theorem near_d (n off : Int) (w : World) :
    Calls Try.prog 19 #[.int .i64 n, .int .i64 off] w fun e w' => e = .returned (.int .u64 (nearV n off)) ∧ w = w' := by
  have h0 := Int.emod_nonneg n (show (64 : Int) ≠ 0 by omega)
  have h4 := Int.emod_lt_of_pos n (show (0 : Int) < 64 by omega)
  unfold nearV
  obtain ⟨m, hm⟩ : ∃ m, n % 64 = m := ⟨_, rfl⟩
  rw [hm] at h0 h4 ⊢
  have Hm := Lib.hid hm
  clear hm
  go_enter Try.func19, Try.ntmps19
  go_wp2_with fail
  refine (mod_t n 64 _ (by omega) (by omega)).mono ?_
  rintro e w' ⟨rfl, rfl⟩
  rw [Hm.out]
  go_wp2
  go_ret
  exact ⟨rfl, rfl⟩

set_option maxRecDepth 100000 in
set_option maxHeartbeats 2000000 in
theorem walk_CodecInts (a0 : Option Addr) (len0 cap0 : Nat) (hcap : len0 ≤ cap0 ∧ cap0 ≤ 9223372036854775807) (l : List Int) (hf : ∀ n ∈ l, Fits n) (sq : Value) (q : List (Int × Int)) (w : World) (hr : Reads encI w (.slice a0 len0 cap0) l) (hq : ReadsP w sq q) :
    Calls Try.prog 13 #[.slice a0 len0 cap0, sq] w fun e w' => e = .returned (.bool true) ∧ Below w.heap.size w w' := by
  obtain ⟨aq, capq, rfl, hmq, hcq⟩ := hq.slice
  unfold maxLen at hmq
  have Hcq := Lib.hid hcq
  clear hq hcq
  obtain ⟨hcap1, hcap2⟩ := hcap
  have hl0 : len0 = l.length := by obtain ⟨_, _, h, _⟩ := hr.slice; simp at h; omega
  subst hl0
  have b1 : (0 : Int) ≤ min (l.length : Int) 60 := by omega
  have b2 : min (l.length : Int) 60 ≤ (cap0 : Int) := by omega
  have hmn : (min (l.length : Int) 60).toNat ≤ l.length ∧ (min (l.length : Int) 60).toNat ≤ 60 := by omega
  have H1 := Lib.hid (fun W => sanity_c W)
  have Hf := Lib.hid hf
  have Hr := Lib.hid hr
  clear hr hf
  go_enter Try.func13, Try.ntmps13
  go_wp2_with fail
  refine (H1.out _).mono ?_
  clear H1
  rintro e w1 ⟨rfl, hb1⟩
  have hbn := below_new w1 (.cells #[] 3)
  have hrt := reads_take ((Hr.out.below hb1 rfl).below hbn rfl) (min (l.length : Int) 60).toNat hmn.1
  have hlit := World.ownsRow_lit (base := w1.heap.size) (e := 3) (size := 1) w1 #[] 0 (Nat.le_refl _) (by simp [maxLen]) rfl
  obtain ⟨i0, hi, hz0, hz1, hz2⟩ := info_parts infoI
  go_wp2_with (at_builtin; refine wpList_append_reads encI (fun _ => rfl) _ rfl _ _ 54 rfl w1.heap.size 3 i0 (.int .i64 0) 8 Try.underlying54 hi hz0 hz1 hz2 rfl _ _ _ rfl hlit a0 _ cap0 _ rfl hrt ?c3 ?c4 ?c5 ?_)
  case c3 => unfold maxLen; omega
  case c4 => omega
  case c5 => simp
  intro vx w2 hown2 hgrow
  have hb2 := hbn.grown hgrow (by simp) (fun k e => by cases e; exact Nat.le_refl _)
  rw [← List.map_take] at hown2
  obtain ⟨lt, hlt⟩ : ∃ lt, l.take (min (l.length : Int) 60).toNat = lt := ⟨_, rfl⟩
  have hll : lt.length = (min (l.length : Int) 60).toNat := by rw [← hlt, List.length_take]; omega
  have hft : ∀ n ∈ lt, Fits n := by rw [← hlt]; intro n hn; exact Hf.out n (List.mem_of_mem_take hn)
  rw [hlt, ← hll] at hown2
  have hl60 : lt.length ≤ 60 := by omega
  have hwB := hb1.size
  have Hw2 := Lib.hid hb2.size
  have Hb2 := Lib.hid (below_tr hb1 hb2)
  have Hft := Lib.hid hft
  have Hown2 := Lib.hid hown2
  clear hb2 hft hown2 hlt hll hgrow hlit hrt hbn hb1 Hr Hf hi hz0 hz1 hz2 b1 b2 hmn hcap1 hcap2
  go_wp2_with fail
  go_loopw [6, 7] (fun v i wr => ∃ (k : Nat) (acc : List Int), k ≤ q.length ∧ k ≤ 10 ∧ acc.length = lt.length + 2 * k ∧ i = .int .i64 k ∧ wr.ownsRow w1.heap.size 3 1 v acc.length (acc.map encI) ∧ (∀ n ∈ acc, Fits n) ∧ Below w.heap.size w wr ∧ w1.heap.size ≤ wr.heap.size) (fun _ i _ => q.length - (intOf i).toNat)
  case atStart => exact ⟨0, lt, by omega, by omega, by omega, rfl, Hown2.out, Hft.out, Hb2.out, Hw2.out⟩
  case round =>
    obtain ⟨k, acc, hk, hk10, hlen, rfl, hown, hfa, hbel, hsz⟩ := hrel
    have Hfa := Lib.hid hfa
    clear hfa Hown2 Hft Hb2 Hw2
    by_cases hlt : k < q.length ∧ k < 10
    · obtain ⟨h1, h2⟩ := hlt
      obtain ⟨b, off, rfl, hc0, hc1, hbl⟩ := Hcq.out k h1
      have hr0 : wr.cell? ⟨b, off + k * 2, none⟩ = some (.int .i64 q[k].1) := (hbel.cell (p := ⟨b, off + k * 2, none⟩) hbl).trans hc0
      have hr1 : wr.cell? ⟨b, off + k * 2 + 1, none⟩ = some (.int .i64 q[k].2) := (hbel.cell (p := ⟨b, off + k * 2 + 1, none⟩) hbl).trans hc1
      have hbw : b < wr.heap.size := Nat.lt_of_lt_of_le hbl hbel.size
      obtain ⟨qa, hqa⟩ : ∃ qa, q[k].1 = qa := ⟨_, rfl⟩
      obtain ⟨qb, hqb⟩ : ∃ qb, q[k].2 = qb := ⟨_, rfl⟩
      rw [hqa] at hr0
      rw [hqb] at hr1
      have hN := fun W => near_d qa qb W
      obtain ⟨X, hX⟩ : ∃ X, nearV qa qb = X := ⟨_, rfl⟩
      simp only [hX] at hN
      have N := Lib.hid hN
      obtain ⟨A, hA⟩ : ∃ A, IntKind.i64.wrap X = A := ⟨_, rfl⟩
      obtain ⟨B, hB⟩ : ∃ B, IntKind.i64.wrap (-A) = B := ⟨_, rfl⟩
      have fA : Fits A := by rw [← hA, wrap_i64']; exact fits_wrap X
      have fB : Fits B := by rw [← hB, wrap_i64']; exact fits_wrap _
      obtain ⟨j, hj⟩ : ∃ j, acc.length = j := ⟨_, rfl⟩
      rw [hj] at hown hlen
      have i1 : (k : Int) < (q.length : Int) := by omega
      have i0 : (0 : Int) ≤ (k : Int) := by omega
      have i2 : (k : Int) < 10 := by omega
      have av : Value.ownBlock u6 ≠ some b := fun e => absurd (hown.lt b e).1 (by omega)
      have Hbel := Lib.hid hbel
      obtain ⟨i0', hi, hz0, hz1, hz2⟩ := info_parts infoI
      have Hj := Lib.hid hj
      have HfA := Lib.hid fA
      have HfB := Lib.hid fB
      clear hc0 hc1 hbl hbel hqa hqb hN hX hj fA fB
      go_wp2_with fail
      go_region_held3 (fun w' => w'.cell? ⟨b, off + k * 2, none⟩ = some (.int .i64 qa) ∧ w'.cell? ⟨b, off + k * 2 + 1, none⟩ = some (.int .i64 qb))
        (first
          | go_keep
          | (constructor <;> (rw [hgrow.cell_far _ (by simp; omega) (Ne.symm av)]; go_split_ands; assumption)))
        (first
          | (go_at_call 19; refine (N.out _).mono ?_; rintro e W2 ⟨rfl, rfl⟩)
          | (refine step_append_lies _ (by rfl) _ _ _ (by rfl) w1.heap.size 3 i0' _ 1 8 Try.underlying54 hi hz0 hz1 hz2 rfl (by omega) _ j _ (by rfl) ((hown.alloc _).drew) ⟨wr.heap.size, 0, none⟩ 2 2 [encI A, encI B] (by rfl) (by rfl) (cell_two_new _ _ _ _) (by simp [Value.oneCell']) (by omega) (by unfold maxLen; omega) (by omega) (by simp; omega) (wr.heap.size + 1) (by simp) ?_; intro gg cap2 w4 hown4 hgrow hat hlt4))
      have Hown4 := Lib.hid hown4
      have Hbel4 := Lib.hid (((Hbel.out.alloc (Nat.le_trans hwB hsz) _).drew).grown hgrow (by simp; omega) (fun k hk => Nat.le_trans hwB (hown.lt k hk).1))
      have Hsz4 := Lib.hid (Nat.le_trans hsz (Nat.le_trans (by simp) hgrow.size))
      clear hown4 hgrow hown hat hlt4 av hr0 hr1 i0 i1 i2 hi hz0 hz1 hz2 hA hB N
      subst hlen
      go_wp2
      go_roundw
      case rel =>
        have hj := Hj.out
        have hl' : (acc ++ [A, B]).length = lt.length + 2 * k + 2 := by rw [List.length_append, hj]; rfl
        refine ⟨k + 1, acc ++ [A, B], by omega, by omega, by omega, by go_num, ?_, ?_, Hbel4.out, Hsz4.out⟩
        · rw [hl', List.map_append]
          exact Hown4.out
        · intro n hn
          rcases List.mem_append.1 hn with h | h
          · exact Hfa.out n h
          · simp at h
            rcases h with rfl | rfl
            · exact HfA.out
            · exact HfB.out
      case measure => simp [intOf]; omega
    · have hx : k = q.length ∨ k = 10 := by omega
      have hal : acc.length ≤ 80 := by omega
      have hra := reads_of_own hown
      have hpl := ints_len acc Hfa.out (by omega)
      have I1 := Lib.hid (ints_c u6 acc wr hra Hfa.out (by omega))
      have I2 := Lib.hid (fun W hW => rints_c u6 acc W hW Hfa.out (by omega))
      have hrd : readL takeI (intsL acc) = (0, acc) := readL_code takeI_undoes acc Hfa.out (by omega)
      obtain ⟨s, hs⟩ : ∃ s, intsL acc = s := ⟨_, rfl⟩
      rw [hs] at I1 I2 hrd hpl
      have hsl : s.length ≤ 900 := by omega
      have Hra := Lib.hid hra
      have Hrd := Lib.hid hrd
      have Hbel := Lib.hid hbel
      clear hs hrd hra hpl hal hown hbel Hcq Hfa hlen hsz hwB
      have i3 : ¬ ((k : Int) < (q.length : Int)) ∨ (k : Int) < (q.length : Int) ∧ ¬ ((k : Int) < 10) := by omega
      clear hx hlt hk hk10 hmq
      rcases i3 with i1 | ⟨i1, i2⟩
      all_goals
        go_wp2_with fail
        refine I1.out.mono ?_
        clear I1
        rintro e w3 ⟨rfl, hb3⟩
        have hu := readInts_c s w3 (by omega)
        rw [Hrd.out] at hu
        have U1 := Lib.hid hu
        have Hra3 := Lib.hid (Hra.out.below hb3 rfl)
        have Hb3 := Lib.hid (below_tr Hbel.out hb3)
        clear hb3 hu Hra Hbel
        go_wp2_with fail
        refine U1.out.mono ?_
        clear U1
        rintro e w4 ⟨y, rfl, howny, hb4⟩
        have S1 := Lib.hid (same_eq (Hra3.out.below hb4 rfl) (reads_of_own howny))
        have Hra4 := Lib.hid (Hra3.out.below hb4 rfl)
        have Hb4 := Lib.hid (below_tr Hb3.out hb4)
        clear howny hb4 Hb3 Hra3
        go_wp2_with fail
        refine S1.out.mono ?_
        clear S1
        rintro e w5 ⟨rfl, hb5⟩
        have I3 := Lib.hid (I2.out w5 (Hra4.out.below hb5 rfl))
        have Hb5 := Lib.hid (below_tr Hb4.out hb5)
        clear hb5 Hb4 Hra4 I2
        go_wp2_with fail
        refine I3.out.mono ?_
        clear I3
        rintro e w6 ⟨rfl, hb6⟩
        have Hb6 := Lib.hid (below_tr Hb5.out hb6)
        clear hb6 Hb5
        go_wp2
        go_ret
        exact ⟨rfl, Hb6.out⟩
end Go.Proofs.Ytehacegpnhclnaa
