/-
  codec.canBeLast, codec.ReadNumber and the reference's ReadNumber return what 'readN' says.
-/
import Derived.Test.YtehacegpnhclnaaProg
import Derived.Test.YtehacegpnhclnaaNumR
namespace Go.Proofs.Ytehacegpnhclnaa
open Go.RowKit

theorem ret_t3 {k1 k2 k3 : IntKind} {a b c d e f : Int} (h1 : a = b) (h2 : c = d) (h3 : e = f) : Ending.returned (.tuple #[.int k1 a, .int k2 c, .int k3 e]) = .returned (.tuple #[.int k1 b, .int k2 d, .int k3 f]) := by rw [h1, h2, h3]
theorem nz_cast (c : UInt8) : (c.toNat != 0) = ((c.toNat : Int) != 0) := by
  rw [Bool.eq_iff_iff, bne_iff_ne, bne_iff_ne]; omega

theorem or_acc (k acc c : Nat) (ha : acc < 128 ^ k) (hw : 128 ^ k * (c % 128) < 18446744073709551616) (hk : k ≤ 9) :
    bits .or .u64 (acc : Int) (IntKind.u64.wrap ((c : Int) % 128 * 2 ^ (7 * k))) = ((acc + 128 ^ k * (c % 128) : Nat) : Int) := by
  have hp : (2 : Nat) ^ (7 * k) = 128 ^ k := by rw [Nat.pow_mul]
  have e1 : (c : Int) % 128 * 2 ^ (7 * k) = ((c % 128 * 128 ^ k : Nat) : Int) := by
    rw [← hp]; simp
  have hm : c % 128 * 128 ^ k = 128 ^ k * (c % 128) := Nat.mul_comm _ _
  rw [e1, hm, wrapU64 _ (by omega) (by omega)]
  have hacc : acc < 18446744073709551616 := by
    have h1 : (128 : Nat) ^ k ≤ 128 ^ 9 := Nat.pow_le_pow_right (by omega) hk
    have e9 : (128 : Nat) ^ 9 = 9223372036854775808 := by decide
    omega
  rw [u64_or_nat _ _ hacc hw, Nat.or_comm]
  rw [← hp] at ha ⊢
  have h2 := Nat.shiftLeft_add_eq_or_of_lt ha (c % 128)
  rw [Nat.shiftLeft_eq, Nat.mul_comm] at h2
  rw [← h2, Nat.add_comm]

theorem readF_step (L : List UInt8) (k acc : Nat) (h1 : k < L.length) (h2 : k < 10) :
    readF (10 - k) k acc (L.drop k) = if 128 ≤ L[k].toNat then readF (10 - (k + 1)) (k + 1) (acc + 128 ^ k * (L[k].toNat % 128)) (L.drop (k + 1)) else if lastOk k L[k] then (acc + 128 ^ k * L[k].toNat, k + 1, 0) else (0, 0, 11) := by
  obtain ⟨m, hm⟩ : ∃ m, 10 - k = m + 1 := ⟨9 - k, by omega⟩
  rw [hm, List.drop_eq_getElem_cons h1, show 10 - (k + 1) = m from by omega]
  rfl
theorem acc_next (k acc c : Nat) (ha : acc < 128 ^ k) : acc + 128 ^ k * (c % 128) < 128 ^ (k + 1) := by
  rw [Nat.pow_succ]
  have h1 : c % 128 < 128 := Nat.mod_lt _ (by omega)
  have h2 : 128 ^ k * (c % 128) ≤ 128 ^ k * 127 := Nat.mul_le_mul_left _ (by omega)
  omega
theorem small_grp (k c : Nat) (hk : k ≤ 8) : 128 ^ k * (c % 128) < 18446744073709551616 := by
  have h1 : (128 : Nat) ^ k ≤ 128 ^ 8 := Nat.pow_le_pow_right (by omega) hk
  have e9 : (128 : Nat) ^ 8 = 72057594037927936 := by decide
  have h2 : c % 128 ≤ 127 := by omega
  have := Nat.mul_le_mul h1 h2
  omega
theorem last_grp (k : Nat) (c : UInt8) (hk : k ≤ 9) (hc : c.toNat < 128) (h : lastOk k c = true) : 128 ^ k * (c.toNat % 128) < 18446744073709551616 := by
  by_cases h8 : k ≤ 8
  · exact small_grp k _ h8
  · have h9 : k = 9 := by omega
    subst h9
    have h1 : c.toNat ≤ 1 := by
      unfold lastOk at h
      simp at h; omega
    have e9 : (128 : Nat) ^ 9 = 9223372036854775808 := by decide
    rw [e9]
    omega

set_option maxRecDepth 100000 in
set_option maxHeartbeats 400000 in
theorem canBeLast_c (c : UInt8) (i : Nat) (hi : i ≤ 9) (w : World) :
    Calls Try.prog 42 #[.int .u8 (c.toNat : Int), .int .i64 (i : Int)] w fun e w' => e = .returned (.bool (lastOk i c)) ∧ w = w' := by
  by_cases h0 : i = 0
  · subst h0
    go_enter Try.func42, Try.ntmps42
    go_wp2
    go_ret
    exact ⟨rfl, rfl⟩
  · have hb : ((i : Int) == 0) = false := by rw [beq_eq_false_iff_ne]; omega
    by_cases h9 : i = 9
    · subst h9
      by_cases h1 : 1 < c.toNat
      · have hf := Lib.hid (show lastOk 9 c = false by unfold lastOk; simp; omega)
        go_enter Try.func42, Try.ntmps42
        go_wp2
        go_ret
        exact ⟨by rw [hf.out]; rfl, rfl⟩
      · have hd : decide ((1 : Int) < (c.toNat : Int)) = false := by simp; omega
        have hf := Lib.hid (show lastOk 9 c = ((c.toNat : Int) != 0) by unfold lastOk; simp [h1]; exact nz_cast c)
        go_enter Try.func42, Try.ntmps42
        go_wp2
        go_ret
        exact ⟨by rw [hf.out]; rfl, rfl⟩
    · have hb9 : ((i : Int) == 9) = false := by rw [beq_eq_false_iff_ne]; omega
      have hf := Lib.hid (show lastOk i c = ((c.toNat : Int) != 0) by unfold lastOk; rw [beq_eq_false_iff_ne.2 h0, beq_eq_false_iff_ne.2 h9]; simp; exact nz_cast c)
      go_enter Try.func42, Try.ntmps42
      go_wp2
      go_ret
      exact ⟨by rw [hf.out]; rfl, rfl⟩

set_option maxRecDepth 100000 in
set_option maxHeartbeats 400000 in
theorem readNumber_c (s : ByteArray) (w : World) (hs : s.size ≤ maxLen) :
    Calls Try.prog 21 #[.string s] w fun e w' => e = .returned (.tuple #[.int .u64 ((readN s.data.toList).1 : Int), .int .i64 ((readN s.data.toList).2.1 : Int), .int .i64 ((readN s.data.toList).2.2 : Int)]) ∧ w = w' := by
  unfold maxLen at hs
  go_enter Try.func21, Try.ntmps21
  go_wp2
  go_loop [5, 6] (fun n i => ∃ (k acc : Nat) (z : Int), k ≤ s.size ∧ k ≤ 10 ∧ i = .int .i64 k ∧ n = .int .u64 z ∧ (k ≤ 9 → z = acc) ∧ acc < 128 ^ k ∧ readN s.data.toList = readF (10 - k) k acc (s.data.toList.drop k)) (fun _ i => 10 - (intOf i).toNat)
  case atStart => exact ⟨0, 0, 0, Nat.zero_le _, by omega, rfl, rfl, fun _ => rfl, by simp, rfl⟩
  case round =>
    obtain ⟨k, acc, z, hk, hk10, rfl, rfl, hz, ha, hr⟩ := hrel
    by_cases hlt : k < s.size ∧ k < 10
    · obtain ⟨hl1, hl2⟩ := hlt
      have hzz := hz (by omega)
      subst hzz
      rw [readF_step _ _ _ (by simpa using hl1) hl2] at hr
      have hsk : s.data.toList[k]'(by simpa using hl1) = s[k] := rfl
      rw [hsk] at hr
      have Ha := Lib.hid ha
      clear ha hz hsk
      by_cases hc : 128 ≤ s[k].toNat
      · rw [if_pos hc] at hr
        have Hr := Lib.hid hr
        clear hr
        go_wp2
        go_round
        case rel =>
          refine ⟨k + 1, acc + 128 ^ k * (s[k].toNat % 128), _, by omega, by omega, by go_num, rfl, ?_, acc_next _ _ _ Ha.out, Hr.out⟩
          intro h9
          exact or_acc k acc _ Ha.out (small_grp _ _ (by omega)) (by omega)
        case measure => simp [intOf]; omega
      · rw [if_neg hc] at hr
        have hcl := canBeLast_c s[k] k (by omega) w
        cases hlo : lastOk k s[k] with
        | true =>
          rw [hlo] at hr hcl
          rw [if_pos rfl] at hr
          have Hr := Lib.hid hr
          have Ho := Lib.hid (or_acc k acc _ Ha.out (last_grp k s[k] (by omega) (by omega) hlo) (by omega))
          clear hr hlo
          go_wp2_with fail
          refine hcl.mono ?_
          clear hcl
          rintro e w' ⟨rfl, rfl⟩
          go_wp2
          go_ret3
          refine ⟨?_, rfl⟩
          rw [Hr.out]
          exact ret_t3 (Ho.out.trans (by rw [Nat.mod_eq_of_lt (by omega)])) (by show (k : Int) + 1 = ((k + 1 : Nat) : Int); omega) rfl
        | false =>
          rw [hlo] at hr hcl
          rw [if_neg (by simp)] at hr
          have Hr := Lib.hid hr
          clear hr hlo
          go_wp2_with fail
          refine hcl.mono ?_
          clear hcl
          rintro e w' ⟨rfl, rfl⟩
          go_wp2
          go_ret3
          refine ⟨?_, rfl⟩
          rw [Hr.out]
          rfl
    · clear hz ha
      by_cases h10 : k = 10
      · subst h10
        have Hr := Lib.hid (show readN s.data.toList = (0, 0, 11) by rw [hr]; rfl)
        clear hr
        go_wp2
        all_goals
          go_ret3
          refine ⟨?_, rfl⟩
          rw [Hr.out]
          rfl
      · have hks : k = s.size := by omega
        subst hks
        have Hr := Lib.hid (show readN s.data.toList = (0, 0, 10) by
          rw [hr, List.drop_of_length_le (by simp)]
          obtain ⟨m, hm⟩ : ∃ m, 10 - s.size = m + 1 := ⟨9 - s.size, by omega⟩
          rw [hm]; rfl)
        have hl : s.size < 10 := by omega
        clear hr hlt
        go_wp2
        go_ret3
        refine ⟨?_, rfl⟩
        rw [Hr.out]
        rfl

theorem racc (k acc c : Nat) : IntKind.u64.wrap ((acc : Int) + IntKind.u64.wrap ((c : Int) % 128 * 128 ^ k)) = (((acc + 128 ^ k * (c % 128)) % 18446744073709551616 : Nat) : Int) := by
  have e1 : (c : Int) % 128 * 128 ^ k = ((128 ^ k * (c % 128) : Nat) : Int) := by
    rw [Nat.mul_comm]; simp
  rw [e1, IntKind.wrap_u64, IntKind.wrap_u64]
  generalize 128 ^ k * (c % 128) = m
  omega
theorem rfac (k : Nat) (hk : k ≤ 8) : IntKind.u64.wrap ((128 : Int) ^ k * 128) = ((128 ^ (k + 1) : Nat) : Int) := by
  have e1 : (128 : Int) ^ k * 128 = ((128 ^ (k + 1) : Nat) : Int) := by
    rw [Nat.pow_succ]; simp
  have h1 : (128 : Nat) ^ (k + 1) ≤ 128 ^ 9 := Nat.pow_le_pow_right (by omega) (by omega)
  have e9 : (128 : Nat) ^ 9 = 9223372036854775808 := by decide
  have h3 : ((128 ^ (k + 1) : Nat) : Int) ≤ ((128 ^ 9 : Nat) : Int) := Int.ofNat_le.2 h1
  rw [e1]
  generalize 128 ^ (k + 1) = q at h1 h3 ⊢
  rw [wrapU64 _ (by omega) (by omega)]
theorem toList_take (s : ByteArray) (k : Nat) : (s.extract 0 k).toList = s.data.toList.take k := by
  rw [ByteArray.toList_eq, ByteArray.data_extract, Array.toList_extract, List.extract_eq_take_drop]
  simp
theorem val_take_lt (l : List UInt8) (k : Nat) : val (l.take k) < 128 ^ k := by
  have h1 := val_lt (l.take k)
  have h2 : (l.take k).length ≤ k := List.length_take_le _ _
  exact Nat.lt_of_lt_of_le h1 (Nat.pow_le_pow_right (by omega) h2)
theorem rlast_iff (pre : List UInt8) (c : UInt8) (hp : ∀ x ∈ pre, 128 ≤ x.toNat) (hc : c.toNat < 128) (h9 : pre.length ≤ 9) (v : Nat) (hv : v = (val pre + 128 ^ pre.length * c.toNat) % 18446744073709551616) : decide (num v = pre ++ [c]) = lastOk pre.length c := by
  subst hv
  rw [Bool.eq_iff_iff, decide_eq_true_iff]
  exact last_iff pre c hp hc h9

set_option maxRecDepth 100000 in
set_option maxHeartbeats 400000 in
theorem rreadNumber_c (s : ByteArray) (w : World) (hs : s.size ≤ maxLen) :
    Calls Try.prog 43 #[.string s] w fun e w' => e = .returned (.tuple #[.int .u64 ((readN s.data.toList).1 : Int), .int .i64 ((readN s.data.toList).2.1 : Int), .int .i64 ((readN s.data.toList).2.2 : Int)]) ∧ Below w.heap.size w w' := by
  unfold maxLen at hs
  go_enter Try.func43, Try.ntmps43
  go_wp2
  go_loop [5, 6, 7, 8] (fun n f i _ => ∃ (k acc : Nat) (z y : Int), k ≤ s.size ∧ k ≤ 10 ∧ i = .int .i64 k ∧ n = .int .u64 z ∧ f = .int .u64 y ∧ (k ≤ 9 → z = acc ∧ y = (128 ^ k : Nat)) ∧ acc = val (s.data.toList.take k) ∧ (∀ x ∈ s.data.toList.take k, 128 ≤ x.toNat) ∧ readN s.data.toList = readF (10 - k) k acc (s.data.toList.drop k)) (fun _ _ i _ => 10 - (intOf i).toNat)
  case atStart => exact ⟨0, 0, 0, 1, Nat.zero_le _, by omega, rfl, rfl, rfl, fun _ => ⟨rfl, rfl⟩, by simp [val], by simp, rfl⟩
  case round =>
    obtain ⟨k, acc, z, y, hk, hk10, rfl, rfl, rfl, hz, ha, hp, hr⟩ := hrel
    by_cases hlt : k < s.size ∧ k < 10
    · obtain ⟨hl1, hl2⟩ := hlt
      obtain ⟨hzz, hyy⟩ := hz (by omega)
      subst hzz hyy
      rw [readF_step _ _ _ (by simpa using hl1) hl2] at hr
      have hsk : s.data.toList[k]'(by simpa using hl1) = s[k] := rfl
      have hts := take_snoc s.data.toList k (by simpa using hl1)
      rw [hsk] at hr hts
      have Hts := Lib.hid hts
      have Ha := Lib.hid ha
      have Hp := Lib.hid hp
      clear ha hz hsk hp hts
      by_cases hc : 128 ≤ s[k].toNat
      · rw [if_pos hc] at hr
        have Hr := Lib.hid hr
        clear hr
        go_wp2
        go_round
        case rel =>
          have hval : acc + 128 ^ k * (s[k].toNat % 128) = val (List.take (k + 1) s.data.toList) := by
            rw [Hts.out, val_snoc, ← Ha.out, List.length_take, Nat.min_eq_left (by simpa using Nat.le_of_lt hl1)]
          refine ⟨k + 1, acc + 128 ^ k * (s[k].toNat % 128), _, _, by omega, by omega, by go_num, rfl, rfl, ?_, hval, ?_, Hr.out⟩
          · intro h9
            refine ⟨?_, rfac k (by omega)⟩
            rw [racc, Nat.mod_eq_of_lt]
            rw [hval]
            have h1 := val_take_lt s.data.toList (k + 1)
            have h2 : (128 : Nat) ^ (k + 1) ≤ 128 ^ 9 := Nat.pow_le_pow_right (by omega) (by omega)
            have e9 : (128 : Nat) ^ 9 = 9223372036854775808 := by decide
            omega
          · rw [Hts.out]
            intro x hx
            rcases List.mem_append.1 hx with hx | hx
            · exact Hp.out x hx
            · rw [List.mem_singleton.1 hx]; exact hc
        case measure => simp [intOf]; omega
      · rw [if_neg hc] at hr
        have Hr := Lib.hid hr
        clear hr
        go_wp2_with fail
        rw [racc]
        obtain ⟨v, hv⟩ : ∃ v, (acc + 128 ^ k * (s[k].toNat % 128)) % 18446744073709551616 = v := ⟨_, rfl⟩
        have hvlt : v < 18446744073709551616 := by rw [← hv]; exact Nat.mod_lt _ (by decide)
        rw [hv]
        have Hv := Lib.hid hv
        clear hv
        refine (rnumber_c v w hvlt).mono ?_
        clear hvlt
        rintro e w' ⟨rfl, hb⟩
        have hln : (List.take k s.data.toList).length = k := by
          rw [List.length_take, Nat.min_eq_left (by simpa using Nat.le_of_lt hl1)]
        have hlast := rlast_iff (List.take k s.data.toList) s[k] Hp.out (by omega) (by omega) v (by
          rw [hln, ← Ha.out, ← Hv.out, Nat.mod_eq_of_lt (show s[k].toNat < 128 by omega)])
        rw [hln, ← Hts.out] at hlast
        have Hlast := Lib.hid hlast
        clear hlast hln
        go_wp2
        · have ht : (num v == (s.extract 0 (k + 1)).toList) = true := by assumption
          have he := beq_iff_eq.1 ht
          rw [toList_take] at he
          have hlo : lastOk k s[k] = true := by rw [← Hlast.out]; exact decide_eq_true he
          have hr := Hr.out
          rw [if_pos hlo] at hr
          go_ret3
          refine ⟨?_, hb⟩
          rw [hr]
          refine ret_t3 ?_ (by show (k : Int) + 1 = ((k + 1 : Nat) : Int); omega) rfl
          have h1 := val_num v
          rw [he, Hts.out, val_snoc, List.length_take, Nat.min_eq_left (by simpa using Nat.le_of_lt hl1), ← Ha.out, Nat.mod_eq_of_lt (show s[k].toNat < 128 by omega)] at h1
          rw [h1]
        · have ht : (num v == (s.extract 0 (k + 1)).toList) = false := by assumption
          have he := beq_eq_false_iff_ne.1 ht
          rw [toList_take] at he
          have hlo : lastOk k s[k] = false := by rw [← Hlast.out]; exact decide_eq_false he
          have hr := Hr.out
          rw [if_neg (by rw [hlo]; simp)] at hr
          go_ret3
          refine ⟨?_, hb⟩
          rw [hr]
          rfl
    · clear hz ha hp
      by_cases h10 : k = 10
      · subst h10
        have Hr := Lib.hid (show readN s.data.toList = (0, 0, 11) by rw [hr]; rfl)
        clear hr
        go_wp2
        all_goals
          go_ret3
          refine ⟨?_, Below.refl _ _⟩
          rw [Hr.out]
          rfl
      · have hks : k = s.size := by omega
        subst hks
        have Hr := Lib.hid (show readN s.data.toList = (0, 0, 10) by
          rw [hr, List.drop_of_length_le (by simp)]
          obtain ⟨m, hm⟩ : ∃ m, 10 - s.size = m + 1 := ⟨9 - s.size, by omega⟩
          rw [hm]; rfl)
        have hl : s.size < 10 := by omega
        clear hr hlt
        go_wp2
        go_ret3
        refine ⟨?_, Below.refl _ _⟩
        rw [Hr.out]
        rfl
end Go.Proofs.Ytehacegpnhclnaa
