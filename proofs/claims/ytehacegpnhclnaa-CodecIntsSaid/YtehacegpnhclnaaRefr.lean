/-
  The reference's Unpack and ReadInts.
-/
import Derived.Test.YtehacegpnhclnaaRefs
namespace Go.Proofs.Ytehacegpnhclnaa
open Go.RowKit Go.Shelf

theorem ext_mid (l : List UInt8) (a b : Nat) : (ByteArray.mk l.toArray).extract a b = ⟨((l.drop a).take (b - a)).toArray⟩ := by
  apply ByteArray.ext
  rw [ByteArray.data_extract]
  apply Array.toList_inj.1
  rw [Array.toList_extract, List.extract_eq_take_drop]
theorem takeS_eq {r : List UInt8} {m k : Nat} (h : readN r = (m, k, 0)) (hle : m ≤ (r.drop k).length) : takeS r = (0, (r.drop k).take m, r.drop (k + m)) := by
  unfold takeS; rw [h]; simp only [if_true]; rw [if_pos hle, List.drop_drop]
theorem takeS_short {r : List UInt8} {m k : Nat} (h : readN r = (m, k, 0)) (hle : ¬ m ≤ (r.drop k).length) : takeS r = (10, [], []) := by
  unfold takeS; rw [h]; simp only [if_true]; rw [if_neg hle]
theorem takeS_bad {r : List UInt8} {m k e : Nat} (h : readN r = (m, k, e)) (he : e ≠ 0) : takeS r = (e, [], []) := by
  unfold takeS; rw [h]; simp [he]
theorem takeI_eq {r : List UInt8} {m k : Nat} (h : readN r = (m, k, 0)) : takeI r = (0, us (m : Int), r.drop k) := by
  unfold takeI; rw [h]; rfl
theorem takeI_bad {r : List UInt8} {m k e : Nat} (h : readN r = (m, k, e)) (he : e ≠ 0) : takeI r = (e, 0, []) := by
  unfold takeI; rw [h]; simp [he]

/-- The reference's ReadNumber at the rest of a string. -/
theorem rread_at (r : List UInt8) (m k e : Nat) (W : World) (hr : r.length ≤ 140737488355328) (h : readN r = (m, k, e)) :
    Calls Try.prog 43 #[str r] W fun en w' => en = .returned (.tuple #[.int .u64 (m : Int), .int .i64 (k : Int), .int .i64 (e : Int)]) ∧ Below W.heap.size W w' := by
  have h1 := rreadNumber_c ⟨r.toArray⟩ W (by rw [size_str]; unfold maxLen; omega)
  have hd : (ByteArray.mk r.toArray).data.toList = r := by simp
  rw [hd, h] at h1
  exact h1

set_option maxRecDepth 100000 in
set_option maxHeartbeats 2000000 in
theorem runpack_c (s : List UInt8) (w : World) (hs : s.length ≤ 1099511627776) :
    Calls Try.prog 47 #[str s] w (ListPost encS 9 (unpack s) w) := by
  obtain ⟨n, k, e, hn⟩ : ∃ n k e, readN s = (n, k, e) := ⟨_, _, _, rfl⟩
  have hsz := size_str s
  by_cases he : e = 0
  · subst he
    have H0 := Lib.hid (rread_at s n k 0 w (by omega) hn)
    have Hinv := Lib.hid (inv_start (t := takeS) hn)
    have hn64 := (readN_ok hn).1
    have hks := (readN_len hn).2.1
    clear hn
    go_enter Try.func47, Try.ntmps47
    go_wp2_with fail
    refine H0.out.mono ?_
    clear H0
    rintro e w1 ⟨rfl, hw1⟩
    go_wp2_with fail
    go_loopw [5, 7, 8, 9, 10, 11] (fun p v i _ _ _ wr => ∃ (acc : List (List UInt8)) (q : Nat), q ≤ s.length ∧ acc.length ≤ n ∧ p = .int .i64 q ∧ i = .int .u64 acc.length ∧ wr.ownsRow w.heap.size 9 1 v acc.length (acc.map encS) ∧ Below w.heap.size w wr ∧ acc.length ≤ q ∧ Inv takeS s acc (n - acc.length) (s.drop q)) (fun _ _ i _ _ _ _ => n - (intOf i).toNat)
    case atStart => exact ⟨[], k, hks, Nat.zero_le _, rfl, rfl, World.ownsRow_nil _ _ _ _, hw1, Nat.zero_le _, Hinv.out⟩
    case round =>
      obtain ⟨acc, q, hq, hacc, rfl, rfl, hown, hbel, haq, hinv⟩ := hrel
      clear hw1 Hinv hks
      by_cases hlt : acc.length < n
      · obtain ⟨m, hm⟩ : ∃ m, n - acc.length = m + 1 := ⟨n - acc.length - 1, by omega⟩
        rw [hm] at hinv
        obtain ⟨v, k2, e2, hv⟩ : ∃ v k2 e2, readN (s.drop q) = (v, k2, e2) := ⟨_, _, _, rfl⟩
        have H2 := Lib.hid (rread_at (s.drop q) v k2 e2 wr (by simp; omega) hv)
        have hex := ext_drop s q
        by_cases he2 : e2 = 0
        · subst he2
          have hk2 := (readN_len hv).2.1
          have hv64 := (readN_ok hv).1
          have hk1 := (readN_len hv).1
          rw [List.length_drop] at hk2
          have hdd : (s.drop q).drop k2 = s.drop (q + k2) := by rw [List.drop_drop]
          by_cases hle : v ≤ s.length - (q + k2)
          · have ht := takeS_eq hv (by rw [hdd, List.length_drop]; exact hle)
            rw [hdd, List.drop_drop] at ht
            have Hinv := Lib.hid (inv_step hinv ht)
            have hmid := ext_mid s (q + k2) (q + k2 + v)
            rw [show q + k2 + v - (q + k2) = v from by omega] at hmid
            obtain ⟨x, hx⟩ : ∃ x, (s.drop (q + k2)).take v = x := ⟨_, rfl⟩
            rw [hx] at hmid Hinv
            have Hm := Lib.hid hm
            clear hinv ht hv hdd hx hm
            go_wp2_with fail
            refine H2.out.mono ?_
            clear H2
            rintro e w3 ⟨rfl, hw3⟩
            have hown3 := hown.kept (grown_below hw3 none) (Classical.em _)
            have hbel3 := hbel.trans (hw3.mono hbel.size)
            obtain ⟨i0, hi, hz0, hz1, hz2⟩ := info_parts infoS
            go_wp2_with (at_builtin; refine wpList_append_own _ rfl _ _ 43 rfl w.heap.size 9 i0 (.string ⟨#[]⟩) 1 16 Try.underlying43 hi hz0 hz1 hz2 rfl (by decide) _ _ _ rfl (hown3.alloc _) ⟨w3.heap.size, 0, none⟩ 1 1 [encS x] rfl rfl ?c1 ?c2 ?c3 ?c4 ?c5 ?_)
            case c1 => exact cell_one_new _ _ _
            case c2 => simp [Value.oneCell']
            case c3 => unfold maxLen; omega
            case c4 => omega
            case c5 => have := hbel3.size; simp; omega
            intro v' w4 hown4 hgrow _
            have hbel4 : Below w.heap.size w w4 := (hbel3.alloc hbel3.size _).grown hgrow (by have := hbel3.size; simp; omega) (fun k hk => (hown3.lt k hk).1)
            have Hown4 := Lib.hid hown4
            have Hbel4 := Lib.hid hbel4
            clear hown4 hbel4 hown3 hown hbel hbel3 hi hz0 hz1 hz2 hgrow hw3 hmid hex
            go_wp2
            go_roundw
            case rel => exact ⟨acc ++ [x], q + k2 + v, by omega, by simp; omega, int_eq (by omega), int_eq (by simp), by simpa using Hown4.out, Hbel4.out, by simp; omega, by
              have h1 := Hinv.out
              have h2 := Hm.out
              have h3 : n - (acc ++ [x]).length = m := by simp; omega
              rw [h3, Nat.add_assoc]
              exact h1⟩
            case measure => simp [intOf]; omega
          · have ht := takeS_short hv (by rw [hdd, List.length_drop]; exact hle)
            have Hfin := Lib.hid (inv_err hinv ht (by decide))
            clear hinv ht hv hdd hm
            go_wp2_with fail
            refine H2.out.mono ?_
            clear H2
            rintro e w3 ⟨rfl, hw3⟩
            have Hbel3 := Lib.hid (hbel.trans (hw3.mono hbel.size))
            clear hbel hw3 hown
            go_wp2
            go_ret2
            exact ListPost.nil (n := 10) Hfin.out Hbel3.out
        · have ht := takeS_bad hv he2
          have Hfin := Lib.hid (inv_err hinv ht he2)
          have hbq : ((e2 : Int) != 0) = true := by rw [bne_iff_ne]; omega
          clear hinv ht hv hm he2
          go_wp2_with fail
          refine H2.out.mono ?_
          clear H2
          rintro e w3 ⟨rfl, hw3⟩
          have Hbel3 := Lib.hid (hbel.trans (hw3.mono hbel.size))
          clear hbel hw3 hown
          go_wp2
          go_ret2
          exact ListPost.nil Hfin.out Hbel3.out
      · have hlen : acc.length = n := by omega
        rw [show n - acc.length = 0 from by omega] at hinv
        have hend := inv_end hinv
        have Hown := Lib.hid hown
        have Hbel := Lib.hid hbel
        clear hinv hown hbel hlen
        by_cases hqs : q < s.length
        · rw [if_neg (by intro h; have := congrArg List.length h; simp at this; omega)] at hend
          have Hend := Lib.hid hend
          clear hend
          go_wp2
          go_ret2
          exact ListPost.nil (n := 11) Hend.out Hbel.out
        · rw [if_pos (by apply List.drop_eq_nil_of_le; omega)] at hend
          have Hend := Lib.hid hend
          clear hend
          go_wp2
          go_ret2
          exact ListPost.mk (n := 0) Hend.out Hown.out Hbel.out
  · have H0 := Lib.hid (rread_at s n k e w (by omega) hn)
    have Hfin := Lib.hid (show unpack s = (e, []) by unfold unpack readL; rw [hn]; simp [he])
    have hbq : ((e : Int) != 0) = true := by rw [bne_iff_ne]; omega
    clear hn he
    go_enter Try.func47, Try.ntmps47
    go_wp2_with fail
    refine H0.out.mono ?_
    clear H0
    rintro e2 w1 ⟨rfl, hw1⟩
    have Hw1 := Lib.hid hw1
    clear hw1
    go_wp2
    go_ret2
    exact ListPost.nil Hfin.out Hw1.out
set_option maxRecDepth 100000 in
set_option maxHeartbeats 2000000 in
theorem rreadInts_c (s : List UInt8) (w : World) (hs : s.length ≤ 1099511627776) :
    Calls Try.prog 50 #[str s] w (ListPost encI 3 (readL takeI s) w) := by
  obtain ⟨n, k, e, hn⟩ : ∃ n k e, readN s = (n, k, e) := ⟨_, _, _, rfl⟩
  have hsz := size_str s
  by_cases he : e = 0
  · subst he
    have H0 := Lib.hid (rread_at s n k 0 w (by omega) hn)
    have Hinv := Lib.hid (inv_start (t := takeI) hn)
    have hn64 := (readN_ok hn).1
    have hks := (readN_len hn).2.1
    clear hn
    go_enter Try.func50, Try.ntmps50
    go_wp2_with fail
    refine H0.out.mono ?_
    clear H0
    rintro e w1 ⟨rfl, hw1⟩
    go_wp2_with fail
    go_loopw [5, 7, 8, 9, 10, 11] (fun p v i _ _ _ wr => ∃ (acc : List Int) (q : Nat), q ≤ s.length ∧ acc.length ≤ n ∧ p = .int .i64 q ∧ i = .int .u64 acc.length ∧ wr.ownsRow w.heap.size 3 1 v acc.length (acc.map encI) ∧ Below w.heap.size w wr ∧ acc.length ≤ q ∧ Inv takeI s acc (n - acc.length) (s.drop q)) (fun _ _ i _ _ _ _ => n - (intOf i).toNat)
    case atStart => exact ⟨[], k, hks, Nat.zero_le _, rfl, rfl, World.ownsRow_nil _ _ _ _, hw1, Nat.zero_le _, Hinv.out⟩
    case round =>
      obtain ⟨acc, q, hq, hacc, rfl, rfl, hown, hbel, haq, hinv⟩ := hrel
      clear hw1 Hinv hks
      by_cases hlt : acc.length < n
      · obtain ⟨m, hm⟩ : ∃ m, n - acc.length = m + 1 := ⟨n - acc.length - 1, by omega⟩
        rw [hm] at hinv
        obtain ⟨v, k2, e2, hv⟩ : ∃ v k2 e2, readN (s.drop q) = (v, k2, e2) := ⟨_, _, _, rfl⟩
        have H2 := Lib.hid (rread_at (s.drop q) v k2 e2 wr (by simp; omega) hv)
        have hex := ext_drop s q
        by_cases he2 : e2 = 0
        · subst he2
          have hk2 := (readN_len hv).2.1
          have hv64 := (readN_ok hv).1
          have hk1 := (readN_len hv).1
          rw [List.length_drop] at hk2
          have hdd : (s.drop q).drop k2 = s.drop (q + k2) := by rw [List.drop_drop]
          have ht := takeI_eq hv
          rw [hdd] at ht
          have Hinv := Lib.hid (inv_step hinv ht)
          have Hu := Lib.hid (fun W => runsigned_c (v : Int) W (by omega) (by omega))
          obtain ⟨x, hx⟩ : ∃ x, us (v : Int) = x := ⟨_, rfl⟩
          rw [hx] at Hinv Hu
          have Hm := Lib.hid hm
          clear hinv ht hv hdd hx hm
          go_wp2_with fail
          refine H2.out.mono ?_
          clear H2
          rintro e w3 ⟨rfl, hw3⟩
          go_wp2_with fail
          refine (Hu.out _).mono ?_
          clear Hu
          rintro e w3' ⟨rfl, rfl⟩
          have hown3 := hown.kept (grown_below hw3 none) (Classical.em _)
          have hbel3 := hbel.trans (hw3.mono hbel.size)
          obtain ⟨i0, hi, hz0, hz1, hz2⟩ := info_parts infoI
          go_wp2_with (at_builtin; refine wpList_append_own _ rfl _ _ 54 rfl w.heap.size 3 i0 (.int .i64 0) 1 8 Try.underlying54 hi hz0 hz1 hz2 rfl (by decide) _ _ _ rfl (hown3.alloc _) ⟨w3.heap.size, 0, none⟩ 1 1 [encI x] rfl rfl ?c1 ?c2 ?c3 ?c4 ?c5 ?_)
          case c1 => exact cell_one_new _ _ _
          case c2 => simp [Value.oneCell']
          case c3 => unfold maxLen; omega
          case c4 => omega
          case c5 => have := hbel3.size; simp; omega
          intro v' w4 hown4 hgrow _
          have hbel4 : Below w.heap.size w w4 := (hbel3.alloc hbel3.size _).grown hgrow (by have := hbel3.size; simp; omega) (fun k hk => (hown3.lt k hk).1)
          have Hown4 := Lib.hid hown4
          have Hbel4 := Lib.hid hbel4
          clear hown4 hbel4 hown3 hown hbel hbel3 hi hz0 hz1 hz2 hgrow hw3 hex
          go_wp2
          go_roundw
          case rel => exact ⟨acc ++ [x], q + k2, by omega, by simp; omega, int_eq (by omega), int_eq (by simp), by simpa using Hown4.out, Hbel4.out, by simp; omega, by
            have h1 := Hinv.out
            have h2 := Hm.out
            have h3 : n - (acc ++ [x]).length = m := by simp; omega
            rw [h3]
            exact h1⟩
          case measure => simp [intOf]; omega
        · have ht := takeI_bad hv he2
          have Hfin := Lib.hid (inv_err hinv ht he2)
          have hbq : ((e2 : Int) != 0) = true := by rw [bne_iff_ne]; omega
          clear hinv ht hv hm he2
          go_wp2_with fail
          refine H2.out.mono ?_
          clear H2
          rintro e w3 ⟨rfl, hw3⟩
          have Hbel3 := Lib.hid (hbel.trans (hw3.mono hbel.size))
          clear hbel hw3 hown
          go_wp2
          go_ret2
          exact ListPost.nil Hfin.out Hbel3.out
      · have hlen : acc.length = n := by omega
        rw [show n - acc.length = 0 from by omega] at hinv
        have hend := inv_end hinv
        have Hown := Lib.hid hown
        have Hbel := Lib.hid hbel
        clear hinv hown hbel hlen
        by_cases hqs : q < s.length
        · rw [if_neg (by intro h; have := congrArg List.length h; simp at this; omega)] at hend
          have Hend := Lib.hid hend
          clear hend
          go_wp2
          go_ret2
          exact ListPost.nil (n := 11) Hend.out Hbel.out
        · rw [if_pos (by apply List.drop_eq_nil_of_le; omega)] at hend
          have Hend := Lib.hid hend
          clear hend
          go_wp2
          go_ret2
          exact ListPost.mk (n := 0) Hend.out Hown.out Hbel.out
  · have H0 := Lib.hid (rread_at s n k e w (by omega) hn)
    have Hfin := Lib.hid (show readL takeI s = (e, []) by unfold readL; rw [hn]; simp [he])
    have hbq : ((e : Int) != 0) = true := by rw [bne_iff_ne]; omega
    clear hn he
    go_enter Try.func50, Try.ntmps50
    go_wp2_with fail
    refine H0.out.mono ?_
    clear H0
    rintro e2 w1 ⟨rfl, hw1⟩
    have Hw1 := Lib.hid hw1
    clear hw1
    go_wp2
    go_ret2
    exact ListPost.nil Hfin.out Hw1.out
end Go.Proofs.Ytehacegpnhclnaa
