/-
  The walk of Marc8Parts.
-/
import Derived.Test.YtjndekmpnihamaaDoorMParts
import Derived.Test.YtjndekmpnihamaaDoorMBytes
namespace Go.Proofs.YtjndekmpnihamaaDoor
open Go.RowKit Go.Shelf
set_option linter.unusedVariables false
set_option linter.unusedSimpArgs false

theorem Reads.below {α : Type} {en : α → Value} {w w' : World} {v : Value} {l : List α} (h : Reads en w v l) (hb : Below w.heap.size w w') : Reads en w' v l := by
  rcases h with h | ⟨b, off, cap, hv, hm, hc, hlt⟩
  · exact .inl h
  · exact .inr ⟨b, off, cap, hv, hm, fun i hi => (hb.cell (p := ⟨b, off + i, none⟩) hlt).trans (hc i hi), Nat.lt_of_lt_of_le hlt hb.size⟩
theorem marksAt_len (r : List UInt8) : marksAt r ≤ r.length := by unfold marksAt; exact (List.takeWhile_sublist _).length_le
theorem step_bad {cur : Int} {a x k : Nat} {r : List UInt8} (h : stepD cur a r = .bad x k) : (k = 10 ∨ k = 15) ∧ x ≤ a + r.length := by
  have hm := marksAt_len r
  have hl : ∀ {x k : Nat}, letD cur a r = .bad x k → (k = 10 ∨ k = 15) ∧ x ≤ a + r.length := by
    intro x k h
    unfold letD at h
    split at h
    · cases h; exact ⟨.inl rfl, by omega⟩
    · split at h
      · cases h; exact ⟨.inr rfl, by omega⟩
      · cases h
  have he : ∀ {x k : Nat}, escD a r = .bad x k → (k = 10 ∨ k = 15) ∧ x ≤ a + r.length := by
    intro x k h
    unfold escD at h
    split at h
    · cases h; exact ⟨.inl rfl, by omega⟩
    · split at h
      · split at h
        · cases h
        · cases h; exact ⟨.inr rfl, by omega⟩
      · cases h; exact ⟨.inr rfl, by omega⟩
  unfold stepD at h
  split at h
  · cases h; exact ⟨.inl rfl, by omega⟩
  · split at h
    · exact he h
    · split at h
      · cases h
      · exact hl h
theorem decR_kind : ∀ (f : Nat) (cur : Int) (a : Nat) (r : List UInt8) (x k : Nat), decR f cur a r = .bad x k → (k = 10 ∨ k = 15) ∧ x ≤ a + r.length
  | f, cur, a, [], x, k, h => by rw [decR_nil] at h; cases h
  | 0, cur, a, b :: t, x, k, h => by simp [decR] at h
  | f + 1, cur, a, b :: t, x, k, h => by
    cases hs : stepD cur a (b :: t) with
    | bad y q => rw [decR_bad hs] at h; cases h; exact step_bad hs
    | ok c n o =>
      obtain ⟨q1, q2, q3⟩ := stepD_ok hs
      rw [decR_ok hs] at h
      cases hd : decR f c (a + n) ((b :: t).drop n) with
      | ok p => rw [hd] at h; cases h
      | bad y q =>
        rw [hd] at h
        cases h
        obtain ⟨h1, h2⟩ := decR_kind f c (a + n) _ _ _ hd
        rw [List.length_drop] at h2
        exact ⟨h1, by omega⟩
theorem decR_len : ∀ (f : Nat) (cur : Int) (a : Nat) (r o : List UInt8), decR f cur a r = .ok o → o.length ≤ 4 * r.length
  | f, cur, a, [], o, h => by rw [decR_nil] at h; cases h; simp
  | 0, cur, a, b :: t, o, h => by simp [decR] at h; subst h; simp
  | f + 1, cur, a, b :: t, o, h => by
    cases hs : stepD cur a (b :: t) with
    | bad y q => rw [decR_bad hs] at h; cases h
    | ok c n o1 =>
      obtain ⟨q1, q2, q3⟩ := stepD_ok hs
      rw [decR_ok hs] at h
      cases hd : decR f c (a + n) ((b :: t).drop n) with
      | bad y q => rw [hd] at h; cases h
      | ok p =>
        rw [hd] at h
        cases h
        have h2 := decR_len f c (a + n) _ _ hd
        rw [List.length_drop] at h2
        rw [List.length_append]
        omega
theorem decF_app (s t : List UInt8) : decF (s ++ esc ++ t) = (decF (s ++ esc)).then ((decF t).shift (s ++ esc).length) := by
  rw [decF_eq, decF_eq, decF_eq]; exact decM_app s t
theorem decF_bad {l : List UInt8} {x k : Nat} (h : decF l = .bad x k) : (k = 10 ∨ k = 15) ∧ x ≤ l.length := by
  rw [decF_eq] at h
  have := decR_kind _ _ _ _ _ _ h
  omega
theorem decF_len {l o : List UInt8} (h : decF l = .ok o) : o.length ≤ 4 * l.length := by
  rw [decF_eq] at h
  exact decR_len _ _ _ _ _ h

set_option maxRecDepth 100000 in
set_option maxHeartbeats 4000000 in
theorem walk_Marc8Parts (sl sm : Value) (l m : List Int) (hf : ∀ n ∈ l, -9223372036854775808 ≤ n ∧ n ≤ 9223372036854775807) (hg : ∀ n ∈ m, -9223372036854775808 ≤ n ∧ n ≤ 9223372036854775807) (w : World)
    (hr : Reads (Value.int .i64) w sl l) (hq : Reads (Value.int .i64) w sm m) (hT : Tabs w) :
    Calls Tryd.prog 7 #[sl, sm] w fun e w' => e = .returned (.bool true) ∧ Below w.heap.size w w' := by
  have H1 := Lib.hid (sanity_c w hT)
  have Hr := Lib.hid hr
  have Hq := Lib.hid hq
  have Hf := Lib.hid hf
  have Hg := Lib.hid hg
  clear hT hr hq hf hg
  go_enter Tryd.func7, Tryd.ntmps7
  go_wp2_with fail
  refine H1.out.mono ?_
  clear H1
  rintro e w1 ⟨rfl, hb1⟩
  have N1 := Lib.hid (bytes_c sl l Hf.out w1 (Hr.out.below hb1))
  have Hq1 := Lib.hid (Hq.out.below hb1)
  have Hb1 := Lib.hid hb1
  clear hb1 Hr Hq
  go_wp2_with fail
  refine N1.out.mono ?_
  clear N1
  rintro e w2 ⟨o1, rfl, ho1, hb2⟩
  have N2 := Lib.hid (bytes_c sm m Hg.out w2 (Hq1.out.below hb2))
  have Hb2 := Lib.hid (below_tr Hb1.out hb2)
  have ha1 := add_str o1 [27, 40, 66] (by simp; omega)
  clear hb2 Hq1 Hb1
  obtain ⟨S, hS⟩ : ∃ S, o1 ++ [27, 40, 66] = S := ⟨_, rfl⟩
  rw [hS] at ha1
  have hSl : S.length ≤ 183 := by rw [← hS]; simp; omega
  go_wp2_with fail
  refine N2.out.mono ?_
  clear N2
  rintro e w3 ⟨T, rfl, hTl, hb3⟩
  have Hb3 := Lib.hid (below_tr Hb2.out hb3)
  have hszS := size_str S
  clear hb3 Hb2 ha1
  have ha2 := add_str S T (by omega)
  obtain ⟨U, hU⟩ : ∃ U, S ++ T = U := ⟨_, rfl⟩
  rw [hU] at ha2
  have hUl : U.length ≤ 400 := by rw [← hU, List.length_append]; omega
  have happ : decF U = (decF S).then ((decF T).shift S.length) := by rw [← hU, ← hS]; exact decF_app o1 T
  have M1 := Lib.hid (fun W => decode_all S W (by omega))
  have M2 := Lib.hid (fun W => decode_all T W (by omega))
  have M3 := Lib.hid (fun W => decode_all U W (by omega))
  rw [happ] at M3
  cases hX : decF S with
  | bad i e =>
    obtain ⟨hk, hi⟩ := decF_bad hX
    rw [hX] at M1 M3
    simp only [resV, Res.then] at M1 M3
    have he : ((e : Int) != 0) = true := by rw [bne_iff_ne]; omega
    obtain ⟨i', hi'⟩ : ∃ i' : Int, (i : Int) = i' := ⟨_, rfl⟩
    obtain ⟨e', he'⟩ : ∃ e' : Int, (e : Int) = e' := ⟨_, rfl⟩
    rw [hi', he'] at M1 M3
    rw [he'] at he
    have hM2 : ∀ W, Calls Tryd.prog 11 #[str T] W fun e w' => (∃ b j f, e = .returned (.tuple #[.string b, .int .i64 j, .int .i64 f])) ∧ Below W.heap.size W w' := fun W => (M2.out W).mono fun e w' ⟨h1, h2⟩ => ⟨by
      rw [h1]
      cases decF T with
      | bad x k => exact ⟨_, _, _, rfl⟩
      | ok o => exact ⟨_, _, _, rfl⟩, h2⟩
    have HM2 := Lib.hid hM2
    clear hM2 hX hi hk hi' he' M2 happ hS hU hSl hTl hUl
    go_wp2_with fail
    refine (M1.out _).mono ?_
    rintro e w4 ⟨rfl, hb4⟩
    have Hb4 := Lib.hid (below_tr Hb3.out hb4)
    clear hb4
    go_wp2_with fail
    refine (HM2.out _).mono ?_
    rintro e w5 ⟨⟨b, j, f, rfl⟩, hb5⟩
    have Hb5 := Lib.hid (below_tr Hb4.out hb5)
    clear hb5
    go_wp2_with fail
    refine (M3.out _).mono ?_
    rintro e w6 ⟨rfl, hb6⟩
    have Hb6 := Lib.hid (below_tr Hb5.out hb6)
    clear hb6
    go_wp2
    all_goals go_ret
    all_goals exact ⟨rfl, Hb6.out⟩
  | ok a =>
    have hal := decF_len hX
    rw [hX] at M1 M3
    cases hY : decF T with
    | bad j f =>
      obtain ⟨hk, hj⟩ := decF_bad hY
      rw [hY] at M2 M3
      simp only [resV, Res.then, Res.shift, Res.pre] at M1 M2 M3
      have he : ((f : Int) != 0) = true := by rw [bne_iff_ne]; omega
      obtain ⟨f', hf'⟩ : ∃ f' : Int, (f : Int) = f' := ⟨_, rfl⟩
      rw [hf'] at M2 M3 he
      have hsum : ((j + S.length : Nat) : Int) = (S.length : Int) + (j : Int) := by omega
      rw [hsum] at M3
      have i1 : (0 : Int) ≤ (j : Int) := by omega
      have i2 : (j : Int) ≤ 400 := by omega
      have i3 : (0 : Int) ≤ (S.length : Int) := by omega
      have i4 : (S.length : Int) ≤ 183 := by omega
      clear hX hY hk hf' hj happ hS hU hSl hTl hUl hsum hal
      go_wp2_with fail
      refine (M1.out _).mono ?_
      rintro e w4 ⟨rfl, hb4⟩
      have Hb4 := Lib.hid (below_tr Hb3.out hb4)
      clear hb4
      go_wp2_with fail
      refine (M2.out _).mono ?_
      rintro e w5 ⟨rfl, hb5⟩
      have Hb5 := Lib.hid (below_tr Hb4.out hb5)
      clear hb5
      go_wp2_with fail
      refine (M3.out _).mono ?_
      rintro e w6 ⟨rfl, hb6⟩
      have Hb6 := Lib.hid (below_tr Hb5.out hb6)
      clear hb6
      go_wp2
      all_goals go_ret
      all_goals exact ⟨rfl, Hb6.out⟩
    | ok b =>
      have hbl := decF_len hY
      rw [hY] at M2 M3
      simp only [resV, Res.then, Res.shift, Res.pre] at M1 M2 M3
      have ha3 := add_str a b (by omega)
      obtain ⟨C, hC⟩ : ∃ C, a ++ b = C := ⟨_, rfl⟩
      rw [hC] at ha3 M3
      clear hX hY hal hbl hC happ hS hU hSl hTl hUl
      go_wp2_with fail
      refine (M1.out _).mono ?_
      rintro e w4 ⟨rfl, hb4⟩
      have Hb4 := Lib.hid (below_tr Hb3.out hb4)
      clear hb4
      go_wp2_with fail
      refine (M2.out _).mono ?_
      rintro e w5 ⟨rfl, hb5⟩
      have Hb5 := Lib.hid (below_tr Hb4.out hb5)
      clear hb5
      go_wp2_with fail
      refine (M3.out _).mono ?_
      rintro e w6 ⟨rfl, hb6⟩
      have Hb6 := Lib.hid (below_tr Hb5.out hb6)
      clear hb6
      go_wp2
      all_goals go_ret
      all_goals exact ⟨rfl, Hb6.out⟩
end Go.Proofs.YtjndekmpnihamaaDoor
