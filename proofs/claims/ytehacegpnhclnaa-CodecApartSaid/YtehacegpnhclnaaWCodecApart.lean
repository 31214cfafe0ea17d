/-
  The walk of CodecApart.
-/
import Derived.Test.YtehacegpnhclnaaUn
import Derived.Test.YtehacegpnhclnaaAppR
namespace Go.Proofs.Ytehacegpnhclnaa
open Go.RowKit Go.Shelf

theorem own_below {w w' : World} {B : Nat} {e : TypeId} {v : Value} {n : Nat} {xs : List Value} (h : w.ownsRow B e 1 v n xs) (hb : Below w.heap.size w w') : w'.ownsRow B e 1 v n xs := by
  refine ⟨h.1, ?_⟩
  rcases h.2 with h0 | ⟨g, cap, cur, hv, hbg, hg, r⟩
  · exact .inl h0
  · exact .inr ⟨g, cap, cur, hv, hbg, (hb.block g (Array.getElem?_eq_some_iff.1 hg).1).trans hg, r⟩

structure ApartFacts (la lb : List (List UInt8)) (X Y : List UInt8) : Prop where
  lx : X.length ≤ 58300
  ly : Y.length ≤ 58300
  px : 0 < X.length
  py : 0 < Y.length
  eq : la = lb → X = Y
  ne1 : la ≠ lb → (Y.take X.length == X) = false
  ne2 : la ≠ lb → (X.take Y.length == Y) = false
theorem pack_prefix (la lb : List (List UInt8)) (ha : la.length ≤ 82) (hsa : ∀ s ∈ la, s.length ≤ 700) (hb : lb.length ≤ 82) (hsb : ∀ s ∈ lb, s.length ≤ 700) (hne : la ≠ lb) : ((pack lb).take (pack la).length == pack la) = false := by
  rw [beq_eq_false_iff_ne]
  intro h
  have h1 : pack la ++ (pack lb).drop (pack la).length = pack lb ++ [] := by
    rw [List.append_nil]
    conv => rhs; rw [← List.take_append_drop (pack la).length (pack lb), h]
  exact hne (code_apart takeS_undoes la lb (fun x hx => Nat.lt_of_le_of_lt (hsa x hx) (by omega)) (fun x hx => Nat.lt_of_le_of_lt (hsb x hx) (by omega)) (by omega) (by omega) _ _ h1).1
theorem apartFacts (la lb : List (List UInt8)) (ha : la.length ≤ 82) (hsa : ∀ s ∈ la, s.length ≤ 700) (hb : lb.length ≤ 82) (hsb : ∀ s ∈ lb, s.length ≤ 700) : ApartFacts la lb (pack la) (pack lb) := by
  have len : ∀ l : List (List UInt8), l.length ≤ 82 → (∀ s ∈ l, s.length ≤ 700) → (pack l).length ≤ 58300 := by
    intro l h hs
    have h1 := pack_len 700 (by omega) l hs (by omega)
    have h2 : l.length * (10 + 700) ≤ 82 * 710 := Nat.mul_le_mul h (Nat.le_refl _)
    omega
  have pos : ∀ l : List (List UInt8), 0 < (pack l).length := by
    intro l
    unfold pack codeL; rw [List.length_append]
    have := num_pos l.length
    omega
  exact ⟨len la ha hsa, len lb hb hsb, pos la, pos lb, fun h => by rw [h], pack_prefix la lb ha hsa hb hsb, fun h => pack_prefix lb la hb hsb ha hsa (Ne.symm h)⟩

set_option maxRecDepth 100000 in
set_option maxHeartbeats 2000000 in
theorem walk_CodecApart (sl : Value) (l : List (List UInt8)) (sm : Value) (m : List (List UInt8)) (same : Int) (_hs : Fits same) (w : World) (hr : Reads encS w sl l) (hrm : Reads encS w sm m) :
    Calls Try.prog 11 #[sl, sm, .int .i64 same] w fun e w' => e = .returned (.bool true) ∧ Below w.heap.size w w' := by
  have H1 := Lib.hid (fun W => sanity_c W)
  have Hr := Lib.hid hr
  have Hrm := Lib.hid hrm
  clear hr hrm
  go_enter Try.func11, Try.ntmps11
  go_wp2_with fail
  refine (H1.out _).mono ?_
  clear H1
  rintro e w1 ⟨rfl, hb1⟩
  have H2 := Lib.hid (some_c sl l 1 w1 (Hr.out.below hb1 rfl))
  have Hb1 := Lib.hid hb1
  clear hb1
  go_wp2_with fail
  refine H2.out.mono ?_
  clear H2
  rintro e w2 ⟨xa, la, rfl, hown, hlen, hsm, hb2⟩
  have hra := reads_of_own hown
  obtain ⟨aa, capa, rfl, hcap1, hcap2⟩ := own_form hown
  have hm0 := Int.emod_nonneg same (show ((la.length : Int) + 1) ≠ 0 by omega)
  have hm1 := Int.emod_lt_of_pos same (show (0 : Int) < (la.length : Int) + 1 by omega)
  have M0 := Lib.hid (fun W => mod_t same (la.length + 1) W (by omega) (by omega))
  obtain ⟨k, hk⟩ : ∃ k : Nat, same % ((la.length : Int) + 1) = (k : Int) := ⟨(same % ((la.length : Int) + 1)).toNat, by omega⟩
  rw [hk] at hm0 hm1 M0
  clear hk
  have hkl : k ≤ la.length := by omega
  have b1 : (0 : Int) ≤ (k : Int) := by omega
  have b2 : (k : Int) ≤ (capa : Int) := by omega
  have Hra := Lib.hid hra
  have Hsa := Lib.hid hsm
  have hw12 := hb2.size
  have Hb2 := Lib.hid (below_tr Hb1.out hb2)
  clear hra hsm hown hb2 hm0 hm1 Hb1 Hr
  go_wp2_with fail
  refine (M0.out _).mono ?_
  clear M0
  rintro e w' ⟨rfl, rfl⟩
  have hbn := below_new w2 (.cells #[] 9)
  have hrk := reads_take (Hra.out.below hbn rfl) k hkl
  have hlit := World.ownsRow_lit (base := w2.heap.size) (e := 9) (size := 1) w2 #[] 0 (Nat.le_refl _) (by simp [maxLen]) rfl
  obtain ⟨i0, hi, hz0, hz1, hz2⟩ := info_parts infoS
  go_wp2_with (at_builtin; refine wpList_append_reads encS (fun _ => rfl) _ rfl _ _ 43 rfl w2.heap.size 9 i0 (.string ⟨#[]⟩) 16 Try.underlying43 hi hz0 hz1 hz2 rfl _ _ _ rfl hlit aa k capa _ rfl hrk ?c3 ?c4 ?c5 ?_)
  case c3 => unfold maxLen; omega
  case c4 => omega
  case c5 => simp
  intro vb w3 hown3 hgrow
  have hb3 := hbn.grown hgrow (by simp) (fun k e => by cases e; exact Nat.le_refl _)
  have H4 := Lib.hid (some_c sm m 1 w3 (Hrm.out.below (below_tr Hb2.out hb3) rfl))
  have Hb3 := Lib.hid hb3
  have Hown3 := Lib.hid hown3
  clear hb3 hown3 hgrow hbn hrk hlit hi hz0 hz1 hz2 b1 b2 Hrm
  go_wp2_with fail
  refine H4.out.mono ?_
  clear H4
  rintro e w4 ⟨xm, lm, rfl, hownm, hlenm, hsmm, hb4⟩
  have hrm := reads_of_own hownm
  obtain ⟨am, capm, rfl, -, -⟩ := own_form hownm
  have hown4 := own_below Hown3.out hb4
  have hw23 := Hb3.out.size
  have hw34 := hb4.size
  have Hb4 := Lib.hid (below_tr Hb3.out hb4)
  obtain ⟨i0, hi, hz0, hz1, hz2⟩ := info_parts infoS
  clear hownm hb4 Hb3 Hown3
  go_wp2_with (at_builtin; refine wpList_append_reads encS (fun _ => rfl) _ rfl _ _ 43 rfl w2.heap.size 9 i0 (.string ⟨#[]⟩) 16 Try.underlying43 hi hz0 hz1 hz2 rfl _ _ _ rfl hown4 am lm.length capm _ rfl hrm ?c3 ?c4 ?c5 ?_)
  case c3 => unfold maxLen; omega
  case c4 => omega
  case c5 => omega
  intro vc w5 hown5 hgrow
  have hb5 := Hb4.out.grown hgrow (by omega) (fun k e => (hown4.lt k e).1)
  rw [← List.map_take, ← List.map_append] at hown5
  have hll : (la.take k ++ lm).length = k + lm.length := by rw [List.length_append, List.length_take]; omega
  rw [← hll] at hown5
  have hrb := reads_of_own hown5
  have F := apartFacts la (la.take k ++ lm) (by omega) Hsa.out (by omega) (by
    intro s hs
    rcases List.mem_append.1 hs with h | h
    · exact Hsa.out s (List.mem_of_mem_take h)
    · exact hsmm s h)
  generalize hLB : la.take k ++ lm = lb at *
  have P1 := Lib.hid (pack_c _ la w5 (Hra.out.below hb5 rfl) (by have := F.lx; omega))
  have P2 := Lib.hid (fun W hW => pack_c vc lb W hW (by have := F.ly; omega))
  have Hra5 := Lib.hid (Hra.out.below hb5 rfl)
  have Hrb5 := Lib.hid hrb
  have Hb5 := Lib.hid (below_tr Hb2.out hb5)
  obtain ⟨X, hX⟩ : ∃ X, pack la = X := ⟨_, rfl⟩
  obtain ⟨Y, hY⟩ : ∃ Y, pack lb = Y := ⟨_, rfl⟩
  rw [hX] at F P1
  rw [hY] at F P2
  have HF := Lib.hid F
  clear hX hY F hLB hll hrb hb5 hgrow hown5 hown4 hrm hsmm hlenm hw23 hw34 hi hz0 hz1 hz2 Hb4 Hb2 Hra Hsa
  go_wp2_with fail
  refine P1.out.mono ?_
  clear P1
  rintro e w6 ⟨rfl, hb6⟩
  have P2' := Lib.hid (P2.out w6 (Hrb5.out.below hb6 rfl))
  have Hra6 := Lib.hid (Hra5.out.below hb6 rfl)
  have Hrb6 := Lib.hid (Hrb5.out.below hb6 rfl)
  have Hb6 := Lib.hid (below_tr Hb5.out hb6)
  clear hb6 Hb5 Hra5 Hrb5 P2
  go_wp2_with fail
  refine P2'.out.mono ?_
  clear P2'
  rintro e w7 ⟨rfl, hb7⟩
  have S1 := Lib.hid (strings_c _ _ _ _ w7 (Hra6.out.below hb7 rfl) (Hrb6.out.below hb7 rfl))
  have Hb7 := Lib.hid (below_tr Hb6.out hb7)
  clear hb7 Hb6 Hra6 Hrb6
  have hszX := size_str X
  have hszY := size_str Y
  have hexY : (ByteArray.mk Y.toArray).extract 0 X.length = ⟨(Y.take X.length).toArray⟩ := ext_take Y X.length
  have hexX : (ByteArray.mk X.toArray).extract 0 Y.length = ⟨(X.take Y.length).toArray⟩ := ext_take X Y.length
  have z1 : ((X.length : Int) == 0) = false := by rw [beq_eq_false_iff_ne]; have := HF.out.px; omega
  have z2 : ((Y.length : Int) == 0) = false := by rw [beq_eq_false_iff_ne]; have := HF.out.py; omega
  have n1 : (0 : Int) ≤ (X.length : Int) := by omega
  have n2 : (0 : Int) ≤ (Y.length : Int) := by omega
  by_cases heq : la = lb
  · have hXY := HF.out.eq heq
    have S2 := S1.out
    rw [decide_eq_true heq] at S2
    have S3 := Lib.hid S2
    clear S1 S2 heq HF
    subst hXY
    have ht : X.take X.length = X := List.take_length
    rw [ht] at hexY
    have i1 : (X.length : Int) ≤ (X.length : Int) := by omega
    clear ht hexX
    go_wp2_with fail
    refine S3.out.mono ?_
    clear S3
    rintro e w8 ⟨rfl, hb8⟩
    have Hb8 := Lib.hid (below_tr Hb7.out hb8)
    clear hb8 Hb7
    go_wp2
    go_ret
    exact ⟨rfl, Hb8.out⟩
  · have S2 := S1.out
    rw [decide_eq_false heq] at S2
    have S3 := Lib.hid S2
    have q1 := HF.out.ne1 heq
    have q2 := HF.out.ne2 heq
    clear S1 S2 heq HF
    rcases Nat.lt_trichotomy X.length Y.length with hlt | hlt | hlt
    · have i1 : (X.length : Int) ≤ (Y.length : Int) := by omega
      have i2 : ¬ ((Y.length : Int) ≤ (X.length : Int)) := by omega
      clear hlt
      go_wp2_with fail
      refine S3.out.mono ?_
      clear S3
      rintro e w8 ⟨rfl, hb8⟩
      have Hb8 := Lib.hid (below_tr Hb7.out hb8)
      clear hb8 Hb7
      go_wp2
      go_ret
      exact ⟨rfl, Hb8.out⟩
    · have i1 : (X.length : Int) ≤ (Y.length : Int) := by omega
      have i2 : (Y.length : Int) ≤ (X.length : Int) := by omega
      clear hlt
      go_wp2_with fail
      refine S3.out.mono ?_
      clear S3
      rintro e w8 ⟨rfl, hb8⟩
      have Hb8 := Lib.hid (below_tr Hb7.out hb8)
      clear hb8 Hb7
      go_wp2
      go_ret
      exact ⟨rfl, Hb8.out⟩
    · have i1 : ¬ ((X.length : Int) ≤ (Y.length : Int)) := by omega
      have i2 : (Y.length : Int) ≤ (X.length : Int) := by omega
      clear hlt
      go_wp2_with fail
      refine S3.out.mono ?_
      clear S3
      rintro e w8 ⟨rfl, hb8⟩
      have Hb8 := Lib.hid (below_tr Hb7.out hb8)
      clear hb8 Hb7
      go_wp2
      go_ret
      exact ⟨rfl, Hb8.out⟩
end Go.Proofs.Ytehacegpnhclnaa
