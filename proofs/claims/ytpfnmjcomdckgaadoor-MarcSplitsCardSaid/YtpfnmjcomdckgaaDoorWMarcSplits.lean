/-
  The walk of MarcSplits.
-/
import Derived.Test.YtpfnmjcomdckgaaDoorRStrs
import Derived.Test.YtpfnmjcomdckgaaDoorRMade
import Derived.Test.YtpfnmjcomdckgaaDoorRRefZ
import Derived.Test.YtpfnmjcomdckgaaDoorRSan
import Derived.Test.YtpfnmjcomdckgaaDoorRBack
namespace Go.Proofs.YtpfnmjcomdckgaaDoor
open Go.RowKit Go.Shelf
set_option linter.unusedVariables false
set_option linter.unusedSimpArgs false

def GoodP (p : List UInt8) : Prop := 26 ≤ p.length ∧ rnumV (p.take 5) = (p.length : Int)
theorem splitM_parts : ∀ (ps acc : List (List UInt8)) (pre : List UInt8) (f : Nat), (∀ p ∈ ps, GoodP p) → ps.length < f → splitM f (pre ++ ps.flatten) pre.length acc = (acc ++ ps, 0, 0)
  | [], acc, pre, f, _, hf => by
    obtain ⟨g, rfl⟩ : ∃ g, f = g + 1 := ⟨f - 1, by simp at hf; omega⟩
    unfold splitM
    rw [if_neg (by simp)]
    simp
  | p :: r, acc, pre, f, h, hf => by
    simp only [List.length_cons] at hf
    obtain ⟨g, rfl⟩ : ∃ g, f = g + 1 := ⟨f - 1, by omega⟩
    obtain ⟨h1, h2⟩ := h p List.mem_cons_self
    have hd : (pre ++ (p :: r).flatten).drop pre.length = p ++ r.flatten := by simp
    have hl : (pre ++ (p :: r).flatten).length = pre.length + p.length + r.flatten.length := by simp; omega
    have ht : (p ++ r.flatten).take 5 = p.take 5 := by rw [List.take_append_of_le_length (by omega)]
    have ih := splitM_parts r (acc ++ [p]) (pre ++ p) g (fun x hx => h x (List.mem_cons_of_mem _ hx)) (by omega)
    unfold splitM
    rw [if_pos (by omega), if_neg (by omega), hd, ht, h2, if_neg (by omega), Int.toNat_natCast, if_neg (by omega)]
    rw [List.take_append_of_le_length (Nat.le_refl _), List.take_length]
    rw [List.length_append, List.append_assoc] at ih
    rw [List.flatten_cons, ih]
    simp
theorem goodP_write {r : RecM} (hc : checkM r = 0) : GoodP (writeM r) := by
  have h := check_zero hc
  have hl := writeM_len h
  have hg := sizeR_ge r
  have ht : (writeM r).take 5 = digsN (sizeR r) 5 := by
    unfold writeM leadM
    simp only [List.append_assoc]
    rw [List.take_append_of_le_length (by rw [digsN_len]; omega), List.take_of_length_le (by rw [digsN_len]; omega)]
  refine ⟨by omega, ?_⟩
  have hs := h.size
  rw [ht, hl]
  unfold rnumV
  rw [if_pos (digsN_all 5 _), numW_val _ (digsN_all 5 _) (by rw [digsN_len]; omega), valL_digsN 5 _ (by omega)]
theorem flat_ge : ∀ (ps : List (List UInt8)), (∀ p ∈ ps, GoodP p) → ps.length ≤ ps.flatten.length
  | [], _ => by simp
  | p :: r, h => by
    have h1 := (h p List.mem_cons_self).1
    have h2 := flat_ge r (fun x hx => h x (List.mem_cons_of_mem _ hx))
    rw [List.flatten_cons, List.length_append, List.length_cons]
    omega
def ReadsTT (w : World) (v : Value) (ll : List (List (Int × Int × Int))) : Prop :=
  (∃ a c, v = .slice a 0 c ∧ ll = []) ∨
  ∃ b off cap, v = .slice (some ⟨b, off, none⟩) ll.length cap ∧ ll.length ≤ maxLen ∧ b < w.heap.size ∧ ∀ i (h : i < ll.length), ∃ sv, w.cell? ⟨b, off + i, none⟩ = some sv ∧ ReadsT w sv ll[i]
theorem ReadsTT.slice {w : World} {v : Value} {ll : List (List (Int × Int × Int))} (h : ReadsTT w v ll) : ∃ a cap, v = .slice a ll.length cap ∧ ll.length ≤ maxLen ∧ ∀ i (h : i < ll.length), ∃ b off sv, a = some ⟨b, off, none⟩ ∧ b < w.heap.size ∧ w.cell? ⟨b, off + i, none⟩ = some sv ∧ ReadsT w sv ll[i] := by
  rcases h with ⟨a, c, rfl, rfl⟩ | ⟨b, off, cap, rfl, hm, hlt, hc⟩
  · exact ⟨a, c, rfl, Nat.zero_le _, fun i h => by simp at h⟩
  · exact ⟨_, cap, rfl, hm, fun i h => by obtain ⟨sv, h1, h2⟩ := hc i h; exact ⟨b, off, sv, rfl, hlt, h1, h2⟩⟩
set_option maxRecDepth 100000 in
set_option maxHeartbeats 8000000 in
theorem walk_MarcSplits (v : Value) (ll : List (List (Int × Int × Int))) (t : List UInt8) (c : Int) (w : World) (hv : ReadsTT w v ll) (ht : t.length ≤ 140737488351232) (hc : Fits c) (hT : Tabs w) :
    Calls Tryd.prog 10 #[v, str t, .int .i64 c] w (Yes w) := by
  obtain ⟨a, cap, rfl, hm, hcc⟩ := hv.slice
  have Hc := Lib.hid hcc
  have Hs := Lib.hid (sanity_c w hT)
  unfold maxLen at hm
  unfold Yes at Hs ⊢
  have hszt := size_str t
  obtain ⟨i0', hi, hz0, hz1, hz2⟩ := info_parts infoStrg
  clear hv hcc hT
  go_enter Tryd.func10, Tryd.ntmps10
  go_wp2_with fail
  refine Hs.out.mono ?_
  rintro e w1 ⟨rfl, hb1⟩
  have Hb1 := Lib.hid hb1
  clear hb1 Hs
  go_wp2_with fail
  go_loopw [8, 9, 10] (fun pv sv iv wr => ∃ (k : Nat) (ps : List (List UInt8)), k ≤ ll.length ∧ k ≤ 6 ∧ iv = .int .i64 k ∧ ps.length = k ∧ sv = str ps.flatten ∧ ps.flatten.length ≤ 5000 * k ∧ (∀ p ∈ ps, GoodP p) ∧ wr.ownsRow w.heap.size 9 1 pv k (ps.map str) ∧ Below w.heap.size w wr) (fun _ _ iv _ => ll.length - (intOf iv).toNat)
  case atStart => exact ⟨0, [], Nat.zero_le _, Nat.zero_le _, rfl, rfl, rfl, by simp, by simp, World.ownsRow_nil _ _ _ _, Hb1.out⟩
  case round =>
    obtain ⟨k, ps, hk, hk6, rfl, hpl, rfl, hfl, hgood, hown, hb⟩ := hrel
    have i0 : (0 : Int) ≤ (k : Int) := by omega
    have hbs := hb.size
    obtain ⟨S, hS⟩ : ∃ S, ps.flatten = S := ⟨_, rfl⟩
    rw [hS] at hfl ⊢
    have Hpl := Lib.hid hpl
    have HS := Lib.hid hS
    have Hgood := Lib.hid hgood
    have Hown := Lib.hid hown
    have Hb := Lib.hid hb
    by_cases hlt : k < ll.length ∧ k < 6
    · obtain ⟨hlt, hlt6⟩ := hlt
      obtain ⟨b, off, sv, rfl, hbl, x0, hrd⟩ := Hc.out k hlt
      have x0 := cell_below hb (Nat.le_refl _) x0
      have HM := Lib.hid (made_c sv _ wr (hrd.below hb (Nat.le_refl _)))
      have i1 : (k : Int) < (ll.length : Int) := by omega
      have i2 : (k : Int) < 6 := by omega
      clear hpl hS hgood hown hb hrd
      go_wp2_with fail
      refine HM.out.mono ?_
      rintro e w4 ⟨rv, r, rfl, hrv, hck, hsz, hb4⟩
      have HW := Lib.hid (rWrite_c rv r w4 hrv (by omega) (fun f hf => by have := tagB_len ((check_zero hck).tags f hf); omega))
      have hwl := writeM_len (check_zero hck)
      have hgp := goodP_write hck
      have hwr : writeR r = writeM r := by unfold writeR; rw [if_pos hck]
      obtain ⟨X, hX⟩ : ∃ X, writeM r = X := ⟨_, rfl⟩
      unfold WrPost at HW
      rw [hwr, hck, hX] at HW
      rw [hX] at hwl hgp
      have hxl : X.length ≤ 5000 := by omega
      have hadd := add_str S X (by omega)
      have Hgp := Lib.hid hgp
      have Hb4 := Lib.hid (Hb.out.trans (hb4.mono Hb.out.size))
      have Hown4 := Lib.hid (own_bel Hown.out hb4)
      clear hrv hck hsz hwl hgp hwr hX hb4 HM
      go_wp2_with fail
      refine HW.out.mono ?_
      rintro e w5 ⟨rfl, hb5⟩
      have Hown5 := Lib.hid (own_bel Hown4.out hb5)
      have Hb5 := Lib.hid (Hb4.out.trans (hb5.mono Hb4.out.size))
      have hbs5 := Hb5.out.size
      obtain ⟨pa, pc, rfl⟩ := own_form Hown5.out
      clear hb5 HW x0
      go_wp2_with (at_builtin; refine wpList_append_own _ rfl _ _ 46 rfl w.heap.size 9 i0' _ 1 16 Tryd.underlying46 hi hz0 hz1 hz2 rfl (by decide) _ _ _ rfl (Hown5.out.alloc _) ⟨w5.heap.size, 0, none⟩ 1 1 [str X] rfl rfl ?c1 ?c2 ?c3 ?c4 ?c5 ?_)
      case c1 => exact one_cell w5 _ _
      case c2 => simp [Value.oneCell']
      case c3 => unfold maxLen; omega
      case c4 => omega
      case c5 => simp; omega
      intro v' w8 hown8 hgrow _
      have hb8 : Below w.heap.size w w8 := Below.grown (Hb5.out.alloc Hb5.out.size _) hgrow (by simp; omega) (fun k hk => (Hown5.out.lt k hk).1)
      have Hb8 := Lib.hid hb8
      have Hown8 := Lib.hid hown8
      clear hown8 hgrow hb8
      go_wp2
      go_roundw
      case rel => exact ⟨k + 1, ps ++ [X], by omega, by omega, by go_num, by rw [List.length_append, Hpl.out]; rfl, by rw [List.flatten_append, HS.out]; simp, by rw [List.flatten_append, HS.out]; simp; omega, fun p hp => by
          rcases List.mem_append.1 hp with hp | hp
          · exact Hgood.out p hp
          · rw [List.mem_singleton.1 hp]; exact Hgp.out, by rw [List.map_append]; exact Hown8.out, Hb8.out⟩
      case measure => simp [intOf]; omega
    · obtain ⟨pa, pc, rfl⟩ := own_form hown
      have hge := flat_ge ps hgood
      have hsp : splitM (S.length + 1) S 0 [] = (ps, 0, 0) := by
        have := splitM_parts ps [] [] (S.length + 1) hgood (by rw [hS] at hge; omega)
        rw [hS] at this
        simpa using this
      have hSl : S.length ≤ 30000 := by omega
      have h1 := split_c S (by omega) wr
      rw [hsp] at h1
      have H1 := Lib.hid h1
      have Hrow := Lib.hid (show wr.ownsRow w.heap.size 9 1 (.slice pa k pc) ps.length (ps.map str) by rw [hpl]; exact hown)
      obtain ⟨mm, hmm⟩ : ∃ mm, min t.length 40 = mm := ⟨_, rfl⟩
      have m0 : min (t.length : Int) 40 = (mm : Int) := by omega
      have m1 : (mm : Int) ≤ (t.length : Int) := by omega
      have m2 : (0 : Int) ≤ (mm : Int) := by omega
      have hex := ext_take t mm
      obtain ⟨Z, hZ⟩ : ∃ Z, t.take mm = Z := ⟨_, rfl⟩
      have hzl : Z.length ≤ 40 := by rw [← hZ]; simp; omega
      rw [hZ] at hex
      have hadd := add_str S Z (by omega)
      have H2 := Lib.hid (fun W => splits_c (S ++ Z) (by rw [List.length_append]; omega) W)
      have H4 := Lib.hid (fun W => splits_c t ht W)
      have MD0 := fun W => mod_c c ((S.length : Int) + 1) (by omega) (by omega) hc W
      have hj := modN_lt (n := c) (m := (S.length : Int) + 1) (by omega)
      obtain ⟨j, hjj⟩ : ∃ j, modN c ((S.length : Int) + 1) = j := ⟨_, rfl⟩
      rw [hjj] at hj MD0
      have MD := Lib.hid MD0
      have j0 : (0 : Int) ≤ (j : Int) := by omega
      have j1 : (j : Int) ≤ (S.length : Int) := by omega
      have hexj := ext_take S j
      have H3 := Lib.hid (fun W => splits_c (S.take j) (by simp; omega) W)
      have hszS := size_str S
      clear hge hsp h1 hmm hZ hzl MD0 hj hjj hpl hS hgood hown hb Hgood HS
      by_cases hkl : k < ll.length
      · have n1 : (k : Int) < (ll.length : Int) := by omega
        have n2 : ¬ ((k : Int) < 6) := by omega
        go_wp2_with fail
        refine H1.out.mono ?_
        rintro e w4 ⟨va, rfl, hown4, hb4⟩
        have hra := reads_of_own hown4
        have hrb := (reads_of_own Hrow.out).below hb4 rfl
        have H5 := Lib.hid (strings_eq hra hrb)
        have Hb4 := Lib.hid (Hb.out.trans (hb4.mono Hb.out.size))
        clear hown4 hra hrb hb4
        go_wp2_with fail
        refine H5.out.mono ?_
        rintro e w5 ⟨rfl, hb5⟩
        have Hb5 := Lib.hid (Hb4.out.trans (hb5.mono Hb4.out.size))
        clear hb5
        go_wp2_with fail
        refine (H2.out _).mono ?_
        rintro e w6 ⟨rfl, hb6⟩
        have Hb6 := Lib.hid (Hb5.out.trans (hb6.mono Hb5.out.size))
        clear hb6
        go_wp2_with fail
        refine (MD.out _).mono ?_
        rintro e w7 ⟨rfl, rfl⟩
        go_wp2_with fail
        refine (H3.out _).mono ?_
        rintro e w8 ⟨rfl, hb8⟩
        have Hb8 := Lib.hid (Hb6.out.trans (hb8.mono Hb6.out.size))
        clear hb8
        go_wp2_with fail
        refine (H4.out _).mono ?_
        rintro e w9 ⟨rfl, hb9⟩
        have Hb9 := Lib.hid (Hb8.out.trans (hb9.mono Hb8.out.size))
        clear hb9
        go_wp2
        go_ret
        exact ⟨rfl, Hb9.out⟩
      · have n1 : ¬ ((k : Int) < (ll.length : Int)) := by omega
        go_wp2_with fail
        refine H1.out.mono ?_
        rintro e w4 ⟨va, rfl, hown4, hb4⟩
        have hra := reads_of_own hown4
        have hrb := (reads_of_own Hrow.out).below hb4 rfl
        have H5 := Lib.hid (strings_eq hra hrb)
        have Hb4 := Lib.hid (Hb.out.trans (hb4.mono Hb.out.size))
        clear hown4 hra hrb hb4
        go_wp2_with fail
        refine H5.out.mono ?_
        rintro e w5 ⟨rfl, hb5⟩
        have Hb5 := Lib.hid (Hb4.out.trans (hb5.mono Hb4.out.size))
        clear hb5
        go_wp2_with fail
        refine (H2.out _).mono ?_
        rintro e w6 ⟨rfl, hb6⟩
        have Hb6 := Lib.hid (Hb5.out.trans (hb6.mono Hb5.out.size))
        clear hb6
        go_wp2_with fail
        refine (MD.out _).mono ?_
        rintro e w7 ⟨rfl, rfl⟩
        go_wp2_with fail
        refine (H3.out _).mono ?_
        rintro e w8 ⟨rfl, hb8⟩
        have Hb8 := Lib.hid (Hb6.out.trans (hb8.mono Hb6.out.size))
        clear hb8
        go_wp2_with fail
        refine (H4.out _).mono ?_
        rintro e w9 ⟨rfl, hb9⟩
        have Hb9 := Lib.hid (Hb8.out.trans (hb9.mono Hb8.out.size))
        clear hb9
        go_wp2
        go_ret
        exact ⟨rfl, Hb9.out⟩
end Go.Proofs.YtpfnmjcomdckgaaDoor
