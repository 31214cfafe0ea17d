/-
  The reference's Parse.
-/
import Derived.Test.YtpfnmjcomdckgaaDoorRRefP
namespace Go.Proofs.YtpfnmjcomdckgaaDoor
open Go.RowKit Go.Shelf
set_option linter.unusedVariables false
set_option linter.unusedSimpArgs false

set_option maxRecDepth 100000 in
set_option maxHeartbeats 20000000 in
theorem rParse_f (hF : FieldC) (l : List UInt8) (hl : l.length ≤ 1099511627776) (w : World) :
    Calls Tryd.prog 50 #[str l] w (PV (parseM l) w) := by
  have hsz := size_str l
  obtain ⟨W1, hW1⟩ : ∃ W1, w.alloc (.cells #[.int .u8 0, .int .u8 0, .slice none 0 0] 27) = W1 := ⟨_, rfl⟩
  have hn0 := new_at w (.cells #[.int .u8 0, .int .u8 0, .slice none 0 0] 27)
  have hbel := below_new w (.cells #[.int .u8 0, .int .u8 0, .slice none 0 0] 27)
  rw [hW1] at hn0 hbel
  have HW1 := Lib.hid hW1
  have NL := rLeader_c l hl W1
  obtain ⟨R, hR⟩ : ∃ R, parseM l = R := ⟨_, rfl⟩
  rw [hR]
  clear hW1
  rcases leadR_cases l with ⟨p, k, hk, hp, hlead, hpm⟩ | ⟨hlead, h24, hbig, n, hn, hh, hnum, hpm⟩
  · rw [hlead] at NL
    unfold pairV at NL
    simp only at NL
    rw [hpm] at hR
    have NL := Lib.hid NL
    have jk : ((k : Int) != 0) = true := by rw [bne_iff_ne]; omega
    have jk2 : ((k : Int) == 0) = false := by rw [beq_eq_false_iff_ne]; omega
    have HR := Lib.hid hR
    clear hlead hpm hR hk hp
    obtain ⟨o0, o1, o2, o3, o4, o5⟩ := rec_old hn0
    have hfin := rec_fin hn0 hbel (Nat.le_refl _) (.int .u8 0) (.int .u8 0) (.slice none 0 0)
    unfold fin3 at hfin
    obtain ⟨WF, hWF⟩ : ∃ WF, ((World.setCell W1 ⟨w.heap.size, 0, none⟩ (.int .u8 0)).setCell ⟨w.heap.size, 1, none⟩ (.int .u8 0)).setCell ⟨w.heap.size, 2, none⟩ (.slice none 0 0) = WF := ⟨_, rfl⟩
    rw [hWF] at hfin
    have Hfin := Lib.hid hfin
    have HWF := Lib.hid hWF
    clear hfin hWF

    go_enter Tryd.func50, Tryd.ntmps50
    go_wp2_with fail
    rw [HW1.out]
    refine NL.out.mono ?_
    rintro e w1 ⟨rfl, rfl⟩
    go_wp2_with fail
    rw [HWF.out]
    obtain ⟨hp1, hp2, q0, q1, q2⟩ := Hfin.out
    simp [bodyPost, results, Tryd.results50, go_sem, q0, q1, q2]
    rw [← HR.out]
    exact ⟨rfl, hp1⟩

  rw [hlead] at NL
  unfold pairV at NL
  simp only at NL
  have NL := Lib.hid NL
  obtain ⟨h, hhe⟩ : ∃ h, 25 + 12 * n = h := ⟨_, rfl⟩
  rw [hhe] at hh hnum hpm
  obtain ⟨d, hd⟩ : ∃ d, l.length - 1 - h = d := ⟨_, rfl⟩
  obtain ⟨m1, hm1⟩ : ∃ m1, l.length - 1 = m1 := ⟨_, rfl⟩
  obtain ⟨h1, hh1⟩ : ∃ h1, h - 1 = h1 := ⟨_, rfl⟩
  rw [hd] at hpm
  rw [hpm] at hR
  have NH := rNumber_c (headDigs l) (by unfold headDigs; rw [List.length_take]; omega) W1
  rw [hnum] at NH
  have NH := Lib.hid NH
  have hex := ext_mid l 12 17
  rw [show (l.drop 12).take (17 - 12) = headDigs l from rfl] at hex
  have j12 : (12 : Int) ≤ (l.length : Int) := by omega
  have j17 : (17 : Int) ≤ (l.length : Int) := by omega
  have jm1 : (l.length : Int) - 1 = (m1 : Int) := by omega
  have jd : (m1 : Int) - (h : Int) = (d : Int) := by omega
  have jh1 : (h : Int) - 1 = (h1 : Int) := by omega
  have fh1 : h1 = 24 + 12 * n := by omega
  have fd : d + h + 1 = l.length := by omega
  obtain ⟨D0, hD0⟩ : ∃ D0, dirP l d n 24 0 = D0 := ⟨_, rfl⟩
  rw [hD0] at hR
  have HR := Lib.hid hR
  have HD0 := Lib.hid hD0
  have Hhe := Lib.hid hhe
  have HL := Lib.hid hh
  have HB := Lib.hid hbig
  clear hlead hpm hR hD0 hnum hd hm1 hh1 hhe hh hbig
  go_enter Tryd.func50, Tryd.ntmps50
  go_wp2_with fail
  rw [HW1.out]
  refine NL.out.mono ?_
  rintro e w1 ⟨rfl, rfl⟩
  go_wp2_with fail
  refine NH.out.mono ?_
  rintro e w2 ⟨rfl, rfl⟩
  go_wp2_with fail
  clear jm1 jd hex NH NL
  have Hfh1 := Lib.hid fh1
  clear fh1
  go_loopw [9, 10] (fun sv iv wr => ∃ (q sum : Nat) (acc : List EntM), q ≤ n ∧ iv = .int .i64 ((24 + 12 * q : Nat) : Int) ∧ sv = .int .i64 sum ∧ sum ≤ d ∧ D0 = pre acc (dirP l d (n - q) (24 + 12 * q) sum) ∧ wr = w2) (fun _ iv _ => h1 - (intOf iv).toNat)
  case atStart => exact ⟨0, 0, [], Nat.zero_le _, rfl, rfl, Nat.zero_le _, by rw [Nat.sub_zero, ← HD0.out]; cases dirP l d n 24 0 <;> rfl, rfl⟩
  case round =>
    obtain ⟨q, sum, acc, hq, rfl, rfl, hsum, hD, rfl⟩ := hrel
    by_cases hlt : q < n
    · obtain ⟨a, ha⟩ : ∃ a, 24 + 12 * q = a := ⟨_, rfl⟩
      have hah : a < h1 := by have := Hfh1.out; omega
      have hah2 : a + 12 ≤ h1 := by have := Hfh1.out; omega
      obtain ⟨g, hg⟩ : ∃ g, n - q = g + 1 := ⟨n - q - 1, by omega⟩
      have hg2 : n - (q + 1) = g := by omega
      have ha2 : 24 + 12 * (q + 1) = a + 12 := by omega
      rw [ha, hg] at hD
      rw [ha]
      obtain ⟨B, hB⟩ : ∃ B, (l.drop a).take 12 = B := ⟨_, rfl⟩
      obtain ⟨e1, e2, e3⟩ := ent_parts l a
      rw [hB] at e1 e2 e3
      obtain ⟨a3, ha3⟩ : ∃ x, a + 3 = x := ⟨_, rfl⟩
      obtain ⟨a7, ha7⟩ : ∃ x, a + 7 = x := ⟨_, rfl⟩
      obtain ⟨a12, ha12⟩ : ∃ x, a + 12 = x := ⟨_, rfl⟩
      have x1 := ext_mid l a a3
      have x2 := ext_mid l a3 a7
      have x3 := ext_mid l a7 a12
      rw [show a3 - a = 3 by omega, ← e1] at x1
      rw [show a7 - a3 = 4 by omega, ← ha3, ← e2, ha3] at x2
      rw [show a12 - a7 = 5 by omega, ← ha7, ← e3, ha7] at x3
      have hbl : B.length = 12 := by rw [← hB, List.length_take, List.length_drop]; omega
      obtain ⟨T, hT⟩ : ∃ T, B.take 3 = T := ⟨_, rfl⟩
      obtain ⟨M, hM⟩ : ∃ M, (B.drop 3).take 4 = M := ⟨_, rfl⟩
      obtain ⟨K, hK⟩ : ∃ K, B.drop 7 = K := ⟨_, rfl⟩
      have hTl : T.length = 3 := by rw [← hT, List.length_take]; omega
      have hMl : M.length = 4 := by rw [← hM, List.length_take, List.length_drop]; omega
      have hKl : K.length = 5 := by rw [← hK, List.length_drop]; omega
      rw [hT] at x1
      rw [hM] at x2
      rw [hK] at x3
      have hok := entOk_eq hT hM hK d sum
      have hgo := fun h => hD.trans (dirP_go (n := g) hB h acc)
      have hbad : entOk d sum B = false → D0 = .bad a 13 := fun h => by rw [hD, dirP_bad (by rw [hB]; exact h)]; rfl
      have hsz2 : (entOf B).size = numN M := by unfold entOf; rw [hM]
      rw [hsz2] at hgo
      have ja3 : (a : Int) + 3 = (a3 : Int) := by omega
      have ja7 : (a : Int) + 7 = (a7 : Int) := by omega
      have ja12 : (a : Int) + 12 = (a12 : Int) := by omega
      have k0 : (0 : Int) ≤ (a : Int) := by omega
      have k1 : (a : Int) ≤ (a3 : Int) := by omega
      have k2 : (a3 : Int) ≤ (l.length : Int) := by omega
      have k3 : (a3 : Int) ≤ (a7 : Int) := by omega
      have k4 : (a7 : Int) ≤ (l.length : Int) := by omega
      have k5 : (a7 : Int) ≤ (a12 : Int) := by omega
      have k6 : (a12 : Int) ≤ (l.length : Int) := by omega
      have k7 : (0 : Int) ≤ (a3 : Int) := by omega
      have k8 : (0 : Int) ≤ (a7 : Int) := by omega
      have k9 : (0 : Int) ≤ (a12 : Int) := by omega
      have kc : (a : Int) < (h1 : Int) := by omega
      have NT := Lib.hid (rTag_c T (by omega) wr)
      have NM := rNumber_c M (by omega) wr
      have NK := rNumber_c K (by omega) wr
      have Hgo := Lib.hid hgo
      have Hbad := Lib.hid hbad
      have Hok := Lib.hid hok
      have Hg2 := Lib.hid hg2
      have Ha2 := Lib.hid (ha2.trans ha12)
      have Ha12 := Lib.hid ha12
      have Hsz2 := Lib.hid hsz2
      clear hD hB e1 e2 e3 hT hM hK hok hgo hbad hg hg2 ha2 ha ha3 ha7 ha12 hsz2 hbl
      cases hmd : M.all digB with
      | false =>
        rw [rnumV_bad hmd] at NM
        have hD := Hbad.out (by rw [Hok.out, hmd]; simp)
        rw [hD] at HR
        have NM := Lib.hid NM
        have NK := Lib.hid NK
        clear hmd
        obtain ⟨o0, o1, o2, o3, o4, o5⟩ := rec_old hn0
        have hfin := rec_fin hn0 hbel (Nat.le_refl _) (.int .u8 0) (.int .u8 0) (.slice none 0 0)
        unfold fin3 at hfin
        obtain ⟨WF, hWF⟩ : ∃ WF, ((World.setCell wr ⟨w.heap.size, 0, none⟩ (.int .u8 0)).setCell ⟨w.heap.size, 1, none⟩ (.int .u8 0)).setCell ⟨w.heap.size, 2, none⟩ (.slice none 0 0) = WF := ⟨_, rfl⟩
        rw [hWF] at hfin
        have Hfin := Lib.hid hfin
        have HWF := Lib.hid hWF
        clear hfin hWF
        go_wp2_with fail
        refine (NT.out).mono ?_
        rintro e w5 ⟨rfl, rfl⟩
        go_wp2_with fail
        refine (NM.out).mono ?_
        rintro e w5 ⟨rfl, rfl⟩
        go_wp2_with fail
        refine (NK.out).mono ?_
        rintro e w5 ⟨rfl, rfl⟩
        cases htg : tagB T with
        | true =>
          go_wp2_with fail
          rw [HWF.out]
          obtain ⟨hp1, hp2, q0, q1, q2⟩ := Hfin.out
          simp [bodyPost, results, Tryd.results50, go_sem, q0, q1, q2]
          rw [← HR.out]
          exact ⟨rfl, hp1⟩

        | false =>
          go_wp2_with fail
          rw [HWF.out]
          obtain ⟨hp1, hp2, q0, q1, q2⟩ := Hfin.out
          simp [bodyPost, results, Tryd.results50, go_sem, q0, q1, q2]
          rw [← HR.out]
          exact ⟨rfl, hp1⟩

      | true =>
      rw [rnumV_good hmd (by omega)] at NM
      have hnm := numN_good hmd
      obtain ⟨mv, hmv⟩ : ∃ x, valL M = x := ⟨_, rfl⟩
      rw [hmv] at NM hnm
      have NM := Lib.hid NM
      cases hkd : K.all digB with
      | false =>
        rw [rnumV_bad hkd] at NK
        have hD := Hbad.out (by rw [Hok.out, hkd]; simp)
        rw [hD] at HR
        have NK := Lib.hid NK
        clear hmd hkd hnm
        by_cases hz : mv = 0
        · subst hz
          obtain ⟨o0, o1, o2, o3, o4, o5⟩ := rec_old hn0
          have hfin := rec_fin hn0 hbel (Nat.le_refl _) (.int .u8 0) (.int .u8 0) (.slice none 0 0)
          unfold fin3 at hfin
          obtain ⟨WF, hWF⟩ : ∃ WF, ((World.setCell wr ⟨w.heap.size, 0, none⟩ (.int .u8 0)).setCell ⟨w.heap.size, 1, none⟩ (.int .u8 0)).setCell ⟨w.heap.size, 2, none⟩ (.slice none 0 0) = WF := ⟨_, rfl⟩
          rw [hWF] at hfin
          have Hfin := Lib.hid hfin
          have HWF := Lib.hid hWF
          clear hfin hWF
          go_wp2_with fail
          refine (NT.out).mono ?_
          rintro e w5 ⟨rfl, rfl⟩
          go_wp2_with fail
          refine (NM.out).mono ?_
          rintro e w5 ⟨rfl, rfl⟩
          go_wp2_with fail
          refine (NK.out).mono ?_
          rintro e w5 ⟨rfl, rfl⟩
          cases htg : tagB T with
          | true =>
            go_wp2_with fail
            rw [HWF.out]
            obtain ⟨hp1, hp2, q0, q1, q2⟩ := Hfin.out
            simp [bodyPost, results, Tryd.results50, go_sem, q0, q1, q2]
            rw [← HR.out]
            exact ⟨rfl, hp1⟩

          | false =>
            go_wp2_with fail
            rw [HWF.out]
            obtain ⟨hp1, hp2, q0, q1, q2⟩ := Hfin.out
            simp [bodyPost, results, Tryd.results50, go_sem, q0, q1, q2]
            rw [← HR.out]
            exact ⟨rfl, hp1⟩

        · have jz : ¬ ((mv : Int) < 1) := by omega
          obtain ⟨o0, o1, o2, o3, o4, o5⟩ := rec_old hn0
          have hfin := rec_fin hn0 hbel (Nat.le_refl _) (.int .u8 0) (.int .u8 0) (.slice none 0 0)
          unfold fin3 at hfin
          obtain ⟨WF, hWF⟩ : ∃ WF, ((World.setCell wr ⟨w.heap.size, 0, none⟩ (.int .u8 0)).setCell ⟨w.heap.size, 1, none⟩ (.int .u8 0)).setCell ⟨w.heap.size, 2, none⟩ (.slice none 0 0) = WF := ⟨_, rfl⟩
          rw [hWF] at hfin
          have Hfin := Lib.hid hfin
          have HWF := Lib.hid hWF
          clear hfin hWF
          go_wp2_with fail
          refine (NT.out).mono ?_
          rintro e w5 ⟨rfl, rfl⟩
          go_wp2_with fail
          refine (NM.out).mono ?_
          rintro e w5 ⟨rfl, rfl⟩
          go_wp2_with fail
          refine (NK.out).mono ?_
          rintro e w5 ⟨rfl, rfl⟩
          cases htg : tagB T with
          | true =>
            go_wp2_with fail
            rw [HWF.out]
            obtain ⟨hp1, hp2, q0, q1, q2⟩ := Hfin.out
            simp [bodyPost, results, Tryd.results50, go_sem, q0, q1, q2]
            rw [← HR.out]
            exact ⟨rfl, hp1⟩

          | false =>
            go_wp2_with fail
            rw [HWF.out]
            obtain ⟨hp1, hp2, q0, q1, q2⟩ := Hfin.out
            simp [bodyPost, results, Tryd.results50, go_sem, q0, q1, q2]
            rw [← HR.out]
            exact ⟨rfl, hp1⟩

      | true =>
      rw [rnumV_good hkd (by omega)] at NK
      have hnk := numN_good hkd
      obtain ⟨kv, hkv⟩ : ∃ x, valL K = x := ⟨_, rfl⟩
      rw [hkv] at NK hnk
      have NK := Lib.hid NK
      have hok := Hok.out
      rw [hmd, hkd, hnm, hnk] at hok
      have Hok := Lib.hid hok
      have hml := valL_lt _ hmd
      have hkl := valL_lt _ hkd
      rw [hmv, hMl] at hml
      rw [hkv, hKl] at hkl
      have hml : mv ≤ 9999 := by omega
      have hkl : kv ≤ 99999 := by omega
      clear hok hmd hkd hmv hkv hnk
      have jk0 : ¬ ((kv : Int) < 0) := by omega
      by_cases hz : mv = 0
      · subst hz
        have hD := Hbad.out (by rw [Hok.out]; simp)
        rw [hD] at HR
        clear hnm
        obtain ⟨o0, o1, o2, o3, o4, o5⟩ := rec_old hn0
        have hfin := rec_fin hn0 hbel (Nat.le_refl _) (.int .u8 0) (.int .u8 0) (.slice none 0 0)
        unfold fin3 at hfin
        obtain ⟨WF, hWF⟩ : ∃ WF, ((World.setCell wr ⟨w.heap.size, 0, none⟩ (.int .u8 0)).setCell ⟨w.heap.size, 1, none⟩ (.int .u8 0)).setCell ⟨w.heap.size, 2, none⟩ (.slice none 0 0) = WF := ⟨_, rfl⟩
        rw [hWF] at hfin
        have Hfin := Lib.hid hfin
        have HWF := Lib.hid hWF
        clear hfin hWF
        go_wp2_with fail
        refine (NT.out).mono ?_
        rintro e w5 ⟨rfl, rfl⟩
        go_wp2_with fail
        refine (NM.out).mono ?_
        rintro e w5 ⟨rfl, rfl⟩
        go_wp2_with fail
        refine (NK.out).mono ?_
        rintro e w5 ⟨rfl, rfl⟩
        cases htg : tagB T with
        | true =>
          go_wp2_with fail
          rw [HWF.out]
          obtain ⟨hp1, hp2, q0, q1, q2⟩ := Hfin.out
          simp [bodyPost, results, Tryd.results50, go_sem, q0, q1, q2]
          rw [← HR.out]
          exact ⟨rfl, hp1⟩

        | false =>
          go_wp2_with fail
          rw [HWF.out]
          obtain ⟨hp1, hp2, q0, q1, q2⟩ := Hfin.out
          simp [bodyPost, results, Tryd.results50, go_sem, q0, q1, q2]
          rw [← HR.out]
          exact ⟨rfl, hp1⟩

      have jz : ¬ ((mv : Int) < 1) := by omega
      by_cases hkm : d < kv + mv
      · have jkm : (d : Int) < (kv : Int) + (mv : Int) := by omega
        have hD := Hbad.out (by rw [Hok.out]; simp; omega)
        rw [hD] at HR
        clear hnm hkm
        obtain ⟨o0, o1, o2, o3, o4, o5⟩ := rec_old hn0
        have hfin := rec_fin hn0 hbel (Nat.le_refl _) (.int .u8 0) (.int .u8 0) (.slice none 0 0)
        unfold fin3 at hfin
        obtain ⟨WF, hWF⟩ : ∃ WF, ((World.setCell wr ⟨w.heap.size, 0, none⟩ (.int .u8 0)).setCell ⟨w.heap.size, 1, none⟩ (.int .u8 0)).setCell ⟨w.heap.size, 2, none⟩ (.slice none 0 0) = WF := ⟨_, rfl⟩
        rw [hWF] at hfin
        have Hfin := Lib.hid hfin
        have HWF := Lib.hid hWF
        clear hfin hWF
        go_wp2_with fail
        refine (NT.out).mono ?_
        rintro e w5 ⟨rfl, rfl⟩
        go_wp2_with fail
        refine (NM.out).mono ?_
        rintro e w5 ⟨rfl, rfl⟩
        go_wp2_with fail
        refine (NK.out).mono ?_
        rintro e w5 ⟨rfl, rfl⟩
        cases htg : tagB T with
        | true =>
          go_wp2_with fail
          rw [HWF.out]
          obtain ⟨hp1, hp2, q0, q1, q2⟩ := Hfin.out
          simp [bodyPost, results, Tryd.results50, go_sem, q0, q1, q2]
          rw [← HR.out]
          exact ⟨rfl, hp1⟩

        | false =>
          go_wp2_with fail
          rw [HWF.out]
          obtain ⟨hp1, hp2, q0, q1, q2⟩ := Hfin.out
          simp [bodyPost, results, Tryd.results50, go_sem, q0, q1, q2]
          rw [← HR.out]
          exact ⟨rfl, hp1⟩

      have jkm : ¬ ((d : Int) < (kv : Int) + (mv : Int)) := by omega
      by_cases hsm : d < sum + mv
      · have jsm : (d : Int) < (sum : Int) + (mv : Int) := by omega
        have hD := Hbad.out (by rw [Hok.out]; simp; omega)
        rw [hD] at HR
        clear hnm hkm hsm
        obtain ⟨o0, o1, o2, o3, o4, o5⟩ := rec_old hn0
        have hfin := rec_fin hn0 hbel (Nat.le_refl _) (.int .u8 0) (.int .u8 0) (.slice none 0 0)
        unfold fin3 at hfin
        obtain ⟨WF, hWF⟩ : ∃ WF, ((World.setCell wr ⟨w.heap.size, 0, none⟩ (.int .u8 0)).setCell ⟨w.heap.size, 1, none⟩ (.int .u8 0)).setCell ⟨w.heap.size, 2, none⟩ (.slice none 0 0) = WF := ⟨_, rfl⟩
        rw [hWF] at hfin
        have Hfin := Lib.hid hfin
        have HWF := Lib.hid hWF
        clear hfin hWF
        go_wp2_with fail
        refine (NT.out).mono ?_
        rintro e w5 ⟨rfl, rfl⟩
        go_wp2_with fail
        refine (NM.out).mono ?_
        rintro e w5 ⟨rfl, rfl⟩
        go_wp2_with fail
        refine (NK.out).mono ?_
        rintro e w5 ⟨rfl, rfl⟩
        cases htg : tagB T with
        | true =>
          go_wp2_with fail
          rw [HWF.out]
          obtain ⟨hp1, hp2, q0, q1, q2⟩ := Hfin.out
          simp [bodyPost, results, Tryd.results50, go_sem, q0, q1, q2]
          rw [← HR.out]
          exact ⟨rfl, hp1⟩

        | false =>
          go_wp2_with fail
          rw [HWF.out]
          obtain ⟨hp1, hp2, q0, q1, q2⟩ := Hfin.out
          simp [bodyPost, results, Tryd.results50, go_sem, q0, q1, q2]
          rw [← HR.out]
          exact ⟨rfl, hp1⟩

      have jsm : ¬ ((d : Int) < (sum : Int) + (mv : Int)) := by omega
      cases htg : tagB T with
      | false =>
        have hD := Hbad.out (by rw [Hok.out, htg]; simp)
        rw [hD] at HR
        rw [htg] at NT
        clear hnm hkm hsm
        obtain ⟨o0, o1, o2, o3, o4, o5⟩ := rec_old hn0
        have hfin := rec_fin hn0 hbel (Nat.le_refl _) (.int .u8 0) (.int .u8 0) (.slice none 0 0)
        unfold fin3 at hfin
        obtain ⟨WF, hWF⟩ : ∃ WF, ((World.setCell wr ⟨w.heap.size, 0, none⟩ (.int .u8 0)).setCell ⟨w.heap.size, 1, none⟩ (.int .u8 0)).setCell ⟨w.heap.size, 2, none⟩ (.slice none 0 0) = WF := ⟨_, rfl⟩
        rw [hWF] at hfin
        have Hfin := Lib.hid hfin
        have HWF := Lib.hid hWF
        clear hfin hWF

        go_wp2_with fail
        refine (NT.out).mono ?_
        rintro e w5 ⟨rfl, rfl⟩
        go_wp2_with fail
        refine (NM.out).mono ?_
        rintro e w5 ⟨rfl, rfl⟩
        go_wp2_with fail
        refine (NK.out).mono ?_
        rintro e w5 ⟨rfl, rfl⟩

        go_wp2_with fail
        rw [HWF.out]
        obtain ⟨hp1, hp2, q0, q1, q2⟩ := Hfin.out
        simp [bodyPost, results, Tryd.results50, go_sem, q0, q1, q2]
        rw [← HR.out]
        exact ⟨rfl, hp1⟩

      | true =>
        have hD := Hgo.out (by rw [Hok.out, htg]; simp; omega)
        rw [htg] at NT
        have jss : sum + mv ≤ d := by omega
        rw [hnm] at hD
        have HD := Lib.hid hD
        clear hD hnm hkm hsm hz htg
        go_wp2_with fail
        refine (NT.out).mono ?_
        rintro e w5 ⟨rfl, rfl⟩
        go_wp2_with fail
        refine (NM.out).mono ?_
        rintro e w5 ⟨rfl, rfl⟩
        go_wp2_with fail
        refine (NK.out).mono ?_
        rintro e w5 ⟨rfl, rfl⟩

        go_wp2_with fail
        go_roundw
        case rel => exact ⟨q + 1, sum + mv, _, by omega, by rw [Ha2.out], by go_num, jss, by rw [HD.out, Hg2.out, Ha2.out, Ha12.out], by first | rfl | trivial⟩
        case measure => have := Ha12.out; simp [intOf]; omega
    · have hqn : q = n := by omega
      subst hqn
      rw [Nat.sub_self] at hD
      have hD2 : D0 = .ok acc := by rw [hD]; simp [dirP, pre]
      rw [hD2] at HR HD0
      have Hdir := Lib.hid HD0.out
      clear HD0 hD hD2
      have hg6 : ∀ h, (ByteArray.mk l.toArray)[6]'h = l.getD 6 0 := fun h => by rw [getD_at l 6 (by omega)]; rfl
      have hg7 : ∀ h, (ByteArray.mk l.toArray)[7]'h = l.getD 7 0 := fun h => by rw [getD_at l 7 (by omega)]; rfl
      have hRf : R = finG (l.getD 6 0) (l.getD 7 0) (fieldsP (l.drop h) h acc) := HR.out.symm
      obtain ⟨x6, hx6⟩ : ∃ x, l.getD 6 0 = x := ⟨_, rfl⟩
      obtain ⟨x7, hx7⟩ : ∃ x, l.getD 7 0 = x := ⟨_, rfl⟩
      rw [hx6] at hg6 hRf
      rw [hx7] at hg7 hRf
      have j6 : (6 : Int) < (l.length : Int) := by omega
      have j7 : (7 : Int) < (l.length : Int) := by omega
      have hfh := Hfh1.out
      have kc : ¬ (((24 + 12 * q : Nat) : Int) < (h1 : Int)) := by omega
      have kc2 : ¬ ((24 + 12 * q : Nat) < h1) := by omega
      have kc3 : h1 ≤ 24 + 12 * q := by omega
      obtain ⟨a, ha⟩ : ∃ a, 24 + 12 * q = a := ⟨_, rfl⟩
      rw [ha] at kc kc2 kc3 ⊢
      have HRf := Lib.hid hRf
      have Hn0 := Lib.hid hn0
      have Hbel := Lib.hid hbel
      clear hx6 hx7 hRf HR hn0 hbel ha hfh HW1
      go_wp2_with fail
      go_region
      go_wp2_with fail
      have hpb := lt_at Hn0.out
      have hr0 : RecO (wr.alloc (.cells #[.int .u8 (x6.toNat : Int), .int .u8 (x7.toNat : Int), .slice none 0 0] 27)).drew wr.heap.size x6 x7 [] (.slice none 0 0) := ⟨new_at _ _, World.ownsRow_nil _ _ _ _⟩
      have hn2 : (wr.alloc (.cells #[.int .u8 (x6.toNat : Int), .int .u8 (x7.toNat : Int), .slice none 0 0] 27)).drew.heap[w.heap.size]? = some (.cells #[.int .u8 0, .int .u8 0, .slice none 0 0] 27 (0, 0)) := by
        show (wr.alloc _).heap[_]? = _
        exact heap_below (below_new wr _) Hn0.out
      have hb2 : Below w.heap.size w (wr.alloc (.cells #[.int .u8 (x6.toNat : Int), .int .u8 (x7.toNat : Int), .slice none 0 0] 27)).drew := (Hbel.out.alloc (Nat.le_of_lt hpb) _).drew
      obtain ⟨W2, hW2⟩ : ∃ W2, (wr.alloc (.cells #[.int .u8 (x6.toNat : Int), .int .u8 (x7.toNat : Int), .slice none 0 0] 27)).drew = W2 := ⟨_, rfl⟩
      obtain ⟨pb, hpbe⟩ : ∃ pb, wr.heap.size = pb := ⟨_, rfl⟩
      rw [hW2] at hr0 hn2 hb2 ⊢
      rw [hpbe] at hr0 hpb ⊢
      have Hr0 := Lib.hid hr0
      have Hn2 := Lib.hid hn2
      have Hb2 := Lib.hid hb2
      clear hr0 hn2 hb2 hW2 hpbe kc kc2 kc3 hg6 hg7 hsum
      go_loopw [15] (fun iv wr => ∃ (q2 sum2 : Nat) (es2 : List EntM) (acc2 : List (FldM × Value)) (sv : Value), q2 ≤ q ∧ iv = .int .i64 ((24 + 12 * q2 : Nat) : Int) ∧ dirP l d (q - q2) (24 + 12 * q2) sum2 = .ok es2 ∧ acc2.length = q2 ∧ RecO wr pb x6 x7 acc2 sv ∧
        (∀ p ∈ acc2, wr.ownsRow (pb + 1) 64 2 p.2 p.1.subs.length (subCells p.1.subs)) ∧ wr.heap[w.heap.size]? = some (.cells #[.int .u8 0, .int .u8 0, .slice none 0 0] 27 (0, 0)) ∧ Below w.heap.size w wr ∧ R = finG x6 x7 (preF (acc2.map (fun p => p.1)) (fieldsP (l.drop h) h es2))) (fun iv _ => h1 - (intOf iv).toNat)
      case atStart => exact ⟨0, 0, acc, [], _, Nat.zero_le _, rfl, by rw [Nat.sub_zero]; exact Hdir.out, rfl, Hr0.out, fun p hp => by simp at hp, Hn2.out, Hb2.out, by rw [HRf.out]; cases fieldsP (l.drop h) h acc <;> rfl⟩
      case round =>
        obtain ⟨q2, sum2, es2, acc2, sv, hq2, rfl, hdir, hacc2, hrec, hsubs, hn0, hbel, hres⟩ := hrel
        clear Hr0 Hn2 Hb2 Hn0 Hbel HRf Hdir
        by_cases hlt2 : q2 < q
        · obtain ⟨a, ha⟩ : ∃ a, 24 + 12 * q2 = a := ⟨_, rfl⟩
          have hah : a < h1 := by have := Hfh1.out; omega
          have hah2 : a + 12 ≤ h1 := by have := Hfh1.out; omega
          obtain ⟨g, hg⟩ : ∃ g, q - q2 = g + 1 := ⟨q - q2 - 1, by omega⟩
          have hg2 : q - (q2 + 1) = g := by omega
          have ha2 : 24 + 12 * (q2 + 1) = a + 12 := by omega
          rw [ha, hg] at hdir
          rw [ha]
          obtain ⟨hok, es3, rfl, hdir3⟩ := dirP_cons hdir
          obtain ⟨B, hB⟩ : ∃ B, (l.drop a).take 12 = B := ⟨_, rfl⟩
          obtain ⟨e1, e2, e3⟩ := ent_parts l a
          rw [hB] at e1 e2 e3 hok hdir3 hres
          obtain ⟨a3, ha3⟩ : ∃ x, a + 3 = x := ⟨_, rfl⟩
          obtain ⟨a7, ha7⟩ : ∃ x, a + 7 = x := ⟨_, rfl⟩
          obtain ⟨a12, ha12⟩ : ∃ x, a + 12 = x := ⟨_, rfl⟩
          have x1 := ext_mid l a a3
          have x2 := ext_mid l a3 a7
          have x3 := ext_mid l a7 a12
          rw [show a3 - a = 3 by omega, ← e1] at x1
          rw [show a7 - a3 = 4 by omega, ← ha3, ← e2, ha3] at x2
          rw [show a12 - a7 = 5 by omega, ← ha7, ← e3, ha7] at x3
          have hbl : B.length = 12 := by rw [← hB, List.length_take, List.length_drop]; omega
          obtain ⟨T, hT⟩ : ∃ T, B.take 3 = T := ⟨_, rfl⟩
          obtain ⟨M, hM⟩ : ∃ M, (B.drop 3).take 4 = M := ⟨_, rfl⟩
          obtain ⟨K, hK⟩ : ∃ K, B.drop 7 = K := ⟨_, rfl⟩
          have hTl : T.length = 3 := by rw [← hT, List.length_take]; omega
          have hMl : M.length = 4 := by rw [← hM, List.length_take, List.length_drop]; omega
          have hKl : K.length = 5 := by rw [← hK, List.length_drop]; omega
          rw [hT] at x1
          rw [hM] at x2
          rw [hK] at x3
          rw [entOk_eq hT hM hK d sum2] at hok
          have hent : entOf B = ⟨T, numN K, numN M⟩ := by unfold entOf; rw [hT, hM, hK]
          rw [hent] at hres hdir3
          simp only [Bool.and_eq_true, decide_eq_true_eq, Bool.not_eq_true', beq_eq_false_iff_ne] at hok
          obtain ⟨⟨⟨⟨⟨htg, hmd⟩, hkd⟩, hm0⟩, hkm⟩, hsm⟩ := hok
          have NM := rNumber_c M (by omega) wr
          have NK := rNumber_c K (by omega) wr
          rw [rnumV_good hmd (by omega), ← numN_good hmd] at NM
          rw [rnumV_good hkd (by omega), ← numN_good hkd] at NK
          have hml := valL_lt _ hmd
          have hkl := valL_lt _ hkd
          rw [← numN_good hmd, hMl] at hml
          rw [← numN_good hkd, hKl] at hkl
          obtain ⟨mv, hmv⟩ : ∃ x, numN M = x := ⟨_, rfl⟩
          obtain ⟨kv, hkv⟩ : ∃ x, numN K = x := ⟨_, rfl⟩
          rw [hmv] at NM hml hm0 hkm hsm hres hdir3
          rw [hkv] at NK hkl hkm hres hdir3
          simp only at hdir3
          have hml : mv ≤ 9999 := by omega
          have hkl : kv ≤ 99999 := by omega
          have hm1 : 1 ≤ mv := by omega
          obtain ⟨kk, hkk⟩ : ∃ x, h + kv = x := ⟨_, rfl⟩
          obtain ⟨kz, hkz⟩ : ∃ x, kk + mv = x := ⟨_, rfl⟩
          have x4 := ext_mid l kk kz
          have hFF : ((l.drop h).drop kv).take mv = (l.drop kk).take (kz - kk) := by rw [List.drop_drop, hkk, show kz - kk = mv by omega]
          rw [← hFF] at x4
          obtain ⟨F, hFe⟩ : ∃ F, ((l.drop h).drop kv).take mv = F := ⟨_, rfl⟩
          have hFl : F.length = mv := by rw [← hFe, List.length_take, List.length_drop, List.length_drop]; omega
          rw [hFe] at x4
          have hfm : fieldR T F kk = fieldM T F kk := fieldR_is T F kk (by omega)
          have hfp := fun p k hh => fieldsP_bad (data := l.drop h) (off := h) (p := p) (k := k) (e := ⟨T, kv, mv⟩) (es := es3) (acc := acc2.map (fun p => p.1)) hh
          have hfg := fun f hh => fieldsP_go (data := l.drop h) (off := h) (f := f) (e := ⟨T, kv, mv⟩) (es := es3) (acc := acc2.map (fun p => p.1)) hh
          simp only at hfp hfg
          rw [hFe, hkk, ← hfm] at hfp hfg
          have hNF := fun W => hF T F W hTl (by omega) (by omega)
          obtain ⟨X, hX⟩ : ∃ X, runF (ctlB T) F F.length 0 ⟨false, [], [], [], ⟨0, 0, 0⟩⟩ = X := ⟨_, rfl⟩
          have h14 := fun p k (e : X = .bad p k) => runF_14 (hX.trans e)
          have Hle := Lib.hid (show ∀ p k (e : X = .bad p k), p ≤ 20000 from fun p k e => by have := runF_le (hX.trans e); omega)
          unfold fieldR at hfp hfg
          rw [hX] at hNF hfp hfg
          have ja3 : (a : Int) + 3 = (a3 : Int) := by omega
          have ja7 : (a : Int) + 7 = (a7 : Int) := by omega
          have ja12 : (a : Int) + 12 = (a12 : Int) := by omega
          have k0 : (0 : Int) ≤ (a : Int) := by omega
          have k1 : (a : Int) ≤ (a3 : Int) := by omega
          have k2 : (a3 : Int) ≤ (l.length : Int) := by omega
          have k3 : (a3 : Int) ≤ (a7 : Int) := by omega
          have k4 : (a7 : Int) ≤ (l.length : Int) := by omega
          have k5 : (a7 : Int) ≤ (a12 : Int) := by omega
          have k6 : (a12 : Int) ≤ (l.length : Int) := by omega
          have k7 : (0 : Int) ≤ (a3 : Int) := by omega
          have k8 : (0 : Int) ≤ (a7 : Int) := by omega
          have k9 : (0 : Int) ≤ (a12 : Int) := by omega
          have kc : (a : Int) < (h1 : Int) := by omega
          have jkk : (h : Int) + (kv : Int) = (kk : Int) := by omega
          have jkz : (kk : Int) + (mv : Int) = (kz : Int) := by omega
          have n1 : (kk : Int) ≤ (kz : Int) := by omega
          have n2 : (kz : Int) ≤ (l.length : Int) := by omega
          have n3 : (0 : Int) ≤ (kk : Int) := by omega
          have n4 : (0 : Int) ≤ (kz : Int) := by omega
          have v1 := wrapI (a3 : Int) (by omega) (by omega)
          have v2 := wrapI (kz : Int) (by omega) (by omega)
          have NM := Lib.hid NM
          have NK := Lib.hid NK
          have Hg2 := Lib.hid hg2
          have Ha2 := Lib.hid (ha2.trans ha12)
          have Ha12 := Lib.hid ha12
          have Hdir3 := Lib.hid hdir3
          have Hrec := Lib.hid hrec
          have Hsubs := Lib.hid hsubs
          have Hn0 := Lib.hid hn0
          have Hbel := Lib.hid hbel
          have Hacc2 := Lib.hid hacc2
          have Hq2 := Lib.hid (And.intro hq2 hlt2)
          have Hkk := Lib.hid hkk
          have Hah := Lib.hid hah
          clear hdir hB e1 e2 e3 hT hM hK hg hg2 ha2 ha ha3 ha7 ha12 hbl hent htg hmd hkd hm0 hkm hsm hmv hkv hkk hkz hFF hFe hfm hX hq2 hlt2 hdir3 hrec hsubs hacc2 hah hah2 hml hkl hm1
          cases X with
          | bad p k14 =>
            obtain rfl := h14 p k14 rfl
            have hR2 := hres.trans (congrArg (finG x6 x7) (hfp (kk + p) 14 rfl))
            have HR2 := Lib.hid hR2
            unfold FRPost at hNF
            have jp : ¬ ((p : Int) < 0) := by omega
            have hple := Hle.out p 14 rfl
            obtain ⟨kp, hkp⟩ : ∃ x, kk + p = x := ⟨_, rfl⟩
            have jkp : (kk : Int) + (p : Int) = (kp : Int) := by omega
            rw [hkp] at HR2
            clear hkp
            have jp0 : (0 : Int) ≤ (p : Int) := by omega
            have NA := Lib.hid ((hNF wr.drew).mono (fun e W9 h => show (∃ x0 x1 x2 va vn vc, e = .returned (.tuple #[.agg #[str x0, str x1, str x2, .slice va vn vc], .int .i64 p]) ∧ Below wr.heap.size wr W9) from by
              obtain ⟨fv, bad, rfl, hb9, rfl, x0, x1, x2, va, vn, vc, rfl⟩ := h
              exact ⟨x0, x1, x2, va, vn, vc, rfl, (Below.refl _ _).drew.trans hb9⟩))
            have NB := Lib.hid ((hNF (wr.alloc (.cells #[.string ⟨#[]⟩, .string ⟨#[]⟩, .string ⟨#[]⟩, .slice none 0 0] 62)).drew).mono (fun e W9 h => show (∃ x0 x1 x2 va vn vc, e = .returned (.tuple #[.agg #[str x0, str x1, str x2, .slice va vn vc], .int .i64 p]) ∧ Below wr.heap.size wr W9 ∧
                W9.cell? ⟨wr.heap.size, 0, none⟩ = some (.string ⟨#[]⟩) ∧ W9.cell? ⟨wr.heap.size, 1, none⟩ = some (.string ⟨#[]⟩) ∧ W9.cell? ⟨wr.heap.size, 2, none⟩ = some (.string ⟨#[]⟩) ∧ W9.cell? ⟨wr.heap.size, 3, none⟩ = some (.slice none 0 0) ∧
                W9.frozen? ⟨wr.heap.size, 0, none⟩ = false ∧ W9.frozen? ⟨wr.heap.size, 1, none⟩ = false ∧ W9.frozen? ⟨wr.heap.size, 2, none⟩ = false ∧ W9.frozen? ⟨wr.heap.size, 3, none⟩ = false ∧ W9.heap[wr.heap.size]? = some (.cells #[.string ⟨#[]⟩, .string ⟨#[]⟩, .string ⟨#[]⟩, .slice none 0 0] 62 (0, 0))) from by
              obtain ⟨fv, bad, rfl, hb9, rfl, x0, x1, x2, va, vn, vc, rfl⟩ := h
              have hnw : W9.heap[wr.heap.size]? = some (.cells #[.string ⟨#[]⟩, .string ⟨#[]⟩, .string ⟨#[]⟩, .slice none 0 0] 62 (0, 0)) := (hb9.block wr.heap.size (by show wr.heap.size < (wr.alloc _).heap.size; simp)).trans (new_at wr _)
              exact ⟨x0, x1, x2, va, vn, vc, rfl, ((below_new wr _).drew).trans (hb9.mono (by show wr.heap.size ≤ (wr.alloc _).heap.size; simp)), by rw [cell_at hnw]; rfl, by rw [cell_at hnw]; rfl, by rw [cell_at hnw]; rfl, by rw [cell_at hnw]; rfl,
                Lib.frozen_of_heap hnw 0, Lib.frozen_of_heap hnw 1, Lib.frozen_of_heap hnw 2, Lib.frozen_of_heap hnw 3, hnw⟩))
            clear hres hfp hfg h14 hR2 hNF hn0 hbel
            go_wp2_with fail
            refine (NM.out).mono ?_
            rintro e w5 ⟨rfl, rfl⟩
            go_wp2_with fail
            refine (NK.out).mono ?_
            rintro e w5 ⟨rfl, rfl⟩
            go_wp2_with fail
            go_region_with (first | (go_at_call 74; refine NA.out.mono ?_; rintro e W9 ⟨x0, x1, x2, va, vn, vc, rfl, hb9⟩) | (go_at_call 74; refine NB.out.mono ?_; rintro e W9 ⟨x0, x1, x2, va, vn, vc, rfl, hb9, b0, b1, b2, b3, b4, b5, b6, b7, b8⟩))
            · have hb' : Below w5.heap.size w5 (W9.alloc (.cells #[str x0, str x1, str x2, .slice va vn vc] 62)) := hb9.alloc hb9.size _
              have hnw : (W9.alloc (.cells #[str x0, str x1, str x2, .slice va vn vc] 62)).heap[W9.heap.size]? = some (.cells #[str x0, str x1, str x2, .slice va vn vc] 62 (0, 0)) := new_at _ _
              have hge : w5.heap.size ≤ W9.heap.size := hb9.size

              obtain ⟨WP, hWP⟩ : ∃ WP, W9.alloc (.cells #[str x0, str x1, str x2, .slice va vn vc] 62) = WP := ⟨_, rfl⟩
              obtain ⟨nb, hnb⟩ : ∃ nb, W9.heap.size = nb := ⟨_, rfl⟩
              rw [hWP] at hb' hnw  ⊢
              rw [hnb] at hnw hge ⊢
              clear hWP hnb hb9
              have hn0 := (hb'.block w.heap.size (lt_at Hn0.out)).trans Hn0.out
              have hbel := Hbel.out.trans (hb'.mono Hbel.out.size)
              clear hnw hge hb'
              obtain ⟨o0, o1, o2, o3, o4, o5⟩ := rec_old hn0
              have hfin := rec_fin hn0 hbel (Nat.le_refl _) (.int .u8 0) (.int .u8 0) (.slice none 0 0)
              unfold fin3 at hfin
              obtain ⟨WF, hWF⟩ : ∃ WF, ((World.setCell WP ⟨w.heap.size, 0, none⟩ (.int .u8 0)).setCell ⟨w.heap.size, 1, none⟩ (.int .u8 0)).setCell ⟨w.heap.size, 2, none⟩ (.slice none 0 0) = WF := ⟨_, rfl⟩
              rw [hWF] at hfin
              have Hfin := Lib.hid hfin
              have HWF := Lib.hid hWF
              clear hfin hWF
              clear hn0 hbel
              go_wp2_with fail
              rw [HWF.out]
              obtain ⟨hp1, hp2, q0, q1, q2⟩ := Hfin.out
              simp [bodyPost, results, Tryd.results50, go_sem, q0, q1, q2]
              rw [HR2.out]
              exact ⟨rfl, hp1⟩

            · have hb' : Below w5.heap.size w5 (fin4 W9 w5.heap.size (str x0) (str x1) (str x2) (.slice va vn vc)) := by
                unfold fin4
                exact (((hb9.setCell (p := ⟨w5.heap.size, 0, none⟩) (Nat.le_refl _) _).setCell (p := ⟨w5.heap.size, 1, none⟩) (Nat.le_refl _) _).setCell (p := ⟨w5.heap.size, 2, none⟩) (Nat.le_refl _) _).setCell (p := ⟨w5.heap.size, 3, none⟩) (Nat.le_refl _) _
              have hnw : (fin4 W9 w5.heap.size (str x0) (str x1) (str x2) (.slice va vn vc)).heap[w5.heap.size]? = some (.cells #[str x0, str x1, str x2, .slice va vn vc] 62 (0, 0)) := by
                have := blk_set (blk_set (blk_set (blk_set b8 0 (str x0)) 1 (str x1)) 2 (str x2)) 3 (.slice va vn vc)
                unfold fin4
                simpa using this
              have hge : w5.heap.size ≤ w5.heap.size := Nat.le_refl _

              obtain ⟨WP, hWP⟩ : ∃ WP, fin4 W9 w5.heap.size (str x0) (str x1) (str x2) (.slice va vn vc) = WP := ⟨_, rfl⟩
              rw [hWP] at hb' hnw 
              unfold fin4 at hWP
              rw [hWP]
              obtain ⟨nb, hnb⟩ : ∃ nb, w5.heap.size = nb := ⟨_, rfl⟩
              rw [hnb] at hnw ⊢
              replace hge : w5.heap.size ≤ nb := Nat.le_of_eq hnb
              clear hWP hb9 b0 b1 b2 b3 b4 b5 b6 b7 b8
              have hn0 := (hb'.block w.heap.size (lt_at Hn0.out)).trans Hn0.out
              have hbel := Hbel.out.trans (hb'.mono Hbel.out.size)
              clear hnw hge hb'
              obtain ⟨o0, o1, o2, o3, o4, o5⟩ := rec_old hn0
              have hfin := rec_fin hn0 hbel (Nat.le_refl _) (.int .u8 0) (.int .u8 0) (.slice none 0 0)
              unfold fin3 at hfin
              obtain ⟨WF, hWF⟩ : ∃ WF, ((World.setCell WP ⟨w.heap.size, 0, none⟩ (.int .u8 0)).setCell ⟨w.heap.size, 1, none⟩ (.int .u8 0)).setCell ⟨w.heap.size, 2, none⟩ (.slice none 0 0) = WF := ⟨_, rfl⟩
              rw [hWF] at hfin
              have Hfin := Lib.hid hfin
              have HWF := Lib.hid hWF
              clear hfin hWF
              clear hn0 hbel
              go_wp2_with fail
              rw [HWF.out]
              obtain ⟨hp1, hp2, q0, q1, q2⟩ := Hfin.out
              simp [bodyPost, results, Tryd.results50, go_sem, q0, q1, q2]
              rw [HR2.out]
              exact ⟨rfl, hp1⟩

          | ok s =>
            have hR2 := hres.trans (congrArg (finG x6 x7) (hfg ⟨T, s.ind, s.data, s.subs⟩ rfl))
            have HR2 := Lib.hid hR2
            unfold FRPost at hNF
            have hpbw : pb < wr.heap.size := lt_at Hrec.out.1
            have NA := Lib.hid ((hNF wr.drew).mono (fun e W9 h => show (∃ va vc, e = .returned (.tuple #[.agg #[str T, str s.ind, str s.data, .slice va s.subs.length vc], .int .i64 (-1)]) ∧ Below wr.heap.size wr W9 ∧ W9.ownsRow wr.heap.size 64 2 (.slice va s.subs.length vc) s.subs.length (subCells s.subs)) from by
              obtain ⟨fv, bad, rfl, hb9, rfl, sv9, rfl, hown9⟩ := h
              obtain ⟨va, vc, rfl⟩ := own_form hown9
              exact ⟨va, vc, rfl, (Below.refl _ _).drew.trans hb9, hown9⟩))
            have NB := Lib.hid ((hNF (wr.alloc (.cells #[.string ⟨#[]⟩, .string ⟨#[]⟩, .string ⟨#[]⟩, .slice none 0 0] 62)).drew).mono (fun e W9 h => show (∃ va vc, e = .returned (.tuple #[.agg #[str T, str s.ind, str s.data, .slice va s.subs.length vc], .int .i64 (-1)]) ∧ Below wr.heap.size wr W9 ∧ W9.ownsRow (wr.heap.size + 1) 64 2 (.slice va s.subs.length vc) s.subs.length (subCells s.subs) ∧
                W9.cell? ⟨wr.heap.size, 0, none⟩ = some (.string ⟨#[]⟩) ∧ W9.cell? ⟨wr.heap.size, 1, none⟩ = some (.string ⟨#[]⟩) ∧ W9.cell? ⟨wr.heap.size, 2, none⟩ = some (.string ⟨#[]⟩) ∧ W9.cell? ⟨wr.heap.size, 3, none⟩ = some (.slice none 0 0) ∧
                W9.frozen? ⟨wr.heap.size, 0, none⟩ = false ∧ W9.frozen? ⟨wr.heap.size, 1, none⟩ = false ∧ W9.frozen? ⟨wr.heap.size, 2, none⟩ = false ∧ W9.frozen? ⟨wr.heap.size, 3, none⟩ = false ∧ W9.heap[wr.heap.size]? = some (.cells #[.string ⟨#[]⟩, .string ⟨#[]⟩, .string ⟨#[]⟩, .slice none 0 0] 62 (0, 0))) from by
              obtain ⟨fv, bad, rfl, hb9, rfl, sv9, rfl, hown9⟩ := h
              obtain ⟨va, vc, rfl⟩ := own_form hown9
              have hnw : W9.heap[wr.heap.size]? = some (.cells #[.string ⟨#[]⟩, .string ⟨#[]⟩, .string ⟨#[]⟩, .slice none 0 0] 62 (0, 0)) := (hb9.block wr.heap.size (by show wr.heap.size < (wr.alloc _).heap.size; simp)).trans (new_at wr _)
              have hown9' : W9.ownsRow (wr.heap.size + 1) 64 2 (.slice va s.subs.length vc) s.subs.length (subCells s.subs) := by
                have h2 : (wr.alloc (.cells #[.string ⟨#[]⟩, .string ⟨#[]⟩, .string ⟨#[]⟩, .slice none 0 0] 62)).drew.heap.size = wr.heap.size + 1 := by show (wr.alloc _).heap.size = _; simp
                rw [h2] at hown9; exact hown9
              exact ⟨va, vc, rfl, ((below_new wr _).drew).trans (hb9.mono (by show wr.heap.size ≤ (wr.alloc _).heap.size; simp)), hown9', by rw [cell_at hnw]; rfl, by rw [cell_at hnw]; rfl, by rw [cell_at hnw]; rfl, by rw [cell_at hnw]; rfl,
                Lib.frozen_of_heap hnw 0, Lib.frozen_of_heap hnw 1, Lib.frozen_of_heap hnw 2, Lib.frozen_of_heap hnw 3, hnw⟩))
            clear hres hfp hfg h14 hR2 hNF hn0 hbel
            go_wp2_with fail
            refine (NM.out).mono ?_
            rintro e w5 ⟨rfl, rfl⟩
            go_wp2_with fail
            refine (NK.out).mono ?_
            rintro e w5 ⟨rfl, rfl⟩
            go_wp2_with fail
            go_region_with (first | (go_at_call 74; refine NA.out.mono ?_; rintro e W9 ⟨va, vc, rfl, hb9, hownP⟩) | (go_at_call 74; refine NB.out.mono ?_; rintro e W9 ⟨va, vc, rfl, hb9, hownP, b0, b1, b2, b3, b4, b5, b6, b7, b8⟩))
            · have hb' : Below w5.heap.size w5 (W9.alloc (.cells #[str T, str s.ind, str s.data, .slice va s.subs.length vc] 62)) := hb9.alloc hb9.size _
              have hnw : (W9.alloc (.cells #[str T, str s.ind, str s.data, .slice va s.subs.length vc] 62)).heap[W9.heap.size]? = some (.cells #[str T, str s.ind, str s.data, .slice va s.subs.length vc] 62 (0, 0)) := new_at _ _
              have hge : w5.heap.size ≤ W9.heap.size := hb9.size
              replace hownP := own_le (hownP.alloc (.cells #[str T, str s.ind, str s.data, .slice va s.subs.length vc] 62)) (show pb + 1 ≤ w5.heap.size from hpbw)
              obtain ⟨WP, hWP⟩ : ∃ WP, W9.alloc (.cells #[str T, str s.ind, str s.data, .slice va s.subs.length vc] 62) = WP := ⟨_, rfl⟩
              obtain ⟨nb, hnb⟩ : ∃ nb, W9.heap.size = nb := ⟨_, rfl⟩
              rw [hWP] at hb' hnw hownP ⊢
              rw [hnb] at hnw hge ⊢
              clear hWP hnb hb9
              have hrec := Hrec.out.below hb' (Nat.le_refl _)
              have hsubs : ∀ p ∈ acc2, WP.ownsRow (pb + 1) 64 2 p.2 p.1.subs.length (subCells p.1.subs) := fun p hp => own_same (Hsubs.out p hp) (fun g _ hg => hb'.block g hg)
              have hn0 := (hb'.block w.heap.size (lt_at Hn0.out)).trans Hn0.out
              have hbel := Hbel.out.trans (hb'.mono Hbel.out.size)
              obtain ⟨sa, sc, rfl⟩ := hrec.form
              obtain ⟨r0, r1, r2, t0, t1, t2⟩ := hrec.cells
              have u0 : WP.cell? ⟨nb, 0, none⟩ = some (str T) := by rw [cell_at hnw]; rfl
              have u1 : WP.cell? ⟨nb, 1, none⟩ = some (str s.ind) := by rw [cell_at hnw]; rfl
              have u2 : WP.cell? ⟨nb, 2, none⟩ = some (str s.data) := by rw [cell_at hnw]; rfl
              have u3 : WP.cell? ⟨nb, 3, none⟩ = some (.slice va s.subs.length vc) := by rw [cell_at hnw]; rfl
              obtain ⟨i0', hi, hz0, hz1, hz2⟩ := info_parts infoFld
              have hpw := lt_at hrec.1
              have Hrec' := Lib.hid hrec
              have Hsubs' := Lib.hid hsubs
              have Hn0' := Lib.hid hn0
              have Hbel' := Lib.hid hbel
              have Hown' := Lib.hid hownP
              have hal : acc2.length ≤ 999 := by have := Hq2.out; have := Hacc2.out; omega
              clear hrec hsubs hn0 hbel hownP hnw hb' hge
              go_wp2_with (at_builtin; refine wpList_append_own _ rfl _ _ 25 rfl (pb + 1) 62 i0' _ 4 72 Tryd.underlying25 hi hz0 hz1 hz2 rfl (by decide) _ _ _ rfl (Hrec'.out.2.alloc _) ⟨WP.heap.size, 0, none⟩ 1 1 [str T, str s.ind, str s.data, .slice va s.subs.length vc] rfl rfl ?ca1 ?ca2 ?ca3 ?ca4 ?ca5 ?_)
              case ca1 => exact fld_cells WP _ _ _ _ _
              case ca2 => simp [Value.oneCell']
              case ca3 => unfold maxLen; omega
              case ca4 => omega
              case ca5 => simp; omega
              intro v' w8 hown8 hgrow _
              obtain ⟨na, nc, rfl⟩ := own_form hown8
              obtain ⟨g1, g2, g3, g4, g5⟩ := RecO.app (f := ⟨T, s.ind, s.data, s.subs⟩) Hrec'.out hown8 hgrow
              have hpb2 : w.heap.size < pb := by omega
              have hsub9 : ∀ p ∈ acc2 ++ [((⟨T, s.ind, s.data, s.subs⟩ : FldM), Value.slice va s.subs.length vc)], (w8.setCell ⟨pb, 2, none⟩ (.slice na (acc2.length + 1) nc)).ownsRow (pb + 1) 64 2 p.2 p.1.subs.length (subCells p.1.subs) := by
                intro p hp
                rcases List.mem_append.1 hp with hp | hp
                · exact sub_kept Hrec'.out g5 (Hsubs'.out p hp)
                · rw [List.mem_singleton.1 hp]; exact sub_kept Hrec'.out g5 Hown'.out
              have hn9 := (g5 w.heap.size (by omega) (by omega) (own_ty (e := 62) Hrec'.out.2 Hn0'.out (by decide))).trans Hn0'.out
              have hbel9 := Hbel'.out.trans (g4 _ (Nat.le_of_lt hpb2))
              have Hg1 := Lib.hid g1
              have Hsub9 := Lib.hid hsub9
              have Hn9 := Lib.hid hn9
              have Hbel9 := Lib.hid hbel9
              clear g1 g4 g5 hsub9 hn9 hbel9 hown8 hgrow hi hz0 hz1 hz2 r0 r1 r2 t0 t1 u0 u1 u2 u3
              go_wp2
              go_roundw
              case rel => exact ⟨q2 + 1, sum2 + mv, es3, acc2 ++ [(⟨T, s.ind, s.data, s.subs⟩, .slice va s.subs.length vc)], _, by have := Hq2.out; omega, by rw [Ha2.out], by rw [Hg2.out, Ha2.out, ← Ha12.out]; exact Hdir3.out, by rw [List.length_append, Hacc2.out]; rfl, Hg1.out, Hsub9.out, Hn9.out, Hbel9.out, by rw [List.map_append]; exact HR2.out⟩
              case measure => have := Ha12.out; have := Hah.out; simp [intOf]; omega

            · have hb' : Below w5.heap.size w5 (fin4 W9 w5.heap.size (str T) (str s.ind) (str s.data) (.slice va s.subs.length vc)) := by
                unfold fin4
                exact (((hb9.setCell (p := ⟨w5.heap.size, 0, none⟩) (Nat.le_refl _) _).setCell (p := ⟨w5.heap.size, 1, none⟩) (Nat.le_refl _) _).setCell (p := ⟨w5.heap.size, 2, none⟩) (Nat.le_refl _) _).setCell (p := ⟨w5.heap.size, 3, none⟩) (Nat.le_refl _) _
              have hnw : (fin4 W9 w5.heap.size (str T) (str s.ind) (str s.data) (.slice va s.subs.length vc)).heap[w5.heap.size]? = some (.cells #[str T, str s.ind, str s.data, .slice va s.subs.length vc] 62 (0, 0)) := by
                have := blk_set (blk_set (blk_set (blk_set b8 0 (str T)) 1 (str s.ind)) 2 (str s.data)) 3 (.slice va s.subs.length vc)
                unfold fin4
                simpa using this
              have hge : w5.heap.size ≤ w5.heap.size := Nat.le_refl _
              replace hownP : (fin4 W9 w5.heap.size (str T) (str s.ind) (str s.data) (.slice va s.subs.length vc)).ownsRow (pb + 1) 64 2 (.slice va s.subs.length vc) s.subs.length (subCells s.subs) := own_le (own_same hownP (fun g hg _ => by unfold fin4; rw [far_set _ _ 3 _ (by omega), far_set _ _ 2 _ (by omega), far_set _ _ 1 _ (by omega), far_set _ _ 0 _ (by omega)])) (by omega)
              obtain ⟨WP, hWP⟩ : ∃ WP, fin4 W9 w5.heap.size (str T) (str s.ind) (str s.data) (.slice va s.subs.length vc) = WP := ⟨_, rfl⟩
              rw [hWP] at hb' hnw hownP
              unfold fin4 at hWP
              rw [hWP]
              obtain ⟨nb, hnb⟩ : ∃ nb, w5.heap.size = nb := ⟨_, rfl⟩
              rw [hnb] at hnw ⊢
              replace hge : w5.heap.size ≤ nb := Nat.le_of_eq hnb
              clear hWP hb9 b0 b1 b2 b3 b4 b5 b6 b7 b8
              have hrec := Hrec.out.below hb' (Nat.le_refl _)
              have hsubs : ∀ p ∈ acc2, WP.ownsRow (pb + 1) 64 2 p.2 p.1.subs.length (subCells p.1.subs) := fun p hp => own_same (Hsubs.out p hp) (fun g _ hg => hb'.block g hg)
              have hn0 := (hb'.block w.heap.size (lt_at Hn0.out)).trans Hn0.out
              have hbel := Hbel.out.trans (hb'.mono Hbel.out.size)
              obtain ⟨sa, sc, rfl⟩ := hrec.form
              obtain ⟨r0, r1, r2, t0, t1, t2⟩ := hrec.cells
              have u0 : WP.cell? ⟨nb, 0, none⟩ = some (str T) := by rw [cell_at hnw]; rfl
              have u1 : WP.cell? ⟨nb, 1, none⟩ = some (str s.ind) := by rw [cell_at hnw]; rfl
              have u2 : WP.cell? ⟨nb, 2, none⟩ = some (str s.data) := by rw [cell_at hnw]; rfl
              have u3 : WP.cell? ⟨nb, 3, none⟩ = some (.slice va s.subs.length vc) := by rw [cell_at hnw]; rfl
              obtain ⟨i0', hi, hz0, hz1, hz2⟩ := info_parts infoFld
              have hpw := lt_at hrec.1
              have Hrec' := Lib.hid hrec
              have Hsubs' := Lib.hid hsubs
              have Hn0' := Lib.hid hn0
              have Hbel' := Lib.hid hbel
              have Hown' := Lib.hid hownP
              have hal : acc2.length ≤ 999 := by have := Hq2.out; have := Hacc2.out; omega
              clear hrec hsubs hn0 hbel hownP hnw hb' hge
              go_wp2_with (at_builtin; refine wpList_append_own _ rfl _ _ 25 rfl (pb + 1) 62 i0' _ 4 72 Tryd.underlying25 hi hz0 hz1 hz2 rfl (by decide) _ _ _ rfl (Hrec'.out.2.alloc _) ⟨WP.heap.size, 0, none⟩ 1 1 [str T, str s.ind, str s.data, .slice va s.subs.length vc] rfl rfl ?cb1 ?cb2 ?cb3 ?cb4 ?cb5 ?_)
              case cb1 => exact fld_cells WP _ _ _ _ _
              case cb2 => simp [Value.oneCell']
              case cb3 => unfold maxLen; omega
              case cb4 => omega
              case cb5 => simp; omega
              intro v' w8 hown8 hgrow _
              obtain ⟨na, nc, rfl⟩ := own_form hown8
              obtain ⟨g1, g2, g3, g4, g5⟩ := RecO.app (f := ⟨T, s.ind, s.data, s.subs⟩) Hrec'.out hown8 hgrow
              have hpb2 : w.heap.size < pb := by omega
              have hsub9 : ∀ p ∈ acc2 ++ [((⟨T, s.ind, s.data, s.subs⟩ : FldM), Value.slice va s.subs.length vc)], (w8.setCell ⟨pb, 2, none⟩ (.slice na (acc2.length + 1) nc)).ownsRow (pb + 1) 64 2 p.2 p.1.subs.length (subCells p.1.subs) := by
                intro p hp
                rcases List.mem_append.1 hp with hp | hp
                · exact sub_kept Hrec'.out g5 (Hsubs'.out p hp)
                · rw [List.mem_singleton.1 hp]; exact sub_kept Hrec'.out g5 Hown'.out
              have hn9 := (g5 w.heap.size (by omega) (by omega) (own_ty (e := 62) Hrec'.out.2 Hn0'.out (by decide))).trans Hn0'.out
              have hbel9 := Hbel'.out.trans (g4 _ (Nat.le_of_lt hpb2))
              have Hg1 := Lib.hid g1
              have Hsub9 := Lib.hid hsub9
              have Hn9 := Lib.hid hn9
              have Hbel9 := Lib.hid hbel9
              clear g1 g4 g5 hsub9 hn9 hbel9 hown8 hgrow hi hz0 hz1 hz2 r0 r1 r2 t0 t1 u0 u1 u2 u3
              go_wp2
              go_roundw
              case rel => exact ⟨q2 + 1, sum2 + mv, es3, acc2 ++ [(⟨T, s.ind, s.data, s.subs⟩, .slice va s.subs.length vc)], _, by have := Hq2.out; omega, by rw [Ha2.out], by rw [Hg2.out, Ha2.out, ← Ha12.out]; exact Hdir3.out, by rw [List.length_append, Hacc2.out]; rfl, Hg1.out, Hsub9.out, Hn9.out, Hbel9.out, by rw [List.map_append]; exact HR2.out⟩
              case measure => have := Ha12.out; have := Hah.out; simp [intOf]; omega


        · have hqq : q2 = q := by have := Hfh1.out; omega
          subst hqq
          rw [Nat.sub_self] at hdir
          have he2 : es2 = [] := by cases hdir; rfl
          rw [he2] at hres
          have hR2 : R = .ok ⟨x6, x7, acc2.map (fun p => p.1)⟩ := by rw [hres]; simp [fieldsP, preF, finG]
          have HR2 := Lib.hid hR2
          have hfh := Hfh1.out
          have kc : ¬ (((24 + 12 * q2 : Nat) : Int) < (h1 : Int)) := by omega
          have kc2 : ¬ ((24 + 12 * q2 : Nat) < h1) := by omega
          have kc3 : h1 ≤ 24 + 12 * q2 := by omega
          obtain ⟨a, ha⟩ : ∃ a, 24 + 12 * q2 = a := ⟨_, rfl⟩
          rw [ha] at kc kc2 kc3 ⊢
          clear hacc2
          obtain ⟨sa, sc, rfl⟩ := hrec.form
          obtain ⟨r0, r1, r2, -, -, -⟩ := hrec.cells
          have Hrec := Lib.hid hrec
          have Hsubs := Lib.hid hsubs
          clear hres hR2 hdir he2 hrec hsubs hfh ha
          obtain ⟨o0, o1, o2, o3, o4, o5⟩ := rec_old hn0
          have hfin := rec_fin hn0 hbel (Nat.le_refl _) (.int .u8 (x6.toNat : Int)) (.int .u8 (x7.toNat : Int)) (.slice sa acc2.length sc)
          unfold fin3 at hfin
          obtain ⟨WF, hWF⟩ : ∃ WF, ((World.setCell wr ⟨w.heap.size, 0, none⟩ (.int .u8 (x6.toNat : Int))).setCell ⟨w.heap.size, 1, none⟩ (.int .u8 (x7.toNat : Int))).setCell ⟨w.heap.size, 2, none⟩ (.slice sa acc2.length sc) = WF := ⟨_, rfl⟩
          rw [hWF] at hfin
          have Hfin := Lib.hid hfin
          have HWF := Lib.hid hWF
          clear hfin hWF

          have Hpbne := Lib.hid (show w.heap.size < pb by omega)
          clear hn0 hbel
          go_wp2_with fail
          rw [HWF.out]
          obtain ⟨hp1, hp2, q0, q1, q2⟩ := Hfin.out
          simp [bodyPost, results, Tryd.results50, go_sem, q0, q1, q2]
          rw [HR2.out]
          have hne := Hpbne.out
          refine ⟨_, rfl, hp1, flds_of_own (own_same Hrec.out.2 (fun g hg _ => hp2 g (by omega))) (fun p hp => subs_of_own (own_same (Hsubs.out p hp) (fun g hg _ => hp2 g (by omega))))⟩

end Go.Proofs.YtpfnmjcomdckgaaDoor
