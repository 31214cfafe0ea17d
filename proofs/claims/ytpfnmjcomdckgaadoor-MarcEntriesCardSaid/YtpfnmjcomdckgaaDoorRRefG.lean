/-
  The reference's field: a control field.
-/
import Derived.Test.YtpfnmjcomdckgaaDoorRRefF
namespace Go.Proofs.YtpfnmjcomdckgaaDoor
open Go.RowKit Go.Shelf
set_option linter.unusedVariables false
set_option linter.unusedSimpArgs false

set_option maxRecDepth 100000 in
set_option maxHeartbeats 8000000 in
theorem rField_ctl (tag bs : List UInt8) (h3 : tag.length = 3) (hl : bs.length ≤ 1099511627776) (h1l : 1 ≤ bs.length) (w : World) (ht : ctlB tag = true) :
    Calls Tryd.prog 74 #[str tag, str bs] w (FRPost tag (runF true bs bs.length 0 ⟨false, [], [], [], ⟨0, 0, 0⟩⟩) w) := by
  have hsz := size_str bs
  have NC := Lib.hid (fun W => rControl_c tag (by omega) (by omega) W)
  rw [ht] at NC
  obtain ⟨R, hR⟩ : ∃ R, runF true bs bs.length 0 ⟨false, [], [], [], ⟨0, 0, 0⟩⟩ = R := ⟨_, rfl⟩
  rw [hR]
  have HR := Lib.hid hR
  have hst := FInv.start tag w
  clear hR ht
  go_enter Tryd.func74, Tryd.ntmps74
  go_wp2_with fail
  obtain ⟨W1, hW1⟩ : ∃ W1, ((w.alloc (.cells #[.string ⟨#[]⟩, .string ⟨#[]⟩, .string ⟨#[]⟩, .slice none 0 0] 62)).alloc (.cells #[str tag, .string ⟨#[]⟩, .string ⟨#[]⟩, .slice none 0 0] 62)).alloc (.cells #[.int .i64 0, .int .i64 0, .int .i64 0] 125) = W1 := ⟨_, rfl⟩
  rw [hW1] at hst ⊢
  have Hst := Lib.hid hst
  clear hst hW1
  refine (NC.out _).mono ?_
  rintro e w1 ⟨rfl, rfl⟩
  go_wp2_with fail
  clear NC
  go_loopw [9, 10] (fun ev iv wr => ∃ (k : Nat) (s : FS) (sv : Value), k ≤ bs.length ∧ ev = .bool s.done ∧ iv = .int .i64 k ∧ FInv tag w.heap.size w wr k s sv ∧ R = runF true bs (bs.length - k) k s) (fun _ iv _ => bs.length - (intOf iv).toNat)
  case atStart => exact ⟨0, ⟨false, [], [], [], ⟨0, 0, 0⟩⟩, _, Nat.zero_le _, rfl, rfl, Hst.out, by rw [Nat.sub_zero]; exact HR.out.symm⟩
  case round =>
    obtain ⟨k, ⟨done, ind, data, subs, ⟨l, lo, hi⟩⟩, sv, hk, rfl, rfl, hinv, hres⟩ := hrel
    clear Hst HR
    obtain ⟨sa, sc, rfl⟩ := own_form hinv.own
    have hli := hinv.li
    have hld := hinv.ld
    have hls := hinv.ls
    simp only at hli hld hls
    have HI := Lib.hid hinv
    obtain ⟨c0, c1, c2, c3, f1, f2, f3⟩ := hinv.base.cells
    obtain ⟨y0, y1, y2, y3, y4, y5, y6, y7⟩ := hinv.base.resf
    obtain ⟨x0, -, -, -, -, -⟩ := hinv.ch.cells
    have hleft := hinv.left
    simp only at c0 c1 c2 c3 x0 hleft
    clear hinv
    by_cases hlt : k < bs.length
    · obtain ⟨c, hc⟩ : ∃ c, bs.getD k 0 = c := ⟨_, rfl⟩
      have hg : ∀ h, (ByteArray.mk bs.toArray)[k]'h = c := fun h => by rw [← hc, getD_at bs k hlt]; rfl
      have i0 : (0 : Int) ≤ (k : Int) := by omega
      have i1 : (k : Int) < (bs.length : Int) := by omega
      obtain ⟨n, hn⟩ : ∃ n, bs.length - k = n + 1 := ⟨bs.length - k - 1, by omega⟩
      have hn1 : bs.length - (k + 1) = n := by omega
      rw [hn] at hres
      obtain ⟨z, hz⟩ : ∃ z, k + 1 = z := ⟨_, rfl⟩
      have hex := ext_mid bs k z
      have hone : (bs.drop k).take (z - k) = [c] := by
        rw [show z - k = 1 by omega, List.drop_eq_getElem_cons hlt, ← hc, getD_at bs k hlt]; rfl
      rw [hone] at hex
      have jz : (k : Int) + 1 = (z : Int) := by omega
      have jz1 : (k : Int) ≤ (z : Int) := by omega
      have jz2 : (z : Int) ≤ (bs.length : Int) := by omega
      have jz3 : (0 : Int) ≤ (z : Int) := by omega
      have Hc := Lib.hid hc
      have Hn1 := Lib.hid hn1
      have Hz := Lib.hid hz
      have Hlt := Lib.hid hlt
      clear hone hn hn1 hz hc
      cases done with
      | true =>
        have hs : stepF true bs k ⟨true, ind, data, subs, ⟨l, lo, hi⟩⟩ = none := by
          unfold stepF; rw [if_pos rfl]
        have hR2 : R = .bad k 14 := by rw [hres, runF_none hs]
        have HR2 := Lib.hid hR2
        clear hs hR2 hres
        have hfin := (HI.out.base).fin
        unfold fin4 at hfin
        simp only at hfin
        obtain ⟨WF, hWF⟩ : ∃ WF, (((World.setCell wr ⟨w.heap.size, 0, none⟩ (str tag)).setCell ⟨w.heap.size, 1, none⟩ (str ind)).setCell ⟨w.heap.size, 2, none⟩ (str data)).setCell ⟨w.heap.size, 3, none⟩ (.slice sa subs.length sc) = WF := ⟨_, rfl⟩
        rw [hWF] at hfin
        have Hfin := Lib.hid hfin
        have HWF := Lib.hid hWF
        clear hfin hWF
        clear x0
        go_wp2_with fail
        rw [HWF.out]
        obtain ⟨hp1, hp2, q0, q1, q2, q3⟩ := Hfin.out
        simp [bodyPost, results, Tryd.results74, go_sem, q0, q1, q2, q3]
        rw [HR2.out]
        exact ⟨_, _, rfl, hp1, rfl, _, _, _, _, _, _, rfl⟩

      | false =>
        by_cases hl0 : l = 0
        · subst hl0
          by_cases h31 : c = 31
          · have j31 : ((c.toNat : Int) == 31) = true := by rw [h31]; rfl
            have h30 : c ≠ 30 := by rw [h31]; decide
            have j30 : ((c.toNat : Int) == 30) = false := by rw [h31]; rfl
            have hn : nextC ⟨0, lo, hi⟩ c = none := by rw [h31]; rfl
            have e31 : (c.toNat : Int) = 31 := by rw [h31]; rfl
            have h31 := Lib.hid h31
            have hstep : stepF true bs k ⟨false, ind, data, subs, ⟨0, lo, hi⟩⟩ = none := by
              unfold stepF
              rw [if_neg (by simp), if_neg (by simp), if_neg (by simp), if_neg (by simp), if_neg (by simp only [Hc.out]; simp [h30]), if_neg (by simp), Hc.out]
              simp only [hn]
            have hch := HI.out.ch
            have N := next_c (w.heap.size + 1 + 1) ⟨0, lo, hi⟩ c wr hch hleft
            unfold NextPost at N
            rw [hn] at N
            rw [e31] at N
            have N := Lib.hid N
            have hR2 : R = .bad k 14 := by rw [hres, runF_none hstep]
            have HR2 := Lib.hid hR2
            clear hstep hR2 hres hch hn
            go_wp2_with fail
            refine N.out.mono ?_
            rintro e w5 ⟨hg5, rfl⟩
            have hbn := HI.out.basen hg5
            clear c0 c1 c2 c3 f1 f2 f3 y0 y1 y2 y3 y4 y5 y6 y7 x0 N hg5
            obtain ⟨c0, c1, c2, c3, f1, f2, f3⟩ := (hbn).cells
            obtain ⟨y0, y1, y2, y3, y4, y5, y6, y7⟩ := (hbn).resf
            simp only at c0 c1 c2 c3

            have hfin := (hbn).fin
            unfold fin4 at hfin
            simp only at hfin
            obtain ⟨WF, hWF⟩ : ∃ WF, (((World.setCell w5 ⟨w.heap.size, 0, none⟩ (str tag)).setCell ⟨w.heap.size, 1, none⟩ (str ind)).setCell ⟨w.heap.size, 2, none⟩ (str data)).setCell ⟨w.heap.size, 3, none⟩ (.slice sa subs.length sc) = WF := ⟨_, rfl⟩
            rw [hWF] at hfin
            have Hfin := Lib.hid hfin
            have HWF := Lib.hid hWF
            clear hfin hWF

            clear hbn
            go_wp2_with fail
            rw [HWF.out]
            obtain ⟨hp1, hp2, q0, q1, q2, q3⟩ := Hfin.out
            simp [bodyPost, results, Tryd.results74, go_sem, q0, q1, q2, q3]
            rw [HR2.out]
            exact ⟨_, _, rfl, hp1, rfl, _, _, _, _, _, _, rfl⟩


          by_cases h30 : c = 30
          · have j31 : ((c.toNat : Int) == 31) = false := by rw [h30]; rfl
            have j30 : ((c.toNat : Int) == 30) = true := by rw [h30]; rfl
            have hs : stepF true bs k ⟨false, ind, data, subs, ⟨0, lo, hi⟩⟩ = some ⟨true, ind, data, subs, ⟨0, lo, hi⟩⟩ := by
              unfold stepF
              rw [if_neg (by simp), if_neg (by simp), if_neg (by simp), if_neg (by simp), if_pos (by simp only [Hc.out]; simp [h30])]
            have hR2 : R = runF true bs n (k + 1) ⟨true, ind, data, subs, ⟨0, lo, hi⟩⟩ := by rw [hres, runF_some hs]
            have HR2 := Lib.hid hR2
            clear hs hR2 hres h30 h31
            go_wp2
            go_roundw
            case rel => exact ⟨k + 1, ⟨true, ind, data, subs, ⟨0, lo, hi⟩⟩, _, by have := Hlt.out; omega, rfl, by go_num, ⟨HI.out.up.res, HI.out.up.fld, HI.out.up.ch, HI.out.up.left, HI.out.up.own, HI.out.up.bel, HI.out.up.hb, HI.out.up.li, HI.out.up.ld, HI.out.up.ls, HI.out.up.lt⟩, by rw [HR2.out, Hn1.out]⟩
            case measure => have := Hlt.out; simp [intOf]; omega

          have j31 : ((c.toNat : Int) == 31) = false := by rw [beq_eq_false_iff_ne]; intro e; apply h31; apply UInt8.toNat_inj.1; show c.toNat = 31; omega
          have j30 : ((c.toNat : Int) == 30) = false := by rw [beq_eq_false_iff_ne]; intro e; apply h30; apply UInt8.toNat_inj.1; show c.toNat = 30; omega
          have hstep : stepF true bs k ⟨false, ind, data, subs, ⟨0, lo, hi⟩⟩ = (match nextC ⟨0, lo, hi⟩ c with | none => none | some x => some ⟨false, ind, data ++ [c], subs, x⟩) := by
            unfold stepF
            rw [if_neg (by simp), if_neg (by simp), if_neg (by simp), if_neg (by simp), if_neg (by simp only [Hc.out]; simp [h30]), if_neg (by simp), Hc.out]
            rfl
          have hch := HI.out.ch
          have N := next_c (w.heap.size + 1 + 1) ⟨0, lo, hi⟩ c wr hch hleft
          unfold NextPost at N
          cases hn : nextC ⟨0, lo, hi⟩ c with
          | none =>
            rw [hn] at N hstep
            have N := Lib.hid N
            have hR2 : R = .bad k 14 := by rw [hres, runF_none hstep]
            have HR2 := Lib.hid hR2
            clear hstep hR2 hres hch hn
            go_wp2_with fail
            refine N.out.mono ?_
            rintro e w5 ⟨hg5, rfl⟩
            have hbn := HI.out.basen hg5
            clear c0 c1 c2 c3 f1 f2 f3 y0 y1 y2 y3 y4 y5 y6 y7 x0 N hg5
            obtain ⟨c0, c1, c2, c3, f1, f2, f3⟩ := (hbn).cells
            obtain ⟨y0, y1, y2, y3, y4, y5, y6, y7⟩ := (hbn).resf
            simp only at c0 c1 c2 c3

            have hfin := (hbn).fin
            unfold fin4 at hfin
            simp only at hfin
            obtain ⟨WF, hWF⟩ : ∃ WF, (((World.setCell w5 ⟨w.heap.size, 0, none⟩ (str tag)).setCell ⟨w.heap.size, 1, none⟩ (str ind)).setCell ⟨w.heap.size, 2, none⟩ (str data)).setCell ⟨w.heap.size, 3, none⟩ (.slice sa subs.length sc) = WF := ⟨_, rfl⟩
            rw [hWF] at hfin
            have Hfin := Lib.hid hfin
            have HWF := Lib.hid hWF
            clear hfin hWF

            clear hbn
            go_wp2_with fail
            rw [HWF.out]
            obtain ⟨hp1, hp2, q0, q1, q2, q3⟩ := Hfin.out
            simp [bodyPost, results, Tryd.results74, go_sem, q0, q1, q2, q3]
            rw [HR2.out]
            exact ⟨_, _, rfl, hp1, rfl, _, _, _, _, _, _, rfl⟩

          | some t =>
            rw [hn] at N hstep
            have N := Lib.hid N
            have hR2 : R = runF true bs n (k + 1) ⟨false, ind, data ++ [c], subs, t⟩ := by rw [hres, runF_some hstep]
            have HR2 := Lib.hid hR2
            have htl := nextC_left hn hleft
            clear hstep hR2 hres hch hn
            go_wp2_with fail
            refine N.out.mono ?_
            rintro e w5 ⟨hg5, rfl, htc⟩
            have hin := HI.out.next hg5 htc htl
            clear c0 c1 c2 c3 f1 f2 f3 y0 y1 y2 y3 y4 y5 y6 y7 x0 N hg5 htc
            obtain ⟨c0, c1, c2, c3, f1, f2, f3⟩ := hin.base.cells
            simp only at c0 c1 c2 c3
            have a1 := add_str data [c] (by simp; omega)
            obtain ⟨D, hD⟩ : ∃ D, data ++ [c] = D := ⟨_, rfl⟩
            rw [hD] at a1
            have hDl : D.length ≤ k + 1 := by rw [← hD]; simp; omega
            have HD := Lib.hid hD
            have Hin := Lib.hid (hin.up.data D hDl)
            clear hin hD c0 c1 c3
            go_wp2_with fail
            go_region
            go_wp2
            go_roundw
            case rel => exact ⟨k + 1, ⟨false, ind, D, subs, t⟩, _, by have := Hlt.out; omega, rfl, by go_num, by first | exact Hin.out | exact Hin.out.drew, by rw [HR2.out, Hn1.out, HD.out]⟩
            case measure => have := Hlt.out; simp [intOf]; omega


        · have hL : ((l : Int) == 0) = false := by rw [beq_eq_false_iff_ne]; omega
          have hl0 := Lib.hid hl0
          have hstep : stepF true bs k ⟨false, ind, data, subs, ⟨l, lo, hi⟩⟩ = (match nextC ⟨l, lo, hi⟩ c with | none => none | some x => some ⟨false, ind, data ++ [c], subs, x⟩) := by
            unfold stepF
            rw [if_neg (by simp), if_neg (by simp), if_neg (by simp), if_neg (by simp), if_neg (by simp only [Hc.out]; simp [hl0.out]), if_neg (by simp), Hc.out]
            rfl
          have hch := HI.out.ch
          have N := next_c (w.heap.size + 1 + 1) ⟨l, lo, hi⟩ c wr hch hleft
          unfold NextPost at N
          cases hn : nextC ⟨l, lo, hi⟩ c with
          | none =>
            rw [hn] at N hstep
            have N := Lib.hid N
            have hR2 : R = .bad k 14 := by rw [hres, runF_none hstep]
            have HR2 := Lib.hid hR2
            clear hstep hR2 hres hch hn
            go_wp2_with fail
            refine N.out.mono ?_
            rintro e w5 ⟨hg5, rfl⟩
            have hbn := HI.out.basen hg5
            clear c0 c1 c2 c3 f1 f2 f3 y0 y1 y2 y3 y4 y5 y6 y7 x0 N hg5
            obtain ⟨c0, c1, c2, c3, f1, f2, f3⟩ := (hbn).cells
            obtain ⟨y0, y1, y2, y3, y4, y5, y6, y7⟩ := (hbn).resf
            simp only at c0 c1 c2 c3

            have hfin := (hbn).fin
            unfold fin4 at hfin
            simp only at hfin
            obtain ⟨WF, hWF⟩ : ∃ WF, (((World.setCell w5 ⟨w.heap.size, 0, none⟩ (str tag)).setCell ⟨w.heap.size, 1, none⟩ (str ind)).setCell ⟨w.heap.size, 2, none⟩ (str data)).setCell ⟨w.heap.size, 3, none⟩ (.slice sa subs.length sc) = WF := ⟨_, rfl⟩
            rw [hWF] at hfin
            have Hfin := Lib.hid hfin
            have HWF := Lib.hid hWF
            clear hfin hWF

            clear hbn
            go_wp2_with fail
            rw [HWF.out]
            obtain ⟨hp1, hp2, q0, q1, q2, q3⟩ := Hfin.out
            simp [bodyPost, results, Tryd.results74, go_sem, q0, q1, q2, q3]
            rw [HR2.out]
            exact ⟨_, _, rfl, hp1, rfl, _, _, _, _, _, _, rfl⟩

          | some t =>
            rw [hn] at N hstep
            have N := Lib.hid N
            have hR2 : R = runF true bs n (k + 1) ⟨false, ind, data ++ [c], subs, t⟩ := by rw [hres, runF_some hstep]
            have HR2 := Lib.hid hR2
            have htl := nextC_left hn hleft
            clear hstep hR2 hres hch hn
            go_wp2_with fail
            refine N.out.mono ?_
            rintro e w5 ⟨hg5, rfl, htc⟩
            have hin := HI.out.next hg5 htc htl
            clear c0 c1 c2 c3 f1 f2 f3 y0 y1 y2 y3 y4 y5 y6 y7 x0 N hg5 htc
            obtain ⟨c0, c1, c2, c3, f1, f2, f3⟩ := hin.base.cells
            simp only at c0 c1 c2 c3
            have a1 := add_str data [c] (by simp; omega)
            obtain ⟨D, hD⟩ : ∃ D, data ++ [c] = D := ⟨_, rfl⟩
            rw [hD] at a1
            have hDl : D.length ≤ k + 1 := by rw [← hD]; simp; omega
            have HD := Lib.hid hD
            have Hin := Lib.hid (hin.up.data D hDl)
            clear hin hD c0 c1 c3
            go_wp2_with fail
            go_region
            go_wp2
            go_roundw
            case rel => exact ⟨k + 1, ⟨false, ind, D, subs, t⟩, _, by have := Hlt.out; omega, rfl, by go_num, by first | exact Hin.out | exact Hin.out.drew, by rw [HR2.out, Hn1.out, HD.out]⟩
            case measure => have := Hlt.out; simp [intOf]; omega


    · have hkl : k = bs.length := by omega
      subst hkl
      rw [Nat.sub_self] at hres
      have hd2 : decide (bs.length < bs.length) = false := by simp
      cases done with
      | true =>
        have hR2 : R = .ok ⟨true, ind, data, subs, ⟨l, lo, hi⟩⟩ := hres
        have HR2 := Lib.hid hR2
        clear hR2 hres x0
        have hfin := (HI.out.base).fin
        unfold fin4 at hfin
        simp only at hfin
        obtain ⟨WF, hWF⟩ : ∃ WF, (((World.setCell wr ⟨w.heap.size, 0, none⟩ (str tag)).setCell ⟨w.heap.size, 1, none⟩ (str ind)).setCell ⟨w.heap.size, 2, none⟩ (str data)).setCell ⟨w.heap.size, 3, none⟩ (.slice sa subs.length sc) = WF := ⟨_, rfl⟩
        rw [hWF] at hfin
        have Hfin := Lib.hid hfin
        have HWF := Lib.hid hWF
        clear hfin hWF

        go_wp2_with fail
        rw [HWF.out]
        obtain ⟨hp1, hp2, q0, q1, q2, q3⟩ := Hfin.out
        simp [bodyPost, results, Tryd.results74, go_sem, q0, q1, q2, q3]
        rw [HR2.out]
        exact ⟨_, _, rfl, hp1, rfl, _, rfl, hp2⟩

      | false =>
        have hR2 : R = .bad (bs.length - 1) 14 := hres
        have HR2 := Lib.hid hR2
        obtain ⟨m, hm⟩ : ∃ m, bs.length - 1 = m := ⟨_, rfl⟩
        have jm : (bs.length : Int) - 1 = (m : Int) := by omega
        have Hm := Lib.hid hm
        clear hR2 hres x0 hm
        have hfin := (HI.out.base).fin
        unfold fin4 at hfin
        simp only at hfin
        obtain ⟨WF, hWF⟩ : ∃ WF, (((World.setCell wr ⟨w.heap.size, 0, none⟩ (str tag)).setCell ⟨w.heap.size, 1, none⟩ (str ind)).setCell ⟨w.heap.size, 2, none⟩ (str data)).setCell ⟨w.heap.size, 3, none⟩ (.slice sa subs.length sc) = WF := ⟨_, rfl⟩
        rw [hWF] at hfin
        have Hfin := Lib.hid hfin
        have HWF := Lib.hid hWF
        clear hfin hWF

        go_wp2_with fail
        rw [HWF.out]
        obtain ⟨hp1, hp2, q0, q1, q2, q3⟩ := Hfin.out
        simp [bodyPost, results, Tryd.results74, go_sem, q0, q1, q2, q3]
        rw [HR2.out]
        exact ⟨_, _, rfl, hp1, by rw [Hm.out], _, _, _, _, _, _, rfl⟩

end Go.Proofs.YtpfnmjcomdckgaaDoor
