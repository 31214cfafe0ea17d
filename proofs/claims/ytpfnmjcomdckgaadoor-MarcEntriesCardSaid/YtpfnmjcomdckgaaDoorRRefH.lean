/-
  The reference's field: a field with subfields.
-/
import Derived.Test.YtpfnmjcomdckgaaDoorRRefF
namespace Go.Proofs.YtpfnmjcomdckgaaDoor
open Go.RowKit Go.Shelf
set_option linter.unusedVariables false
set_option linter.unusedSimpArgs false

set_option maxRecDepth 100000 in
set_option maxHeartbeats 40000000 in
theorem rField_var (tag bs : List UInt8) (h3 : tag.length = 3) (hl : bs.length ≤ 1099511627776) (h1l : 1 ≤ bs.length) (w : World) (ht : ctlB tag = false) :
    Calls Tryd.prog 74 #[str tag, str bs] w (FRPost tag (runF false bs bs.length 0 ⟨false, [], [], [], ⟨0, 0, 0⟩⟩) w) := by
  have hsz := size_str bs
  have NC := Lib.hid (fun W => rControl_c tag (by omega) (by omega) W)
  rw [ht] at NC
  obtain ⟨R, hR⟩ : ∃ R, runF false bs bs.length 0 ⟨false, [], [], [], ⟨0, 0, 0⟩⟩ = R := ⟨_, rfl⟩
  rw [hR]
  have HR := Lib.hid hR
  have hst := FInv.start tag w
  clear hR ht
  go_enter Tryd.func74, Tryd.ntmps74
  go_wp2_with fail
  obtain ⟨W1, hW1⟩ : ∃ W1, ((w.alloc (.cells #[.string ⟨#[]⟩, .string ⟨#[]⟩, .string ⟨#[]⟩, .slice none 0 0] 62)).alloc (.cells #[str tag, .string ⟨#[]⟩, .string ⟨#[]⟩, .slice none 0 0] 62)).alloc (.cells #[.int .i64 0, .int .i64 0, .int .i64 0] 125) = W1 := ⟨_, rfl⟩
  rw [hW1] at hst ⊢
  have Hst := Lib.hid hst
  clear hst hW1
  refine (NC.out _).mono ?_
  rintro e w1 ⟨rfl, rfl⟩
  go_wp2_with fail
  clear NC
  go_loopw [9, 10] (fun ev iv wr => ∃ (k : Nat) (s : FS) (sv : Value), k ≤ bs.length ∧ ev = .bool s.done ∧ iv = .int .i64 k ∧ FInv tag w.heap.size w wr k s sv ∧ R = runF false bs (bs.length - k) k s) (fun _ iv _ => bs.length - (intOf iv).toNat)
  case atStart => exact ⟨0, ⟨false, [], [], [], ⟨0, 0, 0⟩⟩, _, Nat.zero_le _, rfl, rfl, Hst.out, by rw [Nat.sub_zero]; exact HR.out.symm⟩
  case round =>
    obtain ⟨k, ⟨done, ind, data, subs, ⟨l, lo, hi⟩⟩, sv, hk, rfl, rfl, hinv, hres⟩ := hrel
    clear Hst HR
    obtain ⟨sa, sc, rfl⟩ := own_form hinv.own
    have hli := hinv.li
    have hld := hinv.ld
    have hls := hinv.ls
    simp only at hli hld hls
    have HI := Lib.hid hinv
    obtain ⟨c0, c1, c2, c3, f1, f2, f3⟩ := hinv.base.cells
    obtain ⟨y0, y1, y2, y3, y4, y5, y6, y7⟩ := hinv.base.resf
    obtain ⟨x0, -, -, -, -, -⟩ := hinv.ch.cells
    have hleft := hinv.left
    simp only at c0 c1 c2 c3 x0 hleft
    clear hinv
    by_cases hlt : k < bs.length
    · obtain ⟨c, hc⟩ : ∃ c, bs.getD k 0 = c := ⟨_, rfl⟩
      have hg : ∀ h, (ByteArray.mk bs.toArray)[k]'h = c := fun h => by rw [← hc, getD_at bs k hlt]; rfl
      have i0 : (0 : Int) ≤ (k : Int) := by omega
      have i1 : (k : Int) < (bs.length : Int) := by omega
      obtain ⟨n, hn⟩ : ∃ n, bs.length - k = n + 1 := ⟨bs.length - k - 1, by omega⟩
      have hn1 : bs.length - (k + 1) = n := by omega
      rw [hn] at hres
      obtain ⟨z, hz⟩ : ∃ z, k + 1 = z := ⟨_, rfl⟩
      have hex := ext_mid bs k z
      have hone : (bs.drop k).take (z - k) = [c] := by
        rw [show z - k = 1 by omega, List.drop_eq_getElem_cons hlt, ← hc, getD_at bs k hlt]; rfl
      rw [hone] at hex
      have jz : (k : Int) + 1 = (z : Int) := by omega
      have jz1 : (k : Int) ≤ (z : Int) := by omega
      have jz2 : (z : Int) ≤ (bs.length : Int) := by omega
      have jz3 : (0 : Int) ≤ (z : Int) := by omega
      have Hc := Lib.hid hc
      have Hn1 := Lib.hid hn1
      have Hz := Lib.hid hz
      have Hlt := Lib.hid hlt
      clear hone hn hn1 hz hc
      cases done with
      | true =>
        have hs : stepF false bs k ⟨true, ind, data, subs, ⟨l, lo, hi⟩⟩ = none := by
          unfold stepF; rw [if_pos rfl]
        have hR2 : R = .bad k 14 := by rw [hres, runF_none hs]
        have HR2 := Lib.hid hR2
        clear hs hR2 hres
        have hfin := (HI.out.base).fin
        unfold fin4 at hfin
        simp only at hfin
        obtain ⟨WF, hWF⟩ : ∃ WF, (((World.setCell wr ⟨w.heap.size, 0, none⟩ (str tag)).setCell ⟨w.heap.size, 1, none⟩ (str ind)).setCell ⟨w.heap.size, 2, none⟩ (str data)).setCell ⟨w.heap.size, 3, none⟩ (.slice sa subs.length sc) = WF := ⟨_, rfl⟩
        rw [hWF] at hfin
        have Hfin := Lib.hid hfin
        have HWF := Lib.hid hWF
        clear hfin hWF
        clear x0
        go_wp2_with fail
        rw [HWF.out]
        obtain ⟨hp1, hp2, q0, q1, q2, q3⟩ := Hfin.out
        simp [bodyPost, results, Tryd.results74, go_sem, q0, q1, q2, q3]
        rw [HR2.out]
        exact ⟨_, _, rfl, hp1, rfl, _, _, _, _, _, _, rfl⟩

      | false =>
        by_cases hk2 : k < 2
        · have jk2 : (k : Int) < 2 := by omega
          by_cases hlo : c.toNat < 32
          · have jc : (c.toNat : Int) < 32 := by omega
            have hib : indB c = false := by unfold indB; simp; omega
            have hs : stepF false bs k ⟨false, ind, data, subs, ⟨l, lo, hi⟩⟩ = none := by
              unfold stepF
              rw [if_neg (by simp), if_pos (by simp [hk2]), Hc.out, hib, if_neg (by decide)]
            have hR2 : R = .bad k 14 := by rw [hres, runF_none hs]
            have HR2 := Lib.hid hR2
            clear hs hR2 hres
            have hfin := (HI.out.base).fin
            unfold fin4 at hfin
            simp only at hfin
            obtain ⟨WF, hWF⟩ : ∃ WF, (((World.setCell wr ⟨w.heap.size, 0, none⟩ (str tag)).setCell ⟨w.heap.size, 1, none⟩ (str ind)).setCell ⟨w.heap.size, 2, none⟩ (str data)).setCell ⟨w.heap.size, 3, none⟩ (.slice sa subs.length sc) = WF := ⟨_, rfl⟩
            rw [hWF] at hfin
            have Hfin := Lib.hid hfin
            have HWF := Lib.hid hWF
            clear hfin hWF
            go_wp2_with fail
            rw [HWF.out]
            obtain ⟨hp1, hp2, q0, q1, q2, q3⟩ := Hfin.out
            simp [bodyPost, results, Tryd.results74, go_sem, q0, q1, q2, q3]
            rw [HR2.out]
            exact ⟨_, _, rfl, hp1, rfl, _, _, _, _, _, _, rfl⟩

          by_cases hhi : 126 < c.toNat
          · have jc : ¬ (c.toNat : Int) < 32 := by omega
            have jd : (126 : Int) < (c.toNat : Int) := by omega
            have hib : indB c = false := by unfold indB; simp; omega
            have hs : stepF false bs k ⟨false, ind, data, subs, ⟨l, lo, hi⟩⟩ = none := by
              unfold stepF
              rw [if_neg (by simp), if_pos (by simp [hk2]), Hc.out, hib, if_neg (by decide)]
            have hR2 : R = .bad k 14 := by rw [hres, runF_none hs]
            have HR2 := Lib.hid hR2
            clear hs hR2 hres
            have hfin := (HI.out.base).fin
            unfold fin4 at hfin
            simp only at hfin
            obtain ⟨WF, hWF⟩ : ∃ WF, (((World.setCell wr ⟨w.heap.size, 0, none⟩ (str tag)).setCell ⟨w.heap.size, 1, none⟩ (str ind)).setCell ⟨w.heap.size, 2, none⟩ (str data)).setCell ⟨w.heap.size, 3, none⟩ (.slice sa subs.length sc) = WF := ⟨_, rfl⟩
            rw [hWF] at hfin
            have Hfin := Lib.hid hfin
            have HWF := Lib.hid hWF
            clear hfin hWF
            go_wp2_with fail
            rw [HWF.out]
            obtain ⟨hp1, hp2, q0, q1, q2, q3⟩ := Hfin.out
            simp [bodyPost, results, Tryd.results74, go_sem, q0, q1, q2, q3]
            rw [HR2.out]
            exact ⟨_, _, rfl, hp1, rfl, _, _, _, _, _, _, rfl⟩

          have hib : indB c = true := by unfold indB; simp; omega
          have jc : ¬ (c.toNat : Int) < 32 := by omega
          have jd : ¬ (126 : Int) < (c.toNat : Int) := by omega
          have hs : stepF false bs k ⟨false, ind, data, subs, ⟨l, lo, hi⟩⟩ = some ⟨false, ind ++ [c], data, subs, ⟨l, lo, hi⟩⟩ := by
            unfold stepF
            rw [if_neg (by simp), if_pos (by simp [hk2]), Hc.out, hib, if_pos rfl]
          have hR2 : R = runF false bs n (k + 1) ⟨false, ind ++ [c], data, subs, ⟨l, lo, hi⟩⟩ := by rw [hres, runF_some hs]
          have HR2 := Lib.hid hR2
          have a1 := add_str ind [c] (by simp; omega)
          obtain ⟨D, hD⟩ : ∃ D, ind ++ [c] = D := ⟨_, rfl⟩
          rw [hD] at a1
          have hDl : D.length ≤ k + 1 := by rw [← hD]; simp; omega
          have HD := Lib.hid hD
          have Hin := Lib.hid (HI.out.up.ind D hDl)
          clear hs hR2 hres hib hD c0 c2 c3 x0 hlo hhi
          go_wp2_with fail
          go_region
          go_wp2
          go_roundw
          case rel => exact ⟨k + 1, ⟨false, D, data, subs, ⟨l, lo, hi⟩⟩, _, by have := Hlt.out; omega, rfl, by go_num, by first | exact Hin.out | exact Hin.out.drew, by rw [HR2.out, Hn1.out, HD.out]⟩
          case measure => have := Hlt.out; simp [intOf]; omega
        have jk2 : ¬ (k : Int) < 2 := by omega
        obtain ⟨m, hm⟩ : ∃ m, k - 1 = m := ⟨_, rfl⟩
        have jm : (k : Int) - 1 = (m : Int) := by omega
        have jm0 : (0 : Int) ≤ (m : Int) := by omega
        have jm1 : (m : Int) < (bs.length : Int) := by omega
        obtain ⟨p, hp⟩ : ∃ p, bs.getD (k - 1) 0 = p := ⟨_, rfl⟩
        have hgm : ∀ h, (ByteArray.mk bs.toArray)[m]'h = p := fun h => by rw [← hp, hm, getD_at bs m (by omega)]; rfl
        have Hp := Lib.hid hp
        clear hm hp
        rcases List.eq_nil_or_concat subs with hs0 | ⟨acc, ⟨a0, tx⟩, hs0⟩
        · subst hs0
          simp only [List.length_nil] at c3
          have HIn := HI.out
          rw [List.length_nil] at HIn
          have HI := Lib.hid HIn
          clear HIn
          by_cases hl0 : l = 0
          · subst hl0
            by_cases h31 : c = 31
            · have j31 : ((c.toNat : Int) == 31) = true := by rw [h31]; rfl
              have hs : stepF false bs k ⟨false, ind, data, [], ⟨0, lo, hi⟩⟩ = some ⟨false, ind, data, [] ++ [⟨0, []⟩], ⟨0, lo, hi⟩⟩ := by
                unfold stepF
                rw [if_neg (by simp), if_neg (by simp; omega), if_neg (by simp), if_pos (by rw [Hc.out, h31]; rfl)]
              have hR2 : R = runF false bs n (k + 1) ⟨false, ind, data, [] ++ [⟨0, []⟩], ⟨0, lo, hi⟩⟩ := by rw [hres, runF_some hs]
              have HR2 := Lib.hid hR2
              obtain ⟨i0', hi', hz0, hz1, hz2⟩ := info_parts infoSub
              have hsz3 : w.heap.size + 1 + 1 < wr.heap.size := lt_at HI.out.ch
              clear h31
              have Hown := Lib.hid HI.out.own
              clear hs hR2 hres
              go_wp2_with (at_builtin; refine wpList_append_own _ rfl _ _ 60 rfl (w.heap.size + 1 + 1 + 1) 64 i0' _ 2 24 Tryd.underlying60 hi' hz0 hz1 hz2 rfl (by decide) _ _ _ rfl (Hown.out.alloc _) ⟨wr.heap.size, 0, none⟩ 1 1 [.int .u8 0, .string ⟨#[]⟩] rfl rfl ?c1 ?c2 ?c3 ?c4 ?c5 ?_)
              case c2 => simp [Value.oneCell']
              case c3 => unfold maxLen; omega
              case c5 => first | omega | (simp; omega)
              intro v' w8 hown8 hgrow _
              obtain ⟨na, nc, rfl⟩ := own_form hown8
              obtain ⟨hin8, f8, c8⟩ := HI.out.app hown8 hgrow
              have Hin := Lib.hid hin8
              clear hown8 hgrow hin8 hi' hz0 hz1 hz2 c0 c1 c2 c3 x0
              go_wp2
              go_roundw
              case rel => exact ⟨k + 1, ⟨false, ind, data, [] ++ [⟨0, []⟩], ⟨0, lo, hi⟩⟩, _, by have := Hlt.out; omega, rfl, by go_num, Hin.out, by rw [HR2.out, Hn1.out]⟩
              case measure => have := Hlt.out; simp [intOf]; omega

            by_cases h30 : c = 30
            · have j31 : ((c.toNat : Int) == 31) = false := by rw [h30]; rfl
              have j30 : ((c.toNat : Int) == 30) = true := by rw [h30]; rfl
              have hs : stepF false bs k ⟨false, ind, data, [], ⟨0, lo, hi⟩⟩ = none := by
                unfold stepF
                rw [if_neg (by simp), if_neg (by simp; omega), if_neg (by simp), if_neg (by rw [Hc.out, h30]; simp), if_neg (by simp), if_pos (by simp)]
              have hR2 : R = .bad k 14 := by rw [hres, runF_none hs]
              have HR2 := Lib.hid hR2
              clear hs hR2 hres
              clear h30 h31
              have hfin := (HI.out.base).fin
              unfold fin4 at hfin
              simp only at hfin
              obtain ⟨WF, hWF⟩ : ∃ WF, (((World.setCell wr ⟨w.heap.size, 0, none⟩ (str tag)).setCell ⟨w.heap.size, 1, none⟩ (str ind)).setCell ⟨w.heap.size, 2, none⟩ (str data)).setCell ⟨w.heap.size, 3, none⟩ (.slice sa 0 sc) = WF := ⟨_, rfl⟩
              rw [hWF] at hfin
              have Hfin := Lib.hid hfin
              have HWF := Lib.hid hWF
              clear hfin hWF
              go_wp2_with fail
              rw [HWF.out]
              obtain ⟨hp1, hp2, q0, q1, q2, q3⟩ := Hfin.out
              simp [bodyPost, results, Tryd.results74, go_sem, q0, q1, q2, q3]
              rw [HR2.out]
              exact ⟨_, _, rfl, hp1, rfl, _, _, _, _, _, _, rfl⟩

            have j31 : ((c.toNat : Int) == 31) = false := by rw [beq_eq_false_iff_ne]; intro e; apply h31; apply UInt8.toNat_inj.1; show c.toNat = 31; omega
            have j30 : ((c.toNat : Int) == 30) = false := by rw [beq_eq_false_iff_ne]; intro e; apply h30; apply UInt8.toNat_inj.1; show c.toNat = 30; omega
            have hs : stepF false bs k ⟨false, ind, data, [], ⟨0, lo, hi⟩⟩ = none := by
              unfold stepF
              rw [if_neg (by simp), if_neg (by simp; omega), if_neg (by simp), if_neg (by rw [Hc.out]; simp [h31]), if_neg (by simp), if_pos (by simp)]
            have hR2 : R = .bad k 14 := by rw [hres, runF_none hs]
            have HR2 := Lib.hid hR2
            clear hs hR2 hres
            clear h30 h31
            have hfin := (HI.out.base).fin
            unfold fin4 at hfin
            simp only at hfin
            obtain ⟨WF, hWF⟩ : ∃ WF, (((World.setCell wr ⟨w.heap.size, 0, none⟩ (str tag)).setCell ⟨w.heap.size, 1, none⟩ (str ind)).setCell ⟨w.heap.size, 2, none⟩ (str data)).setCell ⟨w.heap.size, 3, none⟩ (.slice sa 0 sc) = WF := ⟨_, rfl⟩
            rw [hWF] at hfin
            have Hfin := Lib.hid hfin
            have HWF := Lib.hid hWF
            clear hfin hWF
            go_wp2_with fail
            rw [HWF.out]
            obtain ⟨hp1, hp2, q0, q1, q2, q3⟩ := Hfin.out
            simp [bodyPost, results, Tryd.results74, go_sem, q0, q1, q2, q3]
            rw [HR2.out]
            exact ⟨_, _, rfl, hp1, rfl, _, _, _, _, _, _, rfl⟩

          · have hL : ((l : Int) == 0) = false := by rw [beq_eq_false_iff_ne]; omega
            have hs : stepF false bs k ⟨false, ind, data, [], ⟨l, lo, hi⟩⟩ = none := by
              unfold stepF
              rw [if_neg (by simp), if_neg (by simp; omega), if_neg (by simp), if_neg (by simp [hl0]), if_neg (by simp [hl0]), if_pos (by simp)]
            have hR2 : R = .bad k 14 := by rw [hres, runF_none hs]
            have HR2 := Lib.hid hR2
            clear hs hR2 hres
            clear hl0
            have hfin := (HI.out.base).fin
            unfold fin4 at hfin
            simp only at hfin
            obtain ⟨WF, hWF⟩ : ∃ WF, (((World.setCell wr ⟨w.heap.size, 0, none⟩ (str tag)).setCell ⟨w.heap.size, 1, none⟩ (str ind)).setCell ⟨w.heap.size, 2, none⟩ (str data)).setCell ⟨w.heap.size, 3, none⟩ (.slice sa 0 sc) = WF := ⟨_, rfl⟩
            rw [hWF] at hfin
            have Hfin := Lib.hid hfin
            have HWF := Lib.hid hWF
            clear hfin hWF
            go_wp2_with fail
            rw [HWF.out]
            obtain ⟨hp1, hp2, q0, q1, q2, q3⟩ := Hfin.out
            simp [bodyPost, results, Tryd.results74, go_sem, q0, q1, q2, q3]
            rw [HR2.out]
            exact ⟨_, _, rfl, hp1, rfl, _, _, _, _, _, _, rfl⟩

        · rw [List.concat_eq_append] at hs0
          obtain ⟨g, cap, hsv, hbg, s0, s1, z0, z1⟩ := HI.out.form hs0
          simp only [Value.slice.injEq] at hsv
          obtain ⟨rfl, hq, rfl⟩ := hsv
          have HIs := HI.out
          rw [hq] at HIs c3 hls
          have HI := Lib.hid HIs
          have hne0 : subs ≠ [] := by rw [hs0]; simp
          have hemp : subs.isEmpty = false := by rw [hs0]; simp
          have htx : tx.length ≤ k := HIs.lt ⟨a0, tx⟩ (by show _ ∈ subs; rw [hs0]; simp)
          obtain ⟨q, hqq⟩ : ∃ q, acc.length = q := ⟨_, rfl⟩
          rw [hqq] at s0 s1 z0 z1 c3 hls
          have iq0 : (0 : Int) ≤ (q : Int) := by omega
          have iq1 : (q : Int) < (q : Int) + 1 := by omega
          have iq2 : (0 : Int) < (q : Int) + 1 := by omega
          have iq3 : ((q : Int) + 1 == 0) = false := by rw [beq_eq_false_iff_ne]; omega
          have Hq := Lib.hid hqq
          have Hs0 := Lib.hid hs0
          have Hemp := Lib.hid hemp
          have Hne0 := Lib.hid hne0
          clear hq HIs hs0 hqq hne0 hemp
          have hIq := HI.out
          rw [Hq.out] at hIq
          have HI := Lib.hid hIq
          clear hIq
          by_cases hp31 : p = 31
          · have jp : ((p.toNat : Int) == 31) = true := by rw [hp31]; rfl
            have S1 := Lib.hid (rSign_c c wr)
            have hpre : (!false && !subs.isEmpty && (bs.getD (k - 1) 0 == 31)) = true := by rw [Hp.out, Hemp.out, hp31]; rfl
            cases hsg : signB c with
            | false =>
              rw [hsg] at S1
              have hs : stepF false bs k ⟨false, ind, data, subs, ⟨l, lo, hi⟩⟩ = none := by
                unfold stepF
                rw [if_neg (by simp), if_neg (by simp; omega), if_pos hpre, Hc.out, hsg, if_neg (by decide)]
              have hR2 : R = .bad k 14 := by rw [hres, runF_none hs]
              have HR2 := Lib.hid hR2
              clear hs hR2 hres
              have hfin := (HI.out.base).fin
              unfold fin4 at hfin
              simp only at hfin
              obtain ⟨WF, hWF⟩ : ∃ WF, (((World.setCell wr ⟨w.heap.size, 0, none⟩ (str tag)).setCell ⟨w.heap.size, 1, none⟩ (str ind)).setCell ⟨w.heap.size, 2, none⟩ (str data)).setCell ⟨w.heap.size, 3, none⟩ (.slice (some ⟨g, 0, none⟩) (q + 1) sc) = WF := ⟨_, rfl⟩
              rw [hWF] at hfin
              have Hfin := Lib.hid hfin
              have HWF := Lib.hid hWF
              clear hfin hWF
              clear x0 hpre hsg hp31
              go_wp2_with fail
              refine S1.out.mono ?_
              rintro e w5 ⟨rfl, rfl⟩
              go_wp2_with fail
              rw [HWF.out]
              obtain ⟨hp1, hp2, q0, q1, q2, q3⟩ := Hfin.out
              simp [bodyPost, results, Tryd.results74, go_sem, q0, q1, q2, q3]
              rw [HR2.out]
              exact ⟨_, _, rfl, hp1, rfl, _, _, _, _, _, _, rfl⟩

            | true =>
              rw [hsg] at S1
              have hs : stepF false bs k ⟨false, ind, data, subs, ⟨l, lo, hi⟩⟩ = some ⟨false, ind, data, acc ++ [⟨c, tx⟩], ⟨l, lo, hi⟩⟩ := by
                unfold stepF
                rw [if_neg (by simp), if_neg (by simp; omega), if_pos hpre, Hc.out, hsg, if_pos rfl]
                simp only [Hs0.out, lastUp_snoc]
              have hR2 : R = runF false bs n (k + 1) ⟨false, ind, data, acc ++ [⟨c, tx⟩], ⟨l, lo, hi⟩⟩ := by rw [hres, runF_some hs]
              have HR2 := Lib.hid hR2
              have hin := (HI.out.sub Hs0.out (by rw [Hq.out]) (q * 2) (.int .u8 (c.toNat : Int)) ⟨c, tx⟩ (by rw [← Hq.out]; exact set_code acc a0 c tx) htx).up
              have Hin := Lib.hid hin
              clear hs hR2 hres hpre hsg hp31 hin x0
              go_wp2_with fail
              refine S1.out.mono ?_
              rintro e w5 ⟨rfl, rfl⟩
              go_wp2
              go_roundw
              case rel => exact ⟨k + 1, ⟨false, ind, data, acc ++ [⟨c, tx⟩], ⟨l, lo, hi⟩⟩, _, by have := Hlt.out; omega, rfl, by go_num, Hin.out, by rw [HR2.out, Hn1.out]⟩
              case measure => have := Hlt.out; simp [intOf]; omega
          have jp : ((p.toNat : Int) == 31) = false := by rw [beq_eq_false_iff_ne]; intro e; apply hp31; apply UInt8.toNat_inj.1; show p.toNat = 31; omega
          have Hpre := Lib.hid (show ¬ ((!false && !subs.isEmpty && (bs.getD (k - 1) 0 == 31)) = true) by rw [Hp.out, Hemp.out]; simpa using hp31)
          clear hp31
          by_cases hl0 : l = 0
          · subst hl0
            by_cases h31 : c = 31
            · have j31 : ((c.toNat : Int) == 31) = true := by rw [h31]; rfl
              have hs : stepF false bs k ⟨false, ind, data, subs, ⟨0, lo, hi⟩⟩ = some ⟨false, ind, data, subs ++ [⟨0, []⟩], ⟨0, lo, hi⟩⟩ := by
                unfold stepF
                rw [if_neg (by simp), if_neg (by simp; omega), if_neg Hpre.out, if_pos (by rw [Hc.out, h31]; rfl)]
              have hR2 : R = runF false bs n (k + 1) ⟨false, ind, data, subs ++ [⟨0, []⟩], ⟨0, lo, hi⟩⟩ := by rw [hres, runF_some hs]
              have HR2 := Lib.hid hR2
              obtain ⟨i0', hi', hz0, hz1, hz2⟩ := info_parts infoSub
              have hsz3 : w.heap.size + 1 + 1 < wr.heap.size := lt_at HI.out.ch
              clear h31
              have Hown := Lib.hid (by have h := HI.out.own; simp only at h; rw [Hs0.out, List.length_append, List.length_singleton, Hq.out] at h; exact h)
              clear hs hR2 hres
              go_wp2_with (at_builtin; refine wpList_append_own _ rfl _ _ 60 rfl (w.heap.size + 1 + 1 + 1) 64 i0' _ 2 24 Tryd.underlying60 hi' hz0 hz1 hz2 rfl (by decide) _ _ _ rfl (Hown.out.alloc _) ⟨wr.heap.size, 0, none⟩ 1 1 [.int .u8 0, .string ⟨#[]⟩] rfl rfl ?d1 ?d2 ?d3 ?d4 ?d5 ?_)
              case d2 => simp [Value.oneCell']
              case d3 => unfold maxLen; omega
              case d4 => omega
              case d5 => first | omega | (simp; omega)
              intro v' w8 hown8 hgrow _
              obtain ⟨na, nc, rfl⟩ := own_form hown8
              obtain ⟨hin8, f8, c8⟩ := HI.out.app (by simp only; rw [Hs0.out, List.length_append, List.length_singleton, Hq.out]; exact hown8) hgrow
              have Hin := Lib.hid hin8
              clear hown8 hgrow hin8 hi' hz0 hz1 hz2 c0 c1 c2 c3 x0
              go_wp2
              go_roundw
              case rel => exact ⟨k + 1, ⟨false, ind, data, subs ++ [⟨0, []⟩], ⟨0, lo, hi⟩⟩, _, by have := Hlt.out; omega, rfl, by go_num, Hin.out, by rw [HR2.out, Hn1.out]⟩
              case measure => have := Hlt.out; simp [intOf]; omega

            by_cases h30 : c = 30
            · have j31 : ((c.toNat : Int) == 31) = false := by rw [h30]; rfl
              have j30 : ((c.toNat : Int) == 30) = true := by rw [h30]; rfl
              have hs : stepF false bs k ⟨false, ind, data, subs, ⟨0, lo, hi⟩⟩ = some ⟨true, ind, data, subs, ⟨0, lo, hi⟩⟩ := by
                unfold stepF
                rw [if_neg (by simp), if_neg (by simp; omega), if_neg Hpre.out, if_neg (by rw [Hc.out, h30]; simp), if_pos (by rw [Hc.out, Hemp.out, h30]; rfl)]
              have hR2 : R = runF false bs n (k + 1) ⟨true, ind, data, subs, ⟨0, lo, hi⟩⟩ := by rw [hres, runF_some hs]
              have HR2 := Lib.hid hR2
              clear hs hR2 hres h30 h31
              go_wp2
              go_roundw
              case rel => exact ⟨k + 1, ⟨true, ind, data, subs, ⟨0, lo, hi⟩⟩, _, by have := Hlt.out; omega, rfl, by go_num, ⟨HI.out.up.res, HI.out.up.fld, HI.out.up.ch, HI.out.up.left, HI.out.up.own, HI.out.up.bel, HI.out.up.hb, HI.out.up.li, HI.out.up.ld, HI.out.up.ls, HI.out.up.lt⟩, by rw [HR2.out, Hn1.out]⟩
              case measure => have := Hlt.out; simp [intOf]; omega

            have j31 : ((c.toNat : Int) == 31) = false := by rw [beq_eq_false_iff_ne]; intro e; apply h31; apply UInt8.toNat_inj.1; show c.toNat = 31; omega
            have j30 : ((c.toNat : Int) == 30) = false := by rw [beq_eq_false_iff_ne]; intro e; apply h30; apply UInt8.toNat_inj.1; show c.toNat = 30; omega
            have hstep : stepF false bs k ⟨false, ind, data, subs, ⟨0, lo, hi⟩⟩ = (match nextC ⟨0, lo, hi⟩ c with | none => none | some x => some ⟨false, ind, data, acc ++ [⟨a0, tx ++ [c]⟩], x⟩) := by
              unfold stepF
              rw [if_neg (by simp), if_neg (by simp; omega), if_neg Hpre.out, if_neg (by rw [Hc.out]; simp [h31]), if_neg (by rw [Hc.out]; simp [h30]), if_neg (by rw [Hemp.out]; decide), Hc.out]
              simp only [Hs0.out, lastUp_snoc]
              rfl
            have hch := HI.out.ch
            have N := next_c (w.heap.size + 1 + 1) ⟨0, lo, hi⟩ c wr hch hleft
            unfold NextPost at N
            cases hn : nextC ⟨0, lo, hi⟩ c with
            | none =>
              rw [hn] at N hstep
              have N := Lib.hid N
              have hR2 : R = .bad k 14 := by rw [hres, runF_none hstep]
              have HR2 := Lib.hid hR2
              clear hstep hR2 hres hch hn
              go_wp2_with fail
              refine N.out.mono ?_
              rintro e w5 ⟨hg5, rfl⟩
              have hbn := HI.out.basen hg5
              clear c0 c1 c2 c3 f1 f2 f3 y0 y1 y2 y3 y4 y5 y6 y7 x0 N hg5
              obtain ⟨c0, c1, c2, c3, f1, f2, f3⟩ := (hbn).cells
              obtain ⟨y0, y1, y2, y3, y4, y5, y6, y7⟩ := (hbn).resf
              simp only at c0 c1 c2 c3

              have hfin := (hbn).fin
              unfold fin4 at hfin
              simp only at hfin
              obtain ⟨WF, hWF⟩ : ∃ WF, (((World.setCell w5 ⟨w.heap.size, 0, none⟩ (str tag)).setCell ⟨w.heap.size, 1, none⟩ (str ind)).setCell ⟨w.heap.size, 2, none⟩ (str data)).setCell ⟨w.heap.size, 3, none⟩ (.slice (some ⟨g, 0, none⟩) (q + 1) sc) = WF := ⟨_, rfl⟩
              rw [hWF] at hfin
              have Hfin := Lib.hid hfin
              have HWF := Lib.hid hWF
              clear hfin hWF

              clear hbn
              go_wp2_with fail
              rw [HWF.out]
              obtain ⟨hp1, hp2, q0, q1, q2, q3⟩ := Hfin.out
              simp [bodyPost, results, Tryd.results74, go_sem, q0, q1, q2, q3]
              rw [HR2.out]
              exact ⟨_, _, rfl, hp1, rfl, _, _, _, _, _, _, rfl⟩

            | some t =>
              rw [hn] at N hstep
              have N := Lib.hid N
              have hR2 : R = runF false bs n (k + 1) ⟨false, ind, data, acc ++ [⟨a0, tx ++ [c]⟩], t⟩ := by rw [hres, runF_some hstep]
              have HR2 := Lib.hid hR2
              have htl := nextC_left hn hleft
              clear hstep hR2 hres hch hn
              go_wp2_with fail
              refine N.out.mono ?_
              rintro e w5 ⟨hg5, rfl, htc⟩
              have hin := HI.out.next hg5 htc htl
              clear c0 c1 c2 c3 f1 f2 f3 y0 y1 y2 y3 y4 y5 y6 y7 x0 N hg5 htc
              obtain ⟨c0, c1, c2, c3, f1, f2, f3⟩ := hin.base.cells
              obtain ⟨g', cap', hsv', -, s0', s1', z0', z1'⟩ := hin.form Hs0.out
              simp only [Value.slice.injEq, Option.some.injEq, Addr.mk.injEq, and_true, true_and] at hsv'
              obtain ⟨rfl, -, rfl⟩ := hsv'
              rw [Hq.out] at s1' z1'
              simp only at c0 c1 c2 c3
              have a1 := add_str tx [c] (by simp; omega)
              obtain ⟨D, hD⟩ : ∃ D, tx ++ [c] = D := ⟨_, rfl⟩
              rw [hD] at a1
              have hDl : D.length ≤ k + 1 := by rw [← hD]; simp; omega
              have HD := Lib.hid hD
              have Hin := Lib.hid (hin.up.sub Hs0.out (by rw [Hq.out]) (q * 2 + 1) (str D) ⟨a0, D⟩ (by rw [← Hq.out]; exact set_text acc a0 tx D) hDl)
              clear hin hD c0 c1 c2 s0' z0' s0 s1 z0 z1
              go_wp2_with fail
              go_region
              go_wp2
              go_roundw
              case rel => exact ⟨k + 1, ⟨false, ind, data, acc ++ [⟨a0, D⟩], t⟩, _, by have := Hlt.out; omega, rfl, by go_num, by first | exact Hin.out | exact Hin.out.drew, by rw [HR2.out, Hn1.out, HD.out]⟩
              case measure => have := Hlt.out; simp [intOf]; omega


          · have hL : ((l : Int) == 0) = false := by rw [beq_eq_false_iff_ne]; omega
            have hl0 := Lib.hid hl0
            have hstep : stepF false bs k ⟨false, ind, data, subs, ⟨l, lo, hi⟩⟩ = (match nextC ⟨l, lo, hi⟩ c with | none => none | some x => some ⟨false, ind, data, acc ++ [⟨a0, tx ++ [c]⟩], x⟩) := by
              unfold stepF
              rw [if_neg (by simp), if_neg (by simp; omega), if_neg Hpre.out, if_neg (by rw [Hc.out]; simp [hl0.out]), if_neg (by rw [Hc.out]; simp [hl0.out]), if_neg (by rw [Hemp.out]; decide), Hc.out]
              simp only [Hs0.out, lastUp_snoc]
              rfl
            have hch := HI.out.ch
            have N := next_c (w.heap.size + 1 + 1) ⟨l, lo, hi⟩ c wr hch hleft
            unfold NextPost at N
            cases hn : nextC ⟨l, lo, hi⟩ c with
            | none =>
              rw [hn] at N hstep
              have N := Lib.hid N
              have hR2 : R = .bad k 14 := by rw [hres, runF_none hstep]
              have HR2 := Lib.hid hR2
              clear hstep hR2 hres hch hn
              go_wp2_with fail
              refine N.out.mono ?_
              rintro e w5 ⟨hg5, rfl⟩
              have hbn := HI.out.basen hg5
              clear c0 c1 c2 c3 f1 f2 f3 y0 y1 y2 y3 y4 y5 y6 y7 x0 N hg5
              obtain ⟨c0, c1, c2, c3, f1, f2, f3⟩ := (hbn).cells
              obtain ⟨y0, y1, y2, y3, y4, y5, y6, y7⟩ := (hbn).resf
              simp only at c0 c1 c2 c3

              have hfin := (hbn).fin
              unfold fin4 at hfin
              simp only at hfin
              obtain ⟨WF, hWF⟩ : ∃ WF, (((World.setCell w5 ⟨w.heap.size, 0, none⟩ (str tag)).setCell ⟨w.heap.size, 1, none⟩ (str ind)).setCell ⟨w.heap.size, 2, none⟩ (str data)).setCell ⟨w.heap.size, 3, none⟩ (.slice (some ⟨g, 0, none⟩) (q + 1) sc) = WF := ⟨_, rfl⟩
              rw [hWF] at hfin
              have Hfin := Lib.hid hfin
              have HWF := Lib.hid hWF
              clear hfin hWF

              clear hbn
              go_wp2_with fail
              rw [HWF.out]
              obtain ⟨hp1, hp2, q0, q1, q2, q3⟩ := Hfin.out
              simp [bodyPost, results, Tryd.results74, go_sem, q0, q1, q2, q3]
              rw [HR2.out]
              exact ⟨_, _, rfl, hp1, rfl, _, _, _, _, _, _, rfl⟩

            | some t =>
              rw [hn] at N hstep
              have N := Lib.hid N
              have hR2 : R = runF false bs n (k + 1) ⟨false, ind, data, acc ++ [⟨a0, tx ++ [c]⟩], t⟩ := by rw [hres, runF_some hstep]
              have HR2 := Lib.hid hR2
              have htl := nextC_left hn hleft
              clear hstep hR2 hres hch hn
              go_wp2_with fail
              refine N.out.mono ?_
              rintro e w5 ⟨hg5, rfl, htc⟩
              have hin := HI.out.next hg5 htc htl
              clear c0 c1 c2 c3 f1 f2 f3 y0 y1 y2 y3 y4 y5 y6 y7 x0 N hg5 htc
              obtain ⟨c0, c1, c2, c3, f1, f2, f3⟩ := hin.base.cells
              obtain ⟨g', cap', hsv', -, s0', s1', z0', z1'⟩ := hin.form Hs0.out
              simp only [Value.slice.injEq, Option.some.injEq, Addr.mk.injEq, and_true, true_and] at hsv'
              obtain ⟨rfl, -, rfl⟩ := hsv'
              rw [Hq.out] at s1' z1'
              simp only at c0 c1 c2 c3
              have a1 := add_str tx [c] (by simp; omega)
              obtain ⟨D, hD⟩ : ∃ D, tx ++ [c] = D := ⟨_, rfl⟩
              rw [hD] at a1
              have hDl : D.length ≤ k + 1 := by rw [← hD]; simp; omega
              have HD := Lib.hid hD
              have Hin := Lib.hid (hin.up.sub Hs0.out (by rw [Hq.out]) (q * 2 + 1) (str D) ⟨a0, D⟩ (by rw [← Hq.out]; exact set_text acc a0 tx D) hDl)
              clear hin hD c0 c1 c2 s0' z0' s0 s1 z0 z1
              go_wp2_with fail
              go_region
              go_wp2
              go_roundw
              case rel => exact ⟨k + 1, ⟨false, ind, data, acc ++ [⟨a0, D⟩], t⟩, _, by have := Hlt.out; omega, rfl, by go_num, by first | exact Hin.out | exact Hin.out.drew, by rw [HR2.out, Hn1.out, HD.out]⟩
              case measure => have := Hlt.out; simp [intOf]; omega


    · have hkl : k = bs.length := by omega
      subst hkl
      rw [Nat.sub_self] at hres
      have hd2 : decide (bs.length < bs.length) = false := by simp
      cases done with
      | true =>
        have hR2 : R = .ok ⟨true, ind, data, subs, ⟨l, lo, hi⟩⟩ := hres
        have HR2 := Lib.hid hR2
        clear hR2 hres x0
        have hfin := (HI.out.base).fin
        unfold fin4 at hfin
        simp only at hfin
        obtain ⟨WF, hWF⟩ : ∃ WF, (((World.setCell wr ⟨w.heap.size, 0, none⟩ (str tag)).setCell ⟨w.heap.size, 1, none⟩ (str ind)).setCell ⟨w.heap.size, 2, none⟩ (str data)).setCell ⟨w.heap.size, 3, none⟩ (.slice sa subs.length sc) = WF := ⟨_, rfl⟩
        rw [hWF] at hfin
        have Hfin := Lib.hid hfin
        have HWF := Lib.hid hWF
        clear hfin hWF

        go_wp2_with fail
        rw [HWF.out]
        obtain ⟨hp1, hp2, q0, q1, q2, q3⟩ := Hfin.out
        simp [bodyPost, results, Tryd.results74, go_sem, q0, q1, q2, q3]
        rw [HR2.out]
        exact ⟨_, _, rfl, hp1, rfl, _, rfl, hp2⟩

      | false =>
        have hR2 : R = .bad (bs.length - 1) 14 := hres
        have HR2 := Lib.hid hR2
        obtain ⟨m, hm⟩ : ∃ m, bs.length - 1 = m := ⟨_, rfl⟩
        have jm : (bs.length : Int) - 1 = (m : Int) := by omega
        have Hm := Lib.hid hm
        clear hR2 hres x0 hm
        have hfin := (HI.out.base).fin
        unfold fin4 at hfin
        simp only at hfin
        obtain ⟨WF, hWF⟩ : ∃ WF, (((World.setCell wr ⟨w.heap.size, 0, none⟩ (str tag)).setCell ⟨w.heap.size, 1, none⟩ (str ind)).setCell ⟨w.heap.size, 2, none⟩ (str data)).setCell ⟨w.heap.size, 3, none⟩ (.slice sa subs.length sc) = WF := ⟨_, rfl⟩
        rw [hWF] at hfin
        have Hfin := Lib.hid hfin
        have HWF := Lib.hid hWF
        clear hfin hWF

        go_wp2_with fail
        rw [HWF.out]
        obtain ⟨hp1, hp2, q0, q1, q2, q3⟩ := Hfin.out
        simp [bodyPost, results, Tryd.results74, go_sem, q0, q1, q2, q3]
        rw [HR2.out]
        exact ⟨_, _, rfl, hp1, by rw [Hm.out], _, _, _, _, _, _, rfl⟩

end Go.Proofs.YtpfnmjcomdckgaaDoor
