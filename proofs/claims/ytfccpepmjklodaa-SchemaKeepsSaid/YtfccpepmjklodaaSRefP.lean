/-
  The reference's problem.
-/
import Derived.Test.YtfccpepmjklodaaSRefM
import Derived.Test.YtfccpepmjklodaaSCkM
import Derived.Deep.Cut
import Derived.Deep.CutRange
namespace Go.Proofs.Ytfccpepmjklodaa
open Go.RowKit Go.Shelf
set_option linter.unusedVariables false
set_option linter.unusedSimpArgs false

/-- A control field without a problem of its shape has no other. -/
theorem ctl_clean {f : FldM} {r : RuleM} (hc : ctlB f.tag = true) (hm : misB f = false) : (if indBad f r then 23 else if codeBad f r then 24 else if twiceBad f r then 22 else 0) = 0 := by
  unfold misB at hm
  rw [hc, if_pos rfl, Bool.or_eq_false_iff] at hm
  have hs : f.subs = [] := by simpa using hm.2
  have h1 : indBad f r = false := by unfold indBad; rw [hc]; rfl
  have h2 : codeBad f r = false := by unfold codeBad; rw [hs]; rfl
  have h3 : twiceBad f r = false := by unfold twiceBad; rw [hs]; rfl
  rw [h1, h2, h3]; rfl
theorem noctl_ind {f : FldM} (hc : ctlB f.tag = false) (hm : misB f = false) : ∃ x y, f.ind = [x, y] := by
  unfold misB at hm
  rw [hc, if_neg (by decide), Bool.or_eq_false_iff, Bool.or_eq_false_iff] at hm
  have hl : f.ind.length = 2 := by simpa using hm.1.2
  rcases hT : f.ind with _ | ⟨a, _ | ⟨b, _ | ⟨c, l⟩⟩⟩
  · rw [hT] at hl; simp at hl
  · rw [hT] at hl; simp at hl
  · exact ⟨a, b, rfl⟩
  · rw [hT] at hl; simp at hl
theorem rHas_q (s : List UInt8) (b : UInt8) (hs : s.length ≤ 140737488355328) (w : World) : Calls Try.prog 35 #[str s, .int .u8 (b.toNat : Int)] w fun e w' => e = .returned (.bool (hasB s b)) ∧ ∃ n, w' = w.drewN n :=
  (rHas_c s b hs w).mono (fun e w' h => ⟨h.1, 0, h.2⟩)
set_option maxRecDepth 100000 in
set_option maxHeartbeats 4000000 in
theorem problem_c (rules : List RuleM) (rb ro : Nat) (ra : Option Addr) (rc : Nat) (fs : List FldM) (fa : Option Addr) (fc n : Nat) (hn : n < fs.length) (w : World) (hr : RulesAt w (.slice ra rules.length rc) rules) (hf : FldsAt w (.slice fa fs.length fc) fs)
    (hrt : ∀ q ∈ rules, q.tag.length ≤ 140737488355328) (hrl : ∀ q ∈ rules, q.ind0.length ≤ 140737488355328 ∧ q.ind1.length ≤ 140737488355328 ∧ q.codes.length ≤ 140737488355328 ∧ q.single.length ≤ 140737488355328) (hft : ∀ f ∈ fs, f.tag.length ≤ 140737488355328) :
    Calls Try.prog 28 #[.slice ra rules.length rc, .slice fa fs.length fc, .int .i64 n] w (fun e w' => e = .returned (.int .i64 (visM fs[n] (ruleOf rules fs[n].tag) ((tagsOf (fs.take n)).contains fs[n].tag) : Nat)) ∧ Below w.heap.size w w') := by
  obtain ⟨fa', fc', he, hfm, hcells⟩ := hf.slice
  obtain ⟨rfl, -, rfl⟩ : fa = fa' ∧ fs.length = fs.length ∧ fc = fc' := by
    simp only [Value.slice.injEq] at he
    exact ⟨he.1, rfl, he.2.2⟩
  obtain ⟨ra', rc', he2, hrm, hrcells⟩ := hr.slice
  obtain ⟨rfl, -, rfl⟩ : ra = ra' ∧ rules.length = rules.length ∧ rc = rc' := by
    simp only [Value.slice.injEq] at he2
    exact ⟨he2.1, rfl, he2.2.2⟩
  have Hrc := Lib.hid hrcells
  clear hrcells
  obtain ⟨fb, fo, hfa, hbl, c0, c1, c2, sv, c3, hsub⟩ := hcells n hn
  obtain ⟨f, hfe⟩ : ∃ f, fs[n] = f := ⟨_, rfl⟩
  rw [hfe] at c0 c1 c2 hsub ⊢
  obtain ⟨V, hV⟩ : ∃ V, visM f (ruleOf rules f.tag) ((tagsOf (fs.take n)).contains f.tag) = V := ⟨_, rfl⟩
  rw [hV]
  have HVV := Lib.hid hV
  clear hV
  obtain ⟨sa, sc, rfl, hsm, hscells⟩ := id hsub.slice
  obtain ⟨W1, hW1⟩ : ∃ W1, w.alloc (.cells #[str f.tag, str f.ind, str f.data, .slice sa f.subs.length sc] 46) = W1 := ⟨_, rfl⟩
  have hb1 : Below w.heap.size w W1 := by rw [← hW1]; exact below_new _ _
  have hn1 : W1.heap[w.heap.size]? = some (.cells #[str f.tag, str f.ind, str f.data, .slice sa f.subs.length sc] 46 (0, 0)) := by rw [← hW1]; exact new_at _ _
  have t0 : W1.cell? ⟨w.heap.size, 0, none⟩ = some (str f.tag) := by rw [cell_at hn1]; rfl
  have t1 : W1.cell? ⟨w.heap.size, 1, none⟩ = some (str f.ind) := by rw [cell_at hn1]; rfl
  have t2 : W1.cell? ⟨w.heap.size, 2, none⟩ = some (str f.data) := by rw [cell_at hn1]; rfl
  have t3 : W1.cell? ⟨w.heap.size, 3, none⟩ = some (.slice sa f.subs.length sc) := by rw [cell_at hn1]; rfl
  have i0 : (0 : Int) ≤ (n : Int) := by omega
  have i1 : (n : Int) < (fs.length : Int) := by omega
  have Hb1 := Lib.hid hb1
  have Hn1 := Lib.hid hn1
  have Hr := Lib.hid hr
  have Hc := Lib.hid hcells
  have Hs := Lib.hid hscells
  have Hrt := Lib.hid hrt
  have Hrl := Lib.hid hrl
  have Hft := Lib.hid hft
  have Hsub := Lib.hid hsub
  have Hfe := Lib.hid (show ∃ h : n < fs.length, fs[n] = f from ⟨hn, hfe⟩)
  have Hn := Lib.hid hn
  unfold maxLen at hfm hsm hrm
  subst hfa
  have stt := size_str f.tag
  have sti := size_str f.ind
  clear hb1 hn1 hr hcells hscells hrt hrl hft hsub hf hfe hbl
  go_enter Try.func28, Try.ntmps28
  go_upto_region 2 with fail
  clear c0 c1 c2 c3
  go_cut [8] from 25 to 40 (fun s8 wx => s8 = .bool (ctlB f.tag) ∧ wx = W1)
  case first =>
    by_cases h2 : 2 ≤ f.tag.length
    · obtain ⟨a, b, l, hT⟩ : ∃ a b l, f.tag = a :: b :: l := by
        rcases hT : f.tag with _ | ⟨a, _ | ⟨b, l⟩⟩
        · rw [hT] at h2; simp at h2
        · rw [hT] at h2; simp at h2
        · exact ⟨a, b, l, rfl⟩
      have g0 : ∀ h, (ByteArray.mk f.tag.toArray)[0]'h = a := fun h => by rw [get_str]; simp [hT]
      have g1 : ∀ h, (ByteArray.mk f.tag.toArray)[1]'h = b := fun h => by rw [get_str]; simp [hT]
      have hc : ctlB f.tag = (a == 48 && b == 48) := by rw [hT, ctlB_two]
      have j2 : (2 : Int) ≤ (f.tag.length : Int) := by omega
      have j1 : (1 : Int) < (f.tag.length : Int) := by omega
      have j0 : (0 : Int) < (f.tag.length : Int) := by omega
      clear hT h2
      by_cases ha : a = 48
      · have e1 : ((a.toNat : Int) == 48) = true := by rw [beq_iff_eq, ha]; rfl
        by_cases hb : b = 48
        · have e2 : ((b.toNat : Int) == 48) = true := by rw [beq_iff_eq, hb]; rfl
          have Hv := Lib.hid (show ctlB f.tag = true by rw [hc, ha, hb]; rfl)
          clear hc ha hb
          go_wp2
          go_meet
          case rel => exact ⟨by rw [Hv.out], rfl⟩
        · have e2 : ((b.toNat : Int) == 48) = false := by
            rw [beq_eq_false_iff_ne]; intro h; exact hb (UInt8.toNat_inj.1 (show b.toNat = 48 by omega))
          have Hv := Lib.hid (show ctlB f.tag = false by rw [hc, show (b == 48) = false from beq_eq_false_iff_ne.2 hb, Bool.and_false])
          clear hc ha hb
          go_wp2
          go_meet
          case rel => exact ⟨by rw [Hv.out], rfl⟩
      · have e1 : ((a.toNat : Int) == 48) = false := by
          rw [beq_eq_false_iff_ne]; intro h; exact ha (UInt8.toNat_inj.1 (show a.toNat = 48 by omega))
        have Hv := Lib.hid (show ctlB f.tag = false by rw [hc, show (a == 48) = false from beq_eq_false_iff_ne.2 ha, Bool.false_and])
        clear hc ha
        go_wp2
        go_meet
        case rel => exact ⟨by rw [Hv.out], rfl⟩
    · have j2 : ¬ (2 : Int) ≤ (f.tag.length : Int) := by omega
      have Hv := Lib.hid (show ctlB f.tag = false from ctlB_short (by omega))
      clear h2
      go_wp2
      go_meet
      case rel => exact ⟨by rw [Hv.out], rfl⟩
  case rest =>
    obtain ⟨rfl, rfl⟩ := hcut
    have hmis : misB f = if ctlB f.tag then !f.ind.isEmpty || !f.subs.isEmpty else !f.data.isEmpty || !(f.ind.length == 2) || f.subs.isEmpty := rfl
    generalize hc : ctlB f.tag = cb at *
    go_upto_region 3 with fail
    go_cut [73] from 41 to 73 (fun s73 wx => s73 = .bool (misB f) ∧ wx = wc)
    case first =>
      cases cb with
      | true =>
        rw [if_pos rfl] at hmis
        by_cases hi : f.ind = []
        · obtain ⟨tg, fi, fd, fsb⟩ := f
          dsimp only at *
          subst hi
          cases fsb with
          | nil =>
            have LL := Lib.hid hmis
            clear hmis
            go_wp2
            go_meet
            case rel => exact ⟨by rw [LL.out]; rfl, rfl⟩
          | cons x xs =>
            have LL := Lib.hid hmis
            clear hmis
            have j : (0 : Int) < ((x :: xs).length : Int) := by simp
            go_wp2
            go_meet
            case rel => exact ⟨by rw [LL.out]; rfl, rfl⟩
        · have ii : f.ind.isEmpty = false := by simpa using hi
          have LL := Lib.hid (show misB f = true by rw [hmis, ii]; rfl)
          clear hmis hi
          go_wp2
          go_meet
          case rel => exact ⟨by first | (rw [LL.out]; done) | (rw [LL.out]; rfl), rfl⟩
      | false =>
        rw [if_neg (by decide)] at hmis
        by_cases hi : f.data = []
        case neg =>
          have ii : f.data.isEmpty = false := by simpa using hi
          have LL := Lib.hid (show misB f = true by rw [hmis, ii]; rfl)
          clear hmis hi
          go_wp2
          go_meet
          case rel => exact ⟨by first | (rw [LL.out]; done) | (rw [LL.out]; rfl), rfl⟩
        have ii : f.data.isEmpty = true := by rw [hi]; rfl
        by_cases hl : f.ind.length = 2
        case neg =>
          have jj : ((f.ind.length : Int) != 2) = true := by rw [bne_iff_ne]; omega
          have j2 : (f.ind.length == 2) = false := by rw [beq_eq_false_iff_ne]; exact hl
          have LL := Lib.hid (show misB f = true by rw [hmis, ii, j2]; rfl)
          clear hmis hi j2 hl
          go_wp2
          go_meet
          case rel => exact ⟨by first | (rw [LL.out]; done) | (rw [LL.out]; rfl), rfl⟩
        have jj : ((f.ind.length : Int) != 2) = false := by rw [bne_eq_false_iff_eq]; omega
        have j2 : (f.ind.length == 2) = true := by rw [beq_iff_eq]; exact hl
        have hsb : f.subs.isEmpty = ((f.subs.length : Int) == 0) := by cases f.subs <;> simp; omega
        have LL := Lib.hid (show misB f = ((f.subs.length : Int) == 0) by rw [hmis, ii, j2, hsb]; rfl)
        clear hmis hi j2 hl hsb
        go_wp2
        go_meet
        case rel => exact ⟨by first | (rw [LL.out]; done) | (rw [LL.out]; rfl), rfl⟩
    case rest =>
      obtain ⟨rfl, rfl⟩ := hcut
      clear hmis sti stt
      cases hm : misB f with
      | true =>
        have hv : V = 14 := by rw [← HVV.out]; unfold visM; rw [hm]; rfl
        have HV := Lib.hid hv
        clear hv
        go_wp2
        go_ret
        exact ⟨by rw [HV.out]; rfl, Hb1.out⟩
      | false =>
        go_wp2_with fail
        have hwc : wc.heap.size = wc.heap.size := rfl
        go_loopw [9, 10, 11] (fun av kv v11 wr => ∃ (m q : Nat) (a : Int), m ≤ rules.length ∧ kv = .int .i64 ((m : Int) - 1) ∧ av = .int .i64 a ∧ AtIs rules f.tag m a ∧ wr = wc.drewN q) (fun _ kv _ _ => (intOf kv + 1).toNat)
        case atStart => exact ⟨rules.length, 0, -1, Nat.le_refl _, by go_num, rfl, AtIs.start _ _, rfl⟩
        case round =>
          obtain ⟨m, q, a, hml, rfl, rfl, hat, hwr⟩ := hrel
          rcases m with _ | j
          · have i2 : ¬ (0 : Int) ≤ ((0 : Nat) : Int) - 1 := by omega
            have HV : ∀ x, visM f x ((tagsOf (fs.take n)).contains f.tag) = match x with | none => 20 | some r => if r.once && (tagsOf (fs.take n)).contains f.tag then 22 else if indBad f r then 23 else if codeBad f r then 24 else if twiceBad f r then 22 else 0 := by
              intro x
              unfold visM
              rw [hm]
              rfl
            rcases hat.done with ⟨rfl, hro⟩ | ⟨i, hi, rfl, hro⟩
            · have Hv := Lib.hid (show V = 20 by rw [← HVV.out, HV, hro])
              have HB := Lib.hid (show Below w.heap.size w wr by rw [hwr]; exact below_dr Hb1.out q)
              clear HV hat hwr hro
              go_wp2
              go_ret
              exact ⟨by rw [Hv.out]; rfl, HB.out⟩
            · obtain ⟨b2, o2, hra2, hbl2, q0, q1, q2, q3, q4, q5, q6⟩ := Hrc.out i hi
              have hbw : Below w.heap.size w wr := by rw [hwr]; exact below_dr Hb1.out q
              obtain ⟨r, hre⟩ : ∃ r, rules[i] = r := ⟨_, rfl⟩
              have Hls := Lib.hid (Hrl.out r (by rw [← hre]; exact List.getElem_mem hi))
              rw [hre] at q0 q1 q2 q3 q4 q5 q6 hro
              have q0 := cell_below hbw (Nat.le_refl _) q0
              have q1 := cell_below hbw (Nat.le_refl _) q1
              have q2 := cell_below hbw (Nat.le_refl _) q2
              have q3 := cell_below hbw (Nat.le_refl _) q3
              have q4 := cell_below hbw (Nat.le_refl _) q4
              have q5 := cell_below hbw (Nat.le_refl _) q5
              have q6 := cell_below hbw (Nat.le_refl _) q6
              have k0 : (0 : Int) ≤ (i : Int) := by omega
              have k1 : (i : Int) < (rules.length : Int) := by omega
              have k2 : ¬ (i : Int) < 0 := by omega
              have Hv := Lib.hid (show V = if r.once && (tagsOf (fs.take n)).contains f.tag then 22 else if indBad f r then 23 else if codeBad f r then 24 else if twiceBad f r then 22 else 0 by rw [← HVV.out, HV, hro])
              have ht0 : wr.cell? ⟨w.heap.size, 0, none⟩ = some (str f.tag) := by rw [hwr]; exact t0
              have ht1 : wr.cell? ⟨w.heap.size, 1, none⟩ = some (str f.ind) := by rw [hwr]; exact t1
              have ht3 : wr.cell? ⟨w.heap.size, 3, none⟩ = some (.slice sa f.subs.length sc) := by rw [hwr]; exact t3
              obtain ⟨W3, hW3⟩ : ∃ W3, wr.alloc (.cells #[str r.tag, .bool r.must, .bool r.once, str r.ind0, str r.ind1, str r.codes, str r.single] 27) = W3 := ⟨_, rfl⟩
              have hb3 : Below wr.heap.size wr W3 := by rw [← hW3]; exact below_new _ _
              have hn3 : W3.heap[wr.heap.size]? = some (.cells #[str r.tag, .bool r.must, .bool r.once, str r.ind0, str r.ind1, str r.codes, str r.single] 27 (0, 0)) := by rw [← hW3]; exact new_at _ _
              have r2 : W3.cell? ⟨wr.heap.size, 2, none⟩ = some (.bool r.once) := by rw [cell_at hn3]; rfl
              have t0 := cell_below hb3 (Nat.le_refl _) ht0
              have t1 := cell_below hb3 (Nat.le_refl _) ht1
              have t3 := cell_below hb3 (Nat.le_refl _) ht3
              have Hb3 := Lib.hid (below_tr hbw hb3)
              have Hn3 := Lib.hid hn3
              subst hra2
              clear HV hat hwr hro hre hbw hbl2 t2 ht0 ht1 ht3 hb3 hn3 hwc hml
              obtain ⟨R, hR⟩ : ∃ k, wr.heap.size = k := ⟨_, rfl⟩
              rw [hR] at r2 Hn3
              go_wp2_with fail
              clear q0 q1 q2 q3 q4 q5 q6 hW3 hR k2
              go_loopw [13] (fun iv wx => ∃ k q : Nat, k ≤ n ∧ iv = .int .i64 k ∧ (∀ j (h : j < fs.length), j < k → fs[j].tag ≠ f.tag) ∧ wx = W3.drewN q) (fun iv _ => n - (intOf iv).toNat)
              case atStart => exact ⟨0, 0, Nat.zero_le _, rfl, fun j _ hj => absurd hj (Nat.not_lt_zero j), rfl⟩
              case round =>
                obtain ⟨k, q2, hkn, rfl, hall, hwx⟩ := hrel
                have hbx : Below W3.heap.size W3 wr := by rw [hwx]; exact below_dr (Below.refl _ _) q2
                have t0 := cell_below hbx (Nat.le_refl _) t0
                have r2 := cell_below hbx (Nat.le_refl _) r2
                have Hwx := Lib.hid hwx
                have HbW := Lib.hid hbx
                have Hbx := Lib.hid (Hb3.out.trans (hbx.mono Hb3.out.size))
                clear hwx hbx
                by_cases hgo : k < n ∧ r.once = true
                · obtain ⟨hkn', hon⟩ := hgo
                  have hkl : k < fs.length := by omega
                  rw [hon] at r2
                  have l0 : (0 : Int) ≤ (k : Int) := by omega
                  have l1 : (k : Int) < (n : Int) := by omega
                  have l2 : (k : Int) < (fs.length : Int) := by omega
                  obtain ⟨b4, o4, ha4, hbl4, c0, -⟩ := Hc.out k hkl
                  simp only [Option.some.injEq, Addr.mk.injEq, and_true] at ha4
                  obtain ⟨rfl, rfl⟩ := ha4
                  have c0 := cell_below Hbx.out (Nat.le_refl _) c0
                  by_cases hte : fs[k].tag = f.tag
                  · rw [hte] at c0
                    have hV : V = 22 := by
                      rw [Hv.out, hon, show (tagsOf (fs.take n)).contains f.tag = true from ?_]
                      · rfl
                      · rw [← hte]
                        exact List.contains_iff_mem.2 (List.mem_map.2 ⟨fs[k], by rw [List.mem_take_iff_getElem]; exact ⟨k, by omega, rfl⟩, rfl⟩)
                    have HV := Lib.hid hV
                    clear hV hte hall hbl4
                    go_wp2_with fail
                    go_region
                    go_wp2
                    go_ret
                    exact ⟨by rw [HV.out]; rfl, Hbx.out.drew⟩
                  · have hnew : ∀ j (h : j < fs.length), j < k + 1 → fs[j].tag ≠ f.tag := by
                      intro j hj hjk
                      rcases Nat.lt_or_ge j k with h | h
                      · exact hall j hj h
                      · obtain rfl : j = k := by omega
                        exact hte
                    have Hnew := Lib.hid hnew
                    obtain ⟨T, hT⟩ : ∃ T, fs[k].tag = T := ⟨_, rfl⟩
                    rw [hT] at c0 hte
                    have e1 : (T == f.tag) = false := by simpa using hte
                    clear hnew hall hbl4 hT
                    go_wp2_with fail
                    go_region
                    go_wp2
                    go_roundw
                    case rel => exact ⟨k + 1, q2 + 1, by omega, by go_num, Hnew.out, by rw [Hwx.out]; exact drN W3 q2 1⟩
                    case measure => simp [intOf]; omega
                · have hO : (r.once && (tagsOf (fs.take n)).contains f.tag) = false := by
                    cases hon : r.once with
                    | false => rfl
                    | true =>
                      have hk : ¬ k < n := fun h => hgo ⟨h, hon⟩
                      rw [Bool.true_and, Bool.eq_false_iff]
                      intro hcc
                      obtain ⟨g, hg, he⟩ := List.mem_map.1 (List.contains_iff_mem.1 hcc)
                      obtain ⟨j, hj, rfl⟩ := List.mem_take_iff_getElem.1 hg
                      exact hall j (by omega) (by omega) he
                  have HO := Lib.hid (show V = if indBad f r then 23 else if codeBad f r then 24 else if twiceBad f r then 22 else 0 by rw [Hv.out, hO]; rfl)
                  have t1 := cell_below HbW.out (Nat.le_refl _) t1
                  have t3 := cell_below HbW.out (Nat.le_refl _) t3
                  have r3 : wr.cell? ⟨R, 3, none⟩ = some (str r.ind0) := cell_below HbW.out (Nat.le_refl _) (by rw [cell_at Hn3.out]; rfl)
                  have r4 : wr.cell? ⟨R, 4, none⟩ = some (str r.ind1) := cell_below HbW.out (Nat.le_refl _) (by rw [cell_at Hn3.out]; rfl)
                  have r5 : wr.cell? ⟨R, 5, none⟩ = some (str r.codes) := cell_below HbW.out (Nat.le_refl _) (by rw [cell_at Hn3.out]; rfl)
                  have r6 : wr.cell? ⟨R, 6, none⟩ = some (str r.single) := cell_below HbW.out (Nat.le_refl _) (by rw [cell_at Hn3.out]; rfl)
                  clear hall hO
                  rcases (show (r.once = false ∧ (k : Int) < (n : Int)) ∨ ¬ (k : Int) < (n : Int) by
                    by_cases hkn' : k < n
                    · refine .inl ⟨?_, by omega⟩
                      cases hon : r.once with
                      | false => rfl
                      | true => exact absurd ⟨hkn', hon⟩ hgo
                    · exact .inr (by omega)) with ⟨hon, l1⟩ | l1
                  · rw [hon] at r2
                    cases cb with
                    | true =>
                      have HV := Lib.hid (show V = 0 by rw [HO.out]; exact ctl_clean hc hm)
                      go_wp2
                      go_ret
                      exact ⟨by rw [HV.out]; rfl, Hbx.out⟩
                    | false =>
                      obtain ⟨x, y, hxy⟩ := noctl_ind hc hm
                      have g0 : ∀ h, (ByteArray.mk f.ind.toArray)[0]'h = x := fun h => by rw [get_str]; simp [hxy]
                      have g1 : ∀ h, (ByteArray.mk f.ind.toArray)[1]'h = y := fun h => by rw [get_str]; simp [hxy]
                      have sti := size_str f.ind
                      have j0 : (0 : Int) < (f.ind.length : Int) := by rw [hxy]; simp
                      have j1 : (1 : Int) < (f.ind.length : Int) := by rw [hxy]; simp
                      have hib : indBad f r = (!hasB r.ind0 x || !hasB r.ind1 y) := by unfold indBad; rw [hc, hxy]; rfl
                      have M1 := fun W => rHas_q r.ind0 x Hls.out.1 W
                      have M2 := fun W => rHas_q r.ind1 y Hls.out.2.1 W
                      obtain ⟨A, hA⟩ : ∃ A, hasB r.ind0 x = A := ⟨_, rfl⟩
                      obtain ⟨C, hC⟩ : ∃ C, hasB r.ind1 y = C := ⟨_, rfl⟩
                      rw [hA] at M1
                      rw [hC] at M2
                      rw [hA, hC] at hib
                      have Hib := Lib.hid hib
                      have M1 := Lib.hid M1
                      have M2 := Lib.hid M2
                      have Hhm := Lib.hid hm
                      clear hib hA hC hxy hgo hm hc
                      go_wp2_with fail
                      go_quiet (exact Calls.quiet_of (M1.out _))
                      obtain ⟨W4, hW4⟩ : ∃ W4, wr.drewN nq = W4 := ⟨_, rfl⟩
                      rw [hW4]
                      have t1 : W4.cell? ⟨w.heap.size, 1, none⟩ = some (str f.ind) := by rw [← hW4]; exact t1
                      have t3 : W4.cell? ⟨w.heap.size, 3, none⟩ = some (.slice sa f.subs.length sc) := by rw [← hW4]; exact t3
                      have r4 : W4.cell? ⟨R, 4, none⟩ = some (str r.ind1) := by rw [← hW4]; exact r4
                      have r5 : W4.cell? ⟨R, 5, none⟩ = some (str r.codes) := by rw [← hW4]; exact r5
                      have r6 : W4.cell? ⟨R, 6, none⟩ = some (str r.single) := by rw [← hW4]; exact r6
                      have Hb4 := Lib.hid (show Below w.heap.size w W4 by rw [← hW4]; exact below_dr Hbx.out nq)
                      clear hW4 t0 r2 r3
                      go_wp2_with fail
                      go_quiet (exact Calls.quiet_of (M2.out _))
                      obtain ⟨W5, hW5⟩ : ∃ W5, W4.drewN nq = W5 := ⟨_, rfl⟩
                      rw [hW5]
                      have t3 : W5.cell? ⟨w.heap.size, 3, none⟩ = some (.slice sa f.subs.length sc) := by rw [← hW5]; exact t3
                      have r5 : W5.cell? ⟨R, 5, none⟩ = some (str r.codes) := by rw [← hW5]; exact r5
                      have r6 : W5.cell? ⟨R, 6, none⟩ = some (str r.single) := by rw [← hW5]; exact r6
                      have Hb5 := Lib.hid (show Below w.heap.size w W5 by rw [← hW5]; exact below_dr Hb4.out nq)
                      clear hW5 t1 r4 j0 j1 g0 g1 sti
                      rcases (show (A = true ∧ C = true) ∨ A = false ∨ (A = true ∧ C = false) by cases A <;> cases C <;> simp) with ⟨rfl, rfl⟩ | rfl | ⟨rfl, rfl⟩
                      case inr.inl =>
                        have HV := Lib.hid (show V = 23 by rw [HO.out, Hib.out]; rfl)
                        go_wp2
                        go_ret
                        exact ⟨by rw [HV.out]; rfl, Hb5.out⟩
                      case inr.inr =>
                        have HV := Lib.hid (show V = 23 by rw [HO.out, Hib.out]; rfl)
                        go_wp2
                        go_ret
                        exact ⟨by rw [HV.out]; rfl, Hb5.out⟩
                      have HX := Lib.hid (show V = if codeBad f r then 24 else if twiceBad f r then 22 else 0 by rw [HO.out, Hib.out]; rfl)
                      go_wp2_with fail
                      go_loopw [16, 17] (fun iv v17 wx => ∃ k q : Nat, k ≤ f.subs.length ∧ iv = .int .i64 k ∧ (∀ j (h : j < f.subs.length), j < k → hasB r.codes f.subs[j].code = true) ∧ wx = W5.drewN q) (fun iv _ _ => f.subs.length - (intOf iv).toNat)
                      case atStart => exact ⟨0, 0, Nat.zero_le _, rfl, fun j _ hj => absurd hj (Nat.not_lt_zero j), rfl⟩
                      case round =>
                        obtain ⟨k, q3, hkl, rfl, hall, hwx⟩ := hrel
                        have hb : Below w.heap.size w wr := by rw [hwx]; exact below_dr Hb5.out q3
                        have t3 : wr.cell? ⟨w.heap.size, 3, none⟩ = some (.slice sa f.subs.length sc) := by rw [hwx]; exact t3
                        have r5 : wr.cell? ⟨R, 5, none⟩ = some (str r.codes) := by rw [hwx]; exact r5
                        have r6 : wr.cell? ⟨R, 6, none⟩ = some (str r.single) := by rw [hwx]; exact r6
                        have Hwx := Lib.hid hwx
                        clear hwx
                        by_cases hlt : k < f.subs.length
                        · have l0 : (0 : Int) ≤ (k : Int) := by omega
                          have l1 : (k : Int) < (f.subs.length : Int) := by omega
                          obtain ⟨b4, o4, ha4, hbl4, c0, -⟩ := Hs.out k hlt
                          replace c0 := cell_below hb (Nat.le_refl _) c0
                          obtain ⟨c, hcc⟩ : ∃ c, f.subs[k].code = c := ⟨_, rfl⟩
                          rw [hcc] at c0
                          have M3 := fun W => rHas_q r.codes c Hls.out.2.2.1 W
                          cases hh : hasB r.codes c with
                          | false =>
                            rw [hh] at M3
                            have M3 := Lib.hid M3
                            have HV := Lib.hid (show V = 24 by rw [HX.out, if_pos ((codeBad_iff f r).2 ⟨k, hlt, by rw [hcc]; exact hh⟩)])
                            have Hb := Lib.hid hb
                            clear hh hall hb hbl4 hcc hkl
                            subst ha4
                            go_wp2_with fail
                            go_quiet (exact Calls.quiet_of (M3.out _))
                            go_wp2
                            go_ret
                            exact ⟨by rw [HV.out]; rfl, below_dr Hb.out nq⟩
                          | true =>
                            rw [hh] at M3
                            have M3 := Lib.hid M3
                            have Hnew := Lib.hid (show ∀ j (h : j < f.subs.length), j < k + 1 → hasB r.codes f.subs[j].code = true by
                              intro j hj hjk
                              rcases Nat.lt_or_ge j k with h | h
                              · exact hall j hj h
                              · obtain rfl : j = k := by omega
                                rw [hcc]; exact hh)
                            have Hlt := Lib.hid hlt
                            clear hh hall hb hbl4 hcc hkl hlt
                            subst ha4
                            go_wp2_with fail
                            go_quiet (exact Calls.quiet_of (M3.out _))
                            go_wp2
                            go_roundw
                            case rel => exact ⟨k + 1, q3 + nq, by have := Hlt.out; omega, by go_num, Hnew.out, by rw [Hwx.out]; exact drN W5 q3 nq⟩
                            case measure => have := Hlt.out; simp [intOf]; omega
                        · have l1 : ¬ (k : Int) < (f.subs.length : Int) := by omega
                          have hcb : codeBad f r = false := by
                            rw [Bool.eq_false_iff]
                            intro h
                            obtain ⟨j, hj, he⟩ := (codeBad_iff f r).1 h
                            rw [hall j hj (by omega)] at he
                            cases he
                          have HY := Lib.hid (show V = if twiceBad f r then 22 else 0 by rw [HX.out, hcb]; rfl)
                          have Hb := Lib.hid hb
                          clear hcb hall hb hkl hlt Hwx
                          obtain ⟨W6, hW6⟩ : ∃ W6, wr = W6 := ⟨_, rfl⟩
                          rw [hW6] at t3 r6 Hb ⊢
                          go_wp2_with fail
                          go_loopw [18, 19, 20] (fun iv v19 v20 wx => ∃ k q : Nat, k ≤ f.subs.length ∧ iv = .int .i64 k ∧ (∀ i (h : i < f.subs.length), i < k → hasB r.single f.subs[i].code = true → ∀ j (hj : j < i), f.subs[j].code ≠ f.subs[i].code) ∧ wx = W6.drewN q) (fun iv _ _ _ => f.subs.length - (intOf iv).toNat)
                          case atStart => exact ⟨0, 0, Nat.zero_le _, rfl, fun j _ hj => absurd hj (Nat.not_lt_zero j), rfl⟩
                          case round =>
                            obtain ⟨k, q4, hkl, rfl, hall, hwx⟩ := hrel
                            have hb : Below w.heap.size w wr := by rw [hwx]; exact below_dr Hb.out q4
                            have t3 : wr.cell? ⟨w.heap.size, 3, none⟩ = some (.slice sa f.subs.length sc) := by rw [hwx]; exact t3
                            have r6 : wr.cell? ⟨R, 6, none⟩ = some (str r.single) := by rw [hwx]; exact r6
                            have Hwx := Lib.hid hwx
                            clear hwx
                            by_cases hlt : k < f.subs.length
                            · have l0 : (0 : Int) ≤ (k : Int) := by omega
                              have l1 : (k : Int) < (f.subs.length : Int) := by omega
                              obtain ⟨b4, o4, ha4, hbl4, c0, -⟩ := Hs.out k hlt
                              replace c0 := cell_below hb (Nat.le_refl _) c0
                              obtain ⟨c, hcc⟩ : ∃ c, f.subs[k].code = c := ⟨_, rfl⟩
                              rw [hcc] at c0
                              have M4 := fun W => rHas_q r.single c Hls.out.2.2.2 W
                              obtain ⟨S, hS⟩ : ∃ S, hasB r.single c = S := ⟨_, rfl⟩
                              rw [hS] at M4
                              have M4 := Lib.hid M4
                              have Hss := Lib.hid Hs.out
                              have HS := Lib.hid hS
                              have Hcc := Lib.hid (show ∃ h : k < f.subs.length, f.subs[k].code = c from ⟨hlt, hcc⟩)
                              have Hall := Lib.hid hall
                              have Hbb := Lib.hid hb
                              clear hS hcc hall hb hbl4 hkl hlt Hs
                              subst ha4
                              go_wp2_with fail
                              go_quiet (exact Calls.quiet_of (M4.out _))
                              obtain ⟨W7, hW7⟩ : ∃ W7, wr.drewN nq = W7 := ⟨_, rfl⟩
                              rw [hW7]
                              have t3 : W7.cell? ⟨w.heap.size, 3, none⟩ = some (.slice (some ⟨b4, o4, none⟩) f.subs.length sc) := by rw [← hW7]; exact t3
                              have c0 : W7.cell? ⟨b4, o4 + k * 2, none⟩ = some (.int .u8 (c.toNat : Int)) := by rw [← hW7]; exact c0
                              have Hb7 := Lib.hid (show Below w.heap.size w W7 by rw [← hW7]; exact below_dr Hbb.out nq)
                              have HW7 := Lib.hid (show ∃ q, W7 = W6.drewN q from ⟨q4 + nq, by rw [← hW7, Hwx.out]; exact drN W6 q4 nq⟩)
                              clear hW7 r6
                              go_wp2_with fail
                              go_loopw [20] (fun iv wx => ∃ j q : Nat, j ≤ k ∧ iv = .int .i64 j ∧ (S = true → ∀ i (h : i < f.subs.length), i < j → f.subs[i].code ≠ c) ∧ wx = W7.drewN q) (fun iv _ => k - (intOf iv).toNat)
                              case atStart => exact ⟨0, 0, Nat.zero_le _, rfl, fun _ j _ hj => absurd hj (Nat.not_lt_zero j), rfl⟩
                              case round =>
                                obtain ⟨j, q5, hjk, rfl, hin, hwx⟩ := hrel
                                have hb : Below w.heap.size w wr := by rw [hwx]; exact below_dr Hb7.out q5
                                have t3 : wr.cell? ⟨w.heap.size, 3, none⟩ = some (.slice (some ⟨b4, o4, none⟩) f.subs.length sc) := by rw [hwx]; exact t3
                                have c0 : wr.cell? ⟨b4, o4 + k * 2, none⟩ = some (.int .u8 (c.toNat : Int)) := by rw [hwx]; exact c0
                                have Hwx7 := Lib.hid hwx
                                clear hwx
                                by_cases hgo2 : j < k ∧ S = true
                                · obtain ⟨hj, rfl⟩ := hgo2
                                  have hjl : j < f.subs.length := by obtain ⟨h, _⟩ := Hcc.out; omega
                                  have l2 : (0 : Int) ≤ (j : Int) := by omega
                                  have l3 : (j : Int) < (k : Int) := by omega
                                  have l4 : (j : Int) < (f.subs.length : Int) := by omega
                                  obtain ⟨b5, o5, ha5, hbl5, d0, -⟩ := Hss.out j hjl
                                  simp only [Option.some.injEq, Addr.mk.injEq, and_true] at ha5
                                  obtain ⟨rfl, rfl⟩ := ha5
                                  replace d0 := cell_below hb (Nat.le_refl _) d0
                                  obtain ⟨d, hdd⟩ : ∃ d, f.subs[j].code = d := ⟨_, rfl⟩
                                  rw [hdd] at d0
                                  have Hb := Lib.hid hb
                                  by_cases hdc : d = c
                                  · have e1 : ((d.toNat : Int) == (c.toNat : Int)) = true := by rw [beq_iff_eq, hdc]
                                    have HV := Lib.hid (show V = 22 by
                                      obtain ⟨hk, hkc⟩ := Hcc.out
                                      rw [HY.out, if_pos ((twiceBad_iff f r).2 ⟨k, hk, by rw [hkc]; exact HS.out, j, hj, by rw [hdd, hkc, hdc]⟩)])
                                    clear hdd hdc hb hbl5 hin hjk hj
                                    go_wp2_with fail
                                    go_region
                                    go_wp2
                                    go_ret
                                    exact ⟨by rw [HV.out]; rfl, Hb.out.drew⟩
                                  · have e1 : ((d.toNat : Int) == (c.toNat : Int)) = false := by
                                      rw [beq_eq_false_iff_ne]
                                      intro h
                                      exact hdc (UInt8.toNat_inj.1 (by omega))
                                    have Hnew := Lib.hid (show true = true → ∀ i (h : i < f.subs.length), i < j + 1 → f.subs[i].code ≠ c by
                                      intro _ i hi hij
                                      rcases Nat.lt_or_ge i j with h | h
                                      · exact hin rfl i hi h
                                      · obtain rfl : i = j := by omega
                                        rw [hdd]; exact hdc)
                                    have Hj := Lib.hid hj
                                    clear hdd hdc hb hbl5 hin hjk hj hjl
                                    go_wp2_with fail
                                    go_region
                                    go_wp2
                                    go_roundw
                                    case rel => exact ⟨j + 1, q5 + 1, by have := Hj.out; omega, by go_num, Hnew.out, by rw [Hwx7.out]; exact drN W7 q5 1⟩
                                    case measure => have := Hj.out; simp [intOf]; omega
                                · have hnx : ∀ i (h : i < f.subs.length), i < k + 1 → hasB r.single f.subs[i].code = true → ∀ j (hj : j < i), f.subs[j].code ≠ f.subs[i].code := by
                                    intro i hi hik hs j' hj'
                                    rcases Nat.lt_or_ge i k with h | h
                                    · exact Hall.out i hi h hs j' hj'
                                    · obtain rfl : i = k := by omega
                                      obtain ⟨hk, hkc⟩ := Hcc.out
                                      rw [hkc] at hs ⊢
                                      have hS1 : S = true := by rw [← HS.out]; exact hs
                                      have hjk' : ¬ j < i := fun h => hgo2 ⟨h, hS1⟩
                                      exact hin hS1 j' (by omega) (by omega)
                                  have Hnx := Lib.hid hnx
                                  have hk1 : k + 1 ≤ f.subs.length := by obtain ⟨hk, _⟩ := Hcc.out; omega
                                  have Hk1 := Lib.hid hk1
                                  have HW8 := Lib.hid (show ∃ q, wr = W6.drewN q by
                                    obtain ⟨q, hq⟩ := HW7.out
                                    exact ⟨q + q5, by rw [Hwx7.out, hq]; exact drN W6 q q5⟩)
                                  rcases (show (S = false ∧ (j : Int) < (k : Int)) ∨ ¬ (j : Int) < (k : Int) by
                                    by_cases hh : j < k
                                    · refine .inl ⟨?_, by omega⟩
                                      cases hS : S with
                                      | false => rfl
                                      | true => exact absurd ⟨hh, hS⟩ hgo2
                                    · exact .inr (by omega)) with ⟨rfl, l3⟩ | l3
                                  · clear hnx hk1 hgo2 hin hb hjk
                                    go_wp2
                                    go_roundw
                                    case rel =>
                                      obtain ⟨q, hq⟩ := HW8.out
                                      exact ⟨k + 1, q, Hk1.out, by go_num, Hnx.out, hq⟩
                                    case measure => have := Hk1.out; simp [intOf]; omega
                                  · clear hnx hk1 hgo2 hin hb hjk
                                    go_wp2
                                    go_roundw
                                    case rel =>
                                      obtain ⟨q, hq⟩ := HW8.out
                                      exact ⟨k + 1, q, Hk1.out, by go_num, Hnx.out, hq⟩
                                    case measure => have := Hk1.out; simp [intOf]; omega
                            · have l1 : ¬ (k : Int) < (f.subs.length : Int) := by omega
                              have htb : twiceBad f r = false := by
                                rw [Bool.eq_false_iff]
                                intro h
                                obtain ⟨i, hi, hs, j, hj, he⟩ := (twiceBad_iff f r).1 h
                                exact hall i hi (by omega) hs j hj he
                              have HV := Lib.hid (show V = 0 by rw [HY.out, htb]; rfl)
                              have Hb := Lib.hid hb
                              clear htb hall hb hkl hlt Hwx
                              go_wp2
                              go_ret
                              exact ⟨by rw [HV.out]; rfl, Hb.out⟩
                  · skip
                    cases cb with
                    | true =>
                      have HV := Lib.hid (show V = 0 by rw [HO.out]; exact ctl_clean hc hm)
                      go_wp2
                      go_ret
                      exact ⟨by rw [HV.out]; rfl, Hbx.out⟩
                    | false =>
                      obtain ⟨x, y, hxy⟩ := noctl_ind hc hm
                      have g0 : ∀ h, (ByteArray.mk f.ind.toArray)[0]'h = x := fun h => by rw [get_str]; simp [hxy]
                      have g1 : ∀ h, (ByteArray.mk f.ind.toArray)[1]'h = y := fun h => by rw [get_str]; simp [hxy]
                      have sti := size_str f.ind
                      have j0 : (0 : Int) < (f.ind.length : Int) := by rw [hxy]; simp
                      have j1 : (1 : Int) < (f.ind.length : Int) := by rw [hxy]; simp
                      have hib : indBad f r = (!hasB r.ind0 x || !hasB r.ind1 y) := by unfold indBad; rw [hc, hxy]; rfl
                      have M1 := fun W => rHas_q r.ind0 x Hls.out.1 W
                      have M2 := fun W => rHas_q r.ind1 y Hls.out.2.1 W
                      obtain ⟨A, hA⟩ : ∃ A, hasB r.ind0 x = A := ⟨_, rfl⟩
                      obtain ⟨C, hC⟩ : ∃ C, hasB r.ind1 y = C := ⟨_, rfl⟩
                      rw [hA] at M1
                      rw [hC] at M2
                      rw [hA, hC] at hib
                      have Hib := Lib.hid hib
                      have M1 := Lib.hid M1
                      have M2 := Lib.hid M2
                      have Hhm := Lib.hid hm
                      clear hib hA hC hxy hgo hm hc
                      go_wp2_with fail
                      go_quiet (exact Calls.quiet_of (M1.out _))
                      obtain ⟨W4, hW4⟩ : ∃ W4, wr.drewN nq = W4 := ⟨_, rfl⟩
                      rw [hW4]
                      have t1 : W4.cell? ⟨w.heap.size, 1, none⟩ = some (str f.ind) := by rw [← hW4]; exact t1
                      have t3 : W4.cell? ⟨w.heap.size, 3, none⟩ = some (.slice sa f.subs.length sc) := by rw [← hW4]; exact t3
                      have r4 : W4.cell? ⟨R, 4, none⟩ = some (str r.ind1) := by rw [← hW4]; exact r4
                      have r5 : W4.cell? ⟨R, 5, none⟩ = some (str r.codes) := by rw [← hW4]; exact r5
                      have r6 : W4.cell? ⟨R, 6, none⟩ = some (str r.single) := by rw [← hW4]; exact r6
                      have Hb4 := Lib.hid (show Below w.heap.size w W4 by rw [← hW4]; exact below_dr Hbx.out nq)
                      clear hW4 t0 r2 r3
                      go_wp2_with fail
                      go_quiet (exact Calls.quiet_of (M2.out _))
                      obtain ⟨W5, hW5⟩ : ∃ W5, W4.drewN nq = W5 := ⟨_, rfl⟩
                      rw [hW5]
                      have t3 : W5.cell? ⟨w.heap.size, 3, none⟩ = some (.slice sa f.subs.length sc) := by rw [← hW5]; exact t3
                      have r5 : W5.cell? ⟨R, 5, none⟩ = some (str r.codes) := by rw [← hW5]; exact r5
                      have r6 : W5.cell? ⟨R, 6, none⟩ = some (str r.single) := by rw [← hW5]; exact r6
                      have Hb5 := Lib.hid (show Below w.heap.size w W5 by rw [← hW5]; exact below_dr Hb4.out nq)
                      clear hW5 t1 r4 j0 j1 g0 g1 sti
                      rcases (show (A = true ∧ C = true) ∨ A = false ∨ (A = true ∧ C = false) by cases A <;> cases C <;> simp) with ⟨rfl, rfl⟩ | rfl | ⟨rfl, rfl⟩
                      case inr.inl =>
                        have HV := Lib.hid (show V = 23 by rw [HO.out, Hib.out]; rfl)
                        go_wp2
                        go_ret
                        exact ⟨by rw [HV.out]; rfl, Hb5.out⟩
                      case inr.inr =>
                        have HV := Lib.hid (show V = 23 by rw [HO.out, Hib.out]; rfl)
                        go_wp2
                        go_ret
                        exact ⟨by rw [HV.out]; rfl, Hb5.out⟩
                      have HX := Lib.hid (show V = if codeBad f r then 24 else if twiceBad f r then 22 else 0 by rw [HO.out, Hib.out]; rfl)
                      go_wp2_with fail
                      go_loopw [16, 17] (fun iv v17 wx => ∃ k q : Nat, k ≤ f.subs.length ∧ iv = .int .i64 k ∧ (∀ j (h : j < f.subs.length), j < k → hasB r.codes f.subs[j].code = true) ∧ wx = W5.drewN q) (fun iv _ _ => f.subs.length - (intOf iv).toNat)
                      case atStart => exact ⟨0, 0, Nat.zero_le _, rfl, fun j _ hj => absurd hj (Nat.not_lt_zero j), rfl⟩
                      case round =>
                        obtain ⟨k, q3, hkl, rfl, hall, hwx⟩ := hrel
                        have hb : Below w.heap.size w wr := by rw [hwx]; exact below_dr Hb5.out q3
                        have t3 : wr.cell? ⟨w.heap.size, 3, none⟩ = some (.slice sa f.subs.length sc) := by rw [hwx]; exact t3
                        have r5 : wr.cell? ⟨R, 5, none⟩ = some (str r.codes) := by rw [hwx]; exact r5
                        have r6 : wr.cell? ⟨R, 6, none⟩ = some (str r.single) := by rw [hwx]; exact r6
                        have Hwx := Lib.hid hwx
                        clear hwx
                        by_cases hlt : k < f.subs.length
                        · have l0 : (0 : Int) ≤ (k : Int) := by omega
                          have l1 : (k : Int) < (f.subs.length : Int) := by omega
                          obtain ⟨b4, o4, ha4, hbl4, c0, -⟩ := Hs.out k hlt
                          replace c0 := cell_below hb (Nat.le_refl _) c0
                          obtain ⟨c, hcc⟩ : ∃ c, f.subs[k].code = c := ⟨_, rfl⟩
                          rw [hcc] at c0
                          have M3 := fun W => rHas_q r.codes c Hls.out.2.2.1 W
                          cases hh : hasB r.codes c with
                          | false =>
                            rw [hh] at M3
                            have M3 := Lib.hid M3
                            have HV := Lib.hid (show V = 24 by rw [HX.out, if_pos ((codeBad_iff f r).2 ⟨k, hlt, by rw [hcc]; exact hh⟩)])
                            have Hb := Lib.hid hb
                            clear hh hall hb hbl4 hcc hkl
                            subst ha4
                            go_wp2_with fail
                            go_quiet (exact Calls.quiet_of (M3.out _))
                            go_wp2
                            go_ret
                            exact ⟨by rw [HV.out]; rfl, below_dr Hb.out nq⟩
                          | true =>
                            rw [hh] at M3
                            have M3 := Lib.hid M3
                            have Hnew := Lib.hid (show ∀ j (h : j < f.subs.length), j < k + 1 → hasB r.codes f.subs[j].code = true by
                              intro j hj hjk
                              rcases Nat.lt_or_ge j k with h | h
                              · exact hall j hj h
                              · obtain rfl : j = k := by omega
                                rw [hcc]; exact hh)
                            have Hlt := Lib.hid hlt
                            clear hh hall hb hbl4 hcc hkl hlt
                            subst ha4
                            go_wp2_with fail
                            go_quiet (exact Calls.quiet_of (M3.out _))
                            go_wp2
                            go_roundw
                            case rel => exact ⟨k + 1, q3 + nq, by have := Hlt.out; omega, by go_num, Hnew.out, by rw [Hwx.out]; exact drN W5 q3 nq⟩
                            case measure => have := Hlt.out; simp [intOf]; omega
                        · have l1 : ¬ (k : Int) < (f.subs.length : Int) := by omega
                          have hcb : codeBad f r = false := by
                            rw [Bool.eq_false_iff]
                            intro h
                            obtain ⟨j, hj, he⟩ := (codeBad_iff f r).1 h
                            rw [hall j hj (by omega)] at he
                            cases he
                          have HY := Lib.hid (show V = if twiceBad f r then 22 else 0 by rw [HX.out, hcb]; rfl)
                          have Hb := Lib.hid hb
                          clear hcb hall hb hkl hlt Hwx
                          obtain ⟨W6, hW6⟩ : ∃ W6, wr = W6 := ⟨_, rfl⟩
                          rw [hW6] at t3 r6 Hb ⊢
                          go_wp2_with fail
                          go_loopw [18, 19, 20] (fun iv v19 v20 wx => ∃ k q : Nat, k ≤ f.subs.length ∧ iv = .int .i64 k ∧ (∀ i (h : i < f.subs.length), i < k → hasB r.single f.subs[i].code = true → ∀ j (hj : j < i), f.subs[j].code ≠ f.subs[i].code) ∧ wx = W6.drewN q) (fun iv _ _ _ => f.subs.length - (intOf iv).toNat)
                          case atStart => exact ⟨0, 0, Nat.zero_le _, rfl, fun j _ hj => absurd hj (Nat.not_lt_zero j), rfl⟩
                          case round =>
                            obtain ⟨k, q4, hkl, rfl, hall, hwx⟩ := hrel
                            have hb : Below w.heap.size w wr := by rw [hwx]; exact below_dr Hb.out q4
                            have t3 : wr.cell? ⟨w.heap.size, 3, none⟩ = some (.slice sa f.subs.length sc) := by rw [hwx]; exact t3
                            have r6 : wr.cell? ⟨R, 6, none⟩ = some (str r.single) := by rw [hwx]; exact r6
                            have Hwx := Lib.hid hwx
                            clear hwx
                            by_cases hlt : k < f.subs.length
                            · have l0 : (0 : Int) ≤ (k : Int) := by omega
                              have l1 : (k : Int) < (f.subs.length : Int) := by omega
                              obtain ⟨b4, o4, ha4, hbl4, c0, -⟩ := Hs.out k hlt
                              replace c0 := cell_below hb (Nat.le_refl _) c0
                              obtain ⟨c, hcc⟩ : ∃ c, f.subs[k].code = c := ⟨_, rfl⟩
                              rw [hcc] at c0
                              have M4 := fun W => rHas_q r.single c Hls.out.2.2.2 W
                              obtain ⟨S, hS⟩ : ∃ S, hasB r.single c = S := ⟨_, rfl⟩
                              rw [hS] at M4
                              have M4 := Lib.hid M4
                              have Hss := Lib.hid Hs.out
                              have HS := Lib.hid hS
                              have Hcc := Lib.hid (show ∃ h : k < f.subs.length, f.subs[k].code = c from ⟨hlt, hcc⟩)
                              have Hall := Lib.hid hall
                              have Hbb := Lib.hid hb
                              clear hS hcc hall hb hbl4 hkl hlt Hs
                              subst ha4
                              go_wp2_with fail
                              go_quiet (exact Calls.quiet_of (M4.out _))
                              obtain ⟨W7, hW7⟩ : ∃ W7, wr.drewN nq = W7 := ⟨_, rfl⟩
                              rw [hW7]
                              have t3 : W7.cell? ⟨w.heap.size, 3, none⟩ = some (.slice (some ⟨b4, o4, none⟩) f.subs.length sc) := by rw [← hW7]; exact t3
                              have c0 : W7.cell? ⟨b4, o4 + k * 2, none⟩ = some (.int .u8 (c.toNat : Int)) := by rw [← hW7]; exact c0
                              have Hb7 := Lib.hid (show Below w.heap.size w W7 by rw [← hW7]; exact below_dr Hbb.out nq)
                              have HW7 := Lib.hid (show ∃ q, W7 = W6.drewN q from ⟨q4 + nq, by rw [← hW7, Hwx.out]; exact drN W6 q4 nq⟩)
                              clear hW7 r6
                              go_wp2_with fail
                              go_loopw [20] (fun iv wx => ∃ j q : Nat, j ≤ k ∧ iv = .int .i64 j ∧ (S = true → ∀ i (h : i < f.subs.length), i < j → f.subs[i].code ≠ c) ∧ wx = W7.drewN q) (fun iv _ => k - (intOf iv).toNat)
                              case atStart => exact ⟨0, 0, Nat.zero_le _, rfl, fun _ j _ hj => absurd hj (Nat.not_lt_zero j), rfl⟩
                              case round =>
                                obtain ⟨j, q5, hjk, rfl, hin, hwx⟩ := hrel
                                have hb : Below w.heap.size w wr := by rw [hwx]; exact below_dr Hb7.out q5
                                have t3 : wr.cell? ⟨w.heap.size, 3, none⟩ = some (.slice (some ⟨b4, o4, none⟩) f.subs.length sc) := by rw [hwx]; exact t3
                                have c0 : wr.cell? ⟨b4, o4 + k * 2, none⟩ = some (.int .u8 (c.toNat : Int)) := by rw [hwx]; exact c0
                                have Hwx7 := Lib.hid hwx
                                clear hwx
                                by_cases hgo2 : j < k ∧ S = true
                                · obtain ⟨hj, rfl⟩ := hgo2
                                  have hjl : j < f.subs.length := by obtain ⟨h, _⟩ := Hcc.out; omega
                                  have l2 : (0 : Int) ≤ (j : Int) := by omega
                                  have l3 : (j : Int) < (k : Int) := by omega
                                  have l4 : (j : Int) < (f.subs.length : Int) := by omega
                                  obtain ⟨b5, o5, ha5, hbl5, d0, -⟩ := Hss.out j hjl
                                  simp only [Option.some.injEq, Addr.mk.injEq, and_true] at ha5
                                  obtain ⟨rfl, rfl⟩ := ha5
                                  replace d0 := cell_below hb (Nat.le_refl _) d0
                                  obtain ⟨d, hdd⟩ : ∃ d, f.subs[j].code = d := ⟨_, rfl⟩
                                  rw [hdd] at d0
                                  have Hb := Lib.hid hb
                                  by_cases hdc : d = c
                                  · have e1 : ((d.toNat : Int) == (c.toNat : Int)) = true := by rw [beq_iff_eq, hdc]
                                    have HV := Lib.hid (show V = 22 by
                                      obtain ⟨hk, hkc⟩ := Hcc.out
                                      rw [HY.out, if_pos ((twiceBad_iff f r).2 ⟨k, hk, by rw [hkc]; exact HS.out, j, hj, by rw [hdd, hkc, hdc]⟩)])
                                    clear hdd hdc hb hbl5 hin hjk hj
                                    go_wp2_with fail
                                    go_region
                                    go_wp2
                                    go_ret
                                    exact ⟨by rw [HV.out]; rfl, Hb.out.drew⟩
                                  · have e1 : ((d.toNat : Int) == (c.toNat : Int)) = false := by
                                      rw [beq_eq_false_iff_ne]
                                      intro h
                                      exact hdc (UInt8.toNat_inj.1 (by omega))
                                    have Hnew := Lib.hid (show true = true → ∀ i (h : i < f.subs.length), i < j + 1 → f.subs[i].code ≠ c by
                                      intro _ i hi hij
                                      rcases Nat.lt_or_ge i j with h | h
                                      · exact hin rfl i hi h
                                      · obtain rfl : i = j := by omega
                                        rw [hdd]; exact hdc)
                                    have Hj := Lib.hid hj
                                    clear hdd hdc hb hbl5 hin hjk hj hjl
                                    go_wp2_with fail
                                    go_region
                                    go_wp2
                                    go_roundw
                                    case rel => exact ⟨j + 1, q5 + 1, by have := Hj.out; omega, by go_num, Hnew.out, by rw [Hwx7.out]; exact drN W7 q5 1⟩
                                    case measure => have := Hj.out; simp [intOf]; omega
                                · have hnx : ∀ i (h : i < f.subs.length), i < k + 1 → hasB r.single f.subs[i].code = true → ∀ j (hj : j < i), f.subs[j].code ≠ f.subs[i].code := by
                                    intro i hi hik hs j' hj'
                                    rcases Nat.lt_or_ge i k with h | h
                                    · exact Hall.out i hi h hs j' hj'
                                    · obtain rfl : i = k := by omega
                                      obtain ⟨hk, hkc⟩ := Hcc.out
                                      rw [hkc] at hs ⊢
                                      have hS1 : S = true := by rw [← HS.out]; exact hs
                                      have hjk' : ¬ j < i := fun h => hgo2 ⟨h, hS1⟩
                                      exact hin hS1 j' (by omega) (by omega)
                                  have Hnx := Lib.hid hnx
                                  have hk1 : k + 1 ≤ f.subs.length := by obtain ⟨hk, _⟩ := Hcc.out; omega
                                  have Hk1 := Lib.hid hk1
                                  have HW8 := Lib.hid (show ∃ q, wr = W6.drewN q by
                                    obtain ⟨q, hq⟩ := HW7.out
                                    exact ⟨q + q5, by rw [Hwx7.out, hq]; exact drN W6 q q5⟩)
                                  rcases (show (S = false ∧ (j : Int) < (k : Int)) ∨ ¬ (j : Int) < (k : Int) by
                                    by_cases hh : j < k
                                    · refine .inl ⟨?_, by omega⟩
                                      cases hS : S with
                                      | false => rfl
                                      | true => exact absurd ⟨hh, hS⟩ hgo2
                                    · exact .inr (by omega)) with ⟨rfl, l3⟩ | l3
                                  · clear hnx hk1 hgo2 hin hb hjk
                                    go_wp2
                                    go_roundw
                                    case rel =>
                                      obtain ⟨q, hq⟩ := HW8.out
                                      exact ⟨k + 1, q, Hk1.out, by go_num, Hnx.out, hq⟩
                                    case measure => have := Hk1.out; simp [intOf]; omega
                                  · clear hnx hk1 hgo2 hin hb hjk
                                    go_wp2
                                    go_roundw
                                    case rel =>
                                      obtain ⟨q, hq⟩ := HW8.out
                                      exact ⟨k + 1, q, Hk1.out, by go_num, Hnx.out, hq⟩
                                    case measure => have := Hk1.out; simp [intOf]; omega
                            · have l1 : ¬ (k : Int) < (f.subs.length : Int) := by omega
                              have htb : twiceBad f r = false := by
                                rw [Bool.eq_false_iff]
                                intro h
                                obtain ⟨i, hi, hs, j, hj, he⟩ := (twiceBad_iff f r).1 h
                                exact hall i hi (by omega) hs j hj he
                              have HV := Lib.hid (show V = 0 by rw [HY.out, htb]; rfl)
                              have Hb := Lib.hid hb
                              clear htb hall hb hkl hlt Hwx
                              go_wp2
                              go_ret
                              exact ⟨by rw [HV.out]; rfl, Hb.out⟩
          · rw [show ((j + 1 : Nat) : Int) - 1 = (j : Int) by omega]
            have k0 : (0 : Int) ≤ (j : Int) := by omega
            have k1 : (j : Int) < (rules.length : Int) := by omega
            obtain ⟨b2, o2, hra2, hbl2, q0, -⟩ := Hrc.out j (by omega)
            have hbw : Below w.heap.size w wr := by rw [hwr]; exact below_dr Hb1.out q
            have q0 := cell_below hbw (Nat.le_refl _) q0
            have t0 : wr.cell? ⟨w.heap.size, 0, none⟩ = some (str f.tag) := by rw [hwr]; exact t0
            have hjl : j < rules.length := by omega
            have M := fun W => rMatches_c rules[j].tag f.tag (Hft.out f (by obtain ⟨h, e⟩ := Hfe.out; rw [← e]; exact List.getElem_mem h)) (Hrt.out _ (List.getElem_mem hjl)) W
            unfold QB at M
            have Hhit := Lib.hid (fun h => hat.hit hjl h)
            have Hmiss := Lib.hid (fun h => hat.miss hjl h)
            obtain ⟨ru, hru⟩ : ∃ ru, rules[j].tag = ru := ⟨_, rfl⟩
            rw [hru] at q0 M Hhit Hmiss
            subst hra2
            have Hwr := Lib.hid hwr
            clear hwr hbw hat hru hbl2 t1 t2 t3
            cases hmb : matchB f.tag ru with
            | true =>
              rw [hmb] at M
              have M := Lib.hid M
              have hA := Lib.hid (Hhit.out hmb)
              clear hmb Hhit Hmiss
              go_wp2_with fail
              go_quiet (exact Calls.quiet_of (M.out _))
              go_wp2
              go_roundw
              case rel => exact ⟨j, q + nq, j, by omega, by go_num, by go_num, hA.out, by rw [Hwr.out]; exact drN wc q nq⟩
              case measure => simp [intOf]
            | false =>
              rw [hmb] at M
              have M := Lib.hid M
              have hA := Lib.hid (Hmiss.out hmb)
              clear hmb Hhit Hmiss
              go_wp2_with fail
              go_quiet (exact Calls.quiet_of (M.out _))
              go_wp2
              go_roundw
              case rel => exact ⟨j, q + nq, a, by omega, by go_num, rfl, hA.out, by rw [Hwr.out]; exact drN wc q nq⟩
              case measure => simp [intOf]
end Go.Proofs.Ytfccpepmjklodaa
