/-
  The reference's Check.
-/
import Derived.Test.YtfccpepmjklodaaSRefP
import Derived.Test.YtfccpepmjklodaaSCheck
namespace Go.Proofs.Ytfccpepmjklodaa
open Go.RowKit Go.Shelf Go.Maps Go.ChangeMaps
set_option linter.unusedVariables false
set_option linter.unusedSimpArgs false

/-- What the reference's Check keeps. -/
structure RcW (w wr : World) (rules : List RuleM) (fs : List FldM) (kd lv : UInt8) (fa : Option Addr) (fc B0 : Nat) (pv : Value) (probs : List (Int × Nat)) : Prop where
  bel : Below w.heap.size w wr
  box : wr.heap[w.heap.size]? = some (.cells #[.int .u8 (kd.toNat : Int), .int .u8 (lv.toNat : Int), .slice fa fs.length fc] 32 (0, 0))
  own : wr.ownsRow B0 54 2 pv probs.length (probCells probs)
  l1 : w.heap.size < B0
  l2 : B0 ≤ wr.heap.size
section
variable {w wr wx : World} {rules : List RuleM} {fs : List FldM} {kd lv : UInt8} {fa : Option Addr} {fc B0 : Nat} {pv : Value} {probs : List (Int × Nat)}
theorem RcW.below (h : RcW w wr rules fs kd lv fa fc B0 pv probs) (hb : Below wr.heap.size wr wx) : RcW w wx rules fs kd lv fa fc B0 pv probs := by
  have l1 := h.l1
  have l2 := h.l2
  exact ⟨h.bel.trans (hb.mono (by omega)), (hb.block _ (by omega)).trans h.box, own_bel h.own hb, h.l1, Nat.le_trans h.l2 hb.size⟩
theorem RcW.cell2 (h : RcW w wr rules fs kd lv fa fc B0 pv probs) : wr.cell? ⟨w.heap.size, 2, none⟩ = some (.slice fa fs.length fc) := by rw [cell_at h.box]; rfl
end
theorem any_take {fs : List FldM} {p : FldM → Bool} {n : Nat} (h : n < fs.length) : (fs.take (n + 1)).any p = ((fs.take n).any p || p fs[n]) := by
  rw [take_snoc fs n h, List.any_append]
  simp
theorem ownsRow_snoc {w' : World} {B : Nat} {a : Option Addr} {c : Nat} {probs : List (Int × Nat)} {p : Int × Nat} (h : w'.ownsRow B 54 2 (.slice a (probs.length + 1) c) (probs.length + 1) (probCells probs ++ [.int .i64 p.1, .int .i64 (p.2 : Nat)])) :
    w'.ownsRow B 54 2 (.slice a (probs.length + 1) c) (probs ++ [p]).length (probCells (probs ++ [p])) := by
  rw [List.length_append, probCells_snoc]; exact h
set_option maxRecDepth 100000 in
set_option maxHeartbeats 20000000 in
theorem rCheck_c (rules : List RuleM) (ra : Option Addr) (rc : Nat) (v : Value) (r : RecM) (w : World) (hr : RulesAt w (.slice ra rules.length rc) rules) (hv : RecV w v r)
    (hrt : ∀ q ∈ rules, q.tag.length ≤ 140737488355328) (hrl : ∀ q ∈ rules, q.ind0.length ≤ 140737488355328 ∧ q.ind1.length ≤ 140737488355328 ∧ q.codes.length ≤ 140737488355328 ∧ q.single.length ≤ 140737488355328)
    (hft : ∀ f ∈ r.fields, f.tag.length ≤ 140737488355328) (hsm : rules.length + r.fields.length ≤ 1000000) :
    Calls Try.prog 16 #[.slice ra rules.length rc, v] w (ProbsPost (checkS rules r.fields) w) := by
  obtain ⟨fv, rfl, hf⟩ := hv
  obtain ⟨fa, fc, rfl, hfm, hfc⟩ := id hf.slice
  obtain ⟨kd, lv, fs⟩ := r
  simp only at hf hfm hfc hft hsm ⊢
  obtain ⟨W1, hW1⟩ : ∃ W1, w.alloc (.cells #[.int .u8 (kd.toNat : Int), .int .u8 (lv.toNat : Int), .slice fa fs.length fc] 32) = W1 := ⟨_, rfl⟩
  have hb1 : Below w.heap.size w W1 := by rw [← hW1]; exact below_new _ _
  have hs1 : W1.heap.size = w.heap.size + 1 := by rw [← hW1]; simp
  have hn1 : W1.heap[w.heap.size]? = some (.cells #[.int .u8 (kd.toNat : Int), .int .u8 (lv.toNat : Int), .slice fa fs.length fc] 32 (0, 0)) := by rw [← hW1]; exact new_at _ _
  have hC1 : RcW w W1 rules fs kd lv fa fc W1.heap.size (.slice none 0 0) [] := ⟨hb1, hn1, World.ownsRow_nil _ _ _ _, by omega, Nat.le_refl _⟩
  obtain ⟨B0, hB0⟩ : ∃ k, W1.heap.size = k := ⟨_, rfl⟩
  rw [hB0] at hC1
  have e2 := hC1.cell2
  have HC1 := Lib.hid hC1
  have Hr := Lib.hid hr
  have Hf := Lib.hid hf
  have Hfc := Lib.hid hfc
  have Hrt := Lib.hid hrt
  have Hrl := Lib.hid hrl
  have Hft := Lib.hid hft
  unfold maxLen at hfm
  unfold ProbsPost
  clear hb1 hn1 hr hf hfc hrt hrl hft hC1 hB0 hs1
  go_enter Try.func16, Try.ntmps16
  go_wp2_with fail
  clear hW1 e2
  go_loopw [5, 6, 7] (fun pv iv v7 wr => ∃ (i : Nat) (probs : List (Int × Nat)), i ≤ fs.length ∧ probs.length ≤ i ∧ iv = .int .i64 i ∧ RcW w wr rules fs kd lv fa fc B0 pv probs ∧
    probs ++ fldProbs rules i (tagsOf (fs.take i)).reverse (fs.drop i) = fldProbs rules 0 [] fs) (fun _ iv _ _ => fs.length - (intOf iv).toNat)
  case atStart => exact ⟨0, [], Nat.zero_le _, Nat.le_refl _, rfl, HC1.out, rfl⟩
  case round =>
    obtain ⟨i, probs, hi, hpl, rfl, hC, hprob⟩ := hrel
    obtain ⟨pa, pc, rfl⟩ := own_form hC.own
    have e2 := hC.cell2
    clear HC1
    by_cases hlt : i < fs.length
    · have i1 : (i : Int) < (fs.length : Int) := by omega
      have NP := problem_c rules 0 0 ra rc fs fa fc i hlt wr (Hr.out.below hC.bel (Nat.le_refl _)) (Hf.out.below hC.bel (Nat.le_refl _)) Hrt.out Hrl.out Hft.out
      obtain ⟨k, hk⟩ : ∃ k, visM fs[i] (ruleOf rules fs[i].tag) ((tagsOf (fs.take i)).contains fs[i].tag) = k := ⟨_, rfl⟩
      rw [hk] at NP
      have hstep := fld_step (rules := rules) hlt hk
      have hpr := hprob
      rw [hstep] at hpr
      have NP := Lib.hid NP
      have HC := Lib.hid hC
      have hk1 : (k : Int) ≤ 1000000 := by
        rw [← hk]; unfold visM; split
        · decide
        · split
          · decide
          · (repeat' split) <;> decide
      clear hk hstep hprob hC
      by_cases hk0 : k = 0
      · have kk : ((k : Int) != 0) = false := by rw [bne_eq_false_iff_eq]; omega
        rw [if_pos hk0, List.nil_append] at hpr
        have Hpr := Lib.hid hpr
        clear hpr hk0
        go_wp2_with fail
        refine NP.out.mono ?_
        rintro _ w2 ⟨rfl, hb2⟩
        have HC2 := Lib.hid (HC.out.below hb2)
        clear hb2
        go_wp2
        go_roundw
        case rel => exact ⟨i + 1, probs, by omega, by omega, by go_num, HC2.out, Hpr.out⟩
        case measure => simp [intOf]; omega
      · have kk : ((k : Int) != 0) = true := by rw [bne_iff_ne]; omega
        rw [if_neg hk0, ← List.append_assoc] at hpr
        have Hpr := Lib.hid hpr
        obtain ⟨i0', hi0, hz0, hz1, hz2⟩ := info_parts infoProb
        clear hpr hk0
        go_wp2_with fail
        refine NP.out.mono ?_
        rintro _ w2 ⟨rfl, hb2⟩
        have hC2 := HC.out.below hb2
        have HC2 := Lib.hid hC2
        have hl2 : B0 ≤ w2.heap.size := hC2.l2
        clear hb2 hC2 e2
        go_wp2_with (at_builtin; refine wpList_append_own _ rfl _ _ 35 rfl B0 54 i0' _ 2 16 Try.underlying35 hi0 hz0 hz1 hz2 rfl (by decide) _ _ _ rfl (HC2.out.own.alloc _) ⟨w2.heap.size, 0, none⟩ 1 1 [.int .i64 i, .int .i64 (k : Nat)] rfl rfl ?sa ?sb ?sc ?sd ?se ?_)
        case sa => exact two_cells w2 _ _ _
        case sb => simp [Value.oneCell']
        case sc => unfold maxLen; omega
        case sd => omega
        case se => simp; omega
        intro v9 w9 hown9 hgrow9 _
        obtain ⟨na, nc, rfl⟩ := own_form hown9
        have hb9 : Below B0 w2 w9 := ((Below.refl B0 w2).alloc hl2 _).grown hgrow9 (by simp; omega) (fun q hq => (HC2.out.own.lt q hq).1)
        have hC9 : RcW w w9 rules fs kd lv fa fc B0 (.slice na (probs.length + 1) nc) (probs ++ [((i : Int), k)]) := by
          have l1 := HC2.out.l1
          exact ⟨HC2.out.bel.trans (hb9.mono (by omega)), (hb9.block _ (by omega)).trans HC2.out.box, ownsRow_snoc hown9, l1, Nat.le_trans hl2 hb9.size⟩
        have HC9 := Lib.hid hC9
        clear hown9 hgrow9 hb9 hC9 hi0 hz0 hz1 hz2
        go_wp2
        go_roundw
        case rel => exact ⟨i + 1, _, by omega, by rw [List.length_append]; simp; omega, by go_num, HC9.out, Hpr.out⟩
        case measure => simp [intOf]; omega
    · have hin : i = fs.length := by omega
      subst hin
      rw [List.take_length] at hprob
      rw [List.drop_length] at hprob
      have hp0 : probs = fldProbs rules 0 [] fs := by rw [← hprob]; unfold fldProbs; simp
      have hall : probs ++ missProbs fs (rules.drop 0) = checkS rules fs := by rw [hp0, List.drop_zero]; rfl
      have HC := Lib.hid hC
      have Hall := Lib.hid hall
      have i1 : ¬ (fs.length : Int) < (fs.length : Int) := by omega
      clear hC hprob hp0 hall hlt
      go_wp2_with fail
      clear e2 i1
      go_loopw [5, 8, 9, 10, 11] (fun pv jv v9 v10 v11 wr => ∃ (j : Nat) (probs : List (Int × Nat)), j ≤ rules.length ∧ probs.length ≤ fs.length + j ∧ jv = .int .i64 j ∧ RcW w wr rules fs kd lv fa fc B0 pv probs ∧ probs ++ missProbs fs (rules.drop j) = checkS rules fs) (fun _ jv _ _ _ _ => rules.length - (intOf jv).toNat)
      case atStart => exact ⟨0, probs, Nat.zero_le _, by omega, rfl, HC.out, Hall.out⟩
      case round =>
        clear HC Hall hpl
        obtain ⟨j, probs, hj, hpl, rfl, hC, hprob⟩ := hrel
        obtain ⟨pa, pc, rfl⟩ := own_form hC.own
        by_cases hlt : j < rules.length
        · have i0 : (0 : Int) ≤ (j : Int) := by omega
          have i1 : (j : Int) < (rules.length : Int) := by omega
          obtain ⟨_, _, hre, hrm, hrc⟩ := Hr.out.slice
          simp only [Value.slice.injEq] at hre
          obtain ⟨rfl, -, rfl⟩ := hre
          obtain ⟨b2, off2, hrae, hbl2, q0, q1, -⟩ := hrc j hlt
          have hru' := Hrt.out rules[j] (List.getElem_mem hlt)
          have hstep := miss_step (fs := fs) hlt
          obtain ⟨ru, hru⟩ : ∃ ru, rules[j] = ru := ⟨_, rfl⟩
          rw [hru] at q0 q1 hru' hstep
          have hmb : missB fs ru = (ru.must && !(fs.any fun f => matchB f.tag ru.tag)) := rfl
          obtain ⟨Wj, hWj⟩ : ∃ W, W = wr := ⟨_, rfl⟩
          subst hWj
          replace q0 := cell_below hC.bel (Nat.le_refl _) q0
          replace q1 := cell_below hC.bel (Nat.le_refl _) q1
          have e2 := hC.cell2
          have HC := Lib.hid hC
          have Hmb := Lib.hid hmb
          have Hprob := Lib.hid hprob
          have Hstep := Lib.hid hstep
          have Hru := Lib.hid hru'
          subst hrae
          clear hC hmb hprob hstep hru' hru hrc hrm hbl2 hlt
          go_wp2_with fail
          go_loopw [9, 10, 11] (fun v9 iv v11 wx => ∃ n q : Nat, n ≤ fs.length ∧ iv = .int .i64 n ∧ v9 = .bool ((fs.take n).any fun f => matchB f.tag ru.tag) ∧ wx = Wj.drewN q) (fun _ iv _ _ => fs.length - (intOf iv).toNat)
          case atStart => exact ⟨0, 0, Nat.zero_le _, rfl, rfl, rfl⟩
          case round =>
            obtain ⟨n, q, hn, rfl, rfl, hwx⟩ := hrel
            have e2 : wr.cell? ⟨w.heap.size, 2, none⟩ = some (.slice fa fs.length fc) := by rw [hwx]; exact e2
            have q0 : wr.cell? ⟨b2, off2 + j * 7, none⟩ = some (str ru.tag) := by rw [hwx]; exact q0
            have q1 : wr.cell? ⟨b2, off2 + j * 7 + 1, none⟩ = some (.bool ru.must) := by rw [hwx]; exact q1
            by_cases hlt2 : n < fs.length
            · have l0 : (0 : Int) ≤ (n : Int) := by omega
              have l1 : (n : Int) < (fs.length : Int) := by omega
              obtain ⟨b4, o4, ha4, hbl4, c0, -⟩ := Hfc.out n hlt2
              have hbx : Below w.heap.size w wr := by rw [hwx]; exact below_dr HC.out.bel q
              replace c0 := cell_below hbx (Nat.le_refl _) c0
              have M := fun W => rMatches_c ru.tag fs[n].tag (Hft.out _ (List.getElem_mem hlt2)) Hru.out W
              unfold QB at M
              have hnx := any_take (p := fun f => matchB f.tag ru.tag) hlt2

              obtain ⟨T, hT⟩ : ∃ T, fs[n].tag = T := ⟨_, rfl⟩
              rw [hT] at c0 M hnx
              obtain ⟨mB, hmB⟩ : ∃ b, matchB T ru.tag = b := ⟨_, rfl⟩
              rw [hmB] at M hnx
              obtain ⟨A, hA⟩ : ∃ A, ((fs.take n).any fun f => matchB f.tag ru.tag) = A := ⟨_, rfl⟩
              rw [hA] at hnx ⊢
              have M := Lib.hid M
              have Hnx := Lib.hid hnx
              have Hwx := Lib.hid hwx
              subst ha4
              clear hnx hA hmB hT hbx hbl4 hwx
              cases A with
              | true =>
                go_wp2_with fail
                go_quiet (exact Calls.quiet_of (M.out _))
                go_wp2
                go_roundw
                case rel => exact ⟨n + 1, q + nq, by omega, by go_num, by rw [Hnx.out]; rfl, by rw [Hwx.out]; exact drN Wj q nq⟩
                case measure => simp [intOf]; omega
              | false =>
                go_wp2_with fail
                go_quiet (exact Calls.quiet_of (M.out _))
                go_wp2
                go_roundw
                case rel => exact ⟨n + 1, q + nq, by omega, by go_num, by rw [Hnx.out]; rfl, by rw [Hwx.out]; exact drN Wj q nq⟩
                case measure => simp [intOf]; omega
            · have l1 : ¬ (n : Int) < (fs.length : Int) := by omega
              have hnn : n = fs.length := by omega
              subst hnn
              rw [List.take_length]
              have HCx := Lib.hid (show RcW w wr rules fs kd lv fa fc B0 (.slice pa probs.length pc) probs by
                rw [hwx]; exact HC.out.below (below_dr (Below.refl _ _) q))
              obtain ⟨A, hA⟩ : ∃ A, (fs.any fun f => matchB f.tag ru.tag) = A := ⟨_, rfl⟩
              rw [hA]
              have HA := Lib.hid hA
              clear hA hwx HC
              cases hmu : ru.must with
              | false =>
                rw [hmu] at q1
                have hms : missB fs ru = false := by rw [Hmb.out, hmu]; rfl
                have hpr := Hprob.out
                rw [Hstep.out, hms, if_neg (by decide), List.nil_append] at hpr
                have Hpr := Lib.hid hpr
                clear hms hpr hmu
                go_wp2
                go_roundw
                case rel => exact ⟨j + 1, probs, by omega, by omega, by go_num, HCx.out, Hpr.out⟩
                case measure => simp [intOf]; omega
              | true =>
                rw [hmu] at q1
                cases A with
                | true =>
                  have hms : missB fs ru = false := by rw [Hmb.out, hmu, HA.out]; rfl
                  have hpr := Hprob.out
                  rw [Hstep.out, hms, if_neg (by decide), List.nil_append] at hpr
                  have Hpr := Lib.hid hpr
                  clear hms hpr hmu
                  go_wp2
                  go_roundw
                  case rel => exact ⟨j + 1, probs, by omega, by omega, by go_num, HCx.out, Hpr.out⟩
                  case measure => simp [intOf]; omega
                | false =>
                  have hms : missB fs ru = true := by rw [Hmb.out, hmu, HA.out]; rfl
                  have hpr := Hprob.out
                  rw [Hstep.out, hms, if_pos rfl, ← List.append_assoc] at hpr
                  have Hpr := Lib.hid hpr
                  obtain ⟨i0', hi0, hz0, hz1, hz2⟩ := info_parts infoProb
                  have hlr : B0 ≤ wr.heap.size := HCx.out.l2
                  clear hms hpr hmu
                  go_wp2_with (at_builtin; refine wpList_append_own _ rfl _ _ 35 rfl B0 54 i0' _ 2 16 Try.underlying35 hi0 hz0 hz1 hz2 rfl (by decide) _ _ _ rfl (HCx.out.own.alloc _) ⟨wr.heap.size, 0, none⟩ 1 1 [.int .i64 (-1), .int .i64 21] rfl rfl ?sa ?sb ?sc ?sd ?se ?_)
                  case sb => simp [Value.oneCell']
                  case sc => unfold maxLen; omega
                  case sd => omega
                  case se => first | omega | exact two_cells wr _ _ _
                  intro v9 w9 hown9 hgrow9 _
                  obtain ⟨na, nc, rfl⟩ := own_form hown9
                  have hb9 : Below B0 wr w9 := ((Below.refl B0 wr).alloc hlr _).grown hgrow9 (by simp; omega) (fun q hq => (HCx.out.own.lt q hq).1)
                  have hC9 : RcW w w9 rules fs kd lv fa fc B0 (.slice na (probs.length + 1) nc) (probs ++ [((-1 : Int), 21)]) := by
                    have l1 := HCx.out.l1
                    exact ⟨HCx.out.bel.trans (hb9.mono (by omega)), (hb9.block _ (by omega)).trans HCx.out.box, ownsRow_snoc hown9, l1, Nat.le_trans hlr hb9.size⟩
                  have HC9 := Lib.hid hC9
                  clear hown9 hgrow9 hb9 hC9 hi0 hz0 hz1 hz2
                  go_wp2
                  go_roundw
                  case rel => exact ⟨j + 1, _, by omega, by rw [List.length_append]; simp; omega, by go_num, HC9.out, Hpr.out⟩
                  case measure => simp [intOf]; omega
        · have hjn : j = rules.length := by omega
          subst hjn
          have hfin : probs = checkS rules fs := by rw [← hprob, List.drop_length]; unfold missProbs; simp
          subst hfin
          have Hown := Lib.hid (own_le hC.own (Nat.le_of_lt hC.l1))
          have Hb := Lib.hid hC.bel
          have hd1 : ¬ (rules.length : Int) < (rules.length : Int) := by omega
          clear hC hprob hlt
          go_wp2
          go_ret
          exact ⟨_, rfl, Hown.out, Hb.out⟩
end Go.Proofs.Ytfccpepmjklodaa
