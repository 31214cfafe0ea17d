/-
  schema.Check.
-/
import Derived.Test.YtfccpepmjklodaaSCkM
namespace Go.Proofs.Ytfccpepmjklodaa
open Go.RowKit Go.Shelf Go.Maps Go.ChangeMaps
set_option linter.unusedVariables false
set_option linter.unusedSimpArgs false

def ProbsPost (l : List (Int × Nat)) (w : World) (e : Ending) (w' : World) : Prop := ∃ pv, e = .returned pv ∧ w'.ownsRow w.heap.size 54 2 pv l.length (probCells l) ∧ Below w.heap.size w w'
theorem own_le {w : World} {B B1 : Nat} {e : TypeId} {sz n : Nat} {v : Value} {xs : List Value} (h : w.ownsRow B e sz v n xs) (hB : B1 ≤ B) : w.ownsRow B1 e sz v n xs := by
  refine ⟨h.1, ?_⟩
  rcases h.2 with h0 | ⟨g, cap, cur, hv, hbg, rest⟩
  · exact .inl h0
  · exact .inr ⟨g, cap, cur, hv, Nat.le_trans hB hbg, rest⟩
theorem zeroBool (w : World) : (zeroValue 4).run Try.prog w = .ok (.bool false) w := by kernel_rfl
theorem two_cells (w : World) (x y : Value) (t : TypeId) (j : Nat) (u : Value) (hj : [x, y][j]? = some u) : (w.alloc (.cells #[x, y] t)).cell? ((⟨w.heap.size, 0, none⟩ : Addr).add j) = some u := by
  have e : ((⟨w.heap.size, 0, none⟩ : Addr).add j) = ⟨w.heap.size, j, none⟩ := by
    unfold Addr.add
    split
    · rename_i h0; rw [h0]
    · simp
  rw [e, cell_at (new_at _ _)]
  simpa using hj
theorem ptr_of {w : World} {rules : List RuleM} {ra : Option Addr} {rb ro rc : Nat} (hra : rules ≠ [] → ra = some ⟨rb, ro, none⟩) (hr : RulesAt w (.slice ra rules.length rc) rules) (t : List UInt8) :
    ∃ p, (encRow rb ro).val (ruleIx rules t) = .pointer p ∧ PtrTo w p (ruleOf rules t) := by
  rcases ix_of (rules := rules) (t := t) with ⟨h1, h2⟩ | ⟨j, hj, h1, h2⟩
  · rw [h1, h2]; exact ⟨none, rfl, .inl ⟨rfl, rfl⟩⟩
  · rw [h1, h2]
    refine ⟨some ⟨rb, ro + j * 7, none⟩, rfl, .inr ⟨rb, ro + j * 7, rules[j], rfl, rfl, ?_⟩⟩
    obtain ⟨_, _, he, _, hc⟩ := hr.slice
    simp only [Value.slice.injEq] at he
    obtain ⟨rfl, -, -⟩ := he
    obtain ⟨b, off, hae, _, c⟩ := hc j hj
    have hre := hra (by intro e; rw [e] at hj; simp at hj)
    rw [hae] at hre
    simp only [Option.some.injEq, Addr.mk.injEq, and_true] at hre
    obtain ⟨rfl, rfl⟩ := hre
    exact c
theorem own_mark {w w' : World} {B mb : Nat} {e : TypeId} {sz n : Nat} {v : Value} {xs : List Value} (h : w.ownsRow B e sz v n xs) (hg : w.grownBy w' (some mb)) (hlt : mb < B) : w'.ownsRow B e sz v n xs := by
  refine ⟨h.1, ?_⟩
  rcases h.2 with h0 | ⟨g, cap, cur, hv, hbg, hh, r⟩
  · exact .inl h0
  · exact .inr ⟨g, cap, cur, hv, hbg, (hg.block g (lt_at hh) (by simp; omega)).trans hh, r⟩
set_option maxRecDepth 100000 in
set_option maxHeartbeats 20000000 in
theorem check_c (rules : List RuleM) (rb ro : Nat) (ra : Option Addr) (rc : Nat) (v : Value) (r : RecM) (hra : rules ≠ [] → ra = some ⟨rb, ro, none⟩) (w : World) (hr : RulesAt w (.slice ra rules.length rc) rules) (hv : RecV w v r)
    (hrt : ∀ q ∈ rules, q.tag.length ≤ 140737488355328) (hft : ∀ f ∈ r.fields, f.tag.length ≤ 140737488355328) (hsm : rules.length + r.fields.length ≤ 1000000) :
    Calls Try.prog 18 #[.slice ra rules.length rc, v] w (ProbsPost (checkS rules r.fields) w) := by
  obtain ⟨fv, rfl, hf⟩ := hv
  obtain ⟨fa, fc, rfl, hfm, hfc⟩ := id hf.slice
  obtain ⟨kd, lv, fs⟩ := r
  simp only at hf hfm hfc hft hsm ⊢
  obtain ⟨W1, hW1⟩ : ∃ W1, w.alloc (.cells #[.int .u8 (kd.toNat : Int), .int .u8 (lv.toNat : Int), .slice fa fs.length fc] 32) = W1 := ⟨_, rfl⟩
  have hb1 : Below w.heap.size w W1 := by rw [← hW1]; exact below_new _ _
  have hs1 : W1.heap.size = w.heap.size + 1 := by rw [← hW1]; simp
  have hn1 : W1.heap[w.heap.size]? = some (.cells #[.int .u8 (kd.toNat : Int), .int .u8 (lv.toNat : Int), .slice fa fs.length fc] 32 (0, 0)) := by rw [← hW1]; exact new_at _ _
  have e0 : W1.cell? ⟨w.heap.size, 0, none⟩ = some (.int .u8 (kd.toNat : Int)) := by rw [cell_at hn1]; rfl
  have e1 : W1.cell? ⟨w.heap.size, 1, none⟩ = some (.int .u8 (lv.toNat : Int)) := by rw [cell_at hn1]; rfl
  have e2 : W1.cell? ⟨w.heap.size, 2, none⟩ = some (.slice fa fs.length fc) := by rw [cell_at hn1]; rfl
  have HT := rulesOfTags_c rules fs rb ro ra fa rc fc hra W1 (hr.below hb1 (Nat.le_refl _)) (hf.below hb1 (Nat.le_refl _)) hrt hft
  unfold TagsPost at HT
  rw [hs1] at HT
  have HT := Lib.hid HT
  have Hb1 := Lib.hid hb1
  have Hn1 := Lib.hid hn1
  have Hr := Lib.hid hr
  have Hf := Lib.hid hf
  have Hfc := Lib.hid hfc
  have Hra := Lib.hid hra
  have Hrt := Lib.hid hrt
  have Hft := Lib.hid hft
  unfold maxLen at hfm
  unfold ProbsPost
  clear hb1 hn1 hr hf hfc hra hrt hft
  go_enter Try.func18, Try.ntmps18
  go_wp2_with fail
  clear hW1
  refine HT.out.mono ?_
  rintro _ w2 ⟨rfl, hM2, hb2, hl2⟩
  have hn2 := heap_below hb2 (by omega) Hn1.out
  have hbw2 := Hb1.out.trans (hb2.mono (by omega))
  have Hn2 := Lib.hid hn2
  have Hbw2 := Lib.hid hbw2
  have HM2 := Lib.hid hM2
  clear hn2 hbw2 hM2 hb2 HT e0 e1 e2
  have N2 := Lib.hid (tests_c w2)
  go_wp2_with fail
  refine N2.out.mono ?_
  rintro _ w3 ⟨rfl, ht3, hb3⟩
  obtain ⟨tb, htb⟩ : ∃ k, w2.heap.size = k := ⟨_, rfl⟩
  rw [htb] at ht3 hl2 ⊢
  have hmk : (Instr.makeMap 72 none).run Try.prog w3 = .ok (.map (some w3.heap.size)) (w3.alloc (.map #[] 0)) := run_makeMap _ w3
  obtain ⟨W4, hW4⟩ : ∃ W4, w3.alloc (.map #[] 0) = W4 := ⟨_, rfl⟩
  have hC4 : CkW w W4 rules fs rb ro kd lv fa fc tb w3.heap.size W4.heap.size 0 [] := by
    have hb34 : Below w3.heap.size w3 W4 := by rw [← hW4]; exact below_new _ _
    have hs4 : W4.heap.size = w3.heap.size + 1 := by rw [← hW4]; simp
    have hlt3 := lt_at ht3
    have hb24 : Below w2.heap.size w2 W4 := hb3.trans (hb34.mono hb3.size)
    refine ⟨Hbw2.out.trans (hb24.mono Hbw2.out.size), heap_below hb24 (Nat.le_refl _) Hn2.out, HM2.out.below hb24 (by omega), heap_below hb34 (Nat.le_refl _) ht3, ?_, hl2, hlt3, by omega, Nat.le_refl _⟩
    rw [← hW4]
    exact MapS.made encBool 9 w3
  rw [hW4] at hmk
  obtain ⟨B0, hB0⟩ : ∃ k, W4.heap.size = k := ⟨_, rfl⟩
  obtain ⟨mb, hmb⟩ : ∃ k, w3.heap.size = k := ⟨_, rfl⟩
  rw [hB0, hmb] at hC4
  rw [hmb] at hmk
  obtain ⟨f0, f1, f2⟩ := hC4.boxes
  have HC4 := Lib.hid hC4
  clear hC4 ht3 hb3 Hn2 Hbw2 HM2 N2 hl2
  go_wp2_with fail
  clear hmk hW4 f0 f1 f2
  go_loopw [5, 24] (fun pv iv wr => ∃ (i : Nat) (probs : List (Int × Nat)), i ≤ fs.length ∧ probs.length ≤ i ∧ iv = .int .i64 i ∧ CkW w wr rules fs rb ro kd lv fa fc tb mb B0 i (tagsOf (fs.take i)) ∧ wr.ownsRow B0 54 2 pv probs.length (probCells probs) ∧
    probs ++ fldProbs rules i (tagsOf (fs.take i)).reverse (fs.drop i) = fldProbs rules 0 [] fs) (fun _ iv _ => fs.length - (intOf iv).toNat)
  case atStart => exact ⟨0, [], Nat.zero_le _, Nat.le_refl _, rfl, HC4.out, World.ownsRow_nil _ _ _ _, rfl⟩
  case round =>
    obtain ⟨i, probs, hi, hpl, rfl, hC, hown, hprob⟩ := hrel
    obtain ⟨pa, pc, rfl⟩ := own_form hown
    clear HC4
    by_cases hlt : i < fs.length
    · have i0 : (0 : Int) ≤ (i : Int) := by omega
      have i1 : (i : Int) < (fs.length : Int) := by omega
      obtain ⟨b, off, hfa, hbl, c0, c1, c2, sv, c3, hsub⟩ := Hfc.out i hlt
      have c0 := cell_below hC.bel (Nat.le_refl _) c0
      have c1 := cell_below hC.bel (Nat.le_refl _) c1
      have c2 := cell_below hC.bel (Nat.le_refl _) c2
      have c3 := cell_below hC.bel (Nat.le_refl _) c3
      have hsub := hsub.below hC.bel (Nat.le_refl _)
      have htl := Hft.out fs[i] (List.getElem_mem hlt)
      obtain ⟨p, hpv, hpt⟩ := ptr_of Hra.out (Hr.out.below hC.bel (Nat.le_refl _)) fs[i].tag
      obtain ⟨k, hk⟩ : ∃ k, visM fs[i] (ruleOf rules fs[i].tag) ((tagsOf (fs.take i)).contains fs[i].tag) = k := ⟨_, rfl⟩
      have hstep := fld_step hlt hk
      have hmem : (tagsOf fs).contains fs[i].tag = true := List.contains_iff_mem.2 (List.mem_map.2 ⟨fs[i], List.getElem_mem hlt, rfl⟩)
      have hts : tagsOf (fs.take (i + 1)) = tagsOf (fs.take i) ++ [fs[i].tag] := by unfold tagsOf; rw [take_snoc fs i hlt, List.map_append]; rfl
      obtain ⟨f, hfe⟩ : ∃ f, fs[i] = f := ⟨_, rfl⟩
      rw [hfe] at c0 c1 c2 hsub htl hpv hpt hk hmem hts
      obtain ⟨sa, sc, rfl, -⟩ := id hsub.slice
      obtain ⟨again, hag⟩ : ∃ x, (tagsOf (fs.take i)).contains f.tag = x := ⟨_, rfl⟩
      rw [hag] at hk
      obtain ⟨W5, hW5⟩ : ∃ W5, wr.alloc (.cells #[str f.tag, str f.ind, str f.data, .slice sa f.subs.length sc] 46) = W5 := ⟨_, rfl⟩
      have hn5 : W5.heap[wr.heap.size]? = some (.cells #[str f.tag, str f.ind, str f.data, .slice sa f.subs.length sc] 46 (0, 0)) := by rw [← hW5]; exact new_at _ _
      have hbr5 : Below wr.heap.size wr W5 := by rw [← hW5]; exact below_new _ _
      have hC5 := hC.below (hbr5.mono hC.l4)
      have d0 : W5.cell? ⟨wr.heap.size, 0, none⟩ = some (str f.tag) := by rw [cell_at hn5]; rfl
      have d1 : W5.cell? ⟨wr.heap.size, 1, none⟩ = some (str f.ind) := by rw [cell_at hn5]; rfl
      have d2 : W5.cell? ⟨wr.heap.size, 2, none⟩ = some (str f.data) := by rw [cell_at hn5]; rfl
      have d3 : W5.cell? ⟨wr.heap.size, 3, none⟩ = some (.slice sa f.subs.length sc) := by rw [cell_at hn5]; rfl
      have hlk1 := hC5.tags.look (t := 68) (e := 73) Try.underlying9 Try.underlying68 zeroPtr f.tag (by unfold maxLen; omega)
      have hm1 : mapOf rules (tagsOf fs) f.tag = some (ruleIx rules f.tag) := by unfold mapOf; rw [if_pos hmem]
      rw [hm1] at hlk1
      simp only [Option.getD_some] at hlk1
      rw [hpv] at hlk1
      have hlk2 := hC5.seen.look (t := 72) (e := 4) Try.underlying9 Try.underlying72 zeroBool f.tag (by unfold maxLen; omega)
      rw [show (encBool.val ((seenOf (tagsOf (fs.take i)) f.tag).getD encBool.zero)) = .bool again by rw [show encBool.zero = false from rfl, seenOf_get, hag]; rfl] at hlk2
      obtain ⟨W6, hW6⟩ : ∃ W6, W5.alloc (.cells #[str f.tag, str f.ind, str f.data, .slice sa f.subs.length sc, .pointer p, .bool again] 75) = W6 := ⟨_, rfl⟩
      have hs5 : W5.heap.size = wr.heap.size + 1 := by rw [← hW5]; simp
      have hn6 : W6.heap[wr.heap.size + 1]? = some (.cells #[str f.tag, str f.ind, str f.data, .slice sa f.subs.length sc, .pointer p, .bool again] 75 (0, 0)) := by rw [← hs5, ← hW6]; exact new_at _ _
      have hbr6 : Below wr.heap.size wr W6 := by rw [← hW6]; exact hbr5.alloc hbr5.size _
      have hC6 := hC.below (hbr6.mono hC.l4)
      have hn56 : W6.heap[wr.heap.size]? = some (.cells #[str f.tag, str f.ind, str f.data, .slice sa f.subs.length sc] 46 (0, 0)) := by rw [← hW6]; exact heap_below (below_new _ _) (Nat.le_refl _) hn5
      have v0 : W6.cell? ⟨wr.heap.size + 1, 0, none⟩ = some (str f.tag) := by rw [cell_at hn6]; rfl
      have v1 : W6.cell? ⟨wr.heap.size + 1, 1, none⟩ = some (str f.ind) := by rw [cell_at hn6]; rfl
      have v2 : W6.cell? ⟨wr.heap.size + 1, 2, none⟩ = some (str f.data) := by rw [cell_at hn6]; rfl
      have v3 : W6.cell? ⟨wr.heap.size + 1, 3, none⟩ = some (.slice sa f.subs.length sc) := by rw [cell_at hn6]; rfl
      have v4 : W6.cell? ⟨wr.heap.size + 1, 4, none⟩ = some (.pointer p) := by rw [cell_at hn6]; rfl
      have v5 : W6.cell? ⟨wr.heap.size + 1, 5, none⟩ = some (.bool again) := by rw [cell_at hn6]; rfl
      have NF := firstProblem_c tb f sa sc p (ruleOf rules f.tag) again W6 hC6.tests (hpt.below hbr6 (Nat.le_refl _)) (hsub.below hbr6 (Nat.le_refl _))
      unfold FP visV at NF
      rw [hk] at NF
      have NF := Lib.hid NF
      have hown6 := own_bel hown hbr6
      have Hown6 := Lib.hid hown6
      have HC6 := Lib.hid hC6
      have Hn56 := Lib.hid hn56
      have Hts := Lib.hid hts
      have Hprob := Lib.hid hprob
      have Hstep := Lib.hid hstep
      subst hfa
      obtain ⟨fbk, hfbk⟩ : ∃ q, wr.heap.size = q := ⟨_, rfl⟩
      rw [hfbk] at d0 d1 d2 d3 v0 v1 v2 v3 v4 v5 hs5 hn56
      have Hfbk := Lib.hid hfbk
      clear hn5 hn6 hbr5 hC5 hbr6 hC6 hn56 hown6 hown hC hprob hstep hts hpt hpv hm1 hmem hag hsub hk hfe hbl
      go_wp2_with fail
      refine NF.out.mono ?_
      rintro _ w7 ⟨rfl, hb7⟩
      have hB06 := HC6.out.l4
      have hC7 := HC6.out.below (hb7.mono hB06)
      have hown7 := own_bel Hown6.out hb7
      have hn7 := heap_below hb7 (Nat.le_refl _) Hn56.out
      rw [hfbk] at hn7
      have t0 : w7.cell? ⟨fbk, 0, none⟩ = some (str f.tag) := by rw [cell_at hn7]; rfl
      have HC7 := Lib.hid hC7
      have Hown7 := Lib.hid hown7
      have Hn7 := Lib.hid hn7
      have hl7 : B0 ≤ w7.heap.size := hC7.l4
      clear hb7 hC7 hown7 hn7 d0 d1 d2 d3 v0 v1 v2 v3 v4 v5 c0 c1 c2 c3 NF Hown6 HC6 hlk1 hlk2
      by_cases hk0 : k = 0
      · have kk : ((k : Int) != 0) = false := by rw [bne_eq_false_iff_eq]; omega
        have hstep := Hstep.out
        rw [if_pos hk0, List.nil_append] at hstep
        have hpr := Hprob.out
        rw [hstep] at hpr
        have Hpr := Lib.hid hpr
        clear hstep hpr hk0
        obtain ⟨w8, hrun, hM8, hg8⟩ := HC7.out.seen.update (t := 72) (e := 4) Try.underlying9 Try.underlying72 (by unfold maxLen; omega) f.tag (by unfold maxLen; omega) true
        rw [show encBool.val true = .bool true from rfl] at hrun
        have hC8 := HC7.out.mark hg8 f.tag hM8
        have hown8 := own_mark Hown7.out hg8 HC7.out.l3
        have HC8 := Lib.hid hC8
        have Hown8 := Lib.hid hown8
        clear hC8 hown8 hM8 hg8
        go_wp2_with fail
        go_wp2
        go_roundw
        case rel => first
          | exact ⟨i + 1, probs, by omega, by omega, by go_num, by rw [Hts.out]; exact HC8.out, Hown8.out, Hpr.out⟩
          | ((repeat apply Exists.intro)
             refine ⟨⟨i + 1, probs, by omega, by omega, ?_, by rw [Hts.out]; exact HC8.out, Hown8.out, Hpr.out⟩, rfl⟩
             go_num)
        case measure => simp [intOf]; omega
      · have kk : ((k : Int) != 0) = true := by rw [bne_iff_ne]; omega
        have hstep := Hstep.out
        rw [if_neg hk0] at hstep
        have hpr := Hprob.out
        rw [hstep, ← List.append_assoc] at hpr
        have Hpr := Lib.hid hpr
        obtain ⟨i0', hi0, hz0, hz1, hz2⟩ := info_parts infoProb
        clear hstep hpr hk0
        go_wp2_with (at_builtin; refine wpList_append_own _ rfl _ _ 35 rfl B0 54 i0' _ 2 16 Try.underlying35 hi0 hz0 hz1 hz2 rfl (by decide) _ _ _ rfl (Hown7.out.alloc _) ⟨w7.heap.size, 0, none⟩ 1 1 [.int .i64 i, .int .i64 (k : Nat)] rfl rfl ?sa ?sb ?sc ?sd ?se ?_)
        case sa => exact two_cells w7 _ _ _
        case sb => simp [Value.oneCell']
        case sc => unfold maxLen; omega
        case sd => omega
        case se => simp; omega
        intro v9 w9 hown9 hgrow9 _
        obtain ⟨na, nc, rfl⟩ := own_form hown9
        have hb79 : Below B0 w7 w9 := ((Below.refl B0 w7).alloc hl7 _).grown hgrow9 (by simp; omega) (fun q hq => (Hown7.out.lt q hq).1)
        have hC9 := HC7.out.below hb79
        have hn9 : w9.heap[fbk]? = some (.cells #[str f.tag, str f.ind, str f.data, .slice sa f.subs.length sc] 46 (0, 0)) := by
          have hl := lt_at Hn7.out
          refine ((hgrow9.block fbk (by simp; omega) (fun e => ?_)).trans ((below_new w7 _).block fbk hl)).trans Hn7.out
          rcases Hown7.out.2 with ⟨h0, _⟩ | ⟨g, cap, cur, hv, hbg, hh, rest⟩
          · rw [h0] at e; simp [Value.ownBlock] at e
          · rw [hv] at e
            simp only [Value.ownBlock, Option.some.injEq] at e
            rw [← e, Hn7.out] at hh
            simp at hh
        have t9 : w9.cell? ⟨fbk, 0, none⟩ = some (str f.tag) := by rw [cell_at hn9]; rfl
        have hown9' : w9.ownsRow B0 54 2 (.slice na (probs.length + 1) nc) (probs ++ [((i : Int), k)]).length (probCells (probs ++ [((i : Int), k)])) := by
          rw [List.length_append, probCells_snoc]; exact hown9
        have HC9 := Lib.hid hC9
        have Hown9 := Lib.hid hown9'
        clear hown9 hown9' hgrow9 hb79 hC9 hn9 hi0 hz0 hz1 hz2 t0
        obtain ⟨w8, hrun, hM8, hg8⟩ := HC9.out.seen.update (t := 72) (e := 4) Try.underlying9 Try.underlying72 (by unfold maxLen; omega) f.tag (by unfold maxLen; omega) true
        rw [show encBool.val true = .bool true from rfl] at hrun
        have hC8 := HC9.out.mark hg8 f.tag hM8
        have hown8 := own_mark Hown9.out hg8 HC9.out.l3
        have HC8 := Lib.hid hC8
        have Hown8 := Lib.hid hown8
        clear hC8 hown8 hM8 hg8
        go_wp2_with fail
        go_wp2
        go_roundw
        case rel => first
          | exact ⟨i + 1, _, by omega, by rw [List.length_append]; simp; omega, by go_num, by rw [Hts.out]; exact HC8.out, Hown8.out, Hpr.out⟩
          | ((repeat apply Exists.intro)
             refine ⟨⟨i + 1, _, by omega, by rw [List.length_append]; simp; omega, ?_, by rw [Hts.out]; exact HC8.out, Hown8.out, Hpr.out⟩, rfl⟩
             go_num)
        case measure => simp [intOf]; omega
    · have hin : i = fs.length := by omega
      subst hin
      rw [List.take_length] at hC hprob
      rw [List.drop_length] at hprob
      have hp0 : probs = fldProbs rules 0 [] fs := by rw [← hprob]; unfold fldProbs; simp
      have hall : probs ++ missProbs fs (rules.drop 0) = checkS rules fs := by rw [hp0, List.drop_zero]; rfl
      have HC := Lib.hid hC
      have Hown := Lib.hid hown
      have Hall := Lib.hid hall
      have hd0 : decide (fs.length < fs.length) = false := by simp
      clear hC hown hprob hp0 hall hlt
      go_wp2_with fail
      go_loopw [5, 56] (fun pv jv wr => ∃ (j : Nat) (probs : List (Int × Nat)), j ≤ rules.length ∧ probs.length ≤ fs.length + j ∧ jv = .int .i64 j ∧ CkW w wr rules fs rb ro kd lv fa fc tb mb B0 fs.length (tagsOf fs) ∧ wr.ownsRow B0 54 2 pv probs.length (probCells probs) ∧
        probs ++ missProbs fs (rules.drop j) = checkS rules fs) (fun _ jv _ => rules.length - (intOf jv).toNat)
      case atStart => exact ⟨0, probs, Nat.zero_le _, by omega, rfl, HC.out, Hown.out, Hall.out⟩
      case round =>
        clear HC Hown Hall hpl
        obtain ⟨j, probs, hj, hpl, rfl, hC, hown, hprob⟩ := hrel
        obtain ⟨pa, pc, rfl⟩ := own_form hown
        by_cases hlt : j < rules.length
        · have i0 : (0 : Int) ≤ (j : Int) := by omega
          have i1 : (j : Int) < (rules.length : Int) := by omega
          obtain ⟨_, _, hre, hrm, hrc⟩ := Hr.out.slice
          simp only [Value.slice.injEq] at hre
          obtain ⟨rfl, -, rfl⟩ := hre
          obtain ⟨b2, off2, hrae, hbl2, q0, q1, q2, q3, q4, q5, q6⟩ := hrc j hlt
          have q0 := cell_below hC.bel (Nat.le_refl _) q0
          have q1 := cell_below hC.bel (Nat.le_refl _) q1
          have q2 := cell_below hC.bel (Nat.le_refl _) q2
          have q3 := cell_below hC.bel (Nat.le_refl _) q3
          have q4 := cell_below hC.bel (Nat.le_refl _) q4
          have q5 := cell_below hC.bel (Nat.le_refl _) q5
          have q6 := cell_below hC.bel (Nat.le_refl _) q6
          have hrl := Hrt.out rules[j] (List.getElem_mem hlt)
          have hstep := miss_step (fs := fs) hlt
          obtain ⟨ru, hru⟩ : ∃ ru, rules[j] = ru := ⟨_, rfl⟩
          rw [hru] at q0 q1 q2 q3 q4 q5 q6 hrl hstep
          obtain ⟨W5, hW5⟩ : ∃ W5, wr.alloc (.cells #[str ru.tag, .bool ru.must, .bool ru.once, str ru.ind0, str ru.ind1, str ru.codes, str ru.single] 27) = W5 := ⟨_, rfl⟩
          have hn5 : W5.heap[wr.heap.size]? = some (.cells #[str ru.tag, .bool ru.must, .bool ru.once, str ru.ind0, str ru.ind1, str ru.codes, str ru.single] 27 (0, 0)) := by rw [← hW5]; exact new_at _ _
          have hbr5 : Below wr.heap.size wr W5 := by rw [← hW5]; exact below_new _ _
          have hC5 := hC.below (hbr5.mono hC.l4)
          have hown5 := own_bel hown hbr5
          have d0 : W5.cell? ⟨wr.heap.size, 0, none⟩ = some (str ru.tag) := by rw [cell_at hn5]; rfl
          have d1 : W5.cell? ⟨wr.heap.size, 1, none⟩ = some (.bool ru.must) := by rw [cell_at hn5]; rfl
          have d2 : W5.cell? ⟨wr.heap.size, 2, none⟩ = some (.bool ru.once) := by rw [cell_at hn5]; rfl
          have d3 : W5.cell? ⟨wr.heap.size, 3, none⟩ = some (str ru.ind0) := by rw [cell_at hn5]; rfl
          have d4 : W5.cell? ⟨wr.heap.size, 4, none⟩ = some (str ru.ind1) := by rw [cell_at hn5]; rfl
          have d5 : W5.cell? ⟨wr.heap.size, 5, none⟩ = some (str ru.codes) := by rw [cell_at hn5]; rfl
          have d6 : W5.cell? ⟨wr.heap.size, 6, none⟩ = some (str ru.single) := by rw [cell_at hn5]; rfl
          have NM := isMissing_c (encRow rb ro) ru (tagsOf fs) (w.heap.size + 1) fs.length (mapOf rules (tagsOf fs)) hrl (fun t ht => by obtain ⟨f, hf', rfl⟩ := List.mem_map.1 ht; exact Hft.out f hf') W5 hC5.tags (fun k => mapOf_some rules (tagsOf fs) k)
          unfold ruleV at NM
          rw [any_tags] at NM
          have hmb : missB fs ru = (ru.must && !(fs.any fun f => matchB f.tag ru.tag)) := rfl
          have Hmb := Lib.hid hmb
          have HC5 := Lib.hid hC5
          have Hown5 := Lib.hid hown5
          have Hprob := Lib.hid hprob
          have Hstep := Lib.hid hstep
          have hl5 : B0 ≤ W5.heap.size := hC5.l4
          subst hrae
          obtain ⟨fbk, hfbk⟩ : ∃ q, wr.heap.size = q := ⟨_, rfl⟩
          rw [hfbk] at d0 d1 d2 d3 d4 d5 d6
          clear hn5 hbr5 hC5 hown5 hown hC hprob hstep hmb hbl2 hrc hrl hrm
          cases hmu : ru.must with
          | false =>
            rw [hmu] at d1 q1 hW5
            have hms : missB fs ru = false := by rw [Hmb.out, hmu]; rfl
            have hpr := Hprob.out
            rw [Hstep.out, hms, if_neg (by decide), List.nil_append] at hpr
            have Hpr := Lib.hid hpr
            clear hms hpr hmu NM
            go_wp2_with fail
            go_wp2
            go_roundw
            case rel => exact ⟨j + 1, probs, by omega, by omega, by go_num, HC5.out, Hown5.out, Hpr.out⟩
            case measure => simp [intOf]; omega
          | true =>
            rw [hmu] at d1 q1 hW5 NM
            cases hany : fs.any fun f => matchB f.tag ru.tag with
            | true =>
              rw [hany] at NM
              have NM := Lib.hid NM
              have hms : missB fs ru = false := by rw [Hmb.out, hmu, hany]; rfl
              have hpr := Hprob.out
              rw [Hstep.out, hms, if_neg (by decide), List.nil_append] at hpr
              have Hpr := Lib.hid hpr
              clear hms hpr hmu hany
              go_wp2_with fail
              refine NM.out.mono ?_
              rintro _ w7 ⟨rfl, hb7⟩
              have HC7 := Lib.hid (HC5.out.below (hb7.mono hl5))
              have Hown7 := Lib.hid (own_bel Hown5.out hb7)
              clear hb7
              go_wp2
              go_roundw
              case rel => exact ⟨j + 1, probs, by omega, by omega, by go_num, HC7.out, Hown7.out, Hpr.out⟩
              case measure => simp [intOf]; omega
            | false =>
              rw [hany] at NM
              have NM := Lib.hid NM
              have hms : missB fs ru = true := by rw [Hmb.out, hmu, hany]; rfl
              have hpr := Hprob.out
              rw [Hstep.out, hms, if_pos rfl, ← List.append_assoc] at hpr
              have Hpr := Lib.hid hpr
              obtain ⟨i0', hi0, hz0, hz1, hz2⟩ := info_parts infoProb
              clear hms hpr hmu hany
              go_wp2_with fail
              refine NM.out.mono ?_
              rintro _ w7 ⟨rfl, hb7⟩
              have hl7 : B0 ≤ w7.heap.size := Nat.le_trans hl5 hb7.size
              have HC7 := Lib.hid (HC5.out.below (hb7.mono hl5))
              have Hown7 := Lib.hid (own_bel Hown5.out hb7)
              clear hb7
              go_wp2_with (at_builtin; refine wpList_append_own _ rfl _ _ 35 rfl B0 54 i0' _ 2 16 Try.underlying35 hi0 hz0 hz1 hz2 rfl (by decide) _ _ _ rfl (Hown7.out.alloc _) ⟨w7.heap.size, 0, none⟩ 1 1 [.int .i64 (-1), .int .i64 21] rfl rfl ?sa ?sb ?sc ?sd ?se ?_)
              case sa => exact two_cells w7 _ _ _
              case sb => simp [Value.oneCell']
              case sc => unfold maxLen; omega
              case sd => omega
              case se => simp; omega
              intro v9 w9 hown9 hgrow9 _
              obtain ⟨na, nc, rfl⟩ := own_form hown9
              have hb79 : Below B0 w7 w9 := ((Below.refl B0 w7).alloc hl7 _).grown hgrow9 (by simp; omega) (fun q hq => (Hown7.out.lt q hq).1)
              have HC9 := Lib.hid (HC7.out.below hb79)
              have hown9' : w9.ownsRow B0 54 2 (.slice na (probs.length + 1) nc) (probs ++ [((-1 : Int), 21)]).length (probCells (probs ++ [((-1 : Int), 21)])) := by
                rw [List.length_append, probCells_snoc]; exact hown9
              have Hown9 := Lib.hid hown9'
              clear hown9 hown9' hgrow9 hb79 hi0 hz0 hz1 hz2
              go_wp2
              go_roundw
              case rel => exact ⟨j + 1, _, by omega, by rw [List.length_append]; simp; omega, by go_num, HC9.out, Hown9.out, Hpr.out⟩
              case measure => simp [intOf]; omega
        · have hjn : j = rules.length := by omega
          subst hjn
          have hfin : probs = checkS rules fs := by rw [← hprob, List.drop_length]; unfold missProbs; simp
          subst hfin
          have Hown := Lib.hid (own_le hown (show w.heap.size ≤ B0 by have := hC.l1; have := hC.l2; have := hC.l3; omega))
          have Hb := Lib.hid hC.bel
          have hd1 : decide (rules.length < rules.length) = false := by simp
          clear hown hC hprob hlt
          go_wp2
          go_ret
          exact ⟨_, rfl, Hown.out, Hb.out⟩
end Go.Proofs.Ytfccpepmjklodaa
