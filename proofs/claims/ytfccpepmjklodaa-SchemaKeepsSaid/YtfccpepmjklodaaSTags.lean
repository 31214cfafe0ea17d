/-
  rulesOfTags: the rule of each tag that a field has.
-/
import Derived.Test.YtfccpepmjklodaaSMiss
import Derived.Test.YtfccpepmjklodaaSFloat
import Derived.WalkMore
namespace Go.Proofs.Ytfccpepmjklodaa
open Go.RowKit Go.Shelf Go.Maps Go.ChangeMaps
set_option linter.unusedVariables false
set_option linter.unusedSimpArgs false

def tagsOf (fs : List FldM) : List (List UInt8) := fs.map fun f => f.tag
/-- The map of the tags of fields. -/
def mapOf (rules : List RuleM) (ts : List (List UInt8)) : List UInt8 → Option (Option Nat) := fun t => if ts.contains t then some (ruleIx rules t) else none
theorem mapOf_some (rules : List RuleM) (ts : List (List UInt8)) (t : List UInt8) : (mapOf rules ts t).isSome = ts.contains t := by
  unfold mapOf
  split
  · rename_i h; rw [h]; rfl
  · rename_i h; simp at h; simp [h]
theorem mapOf_known (rules : List RuleM) (ts : List (List UInt8)) (t : List UInt8) (h : ts.contains t = true) : mapOf rules (ts ++ [t]) = mapOf rules ts := by
  funext x
  unfold mapOf
  have h2 : (ts ++ [t]).contains x = ts.contains x := by
    rw [Bool.eq_iff_iff, List.contains_iff_mem, List.contains_iff_mem, List.mem_append, List.mem_singleton]
    constructor
    · rintro (h1 | rfl)
      · exact h1
      · exact List.contains_iff_mem.1 h
    · exact .inl
  rw [h2]
theorem mapOf_new (rules : List RuleM) (ts : List (List UInt8)) (t : List UInt8) : mapOf rules (ts ++ [t]) = putS (mapOf rules ts) t (ruleIx rules t) := by
  funext x
  unfold mapOf putS
  by_cases e : x = t
  · subst e
    rw [if_pos (List.contains_iff_mem.2 (by simp)), if_pos rfl]
  · rw [if_neg e]
    have h2 : (ts ++ [t]).contains x = ts.contains x := by
      rw [Bool.eq_iff_iff, List.contains_iff_mem, List.contains_iff_mem, List.mem_append, List.mem_singleton]
      constructor
      · rintro (h1 | h1)
        · exact h1
        · exact absurd h1 e
      · exact .inl
    rw [h2]
theorem ix_some {rules : List RuleM} {t : List UInt8} {j : Nat} (hj : j < rules.length) (hm : matchB t rules[j].tag = true) (hb : ∀ i (h : i < rules.length), i < j → matchB t rules[i].tag = false) : ruleIx rules t = some j := by
  unfold ruleIx
  rw [List.findIdx?_eq_some_iff_getElem]
  exact ⟨hj, hm, fun i hi => by rw [hb i (by omega) hi]; decide⟩
theorem ix_none {rules : List RuleM} {t : List UInt8} (hb : ∀ i (h : i < rules.length), matchB t rules[i].tag = false) : ruleIx rules t = none := by
  unfold ruleIx
  rw [List.findIdx?_eq_none_iff]
  intro r hr
  obtain ⟨i, hi, rfl⟩ := List.getElem_of_mem hr
  exact hb i hi
theorem zeroPtr (w : World) : (zeroValue 73).run Try.prog w = .ok (.pointer none) w := by kernel_rfl
def TagsPost (rules : List RuleM) (fs : List FldM) (rb ro : Nat) (w : World) (e : Ending) (w' : World) : Prop := e = .returned (.map (some w.heap.size)) ∧ MapS (encRow rb ro) 9 w' w.heap.size fs.length (mapOf rules (tagsOf fs)) ∧ Below w.heap.size w w' ∧ w.heap.size < w'.heap.size
set_option maxRecDepth 100000 in
set_option maxHeartbeats 8000000 in
theorem rulesOfTags_c (rules : List RuleM) (fs : List FldM) (rb ro : Nat) (ra fa : Option Addr) (rc fc : Nat) (hra : rules ≠ [] → ra = some ⟨rb, ro, none⟩) (w : World) (hr : RulesAt w (.slice ra rules.length rc) rules) (hf : FldsAt w (.slice fa fs.length fc) fs)
    (hrt : ∀ r ∈ rules, r.tag.length ≤ 140737488355328) (hft : ∀ f ∈ fs, f.tag.length ≤ 140737488355328) :
    Calls Try.prog 30 #[.slice ra rules.length rc, .slice fa fs.length fc] w (TagsPost rules fs rb ro w) := by
  obtain ⟨_, _, hfe, hfm, hfc⟩ := hf.slice
  obtain ⟨_, _, hre, hrm, hrc⟩ := hr.slice
  simp only [Value.slice.injEq] at hfe hre
  obtain ⟨rfl, -, rfl⟩ := hfe
  obtain ⟨rfl, -, rfl⟩ := hre
  have hmm : (Instr.makeMap 68 none).run Try.prog w = .ok (.map (some w.heap.size)) (w.alloc (.map #[] 0)) := run_makeMap _ w
  have HM0 := Lib.hid (MapS.made (encRow rb ro) 9 w)
  have Hfc := Lib.hid hfc
  have Hrc := Lib.hid hrc
  have Hra := Lib.hid hra
  have Hrt := Lib.hid hrt
  have Hft := Lib.hid hft
  have hB0 := below_new w (.map #[] 0)
  unfold maxLen at hfm hrm
  unfold TagsPost
  obtain ⟨W0, hW0⟩ : ∃ W0, w.alloc (.map #[] 0) = W0 := ⟨_, rfl⟩
  have hlt0 : w.heap.size < W0.heap.size := by rw [← hW0]; simp
  rw [hW0] at hB0 hmm
  have HM0' := Lib.hid (show MapS (encRow rb ro) 9 W0 w.heap.size 0 (fun _ => none) by rw [← hW0]; exact HM0.out)
  have HB0 := Lib.hid hB0
  clear hr hf hfc hrc hra hrt hft hB0 HM0
  go_enter Try.func30, Try.ntmps30
  go_wp2_with fail
  go_step3
  go_wp2_with fail
  go_step3
  go_wp2_with fail
  go_loopw [14] (fun iv wr => ∃ i : Nat, i ≤ fs.length ∧ iv = .int .i64 i ∧ MapS (encRow rb ro) 9 wr w.heap.size i (mapOf rules (tagsOf (fs.take i))) ∧ Below w.heap.size w wr ∧ w.heap.size < wr.heap.size) (fun iv _ => fs.length - (intOf iv).toNat)
  case atStart => exact ⟨0, Nat.zero_le _, rfl, HM0'.out, HB0.out, hlt0⟩
  case round =>
    obtain ⟨i, hi, rfl, hM, hb, hltw⟩ := hrel
    clear HM0' HB0 hmm hW0 hlt0
    by_cases hlt : i < fs.length
    · have i0 : (0 : Int) ≤ (i : Int) := by omega
      have i1 : (i : Int) < (fs.length : Int) := by omega
      obtain ⟨b, off, hfa, hbl, c0, c1, c2, sv, c3, hsub⟩ := Hfc.out i hlt
      have c0 := cell_below hb (Nat.le_refl _) c0
      have c1 := cell_below hb (Nat.le_refl _) c1
      have c2 := cell_below hb (Nat.le_refl _) c2
      have c3 := cell_below hb (Nat.le_refl _) c3
      have htl := Hft.out fs[i] (List.getElem_mem hlt)
      have hts : tagsOf (fs.take (i + 1)) = tagsOf (fs.take i) ++ [fs[i].tag] := by unfold tagsOf; rw [take_snoc fs i hlt, List.map_append]; rfl
      obtain ⟨f, hfe⟩ : ∃ f, fs[i] = f := ⟨_, rfl⟩
      rw [hfe] at c0 c1 c2 hsub htl hts
      obtain ⟨sa, sc, rfl, -⟩ := hsub.slice
      obtain ⟨W4, hW4⟩ : ∃ W4, wr.alloc (.cells #[str f.tag, str f.ind, str f.data, .slice sa f.subs.length sc] 46) = W4 := ⟨_, rfl⟩
      have hn4 : W4.heap[wr.heap.size]? = some (.cells #[str f.tag, str f.ind, str f.data, .slice sa f.subs.length sc] 46 (0, 0)) := by rw [← hW4]; exact Array.getElem?_push_size
      have hM4 : MapS (encRow rb ro) 9 W4 w.heap.size i (mapOf rules (tagsOf (fs.take i))) := by rw [← hW4]; exact hM.alloc _
      have hb4 : Below w.heap.size w W4 := by rw [← hW4]; exact hb.alloc hb.size _
      have hlt4 : w.heap.size < W4.heap.size := by rw [← hW4]; simp; omega
      have d0 : W4.cell? ⟨wr.heap.size, 0, none⟩ = some (str f.tag) := by rw [cell_at hn4]; rfl
      have hlk := hM4.lookOk (t := 68) (e := 73) Try.underlying9 Try.underlying68 zeroPtr f.tag (by unfold maxLen; omega)
      rw [mapOf_some] at hlk
      subst hfa
      obtain ⟨fbk, hfbk⟩ : ∃ k, wr.heap.size = k := ⟨_, rfl⟩
      rw [hfbk] at hn4 d0
      have Hn4 := Lib.hid hn4
      have HM4 := Lib.hid hM4
      have Hb4 := Lib.hid hb4
      have Hts := Lib.hid hts
      clear hn4 hM4 hb4 hts hM hb hsub hltw hbl
      cases hk : (tagsOf (fs.take i)).contains f.tag with
      | true =>
        rw [hk] at hlk
        obtain ⟨V, hV⟩ : ∃ V, (encRow rb ro).val (((mapOf rules (tagsOf (fs.take i))) f.tag).getD (encRow rb ro).zero) = V := ⟨_, rfl⟩
        rw [hV] at hlk
        have Hk := Lib.hid hk
        clear hk hV hfe
        go_wp2_with fail
        go_wp2
        go_roundw
        case rel => exact ⟨i + 1, by omega, by go_num, by rw [Hts.out, mapOf_known rules _ _ Hk.out]; exact HM4.out.more (by omega), Hb4.out, hlt4⟩
        case measure => simp [intOf]; omega
      | false =>
        rw [hk] at hlk
        have hval : (encRow rb ro).val (((mapOf rules (tagsOf (fs.take i))) f.tag).getD (encRow rb ro).zero) = .pointer none := by
          have : mapOf rules (tagsOf (fs.take i)) f.tag = none := by unfold mapOf; rw [if_neg (by rw [hk]; decide)]
          rw [this]; rfl
        rw [hval] at hlk
        clear hk hval hfe
        go_wp2_with fail
        go_loopw [28] (fun jv wx => ∃ j n : Nat, j ≤ rules.length ∧ jv = .int .i64 j ∧ wx = W4.drewN n ∧ ∀ k (h : k < rules.length), k < j → matchB f.tag rules[k].tag = false) (fun jv _ => rules.length - (intOf jv).toNat)
        case atStart => exact ⟨0, 0, Nat.zero_le _, rfl, rfl, fun k _ h => absurd h (Nat.not_lt_zero k)⟩
        case round =>
          obtain ⟨j, nd, hj, rfl, hwx, hno⟩ := hrel
          have hM5 : MapS (encRow rb ro) 9 wr w.heap.size i (mapOf rules (tagsOf (fs.take i))) := by rw [hwx]; exact HM4.out.kept (grown_dr _ _ none) (by simp)
          have hb5 : Below w.heap.size w wr := by rw [hwx]; exact below_dr Hb4.out nd
          have hn5 : wr.heap[fbk]? = some (.cells #[str f.tag, str f.ind, str f.data, .slice sa f.subs.length sc] 46 (0, 0)) := by rw [hwx]; exact Hn4.out
          have hl5 : w.heap.size < wr.heap.size := by rw [hwx]; exact hlt4
          have d5 : wr.cell? ⟨fbk, 0, none⟩ = some (str f.tag) := by rw [cell_at hn5]; rfl
          have Hwx := Lib.hid hwx
          have HM5 := Lib.hid hM5
          have Hb5 := Lib.hid hb5
          have Hn5 := Lib.hid hn5
          have Hno := Lib.hid hno
          clear hwx hM5 hb5 hn5 hno hlk
          by_cases hjl : j < rules.length
          · have k0 : (0 : Int) ≤ (j : Int) := by omega
            have k1 : (j : Int) < (rules.length : Int) := by omega
            obtain ⟨b2, off2, hrae, hbl2, q0, q1, q2, q3, q4, q5, q6⟩ := Hrc.out j hjl
            have hre := Hra.out (by intro e; rw [e] at hjl; simp at hjl)
            rw [hrae] at hre
            simp only [Option.some.injEq, Addr.mk.injEq, and_true] at hre
            obtain ⟨rfl, rfl⟩ := hre
            have q0 := cell_below Hb5.out (Nat.le_refl _) q0
            have hrl := Hrt.out rules[j] (List.getElem_mem hjl)
            obtain ⟨ru, hru⟩ : ∃ ru, rules[j] = ru := ⟨_, rfl⟩
            rw [hru] at q0 hrl
            have M := fun W => matches_c f.tag ru.tag htl hrl W
            unfold QB at M
            subst hrae
            cases hmb : matchB f.tag ru.tag with
            | true =>
              rw [hmb] at M
              have M := Lib.hid M
              have hix := ix_some hjl (by rw [hru]; exact hmb) Hno.out
              have Hix := Lib.hid hix
              clear hmb hix hru q1 q2 q3 q4 q5 q6 hbl2
              go_wp2_with fail
              go_quiet (exact Calls.quiet_of (M.out _))
              obtain ⟨W6, hW6⟩ : ∃ W6, wr.drewN nq = W6 := ⟨_, rfl⟩
              have hM6 : MapS (encRow b2 off2) 9 W6 w.heap.size i (mapOf rules (tagsOf (fs.take i))) := by rw [← hW6]; exact HM5.out.kept (grown_dr _ _ none) (by simp)
              have hb6 : Below w.heap.size w W6 := by rw [← hW6]; exact below_dr Hb5.out nq
              have d6 : W6.cell? ⟨fbk, 0, none⟩ = some (str f.tag) := by rw [← hW6]; exact d5
              have hl6 : w.heap.size < W6.heap.size := by rw [← hW6]; exact hl5
              obtain ⟨w7, hrun, hM7, hg7⟩ := (hM6.kept (grown_dr W6 1 none) (by simp)).update (t := 68) (e := 73) Try.underlying9 Try.underlying68 (by unfold maxLen; omega) f.tag (by unfold maxLen; omega) (some j)
              rw [show (encRow b2 off2).val (some j) = .pointer (some ⟨b2, off2 + j * 7, none⟩) from rfl] at hrun
              have hb7 : Below w.heap.size w w7 := (below_dr hb6 1).grown hg7 (by show _ ≤ W6.heap.size; omega) (fun k hk => by cases hk; exact Nat.le_refl _)
              have hl7 : w.heap.size < w7.heap.size := Nat.lt_of_lt_of_le hl6 hg7.size
              have hM7' : MapS (encRow b2 off2) 9 w7 w.heap.size (i + 1) (mapOf rules (tagsOf (fs.take (i + 1)))) := by
                rw [Hts.out, mapOf_new, Hix.out]; exact hM7
              replace hrun : (Instr.mapUpdate 68 (.map (some w.heap.size)) (str f.tag) (.pointer (some ⟨b2, off2 + j * 7, none⟩))).run Try.prog W6.drew = .ok () w7 := hrun
              have HM7 := Lib.hid hM7'
              have Hb7 := Lib.hid hb7
              have Hl7 := Lib.hid hl7
              clear hM6 hb6 hM7 hM7' hb7 hl7 hg7 d5 q0 hl6
              rw [hW6]
              clear hW6
              go_wp2_with fail
              obtain ⟨S, hSd⟩ : ∃ S : World → Prop, S = (fun w' : World => w'.cell? ⟨fbk, 0, none⟩ = some (str f.tag)) := ⟨_, rfl⟩
              have hS1 : ∀ w', S w' → w'.cell? ⟨fbk, 0, none⟩ = some (str f.tag) := fun w' h => by rw [hSd] at h; exact h
              have hS0 : S W6.drew := by rw [hSd]; exact d6
              clear hSd
              refine wp_region_C 6 7 S rfl rfl ?_
              refine wpAnyC_takeD 0 39 (.map (some w.heap.size)) rfl rfl rfl (by kernel_rfl) (by kernel_rfl) (by kernel_rfl) (by kernel_rfl) (fun _ _ _ h => h) (fun w5 hw5 => ?_) hS0 ?_
              · skip
                simp only [List.getElem_toArray, List.getElem_cons_zero, List.getElem_cons_succ]
                go_simp
              try simp only [Act.put, List.setIfInBounds_toArray, List.set_cons_zero, List.set_cons_succ]
              refine wpAnyC_takeD 1 40 (.pointer (some ⟨fbk, 0, none⟩)) rfl rfl rfl (by kernel_rfl) (by kernel_rfl) (by kernel_rfl) (by kernel_rfl) (fun _ _ _ h => h) (fun w5 hw5 => ?_) hS0 ?_
              · skip
                simp only [List.getElem_toArray, List.getElem_cons_zero, List.getElem_cons_succ]
                go_simp
              try simp only [Act.put, List.setIfInBounds_toArray, List.set_cons_zero, List.set_cons_succ]
              refine wpAnyC_takeD 2 41 (str f.tag) rfl rfl rfl (by kernel_rfl) (by kernel_rfl) (by kernel_rfl) (by kernel_rfl) (fun _ _ _ h => h) (fun w5 hw5 => ?_) hS0 ?_
              · have z1 := hS1 w5 hw5
                simp only [List.getElem_toArray, List.getElem_cons_zero, List.getElem_cons_succ]
                go_simp
              try simp only [Act.put, List.setIfInBounds_toArray, List.set_cons_zero, List.set_cons_succ]
              refine wpAnyC_takeD 3 42 (.slice (some ⟨b2, off2, none⟩) rules.length rc) rfl rfl rfl (by kernel_rfl) (by kernel_rfl) (by kernel_rfl) (by kernel_rfl) (fun _ _ _ h => h) (fun w5 hw5 => ?_) hS0 ?_
              · skip
                simp only [List.getElem_toArray, List.getElem_cons_zero, List.getElem_cons_succ]
                go_simp
              try simp only [Act.put, List.setIfInBounds_toArray, List.set_cons_zero, List.set_cons_succ]
              refine wpAnyC_takeD 4 43 (.int .i64 j) rfl rfl rfl (by kernel_rfl) (by kernel_rfl) (by kernel_rfl) (by kernel_rfl) (fun _ _ _ h => h) (fun w5 hw5 => ?_) hS0 ?_
              · skip
                simp only [List.getElem_toArray, List.getElem_cons_zero, List.getElem_cons_succ]
                go_simp
              try simp only [Act.put, List.setIfInBounds_toArray, List.set_cons_zero, List.set_cons_succ]
              refine wpAnyC_takeD 5 44 (.pointer (some ⟨b2, off2 + j * 7, none⟩)) rfl rfl rfl (by kernel_rfl) (by kernel_rfl) (by kernel_rfl) (by kernel_rfl) (fun _ _ _ h => h) (fun w5 hw5 => ?_) hS0 ?_
              · skip
                simp only [List.getElem_toArray, List.getElem_cons_zero, List.getElem_cons_succ]
                go_simp
              try simp only [Act.put, List.setIfInBounds_toArray, List.set_cons_zero, List.set_cons_succ]
              refine wpAnyC_step (k := 6) rfl (by kernel_rfl) (fun K hK => ?_)
              simp only [List.getElem_toArray, List.getElem_cons_zero, List.getElem_cons_succ]
              go_simp
              refine hK _ _ (fun h => absurd (of_decide_eq_true h) (by decide)) ?_
              clear hK
              refine wpAnyC_done (by kernel_rfl) ?_
              clear hS0 hS1
              go_wp2
              go_roundw
              case rel => first
                | exact ⟨i + 1, by omega, by go_num, HM7.out, Hb7.out, Hl7.out⟩
                | ((repeat apply Exists.intro)
                   refine ⟨⟨i + 1, by omega, ?_, HM7.out, Hb7.out, Hl7.out⟩, rfl⟩
                   go_num)
              case measure => simp [intOf]; omega
            | false =>
              rw [hmb] at M
              have M := Lib.hid M
              have hno2 : ∀ k (h : k < rules.length), k < j + 1 → matchB f.tag rules[k].tag = false := by
                intro k h hk
                rcases Nat.lt_or_ge k j with h2 | h2
                · exact Hno.out k h h2
                · obtain rfl : k = j := by omega
                  rw [hru]; exact hmb
              have Hno2 := Lib.hid hno2
              clear hmb hno2 hru q1 q2 q3 q4 q5 q6 hbl2
              go_wp2_with fail
              go_quiet (exact Calls.quiet_of (M.out _))
              go_wp2
              go_roundw
              case rel => exact ⟨j + 1, nd + nq, by omega, by go_num, by rw [Hwx.out]; exact drN W4 nd nq, Hno2.out⟩
              case measure => simp [intOf]; omega
          · have hje : j = rules.length := by omega
            subst hje
            have hix := ix_none (t := f.tag) (rules := rules) (fun k h => Hno.out k h h)
            obtain ⟨w7, hrun, hM7, hg7⟩ := HM5.out.update (t := 68) (e := 73) Try.underlying9 Try.underlying68 (by unfold maxLen; omega) f.tag (by unfold maxLen; omega) none
            rw [show (encRow rb ro).val none = .pointer none from rfl] at hrun
            have hb7 : Below w.heap.size w w7 := Hb5.out.grown hg7 (by omega) (fun k hk => by cases hk; exact Nat.le_refl _)
            have hl7 : w.heap.size < w7.heap.size := Nat.lt_of_lt_of_le hl5 hg7.size
            have hM7' : MapS (encRow rb ro) 9 w7 w.heap.size (i + 1) (mapOf rules (tagsOf (fs.take (i + 1)))) := by
              rw [Hts.out, mapOf_new, hix]; exact hM7
            have HM7 := Lib.hid hM7'
            have Hb7 := Lib.hid hb7
            have Hl7 := Lib.hid hl7
            have hd0 : decide (rules.length < rules.length) = false := by simp
            clear hM7 hM7' hb7 hl7 hg7 hix
            go_wp2_with fail
            go_wp2
            go_roundw
            case rel => first
              | exact ⟨i + 1, by omega, by go_num, HM7.out, Hb7.out, Hl7.out⟩
              | ((repeat apply Exists.intro)
                 refine ⟨⟨i + 1, by omega, ?_, HM7.out, Hb7.out, Hl7.out⟩, rfl⟩
                 go_num)
            case measure => simp [intOf]; omega
    · have hin : i = fs.length := by omega
      subst hin
      rw [List.take_length] at hM
      have HM := Lib.hid hM
      have Hb := Lib.hid hb
      have hd0 : decide (fs.length < fs.length) = false := by simp
      clear hM hb hlt
      go_wp2
      rw [Exit.noGoto_ret]
      go_ret
      exact ⟨rfl, HM.out, Hb.out, hltw⟩
end Go.Proofs.Ytfccpepmjklodaa
