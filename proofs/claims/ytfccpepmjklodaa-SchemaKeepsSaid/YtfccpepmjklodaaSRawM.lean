/-
  What SchemaRaw keeps.
-/
import Derived.Test.YtfccpepmjklodaaSRawF
import Derived.Test.YtfccpepmjklodaaSRefC
namespace Go.Proofs.Ytfccpepmjklodaa
open Go.RowKit Go.Shelf
set_option linter.unusedVariables false
set_option linter.unusedSimpArgs false

section
variable {P : Program} {ops : Array Oper} {Q : Exit → Act → World → Prop} {md : Region.Mode} {S : World → Prop} {C : Nat → Bool}
/-- The same where the operation stands behind a guard that is met. -/
theorem wpAnyC_takeG (i d : Nat) (v : Value) {m : Nat} {oi : Oper} {fuel : Nat} {listed : Array Bool} {a : Act} {w : World} (hi : ops[i]? = some oi) (hd : oi.dst = some d) (hg : Region.wanted oi (yielded ops a.tmps) = true)
    (hs : Region.noSelect ops = true) (hf : Region.free md ops listed i = true) (hr : (Region.ready md ops listed).contains i = true) (hl : lateB md ops m i = true)
    (hQ : ∀ c a w, Q (.panic c) (a.put oi.dst v) w → Q (.panic c) a w) (hy : ∀ w, S w → (execOp a.eval oi).run P w = .ok (.value v) w) (hS : S w)
    (h : wpAnyC P md ops Q S (fun j => decide (j < m)) fuel (listed.setIfInBounds i true) (a.put (some d) v) w) : wpAnyC P md ops Q S (fun j => decide (j < m)) (fuel + 1) listed a w := by
  refine wpAnyC_take hi hs hf hr hl hQ (.inl ⟨hg, hy⟩) hS ?_
  rw [hd]
  exact h
end
theorem std_own {w : World} {b : Nat} (h : w.heap[b]? = some (.cells stdArr 27 (0, 0))) : w.ownsRow b 27 7 (.slice (some ⟨b, 0, none⟩) 24 24) 24 (stdR.flatMap ruleL) := by
  refine ⟨rfl, .inr ⟨b, 24, stdArr, rfl, Nat.le_refl _, h, Nat.le_refl _, by decide, by kernel_rfl, ?_⟩⟩
  rw [std_eq]
  kernel_rfl
theorem rules_of_own {w : World} {B : Nat} {v : Value} {l : List RuleM} (hne : l ≠ []) (h : w.ownsRow B 27 7 v l.length (l.flatMap ruleL)) : ∃ g cap, v = .slice (some ⟨g, 0, none⟩) l.length cap ∧ RulesAt w v l := by
  rcases h.2 with ⟨hv, h0⟩ | ⟨g, cap, cur, hv, hbg, hg, hnc, hcm, hcs, htake⟩
  · exact absurd (List.length_eq_zero_iff.1 h0) hne
  · refine ⟨g, cap, hv, .inr ⟨g, 0, cap, hv, by simp only [maxLen] at *; omega, lt_at hg, fun i hi => ?_⟩⟩
    have hx : ∀ j, j < l.length * 7 → cur[j]? = (l.flatMap ruleL)[j]? := by
      intro j hj
      rw [← htake, List.getElem?_take_of_lt hj, Array.getElem?_toList]
    have f := fun j hj => (hx (i * 7 + j) (by omega)).trans (flat7 l i j hi hj)
    simp only [cell_at hg, Nat.zero_add]
    exact ⟨f 0 (by omega), f 1 (by omega), f 2 (by omega), f 3 (by omega), f 4 (by omega), f 5 (by omega), f 6 (by omega)⟩
theorem infoRule : (Try.prog.info? 27).map (fun i => (i.zero, i.size, i.bytes)) = some (some (.agg #[.string ⟨#[]⟩, .bool false, .bool false, .string ⟨#[]⟩, .string ⟨#[]⟩, .string ⟨#[]⟩, .string ⟨#[]⟩]), 7, 88) := by kernel_rfl
theorem cells_src {w : World} {b : Nat} {l : List Value} {t : TypeId} (h : w.heap[b]? = some (.cells ⟨l⟩ t (0, 0))) (j : Nat) (u : Value) (hj : l[j]? = some u) : w.cell? ((⟨b, 0, none⟩ : Addr).add j) = some u := by
  have e : ((⟨b, 0, none⟩ : Addr).add j) = ⟨b, j, none⟩ := by
    unfold Addr.add
    split
    · rename_i h0; rw [h0]
    · simp
  rw [e, cell_at h]
  simpa using hj
/-- What SchemaRaw keeps while it makes the record. -/
structure RawA (w W : World) (lb : Nat) (r : RuleM) (a0 a1 a2 a3 a4 b0 b1 b2 b3 c0 c1 c2 c3 : List UInt8) : Prop where
  bel : Below w.heap.size w W
  xa : W.heap[w.heap.size]? = some (.cells #[str a0, str a1, str a2, str a3, str a4] 42 (0, 0))
  xb : W.heap[w.heap.size + 1]? = some (.cells #[str b0, str b1, str b2, str b3] 43 (0, 0))
  xc : W.heap[w.heap.size + 1 + 1]? = some (.cells #[str c0, str c1, str c2, str c3] 43 (0, 0))
  rl : W.heap[lb]? = some (.cells ⟨ruleL r⟩ 27 (0, 0))
section
variable {w W W' : World} {lb : Nat} {r : RuleM} {a0 a1 a2 a3 a4 b0 b1 b2 b3 c0 c1 c2 c3 : List UInt8}
theorem RawA.below (h : RawA w W lb r a0 a1 a2 a3 a4 b0 b1 b2 b3 c0 c1 c2 c3) (hb : Below W.heap.size W W') : RawA w W' lb r a0 a1 a2 a3 a4 b0 b1 b2 b3 c0 c1 c2 c3 :=
  ⟨below_tr h.bel hb, heap_below hb (Nat.le_refl _) h.xa, heap_below hb (Nat.le_refl _) h.xb, heap_below hb (Nat.le_refl _) h.xc, heap_below hb (Nat.le_refl _) h.rl⟩
theorem RawA.cells (h : RawA w W lb r a0 a1 a2 a3 a4 b0 b1 b2 b3 c0 c1 c2 c3) :
    (W.cell? ⟨w.heap.size, 0, none⟩ = some (str a0)) ∧
    (W.cell? ⟨w.heap.size + 1, 0, none⟩ = some (str b0) ∧ W.cell? ⟨w.heap.size + 1, 1, none⟩ = some (str b1) ∧ W.cell? ⟨w.heap.size + 1, 2, none⟩ = some (str b2) ∧ W.cell? ⟨w.heap.size + 1, 3, none⟩ = some (str b3)) ∧
    (W.cell? ⟨w.heap.size + 1 + 1, 0, none⟩ = some (str c0) ∧ W.cell? ⟨w.heap.size + 1 + 1, 1, none⟩ = some (str c1) ∧ W.cell? ⟨w.heap.size + 1 + 1, 2, none⟩ = some (str c2) ∧ W.cell? ⟨w.heap.size + 1 + 1, 3, none⟩ = some (str c3)) := by
  simp only [cell_at h.xa, cell_at h.xb, cell_at h.xc]
  exact ⟨rfl, ⟨rfl, rfl, rfl, rfl⟩, rfl, rfl, rfl, rfl⟩
end
/-- What it keeps while it checks. -/
structure RawW (w W : World) (lb mb mc xb : Nat) (fv : Value) (r : RuleM) (fs : List FldM) : Prop where
  bel : Below w.heap.size w W
  box : W.heap[xb]? = some (.cells #[.int .u8 0, .int .u8 0, fv] 32 (0, 0))
  flds : FldsAt W fv fs
  rl : RulesAt W (.slice (some ⟨lb, 0, none⟩) 1 1) [r]
  rm : RulesAt W (.slice (some ⟨mb, 0, none⟩) 25 mc) (stdR ++ [r])
theorem RawW.below {w W W' : World} {lb mb mc xb : Nat} {fv : Value} {r : RuleM} {fs : List FldM} (h : RawW w W lb mb mc xb fv r fs) (hb : Below W.heap.size W W') : RawW w W' lb mb mc xb fv r fs :=
  ⟨below_tr h.bel hb, heap_below hb (Nat.le_refl _) h.box, h.flds.below hb (Nat.le_refl _), h.rl.below hb (Nat.le_refl _), h.rm.below hb (Nat.le_refl _)⟩
theorem RawW.cells {w W : World} {lb mb mc xb : Nat} {fv : Value} {r : RuleM} {fs : List FldM} (h : RawW w W lb mb mc xb fv r fs) :
    W.cell? ⟨xb, 0, none⟩ = some (.int .u8 0) ∧ W.cell? ⟨xb, 1, none⟩ = some (.int .u8 0) ∧ W.cell? ⟨xb, 2, none⟩ = some fv := by
  simp only [cell_at h.box]
  exact ⟨rfl, rfl, rfl⟩
def RShort (r : RuleM) : Prop := r.tag.length ≤ 140737488355328 ∧ r.ind0.length ≤ 140737488355328 ∧ r.ind1.length ≤ 140737488355328 ∧ r.codes.length ≤ 140737488355328 ∧ r.single.length ≤ 140737488355328
theorem stdShort : ∀ q ∈ stdR, RShort q := by
  unfold RShort
  decide
def ChkOf (l : List (Int × Nat)) (W : World) (e : Ending) (w' : World) : Prop := ∃ pa pc, e = .returned (.slice pa l.length pc) ∧ ProbAt w' (.slice pa l.length pc) l ∧ Below W.heap.size W w'
theorem chk_of {l : List (Int × Nat)} {W : World} {f : FuncId} {args : Array Value} (h : Calls Try.prog f args W (ProbsPost l W)) : Calls Try.prog f args W (ChkOf l W) := by
  refine h.mono ?_
  rintro e w' ⟨pv, rfl, hown, hb⟩
  have hp := prob_of_own hown
  obtain ⟨pa, pc, rfl, _⟩ := id hp
  exact ⟨pa, pc, rfl, hp, hb⟩
theorem raw_checks {W : World} {b n c : Nat} {rules : List RuleM} {fv : Value} {fs : List FldM} (hn : rules.length = n) (hl : n ≤ 100) (hr : RulesAt W (.slice (some ⟨b, 0, none⟩) n c) rules) (hf : FldsAt W fv fs) (hfl : fs.length ≤ 100)
    (hrt : ∀ q ∈ rules, RShort q) (hft : ∀ f ∈ fs, f.tag.length ≤ 140737488355328) :
    Calls Try.prog 18 #[.slice (some ⟨b, 0, none⟩) n c, .agg #[.int .u8 0, .int .u8 0, fv]] W (ChkOf (checkS rules fs) W) ∧
    Calls Try.prog 16 #[.slice (some ⟨b, 0, none⟩) n c, .agg #[.int .u8 0, .int .u8 0, fv]] W (ChkOf (checkS rules fs) W) := by
  subst hn
  have hv : RecV W (.agg #[.int .u8 0, .int .u8 0, fv]) ⟨0, 0, fs⟩ := ⟨_, rfl, hf⟩
  exact ⟨chk_of (check_c rules b 0 (some ⟨b, 0, none⟩) c _ ⟨0, 0, fs⟩ (fun _ => rfl) W hr hv (fun q hq => (hrt q hq).1) hft (by show rules.length + fs.length ≤ 1000000; omega)),
    chk_of (rCheck_c rules (some ⟨b, 0, none⟩) c _ ⟨0, 0, fs⟩ W hr hv (fun q hq => (hrt q hq).1) (fun q hq => (hrt q hq).2) hft (by show rules.length + fs.length ≤ 1000000; omega))⟩
/-- The slots of a record that is written over. -/
theorem rec_cells {W : World} {xb : Nat} (h : W.heap[xb]? = some (.cells #[.int .u8 0, .int .u8 0, .slice none 0 0] 32 (0, 0))) (fv : Value) :
    (W.cell? ⟨xb, 0, none⟩ = some (.int .u8 0) ∧ W.frozen? ⟨xb, 0, none⟩ = false) ∧
    ((W.setCell ⟨xb, 0, none⟩ (.int .u8 0)).cell? ⟨xb, 1, none⟩ = some (.int .u8 0) ∧ (W.setCell ⟨xb, 0, none⟩ (.int .u8 0)).frozen? ⟨xb, 1, none⟩ = false) ∧
    (((W.setCell ⟨xb, 0, none⟩ (.int .u8 0)).setCell ⟨xb, 1, none⟩ (.int .u8 0)).cell? ⟨xb, 2, none⟩ = some (.slice none 0 0) ∧ ((W.setCell ⟨xb, 0, none⟩ (.int .u8 0)).setCell ⟨xb, 1, none⟩ (.int .u8 0)).frozen? ⟨xb, 2, none⟩ = false) ∧
    (((W.setCell ⟨xb, 0, none⟩ (.int .u8 0)).setCell ⟨xb, 1, none⟩ (.int .u8 0)).setCell ⟨xb, 2, none⟩ fv).heap[xb]? = some (.cells #[.int .u8 0, .int .u8 0, fv] 32 (0, 0)) := by
  have h1 := blk_set h 0 (.int .u8 0)
  have h2 := blk_set h1 1 (.int .u8 0)
  have h3 := blk_set h2 2 fv
  exact ⟨⟨by rw [cell_at h]; rfl, Lib.frozen_of_heap h 0⟩, ⟨by rw [cell_at h1]; rfl, Lib.frozen_of_heap h1 1⟩, ⟨by rw [cell_at h2]; rfl, Lib.frozen_of_heap h2 2⟩, h3⟩
theorem SubsAt.other {W Z : World} {xb : Nat} {v : Value} {l : List SubM} (hk : ∀ b, b ≠ xb → Z.heap[b]? = W.heap[b]?) (hs : W.heap.size ≤ Z.heap.size)
    (hx : W.heap[xb]? = some (.cells #[.int .u8 0, .int .u8 0, .slice none 0 0] 32 (0, 0))) (h : SubsAt W v l) : SubsAt Z v l := by
  rcases h with h | ⟨b, off, cap, hv, hm, hlt, hc⟩
  · exact .inl h
  · cases l with
    | nil => exact .inl ⟨some ⟨b, off, none⟩, cap, hv, rfl⟩
    | cons s l =>
      have hne : b ≠ xb := by
        rintro rfl
        obtain ⟨c0, c1⟩ := hc 0 (by simp)
        rw [cell_at hx] at c0 c1
        rcases off with _ | _ | _ | off
        · simp at c1
        · simp at c1
        · simp at c0
        · simp at c0
      refine .inr ⟨b, off, cap, hv, hm, Nat.lt_of_lt_of_le hlt hs, fun i hi => ?_⟩
      obtain ⟨c0, c1⟩ := hc i hi
      unfold World.cell? at c0 c1 ⊢
      simp only [hk b hne] at c0 c1 ⊢
      exact ⟨c0, c1⟩
/-- Behind the region that makes the record. -/
def RawR (w : World) (lb : Nat) (r : RuleM) (fs : List FldM) (s10 : Value) (wx : World) : Prop :=
  ∃ xb fb, s10 = .pointer (some ⟨xb, 0, none⟩) ∧ Below w.heap.size w wx ∧ wx.heap[xb]? = some (.cells #[.int .u8 0, .int .u8 0, .slice (some ⟨fb, 0, none⟩) 3 3] 32 (0, 0)) ∧
    FldsAt wx (.slice (some ⟨fb, 0, none⟩) 3 3) fs ∧ wx.heap[lb]? = some (.cells ⟨ruleL r⟩ 27 (0, 0))
theorem raw_end {w W : World} {lb xb fb : Nat} {r : RuleM} {a0 a1 a2 a3 a4 b0 b1 b2 b3 c0 c1 c2 c3 : List UInt8} {s1 s2 s3 : Value} (hA : RawA w W lb r a0 a1 a2 a3 a4 b0 b1 b2 b3 c0 c1 c2 c3) (hxb : w.heap.size ≤ xb)
    (hx : W.heap[xb]? = some (.cells #[.int .u8 0, .int .u8 0, .slice none 0 0] 32 (0, 0)))
    (hf : W.heap[fb]? = some (.cells #[str b0, str b1, str b2, s1, str c0, str c1, str c2, s2, str a0, str c1, .string ⟨#[]⟩, s3] 46 (0, 0)))
    (h1 : SubsAt W s1 (rawSubs b3 20)) (h2 : SubsAt W s2 (rawSubs c3 20)) (h3 : SubsAt W s3 (rawSubs b3 20)) :
    RawR w lb r [⟨b0, b1, b2, rawSubs b3 20⟩, ⟨c0, c1, c2, rawSubs c3 20⟩, ⟨a0, c1, [], rawSubs b3 20⟩] (.pointer (some ⟨xb, 0, none⟩)) (((W.setCell ⟨xb, 0, none⟩ (.int .u8 0)).setCell ⟨xb, 1, none⟩ (.int .u8 0)).setCell ⟨xb, 2, none⟩ (.slice (some ⟨fb, 0, none⟩) 3 3)) := by
  obtain ⟨-, -, -, hx3⟩ := rec_cells hx (.slice (some ⟨fb, 0, none⟩) 3 3)
  have hbel : Below w.heap.size w (((W.setCell ⟨xb, 0, none⟩ (.int .u8 0)).setCell ⟨xb, 1, none⟩ (.int .u8 0)).setCell ⟨xb, 2, none⟩ (.slice (some ⟨fb, 0, none⟩) 3 3)) := below_set (below_set (below_set hA.bel hxb _ _) hxb _ _) hxb _ _
  obtain ⟨Z, hZ⟩ : ∃ Z, ((W.setCell ⟨xb, 0, none⟩ (.int .u8 0)).setCell ⟨xb, 1, none⟩ (.int .u8 0)).setCell ⟨xb, 2, none⟩ (.slice (some ⟨fb, 0, none⟩) 3 3) = Z := ⟨_, rfl⟩
  have hk : ∀ b, b ≠ xb → Z.heap[b]? = W.heap[b]? := by
    intro b hb
    rw [← hZ]
    exact (Below.heap_setCell _ _ _ _ hb).trans ((Below.heap_setCell _ _ _ _ hb).trans (Below.heap_setCell _ _ _ _ hb))
  have hs : Z.heap.size = W.heap.size := by rw [← hZ]; simp [World.setCell]
  rw [hZ] at hx3 hbel ⊢
  have hfx : fb ≠ xb := by rintro rfl; rw [hx] at hf; simp at hf
  have hlx : lb ≠ xb := by
    rintro rfl
    have := hA.rl
    rw [hx] at this
    simp [ruleL] at this
  have hs1 := h1.other hk (by omega) hx
  have hs2 := h2.other hk (by omega) hx
  have hs3 := h3.other hk (by omega) hx
  refine ⟨xb, fb, rfl, hbel, hx3, ?_, (hk lb hlx).trans hA.rl⟩
  have hF := flds_at (w := Z) (b := fb) [((⟨b0, b1, b2, rawSubs b3 20⟩ : FldM), s1), (⟨c0, c1, c2, rawSubs c3 20⟩, s2), (⟨a0, c1, [], rawSubs b3 20⟩, s3)] ((hk fb hfx).trans hf) (by show 3 ≤ maxLen; decide) 3 (by
    intro p hp
    rcases List.mem_cons.1 hp with rfl | hp
    · exact hs1
    rcases List.mem_cons.1 hp with rfl | hp
    · exact hs2
    · rw [List.mem_singleton.1 hp]; exact hs3)
  exact hF
end Go.Proofs.Ytfccpepmjklodaa
