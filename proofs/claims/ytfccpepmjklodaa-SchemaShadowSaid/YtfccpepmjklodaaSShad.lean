/-
  SchemaShadow: rules behind equal tags; what the law keeps.
-/
import Derived.Test.YtfccpepmjklodaaSRulW
import Derived.Deep.Upon
import Derived.Maps.AppendAt
namespace Go.Proofs.Ytfccpepmjklodaa
open Go.RowKit Go.Shelf
set_option linter.unusedVariables false
set_option linter.unusedSimpArgs false

theorem wp_append_src {P : Program} (w : World) {o : Oper} {a : Act} {K : Act → World → Prop} {Q : Exit → Act → World → Prop} (s x : Operand) (t : TypeId)
    (ho : o.op = .call { callee := .builtin .append, args := #[s, x], argTypes := #[t, t] })
    (base : Nat) (e : TypeId) (i : TypeInfo) (z : Value) (size bytes : Nat) (ht : P.underlying t = some (.slice e)) (hi : P.info? e = some i) (hz : i.zero = some z)
    (hsize : i.size = size) (hby : i.bytes = bytes) (hzs : z.cells.size = size) (hsz : 0 < size)
    (v : Value) (n : Nat) (xs : List Value) (hs : a.eval s = v) (hown : w.ownsRow base e size v n xs)
    (ao : Option Addr) (m c : Nat) (news : List Value) (hx : a.eval x = .slice ao m c) (hl : news.length = m * size) (hc : ∀ ad, ao = some ad → ∀ j u, news[j]? = some u → w.cell? (ad.add j) = some u) (hn : ao = none → m = 0) (h1 : ∀ u ∈ news, u.oneCell' = true)
    (h63 : n + m ≤ maxLen) (hbytes : (n + m) * bytes ≤ 140737488355328) (hbase : base ≤ w.heap.size)
    (h : ∀ v' w', w'.ownsRow base e size v' (n + m) (xs ++ news) → w.grownBy w' v.ownBlock → (v'.ownBlock = v.ownBlock ∨ v'.ownBlock = some w.heap.size) → K (a.put o.dst v') w') : o.wp P a w K Q := by
  have key : ∃ v' w', (Builtin.append_ #[t, t] o.type #[v, .slice ao m c]).run P w = .ok v' w' ∧ w'.ownsRow base e size v' (n + m) (xs ++ news) ∧ w.grownBy w' v.ownBlock ∧ (v'.ownBlock = v.ownBlock ∨ v'.ownBlock = some w.heap.size) := by
    cases ao with
    | some ad =>
      obtain ⟨v', w', g1, g2, g3, _, g5⟩ := run_append_own_at (P := P) w base t o.type e i z size bytes ht hi hz hsize hby hzs hsz v n xs hown ad m c news hl (hc ad rfl) h1 h63 hbytes hbase
      exact ⟨v', w', g1, g2, g3, g5⟩
    | none =>
      obtain rfl := hn rfl
      have hnn : news = [] := List.eq_nil_of_length_eq_zero (by simpa using hl)
      subst hnn
      have hv : ∃ bo sl sc, v = .slice bo sl sc ∧ sl ≤ sc := by
        rcases hown.2 with ⟨rfl, _⟩ | ⟨g, cap, cur, rfl, _, _, hnc, _⟩
        · exact ⟨_, _, _, rfl, Nat.le_refl _⟩
        · exact ⟨_, _, _, rfl, hnc⟩
      obtain ⟨bo, sl, sc, rfl, hle⟩ := hv
      refine ⟨_, w, run_append_nothing w t t o.type e i ht hi bo sl sc hle _ (Src.ofNil w (size := i.size) ht c), by simpa using hown, ⟨rfl, rfl, rfl, Nat.le_refl _, fun _ _ _ => rfl⟩, .inl rfl⟩
  obtain ⟨v', w', hrun, h2, h3, h4⟩ := key
  unfold Oper.wp execOp
  simp only [ho, resolve, invoke, builtin, Sem.run_bind, Sem.run_pure, Result.andThen_ok, List.map_toArray, List.map_cons, List.map_nil, hs, hx, hrun]
  exact h v' w' h2 h3 h4
/-- The rule that stands behind. -/
def shadowR (r : RuleM) : RuleM := { r with must := false, once := !r.once, codes := [122], single := [97, 98, 99] }
theorem ruleOf_shadow (rs : List RuleM) (t : List UInt8) : ruleOf (rs ++ rs.map shadowR) t = ruleOf rs t := by
  unfold ruleOf
  rw [List.find?_append]
  cases h : rs.find? fun r => matchB t r.tag with
  | some r => rfl
  | none =>
    rw [Option.none_or, List.find?_eq_none]
    intro x hx
    obtain ⟨r, hr, rfl⟩ := List.mem_map.1 hx
    have := List.find?_eq_none.1 h r hr
    exact this
theorem fldProbs_shadow (rs : List RuleM) : ∀ (fs : List FldM) (n : Nat) (seen : List (List UInt8)), fldProbs (rs ++ rs.map shadowR) n seen fs = fldProbs rs n seen fs
  | [], _, _ => rfl
  | f :: fs, n, seen => by
    unfold fldProbs
    rw [ruleOf_shadow, fldProbs_shadow rs fs]
theorem missProbs_shadow (fs : List FldM) (rs : List RuleM) : missProbs fs (rs ++ rs.map shadowR) = missProbs fs rs := by
  unfold missProbs
  rw [List.filter_append]
  have : (rs.map shadowR).filter (missB fs) = [] := by
    rw [List.filter_eq_nil_iff]
    intro x hx
    obtain ⟨r, _, rfl⟩ := List.mem_map.1 hx
    unfold missB shadowR
    simp
  rw [this, List.append_nil]
theorem checkS_shadow (rs : List RuleM) (fs : List FldM) : checkS (rs ++ rs.map shadowR) fs = checkS rs fs := by
  unfold checkS
  rw [fldProbs_shadow, missProbs_shadow]
theorem flat_len (rs : List RuleM) : (rs.flatMap ruleL).length = rs.length * 7 := by
  induction rs with
  | nil => rfl
  | cons a r ih => simp only [List.flatMap_cons, List.length_append, ih, List.length_cons, ruleL, List.length_nil]; omega
theorem flat_one (rs : List RuleM) : ∀ u ∈ rs.flatMap ruleL, u.oneCell' = true := by
  intro u hu
  obtain ⟨r, _, hr⟩ := List.mem_flatMap.1 hu
  simp only [ruleL, List.mem_cons, List.not_mem_nil, or_false] at hr
  rcases hr with rfl | rfl | rfl | rfl | rfl | rfl | rfl <;> rfl
/-- A row of rules as the source of an append. -/
theorem rul_src {w : World} {B : Nat} {a : Option Addr} {n c : Nat} {xs : List Value} (h : w.ownsRow B 27 7 (.slice a n c) n xs) (hl : xs.length = n * 7) :
    (∀ ad, a = some ad → ∀ j u, xs[j]? = some u → w.cell? (ad.add j) = some u) ∧ (a = none → n = 0) := by
  rcases h.2 with ⟨hv, h0⟩ | ⟨g, cap, cur, hv, hbg, hg, hnc, hcm, hcs, htake⟩
  · subst h0
    refine ⟨fun ad _ j u hj => ?_, fun _ => rfl⟩
    have : xs = [] := List.eq_nil_of_length_eq_zero (by simpa using hl)
    rw [this] at hj
    simp at hj
  · simp only [Value.slice.injEq] at hv
    obtain ⟨rfl, -, rfl⟩ := hv
    refine ⟨fun ad had j u hj => ?_, fun e => by cases e⟩
    cases had
    have hjl : j < n * 7 := by rw [← hl]; exact (List.getElem?_eq_some_iff.1 hj).1
    rw [add_off, Nat.zero_add, cell_at hg, ← Array.getElem?_toList, ← List.getElem?_take_of_lt hjl, htake]
    exact hj
theorem own_lit_rule (W : World) {B : Nat} (hB : B ≤ W.heap.size) : (W.alloc (.cells #[] 27)).ownsRow B 27 7 (.slice (some ⟨W.heap.size, 0, none⟩) 0 0) 0 [] :=
  ⟨rfl, .inr ⟨W.heap.size, 0, #[], rfl, hB, new_at _ _, Nat.le_refl _, by decide, rfl, rfl⟩⟩
theorem rul_checks2 {W : World} {ra : Option Addr} {rb rc : Nat} {fv : Value} {r : RecM} {rs : List RuleM} (hr : RulesAt W (.slice ra rs.length rc) rs) (hra : rs ≠ [] → ra = some ⟨rb, 0, none⟩) (hf : FldsAt W fv r.fields) (hsm : Small 5 r) (hsh : ∀ q ∈ rs, RShort q) (hl : rs.length ≤ 100) :
    Calls Try.prog 18 #[.slice ra rs.length rc, .agg #[.int .u8 (r.kind.toNat : Int), .int .u8 (r.level.toNat : Int), fv]] W (ChkOf (checkS rs r.fields) W) := by
  have hv : RecV W (.agg #[.int .u8 (r.kind.toNat : Int), .int .u8 (r.level.toNat : Int), fv]) r := ⟨_, rfl, hf⟩
  have hl' : rs.length + r.fields.length ≤ 1000000 := by have := hsm.1; omega
  have ht : ∀ f ∈ r.fields, f.tag.length ≤ 140737488355328 := fun f hf => by have := hsm.2 f hf; omega
  exact chk_of (check_c rs rb 0 ra rc _ r hra W hr hv (fun q hq => (hsh q hq).1) ht hl')
theorem shadow_short {rs : List RuleM} (h : ∀ q ∈ rs, RShort q) : ∀ q ∈ rs ++ rs.map shadowR, RShort q := by
  intro q hq
  rcases List.mem_append.1 hq with hq | hq
  · exact h q hq
  · obtain ⟨r, hr, rfl⟩ := List.mem_map.1 hq
    have := h r hr
    unfold RShort shadowR at *
    simp only [List.length_cons, List.length_nil]
    omega
/-- Two rows become one. -/
theorem rul_join {w : World} {B : Nat} {v : Value} {rs ts : List RuleM} (h : w.ownsRow B 27 7 v (rs.length + ts.length) (rs.flatMap ruleL ++ ts.flatMap ruleL)) : w.ownsRow B 27 7 v (rs ++ ts).length ((rs ++ ts).flatMap ruleL) := by
  rw [List.length_append, List.flatMap_append]
  exact h
theorem ProbAt.other {W Z : World} {eb : Nat} {v : Value} {l : List (Int × Nat)} {T : TypeId} (hx : W.heap[eb]? = some (.cells #[] T (0, 0))) (hk : ∀ b, b < W.heap.size → b ≠ eb → Z.heap[b]? = W.heap[b]?) (hs : W.heap.size ≤ Z.heap.size) (h : ProbAt W v l) : ProbAt Z v l := by
  obtain ⟨a, c, hv, hm, hc⟩ := h
  refine ⟨a, c, hv, hm, fun i hi => ?_⟩
  obtain ⟨b, o, ha, hl, c0, c1⟩ := hc i hi
  have hne : b ≠ eb := by
    rintro rfl
    rw [cell_at hx] at c0
    simp at c0
  refine ⟨b, o, ha, Nat.lt_of_lt_of_le hl hs, ?_, ?_⟩
  all_goals (unfold World.cell? at c0 c1 ⊢; simp only [hk b hl hne] at c0 c1 ⊢; assumption)
/-- The cells of a rule that is written over. -/
theorem shadow_cells {W : World} {yb : Nat} {r : RuleM} (h : W.heap[yb]? = some (.cells ⟨ruleL r⟩ 27 (0, 0))) :
    W.cell? ⟨yb, 2, none⟩ = some (.bool r.once) ∧ (W.cell? ⟨yb, 1, none⟩ = some (.bool r.must) ∧ W.frozen? ⟨yb, 1, none⟩ = false) ∧
    ((W.setCell ⟨yb, 1, none⟩ (.bool false)).cell? ⟨yb, 2, none⟩ = some (.bool r.once) ∧ (W.setCell ⟨yb, 1, none⟩ (.bool false)).frozen? ⟨yb, 2, none⟩ = false) ∧
    (((W.setCell ⟨yb, 1, none⟩ (.bool false)).setCell ⟨yb, 2, none⟩ (.bool (!r.once))).cell? ⟨yb, 5, none⟩ = some (str r.codes) ∧ ((W.setCell ⟨yb, 1, none⟩ (.bool false)).setCell ⟨yb, 2, none⟩ (.bool (!r.once))).frozen? ⟨yb, 5, none⟩ = false) ∧
    ((((W.setCell ⟨yb, 1, none⟩ (.bool false)).setCell ⟨yb, 2, none⟩ (.bool (!r.once))).setCell ⟨yb, 5, none⟩ (.string ⟨#[122]⟩)).cell? ⟨yb, 6, none⟩ = some (str r.single) ∧ (((W.setCell ⟨yb, 1, none⟩ (.bool false)).setCell ⟨yb, 2, none⟩ (.bool (!r.once))).setCell ⟨yb, 5, none⟩ (.string ⟨#[122]⟩)).frozen? ⟨yb, 6, none⟩ = false) ∧
    ((((W.setCell ⟨yb, 1, none⟩ (.bool false)).setCell ⟨yb, 2, none⟩ (.bool (!r.once))).setCell ⟨yb, 5, none⟩ (.string ⟨#[122]⟩)).setCell ⟨yb, 6, none⟩ (.string ⟨#[97, 98, 99]⟩)).heap[yb]? = some (.cells ⟨ruleL (shadowR r)⟩ 27 (0, 0)) := by
  have h1 := blk_set h 1 (.bool false)
  have h2 := blk_set h1 2 (.bool (!r.once))
  have h3 := blk_set h2 5 (.string ⟨#[122]⟩)
  have h4 := blk_set h3 6 (.string ⟨#[97, 98, 99]⟩)
  exact ⟨by rw [cell_at h]; rfl, ⟨by rw [cell_at h]; rfl, Lib.frozen_of_heap h 1⟩, ⟨by rw [cell_at h1]; rfl, Lib.frozen_of_heap h1 2⟩, ⟨by rw [cell_at h2]; rfl, Lib.frozen_of_heap h2 5⟩, ⟨by rw [cell_at h3]; rfl, Lib.frozen_of_heap h3 6⟩, h4⟩
/-- What the law keeps. -/
structure ShW (w W : World) (xb : Nat) (fv : Value) (r : RecM) (B1 : Nat) (ra : Option Addr) (rc : Nat) (rs : List RuleM) : Prop where
  rec_ : RecS w W xb fv r
  first : W.ownsRow B1 27 7 (.slice ra rs.length rc) rs.length (rs.flatMap ruleL)
theorem ShW.below {w W W' : World} {xb : Nat} {fv : Value} {r : RecM} {B1 : Nat} {ra : Option Addr} {rc : Nat} {rs : List RuleM} (h : ShW w W xb fv r B1 ra rc rs) (hb : Below W.heap.size W W') : ShW w W' xb fv r B1 ra rc rs := ⟨h.rec_.below hb, own_bel h.first hb⟩
end Go.Proofs.Ytfccpepmjklodaa
