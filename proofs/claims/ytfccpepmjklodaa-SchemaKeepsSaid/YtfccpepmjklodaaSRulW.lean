/-
  The law's rules in a walk.
-/
import Derived.Test.YtfccpepmjklodaaSRul
namespace Go.Proofs.Ytfccpepmjklodaa
open Go.RowKit Go.Shelf
set_option linter.unusedVariables false
set_option linter.unusedSimpArgs false

theorem Small.mono {n m : Nat} {r : RecM} (h : Small n r) (hn : n ≤ m) : Small m r := ⟨h.1, fun f hf => by have := h.2 f hf; omega⟩
/-- A record in a variable. -/
structure RecS (w W : World) (xb : Nat) (fv : Value) (r : RecM) : Prop where
  bel : Below w.heap.size w W
  box : W.heap[xb]? = some (.cells #[.int .u8 (r.kind.toNat : Int), .int .u8 (r.level.toNat : Int), fv] 32 (0, 0))
  flds : FldsAt W fv r.fields
theorem RecS.below {w W W' : World} {xb : Nat} {fv : Value} {r : RecM} (h : RecS w W xb fv r) (hb : Below W.heap.size W W') : RecS w W' xb fv r := ⟨below_tr h.bel hb, heap_below hb (Nat.le_refl _) h.box, h.flds.below hb (Nat.le_refl _)⟩
theorem RecS.cells {w W : World} {xb : Nat} {fv : Value} {r : RecM} (h : RecS w W xb fv r) : W.cell? ⟨xb, 0, none⟩ = some (.int .u8 (r.kind.toNat : Int)) ∧ W.cell? ⟨xb, 1, none⟩ = some (.int .u8 (r.level.toNat : Int)) ∧ W.cell? ⟨xb, 2, none⟩ = some fv := by
  simp only [cell_at h.box]
  exact ⟨rfl, rfl, rfl⟩
theorem rules_len (l : List (Int × Int × Int × Int)) : (rulesM l).length ≤ 8 := by
  unfold rulesM
  rw [List.length_map, List.length_take]
  omega
theorem rules_short (l : List (Int × Int × Int × Int)) : ∀ q ∈ rulesM l, RShort q := by
  intro q hq
  unfold rulesM at hq
  obtain ⟨x, _, rfl⟩ := List.mem_map.1 hq
  have h8 := modN_lt (n := x.2.1) (m := 8) (by decide)
  have ht := tagM_len x.1
  have hrt : ∀ j, ((rtagsL (tagM x.1)).getD j []).length ≤ 3 := by
    intro j
    unfold rtagsL
    match j with
    | 0 => exact ht
    | 1 => exact (by decide : ([120, 120, 120] : List UInt8).length ≤ 3)
    | 2 => exact (by decide : ([50, 120, 53] : List UInt8).length ≤ 3)
    | 3 => exact (by decide : ([57, 120, 120] : List UInt8).length ≤ 3)
    | 4 => exact (by decide : ([120, 48, 48] : List UInt8).length ≤ 3)
    | 5 => exact (by decide : ([54, 53, 120] : List UInt8).length ≤ 3)
    | 6 => exact (by decide : ([] : List UInt8).length ≤ 3)
    | 7 => exact (by decide : ([120] : List UInt8).length ≤ 3)
    | n + 8 => simp
  unfold RShort ruleX
  have := hrt (modN x.2.1 8)
  simp only [List.length_take, List.length_cons, List.length_nil]
  omega
theorem rul_at {w : World} {B : Nat} {v : Value} {rs : List RuleM} (h : w.ownsRow B 27 7 v rs.length (rs.flatMap ruleL)) : ∃ ra rc rb, v = .slice ra rs.length rc ∧ RulesAt w (.slice ra rs.length rc) rs ∧ (rs ≠ [] → ra = some ⟨rb, 0, none⟩) := by
  cases rs with
  | nil =>
    obtain ⟨a, c, hv⟩ := own_form h
    exact ⟨a, c, 0, hv, .inl ⟨a, c, rfl, rfl⟩, fun e => absurd rfl e⟩
  | cons x xs =>
    obtain ⟨g, cap, hv, hr⟩ := rules_of_own (by simp) h
    exact ⟨_, cap, g, hv, by rw [← hv]; exact hr, fun _ => rfl⟩
theorem rul_v {v : Value} {l : List (Int × Int × Int × Int)} {w : World} (hv : ReadsQ w v l) : Calls Try.prog 20 #[v] w (fun e w' => ∃ ra rc rb, e = .returned (.slice ra (rulesM l).length rc) ∧ RulesAt w' (.slice ra (rulesM l).length rc) (rulesM l) ∧ (rulesM l ≠ [] → ra = some ⟨rb, 0, none⟩) ∧ Below w.heap.size w w') := by
  refine (rules_c v l w hv).mono ?_
  rintro e w' ⟨pv, rfl, hown, hb⟩
  obtain ⟨ra, rc, rb, rfl, h1, h2⟩ := rul_at hown
  exact ⟨ra, rc, rb, rfl, h1, h2, hb⟩
theorem rul_checks {W : World} {ra : Option Addr} {rb rc : Nat} {fv : Value} {r : RecM} {rs : List RuleM} (hr : RulesAt W (.slice ra rs.length rc) rs) (hra : rs ≠ [] → ra = some ⟨rb, 0, none⟩) (hf : FldsAt W fv r.fields) (hsm : Small 5 r) (hsh : ∀ q ∈ rs, RShort q) (hl : rs.length ≤ 8) :
    Calls Try.prog 18 #[.slice ra rs.length rc, .agg #[.int .u8 (r.kind.toNat : Int), .int .u8 (r.level.toNat : Int), fv]] W (ChkOf (checkS rs r.fields) W) ∧
    Calls Try.prog 16 #[.slice ra rs.length rc, .agg #[.int .u8 (r.kind.toNat : Int), .int .u8 (r.level.toNat : Int), fv]] W (ChkOf (checkS rs r.fields) W) ∧
    Calls Try.prog 19 #[.slice ra rs.length rc, .agg #[.int .u8 (r.kind.toNat : Int), .int .u8 (r.level.toNat : Int), fv]] W (fun e w' => e = .returned (.bool (((checkS rs r.fields).length : Int) == 0)) ∧ Below W.heap.size W w') := by
  have hv : RecV W (.agg #[.int .u8 (r.kind.toNat : Int), .int .u8 (r.level.toNat : Int), fv]) r := ⟨_, rfl, hf⟩
  have hl' : rs.length + r.fields.length ≤ 1000000 := by have := hsm.1; omega
  have ht : ∀ f ∈ r.fields, f.tag.length ≤ 140737488355328 := fun f hf => by have := hsm.2 f hf; omega
  exact ⟨chk_of (check_c rs rb 0 ra rc _ r hra W hr hv (fun q hq => (hsh q hq).1) ht hl'), chk_of (rCheck_c rs ra rc _ r W hr hv (fun q hq => (hsh q hq).1) (fun q hq => (hsh q hq).2) ht hl'),
    fits_c rs rb 0 ra rc _ r hra W hr hv (fun q hq => (hsh q hq).1) ht hl'⟩
end Go.Proofs.Ytfccpepmjklodaa
