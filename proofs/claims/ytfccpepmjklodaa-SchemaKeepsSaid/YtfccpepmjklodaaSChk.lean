/-
  What the laws about records made by numbers keep.
-/
import Derived.Test.YtfccpepmjklodaaSBent
namespace Go.Proofs.Ytfccpepmjklodaa
open Go.RowKit Go.Shelf
set_option linter.unusedVariables false
set_option linter.unusedSimpArgs false

/-- Few fields, few subfields, short tags. -/
def Small (n : Nat) (r : RecM) : Prop := r.fields.length ≤ 20 ∧ ∀ f ∈ r.fields, f.subs.length ≤ n ∧ f.tag.length ≤ n
theorem made_small (l : List (Int × Int × Int × Int)) : Small 3 (madeM l) := by
  refine ⟨by unfold madeM; simp only [List.length_map, List.length_take]; omega, fun f hf => ?_⟩
  unfold madeM at hf
  obtain ⟨x, _, rfl⟩ := List.mem_map.1 hf
  have h3 := modN_lt (n := x.2.2.1) (m := 3) (by decide)
  unfold madeF
  split
  · exact ⟨Nat.zero_le _, tagM_len _⟩
  · exact ⟨by simp only [madeSubs_len]; omega, tagM_len _⟩
theorem bentF_small {n k : Nat} {y : Int} {f : FldM} (hn : 3 ≤ n) (h : f.subs.length ≤ n ∧ f.tag.length ≤ n) : (bentF k y f).subs.length ≤ n + 1 ∧ (bentF k y f).tag.length ≤ n + 1 := by
  have ht := tagM_len y
  unfold bentF
  split <;> (try simp) <;> omega
theorem bent_small {n : Nat} {r : RecM} {q0 q1 q2 : Int} (hn : 3 ≤ n) (h : Small n r) : Small (n + 1) (bentM r q0 q1 q2) := by
  unfold bentM
  split
  · rename_i hp
    have hm := modN_lt (n := q1) (m := (r.fields.length : Int)) (by omega)
    refine ⟨by simp only [List.length_set]; exact h.1, fun f hf => ?_⟩
    rcases List.mem_or_eq_of_mem_set hf with hf | rfl
    · have := h.2 f hf; omega
    · refine bentF_small hn ?_
      rw [List.getD_eq_getElem?_getD, List.getElem?_eq_getElem (by omega)]
      exact h.2 _ (List.getElem_mem _)
  · exact ⟨Nat.zero_le _, fun f hf => by simp at hf⟩
theorem Small.fit {n : Nat} {r : RecM} (h : Small n r) (hn : n ≤ 100) : r.fields.length ≤ 1000 ∧ ∀ f ∈ r.fields, f.subs.length ≤ 1000 ∧ f.tag.length ≤ 1000 :=
  ⟨by have := h.1; omega, fun f hf => by have := h.2 f hf; omega⟩
theorem FldsAt.other {W Z : World} {xb : Nat} {v : Value} {l : List FldM} (hk : ∀ b, b ≠ xb → Z.heap[b]? = W.heap[b]?) (hs : W.heap.size ≤ Z.heap.size)
    (hx : W.heap[xb]? = some (.cells #[.int .u8 0, .int .u8 0, .slice none 0 0] 32 (0, 0))) (h : FldsAt W v l) : FldsAt Z v l := by
  rcases h with h | ⟨b, off, cap, hv, hm, hlt, hc⟩
  · exact .inl h
  · cases l with
    | nil => exact .inl ⟨some ⟨b, off, none⟩, cap, hv, rfl⟩
    | cons s l =>
      have hne : b ≠ xb := by
        rintro rfl
        obtain ⟨c0, -⟩ := hc 0 (by simp)
        rw [cell_at hx] at c0
        rcases off with _ | _ | _ | off
        · simp at c0
        · simp at c0
        · simp at c0
        · simp at c0
      refine .inr ⟨b, off, cap, hv, hm, Nat.lt_of_lt_of_le hlt hs, fun i hi => ?_⟩
      obtain ⟨c0, c1, c2, sv, c3, hsub⟩ := hc i hi
      refine ⟨?_, ?_, ?_, sv, ?_, hsub.other hk hs hx⟩
      all_goals (unfold World.cell? at c0 c1 c2 c3 ⊢; simp only [hk b hne] at c0 c1 c2 c3 ⊢; assumption)
theorem FldsAt.slice' {W : World} {v : Value} {l : List FldM} (h : FldsAt W v l) : ∃ a c, v = .slice a l.length c := by
  obtain ⟨a, c, hv, -⟩ := h.slice
  exact ⟨a, c, hv⟩
/-- A record that is written over a new one. -/
theorem rec_put {W : World} {xb : Nat} (h : W.heap[xb]? = some (.cells #[.int .u8 0, .int .u8 0, .slice none 0 0] 32 (0, 0))) (x y fv : Value) :
    (W.cell? ⟨xb, 0, none⟩ = some (.int .u8 0) ∧ W.frozen? ⟨xb, 0, none⟩ = false) ∧
    ((W.setCell ⟨xb, 0, none⟩ x).cell? ⟨xb, 1, none⟩ = some (.int .u8 0) ∧ (W.setCell ⟨xb, 0, none⟩ x).frozen? ⟨xb, 1, none⟩ = false) ∧
    (((W.setCell ⟨xb, 0, none⟩ x).setCell ⟨xb, 1, none⟩ y).cell? ⟨xb, 2, none⟩ = some (.slice none 0 0) ∧ ((W.setCell ⟨xb, 0, none⟩ x).setCell ⟨xb, 1, none⟩ y).frozen? ⟨xb, 2, none⟩ = false) ∧
    (((W.setCell ⟨xb, 0, none⟩ x).setCell ⟨xb, 1, none⟩ y).setCell ⟨xb, 2, none⟩ fv).heap[xb]? = some (.cells #[x, y, fv] 32 (0, 0)) := by
  have h1 := blk_set h 0 x
  have h2 := blk_set h1 1 y
  have h3 := blk_set h2 2 fv
  exact ⟨⟨by rw [cell_at h]; rfl, Lib.frozen_of_heap h 0⟩, ⟨by rw [cell_at h1]; rfl, Lib.frozen_of_heap h1 1⟩, ⟨by rw [cell_at h2]; rfl, Lib.frozen_of_heap h2 2⟩, h3⟩
/-- A variable holds a record. -/
def VarR (w : World) (r : RecM) (s : Value) (wx : World) : Prop := ∃ xb fv, s = .pointer (some ⟨xb, 0, none⟩) ∧ Below w.heap.size w wx ∧ w.heap.size ≤ xb ∧
  wx.heap[xb]? = some (.cells #[.int .u8 (r.kind.toNat : Int), .int .u8 (r.level.toNat : Int), fv] 32 (0, 0)) ∧ FldsAt wx fv r.fields
theorem var_put {w W : World} {xb : Nat} {r : RecM} {fv : Value} (hb : Below w.heap.size w W) (hxb : w.heap.size ≤ xb) (hx : W.heap[xb]? = some (.cells #[.int .u8 0, .int .u8 0, .slice none 0 0] 32 (0, 0))) (hf : FldsAt W fv r.fields) :
    VarR w r (.pointer (some ⟨xb, 0, none⟩)) (((W.setCell ⟨xb, 0, none⟩ (.int .u8 (r.kind.toNat : Int))).setCell ⟨xb, 1, none⟩ (.int .u8 (r.level.toNat : Int))).setCell ⟨xb, 2, none⟩ fv) := by
  obtain ⟨-, -, -, hx3⟩ := rec_put hx (.int .u8 (r.kind.toNat : Int)) (.int .u8 (r.level.toNat : Int)) fv
  refine ⟨xb, fv, rfl, below_set (below_set (below_set hb hxb _ _) hxb _ _) hxb _ _, hxb, hx3, hf.other (xb := xb) (fun b hb => ?_) (by simp [World.setCell]) hx⟩
  exact (Below.heap_setCell _ _ _ _ hb).trans ((Below.heap_setCell _ _ _ _ hb).trans (Below.heap_setCell _ _ _ _ hb))
/-- What the standard rules say of a record. -/
theorem std_checks {W : World} {b : Nat} {fv : Value} {r : RecM} (hs : W.heap[b]? = some (.cells stdArr 27 (0, 0))) (hf : FldsAt W fv r.fields) (hsm : Small 5 r) :
    Calls Try.prog 18 #[.slice (some ⟨b, 0, none⟩) 24 24, .agg #[.int .u8 (r.kind.toNat : Int), .int .u8 (r.level.toNat : Int), fv]] W (ChkOf (checkS stdR r.fields) W) ∧
    Calls Try.prog 16 #[.slice (some ⟨b, 0, none⟩) 24 24, .agg #[.int .u8 (r.kind.toNat : Int), .int .u8 (r.level.toNat : Int), fv]] W (ChkOf (checkS stdR r.fields) W) ∧
    Calls Try.prog 19 #[.slice (some ⟨b, 0, none⟩) 24 24, .agg #[.int .u8 (r.kind.toNat : Int), .int .u8 (r.level.toNat : Int), fv]] W (fun e w' => e = .returned (.bool (((checkS stdR r.fields).length : Int) == 0)) ∧ Below W.heap.size W w') := by
  have hv : RecV W (.agg #[.int .u8 (r.kind.toNat : Int), .int .u8 (r.level.toNat : Int), fv]) r := ⟨_, rfl, hf⟩
  have hl : stdR.length + r.fields.length ≤ 1000000 := by show 24 + _ ≤ _; have := hsm.1; omega
  have ht : ∀ f ∈ r.fields, f.tag.length ≤ 140737488355328 := fun f hf => by have := hsm.2 f hf; omega
  have hr := std_at hs 24
  exact ⟨chk_of (check_c stdR b 0 (some ⟨b, 0, none⟩) 24 _ r (fun _ => rfl) W hr hv stdTags ht hl), chk_of (rCheck_c stdR (some ⟨b, 0, none⟩) 24 _ r W hr hv stdTags (fun q hq => (stdShort q hq).2) ht hl),
    fits_c stdR b 0 (some ⟨b, 0, none⟩) 24 _ r (fun _ => rfl) W hr hv stdTags ht hl⟩
/-- What the law keeps while it makes the record. -/
structure ArgW (w W : World) (v : Value) (l : List (Int × Int × Int × Int)) (P0 P1 : Nat) (x0 x1 x2 y0 y1 y2 : Int) : Prop where
  bel : Below w.heap.size w W
  rd : ReadsQ W v l
  xp : W.heap[P0]? = some (.cells #[.int .i64 x0, .int .i64 x1, .int .i64 x2] 29 (0, 0))
  xq : W.heap[P1]? = some (.cells #[.int .i64 y0, .int .i64 y1, .int .i64 y2] 29 (0, 0))
theorem ArgW.below {w W W' : World} {v : Value} {l : List (Int × Int × Int × Int)} {P0 P1 : Nat} {x0 x1 x2 y0 y1 y2 : Int} (h : ArgW w W v l P0 P1 x0 x1 x2 y0 y1 y2) (hb : Below W.heap.size W W') : ArgW w W' v l P0 P1 x0 x1 x2 y0 y1 y2 :=
  ⟨below_tr h.bel hb, h.rd.below hb (Nat.le_refl _), heap_below hb (Nat.le_refl _) h.xp, heap_below hb (Nat.le_refl _) h.xq⟩
theorem ArgW.cells {w W : World} {v : Value} {l : List (Int × Int × Int × Int)} {P0 P1 : Nat} {x0 x1 x2 y0 y1 y2 : Int} (h : ArgW w W v l P0 P1 x0 x1 x2 y0 y1 y2) :
    (W.cell? ⟨P0, 0, none⟩ = some (.int .i64 x0) ∧ W.cell? ⟨P0, 1, none⟩ = some (.int .i64 x1) ∧ W.cell? ⟨P0, 2, none⟩ = some (.int .i64 x2)) ∧
    W.cell? ⟨P1, 0, none⟩ = some (.int .i64 y0) ∧ W.cell? ⟨P1, 1, none⟩ = some (.int .i64 y1) ∧ W.cell? ⟨P1, 2, none⟩ = some (.int .i64 y2) := by
  simp only [cell_at h.xp, cell_at h.xq]
  exact ⟨⟨rfl, rfl, rfl⟩, rfl, rfl, rfl⟩
/-- The contracts of Made and Bent, short. -/
theorem made_v {v : Value} {l : List (Int × Int × Int × Int)} {w : World} (hv : ReadsQ w v l) : Calls Try.prog 15 #[v] w (fun e w' => ∃ fv, e = .returned (.agg #[.int .u8 ((madeM l).kind.toNat : Int), .int .u8 ((madeM l).level.toNat : Int), fv]) ∧ FldsAt w' fv (madeM l).fields ∧ Below w.heap.size w w') := by
  refine (made_c v l w hv).mono ?_
  rintro e w' ⟨p, acc, sv, rfl, h1, h2, h3, h4, -⟩
  exact ⟨sv, rfl, by rw [← h3]; exact flds_of_own h1 (fun q hq => subs_of_own (h2 q hq)), h4⟩
theorem bent_v {r : RecM} {fv : Value} {q0 q1 q2 : Int} {w : World} (hf : FldsAt w fv r.fields) {n : Nat} (hs : Small n r) (hn : n ≤ 100) (g0 : Fits q0) (g1 : Fits q1) (g2 : Fits q2) :
    Calls Try.prog 14 #[.agg #[.int .u8 (r.kind.toNat : Int), .int .u8 (r.level.toNat : Int), fv], .agg #[.int .i64 q0, .int .i64 q1, .int .i64 q2]] w
      (fun e w' => ∃ fv', e = .returned (.agg #[.int .u8 ((bentM r q0 q1 q2).kind.toNat : Int), .int .u8 ((bentM r q0 q1 q2).level.toNat : Int), fv']) ∧ FldsAt w' fv' (bentM r q0 q1 q2).fields ∧ Below w.heap.size w w') := by
  refine (bent_c _ r q0 q1 q2 w ⟨_, rfl, hf⟩ (hs.fit hn) g0 g1 g2).mono ?_
  rintro e w' ⟨p, acc, sv, rfl, h1, h2, h3, h4, -⟩
  exact ⟨sv, rfl, by rw [← h3]; exact flds_of_own h1 (fun q hq => subs_of_own (h2 q hq)), h4⟩
end Go.Proofs.Ytfccpepmjklodaa
