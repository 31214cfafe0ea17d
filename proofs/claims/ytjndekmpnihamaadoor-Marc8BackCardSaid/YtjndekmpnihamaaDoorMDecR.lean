/-
  The decoder's writes to its builder; the ranges of characters.
-/
import Derived.Test.YtjndekmpnihamaaDoorMDec2
import Derived.LoopTactic
import Derived.Laws.IdiomStrings
namespace Go.Proofs.YtjndekmpnihamaaDoor
open Go.RowKit Go.Shelf
set_option linter.unusedVariables false

/-- The decoder's state, its current set beside it. -/
def DAt (K : DK) (a : Nat) (out : List UInt8) (cv : Value) (cur : Int) (w : World) : Prop := DSt K a out cv w ∧ DCur K cur cv w
theorem DAt.drew {K : DK} {a : Nat} {out : List UInt8} {cv : Value} {cur : Int} {w : World} (h : DAt K a out cv cur w) : DAt K a out cv cur w.drew := ⟨h.1.below ((Below.refl _ _).drew), h.2.mk' (fun _ _ _ h => h)⟩
theorem DAt.drewN {K : DK} {a : Nat} {out : List UInt8} {cv : Value} {cur : Int} {w : World} (h : DAt K a out cv cur w) (n : Nat) : DAt K a out cv cur (w.drewN n) := ⟨h.1.drewN n, h.2.drewN n⟩
theorem DAt.below {K : DK} {a : Nat} {out : List UInt8} {cv : Value} {cur : Int} {w w' : World} (h : DAt K a out cv cur w) (hb : Below w.heap.size w w') : DAt K a out cv cur w' := ⟨h.1.below hb, h.2.mk' (mapsKept_below hb)⟩

/-- Rows that are frozen somewhere are as they were. -/
def FarKept (w w' : World) : Prop :=
  ∀ (g : Nat) (c : Array Value) (T : TypeId) (x y : Nat), w.heap[g]? = some (.cells c T (x, y)) → y ≠ 0 → w'.heap[g]? = w.heap[g]?
theorem Wrote.farKept {B b o : Nat} {T : TypeId} {bs : List Value} {cs : Array Value} {out : List UInt8} {w w' : World} (h : Wrote T B b o bs cs w w') (hb : BuildIn T B b o (Lib.byteCells out) cs w) : FarKept w w' := by
  intro g c T' x y hg hy
  obtain ⟨v, hv, hown⟩ := hb.buf
  refine h.far g v hv (lt_at hg) ?_ ?_
  · intro e
    subst e
    rw [hb.heap] at hg
    simp only [Option.some.injEq, Obj.cells.injEq, Prod.mk.injEq] at hg
    exact hy hg.2.2.2.symm
  · intro e
    rcases hown.2 with ⟨hn, _⟩ | ⟨g', cap, cur, rfl, _, hg', _⟩
    · rw [hn] at e; simp [Value.ownBlock] at e
    · simp only [Value.ownBlock, Option.some.injEq] at e
      subst e
      rw [hg'] at hg
      simp only [Option.some.injEq, Obj.cells.injEq, Prod.mk.injEq] at hg
      exact hy hg.2.2.2.symm

theorem drune_c (K : DK) (a : Nat) (out : List UInt8) (cv : Value) (cur ch : Int) (w : World) (h : DAt K a out cv cur w) (h0 : 0 ≤ ch) (h1 : ch ≤ 2147483647) (hlen : out.length + 4 ≤ 140737488355328) :
    Calls Tryd.prog 56 #[.pointer (some ⟨K.b, 2, none⟩), .int .i32 ch] w fun e w' => e = .returned (.tuple #[.int .i64 ((Lib.runeCells ch).length : Int), .nilIface]) ∧ DAt K a (out ++ Lib.encodeRune ch) cv cur w' ∧ Below K.B w w' ∧ FarKept w w' := by
  obtain ⟨p, v, hr⟩ := h.1.row
  refine (writeRune_c TD 8 K.B K.b 2 _ _ ch (by omega) h1 w roomDec rfl hr (by rw [Lib.byteCells_length]; exact hlen)).mono ?_
  rintro e w' ⟨he, hw⟩
  obtain ⟨x1, x2, x3⟩ := h.1.wrote hr.heap hw (out' := out ++ Lib.encodeRune ch) (by rw [Lib.byteCells_append, Lib.byteCells_encodeRune])
  exact ⟨he, ⟨x1, h.2.mk' x2⟩, x3, hw.farKept hr⟩
theorem dbyte_c (K : DK) (a : Nat) (out : List UInt8) (cv : Value) (cur : Int) (x : UInt8) (w : World) (h : DAt K a out cv cur w) (hlen : out.length + 1 ≤ 140737488355328) :
    Calls Tryd.prog 46 #[.pointer (some ⟨K.b, 2, none⟩), .int .u8 (x.toNat : Int)] w fun e w' => e = .returned .nilIface ∧ DAt K a (out ++ [x]) cv cur w' ∧ Below K.B w w' := by
  obtain ⟨p, v, hr⟩ := h.1.row
  refine (writeByte_c TD 8 K.B K.b 2 _ _ _ w roomDec rfl hr (by rw [Lib.byteCells_length]; exact hlen)).mono ?_
  rintro e w' ⟨he, hw⟩
  obtain ⟨x1, x2, x3⟩ := h.1.wrote hr.heap hw (out' := out ++ [x]) (by rw [Lib.byteCells_append]; rfl)
  exact ⟨he, ⟨x1, h.2.mk' x2⟩, x3⟩

/-! ### what the maps hold -/
theorem foldl_put_mem (l : List (Int × Int)) : ∀ (m : Int → Option Int) (k x : Int), l.foldl (fun m p => put m p.1 p.2) m k = some x → (k, x) ∈ l ∨ m k = some x := by
  induction l with
  | nil => intro m k x h; exact .inr h
  | cons p l ih =>
    intro m k x h
    rcases ih _ k x h with h1 | h1
    · exact .inl (List.mem_cons_of_mem _ h1)
    · simp only [put] at h1
      by_cases e : k = p.1
      · rw [if_pos e] at h1
        refine .inl ?_
        have : (k, x) = p := Prod.ext e (Option.some.inj h1).symm
        rw [this]; exact List.mem_cons_self
      · rw [if_neg e] at h1
        exact .inr h1
theorem putAll_mem {l : List (Int × Int)} {k x : Int} (h : putAll l k = some x) : (k, x) ∈ l := by
  rcases foldl_put_mem l _ k x h with h1 | h1
  · exact h1
  · cases h1
theorem inRange_all {l : List (Int × Int)} (h : l.all inRange = true) {p : Int × Int} (hp : p ∈ l) : 0 ≤ p.1 ∧ p.1 ≤ 254 ∧ 0 ≤ p.2 ∧ p.2 ≤ 2147483647 := inRange_iff (List.all_eq_true.1 h p hp)
theorem namedL_range (c : Int) : (namedL c).all inRange = true := by
  unfold namedL
  split
  · exact asciiRows.range
  · split
    · exact greekRows.range
    · split
      · exact cyrRows.range
      · rfl
theorem charOf_range {cur c ch : Int} (h : charOf cur c = some ch) : 0 ≤ ch ∧ ch ≤ 2147483647 := by
  unfold charOf at h
  split at h
  · rename_i x hx
    cases h
    have := inRange_all (namedL_range cur) (putAll_mem hx)
    exact ⟨this.2.2.1, this.2.2.2⟩
  · have := inRange_all charsRows.range (putAll_mem h)
    exact ⟨this.2.2.1, this.2.2.2⟩
theorem markV_range (c : Int) : 0 ≤ markV c ∧ markV c ≤ 2147483647 := by
  unfold markV
  cases h : putAll marksL c with
  | none => simp
  | some x =>
    have := inRange_all marksRows.range (putAll_mem h)
    exact ⟨this.2.2.1, this.2.2.2⟩
end Go.Proofs.YtjndekmpnihamaaDoor
