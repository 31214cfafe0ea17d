/-
  The encoder's state in memory, and how its writes change it.
-/
import Derived.Test.YtjndekmpnihamaaDoorMDecR
import Derived.Test.YtjndekmpnihamaaDoorMEncM
namespace Go.Proofs.YtjndekmpnihamaaDoor
open Go.RowKit Go.Shelf
set_option linter.unusedVariables false

structure EK where
  B : Nat
  b : Nat
  ms : Nat
  mc : Nat
  mm : Nat

abbrev TE : TypeId := 56
def ERow (K : EK) (p v : Value) (held cur : UInt8) (cm : Value) : Array Value := #[p, v, .int .u8 (held.toNat : Int), .int .u8 (cur.toNat : Int), .map (some K.ms), .map (some K.mc), .map (some K.mm), cm]

/-- Block m has the codes of the set with a name. -/
def IsCodes (w : World) (m : Nat) (k : Int) : Prop := MapF (encInt .u8) .i32 21 w m 200 (putAllC (namedL k))
structure CodesAt (w : World) (B ms n : Nat) (f : Int → Option (Option Nat)) : Prop where
  map : MapF encRef .u8 5 w ms n f
  base : B ≤ ms
  each : ∀ k r, wfB k → f k = some r → ∃ m, r = some m ∧ isName k ∧ IsCodes w m k ∧ m ≠ ms
/-- The table of composed characters: not yet made, or made. -/
def CompAt (K : EK) (cm : Value) (w : World) : Prop := cm = .map none ∨ ∃ m, cm = .map (some m) ∧ m ≠ K.ms ∧ MapF encParts .i32 21 w m 500 compC

structure ESt (K : EK) (s : EM) (w : World) : Prop where
  row : ∃ p v cm, BuildIn TE K.B K.b 0 (Lib.byteCells s.out) (ERow K p v s.held s.cur cm) w ∧ CompAt K cm w
  sets : ∃ f n, n ≤ cntS f ∧ CodesAt w K.B K.ms n f
  chars : MapF (encInt .u8) .i32 21 w K.mc 200 charC
  marks : MapF (encInt .u8) .i32 21 w K.mm 200 markC
  nec : K.mc ≠ K.ms
  nem : K.mm ≠ K.ms
  name : isName (s.cur.toNat : Int)

theorem CodesAt.mk' {w w' : World} {B ms n : Nat} {f : Int → Option (Option Nat)} (h : CodesAt w B ms n f) (hk : MapsKept w w') : CodesAt w' B ms n f :=
  ⟨h.map.mk' hk, h.base, fun k r hw hf => by obtain ⟨m, h1, h2, h3, h4⟩ := h.each k r hw hf; exact ⟨m, h1, h2, MapF.mk' h3 hk, h4⟩⟩
theorem CompAt.mk' {K : EK} {cm : Value} {w w' : World} (h : CompAt K cm w) (hk : MapsKept w w') : CompAt K cm w' := by
  rcases h with h | ⟨m, h1, h2, h3⟩
  · exact .inl h
  · exact .inr ⟨m, h1, h2, h3.mk' hk⟩

/-- Rows of cells that are no bytes are as they were, but for the encoder's. -/
def CK (K : EK) (w w' : World) : Prop := ∀ (g : Nat) (cs : Array Value) (T : TypeId) (fz : Nat × Nat), w.heap[g]? = some (Obj.cells cs T fz) → T ≠ TY → g ≠ K.b → w'.heap[g]? = some (Obj.cells cs T fz)
/-- What lay below the encoder's memory is as it was, and so are the rows of cells beside it. -/
structure EB (K : EK) (w w' : World) : Prop where
  below : Below K.B w w'
  ck : CK K w w'
theorem EB.refl (K : EK) (w : World) : EB K w w := ⟨Below.refl _ _, fun _ _ _ _ h _ _ => h⟩
theorem EB.trans {K : EK} {a b c : World} (h : EB K a b) (k : EB K b c) : EB K a c := ⟨h.below.trans k.below, fun g cs T fz h1 h2 h3 => k.ck g cs T fz (h.ck g cs T fz h1 h2 h3) h2 h3⟩
theorem EB.drew {K : EK} {a b : World} (h : EB K a b) : EB K a b.drew := ⟨h.below.drew, h.ck⟩
theorem EB.fresh {K : EK} {a b : World} (hB : K.B ≤ a.heap.size) (h : Below a.heap.size a b) : EB K a b := ⟨h.mono hB, fun g _ _ _ h1 _ _ => (h.block g (lt_at h1)).trans h1⟩
theorem EB.alloc {K : EK} {a b : World} (h : EB K a b) (hB : K.B ≤ b.heap.size) (o : Obj) : EB K a (b.alloc o) := h.trans (EB.fresh hB ((Below.refl _ b).alloc (Nat.le_refl _) o))
theorem EB.set {K : EK} (w : World) (hB : K.B ≤ K.b) (o : Nat) (v : Value) : EB K w (w.setCell ⟨K.b, o, none⟩ v) :=
  ⟨(Below.refl _ _).setCell (p := ⟨K.b, o, none⟩) hB _, fun g _ _ _ h1 _ h3 => (Below.heap_setCell _ _ _ _ h3).trans h1⟩
theorem EB.map {K : EK} {w w' : World} {m : Nat} {es : Array MapEntry} {ck : Nat} (hg : w.grownBy w' (some m)) (hm : w.heap[m]? = some (.map es ck)) (hb : Below K.B w w') : EB K w w' :=
  ⟨hb, fun g _ _ _ h1 _ _ => (hg.block g (lt_at h1) (fun e => by rw [Option.some.inj e, hm] at h1; cases h1)).trans h1⟩
theorem EB.wrote {K : EK} {w w' : World} {bs : List Value} {cs : Array Value} (h : Wrote TE K.B K.b 0 bs cs w w') : EB K w w' :=
  ⟨h.below, fun g _ _ _ h1 h2 h3 => h.kept g _ h1 (by simpa using h3) (fun _ _ e => h2 (by cases e; rfl))⟩

/-- A state with another row of cells; the maps are as they were. -/
theorem ESt.turn {K : EK} {s s' : EM} {w w' : World} (h : ESt K s w) (hk : MapsKept w w') (hr : ∃ p v cm, BuildIn TE K.B K.b 0 (Lib.byteCells s'.out) (ERow K p v s'.held s'.cur cm) w' ∧ CompAt K cm w') (hn : isName (s'.cur.toNat : Int)) : ESt K s' w' := by
  obtain ⟨f, n, hn', hs⟩ := h.sets
  exact ⟨hr, ⟨f, n, hn', hs.mk' hk⟩, h.chars.mk' hk, h.marks.mk' hk, h.nec, h.nem, hn⟩
theorem ESt.below {K : EK} {s : EM} {w w' : World} (h : ESt K s w) (hb : Below w.heap.size w w') : ESt K s w' := by
  obtain ⟨p, v, cm, hr, hc⟩ := h.row
  have hk := mapsKept_below hb
  exact h.turn hk ⟨p, v, cm, hr.below hb, hc.mk' hk⟩ h.name
theorem ESt.drew {K : EK} {s : EM} {w : World} (h : ESt K s w) : ESt K s w.drew := h.below ((Below.refl _ _).drew)
theorem ESt.base {K : EK} {s : EM} {w : World} (h : ESt K s w) : K.B ≤ K.b ∧ K.b < w.heap.size := by
  obtain ⟨p, v, cm, hr, _⟩ := h.row; exact ⟨hr.base, lt_at hr.heap⟩
theorem ESt.cells {K : EK} {s : EM} {w : World} (h : ESt K s w) :
    w.cell? ⟨K.b, 2, none⟩ = some (.int .u8 (s.held.toNat : Int)) ∧ w.cell? ⟨K.b, 3, none⟩ = some (.int .u8 (s.cur.toNat : Int)) ∧ w.cell? ⟨K.b, 4, none⟩ = some (.map (some K.ms)) ∧ w.cell? ⟨K.b, 5, none⟩ = some (.map (some K.mc)) ∧ w.cell? ⟨K.b, 6, none⟩ = some (.map (some K.mm)) := by
  obtain ⟨p, v, cm, hr, _⟩ := h.row
  refine ⟨?_, ?_, ?_, ?_, ?_⟩ <;> (rw [cell_at hr.heap]; rfl)
theorem ESt.frozen {K : EK} {s : EM} {w : World} (h : ESt K s w) (o : Nat) : w.frozen? ⟨K.b, o, none⟩ = false := by
  obtain ⟨p, v, cm, hr, _⟩ := h.row; exact Lib.frozen_of_heap hr.heap o

/-- Behind a write to the builder. -/
theorem ESt.wrote {K : EK} {s : EM} {p v cm : Value} {bs : List Value} {out' : List UInt8} {w w' : World} (h : ESt K s w) (hr : BuildIn TE K.B K.b 0 (Lib.byteCells s.out) (ERow K p v s.held s.cur cm) w) (hc : CompAt K cm w)
    (hw : Wrote TE K.B K.b 0 bs (ERow K p v s.held s.cur cm) w w') (he : bs = Lib.byteCells out') : ESt K ⟨out', s.held, s.cur⟩ w' ∧ EB K w w' := by
  subst he
  have hk := mapsKept_others hw.kept hr.heap
  obtain ⟨v', hv'⟩ := hw.ex
  exact ⟨h.turn (s' := ⟨out', s.held, s.cur⟩) hk ⟨_, v', cm, hv', hc.mk' hk⟩ h.name, EB.wrote hw⟩
theorem ebyte_c (K : EK) (s : EM) (x : UInt8) (w : World) (h : ESt K s w) (hlen : s.out.length + 1 ≤ 140737488355328) :
    Calls Tryd.prog 46 #[.pointer (some ⟨K.b, 0, none⟩), .int .u8 (x.toNat : Int)] w fun e w' => e = .returned .nilIface ∧ ESt K ⟨s.out ++ [x], s.held, s.cur⟩ w' ∧ EB K w w' := by
  obtain ⟨p, v, cm, hr, hc⟩ := h.row
  refine (writeByte_c TE 8 K.B K.b 0 _ _ _ w roomEnc rfl hr (by rw [Lib.byteCells_length]; exact hlen)).mono ?_
  rintro e w' ⟨he, hw⟩
  obtain ⟨x1, x2⟩ := h.wrote hr hc hw (out' := s.out ++ [x]) (by rw [Lib.byteCells_append]; rfl)
  exact ⟨he, x1, x2⟩
theorem estring_c (K : EK) (s : EM) (l : List UInt8) (w : World) (h : ESt K s w) (hlen : s.out.length + l.length ≤ 140737488355328) :
    Calls Tryd.prog 47 #[.pointer (some ⟨K.b, 0, none⟩), str l] w fun e w' => e = .returned (.tuple #[.int .i64 (l.length : Int), .nilIface]) ∧ ESt K ⟨s.out ++ l, s.held, s.cur⟩ w' ∧ EB K w w' := by
  obtain ⟨p, v, cm, hr, hc⟩ := h.row
  have hsz := size_str l
  refine (writeString_c TE 8 K.B K.b 0 _ _ ⟨l.toArray⟩ w roomEnc rfl hr (by rw [Lib.byteCells_length, hsz]; exact hlen)).mono ?_
  rintro e w' ⟨he, hw⟩
  obtain ⟨x1, x2⟩ := h.wrote hr hc hw (out' := s.out ++ l) (by rw [Lib.byteCells_append, Lib.strCells_eq])
  exact ⟨by rw [he, hsz], x1, x2⟩

/-- Behind a store into the held byte, the current name, the table. -/
theorem ESt.setHeld {K : EK} {s : EM} {w : World} (h : ESt K s w) (x : UInt8) :
    ESt K ⟨s.out, x, s.cur⟩ (w.setCell ⟨K.b, 2, none⟩ (.int .u8 (x.toNat : Int))) ∧ EB K w (w.setCell ⟨K.b, 2, none⟩ (.int .u8 (x.toNat : Int))) := by
  obtain ⟨p, v, cm, hr, hc⟩ := h.row
  have hk := mapsKept_set (o := 2) (v := .int .u8 (x.toNat : Int)) hr.heap
  obtain ⟨v1, hv1, hown⟩ := hr.buf
  exact ⟨h.turn (s' := ⟨s.out, x, s.cur⟩) hk ⟨p, v, cm, ⟨hr.base, set_at hr.heap _ _, hr.addr, v1, hv1, hown.kept (grown_set _ _ _ _) (.inr (Lib.ownBlock_ne hown hr.heap (by decide)))⟩, hc.mk' hk⟩ h.name,
    EB.set w hr.base 2 _⟩
theorem ESt.setCur {K : EK} {s : EM} {w : World} (h : ESt K s w) (x : UInt8) (hn : isName (x.toNat : Int)) :
    ESt K ⟨s.out, s.held, x⟩ (w.setCell ⟨K.b, 3, none⟩ (.int .u8 (x.toNat : Int))) ∧ EB K w (w.setCell ⟨K.b, 3, none⟩ (.int .u8 (x.toNat : Int))) := by
  obtain ⟨p, v, cm, hr, hc⟩ := h.row
  have hk := mapsKept_set (o := 3) (v := .int .u8 (x.toNat : Int)) hr.heap
  obtain ⟨v1, hv1, hown⟩ := hr.buf
  exact ⟨h.turn (s' := ⟨s.out, s.held, x⟩) hk ⟨p, v, cm, ⟨hr.base, set_at hr.heap _ _, hr.addr, v1, hv1, hown.kept (grown_set _ _ _ _) (.inr (Lib.ownBlock_ne hown hr.heap (by decide)))⟩, hc.mk' hk⟩ hn,
    EB.set w hr.base 3 _⟩
theorem ESt.setComp {K : EK} {s : EM} {w : World} (h : ESt K s w) (c2 : Value) (hc2 : CompAt K c2 w) :
    ESt K s (w.setCell ⟨K.b, 7, none⟩ c2) ∧ EB K w (w.setCell ⟨K.b, 7, none⟩ c2) ∧ MapsKept w (w.setCell ⟨K.b, 7, none⟩ c2) := by
  obtain ⟨p, v, cm, hr, hc⟩ := h.row
  have hk := mapsKept_set (o := 7) (v := c2) hr.heap
  obtain ⟨v1, hv1, hown⟩ := hr.buf
  exact ⟨h.turn hk ⟨p, v, c2, ⟨hr.base, set_at hr.heap _ _, hr.addr, v1, hv1, hown.kept (grown_set _ _ _ _) (.inr (Lib.ownBlock_ne hown hr.heap (by decide)))⟩, hc2.mk' hk⟩ h.name,
    EB.set w hr.base 7 _, hk⟩
end Go.Proofs.YtjndekmpnihamaaDoor
