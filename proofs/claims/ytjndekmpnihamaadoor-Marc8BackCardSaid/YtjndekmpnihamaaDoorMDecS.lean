/-
  The decoder's state in memory, and how its writes change it.
-/
import Derived.Test.YtjndekmpnihamaaDoorMTab
import Derived.WalkSmall
namespace Go.Proofs.YtjndekmpnihamaaDoor
open Go.RowKit Go.Shelf
set_option linter.unusedVariables false

/-- Where a decoder's parts lie, and what it reads. -/
structure DK where
  B : Nat
  b : Nat
  ms : Nat
  mc : Nat
  mm : Nat
  text : List UInt8

abbrev TD : TypeId := 68
def DRow (K : DK) (at' : Nat) (p v cv : Value) : Array Value := #[str K.text, .int .i64 (at' : Int), p, v, cv, .map (some K.ms), .map (some K.mc), .map (some K.mm)]

/-- Block m is the set with a name. -/
def IsSet (w : World) (m : Nat) (k : Int) : Prop := MapF (encInt .i32) .u8 5 w m 200 (putAll (namedL k))
def wfB (k : Int) : Prop := (Lit.int .u8 k).wf = true

/-- How many of the three names a map of sets has. -/
def cntS {α : Type} (f : Int → Option α) : Nat := (if (f 66).isSome then 1 else 0) + (if (f 83).isSome then 1 else 0) + (if (f 78).isSome then 1 else 0)
theorem cntS_le {α : Type} (f : Int → Option α) : cntS f ≤ 3 := by
  unfold cntS; split <;> split <;> split <;> omega
theorem cntS_put {α : Type} {f : Int → Option α} {c : Int} (hc : isName c) (hf : f c = none) (x : α) : cntS (put f c x) = cntS f + 1 := by
  rcases hc with rfl | rfl | rfl <;> (unfold cntS put; simp [hf]; try omega)

structure SetsAt (w : World) (B ms n : Nat) (f : Int → Option (Option Nat)) : Prop where
  map : MapF encRef .u8 5 w ms n f
  base : B ≤ ms
  each : ∀ k r, wfB k → f k = some r → ∃ m, r = some m ∧ isName k ∧ IsSet w m k ∧ m ≠ ms

structure DSt (K : DK) (at' : Nat) (out : List UInt8) (cv : Value) (w : World) : Prop where
  row : ∃ p v, BuildIn TD K.B K.b 2 (Lib.byteCells out) (DRow K at' p v cv) w
  sets : ∃ f n, n ≤ cntS f ∧ SetsAt w K.B K.ms n f
  chars : MapF (encInt .i32) .u8 5 w K.mc 200 (putAll charsL)
  marks : MapF (encInt .i32) .u8 5 w K.mm 200 (putAll marksL)
  nec : K.mc ≠ K.ms
  nem : K.mm ≠ K.ms
/-- The current set. -/
structure DCur (K : DK) (cur : Int) (cv : Value) (w : World) : Prop where
  ex : ∃ m, cv = .map (some m) ∧ IsSet w m cur ∧ m ≠ K.ms

/-- Blocks that are maps are as they were. -/
def MapsKept (w w' : World) : Prop := ∀ (m : Nat) (es : Array MapEntry) (ck : Nat), w.heap[m]? = some (Obj.map es ck) → w'.heap[m]? = some (Obj.map es ck)
theorem MapF.mk' {α : Type} {E : Enc α} {q : IntKind} {K : TypeId} {w w' : World} {b n : Nat} {m : Int → Option α} (h : MapF E q K w b n m) (hk : MapsKept w w') : MapF E q K w' b n m := by
  obtain ⟨es, ck, ho⟩ := h.obj
  exact h.same ((hk b es ck ho).trans ho.symm)
theorem SetsAt.mk' {w w' : World} {B ms n : Nat} {f : Int → Option (Option Nat)} (h : SetsAt w B ms n f) (hk : MapsKept w w') : SetsAt w' B ms n f :=
  ⟨h.map.mk' hk, h.base, fun k r hw hf => by obtain ⟨m, h1, h2, h3, h4⟩ := h.each k r hw hf; exact ⟨m, h1, h2, MapF.mk' h3 hk, h4⟩⟩
theorem DCur.mk' {K : DK} {cur : Int} {cv : Value} {w w' : World} (h : DCur K cur cv w) (hk : MapsKept w w') : DCur K cur cv w' := by
  obtain ⟨m, h1, h2, h3⟩ := h.ex
  exact ⟨m, h1, MapF.mk' h2 hk, h3⟩
theorem mapsKept_others {e : TypeId} {b : Nat} {w w' : World} {cs : Array Value} {T : TypeId} {fz : Nat × Nat} (h : Lib.OthersKept e (some b) w w') (hb : w.heap[b]? = some (.cells cs T fz)) : MapsKept w w' := by
  intro m es ck hm
  refine h m _ hm (fun e => ?_) (fun _ _ e => by cases e)
  cases e
  rw [hb] at hm
  cases hm
theorem mapsKept_set {b o : Nat} {v : Value} {w : World} {cs : Array Value} {T : TypeId} {fz : Nat × Nat} (hb : w.heap[b]? = some (.cells cs T fz)) : MapsKept w (w.setCell ⟨b, o, none⟩ v) :=
  mapsKept_others (e := TY) (kept_of_grown (grown_set w b o v)) hb
theorem mapsKept_below {w w' : World} (h : Below w.heap.size w w') : MapsKept w w' := fun m es ck hm => (h.block m (lt_at hm)).trans hm

theorem grown_below {a b : World} (h : Below a.heap.size a b) (row : Option Nat) : a.grownBy b row := ⟨h.os, h.tape, h.output, h.size, fun i hi _ => h.block i hi⟩
theorem BuildIn.below {T : TypeId} {B b o : Nat} {bs : List Value} {cs : Array Value} {w w' : World} (h : BuildIn T B b o bs cs w) (hb : Below w.heap.size w w') : BuildIn T B b o bs cs w' := by
  obtain ⟨v, hv, hown⟩ := h.buf
  exact ⟨h.base, (hb.block b (lt_at h.heap)).trans h.heap, h.addr, v, hv, hown.kept (grown_below hb none) (by by_cases e : v.ownBlock = none; exact .inl e; exact .inr e)⟩
theorem BuildIn.mapped {T : TypeId} {B b o : Nat} {bs : List Value} {cs : Array Value} {w w' : World} {m : Nat} {es : Array MapEntry} {ck : Nat} (h : BuildIn T B b o bs cs w) (hg : w.grownBy w' (some m)) (hm : w.heap[m]? = some (.map es ck)) : BuildIn T B b o bs cs w' := by
  obtain ⟨v, hv, hown⟩ := h.buf
  have hne : b ≠ m := fun e => by subst e; have := h.heap; rw [hm] at this; cases this
  refine ⟨h.base, (hg.block b (lt_at h.heap) (by simpa using hne)).trans h.heap, h.addr, v, hv, hown.kept hg (.inr fun e => ?_)⟩
  obtain ⟨c, fz, hc⟩ := ownsRow_kind hown m e
  rw [hm] at hc
  cases hc

theorem DSt.heap {K : DK} {at' : Nat} {out : List UInt8} {cv : Value} {w : World} (h : DSt K at' out cv w) : ∃ p v, w.heap[K.b]? = some (.cells (DRow K at' p v cv) TD (0, 0)) := by
  obtain ⟨p, v, hr⟩ := h.row; exact ⟨p, v, hr.heap⟩
theorem DSt.base {K : DK} {at' : Nat} {out : List UInt8} {cv : Value} {w : World} (h : DSt K at' out cv w) : K.B ≤ K.b ∧ K.b < w.heap.size := by
  obtain ⟨p, v, hr⟩ := h.row; exact ⟨hr.base, lt_at hr.heap⟩
theorem DSt.cells {K : DK} {at' : Nat} {out : List UInt8} {cv : Value} {w : World} (h : DSt K at' out cv w) :
    w.cell? ⟨K.b, 0, none⟩ = some (str K.text) ∧ w.cell? ⟨K.b, 1, none⟩ = some (.int .i64 (at' : Int)) ∧ w.cell? ⟨K.b, 4, none⟩ = some cv ∧ w.cell? ⟨K.b, 5, none⟩ = some (.map (some K.ms)) ∧ w.cell? ⟨K.b, 6, none⟩ = some (.map (some K.mc)) ∧ w.cell? ⟨K.b, 7, none⟩ = some (.map (some K.mm)) := by
  obtain ⟨p, v, hb⟩ := h.heap
  refine ⟨?_, ?_, ?_, ?_, ?_, ?_⟩ <;> (rw [cell_at hb]; rfl)
theorem DSt.frozen {K : DK} {at' : Nat} {out : List UInt8} {cv : Value} {w : World} (h : DSt K at' out cv w) (o : Nat) : w.frozen? ⟨K.b, o, none⟩ = false := by
  obtain ⟨p, v, hb⟩ := h.heap; exact Lib.frozen_of_heap hb o

/-- Behind a write to the builder. -/
theorem DSt.wrote {K : DK} {at' : Nat} {out out' : List UInt8} {p v cv : Value} {bs : List Value} {w w' : World} (h : DSt K at' out cv w) (hb : w.heap[K.b]? = some (.cells (DRow K at' p v cv) TD (0, 0)))
    (hw : Wrote TD K.B K.b 2 bs (DRow K at' p v cv) w w') (he : bs = Lib.byteCells out') : DSt K at' out' cv w' ∧ MapsKept w w' ∧ Below K.B w w' := by
  subst he
  have hk := mapsKept_others hw.kept hb
  obtain ⟨v', hv'⟩ := hw.ex
  obtain ⟨f, n, hn, hs⟩ := h.sets
  exact ⟨⟨⟨_, v', hv'⟩, ⟨f, n, hn, hs.mk' hk⟩, h.chars.mk' hk, h.marks.mk' hk, h.nec, h.nem⟩, hk, hw.below⟩

/-- Behind a new place. -/
theorem DSt.setAt {K : DK} {at' a2 : Nat} {out : List UInt8} {cv : Value} {w : World} (h : DSt K at' out cv w) :
    DSt K a2 out cv (w.setCell ⟨K.b, 1, none⟩ (.int .i64 (a2 : Int))) ∧ MapsKept w (w.setCell ⟨K.b, 1, none⟩ (.int .i64 (a2 : Int))) ∧ Below K.B w (w.setCell ⟨K.b, 1, none⟩ (.int .i64 (a2 : Int))) := by
  obtain ⟨p, v, hr⟩ := h.row
  have hk := mapsKept_set (o := 1) (v := .int .i64 (a2 : Int)) hr.heap
  obtain ⟨f, n, hn, hs⟩ := h.sets
  obtain ⟨v1, hv1, hown⟩ := hr.buf
  refine ⟨⟨⟨p, v, ⟨hr.base, set_at hr.heap _ _, hr.addr, v1, hv1, hown.kept (grown_set _ _ _ _) (.inr (Lib.ownBlock_ne hown hr.heap (by decide)))⟩⟩, ⟨f, n, hn, hs.mk' hk⟩, h.chars.mk' hk, h.marks.mk' hk, h.nec, h.nem⟩, hk, ?_⟩
  exact (Below.refl _ _).setCell (p := ⟨K.b, 1, none⟩) hr.base _
/-- Behind a new current set. -/
theorem DSt.setCur {K : DK} {at' : Nat} {out : List UInt8} {cv : Value} {w : World} (h : DSt K at' out cv w) (c2 : Value) :
    DSt K at' out c2 (w.setCell ⟨K.b, 4, none⟩ c2) ∧ MapsKept w (w.setCell ⟨K.b, 4, none⟩ c2) ∧ Below K.B w (w.setCell ⟨K.b, 4, none⟩ c2) := by
  obtain ⟨p, v, hr⟩ := h.row
  have hk := mapsKept_set (o := 4) (v := c2) hr.heap
  obtain ⟨f, n, hn, hs⟩ := h.sets
  obtain ⟨v1, hv1, hown⟩ := hr.buf
  refine ⟨⟨⟨p, v, ⟨hr.base, set_at hr.heap _ _, hr.addr, v1, hv1, hown.kept (grown_set _ _ _ _) (.inr (Lib.ownBlock_ne hown hr.heap (by decide)))⟩⟩, ⟨f, n, hn, hs.mk' hk⟩, h.chars.mk' hk, h.marks.mk' hk, h.nec, h.nem⟩, hk, ?_⟩
  exact (Below.refl _ _).setCell (p := ⟨K.b, 4, none⟩) hr.base _
/-- Behind a call that only makes memory. -/
theorem DSt.below {K : DK} {at' : Nat} {out : List UInt8} {cv : Value} {w w' : World} (h : DSt K at' out cv w) (hb : Below w.heap.size w w') : DSt K at' out cv w' := by
  obtain ⟨p, v, hr⟩ := h.row
  have hk := mapsKept_below hb
  obtain ⟨f, n, hn, hs⟩ := h.sets
  exact ⟨⟨p, v, hr.below hb⟩, ⟨f, n, hn, hs.mk' hk⟩, h.chars.mk' hk, h.marks.mk' hk, h.nec, h.nem⟩

/-- What a conversion panics with. -/
def failV (at' kind : Int) : Value := .iface 43 (.agg #[.int .i64 at', .int .i64 kind])

set_option maxRecDepth 100000 in
set_option maxHeartbeats 400000 in
theorem fail_c (a k : Int) (w : World) : Calls Tryd.prog 28 #[.int .i64 a, .int .i64 k] w fun e w' => e = .panicked [{ v := failV a k, recovered := false }] ∧ w = w' := by
  go_enter Tryd.func28, Tryd.ntmps28
  go_wp2
  exact ⟨rfl, rfl, rfl⟩
end Go.Proofs.YtjndekmpnihamaaDoor
