/-
  Maps with string keys as functions: a block that is a map, and what it holds at each key.
-/
import Derived.Maps.OwnSet
import Derived.Maps.Views
import Derived.StringKeys
import Derived.Test.YtfccpepmjklodaaSBase
namespace Go.Proofs.Ytfccpepmjklodaa
open Go.RowKit Go.Shelf Go.Maps Go.ChangeMaps Go.WideMaps
set_option linter.unusedVariables false

/-- How the elements of a map are values and data. -/
structure Enc (α : Type) where
  val : α → Value
  dat : α → DataW Unit
  zero : α
  val_inj : ∀ {x y}, val x = val y → x = y
  dat_inj : ∀ {x y}, dat x = dat y → x = y

open Classical in
noncomputable def Enc.read {α : Type} (E : Enc α) (v : Value) : Option (DataW Unit × List MemPlace) :=
  if h : ∃ x, v = E.val x then some (E.dat h.choose, []) else none
theorem Enc.read_mk {α : Type} (E : Enc α) (x : α) : E.read (E.val x) = some (E.dat x, []) := by
  have h : ∃ y, E.val x = E.val y := ⟨x, rfl⟩
  unfold Enc.read
  rw [dif_pos h, E.val_inj h.choose_spec.symm]
theorem Enc.read_inv {α : Type} (E : Enc α) {v : Value} {z : DataW Unit × List MemPlace} (h : E.read v = some z) : ∃ x, v = E.val x ∧ z = (E.dat x, []) := by
  unfold Enc.read at h
  split at h
  · rename_i hx
    exact ⟨hx.choose, hx.choose_spec, by simpa using h.symm⟩
  · cases h

def encBool : Enc Bool := ⟨fun c => .bool c, fun c => .lit (.bool c), false, fun h => by simpa using h, fun h => by simpa using h⟩
/-- A pointer to an element of a row of elements of seven cells, or none. -/
def encRow (rb ro : Nat) : Enc (Option Nat) := ⟨fun | none => .pointer none | some i => .pointer (some ⟨rb, ro + i * 7, none⟩), fun | none => .lit (.bool true) | some b => .lit (.int .u64 b), none, fun {x y} h => by
  cases x <;> cases y <;> simp at h ⊢
  omega, fun {x y} h => by
  cases x <;> cases y <;> simp at h ⊢
  omega⟩

/-- Block b is a map of at most n entries, with strings of type K for keys, that holds m. -/
def MapS {α : Type} (E : Enc α) (K : TypeId) (w : World) (b n : Nat) (m : List UInt8 → Option α) : Prop :=
  ∃ D : DataW Unit, w.ownsMap Try.prog K E.read b n D ∧ ∀ k : List UInt8, k.length ≤ maxLen → Maps.has D (.string k) = (m k).isSome ∧ ∀ z, D.atKey (.string k) z = match m k with | some x => E.dat x | none => z

section
variable {α : Type} {E : Enc α} {K : TypeId} {w w' : World} {b n : Nat} {m : List UInt8 → Option α}

theorem MapS.lt (h : MapS E K w b n m) : b < w.heap.size := by obtain ⟨D, h, _⟩ := h; exact h.lt
theorem MapS.same (h : MapS E K w b n m) (hb : w'.heap[b]? = w.heap[b]?) : MapS E K w' b n m := by
  obtain ⟨D, ⟨es, ck, h1, h2⟩, h3⟩ := h
  exact ⟨D, ⟨es, ck, hb.trans h1, h2⟩, h3⟩
theorem MapS.kept {row : Option Nat} (h : MapS E K w b n m) (hg : w.grownBy w' row) (hne : some b ≠ row) : MapS E K w' b n m := h.same (hg.block b h.lt hne)
theorem MapS.below {B : Nat} (h : MapS E K w b n m) (hB : Below B w w') (hb : b < B) : MapS E K w' b n m := h.same (hB.block b hb)
theorem MapS.alloc (h : MapS E K w b n m) (o : Obj) : MapS E K (w.alloc o) b n m := h.kept (World.grownBy_alloc w o none) (by simp)
theorem MapS.more (h : MapS E K w b n m) {n' : Nat} (hn : n ≤ n') : MapS E K w b n' m := by
  obtain ⟨D, h1, h2⟩ := h; exact ⟨D, h1.mono hn, h2⟩
theorem MapS.made (E : Enc α) (K : TypeId) (w : World) : MapS E K (w.alloc (.map #[] 0)) w.heap.size 0 (fun _ => none) :=
  ⟨.map [], World.ownsMap_made w _ _ _, fun _ _ => ⟨rfl, fun _ => rfl⟩⟩
theorem key_str (hK : Try.prog.underlying K = some .string) (k : List UInt8) (hk : k.length ≤ maxLen) : keyOf Try.prog K (str k) = some (.string k) := by
  have := keyOf_string_mk (P := Try.prog) hK (s := ⟨k.toArray⟩) (by rw [size_str]; exact hk)
  simpa using this
variable {t e : TypeId}
theorem MapS.look (h : MapS E K w b n m) (hK : Try.prog.underlying K = some .string) (ht : Try.prog.underlying t = some (.map K e)) (hz : ∀ w, (zeroValue e).run Try.prog w = .ok (E.val E.zero) w) (k : List UInt8) (hk : k.length ≤ maxLen) :
    (Instr.lookup t (.map (some b)) (str k) false).run Try.prog w = .ok (E.val ((m k).getD E.zero)) w := by
  obtain ⟨D, h1, h2⟩ := h
  obtain ⟨v, ps, hrun, hv⟩ := h1.lookup (string_keyed hK) ht (hz w) (E.read_mk E.zero) (key_str hK k hk)
  obtain ⟨x, rfl, hx⟩ := E.read_inv hv
  rw [hrun]
  have := (h2 k hk).2 (E.dat E.zero)
  rw [this] at hx
  have hx1 := congrArg Prod.fst hx
  cases hm : m k with
  | none => rw [hm] at hx1; have hx1 := E.dat_inj hx1; simp [hx1]
  | some y => rw [hm] at hx1; have hx1 := E.dat_inj hx1; simp [hx1]
theorem MapS.lookOk (h : MapS E K w b n m) (hK : Try.prog.underlying K = some .string) (ht : Try.prog.underlying t = some (.map K e)) (hz : ∀ w, (zeroValue e).run Try.prog w = .ok (E.val E.zero) w) (k : List UInt8) (hk : k.length ≤ maxLen) :
    (Instr.lookup t (.map (some b)) (str k) true).run Try.prog w = .ok (.tuple #[E.val ((m k).getD E.zero), .bool (m k).isSome]) w := by
  obtain ⟨D, h1, h2⟩ := h
  obtain ⟨v, ps, hrun, hv⟩ := h1.look_ok (string_keyed hK) ht (hz w) (E.read_mk E.zero) (key_str hK k hk)
  obtain ⟨x, rfl, hx⟩ := E.read_inv hv
  rw [hrun, (h2 k hk).1]
  have := (h2 k hk).2 (E.dat E.zero)
  rw [this] at hx
  have hx1 := congrArg Prod.fst hx
  cases hm : m k with
  | none => rw [hm] at hx1; have hx1 := E.dat_inj hx1; simp [hx1]
  | some y => rw [hm] at hx1; have hx1 := E.dat_inj hx1; simp [hx1]
/-- The function with one more value. -/
def putS (m : List UInt8 → Option α) (k : List UInt8) (x : α) : List UInt8 → Option α := fun j => if j = k then some x else m j
theorem MapS.update (h : MapS E K w b n m) (hK : Try.prog.underlying K = some .string) (ht : Try.prog.underlying t = some (.map K e)) (hn : n < maxLen) (k : List UInt8) (hk : k.length ≤ maxLen) (x : α) :
    ∃ w', (Instr.mapUpdate t (.map (some b)) (str k) (E.val x)).run Try.prog w = .ok () w' ∧ MapS E K w' b (n + 1) (putS m k x) ∧ w.grownBy w' (some b) := by
  obtain ⟨D, h1, h2⟩ := h
  have hkey := key_str hK k hk
  obtain ⟨w', hrun, hown, hg⟩ := h1.update (string_keyed hK) ht hn hkey (E.read_mk x)
  refine ⟨w', hrun, ⟨_, hown, fun j hj => ?_⟩, hg⟩
  have hkl := (string_keyed hK).key hkey
  by_cases e : j = k
  · subst e
    refine ⟨by rw [has_put_same h1.isMap hkl]; simp [putS], fun z => ?_⟩
    rw [atKey_put_same h1.isMap hkl]; simp [putS]
  · have hne : (Lit.string j) ≠ (Lit.string k) := by simpa using e
    refine ⟨by rw [has_put_other hne]; simp only [putS, if_neg e]; exact (h2 j hj).1, fun z => ?_⟩
    rw [atKey_put_other hne]; simp only [putS, if_neg e]; exact (h2 j hj).2 z
end
end Go.Proofs.Ytfccpepmjklodaa
