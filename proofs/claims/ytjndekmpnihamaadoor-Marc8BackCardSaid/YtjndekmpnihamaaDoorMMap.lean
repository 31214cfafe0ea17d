/-
  Maps as functions: a block that is a map with integer keys, and what it holds at each key.
-/
import Derived.Maps.OwnSet
import Derived.Maps.Views
import Derived.Lib.OthersKept
import Derived.Lib.Hide
import Derived.WalkKit
import Derived.Test.YtjndekmpnihamaaDoorMBuild
namespace Go.Proofs.YtjndekmpnihamaaDoor
open Go.RowKit Go.Shelf Go.Maps Go.ChangeMaps

/-- How the elements of a map are values and data. -/
structure Enc (α : Type) where
  val : α → Value
  dat : α → DataW Unit
  zero : α
  val_inj : ∀ {x y}, val x = val y → x = y
  dat_inj : ∀ {x y}, dat x = dat y → x = y

open Classical in
noncomputable def Enc.read {α : Type} (E : Enc α) (v : Value) : Option (DataW Unit × List MemPlace) :=
  if h : ∃ x, v = E.val x then some (E.dat h.choose, []) else none
theorem Enc.read_mk {α : Type} (E : Enc α) (x : α) : E.read (E.val x) = some (E.dat x, []) := by
  have h : ∃ y, E.val x = E.val y := ⟨x, rfl⟩
  unfold Enc.read
  rw [dif_pos h, E.val_inj h.choose_spec.symm]
theorem Enc.read_inv {α : Type} (E : Enc α) {v : Value} {z : DataW Unit × List MemPlace} (h : E.read v = some z) : ∃ x, v = E.val x ∧ z = (E.dat x, []) := by
  unfold Enc.read at h
  split at h
  · rename_i hx
    exact ⟨hx.choose, hx.choose_spec, by simpa using h.symm⟩
  · cases h

def encInt (q : IntKind) : Enc Int := ⟨fun c => .int q c, fun c => .lit (.int q c), 0, fun h => by simpa using h, fun h => by simpa using h⟩
def encRef : Enc (Option Nat) := ⟨fun b => .map b, fun | none => .lit (.bool true) | some b => .lit (.int .u64 b), none, fun h => by simpa using h, fun {x y} h => by
  cases x <;> cases y <;> simp at h ⊢
  omega⟩
def encParts : Enc (Int × Int) := ⟨fun p => .agg #[.int .i32 p.1, .int .i32 p.2], fun p => .agg [.lit (.int .i32 p.1), .lit (.int .i32 p.2)], (0, 0), fun h => by simpa [Prod.ext_iff] using h, fun h => by simpa [Prod.ext_iff] using h⟩

/-- Block b is a map of at most n entries, with keys of kind q and type K, that holds m. -/
def MapF {α : Type} (E : Enc α) (q : IntKind) (K : TypeId) (w : World) (b n : Nat) (m : Int → Option α) : Prop :=
  ∃ D : DataW Unit, w.ownsMap Tryd.prog K E.read b n D ∧ ∀ k, (Lit.int q k).wf = true → Maps.has D (.int q k) = (m k).isSome ∧ ∀ z, D.atKey (.int q k) z = match m k with | some x => E.dat x | none => z

section
variable {α : Type} {E : Enc α} {q : IntKind} {K : TypeId} {w w' : World} {b n : Nat} {m : Int → Option α}

theorem MapF.lt (h : MapF E q K w b n m) : b < w.heap.size := by obtain ⟨D, h, _⟩ := h; exact h.lt
theorem MapF.obj (h : MapF E q K w b n m) : ∃ es ck, w.heap[b]? = some (.map es ck) := by obtain ⟨D, ⟨es, ck, h, _⟩, _⟩ := h; exact ⟨es, ck, h⟩
theorem MapF.same (h : MapF E q K w b n m) (hb : w'.heap[b]? = w.heap[b]?) : MapF E q K w' b n m := by
  obtain ⟨D, ⟨es, ck, h1, h2⟩, h3⟩ := h
  exact ⟨D, ⟨es, ck, hb.trans h1, h2⟩, h3⟩
theorem MapF.kept {row : Option Nat} (h : MapF E q K w b n m) (hg : w.grownBy w' row) (hne : some b ≠ row) : MapF E q K w' b n m := h.same (hg.block b h.lt hne)
theorem MapF.below {B : Nat} (h : MapF E q K w b n m) (hB : Below B w w') (hb : b < B) : MapF E q K w' b n m := h.same (hB.block b hb)
theorem MapF.alloc (h : MapF E q K w b n m) (o : Obj) : MapF E q K (w.alloc o) b n m := h.kept (World.grownBy_alloc w o none) (by simp)
theorem MapF.others {e : TypeId} {b' : Nat} (h : MapF E q K w b n m) (hk : Lib.OthersKept e (some b') w w') (hne : b ≠ b') : MapF E q K w' b n m := by
  obtain ⟨es, ck, ho⟩ := h.obj
  exact h.same ((hk b _ ho (by simpa using hne) (fun _ _ e => by cases e)).trans ho.symm)
theorem MapF.more (h : MapF E q K w b n m) {n' : Nat} (hn : n ≤ n') : MapF E q K w b n' m := by
  obtain ⟨D, h1, h2⟩ := h; exact ⟨D, h1.mono hn, h2⟩
theorem MapF.made (E : Enc α) (q : IntKind) (K : TypeId) (w : World) : MapF E q K (w.alloc (.map #[] 0)) w.heap.size 0 (fun _ => none) :=
  ⟨.map [], World.ownsMap_made w _ _ _, fun _ _ => ⟨rfl, fun _ => rfl⟩⟩
theorem MapF.congr {m' : Int → Option α} (h : MapF E q K w b n m) (he : ∀ k, (Lit.int q k).wf = true → m' k = m k) : MapF E q K w b n m' := by
  obtain ⟨D, h1, h2⟩ := h; exact ⟨D, h1, fun k hk => by rw [he k hk]; exact h2 k hk⟩

variable {t e : TypeId}
theorem MapF.look (h : MapF E q K w b n m) (hK : Tryd.prog.underlying K = some (.int q)) (ht : Tryd.prog.underlying t = some (.map K e)) (hz : ∀ w, (zeroValue e).run Tryd.prog w = .ok (E.val E.zero) w) (k : Int) (hk : (Lit.int q k).wf = true) :
    (Instr.lookup t (.map (some b)) (.int q k) false).run Tryd.prog w = .ok (E.val ((m k).getD E.zero)) w := by
  obtain ⟨D, h1, h2⟩ := h
  obtain ⟨v, ps, hrun, hv⟩ := h1.lookup (int_keyed hK) ht (hz w) (E.read_mk E.zero) (keyOf_int_mk hK hk)
  obtain ⟨x, rfl, hx⟩ := E.read_inv hv
  rw [hrun]
  have := (h2 k hk).2 (E.dat E.zero)
  rw [this] at hx
  have hx1 := congrArg Prod.fst hx
  cases hm : m k with
  | none => rw [hm] at hx1; have hx1 := E.dat_inj hx1; simp [hx1]
  | some y => rw [hm] at hx1; have hx1 := E.dat_inj hx1; simp [hx1]
theorem MapF.lookOk (h : MapF E q K w b n m) (hK : Tryd.prog.underlying K = some (.int q)) (ht : Tryd.prog.underlying t = some (.map K e)) (hz : ∀ w, (zeroValue e).run Tryd.prog w = .ok (E.val E.zero) w) (k : Int) (hk : (Lit.int q k).wf = true) :
    (Instr.lookup t (.map (some b)) (.int q k) true).run Tryd.prog w = .ok (.tuple #[E.val ((m k).getD E.zero), .bool (m k).isSome]) w := by
  obtain ⟨D, h1, h2⟩ := h
  obtain ⟨v, ps, hrun, hv⟩ := h1.look_ok (int_keyed hK) ht (hz w) (E.read_mk E.zero) (keyOf_int_mk hK hk)
  obtain ⟨x, rfl, hx⟩ := E.read_inv hv
  rw [hrun, (h2 k hk).1]
  have := (h2 k hk).2 (E.dat E.zero)
  rw [this] at hx
  have hx1 := congrArg Prod.fst hx
  cases hm : m k with
  | none => rw [hm] at hx1; have hx1 := E.dat_inj hx1; simp [hx1]
  | some y => rw [hm] at hx1; have hx1 := E.dat_inj hx1; simp [hx1]

/-- The function with one more value. -/
def put (m : Int → Option α) (k : Int) (x : α) : Int → Option α := fun j => if j = k then some x else m j

theorem MapF.update (h : MapF E q K w b n m) (hK : Tryd.prog.underlying K = some (.int q)) (ht : Tryd.prog.underlying t = some (.map K e)) (hn : n < maxLen) (k : Int) (hk : (Lit.int q k).wf = true) (x : α) :
    ∃ w', (Instr.mapUpdate t (.map (some b)) (.int q k) (E.val x)).run Tryd.prog w = .ok () w' ∧ MapF E q K w' b (n + 1) (put m k x) ∧ w.grownBy w' (some b) := by
  obtain ⟨D, h1, h2⟩ := h
  have hkey := keyOf_int_mk (P := Tryd.prog) hK hk
  obtain ⟨w', hrun, hown, hg⟩ := h1.update (int_keyed hK) ht hn hkey (E.read_mk x)
  refine ⟨w', hrun, ⟨_, hown, fun j hj => ?_⟩, hg⟩
  have hkl := (int_keyed hK).key hkey
  by_cases e : j = k
  · subst e
    refine ⟨by rw [has_put_same h1.isMap hkl]; simp [put], fun z => ?_⟩
    rw [atKey_put_same h1.isMap hkl]; simp [put]
  · have hne : (Lit.int q j) ≠ (Lit.int q k) := by simpa using e
    refine ⟨by rw [has_put_other hne]; simp only [put, if_neg e]; exact (h2 j hj).1, fun z => ?_⟩
    rw [atKey_put_other hne]; simp only [put, if_neg e]; exact (h2 j hj).2 z
end
end Go.Proofs.YtjndekmpnihamaaDoor
