/-
  A strings.Builder that lies as a field of a struct: copyCheck, WriteByte, WriteString, WriteRune, String.
-/
import Derived.Test.YtjndekmpnihamaaDoorMShelf
import Derived.Lib.OthersKept
import Derived.Lib.Builder
import Derived.Lib.Hide
import Derived.WalkKit
import Derived.WalkLawsBesides
import Derived.WalkSpells
import Derived.RegionTactic
import Derived.Laws.Externs
import Derived.Lib.AppendStr
import Derived.Maps.AppendAt
namespace Go.Proofs.YtjndekmpnihamaaDoor
open Go.RowKit Go.Shelf

abbrev TB : TypeId := 53
abbrev TY : TypeId := 5

/-- A block of type T has room for a builder at cell o. -/
structure Room (T : TypeId) (n o : Nat) : Prop where
  lies : liesAt Tryd.prog Tryd.prog.depth T (n / Tryd.prog.cellsOf T) o TB 1 = true
  le : o + 1 < n
  ne : T ≠ TY
theorem roomDec : Room 68 8 2 := ⟨by kernel_rfl, by decide, by decide⟩
theorem roomEnc : Room 56 8 0 := ⟨by kernel_rfl, by decide, by decide⟩

theorem infoByte : (Tryd.prog.info? 5).map (fun i => (i.zero, i.size, i.bytes)) = some (some (.int .u8 0), 1, 1) := by kernel_rfl
theorem sizeTB : (Tryd.prog.info? 53).map (fun i => i.size) = some 2 := by kernel_rfl

/-- Block b is a row cs of type T with a builder at o that holds the cells bs, in rows from B on. -/
structure BuildIn (T : TypeId) (B b o : Nat) (bs : List Value) (cs : Array Value) (w : World) : Prop where
  base : B ≤ b
  heap : w.heap[b]? = some (.cells cs T (0, 0))
  addr : cs[o]? = some (.pointer none) ∨ cs[o]? = some (.pointer (some ⟨b, o, none⟩))
  buf : ∃ v, cs[o + 1]? = some v ∧ w.ownsRow B TY 1 v bs.length bs

/-- The row behind a write: the builder's two cells are new, the others are as they were. -/
def wrote (cs : Array Value) (b o : Nat) (v : Value) : Array Value := (cs.setIfInBounds o (.pointer (some ⟨b, o, none⟩))).setIfInBounds (o + 1) v

theorem cell_at {w : World} {b : Nat} {cs : Array Value} {T : TypeId} (hb : w.heap[b]? = some (.cells cs T (0, 0))) (j : Nat) : w.cell? ⟨b, j, none⟩ = cs[j]? := Lib.cell_of_heap hb j
theorem lt_at {w : World} {b : Nat} {x : Obj} (hb : w.heap[b]? = some x) : b < w.heap.size := (Array.getElem?_eq_some_iff.1 hb).1
theorem set_at {w : World} {b : Nat} {cs : Array Value} {T : TypeId} (hb : w.heap[b]? = some (.cells cs T (0, 0))) (j : Nat) (v : Value) : (w.setCell ⟨b, j, none⟩ v).heap[b]? = some (.cells (cs.setIfInBounds j v) T (0, 0)) := by
  simp [World.setCell, Array.getElem?_modify, hb]
theorem grown_set (w : World) (b o : Nat) (v : Value) : w.grownBy (w.setCell ⟨b, o, none⟩ v) (some b) :=
  ⟨rfl, rfl, rfl, by simp [World.setCell], fun k _ hk => Below.heap_setCell _ _ _ _ (fun e => hk (by rw [e]))⟩
theorem set_same (cs : Array Value) (o : Nat) (v : Value) (h : cs[o]? = some v) : cs.setIfInBounds o v = cs := by
  apply Array.ext_getElem?
  intro i
  by_cases e : o = i
  · subst e
    have hlt : o < cs.size := (Array.getElem?_eq_some_iff.1 h).1
    simp [hlt] at h ⊢; exact h.symm
  · simp [Array.getElem?_setIfInBounds_ne e]

set_option maxHeartbeats 1000000 in
set_option maxRecDepth 100000 in
theorem copyCheck_used (b o : Nat) (w : World) (h0 : w.cell? ⟨b, o, none⟩ = some (.pointer (some ⟨b, o, none⟩))) :
    Calls Tryd.prog 54 #[.pointer (some ⟨b, o, none⟩)] w fun e w' => e = .returned (.tuple #[]) ∧ w = w' := by
  obtain ⟨j, hj, hjs⟩ := Option.map_eq_some_iff.1 sizeTB
  have hne := fun W => Lib.run_neq_ptr_same (P := Tryd.prog) W (⟨b, o, none⟩ : Addr) Tryd.underlying51 hj
  go_enter Tryd.func54, Tryd.ntmps54
  go_wp2
  go_end0
  exact ⟨rfl, rfl⟩

set_option maxHeartbeats 1000000 in
set_option maxRecDepth 100000 in
theorem copyCheck_fresh (T : TypeId) (n b o : Nat) (cs : Array Value) (w : World) (hR : Room T n o) (hn : cs.size = n) (hb : w.heap[b]? = some (.cells cs T (0, 0))) (h0' : cs[o]? = some (.pointer none)) :
    Calls Tryd.prog 54 #[.pointer (some ⟨b, o, none⟩)] w fun e w' => e = .returned (.tuple #[]) ∧ w.setCell ⟨b, o, none⟩ (.pointer (some ⟨b, o, none⟩)) = w' := by
  obtain ⟨j, hj, hjs⟩ := Option.map_eq_some_iff.1 sizeTB
  have h0 : w.cell? ⟨b, o, none⟩ = some (.pointer none) := (cell_at hb o).trans h0'
  have hfz : w.frozen? ⟨b, o, none⟩ = false := Lib.frozen_of_heap hb o
  have hsh : w.shape? b = some (T, n) := by simp [World.shape?, hb, hn]
  have h1 := Lib.run_to_unsafe (P := Tryd.prog) w ⟨b, o, none⟩ Tryd.underlying51 Tryd.underlying107 hj (by rw [hjs]; decide) hsh (show o < n by have := hR.le; omega)
  have h2 := Lib.run_from_unsafe (P := Tryd.prog) w ⟨b, o, none⟩ Tryd.underlying107 Tryd.underlying51 hj hsh hR.lies
  have H1 := Lib.hid h1
  have H2 := Lib.hid h2
  clear h1 h2 hsh hb h0' hn hjs
  go_enter Tryd.func54, Tryd.ntmps54
  go_wp2
  rw [H1.out]
  simp only [Result.andThen]
  rw [Oper.upon_value]
  go_wp2
  rw [run_callFunc_extern Tryd.func59 (by kernel_rfl) (by kernel_rfl) (by kernel_rfl) (e := Extern.AbiNoEscape.same) (by kernel_rfl)]
  rw [Lib.run_noEscape]
  simp only [Result.andThen]
  rw [Oper.upon_value]
  go_wp2
  rw [H2.out]
  simp only [Result.andThen]
  rw [Oper.upon_value]
  go_wp2
  go_end0
  exact ⟨rfl, rfl⟩

/-- copyCheck: behind it the builder holds its own address. -/
theorem copyCheck_c (T : TypeId) (n B b o : Nat) (bs : List Value) (cs : Array Value) (w : World) (hR : Room T n o) (hn : cs.size = n) (h : BuildIn T B b o bs cs w) :
    Calls Tryd.prog 54 #[.pointer (some ⟨b, o, none⟩)] w fun e w' => e = .returned (.tuple #[]) ∧ BuildIn T B b o bs (cs.setIfInBounds o (.pointer (some ⟨b, o, none⟩))) w' ∧ w.grownBy w' (some b) := by
  have hle := hR.le
  rcases h.addr with ha | ha
  · refine (copyCheck_fresh T n b o cs w hR hn h.heap ha).mono ?_
    rintro e w' ⟨rfl, rfl⟩
    obtain ⟨v, hv, hown⟩ := h.buf
    refine ⟨rfl, ⟨h.base, set_at h.heap _ _, .inr (by simp [show o < cs.size by omega]), v, ?_, ?_⟩, grown_set _ _ _ _⟩
    · rw [Array.getElem?_setIfInBounds_ne (by omega)]; exact hv
    · exact hown.kept (grown_set _ _ _ _) (.inr (Lib.ownBlock_ne hown h.heap hR.ne))
  · refine (copyCheck_used b o w ((cell_at h.heap o).trans ha)).mono ?_
    rintro e w' ⟨rfl, rfl⟩
    rw [set_same _ _ _ ha]
    exact ⟨rfl, h, ⟨rfl, rfl, rfl, Nat.le_refl _, fun _ _ _ => rfl⟩⟩

/-- What a write leaves: the builder's block, with what it holds now; whatever lay below B, and every block that is neither the builder's nor a row of bytes, is as it was. -/
structure Wrote (T : TypeId) (B b o : Nat) (bs : List Value) (cs : Array Value) (w w' : World) : Prop where
  ex : ∃ v, BuildIn T B b o bs (wrote cs b o v) w'
  below : Below B w w'
  kept : Lib.OthersKept TY (some b) w w'
  far : ∀ k v, cs[o + 1]? = some v → k < w.heap.size → k ≠ b → v.ownBlock ≠ some k → w'.heap[k]? = w.heap[k]?

theorem below_of_grown {B b : Nat} {w w' : World} (hB : B ≤ b) (hlt : b < w.heap.size) (h : w.grownBy w' (some b)) : Below B w w' :=
  (Below.refl B w).grown h (by omega) (fun k e => by cases e; exact hB)
theorem kept_of_grown {b : Nat} {w w' : World} (h : w.grownBy w' (some b)) : Lib.OthersKept TY (some b) w w' := by
  intro k x hk hb _
  exact (h.block k (Array.getElem?_eq_some_iff.1 hk).1 hb).trans hk
theorem ownsRow_kind {w : World} {B : Nat} {e : TypeId} {v : Value} {n : Nat} {xs : List Value} (h : w.ownsRow B e 1 v n xs) : ∀ g, v.ownBlock = some g → ∃ c fz, w.heap[g]? = some (.cells c e fz) := by
  intro g hg
  rcases h.2 with ⟨rfl, _⟩ | ⟨g', cap, cur, rfl, _, hgg, _⟩
  · simp [Value.ownBlock] at hg
  · simp [Value.ownBlock] at hg
    subst hg
    exact ⟨cur, (0, 0), hgg⟩

/-- A world with one block more, or as it was. -/
def laid (w : World) : Option Obj → World
  | some y => w.alloc y
  | none => w

/-- From a new buffer in its cell to the whole of what a write leaves. -/
theorem wrote_of {T : TypeId} {n B b o : Nat} {bs bs' : List Value} {cs : Array Value} {w w1 w2 : World} {v v' : Value} (hR : Room T n o) (hn : cs.size = n)
    (h1 : BuildIn T B b o bs (cs.setIfInBounds o (.pointer (some ⟨b, o, none⟩))) w1) (hg1 : w.grownBy w1 (some b)) (hlt : b < w.heap.size) (hv : (cs.setIfInBounds o (.pointer (some ⟨b, o, none⟩)))[o + 1]? = some v) (hown : w1.ownsRow B TY 1 v bs.length bs)
    {x : Option Obj} (hg2 : (laid w1 x).grownBy w2 v.ownBlock) (hown' : w2.ownsRow B TY 1 v' bs'.length bs') :
    Wrote T B b o bs' cs w (w2.setCell ⟨b, o + 1, none⟩ v') := by
  have hB := h1.base
  have hle := hR.le
  have hne := Lib.ownBlock_ne hown h1.heap hR.ne
  have hlt1 := lt_at h1.heap
  have hb1 := below_of_grown hB hlt hg1
  have hx : ∃ w1', w1' = laid w1 x ∧ Below B w w1' ∧ Lib.OthersKept TY (some b) w w1' ∧ w1'.heap[b]? = w1.heap[b]? ∧ b < w1'.heap.size ∧ (∀ g, v.ownBlock = some g → ∃ c fz, w1'.heap[g]? = some (.cells c TY fz)) ∧ w1.heap.size ≤ w1'.heap.size := by
    cases x with
    | none => exact ⟨w1, rfl, hb1, kept_of_grown hg1, rfl, hlt1, ownsRow_kind hown, Nat.le_refl _⟩
    | some y =>
      exact ⟨w1.alloc y, rfl, hb1.alloc (by omega) _, (kept_of_grown hg1).alloc _, Lib.alloc_old w1 _ b hlt1, by simp; omega, ownsRow_kind (hown.alloc _), by simp⟩
  obtain ⟨w1', hw1', hb, hk, hbb, hlt', hkind, hsz⟩ := hx
  rw [← hw1'] at hg2
  have hb2 : w2.heap[b]? = some (.cells (cs.setIfInBounds o (.pointer (some ⟨b, o, none⟩))) T (0, 0)) := by
    rw [hg2.block b hlt' (fun e => hne e.symm), hbb]; exact h1.heap
  have hrow : ∀ k, v.ownBlock = some k → B ≤ k := fun k hk => (hown.lt k hk).1
  have hl1 : ∀ k, k < w1.heap.size → (laid w1 x).heap[k]? = w1.heap[k]? := by
    intro k hk
    cases x with
    | none => rfl
    | some y => exact Lib.alloc_old w1 y k hk
  refine ⟨⟨v', ⟨hB, set_at hb2 _ _, .inr ?_, v', ?_, ?_⟩⟩, ?_, ?_, ?_⟩
  · unfold wrote
    rw [Array.getElem?_setIfInBounds_ne (by omega)]
    simp [show o < cs.size by omega]
  · unfold wrote
    simp [show o + 1 < cs.size by omega]
  · exact hown'.kept (grown_set _ _ _ _) (.inr (Lib.ownBlock_ne hown' hb2 hR.ne))
  · exact (hb.grown hg2 (by omega) hrow).setCell (p := ⟨b, o + 1, none⟩) hB _
  · exact (hk.grown hg2 hkind).setCell ⟨b, o + 1, none⟩ rfl _
  · intro k v2 hv2 hk hkb hkv
    rw [Array.getElem?_setIfInBounds_ne (by omega)] at hv
    obtain rfl : v2 = v := by rw [hv] at hv2; exact (Option.some.inj hv2).symm
    have hk1 : k < w1.heap.size := Nat.lt_of_lt_of_le hk hg1.size
    rw [(grown_set w2 b (o + 1) v').block k (Nat.lt_of_lt_of_le (by omega : k < w1'.heap.size) hg2.size) (by simpa using hkb), hg2.block k (by omega) (fun e => hkv e.symm), hw1', hl1 k hk1]
    exact hg1.block k hk (by simpa using hkb)

set_option maxHeartbeats 2000000 in
set_option maxRecDepth 100000 in
theorem writeByte_c (T : TypeId) (n B b o : Nat) (bs : List Value) (cs : Array Value) (c : Int) (w : World) (hR : Room T n o) (hn : cs.size = n) (h : BuildIn T B b o bs cs w) (hlen : bs.length + 1 ≤ 140737488355328) :
    Calls Tryd.prog 46 #[.pointer (some ⟨b, o, none⟩), .int .u8 c] w fun e w' => e = .returned .nilIface ∧ Wrote T B b o (bs ++ [.int .u8 c]) cs w w' := by
  obtain ⟨i0, hi, hz0, hz1, hz2⟩ := info_parts infoByte
  have H1 := Lib.hid (copyCheck_c T n B b o bs cs w hR hn h)
  have Hlt := Lib.hid (lt_at h.heap)
  have hB := h.base
  have Hn := Lib.hid hn
  clear h hn
  go_enter Tryd.func46, Tryd.ntmps46
  go_wp2_with fail
  refine H1.out.mono ?_
  rintro e w1 ⟨rfl, h1, hg1⟩
  obtain ⟨v, hv, hown⟩ := h1.buf
  have c1 : w1.cell? ⟨b, o + 1, none⟩ = some v := (cell_at h1.heap _).trans hv
  have hlt1 := lt_at h1.heap
  have hne := Lib.ownBlock_ne hown h1.heap hR.ne
  have Hv := Lib.hid hv
  clear hv H1
  go_wp2_with (at_builtin; refine wpList_append_own _ rfl _ _ 30 rfl B 5 i0 (.int .u8 0) 1 1 Tryd.underlying30 hi hz0 hz1 hz2 rfl (by decide) _ _ _ rfl (hown.alloc _) ⟨w1.heap.size, 0, none⟩ 1 1 [.int .u8 c] rfl rfl ?c1 ?c2 ?c3 ?c4 ?c5 ?_)
  case c1 => exact cell_one_new _ _ _
  case c2 => simp [Value.oneCell']
  case c3 => unfold maxLen; omega
  case c4 => omega
  case c5 => simp; omega
  intro v' w2 hown' hgrow _
  have hb2 : w2.heap[b]? = some (.cells (cs.setIfInBounds o (.pointer (some ⟨b, o, none⟩))) T (0, 0)) := by
    rw [hgrow.block b (by simp; omega) (fun e => hne e.symm), Lib.alloc_old w1 _ b hlt1]; exact h1.heap
  have d1 : w2.cell? ⟨b, o + 1, none⟩ = some v := (cell_at hb2 _).trans Hv.out
  have f1 : w2.frozen? ⟨b, o + 1, none⟩ = false := Lib.frozen_of_heap hb2 _
  have hfin := wrote_of hR Hn.out h1 hg1 Hlt.out Hv.out hown (x := some _) hgrow (bs' := bs ++ [.int .u8 c]) (by simpa using hown')
  obtain ⟨g, cap, rfl⟩ : ∃ g cap, v' = .slice (some ⟨g, 0, none⟩) (bs.length + 1) cap := by
    rcases hown'.2 with ⟨_, h0⟩ | ⟨g, cap, cur, hv, _⟩
    · omega
    · exact ⟨g, cap, hv⟩
  have Hfin := Lib.hid hfin
  clear hfin hown' hgrow hb2 hown h1 hg1
  go_wp2
  go_ret
  exact ⟨rfl, Hfin.out⟩

set_option maxHeartbeats 2000000 in
set_option maxRecDepth 100000 in
theorem writeString_c (T : TypeId) (n B b o : Nat) (bs : List Value) (cs : Array Value) (s : ByteArray) (w : World) (hR : Room T n o) (hn : cs.size = n) (h : BuildIn T B b o bs cs w) (hlen : bs.length + s.size ≤ 140737488355328) :
    Calls Tryd.prog 47 #[.pointer (some ⟨b, o, none⟩), .string s] w fun e w' => e = .returned (.tuple #[.int .i64 s.size, .nilIface]) ∧ Wrote T B b o (bs ++ Lib.strCells s) cs w w' := by
  obtain ⟨i0, hi, hz0, hz1, hz2⟩ := info_parts infoByte
  have H1 := Lib.hid (copyCheck_c T n B b o bs cs w hR hn h)
  have Hlt := Lib.hid (lt_at h.heap)
  have hB := h.base
  have Hn := Lib.hid hn
  clear h hn
  go_enter Tryd.func47, Tryd.ntmps47
  go_wp2_with fail
  refine H1.out.mono ?_
  rintro e w1 ⟨rfl, h1, hg1⟩
  obtain ⟨v, hv, hown⟩ := h1.buf
  have c1 : w1.cell? ⟨b, o + 1, none⟩ = some v := (cell_at h1.heap _).trans hv
  have hlt1 := lt_at h1.heap
  have hne := Lib.ownBlock_ne hown h1.heap hR.ne
  have Hv := Lib.hid hv
  clear hv H1
  go_wp2_with (at_builtin; refine Lib.wpList_append_own_string _ rfl _ _ 30 9 rfl B 5 i0 Tryd.underlying30 Tryd.underlying9 hi hz0 hz1 hz2 _ _ _ rfl hown s rfl ?c3 ?c4 ?c5 ?_)
  case c3 => unfold maxLen; omega
  case c4 => omega
  case c5 => omega
  intro v' w2 hown' hgrow _
  have hb2 : w2.heap[b]? = some (.cells (cs.setIfInBounds o (.pointer (some ⟨b, o, none⟩))) T (0, 0)) := by
    rw [hgrow.block b hlt1 (fun e => hne e.symm)]; exact h1.heap
  have d1 : w2.cell? ⟨b, o + 1, none⟩ = some v := (cell_at hb2 _).trans Hv.out
  have f1 : w2.frozen? ⟨b, o + 1, none⟩ = false := Lib.frozen_of_heap hb2 _
  have hfin := wrote_of hR Hn.out h1 hg1 Hlt.out Hv.out hown (x := none) hgrow (bs' := bs ++ Lib.strCells s) (by simpa [Lib.strCells_length] using hown')
  obtain ⟨ao, n', cap, rfl⟩ : ∃ ao n' cap, v' = .slice ao n' cap := by
    rcases hown'.2 with ⟨hv, _⟩ | ⟨g, cap, cur, hv, _⟩
    · exact ⟨_, _, _, hv⟩
    · exact ⟨_, _, _, hv⟩
  have Hfin := Lib.hid hfin
  clear hfin hown' hgrow hb2 hown h1 hg1
  go_wp2
  go_ret2
  exact ⟨rfl, Hfin.out⟩

set_option maxHeartbeats 2000000 in
set_option maxRecDepth 100000 in
theorem writeRune_c (T : TypeId) (n B b o : Nat) (bs : List Value) (cs : Array Value) (r : Int) (hr0 : -2147483648 ≤ r) (hr1 : r ≤ 2147483647) (w : World) (hR : Room T n o) (hn : cs.size = n) (h : BuildIn T B b o bs cs w) (hlen : bs.length + 4 ≤ 140737488355328) :
    Calls Tryd.prog 56 #[.pointer (some ⟨b, o, none⟩), .int .i32 r] w fun e w' => e = .returned (.tuple #[.int .i64 ((Lib.runeCells r).length : Int), .nilIface]) ∧ Wrote T B b o (bs ++ Lib.runeCells r) cs w w' := by
  have H1 := Lib.hid (copyCheck_c T n B b o bs cs w hR hn h)
  have Hlt := Lib.hid (lt_at h.heap)
  have hB := h.base
  have Hn := Lib.hid hn
  clear h hn
  go_enter Tryd.func56, Tryd.ntmps56
  go_wp2_with fail
  refine H1.out.mono ?_
  rintro e w1 ⟨rfl, h1, hg1⟩
  obtain ⟨v, hv, hown⟩ := h1.buf
  obtain ⟨ao, cap, rfl⟩ : ∃ ao cap, v = .slice ao bs.length cap := by
    rcases hown.2 with ⟨hv, h0⟩ | ⟨g, cap, cur, hv, _⟩
    · exact ⟨none, 0, by rw [hv, h0]⟩
    · exact ⟨_, _, hv⟩
  have c1 : w1.cell? ⟨b, o + 1, none⟩ = some (.slice ao bs.length cap) := (cell_at h1.heap _).trans hv
  have hlt1 := lt_at h1.heap
  have hne := Lib.ownBlock_ne hown h1.heap hR.ne
  have H2 := Lib.hid (appendRune B _ bs.length bs r hr0 hr1 w1 hown hlen (by omega))
  have Hv := Lib.hid hv
  clear hv H1
  go_wp2_with fail
  refine H2.out.mono ?_
  clear H2
  rintro e w2 ⟨v', rfl, hown', oo, hgrow⟩
  have hb2 : w2.heap[b]? = some (.cells (cs.setIfInBounds o (.pointer (some ⟨b, o, none⟩))) T (0, 0)) := by
    rw [hgrow.block b (by simp; omega) (fun e => hne e.symm), Lib.alloc_old w1 _ b hlt1]; exact h1.heap
  have d1 : w2.cell? ⟨b, o + 1, none⟩ = some (.slice ao bs.length cap) := (cell_at hb2 _).trans Hv.out
  have f1 : w2.frozen? ⟨b, o + 1, none⟩ = false := Lib.frozen_of_heap hb2 _
  have hfin := wrote_of hR Hn.out h1 hg1 Hlt.out Hv.out hown (x := some oo) hgrow (bs' := bs ++ Lib.runeCells r) (by simpa using hown')
  have hL := Lib.runeCells_le r
  obtain ⟨L, hLr⟩ : ∃ L, (Lib.runeCells r).length = L := ⟨_, rfl⟩
  rw [hLr] at hown' hL
  have HL := Lib.hid hLr
  obtain ⟨ao', cap', rfl⟩ : ∃ ao cap, v' = .slice ao (bs.length + L) cap := by
    rcases hown'.2 with ⟨hv, h0⟩ | ⟨g, cap, cur, hv, _⟩
    · exact ⟨none, 0, by rw [hv, h0]⟩
    · exact ⟨_, _, hv⟩
  have e1 : (w2.setCell ⟨b, o + 1, none⟩ (.slice ao' (bs.length + L) cap')).cell? ⟨b, o + 1, none⟩ = some (.slice ao' (bs.length + L) cap') := World.cell?_setCell_same' _ _ _ (by rw [d1]; rfl)
  have Hfin := Lib.hid hfin
  clear hfin hown' hgrow hb2 hown h1 hg1 hLr
  go_wp2
  go_ret2
  refine ⟨?_, Hfin.out⟩
  rw [HL.out]
  first | rfl | (simp; omega)

set_option maxHeartbeats 2000000 in
set_option maxRecDepth 100000 in
theorem builderString_c (T : TypeId) (B b o : Nat) (l : List UInt8) (cs : Array Value) (w : World) (h : BuildIn T B b o (Lib.byteCells l) cs w) :
    Calls Tryd.prog 33 #[.pointer (some ⟨b, o, none⟩)] w fun e w' => e = .returned (.string ⟨l.toArray⟩) ∧ Below B w w' := by
  obtain ⟨v, hv, hown⟩ := h.buf
  have hbk := h.heap
  have hB := h.base
  have hlt := lt_at hbk
  have hUS := fun (W : World) (q : Option Addr) => Lib.run_unsafeString_none (P := Tryd.prog) W 94 3 9 q
  rw [Lib.byteCells_length] at hown
  rcases hown.2 with ⟨rfl, hz⟩ | ⟨g, cap, cur, rfl, hbg, hg, hnc, hcm, hcs, htake⟩
  · obtain rfl : l = [] := List.eq_nil_of_length_eq_zero hz
    have c1 : w.drew.cell? ⟨b, o + 1, none⟩ = some (.slice none 0 0) := (cell_at hbk _).trans hv
    have hSD : (Builtin.unsafeSliceData_ #[30] 94 #[.slice none 0 0]).run Tryd.prog w.drew = .ok (.pointer none) w.drew := rfl
    clear h hbk hown hz hv
    go_enter Tryd.func33, Tryd.ntmps33
    go_wp2
    go_region
    all_goals (go_wp2; go_ret; exact ⟨rfl, Below.drew (Below.refl B w)⟩)
  · by_cases h0 : l = []
    · subst h0
      by_cases hc0 : cap = 0
      · subst hc0
        have c1 : w.drew.cell? ⟨b, o + 1, none⟩ = some (.slice (some ⟨g, 0, none⟩) 0 0) := (cell_at hbk _).trans hv
        have hSD : (Builtin.unsafeSliceData_ #[30] 94 #[.slice (some ⟨g, 0, none⟩) 0 0]).run Tryd.prog w.drew = .ok (.pointer (some ⟨w.drew.heap.size, 0, none⟩)) (w.drew.alloc (.view ⟨g, 0, none⟩ 5)) :=
          Lib.run_unsafeSliceData_zero w.drew _ _ 5 Tryd.underlying94 ⟨g, 0, none⟩ 0 (5, cur.size) (by have hg' : w.drew.heap[g]? = some (.cells cur 5 (0, 0)) := hg; simp [World.shape?, hg'])
        have c2 : (w.drew.alloc (.view ⟨g, 0, none⟩ 5)).cell? ⟨b, o + 1, none⟩ = some (.slice (some ⟨g, 0, none⟩) 0 0) :=
          (cell_at ((Lib.alloc_old w.drew _ b hlt).trans hbk) _).trans hv
        have c3 : (w.alloc (.view ⟨g, 0, none⟩ 5)).drew.cell? ⟨b, o + 1, none⟩ = some (.slice (some ⟨g, 0, none⟩) 0 0) := c2
        have c0 : w.cell? ⟨b, o + 1, none⟩ = some (.slice (some ⟨g, 0, none⟩) 0 0) := c1
        clear h hbk hown hv hg
        go_enter Tryd.func33, Tryd.ntmps33
        go_wp2
        go_region
        all_goals (go_wp2; go_ret; exact ⟨rfl, (Below.drew (Below.refl B w)).alloc (show B ≤ w.heap.size by omega) _⟩)
      · have c1 : w.drew.cell? ⟨b, o + 1, none⟩ = some (.slice (some ⟨g, 0, none⟩) 0 cap) := (cell_at hbk _).trans hv
        have hSD : (Builtin.unsafeSliceData_ #[30] 94 #[.slice (some ⟨g, 0, none⟩) 0 cap]).run Tryd.prog w.drew = .ok (.pointer (some ⟨g, 0, none⟩)) w.drew :=
          Lib.run_unsafeSliceData_row _ _ _ _ _ _ hc0
        clear h hbk hown hv hg
        go_enter Tryd.func33, Tryd.ntmps33
        go_wp2
        go_region
        all_goals (go_wp2; go_ret; exact ⟨rfl, Below.drew (Below.refl B w)⟩)
    · have hl0 : l.length ≠ 0 := by simpa using h0
      have c1 : w.drew.cell? ⟨b, o + 1, none⟩ = some (.slice (some ⟨g, 0, none⟩) l.length cap) := (cell_at hbk _).trans hv
      have hSD : (Builtin.unsafeSliceData_ #[30] 94 #[.slice (some ⟨g, 0, none⟩) l.length cap]).run Tryd.prog w.drew = .ok (.pointer (some ⟨g, 0, none⟩)) w.drew :=
        Lib.run_unsafeSliceData_row _ _ _ _ _ _ (by omega)
      have hUS2 : (Builtin.unsafeString_ #[94, 3] 9 #[.pointer (some ⟨g, 0, none⟩), .int .i64 l.length]).run Tryd.prog w.drew = .ok (.string ⟨l.toArray⟩) (w.drew.freeze ⟨g, 0, none⟩ l.length) := by
        refine Lib.run_unsafeString_row w.drew 94 3 9 5 Tryd.underlying94 (by kernel_rfl) g cur.size (by have hg' : w.drew.heap[g]? = some (.cells cur 5 (0, 0)) := hg; simp [World.shape?, hg']) l h0 (by omega) (by unfold maxLen at hcm; omega) ?_
        intro j x hx
        have := hown.cells (g := g) rfl j (.int .u8 x.toNat) (by simp [Lib.byteCells, hx])
        exact this
      clear h hbk hown hv hg hUS htake hcs hl0
      go_enter Tryd.func33, Tryd.ntmps33
      go_wp2
      go_region
      all_goals (go_wp2; go_ret; exact ⟨rfl, Lib.below_freeze (Below.drew (Below.refl B w)) (p := ⟨g, 0, none⟩) hbg _⟩)
end Go.Proofs.YtjndekmpnihamaaDoor
