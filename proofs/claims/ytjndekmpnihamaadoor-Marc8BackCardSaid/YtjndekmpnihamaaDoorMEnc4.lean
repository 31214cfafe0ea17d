/-
  The encoder's composed characters, and one character of it.
-/
import Derived.Test.YtjndekmpnihamaaDoorMEnc3
import Derived.Test.YtjndekmpnihamaaDoorMComp
namespace Go.Proofs.YtjndekmpnihamaaDoor
open Go.RowKit Go.Shelf
set_option linter.unusedVariables false

theorem family_all : allFam familyR = composedL := by kernel_rfl
def famOkB (l : List Fam) : Bool := decide (l.length ≤ 100) && l.all (fun f => decide (f.2.1.length ≤ 1000) && decide ((runesOf f.2.2).length ≤ f.2.1.length))
theorem family_okB : famOkB familyR = true := by kernel_rfl
def compRange (p : Int × Int × Int) : Bool := decide (0 ≤ p.1) && decide (p.1 ≤ 2147483647) && decide (0 ≤ p.2.1) && decide (p.2.1 ≤ 255) && decide (0 ≤ p.2.2) && decide (p.2.2 ≤ 2147483647)
theorem composed_range : composedL.all compRange = true := by decide +kernel
theorem compRange_of {p : Int × Int × Int} (h : p ∈ composedL) : 0 ≤ p.1 ∧ p.1 ≤ 2147483647 ∧ 0 ≤ p.2.1 ∧ p.2.1 ≤ 255 ∧ 0 ≤ p.2.2 ∧ p.2.2 ≤ 2147483647 := by
  have := List.all_eq_true.1 composed_range p h
  simp [compRange] at this; omega
theorem familyOk : FamOk familyR := by
  have h := family_okB
  unfold famOkB at h
  rw [Bool.and_eq_true] at h
  refine ⟨by simpa using h.1, fun k hk => ?_, fun p hp => ?_, ?_⟩
  · have := List.all_eq_true.1 h.2 _ (List.getElem_mem hk)
    simpa using this
  · rw [family_all] at hp
    have := compRange_of hp
    omega
  · rw [family_all]; decide +kernel
theorem foldl_putP_mem (l : List (Int × Int × Int)) : ∀ (m : Int → Option (Int × Int)) (k : Int) (x : Int × Int), l.foldl (fun m p => put m p.1 p.2) m k = some x → (k, x) ∈ l ∨ m k = some x := by
  induction l with
  | nil => intro m k x h; exact .inr h
  | cons p l ih =>
    intro m k x h
    rcases ih _ k x h with h1 | h1
    · exact .inl (List.mem_cons_of_mem _ h1)
    · simp only [put] at h1
      by_cases e : k = p.1
      · rw [if_pos e] at h1
        refine .inl ?_
        have : (k, x) = p := Prod.ext e (Option.some.inj h1).symm
        rw [this]; exact List.mem_cons_self
      · rw [if_neg e] at h1
        exact .inr h1
theorem compC_mem {c : Int} {x : Int × Int} (h : compC c = some x) : (c, x) ∈ composedL := by
  rcases foldl_putP_mem _ _ _ _ h with h1 | h1
  · exact h1
  · cases h1

set_option maxRecDepth 100000 in
set_option maxHeartbeats 1000000 in
theorem composed_c (w : World) :
    Calls Tryd.prog 53 #[] w fun e w' => ∃ m, e = .returned (.map (some m)) ∧ w.heap.size ≤ m ∧ MapF encParts .i32 21 w' m 200 compC ∧ Below w.heap.size w w' := by
  have N := Lib.hid (fun W T (h : W.heap[w.heap.size]? = some (.cells (famCells familyR).toArray T (0, 0))) => compose_c w.heap.size T familyR familyOk W h)
  go_enter Tryd.func53, Tryd.ntmps53
  go_wp2_with fail
  refine (N.out _ 106 (World.alloc_heap_new w _)).mono ?_
  rintro e w1 ⟨m, rfl, hm, hmp, hb⟩
  have Hmp := Lib.hid hmp
  have hb1 := ((Below.refl _ w).alloc (Nat.le_refl _) _).trans (hb.mono (show w.heap.size ≤ _ by simp))
  have Hb1 := Lib.hid hb1
  have hm' : w.heap.size ≤ m := by simp at hm; omega
  clear hmp hb hb1 hm
  go_wp2_with fail
  go_ret
  have := Hmp.out
  rw [family_all] at this
  exact ⟨m, rfl, hm', this, Hb1.out⟩

theorem run_eql_parts_nil (w : World) (r : Option Nat) : (binOp .eql 54 (.map r) (.map none)).run Tryd.prog w = .ok (.bool r.isNone) w := run_eql_map_nil w _ _ _ r Tryd.underlying54
theorem lookP {w : World} {m n : Nat} (h : MapF encParts .i32 21 w m n compC) {k : Int} (hk : wfC k) : (Instr.lookup 54 (.map (some m)) (.int .i32 k) true).run Tryd.prog w = .ok (.tuple #[.agg #[.int .i32 ((compC k).getD (0, 0)).1, .int .i32 ((compC k).getD (0, 0)).2], .bool (compC k).isSome]) w :=
  h.lookOk (t := 54) Tryd.underlying21 Tryd.underlying54 Tryd.zeroValue86 k hk

theorem ESt.other {K : EK} {s : EM} {w : World} {D : Nat} {cs : Array Value} {T' : TypeId} (h : ESt K s w) (hD : w.heap[D]? = some (.cells cs T' (0, 0))) (hT : T' ≠ TY) (hne : D ≠ K.b) (o : Nat) (v : Value) : ESt K s (w.setCell ⟨D, o, none⟩ v) := by
  obtain ⟨p, v0, cm, hr, hc⟩ := h.row
  have hk := mapsKept_set (o := o) (v := v) hD
  obtain ⟨v1, hv1, hown⟩ := hr.buf
  refine h.turn hk ⟨p, v0, cm, ⟨hr.base, (Below.heap_setCell _ _ _ _ (fun e => hne e.symm)).trans hr.heap, hr.addr, v1, hv1, hown.kept (grown_set w D o v) (.inr fun e => ?_)⟩, hc.mk' hk⟩ h.name
  obtain ⟨c, fz, hc'⟩ := ownsRow_kind hown D e
  rw [hD] at hc'
  simp only [Option.some.injEq, Obj.cells.injEq] at hc'
  exact hT hc'.2.1
theorem whole_end {K : EK} {s : EM} {w W : World} {D : Nat} {a b : Int} (h : ESt K s W) (hD : W.heap[D]? = some (.cells #[.int .i32 a, .int .i32 b] 86 (0, 0))) (hne : D ≠ K.b) (hwD : w.heap.size ≤ D) (hBw : K.B ≤ w.heap.size) (hb : EB K w W) (a' b' : Int) :
    ESt K s ((W.setCell ⟨D, 0, none⟩ (.int .i32 a')).setCell ⟨D, 1, none⟩ (.int .i32 b')) ∧ EB K w ((W.setCell ⟨D, 0, none⟩ (.int .i32 a')).setCell ⟨D, 1, none⟩ (.int .i32 b')) ∧
    ((W.setCell ⟨D, 0, none⟩ (.int .i32 a')).setCell ⟨D, 1, none⟩ (.int .i32 b')).heap[D]? = some (.cells #[.int .i32 a', .int .i32 b'] 86 (0, 0)) := by
  have h1 := set_at hD 0 (.int .i32 a')
  exact ⟨(h.other hD (by decide) hne 0 _).other h1 (by decide) hne 1 _, ⟨(hb.below.setCell (p := ⟨D, 0, none⟩) (Nat.le_trans hBw hwD) _).setCell (p := ⟨D, 1, none⟩) (Nat.le_trans hBw hwD) _, fun g cs T fz h1' h2 h3 => by
    have hgD : g ≠ D := by have := lt_at h1'; omega
    exact ((Below.heap_setCell _ _ _ _ hgD).trans (Below.heap_setCell _ _ _ _ hgD)).trans (hb.ck g cs T fz h1' h2 h3)⟩, set_at h1 1 _⟩

set_option maxRecDepth 100000 in
set_option maxHeartbeats 1000000 in
theorem whole_c (K : EK) (s : EM) (c : Int) (hc : wfC c) (w : World) (h : ESt K s w) :
    Calls Tryd.prog 45 #[.pointer (some ⟨K.b, 0, none⟩), .int .i32 c] w (Left K s w (.tuple #[.agg #[.int .i32 ((compC c).getD (0, 0)).1, .int .i32 ((compC c).getD (0, 0)).2], .bool (compC c).isSome])) := by
  have hq := run_eql_parts_nil
  obtain ⟨a, ha⟩ : ∃ a, ((compC c).getD (0, 0)).1 = a := ⟨_, rfl⟩
  obtain ⟨b, hb⟩ : ∃ b, ((compC c).getD (0, 0)).2 = b := ⟨_, rfl⟩
  obtain ⟨f, hf⟩ : ∃ f, (compC c).isSome = f := ⟨_, rfl⟩
  have hlk : ∀ w m, MapF encParts .i32 21 w m 500 compC → (Instr.lookup 54 (.map (some m)) (.int .i32 c) true).run Tryd.prog w = .ok (.tuple #[.agg #[.int .i32 a, .int .i32 b], .bool f]) w := by
    intro w m hm
    rw [← ha, ← hb, ← hf]; exact lookP hm hc
  rw [ha, hb, hf]
  have Hlk := Lib.hid hlk
  clear hlk ha hb hf
  have h1 := h.below ((Below.refl _ w).alloc (Nat.le_refl _) (.cells #[.int .i32 0, .int .i32 0] 86))
  have hBw := h.base
  obtain ⟨p, v, cm, hr, hcm⟩ := h1.row
  have c7 := cell_at hr.heap 7
  have H1 := Lib.hid h1
  rcases hcm with rfl | ⟨m, rfl, hms, hmp⟩
  · have c7' : (w.alloc (.cells #[.int .i32 0, .int .i32 0] 86)).cell? ⟨K.b, 7, none⟩ = some (.map none) := c7
    clear h h1 hr c7
    go_enter Tryd.func45, Tryd.ntmps45
    go_wp2_with fail
    refine (composed_c _).mono ?_
    rintro e w1 ⟨m, rfl, hm, hmp, hb1⟩
    have h2 := H1.out.below hb1
    have hms : m ≠ K.ms := by
      obtain ⟨f, n, _, hs⟩ := H1.out.sets
      have := hs.map.lt
      omega
    obtain ⟨p2, v2, cm2, hr2, _⟩ := h2.row
    have c72 := cell_at hr2.heap 7
    have c7'' : w1.cell? ⟨K.b, 7, none⟩ = some cm2 := c72
    have hfz := h2.frozen 7
    obtain ⟨x1, x2, x3⟩ := h2.setComp (.map (some m)) (.inr ⟨m, rfl, hms, hmp.more (by omega)⟩)
    have hl := Hlk.out _ _ ((hmp.mk' x3).more (by omega))
    have hD1 := (hb1.block w.heap.size (by simp)).trans (World.alloc_heap_new w _)
    have hDne : w.heap.size ≠ K.b := by omega
    have hD2 := (Below.heap_setCell w1 ⟨K.b, 7, none⟩ (.map (some m)) w.heap.size hDne).trans hD1
    obtain ⟨W, hW⟩ : ∃ W, w1.setCell ⟨K.b, 7, none⟩ (.map (some m)) = W := ⟨_, rfl⟩
    have hcell7 : W.cell? ⟨K.b, 7, none⟩ = some (.map (some m)) := by rw [← hW]; exact World.cell?_setCell_same' _ _ _ (by rw [c7'']; rfl)
    rw [hW] at x1 x2 hl hD2
    have hD3 := (Lib.alloc_old W (.cells #[.int .i32 a, .int .i32 b] 86) _ (lt_at hD2)).trans hD2
    have X1 := Lib.hid x1
    have Hbb := Lib.hid ((EB.fresh (show K.B ≤ w.heap.size by omega) ((((Below.refl w.heap.size w).alloc (Nat.le_refl _) (.cells #[.int .i32 0, .int .i32 0] 86)).trans (hb1.mono (by simp))))).trans x2)
    obtain ⟨D, hD⟩ : ∃ D, w.heap.size = D := ⟨_, rfl⟩
    rw [hD] at hD3
    have g0 := cell_at hD3 0
    have g1 := cell_at hD3 1
    have q0 := Lib.frozen_of_heap hD3 0
    have q1 := Lib.frozen_of_heap hD3 1
    have HD := Lib.hid hD
    have HBD := Lib.hid (show K.B ≤ D by omega)
    have HDlt := Lib.hid (show D < W.heap.size by rw [← hD]; exact lt_at hD2)
    have hDK : D ≠ K.b := by rw [← hD]; exact hDne
    have hsW : W.heap.size = w1.heap.size := by rw [← hW]; simp [World.setCell]
    obtain ⟨y1, y2, y3⟩ := whole_end (x1.below ((Below.refl _ W).alloc (Nat.le_refl _) (.cells #[.int .i32 a, .int .i32 b] 86))) hD3 hDK (show w.heap.size ≤ D by omega) (show K.B ≤ w.heap.size by omega) (Hbb.out.alloc (by have := hb1.size; simp at this; omega) (.cells #[.int .i32 a, .int .i32 b] 86)) a b
    have z0 := cell_at y3 0
    have z1 := cell_at y3 1
    have Y1 := Lib.hid y1
    have Y2 := Lib.hid y2
    clear h2 hr2 x1 x2 x3 hmp hb1 c72 hm hD1 hD2 hD3 hDne y1 y2 y3 hDK hsW
    go_wp2_with fail
    exact bodyPost_ret (v := .tuple #[.agg #[.int .i32 a, .int .i32 b], .bool f]) (by simp [results, Tryd.results45, go_sem, z0, z1]) rfl ⟨rfl, Y1.out, Y2.out⟩
  · have c7' : (w.alloc (.cells #[.int .i32 0, .int .i32 0] 86)).cell? ⟨K.b, 7, none⟩ = some (.map (some m)) := c7
    have hl := Hlk.out _ _ hmp
    have hD2 := World.alloc_heap_new w (.cells #[.int .i32 0, .int .i32 0] 86)
    have hDne : w.heap.size ≠ K.b := by omega
    obtain ⟨W, hW⟩ : ∃ W, w.alloc (.cells #[.int .i32 0, .int .i32 0] 86) = W := ⟨_, rfl⟩
    have hbW : EB K w W := by rw [← hW]; exact (EB.refl K w).alloc (by omega) _
    rw [hW] at c7' hl hD2 h1
    have hD3 := (Lib.alloc_old W (.cells #[.int .i32 a, .int .i32 b] 86) _ (lt_at hD2)).trans hD2
    obtain ⟨D, hD⟩ : ∃ D, w.heap.size = D := ⟨_, rfl⟩
    rw [hD] at hD3
    have hBD : K.B ≤ D := by omega
    have hDK : D ≠ K.b := by omega
    have hsW : W.heap.size = w.heap.size + 1 := by rw [← hW]; simp
    obtain ⟨y1, y2, y3⟩ := whole_end (h1.below ((Below.refl _ W).alloc (Nat.le_refl _) (.cells #[.int .i32 a, .int .i32 b] 86))) hD3 hDK (show w.heap.size ≤ D by omega) (show K.B ≤ w.heap.size by omega) (hbW.alloc (by omega) (.cells #[.int .i32 a, .int .i32 b] 86)) a b
    have g0 := cell_at hD3 0
    have g1 := cell_at hD3 1
    have q0 := Lib.frozen_of_heap hD3 0
    have q1 := Lib.frozen_of_heap hD3 1
    have z0 := cell_at y3 0
    have z1 := cell_at y3 1
    have Y1 := Lib.hid y1
    have Y2 := Lib.hid y2
    clear h h1 hr c7 hmp hD2 hDne hbW hD3 hBD hDK hsW y1 y2 y3 H1
    go_enter Tryd.func45, Tryd.ntmps45
    go_wp2_with fail
    exact bodyPost_ret (v := .tuple #[.agg #[.int .i32 a, .int .i32 b], .bool f]) (by simp [results, Tryd.results45, go_sem, z0, z1]) rfl ⟨rfl, Y1.out, Y2.out⟩
end Go.Proofs.YtjndekmpnihamaaDoor
