/-
  The encoder's sets and letters.
-/
import Derived.Test.YtjndekmpnihamaaDoorMEnc1
import Derived.Deep.RegionWith
import Derived.Deep.Cut
namespace Go.Proofs.YtjndekmpnihamaaDoor
open Go.RowKit Go.Shelf
set_option linter.unusedVariables false

theorem wfB_of (x : UInt8) : wfB (x.toNat : Int) := by
  have := x.toNat_lt
  simp [wfB, Lit.wf, IntKind.min, IntKind.max, IntKind.signed, IntKind.bits]; omega
theorem run_eql_codes_nil (w : World) (r : Option Nat) : (binOp .eql 47 (.map r) (.map none)).run Tryd.prog w = .ok (.bool r.isNone) w := run_eql_map_nil w _ _ _ r Tryd.underlying47

/-- What named leaves. -/
def Named (K : EK) (s : EM) (nm : UInt8) (w : World) (e : Ending) (w' : World) : Prop := ∃ m, e = .returned (.map (some m)) ∧ ESt K s w' ∧ IsCodes w' m (nm.toNat : Int) ∧ EB K w w'
structure StoredE (K : EK) (s : EM) (nm : UInt8) (w w' : World) : Prop where
  ex : ∃ m, ESt K s w' ∧ IsCodes w' m (nm.toNat : Int) ∧ (Instr.lookup 45 (.map (some K.ms)) (.int .u8 (nm.toNat : Int)) false).run Tryd.prog w' = .ok (.map (some m)) w'
  below : EB K w w'
def RunsE (nm : UInt8) (w : World) (e : Ending) (w2 : World) : Prop := ∃ v, e = .returned v ∧ (∃ g T, v = .slice (some ⟨g, 0, none⟩) (runsR (nm.toNat : Int)).length (runsR (nm.toNat : Int)).length ∧ w2.heap[g]? = some (.cells (runCells (runsR (nm.toNat : Int))).toArray T (0, 0))) ∧ Below w.heap.size w w2
def NewPostE (K : EK) (s : EM) (nm : UInt8) (w : World) (e : Ending) (w2 : World) : Prop :=
  ∃ m, e = .returned (.map (some m)) ∧ w2.cell? ⟨K.b, 4, none⟩ = some (.map (some K.ms)) ∧
    ∃ w3, (Instr.mapUpdate 45 (.map (some K.ms)) (.int .u8 (nm.toNat : Int)) (.map (some m))).run Tryd.prog w2 = .ok () w3 ∧ StoredE K s nm w w3
theorem new_postE (K : EK) (s : EM) (nm : UInt8) (w W : World) (h : ESt K s w) (hn : isName (nm.toNat : Int)) (hwf : wfB (nm.toNat : Int)) {f : Int → Option (Option Nat)} {n : Nat} (hnf : n ≤ cntS f) (hs : CodesAt w K.B K.ms n f) (hf : f (nm.toNat : Int) = none)
    (hW : Below w.heap.size w W) {v : Value} (hr : ∃ g T, v = .slice (some ⟨g, 0, none⟩) (runsR (nm.toNat : Int)).length (runsR (nm.toNat : Int)).length ∧ W.heap[g]? = some (.cells (runCells (runsR (nm.toNat : Int))).toArray T (0, 0))) : Calls Tryd.prog 24 #[v] W (NewPostE K s nm w) := by
  have hr' : RunsAt 0 W v (runsR (nm.toNat : Int)) := by
    obtain ⟨g, T, hv, hb⟩ := hr
    exact ⟨g, T, hv, Nat.zero_le _, hb⟩
  have hBw := h.base
  refine (newCodes_rows (namedRows _ hn) 0 v W hr').mono ?_
  rintro e w2 ⟨m, he, hm, hset, hb⟩
  have hb2 : Below w.heap.size w w2 := hW.trans (hb.mono hW.size)
  have h2 := h.below hb2
  have hs2 := hs.mk' (mapsKept_below hb2)
  have hsl := hs.map.lt
  have hmw := hW.size
  have hmn : m ≠ K.ms := by omega
  obtain ⟨w3, hrun, hm3, hg3⟩ := hs2.map.update (t := 45) Tryd.underlying5 Tryd.underlying45 (by have := cntS_le f; unfold maxLen; omega) _ hwf (some m)
  have hrun' : (Instr.mapUpdate 45 (.map (some K.ms)) (.int .u8 (nm.toNat : Int)) (.map (some m))).run Tryd.prog w2 = .ok () w3 := hrun
  obtain ⟨es, ck, ho⟩ := hs2.map.obj
  obtain ⟨p, v', cm, hrow, hcm⟩ := h2.row
  have hcm3 : CompAt K cm w3 := by
    rcases hcm with hcm | ⟨m2, h1, h2', h3⟩
    · exact .inl hcm
    · exact .inr ⟨m2, h1, h2', h3.kept hg3 (by simpa using h2')⟩
  refine ⟨m, he, h2.cells.2.2.1, w3, hrun', ⟨m, ⟨⟨p, v', cm, hrow.mapped hg3 ho, hcm3⟩, ⟨put f (nm.toNat : Int) (some m), n + 1, by rw [cntS_put hn hf]; omega, hm3, hs.base, ?_⟩, h2.chars.kept hg3 (by simpa using h.nec), h2.marks.kept hg3 (by simpa using h.nem), h.nec, h.nem, h.name⟩, ?_, ?_⟩, ?_⟩
  · intro k r hk hkr
    by_cases e : k = (nm.toNat : Int)
    · subst e
      simp only [put, if_true] at hkr
      cases hkr
      exact ⟨m, rfl, hn, hset.kept hg3 (by simpa using hmn), hmn⟩
    · simp only [put, if_neg e] at hkr
      obtain ⟨m2, h1, h2', h3, h4⟩ := hs2.each k r hk hkr
      exact ⟨m2, h1, h2', MapF.kept h3 hg3 (by simpa using h4), h4⟩
  · exact hset.kept hg3 (by simpa using hmn)
  · have := hm3.look (t := 45) Tryd.underlying5 Tryd.underlying45 Tryd.zeroValue47 _ hwf
    simp only [put, if_true] at this
    exact this
  · exact (EB.fresh (by omega) hb2).trans (EB.map hg3 ho ((Below.refl _ _).grown hg3 (by have := hb2.size; omega) (fun k e => by cases e; exact hs.base)))

set_option maxRecDepth 100000 in
set_option maxHeartbeats 1000000 in
theorem named_c (K : EK) (s : EM) (nm : UInt8) (hn : isName (nm.toNat : Int)) (w : World) (h : ESt K s w) :
    Calls Tryd.prog 52 #[.pointer (some ⟨K.b, 0, none⟩), .int .u8 (nm.toNat : Int)] w (Named K s nm w) := by
  have hq2 := run_eql_codes_nil
  have hwf : wfB (nm.toNat : Int) := wfB_of nm
  obtain ⟨_, _, c4, _, _⟩ := h.cells
  obtain ⟨f, n, hnf, hs⟩ := h.sets
  have hl := hs.map.look (t := 45) Tryd.underlying5 Tryd.underlying45 Tryd.zeroValue47 (nm.toNat : Int) hwf
  cases hf : f (nm.toNat : Int) with
  | some r =>
    obtain ⟨m, rfl, _, hset, hms⟩ := hs.each _ r hwf hf
    rw [hf] at hl
    have hl' : (Instr.lookup 45 (.map (some K.ms)) (.int .u8 (nm.toNat : Int)) false).run Tryd.prog w = .ok (.map (some m)) w := hl
    have H := Lib.hid h
    have Hset := Lib.hid hset
    clear h hs hset hl hf
    go_enter Tryd.func52, Tryd.ntmps52
    go_wp2
    go_ret
    exact ⟨m, rfl, H.out, Hset.out, EB.refl _ _⟩
  | none =>
    rw [hf] at hl
    have hl' : (Instr.lookup 45 (.map (some K.ms)) (.int .u8 (nm.toNat : Int)) false).run Tryd.prog w = .ok (.map none) w := hl
    have N1 := Lib.hid (show Calls Tryd.prog 48 #[.int .u8 (nm.toNat : Int)] w.drew (RunsE nm w.drew) from (runsOf_c (nm.toNat : Int) hn w.drew).mono fun e w' ⟨v, he, ⟨g, T, hv, _, hg⟩, hb⟩ => ⟨v, he, ⟨g, T, hv, hg⟩, hb⟩)
    have N2 := Lib.hid (fun W v (hW : Below w.heap.size w W) hr => new_postE K s nm w W h hn hwf hnf hs hf hW (v := v) hr)
    have H := Lib.hid h
    clear hl h hs hf
    go_enter Tryd.func52, Tryd.ntmps52
    go_upto_region 2 with fail
    go_cut [] from 12 (fun w' => StoredE K s nm w w')
    case first =>
      go_region_with (first
        | (go_at_call 48; refine N1.out.mono ?_; rintro e w1 ⟨v, rfl, hrn, hb1⟩; have hb1' : Below w.heap.size w w1 := ((Below.refl _ w).drew).trans hb1; have d4 := (H.out.below hb1').cells.2.2.1; obtain ⟨g, T, rfl, hgg⟩ := hrn)
        | (go_at_call 24; refine (N2.out _ _ hb1' ⟨g, T, rfl, hgg⟩).mono ?_; rintro e w2 ⟨m, rfl, d5, w3, hrun, hst⟩))
      all_goals (go_wp2_with fail; go_meet; exact hst)
    case rest =>
      obtain ⟨m, h3, hset, hl3⟩ := hcut.ex
      have hbel := hcut.below
      obtain ⟨_, _, e4, _, _⟩ := h3.cells
      have H3 := Lib.hid h3
      have Hset := Lib.hid hset
      have Hbel := Lib.hid hbel
      clear h3 hset hbel hcut N1 N2
      go_wp2
      go_ret
      exact ⟨m, rfl, H3.out, Hset.out, Hbel.out⟩
end Go.Proofs.YtjndekmpnihamaaDoor
