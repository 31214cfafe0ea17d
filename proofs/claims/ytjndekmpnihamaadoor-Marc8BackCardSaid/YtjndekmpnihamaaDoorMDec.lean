/-
  The decoder's methods.
-/
import Derived.Test.YtjndekmpnihamaaDoorMDecS
import Derived.Test.YtjndekmpnihamaaDoorMModel
import Derived.Deep.RegionHeld3
import Derived.Deep.RegionWith
import Derived.BigQuiet
import Derived.Deep.QuietTactic
import Derived.Deep.Cut
import Derived.Outline
namespace Go.Proofs.YtjndekmpnihamaaDoor
open Go.RowKit Go.Shelf
set_option linter.unusedVariables false

abbrev pan (a k : Int) : Ending := .panicked [{ v := failV a k, recovered := false }]

section
variable {w : World} {m n : Nat} {f : Int → Option Int}
theorem lookS_some (h : MapF (encInt .i32) .u8 5 w m n f) {k x : Int} (hk : wfB k) (hx : f k = some x) : (Instr.lookup 65 (.map (some m)) (.int .u8 k) true).run Tryd.prog w = .ok (.tuple #[.int .i32 x, .bool true]) w := by
  have := h.lookOk (t := 65) Tryd.underlying5 Tryd.underlying65 Tryd.zeroValue21 k hk
  rw [hx] at this
  exact this
theorem lookS_none (h : MapF (encInt .i32) .u8 5 w m n f) {k : Int} (hk : wfB k) (hx : f k = none) : (Instr.lookup 65 (.map (some m)) (.int .u8 k) true).run Tryd.prog w = .ok (.tuple #[.int .i32 0, .bool false]) w := by
  have := h.lookOk (t := 65) Tryd.underlying5 Tryd.underlying65 Tryd.zeroValue21 k hk
  rw [hx] at this
  exact this
theorem lookS_val (h : MapF (encInt .i32) .u8 5 w m n f) {k : Int} (hk : wfB k) : (Instr.lookup 65 (.map (some m)) (.int .u8 k) false).run Tryd.prog w = .ok (.int .i32 ((f k).getD 0)) w :=
  h.look (t := 65) Tryd.underlying5 Tryd.underlying65 Tryd.zeroValue21 k hk
end

set_option maxRecDepth 100000 in
set_option maxHeartbeats 400000 in
theorem character_yes (K : DK) (at' : Nat) (out : List UInt8) (cv : Value) (cur c ch : Int) (w : World) (h : DSt K at' out cv w) (hc : DCur K cur cv w) (hwf : wfB c) (hch : charOf cur c = some ch) :
    Calls Tryd.prog 57 #[.pointer (some ⟨K.b, 0, none⟩), .int .u8 c] w fun e w' => e = .returned (.int .i32 ch) ∧ w = w' := by
  obtain ⟨m, rfl, hset, _⟩ := hc.ex
  obtain ⟨_, _, c4, _, c6, _⟩ := h.cells
  unfold charOf at hch
  cases hs : putAll (namedL cur) c with
  | some x =>
    rw [hs] at hch
    obtain rfl : x = ch := by simpa using hch
    have hl := lookS_some hset hwf hs
    clear h hc hset hs hch hwf
    go_enter Tryd.func57, Tryd.ntmps57
    go_wp2
    go_ret
    exact ⟨rfl, rfl⟩
  | none =>
    rw [hs] at hch
    have hl := lookS_none hset hwf hs
    have hl2 := lookS_some h.chars hwf hch
    clear h hc hset hs hch hwf
    go_enter Tryd.func57, Tryd.ntmps57
    go_wp2
    go_ret
    exact ⟨rfl, rfl⟩
set_option maxRecDepth 100000 in
set_option maxHeartbeats 400000 in
theorem character_no (K : DK) (at' : Nat) (out : List UInt8) (cv : Value) (cur c : Int) (w : World) (h : DSt K at' out cv w) (hc : DCur K cur cv w) (hwf : wfB c) (hch : charOf cur c = none) :
    Calls Tryd.prog 57 #[.pointer (some ⟨K.b, 0, none⟩), .int .u8 c] w fun e w' => e = pan at' 15 ∧ w = w' := by
  obtain ⟨m, rfl, hset, _⟩ := hc.ex
  obtain ⟨_, c1, c4, _, c6, _⟩ := h.cells
  unfold charOf at hch
  cases hs : putAll (namedL cur) c with
  | some x => rw [hs] at hch; cases hch
  | none =>
    rw [hs] at hch
    have hl := lookS_none hset hwf hs
    have hl2 := lookS_none h.chars hwf hch
    have Hf := Lib.hid (fail_c at' 15 w)
    clear h hc hset hs hch hwf
    go_enter Tryd.func57, Tryd.ntmps57
    go_wp2_with fail
    refine Hf.out.mono ?_
    clear Hf
    rintro e w' ⟨rfl, rfl⟩
    go_wp2
    exact ⟨rfl, rfl, rfl⟩

theorem run_eql_set_nil (w : World) (r : Option Nat) : (binOp .eql 65 (.map r) (.map none)).run Tryd.prog w = .ok (.bool r.isNone) w := run_eql_map_nil w _ _ _ r Tryd.underlying65
theorem run_eql_runs_nil (w : World) (a : Option Addr) (n c : Nat) : (binOp .eql 49 (.slice a n c) (.slice none 0 0)).run Tryd.prog w = .ok (.bool a.isNone) w := Lib.run_eql_slice_nil w _ _ a n c _ _ Tryd.underlying49

set_option maxRecDepth 100000 in
set_option maxHeartbeats 400000 in
theorem choose_no (K : DK) (at' : Nat) (out : List UInt8) (cv : Value) (c : Int) (w : World) (h : DSt K at' out cv w) (hn : ¬ isName c) :
    Calls Tryd.prog 35 #[.pointer (some ⟨K.b, 0, none⟩), .int .u8 c] w fun e w' => e = .returned (.bool false) ∧ Below w.heap.size w w' := by
  have Hr := Lib.hid (runsOf_none c (fun e => hn (.inl e)) (fun e => hn (.inr (.inl e))) (fun e => hn (.inr (.inr e))) w)
  have hq := run_eql_runs_nil
  clear h hn
  go_enter Tryd.func35, Tryd.ntmps35
  go_wp2_with fail
  refine Hr.out.mono ?_
  clear Hr
  rintro e w1 ⟨rfl, hb⟩
  have Hb := Lib.hid hb
  clear hb
  go_wp2
  go_ret
  exact ⟨rfl, Hb.out⟩

/-- What choose leaves. -/
structure Chose (K : DK) (at' : Nat) (out : List UInt8) (c : Int) (w w' : World) : Prop where
  ex : ∃ cv, DSt K at' out cv w' ∧ DCur K c cv w'
  below : Below K.B w w'

/-- What the store of a new set leaves. -/
structure Stored (K : DK) (at' : Nat) (out : List UInt8) (cv : Value) (c : Int) (w w' : World) : Prop where
  ex : ∃ m, DSt K at' out cv w' ∧ IsSet w' m c ∧ m ≠ K.ms ∧ (Instr.lookup 63 (.map (some K.ms)) (.int .u8 c) false).run Tryd.prog w' = .ok (.map (some m)) w'
  below : Below K.B w w'
def NewPost (K : DK) (at' : Nat) (out : List UInt8) (cv : Value) (c : Int) (w : World) (e : Ending) (w2 : World) : Prop :=
  ∃ m, e = .returned (.map (some m)) ∧ w2.cell? ⟨K.b, 5, none⟩ = some (.map (some K.ms)) ∧
    ∃ w3, (Instr.mapUpdate 63 (.map (some K.ms)) (.int .u8 c) (.map (some m))).run Tryd.prog w2 = .ok () w3 ∧ Stored K at' out cv c w w3
theorem new_post (K : DK) (at' : Nat) (out : List UInt8) (cv : Value) (c : Int) (w W : World) (h : DSt K at' out cv w) (hn : isName c) (hwf : wfB c) {f : Int → Option (Option Nat)} {n : Nat} (hnf : n ≤ cntS f) (hs : SetsAt w K.B K.ms n f) (hf : f c = none)
    (hW : Below w.heap.size w W) {B : Nat} {v : Value} (hr : RunsAt B w v (runsR c)) : Calls Tryd.prog 34 #[v] W (NewPost K at' out cv c w) := by
  have hr' : RunsAt B W v (runsR c) := by
    obtain ⟨g, T, hv, hg, hb⟩ := hr
    exact ⟨g, T, hv, hg, (hW.block g (lt_at hb)).trans hb⟩
  have hBw := h.base
  refine (newSet_rows (namedRows c hn) B v W hr').mono ?_
  rintro e w2 ⟨m, he, hm, hset, hb⟩
  have hb2 : Below w.heap.size w w2 := hW.trans (hb.mono hW.size)
  have h2 := h.below hb2
  have hs2 := hs.mk' (mapsKept_below hb2)
  have hsl := hs.map.lt
  have hmw := hW.size
  have hmn : m ≠ K.ms := by omega
  obtain ⟨w3, hrun, hm3, hg3⟩ := hs2.map.update (t := 63) Tryd.underlying5 Tryd.underlying63 (by have := cntS_le f; unfold maxLen; omega) c hwf (some m)
  have hrun' : (Instr.mapUpdate 63 (.map (some K.ms)) (.int .u8 c) (.map (some m))).run Tryd.prog w2 = .ok () w3 := hrun
  obtain ⟨es, ck, ho⟩ := hs2.map.obj
  obtain ⟨p, v', hrow⟩ := h2.row
  refine ⟨m, he, h2.cells.2.2.2.1, w3, hrun', ⟨m, ⟨⟨p, v', hrow.mapped hg3 ho⟩, ⟨put f c (some m), n + 1, by rw [cntS_put hn hf]; omega, hm3, hs.base, ?_⟩, h2.chars.kept hg3 (by simpa using h.nec), h2.marks.kept hg3 (by simpa using h.nem), h.nec, h.nem⟩, ?_, hmn, ?_⟩, ?_⟩
  · intro k r hk hkr
    by_cases e : k = c
    · subst e
      simp only [put, if_true] at hkr
      cases hkr
      exact ⟨m, rfl, hn, hset.kept hg3 (by simpa using hmn), hmn⟩
    · simp only [put, if_neg e] at hkr
      obtain ⟨m2, h1, h2', h3, h4⟩ := hs2.each k r hk hkr
      exact ⟨m2, h1, h2', MapF.kept h3 hg3 (by simpa using h4), h4⟩
  · exact hset.kept hg3 (by simpa using hmn)
  · have := hm3.look (t := 63) Tryd.underlying5 Tryd.underlying63 Tryd.zeroValue65 c hwf
    simp only [put, if_true] at this
    exact this
  · exact (hb2.mono (by omega)).grown hg3 (by have := hb2.size; omega) (fun k e => by cases e; exact hs.base)

set_option maxRecDepth 100000 in
set_option maxHeartbeats 1000000 in
theorem choose_yes (K : DK) (at' : Nat) (out : List UInt8) (cv : Value) (c : Int) (w : World) (h : DSt K at' out cv w) (hn : isName c) :
    Calls Tryd.prog 35 #[.pointer (some ⟨K.b, 0, none⟩), .int .u8 c] w fun e w' => e = .returned (.bool true) ∧ Chose K at' out c w w' := by
  have hq := run_eql_runs_nil
  have hq2 := run_eql_set_nil
  have hwf : wfB c := by rcases hn with rfl | rfl | rfl <;> rfl
  have Hr := Lib.hid (runsOf_c c hn w)
  have hBw := h.base
  have H := Lib.hid h
  clear h
  go_enter Tryd.func35, Tryd.ntmps35
  go_wp2_with fail
  refine Hr.out.mono ?_
  clear Hr
  rintro e w1 ⟨v, rfl, hruns, hb1⟩
  have h1 := H.out.below hb1
  have Hb1 := Lib.hid (hb1.mono (show K.B ≤ w.heap.size by omega))
  have hs1 := hb1.size
  clear H hb1
  obtain ⟨g, T, rfl, hg, hgc⟩ := hruns
  obtain ⟨f, n, hnf, hs⟩ := h1.sets
  obtain ⟨_, _, _, c5, _, _⟩ := h1.cells
  have hfz := h1.frozen 4
  have hl := hs.map.look (t := 63) Tryd.underlying5 Tryd.underlying63 Tryd.zeroValue65 c hwf
  cases hf : f c with
  | some r =>
    obtain ⟨m, rfl, _, hset, hms⟩ := hs.each c r hwf hf
    rw [hf] at hl
    have hl' : (Instr.lookup 63 (.map (some K.ms)) (.int .u8 c) false).run Tryd.prog w1 = .ok (.map (some m)) w1 := hl
    have H1 := Lib.hid h1
    have Hset := Lib.hid hset
    clear h1 hs hset hl hf hgc
    go_wp2
    go_ret
    obtain ⟨d1, d2, d3⟩ := H1.out.setCur (.map (some m))
    exact ⟨rfl, ⟨_, d1, ⟨m, rfl, MapF.mk' Hset.out d2, hms⟩⟩, Hb1.out.trans d3⟩
  | none =>
    rw [hf] at hl
    have hl' : (Instr.lookup 63 (.map (some K.ms)) (.int .u8 c) false).run Tryd.prog w1 = .ok (.map none) w1 := hl
    have N := fun W (hW : Below w1.heap.size w1 W) => new_post K at' out cv c w1 W h1 hn hwf hnf hs hf hW ⟨g, T, rfl, hg, hgc⟩
    have H1 := Lib.hid h1
    have HN := Lib.hid N
    clear hl h1 hs hf hgc N
    go_upto_region 5 with fail
    go_cut [] from 17 (fun w' => Stored K at' out cv c w1 w')
    case first =>
      go_region_with (go_at_call 34; refine (HN.out _ ((Below.refl _ _).drew)).mono ?_; rintro e w2 ⟨m, rfl, d5, w3, hrun, hst⟩)
      all_goals (go_wp2_with fail; go_meet; exact hst)
    case rest =>
      obtain ⟨m, h3, hset, hms, hl3⟩ := hcut.ex
      have hbel := hcut.below
      obtain ⟨_, _, _, e5, _, _⟩ := h3.cells
      have hfz3 := h3.frozen 4
      have H3 := Lib.hid h3
      have Hset := Lib.hid hset
      have Hbel := Lib.hid hbel
      clear h3 hset hbel hcut HN H1
      go_wp2
      go_ret
      obtain ⟨d1, d2, d3⟩ := H3.out.setCur (.map (some m))
      exact ⟨rfl, ⟨_, d1, ⟨m, rfl, MapF.mk' Hset.out d2, hms⟩⟩, (Hb1.out.trans Hbel.out).trans d3⟩
end Go.Proofs.YtjndekmpnihamaaDoor
