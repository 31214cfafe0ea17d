/-
  newSet and newCodes: maps of the characters of rows.
-/
import Derived.Test.YtjndekmpnihamaaDoorMIter
import Derived.RangeFuncBox
namespace Go.Proofs.YtjndekmpnihamaaDoor
open Go.RowKit Go.Shelf Go.Maps

attribute [local go_sem] Oper.semAt_some
set_option linter.unusedVariables false

theorem run_makeMapN {t K e : TypeId} (ht : Tryd.prog.underlying t = some (.map K e)) (n : Int) (w : World) : (Instr.makeMap t (some (.int .i64 n))).run Tryd.prog w = .ok (.map (some w.heap.size)) (w.alloc (.map #[] 0)) := by
  simp [Instr.makeMap, run_underlying ht, go_sem]

def vals (l : List Pair) : List (Int × Int) := l.map (·.1)
theorem vals_snoc (l : List Pair) (x : Pair) : vals (l ++ [x]) = vals l ++ [x.1] := by simp [vals]
/-- The map of pairs, by their bytes; by their characters. -/
def putAll (l : List (Int × Int)) : Int → Option Int := l.foldl (fun m p => put m p.1 p.2) (fun _ => none)
def putAllC (l : List (Int × Int)) : Int → Option Int := l.foldl (fun m p => put m p.2 p.1) (fun _ => none)
theorem putAll_snoc (l : List (Int × Int)) (p : Int × Int) : putAll (l ++ [p]) = put (putAll l) p.1 p.2 := by simp [putAll]
theorem putAllC_snoc (l : List (Int × Int)) (p : Int × Int) : putAllC (l ++ [p]) = put (putAllC l) p.2 p.1 := by simp [putAllC]

set_option maxHeartbeats 1000000 in
set_option maxRecDepth 100000 in
theorem all_in (F : Fence) (n : Nat) (h : F.fn 40) (hro : F.round = none) (a : Option Addr) (len cap : Nat) (w : World) :
    CallsIn F n Tryd.prog 40 #[.slice a len cap] w fun e w' => e = .returned (.func (.func 51) #[] #[.pointer (some ⟨w.heap.size, 0, none⟩)]) ∧ w.alloc (.cells #[.slice a len cap] 49) = w' := by
  refine callsIn_of_wp Tryd.func40 rfl h ?_ hro
  simp only [Tryd.ntmps40, List.size_toArray, List.length_cons, List.length_nil, Nat.reduceAdd, Nat.reduceSub, Array.replicate_succ, Array.replicate_zero, List.push_toArray, List.append_toArray, List.nil_append, List.cons_append]
  gi_wp2
  go_ret
  exact ⟨rfl, rfl⟩

theorem all_stops (F : Fence) (n : Nat) (h6 : F.fn 51) (hro : F.round = none) (hn : 1 ≤ n) (Bs mb g : Nat) (rows : List (Int × List UInt8)) (xs : List Pair) (hxs : xs.map (·.1) = allPairs rows) (hl : rows.length ≤ 1000) (w : World)
    (TB TG : TypeId) (hbox : w.heap[Bs]? = some (.cells #[.slice (some ⟨g, 0, none⟩) rows.length rows.length] TB (0, 0))) (hBs : Bs ≠ mb) (hg : w.heap[g]? = some (.cells (runCells rows).toArray TG (0, 0))) (hgm : g ≠ mb) (hmb : mb < w.heap.size) :
    SeqStopsK F n Tryd.prog 51 #[.pointer (some ⟨Bs, 0, none⟩)] (fun x : Pair => #[.int .u8 x.1.1, .int .i32 x.1.2]) (Kept mb) (fun ys => ys = xs) (fun pre => pre <+: xs) xs.length w := fun l J Jx W hW hJ _ hY h0 =>
  all1_in F n h6 hro hn l Bs mb W.heap.size g rows xs hxs hl J Jx hJ hY W (Nat.le_refl _) (Nat.lt_of_lt_of_le hmb hW.size) TB TG _ ((hW.block Bs (lt_at hbox)).trans hbox) hBs ((hW.block g (lt_at hg)).trans hg) hgm rfl h0

def SetPost (m : Int → Option Int) (n : Nat) (w : World) (e : Ending) (w' : World) : Prop := ∃ b, e = .returned (.map (some b)) ∧ w.heap.size ≤ b ∧ MapF (encInt .i32) .u8 5 w' b n m ∧ Below w.heap.size w w'

set_option maxRecDepth 100000 in
set_option maxHeartbeats 2000000 in
theorem newSet_c (w : World) (g : Nat) (T : TypeId) (rows : List (Int × List UInt8)) (xs : List Pair) (hxs : xs.map (·.1) = allPairs rows) (hl : rows.length ≤ 1000) (hr : roomN rows ≤ 100000) (hx : xs.length ≤ 100000)
    (hg : w.heap[g]? = some (.cells (runCells rows).toArray T (0, 0))) :
    Calls Tryd.prog 34 #[.slice (some ⟨g, 0, none⟩) rows.length rows.length] w (SetPost (putAll (allPairs rows)) xs.length w) := by
  refine (callsIn_wide (n := 5)).1 ?_
  have hro : Fence.wide.round = none := rfl
  have h1 : 1 ≤ 5 := by omega
  have hmm := run_makeMapN Tryd.underlying65
  have hlt := lt_at hg
  have hroom := room_c g rows w hlt hl hr (fun k hk => by have := runCells_at rows k hk; rw [cell_at hg, cell_at hg]; simpa using this)
  have Hroom := Lib.hid (callsIn_wide.2 hroom : CallsIn Fence.wide (5 - 1) _ _ _ _ _)
  have Hg := Lib.hid hg
  have Hxs := Lib.hid hxs
  clear hroom hg hxs
  refine callsIn_of_wp_marks Tryd.func34 rfl trivial ?_ hro
  simp only [Tryd.ntmps34, List.size_toArray, List.length_cons, List.length_nil, Nat.reduceAdd, Nat.reduceSub, Array.replicate_succ, Array.replicate_zero, List.push_toArray, List.append_toArray, List.nil_append, List.cons_append]
  gi_wp2_with fail
  refine ⟨trivial, ?_⟩
  refine Hroom.out.mono ?_
  clear Hroom
  rintro e w1 ⟨rfl, hb1⟩
  have hg1 := (hb1.block g hlt).trans Hg.out
  have hs1 := hb1.size
  have Hb1 := Lib.hid hb1
  have Hg1 := Lib.hid hg1
  clear hb1 hg1 Hg
  have hsz1 : g < w1.heap.size := by omega
  gi_wp2_with fail
  refine ⟨trivial, ?_⟩
  refine (all_in Fence.wide (5 - 1) trivial hro _ _ _ _).mono ?_
  rintro e w2 ⟨rfl, rfl⟩
  have hm0 := MapF.made (encInt .i32) .u8 5 w1
  have bS := (Boxed.new (w1.alloc (.map #[] 0)) 65 (.map (some w1.heap.size))).alloc (.cells #[.slice (some ⟨g, 0, none⟩) rows.length rows.length] 49)
  have bN : (((w1.alloc (.map #[] 0)).alloc (.cells #[.map (some w1.heap.size)] 65)).alloc (.cells #[.slice (some ⟨g, 0, none⟩) rows.length rows.length] 49)).heap[w1.heap.size + 1 + 1]? = some (.cells #[.slice (some ⟨g, 0, none⟩) rows.length rows.length] 49 (0, 0)) := by
    have := new2 (w1.alloc (.map #[] 0)) (.cells #[.map (some w1.heap.size)] 65) (.cells #[.slice (some ⟨g, 0, none⟩) rows.length rows.length] 49 (0, 0))
    rwa [World.size_alloc] at this
  simp only [World.size_alloc] at bS
  have hg2 : (((w1.alloc (.map #[] 0)).alloc (.cells #[.map (some w1.heap.size)] 65)).alloc (.cells #[.slice (some ⟨g, 0, none⟩) rows.length rows.length] 49)).heap[g]? = some (.cells (runCells rows).toArray T (0, 0)) := by
    rw [Lib.alloc_old _ _ g (by simp; omega), Lib.alloc_old _ _ g (by simp; omega), Lib.alloc_old _ _ g hsz1]; exact Hg1.out
  have Hg2 := Lib.hid hg2
  have HbN := Lib.hid bN
  clear hg2 bN
  gi_wp2
  have hb0 : Below w1.heap.size w1 (((w1.alloc (.map #[] 0)).alloc (.cells #[.map (some w1.heap.size)] 65)).alloc (.cells #[.slice (some ⟨g, 0, none⟩) rows.length rows.length] 49)) := (((Below.refl _ w1).alloc (Nat.le_refl _) _).alloc (by simp) _).alloc (by simp; omega) _
  refine wpIn_rangeFunc_ownG hro h1 (gf := 51) (lb := #[.pointer (some ⟨w1.heap.size + 1 + 1, 0, none⟩)]) rfl trivial (enters_of Tryd.func51 (by kernel_rfl) rfl)
    (all_stops Fence.wide (5 - 1) trivial hro (by omega) (w1.heap.size + 1 + 1) w1.heap.size g rows xs Hxs.out hl _ _ _ HbN.out (by omega) Hg2.out (by omega) (by simp; omega)) (fun h k => h.trans k) kept_b (Below.refl _ _) (fun _ => rfl)
    (fun pre W => (W.cell? ⟨w1.heap.size + 1, 0, none⟩ = some (.map (some w1.heap.size)) ∧ MapF (encInt .i32) .u8 5 W w1.heap.size pre.length (putAll (vals pre))) ∧ Below w1.heap.size w1 W)
    (fun _ _ _ => False)
    (OwnFrom.and (fun s A B row hs hg hr => ⟨cell_kept hs.1 hg (fun r e => (hr r e).2), hs.2.kept hg (fun e => by have := (hr _ e.symm).1; simp at this; omega)⟩) (ownFrom_below (Nat.le_refl _) (by simp; omega)))
    (fun _ _ _ _ _ hs _ _ => hs)
    ⟨⟨bS.cell, (hm0.alloc _).alloc _⟩, hb0⟩
    (fun x => { tmps := #[.slice (some ⟨g, 0, none⟩) rows.length rows.length, undef, .map none, .pointer (some ⟨w1.heap.size + 1, 0, none⟩), .int .u8 x.1.1, .int .i32 x.1.2, .slice (some ⟨g, 0, none⟩) rows.length rows.length, .int .i64 (roomN rows), .map (some w1.heap.size), .slice (some ⟨g, 0, none⟩) rows.length rows.length, .func (.func 51) #[] #[.pointer (some ⟨w1.heap.size + 1 + 1, 0, none⟩)], .int .u8 x.1.1, .int .i32 x.1.2, undef, undef, undef, undef], defers := [] }) ?assign ?body ?done ?stop
  case assign =>
    intro l x W K hK
    gi_wp2
    exact hK
  case body =>
    rintro l pre x W ⟨⟨hc, hm⟩, hB⟩ hlt
    have hxb := x.2
    obtain ⟨W2, hrun, hm2, hgr⟩ := hm.update (t := 65) Tryd.underlying5 Tryd.underlying65 (by unfold maxLen; omega) x.1.1 (by simp [Lit.wf, IntKind.min, IntKind.max, IntKind.signed, IntKind.bits]; omega) x.1.2
    obtain ⟨es, ck, ho⟩ := hm.obj
    dsimp only [encInt] at hrun
    have Hm2 := Lib.hid hm2
    have Ho := Lib.hid ho
    have HB := Lib.hid hB
    have Hc := Lib.hid hc
    have hBs := hB.size
    clear hm hm2 ho hB hxb
    gi_wp2
    exact ⟨KeepsFrom.of_grownBy hgr (fun j e => by cases e; simp; omega), Kept.grown hgr (fun r e => by cases e; rfl),
      ⟨cell_kept Hc.out hgr (fun r e => by cases e; exact ⟨_, Ho.out, rfl⟩), by rw [vals_snoc, List.length_append, putAll_snoc]; exact Hm2.out⟩, HB.out.grown hgr HB.out.size (fun k e => by cases e; exact Nat.le_refl _)⟩
  case done =>
    rintro D ys W hD rfl ⟨⟨hc, hm⟩, hB⟩ hK
    have Hm := Lib.hid hm
    have HB := Lib.hid hB
    clear hm hB
    gi_wp2
    refine ⟨by simp, .inl ⟨_, _, rfl, run_takeDeferred hK, ?_⟩⟩
    refine ⟨_, results_tmp rfl _ _ _, w1.heap.size, rfl, hs1, ?_, ?_⟩
    · rw [← show vals ys = allPairs rows from Hxs.out]
      exact Hm.out.kept (grownBy_putObj' _ D _) (fun e => by cases e; simp at hD; omega)
    · exact (Hb1.out.trans ((HB.out.trans (belowK_b (w := w1) (Nat.le_refl _) W D _ _ (by simp at hD; omega) hK rfl rfl)).mono hs1))
  case stop =>
    rintro D c pre W _ _ h _
    exact h.elim
def CodesPost (m : Int → Option Int) (n : Nat) (w : World) (e : Ending) (w' : World) : Prop := ∃ b, e = .returned (.map (some b)) ∧ w.heap.size ≤ b ∧ MapF (encInt .u8) .i32 21 w' b n m ∧ Below w.heap.size w w'

set_option maxRecDepth 100000 in
set_option maxHeartbeats 2000000 in
theorem newCodes_c (w : World) (g : Nat) (T : TypeId) (rows : List (Int × List UInt8)) (xs : List Pair) (hxs : xs.map (·.1) = allPairs rows) (hl : rows.length ≤ 1000) (hr : roomN rows ≤ 100000) (hx : xs.length ≤ 100000)
    (hg : w.heap[g]? = some (.cells (runCells rows).toArray T (0, 0))) :
    Calls Tryd.prog 24 #[.slice (some ⟨g, 0, none⟩) rows.length rows.length] w (CodesPost (putAllC (allPairs rows)) xs.length w) := by
  refine (callsIn_wide (n := 5)).1 ?_
  have hro : Fence.wide.round = none := rfl
  have h1 : 1 ≤ 5 := by omega
  have hmm := run_makeMapN Tryd.underlying47
  have hlt := lt_at hg
  have hroom := room_c g rows w hlt hl hr (fun k hk => by have := runCells_at rows k hk; rw [cell_at hg, cell_at hg]; simpa using this)
  have Hroom := Lib.hid (callsIn_wide.2 hroom : CallsIn Fence.wide (5 - 1) _ _ _ _ _)
  have Hg := Lib.hid hg
  have Hxs := Lib.hid hxs
  clear hroom hg hxs
  refine callsIn_of_wp_marks Tryd.func24 rfl trivial ?_ hro
  simp only [Tryd.ntmps24, List.size_toArray, List.length_cons, List.length_nil, Nat.reduceAdd, Nat.reduceSub, Array.replicate_succ, Array.replicate_zero, List.push_toArray, List.append_toArray, List.nil_append, List.cons_append]
  gi_wp2_with fail
  refine ⟨trivial, ?_⟩
  refine Hroom.out.mono ?_
  clear Hroom
  rintro e w1 ⟨rfl, hb1⟩
  have hg1 := (hb1.block g hlt).trans Hg.out
  have hs1 := hb1.size
  have Hb1 := Lib.hid hb1
  have Hg1 := Lib.hid hg1
  clear hb1 hg1 Hg
  have hsz1 : g < w1.heap.size := by omega
  gi_wp2_with fail
  refine ⟨trivial, ?_⟩
  refine (all_in Fence.wide (5 - 1) trivial hro _ _ _ _).mono ?_
  rintro e w2 ⟨rfl, rfl⟩
  have hm0 := MapF.made (encInt .u8) .i32 21 w1
  have bS := (Boxed.new (w1.alloc (.map #[] 0)) 47 (.map (some w1.heap.size))).alloc (.cells #[.slice (some ⟨g, 0, none⟩) rows.length rows.length] 49)
  have bN : (((w1.alloc (.map #[] 0)).alloc (.cells #[.map (some w1.heap.size)] 47)).alloc (.cells #[.slice (some ⟨g, 0, none⟩) rows.length rows.length] 49)).heap[w1.heap.size + 1 + 1]? = some (.cells #[.slice (some ⟨g, 0, none⟩) rows.length rows.length] 49 (0, 0)) := by
    have := new2 (w1.alloc (.map #[] 0)) (.cells #[.map (some w1.heap.size)] 47) (.cells #[.slice (some ⟨g, 0, none⟩) rows.length rows.length] 49 (0, 0))
    rwa [World.size_alloc] at this
  simp only [World.size_alloc] at bS
  have hg2 : (((w1.alloc (.map #[] 0)).alloc (.cells #[.map (some w1.heap.size)] 47)).alloc (.cells #[.slice (some ⟨g, 0, none⟩) rows.length rows.length] 49)).heap[g]? = some (.cells (runCells rows).toArray T (0, 0)) := by
    rw [Lib.alloc_old _ _ g (by simp; omega), Lib.alloc_old _ _ g (by simp; omega), Lib.alloc_old _ _ g hsz1]; exact Hg1.out
  have Hg2 := Lib.hid hg2
  have HbN := Lib.hid bN
  clear hg2 bN
  gi_wp2
  have hb0 : Below w1.heap.size w1 (((w1.alloc (.map #[] 0)).alloc (.cells #[.map (some w1.heap.size)] 47)).alloc (.cells #[.slice (some ⟨g, 0, none⟩) rows.length rows.length] 49)) := (((Below.refl _ w1).alloc (Nat.le_refl _) _).alloc (by simp) _).alloc (by simp; omega) _
  refine wpIn_rangeFunc_ownG hro h1 (gf := 51) (lb := #[.pointer (some ⟨w1.heap.size + 1 + 1, 0, none⟩)]) rfl trivial (enters_of Tryd.func51 (by kernel_rfl) rfl)
    (all_stops Fence.wide (5 - 1) trivial hro (by omega) (w1.heap.size + 1 + 1) w1.heap.size g rows xs Hxs.out hl _ _ _ HbN.out (by omega) Hg2.out (by omega) (by simp; omega)) (fun h k => h.trans k) kept_b (Below.refl _ _) (fun _ => rfl)
    (fun pre W => (W.cell? ⟨w1.heap.size + 1, 0, none⟩ = some (.map (some w1.heap.size)) ∧ MapF (encInt .u8) .i32 21 W w1.heap.size pre.length (putAllC (vals pre))) ∧ Below w1.heap.size w1 W)
    (fun _ _ _ => False)
    (OwnFrom.and (fun s A B row hs hg hr => ⟨cell_kept hs.1 hg (fun r e => (hr r e).2), hs.2.kept hg (fun e => by have := (hr _ e.symm).1; simp at this; omega)⟩) (ownFrom_below (Nat.le_refl _) (by simp; omega)))
    (fun _ _ _ _ _ hs _ _ => hs)
    ⟨⟨bS.cell, (hm0.alloc _).alloc _⟩, hb0⟩
    (fun x => { tmps := #[.slice (some ⟨g, 0, none⟩) rows.length rows.length, undef, .map none, .pointer (some ⟨w1.heap.size + 1, 0, none⟩), .int .u8 x.1.1, .int .i32 x.1.2, .slice (some ⟨g, 0, none⟩) rows.length rows.length, .int .i64 (roomN rows), .map (some w1.heap.size), .slice (some ⟨g, 0, none⟩) rows.length rows.length, .func (.func 51) #[] #[.pointer (some ⟨w1.heap.size + 1 + 1, 0, none⟩)], .int .u8 x.1.1, .int .i32 x.1.2, undef, undef, undef, undef], defers := [] }) ?assign ?body ?done ?stop
  case assign =>
    intro l x W K hK
    gi_wp2
    exact hK
  case body =>
    rintro l pre x W ⟨⟨hc, hm⟩, hB⟩ hlt
    have hxb := x.2
    obtain ⟨W2, hrun, hm2, hgr⟩ := hm.update (t := 47) Tryd.underlying21 Tryd.underlying47 (by unfold maxLen; omega) x.1.2 (by simp [Lit.wf, IntKind.min, IntKind.max, IntKind.signed, IntKind.bits]; omega) x.1.1
    obtain ⟨es, ck, ho⟩ := hm.obj
    dsimp only [encInt] at hrun
    have Hm2 := Lib.hid hm2
    have Ho := Lib.hid ho
    have HB := Lib.hid hB
    have Hc := Lib.hid hc
    have hBs := hB.size
    clear hm hm2 ho hB hxb
    gi_wp2
    exact ⟨KeepsFrom.of_grownBy hgr (fun j e => by cases e; simp; omega), Kept.grown hgr (fun r e => by cases e; rfl),
      ⟨cell_kept Hc.out hgr (fun r e => by cases e; exact ⟨_, Ho.out, rfl⟩), by rw [vals_snoc, List.length_append, putAllC_snoc]; exact Hm2.out⟩, HB.out.grown hgr HB.out.size (fun k e => by cases e; exact Nat.le_refl _)⟩
  case done =>
    rintro D ys W hD rfl ⟨⟨hc, hm⟩, hB⟩ hK
    have Hm := Lib.hid hm
    have HB := Lib.hid hB
    clear hm hB
    gi_wp2
    refine ⟨by simp, .inl ⟨_, _, rfl, run_takeDeferred hK, ?_⟩⟩
    refine ⟨_, results_tmp rfl _ _ _, w1.heap.size, rfl, hs1, ?_, ?_⟩
    · rw [← show vals ys = allPairs rows from Hxs.out]
      exact Hm.out.kept (grownBy_putObj' _ D _) (fun e => by cases e; simp at hD; omega)
    · exact (Hb1.out.trans ((HB.out.trans (belowK_b (w := w1) (Nat.le_refl _) W D _ _ (by simp at hD; omega) hK rfl rfl)).mono hs1))
  case stop =>
    rintro D c pre W _ _ h _
    exact h.elim
end Go.Proofs.YtjndekmpnihamaaDoor
