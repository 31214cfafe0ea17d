/-
  The law's sanity: what it keeps.
-/
import Derived.Test.YtfccpepmjklodaaSData
import Derived.Test.YtfccpepmjklodaaSFloat
namespace Go.Proofs.Ytfccpepmjklodaa
open Go.RowKit Go.Shelf
set_option linter.unusedVariables false
set_option linter.unusedSimpArgs false

theorem infoSub : (Try.prog.info? 48).map (fun i => (i.zero, i.size, i.bytes)) = some (some (.agg #[.int .u8 0, .string ⟨#[]⟩]), 2, 24) := by kernel_rfl
structure SanW (w W : World) (I E eb D : Nat) (na : Option Addr) (nc : Nat) : Prop where
  bel : Below w.heap.size w W
  std : W.heap[w.heap.size]? = some (.cells stdArr 27 (0, 0))
  idc : W.heap[I]? = some (.cells #[str [48, 48, 49], .string ⟨#[]⟩, str [55], .slice none 0 0] 46 (0, 0))
  emc : W.heap[E]? = some (.cells #[str [50, 52, 53], str [49, 48], .string ⟨#[]⟩, .slice (some ⟨eb, 0, none⟩) 1 1] 46 (0, 0))
  ems : SubsAt W (.slice (some ⟨eb, 0, none⟩) 1 1) [⟨97, [69, 109, 109, 97]⟩]
  dbc : W.heap[D]? = some (.cells #[str [50, 52, 53], str [49, 48], .string ⟨#[]⟩, .slice na 2 nc] 46 (0, 0))
  dbs : SubsAt W (.slice na 2 nc) [⟨97, [120]⟩, ⟨97, [121]⟩]
theorem SanW.below {w W W' : World} {I E eb D : Nat} {na : Option Addr} {nc : Nat} (h : SanW w W I E eb D na nc) (hb : Below W.heap.size W W') : SanW w W' I E eb D na nc :=
  ⟨below_tr h.bel hb, heap_below hb (Nat.le_refl _) h.std, heap_below hb (Nat.le_refl _) h.idc, heap_below hb (Nat.le_refl _) h.emc, h.ems.below hb (Nat.le_refl _), heap_below hb (Nat.le_refl _) h.dbc, h.dbs.below hb (Nat.le_refl _)⟩
theorem SanW.cells {w W : World} {I E eb D : Nat} {na : Option Addr} {nc : Nat} (h : SanW w W I E eb D na nc) :
    (W.cell? ⟨I, 0, none⟩ = some (str [48, 48, 49]) ∧ W.cell? ⟨I, 1, none⟩ = some (.string ⟨#[]⟩) ∧ W.cell? ⟨I, 2, none⟩ = some (str [55]) ∧ W.cell? ⟨I, 3, none⟩ = some (.slice none 0 0)) ∧
    (W.cell? ⟨E, 0, none⟩ = some (str [50, 52, 53]) ∧ W.cell? ⟨E, 1, none⟩ = some (str [49, 48]) ∧ W.cell? ⟨E, 2, none⟩ = some (.string ⟨#[]⟩) ∧ W.cell? ⟨E, 3, none⟩ = some (.slice (some ⟨eb, 0, none⟩) 1 1)) ∧
    (W.cell? ⟨D, 0, none⟩ = some (str [50, 52, 53]) ∧ W.cell? ⟨D, 1, none⟩ = some (str [49, 48]) ∧ W.cell? ⟨D, 2, none⟩ = some (.string ⟨#[]⟩) ∧ W.cell? ⟨D, 3, none⟩ = some (.slice na 2 nc)) := by
  simp only [cell_at h.idc, cell_at h.emc, cell_at h.dbc]
  exact ⟨⟨rfl, rfl, rfl, rfl⟩, ⟨rfl, rfl, rfl, rfl⟩, rfl, rfl, rfl, rfl⟩
def fldL (p : FldM × Value) : List Value := [str p.1.tag, str p.1.ind, str p.1.data, p.2]
theorem flat4 : ∀ (l : List (FldM × Value)) (i j : Nat) (h : i < l.length), j < 4 → (l.flatMap fldL)[i * 4 + j]? = (fldL l[i])[j]?
  | r :: l, 0, j, _, hj => by
    rw [List.flatMap_cons, Nat.zero_mul, Nat.zero_add, List.getElem?_append_left (by show j < 4; exact hj)]
    rfl
  | r :: l, i + 1, j, h, hj => by
    have ih := flat4 l i j (by simpa using h) hj
    rw [List.flatMap_cons, List.getElem?_append_right (by show 4 ≤ (i + 1) * 4 + j; omega)]
    rw [show (i + 1) * 4 + j - (fldL r).length = i * 4 + j by show (i + 1) * 4 + j - 4 = i * 4 + j; omega, ih]
    rfl
theorem flds_at {w : World} {b : Nat} (l : List (FldM × Value)) (h : w.heap[b]? = some (.cells ⟨l.flatMap fldL⟩ 46 (0, 0))) (hl : l.length ≤ maxLen) (c : Nat) (hs : ∀ p ∈ l, SubsAt w p.2 p.1.subs) : FldsAt w (.slice (some ⟨b, 0, none⟩) l.length c) (l.map (·.1)) := by
  refine .inr ⟨b, 0, c, by rw [List.length_map], by rw [List.length_map]; exact hl, lt_at h, fun i hi => ?_⟩
  rw [List.length_map] at hi
  simp only [cell_at h, Nat.zero_add, List.getElem_map]
  have f := fun j hj => flat4 l i j hi hj
  have hg : ∀ k, (Array.mk (l.flatMap fldL))[k]? = (l.flatMap fldL)[k]? := fun k => List.getElem?_toArray
  exact ⟨(hg _).trans (f 0 (by omega)), (hg _).trans (f 1 (by omega)), (hg _).trans (f 2 (by omega)), _, (hg _).trans (f 3 (by omega)), hs _ (List.getElem_mem hi)⟩
theorem subs_two {w : World} {B : Nat} {v : Value} {c d : UInt8} {x y : List UInt8} (h : w.ownsRow B 48 2 v 2 [.int .u8 (c.toNat : Int), str x, .int .u8 (d.toNat : Int), str y]) : SubsAt w v [⟨c, x⟩, ⟨d, y⟩] := by
  rcases h.2 with ⟨hv, h0⟩ | ⟨g, cap, cur, hv, hbg, hg, hnc, hcm, hcs, htake⟩
  · omega
  · refine .inr ⟨g, 0, cap, hv, by show 2 ≤ maxLen; decide, lt_at hg, fun i hi => ?_⟩
    have hx : ∀ j, j < 2 * 2 → cur[j]? = [Value.int .u8 (c.toNat : Int), str x, .int .u8 (d.toNat : Int), str y][j]? := by
      intro j hj
      rw [← htake, List.getElem?_take_of_lt hj, Array.getElem?_toList]
    simp only [cell_at hg, Nat.zero_add]
    rcases i with _ | _ | i
    · exact ⟨hx 0 (by decide), hx 1 (by decide)⟩
    · exact ⟨hx 2 (by decide), hx 3 (by decide)⟩
    · exact absurd hi (by simp)
def idM : FldM := ⟨[48, 48, 49], [], [55], []⟩
def emM (i : List UInt8) : FldM := ⟨[50, 52, 53], i, [], [⟨97, [69, 109, 109, 97]⟩]⟩
def dbM : FldM := ⟨[50, 52, 53], [49, 48], [], [⟨97, [120]⟩, ⟨97, [121]⟩]⟩
def zM : FldM := ⟨[57, 57, 57], [32, 55], [], [⟨113, [122]⟩]⟩
def bM : FldM := ⟨[49, 97, 50], [32, 32], [], [⟨97, [98]⟩]⟩
theorem resA : checkS stdR [idM, emM [49, 48]] = [] := by kernel_rfl
theorem resB : checkS stdR [emM [49, 48], emM [49, 32]] = [(1, 22), (-1, 21)] := by kernel_rfl
theorem resC : checkS stdR [idM, dbM, zM, bM] = [(1, 22), (3, 20)] := by kernel_rfl
theorem resD : checkS stdR [] = [(-1, 21), (-1, 21)] := by kernel_rfl
theorem tagsA : ∀ f ∈ [idM, emM [49, 48]], f.tag.length ≤ 140737488355328 := by decide
theorem tagsB : ∀ f ∈ [emM [49, 48], emM [49, 32]], f.tag.length ≤ 140737488355328 := by decide
theorem tagsC : ∀ f ∈ [idM, dbM, zM, bM], f.tag.length ≤ 140737488355328 := by decide
theorem stdTags : ∀ q ∈ stdR, q.tag.length ≤ 140737488355328 := by decide
def ChkPost (res : List (Int × Nat)) (W : World) (e : Ending) (w' : World) : Prop := ∃ pa pc, e = .returned (.slice pa res.length pc) ∧ ProbAt w' (.slice pa res.length pc) res ∧ Below W.heap.size W w'
theorem std_check {W : World} {b fb c : Nat} (hstd : W.heap[b]? = some (.cells stdArr 27 (0, 0))) (l : List (FldM × Value)) (h : W.heap[fb]? = some (.cells ⟨l.flatMap fldL⟩ 46 (0, 0))) (hl : l.length ≤ 100)
    (hs : ∀ p ∈ l, SubsAt W p.2 p.1.subs) (ht : ∀ f ∈ l.map (·.1), f.tag.length ≤ 140737488355328) (res : List (Int × Nat)) (hres : checkS stdR (l.map (·.1)) = res) :
    Calls Try.prog 18 #[.slice (some ⟨b, 0, none⟩) 24 24, .agg #[.int .u8 0, .int .u8 0, .slice (some ⟨fb, 0, none⟩) l.length c]] W (ChkPost res W) := by
  have hf := flds_at l h (by unfold maxLen; omega) c hs
  have N := check_c stdR b 0 (some ⟨b, 0, none⟩) 24 _ ⟨0, 0, l.map (·.1)⟩ (fun _ => rfl) W (std_at hstd 24) ⟨_, rfl, hf⟩ stdTags ht (by show 24 + (l.map (·.1)).length ≤ 1000000; rw [List.length_map]; omega)
  rw [show (⟨0, 0, l.map (·.1)⟩ : RecM).fields = l.map (·.1) from rfl, hres] at N
  refine N.mono ?_
  rintro e w' ⟨pv, rfl, hown, hb⟩
  have hp := prob_of_own hown
  obtain ⟨pa, pc, rfl, _⟩ := id hp
  exact ⟨pa, pc, rfl, hp, hb⟩
theorem std_fits {W : World} {b fb c : Nat} (hstd : W.heap[b]? = some (.cells stdArr 27 (0, 0))) (l : List (FldM × Value)) (h : W.heap[fb]? = some (.cells ⟨l.flatMap fldL⟩ 46 (0, 0))) (hl : l.length ≤ 100)
    (hs : ∀ p ∈ l, SubsAt W p.2 p.1.subs) (ht : ∀ f ∈ l.map (·.1), f.tag.length ≤ 140737488355328) (hres : checkS stdR (l.map (·.1)) = []) :
    Calls Try.prog 19 #[.slice (some ⟨b, 0, none⟩) 24 24, .agg #[.int .u8 0, .int .u8 0, .slice (some ⟨fb, 0, none⟩) l.length c]] W (fun e w' => e = .returned (.bool true) ∧ Below W.heap.size W w') := by
  have hf := flds_at l h (by unfold maxLen; omega) c hs
  have N := fits_c stdR b 0 (some ⟨b, 0, none⟩) 24 _ ⟨0, 0, l.map (·.1)⟩ (fun _ => rfl) W (std_at hstd 24) ⟨_, rfl, hf⟩ stdTags ht (by show 24 + (l.map (·.1)).length ≤ 1000000; rw [List.length_map]; omega)
  rw [show (⟨0, 0, l.map (·.1)⟩ : RecM).fields = l.map (·.1) from rfl, hres] at N
  exact N
theorem std_none {W : World} {b : Nat} (hstd : W.heap[b]? = some (.cells stdArr 27 (0, 0))) :
    Calls Try.prog 18 #[.slice (some ⟨b, 0, none⟩) 24 24, .agg #[.int .u8 0, .int .u8 0, .slice none 0 0]] W (ChkPost [(-1, 21), (-1, 21)] W) := by
  have N := check_c stdR b 0 (some ⟨b, 0, none⟩) 24 _ ⟨0, 0, []⟩ (fun _ => rfl) W (std_at hstd 24) ⟨_, rfl, .inl ⟨none, 0, rfl, rfl⟩⟩ stdTags (fun f hf => by cases hf) (by decide)
  rw [show (⟨0, 0, []⟩ : RecM).fields = [] from rfl, resD] at N
  refine N.mono ?_
  rintro e w' ⟨pv, rfl, hown, hb⟩
  have hp := prob_of_own hown
  obtain ⟨pa, pc, rfl, _⟩ := id hp
  exact ⟨pa, pc, rfl, hp, hb⟩
theorem SanW.checkA {w W : World} {I E eb D : Nat} {na : Option Addr} {nc : Nat} (h : SanW w W I E eb D na nc) {fb : Nat} (hf : W.heap[fb]? = some (.cells #[str [48, 48, 49], .string ⟨#[]⟩, str [55], .slice none 0 0, str [50, 52, 53], str [49, 48], .string ⟨#[]⟩, .slice (some ⟨eb, 0, none⟩) 1 1] 46 (0, 0))) :
    Calls Try.prog 18 #[.slice (some ⟨w.heap.size, 0, none⟩) 24 24, .agg #[.int .u8 0, .int .u8 0, .slice (some ⟨fb, 0, none⟩) 2 2]] W (ChkPost [] W) ∧
    Calls Try.prog 19 #[.slice (some ⟨w.heap.size, 0, none⟩) 24 24, .agg #[.int .u8 0, .int .u8 0, .slice (some ⟨fb, 0, none⟩) 2 2]] W (fun e w' => e = .returned (.bool true) ∧ Below W.heap.size W w') := by
  have hs : ∀ p ∈ [(idM, Value.slice none 0 0), (emM [49, 48], Value.slice (some ⟨eb, 0, none⟩) 1 1)], SubsAt W p.2 p.1.subs := by
    intro p hp
    rcases List.mem_cons.1 hp with rfl | hp
    · exact .inl ⟨none, 0, rfl, rfl⟩
    · rw [List.mem_singleton.1 hp]; exact h.ems
  exact ⟨std_check h.std [(idM, Value.slice none 0 0), (emM [49, 48], Value.slice (some ⟨eb, 0, none⟩) 1 1)] hf (by show 2 ≤ 100; decide) hs tagsA [] resA, std_fits (W := W) (b := w.heap.size) (fb := fb) (c := 2) h.std [(idM, Value.slice none 0 0), (emM [49, 48], Value.slice (some ⟨eb, 0, none⟩) 1 1)] hf (by show 2 ≤ 100; decide) hs tagsA resA⟩
theorem SanW.checkB {w W : World} {I E eb D : Nat} {na : Option Addr} {nc : Nat} (h : SanW w W I E eb D na nc) {fb : Nat} {x : Nat} (hx : SubsAt W (.slice (some ⟨x, 0, none⟩) 1 1) [⟨97, [69, 109, 109, 97]⟩])
    (hf : W.heap[fb]? = some (.cells #[str [50, 52, 53], str [49, 48], .string ⟨#[]⟩, .slice (some ⟨eb, 0, none⟩) 1 1, str [50, 52, 53], str [49, 32], .string ⟨#[]⟩, .slice (some ⟨x, 0, none⟩) 1 1] 46 (0, 0))) :
    Calls Try.prog 18 #[.slice (some ⟨w.heap.size, 0, none⟩) 24 24, .agg #[.int .u8 0, .int .u8 0, .slice (some ⟨fb, 0, none⟩) 2 2]] W (ChkPost [(1, 22), (-1, 21)] W) := by
  have hs : ∀ p ∈ [(emM [49, 48], Value.slice (some ⟨eb, 0, none⟩) 1 1), (emM [49, 32], Value.slice (some ⟨x, 0, none⟩) 1 1)], SubsAt W p.2 p.1.subs := by
    intro p hp
    rcases List.mem_cons.1 hp with rfl | hp
    · exact h.ems
    · rw [List.mem_singleton.1 hp]; exact hx
  exact std_check h.std _ hf (by show 2 ≤ 100; decide) hs tagsB _ resB
theorem SanW.checkC {w W : World} {I E eb D : Nat} {na : Option Addr} {nc : Nat} (h : SanW w W I E eb D na nc) {fb : Nat} {x y : Nat} (hx : SubsAt W (.slice (some ⟨x, 0, none⟩) 1 1) [⟨113, [122]⟩]) (hy : SubsAt W (.slice (some ⟨y, 0, none⟩) 1 1) [⟨97, [98]⟩])
    (hf : W.heap[fb]? = some (.cells #[str [48, 48, 49], .string ⟨#[]⟩, str [55], .slice none 0 0, str [50, 52, 53], str [49, 48], .string ⟨#[]⟩, .slice na 2 nc, str [57, 57, 57], str [32, 55], .string ⟨#[]⟩, .slice (some ⟨x, 0, none⟩) 1 1, str [49, 97, 50], str [32, 32], .string ⟨#[]⟩, .slice (some ⟨y, 0, none⟩) 1 1] 46 (0, 0))) :
    Calls Try.prog 18 #[.slice (some ⟨w.heap.size, 0, none⟩) 24 24, .agg #[.int .u8 0, .int .u8 0, .slice (some ⟨fb, 0, none⟩) 4 4]] W (ChkPost [(1, 22), (3, 20)] W) := by
  have hs : ∀ p ∈ [(idM, Value.slice none 0 0), (dbM, Value.slice na 2 nc), (zM, Value.slice (some ⟨x, 0, none⟩) 1 1), (bM, Value.slice (some ⟨y, 0, none⟩) 1 1)], SubsAt W p.2 p.1.subs := by
    intro p hp
    rcases List.mem_cons.1 hp with rfl | hp
    · exact .inl ⟨none, 0, rfl, rfl⟩
    rcases List.mem_cons.1 hp with rfl | hp
    · exact h.dbs
    rcases List.mem_cons.1 hp with rfl | hp
    · exact hx
    · rw [List.mem_singleton.1 hp]; exact hy
  exact std_check h.std _ hf (by show 4 ≤ 100; decide) hs tagsC _ resC
theorem lit_prob {W : World} {b c : Nat} (l : List (Int × Nat)) (hl : l.length ≤ maxLen) (h : W.heap[b]? = some (.cells ⟨probCells l⟩ 54 (0, 0))) : ProbAt W (.slice (some ⟨b, 0, none⟩) l.length c) l := by
  refine ⟨_, _, rfl, hl, fun i hi => ⟨b, 0, rfl, lt_at h, ?_⟩⟩
  have hc := probCells_at l i hi
  have hg : ∀ k, (Array.mk (probCells l))[k]? = (probCells l)[k]? := fun k => List.getElem?_toArray
  simp only [cell_at h, Nat.zero_add]
  exact ⟨(hg _).trans hc.1, (hg _).trans hc.2⟩
theorem same_t (l : List (Int × Nat)) (va vb : Value) (w : World) (ha : ProbAt w va l) (hb : ProbAt w vb l) : Calls Try.prog 17 #[va, vb] w (fun e w' => e = .returned (.bool true) ∧ Below w.heap.size w w') := by
  have N := same_c l l va vb w ha hb
  rwa [decide_eq_true (p := l = l) rfl] at N
theorem blk_set {w : World} {g : Nat} {cs : Array Value} {T : TypeId} (h : w.heap[g]? = some (.cells cs T (0, 0))) (j : Nat) (v : Value) : (w.setCell ⟨g, j, none⟩ v).heap[g]? = some (.cells (cs.setIfInBounds j v) T (0, 0)) := by
  simp [World.setCell, Array.getElem?_modify, h]
theorem own_set {w : World} {B D j sz n : Nat} {e T : TypeId} {v u : Value} {xs : List Value} {cs : Array Value} (h : w.ownsRow B e sz v n xs) (hD : w.heap[D]? = some (.cells cs T (0, 0))) (hT : T ≠ e) : (w.setCell ⟨D, j, none⟩ u).ownsRow B e sz v n xs := by
  refine ⟨h.1, ?_⟩
  rcases h.2 with h0 | ⟨g, cap, cur, hv, hbg, hg, r⟩
  · exact .inl h0
  · refine .inr ⟨g, cap, cur, hv, hbg, (Below.heap_setCell _ _ _ _ (fun e' => ?_)).trans hg, r⟩
    rw [e', hD] at hg
    simp only [Option.some.injEq, Obj.cells.injEq] at hg
    exact hT hg.2.1
theorem below_set {n : Nat} {a w : World} (h : Below n a w) {D : Nat} (hD : n ≤ D) (j : Nat) (u : Value) : Below n a (w.setCell ⟨D, j, none⟩ u) :=
  h.trans ⟨rfl, rfl, rfl, by simp [World.setCell], fun k hk => Below.heap_setCell _ _ _ _ (by show k ≠ D; omega)⟩
theorem own_one {w : World} {b : Nat} {x y : Value} (h : w.heap[b]? = some (.cells #[x, y] 48 (0, 0))) : w.ownsRow b 48 2 (.slice (some ⟨b, 0, none⟩) 1 1) 1 [x, y] :=
  ⟨rfl, .inr ⟨b, 1, #[x, y], rfl, Nat.le_refl _, h, Nat.le_refl _, by decide, rfl, rfl⟩⟩
end Go.Proofs.Ytfccpepmjklodaa
