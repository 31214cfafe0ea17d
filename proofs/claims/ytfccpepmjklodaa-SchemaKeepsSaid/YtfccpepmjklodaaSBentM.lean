/-
  What the reference's Bent keeps: its model, a field's slot changed, an append of any slice.
-/
import Derived.Test.YtfccpepmjklodaaSMade
import Derived.Deep.Upon
import Derived.Maps.AppendAt
import Derived.Laws.OwnMore
namespace Go.Proofs.Ytfccpepmjklodaa
open Go.RowKit Go.Shelf
set_option linter.unusedVariables false
set_option linter.unusedSimpArgs false

theorem wpList_append_src {P : Program} (w : World) {ops : Array Oper} {rest : List Oper} {o : Oper} {a : Act} {Q : Exit → Act → World → Prop} (hgd : o.guard = none) (s x : Operand) (t : TypeId)
    (ho : o.op = .call { callee := .builtin .append, args := #[s, x], argTypes := #[t, t] })
    (base : Nat) (e : TypeId) (i : TypeInfo) (z : Value) (size bytes : Nat) (ht : P.underlying t = some (.slice e)) (hi : P.info? e = some i) (hz : i.zero = some z)
    (hsize : i.size = size) (hby : i.bytes = bytes) (hzs : z.cells.size = size) (hsz : 0 < size)
    (v : Value) (n : Nat) (xs : List Value) (hs : a.eval s = v) (hown : w.ownsRow base e size v n xs)
    (ao : Option Addr) (m c : Nat) (news : List Value) (hx : a.eval x = .slice ao m c) (hl : news.length = m * size) (hc : ∀ ad, ao = some ad → ∀ j u, news[j]? = some u → w.cell? (ad.add j) = some u) (hn : ao = none → m = 0) (h1 : ∀ u ∈ news, u.oneCell' = true)
    (h63 : n + m ≤ maxLen) (hbytes : (n + m) * bytes ≤ 140737488355328) (hbase : base ≤ w.heap.size)
    (h : ∀ v' w', w'.ownsRow base e size v' (n + m) (xs ++ news) → w.grownBy w' v.ownBlock → (v'.ownBlock = v.ownBlock ∨ v'.ownBlock = some w.heap.size) → wpList P ops Q rest (a.put o.dst v') w') : wpList P ops Q (o :: rest) a w := by
  refine wpList_plain hgd fun K hK => ?_
  have key : ∃ v' w', (Builtin.append_ #[t, t] o.type #[v, .slice ao m c]).run P w = .ok v' w' ∧ w'.ownsRow base e size v' (n + m) (xs ++ news) ∧ w.grownBy w' v.ownBlock ∧ (v'.ownBlock = v.ownBlock ∨ v'.ownBlock = some w.heap.size) := by
    cases ao with
    | some ad =>
      obtain ⟨v', w', g1, g2, g3, _, g5⟩ := run_append_own_at (P := P) w base t o.type e i z size bytes ht hi hz hsize hby hzs hsz v n xs hown ad m c news hl (hc ad rfl) h1 h63 hbytes hbase
      exact ⟨v', w', g1, g2, g3, g5⟩
    | none =>
      obtain rfl := hn rfl
      have hnn : news = [] := List.eq_nil_of_length_eq_zero (by simpa using hl)
      subst hnn
      have hv : ∃ bo sl sc, v = .slice bo sl sc ∧ sl ≤ sc := by
        rcases hown.2 with ⟨rfl, _⟩ | ⟨g, cap, cur, rfl, _, _, hnc, _⟩
        · exact ⟨_, _, _, rfl, Nat.le_refl _⟩
        · exact ⟨_, _, _, rfl, hnc⟩
      obtain ⟨bo, sl, sc, rfl, hle⟩ := hv
      refine ⟨_, w, run_append_nothing w t t o.type e i ht hi bo sl sc hle _ (Src.ofNil w (size := i.size) ht c), by simpa using hown, ⟨rfl, rfl, rfl, Nat.le_refl _, fun _ _ _ => rfl⟩, .inl rfl⟩
  obtain ⟨v', w', hrun, h2, h3, h4⟩ := key
  unfold Oper.wp execOp
  simp only [ho, resolve, invoke, builtin, Sem.run_bind, Sem.run_pure, Result.andThen_ok, List.map_toArray, List.map_cons, List.map_nil, hs, hx, hrun]
  exact hK _ _ (h v' w' h2 h3 h4)
theorem subCells_one (l : List SubM) : ∀ u ∈ subCells l, u.oneCell' = true := by
  intro u hu
  unfold subCells at hu
  obtain ⟨q, _, hq⟩ := List.mem_flatMap.1 hu
  simp at hq
  rcases hq with rfl | rfl <;> rfl
theorem subCells_size (l : List SubM) : (subCells l).length = l.length * 2 := by
  unfold subCells
  induction l with
  | nil => rfl
  | cons a r ih => simp only [List.flatMap_cons, List.length_append, ih, List.length_cons, List.length_nil]; omega
theorem SubsAt.cells {w : World} {ao : Option Addr} {m c : Nat} {l : List SubM} (h : SubsAt w (.slice ao m c) l) (ad : Addr) (ha : ao = some ad) : ∀ j u, (subCells l)[j]? = some u → w.cell? (ad.add j) = some u := by
  intro j u hu
  have hj : j < l.length * 2 := by
    rcases Nat.lt_or_ge j (l.length * 2) with h | h
    · exact h
    · rw [List.getElem?_eq_none (by rw [subCells_size]; exact h)] at hu; cases hu
  rcases h with ⟨a', c', _, rfl⟩ | ⟨b, off, cap, hv, hm, hlt, hc⟩
  · simp at hj
  · simp only [Value.slice.injEq] at hv
    obtain ⟨rfl, -, -⟩ := hv
    cases ha
    have hi : j / 2 < l.length := by omega
    obtain ⟨c0, c1⟩ := hc (j / 2) hi
    obtain ⟨t0, t1⟩ := subCells_at l (j / 2) hi
    rw [add_off]
    have hm3 : j % 2 = 0 ∨ j % 2 = 1 := by omega
    rcases hm3 with h3 | h3
    · have e : j = j / 2 * 2 := by omega
      rw [e] at hu ⊢
      rw [t0] at hu; rw [c0, hu]
    · have e : j = j / 2 * 2 + 1 := by omega
      rw [e] at hu ⊢
      rw [t1] at hu; rw [← Nat.add_assoc, c1, hu]
theorem SubsAt.len {w : World} {ao : Option Addr} {m c : Nat} {l : List SubM} (h : SubsAt w (.slice ao m c) l) : l.length = m ∧ (ao = none → m = 0) := by
  rcases h with ⟨a', c', hv, rfl⟩ | ⟨b, off, cap, hv, hm, hlt, hc⟩
  · simp only [Value.slice.injEq] at hv
    exact ⟨hv.2.1.symm, fun _ => hv.2.1⟩
  · simp only [Value.slice.injEq] at hv
    exact ⟨hv.2.1.symm, fun e => by rw [e] at hv; cases hv.1⟩
/-- A byte of an int. -/
def byteOf (y : Int) : UInt8 := UInt8.ofNat (y % 256).toNat
theorem byteOf_eq (y : Int) : IntKind.u8.wrap y = ((byteOf y).toNat : Int) := by
  unfold byteOf
  have : (UInt8.ofNat (y % 256).toNat).toNat = (y % 256).toNat := by rw [UInt8.toNat_ofNat']; omega
  rw [this, IntKind.wrap_u8]
  omega
/-- What Bent makes of a field. -/
def bentF (k : Nat) (y : Int) (f : FldM) : FldM :=
  match k with
  | 0 => { f with ind := [49] }
  | 1 => { f with data := [120] }
  | 2 => { f with subs := [] }
  | 3 => { f with subs := f.subs ++ [⟨byteOf y, [121]⟩] }
  | 4 => { f with tag := tagM y }
  | 5 => { f with ind := [byteOf y, 32] }
  | 6 => { f with tag := f.tag ++ [48] }
  | _ => f
def bentM (r : RecM) (q0 q1 q2 : Int) : RecM :=
  if h : 0 < r.fields.length then ⟨r.kind, r.level, r.fields.set (modN q1 (r.fields.length : Int)) (bentF (modN q0 9) q2 (r.fields.getD (modN q1 (r.fields.length : Int)) ⟨[], [], [], []⟩))⟩ else ⟨r.kind, r.level, []⟩
/-- No two fields share a row. -/
def Dist (acc : List (FldM × Value)) : Prop := acc.Pairwise (fun p q => p.2.ownBlock = none ∨ p.2.ownBlock ≠ q.2.ownBlock)
theorem fldCells_len (l : List (FldM × Value)) : (fldCells l).length = l.length * 4 := by
  unfold fldCells
  induction l with
  | nil => rfl
  | cons a r ih => simp only [List.flatMap_cons, List.length_append, ih, List.length_cons, fldL, List.length_nil]; omega
theorem fldCells_cons (p : FldM × Value) (r : List (FldM × Value)) : fldCells (p :: r) = [str p.1.tag, str p.1.ind, str p.1.data, p.2] ++ fldCells r := by simp [fldCells, fldL]
/-- All cells of one field are changed. -/
theorem fldCells_put : ∀ (l : List (FldM × Value)) (m : Nat) (h : m < l.length) (p : FldM × Value),
    ((((fldCells l).set (m * 4) (str p.1.tag)).set (m * 4 + 1) (str p.1.ind)).set (m * 4 + 2) (str p.1.data)).set (m * 4 + 3) p.2 = fldCells (l.set m p)
  | [], m, h, _ => by simp at h
  | q :: r, 0, h, p => by simp [fldCells_cons]
  | q :: r, m + 1, h, p => by
    have ih := fldCells_put r m (by simpa using h) p
    have e : ∀ (j : Nat) (u : Value) (x : List Value), ([str q.1.tag, str q.1.ind, str q.1.data, q.2] ++ x).set ((m + 1) * 4 + j) u = [str q.1.tag, str q.1.ind, str q.1.data, q.2] ++ x.set (m * 4 + j) u := by
      intro j u x
      rw [List.set_append_right _ _ (by simp; omega), show (m + 1) * 4 + j - [str q.1.tag, str q.1.ind, str q.1.data, q.2].length = m * 4 + j by simp; omega]
    have e0 : ∀ (u : Value) (x : List Value), ([str q.1.tag, str q.1.ind, str q.1.data, q.2] ++ x).set ((m + 1) * 4) u = [str q.1.tag, str q.1.ind, str q.1.data, q.2] ++ x.set (m * 4) u := fun u x => e 0 u x
    rw [List.set_cons_succ, fldCells_cons, fldCells_cons, e0, e, e, e, ih]
/-- Mk but for the subfields of field n. -/
structure MkB (w W : World) (R p : Nat) (kd lv : UInt8) (acc : List (FldM × Value)) (sv : Value) (n : Nat) : Prop where
  rec_ : RecO W p kd lv acc sv
  accs : ∀ i (h : i < acc.length), i ≠ n → W.ownsRow (p + 1) 48 2 acc[i].2 acc[i].1.subs.length (subCells acc[i].1.subs)
  res : W.heap[R]? = some (.cells #[.int .u8 0, .int .u8 0, .slice none 0 0] 32 (0, 0))
  bel : Below w.heap.size w W
  l1 : w.heap.size ≤ R
  l2 : R < p
section
variable {w W W' : World} {R p n : Nat} {kd lv : UInt8} {acc : List (FldM × Value)} {sv : Value}
theorem Mk.but (h : Mk w W R p kd lv acc sv) (n : Nat) : MkB w W R p kd lv acc sv n := ⟨h.rec_, fun i hi _ => h.accs _ (List.getElem_mem hi), h.res, h.bel, h.l1, h.l2⟩
theorem MkB.below (h : MkB w W R p kd lv acc sv n) (hb : Below W.heap.size W W') : MkB w W' R p kd lv acc sv n :=
  ⟨h.rec_.below hb (Nat.le_refl _), fun i hi hne => own_bel (h.accs i hi hne) hb, heap_below hb (Nat.le_refl _) h.res, below_tr h.bel hb, h.l1, h.l2⟩
/-- Only blocks of a kind that the record doesn't hold are changed. -/
theorem MkB.keep (h : MkB w W R p kd lv acc sv n) (hs : W.heap.size ≤ W'.heap.size) (hb : Below w.heap.size w W') (hk : ∀ g, g < W.heap.size → g = R ∨ g = p ∨ some g = sv.ownBlock ∨ (∃ i, ∃ h : i < acc.length, i ≠ n ∧ acc[i].2.ownBlock = some g) → W'.heap[g]? = W.heap[g]?) : MkB w W' R p kd lv acc sv n := by
  have own : ∀ {e : TypeId} {sz m : Nat} {v : Value} {xs : List Value}, W.ownsRow (p + 1) e sz v m xs → (∀ g, v.ownBlock = some g → W'.heap[g]? = W.heap[g]?) → W'.ownsRow (p + 1) e sz v m xs := by
    intro e sz m v xs hx hg
    refine ⟨hx.1, ?_⟩
    rcases hx.2 with h0 | ⟨g, cap, cur, hv, hbg, hgg, rest⟩
    · exact .inl h0
    · exact .inr ⟨g, cap, cur, hv, hbg, (hg g (by rw [hv]; rfl)).trans hgg, rest⟩
  refine ⟨⟨(hk p (lt_at h.rec_.1) (.inr (.inl rfl))).trans h.rec_.1, own h.rec_.2 (fun g hg => hk g (h.rec_.2.lt g hg).2 (.inr (.inr (.inl hg.symm))))⟩,
    fun i hi hne => own (h.accs i hi hne) (fun g hg => hk g ((h.accs i hi hne).lt g hg).2 (.inr (.inr (.inr ⟨i, hi, hne, hg⟩)))), (hk R (lt_at h.res) (.inl rfl)).trans h.res, hb, h.l1, h.l2⟩
/-- The field is written into its slot. -/
theorem MkB.fin {g m cap : Nat} (h : MkB w W R p kd lv acc (.slice (some ⟨g, 0, none⟩) m cap) n) (hm : acc.length = m) (hn : n < acc.length) (f : FldM) (s : Value) (hs : W.ownsRow (p + 1) 48 2 s f.subs.length (subCells f.subs)) :
    Mk w ((((W.setCell ⟨g, n * 4, none⟩ (str f.tag)).setCell ⟨g, n * 4 + 1, none⟩ (str f.ind)).setCell ⟨g, n * 4 + 2, none⟩ (str f.data)).setCell ⟨g, n * 4 + 3, none⟩ s) R p kd lv (acc.set n (f, s)) (.slice (some ⟨g, 0, none⟩) m cap) := by
  subst hm
  have l1 := h.l1
  have l2 := h.l2
  have hlt := h.rec_.2.lt g rfl
  obtain ⟨s1, -⟩ := h.rec_.2.stored (n * 4) (str f.tag)
  obtain ⟨s2, -⟩ := s1.stored (n * 4 + 1) (str f.ind)
  obtain ⟨s3, -⟩ := s2.stored (n * 4 + 2) (str f.data)
  obtain ⟨s4, -⟩ := s3.stored (n * 4 + 3) s
  have hp := fldCells_put acc n hn (f, s)
  simp only at hp
  rw [hp] at s4
  have far : ∀ b, b ≠ g → ((((W.setCell ⟨g, n * 4, none⟩ (str f.tag)).setCell ⟨g, n * 4 + 1, none⟩ (str f.ind)).setCell ⟨g, n * 4 + 2, none⟩ (str f.data)).setCell ⟨g, n * 4 + 3, none⟩ s).heap[b]? = W.heap[b]? := fun b hb => by
    rw [far_set _ _ _ _ hb, far_set _ _ _ _ hb, far_set _ _ _ _ hb, far_set _ _ _ _ hb]
  obtain ⟨Z, hZ⟩ : ∃ Z, ((((W.setCell ⟨g, n * 4, none⟩ (str f.tag)).setCell ⟨g, n * 4 + 1, none⟩ (str f.ind)).setCell ⟨g, n * 4 + 2, none⟩ (str f.data)).setCell ⟨g, n * 4 + 3, none⟩ s) = Z := ⟨_, rfl⟩
  have hbel : Below w.heap.size w Z := by
    rw [← hZ]
    exact below_set (below_set (below_set (below_set h.bel (by omega) _ _) (by omega) _ _) (by omega) _ _) (by omega) _ _
  rw [hZ] at s4 far ⊢
  have hrow : ∃ cur, W.heap[g]? = some (.cells cur 46 (0, 0)) := by
    rcases h.rec_.2.2 with ⟨hx1, _⟩ | ⟨g2, cap2, cur2, hv2, _, hg2, _⟩
    · cases hx1
    · simp only [Value.slice.injEq, Option.some.injEq, Addr.mk.injEq] at hv2
      rw [← hv2.1.1] at hg2
      exact ⟨_, hg2⟩
  obtain ⟨cur, hrow⟩ := hrow
  have hty : ∀ {v : Value} {k : Nat} {xs : List Value}, W.ownsRow (p + 1) 48 2 v k xs → Z.ownsRow (p + 1) 48 2 v k xs := fun {v k xs} hx => by
    refine ⟨hx.1, ?_⟩
    rcases hx.2 with h0 | ⟨g', cap', cur', hv', hb', hg', rest⟩
    · exact .inl h0
    · refine .inr ⟨g', cap', cur', hv', hb', (far g' (fun e => ?_)).trans hg', rest⟩
      subst e
      rw [hrow] at hg'
      cases hg'
  refine ⟨⟨(far p (by omega)).trans h.rec_.1, by rw [List.length_set]; exact s4⟩, fun q hq => ?_, (far R (by omega)).trans h.res, hbel, h.l1, h.l2⟩
  obtain ⟨i, hi, rfl⟩ := List.mem_iff_getElem.1 hq
  rw [List.length_set] at hi
  rw [List.getElem_set]
  by_cases e : n = i
  · rw [if_pos e]; exact hty hs
  · rw [if_neg e]; exact hty (h.accs i hi (fun e' => e e'.symm))
/-- The cells of one field in its row. -/
theorem MkB.slot {g m cap : Nat} (h : MkB w W R p kd lv acc (.slice (some ⟨g, 0, none⟩) m cap) n) (hm : acc.length = m) (i : Nat) (hi : i < acc.length) : ∀ j, j < 4 → W.cell? ⟨g, i * 4 + j, none⟩ = (fldL acc[i])[j]? ∧ ∃ cur, W.heap[g]? = some (.cells cur 46 (0, 0)) := by
  subst hm
  rcases h.rec_.2.2 with ⟨hx1, _⟩ | ⟨g2, cap2, cur2, hv2, _, hg2, hnc, hcm, hcs, htake⟩
  · cases hx1
  · simp only [Value.slice.injEq, Option.some.injEq, Addr.mk.injEq] at hv2
    rw [← hv2.1.1] at hg2
    intro j hj
    refine ⟨?_, _, hg2⟩
    have hi4 : i * 4 + j < acc.length * 4 := by omega
    rw [cell_at hg2, ← flat4 acc i j hi hj]
    show cur2[i * 4 + j]? = (fldCells acc)[i * 4 + j]?
    rw [← htake, List.getElem?_take_of_lt hi4, Array.getElem?_toList]
end
/-- What came in, as it lies. -/
structure BxB (W : World) (b : Nat) (kd lv : UInt8) (fv : Value) (q0 q1 q2 : Int) : Prop where
  r : W.heap[b]? = some (.cells #[.int .u8 (kd.toNat : Int), .int .u8 (lv.toNat : Int), fv] 32 (0, 0))
  q : W.heap[b + 1]? = some (.cells #[.int .i64 q0, .int .i64 q1, .int .i64 q2] 29 (0, 0))
theorem BxB.below {W W' : World} {b : Nat} {kd lv : UInt8} {fv : Value} {q0 q1 q2 : Int} {B : Nat} (h : BxB W b kd lv fv q0 q1 q2) (hb : Below B W W') (hB : b + 1 < B) : BxB W' b kd lv fv q0 q1 q2 := ⟨(hb.block b (by omega)).trans h.r, (hb.block (b + 1) hB).trans h.q⟩
theorem own_of_lit (W : World) {B : Nat} (hB : B ≤ W.heap.size) : (W.alloc (.cells #[] 48)).ownsRow B 48 2 (.slice (some ⟨W.heap.size, 0, none⟩) 0 0) 0 [] :=
  ⟨rfl, .inr ⟨W.heap.size, 0, #[], rfl, hB, new_at _ _, Nat.le_refl _, by decide, rfl, rfl⟩⟩
theorem MkB.setF {w W : World} {R p n f9 : Nat} {kd lv : UInt8} {acc : List (FldM × Value)} {sv : Value} {cs : Array Value} (h : MkB w W R p kd lv acc sv n) (hf : W.heap[f9]? = some (.cells cs 46 (0, 0))) (hp : p < f9) (hg : sv.ownBlock ≠ some f9) (j : Nat) (u : Value) :
    MkB w (W.setCell ⟨f9, j, none⟩ u) R p kd lv acc sv n := by
  have l1 := h.l1
  have l2 := h.l2
  refine h.keep (by simp [World.setCell]) (below_set h.bel (by omega) _ _) (fun g _ hg' => far_set _ _ _ _ (fun e => ?_))
  subst e
  rcases hg' with e | e | e | ⟨i, hi, hne, e⟩
  · omega
  · omega
  · exact hg e.symm
  · exact own_ty (h.accs i hi hne) hf (by decide) e.symm
/-- Behind the switch. -/
def BentR (w wx : World) (R p : Nat) (kd lv : UInt8) (acc : List (FldM × Value)) (sv : Value) (m f9 : Nat) (f : FldM) : Prop :=
  ∃ s, wx.heap[f9]? = some (.cells #[str f.tag, str f.ind, str f.data, s] 46 (0, 0)) ∧ wx.ownsRow (p + 1) 48 2 s f.subs.length (subCells f.subs) ∧ MkB w wx R p kd lv acc sv m
theorem bentR_set {w W : World} {R p m f9 : Nat} {kd lv : UInt8} {acc : List (FldM × Value)} {sv s : Value} {cs : Array Value} {f : FldM} (h : MkB w W R p kd lv acc sv m) (hf : W.heap[f9]? = some (.cells cs 46 (0, 0))) (hs : W.ownsRow (p + 1) 48 2 s f.subs.length (subCells f.subs))
    (hp : p < f9) (hg : sv.ownBlock ≠ some f9) (j : Nat) (u : Value) (hc : cs.setIfInBounds j u = #[str f.tag, str f.ind, str f.data, s]) : BentR w (W.setCell ⟨f9, j, none⟩ u) R p kd lv acc sv m f9 f :=
  ⟨s, by rw [← hc]; exact blk_set hf j u, own_set hs hf (by decide), h.setF hf hp hg j u⟩
theorem row_store {W : World} {g i : Nat} {cur : Array Value} {T : TypeId} {x0 x1 x2 x3 : Value} (h : W.heap[g]? = some (.cells cur T (0, 0))) (h1 : W.cell? ⟨g, i + 1, none⟩ = some x1) (h2 : W.cell? ⟨g, i + 2, none⟩ = some x2) (h3 : W.cell? ⟨g, i + 3, none⟩ = some x3) (u0 u1 u2 : Value) :
    W.frozen? ⟨g, i, none⟩ = false ∧ ((W.setCell ⟨g, i, none⟩ u0).cell? ⟨g, i + 1, none⟩ = some x1 ∧ (W.setCell ⟨g, i, none⟩ u0).frozen? ⟨g, i + 1, none⟩ = false) ∧
    (((W.setCell ⟨g, i, none⟩ u0).setCell ⟨g, i + 1, none⟩ u1).cell? ⟨g, i + 2, none⟩ = some x2 ∧ ((W.setCell ⟨g, i, none⟩ u0).setCell ⟨g, i + 1, none⟩ u1).frozen? ⟨g, i + 2, none⟩ = false) ∧
    ((((W.setCell ⟨g, i, none⟩ u0).setCell ⟨g, i + 1, none⟩ u1).setCell ⟨g, i + 2, none⟩ u2).cell? ⟨g, i + 3, none⟩ = some x3 ∧ (((W.setCell ⟨g, i, none⟩ u0).setCell ⟨g, i + 1, none⟩ u1).setCell ⟨g, i + 2, none⟩ u2).frozen? ⟨g, i + 3, none⟩ = false) := by
  have b1 := blk_set h i u0
  have b2 := blk_set b1 (i + 1) u1
  have b3 := blk_set b2 (i + 2) u2
  rw [cell_at h] at h1 h2 h3
  refine ⟨Lib.frozen_of_heap h i, ⟨?_, Lib.frozen_of_heap b1 _⟩, ⟨?_, Lib.frozen_of_heap b2 _⟩, ?_, Lib.frozen_of_heap b3 _⟩
  · rw [cell_at b1, Array.getElem?_setIfInBounds_ne (by omega)]; exact h1
  · rw [cell_at b2, Array.getElem?_setIfInBounds_ne (by omega), Array.getElem?_setIfInBounds_ne (by omega)]; exact h2
  · rw [cell_at b3, Array.getElem?_setIfInBounds_ne (by omega), Array.getElem?_setIfInBounds_ne (by omega), Array.getElem?_setIfInBounds_ne (by omega)]; exact h3
theorem dist_ne {acc : List (FldM × Value)} (h : Dist acc) {i m g : Nat} (hi : i < acc.length) (hm : m < acc.length) (hne : i ≠ m) (hg : acc[i].2.ownBlock = some g) : acc[m].2.ownBlock ≠ some g := by
  unfold Dist at h
  rw [List.pairwise_iff_getElem] at h
  rcases Nat.lt_or_gt_of_ne hne with h1 | h1
  · rcases h i m hi hm h1 with h2 | h2
    · rw [h2] at hg; cases hg
    · intro e; exact h2 (hg.trans e.symm)
  · rcases h m i hm hi h1 with h2 | h2
    · rw [h2]; exact fun e => by cases e
    · intro e; exact h2 (e.trans hg.symm)
end Go.Proofs.Ytfccpepmjklodaa
