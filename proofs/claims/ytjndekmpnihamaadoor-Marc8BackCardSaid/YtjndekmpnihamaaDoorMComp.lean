/-
  The table of composed characters.
-/
import Derived.Test.YtjndekmpnihamaaDoorMEncS
import Derived.LoopTactic
import Derived.BigRegion
import Derived.Lib.RuneCount
namespace Go.Proofs.YtjndekmpnihamaaDoor
open Go.RowKit Go.Shelf
set_option linter.unusedVariables false

abbrev Fam := Int × List UInt8 × List UInt8
def famCells (l : List Fam) : List Value := l.flatMap fun f => [.int .i32 f.1, str f.2.1, str f.2.2]
/-- Characters with the letters from a place on, and the mark. -/
def famFrom (letters : List UInt8) (mark : Int) : List Int → Nat → List (Int × Int × Int)
  | [], _ => []
  | c :: cs, n => (c, ((letters.getD n 0).toNat : Int), mark) :: famFrom letters mark cs (n + 1)
def allFam (l : List Fam) : List (Int × Int × Int) := l.flatMap fun f => famFrom f.2.1 f.1 (runesOf f.2.2) 0
theorem allFam_cons (f : Fam) (l : List Fam) : allFam (f :: l) = famFrom f.2.1 f.1 (runesOf f.2.2) 0 ++ allFam l := by simp [allFam]
theorem famCells_at (l : List Fam) : ∀ k (h : k < l.length), (famCells l)[k * 3]? = some (.int .i32 l[k].1) ∧ (famCells l)[k * 3 + 1]? = some (str l[k].2.1) ∧ (famCells l)[k * 3 + 2]? = some (str l[k].2.2) := by
  induction l with
  | nil => intro k h; simp at h
  | cons x r ih =>
    intro k h
    cases k with
    | zero => simp [famCells]
    | succ k =>
      have := ih k (by simpa using h)
      simp only [famCells, List.flatMap_cons, List.cons_append, List.nil_append, List.getElem_cons_succ] at this ⊢
      rw [show (k + 1) * 3 = k * 3 + 1 + 1 + 1 from by omega]
      simpa using this
/-- The function that entries make, behind another. -/
def putP (m : Int → Option (Int × Int)) (l : List (Int × Int × Int)) : Int → Option (Int × Int) := l.foldl (fun m p => put m p.1 p.2) m
theorem putP_snoc (m : Int → Option (Int × Int)) (l : List (Int × Int × Int)) (p : Int × Int × Int) : putP m (l ++ [p]) = put (putP m l) p.1 p.2 := by simp [putP]

/-- What is asked of families. -/
structure FamOk (l : List Fam) : Prop where
  count : l.length ≤ 100
  small : ∀ k (h : k < l.length), l[k].2.1.length ≤ 1000 ∧ (runesOf l[k].2.2).length ≤ l[k].2.1.length
  wf : ∀ p ∈ allFam l, 0 ≤ p.1 ∧ p.1 ≤ 2147483647
  len : (allFam l).length ≤ 200

def CompPost (l : List Fam) (w : World) (e : Ending) (w' : World) : Prop := ∃ m, e = .returned (.map (some m)) ∧ w.heap.size ≤ m ∧ MapF encParts .i32 21 w' m 200 (putP (fun _ => none) (allFam l)) ∧ Below w.heap.size w w'

theorem MapF.iterAt {α : Type} {E : Enc α} {q : IntKind} {K : TypeId} {w : World} {b n : Nat} {m : Int → Option α} (h : MapF E q K w b n m) {r : Nat} {s : ByteArray} {pos : Nat} (hr : w.heap[r]? = some (.stringIter s pos)) (p : Nat) : MapF E q K (w.iterAt r s p) b n m := by
  obtain ⟨es, ck, ho⟩ := h.obj
  refine h.same (Lib.iterAt_other w r b s p (fun e => ?_))
  subst e
  rw [ho] at hr
  cases hr

set_option maxRecDepth 100000 in
set_option maxHeartbeats 4000000 in
theorem compose_c (g : Nat) (T : TypeId) (l : List Fam) (hl : FamOk l) (w : World) (hg : w.heap[g]? = some (.cells (famCells l).toArray T (0, 0))) :
    Calls Tryd.prog 58 #[.slice (some ⟨g, 0, none⟩) l.length l.length] w (CompPost l w) := by
  have hmm := run_makeMapN Tryd.underlying54
  have hgl := lt_at hg
  have hcount := hl.count
  have Hg := Lib.hid hg
  have Hl := Lib.hid hl
  clear hg hl
  go_enter Tryd.func58, Tryd.ntmps58
  go_wp2
  go_loopw [3, 14] (fun n i wr => ∃ (k : Nat) (x : Nat), k ≤ l.length ∧ i = .int .i64 k ∧ n = .int .i64 x ∧ x ≤ 1000 * k ∧ Below w.heap.size w wr) (fun _ i _ => l.length - (intOf i).toNat)
  case atStart => exact ⟨0, 0, Nat.zero_le _, rfl, rfl, Nat.zero_le _, Below.refl _ _⟩
  case round =>
    obtain ⟨k, x, hk, rfl, rfl, hx, hb⟩ := hrel
    by_cases hlt : k < l.length
    · have hat := famCells_at l k hlt
      have hgw := (hb.block g hgl).trans Hg.out
      have h0 : wr.cell? ⟨g, k * 3, none⟩ = some (.int .i32 l[k].1) := by rw [cell_at hgw]; simpa using hat.1
      have h1 : wr.cell? ⟨g, k * 3 + 1, none⟩ = some (str l[k].2.1) := by rw [cell_at hgw]; simpa using hat.2.1
      have h2 : wr.cell? ⟨g, k * 3 + 2, none⟩ = some (str l[k].2.2) := by rw [cell_at hgw]; simpa using hat.2.2
      have hsz := size_str l[k].2.1
      have hsm := (Hl.out.small k hlt).1
      have Hb := Lib.hid (hb.alloc hb.size (.cells #[.int .i32 l[k].1, str l[k].2.1, str l[k].2.2] 106))
      clear hat hgw hb
      go_wp2
      go_roundw
      case rel => exact ⟨k + 1, x + l[k].2.1.length, by omega, by go_num, by go_num, by omega, Hb.out⟩
      case measure => simp [intOf]; omega
    · have hd : decide (k < l.length) = false := decide_eq_false hlt
      have hm0 := MapF.made encParts .i32 21 wr
      have Hb0 := Lib.hid (hb.alloc hb.size (.map #[] 0))
      have hsz := hb.size
      obtain ⟨m, hm⟩ : ∃ m, wr.heap.size = m := ⟨_, rfl⟩
      rw [hm] at hm0
      have Hm0 := Lib.hid hm0
      clear hb hm0 hlt
      go_wp2
      go_loopw [28] (fun i w2 => ∃ (j : Nat) (done : List (Int × Int × Int)), j ≤ l.length ∧ i = .int .i64 j ∧ allFam l = done ++ allFam (l.drop j) ∧ MapF encParts .i32 21 w2 m done.length (putP (fun _ => none) done) ∧ Below w.heap.size w w2) (fun i _ => l.length - (intOf i).toNat)
      case atStart => exact ⟨0, [], Nat.zero_le _, rfl, by simp, Hm0.out, Hb0.out⟩
      case round =>
        obtain ⟨j, done, hj, rfl, hdone, hmp, hb⟩ := hrel
        by_cases hlt : j < l.length
        · have hat := famCells_at l j hlt
          have hgw := (hb.block g hgl).trans Hg.out
          have h0 : wr.cell? ⟨g, j * 3, none⟩ = some (.int .i32 l[j].1) := by rw [cell_at hgw]; simpa using hat.1
          have h1 : wr.cell? ⟨g, j * 3 + 1, none⟩ = some (str l[j].2.1) := by rw [cell_at hgw]; simpa using hat.2.1
          have h2 : wr.cell? ⟨g, j * 3 + 2, none⟩ = some (str l[j].2.2) := by rw [cell_at hgw]; simpa using hat.2.2
          have hsm := Hl.out.small j hlt
          have hdr := List.drop_eq_getElem_cons hlt
          rw [hdr, allFam_cons] at hdone
          obtain ⟨mk, hmk⟩ : ∃ mk, l[j].1 = mk := ⟨_, rfl⟩
          obtain ⟨ls, hls⟩ : ∃ ls, l[j].2.1 = ls := ⟨_, rfl⟩
          obtain ⟨cb, hcb⟩ : ∃ cb, l[j].2.2 = cb := ⟨_, rfl⟩
          rw [hmk] at h0
          rw [hls] at h1 hsm
          rw [hcb] at h2 hsm
          rw [hmk, hls, hcb] at hdone
          have hszl := size_str ls
          have hrc := runesOf_eq cb
          rw [hrc] at hdone hsm
          obtain ⟨s, hs⟩ : ∃ s : ByteArray, ByteArray.mk cb.toArray = s := ⟨_, rfl⟩
          rw [hs] at hdone hsm
          simp only [str, hs] at h2
          have Hdone := Lib.hid hdone
          have Hmp := Lib.hid hmp
          have Hb := Lib.hid hb
          have Hsm := Lib.hid hsm
          clear hat hgw hdr hmk hls hcb hrc hs hdone hmp hb hsm
          go_wp2
          obtain ⟨d, hdd⟩ : ∃ d, wr.heap.size = d := ⟨_, rfl⟩
          have hcell0 : ((wr.alloc (.cells #[.int .i32 mk, str ls, .string s] 106)).iter s 0).heap[d]? = some (.cells #[.int .i32 mk, str ls, .string s] 106 (0, 0)) := by
            rw [← hdd]; unfold World.iter
            rw [Lib.alloc_old _ _ _ (by simp)]
            exact World.alloc_heap_new _ _
          have hit0 : ((wr.alloc (.cells #[.int .i32 mk, str ls, .string s] 106)).iter s 0).heap[d + 1]? = some (.stringIter s 0) := by rw [← hdd]; exact new2 _ _ _
          have hmp0 : MapF encParts .i32 21 ((wr.alloc (.cells #[.int .i32 mk, str ls, .string s] 106)).iter s 0) m done.length (putP (fun _ => none) done) := (Hmp.out.alloc _).alloc _
          have hbo : Below w.heap.size w ((wr.alloc (.cells #[.int .i32 mk, str ls, .string s] 106)).iter s 0) := (Hb.out.alloc Hb.out.size _).alloc (by have := Hb.out.size; simp; omega) _
          have hdw : w.heap.size ≤ d := by have := Hb.out.size; omega
          obtain ⟨wo, hwo⟩ : ∃ wo, (wr.alloc (.cells #[.int .i32 mk, str ls, .string s] 106)).iter s 0 = wo := ⟨_, rfl⟩
          rw [hwo] at hcell0 hit0 hmp0 hbo ⊢
          simp only [hdd]
          have Hcell0 := Lib.hid hcell0
          have Hit0 := Lib.hid hit0
          have Hmp0 := Lib.hid hmp0
          have Hbo := Lib.hid hbo
          have hms : w.heap.size ≤ m := by have := hm; omega
          clear hcell0 hit0 hmp0 hbo hwo h0 h1 h2 hdd
          go_loopw [9] (fun nv w2 => ∃ (n pos fuel : Nat) (dn : List (Int × Int × Int)), nv = .int .i64 n ∧ w2.heap[d]? = some (.cells #[.int .i32 mk, str ls, .string s] 106 (0, 0)) ∧ w2.heap[d + 1]? = some (.stringIter s pos) ∧
            allFam l = dn ++ (famFrom ls mk (runesFrom s fuel pos) n ++ allFam (l.drop (j + 1))) ∧ s.size ≤ pos + fuel ∧ n + (runesFrom s fuel pos).length ≤ ls.length ∧ MapF encParts .i32 21 w2 m dn.length (putP (fun _ => none) dn) ∧ Below w.heap.size w w2) (fun _ w2 => s.size - w2.iterPos (d + 1))
          case atStart => exact ⟨0, 0, s.size, done, rfl, Hcell0.out, Hit0.out, Hdone.out, by omega, by have := Hsm.out.2; omega, Hmp0.out, Hbo.out⟩
          case round =>
            obtain ⟨n, pos, fuel, dn, rfl, hcell, hit, hdn, hfu, hnl, hmp, hb⟩ := hrel
            have hls1 := Hsm.out.1
            clear Hcell0 Hit0 Hmp0 Hbo
            by_cases hpos : pos < s.size
            · obtain ⟨fuel', rfl⟩ : ∃ f', fuel = f' + 1 := ⟨fuel - 1, by omega⟩
              rw [runesFrom_step _ _ _ hpos] at hdn hnl
              have hw1 := Lib.decode_width_pos s pos hpos
              have hnx := Lib.run_next_any_at (P := Tryd.prog) wr (d + 1) s pos 0 hit hpos
              obtain ⟨R, hR⟩ : ∃ R, (Utf8.decode s pos).1 = R := ⟨_, rfl⟩
              obtain ⟨S, hS⟩ : ∃ S, (Utf8.decode s pos).2 = S := ⟨_, rfl⟩
              rw [hR, hS] at hnx hdn hnl
              rw [hS] at hw1
              clear hR hS
              simp only [famFrom, List.length_cons, List.cons_append] at hdn hnl
              have hn : n < ls.length := by omega
              have hgd : ls.getD n 0 = ls[n] := by simp [hn]
              rw [hgd] at hdn
              have hwfc := Hl.out.wf ((R : Int), ((ls[n].toNat : Int), mk)) (by rw [hdn]; simp)
              have hlen := Hl.out.len
              rw [hdn] at hlen
              simp only [List.length_append, List.length_cons] at hlen
              have hit2 := Lib.iterAt_heap wr (d + 1) s pos (pos + S) hit
              have hcell2 := (Lib.iterAt_other wr (d + 1) d s (pos + S) (by omega)).trans hcell
              have hmp2 := hmp.iterAt hit (pos + S)
              have hb2 := Lib.below_iterAt hb (show w.heap.size ≤ d + 1 by omega) s (pos + S)
              have hpos1 : wr.iterPos (d + 1) = pos := by unfold World.iterPos; rw [hit]
              obtain ⟨W1, hW1⟩ : ∃ W1, wr.iterAt (d + 1) s (pos + S) = W1 := ⟨_, rfl⟩
              rw [hW1] at hit2 hcell2 hmp2 hb2 hnx
              have g0 : W1.cell? ⟨d, 0, none⟩ = some (.int .i32 mk) := by rw [cell_at hcell2]; rfl
              have g1 : W1.cell? ⟨d, 1, none⟩ = some (str ls) := by rw [cell_at hcell2]; rfl
              obtain ⟨W2, hrun, hm2, hg2⟩ := (hmp2.same (w' := W1.drew) rfl).update (t := 54) Tryd.underlying21 Tryd.underlying54 (by unfold maxLen; omega) (R : Int) (by simp [Lit.wf, IntKind.min, IntKind.max, IntKind.signed, IntKind.bits]; omega) ((ls[n].toNat : Int), mk)
              obtain ⟨es, ck, hom⟩ := hmp2.obj
              dsimp only [encParts] at hrun
              obtain ⟨x, hx⟩ : ∃ x, ls[n] = x := ⟨_, rfl⟩
              have hget2 : (ByteArray.mk ls.toArray)[n]'(by rw [hszl]; exact hn) = x := hx
              have hxl := x.toNat_lt
              rw [hx] at hdn hm2 hrun
              have i0 : (0 : Int) ≤ (n : Int) := by omega
              have i1 : (n : Int) < (ls.length : Int) := by omega
              have Hdn := Lib.hid hdn
              have Hpos1 := Lib.hid hpos1
              have Hit3 := Lib.hid ((hg2.block (d + 1) (lt_at (w := W1) hit2) (by intro e; rw [← Option.some.inj e, hit2] at hom; cases hom)).trans hit2)
              have Hcell3 := Lib.hid ((hg2.block d (lt_at (w := W1) hcell2) (by intro e; rw [← Option.some.inj e, hcell2] at hom; cases hom)).trans hcell2)
              have Hm2 := Lib.hid hm2
              have Hb3 := Lib.hid ((hb2.drew).grown hg2 hb2.size (fun k e => by cases e; exact hms))
              clear hdn hwfc hlen hit2 hcell2 hmp2 hb2 hpos1 hW1 hm2 hom hx hgd hcell hit hmp hb hg2
              go_wp2
              go_region
              go_wp2
              go_roundw
              case rel => exact ⟨n + 1, pos + S, fuel', dn ++ [((R : Int), ((x.toNat : Int), mk))], by go_num, Hcell3.out, Hit3.out, by rw [Hdn.out]; simp, by omega, by omega, by rw [putP_snoc, List.length_append]; exact Hm2.out, Hb3.out⟩
              case measure =>
                rw [Hpos1.out]
                have e1 : W2.iterPos (d + 1) = pos + S := by unfold World.iterPos; rw [Hit3.out]
                rw [e1]; omega
            · have hnx := Lib.run_next_end_at (P := Tryd.prog) wr (d + 1) s pos 0 hit hpos
              rw [runesFrom_end _ _ _ hpos] at hdn
              have Hdn := Lib.hid hdn
              have Hmp := Lib.hid hmp
              have Hb := Lib.hid hb
              clear hdn hmp hb hit hcell hpos hnl
              go_wp2
              go_roundw
              case rel => exact ⟨j + 1, dn, by omega, by go_num, by rw [Hdn.out]; simp [famFrom], Hmp.out, Hb.out⟩
              case measure => simp [intOf]; omega
        · have hd2 : decide (j < l.length) = false := decide_eq_false hlt
          have he : allFam l = done := by rw [hdone, List.drop_eq_nil_of_le (by omega)]; simp [allFam]
          have He := Lib.hid he
          have Hmp := Lib.hid hmp
          have Hb := Lib.hid hb
          have hms : w.heap.size ≤ m := by omega
          clear hdone he hmp hb hlt
          go_wp2
          go_ret
          exact ⟨m, rfl, hms, by rw [He.out]; exact Hmp.out.more (by have := Hl.out.len; rw [He.out] at this; exact this), Hb.out⟩
end Go.Proofs.YtjndekmpnihamaaDoor
