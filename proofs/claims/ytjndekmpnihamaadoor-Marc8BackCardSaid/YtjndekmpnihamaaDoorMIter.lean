/-
  The iterator over the characters of rows: all and its closure.
-/
import Derived.Test.YtjndekmpnihamaaDoorMRuns
import Derived.Shelf.Abstract
import Derived.Shelf.RegionOpen
import Derived.OwnWalkIn
import Derived.TacticsInMore
import Derived.LoopNIn
import Derived.LoopIn
import Derived.RangeFuncWrites
import Derived.Lib.RuneCount
namespace Go.Proofs.YtjndekmpnihamaaDoor
open Go.RowKit Go.Shelf

attribute [local go_sem] Oper.semAt_some
set_option linter.unusedVariables false

/-- The characters of a string, from a place on. -/
def runesFrom (s : ByteArray) : Nat → Nat → List Int
  | 0, _ => []
  | fuel + 1, pos => if pos < s.size then ((Utf8.decode s pos).1 : Int) :: runesFrom s fuel (pos + (Utf8.decode s pos).2) else []
def runesOf (l : List UInt8) : List Int := runesFrom ⟨l.toArray⟩ l.length 0
/-- Characters with the bytes that follow each other. -/
def pairsFrom : Int → List Int → List (Int × Int)
  | _, [] => []
  | f, c :: cs => (f, c) :: pairsFrom (f + 1) cs
def allPairs (l : List (Int × List UInt8)) : List (Int × Int) := l.flatMap fun r => pairsFrom r.1 (runesOf r.2)

/-- A byte and a character. -/
abbrev Pair := { p : Int × Int // 0 ≤ p.1 ∧ p.1 ≤ 254 ∧ 0 ≤ p.2 ∧ p.2 ≤ 2147483647 }

/-- Every row of cells, map and iterator but one block is as it was. -/
structure Kept (mb : Nat) (W W' : World) : Prop where
  size : W.heap.size ≤ W'.heap.size
  same : ∀ (k : Nat) (o : Obj), k ≠ mb → W.heap[k]? = some o → (o.isCells = true ∨ o.isWalk = true) → W'.heap[k]? = some o
theorem Kept.refl (mb : Nat) (W : World) : Kept mb W W := ⟨Nat.le_refl _, fun _ _ _ h _ => h⟩
theorem Kept.trans {mb : Nat} {A B C : World} (h : Kept mb A B) (k : Kept mb B C) : Kept mb A C :=
  ⟨Nat.le_trans h.size k.size, fun i o hi ho hk => k.same i o hi (h.same i o hi ho hk) hk⟩
theorem Kept.grown {mb : Nat} {W W' : World} {row : Option Nat} (hg : W.grownBy W' row) (hrow : ∀ r, row = some r → r = mb) : Kept mb W W' :=
  ⟨hg.size, fun k o hk ho _ => (hg.block k (lt_at ho) (fun e => hk (hrow k e.symm))).trans ho⟩
theorem kept_b {mb : Nat} {w : World} (W : World) (l : Nat) (o o' : Obj) (_ : w.heap.size ≤ l) (h : W.heap[l]? = some o) (hc : o.isCells = false) (hw : o.isWalk = false) : Kept mb W (W.putObj l o') :=
  ⟨by simp, fun k _ _ hk ho => by
    by_cases e : k = l
    · subst e
      rw [h] at hk
      cases hk
      rw [hc, hw] at ho
      simp at ho
    · exact (World.putObj_heap_other e).trans hk⟩

theorem grown_iterAt (w : World) (k : Nat) (s : ByteArray) (pos : Nat) : w.grownBy (w.iterAt k s pos) (some k) :=
  ⟨rfl, rfl, rfl, by rw [Lib.iterAt_size]; exact Nat.le_refl _, fun i _ hi => Lib.iterAt_other w k i s pos (fun e => hi (by rw [e]))⟩

theorem Kept.iterAt {mb : Nat} {W w : World} (h : Kept mb W w) {r : Nat} (hr : W.heap.size ≤ r) (s : ByteArray) (pos : Nat) : Kept mb W (w.iterAt r s pos) :=
  ⟨by rw [Lib.iterAt_size]; exact h.size, fun k o hk ho hc => (Lib.iterAt_other w r k s pos (by have := lt_at ho; omega)).trans (h.same k o hk ho hc)⟩
theorem allPairs_cons (x : Int × List UInt8) (r : List (Int × List UInt8)) : allPairs (x :: r) = pairsFrom x.1 (runesOf x.2) ++ allPairs r := by simp [allPairs]
theorem runesOf_eq (l : List UInt8) : runesOf l = runesFrom ⟨l.toArray⟩ (ByteArray.mk l.toArray).size 0 := by rw [size_str]; rfl
theorem runesFrom_step (s : ByteArray) (fuel pos : Nat) (h : pos < s.size) : runesFrom s (fuel + 1) pos = ((Utf8.decode s pos).1 : Int) :: runesFrom s fuel (pos + (Utf8.decode s pos).2) := by simp [runesFrom, h]
theorem runesFrom_end (s : ByteArray) (fuel pos : Nat) (h : ¬ pos < s.size) : runesFrom s fuel pos = [] := by cases fuel <;> simp [runesFrom, h]
theorem pairsFrom_cons (f c : Int) (cs : List Int) : pairsFrom f (c :: cs) = (f, c) :: pairsFrom (f + 1) cs := rfl

set_option maxRecDepth 100000 in
set_option maxHeartbeats 2000000 in
/-- The closure hands each byte with its character to the loop. -/
theorem all1_in (F : Fence) (n : Nat) (h6 : F.fn 51) (hro : F.round = none) (hn : 1 ≤ n) (l Bs mb lo g : Nat) (rows : List (Int × List UInt8)) (xs : List Pair) (hxs : xs.map (·.1) = allPairs rows) (hl : rows.length ≤ 1000)
    (J Jx : List Pair → World → Prop) (hJ : AbidesFrom lo J)
    (hY : ∀ pre x W, J pre W → pre.length < xs.length → YieldAt F (n - 1) Tryd.prog l #[.int .u8 x.1.1, .int .i32 x.1.2] W fun e W' =>
      (e = .returned (.bool true) ∧ J (pre ++ [x]) W' ∧ Kept mb W W') ∨ (e = .returned (.bool false) ∧ Jx (pre ++ [x]) W'))
    (W : World) (hlo : lo ≤ W.heap.size) (hmb : mb < lo) (TB TG : TypeId) (cs : Array Value) (hbox : W.heap[Bs]? = some (.cells #[.slice (some ⟨g, 0, none⟩) rows.length rows.length] TB (0, 0))) (hBs : Bs ≠ mb)
    (hg : W.heap[g]? = some (.cells cs TG (0, 0))) (hgm : g ≠ mb) (hcs : cs = (runCells rows).toArray) (h0 : J [] W) :
    CallsIn F n Tryd.prog 51 #[.func (.yield l) #[] #[], .pointer (some ⟨Bs, 0, none⟩)] W fun e W' => (∃ v, e = .returned v) ∧
      ((∃ ys, ys = xs ∧ J ys W') ∨ (∃ pre, pre <+: xs ∧ Jx pre W')) := by
  have hc0 := cell_at hbox 0
  have Hg := Lib.hid hg
  have Hcs := Lib.hid hcs
  have Hxs := Lib.hid hxs
  have HJ := Lib.hid hJ
  have HY := Lib.hid hY
  clear hg hcs hxs hJ hY hbox
  refine callsIn_of_wp Tryd.func51 rfl h6 ?_ hro
  simp only [Tryd.ntmps51, List.size_toArray, List.length_cons, List.length_nil, Nat.reduceAdd, Nat.reduceSub, Array.replicate_succ, Array.replicate_zero, List.push_toArray, List.append_toArray, List.nil_append, List.cons_append]
  gi_wp2
  gi_loopw [10] (fun i wr => ∃ (k : Nat) (pre post : List Pair), k ≤ rows.length ∧ i = .int .i64 k ∧ xs = pre ++ post ∧ post.map (·.1) = allPairs (rows.drop k) ∧ J pre wr ∧ Kept mb W wr)
    (fun i _ => rows.length - (intOf i).toNat)
  case atStart => exact ⟨0, [], xs, Nat.zero_le _, rfl, rfl, Hxs.out, h0, Kept.refl _ _⟩
  case round =>
    obtain ⟨k, pre, post, hk, rfl, hxp, hpost, hJs, hkp⟩ := hrel
    by_cases hlt : k < rows.length
    · have hgw : wr.heap[g]? = some (.cells cs TG (0, 0)) := hkp.same g _ hgm Hg.out (.inl rfl)
      have hat := runCells_at rows k hlt
      have h0' : wr.cell? ⟨g, k * 2, none⟩ = some (.int .u8 rows[k].1) := by rw [cell_at hgw, Hcs.out]; simpa using hat.1
      have h1' : wr.cell? ⟨g, k * 2 + 1, none⟩ = some (str rows[k].2) := by rw [cell_at hgw, Hcs.out]; simpa using hat.2
      have Hd := Lib.hid (List.drop_eq_getElem_cons hlt)
      have Hpost := Lib.hid hpost
      have Hxp := Lib.hid hxp
      have HJs := Lib.hid hJs
      have Hkp := Lib.hid hkp
      obtain ⟨f, hf⟩ : ∃ f, rows[k].1 = f := ⟨_, rfl⟩
      obtain ⟨s, hs⟩ : ∃ s : ByteArray, ByteArray.mk rows[k].2.toArray = s := ⟨_, rfl⟩
      rw [hf] at h0'
      simp only [str, hs] at h1'
      have Hf := Lib.hid hf
      have Hs := Lib.hid hs
      clear hgw hat hf hs hpost hxp hJs hkp
      gi_wp2
      have hit0 : ((wr.alloc (.cells #[.int .u8 f, .string s] 78)).iter s 0).heap[wr.heap.size + 1]? = some (.stringIter s 0) := new2 _ _ _
      have hJ0 : J pre ((wr.alloc (.cells #[.int .u8 f, .string s] 78)).iter s 0) :=
        HJ.out _ _ _ none (HJ.out _ _ _ none HJs.out (World.grownBy_alloc _ _ _) (fun r e => by cases e)) (World.grownBy_alloc _ _ _) (fun r e => by cases e)
      have hkp0 : Kept mb W ((wr.alloc (.cells #[.int .u8 f, .string s] 78)).iter s 0) :=
        (Hkp.out.trans (Kept.grown (World.grownBy_alloc _ _ none) (fun r e => by cases e))).trans (Kept.grown (World.grownBy_alloc _ _ none) (fun r e => by cases e))
      obtain ⟨wo, hwo⟩ : ∃ wo, (wr.alloc (.cells #[.int .u8 f, .string s] 78)).iter s 0 = wo := ⟨_, rfl⟩
      rw [hwo] at hit0 hJ0 hkp0 ⊢
      obtain ⟨r, hr⟩ : ∃ r, wr.heap.size + 1 = r := ⟨_, rfl⟩
      have hrl : lo ≤ r := by have := Hkp.out.size; omega
      have hWr : W.heap.size ≤ r := by have := Hkp.out.size; omega
      rw [hr] at hit0 ⊢
      have hp0 := Hpost.out
      rw [Hd.out] at hp0
      have hp1 : post.map (·.1) = pairsFrom f (runesFrom s s.size 0) ++ allPairs (rows.drop (k + 1)) := by
        rw [hp0, allPairs_cons, runesOf_eq, Hs.out, Hf.out]
      clear hp0
      gi_loopw [5] (fun bv w2 => ∃ (b : Int) (pos fuel : Nat) (pre2 post2 : List Pair), bv = .int .u8 b ∧ w2.heap[r]? = some (.stringIter s pos) ∧ xs = pre2 ++ post2 ∧ post2.map (·.1) = pairsFrom b (runesFrom s fuel pos) ++ allPairs (rows.drop (k + 1)) ∧ s.size ≤ pos + fuel ∧ J pre2 w2 ∧ Kept mb W w2)
        (fun _ w2 => s.size - w2.iterPos r)
      case atStart => exact ⟨f, 0, s.size, pre, post, rfl, hit0, Hxp.out, hp1, by omega, hJ0, hkp0⟩
      case round =>
        obtain ⟨b, pos, fuel, pre2, post2, rfl, hit, hxp2, hpost2, hfu, hJ2, hkp2⟩ := hrel
        clear hwo hp1 hJ0 hkp0 hit0
        by_cases hpos : pos < s.size
        · obtain ⟨fuel', rfl⟩ : ∃ f', fuel = f' + 1 := ⟨fuel - 1, by omega⟩
          rw [runesFrom_step _ _ _ hpos, pairsFrom_cons, List.cons_append] at hpost2
          have hw1 := Lib.decode_width_pos s pos hpos
          have hnx := Lib.run_next_any_at (P := Tryd.prog) wr r s pos 0 hit hpos
          obtain ⟨R, hR⟩ : ∃ R, (Utf8.decode s pos).1 = R := ⟨_, rfl⟩
          obtain ⟨S, hS⟩ : ∃ S, (Utf8.decode s pos).2 = S := ⟨_, rfl⟩
          rw [hR, hS] at hnx hpost2
          rw [hS] at hw1
          clear hR hS
          obtain ⟨x, post3, rfl⟩ : ∃ x post3, post2 = x :: post3 := by
            cases post2 with
            | nil => simp at hpost2
            | cons x p => exact ⟨x, p, rfl⟩
          simp only [List.map_cons, List.cons.injEq] at hpost2
          obtain ⟨hx, hpost3⟩ := hpost2
          have hit2 := Lib.iterAt_heap wr r s pos (pos + S) hit
          have hJ3 := HJ.out pre2 wr (wr.iterAt r s (pos + S)) (some r) hJ2 (grown_iterAt _ _ _ _) (fun r' e => by cases e; exact ⟨hrl, _, hit, rfl⟩)
          have hkp3 := hkp2.iterAt hWr s (pos + S)
          obtain ⟨fn, tmps, assign, body, hy, hR⟩ := HY.out pre2 x _ hJ3 (by rw [hxp2]; simp)
          rw [hx] at hy
          dsimp only at hy
          have hxb := x.2
          rw [hx] at hxb
          have hb0 : 0 ≤ b := hxb.1
          have hb1 : b ≤ 254 := hxb.2.1
          have hbw : IntKind.u8.wrap (b + 1) = b + 1 := by simp [IntKind.wrap, IntKind.bits, IntKind.signed]; omega
          have Hxp2 := Lib.hid hxp2
          have Hpost3 := Lib.hid hpost3
          have Hhit2 := Lib.hid hit2
          have Hhit := Lib.hid hit
          clear hxp2 hpost3 hit2 hit hxb hx hJ3 hJ2
          gi_wp2
          refine hR.mono ?_
          clear hR hy
          rintro e W3 (⟨rfl, hJ4, hk4⟩ | ⟨rfl, hJx4⟩)
          · have Hk4 := Lib.hid hk4
            have HJ4 := Lib.hid hJ4
            have Hit4 := Lib.hid (hk4.same r _ (by omega) Hhit2.out (.inr rfl))
            have Hmz := Lib.hid (show s.size - W3.iterPos r < s.size - wr.iterPos r by
              have e1 : W3.iterPos r = pos + S := by unfold World.iterPos; rw [Hit4.out]
              have e2 : wr.iterPos r = pos := by unfold World.iterPos; rw [Hhit.out]
              rw [e1, e2]; omega)
            clear hk4 hJ4 hnx
            gi_wp2
            go_roundw
            case rel => exact ⟨b + 1, pos + S, fuel', pre2 ++ [x], post3, by first | rfl | rw [hbw], Hit4.out, by rw [Hxp2.out]; simp, Hpost3.out, by omega, HJ4.out, hkp3.trans Hk4.out⟩
            case measure => exact Hmz.out
          · have HJx := Lib.hid hJx4
            clear hJx4 hnx
            gi_wp2
            refine bodyPost_ret (results_none rfl _ _ _) rfl ?_
            exact ⟨⟨_, rfl⟩, .inr ⟨pre2 ++ [x], ⟨post3, by rw [Hxp2.out]; simp⟩, HJx.out⟩⟩
        · have hnx := Lib.run_next_end_at (P := Tryd.prog) wr r s pos 0 hit hpos
          rw [runesFrom_end _ _ _ hpos] at hpost2
          have Hxp2 := Lib.hid hxp2
          have Hpost2 := Lib.hid hpost2
          have HJ2 := Lib.hid hJ2
          have Hkp2 := Lib.hid hkp2
          clear hxp2 hpost2 hJ2 hkp2 hit hpos
          gi_wp2
          go_roundw
          case rel => exact ⟨k + 1, pre2, post2, by omega, by go_num, Hxp2.out, by have := Hpost2.out; simpa [pairsFrom] using this, HJ2.out, Hkp2.out⟩
          case measure => simp [intOf]; omega
    · have hge : rows.length ≤ k := by omega
      have hd : decide (k < rows.length) = false := decide_eq_false hlt
      have Hd := Lib.hid (List.drop_eq_nil_of_le hge)
      have Hpost := Lib.hid hpost
      have Hxp := Lib.hid hxp
      clear hlt hpost hxp
      gi_wp2
      go_end0
      have hp := Hpost.out
      rw [Hd.out] at hp
      obtain rfl : post = [] := by simpa [allPairs] using hp
      exact ⟨⟨_, rfl⟩, .inl ⟨pre, by rw [Hxp.out, List.append_nil], hJs⟩⟩
end Go.Proofs.YtjndekmpnihamaaDoor
