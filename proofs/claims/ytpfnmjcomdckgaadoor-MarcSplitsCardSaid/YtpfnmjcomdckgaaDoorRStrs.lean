/-
  The reference's comparison of lists of strings; the law's splits.
-/
import Derived.Test.YtpfnmjcomdckgaaDoorRSplit
import Derived.Deep.QuietTactic
import Derived.BigQuiet
import Derived.RegionTactic
import Derived.Deep.RegionWith
import Derived.Deep.RegionHeld3
namespace Go.Proofs.YtpfnmjcomdckgaaDoor
open Go.RowKit Go.Shelf
set_option linter.unusedVariables false
set_option linter.unusedSimpArgs false

/-- A slice value reads as a list, each element in one cell. -/
def Reads {α : Type} (enc : α → Value) (w : World) (v : Value) (l : List α) : Prop :=
  (∃ a c, v = .slice a 0 c ∧ l = []) ∨
  ∃ b off cap, v = .slice (some ⟨b, off, none⟩) l.length cap ∧ l.length ≤ maxLen ∧ (∀ i (h : i < l.length), w.cell? ⟨b, off + i, none⟩ = some (enc l[i])) ∧ b < w.heap.size
theorem Reads.below {α : Type} {enc : α → Value} {w w' : World} {v : Value} {l : List α} {B : Nat} (h : Reads enc w v l) (hb : Below B w w') (hB : B = w.heap.size) : Reads enc w' v l := by
  subst hB
  rcases h with h | ⟨b, off, cap, hv, hm, hc, hlt⟩
  · exact .inl h
  · exact .inr ⟨b, off, cap, hv, hm, fun i hi => (hb.cell (p := ⟨b, off + i, none⟩) hlt).trans (hc i hi), Nat.lt_of_lt_of_le hlt hb.size⟩
theorem Reads.slice {α : Type} {enc : α → Value} {w : World} {v : Value} {l : List α} (h : Reads enc w v l) : ∃ a cap, v = .slice a l.length cap ∧ l.length ≤ maxLen ∧ ∀ i (h : i < l.length), ∃ b off, a = some ⟨b, off, none⟩ ∧ w.cell? ⟨b, off + i, none⟩ = some (enc l[i]) ∧ b < w.heap.size := by
  rcases h with ⟨a, c, rfl, rfl⟩ | ⟨b, off, cap, hv, hm, hc, hlt⟩
  · exact ⟨a, c, rfl, Nat.zero_le _, fun i h => by simp at h⟩
  · exact ⟨_, _, hv, hm, fun i hi => ⟨b, off, rfl, hc i hi, hlt⟩⟩

abbrev encS (s : List UInt8) : Value := str s
theorem reads_of_own {α : Type} {enc : α → Value} {e : TypeId} {w : World} {B : Nat} {v : Value} {l : List α} (h : w.ownsRow B e 1 v l.length (l.map enc)) : Reads enc w v l := by
  rcases h.2 with ⟨hv, h0⟩ | ⟨g, cap, cur, hv, hbg, hg, hnc, hcm, hcs, htake⟩
  · exact .inl ⟨none, 0, by rw [hv], List.eq_nil_of_length_eq_zero h0⟩
  · refine .inr ⟨g, 0, cap, hv, by omega, ?_, (Array.getElem?_eq_some_iff.1 hg).1⟩
    intro i hi
    have h1 : (cur.toList.take (l.length * 1))[i]? = some (enc l[i]) := by rw [htake]; simp [hi]
    rw [List.getElem?_take_of_lt (by omega)] at h1
    simp [World.cell?, hg]
    simpa using h1
theorem below_drewN {B : Nat} {a w : World} (h : Below B a w) (n : Nat) : Below B a (w.drewN n) := ⟨h.os, h.tape, h.output, h.size, h.block⟩
theorem take_same {α : Type} {l m : List α} {k : Nat} (h : l.take k = m.take k) (h1 : k < l.length) (h2 : k < m.length) (he : l[k] = m[k]) : l.take (k + 1) = m.take (k + 1) := by
  rw [List.take_succ_eq_append_getElem h1, List.take_succ_eq_append_getElem h2, h, he]

set_option maxRecDepth 100000 in
set_option maxHeartbeats 400000 in
theorem strings_c (va vb : Value) (la lb : List (List UInt8)) (w : World) (ha : Reads encS w va la) (hb : Reads encS w vb lb) :
    Calls Tryd.prog 28 #[va, vb] w fun e w' => e = .returned (.bool (decide (la = lb))) ∧ Below w.heap.size w w' := by
  obtain ⟨a, ca, rfl, hma, hca⟩ := ha.slice
  obtain ⟨b, cb, rfl, hmb, hcb⟩ := hb.slice
  unfold maxLen at hma hmb
  clear ha hb
  by_cases hl : la.length = lb.length
  · have hq : ((la.length : Int) != (lb.length : Int)) = false := by rw [hl]; simp
    have Hl := Lib.hid hl
    have Hca := Lib.hid hca
    have Hcb := Lib.hid hcb
    clear hl hca hcb
    go_enter Tryd.func28, Tryd.ntmps28
    go_wp2
    go_loopw [5] (fun i wr => ∃ k : Nat, k ≤ la.length ∧ i = .int .i64 k ∧ la.take k = lb.take k ∧ Below w.heap.size w wr) (fun i _ => la.length - (intOf i).toNat)
    case atStart => exact ⟨0, Nat.zero_le _, rfl, by simp, Below.refl _ _⟩
    case round =>
      obtain ⟨k, hk, rfl, htk, hbel⟩ := hrel
      have Htk := Lib.hid htk
      clear htk
      by_cases hlt : k < la.length
      · have hltb : k < lb.length := by have := Hl.out; omega
        obtain ⟨b1, o1, rfl, h1, h2⟩ := Hca.out k hlt
        obtain ⟨b2, o2, rfl, h3, h4⟩ := Hcb.out k hltb
        have c1 : wr.cell? ⟨b1, o1 + k, none⟩ = some (encS la[k]) := (hbel.cell (p := ⟨b1, o1 + k, none⟩) h2).trans h1
        have c2 : wr.cell? ⟨b2, o2 + k, none⟩ = some (encS lb[k]) := (hbel.cell (p := ⟨b2, o2 + k, none⟩) h4).trans h3
        have i1 : (k : Int) < (la.length : Int) := by omega
        have i2 : (k : Int) < (lb.length : Int) := by omega
        have Hbel := Lib.hid hbel
        clear h1 h2 h3 h4 hbel
        cases hq2 : (la[k] == lb[k]) with
        | true =>
          have Hs := Lib.hid (take_same Htk.out hlt hltb (beq_iff_eq.1 hq2))
          go_wp2_with fail
          go_quiet (fail)
          go_wp2
          go_roundw
          case rel => exact ⟨k + 1, by omega, by go_num, Hs.out, below_drewN Hbel.out _⟩
          case measure => simp [intOf]; omega
        | false =>
          have hd := Lib.hid (show decide (la = lb) = false from decide_eq_false (fun h => beq_eq_false_iff_ne.1 hq2 (by simp [h])))
          go_wp2_with fail
          go_quiet (fail)
          go_wp2
          go_ret
          exact ⟨by rw [hd.out]; rfl, below_drewN Hbel.out _⟩
      · have hkl : k = la.length := by omega
        subst hkl
        have hd := Lib.hid (show decide (la = lb) = true from decide_eq_true (by
          have := Htk.out
          rw [List.take_length, Hl.out, List.take_length] at this
          exact this))
        go_wp2
        go_ret
        exact ⟨by rw [hd.out]; rfl, hbel⟩
  · have hq : ((la.length : Int) != (lb.length : Int)) = true := by rw [bne_iff_ne]; omega
    have hd := Lib.hid (show decide (la = lb) = false from decide_eq_false (fun h => hl (by rw [h])))
    clear hl hca hcb
    go_enter Tryd.func28, Tryd.ntmps28
    go_wp2
    go_ret
    exact ⟨by rw [hd.out]; rfl, Below.refl _ _⟩
theorem strings_eq {va vb : Value} {l : List (List UInt8)} {w : World} (ha : Reads encS w va l) (hb : Reads encS w vb l) :
    Calls Tryd.prog 28 #[va, vb] w fun e w' => e = .returned (.bool true) ∧ Below w.heap.size w w' := by
  have h := strings_c va vb l l w ha hb
  rwa [decide_eq_true (rfl : l = l)] at h
set_option maxRecDepth 100000 in
set_option maxHeartbeats 2000000 in
theorem splits_c (s : List UInt8) (hl : s.length ≤ 140737488351232) (w : World) :
    Calls Tryd.prog 29 #[str s] w fun e w' => e = .returned (.bool true) ∧ Below w.heap.size w w' := by
  have H1 := Lib.hid (split_c s hl w)
  have H2 := Lib.hid (fun W => rSplit_c s hl W)
  obtain ⟨⟨l, q, k⟩, hx⟩ : ∃ x, splitM (s.length + 1) s 0 [] = x := ⟨_, rfl⟩
  rw [hx] at H1 H2
  clear hx hl
  go_enter Tryd.func29, Tryd.ntmps29
  go_wp2_with fail
  refine H1.out.mono ?_
  clear H1
  rintro e1 w1 ⟨va, rfl, hown1, hb1⟩
  have hra := reads_of_own hown1
  clear hown1
  go_wp2_with fail
  refine (H2.out w1).mono ?_
  clear H2
  rintro e2 w2 ⟨vb, rfl, hown2, hb2⟩
  have hrb := reads_of_own hown2
  have hra2 := hra.below hb2 rfl
  have H3 := Lib.hid (strings_eq hra2 hrb)
  have Hb2 := Lib.hid (below_tr hb1 hb2)
  clear hown2 hra hrb hra2 hb1 hb2
  go_wp2_with fail
  refine H3.out.mono ?_
  clear H3
  rintro e3 w3 ⟨rfl, hb3⟩
  have Hb3 := Lib.hid (below_tr Hb2.out hb3)
  clear hb3 Hb2
  go_wp2
  go_ret
  exact ⟨rfl, Hb3.out⟩
end Go.Proofs.YtpfnmjcomdckgaaDoor
