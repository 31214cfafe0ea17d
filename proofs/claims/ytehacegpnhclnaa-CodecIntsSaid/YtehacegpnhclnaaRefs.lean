/-
  The reference's comparisons of lists, its Pack and Ints.
-/
import Derived.Test.YtehacegpnhclnaaList
import Derived.Deep.QuietTactic
import Derived.BigQuiet
import Derived.RegionTactic
import Derived.Deep.RegionWith
import Derived.Deep.RegionHeld3
namespace Go.Proofs.Ytehacegpnhclnaa
open Go.RowKit Go.Shelf

theorem below_drewN {B : Nat} {a w : World} (h : Below B a w) (n : Nat) : Below B a (w.drewN n) := ⟨h.os, h.tape, h.output, h.size, h.block⟩
theorem take_same {α : Type} {l m : List α} {k : Nat} (h : l.take k = m.take k) (h1 : k < l.length) (h2 : k < m.length) (he : l[k] = m[k]) : l.take (k + 1) = m.take (k + 1) := by
  rw [List.take_succ_eq_append_getElem h1, List.take_succ_eq_append_getElem h2, h, he]

set_option maxRecDepth 100000 in
set_option maxHeartbeats 400000 in
theorem strings_c (va vb : Value) (la lb : List (List UInt8)) (w : World) (ha : Reads encS w va la) (hb : Reads encS w vb lb) :
    Calls Try.prog 31 #[va, vb] w fun e w' => e = .returned (.bool (decide (la = lb))) ∧ Below w.heap.size w w' := by
  obtain ⟨a, ca, rfl, hma, hca⟩ := ha.slice
  obtain ⟨b, cb, rfl, hmb, hcb⟩ := hb.slice
  unfold maxLen at hma hmb
  clear ha hb
  by_cases hl : la.length = lb.length
  · have hq : ((la.length : Int) != (lb.length : Int)) = false := by rw [hl]; simp
    have Hl := Lib.hid hl
    have Hca := Lib.hid hca
    have Hcb := Lib.hid hcb
    clear hl hca hcb
    go_enter Try.func31, Try.ntmps31
    go_wp2
    go_loopw [5] (fun i wr => ∃ k : Nat, k ≤ la.length ∧ i = .int .i64 k ∧ la.take k = lb.take k ∧ Below w.heap.size w wr) (fun i _ => la.length - (intOf i).toNat)
    case atStart => exact ⟨0, Nat.zero_le _, rfl, by simp, Below.refl _ _⟩
    case round =>
      obtain ⟨k, hk, rfl, htk, hbel⟩ := hrel
      have Htk := Lib.hid htk
      clear htk
      by_cases hlt : k < la.length
      · have hltb : k < lb.length := by have := Hl.out; omega
        obtain ⟨b1, o1, rfl, h1, h2⟩ := Hca.out k hlt
        obtain ⟨b2, o2, rfl, h3, h4⟩ := Hcb.out k hltb
        have c1 : wr.cell? ⟨b1, o1 + k, none⟩ = some (encS la[k]) := (hbel.cell (p := ⟨b1, o1 + k, none⟩) h2).trans h1
        have c2 : wr.cell? ⟨b2, o2 + k, none⟩ = some (encS lb[k]) := (hbel.cell (p := ⟨b2, o2 + k, none⟩) h4).trans h3
        have i1 : (k : Int) < (la.length : Int) := by omega
        have i2 : (k : Int) < (lb.length : Int) := by omega
        have Hbel := Lib.hid hbel
        clear h1 h2 h3 h4 hbel
        cases hq2 : (la[k] == lb[k]) with
        | true =>
          have Hs := Lib.hid (take_same Htk.out hlt hltb (beq_iff_eq.1 hq2))
          go_wp2_with fail
          go_quiet (fail)
          go_wp2
          go_roundw
          case rel => exact ⟨k + 1, by omega, by go_num, Hs.out, below_drewN Hbel.out _⟩
          case measure => simp [intOf]; omega
        | false =>
          have hd := Lib.hid (show decide (la = lb) = false from decide_eq_false (fun h => beq_eq_false_iff_ne.1 hq2 (by simp [h])))
          go_wp2_with fail
          go_quiet (fail)
          go_wp2
          go_ret
          exact ⟨by rw [hd.out]; rfl, below_drewN Hbel.out _⟩
      · have hkl : k = la.length := by omega
        subst hkl
        have hd := Lib.hid (show decide (la = lb) = true from decide_eq_true (by
          have := Htk.out
          rw [List.take_length, Hl.out, List.take_length] at this
          exact this))
        go_wp2
        go_ret
        exact ⟨by rw [hd.out]; rfl, hbel⟩
  · have hq : ((la.length : Int) != (lb.length : Int)) = true := by rw [bne_iff_ne]; omega
    have hd := Lib.hid (show decide (la = lb) = false from decide_eq_false (fun h => hl (by rw [h])))
    clear hl hca hcb
    go_enter Try.func31, Try.ntmps31
    go_wp2
    go_ret
    exact ⟨by rw [hd.out]; rfl, Below.refl _ _⟩
set_option maxRecDepth 100000 in
set_option maxHeartbeats 400000 in
theorem same_c (va vb : Value) (la lb : List Int) (w : World) (ha : Reads encI w va la) (hb : Reads encI w vb lb) :
    Calls Try.prog 36 #[va, vb] w fun e w' => e = .returned (.bool (decide (la = lb))) ∧ Below w.heap.size w w' := by
  obtain ⟨a, ca, rfl, hma, hca⟩ := ha.slice
  obtain ⟨b, cb, rfl, hmb, hcb⟩ := hb.slice
  unfold maxLen at hma hmb
  clear ha hb
  by_cases hl : la.length = lb.length
  · have hq : ((la.length : Int) != (lb.length : Int)) = false := by rw [hl]; simp
    have Hl := Lib.hid hl
    have Hca := Lib.hid hca
    have Hcb := Lib.hid hcb
    clear hl hca hcb
    go_enter Try.func36, Try.ntmps36
    go_wp2
    go_loopw [5] (fun i wr => ∃ k : Nat, k ≤ la.length ∧ i = .int .i64 k ∧ la.take k = lb.take k ∧ Below w.heap.size w wr) (fun i _ => la.length - (intOf i).toNat)
    case atStart => exact ⟨0, Nat.zero_le _, rfl, by simp, Below.refl _ _⟩
    case round =>
      obtain ⟨k, hk, rfl, htk, hbel⟩ := hrel
      have Htk := Lib.hid htk
      clear htk
      by_cases hlt : k < la.length
      · have hltb : k < lb.length := by have := Hl.out; omega
        obtain ⟨b1, o1, rfl, h1, h2⟩ := Hca.out k hlt
        obtain ⟨b2, o2, rfl, h3, h4⟩ := Hcb.out k hltb
        have c1 : wr.cell? ⟨b1, o1 + k, none⟩ = some (encI la[k]) := (hbel.cell (p := ⟨b1, o1 + k, none⟩) h2).trans h1
        have c2 : wr.cell? ⟨b2, o2 + k, none⟩ = some (encI lb[k]) := (hbel.cell (p := ⟨b2, o2 + k, none⟩) h4).trans h3
        have i1 : (k : Int) < (la.length : Int) := by omega
        have i2 : (k : Int) < (lb.length : Int) := by omega
        have Hbel := Lib.hid hbel
        clear h1 h2 h3 h4 hbel
        cases hq2 : (la[k] != lb[k]) with
        | false =>
          have Hs := Lib.hid (take_same Htk.out hlt hltb (by simpa using hq2))
          go_wp2_with fail
          go_quiet (fail)
          go_wp2
          go_roundw
          case rel => exact ⟨k + 1, by omega, by go_num, Hs.out, below_drewN Hbel.out _⟩
          case measure => simp [intOf]; omega
        | true =>
          have hd := Lib.hid (show decide (la = lb) = false from decide_eq_false (fun h => by simp [h] at hq2))
          go_wp2_with fail
          go_quiet (fail)
          go_wp2
          go_ret
          exact ⟨by rw [hd.out]; rfl, below_drewN Hbel.out _⟩
      · have hkl : k = la.length := by omega
        subst hkl
        have hd := Lib.hid (show decide (la = lb) = true from decide_eq_true (by
          have := Htk.out
          rw [List.take_length, Hl.out, List.take_length] at this
          exact this))
        go_wp2
        go_ret
        exact ⟨by rw [hd.out]; rfl, hbel⟩
  · have hq : ((la.length : Int) != (lb.length : Int)) = true := by rw [bne_iff_ne]; omega
    have hd := Lib.hid (show decide (la = lb) = false from decide_eq_false (fun h => hl (by rw [h])))
    clear hl hca hcb
    go_enter Try.func36, Try.ntmps36
    go_wp2
    go_ret
    exact ⟨by rw [hd.out]; rfl, Below.refl _ _⟩

set_option maxRecDepth 100000 in
set_option maxHeartbeats 2000000 in
/-- The reference's Pack. -/
theorem rpack_c (sl : Value) (l : List (List UInt8)) (w : World) (hr : Reads encS w sl l) (hlen : (pack l).length + 10 ≤ 140737488355328) :
    Calls Try.prog 32 #[sl] w fun e w' => e = .returned (str (pack l)) ∧ Below w.heap.size w w' := by
  obtain ⟨a, cap, rfl, hm, hcell⟩ := hr.slice
  unfold maxLen at hm
  have H1 := Lib.hid (rnumber_c l.length w (by omega))
  have Hlen := Lib.hid hlen
  have Hcell := Lib.hid hcell
  clear hlen hr hcell
  go_enter Try.func32, Try.ntmps32
  go_wp2_with fail
  refine H1.out.mono ?_
  clear H1
  rintro e w1 ⟨rfl, hw1⟩
  have Hw1 := Lib.hid hw1
  clear hw1
  go_wp2_with fail
  go_loopw [3, 4] (fun acc i wr => ∃ k : Nat, k ≤ l.length ∧ i = .int .i64 k ∧ acc = str (num l.length ++ (l.take k).flatMap strB) ∧ Below w.heap.size w wr) (fun _ i _ => l.length - (intOf i).toNat)
  case atStart => exact ⟨0, Nat.zero_le _, rfl, by simp, Hw1.out⟩
  case round =>
    obtain ⟨k, hk, rfl, rfl, hbel⟩ := hrel
    clear Hw1
    by_cases hlt : k < l.length
    · obtain ⟨b, off, rfl, hc, hbl⟩ := Hcell.out k hlt
      have hcr : wr.cell? ⟨b, off + k, none⟩ = some (encS l[k]) := (hbel.cell (p := ⟨b, off + k, none⟩) hbl).trans hc
      have hbw : b < wr.heap.size := Nat.lt_of_lt_of_le hbl hbel.size
      clear hc hbl
      have hstep := code_step strB l k hlt
      have hpre2 := code_take_len strB l (k + 1)
      rw [hstep] at hpre2
      have hL := Hlen.out
      unfold pack at hL
      have hel : (strB l[k]).length = (num l[k].length).length + l[k].length := by simp [strB]
      simp only [List.length_append] at hpre2
      have hsz : (ByteArray.mk l[k].toArray).size = l[k].length := size_str _
      have hbd : l[k].length ≤ 140737488355328 := by omega
      have i1 : (k : Int) < (l.length : Int) := by omega
      obtain ⟨A, hA⟩ : ∃ A, num l.length ++ (l.take k).flatMap strB = A := ⟨_, rfl⟩
      have hAl : A.length ≤ 140737488355328 := by rw [← hA, List.length_append]; omega
      have hnl : (num l[k].length).length ≤ 140737488355328 := by omega
      have hstep2 : A ++ num l[k].length ++ l[k] = num l.length ++ (l.take (k + 1)).flatMap strB := by
        rw [hstep, ← hA]; simp [strB]
      have hadd1 := add_str A (num l[k].length) (by omega)
      have hadd2 := add_str (A ++ num l[k].length) l[k] (by simp only [List.length_append]; omega)
      have H2 := Lib.hid (fun W => rnumber_c l[k].length W (by omega))
      have hwr : IntKind.u64.wrap (l[k].length : Int) = (l[k].length : Int) := wrapU64 _ (by omega) (by omega)
      rw [hA]
      have Hstep2 := Lib.hid hstep2
      have Hbel := Lib.hid hbel
      clear hstep hpre2 hL hel hA hAl hnl hstep2 hbel
      go_wp2_with fail
      go_region_held3 (fun w' => w'.cell? ⟨b, off + k, none⟩ = some (encS l[k]) ∧ b < w'.heap.size)
        (first
          | go_keep
          | (go_split_ands
             refine ⟨?_, ?_⟩
             · refine (hb.cell (p := ⟨b, off + k, none⟩) ?_).trans ?_ <;> assumption
             · refine Nat.lt_of_lt_of_le ?_ hb.size <;> assumption))
        (first | (go_at_call 22; refine (H2.out _).mono ?_; rintro e W2 ⟨rfl, hb⟩))
      go_wp2
      go_roundw
      case rel => exact ⟨k + 1, by omega, by go_num, congrArg str ((List.append_assoc _ _ _).symm.trans Hstep2.out), Hbel.out.trans ((Below.refl _ wr).drew.trans (hb.mono Hbel.out.size))⟩
      case measure => simp [intOf]; omega
    · have hkl : k = l.length := by omega
      subst hkl
      rw [List.take_length]
      go_wp2
      go_ret
      exact ⟨rfl, hbel⟩

set_option maxRecDepth 100000 in
set_option maxHeartbeats 1000000 in
/-- The reference's Ints. -/
theorem rints_c (sl : Value) (l : List Int) (w : World) (hr : Reads encI w sl l) (hf : ∀ n ∈ l, Fits n) (hlen : (intsL l).length + 10 ≤ 140737488355328) :
    Calls Try.prog 37 #[sl] w fun e w' => e = .returned (str (intsL l)) ∧ Below w.heap.size w w' := by
  obtain ⟨a, cap, rfl, hm, hcell⟩ := hr.slice
  unfold maxLen at hm
  have H1 := Lib.hid (rnumber_c l.length w (by omega))
  have Hlen := Lib.hid hlen
  have Hcell := Lib.hid hcell
  have Hf := Lib.hid hf
  clear hlen hr hcell hf
  go_enter Try.func37, Try.ntmps37
  go_wp2_with fail
  refine H1.out.mono ?_
  clear H1
  rintro e w1 ⟨rfl, hw1⟩
  have Hw1 := Lib.hid hw1
  clear hw1
  go_wp2_with fail
  go_loopw [3, 4] (fun acc i wr => ∃ k : Nat, k ≤ l.length ∧ i = .int .i64 k ∧ acc = str (num l.length ++ (l.take k).flatMap intB) ∧ Below w.heap.size w wr) (fun _ i _ => l.length - (intOf i).toNat)
  case atStart => exact ⟨0, Nat.zero_le _, rfl, by simp, Hw1.out⟩
  case round =>
    obtain ⟨k, hk, rfl, rfl, hbel⟩ := hrel
    clear Hw1
    by_cases hlt : k < l.length
    · obtain ⟨b, off, rfl, hc, hbl⟩ := Hcell.out k hlt
      have hcr : wr.cell? ⟨b, off + k, none⟩ = some (encI l[k]) := (hbel.cell (p := ⟨b, off + k, none⟩) hbl).trans hc
      clear hc hbl
      have hstep := code_step intB l k hlt
      have hpre2 := code_take_len intB l (k + 1)
      rw [hstep] at hpre2
      have hL := Hlen.out
      unfold intsL at hL
      simp only [List.length_append] at hpre2
      obtain ⟨hf1, hf2⟩ := Hf.out l[k] (List.getElem_mem hlt)
      have hsr := sg_range l[k] hf1 hf2
      obtain ⟨q, hq⟩ : ∃ q : Nat, sg l[k] = (q : Int) := ⟨(sg l[k]).toNat, by omega⟩
      have h0 := rsigned_c l[k] wr hf1 hf2
      rw [hq] at h0 hsr
      have hib : intB l[k] = num q := by unfold intB; rw [hq]; rfl
      rw [hib] at hstep hpre2
      obtain ⟨A, hA⟩ : ∃ A, num l.length ++ (l.take k).flatMap intB = A := ⟨_, rfl⟩
      have hstep2 : A ++ num q = num l.length ++ (l.take (k + 1)).flatMap intB := by
        rw [hstep, ← hA, List.append_assoc]
      have hAl : A.length + (num q).length ≤ 140737488355328 := by rw [← hA, List.length_append]; omega
      have hadd1 := add_str A (num q) (by omega)
      have H0 := Lib.hid h0
      have H2 := Lib.hid (rnumber_c q wr (by omega))
      rw [hA]
      have Hstep2 := Lib.hid hstep2
      have Hbel := Lib.hid hbel
      clear h0 hstep hpre2 hL hbel hib hq hsr hf1 hf2 hA hAl hstep2
      go_wp2_with fail
      refine H0.out.mono ?_
      clear H0
      rintro e w2 ⟨rfl, rfl⟩
      go_wp2_with fail
      refine H2.out.mono ?_
      clear H2
      rintro e w2 ⟨rfl, hw2⟩
      go_wp2
      go_roundw
      case rel => exact ⟨k + 1, by omega, by go_num, congrArg str Hstep2.out, Hbel.out.trans (hw2.mono Hbel.out.size)⟩
      case measure => simp [intOf]; omega
    · have hkl : k = l.length := by omega
      subst hkl
      rw [List.take_length]
      go_wp2
      go_ret
      exact ⟨rfl, hbel⟩
end Go.Proofs.Ytehacegpnhclnaa
