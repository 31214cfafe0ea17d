/-
  The reference's Parts.
-/
import Derived.Test.YtjndekmpnihamaaDoorMSearch
import Derived.BigRegion
namespace Go.Proofs.YtjndekmpnihamaaDoor
open Go.RowKit Go.Shelf
set_option linter.unusedVariables false
set_option linter.unusedSimpArgs false

theorem refCells_at (l : List FRow) : ∀ k (h : k < l.length), (refCells l)[k * 3]? = some (str l[k].1) ∧ (refCells l)[k * 3 + 1]? = some (str l[k].2.1) ∧ (refCells l)[k * 3 + 2]? = some (str l[k].2.2) := by
  induction l with
  | nil => intro k h; simp at h
  | cons x r ih =>
    intro k h
    cases k with
    | zero => simp [refCells]
    | succ k =>
      have := ih k (by simpa using h)
      simp only [refCells, List.flatMap_cons, List.cons_append, List.nil_append, List.getElem_cons_succ] at this ⊢
      rw [show (k + 1) * 3 = k * 3 + 1 + 1 + 1 from by omega]
      simpa using this
/-- What the search comes to. -/
def partsV (c : Int) : Value := match compC c with
  | some x => .tuple #[.int .i64 x.1, .int .i64 x.2]
  | none => .tuple #[.int .i64 c, .int .i64 0]
set_option maxRecDepth 100000 in
set_option maxHeartbeats 4000000 in
theorem parts_c (c : Int) (w : World) :
    Calls Tryd.prog 19 #[.int .i64 c] w fun e w' => e = .returned (partsV c) ∧ Below w.heap.size w w' := by
  have N := Lib.hid (refComposed_c w)
  have Hs := Lib.hid (search_is c)
  have hl13 : refFam.length = 13 := by decide
  have Hok := Lib.hid fam_ok
  have Hat := Lib.hid (refCells_at refFam)
  obtain ⟨F, hF⟩ : ∃ F, refFam = F := ⟨_, rfl⟩
  rw [hF] at N Hs hl13 Hok Hat
  clear hF
  go_enter Tryd.func19, Tryd.ntmps19
  go_wp2_with fail
  refine N.out.mono ?_
  clear N
  rintro e w1 ⟨rfl, hblk, hb1⟩
  go_wp2
  have hlt1 : w.heap.size < w1.heap.size := lt_at hblk
  have Hb1 := Lib.hid hb1
  have hcell : ∀ k (h : k < F.length), w1.cell? ⟨w.heap.size, k * 3, none⟩ = some (str F[k].1) ∧ w1.cell? ⟨w.heap.size, k * 3 + 1, none⟩ = some (str F[k].2.1) ∧ w1.cell? ⟨w.heap.size, k * 3 + 2, none⟩ = some (str F[k].2.2) := by
    intro k h
    have := Hat.out k h
    rw [cell_at hblk, cell_at hblk, cell_at hblk]
    simpa using this
  have Hcell := Lib.hid hcell
  clear hblk hb1 hcell Hat
  go_loopw [5] (fun i wr => ∃ k : Nat, k ≤ F.length ∧ i = .int .i64 k ∧ searchF c (F.drop k) = compC c ∧ Below w1.heap.size w1 wr) (fun i _ => F.length - (intOf i).toNat)
  case atStart => exact ⟨0, Nat.zero_le _, rfl, by simpa using Hs.out, Below.refl _ _⟩
  case round =>
    obtain ⟨k, hk, rfl, hse, hb⟩ := hrel
    by_cases hlt : k < F.length
    · obtain ⟨h0, h1, h2⟩ := Hcell.out k hlt
      have h0 := (hb.cell (p := ⟨w.heap.size, k * 3, none⟩) hlt1).trans h0
      have h1 := (hb.cell (p := ⟨w.heap.size, k * 3 + 1, none⟩) hlt1).trans h1
      have h2 := (hb.cell (p := ⟨w.heap.size, k * 3 + 2, none⟩) hlt1).trans h2
      have hok := List.all_eq_true.1 Hok.out _ (List.getElem_mem hlt)
      have hdr := List.drop_eq_getElem_cons hlt
      have i0 : (0 : Int) ≤ (k : Int) := by omega
      have i1 : (k : Int) < (13 : Int) := by omega
      obtain ⟨r, hr⟩ : ∃ r, F[k] = r := ⟨_, rfl⟩
      rw [hr] at h0 h1 h2 hok hdr
      unfold rowOk at hok
      simp only [Bool.and_eq_true, beq_iff_eq, decide_eq_true_eq] at hok
      obtain ⟨⟨⟨o1, o2⟩, o3⟩, o4⟩ := hok
      obtain ⟨cap, W5, hconv, hb5, hlt5, hc5⟩ := run_runes wr r.1 (by omega)
      rw [show runesR r.1.length r.1 = rowR r from rfl] at hconv hc5
      have hAl : (rowR r).length ≤ 100 := Nat.le_trans (runesR_len _ _) o3
      have hAr : ∀ c ∈ rowR r, 0 ≤ c ∧ c ≤ 1114111 ∧ (c < 55296 ∨ 57343 < c) := runesR_ok _ _
      obtain ⟨A, hA⟩ : ∃ A, rowR r = A := ⟨_, rfl⟩
      rw [hA] at hAl hAr
      have HAr := Lib.hid hAr
      clear hAr
      rw [hA] at hconv hc5 o1
      have hse2 : (match searchR (markR r) c A r.2.1 with | some x => some x | none => searchF c (F.drop (k + 1))) = compC c := by
        rw [← hse, hdr, ← hA]; rfl
      have hlw := hb.size
      have h1 := (hb5.cell (p := ⟨w.heap.size, k * 3 + 1, none⟩) (by show w.heap.size < wr.heap.size; omega)).trans h1
      have h2 := (hb5.cell (p := ⟨w.heap.size, k * 3 + 2, none⟩) (by show w.heap.size < wr.heap.size; omega)).trans h2
      have Hb5 := Lib.hid (hb.trans (hb5.mono hlw))
      have Hc5 := Lib.hid hc5
      have Hse2 := Lib.hid hse2
      have H1 := Lib.hid h1
      have H2 := Lib.hid h2
      clear hse hdr hb hb5 hc5 hse2 hA o3 hr h1 h2
      obtain ⟨g, hg⟩ : ∃ g, wr.heap.size = g := ⟨_, rfl⟩
      rw [hg] at hconv
      go_wp2
      go_loopw [7] (fun j w2 => ∃ n : Nat, n ≤ A.length ∧ j = .int .i64 n ∧ searchR (markR r) c (A.drop n) (r.2.1.drop n) = searchR (markR r) c A r.2.1 ∧ w2 = W5) (fun j _ => A.length - (intOf j).toNat)
      case atStart => exact ⟨0, Nat.zero_le _, rfl, by simp, rfl⟩
      case round =>
        obtain ⟨n, hn, rfl, hsr, rfl⟩ := hrel
        by_cases hnl : n < A.length
        · have hcn := Hc5.out n hnl
          rw [hg] at hcn
          have d1 := List.drop_eq_getElem_cons hnl
          have hnb : n < r.2.1.length := by omega
          have d2 := List.drop_eq_getElem_cons hnb
          have j0 : (0 : Int) ≤ (n : Int) := by omega
          have j1 : (n : Int) < (A.length : Int) := by omega
          obtain ⟨x0, x1, -⟩ := HAr.out _ (List.getElem_mem hnl)
          obtain ⟨x, hx⟩ : ∃ x, A[n] = x := ⟨_, rfl⟩
          rw [hx] at x0 x1
          obtain ⟨y, hy⟩ : ∃ y, r.2.1[n] = y := ⟨_, rfl⟩
          rw [hx] at hcn d1
          rw [hy] at d2
          rw [d1, d2] at hsr
          by_cases hxc : x = c
          · subst hxc
            have jE : ((x : Int) == x) = true := by simp
            have hres : compC x = some ((y.toNat : Int), markR r) := by
              rw [← Hse2.out, ← hsr]; simp [searchR]
            have Hres := Lib.hid hres
            have hget : ∀ h, (ByteArray.mk r.2.1.toArray)[n]'h = y := fun h => hy
            have hszb := size_str r.2.1
            have j2 : (n : Int) < (r.2.1.length : Int) := by omega
            have h1 := H1.out
            have h2 := H2.out
            clear hres hsr d1 d2 hx
            obtain ⟨cap2, W7, hconv2, hb7, hlt7, hc7⟩ := run_runes wr.drew r.2.2 (by omega)
            have hone : runesR r.2.2.length r.2.2 = [markR r] := by
              unfold markR
              match runesR r.2.2.length r.2.2, o2 with
              | [z], _ => rfl
            have hc70 := hc7 0 (by rw [hone]; simp)
            simp only [hone, List.getElem_cons_zero, List.length_cons, List.length_nil, Nat.zero_add, World.size_drew] at hconv2 hc70 hb7
            have hmk : 0 ≤ markR r ∧ markR r ≤ 1114111 := by
              have := runesR_ok r.2.2.length r.2.2 (markR r) (by rw [hone]; simp)
              exact ⟨this.1, this.2.1⟩
            obtain ⟨m0, m1⟩ := hmk
            obtain ⟨M, hM⟩ : ∃ M, markR r = M := ⟨_, rfl⟩
            rw [hM] at m0 m1 hc70 Hres
            have Hb7 := Lib.hid (Hb1.out.trans ((Hb5.out.trans ((Below.refl _ wr).drew.trans hb7 |>.mono (by have := Hb5.out.size; omega))).mono Hb1.out.size))
            have hwy : wrap64 (y.toNat : Int) = (y.toNat : Int) := by have := y.toNat_lt; unfold wrap64; omega
            have hwl : w.heap.size < wr.heap.size := by have := Hb5.out.size; omega
            have k1 : W7.cell? ⟨w.heap.size, k * 3 + 1, none⟩ = some (str r.2.1) := (hb7.cell (p := ⟨w.heap.size, k * 3 + 1, none⟩) hwl).trans h1
            have k2 : W7.cell? ⟨w.heap.size, k * 3 + 2, none⟩ = some (str r.2.2) := (hb7.cell (p := ⟨w.heap.size, k * 3 + 2, none⟩) hwl).trans h2
            clear hb7 hc7 hone o2 hM
            go_wp2
            go_region
            all_goals go_wp2
            all_goals go_ret2
            all_goals exact ⟨by unfold partsV; rw [Hres.out]; show Ending.returned (.tuple #[.int .i64 (wrap64 (y.toNat : Int)), .int .i64 M]) = _; rw [hwy], Hb7.out⟩
          · have jE : ((x : Int) == c) = false := by simpa using hxc
            have hsr2 : searchR (markR r) c (A.drop (n + 1)) (r.2.1.drop (n + 1)) = searchR (markR r) c A r.2.1 := by
              rw [← hsr]; simp [searchR, hxc]
            have Hsr2 := Lib.hid hsr2
            clear hsr hsr2 d1 d2
            go_wp2
            go_roundw
            case rel => exact ⟨n + 1, by omega, by go_num, Hsr2.out, trivial⟩
            case measure => simp [intOf]; omega
        · have hnn : n = A.length := by omega
          subst hnn
          have hd2 : decide (A.length < A.length) = false := by simp
          have hnone : searchR (markR r) c A r.2.1 = none := by
            rw [← hsr, List.drop_length]; rfl
          have hse3 := Hse2.out
          rw [hnone] at hse3
          have Hse3 := Lib.hid hse3
          clear hsr hnone hse3
          go_wp2
          go_roundw
          case rel => exact ⟨k + 1, by omega, by go_num, Hse3.out, Hb5.out⟩
          case measure => simp [intOf]; omega
    · have hkl : k = F.length := by omega
      subst hkl
      rw [List.drop_length] at hse
      have hres : compC c = none := hse.symm
      have Hres := Lib.hid hres
      have Hb := Lib.hid (Hb1.out.trans (hb.mono Hb1.out.size))
      have hd2 : decide ((F.length : Int) < 13) = false := by rw [decide_eq_false_iff_not]; omega
      have hd3 : ¬ (F.length : Int) < 13 := by omega
      clear hse hres hb
      go_wp2
      go_ret2
      exact ⟨by unfold partsV; rw [Hres.out]; rfl, Hb.out⟩
end Go.Proofs.YtjndekmpnihamaaDoor
