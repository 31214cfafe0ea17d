/-
  The law's rules: which rules numbers make.
-/
import Derived.Test.YtfccpepmjklodaaSChk
namespace Go.Proofs.Ytfccpepmjklodaa
open Go.RowKit Go.Shelf
set_option linter.unusedVariables false
set_option linter.unusedSimpArgs false

def rtagsL (T : List UInt8) : List (List UInt8) := [T, [120, 120, 120], [50, 120, 53], [57, 120, 120], [120, 48, 48], [54, 53, 120], [], [120]]
theorem rtags_at (T : List UInt8) : ∀ {j : Nat}, j < 8 → (#[str T, .string ⟨#[120, 120, 120]⟩, .string ⟨#[50, 120, 53]⟩, .string ⟨#[57, 120, 120]⟩, .string ⟨#[120, 48, 48]⟩, .string ⟨#[54, 53, 120]⟩, .string ⟨#[]⟩, .string ⟨#[120]⟩] : Array Value)[j]? = some (str ((rtagsL T).getD j []))
  | 0, _ => rfl
  | 1, _ => rfl
  | 2, _ => rfl
  | 3, _ => rfl
  | 4, _ => rfl
  | 5, _ => rfl
  | 6, _ => rfl
  | 7, _ => rfl
  | n + 8, h => absurd h (by omega)
/-- What rules makes of four numbers. -/

def bitOf (x m : Int) : Bool := (bits .and .i64 x m != 0)
def ruleX (x : Int × Int × Int × Int) : RuleM :=
  ⟨(rtagsL (tagM x.1)).getD (modN x.2.1 8) [], bitOf x.2.2.1 1, bitOf x.2.2.1 2, [48, 49, 32].take (modN (x.2.2.1.tdiv 4) 4), [32, 48, 50].take (modN (x.2.2.1.tdiv 16) 4), [97, 98, 99, 48, 118, 120, 113].take (modN x.2.2.2 8), [97, 48, 99, 113].take (modN (x.2.2.2.tdiv 8) 5)⟩
def rulesM (l : List (Int × Int × Int × Int)) : List RuleM := (l.take 8).map ruleX
def RulPost (w : World) (rs : List RuleM) (e : Ending) (w' : World) : Prop := ∃ pv, e = .returned pv ∧ w'.ownsRow w.heap.size 27 7 pv rs.length (rs.flatMap ruleL) ∧ Below w.heap.size w w'
set_option maxRecDepth 100000 in
set_option maxHeartbeats 20000000 in
theorem rules_c (v : Value) (l : List (Int × Int × Int × Int)) (w : World) (hv : ReadsQ w v l) :
    Calls Try.prog 20 #[v] w (RulPost w (rulesM l)) := by
  unfold RulPost
  obtain ⟨a, cap, rfl, hm, hc⟩ := hv.slice
  have Hc := Lib.hid hc
  unfold maxLen at hm
  clear hc hv
  go_enter Try.func20, Try.ntmps20
  go_wp2_with fail
  go_loopw [3, 4] (fun pv iv wr => ∃ (k : Nat), k ≤ l.length ∧ k ≤ 8 ∧ iv = .int .i64 k ∧ wr.ownsRow w.heap.size 27 7 pv k (((l.take k).map ruleX).flatMap ruleL) ∧ Below w.heap.size w wr) (fun _ iv _ => 8 - (intOf iv).toNat)
  case atStart => exact ⟨0, Nat.zero_le _, Nat.zero_le _, rfl, World.ownsRow_nil _ _ _ _, Below.refl _ _⟩
  case round =>
    obtain ⟨k, hk, hk8, rfl, hown, hbel⟩ := hrel
    obtain ⟨pa, pc, rfl⟩ := own_form hown
    by_cases hlt : k < l.length ∧ k < 8
    · obtain ⟨hlt, hlt8⟩ := hlt
      obtain ⟨b, off, rfl, hbl, ⟨x0, x1, x2, x3⟩, f0, f1, f2, f3⟩ := Hc.out k hlt
      have x0 := cell_below hbel (Nat.le_refl _) x0
      have x1 := cell_below hbel (Nat.le_refl _) x1
      have x2 := cell_below hbel (Nat.le_refl _) x2
      have x3 := cell_below hbel (Nat.le_refl _) x3
      have i0 : (0 : Int) ≤ (k : Int) := by omega
      have i1 : (k : Int) < (l.length : Int) := by omega
      have i2 : (k : Int) < 8 := by omega
      have htk : ((l.take (k + 1)).map ruleX).flatMap ruleL = ((l.take k).map ruleX).flatMap ruleL ++ ruleL (ruleX l[k]) := by
        rw [take_snoc l k hlt, List.map_append, List.flatMap_append]; simp
      obtain ⟨⟨a0, a1, a2, a3⟩, hq⟩ : ∃ q, l[k] = q := ⟨_, rfl⟩
      rw [hq] at x0 x1 x2 x3 f0 f1 f2 f3 htk
      simp only at x0 x1 x2 x3 f0 f1 f2 f3
      have Htk := Lib.hid htk
      have NT := Lib.hid (fun W => tag_c a0 f0 W)
      obtain ⟨T, hT⟩ : ∃ T, tagM a0 = T := ⟨_, rfl⟩
      rw [hT] at NT
      have HT := Lib.hid hT
      obtain ⟨W4, hW4⟩ : ∃ W4, wr.alloc (.cells #[.int .i64 a0, .int .i64 a1, .int .i64 a2, .int .i64 a3] 64) = W4 := ⟨_, rfl⟩
      have hb4 : Below wr.heap.size wr W4 := by rw [← hW4]; exact below_new _ _
      have hn4 : W4.heap[wr.heap.size]? = some (.cells #[.int .i64 a0, .int .i64 a1, .int .i64 a2, .int .i64 a3] 64 (0, 0)) := by rw [← hW4]; exact new_at _ _
      have q0 : W4.cell? ⟨wr.heap.size, 0, none⟩ = some (.int .i64 a0) := by rw [cell_at hn4]; rfl
      have Hb4 := Lib.hid hb4
      have Hn4 := Lib.hid hn4
      have HW4 := Lib.hid hW4
      have Hown := Lib.hid hown
      have Hbel := Lib.hid hbel
      clear hbl hq htk hT hb4 hn4 hW4 hown hbel
      go_wp2_with fail
      rw [HW4.out]
      clear x0 x1 x2 x3 HW4 q0
      refine (NT.out _).mono ?_
      rintro e w5 ⟨rfl, hb5⟩
      obtain ⟨W6, hW6⟩ : ∃ W6, w5.alloc (.cells #[str T, .string ⟨#[120, 120, 120]⟩, .string ⟨#[50, 120, 53]⟩, .string ⟨#[57, 120, 120]⟩, .string ⟨#[120, 48, 48]⟩, .string ⟨#[54, 53, 120]⟩, .string ⟨#[]⟩, .string ⟨#[120]⟩] 9) = W6 := ⟨_, rfl⟩
      have hb6 : Below w5.heap.size w5 W6 := by rw [← hW6]; exact below_new _ _
      have hn6 : W6.heap[w5.heap.size]? = some (.cells #[str T, .string ⟨#[120, 120, 120]⟩, .string ⟨#[50, 120, 53]⟩, .string ⟨#[57, 120, 120]⟩, .string ⟨#[120, 48, 48]⟩, .string ⟨#[54, 53, 120]⟩, .string ⟨#[]⟩, .string ⟨#[120]⟩] 9 (0, 0)) := by rw [← hW6]; exact new_at _ _
      have hbr : Below wr.heap.size wr W6 := below_tr (below_tr Hb4.out hb5) hb6
      have hq6 := heap_below hb6 (Nat.le_refl _) (heap_below hb5 (Nat.le_refl _) Hn4.out)
      obtain ⟨qb, hqb⟩ : ∃ k, wr.heap.size = k := ⟨_, rfl⟩
      obtain ⟨tb, htb⟩ : ∃ k, w5.heap.size = k := ⟨_, rfl⟩
      have hqw : w.heap.size ≤ qb := by rw [← hqb]; exact Hbel.out.size
      have hqt : qb < tb := by rw [← htb, ← hqb]; exact lt_at (heap_below hb5 (Nat.le_refl _) Hn4.out)
      have hown6 := own_bel Hown.out hbr
      have hbel6 := below_tr Hbel.out hbr
      rw [hqb] at hq6 ⊢
      rw [htb] at hn6
      have hlt6 := lt_at hn6
      have q1 : W6.cell? ⟨qb, 1, none⟩ = some (.int .i64 a1) := by rw [cell_at hq6]; rfl
      have q2 : W6.cell? ⟨qb, 2, none⟩ = some (.int .i64 a2) := by rw [cell_at hq6]; rfl
      have q3 : W6.cell? ⟨qb, 3, none⟩ = some (.int .i64 a3) := by rw [cell_at hq6]; rfl
      have HW6 := Lib.hid hW6
      have Hown := Lib.hid hown6
      have Hbel := Lib.hid hbel6
      have avq : Value.ownBlock (.slice pa k pc) ≠ some qb := own_ty hown6 hq6 (by decide) ∘ Eq.symm
      have avt : Value.ownBlock (.slice pa k pc) ≠ some tb := own_ty hown6 hn6 (by decide) ∘ Eq.symm
      have N1 := Lib.hid (fun W => mod_c a1 8 (by decide) (by decide) f1 W)
      have D4f := tdiv_fits f2 (b := 4) (by decide)
      have D16f := tdiv_fits f2 (b := 16) (by decide)
      have D8f := tdiv_fits f3 (b := 8) (by decide)
      have HX := Lib.hid (show ruleX (a0, a1, a2, a3) = ⟨(rtagsL (tagM a0)).getD (modN a1 8) [], bitOf a2 1, bitOf a2 2, [48, 49, 32].take (modN (a2.tdiv 4) 4), [32, 48, 50].take (modN (a2.tdiv 16) 4), [97, 98, 99, 48, 118, 120, 113].take (modN a3 8), [97, 48, 99, 113].take (modN (a3.tdiv 8) 5)⟩ from rfl)
      obtain ⟨D4, hD4⟩ : ∃ D, a2.tdiv 4 = D := ⟨_, rfl⟩
      obtain ⟨D16, hD16⟩ : ∃ D, a2.tdiv 16 = D := ⟨_, rfl⟩
      obtain ⟨D8, hD8⟩ : ∃ D, a3.tdiv 8 = D := ⟨_, rfl⟩
      rw [hD4] at D4f HX
      rw [hD16] at D16f HX
      rw [hD8] at D8f HX
      have w4 : IntKind.i64.wrap D4 = D4 := IntWalk.i64_in _ D4f
      have w16 : IntKind.i64.wrap D16 = D16 := IntWalk.i64_in _ D16f
      have w8 : IntKind.i64.wrap D8 = D8 := IntWalk.i64_in _ D8f
      have N4 := Lib.hid (fun W => mod_c D4 4 (by decide) (by decide) D4f W)
      have N16 := Lib.hid (fun W => mod_c D16 4 (by decide) (by decide) D16f W)
      have N3 := Lib.hid (fun W => mod_c a3 8 (by decide) (by decide) f3 W)
      have N8 := Lib.hid (fun W => mod_c D8 5 (by decide) (by decide) D8f W)
      have hj1 := modN_lt (n := a1) (m := 8) (by decide)
      have hj4 := modN_lt (n := D4) (m := 4) (by decide)
      have hj16 := modN_lt (n := D16) (m := 4) (by decide)
      have hj3 := modN_lt (n := a3) (m := 8) (by decide)
      have hj8 := modN_lt (n := D8) (m := 5) (by decide)
      obtain ⟨j1, hj1'⟩ : ∃ j, modN a1 8 = j := ⟨_, rfl⟩
      rw [hj1'] at hj1 N1 HX
      obtain ⟨j4, hj4'⟩ : ∃ j, modN D4 4 = j := ⟨_, rfl⟩
      rw [hj4'] at hj4 N4 HX
      obtain ⟨j16, hj16'⟩ : ∃ j, modN D16 4 = j := ⟨_, rfl⟩
      rw [hj16'] at hj16 N16 HX
      obtain ⟨j3, hj3'⟩ : ∃ j, modN a3 8 = j := ⟨_, rfl⟩
      rw [hj3'] at hj3 N3 HX
      obtain ⟨j8, hj8'⟩ : ∃ j, modN D8 5 = j := ⟨_, rfl⟩
      rw [hj8'] at hj8 N8 HX
      rw [HT.out] at HX
      have hta := rtags_at T (j := j1) (by omega)
      obtain ⟨R1, hR1⟩ : ∃ R, (rtagsL T).getD j1 [] = R := ⟨_, rfl⟩
      rw [hR1] at hta HX
      have t1 : W6.cell? ⟨tb, j1, none⟩ = some (str R1) := by rw [cell_at hn6]; exact hta
      have eI0 : (ByteArray.mk #[48, 49, 32]).extract 0 j4 = ⟨(([48, 49, 32] : List UInt8).take j4).toArray⟩ := ext_take [48, 49, 32] j4
      obtain ⟨I0, hI0⟩ : ∃ x, ([48, 49, 32] : List UInt8).take j4 = x := ⟨_, rfl⟩
      rw [hI0] at eI0 HX
      have sI0 : (ByteArray.mk #[48, 49, 32]).size = 3 := rfl
      have lI0 : (0 : Int) ≤ (j4 : Int) := by omega
      have uI0 : (j4 : Int) ≤ 3 := by omega
      have eI1 : (ByteArray.mk #[32, 48, 50]).extract 0 j16 = ⟨(([32, 48, 50] : List UInt8).take j16).toArray⟩ := ext_take [32, 48, 50] j16
      obtain ⟨I1, hI1⟩ : ∃ x, ([32, 48, 50] : List UInt8).take j16 = x := ⟨_, rfl⟩
      rw [hI1] at eI1 HX
      have sI1 : (ByteArray.mk #[32, 48, 50]).size = 3 := rfl
      have lI1 : (0 : Int) ≤ (j16 : Int) := by omega
      have uI1 : (j16 : Int) ≤ 3 := by omega
      have eCC : (ByteArray.mk #[97, 98, 99, 48, 118, 120, 113]).extract 0 j3 = ⟨(([97, 98, 99, 48, 118, 120, 113] : List UInt8).take j3).toArray⟩ := ext_take [97, 98, 99, 48, 118, 120, 113] j3
      obtain ⟨CC, hCC⟩ : ∃ x, ([97, 98, 99, 48, 118, 120, 113] : List UInt8).take j3 = x := ⟨_, rfl⟩
      rw [hCC] at eCC HX
      have sCC : (ByteArray.mk #[97, 98, 99, 48, 118, 120, 113]).size = 7 := rfl
      have lCC : (0 : Int) ≤ (j3 : Int) := by omega
      have uCC : (j3 : Int) ≤ 7 := by omega
      have eSS : (ByteArray.mk #[97, 48, 99, 113]).extract 0 j8 = ⟨(([97, 48, 99, 113] : List UInt8).take j8).toArray⟩ := ext_take [97, 48, 99, 113] j8
      obtain ⟨SS, hSS⟩ : ∃ x, ([97, 48, 99, 113] : List UInt8).take j8 = x := ⟨_, rfl⟩
      rw [hSS] at eSS HX
      have sSS : (ByteArray.mk #[97, 48, 99, 113]).size = 4 := rfl
      have lSS : (0 : Int) ≤ (j8 : Int) := by omega
      have uSS : (j8 : Int) ≤ 4 := by omega
      have v1 : (j1 : Int) < 8 := by omega
      have bo1 : (bits .and .i64 a2 1 != 0) = bitOf a2 1 := rfl
      have bo2 : (bits .and .i64 a2 2 != 0) = bitOf a2 2 := rfl
      have v0 : (0 : Int) ≤ (j1 : Int) := by omega
      obtain ⟨i0', hi, hz0, hz1, hz2⟩ := info_parts infoRule
      clear hb5 hW6 hb6 hn6 hbr hq6 hqb hown6 hbel6 hta hR1 hI0 hI1 hCC hSS hj1' hj4' hj16' hj3' hj8' D4f D16f D8f NT HT Hb4 Hn4
      go_wp2_with fail
      rw [HW6.out]
      try rw [htb]
      clear HW6 htb
      obtain ⟨S, hSd⟩ : ∃ S : World → Prop, S = (fun w' : World => w'.cell? ⟨qb, 1, none⟩ = some (.int .i64 a1) ∧ w'.cell? ⟨qb, 2, none⟩ = some (.int .i64 a2) ∧ w'.cell? ⟨qb, 3, none⟩ = some (.int .i64 a3) ∧ w'.cell? ⟨tb, j1, none⟩ = some (str R1)) := ⟨_, rfl⟩
      have hS1 : ∀ w', S w' → w'.cell? ⟨qb, 1, none⟩ = some (.int .i64 a1) := fun w' h => by rw [hSd] at h; exact h.1
      have hS2 : ∀ w', S w' → w'.cell? ⟨qb, 2, none⟩ = some (.int .i64 a2) := fun w' h => by rw [hSd] at h; exact h.2.1
      have hS3 : ∀ w', S w' → w'.cell? ⟨qb, 3, none⟩ = some (.int .i64 a3) := fun w' h => by rw [hSd] at h; exact h.2.2.1
      have hS4 : ∀ w', S w' → w'.cell? ⟨tb, j1, none⟩ = some (str R1) := fun w' h => by rw [hSd] at h; exact h.2.2.2
      obtain ⟨W7, hW7⟩ : ∃ x, W6.drew = x := ⟨_, rfl⟩
      have hb7 : Below W6.heap.size W6 W7 := by rw [← hW7]; exact (Below.refl _ _).drew
      have q1 := cell_below hb7 (Nat.le_refl _) q1
      have q2 := cell_below hb7 (Nat.le_refl _) q2
      have q3 := cell_below hb7 (Nat.le_refl _) q3
      have t1 := cell_below hb7 (Nat.le_refl _) t1
      have Hown := Lib.hid (own_bel Hown.out hb7)
      have Hbel := Lib.hid (below_tr Hbel.out hb7)
      have hlt7 : tb < W7.heap.size := Nat.lt_of_lt_of_le hlt6 hb7.size
      have hS0 : S W7 := by rw [hSd]; exact ⟨q1, q2, q3, t1⟩
      have hSm : ∀ w' : World, (w'.cell? ⟨qb, 1, none⟩ = some (.int .i64 a1) ∧ w'.cell? ⟨qb, 2, none⟩ = some (.int .i64 a2) ∧ w'.cell? ⟨qb, 3, none⟩ = some (.int .i64 a3) ∧ w'.cell? ⟨tb, j1, none⟩ = some (str R1)) → S w' := fun w5 h => by rw [hSd]; exact h
      clear hSd
      refine wp_region_C 38 39 S rfl rfl ?_
      rw [hW7]
      clear hW7 hb7
      refine wpAnyC_takeD 0 25 (.slice pa k pc) rfl rfl rfl (by kernel_rfl) (by kernel_rfl) (by kernel_rfl) (by kernel_rfl) (fun _ _ _ h => h) (fun w9 hw9 => ?_) hS0 ?_
      · have z1 := hS1 w9 hw9; have z2 := hS2 w9 hw9; have z3 := hS3 w9 hw9; have z4 := hS4 w9 hw9
        simp only [List.getElem_toArray, List.getElem_cons_zero, List.getElem_cons_succ]
        go_simp
      simp only [Act.put, List.setIfInBounds_toArray, List.set_cons_zero, List.set_cons_succ]
      refine wpAnyC_takeD 1 26 (.slice (some ⟨tb, 0, none⟩) 8 8) rfl rfl rfl (by kernel_rfl) (by kernel_rfl) (by kernel_rfl) (by kernel_rfl) (fun _ _ _ h => h) (fun w9 hw9 => ?_) hS0 ?_
      · have z1 := hS1 w9 hw9; have z2 := hS2 w9 hw9; have z3 := hS3 w9 hw9; have z4 := hS4 w9 hw9
        simp only [List.getElem_toArray, List.getElem_cons_zero, List.getElem_cons_succ]
        go_simp
      simp only [Act.put, List.setIfInBounds_toArray, List.set_cons_zero, List.set_cons_succ]
      refine wpAnyC_takeD 2 27 (.pointer (some ⟨qb, 1, none⟩)) rfl rfl rfl (by kernel_rfl) (by kernel_rfl) (by kernel_rfl) (by kernel_rfl) (fun _ _ _ h => h) (fun w9 hw9 => ?_) hS0 ?_
      · have z1 := hS1 w9 hw9; have z2 := hS2 w9 hw9; have z3 := hS3 w9 hw9; have z4 := hS4 w9 hw9
        simp only [List.getElem_toArray, List.getElem_cons_zero, List.getElem_cons_succ]
        go_simp
      simp only [Act.put, List.setIfInBounds_toArray, List.set_cons_zero, List.set_cons_succ]
      refine wpAnyC_takeD 3 28 (.int .i64 a1) rfl rfl rfl (by kernel_rfl) (by kernel_rfl) (by kernel_rfl) (by kernel_rfl) (fun _ _ _ h => h) (fun w9 hw9 => ?_) hS0 ?_
      · have z1 := hS1 w9 hw9; have z2 := hS2 w9 hw9; have z3 := hS3 w9 hw9; have z4 := hS4 w9 hw9
        simp only [List.getElem_toArray, List.getElem_cons_zero, List.getElem_cons_succ]
        go_simp
      simp only [Act.put, List.setIfInBounds_toArray, List.set_cons_zero, List.set_cons_succ]
      refine wpAnyC_takeD 7 32 (.pointer (some ⟨qb, 2, none⟩)) rfl rfl rfl (by kernel_rfl) (by kernel_rfl) (by kernel_rfl) (by kernel_rfl) (fun _ _ _ h => h) (fun w9 hw9 => ?_) hS0 ?_
      · have z1 := hS1 w9 hw9; have z2 := hS2 w9 hw9; have z3 := hS3 w9 hw9; have z4 := hS4 w9 hw9
        simp only [List.getElem_toArray, List.getElem_cons_zero, List.getElem_cons_succ]
        go_simp
      simp only [Act.put, List.setIfInBounds_toArray, List.set_cons_zero, List.set_cons_succ]
      refine wpAnyC_takeD 8 33 (.int .i64 a2) rfl rfl rfl (by kernel_rfl) (by kernel_rfl) (by kernel_rfl) (by kernel_rfl) (fun _ _ _ h => h) (fun w9 hw9 => ?_) hS0 ?_
      · have z1 := hS1 w9 hw9; have z2 := hS2 w9 hw9; have z3 := hS3 w9 hw9; have z4 := hS4 w9 hw9
        simp only [List.getElem_toArray, List.getElem_cons_zero, List.getElem_cons_succ]
        go_simp
      simp only [Act.put, List.setIfInBounds_toArray, List.set_cons_zero, List.set_cons_succ]
      refine wpAnyC_takeD 9 34 (.int .i64 (bits .and .i64 a2 1)) rfl rfl rfl (by kernel_rfl) (by kernel_rfl) (by kernel_rfl) (by kernel_rfl) (fun _ _ _ h => h) (fun w9 hw9 => ?_) hS0 ?_
      · have z1 := hS1 w9 hw9; have z2 := hS2 w9 hw9; have z3 := hS3 w9 hw9; have z4 := hS4 w9 hw9
        simp only [List.getElem_toArray, List.getElem_cons_zero, List.getElem_cons_succ]
        go_simp
      simp only [Act.put, List.setIfInBounds_toArray, List.set_cons_zero, List.set_cons_succ]
      refine wpAnyC_takeD 10 35 (.bool (bitOf a2 1)) rfl rfl rfl (by kernel_rfl) (by kernel_rfl) (by kernel_rfl) (by kernel_rfl) (fun _ _ _ h => h) (fun w9 hw9 => ?_) hS0 ?_
      · have z1 := hS1 w9 hw9; have z2 := hS2 w9 hw9; have z3 := hS3 w9 hw9; have z4 := hS4 w9 hw9
        simp only [List.getElem_toArray, List.getElem_cons_zero, List.getElem_cons_succ]
        go_simp
      simp only [Act.put, List.setIfInBounds_toArray, List.set_cons_zero, List.set_cons_succ]
      refine wpAnyC_takeD 11 36 (.pointer (some ⟨qb, 2, none⟩)) rfl rfl rfl (by kernel_rfl) (by kernel_rfl) (by kernel_rfl) (by kernel_rfl) (fun _ _ _ h => h) (fun w9 hw9 => ?_) hS0 ?_
      · have z1 := hS1 w9 hw9; have z2 := hS2 w9 hw9; have z3 := hS3 w9 hw9; have z4 := hS4 w9 hw9
        simp only [List.getElem_toArray, List.getElem_cons_zero, List.getElem_cons_succ]
        go_simp
      simp only [Act.put, List.setIfInBounds_toArray, List.set_cons_zero, List.set_cons_succ]
      refine wpAnyC_takeD 12 37 (.int .i64 a2) rfl rfl rfl (by kernel_rfl) (by kernel_rfl) (by kernel_rfl) (by kernel_rfl) (fun _ _ _ h => h) (fun w9 hw9 => ?_) hS0 ?_
      · have z1 := hS1 w9 hw9; have z2 := hS2 w9 hw9; have z3 := hS3 w9 hw9; have z4 := hS4 w9 hw9
        simp only [List.getElem_toArray, List.getElem_cons_zero, List.getElem_cons_succ]
        go_simp
      simp only [Act.put, List.setIfInBounds_toArray, List.set_cons_zero, List.set_cons_succ]
      refine wpAnyC_takeD 13 38 (.int .i64 (bits .and .i64 a2 2)) rfl rfl rfl (by kernel_rfl) (by kernel_rfl) (by kernel_rfl) (by kernel_rfl) (fun _ _ _ h => h) (fun w9 hw9 => ?_) hS0 ?_
      · have z1 := hS1 w9 hw9; have z2 := hS2 w9 hw9; have z3 := hS3 w9 hw9; have z4 := hS4 w9 hw9
        simp only [List.getElem_toArray, List.getElem_cons_zero, List.getElem_cons_succ]
        go_simp
      simp only [Act.put, List.setIfInBounds_toArray, List.set_cons_zero, List.set_cons_succ]
      refine wpAnyC_takeD 14 39 (.bool (bitOf a2 2)) rfl rfl rfl (by kernel_rfl) (by kernel_rfl) (by kernel_rfl) (by kernel_rfl) (fun _ _ _ h => h) (fun w9 hw9 => ?_) hS0 ?_
      · have z1 := hS1 w9 hw9; have z2 := hS2 w9 hw9; have z3 := hS3 w9 hw9; have z4 := hS4 w9 hw9
        simp only [List.getElem_toArray, List.getElem_cons_zero, List.getElem_cons_succ]
        go_simp
      simp only [Act.put, List.setIfInBounds_toArray, List.set_cons_zero, List.set_cons_succ]
      refine wpAnyC_takeD 15 40 (.pointer (some ⟨qb, 2, none⟩)) rfl rfl rfl (by kernel_rfl) (by kernel_rfl) (by kernel_rfl) (by kernel_rfl) (fun _ _ _ h => h) (fun w9 hw9 => ?_) hS0 ?_
      · have z1 := hS1 w9 hw9; have z2 := hS2 w9 hw9; have z3 := hS3 w9 hw9; have z4 := hS4 w9 hw9
        simp only [List.getElem_toArray, List.getElem_cons_zero, List.getElem_cons_succ]
        go_simp
      simp only [Act.put, List.setIfInBounds_toArray, List.set_cons_zero, List.set_cons_succ]
      refine wpAnyC_takeD 16 41 (.int .i64 a2) rfl rfl rfl (by kernel_rfl) (by kernel_rfl) (by kernel_rfl) (by kernel_rfl) (fun _ _ _ h => h) (fun w9 hw9 => ?_) hS0 ?_
      · have z1 := hS1 w9 hw9; have z2 := hS2 w9 hw9; have z3 := hS3 w9 hw9; have z4 := hS4 w9 hw9
        simp only [List.getElem_toArray, List.getElem_cons_zero, List.getElem_cons_succ]
        go_simp
      simp only [Act.put, List.setIfInBounds_toArray, List.set_cons_zero, List.set_cons_succ]
      refine wpAnyC_takeD 17 42 (.int .i64 D4) rfl rfl rfl (by kernel_rfl) (by kernel_rfl) (by kernel_rfl) (by kernel_rfl) (fun _ _ _ h => h) (fun w9 hw9 => ?_) hS0 ?_
      · have z1 := hS1 w9 hw9; have z2 := hS2 w9 hw9; have z3 := hS3 w9 hw9; have z4 := hS4 w9 hw9
        simp only [List.getElem_toArray, List.getElem_cons_zero, List.getElem_cons_succ]
        go_simp
      simp only [Act.put, List.setIfInBounds_toArray, List.set_cons_zero, List.set_cons_succ]
      refine wpAnyC_takeD 20 45 (.pointer (some ⟨qb, 2, none⟩)) rfl rfl rfl (by kernel_rfl) (by kernel_rfl) (by kernel_rfl) (by kernel_rfl) (fun _ _ _ h => h) (fun w9 hw9 => ?_) hS0 ?_
      · have z1 := hS1 w9 hw9; have z2 := hS2 w9 hw9; have z3 := hS3 w9 hw9; have z4 := hS4 w9 hw9
        simp only [List.getElem_toArray, List.getElem_cons_zero, List.getElem_cons_succ]
        go_simp
      simp only [Act.put, List.setIfInBounds_toArray, List.set_cons_zero, List.set_cons_succ]
      refine wpAnyC_takeD 21 46 (.int .i64 a2) rfl rfl rfl (by kernel_rfl) (by kernel_rfl) (by kernel_rfl) (by kernel_rfl) (fun _ _ _ h => h) (fun w9 hw9 => ?_) hS0 ?_
      · have z1 := hS1 w9 hw9; have z2 := hS2 w9 hw9; have z3 := hS3 w9 hw9; have z4 := hS4 w9 hw9
        simp only [List.getElem_toArray, List.getElem_cons_zero, List.getElem_cons_succ]
        go_simp
      simp only [Act.put, List.setIfInBounds_toArray, List.set_cons_zero, List.set_cons_succ]
      refine wpAnyC_takeD 22 47 (.int .i64 D16) rfl rfl rfl (by kernel_rfl) (by kernel_rfl) (by kernel_rfl) (by kernel_rfl) (fun _ _ _ h => h) (fun w9 hw9 => ?_) hS0 ?_
      · have z1 := hS1 w9 hw9; have z2 := hS2 w9 hw9; have z3 := hS3 w9 hw9; have z4 := hS4 w9 hw9
        simp only [List.getElem_toArray, List.getElem_cons_zero, List.getElem_cons_succ]
        go_simp
      simp only [Act.put, List.setIfInBounds_toArray, List.set_cons_zero, List.set_cons_succ]
      refine wpAnyC_takeD 26 51 (.pointer (some ⟨qb, 3, none⟩)) rfl rfl rfl (by kernel_rfl) (by kernel_rfl) (by kernel_rfl) (by kernel_rfl) (fun _ _ _ h => h) (fun w9 hw9 => ?_) hS0 ?_
      · have z1 := hS1 w9 hw9; have z2 := hS2 w9 hw9; have z3 := hS3 w9 hw9; have z4 := hS4 w9 hw9
        simp only [List.getElem_toArray, List.getElem_cons_zero, List.getElem_cons_succ]
        go_simp
      simp only [Act.put, List.setIfInBounds_toArray, List.set_cons_zero, List.set_cons_succ]
      refine wpAnyC_takeD 27 52 (.int .i64 a3) rfl rfl rfl (by kernel_rfl) (by kernel_rfl) (by kernel_rfl) (by kernel_rfl) (fun _ _ _ h => h) (fun w9 hw9 => ?_) hS0 ?_
      · have z1 := hS1 w9 hw9; have z2 := hS2 w9 hw9; have z3 := hS3 w9 hw9; have z4 := hS4 w9 hw9
        simp only [List.getElem_toArray, List.getElem_cons_zero, List.getElem_cons_succ]
        go_simp
      simp only [Act.put, List.setIfInBounds_toArray, List.set_cons_zero, List.set_cons_succ]
      refine wpAnyC_takeD 30 55 (.pointer (some ⟨qb, 3, none⟩)) rfl rfl rfl (by kernel_rfl) (by kernel_rfl) (by kernel_rfl) (by kernel_rfl) (fun _ _ _ h => h) (fun w9 hw9 => ?_) hS0 ?_
      · have z1 := hS1 w9 hw9; have z2 := hS2 w9 hw9; have z3 := hS3 w9 hw9; have z4 := hS4 w9 hw9
        simp only [List.getElem_toArray, List.getElem_cons_zero, List.getElem_cons_succ]
        go_simp
      simp only [Act.put, List.setIfInBounds_toArray, List.set_cons_zero, List.set_cons_succ]
      refine wpAnyC_takeD 31 56 (.int .i64 a3) rfl rfl rfl (by kernel_rfl) (by kernel_rfl) (by kernel_rfl) (by kernel_rfl) (fun _ _ _ h => h) (fun w9 hw9 => ?_) hS0 ?_
      · have z1 := hS1 w9 hw9; have z2 := hS2 w9 hw9; have z3 := hS3 w9 hw9; have z4 := hS4 w9 hw9
        simp only [List.getElem_toArray, List.getElem_cons_zero, List.getElem_cons_succ]
        go_simp
      simp only [Act.put, List.setIfInBounds_toArray, List.set_cons_zero, List.set_cons_succ]
      refine wpAnyC_takeD 32 57 (.int .i64 D8) rfl rfl rfl (by kernel_rfl) (by kernel_rfl) (by kernel_rfl) (by kernel_rfl) (fun _ _ _ h => h) (fun w9 hw9 => ?_) hS0 ?_
      · have z1 := hS1 w9 hw9; have z2 := hS2 w9 hw9; have z3 := hS3 w9 hw9; have z4 := hS4 w9 hw9
        simp only [List.getElem_toArray, List.getElem_cons_zero, List.getElem_cons_succ]
        go_simp
      simp only [Act.put, List.setIfInBounds_toArray, List.set_cons_zero, List.set_cons_succ]
      refine wpAnyC_step (k := 4) rfl (by kernel_rfl) (fun K hK => ?_)
      rw [if_pos (by rfl)]
      go_wp2_with (go_at_call 25; refine (N1.out _).mono ?_; rintro e W2 ⟨rfl, rfl⟩)
      refine hK _ _ (fun _ => hS0) ?_
      clear hK
      refine wpAnyC_takeD 5 30 (.pointer (some ⟨tb, j1, none⟩)) rfl rfl rfl (by kernel_rfl) (by kernel_rfl) (by kernel_rfl) (by kernel_rfl) (fun _ _ _ h => h) (fun w9 hw9 => ?_) hS0 ?_
      · have z1 := hS1 w9 hw9; have z2 := hS2 w9 hw9; have z3 := hS3 w9 hw9; have z4 := hS4 w9 hw9
        simp only [List.getElem_toArray, List.getElem_cons_zero, List.getElem_cons_succ]
        go_simp
      simp only [Act.put, List.setIfInBounds_toArray, List.set_cons_zero, List.set_cons_succ]
      refine wpAnyC_takeD 6 31 (str R1) rfl rfl rfl (by kernel_rfl) (by kernel_rfl) (by kernel_rfl) (by kernel_rfl) (fun _ _ _ h => h) (fun w9 hw9 => ?_) hS0 ?_
      · have z1 := hS1 w9 hw9; have z2 := hS2 w9 hw9; have z3 := hS3 w9 hw9; have z4 := hS4 w9 hw9
        simp only [List.getElem_toArray, List.getElem_cons_zero, List.getElem_cons_succ]
        go_simp
      simp only [Act.put, List.setIfInBounds_toArray, List.set_cons_zero, List.set_cons_succ]
      refine wpAnyC_step (k := 18) rfl (by kernel_rfl) (fun K hK => ?_)
      rw [if_pos (by rfl)]
      go_wp2_with (go_at_call 25; refine (N4.out _).mono ?_; rintro e W2 ⟨rfl, rfl⟩)
      refine hK _ _ (fun _ => hS0) ?_
      clear hK
      refine wpAnyC_takeD 19 44 (str I0) rfl rfl rfl (by kernel_rfl) (by kernel_rfl) (by kernel_rfl) (by kernel_rfl) (fun _ _ _ h => h) (fun w9 hw9 => ?_) hS0 ?_
      · have z1 := hS1 w9 hw9; have z2 := hS2 w9 hw9; have z3 := hS3 w9 hw9; have z4 := hS4 w9 hw9
        simp only [List.getElem_toArray, List.getElem_cons_zero, List.getElem_cons_succ]
        go_simp
      simp only [Act.put, List.setIfInBounds_toArray, List.set_cons_zero, List.set_cons_succ]
      refine wpAnyC_step (k := 23) rfl (by kernel_rfl) (fun K hK => ?_)
      rw [if_pos (by rfl)]
      go_wp2_with (go_at_call 25; refine (N16.out _).mono ?_; rintro e W2 ⟨rfl, rfl⟩)
      refine hK _ _ (fun _ => hS0) ?_
      clear hK
      refine wpAnyC_takeD 24 49 (str I1) rfl rfl rfl (by kernel_rfl) (by kernel_rfl) (by kernel_rfl) (by kernel_rfl) (fun _ _ _ h => h) (fun w9 hw9 => ?_) hS0 ?_
      · have z1 := hS1 w9 hw9; have z2 := hS2 w9 hw9; have z3 := hS3 w9 hw9; have z4 := hS4 w9 hw9
        simp only [List.getElem_toArray, List.getElem_cons_zero, List.getElem_cons_succ]
        go_simp
      simp only [Act.put, List.setIfInBounds_toArray, List.set_cons_zero, List.set_cons_succ]
      refine wpAnyC_takeD 25 50 (.agg #[str I0, str I1]) rfl rfl rfl (by kernel_rfl) (by kernel_rfl) (by kernel_rfl) (by kernel_rfl) (fun _ _ _ h => h) (fun w9 hw9 => ?_) hS0 ?_
      · have z1 := hS1 w9 hw9; have z2 := hS2 w9 hw9; have z3 := hS3 w9 hw9; have z4 := hS4 w9 hw9
        simp only [List.getElem_toArray, List.getElem_cons_zero, List.getElem_cons_succ]
        go_simp
      simp only [Act.put, List.setIfInBounds_toArray, List.set_cons_zero, List.set_cons_succ]
      refine wpAnyC_step (k := 28) rfl (by kernel_rfl) (fun K hK => ?_)
      rw [if_pos (by rfl)]
      go_wp2_with (go_at_call 25; refine (N3.out _).mono ?_; rintro e W2 ⟨rfl, rfl⟩)
      refine hK _ _ (fun _ => hS0) ?_
      clear hK
      refine wpAnyC_takeD 29 54 (str CC) rfl rfl rfl (by kernel_rfl) (by kernel_rfl) (by kernel_rfl) (by kernel_rfl) (fun _ _ _ h => h) (fun w9 hw9 => ?_) hS0 ?_
      · have z1 := hS1 w9 hw9; have z2 := hS2 w9 hw9; have z3 := hS3 w9 hw9; have z4 := hS4 w9 hw9
        simp only [List.getElem_toArray, List.getElem_cons_zero, List.getElem_cons_succ]
        go_simp
      simp only [Act.put, List.setIfInBounds_toArray, List.set_cons_zero, List.set_cons_succ]
      refine wpAnyC_step (k := 33) rfl (by kernel_rfl) (fun K hK => ?_)
      rw [if_pos (by rfl)]
      go_wp2_with (go_at_call 25; refine (N8.out _).mono ?_; rintro e W2 ⟨rfl, rfl⟩)
      refine hK _ _ (fun _ => hS0) ?_
      clear hK
      refine wpAnyC_takeD 34 59 (str SS) rfl rfl rfl (by kernel_rfl) (by kernel_rfl) (by kernel_rfl) (by kernel_rfl) (fun _ _ _ h => h) (fun w9 hw9 => ?_) hS0 ?_
      · have z1 := hS1 w9 hw9; have z2 := hS2 w9 hw9; have z3 := hS3 w9 hw9; have z4 := hS4 w9 hw9
        simp only [List.getElem_toArray, List.getElem_cons_zero, List.getElem_cons_succ]
        go_simp
      simp only [Act.put, List.setIfInBounds_toArray, List.set_cons_zero, List.set_cons_succ]
      refine wpAnyC_takeD 35 60 (.agg #[str R1, .bool (bitOf a2 1), .bool (bitOf a2 2), str I0, str I1, str CC, str SS]) rfl rfl rfl (by kernel_rfl) (by kernel_rfl) (by kernel_rfl) (by kernel_rfl) (fun _ _ _ h => h) (fun w9 hw9 => ?_) hS0 ?_
      · have z1 := hS1 w9 hw9; have z2 := hS2 w9 hw9; have z3 := hS3 w9 hw9; have z4 := hS4 w9 hw9
        simp only [List.getElem_toArray, List.getElem_cons_zero, List.getElem_cons_succ]
        go_simp
      simp only [Act.put, List.setIfInBounds_toArray, List.set_cons_zero, List.set_cons_succ]
      refine wpAnyC_step (k := 36) rfl (by kernel_rfl) (fun K hK => ?_)
      rw [if_pos (by rfl)]
      go_wp2_with fail
      obtain ⟨W8, hW8⟩ : ∃ x, W7.alloc (.cells #[str R1, .bool (bitOf a2 1), .bool (bitOf a2 2), str I0, str I1, str CC, str SS] 27) = x := ⟨_, rfl⟩
      have hb8 : Below W7.heap.size W7 W8 := by rw [← hW8]; exact below_new _ _
      have hn8 : W8.heap[W7.heap.size]? = some (.cells ⟨ruleL ⟨R1, bitOf a2 1, bitOf a2 2, I0, I1, CC, SS⟩⟩ 27 (0, 0)) := by rw [← hW8]; exact new_at _ _
      rw [hW8]
      clear hW8
      have q1 := cell_below hb8 (Nat.le_refl _) q1
      have q2 := cell_below hb8 (Nat.le_refl _) q2
      have q3 := cell_below hb8 (Nat.le_refl _) q3
      have t1 := cell_below hb8 (Nat.le_refl _) t1
      have Hown := Lib.hid (own_bel Hown.out hb8)
      have Hbel := Lib.hid (below_tr Hbel.out hb8)
      have hsz8 := Hbel.out.size
      refine hK _ _ (fun _ => hSm _ ⟨q1, q2, q3, t1⟩) ?_
      clear hK
      refine wpAnyC_step (k := 37) rfl (by kernel_rfl) (fun K hK => ?_)
      rw [if_pos (by rfl)]
      refine wp_append_lies _ _ _ _ (by rfl) w.heap.size 27 i0' _ 7 88 Try.underlying23 hi hz0 hz1 hz2 rfl (by omega) _ k _ (by rfl) Hown.out ⟨W7.heap.size, 0, none⟩ 1 1 (ruleL ⟨R1, bitOf a2 1, bitOf a2 2, I0, I1, CC, SS⟩) (by rfl) (by rfl) (cells_src hn8) (by simp [ruleL, Value.oneCell']) (by omega) (by unfold maxLen; omega) (by omega) hsz8 (W8.heap.size) (by simp) ?_
      intro gg cap2 w4 hown4 hgrow hat hlt4
      simp only [Act.put, List.setIfInBounds_toArray, List.set_cons_zero, List.set_cons_succ]
      have hb84 : Below w.heap.size W8 w4 := (Below.refl _ _).grown hgrow hsz8 (fun g hg => (Hown.out.lt g hg).1)
      have hk4 : ∀ {b o : Nat} {u : Value}, Value.ownBlock (.slice pa k pc) ≠ some b → W8.cell? ⟨b, o, none⟩ = some u → w4.cell? ⟨b, o, none⟩ = some u := by
        intro b o u hne hc
        have h4 := hgrow.block b (lt_of_cell hc) (Ne.symm hne)
        unfold World.cell? at hc ⊢
        simp only [h4] at hc ⊢
        exact hc
      refine hK _ _ (fun _ => hSm _ ⟨hk4 avq q1, hk4 avq q2, hk4 avq q3, hk4 avt t1⟩) ?_
      clear hK
      refine wpAnyC_step (k := 38) rfl (by kernel_rfl) (fun K hK => ?_)
      rw [if_pos (by rfl)]
      go_wp2_with fail
      refine hK _ _ (fun h => absurd (of_decide_eq_true h) (by decide)) ?_
      clear hK
      refine wpAnyC_done (by kernel_rfl) ?_
      clear hS0 hSm hS1 hS2 hS3 hS4 hk4
      have hown9 : w4.ownsRow w.heap.size 27 7 (.slice (some ⟨gg, 0, none⟩) (k + 1) cap2) (k + 1) (((l.take (k + 1)).map ruleX).flatMap ruleL) := by
        rw [Htk.out, HX.out]
        exact hown4
      have Hown9 := Lib.hid hown9
      have Hbel9 := Lib.hid (Hbel.out.trans hb84)
      clear hown9 hown4 hgrow hb84 hat hlt4 hi hz0 hz1 hz2 avq avt q1 q2 q3 t1
      go_wp2
      go_roundw
      case rel => exact ⟨k + 1, hlt, hlt8, by go_num, Hown9.out, Hbel9.out⟩
      case measure => simp [intOf]; omega
    · have hfin : (l.take k).map ruleX = rulesM l := by
        unfold rulesM
        congr 1
        rcases (show k = l.length ∨ k = 8 by omega) with h | h
        · rw [h, List.take_of_length_le (Nat.le_refl _), List.take_of_length_le (by omega)]
        · rw [h]
      have hlen : (rulesM l).length = k := by
        rw [← hfin, List.length_map, List.length_take]; omega
      have HR := Lib.hid (show wr.ownsRow w.heap.size 27 7 (.slice pa k pc) (rulesM l).length ((rulesM l).flatMap ruleL) by rw [hlen, ← hfin]; exact hown)
      have HB := Lib.hid hbel
      have n1 : ¬ (k : Int) < (l.length : Int) ∨ ((k : Int) < (l.length : Int) ∧ ¬ (k : Int) < 8) := by omega
      clear hown hbel hfin hlen hlt
      rcases n1 with n1 | ⟨n1, n2⟩
      · go_wp2
        go_ret
        exact ⟨_, rfl, HR.out, HB.out⟩
      · go_wp2
        go_ret
        exact ⟨_, rfl, HR.out, HB.out⟩
end Go.Proofs.Ytfccpepmjklodaa
