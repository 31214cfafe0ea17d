/-
  The walk of MarcLimits.
-/
import Derived.Test.YtpfnmjcomdckgaaDoorRSan
import Derived.Test.YtpfnmjcomdckgaaDoorRLimM
import Derived.Test.YtpfnmjcomdckgaaDoorRRecO
import Derived.Deep.RegionLaw
import Derived.Deep.AppendLies
namespace Go.Proofs.YtpfnmjcomdckgaaDoor
open Go.RowKit Go.Shelf Go.Deep
set_option linter.unusedVariables false
set_option linter.unusedSimpArgs false

theorem ret_bool {a b : Bool} (h : a = b) : Ending.returned (.bool a) = .returned (.bool b) := by rw [h]
theorem own_bel {w w' : World} {B : Nat} {e : TypeId} {sz n : Nat} {v : Value} {xs : List Value} (h : w.ownsRow B e sz v n xs) (hb : Below w.heap.size w w') : w'.ownsRow B e sz v n xs := own_same h (fun g _ hg => hb.block g hg)
/-- k times the same field. -/
def repF (t d : List UInt8) (k : Nat) : List (FldM × Value) := List.replicate k (⟨t, [], d, []⟩, .slice none 0 0)
theorem repF_succ (t d : List UInt8) (k : Nat) : repF t d k ++ [(⟨t, [], d, []⟩, .slice none 0 0)] = repF t d (k + 1) := by unfold repF; rw [List.replicate_succ']
theorem repF_len (t d : List UInt8) (k : Nat) : (repF t d k).length = k := by unfold repF; simp
theorem repF_recV {w : World} {p : Nat} {t d : List UInt8} {k : Nat} {sv : Value} (h : RecO w p 97 109 (repF t d k) sv) : RecV w (.agg #[.int .u8 97, .int .u8 109, sv]) (repR t d k) := by
  have := h.recV (fun q hq => by
    unfold repF at hq
    rw [(List.mem_replicate.1 hq).2]
    exact .inl ⟨none, 0, rfl, rfl⟩)
  have e : (repF t d k).map (fun q => q.1) = List.replicate k ⟨t, [], d, []⟩ := by unfold repF; rw [List.map_replicate]
  rw [e] at this
  exact this
theorem let_at (n : Nat) (hn : n ≤ 100000) (D : List UInt8) (hD : List.replicate n 121 = D) (w : World) (p : Nat) (v : Value) (hp : p < w.heap.size) (hc : w.cell? ⟨p, 2, none⟩ = some v) (W : World) (hW : Below w.heap.size w W) (g : Nat) (hg : W.heap.size = g) :
    Calls Tryd.prog 31 #[.int .i64 n] W fun e w' => e = .returned (.slice (some ⟨g, 0, none⟩) n n) ∧ (convert 42 9 (.slice (some ⟨g, 0, none⟩) n n)).run Tryd.prog w' = .ok (str D) w' ∧ Below w.heap.size w w' ∧ w'.cell? ⟨p, 2, none⟩ = some v ∧ p < w'.heap.size := by
  subst hg
  refine (letters_c n hn W).mono ?_
  rintro e w' ⟨rfl, hr, hb⟩
  have hb' := hW.trans (hb.mono hW.size)
  exact ⟨rfl, by rw [← hD]; exact hr.conv n, hb', (hb'.cell (p := ⟨p, 2, none⟩) hp).trans hc, Nat.lt_of_lt_of_le hp hb'.size⟩
theorem limApp (D : List UInt8) (k : Nat) {w W2 w4 : World} {o : Obj} {p : Nat} {sa : Option Addr} {sc : Nat} {v' : Value} (h : RecO w p 97 109 (repF [48, 48, 51] D k) (.slice sa k sc)) (hb2 : Below w.heap.size w W2)
    (hown4 : w4.ownsRow (p + 1) 62 4 v' (k + 1) (fldCells (repF [48, 48, 51] D k) ++ [.string ⟨#[48, 48, 51]⟩, .string ⟨#[]⟩, str D, .slice none 0 0])) (hgrow : (W2.alloc o).grownBy w4 (Value.slice sa k sc).ownBlock) :
    RecO (w4.setCell ⟨p, 2, none⟩ v') p 97 109 (repF [48, 48, 51] D (k + 1)) v' ∧ w4.cell? ⟨p, 2, none⟩ = some (.slice sa k sc) ∧ w4.frozen? ⟨p, 2, none⟩ = false ∧ ∀ B, B ≤ p → Below B w (w4.setCell ⟨p, 2, none⟩ v') := by
  have h2 := h.below hb2 (Nat.le_refl _)
  obtain ⟨a, b, c, d, -⟩ := RecO.app (f := ⟨[48, 48, 51], [], D, []⟩) h2 (by rw [repF_len]; exact hown4) hgrow
  rw [repF_succ] at a
  exact ⟨a, b, c, fun B hB => (hb2.mono (by have := lt_at h.1; omega)).trans (d B hB)⟩
set_option maxRecDepth 100000 in
set_option maxHeartbeats 8000000 in
theorem walk0_MarcLimits (x y z : Int) (hx : 0 ≤ x ∧ x ≤ 255) (hy : 0 ≤ y ∧ y ≤ 255) (hz : 0 ≤ z ∧ z ≤ 255) (w : World) (hT : Tabs w) :
    Calls Tryd.prog 12 #[.int .u8 x, .int .u8 y, .int .u8 z] w (Yes w) := by
  unfold Yes
  obtain ⟨x0, x1⟩ := hx
  obtain ⟨y0, y1⟩ := hy
  obtain ⟨z0, z1⟩ := hz
  obtain ⟨j, hj⟩ : ∃ j : Nat, x % 8 = (j : Int) := ⟨(x % 8).toNat, by omega⟩
  have hj8 : j < 8 := by omega
  obtain ⟨i, hi⟩ : ∃ i : Nat, y % 24 = (i : Int) := ⟨(y % 24).toNat, by omega⟩
  have hi24 : i < 24 := by omega
  obtain ⟨m, hm⟩ : ∃ m : Nat, z % 12 = (m : Int) := ⟨(z % 12).toNat, by omega⟩
  have hm12 : m < 12 := by omega
  obtain ⟨n, hn⟩ : ∃ n : Nat, n = 9985 + i := ⟨_, rfl⟩
  have hnI : (9985 : Int) + (i : Int) = (n : Int) := by omega
  obtain ⟨K, hK⟩ : ∃ K : Nat, K = 995 + j := ⟨_, rfl⟩
  have hKI : (995 : Int) + (j : Int) = (K : Int) := by omega
  have n1 : 9985 ≤ n := by omega
  have n2 : n ≤ 10008 := by omega
  have K1 : K ≤ 1002 := by omega
  have H1 := Lib.hid (sanity_c w hT)
  obtain ⟨i0', hi0, hz0, hz1, hz2⟩ := info_parts infoFld
  have Hi := Lib.hid (show ∃ i, Tryd.prog.info? 62 = some i ∧ i.zero = some (.agg #[.string ⟨#[]⟩, .string ⟨#[]⟩, .string ⟨#[]⟩, .slice none 0 0]) ∧ i.size = 4 ∧ i.bytes = 72 from ⟨i0', hi0, hz0, hz1, hz2⟩)
  clear hT hi0 hz0 hz1 hz2 hn hK
  go_enter Tryd.func12, Tryd.ntmps12
  go_wp2_with fail
  refine H1.out.mono ?_
  rintro e w1 ⟨rfl, hb1⟩
  have B1 := Lib.hid hb1
  clear hb1 H1
  go_wp2_with fail
  have hR0 : RecO (w1.alloc (.cells #[.int .u8 97, .int .u8 109, .slice none 0 0] 27)) w1.heap.size 97 109 [] (.slice none 0 0) := RecO.new 97 109
  have hb0 := below_new w1 (.cells #[.int .u8 97, .int .u8 109, .slice none 0 0] 27)
  obtain ⟨W2, hW2⟩ : ∃ W2, w1.alloc (.cells #[.int .u8 97, .int .u8 109, .slice none 0 0] 27) = W2 := ⟨_, rfl⟩
  rw [hW2] at hR0 hb0 ⊢
  obtain ⟨p, hp⟩ : ∃ p, w1.heap.size = p := ⟨_, rfl⟩
  have HR0 := Lib.hid hR0
  have HB0 := Lib.hid (below_tr B1.out hb0)
  rw [hp] at HR0 ⊢
  have hwp : w.heap.size ≤ p := by have := B1.out.size; omega
  clear hR0 hb0 hW2 hp B1
  go_loopw [9] (fun iv wr => ∃ (k : Nat) (sv : Value), k ≤ K ∧ iv = .int .i64 k ∧ RecO wr p 97 109 (repF [48, 48, 50] [120] k) sv ∧ Below w.heap.size w wr) (fun iv _ => K - (intOf iv).toNat)
  case atStart => exact ⟨0, _, Nat.zero_le _, rfl, HR0.out, HB0.out⟩
  case round =>
    obtain ⟨k, sv, hk, rfl, hrec, hb⟩ := hrel
    clear HR0 HB0
    by_cases hlt : k < K
    · obtain ⟨c0, c1, c2, f0, f1, f2⟩ := hrec.cells
      obtain ⟨sa, sc, rfl⟩ := hrec.form
      have hlen := repF_len [48, 48, 50] [120] k
      rw [hlen] at hrec c2
      have hown := hrec.2
      rw [hlen] at hown
      have hpw := lt_at hrec.1
      obtain ⟨i0', hi, hz0, hz1, hz2⟩ := Hi.out
      have hcells := fld_cells wr (.string ⟨#[48, 48, 50]⟩) (.string ⟨#[]⟩) (.string ⟨#[120]⟩) (.slice none 0 0) 62
      have Hown := Lib.hid hown
      have Hcells := Lib.hid hcells
      have Hrec := Lib.hid hrec
      have Hb := Lib.hid hb
      clear hrec hb hown hcells hlen
      go_wp2_with (at_builtin; refine wpList_append_own _ rfl _ _ 25 rfl (p + 1) 62 i0' _ 4 72 Tryd.underlying25 hi hz0 hz1 hz2 rfl (by decide) _ _ _ rfl (Hown.out.alloc _) ⟨wr.heap.size, 0, none⟩ 1 1 [.string ⟨#[48, 48, 50]⟩, .string ⟨#[]⟩, .string ⟨#[120]⟩, .slice none 0 0] rfl rfl ?c1 ?c2 ?c3 ?c4 ?c5 ?_)
      case c1 => exact Hcells.out
      case c2 => simp [Value.oneCell']
      case c3 => unfold maxLen; omega
      case c4 => omega
      case c5 => simp; omega
      intro v' w8 hown8 hgrow _
      obtain ⟨na, nc, rfl⟩ := own_form hown8
      have hown8' : w8.ownsRow (p + 1) 62 4 (.slice na (k + 1) nc) ((repF [48, 48, 50] [120] k).length + 1) (fldCells (repF [48, 48, 50] [120] k) ++ [.string ⟨#[48, 48, 50]⟩, .string ⟨#[]⟩, .string ⟨#[120]⟩, .slice none 0 0]) := by rw [repF_len]; exact hown8
      obtain ⟨hrec9, d2, e2, hbl9, -⟩ := RecO.app (f := ⟨[48, 48, 50], [], [120], []⟩) Hrec.out hown8' hgrow
      rw [repF_succ] at hrec9
      have Hrec9 := Lib.hid hrec9
      have Hbl9 := Lib.hid (Hb.out.trans (hbl9 w.heap.size hwp))
      clear hown8 hown8' hgrow hrec9 hbl9 hi hz0 hz1 hz2 Hown Hcells c0 c1 c2 f0 f1 f2
      go_wp2
      go_roundw
      case rel => exact ⟨k + 1, _, by omega, by go_num, Hrec9.out, Hbl9.out⟩
      case measure => simp [intOf]; omega
    · have hkK : k = K := by omega
      subst hkK
      have hmz : m ≤ 11 := by omega
      have hrv := repF_recV hrec
      have Hrv := Lib.hid hrv
      have hpw := lt_at hrec.1
      obtain ⟨sa, sc, rfl⟩ := hrec.form
      obtain ⟨c0, c1, c2, f0, f1, f2⟩ := hrec.cells
      rw [repF_len] at Hrv c2
      have hC1 := Lib.hid hrec.1
      rw [repF_len] at hC1
      have hd2 : decide (k < k) = false := by simp
      have Hb := Lib.hid hb
      have hR0 : RecO (wr.alloc (.cells #[.int .u8 97, .int .u8 109, .slice none 0 0] 27)) wr.heap.size 97 109 [] (.slice none 0 0) := RecO.new 97 109
      have hb0 := below_new wr (.cells #[.int .u8 97, .int .u8 109, .slice none 0 0] 27)
      have HR0 := Lib.hid hR0
      have HB0 := Lib.hid hb0
      clear hrec hb hrv hR0 hb0 c0 c1 c2 f0 f1 f2
      obtain ⟨D, hD⟩ : ∃ D : List UInt8, List.replicate n 121 = D := ⟨_, rfl⟩
      have hDl : D.length = n := by rw [← hD]; simp
      have HD := Lib.hid hD
      have HDl := Lib.hid hDl
      clear hD hDl
      go_wp2_with fail
      obtain ⟨p2, hp2⟩ : ∃ p2, wr.heap.size = p2 := ⟨_, rfl⟩
      have HP := Lib.hid hp2
      rw [hp2] at HR0 hpw ⊢
      clear hp2 hj hi hm
      go_loopw [13] (fun iv w2 => ∃ (k2 : Nat) (sv : Value), k2 ≤ m ∧ iv = .int .i64 k2 ∧ RecO w2 p2 97 109 (repF [48, 48, 51] D k2) sv ∧ Below wr.heap.size wr w2) (fun iv _ => m - (intOf iv).toNat)
      case atStart => exact ⟨0, _, Nat.zero_le _, rfl, HR0.out, HB0.out⟩
      case round =>
        obtain ⟨k2, sv, hk2, rfl, hrec, hb⟩ := hrel
        clear HR0 HB0
        by_cases hlt2 : k2 < m
        · have hlen := repF_len [48, 48, 51] D k2
          obtain ⟨sa2, sc2, rfl⟩ := hrec.form
          rw [hlen] at hrec
          obtain ⟨c0, c1, c2, f0, f1, f2⟩ := hrec.cells
          have hown := hrec.2
          rw [hlen] at hown
          have hpw2 := lt_at hrec.1
          obtain ⟨i0', hi, hz0, hz1, hz2⟩ := Hi.out
          have Hown := Lib.hid hown
          have Hrec := Lib.hid hrec
          have Hb2 := Lib.hid hb
          have hi0 : (0 : Int) ≤ (k2 : Int) := by omega
          have hi1 : (k2 : Int) < (m : Int) := by omega
          have N := Lib.hid (fun W hW hg => let_at n (by omega) D HD.out wr p2 _ hpw2 c2 W hW wr.heap.size hg)
          have APP := fun {W2 w4 : World} {o : Obj} {v' : Value} (hb2 : Below wr.heap.size wr W2) (hown4 : w4.ownsRow (p2 + 1) 62 4 v' (k2 + 1) (fldCells (repF [48, 48, 51] D k2) ++ [.string ⟨#[48, 48, 51]⟩, .string ⟨#[]⟩, str D, .slice none 0 0])) (hgrow : (W2.alloc o).grownBy w4 (Value.slice sa2 k2 sc2).ownBlock) => limApp D k2 hrec hb2 hown4 hgrow
          clear hrec hb hown hlen c0 c1 f0 f1
          go_wp2_with fail
          go_region_law
            (first
              | (go_simp; refine (N.out _ (Below.refl _ _).drew rfl).mono ?_; rintro e W2 ⟨rfl, hcv, hb2, hc9, hp9⟩)
              | (refine step_append_lies _ (by rfl) _ _ _ (by rfl) (p2 + 1) 62 i0' _ 4 72 Tryd.underlying25 hi hz0 hz1 hz2 rfl (by omega) _ k2 _ (by rfl) ((own_bel Hown.out hb2).alloc _) ⟨W2.heap.size, 0, none⟩ 1 1 [.string ⟨#[48, 48, 51]⟩, .string ⟨#[]⟩, str D, .slice none 0 0] (by rfl) (by rfl) (fld_cells W2 _ _ _ _ _) (by simp [Value.oneCell']) (by omega) (by unfold maxLen; omega) (by omega) (by simp; omega) (W2.heap.size + 1) (by simp) ?_; intro gg cap2 w4 hown4 hgrow hat hlt4; obtain ⟨hrec4, hc4, hf4, hbl4⟩ := APP hb2 hown4 hgrow))
          all_goals
            have Hrec4 := Lib.hid hrec4
            have Hbl4 := Lib.hid (Hb2.out.trans (hbl4 _ (Nat.le_of_eq HP.out)))
            clear hrec4 hbl4 hc4 hf4 hown4 hgrow hat hlt4 hb2 hcv hc9 hp9 APP N Hown Hrec hi hz0 hz1 hz2
            go_wp2
            go_roundw
            case rel => exact ⟨k2 + 1, _, by omega, by go_num, Hrec4.out, Hbl4.out⟩
            case measure => simp [intOf]; omega
        · have hkm : k2 = m := by omega
          subst hkm
          have hrv := repF_recV hrec
          obtain ⟨sa2, sc2, rfl⟩ := hrec.form
          rw [repF_len] at hrec hrv
          obtain ⟨c0, c1, c2, f0, f1, f2⟩ := hrec.cells
          have hD2 : decide (k2 < k2) = false := by simp
          have hr1 := Hrv.out.below hb (Nat.le_refl _)
          have hq1 := (hb.block p (by have := lt_at hC1.out; omega)).trans hC1.out
          have Hrv2 := Lib.hid hrv
          have Hr1 := Lib.hid hr1
          have Hq1 := Lib.hid hq1
          have Hq2 := Lib.hid hrec.1
          have Hbb := Lib.hid (Hb.out.trans (hb.mono Hb.out.size))
          have g0 : wr.cell? ⟨p, 0, none⟩ = some (.int .u8 97) := by rw [cell_at hq1]; rfl
          have g1 : wr.cell? ⟨p, 1, none⟩ = some (.int .u8 109) := by rw [cell_at hq1]; rfl
          have g2 : wr.cell? ⟨p, 2, none⟩ = some (.slice sa k sc) := by rw [cell_at hq1]; rfl
          have z1 : sizeR (repR [48, 48, 50] [120] k) ≤ 1099511627776 := by rw [rep_size]; simp; omega
          have z2 : sizeR (repR [48, 48, 51] D k2) ≤ 1099511627776 := by
            rw [rep_size, HDl.out]
            have : k2 * (13 + n) ≤ 11 * (13 + n) := Nat.mul_le_mul_right _ hmz
            omega
          have t1 : ∀ f ∈ (repR [48, 48, 50] [120] k).fields, f.tag.length ≤ 1099511627776 := fun f hf => by rw [(List.mem_replicate.1 hf).2]; simp
          have t2 : ∀ f ∈ (repR [48, 48, 51] D k2).fields, f.tag.length ≤ 1099511627776 := fun f hf => by rw [(List.mem_replicate.1 hf).2]; simp
          have N1 := write_c _ _ wr hr1 z1 t1
          have k1 := rep_check (t := [48, 48, 50]) (d := [120]) (by decide) (by decide) (by decide +kernel) k
          have k3 := rep_check (t := [48, 48, 51]) (d := D) (by decide) (by decide) (by rw [← HD.out]; exact textB_rep 121 (by decide) (by decide) n) k2
          have hkm : k ≤ 1002 := K1
          obtain ⟨R1, hR1⟩ : ∃ R1, repR [48, 48, 50] [120] k = R1 := ⟨_, rfl⟩
          obtain ⟨R2, hR2⟩ : ∃ R2, repR [48, 48, 51] D k2 = R2 := ⟨_, rfl⟩
          rw [hR1] at N1 k1
          rw [hR2] at k3 z2 t2 Hrv2
          have hwl := writeM_len (r := R2)
          have hsz2 : sizeR R2 = 26 + k2 * (13 + n) := by rw [← hR2, rep_size, HDl.out]
          simp only [HDl.out] at k3
          have c1v : checkM R1 = if k ≤ 999 then 0 else 2 := by
            rw [k1]
            by_cases h : k ≤ 999
            · rw [if_pos h, if_pos ⟨h, .inr (by decide), by simp; omega⟩]
            · rw [if_neg h, if_neg (fun e => h e.1)]
          have c2v : checkM R2 = if (k2 = 0 ∨ n + 1 ≤ 9999) ∧ 26 + k2 * (13 + n) ≤ 99999 then 0 else 2 := by
            rw [k3]
            by_cases h : (k2 = 0 ∨ n + 1 ≤ 9999) ∧ 26 + k2 * (13 + n) ≤ 99999
            · rw [if_pos h, if_pos ⟨by omega, h⟩]
            · rw [if_neg h, if_neg (fun e => h e.2)]
          obtain ⟨P, hP⟩ : ∃ P, k2 * (13 + n) = P := ⟨_, rfl⟩
          obtain ⟨v1, hv1⟩ : ∃ v, checkM R1 = v := ⟨_, rfl⟩
          obtain ⟨v2, hv2⟩ : ∃ v, checkM R2 = v := ⟨_, rfl⟩
          obtain ⟨S1, hS1⟩ : ∃ S, writeR R1 = S := ⟨_, rfl⟩
          obtain ⟨S2, hS2⟩ : ∃ S, writeR R2 = S := ⟨_, rfl⟩
          have hlen : v2 = 0 → S2.length = 26 + P := fun h => by
            rw [← hS2]
            unfold writeR
            rw [if_pos (hv2.trans h), hwl (check_zero (hv2.trans h)), hsz2, hP]
          have hPle : P ≤ 11 * 10021 := by rw [← hP]; exact Nat.mul_le_mul hmz (by omega)
          have hmul : (k2 : Int) * (13 + (n : Int)) = (P : Int) := by rw [← hP]; push_cast; rfl
          rw [hP] at c2v
          rw [hv1] at c1v
          rw [hv2] at c2v
          unfold WritePost at N1
          rw [hv1, hS1] at N1
          clear k1 k3 hrec hrv hq1 hr1 hb c0 c1 c2 f0 f1 f2 z1 t1 hR1 hR2
          have N1 := Lib.hid N1
          have Z2 := Lib.hid z2
          have T2 := Lib.hid t2
          have Hv2 := Lib.hid hv2
          have HS2 := Lib.hid hS2
          have HP2 := Lib.hid hP
          have Hlen := Lib.hid hlen
          have Hmul := Lib.hid hmul
          have C1 := Lib.hid c1v
          have C2 := Lib.hid c2v
          clear z2 t2 hwl hsz2 c1v c2v hv1 hv2 hS1 hS2 hP hlen hmul
          go_wp2_with fail
          refine N1.out.mono ?_
          rintro e w7 ⟨rfl, hb7⟩
          have Hr7 := Lib.hid (Hrv2.out.below hb7 (Nat.le_refl _))
          have Hq17 := Lib.hid (heap_below hb7 Hq1.out)
          have Hq27 := Lib.hid (heap_below hb7 Hq2.out)
          have Hb7 := Lib.hid (Hbb.out.trans (hb7.mono Hbb.out.size))
          clear hb7 g0 g1 g2
          have e0 : w7.cell? ⟨p2, 0, none⟩ = some (.int .u8 97) := by rw [cell_at Hq27.out]; rfl
          have e1 : w7.cell? ⟨p2, 1, none⟩ = some (.int .u8 109) := by rw [cell_at Hq27.out]; rfl
          have e2 : w7.cell? ⟨p2, 2, none⟩ = some (.slice sa2 k2 sc2) := by rw [cell_at Hq27.out]; rfl
          have N2 := write_c _ _ w7 Hr7.out Z2.out T2.out
          unfold WritePost at N2
          rw [Hv2.out, HS2.out] at N2
          have N2 := Lib.hid N2
          go_wp2_with fail
          refine N2.out.mono ?_
          rintro e w8 ⟨rfl, hb8⟩
          have Hr8 := Lib.hid (Hr7.out.below hb8 (Nat.le_refl _))
          have Hq18 := Lib.hid (heap_below hb8 Hq17.out)
          have Hq28 := Lib.hid (heap_below hb8 Hq27.out)
          have Hb8 := Lib.hid (Hb7.out.trans (hb8.mono Hb7.out.size))
          clear hb8 e0 e1 e2
          have g2 : w8.cell? ⟨p, 2, none⟩ = some (.slice sa k sc) := by rw [cell_at Hq18.out]; rfl
          have e0 : w8.cell? ⟨p2, 0, none⟩ = some (.int .u8 97) := by rw [cell_at Hq28.out]; rfl
          have e1 : w8.cell? ⟨p2, 1, none⟩ = some (.int .u8 109) := by rw [cell_at Hq28.out]; rfl
          have e2 : w8.cell? ⟨p2, 2, none⟩ = some (.slice sa2 k2 sc2) := by rw [cell_at Hq28.out]; rfl
          have N3 := right_c _ _ w8 Hr8.out Z2.out T2.out
          rw [Hv2.out] at N3
          have hsz := size_str S2
          have hmul := Hmul.out
          have hD2 : decide (k2 < k2) = false := by simp
          clear N1 N2 Hr7 Hq17 Hq27 Hb7 Hrv2 Hr1 Hq1 Hq2 Hbb Hr8 Hq18 Hq28 HD HDl Hrv hC1 Hb
          have hc1 : (k ≤ 999 ∧ v1 = 0) ∨ (¬ k ≤ 999 ∧ v1 = 2) := by
            rw [C1.out]
            by_cases h : k ≤ 999
            · left; exact ⟨h, if_pos h⟩
            · right; exact ⟨h, if_neg h⟩
          have hc2 : (k2 = 0 ∧ v2 = 0) ∨ (k2 ≠ 0 ∧ n + 1 ≤ 9999 ∧ 26 + P ≤ 99999 ∧ v2 = 0) ∨ (k2 ≠ 0 ∧ n + 1 ≤ 9999 ∧ ¬ 26 + P ≤ 99999 ∧ v2 = 2) ∨ (k2 ≠ 0 ∧ ¬ n + 1 ≤ 9999 ∧ v2 = 2) := by
            have hp0 : k2 = 0 → P = 0 := fun h => by rw [← HP2.out, h]; simp
            by_cases h0 : k2 = 0
            · left; exact ⟨h0, by rw [C2.out, if_pos ⟨.inl h0, by rw [hp0 h0]; decide⟩]⟩
            · right
              by_cases h1 : n + 1 ≤ 9999
              · by_cases h2 : 26 + P ≤ 99999
                · left; exact ⟨h0, h1, h2, by rw [C2.out, if_pos ⟨.inr h1, h2⟩]⟩
                · right; left; exact ⟨h0, h1, h2, by rw [C2.out, if_neg (fun e => h2 e.2)]⟩
              · right; right
                exact ⟨h0, h1, by rw [C2.out, if_neg (fun e => e.1.elim h0 h1)]⟩
          clear C1 C2 Hmul HP2 Hv2 HS2 Z2 T2
          rcases hc2 with ⟨q1, q2⟩ | ⟨q1, q2, q3, q4⟩ | ⟨q1, q2, q3, q4⟩ | ⟨q1, q2, q3⟩
          · have hq : ((k2 : Int) == 0) = true := by rw [q1]; rfl
            have hl : ((S2.length : Int) == 26 + (P : Int)) = true := by rw [beq_iff_eq, Hlen.out q2]; push_cast; rfl
            subst q2
            have N3 := Lib.hid N3
            clear q1
            rcases hc1 with ⟨r1, r2⟩ | ⟨r1, r2⟩
            all_goals
              subst r2
              go_wp2_with fail
              refine N3.out.mono ?_
              rintro e w9 ⟨rfl, hb9⟩
              go_wp2
              go_ret
              first | exact ⟨rfl, Hb8.out.trans (hb9.mono Hb8.out.size)⟩ | exact ⟨ret_bool (by simp; omega), Hb8.out.trans (hb9.mono Hb8.out.size)⟩
          · have hq : ((k2 : Int) == 0) = false := by rw [beq_eq_false_iff_ne]; omega
            have hl : ((S2.length : Int) == 26 + (P : Int)) = true := by rw [beq_iff_eq, Hlen.out q4]; push_cast; rfl
            subst q4
            have N3 := Lib.hid N3
            clear q1
            rcases hc1 with ⟨r1, r2⟩ | ⟨r1, r2⟩
            all_goals
              subst r2
              go_wp2_with fail
              refine N3.out.mono ?_
              rintro e w9 ⟨rfl, hb9⟩
              go_wp2
              go_ret
              first | exact ⟨rfl, Hb8.out.trans (hb9.mono Hb8.out.size)⟩ | exact ⟨ret_bool (by simp; omega), Hb8.out.trans (hb9.mono Hb8.out.size)⟩
          · have hq : ((k2 : Int) == 0) = false := by rw [beq_eq_false_iff_ne]; omega
            subst q4
            have N3 := Lib.hid N3
            clear q1
            rcases hc1 with ⟨r1, r2⟩ | ⟨r1, r2⟩
            all_goals
              subst r2
              go_wp2_with fail
              refine N3.out.mono ?_
              rintro e w9 ⟨rfl, hb9⟩
              go_wp2
              go_ret
              first | exact ⟨rfl, Hb8.out.trans (hb9.mono Hb8.out.size)⟩ | exact ⟨ret_bool (by simp; omega), Hb8.out.trans (hb9.mono Hb8.out.size)⟩
          · have hq : ((k2 : Int) == 0) = false := by rw [beq_eq_false_iff_ne]; omega
            subst q3
            have N3 := Lib.hid N3
            clear q1
            rcases hc1 with ⟨r1, r2⟩ | ⟨r1, r2⟩
            all_goals
              subst r2
              go_wp2_with fail
              refine N3.out.mono ?_
              rintro e w9 ⟨rfl, hb9⟩
              go_wp2
              go_ret
              first | exact ⟨rfl, Hb8.out.trans (hb9.mono Hb8.out.size)⟩ | exact ⟨ret_bool (by simp; omega), Hb8.out.trans (hb9.mono Hb8.out.size)⟩
theorem walk_MarcLimits (a b c : UInt8) (w : World) (hT : Tabs w) :
    Calls Tryd.prog 12 #[.int .u8 (a.toNat : Int), .int .u8 (b.toNat : Int), .int .u8 (c.toNat : Int)] w (Yes w) := by
  have h1 := a.toNat_lt
  have h2 := b.toNat_lt
  have h3 := c.toNat_lt
  exact walk0_MarcLimits _ _ _ ⟨by omega, by omega⟩ ⟨by omega, by omega⟩ ⟨by omega, by omega⟩ w hT
end Go.Proofs.YtpfnmjcomdckgaaDoor
