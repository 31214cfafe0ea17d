/-
  The reference's Write.
-/
import Derived.Test.YtpfnmjcomdckgaaDoorRFloat
import Derived.Test.YtpfnmjcomdckgaaDoorRRefX
import Derived.Test.YtpfnmjcomdckgaaDoorRLet
import Derived.Deep.RegionHeld3
import Derived.Deep.RegionWith
namespace Go.Proofs.YtpfnmjcomdckgaaDoor
open Go.RowKit Go.Shelf
set_option linter.unusedVariables false
set_option linter.unusedSimpArgs false

def WrPost (r : RecM) (w : World) (e : Ending) (w' : World) : Prop := e = .returned (.tuple #[str (writeR r), .int .i64 (checkM r : Nat)]) ∧ Below w.heap.size w w'
theorem conv2 (c d : UInt8) (W : World) (b : Nat) (hc : W.cell? ⟨b, 0, none⟩ = some (.int .u8 (c.toNat : Int))) (hd : W.cell? ⟨b, 1, none⟩ = some (.int .u8 (d.toNat : Int))) :
    (convert 42 9 (.slice (some ⟨b, 0, none⟩) 2 2)).run Tryd.prog W = .ok (str [c, d]) W := by
  refine run_convert_bytes_back W _ _ 5 ⟨b, 0, none⟩ 2 [c, d] Tryd.underlying42 Tryd.underlying5 Tryd.underlying9 ?_
  intro j hj
  have hj2 : j < 2 := by simpa using hj
  rw [add_at]
  match j, hj2 with
  | 0, _ => exact hc
  | 1, _ => exact hd
theorem fix4 (w : World) (p o b' o' : Nat) (x y : Value) (hx : w.cell? ⟨p, o, none⟩ = some x) (hy : w.cell? ⟨b', o', none⟩ = some y) (n : Nat) (hn : n ≤ 1099511627776) (W : World) (hW : Below w.heap.size w W) :
    Calls Tryd.prog 46 #[.int .i64 (n : Int), .int .i64 4] W fun e w' => e = .returned (str (digsN n 4)) ∧ Below w.heap.size w w' ∧ w'.cell? ⟨p, o, none⟩ = some x ∧ w'.cell? ⟨b', o', none⟩ = some y := by
  refine Calls.mono (fixed_c 4 n W (by decide) hn) ?_
  rintro e w' ⟨rfl, hb⟩
  have hb' := hW.trans (hb.mono hW.size)
  exact ⟨rfl, hb', cell_below hb' (Nat.le_refl _) hx, cell_below hb' (Nat.le_refl _) hy⟩
theorem fix5 (w : World) (p o b' o' : Nat) (x y : Value) (hx : w.cell? ⟨p, o, none⟩ = some x) (hy : w.cell? ⟨b', o', none⟩ = some y) (n : Nat) (hn : n ≤ 1099511627776) (W : World) (hW : Below w.heap.size w W) :
    Calls Tryd.prog 46 #[.int .i64 (n : Int), .int .i64 5] W fun e w' => e = .returned (str (digsN n 5)) ∧ Below w.heap.size w w' ∧ Below W.heap.size W w' ∧ w'.cell? ⟨p, o, none⟩ = some x ∧ w'.cell? ⟨b', o', none⟩ = some y := by
  refine Calls.mono (fixed_c 5 n W (by decide) hn) ?_
  rintro e w' ⟨rfl, hb⟩
  have hb' := hW.trans (hb.mono hW.size)
  exact ⟨rfl, hb', hb, cell_below hb' (Nat.le_refl _) hx, cell_below hb' (Nat.le_refl _) hy⟩
set_option maxRecDepth 100000 in
set_option maxHeartbeats 8000000 in
theorem rWrite_c (v : Value) (r : RecM) (w : World) (hv : RecV w v r) (hs : sizeR r ≤ 1099511627776) (ht : ∀ f ∈ r.fields, f.tag.length ≤ 1099511627776) :
    Calls Tryd.prog 17 #[v] w (WrPost r w) := by
  obtain ⟨fv, rfl, hf⟩ := hv
  obtain ⟨a, cap, rfl, hm, hc⟩ := hf.slice
  obtain ⟨W3, hW3⟩ : ∃ W3, w.alloc (.cells #[.int .u8 (r.kind.toNat : Int), .int .u8 (r.level.toNat : Int), .slice a r.fields.length cap] 27) = W3 := ⟨_, rfl⟩
  have hb3 : Below w.heap.size w W3 := by rw [← hW3]; exact below_new w _
  have hn3 := new_at w (.cells #[.int .u8 (r.kind.toNat : Int), .int .u8 (r.level.toNat : Int), .slice a r.fields.length cap] 27)
  rw [hW3] at hn3
  have g0 : W3.cell? ⟨w.heap.size, 0, none⟩ = some (.int .u8 (r.kind.toNat : Int)) := by rw [cell_at hn3]; rfl
  have g1 : W3.cell? ⟨w.heap.size, 1, none⟩ = some (.int .u8 (r.level.toNat : Int)) := by rw [cell_at hn3]; rfl
  have g2 : W3.cell? ⟨w.heap.size, 2, none⟩ = some (.slice a r.fields.length cap) := by rw [cell_at hn3]; rfl
  have M := rWrong_c _ r W3 ⟨_, rfl, hf.below hb3 (Nat.le_refl _)⟩ hs ht
  unfold RFPost at M
  have Hb3 := Lib.hid hb3
  have Hn3 := Lib.hid hn3
  have Hc := Lib.hid hc
  unfold maxLen at hm
  unfold WrPost writeR
  by_cases h0 : checkM r = 0
  case neg =>
    have hne : ((checkM r : Int) != 0) = true := by rw [bne_iff_ne]; omega
    rw [if_neg h0]
    obtain ⟨n, hn⟩ : ∃ n, checkM r = n := ⟨_, rfl⟩
    rw [hn] at M hne ⊢
    have M := Lib.hid M
    clear hb3 hn3 hs ht hf hc h0 hn
    go_enter Tryd.func17, Tryd.ntmps17
    go_wp2_with fail
    refine M.out.mono ?_
    rintro e w5 ⟨rfl, hb5⟩
    have Hb5 := Lib.hid (below_tr Hb3.out hb5)
    clear hb5
    go_wp2
    go_ret2
    exact ⟨rfl, Hb5.out⟩
  have hR := check_zero h0
  rw [if_pos h0, h0]
  rw [h0] at M
  have hs2 := hR.size
  have hmany := hR.many
  have htag : ∀ f ∈ r.fields, f.tag.length = 3 := fun f hf => tag_len (hR.tags f hf)
  have HR := Lib.hid hR
  have Htag := Lib.hid htag
  have M := Lib.hid M
  clear hb3 hn3 hs ht hf hc h0 hR htag
  obtain ⟨fs, hfs⟩ : ∃ fs, r.fields = fs := ⟨_, rfl⟩
  have Hfl := Lib.hid (show r.fields.length = fs.length by rw [hfs])
  have hszr : sizeR r = 26 + 12 * fs.length + fieldsN fs := by rw [← hfs]; unfold sizeR sizeH; omega
  have hfin : writeM r = leadM r ++ dirM 0 fs ++ [30] ++ fs.flatMap bytesF ++ [29] := by unfold writeM; rw [hfs]
  rw [hfs] at Hc Htag hm hmany g2 Hn3 hW3 M ⊢
  rw [hszr] at hs2
  obtain ⟨OUT, hOUT⟩ : ∃ l, writeM r = l := ⟨_, rfl⟩
  rw [hOUT] at hfin ⊢
  have Hfin := Lib.hid hfin
  have Hszr := Lib.hid hszr
  clear hfin hOUT hszr hfs
  go_enter Tryd.func17, Tryd.ntmps17
  go_wp2_with fail
  refine M.out.mono ?_
  rintro e w5 ⟨rfl, hb5⟩
  have Hn5 := Lib.hid (heap_below hb5 Hn3.out)
  have Hb5 := Lib.hid (below_tr Hb3.out hb5)
  clear hb5 hW3 g0 g1 g2 M
  have g2 : w5.cell? ⟨w.heap.size, 2, none⟩ = some (.slice a fs.length cap) := by rw [cell_at Hn5.out]; rfl
  have hlt5 := lt_at Hn5.out
  go_wp2
  go_loopw [5, 6, 7] (fun dv tv iv wr => ∃ k : Nat, k ≤ fs.length ∧ iv = .int .i64 k ∧ dv = str (dirM 0 (fs.take k)) ∧ tv = str ((fs.take k).flatMap bytesF) ∧ Below w5.heap.size w5 wr) (fun _ _ iv _ => fs.length - (intOf iv).toNat)
  case atStart => exact ⟨0, Nat.zero_le _, rfl, rfl, rfl, Below.refl _ _⟩
  case round =>
    obtain ⟨k, hk, rfl, rfl, rfl, hb⟩ := hrel
    have g2w := cell_below hb (Nat.le_refl _) g2
    by_cases hlt : k < fs.length
    · obtain ⟨b, off, rfl, hbl, c0, c1, c2, sv, c3, hsub⟩ := Hc.out k hlt
      have hbw := Hb5.out.trans (hb.mono Hb5.out.size)
      have c0 := cell_below hbw (Nat.le_refl _) c0
      have c1 := cell_below hbw (Nat.le_refl _) c1
      have c2 := cell_below hbw (Nat.le_refl _) c2
      have c3 := cell_below hbw (Nat.le_refl _) c3
      have hsub := hsub.below hbw (Nat.le_refl _)
      have hfl := sizeF_le fs k hlt
      have hfk := flat_len (fs.take k)
      have hfle := fieldsN_le fs k
      have hdl := dirM_len (fs.take k) 0 (fun f hf => Htag.out f (List.mem_of_mem_take hf))
      have htg := Htag.out _ (List.getElem_mem hlt)
      have hsm := HR.out.small
      have htk := take_snoc fs k hlt
      have i0 : (0 : Int) ≤ (k : Int) := by omega
      have i1 : (k : Int) < (fs.length : Int) := by omega
      obtain ⟨f, hfe⟩ : ∃ f, fs[k] = f := ⟨_, rfl⟩
      rw [hfe] at c0 c1 c2 hsub hfl htg htk
      have hd1 := dirM_snoc f (fs.take k) 0
      have hd2 : (fs.take (k + 1)).flatMap bytesF = (fs.take k).flatMap bytesF ++ bytesF f := by rw [htk, List.flatMap_append]; simp
      rw [← htk, Nat.zero_add] at hd1
      have MB := Lib.hid (rBytes_c _ f wr ⟨sv, rfl, hsub⟩ (by omega))
      unfold StrPost at MB
      have hbl2 := bytesF_len f
      have hbs := size_str (bytesF f)
      obtain ⟨B, hB⟩ : ∃ B, bytesF f = B := ⟨_, rfl⟩
      rw [hB] at MB hbl2 hbs hd2
      obtain ⟨n, hn⟩ : ∃ n, sizeF f = n := ⟨_, rfl⟩
      rw [hn] at hbl2 hfl hd1
      rw [hbl2] at hbs
      obtain ⟨F, hF⟩ : ∃ F, (fs.take k).flatMap bytesF = F := ⟨_, rfl⟩
      rw [hF] at hfk hd2 ⊢
      obtain ⟨L, hL⟩ : ∃ L, fieldsN (fs.take k) = L := ⟨_, rfl⟩
      rw [hL] at hfk hfle hd1
      have hfs := size_str F
      rw [hfk] at hfs
      obtain ⟨Dk, hDk⟩ : ∃ D, dirM 0 (fs.take k) = D := ⟨_, rfl⟩
      rw [hDk] at hdl hd1 ⊢
      have htl : (fs.take k).length ≤ 999 := by rw [List.length_take]; omega
      have hdk := size_str Dk
      have hDl : Dk.length ≤ 12 * 999 := by omega
      have hTl := htg
      have hft : f.tag.length = 3 := htg
      obtain ⟨T, hT⟩ : ∃ T, f.tag = T := ⟨_, rfl⟩
      rw [hT] at c0 hd1 hft MB
      obtain ⟨E1, hE1⟩ : ∃ E, digsN n 4 = E := ⟨_, rfl⟩
      obtain ⟨E2, hE2⟩ : ∃ E, digsN L 5 = E := ⟨_, rfl⟩
      have hl1 : E1.length = 4 := by rw [← hE1, digsN_len]
      have hl2 : E2.length = 5 := by rw [← hE2, digsN_len]
      rw [hE1, hE2] at hd1
      have a1 := add_str Dk T (by omega)
      obtain ⟨P1, hP1⟩ : ∃ P, Dk ++ T = P := ⟨_, rfl⟩
      have hp1 : P1.length = Dk.length + 3 := by rw [← hP1, List.length_append, hft]
      rw [hP1] at a1
      have a2 := add_str P1 E1 (by omega)
      obtain ⟨P2, hP2⟩ : ∃ P, P1 ++ E1 = P := ⟨_, rfl⟩
      have hp2 : P2.length = P1.length + 4 := by rw [← hP2, List.length_append, hl1]
      rw [hP2] at a2
      have a3 := add_str P2 E2 (by omega)
      have hd3 : P2 ++ E2 = dirM 0 (fs.take (k + 1)) := by rw [hd1, ← hP2, ← hP1]; simp
      rw [hd3] at a3
      obtain ⟨D2, hD2⟩ : ∃ D, dirM 0 (fs.take (k + 1)) = D := ⟨_, rfl⟩
      rw [hD2] at a3
      have a4 := add_str F B (by omega)
      rw [← hd2] at a4
      obtain ⟨F2, hF2⟩ : ∃ D, (fs.take (k + 1)).flatMap bytesF = D := ⟨_, rfl⟩
      rw [hF2] at a4
      have HD2 := Lib.hid hD2
      have HF2 := Lib.hid hF2
      have Hb := Lib.hid hb
      have N4 := Lib.hid (fun w0 h1 h2 W hW => fix4 w0 w.heap.size 2 b (off + k * 4) (.slice (some ⟨b, off, none⟩) fs.length cap) (str T) h1 h2 n (by omega) W hW)
      have N5 := Lib.hid (fun w0 h1 h2 W hW => fix5 w0 w.heap.size 2 b (off + k * 4) (.slice (some ⟨b, off, none⟩) fs.length cap) (str T) h1 h2 L (by omega) W hW)
      rw [hE1] at N4
      rw [hE2] at N5
      have hblw : b < wr.heap.size := Nat.lt_of_lt_of_le hbl hbw.size
      have hwr : w.heap.size < wr.heap.size := Nat.lt_of_lt_of_le hlt5 hb.size
      clear hsub hfe hT hB hn hF hL hDk hE1 hE2 hP1 hP2 hd1 hd2 hd3 hD2 hF2 htk htl hbl hb hdl hTl hbw hfl hl1 hl2 hft hp1 hp2 hbl2 hfk htg hsm
      go_wp2_with fail
      (with_reducible refine MB.out.mono ?_)
      rintro e w7 ⟨rfl, hb7⟩
      have g2w := cell_below hb7 (Nat.le_refl _) g2w
      have c0 := cell_below hb7 (Nat.le_refl _) c0
      have Hb7 := Lib.hid (Hb.out.trans (hb7.mono Hb.out.size))
      have M4 := Lib.hid (N4.out w7 g2w c0)
      have M5 := Lib.hid (N5.out w7 g2w c0)
      clear hb7 c1 c2 c3 N4 N5 MB
      go_wp2_with fail
      go_region_held3 (fun w' => w'.cell? ⟨w.heap.size, 2, none⟩ = some (.slice (some ⟨b, off, none⟩) fs.length cap) ∧ w'.cell? ⟨b, off + k * 4, none⟩ = some (str T))
        (first
          | exact ⟨g2w, c0⟩
          | exact ⟨k1, k2⟩
          | exact ⟨k3, k4⟩
          | go_keep)
        (first
          | (go_at_call 46; (with_reducible refine (M4.out _ (Below.refl _ _).drew).mono ?_); rintro e W2 ⟨rfl, hb2, k1, k2⟩)
          | (go_at_call 46; (with_reducible refine (M5.out _ hb2).mono ?_); rintro e W4 ⟨rfl, hb4, -, k3, k4⟩))
      have Hb4 := Lib.hid (Hb7.out.trans (hb4.mono Hb7.out.size))
      clear k1 k2 k3 k4 hb2 hb4 g2w c0 M4 M5 a1 a2 a3
      go_wp2
      go_roundw
      case rel => exact ⟨k + 1, by omega, by go_num, by rw [HD2.out], by rw [HF2.out], Hb4.out⟩
      case measure => simp [intOf]; omega
    · have hkl : k = fs.length := by omega
      subst hkl
      rw [List.take_length]
      have hd2 : decide (fs.length < fs.length) = false := by simp
      have hfk := flat_len fs
      have hdl := dirM_len fs 0 (fun f hf => Htag.out f hf)
      obtain ⟨D, hD⟩ : ∃ D, dirM 0 fs = D := ⟨_, rfl⟩
      obtain ⟨F, hF⟩ : ∃ F, fs.flatMap bytesF = F := ⟨_, rfl⟩
      obtain ⟨L, hL⟩ : ∃ L, fieldsN fs = L := ⟨_, rfl⟩
      obtain ⟨kd, hkd⟩ : ∃ c, r.kind = c := ⟨_, rfl⟩
      obtain ⟨lv, hlv⟩ : ∃ c, r.level = c := ⟨_, rfl⟩
      rw [hD] at hdl ⊢
      rw [hF, hL] at hfk
      rw [hF]
      rw [hL] at hs2
      have hfin := Hfin.out
      rw [hD, hF] at hfin
      have hsz := size_str F
      have hsz2 := size_str D
      rw [hfk] at hsz
      obtain ⟨Bs, hBs⟩ : ∃ n : Nat, n = 25 + D.length := ⟨_, rfl⟩
      have hBI : (25 : Int) + (D.length : Int) = (Bs : Int) := by omega
      obtain ⟨S1, hS1⟩ : ∃ n : Nat, n = Bs + L := ⟨_, rfl⟩
      obtain ⟨S2, hS2⟩ : ∃ n : Nat, n = S1 + 1 := ⟨_, rfl⟩
      have hBle : Bs ≤ 99999 := by omega
      have hI1 : IntKind.i64.wrap ((Bs : Int) + (L : Int)) = (S1 : Int) := by rw [show (Bs : Int) + (L : Int) = (S1 : Int) by omega]; exact IntWalk.i64_in _ (by constructor <;> omega)
      have hI2 : IntKind.i64.wrap ((S1 : Int) + 1) = (S2 : Int) := by rw [show (S1 : Int) + 1 = (S2 : Int) by omega]; exact IntWalk.i64_in _ (by constructor <;> omega)
      obtain ⟨E1, hE1⟩ : ∃ E, digsN S2 5 = E := ⟨_, rfl⟩
      obtain ⟨E2, hE2⟩ : ∃ E, digsN Bs 5 = E := ⟨_, rfl⟩
      have hl1 : E1.length = 5 := by rw [← hE1, digsN_len]
      have hl2 : E2.length = 5 := by rw [← hE2, digsN_len]
      have hlead : leadM r = E1 ++ [110] ++ [kd, lv] ++ [32, 97, 50, 50] ++ E2 ++ [32, 32, 32, 52, 53, 48, 48] := by
        unfold leadM
        rw [Hszr.out, hL, hkd, hlv, ← hE1, ← hE2]
        have e1 : sizeH r.fields.length = Bs := by
          unfold sizeH; rw [Hfl.out]; omega
        rw [e1, show 26 + 12 * fs.length + L = S2 by omega]
        simp
      rw [hlead] at hfin
      have p1 := add_str E1 [110] (by simp [hl1])
      obtain ⟨Q1, hQ1⟩ : ∃ q, E1 ++ [110] = q := ⟨_, rfl⟩
      have hq1 : Q1.length = 6 := by rw [← hQ1]; simp [hl1]
      rw [hQ1] at p1 hfin
      have p2 := add_str Q1 [kd, lv] (by simp [hq1])
      obtain ⟨Q2, hQ2⟩ : ∃ q, Q1 ++ [kd, lv] = q := ⟨_, rfl⟩
      have hq2 : Q2.length = 8 := by rw [← hQ2]; simp [hq1]
      rw [hQ2] at p2 hfin
      have p3 := add_str Q2 [32, 97, 50, 50] (by simp [hq2])
      obtain ⟨Q3, hQ3⟩ : ∃ q, Q2 ++ [32, 97, 50, 50] = q := ⟨_, rfl⟩
      have hq3 : Q3.length = 12 := by rw [← hQ3]; simp [hq2]
      rw [hQ3] at p3 hfin
      have p4 := add_str Q3 E2 (by omega)
      obtain ⟨Q4, hQ4⟩ : ∃ q, Q3 ++ E2 = q := ⟨_, rfl⟩
      have hq4 : Q4.length = 17 := by rw [← hQ4, List.length_append]; omega
      rw [hQ4] at p4 hfin
      have p5 := add_str Q4 [32, 32, 32, 52, 53, 48, 48] (by simp [hq4])
      obtain ⟨Q5, hQ5⟩ : ∃ q, Q4 ++ [32, 32, 32, 52, 53, 48, 48] = q := ⟨_, rfl⟩
      have hq5 : Q5.length = 24 := by rw [← hQ5]; simp [hq4]
      rw [hQ5] at p5 hfin
      have p6 := add_str Q5 D (by omega)
      obtain ⟨Q6, hQ6⟩ : ∃ q, Q5 ++ D = q := ⟨_, rfl⟩
      have hq6 : Q6.length = 24 + D.length := by rw [← hQ6, List.length_append]; omega
      rw [hQ6] at p6 hfin
      have p7 := add_str Q6 [30] (by simp; omega)
      obtain ⟨Q7, hQ7⟩ : ∃ q, Q6 ++ [30] = q := ⟨_, rfl⟩
      have hq7 : Q7.length = 25 + D.length := by rw [← hQ7]; simp; omega
      rw [hQ7] at p7 hfin
      have p8 := add_str Q7 F (by omega)
      obtain ⟨Q8, hQ8⟩ : ∃ q, Q7 ++ F = q := ⟨_, rfl⟩
      have hq8 : Q8.length = 25 + D.length + L := by rw [← hQ8, List.length_append]; omega
      rw [hQ8] at p8 hfin
      have p9 := add_str Q8 [29] (by simp; omega)
      rw [← hfin] at p9
      have hq0 := (hb.block w.heap.size hlt5).trans Hn5.out
      rw [hkd, hlv] at hq0
      have g0 : wr.cell? ⟨w.heap.size, 0, none⟩ = some (.int .u8 (kd.toNat : Int)) := by rw [cell_at hq0]; rfl
      have g1 : wr.cell? ⟨w.heap.size, 1, none⟩ = some (.int .u8 (lv.toNat : Int)) := by rw [cell_at hq0]; rfl
      have M1 := Lib.hid (fun W hW => fix5 wr w.heap.size 0 w.heap.size 1 _ _ g0 g1 S2 (by omega) W hW)
      have M2 := Lib.hid (fun W hW => fix5 wr w.heap.size 0 w.heap.size 1 _ _ g0 g1 Bs (by omega) W hW)
      rw [hE1] at M1
      rw [hE2] at M2
      have hcv := conv2 kd lv
      have hwr : w.heap.size < wr.heap.size := Nat.lt_of_lt_of_le hlt5 hb.size
      have Hbb := Lib.hid (Hb5.out.trans (hb.mono Hb5.out.size))
      clear hD hF hL hdl hfk hfin hBs hS1 hS2 hE1 hE2 hlead hQ1 hQ2 hQ3 hQ4 hQ5 hQ6 hQ7 hQ8 hq1 hq2 hq3 hq4 hq5 hq6 hq7 hq8 hq0 hb g2 hl1 hl2
      go_wp2_with fail
      have p1' := p1; have p2' := p2
      obtain ⟨S, hSd⟩ : ∃ S : World → Prop, S = (fun w' => Below wr.heap.size wr w') := ⟨_, rfl⟩
      have hSb : ∀ w', S w' → Below wr.heap.size wr w' := fun w' h => by rw [hSd] at h; exact h
      have hSm : ∀ w5 : World, Below wr.heap.size wr w5 → S w5 := fun w5 h => by rw [hSd]; exact h
      have hS1 : ∀ w', S w' → w'.cell? ⟨w.heap.size, 0, none⟩ = some (.int .u8 (kd.toNat : Int)) := fun w' h => cell_below (hSb w' h) (Nat.le_refl _) g0
      have hS2 : ∀ w', S w' → w'.cell? ⟨w.heap.size, 1, none⟩ = some (.int .u8 (lv.toNat : Int)) := fun w' h => cell_below (hSb w' h) (Nat.le_refl _) g1
      have hS0 : S wr.drew := hSm _ (Below.refl _ _).drew
      clear hSd
      refine wp_region_C 20 20 S rfl rfl ?_
      refine wpAnyC_takeD 0 51 (.int .i64 Bs) rfl rfl rfl (by kernel_rfl) (by kernel_rfl) (by kernel_rfl) (by kernel_rfl) (fun _ _ _ h => h) (fun w5 hw5 => ?_) hS0 ?_
      · have z1 := hS1 w5 hw5; have z2 := hS2 w5 hw5
        simp only [List.getElem_toArray, List.getElem_cons_zero, List.getElem_cons_succ]
        go_simp
      simp only [Act.put, List.setIfInBounds_toArray, List.set_cons_zero, List.set_cons_succ]
      refine wpAnyC_takeD 1 52 (str F) rfl rfl rfl (by kernel_rfl) (by kernel_rfl) (by kernel_rfl) (by kernel_rfl) (fun _ _ _ h => h) (fun w5 hw5 => ?_) hS0 ?_
      · have z1 := hS1 w5 hw5; have z2 := hS2 w5 hw5
        simp only [List.getElem_toArray, List.getElem_cons_zero, List.getElem_cons_succ]
        go_simp
      simp only [Act.put, List.setIfInBounds_toArray, List.set_cons_zero, List.set_cons_succ]
      refine wpAnyC_takeD 2 53 (.int .i64 L) rfl rfl rfl (by kernel_rfl) (by kernel_rfl) (by kernel_rfl) (by kernel_rfl) (fun _ _ _ h => h) (fun w5 hw5 => ?_) hS0 ?_
      · have z1 := hS1 w5 hw5; have z2 := hS2 w5 hw5
        simp only [List.getElem_toArray, List.getElem_cons_zero, List.getElem_cons_succ]
        go_simp
      simp only [Act.put, List.setIfInBounds_toArray, List.set_cons_zero, List.set_cons_succ]
      refine wpAnyC_takeD 3 54 (.int .i64 S1) rfl rfl rfl (by kernel_rfl) (by kernel_rfl) (by kernel_rfl) (by kernel_rfl) (fun _ _ _ h => h) (fun w5 hw5 => ?_) hS0 ?_
      · have z1 := hS1 w5 hw5; have z2 := hS2 w5 hw5
        simp only [List.getElem_toArray, List.getElem_cons_zero, List.getElem_cons_succ]
        go_simp
      simp only [Act.put, List.setIfInBounds_toArray, List.set_cons_zero, List.set_cons_succ]
      refine wpAnyC_takeD 4 55 (.int .i64 S2) rfl rfl rfl (by kernel_rfl) (by kernel_rfl) (by kernel_rfl) (by kernel_rfl) (fun _ _ _ h => h) (fun w5 hw5 => ?_) hS0 ?_
      · have z1 := hS1 w5 hw5; have z2 := hS2 w5 hw5
        simp only [List.getElem_toArray, List.getElem_cons_zero, List.getElem_cons_succ]
        go_simp
      simp only [Act.put, List.setIfInBounds_toArray, List.set_cons_zero, List.set_cons_succ]
      refine wpAnyC_takeD 7 58 (.pointer (some ⟨w.heap.size, 0, none⟩)) rfl rfl rfl (by kernel_rfl) (by kernel_rfl) (by kernel_rfl) (by kernel_rfl) (fun _ _ _ h => h) (fun w5 hw5 => ?_) hS0 ?_
      · have z1 := hS1 w5 hw5; have z2 := hS2 w5 hw5
        simp only [List.getElem_toArray, List.getElem_cons_zero, List.getElem_cons_succ]
        go_simp
      simp only [Act.put, List.setIfInBounds_toArray, List.set_cons_zero, List.set_cons_succ]
      refine wpAnyC_takeD 8 59 (.int .u8 (kd.toNat : Int)) rfl rfl rfl (by kernel_rfl) (by kernel_rfl) (by kernel_rfl) (by kernel_rfl) (fun _ _ _ h => h) (fun w5 hw5 => ?_) hS0 ?_
      · have z1 := hS1 w5 hw5; have z2 := hS2 w5 hw5
        simp only [List.getElem_toArray, List.getElem_cons_zero, List.getElem_cons_succ]
        go_simp
      simp only [Act.put, List.setIfInBounds_toArray, List.set_cons_zero, List.set_cons_succ]
      refine wpAnyC_takeD 9 60 (.pointer (some ⟨w.heap.size, 1, none⟩)) rfl rfl rfl (by kernel_rfl) (by kernel_rfl) (by kernel_rfl) (by kernel_rfl) (fun _ _ _ h => h) (fun w5 hw5 => ?_) hS0 ?_
      · have z1 := hS1 w5 hw5; have z2 := hS2 w5 hw5
        simp only [List.getElem_toArray, List.getElem_cons_zero, List.getElem_cons_succ]
        go_simp
      simp only [Act.put, List.setIfInBounds_toArray, List.set_cons_zero, List.set_cons_succ]
      refine wpAnyC_takeD 10 61 (.int .u8 (lv.toNat : Int)) rfl rfl rfl (by kernel_rfl) (by kernel_rfl) (by kernel_rfl) (by kernel_rfl) (fun _ _ _ h => h) (fun w5 hw5 => ?_) hS0 ?_
      · have z1 := hS1 w5 hw5; have z2 := hS2 w5 hw5
        simp only [List.getElem_toArray, List.getElem_cons_zero, List.getElem_cons_succ]
        go_simp
      simp only [Act.put, List.setIfInBounds_toArray, List.set_cons_zero, List.set_cons_succ]
      refine wpAnyC_takeD 15 66 (.int .i64 Bs) rfl rfl rfl (by kernel_rfl) (by kernel_rfl) (by kernel_rfl) (by kernel_rfl) (fun _ _ _ h => h) (fun w5 hw5 => ?_) hS0 ?_
      · have z1 := hS1 w5 hw5; have z2 := hS2 w5 hw5
        simp only [List.getElem_toArray, List.getElem_cons_zero, List.getElem_cons_succ]
        go_simp
      simp only [Act.put, List.setIfInBounds_toArray, List.set_cons_zero, List.set_cons_succ]
      refine wpAnyC_two (i := 5) (j := 11) rfl rfl (by kernel_rfl) (fun K hK => ?_) (fun K hK => ?_)
      · skip
        simp only [List.getElem_toArray, List.getElem_cons_zero, List.getElem_cons_succ]
        go_simp
        go_wp2_with fail
        refine (M1.out _ (hSb _ hS0)).mono ?_
        rintro e WM1 ⟨rfl, hbM1, hBM1, -, -⟩
        go_wp2_with fail
        have hTM1 := hSm _ hbM1
        refine hK _ _ (fun _ => hTM1) ?_
        clear hK
        refine wpAnyC_takeD 6 57 (str Q1) rfl rfl rfl (by kernel_rfl) (by kernel_rfl) (by kernel_rfl) (by kernel_rfl) (fun _ _ _ h => h) (fun w5 hw5 => ?_) hTM1 ?_
        · skip
          simp only [List.getElem_toArray, List.getElem_cons_zero, List.getElem_cons_succ]
          go_simp
        simp only [Act.put, List.setIfInBounds_toArray, List.set_cons_zero, List.set_cons_succ]
        refine wpAnyC_two (i := 11) (j := 16) rfl rfl (by kernel_rfl) (fun K hK => ?_) (fun K hK => ?_)
        · skip
          simp only [List.getElem_toArray, List.getElem_cons_zero, List.getElem_cons_succ]
          go_simp
          have hbA : Below wr.heap.size wr (WM1.alloc (.cells #[.int .u8 (kd.toNat : Int), .int .u8 (lv.toNat : Int)] 5)) := (hSb _ hTM1).alloc (hSb _ hTM1).size _
          have hcA := new_at WM1 (.cells #[.int .u8 (kd.toNat : Int), .int .u8 (lv.toNat : Int)] 5)
          obtain ⟨WA, hWA⟩ : ∃ WA, WM1.alloc (.cells #[.int .u8 (kd.toNat : Int), .int .u8 (lv.toNat : Int)] 5) = WA := ⟨_, rfl⟩
          rw [hWA] at hbA hcA
          rw [hWA]
          obtain ⟨gA, hgA⟩ : ∃ gA, WM1.heap.size = gA := ⟨_, rfl⟩
          have hcell0 : WA.cell? ⟨gA, 0, none⟩ = some (.int .u8 (kd.toNat : Int)) := by rw [← hgA]; exact (by rw [cell_at hcA]; rfl)
          have hcell1 : WA.cell? ⟨gA, 1, none⟩ = some (.int .u8 (lv.toNat : Int)) := by rw [← hgA]; exact (by rw [cell_at hcA]; rfl)
          obtain ⟨S5, hSd5⟩ : ∃ S5 : World → Prop, S5 = (fun w' => S w' ∧ w'.cell? ⟨gA, 0, none⟩ = some (.int .u8 (kd.toNat : Int)) ∧ w'.cell? ⟨gA, 1, none⟩ = some (.int .u8 (lv.toNat : Int))) := ⟨_, rfl⟩
          have hSn : ∀ w5 : World, Below wr.heap.size wr w5 → w5.cell? ⟨gA, 0, none⟩ = some (.int .u8 (kd.toNat : Int)) → w5.cell? ⟨gA, 1, none⟩ = some (.int .u8 (lv.toNat : Int)) → S5 w5 := fun w5 h1 h2 h3 => by rw [hSd5]; exact ⟨hSm _ h1, h2, h3⟩
          have hSo : ∀ w', S5 w' → S w' := fun w' h => by rw [hSd5] at h; exact h.1
          have hSc : ∀ w', S5 w' → (convert 42 9 (.slice (some ⟨gA, 0, none⟩) 2 2)).run Tryd.prog w' = .ok (str [kd, lv]) w' := fun w' h => by rw [hSd5] at h; exact hcv w' gA h.2.1 h.2.2
          have hSb5 : ∀ w', S5 w' → Below wr.heap.size wr w' := fun w' h => hSb _ (hSo _ h)
          have hTA := hSn _ hbA hcell0 hcell1
          refine hK _ _ (fun _ => hSm _ hbA) ?_
          clear hK hSd5
          refine wpAnyC_strong (S1 := S5) hSo _ _ _ _ ?_
          simp only [hgA]
          clear hWA hgA hcA
          refine wpAnyC_takeD 12 63 (str [kd, lv]) rfl rfl rfl (by kernel_rfl) (by kernel_rfl) (by kernel_rfl) (by kernel_rfl) (fun _ _ _ h => h) (fun w5 hw5 => ?_) hTA ?_
          · have z3 := hSc w5 hw5
            simp only [List.getElem_toArray, List.getElem_cons_zero, List.getElem_cons_succ]
            go_simp
          simp only [Act.put, List.setIfInBounds_toArray, List.set_cons_zero, List.set_cons_succ]
          refine wpAnyC_takeD 13 64 (str Q2) rfl rfl rfl (by kernel_rfl) (by kernel_rfl) (by kernel_rfl) (by kernel_rfl) (fun _ _ _ h => h) (fun w5 hw5 => ?_) hTA ?_
          · skip
            simp only [List.getElem_toArray, List.getElem_cons_zero, List.getElem_cons_succ]
            go_simp
          simp only [Act.put, List.setIfInBounds_toArray, List.set_cons_zero, List.set_cons_succ]
          refine wpAnyC_takeD 14 65 (str Q3) rfl rfl rfl (by kernel_rfl) (by kernel_rfl) (by kernel_rfl) (by kernel_rfl) (fun _ _ _ h => h) (fun w5 hw5 => ?_) hTA ?_
          · skip
            simp only [List.getElem_toArray, List.getElem_cons_zero, List.getElem_cons_succ]
            go_simp
          simp only [Act.put, List.setIfInBounds_toArray, List.set_cons_zero, List.set_cons_succ]
          refine wpAnyC_step (k := 16) rfl (by kernel_rfl) (fun K hK => ?_)
          simp only [List.getElem_toArray, List.getElem_cons_zero, List.getElem_cons_succ]
          go_simp
          go_wp2_with fail
          refine (M2.out _ (hSb5 _ hTA)).mono ?_
          rintro e WM2 ⟨rfl, hbM2, hBM2, -, -⟩
          go_wp2_with fail
          have hTM2 := hSn _ hbM2 (cell_below hBM2 (Nat.le_refl _) hcell0) (cell_below hBM2 (Nat.le_refl _) hcell1)
          refine hK _ _ (fun _ => hTM2) ?_
          clear hK
          refine wpAnyC_takeD 17 68 (str Q4) rfl rfl rfl (by kernel_rfl) (by kernel_rfl) (by kernel_rfl) (by kernel_rfl) (fun _ _ _ h => h) (fun w5 hw5 => ?_) hTM2 ?_
          · skip
            simp only [List.getElem_toArray, List.getElem_cons_zero, List.getElem_cons_succ]
            go_simp
          simp only [Act.put, List.setIfInBounds_toArray, List.set_cons_zero, List.set_cons_succ]
          refine wpAnyC_takeD 18 69 (str Q5) rfl rfl rfl (by kernel_rfl) (by kernel_rfl) (by kernel_rfl) (by kernel_rfl) (fun _ _ _ h => h) (fun w5 hw5 => ?_) hTM2 ?_
          · skip
            simp only [List.getElem_toArray, List.getElem_cons_zero, List.getElem_cons_succ]
            go_simp
          simp only [Act.put, List.setIfInBounds_toArray, List.set_cons_zero, List.set_cons_succ]
          refine wpAnyC_takeD 19 10 (str Q5) rfl rfl rfl (by kernel_rfl) (by kernel_rfl) (by kernel_rfl) (by kernel_rfl) (fun _ _ _ h => h) (fun w5 hw5 => ?_) hTM2 ?_
          · skip
            simp only [List.getElem_toArray, List.getElem_cons_zero, List.getElem_cons_succ]
            go_simp
          simp only [Act.put, List.setIfInBounds_toArray, List.set_cons_zero, List.set_cons_succ]
          refine wpAnyC_done (by kernel_rfl) ?_
          go_wp2_with fail
          have hend := Hbb.out.trans ((hSb5 _ hTM2).mono Hbb.out.size)
          simp [bodyPost, results, Tryd.results17, go_sem]
          exact hend
        · skip
          simp only [List.getElem_toArray, List.getElem_cons_zero, List.getElem_cons_succ]
          go_simp
          go_wp2_with fail
          refine (M2.out _ (hSb _ hTM1)).mono ?_
          rintro e WM2 ⟨rfl, hbM2, hBM2, -, -⟩
          go_wp2_with fail
          have hTM2 := hSm _ hbM2
          refine hK _ _ (fun _ => hTM2) ?_
          clear hK
          refine wpAnyC_step (k := 11) rfl (by kernel_rfl) (fun K hK => ?_)
          simp only [List.getElem_toArray, List.getElem_cons_zero, List.getElem_cons_succ]
          go_simp
          have hbA : Below wr.heap.size wr (WM2.alloc (.cells #[.int .u8 (kd.toNat : Int), .int .u8 (lv.toNat : Int)] 5)) := (hSb _ hTM2).alloc (hSb _ hTM2).size _
          have hcA := new_at WM2 (.cells #[.int .u8 (kd.toNat : Int), .int .u8 (lv.toNat : Int)] 5)
          obtain ⟨WA, hWA⟩ : ∃ WA, WM2.alloc (.cells #[.int .u8 (kd.toNat : Int), .int .u8 (lv.toNat : Int)] 5) = WA := ⟨_, rfl⟩
          rw [hWA] at hbA hcA
          rw [hWA]
          obtain ⟨gA, hgA⟩ : ∃ gA, WM2.heap.size = gA := ⟨_, rfl⟩
          have hcell0 : WA.cell? ⟨gA, 0, none⟩ = some (.int .u8 (kd.toNat : Int)) := by rw [← hgA]; exact (by rw [cell_at hcA]; rfl)
          have hcell1 : WA.cell? ⟨gA, 1, none⟩ = some (.int .u8 (lv.toNat : Int)) := by rw [← hgA]; exact (by rw [cell_at hcA]; rfl)
          obtain ⟨S5, hSd5⟩ : ∃ S5 : World → Prop, S5 = (fun w' => S w' ∧ w'.cell? ⟨gA, 0, none⟩ = some (.int .u8 (kd.toNat : Int)) ∧ w'.cell? ⟨gA, 1, none⟩ = some (.int .u8 (lv.toNat : Int))) := ⟨_, rfl⟩
          have hSn : ∀ w5 : World, Below wr.heap.size wr w5 → w5.cell? ⟨gA, 0, none⟩ = some (.int .u8 (kd.toNat : Int)) → w5.cell? ⟨gA, 1, none⟩ = some (.int .u8 (lv.toNat : Int)) → S5 w5 := fun w5 h1 h2 h3 => by rw [hSd5]; exact ⟨hSm _ h1, h2, h3⟩
          have hSo : ∀ w', S5 w' → S w' := fun w' h => by rw [hSd5] at h; exact h.1
          have hSc : ∀ w', S5 w' → (convert 42 9 (.slice (some ⟨gA, 0, none⟩) 2 2)).run Tryd.prog w' = .ok (str [kd, lv]) w' := fun w' h => by rw [hSd5] at h; exact hcv w' gA h.2.1 h.2.2
          have hSb5 : ∀ w', S5 w' → Below wr.heap.size wr w' := fun w' h => hSb _ (hSo _ h)
          have hTA := hSn _ hbA hcell0 hcell1
          refine hK _ _ (fun _ => hSm _ hbA) ?_
          clear hK hSd5
          refine wpAnyC_strong (S1 := S5) hSo _ _ _ _ ?_
          simp only [hgA]
          clear hWA hgA hcA
          refine wpAnyC_takeD 12 63 (str [kd, lv]) rfl rfl rfl (by kernel_rfl) (by kernel_rfl) (by kernel_rfl) (by kernel_rfl) (fun _ _ _ h => h) (fun w5 hw5 => ?_) hTA ?_
          · have z3 := hSc w5 hw5
            simp only [List.getElem_toArray, List.getElem_cons_zero, List.getElem_cons_succ]
            go_simp
          simp only [Act.put, List.setIfInBounds_toArray, List.set_cons_zero, List.set_cons_succ]
          refine wpAnyC_takeD 13 64 (str Q2) rfl rfl rfl (by kernel_rfl) (by kernel_rfl) (by kernel_rfl) (by kernel_rfl) (fun _ _ _ h => h) (fun w5 hw5 => ?_) hTA ?_
          · skip
            simp only [List.getElem_toArray, List.getElem_cons_zero, List.getElem_cons_succ]
            go_simp
          simp only [Act.put, List.setIfInBounds_toArray, List.set_cons_zero, List.set_cons_succ]
          refine wpAnyC_takeD 14 65 (str Q3) rfl rfl rfl (by kernel_rfl) (by kernel_rfl) (by kernel_rfl) (by kernel_rfl) (fun _ _ _ h => h) (fun w5 hw5 => ?_) hTA ?_
          · skip
            simp only [List.getElem_toArray, List.getElem_cons_zero, List.getElem_cons_succ]
            go_simp
          simp only [Act.put, List.setIfInBounds_toArray, List.set_cons_zero, List.set_cons_succ]
          refine wpAnyC_takeD 17 68 (str Q4) rfl rfl rfl (by kernel_rfl) (by kernel_rfl) (by kernel_rfl) (by kernel_rfl) (fun _ _ _ h => h) (fun w5 hw5 => ?_) hTA ?_
          · skip
            simp only [List.getElem_toArray, List.getElem_cons_zero, List.getElem_cons_succ]
            go_simp
          simp only [Act.put, List.setIfInBounds_toArray, List.set_cons_zero, List.set_cons_succ]
          refine wpAnyC_takeD 18 69 (str Q5) rfl rfl rfl (by kernel_rfl) (by kernel_rfl) (by kernel_rfl) (by kernel_rfl) (fun _ _ _ h => h) (fun w5 hw5 => ?_) hTA ?_
          · skip
            simp only [List.getElem_toArray, List.getElem_cons_zero, List.getElem_cons_succ]
            go_simp
          simp only [Act.put, List.setIfInBounds_toArray, List.set_cons_zero, List.set_cons_succ]
          refine wpAnyC_takeD 19 10 (str Q5) rfl rfl rfl (by kernel_rfl) (by kernel_rfl) (by kernel_rfl) (by kernel_rfl) (fun _ _ _ h => h) (fun w5 hw5 => ?_) hTA ?_
          · skip
            simp only [List.getElem_toArray, List.getElem_cons_zero, List.getElem_cons_succ]
            go_simp
          simp only [Act.put, List.setIfInBounds_toArray, List.set_cons_zero, List.set_cons_succ]
          refine wpAnyC_done (by kernel_rfl) ?_
          go_wp2_with fail
          have hend := Hbb.out.trans ((hSb5 _ hTA).mono Hbb.out.size)
          simp [bodyPost, results, Tryd.results17, go_sem]
          exact hend
      · skip
        simp only [List.getElem_toArray, List.getElem_cons_zero, List.getElem_cons_succ]
        go_simp
        have hbA : Below wr.heap.size wr (wr.alloc (.cells #[.int .u8 (kd.toNat : Int), .int .u8 (lv.toNat : Int)] 5)).drew := ((Below.refl _ _).alloc (Nat.le_refl _) _).drew
        have hcA : (wr.alloc (.cells #[.int .u8 (kd.toNat : Int), .int .u8 (lv.toNat : Int)] 5)).drew.heap[wr.heap.size]? = _ := new_at wr (.cells #[.int .u8 (kd.toNat : Int), .int .u8 (lv.toNat : Int)] 5)
        obtain ⟨WA, hWA⟩ : ∃ WA, (wr.alloc (.cells #[.int .u8 (kd.toNat : Int), .int .u8 (lv.toNat : Int)] 5)).drew = WA := ⟨_, rfl⟩
        rw [hWA] at hbA hcA
        rw [hWA]
        obtain ⟨gA, hgA⟩ : ∃ gA, wr.heap.size = gA := ⟨_, rfl⟩
        have hcell0 : WA.cell? ⟨gA, 0, none⟩ = some (.int .u8 (kd.toNat : Int)) := by rw [← hgA]; exact (by rw [cell_at hcA]; rfl)
        have hcell1 : WA.cell? ⟨gA, 1, none⟩ = some (.int .u8 (lv.toNat : Int)) := by rw [← hgA]; exact (by rw [cell_at hcA]; rfl)
        obtain ⟨S5, hSd5⟩ : ∃ S5 : World → Prop, S5 = (fun w' => S w' ∧ w'.cell? ⟨gA, 0, none⟩ = some (.int .u8 (kd.toNat : Int)) ∧ w'.cell? ⟨gA, 1, none⟩ = some (.int .u8 (lv.toNat : Int))) := ⟨_, rfl⟩
        have hSn : ∀ w5 : World, Below wr.heap.size wr w5 → w5.cell? ⟨gA, 0, none⟩ = some (.int .u8 (kd.toNat : Int)) → w5.cell? ⟨gA, 1, none⟩ = some (.int .u8 (lv.toNat : Int)) → S5 w5 := fun w5 h1 h2 h3 => by rw [hSd5]; exact ⟨hSm _ h1, h2, h3⟩
        have hSo : ∀ w', S5 w' → S w' := fun w' h => by rw [hSd5] at h; exact h.1
        have hSc : ∀ w', S5 w' → (convert 42 9 (.slice (some ⟨gA, 0, none⟩) 2 2)).run Tryd.prog w' = .ok (str [kd, lv]) w' := fun w' h => by rw [hSd5] at h; exact hcv w' gA h.2.1 h.2.2
        have hSb5 : ∀ w', S5 w' → Below wr.heap.size wr w' := fun w' h => hSb _ (hSo _ h)
        have hTA := hSn _ hbA hcell0 hcell1
        refine hK _ _ (fun _ => hSm _ hbA) ?_
        clear hK hSd5
        refine wpAnyC_strong (S1 := S5) hSo _ _ _ _ ?_
        simp only [hgA]
        clear hWA hgA hcA
        refine wpAnyC_takeD 12 63 (str [kd, lv]) rfl rfl rfl (by kernel_rfl) (by kernel_rfl) (by kernel_rfl) (by kernel_rfl) (fun _ _ _ h => h) (fun w5 hw5 => ?_) hTA ?_
        · have z3 := hSc w5 hw5
          simp only [List.getElem_toArray, List.getElem_cons_zero, List.getElem_cons_succ]
          go_simp
        simp only [Act.put, List.setIfInBounds_toArray, List.set_cons_zero, List.set_cons_succ]
        refine wpAnyC_step (k := 5) rfl (by kernel_rfl) (fun K hK => ?_)
        simp only [List.getElem_toArray, List.getElem_cons_zero, List.getElem_cons_succ]
        go_simp
        go_wp2_with fail
        refine (M1.out _ (hSb5 _ hTA)).mono ?_
        rintro e WM1 ⟨rfl, hbM1, hBM1, -, -⟩
        go_wp2_with fail
        have hTM1 := hSn _ hbM1 (cell_below hBM1 (Nat.le_refl _) hcell0) (cell_below hBM1 (Nat.le_refl _) hcell1)
        refine hK _ _ (fun _ => hTM1) ?_
        clear hK
        refine wpAnyC_takeD 6 57 (str Q1) rfl rfl rfl (by kernel_rfl) (by kernel_rfl) (by kernel_rfl) (by kernel_rfl) (fun _ _ _ h => h) (fun w5 hw5 => ?_) hTM1 ?_
        · skip
          simp only [List.getElem_toArray, List.getElem_cons_zero, List.getElem_cons_succ]
          go_simp
        simp only [Act.put, List.setIfInBounds_toArray, List.set_cons_zero, List.set_cons_succ]
        refine wpAnyC_takeD 13 64 (str Q2) rfl rfl rfl (by kernel_rfl) (by kernel_rfl) (by kernel_rfl) (by kernel_rfl) (fun _ _ _ h => h) (fun w5 hw5 => ?_) hTM1 ?_
        · skip
          simp only [List.getElem_toArray, List.getElem_cons_zero, List.getElem_cons_succ]
          go_simp
        simp only [Act.put, List.setIfInBounds_toArray, List.set_cons_zero, List.set_cons_succ]
        refine wpAnyC_takeD 14 65 (str Q3) rfl rfl rfl (by kernel_rfl) (by kernel_rfl) (by kernel_rfl) (by kernel_rfl) (fun _ _ _ h => h) (fun w5 hw5 => ?_) hTM1 ?_
        · skip
          simp only [List.getElem_toArray, List.getElem_cons_zero, List.getElem_cons_succ]
          go_simp
        simp only [Act.put, List.setIfInBounds_toArray, List.set_cons_zero, List.set_cons_succ]
        have hcell0 := cell_below hBM1 (Nat.le_refl _) hcell0; have hcell1 := cell_below hBM1 (Nat.le_refl _) hcell1
        refine wpAnyC_step (k := 16) rfl (by kernel_rfl) (fun K hK => ?_)
        simp only [List.getElem_toArray, List.getElem_cons_zero, List.getElem_cons_succ]
        go_simp
        go_wp2_with fail
        refine (M2.out _ (hSb5 _ hTM1)).mono ?_
        rintro e WM2 ⟨rfl, hbM2, hBM2, -, -⟩
        go_wp2_with fail
        have hTM2 := hSn _ hbM2 (cell_below hBM2 (Nat.le_refl _) hcell0) (cell_below hBM2 (Nat.le_refl _) hcell1)
        refine hK _ _ (fun _ => hTM2) ?_
        clear hK
        refine wpAnyC_takeD 17 68 (str Q4) rfl rfl rfl (by kernel_rfl) (by kernel_rfl) (by kernel_rfl) (by kernel_rfl) (fun _ _ _ h => h) (fun w5 hw5 => ?_) hTM2 ?_
        · skip
          simp only [List.getElem_toArray, List.getElem_cons_zero, List.getElem_cons_succ]
          go_simp
        simp only [Act.put, List.setIfInBounds_toArray, List.set_cons_zero, List.set_cons_succ]
        refine wpAnyC_takeD 18 69 (str Q5) rfl rfl rfl (by kernel_rfl) (by kernel_rfl) (by kernel_rfl) (by kernel_rfl) (fun _ _ _ h => h) (fun w5 hw5 => ?_) hTM2 ?_
        · skip
          simp only [List.getElem_toArray, List.getElem_cons_zero, List.getElem_cons_succ]
          go_simp
        simp only [Act.put, List.setIfInBounds_toArray, List.set_cons_zero, List.set_cons_succ]
        refine wpAnyC_takeD 19 10 (str Q5) rfl rfl rfl (by kernel_rfl) (by kernel_rfl) (by kernel_rfl) (by kernel_rfl) (fun _ _ _ h => h) (fun w5 hw5 => ?_) hTM2 ?_
        · skip
          simp only [List.getElem_toArray, List.getElem_cons_zero, List.getElem_cons_succ]
          go_simp
        simp only [Act.put, List.setIfInBounds_toArray, List.set_cons_zero, List.set_cons_succ]
        refine wpAnyC_done (by kernel_rfl) ?_
        go_wp2_with fail
        have hend := Hbb.out.trans ((hSb5 _ hTM2).mono Hbb.out.size)
        simp [bodyPost, results, Tryd.results17, go_sem]
        exact hend
end Go.Proofs.YtpfnmjcomdckgaaDoor
