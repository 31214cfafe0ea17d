/-
  The reference's Laid: a record laid out in another order.
-/
import Derived.Test.YtpfnmjcomdckgaaDoorROrdA
import Derived.Test.YtpfnmjcomdckgaaDoorRRefB
import Derived.Test.YtpfnmjcomdckgaaDoorRRefX
import Derived.Test.YtpfnmjcomdckgaaDoorRFloat
import Derived.Test.YtpfnmjcomdckgaaDoorRSpoE
import Derived.Deep.RegionWith
import Derived.Deep.Cut
namespace Go.Proofs.YtpfnmjcomdckgaaDoor
open Go.RowKit Go.Shelf
set_option linter.unusedVariables false
set_option linter.unusedSimpArgs false

def LaidPost (r : RecM) (w : World) (e : Ending) (w' : World) : Prop := ∃ (c : UInt8) (at' : List Nat) (data : List UInt8), e = .returned (str (layM c r (dirA at' r.fields) data)) ∧ LayAt data at' r.fields ∧ fieldsN r.fields ≤ data.length ∧ data.length ≤ fieldsN r.fields + 3 * r.fields.length ∧ Below w.heap.size w w'
theorem made_rows (w : World) (kd lv : UInt8) (fa : Option Addr) (n fc : Nat) : ∃ W3 W4 W5, w.alloc (.cells #[.int .u8 (kd.toNat : Int), .int .u8 (lv.toNat : Int), .slice fa n fc] 27) = W3 ∧ W3.heap.size = w.heap.size + 1 ∧
    W3.alloc (.cells (madeCells #[.int .i64 0] n) 3) = W4 ∧ W4.heap.size = w.heap.size + 1 + 1 ∧ W4.alloc (.cells (madeCells #[.bool false] n) 4) = W5 ∧
    LayW w W5 kd lv fa n fc (List.replicate n 0) (List.replicate n false) ∧ W3.heap[w.heap.size]? = some (.cells #[.int .u8 (kd.toNat : Int), .int .u8 (lv.toNat : Int), .slice fa n fc] 27 (0, 0)) := by
  obtain ⟨W3, h3⟩ : ∃ W3, w.alloc (.cells #[.int .u8 (kd.toNat : Int), .int .u8 (lv.toNat : Int), .slice fa n fc] 27) = W3 := ⟨_, rfl⟩
  have s3 : W3.heap.size = w.heap.size + 1 := by rw [← h3]; simp
  have b3 : Below w.heap.size w W3 := by rw [← h3]; exact below_new _ _
  have n3 : W3.heap[w.heap.size]? = some (.cells #[.int .u8 (kd.toNat : Int), .int .u8 (lv.toNat : Int), .slice fa n fc] 27 (0, 0)) := by rw [← h3]; exact new_at _ _
  obtain ⟨W4, h4⟩ : ∃ W4, W3.alloc (.cells (madeCells #[.int .i64 0] n) 3) = W4 := ⟨_, rfl⟩
  have s4 : W4.heap.size = w.heap.size + 1 + 1 := by rw [← h4]; simp [s3]
  have b4 : Below W3.heap.size W3 W4 := by rw [← h4]; exact below_new _ _
  have n4 : W4.heap[w.heap.size + 1]? = some (.cells (madeCells #[.int .i64 0] n) 3 (0, 0)) := by rw [← s3, ← h4]; exact new_at _ _
  obtain ⟨W5, h5⟩ : ∃ W5, W4.alloc (.cells (madeCells #[.bool false] n) 4) = W5 := ⟨_, rfl⟩
  have b5 : Below W4.heap.size W4 W5 := by rw [← h5]; exact below_new _ _
  have n5 : W5.heap[w.heap.size + 1 + 1]? = some (.cells (madeCells #[.bool false] n) 4 (0, 0)) := by rw [← s4, ← h5]; exact new_at _ _
  have c4 : madeCells #[.int .i64 0] n = ⟨atC (List.replicate n 0)⟩ := by
    apply Array.ext'
    rw [toList_madeCells_one]
    simp [atC, List.map_replicate]
  have c5 : madeCells #[.bool false] n = ⟨leftC (List.replicate n false)⟩ := by
    apply Array.ext'
    rw [toList_madeCells_one]
    simp [leftC, List.map_replicate]
  refine ⟨W3, W4, W5, h3, s3, h4, s4, h5, ⟨?_, heap_below b5 (heap_below b4 n3), ?_, ?_⟩, n3⟩
  · exact b3.trans ((b4.mono b3.size).trans (b5.mono (Nat.le_trans b3.size b4.size)))
  · rw [← c4]; exact heap_below b5 n4
  · rw [← c5]; exact n5
theorem dirA_take : ∀ (ps : List Nat) (fs : List FldM) (i a : Nat) (f : FldM), ps[i]? = some a → fs[i]? = some f →
    dirA (ps.take (i + 1)) (fs.take (i + 1)) = dirA (ps.take i) (fs.take i) ++ f.tag ++ digsN (sizeF f) 4 ++ digsN a 5
  | [], _, i, a, f, h, _ => by simp at h
  | _ :: _, [], i, a, f, _, h => by simp at h
  | p :: ps, g :: fs, 0, a, f, h, hf => by
    obtain rfl : p = a := by simpa using h
    obtain rfl : g = f := by simpa using hf
    simp [dirA]
  | p :: ps, g :: fs, i + 1, a, f, h, hf => by
    have ih := dirA_take ps fs i a f (by simpa using h) (by simpa using hf)
    simp only [List.take_succ_cons, dirA, ih, List.append_assoc]
theorem dirA_tlen (ps : List Nat) (fs : List FldM) (ht : ∀ f ∈ fs, f.tag.length = 3) (i : Nat) : (dirA (ps.take i) (fs.take i)).length ≤ 12 * fs.length := by
  have h : ∀ (ps : List Nat) (fs : List FldM), (∀ f ∈ fs, f.tag.length = 3) → (dirA ps fs).length ≤ 12 * fs.length := by
    intro ps
    induction ps with
    | nil => intro fs _; simp [dirA]
    | cons p ps ih =>
      intro fs ht
      cases fs with
      | nil => simp [dirA]
      | cons f fs =>
        have := ih fs (fun g hg => ht g (by simp [hg]))
        have h3 := ht f (by simp)
        simp only [dirA, List.length_append, h3, digsN_len, List.length_cons]
        omega
  have h1 := h (ps.take i) (fs.take i) (fun f hf => ht f (List.mem_of_mem_take hf))
  have h2 : (fs.take i).length ≤ fs.length := by rw [List.length_take]; omega
  omega
theorem fixI (k n : Nat) (m : Int) (hk : k ≤ 20) (hn : n ≤ 1099511627776) (hm : (n : Int) = m) (B : Nat) (w : World) (W : World) (hW : Below B w W) (hB : B ≤ W.heap.size) :
    Calls Tryd.prog 46 #[.int .i64 m, .int .i64 (k : Int)] W fun e w' => e = .returned (str (digsN n k)) ∧ Below B w w' ∧ Below W.heap.size W w' := by
  subst hm
  refine Calls.mono (fixed_c k n W hk hn) ?_
  rintro e w' ⟨rfl, hb⟩
  exact ⟨rfl, hW.trans (hb.mono hB), hb⟩
theorem conv_1 (c : UInt8) (W : World) (b : Nat) (hc : W.cell? ⟨b, 0, none⟩ = some (.int .u8 (c.toNat : Int))) :
    (convert 42 9 (.slice (some ⟨b, 0, none⟩) 1 1)).run Tryd.prog W = .ok (str [c]) W := by
  refine run_convert_bytes_back W _ _ 5 ⟨b, 0, none⟩ 1 [c] Tryd.underlying42 Tryd.underlying5 Tryd.underlying9 ?_
  intro j hj
  match j, hj with
  | 0, _ => rw [add_at]; exact hc
theorem conv_2 (c d : UInt8) (W : World) (b : Nat) (hc : W.cell? ⟨b, 0, none⟩ = some (.int .u8 (c.toNat : Int))) (hd : W.cell? ⟨b, 1, none⟩ = some (.int .u8 (d.toNat : Int))) :
    (convert 42 9 (.slice (some ⟨b, 0, none⟩) 2 2)).run Tryd.prog W = .ok (str [c, d]) W := by
  refine run_convert_bytes_back W _ _ 5 ⟨b, 0, none⟩ 2 [c, d] Tryd.underlying42 Tryd.underlying5 Tryd.underlying9 ?_
  intro j hj
  match j, hj with
  | 0, _ => rw [add_at]; exact hc
  | 1, _ => rw [add_at]; exact hd
set_option maxRecDepth 100000 in
set_option maxHeartbeats 20000000 in
theorem rLaid_nil (v ov : Value) (r : RecM) (ol : List Int) (w : World) (hv : RecV w v r) (ho : IntsAt w ov ol) (hfit : ∀ x ∈ ol, Fits x) (hsz : sizeR r ≤ 5000) (htag : ∀ f ∈ r.fields, f.tag.length = 3) (hon : ol.length = 0) :
    Calls Tryd.prog 25 #[v, ov] w (LaidPost r w) := by
  obtain ⟨fv, rfl, hf⟩ := hv
  obtain ⟨fa, fc, rfl, hm, hc⟩ := id hf.slice
  obtain ⟨oa, oc, rfl, hom, hoc⟩ := id ho.slice
  obtain ⟨rk, rl, fs⟩ := r
  simp only at hf hm hc htag ⊢
  have Htag := Lib.hid htag
  clear htag
  obtain rfl : ol = [] := List.length_eq_zero_iff.1 hon
  simp only [List.length_nil] at hom ⊢
  clear hon
  have hszz := hsz
  unfold sizeR sizeH at hszz
  simp only at hszz
  have hn400 : fs.length ≤ 420 := by omega
  have Hszz := Lib.hid hszz
  obtain ⟨W3, W4, W5, h3, s3, h4, s4, h5, hL5, n3⟩ := made_rows w rk rl fa fs.length fc
  have hrun1 := run_make_row' (P := Tryd.prog) 50 3 (.int .i64 0) 8 Tryd.underlying50 infoInt rfl .i64 .i64 fs.length (by omega) (by omega) W3
  have hrun2 := run_make_row' (P := Tryd.prog) 90 4 (.bool false) 1 Tryd.underlying90 infoBool rfl .i64 .i64 fs.length (by omega) (by omega) W4
  rw [h4, s3] at hrun1
  rw [h5, s4] at hrun2
  have e0 : W3.cell? ⟨w.heap.size, 0, none⟩ = some (.int .u8 (rk.toNat : Int)) := by rw [cell_at n3]; rfl
  have e1 : W3.cell? ⟨w.heap.size, 1, none⟩ = some (.int .u8 (rl.toNat : Int)) := by rw [cell_at n3]; rfl
  have e2 : W3.cell? ⟨w.heap.size, 2, none⟩ = some (.slice fa fs.length fc) := by rw [cell_at n3]; rfl
  have HL5 := Lib.hid hL5
  have Hf := Lib.hid hf
  have Hfit := Lib.hid hfit
  have Hc := Lib.hid hc
  have Hoc := Lib.hid hoc
  have Ho := Lib.hid ho
  unfold maxLen at hm hom
  clear hL5 hf hfit n3 hc hoc h4 h5 s3 s4 hsz hszz ho
  unfold LaidPost
  simp only
  go_enter Tryd.func25, Tryd.ntmps25
  go_wp2_with fail
  clear hrun1 hrun2 e0 e1 e2 h3
  go_loopw [8, 9] (fun dv iv wr => ∃ (i : Nat) (at' : List Nat) (left : List Bool) (data : List UInt8), i ≤ fs.length ∧ dv = str data ∧ iv = .int .i64 i ∧ LayI fs i at' left data ∧ LayW w wr rk rl fa fs.length fc at' left) (fun dv iv _ => fs.length - (intOf iv).toNat)
  case atStart => exact ⟨0, _, _, [], Nat.zero_le _, rfl, rfl, LayI.start fs, HL5.out⟩
  case round =>
    obtain ⟨i, at', left, data, hi, rfl, rfl, hI, hW⟩ := hrel
    clear HL5
    by_cases hlt : i < fs.length
    · have j0 : (i : Int) < (fs.length : Int) := by omega
      obtain ⟨j, hj, hjf⟩ := cnt_ex left (by rw [hI.cnt, hI.ll]; exact hlt)
      rw [hI.ll] at hj
      have HI := Lib.hid hI
      have HW := Lib.hid hW
      clear hI hW
      go_wp2_with fail
      go_loopw [10] (fun kv wx => ∃ k : Nat, k < fs.length ∧ kv = .int .i64 k ∧ wx = wr) (fun kv _ => distN fs.length j (intOf kv).toNat)
      case atStart => exact ⟨i, by omega, rfl, rfl⟩
      case round =>
        obtain ⟨k, hk, rfl, rfl⟩ := hrel
        have hkl : k < left.length := by rw [HI.out.ll]; exact hk
        have i0 : (0 : Int) ≤ (k : Int) := by omega
        have i1 : (k : Int) < (fs.length : Int) := by omega
        cases hb : left[k] with
        | true =>
          obtain ⟨l0, l1⟩ := HW.out.left (k := k) (b := true) (by rw [List.getElem?_eq_getElem hkl, hb])
          have hkj : k ≠ j := by
            rintro rfl
            rw [List.getElem?_eq_getElem hkl, hb] at hjf
            cases hjf
          have hr : ((k : Int) + 1).tmod (fs.length : Int) = (((k + 1) % fs.length : Nat) : Int) := by
            rw [show (k : Int) + 1 = ((k + 1 : Nat) : Int) by omega]
            exact (Int.ofNat_tmod (k + 1) fs.length).symm
          have hn0 : ((fs.length : Int) == 0) = false := by rw [beq_eq_false_iff_ne]; omega
          go_wp2
          go_roundw
          case rel => exact ⟨(k + 1) % fs.length, Nat.mod_lt _ (by omega), by go_num, by first | trivial | rfl⟩
          case measure =>
            have h := dist_next hj hk hkj
            simp only [intOf, Int.toNat_natCast]
            exact h
        | false =>
          replace hb : left[k]? = some false := by rw [List.getElem?_eq_getElem hkl, hb]
          clear hkl
          obtain ⟨f, hfk⟩ : ∃ f, fs[k]? = some f := ⟨fs[k], List.getElem?_eq_getElem hk⟩
          have hfe : fs[k] = f := by rw [List.getElem?_eq_getElem hk] at hfk; simpa using hfk
          obtain ⟨fb, off, hfa, hfbl, c0, c1, c2, sv, c3, hsub⟩ := Hc.out k hk
          rw [hfe] at c0 c1 c2 hsub
          have hI9 := HI.out.step k f hb hfk [] (by decide)
          have hal : k < at'.length := by rw [HI.out.la]; exact hk
          obtain ⟨a0, ha0⟩ : ∃ a, at'[k]? = some a := ⟨at'[k], List.getElem?_eq_getElem hal⟩
          obtain ⟨l0, l1⟩ := HW.out.left hb
          have hW6 := HW.out.mark k
          obtain ⟨W6, hW6e⟩ : ∃ W, wr.setCell ⟨w.heap.size + 1 + 1, k, none⟩ (.bool true) = W := ⟨_, rfl⟩
          rw [hW6e] at hW6
          obtain ⟨t0, t1⟩ := hW6.at_ ha0
          have hW7 := hW6.put k (data ++ []).length
          simp only [List.append_nil] at hI9 hW7
          obtain ⟨W7, hW7e⟩ : ∃ W, W6.setCell ⟨w.heap.size + 1, k, none⟩ (.int .i64 (data.length : Nat)) = W := ⟨_, rfl⟩
          rw [hW7e] at hW7
          obtain ⟨u0, u1, u2⟩ := hW7.boxes
          have c0 := cell_below hW7.bel (Nat.le_refl _) c0
          have c1 := cell_below hW7.bel (Nat.le_refl _) c1
          have c2 := cell_below hW7.bel (Nat.le_refl _) c2
          have c3 := cell_below hW7.bel (Nat.le_refl _) c3
          have hsub := hsub.below hW7.bel (Nat.le_refl _)
          obtain ⟨sa, sc, rfl, -⟩ := id hsub.slice
          have hfs := sizeF_le fs k hk
          rw [hfe] at hfs
          have hsl := sum_le left fs
          have hdl := HI.out.hi
          have hbl := bytesF_len f
          have hB := Lib.hid (rBytes_c (.agg #[str f.tag, str f.ind, str f.data, .slice sa f.subs.length sc]) f W7 ⟨_, rfl, hsub⟩ (by have := Hszz.out; omega))
          unfold StrPost at hB
          have hd1 : (data ++ []).length ≤ 100000 := by rw [List.length_append]; have := Hszz.out; simp only [List.length_cons, List.length_nil]; omega
          have ad2 := add_str (data ++ []) (bytesF f) (by have := Hszz.out; omega)
          simp only [List.append_nil] at ad2 hd1
          have szd := size_str data
          have HI9 := Lib.hid hI9
          have HW7 := Lib.hid hW7
          have i0 : (0 : Int) ≤ (k : Int) := by omega
          have i1 : (k : Int) < (fs.length : Int) := by omega
          subst hfa
          clear hI9 hW6 hW7 hsub hfs hsl hdl hbl hal ha0 hfe hfk HI HW hb
          go_wp2_with fail
          refine hB.out.mono ?_
          rintro _ w8 ⟨rfl, hb8⟩
          have hW8 := HW7.out.below hb8
          have HW8 := Lib.hid hW8
          clear hb8 hW8 hB u0 u1 u2 c0 c1 c2 c3
          go_wp2
          go_roundw
          case rel => first
            | exact ⟨i + 1, _, _, _, by omega, rfl, by go_num, HI9.out, HW8.out⟩
            | ((repeat apply Exists.intro)
               refine ⟨⟨i + 1, _, _, _, by omega, ?_, ?_, HI9.out, HW8.out⟩, rfl⟩
               · rfl
               · go_num)
          case measure => simp [intOf]; omega
    · skip
      have hin : i = fs.length := by omega
      subst hin
      obtain ⟨hlay, hsum, hdat⟩ := hI.done
      have Hlay := Lib.hid (And.intro hlay (And.intro hsum hdat))
      have Hla := Lib.hid hI.la
      have Hsm := Lib.hid hI.small
      have Hle := Lib.hid (sum_le left fs)
      have hdl : data.length ≤ 10000 := by have := Hszz.out; omega
      have HW := Lib.hid hW
      have j0 : decide ((fs.length : Int) < (fs.length : Int)) = false := by simp
      clear hI hW hlay hsum hdat hlt hi
      go_wp2_with fail
      go_loopw [11, 12] (fun dv iv wr => ∃ (i : Nat), i ≤ fs.length ∧ dv = str (dirA (at'.take i) (fs.take i)) ∧ iv = .int .i64 i ∧ LayW w wr rk rl fa fs.length fc at' left) (fun dv iv _ => fs.length - (intOf iv).toNat)
      case atStart => exact ⟨0, Nat.zero_le _, rfl, rfl, HW.out⟩
      case round =>
        obtain ⟨i, hi, rfl, rfl, hW⟩ := hrel
        clear HW
        by_cases hlt : i < fs.length
        · have j1 : (i : Int) < (fs.length : Int) := by omega
          have j2 : (0 : Int) ≤ (i : Int) := by omega
          obtain ⟨f, hfk⟩ : ∃ f, fs[i]? = some f := ⟨fs[i], List.getElem?_eq_getElem hlt⟩
          have hfe : fs[i] = f := by rw [List.getElem?_eq_getElem hlt] at hfk; simpa using hfk
          obtain ⟨fb, off, hfa, hfbl, c0, c1, c2, sv, c3, hsub⟩ := Hc.out i hlt
          rw [hfe] at c0 c1 c2 hsub
          have hal : i < at'.length := by rw [Hla.out]; exact hlt
          obtain ⟨a, ha⟩ : ∃ a, at'[i]? = some a := ⟨at'[i], List.getElem?_eq_getElem hal⟩
          obtain ⟨ta, -⟩ := hW.at_ ha
          have hale : a ≤ data.length := Hsm.out a (List.mem_of_getElem? ha)
          obtain ⟨u0, u1, u2⟩ := hW.boxes
          have c0 := cell_below hW.bel (Nat.le_refl _) c0
          have c1 := cell_below hW.bel (Nat.le_refl _) c1
          have c2 := cell_below hW.bel (Nat.le_refl _) c2
          have c3 := cell_below hW.bel (Nat.le_refl _) c3
          have hsub := hsub.below hW.bel (Nat.le_refl _)
          obtain ⟨sa, sc, rfl, -⟩ := id hsub.slice
          have hfs := sizeF_le fs i hlt
          rw [hfe] at hfs
          have hfl : sizeF f ≤ 5000 := by have := Hszz.out; omega
          have htg : f.tag.length = 3 := Htag.out f (by rw [← hfe]; exact List.getElem_mem hlt)
          have hdt := dirA_take at' fs i a f ha hfk
          have hdlen := dirA_tlen at' fs Htag.out i
          obtain ⟨D, hD⟩ : ∃ D, dirA (at'.take i) (fs.take i) = D := ⟨_, rfl⟩
          obtain ⟨Bf, hBf⟩ : ∃ B, bytesF f = B := ⟨_, rfl⟩
          have hbl := bytesF_len f
          rw [hBf] at hbl
          obtain ⟨z, hz⟩ : ∃ z, sizeF f = z := ⟨_, rfl⟩
          rw [hz] at hbl hfl hdt
          rw [hD] at hdt hdlen
          have x4 := digsN_len 4 z
          have x5 := digsN_len 5 a
          have q1 := add_str D f.tag (by omega)
          obtain ⟨D1, hD1⟩ : ∃ D1, D ++ f.tag = D1 := ⟨_, rfl⟩
          have l1 : D1.length ≤ 20000 := by rw [← hD1, List.length_append]; omega
          rw [hD1] at q1 hdt
          have q2 := add_str D1 (digsN z 4) (by omega)
          obtain ⟨D2, hD2⟩ : ∃ D2, D1 ++ digsN z 4 = D2 := ⟨_, rfl⟩
          have l2 : D2.length ≤ 30000 := by rw [← hD2, List.length_append]; omega
          rw [hD2] at q2 hdt
          have q3 := add_str D2 (digsN a 5) (by omega)
          obtain ⟨D3, hD3⟩ : ∃ D3, D2 ++ digsN a 5 = D3 := ⟨_, rfl⟩
          rw [hD3] at q3 hdt
          have szb := size_str Bf
          rw [hbl] at szb
          have M1 := Lib.hid (fun W (h : Below wr.heap.size wr W) => rBytes_c (.agg #[str f.tag, str f.ind, str f.data, .slice sa f.subs.length sc]) f W ⟨_, rfl, hsub.below h (Nat.le_refl _)⟩ (by omega))
          have M2 := Lib.hid (fun W (h : Below wr.heap.size wr W) => fixed_c 4 z W (by decide) (by omega))
          have M3 := Lib.hid (fun W (h : Below wr.heap.size wr W) => fixed_c 5 a W (by decide) (by omega))
          unfold StrPost at M1 M2 M3
          rw [hBf] at M1
          subst hfa
          have HW := Lib.hid hW
          have Hdt := Lib.hid hdt
          have HD := Lib.hid hD
          clear hD1 hD2 hD3 hfe hfk hal ha hale hsub hfs htg hdt hdlen hbl hBf hW x4 x5 l1 l2 hz hfl u0 u1 hfbl hD
          rw [HD.out]
          go_wp2_with fail
          obtain ⟨S, hSd⟩ : ∃ S : World → Prop, S = (fun w' => Below wr.heap.size wr w') := ⟨_, rfl⟩
          have hSb : ∀ w', S w' → Below wr.heap.size wr w' := fun w' h => by rw [hSd] at h; exact h
          have hSm : ∀ w5 : World, Below wr.heap.size wr w5 → S w5 := fun w5 h => by rw [hSd]; exact h
          have hb0 : Below wr.heap.size wr wr.drew := (Below.refl _ _).drew
          have hS0 : S wr.drew := hSm _ hb0
          clear hSd
          refine wp_region_C 23 24 S rfl rfl ?_
          refine wpAnyC_takeD 0 85 (str D) rfl rfl rfl (by kernel_rfl) (by kernel_rfl) (by kernel_rfl) (by kernel_rfl) (fun _ _ _ h => h) (fun w5 hw5 => ?_) hS0 ?_
          · skip
            simp only [List.getElem_toArray, List.getElem_cons_zero, List.getElem_cons_succ]
            go_simp
          try simp only [Act.put, List.setIfInBounds_toArray, List.set_cons_zero, List.set_cons_succ]
          refine wpAnyC_takeD 1 86 (.pointer (some ⟨w.heap.size, 2, none⟩)) rfl rfl rfl (by kernel_rfl) (by kernel_rfl) (by kernel_rfl) (by kernel_rfl) (fun _ _ _ h => h) (fun w5 hw5 => ?_) hS0 ?_
          · skip
            simp only [List.getElem_toArray, List.getElem_cons_zero, List.getElem_cons_succ]
            go_simp
          try simp only [Act.put, List.setIfInBounds_toArray, List.set_cons_zero, List.set_cons_succ]
          refine wpAnyC_takeD 2 87 (.slice (some ⟨fb, off, none⟩) fs.length fc) rfl rfl rfl (by kernel_rfl) (by kernel_rfl) (by kernel_rfl) (by kernel_rfl) (fun _ _ _ h => h) (fun w5 hw5 => ?_) hS0 ?_
          · have hq := hSb w5 hw5; have z0 := cell_below hq (Nat.le_refl _) u2
            simp only [List.getElem_toArray, List.getElem_cons_zero, List.getElem_cons_succ]
            go_simp
          try simp only [Act.put, List.setIfInBounds_toArray, List.set_cons_zero, List.set_cons_succ]
          refine wpAnyC_takeD 3 88 (.int .i64 i) rfl rfl rfl (by kernel_rfl) (by kernel_rfl) (by kernel_rfl) (by kernel_rfl) (fun _ _ _ h => h) (fun w5 hw5 => ?_) hS0 ?_
          · skip
            simp only [List.getElem_toArray, List.getElem_cons_zero, List.getElem_cons_succ]
            go_simp
          try simp only [Act.put, List.setIfInBounds_toArray, List.set_cons_zero, List.set_cons_succ]
          refine wpAnyC_takeD 4 89 (.pointer (some ⟨fb, off + i * 4, none⟩)) rfl rfl rfl (by kernel_rfl) (by kernel_rfl) (by kernel_rfl) (by kernel_rfl) (fun _ _ _ h => h) (fun w5 hw5 => ?_) hS0 ?_
          · skip
            simp only [List.getElem_toArray, List.getElem_cons_zero, List.getElem_cons_succ]
            go_simp
          try simp only [Act.put, List.setIfInBounds_toArray, List.set_cons_zero, List.set_cons_succ]
          refine wpAnyC_takeD 5 90 (.pointer (some ⟨fb, off + i * 4, none⟩)) rfl rfl rfl (by kernel_rfl) (by kernel_rfl) (by kernel_rfl) (by kernel_rfl) (fun _ _ _ h => h) (fun w5 hw5 => ?_) hS0 ?_
          · skip
            simp only [List.getElem_toArray, List.getElem_cons_zero, List.getElem_cons_succ]
            go_simp
          try simp only [Act.put, List.setIfInBounds_toArray, List.set_cons_zero, List.set_cons_succ]
          refine wpAnyC_takeD 6 91 (str f.tag) rfl rfl rfl (by kernel_rfl) (by kernel_rfl) (by kernel_rfl) (by kernel_rfl) (fun _ _ _ h => h) (fun w5 hw5 => ?_) hS0 ?_
          · have hq := hSb w5 hw5; have z0 := cell_below hq (Nat.le_refl _) c0
            simp only [List.getElem_toArray, List.getElem_cons_zero, List.getElem_cons_succ]
            go_simp
          try simp only [Act.put, List.setIfInBounds_toArray, List.set_cons_zero, List.set_cons_succ]
          refine wpAnyC_takeD 7 92 (str D1) rfl rfl rfl (by kernel_rfl) (by kernel_rfl) (by kernel_rfl) (by kernel_rfl) (fun _ _ _ h => h) (fun w5 hw5 => ?_) hS0 ?_
          · skip
            simp only [List.getElem_toArray, List.getElem_cons_zero, List.getElem_cons_succ]
            go_simp
          try simp only [Act.put, List.setIfInBounds_toArray, List.set_cons_zero, List.set_cons_succ]
          refine wpAnyC_takeD 8 93 (.pointer (some ⟨w.heap.size, 2, none⟩)) rfl rfl rfl (by kernel_rfl) (by kernel_rfl) (by kernel_rfl) (by kernel_rfl) (fun _ _ _ h => h) (fun w5 hw5 => ?_) hS0 ?_
          · skip
            simp only [List.getElem_toArray, List.getElem_cons_zero, List.getElem_cons_succ]
            go_simp
          try simp only [Act.put, List.setIfInBounds_toArray, List.set_cons_zero, List.set_cons_succ]
          refine wpAnyC_takeD 9 94 (.slice (some ⟨fb, off, none⟩) fs.length fc) rfl rfl rfl (by kernel_rfl) (by kernel_rfl) (by kernel_rfl) (by kernel_rfl) (fun _ _ _ h => h) (fun w5 hw5 => ?_) hS0 ?_
          · have hq := hSb w5 hw5; have z0 := cell_below hq (Nat.le_refl _) u2
            simp only [List.getElem_toArray, List.getElem_cons_zero, List.getElem_cons_succ]
            go_simp
          try simp only [Act.put, List.setIfInBounds_toArray, List.set_cons_zero, List.set_cons_succ]
          refine wpAnyC_takeD 10 95 (.int .i64 i) rfl rfl rfl (by kernel_rfl) (by kernel_rfl) (by kernel_rfl) (by kernel_rfl) (fun _ _ _ h => h) (fun w5 hw5 => ?_) hS0 ?_
          · skip
            simp only [List.getElem_toArray, List.getElem_cons_zero, List.getElem_cons_succ]
            go_simp
          try simp only [Act.put, List.setIfInBounds_toArray, List.set_cons_zero, List.set_cons_succ]
          refine wpAnyC_takeD 11 96 (.pointer (some ⟨fb, off + i * 4, none⟩)) rfl rfl rfl (by kernel_rfl) (by kernel_rfl) (by kernel_rfl) (by kernel_rfl) (fun _ _ _ h => h) (fun w5 hw5 => ?_) hS0 ?_
          · skip
            simp only [List.getElem_toArray, List.getElem_cons_zero, List.getElem_cons_succ]
            go_simp
          try simp only [Act.put, List.setIfInBounds_toArray, List.set_cons_zero, List.set_cons_succ]
          refine wpAnyC_takeD 12 97 (.agg #[str f.tag, str f.ind, str f.data, .slice sa f.subs.length sc]) rfl rfl rfl (by kernel_rfl) (by kernel_rfl) (by kernel_rfl) (by kernel_rfl) (fun _ _ _ h => h) (fun w5 hw5 => ?_) hS0 ?_
          · have hq := hSb w5 hw5; have z0 := cell_below hq (Nat.le_refl _) c0; have z1 := cell_below hq (Nat.le_refl _) c1; have z2 := cell_below hq (Nat.le_refl _) c2; have z3 := cell_below hq (Nat.le_refl _) c3
            simp only [List.getElem_toArray, List.getElem_cons_zero, List.getElem_cons_succ]
            go_simp
          try simp only [Act.put, List.setIfInBounds_toArray, List.set_cons_zero, List.set_cons_succ]
          refine wpAnyC_takeD 17 102 (.slice (some ⟨w.heap.size + 1, 0, none⟩) fs.length fs.length) rfl rfl rfl (by kernel_rfl) (by kernel_rfl) (by kernel_rfl) (by kernel_rfl) (fun _ _ _ h => h) (fun w5 hw5 => ?_) hS0 ?_
          · skip
            simp only [List.getElem_toArray, List.getElem_cons_zero, List.getElem_cons_succ]
            go_simp
          try simp only [Act.put, List.setIfInBounds_toArray, List.set_cons_zero, List.set_cons_succ]
          refine wpAnyC_takeD 18 103 (.int .i64 i) rfl rfl rfl (by kernel_rfl) (by kernel_rfl) (by kernel_rfl) (by kernel_rfl) (fun _ _ _ h => h) (fun w5 hw5 => ?_) hS0 ?_
          · skip
            simp only [List.getElem_toArray, List.getElem_cons_zero, List.getElem_cons_succ]
            go_simp
          try simp only [Act.put, List.setIfInBounds_toArray, List.set_cons_zero, List.set_cons_succ]
          refine wpAnyC_takeD 19 104 (.pointer (some ⟨w.heap.size + 1, i, none⟩)) rfl rfl rfl (by kernel_rfl) (by kernel_rfl) (by kernel_rfl) (by kernel_rfl) (fun _ _ _ h => h) (fun w5 hw5 => ?_) hS0 ?_
          · skip
            simp only [List.getElem_toArray, List.getElem_cons_zero, List.getElem_cons_succ]
            go_simp
          try simp only [Act.put, List.setIfInBounds_toArray, List.set_cons_zero, List.set_cons_succ]
          refine wpAnyC_takeD 20 105 (.int .i64 (a : Nat)) rfl rfl rfl (by kernel_rfl) (by kernel_rfl) (by kernel_rfl) (by kernel_rfl) (fun _ _ _ h => h) (fun w5 hw5 => ?_) hS0 ?_
          · have hq := hSb w5 hw5; have z0 := cell_below hq (Nat.le_refl _) ta
            simp only [List.getElem_toArray, List.getElem_cons_zero, List.getElem_cons_succ]
            go_simp
          try simp only [Act.put, List.setIfInBounds_toArray, List.set_cons_zero, List.set_cons_succ]
          refine wpAnyC_step (k := 13) rfl (by kernel_rfl) (fun K hK => ?_)
          simp only [List.getElem_toArray, List.getElem_cons_zero, List.getElem_cons_succ]
          go_simp
          go_wp2_with fail
          refine (M1.out _ hb0).mono ?_
          rintro _ Wa ⟨rfl, hx⟩
          go_wp2_with fail
          have ha := hb0.trans (hx.mono hb0.size)
          clear hx
          have Sha := hSm _ ha
          refine hK _ _ (fun _ => Sha) ?_
          clear hK
          try simp only [Act.put, List.setIfInBounds_toArray, List.set_cons_zero, List.set_cons_succ]
          refine wpAnyC_takeD 14 99 (.int .i64 (z : Nat)) rfl rfl rfl (by kernel_rfl) (by kernel_rfl) (by kernel_rfl) (by kernel_rfl) (fun _ _ _ h => h) (fun w5 hw5 => ?_) Sha ?_
          · skip
            simp only [List.getElem_toArray, List.getElem_cons_zero, List.getElem_cons_succ]
            go_simp
          try simp only [Act.put, List.setIfInBounds_toArray, List.set_cons_zero, List.set_cons_succ]
          refine wpAnyC_step (k := 15) rfl (by kernel_rfl) (fun K hK => ?_)
          simp only [List.getElem_toArray, List.getElem_cons_zero, List.getElem_cons_succ]
          go_simp
          go_wp2_with fail
          refine (M2.out _ ha).mono ?_
          rintro _ Wb ⟨rfl, hx⟩
          go_wp2_with fail
          have hb := ha.trans (hx.mono ha.size)
          clear hx
          have Shb := hSm _ hb
          refine hK _ _ (fun _ => Shb) ?_
          clear hK
          try simp only [Act.put, List.setIfInBounds_toArray, List.set_cons_zero, List.set_cons_succ]
          refine wpAnyC_takeD 16 101 (str D2) rfl rfl rfl (by kernel_rfl) (by kernel_rfl) (by kernel_rfl) (by kernel_rfl) (fun _ _ _ h => h) (fun w5 hw5 => ?_) Shb ?_
          · skip
            simp only [List.getElem_toArray, List.getElem_cons_zero, List.getElem_cons_succ]
            go_simp
          try simp only [Act.put, List.setIfInBounds_toArray, List.set_cons_zero, List.set_cons_succ]
          refine wpAnyC_step (k := 21) rfl (by kernel_rfl) (fun K hK => ?_)
          simp only [List.getElem_toArray, List.getElem_cons_zero, List.getElem_cons_succ]
          go_simp
          go_wp2_with fail
          refine (M3.out _ hb).mono ?_
          rintro _ Wc ⟨rfl, hx⟩
          go_wp2_with fail
          have hc := hb.trans (hx.mono hb.size)
          clear hx
          have Shc := hSm _ hc
          refine hK _ _ (fun _ => Shc) ?_
          clear hK
          try simp only [Act.put, List.setIfInBounds_toArray, List.set_cons_zero, List.set_cons_succ]
          refine wpAnyC_takeD 22 107 (str D3) rfl rfl rfl (by kernel_rfl) (by kernel_rfl) (by kernel_rfl) (by kernel_rfl) (fun _ _ _ h => h) (fun w5 hw5 => ?_) Shc ?_
          · skip
            simp only [List.getElem_toArray, List.getElem_cons_zero, List.getElem_cons_succ]
            go_simp
          try simp only [Act.put, List.setIfInBounds_toArray, List.set_cons_zero, List.set_cons_succ]
          refine wpAnyC_step (k := 23) rfl (by kernel_rfl) (fun K hK => ?_)
          simp only [List.getElem_toArray, List.getElem_cons_zero, List.getElem_cons_succ]
          go_simp
          refine hK _ _ (fun h => absurd (of_decide_eq_true h) (by decide)) ?_
          clear hK
          refine wpAnyC_done (by kernel_rfl) ?_
          clear hS0 hSm hSb Sha Shb Shc
          have hW8 := HW.out.below hc
          have HW8 := Lib.hid hW8
          clear hW8 ha hb hc u2 c0 c1 c2 c3 ta q1 q2 q3 M1 M2 M3 HW
          go_wp2
          go_roundw
          case rel => first
            | exact ⟨i + 1, by omega, by rw [Hdt.out], by go_num, HW8.out⟩
            | ((repeat apply Exists.intro)
               refine ⟨⟨i + 1, by omega, ?_, ?_, HW8.out⟩, rfl⟩
               · rw [Hdt.out]
               · go_num)
          case measure => simp [intOf]; omega
        · skip
          have hin : i = fs.length := by omega
          subst hin
          obtain ⟨D, hD⟩ : ∃ D, dirA (at'.take fs.length) (fs.take fs.length) = D := ⟨_, rfl⟩
          have hdlen := dirA_tlen at' fs Htag.out fs.length
          rw [hD] at hdlen ⊢
          have hDD : dirA at' fs = D := by rw [← hD, List.take_length, List.take_of_length_le (by rw [Hla.out]; exact Nat.le_refl _)]
          have HDD := Lib.hid hDD
          have szD := size_str D
          have szd := size_str data
          have j0 : decide ((fs.length : Int) < (fs.length : Int)) = false := by simp
          have HW := Lib.hid hW
          clear hW hD hDD hlt hi
          obtain ⟨Wr, hWr⟩ : ∃ W, W = wr := ⟨_, rfl⟩
          subst hWr
          obtain ⟨u0, u1, -⟩ := HW.out.boxes
          obtain ⟨T, hT⟩ : ∃ T, 25 + D.length + data.length + 1 = T := ⟨_, rfl⟩
          obtain ⟨B5, hB5⟩ : ∃ B, 25 + D.length = B := ⟨_, rfl⟩
          have y1 := digsN_len 5 T
          have y2 := digsN_len 5 B5
          have hP : layM 99 ⟨rk, rl, fs⟩ D data = layM 99 ⟨rk, rl, fs⟩ D data := rfl
          revert hP
          conv => lhs; rhs; unfold layM
          simp only
          rw [hT, hB5]
          intro hP
          have s1 := add_str (digsN T 5) ([99]) (by (try simp only [List.length_cons, List.length_nil]); omega)
          obtain ⟨P1, hP1⟩ : ∃ P, digsN T 5 ++ [99] = P := ⟨_, rfl⟩
          have p1 : P1.length ≤ 30 := by rw [← hP1, List.length_append]; (try simp only [List.length_cons, List.length_nil]); omega
          rw [hP1] at s1 hP
          clear hP1
          have s2 := add_str (P1) ([rk, rl]) (by (try simp only [List.length_cons, List.length_nil]); omega)
          obtain ⟨P2, hP2⟩ : ∃ P, P1 ++ [rk, rl] = P := ⟨_, rfl⟩
          have p2 : P2.length ≤ 40 := by rw [← hP2, List.length_append]; (try simp only [List.length_cons, List.length_nil]); omega
          rw [hP2] at s2 hP
          clear hP2
          have s3 := add_str (P2) ([99]) (by (try simp only [List.length_cons, List.length_nil]); omega)
          obtain ⟨P3, hP3⟩ : ∃ P, P2 ++ [99] = P := ⟨_, rfl⟩
          have p3 : P3.length ≤ 50 := by rw [← hP3, List.length_append]; (try simp only [List.length_cons, List.length_nil]); omega
          rw [hP3] at s3 hP
          clear hP3
          have s4 := add_str (P3) ([97, 50, 50]) (by (try simp only [List.length_cons, List.length_nil]); omega)
          obtain ⟨P4, hP4⟩ : ∃ P, P3 ++ [97, 50, 50] = P := ⟨_, rfl⟩
          have p4 : P4.length ≤ 60 := by rw [← hP4, List.length_append]; (try simp only [List.length_cons, List.length_nil]); omega
          rw [hP4] at s4 hP
          clear hP4
          have s5 := add_str (P4) (digsN B5 5) (by (try simp only [List.length_cons, List.length_nil]); omega)
          obtain ⟨P5, hP5⟩ : ∃ P, P4 ++ digsN B5 5 = P := ⟨_, rfl⟩
          have p5 : P5.length ≤ 70 := by rw [← hP5, List.length_append]; (try simp only [List.length_cons, List.length_nil]); omega
          rw [hP5] at s5 hP
          clear hP5
          have s6 := add_str (P5) ([99]) (by (try simp only [List.length_cons, List.length_nil]); omega)
          obtain ⟨P6, hP6⟩ : ∃ P, P5 ++ [99] = P := ⟨_, rfl⟩
          have p6 : P6.length ≤ 80 := by rw [← hP6, List.length_append]; (try simp only [List.length_cons, List.length_nil]); omega
          rw [hP6] at s6 hP
          clear hP6
          have s7 := add_str (P6) ([120]) (by (try simp only [List.length_cons, List.length_nil]); omega)
          obtain ⟨P7, hP7⟩ : ∃ P, P6 ++ [120] = P := ⟨_, rfl⟩
          have p7 : P7.length ≤ 90 := by rw [← hP7, List.length_append]; (try simp only [List.length_cons, List.length_nil]); omega
          rw [hP7] at s7 hP
          clear hP7
          have s8 := add_str (P7) ([99]) (by (try simp only [List.length_cons, List.length_nil]); omega)
          obtain ⟨P8, hP8⟩ : ∃ P, P7 ++ [99] = P := ⟨_, rfl⟩
          have p8 : P8.length ≤ 100 := by rw [← hP8, List.length_append]; (try simp only [List.length_cons, List.length_nil]); omega
          rw [hP8] at s8 hP
          clear hP8
          have s9 := add_str (P8) ([52, 53, 48, 48]) (by (try simp only [List.length_cons, List.length_nil]); omega)
          obtain ⟨P9, hP9⟩ : ∃ P, P8 ++ [52, 53, 48, 48] = P := ⟨_, rfl⟩
          have p9 : P9.length ≤ 110 := by rw [← hP9, List.length_append]; (try simp only [List.length_cons, List.length_nil]); omega
          rw [hP9] at s9 hP
          clear hP9
          have s10 := add_str (P9) (D) (by (try simp only [List.length_cons, List.length_nil]); omega)
          obtain ⟨P10, hP10⟩ : ∃ P, P9 ++ D = P := ⟨_, rfl⟩
          have p10 : P10.length ≤ 6120 := by rw [← hP10, List.length_append]; (try simp only [List.length_cons, List.length_nil]); omega
          rw [hP10] at s10 hP
          clear hP10
          have s11 := add_str (P10) ([30]) (by (try simp only [List.length_cons, List.length_nil]); omega)
          obtain ⟨P11, hP11⟩ : ∃ P, P10 ++ [30] = P := ⟨_, rfl⟩
          have p11 : P11.length ≤ 6130 := by rw [← hP11, List.length_append]; (try simp only [List.length_cons, List.length_nil]); omega
          rw [hP11] at s11 hP
          clear hP11
          have s12 := add_str (P11) (data) (by (try simp only [List.length_cons, List.length_nil]); omega)
          obtain ⟨P12, hP12⟩ : ∃ P, P11 ++ data = P := ⟨_, rfl⟩
          have p12 : P12.length ≤ 16140 := by rw [← hP12, List.length_append]; (try simp only [List.length_cons, List.length_nil]); omega
          rw [hP12] at s12 hP
          clear hP12
          have s13 := add_str (P12) ([29]) (by (try simp only [List.length_cons, List.length_nil]); omega)
          obtain ⟨P13, hP13⟩ : ∃ P, P12 ++ [29] = P := ⟨_, rfl⟩
          have p13 : P13.length ≤ 16150 := by rw [← hP13, List.length_append]; (try simp only [List.length_cons, List.length_nil]); omega
          rw [hP13] at s13 hP
          clear hP13
          have HP := Lib.hid hP
          have M1 := Lib.hid (fun W (h : Below Wr.heap.size Wr W) => fixI 5 T (25 + (D.length : Int) + (data.length : Int) + 1) (by decide) (by omega) (by omega) Wr.heap.size Wr W h h.size)
          have M2 := Lib.hid (fun W (h : Below Wr.heap.size Wr W) => fixI 5 B5 (25 + (D.length : Int)) (by decide) (by omega) (by omega) Wr.heap.size Wr W h h.size)
          have wr1 : IntKind.i64.wrap (25 + (D.length : Int)) = 25 + (D.length : Int) := wrapI _ (by omega) (by omega)
          have wr2 : IntKind.i64.wrap (25 + (D.length : Int) + (data.length : Int)) = 25 + (D.length : Int) + (data.length : Int) := wrapI _ (by omega) (by omega)
          have wr3 : IntKind.i64.wrap (25 + (D.length : Int) + (data.length : Int) + 1) = 25 + (D.length : Int) + (data.length : Int) + 1 := wrapI _ (by omega) (by omega)
          clear hP p1 p2 p3 p4 p5 p6 p7 p8 p9 p10 p11 p12 p13 y1 y2 hT hB5
          go_upto_region 27 with fail
          obtain ⟨S, hSd⟩ : ∃ S : World → Prop, S = (fun w' => Below Wr.heap.size Wr w') := ⟨_, rfl⟩
          have hSb : ∀ w', S w' → Below Wr.heap.size Wr w' := fun w' h => by rw [hSd] at h; exact h
          have hSm : ∀ w5 : World, Below Wr.heap.size Wr w5 → S w5 := fun w5 h => by rw [hSd]; exact h
          have hS0 : S Wr.drew := hSm _ (Below.refl _ _).drew
          clear hSd
          refine wp_region_C 34 34 S rfl rfl ?_
          refine wpAnyC_takeD 0 120 (.int .i64 (25 + (D.length : Int))) rfl rfl rfl (by kernel_rfl) (by kernel_rfl) (by kernel_rfl) (by kernel_rfl) (fun _ _ _ h => h) (fun w5 hw5 => ?_) hS0 ?_
          · skip
            simp only [List.getElem_toArray, List.getElem_cons_zero, List.getElem_cons_succ]
            go_simp
          try simp only [Act.put, List.setIfInBounds_toArray, List.set_cons_zero, List.set_cons_succ]
          refine wpAnyC_takeD 1 121 (str data) rfl rfl rfl (by kernel_rfl) (by kernel_rfl) (by kernel_rfl) (by kernel_rfl) (fun _ _ _ h => h) (fun w5 hw5 => ?_) hS0 ?_
          · skip
            simp only [List.getElem_toArray, List.getElem_cons_zero, List.getElem_cons_succ]
            go_simp
          try simp only [Act.put, List.setIfInBounds_toArray, List.set_cons_zero, List.set_cons_succ]
          refine wpAnyC_takeD 2 122 (.int .i64 (data.length : Nat)) rfl rfl rfl (by kernel_rfl) (by kernel_rfl) (by kernel_rfl) (by kernel_rfl) (fun _ _ _ h => h) (fun w5 hw5 => ?_) hS0 ?_
          · skip
            simp only [List.getElem_toArray, List.getElem_cons_zero, List.getElem_cons_succ]
            go_simp
          try simp only [Act.put, List.setIfInBounds_toArray, List.set_cons_zero, List.set_cons_succ]
          refine wpAnyC_takeD 3 123 (.int .i64 (25 + (D.length : Int) + (data.length : Int))) rfl rfl rfl (by kernel_rfl) (by kernel_rfl) (by kernel_rfl) (by kernel_rfl) (fun _ _ _ h => h) (fun w5 hw5 => ?_) hS0 ?_
          · skip
            simp only [List.getElem_toArray, List.getElem_cons_zero, List.getElem_cons_succ]
            go_simp
          try simp only [Act.put, List.setIfInBounds_toArray, List.set_cons_zero, List.set_cons_succ]
          refine wpAnyC_takeD 4 124 (.int .i64 (25 + (D.length : Int) + (data.length : Int) + 1)) rfl rfl rfl (by kernel_rfl) (by kernel_rfl) (by kernel_rfl) (by kernel_rfl) (fun _ _ _ h => h) (fun w5 hw5 => ?_) hS0 ?_
          · skip
            simp only [List.getElem_toArray, List.getElem_cons_zero, List.getElem_cons_succ]
            go_simp
          try simp only [Act.put, List.setIfInBounds_toArray, List.set_cons_zero, List.set_cons_succ]
          refine wpAnyC_takeD 6 126 (str [99]) rfl rfl rfl (by kernel_rfl) (by kernel_rfl) (by kernel_rfl) (by kernel_rfl) (fun _ _ _ h => h) (fun w5 hw5 => ?_) hS0 ?_
          · skip
            simp only [List.getElem_toArray, List.getElem_cons_zero, List.getElem_cons_succ]
            go_simp
          try simp only [Act.put, List.setIfInBounds_toArray, List.set_cons_zero, List.set_cons_succ]
          refine wpAnyC_takeD 8 128 (.pointer (some ⟨w.heap.size, 0, none⟩)) rfl rfl rfl (by kernel_rfl) (by kernel_rfl) (by kernel_rfl) (by kernel_rfl) (fun _ _ _ h => h) (fun w5 hw5 => ?_) hS0 ?_
          · skip
            simp only [List.getElem_toArray, List.getElem_cons_zero, List.getElem_cons_succ]
            go_simp
          try simp only [Act.put, List.setIfInBounds_toArray, List.set_cons_zero, List.set_cons_succ]
          refine wpAnyC_takeD 9 129 (.int .u8 (rk.toNat : Int)) rfl rfl rfl (by kernel_rfl) (by kernel_rfl) (by kernel_rfl) (by kernel_rfl) (fun _ _ _ h => h) (fun w5 hw5 => ?_) hS0 ?_
          · have hq := hSb w5 hw5; have z0 := cell_below hq (Nat.le_refl _) u0
            simp only [List.getElem_toArray, List.getElem_cons_zero, List.getElem_cons_succ]
            go_simp
          try simp only [Act.put, List.setIfInBounds_toArray, List.set_cons_zero, List.set_cons_succ]
          refine wpAnyC_takeD 10 130 (.pointer (some ⟨w.heap.size, 1, none⟩)) rfl rfl rfl (by kernel_rfl) (by kernel_rfl) (by kernel_rfl) (by kernel_rfl) (fun _ _ _ h => h) (fun w5 hw5 => ?_) hS0 ?_
          · skip
            simp only [List.getElem_toArray, List.getElem_cons_zero, List.getElem_cons_succ]
            go_simp
          try simp only [Act.put, List.setIfInBounds_toArray, List.set_cons_zero, List.set_cons_succ]
          refine wpAnyC_takeD 11 131 (.int .u8 (rl.toNat : Int)) rfl rfl rfl (by kernel_rfl) (by kernel_rfl) (by kernel_rfl) (by kernel_rfl) (fun _ _ _ h => h) (fun w5 hw5 => ?_) hS0 ?_
          · have hq := hSb w5 hw5; have z0 := cell_below hq (Nat.le_refl _) u1
            simp only [List.getElem_toArray, List.getElem_cons_zero, List.getElem_cons_succ]
            go_simp
          try simp only [Act.put, List.setIfInBounds_toArray, List.set_cons_zero, List.set_cons_succ]
          refine wpAnyC_takeD 15 135 (str [99]) rfl rfl rfl (by kernel_rfl) (by kernel_rfl) (by kernel_rfl) (by kernel_rfl) (fun _ _ _ h => h) (fun w5 hw5 => ?_) hS0 ?_
          · skip
            simp only [List.getElem_toArray, List.getElem_cons_zero, List.getElem_cons_succ]
            go_simp
          try simp only [Act.put, List.setIfInBounds_toArray, List.set_cons_zero, List.set_cons_succ]
          refine wpAnyC_takeD 18 138 (.int .i64 (25 + (D.length : Int))) rfl rfl rfl (by kernel_rfl) (by kernel_rfl) (by kernel_rfl) (by kernel_rfl) (fun _ _ _ h => h) (fun w5 hw5 => ?_) hS0 ?_
          · skip
            simp only [List.getElem_toArray, List.getElem_cons_zero, List.getElem_cons_succ]
            go_simp
          try simp only [Act.put, List.setIfInBounds_toArray, List.set_cons_zero, List.set_cons_succ]
          refine wpAnyC_takeD 21 141 (str [99]) rfl rfl rfl (by kernel_rfl) (by kernel_rfl) (by kernel_rfl) (by kernel_rfl) (fun _ _ _ h => h) (fun w5 hw5 => ?_) hS0 ?_
          · skip
            simp only [List.getElem_toArray, List.getElem_cons_zero, List.getElem_cons_succ]
            go_simp
          try simp only [Act.put, List.setIfInBounds_toArray, List.set_cons_zero, List.set_cons_succ]
          refine wpAnyC_takeD 24 144 (str [99]) rfl rfl rfl (by kernel_rfl) (by kernel_rfl) (by kernel_rfl) (by kernel_rfl) (fun _ _ _ h => h) (fun w5 hw5 => ?_) hS0 ?_
          · skip
            simp only [List.getElem_toArray, List.getElem_cons_zero, List.getElem_cons_succ]
            go_simp
          try simp only [Act.put, List.setIfInBounds_toArray, List.set_cons_zero, List.set_cons_succ]
          refine wpAnyC_takeD 27 147 (str D) rfl rfl rfl (by kernel_rfl) (by kernel_rfl) (by kernel_rfl) (by kernel_rfl) (fun _ _ _ h => h) (fun w5 hw5 => ?_) hS0 ?_
          · skip
            simp only [List.getElem_toArray, List.getElem_cons_zero, List.getElem_cons_succ]
            go_simp
          try simp only [Act.put, List.setIfInBounds_toArray, List.set_cons_zero, List.set_cons_succ]
          refine wpAnyC_takeD 30 150 (str data) rfl rfl rfl (by kernel_rfl) (by kernel_rfl) (by kernel_rfl) (by kernel_rfl) (fun _ _ _ h => h) (fun w5 hw5 => ?_) hS0 ?_
          · skip
            simp only [List.getElem_toArray, List.getElem_cons_zero, List.getElem_cons_succ]
            go_simp
          try simp only [Act.put, List.setIfInBounds_toArray, List.set_cons_zero, List.set_cons_succ]
          refine wpAnyC_two (i := 5) (j := 12) rfl rfl (by kernel_rfl) (fun K hK => ?_) (fun K hK => ?_)
          · skip
            simp only [List.getElem_toArray, List.getElem_cons_zero, List.getElem_cons_succ]
            go_simp
            go_wp2_with fail
            refine (M1.out _ (hSb _ hS0)).mono ?_
            rintro _ WM1 ⟨rfl, hbM1, hBM1⟩
            go_wp2_with fail
            have hTM1 := hSm _ hbM1
            refine hK _ _ (fun _ => hTM1) ?_
            clear hK
            try simp only [Act.put, List.setIfInBounds_toArray, List.set_cons_zero, List.set_cons_succ]
            refine wpAnyC_takeD 7 127 (str P1) rfl rfl rfl (by kernel_rfl) (by kernel_rfl) (by kernel_rfl) (by kernel_rfl) (fun _ _ _ h => h) (fun w5 hw5 => ?_) hTM1 ?_
            · skip
              simp only [List.getElem_toArray, List.getElem_cons_zero, List.getElem_cons_succ]
              go_simp
            try simp only [Act.put, List.setIfInBounds_toArray, List.set_cons_zero, List.set_cons_succ]
            refine wpAnyC_two (i := 12) (j := 19) rfl rfl (by kernel_rfl) (fun K hK => ?_) (fun K hK => ?_)
            · skip
              simp only [List.getElem_toArray, List.getElem_cons_zero, List.getElem_cons_succ]
              go_simp
              have hbA : Below Wr.heap.size Wr (WM1.alloc (.cells #[.int .u8 (rk.toNat : Int), .int .u8 (rl.toNat : Int)] 5)) := (hSb _ hTM1).alloc (hSb _ hTM1).size _
              have hcA := new_at WM1 (.cells #[.int .u8 (rk.toNat : Int), .int .u8 (rl.toNat : Int)] 5)
              obtain ⟨WA, hWA⟩ : ∃ WA, WM1.alloc (.cells #[.int .u8 (rk.toNat : Int), .int .u8 (rl.toNat : Int)] 5) = WA := ⟨_, rfl⟩
              rw [hWA] at hbA hcA
              rw [hWA]
              obtain ⟨gA, hgA⟩ : ∃ gA, WM1.heap.size = gA := ⟨_, rfl⟩
              have hcell0 : WA.cell? ⟨gA, 0, none⟩ = some (.int .u8 (rk.toNat : Int)) := by rw [← hgA]; exact (by rw [cell_at hcA]; rfl)
              have hcell1 : WA.cell? ⟨gA, 1, none⟩ = some (.int .u8 (rl.toNat : Int)) := by rw [← hgA]; exact (by rw [cell_at hcA]; rfl)
              obtain ⟨S5, hSd5⟩ : ∃ S5 : World → Prop, S5 = (fun w' => S w' ∧ w'.cell? ⟨gA, 0, none⟩ = some (.int .u8 (rk.toNat : Int)) ∧ w'.cell? ⟨gA, 1, none⟩ = some (.int .u8 (rl.toNat : Int))) := ⟨_, rfl⟩
              have hSn : ∀ w5 : World, Below Wr.heap.size Wr w5 → w5.cell? ⟨gA, 0, none⟩ = some (.int .u8 (rk.toNat : Int)) → w5.cell? ⟨gA, 1, none⟩ = some (.int .u8 (rl.toNat : Int)) → S5 w5 := fun w5 h1 h2 h3 => by rw [hSd5]; exact ⟨hSm _ h1, h2, h3⟩
              have hSo : ∀ w', S5 w' → S w' := fun w' h => by rw [hSd5] at h; exact h.1
              have hSc : ∀ w', S5 w' → (convert 42 9 (.slice (some ⟨gA, 0, none⟩) 2 2)).run Tryd.prog w' = .ok (str [rk, rl]) w' := fun w' h => by rw [hSd5] at h; exact conv_2 rk rl w' gA h.2.1 h.2.2
              have hSb5 : ∀ w', S5 w' → Below Wr.heap.size Wr w' := fun w' h => hSb _ (hSo _ h)
              have hTA := hSn _ hbA hcell0 hcell1
              refine hK _ _ (fun _ => hSm _ hbA) ?_
              clear hK hSd5
              refine wpAnyC_strong (S1 := S5) hSo _ _ _ _ ?_
              simp only [hgA]
              clear hWA hgA hcA
              refine wpAnyC_takeD 13 133 (str [rk, rl]) rfl rfl rfl (by kernel_rfl) (by kernel_rfl) (by kernel_rfl) (by kernel_rfl) (fun _ _ _ h => h) (fun w5 hw5 => ?_) hTA ?_
              · have z9 := hSc w5 hw5
                simp only [List.getElem_toArray, List.getElem_cons_zero, List.getElem_cons_succ]
                go_simp
              try simp only [Act.put, List.setIfInBounds_toArray, List.set_cons_zero, List.set_cons_succ]
              refine wpAnyC_takeD 14 134 (str P2) rfl rfl rfl (by kernel_rfl) (by kernel_rfl) (by kernel_rfl) (by kernel_rfl) (fun _ _ _ h => h) (fun w5 hw5 => ?_) hTA ?_
              · skip
                simp only [List.getElem_toArray, List.getElem_cons_zero, List.getElem_cons_succ]
                go_simp
              try simp only [Act.put, List.setIfInBounds_toArray, List.set_cons_zero, List.set_cons_succ]
              refine wpAnyC_takeD 16 136 (str P3) rfl rfl rfl (by kernel_rfl) (by kernel_rfl) (by kernel_rfl) (by kernel_rfl) (fun _ _ _ h => h) (fun w5 hw5 => ?_) hTA ?_
              · skip
                simp only [List.getElem_toArray, List.getElem_cons_zero, List.getElem_cons_succ]
                go_simp
              try simp only [Act.put, List.setIfInBounds_toArray, List.set_cons_zero, List.set_cons_succ]
              refine wpAnyC_takeD 17 137 (str P4) rfl rfl rfl (by kernel_rfl) (by kernel_rfl) (by kernel_rfl) (by kernel_rfl) (fun _ _ _ h => h) (fun w5 hw5 => ?_) hTA ?_
              · skip
                simp only [List.getElem_toArray, List.getElem_cons_zero, List.getElem_cons_succ]
                go_simp
              try simp only [Act.put, List.setIfInBounds_toArray, List.set_cons_zero, List.set_cons_succ]
              refine wpAnyC_step (k := 19) rfl (by kernel_rfl) (fun K hK => ?_)
              simp only [List.getElem_toArray, List.getElem_cons_zero, List.getElem_cons_succ]
              go_simp
              go_wp2_with fail
              refine (M2.out _ (hSb5 _ hTA)).mono ?_
              rintro _ WM2 ⟨rfl, hbM2, hBM2⟩
              go_wp2_with fail
              have hTM2 := hSn _ hbM2 (cell_below hBM2 (Nat.le_refl _) hcell0) (cell_below hBM2 (Nat.le_refl _) hcell1)
              refine hK _ _ (fun _ => hTM2) ?_
              clear hK
              try simp only [Act.put, List.setIfInBounds_toArray, List.set_cons_zero, List.set_cons_succ]
              refine wpAnyC_takeD 20 140 (str P5) rfl rfl rfl (by kernel_rfl) (by kernel_rfl) (by kernel_rfl) (by kernel_rfl) (fun _ _ _ h => h) (fun w5 hw5 => ?_) hTM2 ?_
              · skip
                simp only [List.getElem_toArray, List.getElem_cons_zero, List.getElem_cons_succ]
                go_simp
              try simp only [Act.put, List.setIfInBounds_toArray, List.set_cons_zero, List.set_cons_succ]
              refine wpAnyC_takeD 22 142 (str P6) rfl rfl rfl (by kernel_rfl) (by kernel_rfl) (by kernel_rfl) (by kernel_rfl) (fun _ _ _ h => h) (fun w5 hw5 => ?_) hTM2 ?_
              · skip
                simp only [List.getElem_toArray, List.getElem_cons_zero, List.getElem_cons_succ]
                go_simp
              try simp only [Act.put, List.setIfInBounds_toArray, List.set_cons_zero, List.set_cons_succ]
              refine wpAnyC_takeD 23 143 (str P7) rfl rfl rfl (by kernel_rfl) (by kernel_rfl) (by kernel_rfl) (by kernel_rfl) (fun _ _ _ h => h) (fun w5 hw5 => ?_) hTM2 ?_
              · skip
                simp only [List.getElem_toArray, List.getElem_cons_zero, List.getElem_cons_succ]
                go_simp
              try simp only [Act.put, List.setIfInBounds_toArray, List.set_cons_zero, List.set_cons_succ]
              refine wpAnyC_takeD 25 145 (str P8) rfl rfl rfl (by kernel_rfl) (by kernel_rfl) (by kernel_rfl) (by kernel_rfl) (fun _ _ _ h => h) (fun w5 hw5 => ?_) hTM2 ?_
              · skip
                simp only [List.getElem_toArray, List.getElem_cons_zero, List.getElem_cons_succ]
                go_simp
              try simp only [Act.put, List.setIfInBounds_toArray, List.set_cons_zero, List.set_cons_succ]
              refine wpAnyC_takeD 26 146 (str P9) rfl rfl rfl (by kernel_rfl) (by kernel_rfl) (by kernel_rfl) (by kernel_rfl) (fun _ _ _ h => h) (fun w5 hw5 => ?_) hTM2 ?_
              · skip
                simp only [List.getElem_toArray, List.getElem_cons_zero, List.getElem_cons_succ]
                go_simp
              try simp only [Act.put, List.setIfInBounds_toArray, List.set_cons_zero, List.set_cons_succ]
              refine wpAnyC_takeD 28 148 (str P10) rfl rfl rfl (by kernel_rfl) (by kernel_rfl) (by kernel_rfl) (by kernel_rfl) (fun _ _ _ h => h) (fun w5 hw5 => ?_) hTM2 ?_
              · skip
                simp only [List.getElem_toArray, List.getElem_cons_zero, List.getElem_cons_succ]
                go_simp
              try simp only [Act.put, List.setIfInBounds_toArray, List.set_cons_zero, List.set_cons_succ]
              refine wpAnyC_takeD 29 149 (str P11) rfl rfl rfl (by kernel_rfl) (by kernel_rfl) (by kernel_rfl) (by kernel_rfl) (fun _ _ _ h => h) (fun w5 hw5 => ?_) hTM2 ?_
              · skip
                simp only [List.getElem_toArray, List.getElem_cons_zero, List.getElem_cons_succ]
                go_simp
              try simp only [Act.put, List.setIfInBounds_toArray, List.set_cons_zero, List.set_cons_succ]
              refine wpAnyC_takeD 31 151 (str P12) rfl rfl rfl (by kernel_rfl) (by kernel_rfl) (by kernel_rfl) (by kernel_rfl) (fun _ _ _ h => h) (fun w5 hw5 => ?_) hTM2 ?_
              · skip
                simp only [List.getElem_toArray, List.getElem_cons_zero, List.getElem_cons_succ]
                go_simp
              try simp only [Act.put, List.setIfInBounds_toArray, List.set_cons_zero, List.set_cons_succ]
              refine wpAnyC_takeD 32 152 (str P13) rfl rfl rfl (by kernel_rfl) (by kernel_rfl) (by kernel_rfl) (by kernel_rfl) (fun _ _ _ h => h) (fun w5 hw5 => ?_) hTM2 ?_
              · skip
                simp only [List.getElem_toArray, List.getElem_cons_zero, List.getElem_cons_succ]
                go_simp
              try simp only [Act.put, List.setIfInBounds_toArray, List.set_cons_zero, List.set_cons_succ]
              refine wpAnyC_takeD 33 4 (str P13) rfl rfl rfl (by kernel_rfl) (by kernel_rfl) (by kernel_rfl) (by kernel_rfl) (fun _ _ _ h => h) (fun w5 hw5 => ?_) hTM2 ?_
              · skip
                simp only [List.getElem_toArray, List.getElem_cons_zero, List.getElem_cons_succ]
                go_simp
              try simp only [Act.put, List.setIfInBounds_toArray, List.set_cons_zero, List.set_cons_succ]
              refine wpAnyC_done (by kernel_rfl) ?_
              have Hbz := Lib.hid (HW.out.bel.trans ((hbM2).mono HW.out.bel.size))
              clear hS0 hSb hSm hSn hSo hSc hSb5
              go_wp2
              go_ret
              exact ⟨99, at', data, by show Ending.returned (str P13) = _; rw [HDD.out, HP.out], Hlay.out.1, Hlay.out.2.1, Hlay.out.2.2, Hbz.out⟩
            · skip
              simp only [List.getElem_toArray, List.getElem_cons_zero, List.getElem_cons_succ]
              go_simp
              go_wp2_with fail
              refine (M2.out _ (hSb _ hTM1)).mono ?_
              rintro _ WM2 ⟨rfl, hbM2, hBM2⟩
              go_wp2_with fail
              have hTM2 := hSm _ hbM2
              refine hK _ _ (fun _ => hTM2) ?_
              clear hK
              try simp only [Act.put, List.setIfInBounds_toArray, List.set_cons_zero, List.set_cons_succ]
              refine wpAnyC_step (k := 12) rfl (by kernel_rfl) (fun K hK => ?_)
              simp only [List.getElem_toArray, List.getElem_cons_zero, List.getElem_cons_succ]
              go_simp
              have hbA : Below Wr.heap.size Wr (WM2.alloc (.cells #[.int .u8 (rk.toNat : Int), .int .u8 (rl.toNat : Int)] 5)) := (hSb _ hTM2).alloc (hSb _ hTM2).size _
              have hcA := new_at WM2 (.cells #[.int .u8 (rk.toNat : Int), .int .u8 (rl.toNat : Int)] 5)
              obtain ⟨WA, hWA⟩ : ∃ WA, WM2.alloc (.cells #[.int .u8 (rk.toNat : Int), .int .u8 (rl.toNat : Int)] 5) = WA := ⟨_, rfl⟩
              rw [hWA] at hbA hcA
              rw [hWA]
              obtain ⟨gA, hgA⟩ : ∃ gA, WM2.heap.size = gA := ⟨_, rfl⟩
              have hcell0 : WA.cell? ⟨gA, 0, none⟩ = some (.int .u8 (rk.toNat : Int)) := by rw [← hgA]; exact (by rw [cell_at hcA]; rfl)
              have hcell1 : WA.cell? ⟨gA, 1, none⟩ = some (.int .u8 (rl.toNat : Int)) := by rw [← hgA]; exact (by rw [cell_at hcA]; rfl)
              obtain ⟨S5, hSd5⟩ : ∃ S5 : World → Prop, S5 = (fun w' => S w' ∧ w'.cell? ⟨gA, 0, none⟩ = some (.int .u8 (rk.toNat : Int)) ∧ w'.cell? ⟨gA, 1, none⟩ = some (.int .u8 (rl.toNat : Int))) := ⟨_, rfl⟩
              have hSn : ∀ w5 : World, Below Wr.heap.size Wr w5 → w5.cell? ⟨gA, 0, none⟩ = some (.int .u8 (rk.toNat : Int)) → w5.cell? ⟨gA, 1, none⟩ = some (.int .u8 (rl.toNat : Int)) → S5 w5 := fun w5 h1 h2 h3 => by rw [hSd5]; exact ⟨hSm _ h1, h2, h3⟩
              have hSo : ∀ w', S5 w' → S w' := fun w' h => by rw [hSd5] at h; exact h.1
              have hSc : ∀ w', S5 w' → (convert 42 9 (.slice (some ⟨gA, 0, none⟩) 2 2)).run Tryd.prog w' = .ok (str [rk, rl]) w' := fun w' h => by rw [hSd5] at h; exact conv_2 rk rl w' gA h.2.1 h.2.2
              have hSb5 : ∀ w', S5 w' → Below Wr.heap.size Wr w' := fun w' h => hSb _ (hSo _ h)
              have hTA := hSn _ hbA hcell0 hcell1
              refine hK _ _ (fun _ => hSm _ hbA) ?_
              clear hK hSd5
              refine wpAnyC_strong (S1 := S5) hSo _ _ _ _ ?_
              simp only [hgA]
              clear hWA hgA hcA
              refine wpAnyC_takeD 13 133 (str [rk, rl]) rfl rfl rfl (by kernel_rfl) (by kernel_rfl) (by kernel_rfl) (by kernel_rfl) (fun _ _ _ h => h) (fun w5 hw5 => ?_) hTA ?_
              · have z9 := hSc w5 hw5
                simp only [List.getElem_toArray, List.getElem_cons_zero, List.getElem_cons_succ]
                go_simp
              try simp only [Act.put, List.setIfInBounds_toArray, List.set_cons_zero, List.set_cons_succ]
              refine wpAnyC_takeD 14 134 (str P2) rfl rfl rfl (by kernel_rfl) (by kernel_rfl) (by kernel_rfl) (by kernel_rfl) (fun _ _ _ h => h) (fun w5 hw5 => ?_) hTA ?_
              · skip
                simp only [List.getElem_toArray, List.getElem_cons_zero, List.getElem_cons_succ]
                go_simp
              try simp only [Act.put, List.setIfInBounds_toArray, List.set_cons_zero, List.set_cons_succ]
              refine wpAnyC_takeD 16 136 (str P3) rfl rfl rfl (by kernel_rfl) (by kernel_rfl) (by kernel_rfl) (by kernel_rfl) (fun _ _ _ h => h) (fun w5 hw5 => ?_) hTA ?_
              · skip
                simp only [List.getElem_toArray, List.getElem_cons_zero, List.getElem_cons_succ]
                go_simp
              try simp only [Act.put, List.setIfInBounds_toArray, List.set_cons_zero, List.set_cons_succ]
              refine wpAnyC_takeD 17 137 (str P4) rfl rfl rfl (by kernel_rfl) (by kernel_rfl) (by kernel_rfl) (by kernel_rfl) (fun _ _ _ h => h) (fun w5 hw5 => ?_) hTA ?_
              · skip
                simp only [List.getElem_toArray, List.getElem_cons_zero, List.getElem_cons_succ]
                go_simp
              try simp only [Act.put, List.setIfInBounds_toArray, List.set_cons_zero, List.set_cons_succ]
              refine wpAnyC_takeD 20 140 (str P5) rfl rfl rfl (by kernel_rfl) (by kernel_rfl) (by kernel_rfl) (by kernel_rfl) (fun _ _ _ h => h) (fun w5 hw5 => ?_) hTA ?_
              · skip
                simp only [List.getElem_toArray, List.getElem_cons_zero, List.getElem_cons_succ]
                go_simp
              try simp only [Act.put, List.setIfInBounds_toArray, List.set_cons_zero, List.set_cons_succ]
              refine wpAnyC_takeD 22 142 (str P6) rfl rfl rfl (by kernel_rfl) (by kernel_rfl) (by kernel_rfl) (by kernel_rfl) (fun _ _ _ h => h) (fun w5 hw5 => ?_) hTA ?_
              · skip
                simp only [List.getElem_toArray, List.getElem_cons_zero, List.getElem_cons_succ]
                go_simp
              try simp only [Act.put, List.setIfInBounds_toArray, List.set_cons_zero, List.set_cons_succ]
              refine wpAnyC_takeD 23 143 (str P7) rfl rfl rfl (by kernel_rfl) (by kernel_rfl) (by kernel_rfl) (by kernel_rfl) (fun _ _ _ h => h) (fun w5 hw5 => ?_) hTA ?_
              · skip
                simp only [List.getElem_toArray, List.getElem_cons_zero, List.getElem_cons_succ]
                go_simp
              try simp only [Act.put, List.setIfInBounds_toArray, List.set_cons_zero, List.set_cons_succ]
              refine wpAnyC_takeD 25 145 (str P8) rfl rfl rfl (by kernel_rfl) (by kernel_rfl) (by kernel_rfl) (by kernel_rfl) (fun _ _ _ h => h) (fun w5 hw5 => ?_) hTA ?_
              · skip
                simp only [List.getElem_toArray, List.getElem_cons_zero, List.getElem_cons_succ]
                go_simp
              try simp only [Act.put, List.setIfInBounds_toArray, List.set_cons_zero, List.set_cons_succ]
              refine wpAnyC_takeD 26 146 (str P9) rfl rfl rfl (by kernel_rfl) (by kernel_rfl) (by kernel_rfl) (by kernel_rfl) (fun _ _ _ h => h) (fun w5 hw5 => ?_) hTA ?_
              · skip
                simp only [List.getElem_toArray, List.getElem_cons_zero, List.getElem_cons_succ]
                go_simp
              try simp only [Act.put, List.setIfInBounds_toArray, List.set_cons_zero, List.set_cons_succ]
              refine wpAnyC_takeD 28 148 (str P10) rfl rfl rfl (by kernel_rfl) (by kernel_rfl) (by kernel_rfl) (by kernel_rfl) (fun _ _ _ h => h) (fun w5 hw5 => ?_) hTA ?_
              · skip
                simp only [List.getElem_toArray, List.getElem_cons_zero, List.getElem_cons_succ]
                go_simp
              try simp only [Act.put, List.setIfInBounds_toArray, List.set_cons_zero, List.set_cons_succ]
              refine wpAnyC_takeD 29 149 (str P11) rfl rfl rfl (by kernel_rfl) (by kernel_rfl) (by kernel_rfl) (by kernel_rfl) (fun _ _ _ h => h) (fun w5 hw5 => ?_) hTA ?_
              · skip
                simp only [List.getElem_toArray, List.getElem_cons_zero, List.getElem_cons_succ]
                go_simp
              try simp only [Act.put, List.setIfInBounds_toArray, List.set_cons_zero, List.set_cons_succ]
              refine wpAnyC_takeD 31 151 (str P12) rfl rfl rfl (by kernel_rfl) (by kernel_rfl) (by kernel_rfl) (by kernel_rfl) (fun _ _ _ h => h) (fun w5 hw5 => ?_) hTA ?_
              · skip
                simp only [List.getElem_toArray, List.getElem_cons_zero, List.getElem_cons_succ]
                go_simp
              try simp only [Act.put, List.setIfInBounds_toArray, List.set_cons_zero, List.set_cons_succ]
              refine wpAnyC_takeD 32 152 (str P13) rfl rfl rfl (by kernel_rfl) (by kernel_rfl) (by kernel_rfl) (by kernel_rfl) (fun _ _ _ h => h) (fun w5 hw5 => ?_) hTA ?_
              · skip
                simp only [List.getElem_toArray, List.getElem_cons_zero, List.getElem_cons_succ]
                go_simp
              try simp only [Act.put, List.setIfInBounds_toArray, List.set_cons_zero, List.set_cons_succ]
              refine wpAnyC_takeD 33 4 (str P13) rfl rfl rfl (by kernel_rfl) (by kernel_rfl) (by kernel_rfl) (by kernel_rfl) (fun _ _ _ h => h) (fun w5 hw5 => ?_) hTA ?_
              · skip
                simp only [List.getElem_toArray, List.getElem_cons_zero, List.getElem_cons_succ]
                go_simp
              try simp only [Act.put, List.setIfInBounds_toArray, List.set_cons_zero, List.set_cons_succ]
              refine wpAnyC_done (by kernel_rfl) ?_
              have Hbz := Lib.hid (HW.out.bel.trans ((hbA).mono HW.out.bel.size))
              clear hS0 hSb hSm hSn hSo hSc hSb5
              go_wp2
              go_ret
              exact ⟨99, at', data, by show Ending.returned (str P13) = _; rw [HDD.out, HP.out], Hlay.out.1, Hlay.out.2.1, Hlay.out.2.2, Hbz.out⟩
          · skip
            simp only [List.getElem_toArray, List.getElem_cons_zero, List.getElem_cons_succ]
            go_simp
            have hbA : Below Wr.heap.size Wr (Wr.alloc (.cells #[.int .u8 (rk.toNat : Int), .int .u8 (rl.toNat : Int)] 5)).drew := ((Below.refl _ _).alloc (Nat.le_refl _) _).drew
            have hcA : (Wr.alloc (.cells #[.int .u8 (rk.toNat : Int), .int .u8 (rl.toNat : Int)] 5)).drew.heap[Wr.heap.size]? = _ := new_at Wr (.cells #[.int .u8 (rk.toNat : Int), .int .u8 (rl.toNat : Int)] 5)
            obtain ⟨WA, hWA⟩ : ∃ WA, (Wr.alloc (.cells #[.int .u8 (rk.toNat : Int), .int .u8 (rl.toNat : Int)] 5)).drew = WA := ⟨_, rfl⟩
            rw [hWA] at hbA hcA
            rw [hWA]
            obtain ⟨gA, hgA⟩ : ∃ gA, Wr.heap.size = gA := ⟨_, rfl⟩
            have hcell0 : WA.cell? ⟨gA, 0, none⟩ = some (.int .u8 (rk.toNat : Int)) := by rw [← hgA]; exact (by rw [cell_at hcA]; rfl)
            have hcell1 : WA.cell? ⟨gA, 1, none⟩ = some (.int .u8 (rl.toNat : Int)) := by rw [← hgA]; exact (by rw [cell_at hcA]; rfl)
            obtain ⟨S5, hSd5⟩ : ∃ S5 : World → Prop, S5 = (fun w' => S w' ∧ w'.cell? ⟨gA, 0, none⟩ = some (.int .u8 (rk.toNat : Int)) ∧ w'.cell? ⟨gA, 1, none⟩ = some (.int .u8 (rl.toNat : Int))) := ⟨_, rfl⟩
            have hSn : ∀ w5 : World, Below Wr.heap.size Wr w5 → w5.cell? ⟨gA, 0, none⟩ = some (.int .u8 (rk.toNat : Int)) → w5.cell? ⟨gA, 1, none⟩ = some (.int .u8 (rl.toNat : Int)) → S5 w5 := fun w5 h1 h2 h3 => by rw [hSd5]; exact ⟨hSm _ h1, h2, h3⟩
            have hSo : ∀ w', S5 w' → S w' := fun w' h => by rw [hSd5] at h; exact h.1
            have hSc : ∀ w', S5 w' → (convert 42 9 (.slice (some ⟨gA, 0, none⟩) 2 2)).run Tryd.prog w' = .ok (str [rk, rl]) w' := fun w' h => by rw [hSd5] at h; exact conv_2 rk rl w' gA h.2.1 h.2.2
            have hSb5 : ∀ w', S5 w' → Below Wr.heap.size Wr w' := fun w' h => hSb _ (hSo _ h)
            have hTA := hSn _ hbA hcell0 hcell1
            refine hK _ _ (fun _ => hSm _ hbA) ?_
            clear hK hSd5
            refine wpAnyC_strong (S1 := S5) hSo _ _ _ _ ?_
            simp only [hgA]
            clear hWA hgA hcA
            refine wpAnyC_takeD 13 133 (str [rk, rl]) rfl rfl rfl (by kernel_rfl) (by kernel_rfl) (by kernel_rfl) (by kernel_rfl) (fun _ _ _ h => h) (fun w5 hw5 => ?_) hTA ?_
            · have z9 := hSc w5 hw5
              simp only [List.getElem_toArray, List.getElem_cons_zero, List.getElem_cons_succ]
              go_simp
            try simp only [Act.put, List.setIfInBounds_toArray, List.set_cons_zero, List.set_cons_succ]
            refine wpAnyC_step (k := 5) rfl (by kernel_rfl) (fun K hK => ?_)
            simp only [List.getElem_toArray, List.getElem_cons_zero, List.getElem_cons_succ]
            go_simp
            go_wp2_with fail
            refine (M1.out _ (hSb5 _ hTA)).mono ?_
            rintro _ WM1 ⟨rfl, hbM1, hBM1⟩
            go_wp2_with fail
            have hTM1 := hSn _ hbM1 (cell_below hBM1 (Nat.le_refl _) hcell0) (cell_below hBM1 (Nat.le_refl _) hcell1)
            refine hK _ _ (fun _ => hTM1) ?_
            clear hK
            try simp only [Act.put, List.setIfInBounds_toArray, List.set_cons_zero, List.set_cons_succ]
            refine wpAnyC_takeD 7 127 (str P1) rfl rfl rfl (by kernel_rfl) (by kernel_rfl) (by kernel_rfl) (by kernel_rfl) (fun _ _ _ h => h) (fun w5 hw5 => ?_) hTM1 ?_
            · skip
              simp only [List.getElem_toArray, List.getElem_cons_zero, List.getElem_cons_succ]
              go_simp
            try simp only [Act.put, List.setIfInBounds_toArray, List.set_cons_zero, List.set_cons_succ]
            refine wpAnyC_takeD 14 134 (str P2) rfl rfl rfl (by kernel_rfl) (by kernel_rfl) (by kernel_rfl) (by kernel_rfl) (fun _ _ _ h => h) (fun w5 hw5 => ?_) hTM1 ?_
            · skip
              simp only [List.getElem_toArray, List.getElem_cons_zero, List.getElem_cons_succ]
              go_simp
            try simp only [Act.put, List.setIfInBounds_toArray, List.set_cons_zero, List.set_cons_succ]
            refine wpAnyC_takeD 16 136 (str P3) rfl rfl rfl (by kernel_rfl) (by kernel_rfl) (by kernel_rfl) (by kernel_rfl) (fun _ _ _ h => h) (fun w5 hw5 => ?_) hTM1 ?_
            · skip
              simp only [List.getElem_toArray, List.getElem_cons_zero, List.getElem_cons_succ]
              go_simp
            try simp only [Act.put, List.setIfInBounds_toArray, List.set_cons_zero, List.set_cons_succ]
            refine wpAnyC_takeD 17 137 (str P4) rfl rfl rfl (by kernel_rfl) (by kernel_rfl) (by kernel_rfl) (by kernel_rfl) (fun _ _ _ h => h) (fun w5 hw5 => ?_) hTM1 ?_
            · skip
              simp only [List.getElem_toArray, List.getElem_cons_zero, List.getElem_cons_succ]
              go_simp
            try simp only [Act.put, List.setIfInBounds_toArray, List.set_cons_zero, List.set_cons_succ]
            have hcell0 := cell_below hBM1 (Nat.le_refl _) hcell0; have hcell1 := cell_below hBM1 (Nat.le_refl _) hcell1
            refine wpAnyC_step (k := 19) rfl (by kernel_rfl) (fun K hK => ?_)
            simp only [List.getElem_toArray, List.getElem_cons_zero, List.getElem_cons_succ]
            go_simp
            go_wp2_with fail
            refine (M2.out _ (hSb5 _ hTM1)).mono ?_
            rintro _ WM2 ⟨rfl, hbM2, hBM2⟩
            go_wp2_with fail
            have hTM2 := hSn _ hbM2 (cell_below hBM2 (Nat.le_refl _) hcell0) (cell_below hBM2 (Nat.le_refl _) hcell1)
            refine hK _ _ (fun _ => hTM2) ?_
            clear hK
            try simp only [Act.put, List.setIfInBounds_toArray, List.set_cons_zero, List.set_cons_succ]
            refine wpAnyC_takeD 20 140 (str P5) rfl rfl rfl (by kernel_rfl) (by kernel_rfl) (by kernel_rfl) (by kernel_rfl) (fun _ _ _ h => h) (fun w5 hw5 => ?_) hTM2 ?_
            · skip
              simp only [List.getElem_toArray, List.getElem_cons_zero, List.getElem_cons_succ]
              go_simp
            try simp only [Act.put, List.setIfInBounds_toArray, List.set_cons_zero, List.set_cons_succ]
            refine wpAnyC_takeD 22 142 (str P6) rfl rfl rfl (by kernel_rfl) (by kernel_rfl) (by kernel_rfl) (by kernel_rfl) (fun _ _ _ h => h) (fun w5 hw5 => ?_) hTM2 ?_
            · skip
              simp only [List.getElem_toArray, List.getElem_cons_zero, List.getElem_cons_succ]
              go_simp
            try simp only [Act.put, List.setIfInBounds_toArray, List.set_cons_zero, List.set_cons_succ]
            refine wpAnyC_takeD 23 143 (str P7) rfl rfl rfl (by kernel_rfl) (by kernel_rfl) (by kernel_rfl) (by kernel_rfl) (fun _ _ _ h => h) (fun w5 hw5 => ?_) hTM2 ?_
            · skip
              simp only [List.getElem_toArray, List.getElem_cons_zero, List.getElem_cons_succ]
              go_simp
            try simp only [Act.put, List.setIfInBounds_toArray, List.set_cons_zero, List.set_cons_succ]
            refine wpAnyC_takeD 25 145 (str P8) rfl rfl rfl (by kernel_rfl) (by kernel_rfl) (by kernel_rfl) (by kernel_rfl) (fun _ _ _ h => h) (fun w5 hw5 => ?_) hTM2 ?_
            · skip
              simp only [List.getElem_toArray, List.getElem_cons_zero, List.getElem_cons_succ]
              go_simp
            try simp only [Act.put, List.setIfInBounds_toArray, List.set_cons_zero, List.set_cons_succ]
            refine wpAnyC_takeD 26 146 (str P9) rfl rfl rfl (by kernel_rfl) (by kernel_rfl) (by kernel_rfl) (by kernel_rfl) (fun _ _ _ h => h) (fun w5 hw5 => ?_) hTM2 ?_
            · skip
              simp only [List.getElem_toArray, List.getElem_cons_zero, List.getElem_cons_succ]
              go_simp
            try simp only [Act.put, List.setIfInBounds_toArray, List.set_cons_zero, List.set_cons_succ]
            refine wpAnyC_takeD 28 148 (str P10) rfl rfl rfl (by kernel_rfl) (by kernel_rfl) (by kernel_rfl) (by kernel_rfl) (fun _ _ _ h => h) (fun w5 hw5 => ?_) hTM2 ?_
            · skip
              simp only [List.getElem_toArray, List.getElem_cons_zero, List.getElem_cons_succ]
              go_simp
            try simp only [Act.put, List.setIfInBounds_toArray, List.set_cons_zero, List.set_cons_succ]
            refine wpAnyC_takeD 29 149 (str P11) rfl rfl rfl (by kernel_rfl) (by kernel_rfl) (by kernel_rfl) (by kernel_rfl) (fun _ _ _ h => h) (fun w5 hw5 => ?_) hTM2 ?_
            · skip
              simp only [List.getElem_toArray, List.getElem_cons_zero, List.getElem_cons_succ]
              go_simp
            try simp only [Act.put, List.setIfInBounds_toArray, List.set_cons_zero, List.set_cons_succ]
            refine wpAnyC_takeD 31 151 (str P12) rfl rfl rfl (by kernel_rfl) (by kernel_rfl) (by kernel_rfl) (by kernel_rfl) (fun _ _ _ h => h) (fun w5 hw5 => ?_) hTM2 ?_
            · skip
              simp only [List.getElem_toArray, List.getElem_cons_zero, List.getElem_cons_succ]
              go_simp
            try simp only [Act.put, List.setIfInBounds_toArray, List.set_cons_zero, List.set_cons_succ]
            refine wpAnyC_takeD 32 152 (str P13) rfl rfl rfl (by kernel_rfl) (by kernel_rfl) (by kernel_rfl) (by kernel_rfl) (fun _ _ _ h => h) (fun w5 hw5 => ?_) hTM2 ?_
            · skip
              simp only [List.getElem_toArray, List.getElem_cons_zero, List.getElem_cons_succ]
              go_simp
            try simp only [Act.put, List.setIfInBounds_toArray, List.set_cons_zero, List.set_cons_succ]
            refine wpAnyC_takeD 33 4 (str P13) rfl rfl rfl (by kernel_rfl) (by kernel_rfl) (by kernel_rfl) (by kernel_rfl) (fun _ _ _ h => h) (fun w5 hw5 => ?_) hTM2 ?_
            · skip
              simp only [List.getElem_toArray, List.getElem_cons_zero, List.getElem_cons_succ]
              go_simp
            try simp only [Act.put, List.setIfInBounds_toArray, List.set_cons_zero, List.set_cons_succ]
            refine wpAnyC_done (by kernel_rfl) ?_
            have Hbz := Lib.hid (HW.out.bel.trans ((hbM2).mono HW.out.bel.size))
            clear hS0 hSb hSm hSn hSo hSc hSb5
            go_wp2
            go_ret
            exact ⟨99, at', data, by show Ending.returned (str P13) = _; rw [HDD.out, HP.out], Hlay.out.1, Hlay.out.2.1, Hlay.out.2.2, Hbz.out⟩
set_option maxRecDepth 100000 in
set_option maxHeartbeats 20000000 in
theorem rLaid_cons (v ov : Value) (r : RecM) (ol : List Int) (w : World) (hv : RecV w v r) (ho : IntsAt w ov ol) (hfit : ∀ x ∈ ol, Fits x) (hsz : sizeR r ≤ 5000) (htag : ∀ f ∈ r.fields, f.tag.length = 3) (hon : ol.length ≠ 0) :
    Calls Tryd.prog 25 #[v, ov] w (LaidPost r w) := by
  obtain ⟨fv, rfl, hf⟩ := hv
  obtain ⟨fa, fc, rfl, hm, hc⟩ := id hf.slice
  obtain ⟨oa, oc, rfl, hom, hoc⟩ := id ho.slice
  obtain ⟨rk, rl, fs⟩ := r
  simp only at hf hm hc htag ⊢
  have Htag := Lib.hid htag
  clear htag
  have hszz := hsz
  unfold sizeR sizeH at hszz
  simp only at hszz
  have hn400 : fs.length ≤ 420 := by omega
  have Hszz := Lib.hid hszz
  obtain ⟨W3, W4, W5, h3, s3, h4, s4, h5, hL5, n3⟩ := made_rows w rk rl fa fs.length fc
  have hrun1 := run_make_row' (P := Tryd.prog) 50 3 (.int .i64 0) 8 Tryd.underlying50 infoInt rfl .i64 .i64 fs.length (by omega) (by omega) W3
  have hrun2 := run_make_row' (P := Tryd.prog) 90 4 (.bool false) 1 Tryd.underlying90 infoBool rfl .i64 .i64 fs.length (by omega) (by omega) W4
  rw [h4, s3] at hrun1
  rw [h5, s4] at hrun2
  have e0 : W3.cell? ⟨w.heap.size, 0, none⟩ = some (.int .u8 (rk.toNat : Int)) := by rw [cell_at n3]; rfl
  have e1 : W3.cell? ⟨w.heap.size, 1, none⟩ = some (.int .u8 (rl.toNat : Int)) := by rw [cell_at n3]; rfl
  have e2 : W3.cell? ⟨w.heap.size, 2, none⟩ = some (.slice fa fs.length fc) := by rw [cell_at n3]; rfl
  have HL5 := Lib.hid hL5
  have Hf := Lib.hid hf
  have Hfit := Lib.hid hfit
  have Hc := Lib.hid hc
  have Hoc := Lib.hid hoc
  have Ho := Lib.hid ho
  unfold maxLen at hm hom
  clear hL5 hf hfit n3 hc hoc h4 h5 s3 s4 hsz hszz ho
  unfold LaidPost
  simp only
  go_enter Tryd.func25, Tryd.ntmps25
  go_wp2_with fail
  clear hrun1 hrun2 e0 e1 e2 h3
  go_loopw [8, 9] (fun dv iv wr => ∃ (i : Nat) (at' : List Nat) (left : List Bool) (data : List UInt8), i ≤ fs.length ∧ dv = str data ∧ iv = .int .i64 i ∧ LayI fs i at' left data ∧ LayW w wr rk rl fa fs.length fc at' left) (fun dv iv _ => fs.length - (intOf iv).toNat)
  case atStart => exact ⟨0, _, _, [], Nat.zero_le _, rfl, rfl, LayI.start fs, HL5.out⟩
  case round =>
    obtain ⟨i, at', left, data, hi, rfl, rfl, hI, hW⟩ := hrel
    clear HL5
    by_cases hlt : i < fs.length
    · have j0 : (i : Int) < (fs.length : Int) := by omega
      have g0 : (0 : Int) < (ol.length : Int) := by omega
      have hjl : i % ol.length < ol.length := Nat.mod_lt _ (by omega)
      obtain ⟨jj, hjj⟩ : ∃ q, i % ol.length = q := ⟨_, rfl⟩
      have hri : (i : Int).tmod (ol.length : Int) = (jj : Int) := by rw [← hjj]; exact (Int.ofNat_tmod i ol.length).symm
      rw [hjj] at hjl
      obtain ⟨ob, ooff, hoa, hcell, hobl⟩ := Hoc.out jj hjl
      obtain ⟨x, hx⟩ : ∃ x, ol[jj] = x := ⟨_, rfl⟩
      have fx := Hfit.out x (by rw [← hx]; exact List.getElem_mem hjl)
      rw [hx] at hcell
      have Hcell := Lib.hid hcell
      have hcellr := cell_below hW.bel (Nat.le_refl _) hcell
      subst hoa
      have o1 : (0 : Int) ≤ (jj : Int) := by omega
      have o2 : (jj : Int) < (ol.length : Int) := by omega
      have gl0 : ((ol.length : Int) == 0) = false := by rw [beq_eq_false_iff_ne]; omega
      have w3 : IntKind.i64.wrap (x.tmod 3) = x.tmod 3 := wrapI _ (by have := Int.lt_tmod_of_pos x (show (0 : Int) < 3 by decide); omega) (by have := Int.tmod_lt_of_pos x (show (0 : Int) < 3 by decide); omega)
      have MK := Lib.hid (fun W => mod_c x (fs.length : Int) (by omega) (by omega) fx W)
      have hk1 := modN_lt (n := x) (m := (fs.length : Int)) (by omega)
      obtain ⟨k1, hk1e⟩ : ∃ k, modN x (fs.length : Int) = k := ⟨_, rfl⟩
      rw [hk1e] at hk1 MK
      have hk1' : k1 < fs.length := by omega
      clear hk1 hk1e hcell hobl hjj hx hjl
      go_wp2_with fail
      refine (MK.out _).mono ?_
      rintro _ _ ⟨rfl, rfl⟩
      clear MK hcellr
      obtain ⟨j, hj, hjf⟩ := cnt_ex left (by rw [hI.cnt, hI.ll]; exact hlt)
      rw [hI.ll] at hj
      have HI := Lib.hid hI
      have HW := Lib.hid hW
      clear hI hW
      go_wp2_with fail
      go_loopw [10] (fun kv wx => ∃ k : Nat, k < fs.length ∧ kv = .int .i64 k ∧ wx = wr) (fun kv _ => distN fs.length j (intOf kv).toNat)
      case atStart => exact ⟨k1, by omega, rfl, rfl⟩
      case round =>
        obtain ⟨k, hk, rfl, rfl⟩ := hrel
        have hkl : k < left.length := by rw [HI.out.ll]; exact hk
        have i0 : (0 : Int) ≤ (k : Int) := by omega
        have i1 : (k : Int) < (fs.length : Int) := by omega
        cases hb : left[k] with
        | true =>
          obtain ⟨l0, l1⟩ := HW.out.left (k := k) (b := true) (by rw [List.getElem?_eq_getElem hkl, hb])
          have hkj : k ≠ j := by
            rintro rfl
            rw [List.getElem?_eq_getElem hkl, hb] at hjf
            cases hjf
          have hr : ((k : Int) + 1).tmod (fs.length : Int) = (((k + 1) % fs.length : Nat) : Int) := by
            rw [show (k : Int) + 1 = ((k + 1 : Nat) : Int) by omega]
            exact (Int.ofNat_tmod (k + 1) fs.length).symm
          have hn0 : ((fs.length : Int) == 0) = false := by rw [beq_eq_false_iff_ne]; omega
          go_wp2
          go_roundw
          case rel => exact ⟨(k + 1) % fs.length, Nat.mod_lt _ (by omega), by go_num, by first | trivial | rfl⟩
          case measure =>
            have h := dist_next hj hk hkj
            simp only [intOf, Int.toNat_natCast]
            exact h
        | false =>
          replace hb : left[k]? = some false := by rw [List.getElem?_eq_getElem hkl, hb]
          clear hkl
          by_cases hg : x.tmod 3 = 1
          · have gt : (x.tmod 3 == 1) = true := by rw [beq_iff_eq]; exact hg
            obtain ⟨f, hfk⟩ : ∃ f, fs[k]? = some f := ⟨fs[k], List.getElem?_eq_getElem hk⟩
            have hfe : fs[k] = f := by rw [List.getElem?_eq_getElem hk] at hfk; simpa using hfk
            obtain ⟨fb, off, hfa, hfbl, c0, c1, c2, sv, c3, hsub⟩ := Hc.out k hk
            rw [hfe] at c0 c1 c2 hsub
            have hI9 := HI.out.step k f hb hfk [103, 97, 112] (by decide)
            have hal : k < at'.length := by rw [HI.out.la]; exact hk
            obtain ⟨a0, ha0⟩ : ∃ a, at'[k]? = some a := ⟨at'[k], List.getElem?_eq_getElem hal⟩
            obtain ⟨l0, l1⟩ := HW.out.left hb
            have hW6 := HW.out.mark k
            obtain ⟨W6, hW6e⟩ : ∃ W, wr.setCell ⟨w.heap.size + 1 + 1, k, none⟩ (.bool true) = W := ⟨_, rfl⟩
            rw [hW6e] at hW6
            have hcell6 := cell_below hW6.bel (Nat.le_refl _) Hcell.out
            obtain ⟨t0, t1⟩ := hW6.at_ ha0
            have hW7 := hW6.put k (data ++ [103, 97, 112]).length
            have hl3 : (data ++ [103, 97, 112]).length = data.length + 3 := by simp
            rw [hl3] at hI9 hW7
            clear hl3
            rw [show ((data.length + 3 : Nat) : Int) = (data.length : Int) + 3 by omega] at hW7
            obtain ⟨W7, hW7e⟩ : ∃ W, W6.setCell ⟨w.heap.size + 1, k, none⟩ (.int .i64 ((data.length : Int) + 3)) = W := ⟨_, rfl⟩
            rw [hW7e] at hW7
            obtain ⟨u0, u1, u2⟩ := hW7.boxes
            have c0 := cell_below hW7.bel (Nat.le_refl _) c0
            have c1 := cell_below hW7.bel (Nat.le_refl _) c1
            have c2 := cell_below hW7.bel (Nat.le_refl _) c2
            have c3 := cell_below hW7.bel (Nat.le_refl _) c3
            have hsub := hsub.below hW7.bel (Nat.le_refl _)
            obtain ⟨sa, sc, rfl, -⟩ := id hsub.slice
            have hfs := sizeF_le fs k hk
            rw [hfe] at hfs
            have hsl := sum_le left fs
            have hdl := HI.out.hi
            have hbl := bytesF_len f
            have hB := Lib.hid (rBytes_c (.agg #[str f.tag, str f.ind, str f.data, .slice sa f.subs.length sc]) f W7 ⟨_, rfl, hsub⟩ (by have := Hszz.out; omega))
            unfold StrPost at hB
            have hd1 : (data ++ [103, 97, 112]).length ≤ 100000 := by rw [List.length_append]; have := Hszz.out; simp only [List.length_cons, List.length_nil]; omega
            have ad2 := add_str (data ++ [103, 97, 112]) (bytesF f) (by have := Hszz.out; omega)
            have ad1 := add_str data [103, 97, 112] (by rw [List.length_append] at hd1; simp only [List.length_cons, List.length_nil] at hd1 ⊢; omega)
            have szd := size_str (data ++ [103, 97, 112])
            have HI9 := Lib.hid hI9
            have HW7 := Lib.hid hW7
            have i0 : (0 : Int) ≤ (k : Int) := by omega
            have i1 : (k : Int) < (fs.length : Int) := by omega
            subst hfa
            clear hI9 hW6 hW7 hsub hfs hsl hdl hbl hal ha0 hfe hfk HI HW hb
            go_wp2_with fail
            refine hB.out.mono ?_
            rintro _ w8 ⟨rfl, hb8⟩
            have hW8 := HW7.out.below hb8
            have HW8 := Lib.hid hW8
            clear hb8 hW8 hB u0 u1 u2 c0 c1 c2 c3
            go_wp2
            go_roundw
            case rel => first
              | exact ⟨i + 1, _, _, _, by omega, by simp, by go_num, HI9.out, HW8.out⟩
              | ((repeat apply Exists.intro)
                 refine ⟨⟨i + 1, _, _, _, by omega, ?_, ?_, HI9.out, HW8.out⟩, rfl⟩
                 · simp
                 · go_num)
            case measure => simp [intOf]; omega
          · have gt : (x.tmod 3 == 1) = false := by rw [beq_eq_false_iff_ne]; exact hg
            obtain ⟨f, hfk⟩ : ∃ f, fs[k]? = some f := ⟨fs[k], List.getElem?_eq_getElem hk⟩
            have hfe : fs[k] = f := by rw [List.getElem?_eq_getElem hk] at hfk; simpa using hfk
            obtain ⟨fb, off, hfa, hfbl, c0, c1, c2, sv, c3, hsub⟩ := Hc.out k hk
            rw [hfe] at c0 c1 c2 hsub
            have hI9 := HI.out.step k f hb hfk [] (by decide)
            have hal : k < at'.length := by rw [HI.out.la]; exact hk
            obtain ⟨a0, ha0⟩ : ∃ a, at'[k]? = some a := ⟨at'[k], List.getElem?_eq_getElem hal⟩
            obtain ⟨l0, l1⟩ := HW.out.left hb
            have hW6 := HW.out.mark k
            obtain ⟨W6, hW6e⟩ : ∃ W, wr.setCell ⟨w.heap.size + 1 + 1, k, none⟩ (.bool true) = W := ⟨_, rfl⟩
            rw [hW6e] at hW6
            have hcell6 := cell_below hW6.bel (Nat.le_refl _) Hcell.out
            obtain ⟨t0, t1⟩ := hW6.at_ ha0
            have hW7 := hW6.put k (data ++ []).length
            simp only [List.append_nil] at hI9 hW7
            obtain ⟨W7, hW7e⟩ : ∃ W, W6.setCell ⟨w.heap.size + 1, k, none⟩ (.int .i64 (data.length : Nat)) = W := ⟨_, rfl⟩
            rw [hW7e] at hW7
            obtain ⟨u0, u1, u2⟩ := hW7.boxes
            have c0 := cell_below hW7.bel (Nat.le_refl _) c0
            have c1 := cell_below hW7.bel (Nat.le_refl _) c1
            have c2 := cell_below hW7.bel (Nat.le_refl _) c2
            have c3 := cell_below hW7.bel (Nat.le_refl _) c3
            have hsub := hsub.below hW7.bel (Nat.le_refl _)
            obtain ⟨sa, sc, rfl, -⟩ := id hsub.slice
            have hfs := sizeF_le fs k hk
            rw [hfe] at hfs
            have hsl := sum_le left fs
            have hdl := HI.out.hi
            have hbl := bytesF_len f
            have hB := Lib.hid (rBytes_c (.agg #[str f.tag, str f.ind, str f.data, .slice sa f.subs.length sc]) f W7 ⟨_, rfl, hsub⟩ (by have := Hszz.out; omega))
            unfold StrPost at hB
            have hd1 : (data ++ []).length ≤ 100000 := by rw [List.length_append]; have := Hszz.out; simp only [List.length_cons, List.length_nil]; omega
            have ad2 := add_str (data ++ []) (bytesF f) (by have := Hszz.out; omega)
            simp only [List.append_nil] at ad2 hd1
            have szd := size_str data
            have HI9 := Lib.hid hI9
            have HW7 := Lib.hid hW7
            have i0 : (0 : Int) ≤ (k : Int) := by omega
            have i1 : (k : Int) < (fs.length : Int) := by omega
            subst hfa
            clear hI9 hW6 hW7 hsub hfs hsl hdl hbl hal ha0 hfe hfk HI HW hb
            go_wp2_with fail
            refine hB.out.mono ?_
            rintro _ w8 ⟨rfl, hb8⟩
            have hW8 := HW7.out.below hb8
            have HW8 := Lib.hid hW8
            clear hb8 hW8 hB u0 u1 u2 c0 c1 c2 c3
            go_wp2
            go_roundw
            case rel => first
              | exact ⟨i + 1, _, _, _, by omega, rfl, by go_num, HI9.out, HW8.out⟩
              | ((repeat apply Exists.intro)
                 refine ⟨⟨i + 1, _, _, _, by omega, ?_, ?_, HI9.out, HW8.out⟩, rfl⟩
                 · rfl
                 · go_num)
            case measure => simp [intOf]; omega
    · skip
      have hin : i = fs.length := by omega
      subst hin
      obtain ⟨hlay, hsum, hdat⟩ := hI.done
      have Hlay := Lib.hid (And.intro hlay (And.intro hsum hdat))
      have Hla := Lib.hid hI.la
      have Hsm := Lib.hid hI.small
      have Hle := Lib.hid (sum_le left fs)
      have hdl : data.length ≤ 10000 := by have := Hszz.out; omega
      have HW := Lib.hid hW
      have j0 : decide ((fs.length : Int) < (fs.length : Int)) = false := by simp
      clear hI hW hlay hsum hdat hlt hi
      go_wp2_with fail
      go_loopw [11, 12] (fun dv iv wr => ∃ (i : Nat), i ≤ fs.length ∧ dv = str (dirA (at'.take i) (fs.take i)) ∧ iv = .int .i64 i ∧ LayW w wr rk rl fa fs.length fc at' left) (fun dv iv _ => fs.length - (intOf iv).toNat)
      case atStart => exact ⟨0, Nat.zero_le _, rfl, rfl, HW.out⟩
      case round =>
        obtain ⟨i, hi, rfl, rfl, hW⟩ := hrel
        clear HW
        by_cases hlt : i < fs.length
        · have j1 : (i : Int) < (fs.length : Int) := by omega
          have j2 : (0 : Int) ≤ (i : Int) := by omega
          obtain ⟨f, hfk⟩ : ∃ f, fs[i]? = some f := ⟨fs[i], List.getElem?_eq_getElem hlt⟩
          have hfe : fs[i] = f := by rw [List.getElem?_eq_getElem hlt] at hfk; simpa using hfk
          obtain ⟨fb, off, hfa, hfbl, c0, c1, c2, sv, c3, hsub⟩ := Hc.out i hlt
          rw [hfe] at c0 c1 c2 hsub
          have hal : i < at'.length := by rw [Hla.out]; exact hlt
          obtain ⟨a, ha⟩ : ∃ a, at'[i]? = some a := ⟨at'[i], List.getElem?_eq_getElem hal⟩
          obtain ⟨ta, -⟩ := hW.at_ ha
          have hale : a ≤ data.length := Hsm.out a (List.mem_of_getElem? ha)
          obtain ⟨u0, u1, u2⟩ := hW.boxes
          have c0 := cell_below hW.bel (Nat.le_refl _) c0
          have c1 := cell_below hW.bel (Nat.le_refl _) c1
          have c2 := cell_below hW.bel (Nat.le_refl _) c2
          have c3 := cell_below hW.bel (Nat.le_refl _) c3
          have hsub := hsub.below hW.bel (Nat.le_refl _)
          obtain ⟨sa, sc, rfl, -⟩ := id hsub.slice
          have hfs := sizeF_le fs i hlt
          rw [hfe] at hfs
          have hfl : sizeF f ≤ 5000 := by have := Hszz.out; omega
          have htg : f.tag.length = 3 := Htag.out f (by rw [← hfe]; exact List.getElem_mem hlt)
          have hdt := dirA_take at' fs i a f ha hfk
          have hdlen := dirA_tlen at' fs Htag.out i
          obtain ⟨D, hD⟩ : ∃ D, dirA (at'.take i) (fs.take i) = D := ⟨_, rfl⟩
          obtain ⟨Bf, hBf⟩ : ∃ B, bytesF f = B := ⟨_, rfl⟩
          have hbl := bytesF_len f
          rw [hBf] at hbl
          obtain ⟨z, hz⟩ : ∃ z, sizeF f = z := ⟨_, rfl⟩
          rw [hz] at hbl hfl hdt
          rw [hD] at hdt hdlen
          have x4 := digsN_len 4 z
          have x5 := digsN_len 5 a
          have q1 := add_str D f.tag (by omega)
          obtain ⟨D1, hD1⟩ : ∃ D1, D ++ f.tag = D1 := ⟨_, rfl⟩
          have l1 : D1.length ≤ 20000 := by rw [← hD1, List.length_append]; omega
          rw [hD1] at q1 hdt
          have q2 := add_str D1 (digsN z 4) (by omega)
          obtain ⟨D2, hD2⟩ : ∃ D2, D1 ++ digsN z 4 = D2 := ⟨_, rfl⟩
          have l2 : D2.length ≤ 30000 := by rw [← hD2, List.length_append]; omega
          rw [hD2] at q2 hdt
          have q3 := add_str D2 (digsN a 5) (by omega)
          obtain ⟨D3, hD3⟩ : ∃ D3, D2 ++ digsN a 5 = D3 := ⟨_, rfl⟩
          rw [hD3] at q3 hdt
          have szb := size_str Bf
          rw [hbl] at szb
          have M1 := Lib.hid (fun W (h : Below wr.heap.size wr W) => rBytes_c (.agg #[str f.tag, str f.ind, str f.data, .slice sa f.subs.length sc]) f W ⟨_, rfl, hsub.below h (Nat.le_refl _)⟩ (by omega))
          have M2 := Lib.hid (fun W (h : Below wr.heap.size wr W) => fixed_c 4 z W (by decide) (by omega))
          have M3 := Lib.hid (fun W (h : Below wr.heap.size wr W) => fixed_c 5 a W (by decide) (by omega))
          unfold StrPost at M1 M2 M3
          rw [hBf] at M1
          subst hfa
          have HW := Lib.hid hW
          have Hdt := Lib.hid hdt
          have HD := Lib.hid hD
          clear hD1 hD2 hD3 hfe hfk hal ha hale hsub hfs htg hdt hdlen hbl hBf hW x4 x5 l1 l2 hz hfl u0 u1 hfbl hD
          rw [HD.out]
          go_wp2_with fail
          obtain ⟨S, hSd⟩ : ∃ S : World → Prop, S = (fun w' => Below wr.heap.size wr w') := ⟨_, rfl⟩
          have hSb : ∀ w', S w' → Below wr.heap.size wr w' := fun w' h => by rw [hSd] at h; exact h
          have hSm : ∀ w5 : World, Below wr.heap.size wr w5 → S w5 := fun w5 h => by rw [hSd]; exact h
          have hb0 : Below wr.heap.size wr wr.drew := (Below.refl _ _).drew
          have hS0 : S wr.drew := hSm _ hb0
          clear hSd
          refine wp_region_C 23 24 S rfl rfl ?_
          refine wpAnyC_takeD 0 85 (str D) rfl rfl rfl (by kernel_rfl) (by kernel_rfl) (by kernel_rfl) (by kernel_rfl) (fun _ _ _ h => h) (fun w5 hw5 => ?_) hS0 ?_
          · skip
            simp only [List.getElem_toArray, List.getElem_cons_zero, List.getElem_cons_succ]
            go_simp
          try simp only [Act.put, List.setIfInBounds_toArray, List.set_cons_zero, List.set_cons_succ]
          refine wpAnyC_takeD 1 86 (.pointer (some ⟨w.heap.size, 2, none⟩)) rfl rfl rfl (by kernel_rfl) (by kernel_rfl) (by kernel_rfl) (by kernel_rfl) (fun _ _ _ h => h) (fun w5 hw5 => ?_) hS0 ?_
          · skip
            simp only [List.getElem_toArray, List.getElem_cons_zero, List.getElem_cons_succ]
            go_simp
          try simp only [Act.put, List.setIfInBounds_toArray, List.set_cons_zero, List.set_cons_succ]
          refine wpAnyC_takeD 2 87 (.slice (some ⟨fb, off, none⟩) fs.length fc) rfl rfl rfl (by kernel_rfl) (by kernel_rfl) (by kernel_rfl) (by kernel_rfl) (fun _ _ _ h => h) (fun w5 hw5 => ?_) hS0 ?_
          · have hq := hSb w5 hw5; have z0 := cell_below hq (Nat.le_refl _) u2
            simp only [List.getElem_toArray, List.getElem_cons_zero, List.getElem_cons_succ]
            go_simp
          try simp only [Act.put, List.setIfInBounds_toArray, List.set_cons_zero, List.set_cons_succ]
          refine wpAnyC_takeD 3 88 (.int .i64 i) rfl rfl rfl (by kernel_rfl) (by kernel_rfl) (by kernel_rfl) (by kernel_rfl) (fun _ _ _ h => h) (fun w5 hw5 => ?_) hS0 ?_
          · skip
            simp only [List.getElem_toArray, List.getElem_cons_zero, List.getElem_cons_succ]
            go_simp
          try simp only [Act.put, List.setIfInBounds_toArray, List.set_cons_zero, List.set_cons_succ]
          refine wpAnyC_takeD 4 89 (.pointer (some ⟨fb, off + i * 4, none⟩)) rfl rfl rfl (by kernel_rfl) (by kernel_rfl) (by kernel_rfl) (by kernel_rfl) (fun _ _ _ h => h) (fun w5 hw5 => ?_) hS0 ?_
          · skip
            simp only [List.getElem_toArray, List.getElem_cons_zero, List.getElem_cons_succ]
            go_simp
          try simp only [Act.put, List.setIfInBounds_toArray, List.set_cons_zero, List.set_cons_succ]
          refine wpAnyC_takeD 5 90 (.pointer (some ⟨fb, off + i * 4, none⟩)) rfl rfl rfl (by kernel_rfl) (by kernel_rfl) (by kernel_rfl) (by kernel_rfl) (fun _ _ _ h => h) (fun w5 hw5 => ?_) hS0 ?_
          · skip
            simp only [List.getElem_toArray, List.getElem_cons_zero, List.getElem_cons_succ]
            go_simp
          try simp only [Act.put, List.setIfInBounds_toArray, List.set_cons_zero, List.set_cons_succ]
          refine wpAnyC_takeD 6 91 (str f.tag) rfl rfl rfl (by kernel_rfl) (by kernel_rfl) (by kernel_rfl) (by kernel_rfl) (fun _ _ _ h => h) (fun w5 hw5 => ?_) hS0 ?_
          · have hq := hSb w5 hw5; have z0 := cell_below hq (Nat.le_refl _) c0
            simp only [List.getElem_toArray, List.getElem_cons_zero, List.getElem_cons_succ]
            go_simp
          try simp only [Act.put, List.setIfInBounds_toArray, List.set_cons_zero, List.set_cons_succ]
          refine wpAnyC_takeD 7 92 (str D1) rfl rfl rfl (by kernel_rfl) (by kernel_rfl) (by kernel_rfl) (by kernel_rfl) (fun _ _ _ h => h) (fun w5 hw5 => ?_) hS0 ?_
          · skip
            simp only [List.getElem_toArray, List.getElem_cons_zero, List.getElem_cons_succ]
            go_simp
          try simp only [Act.put, List.setIfInBounds_toArray, List.set_cons_zero, List.set_cons_succ]
          refine wpAnyC_takeD 8 93 (.pointer (some ⟨w.heap.size, 2, none⟩)) rfl rfl rfl (by kernel_rfl) (by kernel_rfl) (by kernel_rfl) (by kernel_rfl) (fun _ _ _ h => h) (fun w5 hw5 => ?_) hS0 ?_
          · skip
            simp only [List.getElem_toArray, List.getElem_cons_zero, List.getElem_cons_succ]
            go_simp
          try simp only [Act.put, List.setIfInBounds_toArray, List.set_cons_zero, List.set_cons_succ]
          refine wpAnyC_takeD 9 94 (.slice (some ⟨fb, off, none⟩) fs.length fc) rfl rfl rfl (by kernel_rfl) (by kernel_rfl) (by kernel_rfl) (by kernel_rfl) (fun _ _ _ h => h) (fun w5 hw5 => ?_) hS0 ?_
          · have hq := hSb w5 hw5; have z0 := cell_below hq (Nat.le_refl _) u2
            simp only [List.getElem_toArray, List.getElem_cons_zero, List.getElem_cons_succ]
            go_simp
          try simp only [Act.put, List.setIfInBounds_toArray, List.set_cons_zero, List.set_cons_succ]
          refine wpAnyC_takeD 10 95 (.int .i64 i) rfl rfl rfl (by kernel_rfl) (by kernel_rfl) (by kernel_rfl) (by kernel_rfl) (fun _ _ _ h => h) (fun w5 hw5 => ?_) hS0 ?_
          · skip
            simp only [List.getElem_toArray, List.getElem_cons_zero, List.getElem_cons_succ]
            go_simp
          try simp only [Act.put, List.setIfInBounds_toArray, List.set_cons_zero, List.set_cons_succ]
          refine wpAnyC_takeD 11 96 (.pointer (some ⟨fb, off + i * 4, none⟩)) rfl rfl rfl (by kernel_rfl) (by kernel_rfl) (by kernel_rfl) (by kernel_rfl) (fun _ _ _ h => h) (fun w5 hw5 => ?_) hS0 ?_
          · skip
            simp only [List.getElem_toArray, List.getElem_cons_zero, List.getElem_cons_succ]
            go_simp
          try simp only [Act.put, List.setIfInBounds_toArray, List.set_cons_zero, List.set_cons_succ]
          refine wpAnyC_takeD 12 97 (.agg #[str f.tag, str f.ind, str f.data, .slice sa f.subs.length sc]) rfl rfl rfl (by kernel_rfl) (by kernel_rfl) (by kernel_rfl) (by kernel_rfl) (fun _ _ _ h => h) (fun w5 hw5 => ?_) hS0 ?_
          · have hq := hSb w5 hw5; have z0 := cell_below hq (Nat.le_refl _) c0; have z1 := cell_below hq (Nat.le_refl _) c1; have z2 := cell_below hq (Nat.le_refl _) c2; have z3 := cell_below hq (Nat.le_refl _) c3
            simp only [List.getElem_toArray, List.getElem_cons_zero, List.getElem_cons_succ]
            go_simp
          try simp only [Act.put, List.setIfInBounds_toArray, List.set_cons_zero, List.set_cons_succ]
          refine wpAnyC_takeD 17 102 (.slice (some ⟨w.heap.size + 1, 0, none⟩) fs.length fs.length) rfl rfl rfl (by kernel_rfl) (by kernel_rfl) (by kernel_rfl) (by kernel_rfl) (fun _ _ _ h => h) (fun w5 hw5 => ?_) hS0 ?_
          · skip
            simp only [List.getElem_toArray, List.getElem_cons_zero, List.getElem_cons_succ]
            go_simp
          try simp only [Act.put, List.setIfInBounds_toArray, List.set_cons_zero, List.set_cons_succ]
          refine wpAnyC_takeD 18 103 (.int .i64 i) rfl rfl rfl (by kernel_rfl) (by kernel_rfl) (by kernel_rfl) (by kernel_rfl) (fun _ _ _ h => h) (fun w5 hw5 => ?_) hS0 ?_
          · skip
            simp only [List.getElem_toArray, List.getElem_cons_zero, List.getElem_cons_succ]
            go_simp
          try simp only [Act.put, List.setIfInBounds_toArray, List.set_cons_zero, List.set_cons_succ]
          refine wpAnyC_takeD 19 104 (.pointer (some ⟨w.heap.size + 1, i, none⟩)) rfl rfl rfl (by kernel_rfl) (by kernel_rfl) (by kernel_rfl) (by kernel_rfl) (fun _ _ _ h => h) (fun w5 hw5 => ?_) hS0 ?_
          · skip
            simp only [List.getElem_toArray, List.getElem_cons_zero, List.getElem_cons_succ]
            go_simp
          try simp only [Act.put, List.setIfInBounds_toArray, List.set_cons_zero, List.set_cons_succ]
          refine wpAnyC_takeD 20 105 (.int .i64 (a : Nat)) rfl rfl rfl (by kernel_rfl) (by kernel_rfl) (by kernel_rfl) (by kernel_rfl) (fun _ _ _ h => h) (fun w5 hw5 => ?_) hS0 ?_
          · have hq := hSb w5 hw5; have z0 := cell_below hq (Nat.le_refl _) ta
            simp only [List.getElem_toArray, List.getElem_cons_zero, List.getElem_cons_succ]
            go_simp
          try simp only [Act.put, List.setIfInBounds_toArray, List.set_cons_zero, List.set_cons_succ]
          refine wpAnyC_step (k := 13) rfl (by kernel_rfl) (fun K hK => ?_)
          simp only [List.getElem_toArray, List.getElem_cons_zero, List.getElem_cons_succ]
          go_simp
          go_wp2_with fail
          refine (M1.out _ hb0).mono ?_
          rintro _ Wa ⟨rfl, hx⟩
          go_wp2_with fail
          have ha := hb0.trans (hx.mono hb0.size)
          clear hx
          have Sha := hSm _ ha
          refine hK _ _ (fun _ => Sha) ?_
          clear hK
          try simp only [Act.put, List.setIfInBounds_toArray, List.set_cons_zero, List.set_cons_succ]
          refine wpAnyC_takeD 14 99 (.int .i64 (z : Nat)) rfl rfl rfl (by kernel_rfl) (by kernel_rfl) (by kernel_rfl) (by kernel_rfl) (fun _ _ _ h => h) (fun w5 hw5 => ?_) Sha ?_
          · skip
            simp only [List.getElem_toArray, List.getElem_cons_zero, List.getElem_cons_succ]
            go_simp
          try simp only [Act.put, List.setIfInBounds_toArray, List.set_cons_zero, List.set_cons_succ]
          refine wpAnyC_step (k := 15) rfl (by kernel_rfl) (fun K hK => ?_)
          simp only [List.getElem_toArray, List.getElem_cons_zero, List.getElem_cons_succ]
          go_simp
          go_wp2_with fail
          refine (M2.out _ ha).mono ?_
          rintro _ Wb ⟨rfl, hx⟩
          go_wp2_with fail
          have hb := ha.trans (hx.mono ha.size)
          clear hx
          have Shb := hSm _ hb
          refine hK _ _ (fun _ => Shb) ?_
          clear hK
          try simp only [Act.put, List.setIfInBounds_toArray, List.set_cons_zero, List.set_cons_succ]
          refine wpAnyC_takeD 16 101 (str D2) rfl rfl rfl (by kernel_rfl) (by kernel_rfl) (by kernel_rfl) (by kernel_rfl) (fun _ _ _ h => h) (fun w5 hw5 => ?_) Shb ?_
          · skip
            simp only [List.getElem_toArray, List.getElem_cons_zero, List.getElem_cons_succ]
            go_simp
          try simp only [Act.put, List.setIfInBounds_toArray, List.set_cons_zero, List.set_cons_succ]
          refine wpAnyC_step (k := 21) rfl (by kernel_rfl) (fun K hK => ?_)
          simp only [List.getElem_toArray, List.getElem_cons_zero, List.getElem_cons_succ]
          go_simp
          go_wp2_with fail
          refine (M3.out _ hb).mono ?_
          rintro _ Wc ⟨rfl, hx⟩
          go_wp2_with fail
          have hc := hb.trans (hx.mono hb.size)
          clear hx
          have Shc := hSm _ hc
          refine hK _ _ (fun _ => Shc) ?_
          clear hK
          try simp only [Act.put, List.setIfInBounds_toArray, List.set_cons_zero, List.set_cons_succ]
          refine wpAnyC_takeD 22 107 (str D3) rfl rfl rfl (by kernel_rfl) (by kernel_rfl) (by kernel_rfl) (by kernel_rfl) (fun _ _ _ h => h) (fun w5 hw5 => ?_) Shc ?_
          · skip
            simp only [List.getElem_toArray, List.getElem_cons_zero, List.getElem_cons_succ]
            go_simp
          try simp only [Act.put, List.setIfInBounds_toArray, List.set_cons_zero, List.set_cons_succ]
          refine wpAnyC_step (k := 23) rfl (by kernel_rfl) (fun K hK => ?_)
          simp only [List.getElem_toArray, List.getElem_cons_zero, List.getElem_cons_succ]
          go_simp
          refine hK _ _ (fun h => absurd (of_decide_eq_true h) (by decide)) ?_
          clear hK
          refine wpAnyC_done (by kernel_rfl) ?_
          clear hS0 hSm hSb Sha Shb Shc
          have hW8 := HW.out.below hc
          have HW8 := Lib.hid hW8
          clear hW8 ha hb hc u2 c0 c1 c2 c3 ta q1 q2 q3 M1 M2 M3 HW
          go_wp2
          go_roundw
          case rel => first
            | exact ⟨i + 1, by omega, by rw [Hdt.out], by go_num, HW8.out⟩
            | ((repeat apply Exists.intro)
               refine ⟨⟨i + 1, by omega, ?_, ?_, HW8.out⟩, rfl⟩
               · rw [Hdt.out]
               · go_num)
          case measure => simp [intOf]; omega
        · skip
          have hin : i = fs.length := by omega
          subst hin
          obtain ⟨D, hD⟩ : ∃ D, dirA (at'.take fs.length) (fs.take fs.length) = D := ⟨_, rfl⟩
          have hdlen := dirA_tlen at' fs Htag.out fs.length
          rw [hD] at hdlen ⊢
          have hDD : dirA at' fs = D := by rw [← hD, List.take_length, List.take_of_length_le (by rw [Hla.out]; exact Nat.le_refl _)]
          have HDD := Lib.hid hDD
          have szD := size_str D
          have szd := size_str data
          have j0 : decide ((fs.length : Int) < (fs.length : Int)) = false := by simp
          have HW := Lib.hid hW
          clear hW hD hDD hlt hi
          by_cases h1 : 1 < ol.length
          · skip
            obtain ⟨ob, ooff, hoa, hcell, hobl⟩ := Hoc.out 1 (by omega)
            obtain ⟨x1, hx1⟩ : ∃ x, ol[1] = x := ⟨_, rfl⟩
            rw [hx1] at hcell
            obtain ⟨C, hC⟩ := u8_wrap x1
            have hcell := cell_below HW.out.bel (Nat.le_refl _) hcell
            subst hoa
            obtain ⟨Wr, hWr⟩ : ∃ W, wr.alloc (.cells #[.int .u8 (C.toNat : Int)] 5) = W := ⟨_, rfl⟩
            have hcv := conv_1 C Wr wr.heap.size (by rw [← hWr, cell_at (new_at _ _)]; rfl)
            have hWW := HW.out.below (show Below wr.heap.size wr Wr by rw [← hWr]; exact below_new _ _)
            obtain ⟨u0, u1, -⟩ := hWW.boxes
            have g1 : (1 : Int) < (ol.length : Int) := by omega
            have HW := Lib.hid hWW
            clear hWW hx1 hobl
            obtain ⟨T, hT⟩ : ∃ T, 25 + D.length + data.length + 1 = T := ⟨_, rfl⟩
            obtain ⟨B5, hB5⟩ : ∃ B, 25 + D.length = B := ⟨_, rfl⟩
            have y1 := digsN_len 5 T
            have y2 := digsN_len 5 B5
            have hP : layM C ⟨rk, rl, fs⟩ D data = layM C ⟨rk, rl, fs⟩ D data := rfl
            revert hP
            conv => lhs; rhs; unfold layM
            simp only
            rw [hT, hB5]
            intro hP
            have s1 := add_str (digsN T 5) ([C]) (by (try simp only [List.length_cons, List.length_nil]); omega)
            obtain ⟨P1, hP1⟩ : ∃ P, digsN T 5 ++ [C] = P := ⟨_, rfl⟩
            have p1 : P1.length ≤ 30 := by rw [← hP1, List.length_append]; (try simp only [List.length_cons, List.length_nil]); omega
            rw [hP1] at s1 hP
            clear hP1
            have s2 := add_str (P1) ([rk, rl]) (by (try simp only [List.length_cons, List.length_nil]); omega)
            obtain ⟨P2, hP2⟩ : ∃ P, P1 ++ [rk, rl] = P := ⟨_, rfl⟩
            have p2 : P2.length ≤ 40 := by rw [← hP2, List.length_append]; (try simp only [List.length_cons, List.length_nil]); omega
            rw [hP2] at s2 hP
            clear hP2
            have s3 := add_str (P2) ([C]) (by (try simp only [List.length_cons, List.length_nil]); omega)
            obtain ⟨P3, hP3⟩ : ∃ P, P2 ++ [C] = P := ⟨_, rfl⟩
            have p3 : P3.length ≤ 50 := by rw [← hP3, List.length_append]; (try simp only [List.length_cons, List.length_nil]); omega
            rw [hP3] at s3 hP
            clear hP3
            have s4 := add_str (P3) ([97, 50, 50]) (by (try simp only [List.length_cons, List.length_nil]); omega)
            obtain ⟨P4, hP4⟩ : ∃ P, P3 ++ [97, 50, 50] = P := ⟨_, rfl⟩
            have p4 : P4.length ≤ 60 := by rw [← hP4, List.length_append]; (try simp only [List.length_cons, List.length_nil]); omega
            rw [hP4] at s4 hP
            clear hP4
            have s5 := add_str (P4) (digsN B5 5) (by (try simp only [List.length_cons, List.length_nil]); omega)
            obtain ⟨P5, hP5⟩ : ∃ P, P4 ++ digsN B5 5 = P := ⟨_, rfl⟩
            have p5 : P5.length ≤ 70 := by rw [← hP5, List.length_append]; (try simp only [List.length_cons, List.length_nil]); omega
            rw [hP5] at s5 hP
            clear hP5
            have s6 := add_str (P5) ([C]) (by (try simp only [List.length_cons, List.length_nil]); omega)
            obtain ⟨P6, hP6⟩ : ∃ P, P5 ++ [C] = P := ⟨_, rfl⟩
            have p6 : P6.length ≤ 80 := by rw [← hP6, List.length_append]; (try simp only [List.length_cons, List.length_nil]); omega
            rw [hP6] at s6 hP
            clear hP6
            have s7 := add_str (P6) ([120]) (by (try simp only [List.length_cons, List.length_nil]); omega)
            obtain ⟨P7, hP7⟩ : ∃ P, P6 ++ [120] = P := ⟨_, rfl⟩
            have p7 : P7.length ≤ 90 := by rw [← hP7, List.length_append]; (try simp only [List.length_cons, List.length_nil]); omega
            rw [hP7] at s7 hP
            clear hP7
            have s8 := add_str (P7) ([C]) (by (try simp only [List.length_cons, List.length_nil]); omega)
            obtain ⟨P8, hP8⟩ : ∃ P, P7 ++ [C] = P := ⟨_, rfl⟩
            have p8 : P8.length ≤ 100 := by rw [← hP8, List.length_append]; (try simp only [List.length_cons, List.length_nil]); omega
            rw [hP8] at s8 hP
            clear hP8
            have s9 := add_str (P8) ([52, 53, 48, 48]) (by (try simp only [List.length_cons, List.length_nil]); omega)
            obtain ⟨P9, hP9⟩ : ∃ P, P8 ++ [52, 53, 48, 48] = P := ⟨_, rfl⟩
            have p9 : P9.length ≤ 110 := by rw [← hP9, List.length_append]; (try simp only [List.length_cons, List.length_nil]); omega
            rw [hP9] at s9 hP
            clear hP9
            have s10 := add_str (P9) (D) (by (try simp only [List.length_cons, List.length_nil]); omega)
            obtain ⟨P10, hP10⟩ : ∃ P, P9 ++ D = P := ⟨_, rfl⟩
            have p10 : P10.length ≤ 6120 := by rw [← hP10, List.length_append]; (try simp only [List.length_cons, List.length_nil]); omega
            rw [hP10] at s10 hP
            clear hP10
            have s11 := add_str (P10) ([30]) (by (try simp only [List.length_cons, List.length_nil]); omega)
            obtain ⟨P11, hP11⟩ : ∃ P, P10 ++ [30] = P := ⟨_, rfl⟩
            have p11 : P11.length ≤ 6130 := by rw [← hP11, List.length_append]; (try simp only [List.length_cons, List.length_nil]); omega
            rw [hP11] at s11 hP
            clear hP11
            have s12 := add_str (P11) (data) (by (try simp only [List.length_cons, List.length_nil]); omega)
            obtain ⟨P12, hP12⟩ : ∃ P, P11 ++ data = P := ⟨_, rfl⟩
            have p12 : P12.length ≤ 16140 := by rw [← hP12, List.length_append]; (try simp only [List.length_cons, List.length_nil]); omega
            rw [hP12] at s12 hP
            clear hP12
            have s13 := add_str (P12) ([29]) (by (try simp only [List.length_cons, List.length_nil]); omega)
            obtain ⟨P13, hP13⟩ : ∃ P, P12 ++ [29] = P := ⟨_, rfl⟩
            have p13 : P13.length ≤ 16150 := by rw [← hP13, List.length_append]; (try simp only [List.length_cons, List.length_nil]); omega
            rw [hP13] at s13 hP
            clear hP13
            have HP := Lib.hid hP
            have M1 := Lib.hid (fun W (h : Below Wr.heap.size Wr W) => fixI 5 T (25 + (D.length : Int) + (data.length : Int) + 1) (by decide) (by omega) (by omega) Wr.heap.size Wr W h h.size)
            have M2 := Lib.hid (fun W (h : Below Wr.heap.size Wr W) => fixI 5 B5 (25 + (D.length : Int)) (by decide) (by omega) (by omega) Wr.heap.size Wr W h h.size)
            have wr1 : IntKind.i64.wrap (25 + (D.length : Int)) = 25 + (D.length : Int) := wrapI _ (by omega) (by omega)
            have wr2 : IntKind.i64.wrap (25 + (D.length : Int) + (data.length : Int)) = 25 + (D.length : Int) + (data.length : Int) := wrapI _ (by omega) (by omega)
            have wr3 : IntKind.i64.wrap (25 + (D.length : Int) + (data.length : Int) + 1) = 25 + (D.length : Int) + (data.length : Int) + 1 := wrapI _ (by omega) (by omega)
            clear hP p1 p2 p3 p4 p5 p6 p7 p8 p9 p10 p11 p12 p13 y1 y2 hT hB5
            go_upto_region 27 with fail
            obtain ⟨S, hSd⟩ : ∃ S : World → Prop, S = (fun w' => Below Wr.heap.size Wr w') := ⟨_, rfl⟩
            have hSb : ∀ w', S w' → Below Wr.heap.size Wr w' := fun w' h => by rw [hSd] at h; exact h
            have hSm : ∀ w5 : World, Below Wr.heap.size Wr w5 → S w5 := fun w5 h => by rw [hSd]; exact h
            have hS0 : S Wr.drew := hSm _ (Below.refl _ _).drew
            clear hSd
            refine wp_region_C 34 34 S rfl rfl ?_
            refine wpAnyC_takeD 0 120 (.int .i64 (25 + (D.length : Int))) rfl rfl rfl (by kernel_rfl) (by kernel_rfl) (by kernel_rfl) (by kernel_rfl) (fun _ _ _ h => h) (fun w5 hw5 => ?_) hS0 ?_
            · skip
              simp only [List.getElem_toArray, List.getElem_cons_zero, List.getElem_cons_succ]
              go_simp
            try simp only [Act.put, List.setIfInBounds_toArray, List.set_cons_zero, List.set_cons_succ]
            refine wpAnyC_takeD 1 121 (str data) rfl rfl rfl (by kernel_rfl) (by kernel_rfl) (by kernel_rfl) (by kernel_rfl) (fun _ _ _ h => h) (fun w5 hw5 => ?_) hS0 ?_
            · skip
              simp only [List.getElem_toArray, List.getElem_cons_zero, List.getElem_cons_succ]
              go_simp
            try simp only [Act.put, List.setIfInBounds_toArray, List.set_cons_zero, List.set_cons_succ]
            refine wpAnyC_takeD 2 122 (.int .i64 (data.length : Nat)) rfl rfl rfl (by kernel_rfl) (by kernel_rfl) (by kernel_rfl) (by kernel_rfl) (fun _ _ _ h => h) (fun w5 hw5 => ?_) hS0 ?_
            · skip
              simp only [List.getElem_toArray, List.getElem_cons_zero, List.getElem_cons_succ]
              go_simp
            try simp only [Act.put, List.setIfInBounds_toArray, List.set_cons_zero, List.set_cons_succ]
            refine wpAnyC_takeD 3 123 (.int .i64 (25 + (D.length : Int) + (data.length : Int))) rfl rfl rfl (by kernel_rfl) (by kernel_rfl) (by kernel_rfl) (by kernel_rfl) (fun _ _ _ h => h) (fun w5 hw5 => ?_) hS0 ?_
            · skip
              simp only [List.getElem_toArray, List.getElem_cons_zero, List.getElem_cons_succ]
              go_simp
            try simp only [Act.put, List.setIfInBounds_toArray, List.set_cons_zero, List.set_cons_succ]
            refine wpAnyC_takeD 4 124 (.int .i64 (25 + (D.length : Int) + (data.length : Int) + 1)) rfl rfl rfl (by kernel_rfl) (by kernel_rfl) (by kernel_rfl) (by kernel_rfl) (fun _ _ _ h => h) (fun w5 hw5 => ?_) hS0 ?_
            · skip
              simp only [List.getElem_toArray, List.getElem_cons_zero, List.getElem_cons_succ]
              go_simp
            try simp only [Act.put, List.setIfInBounds_toArray, List.set_cons_zero, List.set_cons_succ]
            refine wpAnyC_takeD 6 126 (str [C]) rfl rfl rfl (by kernel_rfl) (by kernel_rfl) (by kernel_rfl) (by kernel_rfl) (fun _ _ _ h => h) (fun w5 hw5 => ?_) hS0 ?_
            · skip
              simp only [List.getElem_toArray, List.getElem_cons_zero, List.getElem_cons_succ]
              go_simp
            try simp only [Act.put, List.setIfInBounds_toArray, List.set_cons_zero, List.set_cons_succ]
            refine wpAnyC_takeD 8 128 (.pointer (some ⟨w.heap.size, 0, none⟩)) rfl rfl rfl (by kernel_rfl) (by kernel_rfl) (by kernel_rfl) (by kernel_rfl) (fun _ _ _ h => h) (fun w5 hw5 => ?_) hS0 ?_
            · skip
              simp only [List.getElem_toArray, List.getElem_cons_zero, List.getElem_cons_succ]
              go_simp
            try simp only [Act.put, List.setIfInBounds_toArray, List.set_cons_zero, List.set_cons_succ]
            refine wpAnyC_takeD 9 129 (.int .u8 (rk.toNat : Int)) rfl rfl rfl (by kernel_rfl) (by kernel_rfl) (by kernel_rfl) (by kernel_rfl) (fun _ _ _ h => h) (fun w5 hw5 => ?_) hS0 ?_
            · have hq := hSb w5 hw5; have z0 := cell_below hq (Nat.le_refl _) u0
              simp only [List.getElem_toArray, List.getElem_cons_zero, List.getElem_cons_succ]
              go_simp
            try simp only [Act.put, List.setIfInBounds_toArray, List.set_cons_zero, List.set_cons_succ]
            refine wpAnyC_takeD 10 130 (.pointer (some ⟨w.heap.size, 1, none⟩)) rfl rfl rfl (by kernel_rfl) (by kernel_rfl) (by kernel_rfl) (by kernel_rfl) (fun _ _ _ h => h) (fun w5 hw5 => ?_) hS0 ?_
            · skip
              simp only [List.getElem_toArray, List.getElem_cons_zero, List.getElem_cons_succ]
              go_simp
            try simp only [Act.put, List.setIfInBounds_toArray, List.set_cons_zero, List.set_cons_succ]
            refine wpAnyC_takeD 11 131 (.int .u8 (rl.toNat : Int)) rfl rfl rfl (by kernel_rfl) (by kernel_rfl) (by kernel_rfl) (by kernel_rfl) (fun _ _ _ h => h) (fun w5 hw5 => ?_) hS0 ?_
            · have hq := hSb w5 hw5; have z0 := cell_below hq (Nat.le_refl _) u1
              simp only [List.getElem_toArray, List.getElem_cons_zero, List.getElem_cons_succ]
              go_simp
            try simp only [Act.put, List.setIfInBounds_toArray, List.set_cons_zero, List.set_cons_succ]
            refine wpAnyC_takeD 15 135 (str [C]) rfl rfl rfl (by kernel_rfl) (by kernel_rfl) (by kernel_rfl) (by kernel_rfl) (fun _ _ _ h => h) (fun w5 hw5 => ?_) hS0 ?_
            · skip
              simp only [List.getElem_toArray, List.getElem_cons_zero, List.getElem_cons_succ]
              go_simp
            try simp only [Act.put, List.setIfInBounds_toArray, List.set_cons_zero, List.set_cons_succ]
            refine wpAnyC_takeD 18 138 (.int .i64 (25 + (D.length : Int))) rfl rfl rfl (by kernel_rfl) (by kernel_rfl) (by kernel_rfl) (by kernel_rfl) (fun _ _ _ h => h) (fun w5 hw5 => ?_) hS0 ?_
            · skip
              simp only [List.getElem_toArray, List.getElem_cons_zero, List.getElem_cons_succ]
              go_simp
            try simp only [Act.put, List.setIfInBounds_toArray, List.set_cons_zero, List.set_cons_succ]
            refine wpAnyC_takeD 21 141 (str [C]) rfl rfl rfl (by kernel_rfl) (by kernel_rfl) (by kernel_rfl) (by kernel_rfl) (fun _ _ _ h => h) (fun w5 hw5 => ?_) hS0 ?_
            · skip
              simp only [List.getElem_toArray, List.getElem_cons_zero, List.getElem_cons_succ]
              go_simp
            try simp only [Act.put, List.setIfInBounds_toArray, List.set_cons_zero, List.set_cons_succ]
            refine wpAnyC_takeD 24 144 (str [C]) rfl rfl rfl (by kernel_rfl) (by kernel_rfl) (by kernel_rfl) (by kernel_rfl) (fun _ _ _ h => h) (fun w5 hw5 => ?_) hS0 ?_
            · skip
              simp only [List.getElem_toArray, List.getElem_cons_zero, List.getElem_cons_succ]
              go_simp
            try simp only [Act.put, List.setIfInBounds_toArray, List.set_cons_zero, List.set_cons_succ]
            refine wpAnyC_takeD 27 147 (str D) rfl rfl rfl (by kernel_rfl) (by kernel_rfl) (by kernel_rfl) (by kernel_rfl) (fun _ _ _ h => h) (fun w5 hw5 => ?_) hS0 ?_
            · skip
              simp only [List.getElem_toArray, List.getElem_cons_zero, List.getElem_cons_succ]
              go_simp
            try simp only [Act.put, List.setIfInBounds_toArray, List.set_cons_zero, List.set_cons_succ]
            refine wpAnyC_takeD 30 150 (str data) rfl rfl rfl (by kernel_rfl) (by kernel_rfl) (by kernel_rfl) (by kernel_rfl) (fun _ _ _ h => h) (fun w5 hw5 => ?_) hS0 ?_
            · skip
              simp only [List.getElem_toArray, List.getElem_cons_zero, List.getElem_cons_succ]
              go_simp
            try simp only [Act.put, List.setIfInBounds_toArray, List.set_cons_zero, List.set_cons_succ]
            refine wpAnyC_two (i := 5) (j := 12) rfl rfl (by kernel_rfl) (fun K hK => ?_) (fun K hK => ?_)
            · skip
              simp only [List.getElem_toArray, List.getElem_cons_zero, List.getElem_cons_succ]
              go_simp
              go_wp2_with fail
              refine (M1.out _ (hSb _ hS0)).mono ?_
              rintro _ WM1 ⟨rfl, hbM1, hBM1⟩
              go_wp2_with fail
              have hTM1 := hSm _ hbM1
              refine hK _ _ (fun _ => hTM1) ?_
              clear hK
              try simp only [Act.put, List.setIfInBounds_toArray, List.set_cons_zero, List.set_cons_succ]
              refine wpAnyC_takeD 7 127 (str P1) rfl rfl rfl (by kernel_rfl) (by kernel_rfl) (by kernel_rfl) (by kernel_rfl) (fun _ _ _ h => h) (fun w5 hw5 => ?_) hTM1 ?_
              · skip
                simp only [List.getElem_toArray, List.getElem_cons_zero, List.getElem_cons_succ]
                go_simp
              try simp only [Act.put, List.setIfInBounds_toArray, List.set_cons_zero, List.set_cons_succ]
              refine wpAnyC_two (i := 12) (j := 19) rfl rfl (by kernel_rfl) (fun K hK => ?_) (fun K hK => ?_)
              · skip
                simp only [List.getElem_toArray, List.getElem_cons_zero, List.getElem_cons_succ]
                go_simp
                have hbA : Below Wr.heap.size Wr (WM1.alloc (.cells #[.int .u8 (rk.toNat : Int), .int .u8 (rl.toNat : Int)] 5)) := (hSb _ hTM1).alloc (hSb _ hTM1).size _
                have hcA := new_at WM1 (.cells #[.int .u8 (rk.toNat : Int), .int .u8 (rl.toNat : Int)] 5)
                obtain ⟨WA, hWA⟩ : ∃ WA, WM1.alloc (.cells #[.int .u8 (rk.toNat : Int), .int .u8 (rl.toNat : Int)] 5) = WA := ⟨_, rfl⟩
                rw [hWA] at hbA hcA
                rw [hWA]
                obtain ⟨gA, hgA⟩ : ∃ gA, WM1.heap.size = gA := ⟨_, rfl⟩
                have hcell0 : WA.cell? ⟨gA, 0, none⟩ = some (.int .u8 (rk.toNat : Int)) := by rw [← hgA]; exact (by rw [cell_at hcA]; rfl)
                have hcell1 : WA.cell? ⟨gA, 1, none⟩ = some (.int .u8 (rl.toNat : Int)) := by rw [← hgA]; exact (by rw [cell_at hcA]; rfl)
                obtain ⟨S5, hSd5⟩ : ∃ S5 : World → Prop, S5 = (fun w' => S w' ∧ w'.cell? ⟨gA, 0, none⟩ = some (.int .u8 (rk.toNat : Int)) ∧ w'.cell? ⟨gA, 1, none⟩ = some (.int .u8 (rl.toNat : Int))) := ⟨_, rfl⟩
                have hSn : ∀ w5 : World, Below Wr.heap.size Wr w5 → w5.cell? ⟨gA, 0, none⟩ = some (.int .u8 (rk.toNat : Int)) → w5.cell? ⟨gA, 1, none⟩ = some (.int .u8 (rl.toNat : Int)) → S5 w5 := fun w5 h1 h2 h3 => by rw [hSd5]; exact ⟨hSm _ h1, h2, h3⟩
                have hSo : ∀ w', S5 w' → S w' := fun w' h => by rw [hSd5] at h; exact h.1
                have hSc : ∀ w', S5 w' → (convert 42 9 (.slice (some ⟨gA, 0, none⟩) 2 2)).run Tryd.prog w' = .ok (str [rk, rl]) w' := fun w' h => by rw [hSd5] at h; exact conv_2 rk rl w' gA h.2.1 h.2.2
                have hSb5 : ∀ w', S5 w' → Below Wr.heap.size Wr w' := fun w' h => hSb _ (hSo _ h)
                have hTA := hSn _ hbA hcell0 hcell1
                refine hK _ _ (fun _ => hSm _ hbA) ?_
                clear hK hSd5
                refine wpAnyC_strong (S1 := S5) hSo _ _ _ _ ?_
                simp only [hgA]
                clear hWA hgA hcA
                refine wpAnyC_takeD 13 133 (str [rk, rl]) rfl rfl rfl (by kernel_rfl) (by kernel_rfl) (by kernel_rfl) (by kernel_rfl) (fun _ _ _ h => h) (fun w5 hw5 => ?_) hTA ?_
                · have z9 := hSc w5 hw5
                  simp only [List.getElem_toArray, List.getElem_cons_zero, List.getElem_cons_succ]
                  go_simp
                try simp only [Act.put, List.setIfInBounds_toArray, List.set_cons_zero, List.set_cons_succ]
                refine wpAnyC_takeD 14 134 (str P2) rfl rfl rfl (by kernel_rfl) (by kernel_rfl) (by kernel_rfl) (by kernel_rfl) (fun _ _ _ h => h) (fun w5 hw5 => ?_) hTA ?_
                · skip
                  simp only [List.getElem_toArray, List.getElem_cons_zero, List.getElem_cons_succ]
                  go_simp
                try simp only [Act.put, List.setIfInBounds_toArray, List.set_cons_zero, List.set_cons_succ]
                refine wpAnyC_takeD 16 136 (str P3) rfl rfl rfl (by kernel_rfl) (by kernel_rfl) (by kernel_rfl) (by kernel_rfl) (fun _ _ _ h => h) (fun w5 hw5 => ?_) hTA ?_
                · skip
                  simp only [List.getElem_toArray, List.getElem_cons_zero, List.getElem_cons_succ]
                  go_simp
                try simp only [Act.put, List.setIfInBounds_toArray, List.set_cons_zero, List.set_cons_succ]
                refine wpAnyC_takeD 17 137 (str P4) rfl rfl rfl (by kernel_rfl) (by kernel_rfl) (by kernel_rfl) (by kernel_rfl) (fun _ _ _ h => h) (fun w5 hw5 => ?_) hTA ?_
                · skip
                  simp only [List.getElem_toArray, List.getElem_cons_zero, List.getElem_cons_succ]
                  go_simp
                try simp only [Act.put, List.setIfInBounds_toArray, List.set_cons_zero, List.set_cons_succ]
                refine wpAnyC_step (k := 19) rfl (by kernel_rfl) (fun K hK => ?_)
                simp only [List.getElem_toArray, List.getElem_cons_zero, List.getElem_cons_succ]
                go_simp
                go_wp2_with fail
                refine (M2.out _ (hSb5 _ hTA)).mono ?_
                rintro _ WM2 ⟨rfl, hbM2, hBM2⟩
                go_wp2_with fail
                have hTM2 := hSn _ hbM2 (cell_below hBM2 (Nat.le_refl _) hcell0) (cell_below hBM2 (Nat.le_refl _) hcell1)
                refine hK _ _ (fun _ => hTM2) ?_
                clear hK
                try simp only [Act.put, List.setIfInBounds_toArray, List.set_cons_zero, List.set_cons_succ]
                refine wpAnyC_takeD 20 140 (str P5) rfl rfl rfl (by kernel_rfl) (by kernel_rfl) (by kernel_rfl) (by kernel_rfl) (fun _ _ _ h => h) (fun w5 hw5 => ?_) hTM2 ?_
                · skip
                  simp only [List.getElem_toArray, List.getElem_cons_zero, List.getElem_cons_succ]
                  go_simp
                try simp only [Act.put, List.setIfInBounds_toArray, List.set_cons_zero, List.set_cons_succ]
                refine wpAnyC_takeD 22 142 (str P6) rfl rfl rfl (by kernel_rfl) (by kernel_rfl) (by kernel_rfl) (by kernel_rfl) (fun _ _ _ h => h) (fun w5 hw5 => ?_) hTM2 ?_
                · skip
                  simp only [List.getElem_toArray, List.getElem_cons_zero, List.getElem_cons_succ]
                  go_simp
                try simp only [Act.put, List.setIfInBounds_toArray, List.set_cons_zero, List.set_cons_succ]
                refine wpAnyC_takeD 23 143 (str P7) rfl rfl rfl (by kernel_rfl) (by kernel_rfl) (by kernel_rfl) (by kernel_rfl) (fun _ _ _ h => h) (fun w5 hw5 => ?_) hTM2 ?_
                · skip
                  simp only [List.getElem_toArray, List.getElem_cons_zero, List.getElem_cons_succ]
                  go_simp
                try simp only [Act.put, List.setIfInBounds_toArray, List.set_cons_zero, List.set_cons_succ]
                refine wpAnyC_takeD 25 145 (str P8) rfl rfl rfl (by kernel_rfl) (by kernel_rfl) (by kernel_rfl) (by kernel_rfl) (fun _ _ _ h => h) (fun w5 hw5 => ?_) hTM2 ?_
                · skip
                  simp only [List.getElem_toArray, List.getElem_cons_zero, List.getElem_cons_succ]
                  go_simp
                try simp only [Act.put, List.setIfInBounds_toArray, List.set_cons_zero, List.set_cons_succ]
                refine wpAnyC_takeD 26 146 (str P9) rfl rfl rfl (by kernel_rfl) (by kernel_rfl) (by kernel_rfl) (by kernel_rfl) (fun _ _ _ h => h) (fun w5 hw5 => ?_) hTM2 ?_
                · skip
                  simp only [List.getElem_toArray, List.getElem_cons_zero, List.getElem_cons_succ]
                  go_simp
                try simp only [Act.put, List.setIfInBounds_toArray, List.set_cons_zero, List.set_cons_succ]
                refine wpAnyC_takeD 28 148 (str P10) rfl rfl rfl (by kernel_rfl) (by kernel_rfl) (by kernel_rfl) (by kernel_rfl) (fun _ _ _ h => h) (fun w5 hw5 => ?_) hTM2 ?_
                · skip
                  simp only [List.getElem_toArray, List.getElem_cons_zero, List.getElem_cons_succ]
                  go_simp
                try simp only [Act.put, List.setIfInBounds_toArray, List.set_cons_zero, List.set_cons_succ]
                refine wpAnyC_takeD 29 149 (str P11) rfl rfl rfl (by kernel_rfl) (by kernel_rfl) (by kernel_rfl) (by kernel_rfl) (fun _ _ _ h => h) (fun w5 hw5 => ?_) hTM2 ?_
                · skip
                  simp only [List.getElem_toArray, List.getElem_cons_zero, List.getElem_cons_succ]
                  go_simp
                try simp only [Act.put, List.setIfInBounds_toArray, List.set_cons_zero, List.set_cons_succ]
                refine wpAnyC_takeD 31 151 (str P12) rfl rfl rfl (by kernel_rfl) (by kernel_rfl) (by kernel_rfl) (by kernel_rfl) (fun _ _ _ h => h) (fun w5 hw5 => ?_) hTM2 ?_
                · skip
                  simp only [List.getElem_toArray, List.getElem_cons_zero, List.getElem_cons_succ]
                  go_simp
                try simp only [Act.put, List.setIfInBounds_toArray, List.set_cons_zero, List.set_cons_succ]
                refine wpAnyC_takeD 32 152 (str P13) rfl rfl rfl (by kernel_rfl) (by kernel_rfl) (by kernel_rfl) (by kernel_rfl) (fun _ _ _ h => h) (fun w5 hw5 => ?_) hTM2 ?_
                · skip
                  simp only [List.getElem_toArray, List.getElem_cons_zero, List.getElem_cons_succ]
                  go_simp
                try simp only [Act.put, List.setIfInBounds_toArray, List.set_cons_zero, List.set_cons_succ]
                refine wpAnyC_takeD 33 4 (str P13) rfl rfl rfl (by kernel_rfl) (by kernel_rfl) (by kernel_rfl) (by kernel_rfl) (fun _ _ _ h => h) (fun w5 hw5 => ?_) hTM2 ?_
                · skip
                  simp only [List.getElem_toArray, List.getElem_cons_zero, List.getElem_cons_succ]
                  go_simp
                try simp only [Act.put, List.setIfInBounds_toArray, List.set_cons_zero, List.set_cons_succ]
                refine wpAnyC_done (by kernel_rfl) ?_
                have Hbz := Lib.hid (HW.out.bel.trans ((hbM2).mono HW.out.bel.size))
                clear hS0 hSb hSm hSn hSo hSc hSb5
                go_wp2
                go_ret
                exact ⟨C, at', data, by show Ending.returned (str P13) = _; rw [HDD.out, HP.out], Hlay.out.1, Hlay.out.2.1, Hlay.out.2.2, Hbz.out⟩
              · skip
                simp only [List.getElem_toArray, List.getElem_cons_zero, List.getElem_cons_succ]
                go_simp
                go_wp2_with fail
                refine (M2.out _ (hSb _ hTM1)).mono ?_
                rintro _ WM2 ⟨rfl, hbM2, hBM2⟩
                go_wp2_with fail
                have hTM2 := hSm _ hbM2
                refine hK _ _ (fun _ => hTM2) ?_
                clear hK
                try simp only [Act.put, List.setIfInBounds_toArray, List.set_cons_zero, List.set_cons_succ]
                refine wpAnyC_step (k := 12) rfl (by kernel_rfl) (fun K hK => ?_)
                simp only [List.getElem_toArray, List.getElem_cons_zero, List.getElem_cons_succ]
                go_simp
                have hbA : Below Wr.heap.size Wr (WM2.alloc (.cells #[.int .u8 (rk.toNat : Int), .int .u8 (rl.toNat : Int)] 5)) := (hSb _ hTM2).alloc (hSb _ hTM2).size _
                have hcA := new_at WM2 (.cells #[.int .u8 (rk.toNat : Int), .int .u8 (rl.toNat : Int)] 5)
                obtain ⟨WA, hWA⟩ : ∃ WA, WM2.alloc (.cells #[.int .u8 (rk.toNat : Int), .int .u8 (rl.toNat : Int)] 5) = WA := ⟨_, rfl⟩
                rw [hWA] at hbA hcA
                rw [hWA]
                obtain ⟨gA, hgA⟩ : ∃ gA, WM2.heap.size = gA := ⟨_, rfl⟩
                have hcell0 : WA.cell? ⟨gA, 0, none⟩ = some (.int .u8 (rk.toNat : Int)) := by rw [← hgA]; exact (by rw [cell_at hcA]; rfl)
                have hcell1 : WA.cell? ⟨gA, 1, none⟩ = some (.int .u8 (rl.toNat : Int)) := by rw [← hgA]; exact (by rw [cell_at hcA]; rfl)
                obtain ⟨S5, hSd5⟩ : ∃ S5 : World → Prop, S5 = (fun w' => S w' ∧ w'.cell? ⟨gA, 0, none⟩ = some (.int .u8 (rk.toNat : Int)) ∧ w'.cell? ⟨gA, 1, none⟩ = some (.int .u8 (rl.toNat : Int))) := ⟨_, rfl⟩
                have hSn : ∀ w5 : World, Below Wr.heap.size Wr w5 → w5.cell? ⟨gA, 0, none⟩ = some (.int .u8 (rk.toNat : Int)) → w5.cell? ⟨gA, 1, none⟩ = some (.int .u8 (rl.toNat : Int)) → S5 w5 := fun w5 h1 h2 h3 => by rw [hSd5]; exact ⟨hSm _ h1, h2, h3⟩
                have hSo : ∀ w', S5 w' → S w' := fun w' h => by rw [hSd5] at h; exact h.1
                have hSc : ∀ w', S5 w' → (convert 42 9 (.slice (some ⟨gA, 0, none⟩) 2 2)).run Tryd.prog w' = .ok (str [rk, rl]) w' := fun w' h => by rw [hSd5] at h; exact conv_2 rk rl w' gA h.2.1 h.2.2
                have hSb5 : ∀ w', S5 w' → Below Wr.heap.size Wr w' := fun w' h => hSb _ (hSo _ h)
                have hTA := hSn _ hbA hcell0 hcell1
                refine hK _ _ (fun _ => hSm _ hbA) ?_
                clear hK hSd5
                refine wpAnyC_strong (S1 := S5) hSo _ _ _ _ ?_
                simp only [hgA]
                clear hWA hgA hcA
                refine wpAnyC_takeD 13 133 (str [rk, rl]) rfl rfl rfl (by kernel_rfl) (by kernel_rfl) (by kernel_rfl) (by kernel_rfl) (fun _ _ _ h => h) (fun w5 hw5 => ?_) hTA ?_
                · have z9 := hSc w5 hw5
                  simp only [List.getElem_toArray, List.getElem_cons_zero, List.getElem_cons_succ]
                  go_simp
                try simp only [Act.put, List.setIfInBounds_toArray, List.set_cons_zero, List.set_cons_succ]
                refine wpAnyC_takeD 14 134 (str P2) rfl rfl rfl (by kernel_rfl) (by kernel_rfl) (by kernel_rfl) (by kernel_rfl) (fun _ _ _ h => h) (fun w5 hw5 => ?_) hTA ?_
                · skip
                  simp only [List.getElem_toArray, List.getElem_cons_zero, List.getElem_cons_succ]
                  go_simp
                try simp only [Act.put, List.setIfInBounds_toArray, List.set_cons_zero, List.set_cons_succ]
                refine wpAnyC_takeD 16 136 (str P3) rfl rfl rfl (by kernel_rfl) (by kernel_rfl) (by kernel_rfl) (by kernel_rfl) (fun _ _ _ h => h) (fun w5 hw5 => ?_) hTA ?_
                · skip
                  simp only [List.getElem_toArray, List.getElem_cons_zero, List.getElem_cons_succ]
                  go_simp
                try simp only [Act.put, List.setIfInBounds_toArray, List.set_cons_zero, List.set_cons_succ]
                refine wpAnyC_takeD 17 137 (str P4) rfl rfl rfl (by kernel_rfl) (by kernel_rfl) (by kernel_rfl) (by kernel_rfl) (fun _ _ _ h => h) (fun w5 hw5 => ?_) hTA ?_
                · skip
                  simp only [List.getElem_toArray, List.getElem_cons_zero, List.getElem_cons_succ]
                  go_simp
                try simp only [Act.put, List.setIfInBounds_toArray, List.set_cons_zero, List.set_cons_succ]
                refine wpAnyC_takeD 20 140 (str P5) rfl rfl rfl (by kernel_rfl) (by kernel_rfl) (by kernel_rfl) (by kernel_rfl) (fun _ _ _ h => h) (fun w5 hw5 => ?_) hTA ?_
                · skip
                  simp only [List.getElem_toArray, List.getElem_cons_zero, List.getElem_cons_succ]
                  go_simp
                try simp only [Act.put, List.setIfInBounds_toArray, List.set_cons_zero, List.set_cons_succ]
                refine wpAnyC_takeD 22 142 (str P6) rfl rfl rfl (by kernel_rfl) (by kernel_rfl) (by kernel_rfl) (by kernel_rfl) (fun _ _ _ h => h) (fun w5 hw5 => ?_) hTA ?_
                · skip
                  simp only [List.getElem_toArray, List.getElem_cons_zero, List.getElem_cons_succ]
                  go_simp
                try simp only [Act.put, List.setIfInBounds_toArray, List.set_cons_zero, List.set_cons_succ]
                refine wpAnyC_takeD 23 143 (str P7) rfl rfl rfl (by kernel_rfl) (by kernel_rfl) (by kernel_rfl) (by kernel_rfl) (fun _ _ _ h => h) (fun w5 hw5 => ?_) hTA ?_
                · skip
                  simp only [List.getElem_toArray, List.getElem_cons_zero, List.getElem_cons_succ]
                  go_simp
                try simp only [Act.put, List.setIfInBounds_toArray, List.set_cons_zero, List.set_cons_succ]
                refine wpAnyC_takeD 25 145 (str P8) rfl rfl rfl (by kernel_rfl) (by kernel_rfl) (by kernel_rfl) (by kernel_rfl) (fun _ _ _ h => h) (fun w5 hw5 => ?_) hTA ?_
                · skip
                  simp only [List.getElem_toArray, List.getElem_cons_zero, List.getElem_cons_succ]
                  go_simp
                try simp only [Act.put, List.setIfInBounds_toArray, List.set_cons_zero, List.set_cons_succ]
                refine wpAnyC_takeD 26 146 (str P9) rfl rfl rfl (by kernel_rfl) (by kernel_rfl) (by kernel_rfl) (by kernel_rfl) (fun _ _ _ h => h) (fun w5 hw5 => ?_) hTA ?_
                · skip
                  simp only [List.getElem_toArray, List.getElem_cons_zero, List.getElem_cons_succ]
                  go_simp
                try simp only [Act.put, List.setIfInBounds_toArray, List.set_cons_zero, List.set_cons_succ]
                refine wpAnyC_takeD 28 148 (str P10) rfl rfl rfl (by kernel_rfl) (by kernel_rfl) (by kernel_rfl) (by kernel_rfl) (fun _ _ _ h => h) (fun w5 hw5 => ?_) hTA ?_
                · skip
                  simp only [List.getElem_toArray, List.getElem_cons_zero, List.getElem_cons_succ]
                  go_simp
                try simp only [Act.put, List.setIfInBounds_toArray, List.set_cons_zero, List.set_cons_succ]
                refine wpAnyC_takeD 29 149 (str P11) rfl rfl rfl (by kernel_rfl) (by kernel_rfl) (by kernel_rfl) (by kernel_rfl) (fun _ _ _ h => h) (fun w5 hw5 => ?_) hTA ?_
                · skip
                  simp only [List.getElem_toArray, List.getElem_cons_zero, List.getElem_cons_succ]
                  go_simp
                try simp only [Act.put, List.setIfInBounds_toArray, List.set_cons_zero, List.set_cons_succ]
                refine wpAnyC_takeD 31 151 (str P12) rfl rfl rfl (by kernel_rfl) (by kernel_rfl) (by kernel_rfl) (by kernel_rfl) (fun _ _ _ h => h) (fun w5 hw5 => ?_) hTA ?_
                · skip
                  simp only [List.getElem_toArray, List.getElem_cons_zero, List.getElem_cons_succ]
                  go_simp
                try simp only [Act.put, List.setIfInBounds_toArray, List.set_cons_zero, List.set_cons_succ]
                refine wpAnyC_takeD 32 152 (str P13) rfl rfl rfl (by kernel_rfl) (by kernel_rfl) (by kernel_rfl) (by kernel_rfl) (fun _ _ _ h => h) (fun w5 hw5 => ?_) hTA ?_
                · skip
                  simp only [List.getElem_toArray, List.getElem_cons_zero, List.getElem_cons_succ]
                  go_simp
                try simp only [Act.put, List.setIfInBounds_toArray, List.set_cons_zero, List.set_cons_succ]
                refine wpAnyC_takeD 33 4 (str P13) rfl rfl rfl (by kernel_rfl) (by kernel_rfl) (by kernel_rfl) (by kernel_rfl) (fun _ _ _ h => h) (fun w5 hw5 => ?_) hTA ?_
                · skip
                  simp only [List.getElem_toArray, List.getElem_cons_zero, List.getElem_cons_succ]
                  go_simp
                try simp only [Act.put, List.setIfInBounds_toArray, List.set_cons_zero, List.set_cons_succ]
                refine wpAnyC_done (by kernel_rfl) ?_
                have Hbz := Lib.hid (HW.out.bel.trans ((hbA).mono HW.out.bel.size))
                clear hS0 hSb hSm hSn hSo hSc hSb5
                go_wp2
                go_ret
                exact ⟨C, at', data, by show Ending.returned (str P13) = _; rw [HDD.out, HP.out], Hlay.out.1, Hlay.out.2.1, Hlay.out.2.2, Hbz.out⟩
            · skip
              simp only [List.getElem_toArray, List.getElem_cons_zero, List.getElem_cons_succ]
              go_simp
              have hbA : Below Wr.heap.size Wr (Wr.alloc (.cells #[.int .u8 (rk.toNat : Int), .int .u8 (rl.toNat : Int)] 5)).drew := ((Below.refl _ _).alloc (Nat.le_refl _) _).drew
              have hcA : (Wr.alloc (.cells #[.int .u8 (rk.toNat : Int), .int .u8 (rl.toNat : Int)] 5)).drew.heap[Wr.heap.size]? = _ := new_at Wr (.cells #[.int .u8 (rk.toNat : Int), .int .u8 (rl.toNat : Int)] 5)
              obtain ⟨WA, hWA⟩ : ∃ WA, (Wr.alloc (.cells #[.int .u8 (rk.toNat : Int), .int .u8 (rl.toNat : Int)] 5)).drew = WA := ⟨_, rfl⟩
              rw [hWA] at hbA hcA
              rw [hWA]
              obtain ⟨gA, hgA⟩ : ∃ gA, Wr.heap.size = gA := ⟨_, rfl⟩
              have hcell0 : WA.cell? ⟨gA, 0, none⟩ = some (.int .u8 (rk.toNat : Int)) := by rw [← hgA]; exact (by rw [cell_at hcA]; rfl)
              have hcell1 : WA.cell? ⟨gA, 1, none⟩ = some (.int .u8 (rl.toNat : Int)) := by rw [← hgA]; exact (by rw [cell_at hcA]; rfl)
              obtain ⟨S5, hSd5⟩ : ∃ S5 : World → Prop, S5 = (fun w' => S w' ∧ w'.cell? ⟨gA, 0, none⟩ = some (.int .u8 (rk.toNat : Int)) ∧ w'.cell? ⟨gA, 1, none⟩ = some (.int .u8 (rl.toNat : Int))) := ⟨_, rfl⟩
              have hSn : ∀ w5 : World, Below Wr.heap.size Wr w5 → w5.cell? ⟨gA, 0, none⟩ = some (.int .u8 (rk.toNat : Int)) → w5.cell? ⟨gA, 1, none⟩ = some (.int .u8 (rl.toNat : Int)) → S5 w5 := fun w5 h1 h2 h3 => by rw [hSd5]; exact ⟨hSm _ h1, h2, h3⟩
              have hSo : ∀ w', S5 w' → S w' := fun w' h => by rw [hSd5] at h; exact h.1
              have hSc : ∀ w', S5 w' → (convert 42 9 (.slice (some ⟨gA, 0, none⟩) 2 2)).run Tryd.prog w' = .ok (str [rk, rl]) w' := fun w' h => by rw [hSd5] at h; exact conv_2 rk rl w' gA h.2.1 h.2.2
              have hSb5 : ∀ w', S5 w' → Below Wr.heap.size Wr w' := fun w' h => hSb _ (hSo _ h)
              have hTA := hSn _ hbA hcell0 hcell1
              refine hK _ _ (fun _ => hSm _ hbA) ?_
              clear hK hSd5
              refine wpAnyC_strong (S1 := S5) hSo _ _ _ _ ?_
              simp only [hgA]
              clear hWA hgA hcA
              refine wpAnyC_takeD 13 133 (str [rk, rl]) rfl rfl rfl (by kernel_rfl) (by kernel_rfl) (by kernel_rfl) (by kernel_rfl) (fun _ _ _ h => h) (fun w5 hw5 => ?_) hTA ?_
              · have z9 := hSc w5 hw5
                simp only [List.getElem_toArray, List.getElem_cons_zero, List.getElem_cons_succ]
                go_simp
              try simp only [Act.put, List.setIfInBounds_toArray, List.set_cons_zero, List.set_cons_succ]
              refine wpAnyC_step (k := 5) rfl (by kernel_rfl) (fun K hK => ?_)
              simp only [List.getElem_toArray, List.getElem_cons_zero, List.getElem_cons_succ]
              go_simp
              go_wp2_with fail
              refine (M1.out _ (hSb5 _ hTA)).mono ?_
              rintro _ WM1 ⟨rfl, hbM1, hBM1⟩
              go_wp2_with fail
              have hTM1 := hSn _ hbM1 (cell_below hBM1 (Nat.le_refl _) hcell0) (cell_below hBM1 (Nat.le_refl _) hcell1)
              refine hK _ _ (fun _ => hTM1) ?_
              clear hK
              try simp only [Act.put, List.setIfInBounds_toArray, List.set_cons_zero, List.set_cons_succ]
              refine wpAnyC_takeD 7 127 (str P1) rfl rfl rfl (by kernel_rfl) (by kernel_rfl) (by kernel_rfl) (by kernel_rfl) (fun _ _ _ h => h) (fun w5 hw5 => ?_) hTM1 ?_
              · skip
                simp only [List.getElem_toArray, List.getElem_cons_zero, List.getElem_cons_succ]
                go_simp
              try simp only [Act.put, List.setIfInBounds_toArray, List.set_cons_zero, List.set_cons_succ]
              refine wpAnyC_takeD 14 134 (str P2) rfl rfl rfl (by kernel_rfl) (by kernel_rfl) (by kernel_rfl) (by kernel_rfl) (fun _ _ _ h => h) (fun w5 hw5 => ?_) hTM1 ?_
              · skip
                simp only [List.getElem_toArray, List.getElem_cons_zero, List.getElem_cons_succ]
                go_simp
              try simp only [Act.put, List.setIfInBounds_toArray, List.set_cons_zero, List.set_cons_succ]
              refine wpAnyC_takeD 16 136 (str P3) rfl rfl rfl (by kernel_rfl) (by kernel_rfl) (by kernel_rfl) (by kernel_rfl) (fun _ _ _ h => h) (fun w5 hw5 => ?_) hTM1 ?_
              · skip
                simp only [List.getElem_toArray, List.getElem_cons_zero, List.getElem_cons_succ]
                go_simp
              try simp only [Act.put, List.setIfInBounds_toArray, List.set_cons_zero, List.set_cons_succ]
              refine wpAnyC_takeD 17 137 (str P4) rfl rfl rfl (by kernel_rfl) (by kernel_rfl) (by kernel_rfl) (by kernel_rfl) (fun _ _ _ h => h) (fun w5 hw5 => ?_) hTM1 ?_
              · skip
                simp only [List.getElem_toArray, List.getElem_cons_zero, List.getElem_cons_succ]
                go_simp
              try simp only [Act.put, List.setIfInBounds_toArray, List.set_cons_zero, List.set_cons_succ]
              have hcell0 := cell_below hBM1 (Nat.le_refl _) hcell0; have hcell1 := cell_below hBM1 (Nat.le_refl _) hcell1
              refine wpAnyC_step (k := 19) rfl (by kernel_rfl) (fun K hK => ?_)
              simp only [List.getElem_toArray, List.getElem_cons_zero, List.getElem_cons_succ]
              go_simp
              go_wp2_with fail
              refine (M2.out _ (hSb5 _ hTM1)).mono ?_
              rintro _ WM2 ⟨rfl, hbM2, hBM2⟩
              go_wp2_with fail
              have hTM2 := hSn _ hbM2 (cell_below hBM2 (Nat.le_refl _) hcell0) (cell_below hBM2 (Nat.le_refl _) hcell1)
              refine hK _ _ (fun _ => hTM2) ?_
              clear hK
              try simp only [Act.put, List.setIfInBounds_toArray, List.set_cons_zero, List.set_cons_succ]
              refine wpAnyC_takeD 20 140 (str P5) rfl rfl rfl (by kernel_rfl) (by kernel_rfl) (by kernel_rfl) (by kernel_rfl) (fun _ _ _ h => h) (fun w5 hw5 => ?_) hTM2 ?_
              · skip
                simp only [List.getElem_toArray, List.getElem_cons_zero, List.getElem_cons_succ]
                go_simp
              try simp only [Act.put, List.setIfInBounds_toArray, List.set_cons_zero, List.set_cons_succ]
              refine wpAnyC_takeD 22 142 (str P6) rfl rfl rfl (by kernel_rfl) (by kernel_rfl) (by kernel_rfl) (by kernel_rfl) (fun _ _ _ h => h) (fun w5 hw5 => ?_) hTM2 ?_
              · skip
                simp only [List.getElem_toArray, List.getElem_cons_zero, List.getElem_cons_succ]
                go_simp
              try simp only [Act.put, List.setIfInBounds_toArray, List.set_cons_zero, List.set_cons_succ]
              refine wpAnyC_takeD 23 143 (str P7) rfl rfl rfl (by kernel_rfl) (by kernel_rfl) (by kernel_rfl) (by kernel_rfl) (fun _ _ _ h => h) (fun w5 hw5 => ?_) hTM2 ?_
              · skip
                simp only [List.getElem_toArray, List.getElem_cons_zero, List.getElem_cons_succ]
                go_simp
              try simp only [Act.put, List.setIfInBounds_toArray, List.set_cons_zero, List.set_cons_succ]
              refine wpAnyC_takeD 25 145 (str P8) rfl rfl rfl (by kernel_rfl) (by kernel_rfl) (by kernel_rfl) (by kernel_rfl) (fun _ _ _ h => h) (fun w5 hw5 => ?_) hTM2 ?_
              · skip
                simp only [List.getElem_toArray, List.getElem_cons_zero, List.getElem_cons_succ]
                go_simp
              try simp only [Act.put, List.setIfInBounds_toArray, List.set_cons_zero, List.set_cons_succ]
              refine wpAnyC_takeD 26 146 (str P9) rfl rfl rfl (by kernel_rfl) (by kernel_rfl) (by kernel_rfl) (by kernel_rfl) (fun _ _ _ h => h) (fun w5 hw5 => ?_) hTM2 ?_
              · skip
                simp only [List.getElem_toArray, List.getElem_cons_zero, List.getElem_cons_succ]
                go_simp
              try simp only [Act.put, List.setIfInBounds_toArray, List.set_cons_zero, List.set_cons_succ]
              refine wpAnyC_takeD 28 148 (str P10) rfl rfl rfl (by kernel_rfl) (by kernel_rfl) (by kernel_rfl) (by kernel_rfl) (fun _ _ _ h => h) (fun w5 hw5 => ?_) hTM2 ?_
              · skip
                simp only [List.getElem_toArray, List.getElem_cons_zero, List.getElem_cons_succ]
                go_simp
              try simp only [Act.put, List.setIfInBounds_toArray, List.set_cons_zero, List.set_cons_succ]
              refine wpAnyC_takeD 29 149 (str P11) rfl rfl rfl (by kernel_rfl) (by kernel_rfl) (by kernel_rfl) (by kernel_rfl) (fun _ _ _ h => h) (fun w5 hw5 => ?_) hTM2 ?_
              · skip
                simp only [List.getElem_toArray, List.getElem_cons_zero, List.getElem_cons_succ]
                go_simp
              try simp only [Act.put, List.setIfInBounds_toArray, List.set_cons_zero, List.set_cons_succ]
              refine wpAnyC_takeD 31 151 (str P12) rfl rfl rfl (by kernel_rfl) (by kernel_rfl) (by kernel_rfl) (by kernel_rfl) (fun _ _ _ h => h) (fun w5 hw5 => ?_) hTM2 ?_
              · skip
                simp only [List.getElem_toArray, List.getElem_cons_zero, List.getElem_cons_succ]
                go_simp
              try simp only [Act.put, List.setIfInBounds_toArray, List.set_cons_zero, List.set_cons_succ]
              refine wpAnyC_takeD 32 152 (str P13) rfl rfl rfl (by kernel_rfl) (by kernel_rfl) (by kernel_rfl) (by kernel_rfl) (fun _ _ _ h => h) (fun w5 hw5 => ?_) hTM2 ?_
              · skip
                simp only [List.getElem_toArray, List.getElem_cons_zero, List.getElem_cons_succ]
                go_simp
              try simp only [Act.put, List.setIfInBounds_toArray, List.set_cons_zero, List.set_cons_succ]
              refine wpAnyC_takeD 33 4 (str P13) rfl rfl rfl (by kernel_rfl) (by kernel_rfl) (by kernel_rfl) (by kernel_rfl) (fun _ _ _ h => h) (fun w5 hw5 => ?_) hTM2 ?_
              · skip
                simp only [List.getElem_toArray, List.getElem_cons_zero, List.getElem_cons_succ]
                go_simp
              try simp only [Act.put, List.setIfInBounds_toArray, List.set_cons_zero, List.set_cons_succ]
              refine wpAnyC_done (by kernel_rfl) ?_
              have Hbz := Lib.hid (HW.out.bel.trans ((hbM2).mono HW.out.bel.size))
              clear hS0 hSb hSm hSn hSo hSc hSb5
              go_wp2
              go_ret
              exact ⟨C, at', data, by show Ending.returned (str P13) = _; rw [HDD.out, HP.out], Hlay.out.1, Hlay.out.2.1, Hlay.out.2.2, Hbz.out⟩
          · skip
            obtain ⟨Wr, hWr⟩ : ∃ W, W = wr := ⟨_, rfl⟩
            subst hWr
            obtain ⟨u0, u1, -⟩ := HW.out.boxes
            have g1 : ¬ ((1 : Int) < (ol.length : Int)) := by omega
            obtain ⟨T, hT⟩ : ∃ T, 25 + D.length + data.length + 1 = T := ⟨_, rfl⟩
            obtain ⟨B5, hB5⟩ : ∃ B, 25 + D.length = B := ⟨_, rfl⟩
            have y1 := digsN_len 5 T
            have y2 := digsN_len 5 B5
            have hP : layM 99 ⟨rk, rl, fs⟩ D data = layM 99 ⟨rk, rl, fs⟩ D data := rfl
            revert hP
            conv => lhs; rhs; unfold layM
            simp only
            rw [hT, hB5]
            intro hP
            have s1 := add_str (digsN T 5) ([99]) (by (try simp only [List.length_cons, List.length_nil]); omega)
            obtain ⟨P1, hP1⟩ : ∃ P, digsN T 5 ++ [99] = P := ⟨_, rfl⟩
            have p1 : P1.length ≤ 30 := by rw [← hP1, List.length_append]; (try simp only [List.length_cons, List.length_nil]); omega
            rw [hP1] at s1 hP
            clear hP1
            have s2 := add_str (P1) ([rk, rl]) (by (try simp only [List.length_cons, List.length_nil]); omega)
            obtain ⟨P2, hP2⟩ : ∃ P, P1 ++ [rk, rl] = P := ⟨_, rfl⟩
            have p2 : P2.length ≤ 40 := by rw [← hP2, List.length_append]; (try simp only [List.length_cons, List.length_nil]); omega
            rw [hP2] at s2 hP
            clear hP2
            have s3 := add_str (P2) ([99]) (by (try simp only [List.length_cons, List.length_nil]); omega)
            obtain ⟨P3, hP3⟩ : ∃ P, P2 ++ [99] = P := ⟨_, rfl⟩
            have p3 : P3.length ≤ 50 := by rw [← hP3, List.length_append]; (try simp only [List.length_cons, List.length_nil]); omega
            rw [hP3] at s3 hP
            clear hP3
            have s4 := add_str (P3) ([97, 50, 50]) (by (try simp only [List.length_cons, List.length_nil]); omega)
            obtain ⟨P4, hP4⟩ : ∃ P, P3 ++ [97, 50, 50] = P := ⟨_, rfl⟩
            have p4 : P4.length ≤ 60 := by rw [← hP4, List.length_append]; (try simp only [List.length_cons, List.length_nil]); omega
            rw [hP4] at s4 hP
            clear hP4
            have s5 := add_str (P4) (digsN B5 5) (by (try simp only [List.length_cons, List.length_nil]); omega)
            obtain ⟨P5, hP5⟩ : ∃ P, P4 ++ digsN B5 5 = P := ⟨_, rfl⟩
            have p5 : P5.length ≤ 70 := by rw [← hP5, List.length_append]; (try simp only [List.length_cons, List.length_nil]); omega
            rw [hP5] at s5 hP
            clear hP5
            have s6 := add_str (P5) ([99]) (by (try simp only [List.length_cons, List.length_nil]); omega)
            obtain ⟨P6, hP6⟩ : ∃ P, P5 ++ [99] = P := ⟨_, rfl⟩
            have p6 : P6.length ≤ 80 := by rw [← hP6, List.length_append]; (try simp only [List.length_cons, List.length_nil]); omega
            rw [hP6] at s6 hP
            clear hP6
            have s7 := add_str (P6) ([120]) (by (try simp only [List.length_cons, List.length_nil]); omega)
            obtain ⟨P7, hP7⟩ : ∃ P, P6 ++ [120] = P := ⟨_, rfl⟩
            have p7 : P7.length ≤ 90 := by rw [← hP7, List.length_append]; (try simp only [List.length_cons, List.length_nil]); omega
            rw [hP7] at s7 hP
            clear hP7
            have s8 := add_str (P7) ([99]) (by (try simp only [List.length_cons, List.length_nil]); omega)
            obtain ⟨P8, hP8⟩ : ∃ P, P7 ++ [99] = P := ⟨_, rfl⟩
            have p8 : P8.length ≤ 100 := by rw [← hP8, List.length_append]; (try simp only [List.length_cons, List.length_nil]); omega
            rw [hP8] at s8 hP
            clear hP8
            have s9 := add_str (P8) ([52, 53, 48, 48]) (by (try simp only [List.length_cons, List.length_nil]); omega)
            obtain ⟨P9, hP9⟩ : ∃ P, P8 ++ [52, 53, 48, 48] = P := ⟨_, rfl⟩
            have p9 : P9.length ≤ 110 := by rw [← hP9, List.length_append]; (try simp only [List.length_cons, List.length_nil]); omega
            rw [hP9] at s9 hP
            clear hP9
            have s10 := add_str (P9) (D) (by (try simp only [List.length_cons, List.length_nil]); omega)
            obtain ⟨P10, hP10⟩ : ∃ P, P9 ++ D = P := ⟨_, rfl⟩
            have p10 : P10.length ≤ 6120 := by rw [← hP10, List.length_append]; (try simp only [List.length_cons, List.length_nil]); omega
            rw [hP10] at s10 hP
            clear hP10
            have s11 := add_str (P10) ([30]) (by (try simp only [List.length_cons, List.length_nil]); omega)
            obtain ⟨P11, hP11⟩ : ∃ P, P10 ++ [30] = P := ⟨_, rfl⟩
            have p11 : P11.length ≤ 6130 := by rw [← hP11, List.length_append]; (try simp only [List.length_cons, List.length_nil]); omega
            rw [hP11] at s11 hP
            clear hP11
            have s12 := add_str (P11) (data) (by (try simp only [List.length_cons, List.length_nil]); omega)
            obtain ⟨P12, hP12⟩ : ∃ P, P11 ++ data = P := ⟨_, rfl⟩
            have p12 : P12.length ≤ 16140 := by rw [← hP12, List.length_append]; (try simp only [List.length_cons, List.length_nil]); omega
            rw [hP12] at s12 hP
            clear hP12
            have s13 := add_str (P12) ([29]) (by (try simp only [List.length_cons, List.length_nil]); omega)
            obtain ⟨P13, hP13⟩ : ∃ P, P12 ++ [29] = P := ⟨_, rfl⟩
            have p13 : P13.length ≤ 16150 := by rw [← hP13, List.length_append]; (try simp only [List.length_cons, List.length_nil]); omega
            rw [hP13] at s13 hP
            clear hP13
            have HP := Lib.hid hP
            have M1 := Lib.hid (fun W (h : Below Wr.heap.size Wr W) => fixI 5 T (25 + (D.length : Int) + (data.length : Int) + 1) (by decide) (by omega) (by omega) Wr.heap.size Wr W h h.size)
            have M2 := Lib.hid (fun W (h : Below Wr.heap.size Wr W) => fixI 5 B5 (25 + (D.length : Int)) (by decide) (by omega) (by omega) Wr.heap.size Wr W h h.size)
            have wr1 : IntKind.i64.wrap (25 + (D.length : Int)) = 25 + (D.length : Int) := wrapI _ (by omega) (by omega)
            have wr2 : IntKind.i64.wrap (25 + (D.length : Int) + (data.length : Int)) = 25 + (D.length : Int) + (data.length : Int) := wrapI _ (by omega) (by omega)
            have wr3 : IntKind.i64.wrap (25 + (D.length : Int) + (data.length : Int) + 1) = 25 + (D.length : Int) + (data.length : Int) + 1 := wrapI _ (by omega) (by omega)
            clear hP p1 p2 p3 p4 p5 p6 p7 p8 p9 p10 p11 p12 p13 y1 y2 hT hB5
            go_upto_region 27 with fail
            obtain ⟨S, hSd⟩ : ∃ S : World → Prop, S = (fun w' => Below Wr.heap.size Wr w') := ⟨_, rfl⟩
            have hSb : ∀ w', S w' → Below Wr.heap.size Wr w' := fun w' h => by rw [hSd] at h; exact h
            have hSm : ∀ w5 : World, Below Wr.heap.size Wr w5 → S w5 := fun w5 h => by rw [hSd]; exact h
            have hS0 : S Wr.drew := hSm _ (Below.refl _ _).drew
            clear hSd
            refine wp_region_C 34 34 S rfl rfl ?_
            refine wpAnyC_takeD 0 120 (.int .i64 (25 + (D.length : Int))) rfl rfl rfl (by kernel_rfl) (by kernel_rfl) (by kernel_rfl) (by kernel_rfl) (fun _ _ _ h => h) (fun w5 hw5 => ?_) hS0 ?_
            · skip
              simp only [List.getElem_toArray, List.getElem_cons_zero, List.getElem_cons_succ]
              go_simp
            try simp only [Act.put, List.setIfInBounds_toArray, List.set_cons_zero, List.set_cons_succ]
            refine wpAnyC_takeD 1 121 (str data) rfl rfl rfl (by kernel_rfl) (by kernel_rfl) (by kernel_rfl) (by kernel_rfl) (fun _ _ _ h => h) (fun w5 hw5 => ?_) hS0 ?_
            · skip
              simp only [List.getElem_toArray, List.getElem_cons_zero, List.getElem_cons_succ]
              go_simp
            try simp only [Act.put, List.setIfInBounds_toArray, List.set_cons_zero, List.set_cons_succ]
            refine wpAnyC_takeD 2 122 (.int .i64 (data.length : Nat)) rfl rfl rfl (by kernel_rfl) (by kernel_rfl) (by kernel_rfl) (by kernel_rfl) (fun _ _ _ h => h) (fun w5 hw5 => ?_) hS0 ?_
            · skip
              simp only [List.getElem_toArray, List.getElem_cons_zero, List.getElem_cons_succ]
              go_simp
            try simp only [Act.put, List.setIfInBounds_toArray, List.set_cons_zero, List.set_cons_succ]
            refine wpAnyC_takeD 3 123 (.int .i64 (25 + (D.length : Int) + (data.length : Int))) rfl rfl rfl (by kernel_rfl) (by kernel_rfl) (by kernel_rfl) (by kernel_rfl) (fun _ _ _ h => h) (fun w5 hw5 => ?_) hS0 ?_
            · skip
              simp only [List.getElem_toArray, List.getElem_cons_zero, List.getElem_cons_succ]
              go_simp
            try simp only [Act.put, List.setIfInBounds_toArray, List.set_cons_zero, List.set_cons_succ]
            refine wpAnyC_takeD 4 124 (.int .i64 (25 + (D.length : Int) + (data.length : Int) + 1)) rfl rfl rfl (by kernel_rfl) (by kernel_rfl) (by kernel_rfl) (by kernel_rfl) (fun _ _ _ h => h) (fun w5 hw5 => ?_) hS0 ?_
            · skip
              simp only [List.getElem_toArray, List.getElem_cons_zero, List.getElem_cons_succ]
              go_simp
            try simp only [Act.put, List.setIfInBounds_toArray, List.set_cons_zero, List.set_cons_succ]
            refine wpAnyC_takeD 6 126 (str [99]) rfl rfl rfl (by kernel_rfl) (by kernel_rfl) (by kernel_rfl) (by kernel_rfl) (fun _ _ _ h => h) (fun w5 hw5 => ?_) hS0 ?_
            · skip
              simp only [List.getElem_toArray, List.getElem_cons_zero, List.getElem_cons_succ]
              go_simp
            try simp only [Act.put, List.setIfInBounds_toArray, List.set_cons_zero, List.set_cons_succ]
            refine wpAnyC_takeD 8 128 (.pointer (some ⟨w.heap.size, 0, none⟩)) rfl rfl rfl (by kernel_rfl) (by kernel_rfl) (by kernel_rfl) (by kernel_rfl) (fun _ _ _ h => h) (fun w5 hw5 => ?_) hS0 ?_
            · skip
              simp only [List.getElem_toArray, List.getElem_cons_zero, List.getElem_cons_succ]
              go_simp
            try simp only [Act.put, List.setIfInBounds_toArray, List.set_cons_zero, List.set_cons_succ]
            refine wpAnyC_takeD 9 129 (.int .u8 (rk.toNat : Int)) rfl rfl rfl (by kernel_rfl) (by kernel_rfl) (by kernel_rfl) (by kernel_rfl) (fun _ _ _ h => h) (fun w5 hw5 => ?_) hS0 ?_
            · have hq := hSb w5 hw5; have z0 := cell_below hq (Nat.le_refl _) u0
              simp only [List.getElem_toArray, List.getElem_cons_zero, List.getElem_cons_succ]
              go_simp
            try simp only [Act.put, List.setIfInBounds_toArray, List.set_cons_zero, List.set_cons_succ]
            refine wpAnyC_takeD 10 130 (.pointer (some ⟨w.heap.size, 1, none⟩)) rfl rfl rfl (by kernel_rfl) (by kernel_rfl) (by kernel_rfl) (by kernel_rfl) (fun _ _ _ h => h) (fun w5 hw5 => ?_) hS0 ?_
            · skip
              simp only [List.getElem_toArray, List.getElem_cons_zero, List.getElem_cons_succ]
              go_simp
            try simp only [Act.put, List.setIfInBounds_toArray, List.set_cons_zero, List.set_cons_succ]
            refine wpAnyC_takeD 11 131 (.int .u8 (rl.toNat : Int)) rfl rfl rfl (by kernel_rfl) (by kernel_rfl) (by kernel_rfl) (by kernel_rfl) (fun _ _ _ h => h) (fun w5 hw5 => ?_) hS0 ?_
            · have hq := hSb w5 hw5; have z0 := cell_below hq (Nat.le_refl _) u1
              simp only [List.getElem_toArray, List.getElem_cons_zero, List.getElem_cons_succ]
              go_simp
            try simp only [Act.put, List.setIfInBounds_toArray, List.set_cons_zero, List.set_cons_succ]
            refine wpAnyC_takeD 15 135 (str [99]) rfl rfl rfl (by kernel_rfl) (by kernel_rfl) (by kernel_rfl) (by kernel_rfl) (fun _ _ _ h => h) (fun w5 hw5 => ?_) hS0 ?_
            · skip
              simp only [List.getElem_toArray, List.getElem_cons_zero, List.getElem_cons_succ]
              go_simp
            try simp only [Act.put, List.setIfInBounds_toArray, List.set_cons_zero, List.set_cons_succ]
            refine wpAnyC_takeD 18 138 (.int .i64 (25 + (D.length : Int))) rfl rfl rfl (by kernel_rfl) (by kernel_rfl) (by kernel_rfl) (by kernel_rfl) (fun _ _ _ h => h) (fun w5 hw5 => ?_) hS0 ?_
            · skip
              simp only [List.getElem_toArray, List.getElem_cons_zero, List.getElem_cons_succ]
              go_simp
            try simp only [Act.put, List.setIfInBounds_toArray, List.set_cons_zero, List.set_cons_succ]
            refine wpAnyC_takeD 21 141 (str [99]) rfl rfl rfl (by kernel_rfl) (by kernel_rfl) (by kernel_rfl) (by kernel_rfl) (fun _ _ _ h => h) (fun w5 hw5 => ?_) hS0 ?_
            · skip
              simp only [List.getElem_toArray, List.getElem_cons_zero, List.getElem_cons_succ]
              go_simp
            try simp only [Act.put, List.setIfInBounds_toArray, List.set_cons_zero, List.set_cons_succ]
            refine wpAnyC_takeD 24 144 (str [99]) rfl rfl rfl (by kernel_rfl) (by kernel_rfl) (by kernel_rfl) (by kernel_rfl) (fun _ _ _ h => h) (fun w5 hw5 => ?_) hS0 ?_
            · skip
              simp only [List.getElem_toArray, List.getElem_cons_zero, List.getElem_cons_succ]
              go_simp
            try simp only [Act.put, List.setIfInBounds_toArray, List.set_cons_zero, List.set_cons_succ]
            refine wpAnyC_takeD 27 147 (str D) rfl rfl rfl (by kernel_rfl) (by kernel_rfl) (by kernel_rfl) (by kernel_rfl) (fun _ _ _ h => h) (fun w5 hw5 => ?_) hS0 ?_
            · skip
              simp only [List.getElem_toArray, List.getElem_cons_zero, List.getElem_cons_succ]
              go_simp
            try simp only [Act.put, List.setIfInBounds_toArray, List.set_cons_zero, List.set_cons_succ]
            refine wpAnyC_takeD 30 150 (str data) rfl rfl rfl (by kernel_rfl) (by kernel_rfl) (by kernel_rfl) (by kernel_rfl) (fun _ _ _ h => h) (fun w5 hw5 => ?_) hS0 ?_
            · skip
              simp only [List.getElem_toArray, List.getElem_cons_zero, List.getElem_cons_succ]
              go_simp
            try simp only [Act.put, List.setIfInBounds_toArray, List.set_cons_zero, List.set_cons_succ]
            refine wpAnyC_two (i := 5) (j := 12) rfl rfl (by kernel_rfl) (fun K hK => ?_) (fun K hK => ?_)
            · skip
              simp only [List.getElem_toArray, List.getElem_cons_zero, List.getElem_cons_succ]
              go_simp
              go_wp2_with fail
              refine (M1.out _ (hSb _ hS0)).mono ?_
              rintro _ WM1 ⟨rfl, hbM1, hBM1⟩
              go_wp2_with fail
              have hTM1 := hSm _ hbM1
              refine hK _ _ (fun _ => hTM1) ?_
              clear hK
              try simp only [Act.put, List.setIfInBounds_toArray, List.set_cons_zero, List.set_cons_succ]
              refine wpAnyC_takeD 7 127 (str P1) rfl rfl rfl (by kernel_rfl) (by kernel_rfl) (by kernel_rfl) (by kernel_rfl) (fun _ _ _ h => h) (fun w5 hw5 => ?_) hTM1 ?_
              · skip
                simp only [List.getElem_toArray, List.getElem_cons_zero, List.getElem_cons_succ]
                go_simp
              try simp only [Act.put, List.setIfInBounds_toArray, List.set_cons_zero, List.set_cons_succ]
              refine wpAnyC_two (i := 12) (j := 19) rfl rfl (by kernel_rfl) (fun K hK => ?_) (fun K hK => ?_)
              · skip
                simp only [List.getElem_toArray, List.getElem_cons_zero, List.getElem_cons_succ]
                go_simp
                have hbA : Below Wr.heap.size Wr (WM1.alloc (.cells #[.int .u8 (rk.toNat : Int), .int .u8 (rl.toNat : Int)] 5)) := (hSb _ hTM1).alloc (hSb _ hTM1).size _
                have hcA := new_at WM1 (.cells #[.int .u8 (rk.toNat : Int), .int .u8 (rl.toNat : Int)] 5)
                obtain ⟨WA, hWA⟩ : ∃ WA, WM1.alloc (.cells #[.int .u8 (rk.toNat : Int), .int .u8 (rl.toNat : Int)] 5) = WA := ⟨_, rfl⟩
                rw [hWA] at hbA hcA
                rw [hWA]
                obtain ⟨gA, hgA⟩ : ∃ gA, WM1.heap.size = gA := ⟨_, rfl⟩
                have hcell0 : WA.cell? ⟨gA, 0, none⟩ = some (.int .u8 (rk.toNat : Int)) := by rw [← hgA]; exact (by rw [cell_at hcA]; rfl)
                have hcell1 : WA.cell? ⟨gA, 1, none⟩ = some (.int .u8 (rl.toNat : Int)) := by rw [← hgA]; exact (by rw [cell_at hcA]; rfl)
                obtain ⟨S5, hSd5⟩ : ∃ S5 : World → Prop, S5 = (fun w' => S w' ∧ w'.cell? ⟨gA, 0, none⟩ = some (.int .u8 (rk.toNat : Int)) ∧ w'.cell? ⟨gA, 1, none⟩ = some (.int .u8 (rl.toNat : Int))) := ⟨_, rfl⟩
                have hSn : ∀ w5 : World, Below Wr.heap.size Wr w5 → w5.cell? ⟨gA, 0, none⟩ = some (.int .u8 (rk.toNat : Int)) → w5.cell? ⟨gA, 1, none⟩ = some (.int .u8 (rl.toNat : Int)) → S5 w5 := fun w5 h1 h2 h3 => by rw [hSd5]; exact ⟨hSm _ h1, h2, h3⟩
                have hSo : ∀ w', S5 w' → S w' := fun w' h => by rw [hSd5] at h; exact h.1
                have hSc : ∀ w', S5 w' → (convert 42 9 (.slice (some ⟨gA, 0, none⟩) 2 2)).run Tryd.prog w' = .ok (str [rk, rl]) w' := fun w' h => by rw [hSd5] at h; exact conv_2 rk rl w' gA h.2.1 h.2.2
                have hSb5 : ∀ w', S5 w' → Below Wr.heap.size Wr w' := fun w' h => hSb _ (hSo _ h)
                have hTA := hSn _ hbA hcell0 hcell1
                refine hK _ _ (fun _ => hSm _ hbA) ?_
                clear hK hSd5
                refine wpAnyC_strong (S1 := S5) hSo _ _ _ _ ?_
                simp only [hgA]
                clear hWA hgA hcA
                refine wpAnyC_takeD 13 133 (str [rk, rl]) rfl rfl rfl (by kernel_rfl) (by kernel_rfl) (by kernel_rfl) (by kernel_rfl) (fun _ _ _ h => h) (fun w5 hw5 => ?_) hTA ?_
                · have z9 := hSc w5 hw5
                  simp only [List.getElem_toArray, List.getElem_cons_zero, List.getElem_cons_succ]
                  go_simp
                try simp only [Act.put, List.setIfInBounds_toArray, List.set_cons_zero, List.set_cons_succ]
                refine wpAnyC_takeD 14 134 (str P2) rfl rfl rfl (by kernel_rfl) (by kernel_rfl) (by kernel_rfl) (by kernel_rfl) (fun _ _ _ h => h) (fun w5 hw5 => ?_) hTA ?_
                · skip
                  simp only [List.getElem_toArray, List.getElem_cons_zero, List.getElem_cons_succ]
                  go_simp
                try simp only [Act.put, List.setIfInBounds_toArray, List.set_cons_zero, List.set_cons_succ]
                refine wpAnyC_takeD 16 136 (str P3) rfl rfl rfl (by kernel_rfl) (by kernel_rfl) (by kernel_rfl) (by kernel_rfl) (fun _ _ _ h => h) (fun w5 hw5 => ?_) hTA ?_
                · skip
                  simp only [List.getElem_toArray, List.getElem_cons_zero, List.getElem_cons_succ]
                  go_simp
                try simp only [Act.put, List.setIfInBounds_toArray, List.set_cons_zero, List.set_cons_succ]
                refine wpAnyC_takeD 17 137 (str P4) rfl rfl rfl (by kernel_rfl) (by kernel_rfl) (by kernel_rfl) (by kernel_rfl) (fun _ _ _ h => h) (fun w5 hw5 => ?_) hTA ?_
                · skip
                  simp only [List.getElem_toArray, List.getElem_cons_zero, List.getElem_cons_succ]
                  go_simp
                try simp only [Act.put, List.setIfInBounds_toArray, List.set_cons_zero, List.set_cons_succ]
                refine wpAnyC_step (k := 19) rfl (by kernel_rfl) (fun K hK => ?_)
                simp only [List.getElem_toArray, List.getElem_cons_zero, List.getElem_cons_succ]
                go_simp
                go_wp2_with fail
                refine (M2.out _ (hSb5 _ hTA)).mono ?_
                rintro _ WM2 ⟨rfl, hbM2, hBM2⟩
                go_wp2_with fail
                have hTM2 := hSn _ hbM2 (cell_below hBM2 (Nat.le_refl _) hcell0) (cell_below hBM2 (Nat.le_refl _) hcell1)
                refine hK _ _ (fun _ => hTM2) ?_
                clear hK
                try simp only [Act.put, List.setIfInBounds_toArray, List.set_cons_zero, List.set_cons_succ]
                refine wpAnyC_takeD 20 140 (str P5) rfl rfl rfl (by kernel_rfl) (by kernel_rfl) (by kernel_rfl) (by kernel_rfl) (fun _ _ _ h => h) (fun w5 hw5 => ?_) hTM2 ?_
                · skip
                  simp only [List.getElem_toArray, List.getElem_cons_zero, List.getElem_cons_succ]
                  go_simp
                try simp only [Act.put, List.setIfInBounds_toArray, List.set_cons_zero, List.set_cons_succ]
                refine wpAnyC_takeD 22 142 (str P6) rfl rfl rfl (by kernel_rfl) (by kernel_rfl) (by kernel_rfl) (by kernel_rfl) (fun _ _ _ h => h) (fun w5 hw5 => ?_) hTM2 ?_
                · skip
                  simp only [List.getElem_toArray, List.getElem_cons_zero, List.getElem_cons_succ]
                  go_simp
                try simp only [Act.put, List.setIfInBounds_toArray, List.set_cons_zero, List.set_cons_succ]
                refine wpAnyC_takeD 23 143 (str P7) rfl rfl rfl (by kernel_rfl) (by kernel_rfl) (by kernel_rfl) (by kernel_rfl) (fun _ _ _ h => h) (fun w5 hw5 => ?_) hTM2 ?_
                · skip
                  simp only [List.getElem_toArray, List.getElem_cons_zero, List.getElem_cons_succ]
                  go_simp
                try simp only [Act.put, List.setIfInBounds_toArray, List.set_cons_zero, List.set_cons_succ]
                refine wpAnyC_takeD 25 145 (str P8) rfl rfl rfl (by kernel_rfl) (by kernel_rfl) (by kernel_rfl) (by kernel_rfl) (fun _ _ _ h => h) (fun w5 hw5 => ?_) hTM2 ?_
                · skip
                  simp only [List.getElem_toArray, List.getElem_cons_zero, List.getElem_cons_succ]
                  go_simp
                try simp only [Act.put, List.setIfInBounds_toArray, List.set_cons_zero, List.set_cons_succ]
                refine wpAnyC_takeD 26 146 (str P9) rfl rfl rfl (by kernel_rfl) (by kernel_rfl) (by kernel_rfl) (by kernel_rfl) (fun _ _ _ h => h) (fun w5 hw5 => ?_) hTM2 ?_
                · skip
                  simp only [List.getElem_toArray, List.getElem_cons_zero, List.getElem_cons_succ]
                  go_simp
                try simp only [Act.put, List.setIfInBounds_toArray, List.set_cons_zero, List.set_cons_succ]
                refine wpAnyC_takeD 28 148 (str P10) rfl rfl rfl (by kernel_rfl) (by kernel_rfl) (by kernel_rfl) (by kernel_rfl) (fun _ _ _ h => h) (fun w5 hw5 => ?_) hTM2 ?_
                · skip
                  simp only [List.getElem_toArray, List.getElem_cons_zero, List.getElem_cons_succ]
                  go_simp
                try simp only [Act.put, List.setIfInBounds_toArray, List.set_cons_zero, List.set_cons_succ]
                refine wpAnyC_takeD 29 149 (str P11) rfl rfl rfl (by kernel_rfl) (by kernel_rfl) (by kernel_rfl) (by kernel_rfl) (fun _ _ _ h => h) (fun w5 hw5 => ?_) hTM2 ?_
                · skip
                  simp only [List.getElem_toArray, List.getElem_cons_zero, List.getElem_cons_succ]
                  go_simp
                try simp only [Act.put, List.setIfInBounds_toArray, List.set_cons_zero, List.set_cons_succ]
                refine wpAnyC_takeD 31 151 (str P12) rfl rfl rfl (by kernel_rfl) (by kernel_rfl) (by kernel_rfl) (by kernel_rfl) (fun _ _ _ h => h) (fun w5 hw5 => ?_) hTM2 ?_
                · skip
                  simp only [List.getElem_toArray, List.getElem_cons_zero, List.getElem_cons_succ]
                  go_simp
                try simp only [Act.put, List.setIfInBounds_toArray, List.set_cons_zero, List.set_cons_succ]
                refine wpAnyC_takeD 32 152 (str P13) rfl rfl rfl (by kernel_rfl) (by kernel_rfl) (by kernel_rfl) (by kernel_rfl) (fun _ _ _ h => h) (fun w5 hw5 => ?_) hTM2 ?_
                · skip
                  simp only [List.getElem_toArray, List.getElem_cons_zero, List.getElem_cons_succ]
                  go_simp
                try simp only [Act.put, List.setIfInBounds_toArray, List.set_cons_zero, List.set_cons_succ]
                refine wpAnyC_takeD 33 4 (str P13) rfl rfl rfl (by kernel_rfl) (by kernel_rfl) (by kernel_rfl) (by kernel_rfl) (fun _ _ _ h => h) (fun w5 hw5 => ?_) hTM2 ?_
                · skip
                  simp only [List.getElem_toArray, List.getElem_cons_zero, List.getElem_cons_succ]
                  go_simp
                try simp only [Act.put, List.setIfInBounds_toArray, List.set_cons_zero, List.set_cons_succ]
                refine wpAnyC_done (by kernel_rfl) ?_
                have Hbz := Lib.hid (HW.out.bel.trans ((hbM2).mono HW.out.bel.size))
                clear hS0 hSb hSm hSn hSo hSc hSb5
                go_wp2
                go_ret
                exact ⟨99, at', data, by show Ending.returned (str P13) = _; rw [HDD.out, HP.out], Hlay.out.1, Hlay.out.2.1, Hlay.out.2.2, Hbz.out⟩
              · skip
                simp only [List.getElem_toArray, List.getElem_cons_zero, List.getElem_cons_succ]
                go_simp
                go_wp2_with fail
                refine (M2.out _ (hSb _ hTM1)).mono ?_
                rintro _ WM2 ⟨rfl, hbM2, hBM2⟩
                go_wp2_with fail
                have hTM2 := hSm _ hbM2
                refine hK _ _ (fun _ => hTM2) ?_
                clear hK
                try simp only [Act.put, List.setIfInBounds_toArray, List.set_cons_zero, List.set_cons_succ]
                refine wpAnyC_step (k := 12) rfl (by kernel_rfl) (fun K hK => ?_)
                simp only [List.getElem_toArray, List.getElem_cons_zero, List.getElem_cons_succ]
                go_simp
                have hbA : Below Wr.heap.size Wr (WM2.alloc (.cells #[.int .u8 (rk.toNat : Int), .int .u8 (rl.toNat : Int)] 5)) := (hSb _ hTM2).alloc (hSb _ hTM2).size _
                have hcA := new_at WM2 (.cells #[.int .u8 (rk.toNat : Int), .int .u8 (rl.toNat : Int)] 5)
                obtain ⟨WA, hWA⟩ : ∃ WA, WM2.alloc (.cells #[.int .u8 (rk.toNat : Int), .int .u8 (rl.toNat : Int)] 5) = WA := ⟨_, rfl⟩
                rw [hWA] at hbA hcA
                rw [hWA]
                obtain ⟨gA, hgA⟩ : ∃ gA, WM2.heap.size = gA := ⟨_, rfl⟩
                have hcell0 : WA.cell? ⟨gA, 0, none⟩ = some (.int .u8 (rk.toNat : Int)) := by rw [← hgA]; exact (by rw [cell_at hcA]; rfl)
                have hcell1 : WA.cell? ⟨gA, 1, none⟩ = some (.int .u8 (rl.toNat : Int)) := by rw [← hgA]; exact (by rw [cell_at hcA]; rfl)
                obtain ⟨S5, hSd5⟩ : ∃ S5 : World → Prop, S5 = (fun w' => S w' ∧ w'.cell? ⟨gA, 0, none⟩ = some (.int .u8 (rk.toNat : Int)) ∧ w'.cell? ⟨gA, 1, none⟩ = some (.int .u8 (rl.toNat : Int))) := ⟨_, rfl⟩
                have hSn : ∀ w5 : World, Below Wr.heap.size Wr w5 → w5.cell? ⟨gA, 0, none⟩ = some (.int .u8 (rk.toNat : Int)) → w5.cell? ⟨gA, 1, none⟩ = some (.int .u8 (rl.toNat : Int)) → S5 w5 := fun w5 h1 h2 h3 => by rw [hSd5]; exact ⟨hSm _ h1, h2, h3⟩
                have hSo : ∀ w', S5 w' → S w' := fun w' h => by rw [hSd5] at h; exact h.1
                have hSc : ∀ w', S5 w' → (convert 42 9 (.slice (some ⟨gA, 0, none⟩) 2 2)).run Tryd.prog w' = .ok (str [rk, rl]) w' := fun w' h => by rw [hSd5] at h; exact conv_2 rk rl w' gA h.2.1 h.2.2
                have hSb5 : ∀ w', S5 w' → Below Wr.heap.size Wr w' := fun w' h => hSb _ (hSo _ h)
                have hTA := hSn _ hbA hcell0 hcell1
                refine hK _ _ (fun _ => hSm _ hbA) ?_
                clear hK hSd5
                refine wpAnyC_strong (S1 := S5) hSo _ _ _ _ ?_
                simp only [hgA]
                clear hWA hgA hcA
                refine wpAnyC_takeD 13 133 (str [rk, rl]) rfl rfl rfl (by kernel_rfl) (by kernel_rfl) (by kernel_rfl) (by kernel_rfl) (fun _ _ _ h => h) (fun w5 hw5 => ?_) hTA ?_
                · have z9 := hSc w5 hw5
                  simp only [List.getElem_toArray, List.getElem_cons_zero, List.getElem_cons_succ]
                  go_simp
                try simp only [Act.put, List.setIfInBounds_toArray, List.set_cons_zero, List.set_cons_succ]
                refine wpAnyC_takeD 14 134 (str P2) rfl rfl rfl (by kernel_rfl) (by kernel_rfl) (by kernel_rfl) (by kernel_rfl) (fun _ _ _ h => h) (fun w5 hw5 => ?_) hTA ?_
                · skip
                  simp only [List.getElem_toArray, List.getElem_cons_zero, List.getElem_cons_succ]
                  go_simp
                try simp only [Act.put, List.setIfInBounds_toArray, List.set_cons_zero, List.set_cons_succ]
                refine wpAnyC_takeD 16 136 (str P3) rfl rfl rfl (by kernel_rfl) (by kernel_rfl) (by kernel_rfl) (by kernel_rfl) (fun _ _ _ h => h) (fun w5 hw5 => ?_) hTA ?_
                · skip
                  simp only [List.getElem_toArray, List.getElem_cons_zero, List.getElem_cons_succ]
                  go_simp
                try simp only [Act.put, List.setIfInBounds_toArray, List.set_cons_zero, List.set_cons_succ]
                refine wpAnyC_takeD 17 137 (str P4) rfl rfl rfl (by kernel_rfl) (by kernel_rfl) (by kernel_rfl) (by kernel_rfl) (fun _ _ _ h => h) (fun w5 hw5 => ?_) hTA ?_
                · skip
                  simp only [List.getElem_toArray, List.getElem_cons_zero, List.getElem_cons_succ]
                  go_simp
                try simp only [Act.put, List.setIfInBounds_toArray, List.set_cons_zero, List.set_cons_succ]
                refine wpAnyC_takeD 20 140 (str P5) rfl rfl rfl (by kernel_rfl) (by kernel_rfl) (by kernel_rfl) (by kernel_rfl) (fun _ _ _ h => h) (fun w5 hw5 => ?_) hTA ?_
                · skip
                  simp only [List.getElem_toArray, List.getElem_cons_zero, List.getElem_cons_succ]
                  go_simp
                try simp only [Act.put, List.setIfInBounds_toArray, List.set_cons_zero, List.set_cons_succ]
                refine wpAnyC_takeD 22 142 (str P6) rfl rfl rfl (by kernel_rfl) (by kernel_rfl) (by kernel_rfl) (by kernel_rfl) (fun _ _ _ h => h) (fun w5 hw5 => ?_) hTA ?_
                · skip
                  simp only [List.getElem_toArray, List.getElem_cons_zero, List.getElem_cons_succ]
                  go_simp
                try simp only [Act.put, List.setIfInBounds_toArray, List.set_cons_zero, List.set_cons_succ]
                refine wpAnyC_takeD 23 143 (str P7) rfl rfl rfl (by kernel_rfl) (by kernel_rfl) (by kernel_rfl) (by kernel_rfl) (fun _ _ _ h => h) (fun w5 hw5 => ?_) hTA ?_
                · skip
                  simp only [List.getElem_toArray, List.getElem_cons_zero, List.getElem_cons_succ]
                  go_simp
                try simp only [Act.put, List.setIfInBounds_toArray, List.set_cons_zero, List.set_cons_succ]
                refine wpAnyC_takeD 25 145 (str P8) rfl rfl rfl (by kernel_rfl) (by kernel_rfl) (by kernel_rfl) (by kernel_rfl) (fun _ _ _ h => h) (fun w5 hw5 => ?_) hTA ?_
                · skip
                  simp only [List.getElem_toArray, List.getElem_cons_zero, List.getElem_cons_succ]
                  go_simp
                try simp only [Act.put, List.setIfInBounds_toArray, List.set_cons_zero, List.set_cons_succ]
                refine wpAnyC_takeD 26 146 (str P9) rfl rfl rfl (by kernel_rfl) (by kernel_rfl) (by kernel_rfl) (by kernel_rfl) (fun _ _ _ h => h) (fun w5 hw5 => ?_) hTA ?_
                · skip
                  simp only [List.getElem_toArray, List.getElem_cons_zero, List.getElem_cons_succ]
                  go_simp
                try simp only [Act.put, List.setIfInBounds_toArray, List.set_cons_zero, List.set_cons_succ]
                refine wpAnyC_takeD 28 148 (str P10) rfl rfl rfl (by kernel_rfl) (by kernel_rfl) (by kernel_rfl) (by kernel_rfl) (fun _ _ _ h => h) (fun w5 hw5 => ?_) hTA ?_
                · skip
                  simp only [List.getElem_toArray, List.getElem_cons_zero, List.getElem_cons_succ]
                  go_simp
                try simp only [Act.put, List.setIfInBounds_toArray, List.set_cons_zero, List.set_cons_succ]
                refine wpAnyC_takeD 29 149 (str P11) rfl rfl rfl (by kernel_rfl) (by kernel_rfl) (by kernel_rfl) (by kernel_rfl) (fun _ _ _ h => h) (fun w5 hw5 => ?_) hTA ?_
                · skip
                  simp only [List.getElem_toArray, List.getElem_cons_zero, List.getElem_cons_succ]
                  go_simp
                try simp only [Act.put, List.setIfInBounds_toArray, List.set_cons_zero, List.set_cons_succ]
                refine wpAnyC_takeD 31 151 (str P12) rfl rfl rfl (by kernel_rfl) (by kernel_rfl) (by kernel_rfl) (by kernel_rfl) (fun _ _ _ h => h) (fun w5 hw5 => ?_) hTA ?_
                · skip
                  simp only [List.getElem_toArray, List.getElem_cons_zero, List.getElem_cons_succ]
                  go_simp
                try simp only [Act.put, List.setIfInBounds_toArray, List.set_cons_zero, List.set_cons_succ]
                refine wpAnyC_takeD 32 152 (str P13) rfl rfl rfl (by kernel_rfl) (by kernel_rfl) (by kernel_rfl) (by kernel_rfl) (fun _ _ _ h => h) (fun w5 hw5 => ?_) hTA ?_
                · skip
                  simp only [List.getElem_toArray, List.getElem_cons_zero, List.getElem_cons_succ]
                  go_simp
                try simp only [Act.put, List.setIfInBounds_toArray, List.set_cons_zero, List.set_cons_succ]
                refine wpAnyC_takeD 33 4 (str P13) rfl rfl rfl (by kernel_rfl) (by kernel_rfl) (by kernel_rfl) (by kernel_rfl) (fun _ _ _ h => h) (fun w5 hw5 => ?_) hTA ?_
                · skip
                  simp only [List.getElem_toArray, List.getElem_cons_zero, List.getElem_cons_succ]
                  go_simp
                try simp only [Act.put, List.setIfInBounds_toArray, List.set_cons_zero, List.set_cons_succ]
                refine wpAnyC_done (by kernel_rfl) ?_
                have Hbz := Lib.hid (HW.out.bel.trans ((hbA).mono HW.out.bel.size))
                clear hS0 hSb hSm hSn hSo hSc hSb5
                go_wp2
                go_ret
                exact ⟨99, at', data, by show Ending.returned (str P13) = _; rw [HDD.out, HP.out], Hlay.out.1, Hlay.out.2.1, Hlay.out.2.2, Hbz.out⟩
            · skip
              simp only [List.getElem_toArray, List.getElem_cons_zero, List.getElem_cons_succ]
              go_simp
              have hbA : Below Wr.heap.size Wr (Wr.alloc (.cells #[.int .u8 (rk.toNat : Int), .int .u8 (rl.toNat : Int)] 5)).drew := ((Below.refl _ _).alloc (Nat.le_refl _) _).drew
              have hcA : (Wr.alloc (.cells #[.int .u8 (rk.toNat : Int), .int .u8 (rl.toNat : Int)] 5)).drew.heap[Wr.heap.size]? = _ := new_at Wr (.cells #[.int .u8 (rk.toNat : Int), .int .u8 (rl.toNat : Int)] 5)
              obtain ⟨WA, hWA⟩ : ∃ WA, (Wr.alloc (.cells #[.int .u8 (rk.toNat : Int), .int .u8 (rl.toNat : Int)] 5)).drew = WA := ⟨_, rfl⟩
              rw [hWA] at hbA hcA
              rw [hWA]
              obtain ⟨gA, hgA⟩ : ∃ gA, Wr.heap.size = gA := ⟨_, rfl⟩
              have hcell0 : WA.cell? ⟨gA, 0, none⟩ = some (.int .u8 (rk.toNat : Int)) := by rw [← hgA]; exact (by rw [cell_at hcA]; rfl)
              have hcell1 : WA.cell? ⟨gA, 1, none⟩ = some (.int .u8 (rl.toNat : Int)) := by rw [← hgA]; exact (by rw [cell_at hcA]; rfl)
              obtain ⟨S5, hSd5⟩ : ∃ S5 : World → Prop, S5 = (fun w' => S w' ∧ w'.cell? ⟨gA, 0, none⟩ = some (.int .u8 (rk.toNat : Int)) ∧ w'.cell? ⟨gA, 1, none⟩ = some (.int .u8 (rl.toNat : Int))) := ⟨_, rfl⟩
              have hSn : ∀ w5 : World, Below Wr.heap.size Wr w5 → w5.cell? ⟨gA, 0, none⟩ = some (.int .u8 (rk.toNat : Int)) → w5.cell? ⟨gA, 1, none⟩ = some (.int .u8 (rl.toNat : Int)) → S5 w5 := fun w5 h1 h2 h3 => by rw [hSd5]; exact ⟨hSm _ h1, h2, h3⟩
              have hSo : ∀ w', S5 w' → S w' := fun w' h => by rw [hSd5] at h; exact h.1
              have hSc : ∀ w', S5 w' → (convert 42 9 (.slice (some ⟨gA, 0, none⟩) 2 2)).run Tryd.prog w' = .ok (str [rk, rl]) w' := fun w' h => by rw [hSd5] at h; exact conv_2 rk rl w' gA h.2.1 h.2.2
              have hSb5 : ∀ w', S5 w' → Below Wr.heap.size Wr w' := fun w' h => hSb _ (hSo _ h)
              have hTA := hSn _ hbA hcell0 hcell1
              refine hK _ _ (fun _ => hSm _ hbA) ?_
              clear hK hSd5
              refine wpAnyC_strong (S1 := S5) hSo _ _ _ _ ?_
              simp only [hgA]
              clear hWA hgA hcA
              refine wpAnyC_takeD 13 133 (str [rk, rl]) rfl rfl rfl (by kernel_rfl) (by kernel_rfl) (by kernel_rfl) (by kernel_rfl) (fun _ _ _ h => h) (fun w5 hw5 => ?_) hTA ?_
              · have z9 := hSc w5 hw5
                simp only [List.getElem_toArray, List.getElem_cons_zero, List.getElem_cons_succ]
                go_simp
              try simp only [Act.put, List.setIfInBounds_toArray, List.set_cons_zero, List.set_cons_succ]
              refine wpAnyC_step (k := 5) rfl (by kernel_rfl) (fun K hK => ?_)
              simp only [List.getElem_toArray, List.getElem_cons_zero, List.getElem_cons_succ]
              go_simp
              go_wp2_with fail
              refine (M1.out _ (hSb5 _ hTA)).mono ?_
              rintro _ WM1 ⟨rfl, hbM1, hBM1⟩
              go_wp2_with fail
              have hTM1 := hSn _ hbM1 (cell_below hBM1 (Nat.le_refl _) hcell0) (cell_below hBM1 (Nat.le_refl _) hcell1)
              refine hK _ _ (fun _ => hTM1) ?_
              clear hK
              try simp only [Act.put, List.setIfInBounds_toArray, List.set_cons_zero, List.set_cons_succ]
              refine wpAnyC_takeD 7 127 (str P1) rfl rfl rfl (by kernel_rfl) (by kernel_rfl) (by kernel_rfl) (by kernel_rfl) (fun _ _ _ h => h) (fun w5 hw5 => ?_) hTM1 ?_
              · skip
                simp only [List.getElem_toArray, List.getElem_cons_zero, List.getElem_cons_succ]
                go_simp
              try simp only [Act.put, List.setIfInBounds_toArray, List.set_cons_zero, List.set_cons_succ]
              refine wpAnyC_takeD 14 134 (str P2) rfl rfl rfl (by kernel_rfl) (by kernel_rfl) (by kernel_rfl) (by kernel_rfl) (fun _ _ _ h => h) (fun w5 hw5 => ?_) hTM1 ?_
              · skip
                simp only [List.getElem_toArray, List.getElem_cons_zero, List.getElem_cons_succ]
                go_simp
              try simp only [Act.put, List.setIfInBounds_toArray, List.set_cons_zero, List.set_cons_succ]
              refine wpAnyC_takeD 16 136 (str P3) rfl rfl rfl (by kernel_rfl) (by kernel_rfl) (by kernel_rfl) (by kernel_rfl) (fun _ _ _ h => h) (fun w5 hw5 => ?_) hTM1 ?_
              · skip
                simp only [List.getElem_toArray, List.getElem_cons_zero, List.getElem_cons_succ]
                go_simp
              try simp only [Act.put, List.setIfInBounds_toArray, List.set_cons_zero, List.set_cons_succ]
              refine wpAnyC_takeD 17 137 (str P4) rfl rfl rfl (by kernel_rfl) (by kernel_rfl) (by kernel_rfl) (by kernel_rfl) (fun _ _ _ h => h) (fun w5 hw5 => ?_) hTM1 ?_
              · skip
                simp only [List.getElem_toArray, List.getElem_cons_zero, List.getElem_cons_succ]
                go_simp
              try simp only [Act.put, List.setIfInBounds_toArray, List.set_cons_zero, List.set_cons_succ]
              have hcell0 := cell_below hBM1 (Nat.le_refl _) hcell0; have hcell1 := cell_below hBM1 (Nat.le_refl _) hcell1
              refine wpAnyC_step (k := 19) rfl (by kernel_rfl) (fun K hK => ?_)
              simp only [List.getElem_toArray, List.getElem_cons_zero, List.getElem_cons_succ]
              go_simp
              go_wp2_with fail
              refine (M2.out _ (hSb5 _ hTM1)).mono ?_
              rintro _ WM2 ⟨rfl, hbM2, hBM2⟩
              go_wp2_with fail
              have hTM2 := hSn _ hbM2 (cell_below hBM2 (Nat.le_refl _) hcell0) (cell_below hBM2 (Nat.le_refl _) hcell1)
              refine hK _ _ (fun _ => hTM2) ?_
              clear hK
              try simp only [Act.put, List.setIfInBounds_toArray, List.set_cons_zero, List.set_cons_succ]
              refine wpAnyC_takeD 20 140 (str P5) rfl rfl rfl (by kernel_rfl) (by kernel_rfl) (by kernel_rfl) (by kernel_rfl) (fun _ _ _ h => h) (fun w5 hw5 => ?_) hTM2 ?_
              · skip
                simp only [List.getElem_toArray, List.getElem_cons_zero, List.getElem_cons_succ]
                go_simp
              try simp only [Act.put, List.setIfInBounds_toArray, List.set_cons_zero, List.set_cons_succ]
              refine wpAnyC_takeD 22 142 (str P6) rfl rfl rfl (by kernel_rfl) (by kernel_rfl) (by kernel_rfl) (by kernel_rfl) (fun _ _ _ h => h) (fun w5 hw5 => ?_) hTM2 ?_
              · skip
                simp only [List.getElem_toArray, List.getElem_cons_zero, List.getElem_cons_succ]
                go_simp
              try simp only [Act.put, List.setIfInBounds_toArray, List.set_cons_zero, List.set_cons_succ]
              refine wpAnyC_takeD 23 143 (str P7) rfl rfl rfl (by kernel_rfl) (by kernel_rfl) (by kernel_rfl) (by kernel_rfl) (fun _ _ _ h => h) (fun w5 hw5 => ?_) hTM2 ?_
              · skip
                simp only [List.getElem_toArray, List.getElem_cons_zero, List.getElem_cons_succ]
                go_simp
              try simp only [Act.put, List.setIfInBounds_toArray, List.set_cons_zero, List.set_cons_succ]
              refine wpAnyC_takeD 25 145 (str P8) rfl rfl rfl (by kernel_rfl) (by kernel_rfl) (by kernel_rfl) (by kernel_rfl) (fun _ _ _ h => h) (fun w5 hw5 => ?_) hTM2 ?_
              · skip
                simp only [List.getElem_toArray, List.getElem_cons_zero, List.getElem_cons_succ]
                go_simp
              try simp only [Act.put, List.setIfInBounds_toArray, List.set_cons_zero, List.set_cons_succ]
              refine wpAnyC_takeD 26 146 (str P9) rfl rfl rfl (by kernel_rfl) (by kernel_rfl) (by kernel_rfl) (by kernel_rfl) (fun _ _ _ h => h) (fun w5 hw5 => ?_) hTM2 ?_
              · skip
                simp only [List.getElem_toArray, List.getElem_cons_zero, List.getElem_cons_succ]
                go_simp
              try simp only [Act.put, List.setIfInBounds_toArray, List.set_cons_zero, List.set_cons_succ]
              refine wpAnyC_takeD 28 148 (str P10) rfl rfl rfl (by kernel_rfl) (by kernel_rfl) (by kernel_rfl) (by kernel_rfl) (fun _ _ _ h => h) (fun w5 hw5 => ?_) hTM2 ?_
              · skip
                simp only [List.getElem_toArray, List.getElem_cons_zero, List.getElem_cons_succ]
                go_simp
              try simp only [Act.put, List.setIfInBounds_toArray, List.set_cons_zero, List.set_cons_succ]
              refine wpAnyC_takeD 29 149 (str P11) rfl rfl rfl (by kernel_rfl) (by kernel_rfl) (by kernel_rfl) (by kernel_rfl) (fun _ _ _ h => h) (fun w5 hw5 => ?_) hTM2 ?_
              · skip
                simp only [List.getElem_toArray, List.getElem_cons_zero, List.getElem_cons_succ]
                go_simp
              try simp only [Act.put, List.setIfInBounds_toArray, List.set_cons_zero, List.set_cons_succ]
              refine wpAnyC_takeD 31 151 (str P12) rfl rfl rfl (by kernel_rfl) (by kernel_rfl) (by kernel_rfl) (by kernel_rfl) (fun _ _ _ h => h) (fun w5 hw5 => ?_) hTM2 ?_
              · skip
                simp only [List.getElem_toArray, List.getElem_cons_zero, List.getElem_cons_succ]
                go_simp
              try simp only [Act.put, List.setIfInBounds_toArray, List.set_cons_zero, List.set_cons_succ]
              refine wpAnyC_takeD 32 152 (str P13) rfl rfl rfl (by kernel_rfl) (by kernel_rfl) (by kernel_rfl) (by kernel_rfl) (fun _ _ _ h => h) (fun w5 hw5 => ?_) hTM2 ?_
              · skip
                simp only [List.getElem_toArray, List.getElem_cons_zero, List.getElem_cons_succ]
                go_simp
              try simp only [Act.put, List.setIfInBounds_toArray, List.set_cons_zero, List.set_cons_succ]
              refine wpAnyC_takeD 33 4 (str P13) rfl rfl rfl (by kernel_rfl) (by kernel_rfl) (by kernel_rfl) (by kernel_rfl) (fun _ _ _ h => h) (fun w5 hw5 => ?_) hTM2 ?_
              · skip
                simp only [List.getElem_toArray, List.getElem_cons_zero, List.getElem_cons_succ]
                go_simp
              try simp only [Act.put, List.setIfInBounds_toArray, List.set_cons_zero, List.set_cons_succ]
              refine wpAnyC_done (by kernel_rfl) ?_
              have Hbz := Lib.hid (HW.out.bel.trans ((hbM2).mono HW.out.bel.size))
              clear hS0 hSb hSm hSn hSo hSc hSb5
              go_wp2
              go_ret
              exact ⟨99, at', data, by show Ending.returned (str P13) = _; rw [HDD.out, HP.out], Hlay.out.1, Hlay.out.2.1, Hlay.out.2.2, Hbz.out⟩
theorem rLaid_c (v ov : Value) (r : RecM) (ol : List Int) (w : World) (hv : RecV w v r) (ho : IntsAt w ov ol) (hfit : ∀ x ∈ ol, Fits x) (hsz : sizeR r ≤ 5000) (htag : ∀ f ∈ r.fields, f.tag.length = 3) :
    Calls Tryd.prog 25 #[v, ov] w (LaidPost r w) := by
  by_cases h : ol.length = 0
  · exact rLaid_nil v ov r ol w hv ho hfit hsz htag h
  · exact rLaid_cons v ov r ol w hv ho hfit hsz htag h
end Go.Proofs.YtpfnmjcomdckgaaDoor
