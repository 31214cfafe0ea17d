/-
  The walk of MarcTexts.
-/
import Derived.Test.YtpfnmjcomdckgaaDoorRSan
import Derived.Test.YtpfnmjcomdckgaaDoorRValid
import Derived.Test.YtpfnmjcomdckgaaDoorRBack
namespace Go.Proofs.YtpfnmjcomdckgaaDoor
open Go.RowKit Go.Shelf
set_option linter.unusedVariables false
set_option linter.unusedSimpArgs false

/-- The law's record. -/
def texR (x y : List UInt8) : RecM := ⟨97, 115, [⟨[48, 48, 56], [], x, []⟩, ⟨[49, 48, 48], [49, 32], [], [⟨97, y⟩, ⟨48, x⟩]⟩]⟩
theorem tex_check (x y : List UInt8) (hx : x.length ≤ 200) (hy : y.length ≤ 200) : checkM (texR x y) = if textB x && textB y then 0 else 14 := by
  have hf : firstBad (texR x y).fields = if textB x && textB y then 0 else 14 := by
    have t1 : tagB [48, 48, 56] = true := by decide
    have t2 : tagB [49, 48, 48] = true := by decide
    have c1 : ctlB [48, 48, 56] = true := by decide
    have c2 : ctlB [49, 48, 48] = false := by decide
    have f1 : fieldB ⟨[48, 48, 56], [], x, []⟩ = textB x := by unfold fieldB; simp [c1]
    have f2 : fieldB ⟨[49, 48, 48], [49, 32], [], [⟨97, y⟩, ⟨48, x⟩]⟩ = (textB y && textB x) := by
      unfold fieldB
      have s1 : signB 97 = true := by decide
      have s2 : signB 48 = true := by decide
      have i1 : indB 49 = true := by decide
      have i2 : indB 32 = true := by decide
      simp [c2, subB, s1, s2, i1, i2]
    show (if tagB [48, 48, 56] then (if fieldB ⟨[48, 48, 56], [], x, []⟩ then (if tagB [49, 48, 48] then (if fieldB ⟨[49, 48, 48], [49, 32], [], [⟨97, y⟩, ⟨48, x⟩]⟩ then 0 else 14) else 13) else 14) else 13) = _
    rw [f1, f2, t1, t2]
    cases textB x <;> cases textB y <;> rfl
  have z1 : sizeF ⟨[48, 48, 56], [], x, []⟩ = x.length + 1 := by simp [sizeF, subsN]
  have z2 : sizeF ⟨[49, 48, 48], [49, 32], [], [⟨97, y⟩, ⟨48, x⟩]⟩ = 7 + y.length + x.length := by simp [sizeF, subsN]; omega
  have hlg : largeB (texR x y).fields = false := by
    unfold largeB texR
    simp only [List.any_cons, List.any_nil, z1, z2, Bool.or_false, Bool.or_eq_false_iff, decide_eq_false_iff_not]
    omega
  have hs : sizeR (texR x y) ≤ 99999 := by
    simp only [sizeR, sizeH, texR, fieldsN, List.map_cons, List.map_nil, List.sum_cons, List.sum_nil, z1, z2, List.length_cons, List.length_nil]
    omega
  unfold checkM
  rw [hf, hlg, show (lowB (texR x y).kind && lowB (texR x y).level) = true from rfl, if_pos rfl]
  cases (textB x && textB y) with
  | true =>
    rw [if_pos rfl, if_pos rfl, if_neg]
    simp only [Bool.or_false, Bool.or_eq_true, decide_eq_true_eq, not_or]
    exact ⟨by simp [texR], by omega⟩
  | false =>
    rw [if_neg (by decide), if_neg (by decide)]
theorem tex_size (x y : List UInt8) (hx : x.length ≤ 200) (hy : y.length ≤ 200) : sizeR (texR x y) ≤ 1099511627776 := by
  have z1 : sizeF ⟨[48, 48, 56], [], x, []⟩ = x.length + 1 := by simp [sizeF, subsN]
  have z2 : sizeF ⟨[49, 48, 48], [49, 32], [], [⟨97, y⟩, ⟨48, x⟩]⟩ = 7 + y.length + x.length := by simp [sizeF, subsN]; omega
  simp only [sizeR, sizeH, texR, fieldsN, List.map_cons, List.map_nil, List.sum_cons, List.sum_nil, z1, z2, List.length_cons, List.length_nil]
  omega
theorem ext200 (l : List UInt8) : (ByteArray.mk l.toArray).extract 0 (min (l.length : Int) 200).toNat = ⟨(l.take 200).toArray⟩ := by
  have h : (min (l.length : Int) 200).toNat = min l.length 200 := by omega
  rw [h, ext_take]
  congr 2
  rw [List.take_eq_take_iff]
  omega
/-- How the law's record lies in memory. -/
theorem tex_at (x y : List UInt8) (w : World) (b : Nat) (hb : b = w.heap.size) :
    let W := (w.alloc (.cells #[.int .u8 97, str y, .int .u8 48, str x] 64)).alloc (.cells #[.string ⟨#[48, 48, 56]⟩, .string ⟨#[]⟩, str x, .slice none 0 0, .string ⟨#[49, 48, 48]⟩, .string ⟨#[49, 32]⟩, .string ⟨#[]⟩, .slice (some ⟨b, 0, none⟩) 2 2] 62)
    RecV W (.agg #[.int .u8 97, .int .u8 115, .slice (some ⟨b + 1, 0, none⟩) 2 2]) (texR x y) ∧ Below w.heap.size w W ∧ W.heap.size = b + 2 := by
  intro W
  subst hb
  have n1 := new_at w (.cells #[.int .u8 97, str y, .int .u8 48, str x] 64)
  have b1 := below_new w (.cells #[.int .u8 97, str y, .int .u8 48, str x] 64)
  have z1 : (w.alloc (.cells #[.int .u8 97, str y, .int .u8 48, str x] 64)).heap.size = w.heap.size + 1 := by simp
  have n2 := new_at (w.alloc (.cells #[.int .u8 97, str y, .int .u8 48, str x] 64)) (.cells #[.string ⟨#[48, 48, 56]⟩, .string ⟨#[]⟩, str x, .slice none 0 0, .string ⟨#[49, 48, 48]⟩, .string ⟨#[49, 32]⟩, .string ⟨#[]⟩, .slice (some ⟨w.heap.size, 0, none⟩) 2 2] 62)
  have b2 := below_new (w.alloc (.cells #[.int .u8 97, str y, .int .u8 48, str x] 64)) (.cells #[.string ⟨#[48, 48, 56]⟩, .string ⟨#[]⟩, str x, .slice none 0 0, .string ⟨#[49, 48, 48]⟩, .string ⟨#[49, 32]⟩, .string ⟨#[]⟩, .slice (some ⟨w.heap.size, 0, none⟩) 2 2] 62)
  have n1' := heap_below b2 n1
  have hsz : W.heap.size = w.heap.size + 2 := by show (World.alloc _ _).heap.size = _; simp
  change W.heap[_]? = _ at n1' n2
  rw [z1] at n2
  have hs : SubsAt W (.slice (some ⟨w.heap.size, 0, none⟩) 2 2) [⟨97, y⟩, ⟨48, x⟩] := by
    refine .inr ⟨w.heap.size, 0, 2, rfl, (show 2 ≤ maxLen by decide), by omega, ?_⟩
    intro i hi
    match i, hi with
    | 0, _ => exact ⟨by rw [cell_at n1']; rfl, by rw [cell_at n1']; rfl⟩
    | 1, _ => exact ⟨by rw [cell_at n1']; rfl, by rw [cell_at n1']; rfl⟩
    | k + 2, h => exact absurd h (by simp)
  refine ⟨⟨_, rfl, ?_⟩, b1.trans (b2.mono b1.size), hsz⟩
  refine .inr ⟨w.heap.size + 1, 0, 2, rfl, (show 2 ≤ maxLen by decide), by omega, ?_⟩
  intro i hi
  match i, hi with
  | 0, _ => exact ⟨by rw [cell_at n2]; rfl, by rw [cell_at n2]; rfl, by rw [cell_at n2]; rfl, .slice none 0 0, by rw [cell_at n2]; rfl, .inl ⟨_, _, rfl, rfl⟩⟩
  | 1, _ => exact ⟨by rw [cell_at n2]; rfl, by rw [cell_at n2]; rfl, by rw [cell_at n2]; rfl, _, by rw [cell_at n2]; rfl, hs⟩
  | k + 2, h => exact absurd h (by simp [texR])
theorem same_yes (va vb : Value) (r : RecM) (W : World) (ha : RecV W va r) (hb : RecV W vb r) : Calls Tryd.prog 21 #[va, vb] W fun e w' => e = .returned (.bool true) ∧ Below W.heap.size W w' := by
  refine (same_c va vb r r W ha hb).mono ?_
  rintro e w' ⟨rfl, hb'⟩
  exact ⟨by simp, hb'⟩
theorem tex_parse (x y wl : List UInt8) (hp : parseM wl = .ok (texR x y)) (hl : wl.length ≤ 1099511627776) (W : World) (hT : Tabs W) :
    Calls Tryd.prog 20 #[str wl] W fun e w' => ∃ a c, e = .returned (.tuple #[.agg #[.int .u8 97, .int .u8 115, .slice a 2 c], .int .i64 0, .int .i64 0]) ∧ RecV w' (.agg #[.int .u8 97, .int .u8 115, .slice a 2 c]) (texR x y) ∧ Below W.heap.size W w' := by
  have h := Parse_c wl hl W hT
  rw [hp] at h
  refine Calls.mono h ?_
  rintro e w' ⟨fv, rfl, hb, hF⟩
  obtain ⟨a, c, rfl, -⟩ := hF.slice
  exact ⟨a, c, rfl, ⟨_, rfl, hF⟩, hb⟩
set_option maxRecDepth 100000 in
set_option maxHeartbeats 4000000 in
theorem walk_MarcTexts (l m : List UInt8) (hl : l.length ≤ 140737488351232) (hm : m.length ≤ 140737488351232) (w : World) (hT : Tabs w) :
    Calls Tryd.prog 11 #[str l, str m] w (Yes w) := by
  unfold Yes
  have hsz := size_str l
  have hsz2 := size_str m
  have H1 := Lib.hid (sanity_c w hT)
  have HT := Lib.hid hT
  have he1 := ext200 l
  have he2 := ext200 m
  have hx : (l.take 200).length ≤ 200 := by rw [List.length_take]; omega
  have hy : (m.take 200).length ≤ 200 := by rw [List.length_take]; omega
  obtain ⟨x, hxx⟩ : ∃ x, l.take 200 = x := ⟨_, rfl⟩
  obtain ⟨y, hyy⟩ : ∃ y, m.take 200 = y := ⟨_, rfl⟩
  rw [hxx] at he1 hx
  rw [hyy] at he2 hy
  have HC := Lib.hid (tex_check x y hx hy)
  have HZ := Lib.hid (tex_size x y hx hy)
  have HTg : ∀ f ∈ (texR x y).fields, f.tag.length ≤ 1099511627776 := by
    intro f hf
    simp only [texR, List.mem_cons, List.not_mem_nil, or_false] at hf
    rcases hf with rfl | rfl <;> simp
  have HTg := Lib.hid HTg
  clear hxx hyy
  clear hT
  go_enter Tryd.func11, Tryd.ntmps11
  go_wp2_with fail
  refine H1.out.mono ?_
  rintro e w1 ⟨rfl, hb1⟩
  have B1 := Lib.hid hb1
  clear hb1
  go_wp2_with fail
  obtain ⟨hR, hbt, hzt⟩ := tex_at x y w1 w1.heap.size rfl
  obtain ⟨W2, hW2⟩ : ∃ W2, (w1.alloc (.cells #[.int .u8 97, str y, .int .u8 48, str x] 64)).alloc (.cells #[.string ⟨#[48, 48, 56]⟩, .string ⟨#[]⟩, str x, .slice none 0 0, .string ⟨#[49, 48, 48]⟩, .string ⟨#[49, 32]⟩, .string ⟨#[]⟩, .slice (some ⟨w1.heap.size, 0, none⟩) 2 2] 62) = W2 := ⟨_, rfl⟩
  simp only [hW2] at hR hbt hzt
  rw [hW2]
  have hn3 := new_at W2 (.cells #[.int .u8 97, .int .u8 115, .slice (some ⟨w1.heap.size + 1, 0, none⟩) 2 2] 27)
  have hb3 := below_new W2 (.cells #[.int .u8 97, .int .u8 115, .slice (some ⟨w1.heap.size + 1, 0, none⟩) 2 2] 27)
  rw [hzt] at hn3
  obtain ⟨w3, hW3⟩ : ∃ w3, W2.alloc (.cells #[.int .u8 97, .int .u8 115, .slice (some ⟨w1.heap.size + 1, 0, none⟩) 2 2] 27) = w3 := ⟨_, rfl⟩
  rw [hW3] at hn3 hb3 ⊢
  have hr3 := hR.below hb3 (Nat.le_refl _)
  have hb3' := below_tr (below_tr B1.out hbt) hb3
  clear hW3 hW2 hR hzt hbt hb3
  obtain ⟨p, hp⟩ : ∃ p, w1.heap.size = p := ⟨_, rfl⟩
  rw [hp] at hn3 hr3 ⊢
  have B3 := Lib.hid hb3'
  have R3 := Lib.hid hr3
  have N3 := Lib.hid hn3
  clear hn3 hr3 hb3' hp he1 he2 H1 B1
  have NW := write_c _ (texR x y) w3 R3.out HZ.out HTg.out
  unfold WritePost writeR at NW
  rw [HC.out] at NW
  have NR := Lib.hid (fun W (hR : RecV W (.agg #[.int .u8 97, .int .u8 115, .slice (some ⟨p + 1, 0, none⟩) 2 2]) (texR x y)) => right_c _ (texR x y) W hR HZ.out HTg.out)
  rw [HC.out] at NR
  have V1 := Lib.hid (fun W => valid_c x (by omega) W)
  have V2 := Lib.hid (fun W => valid_c y (by omega) W)
  cases htx : textB x with
  | false =>
    rw [htx] at V1
    simp only [htx, Bool.false_and, Bool.false_eq_true, if_false] at NW NR
    rw [if_neg (by decide)] at NW
    clear htx
    have NW := Lib.hid NW
    refine NW.out.mono ?_
    rintro e w4 ⟨rfl, hb4⟩
    have B4 := Lib.hid (below_tr B3.out hb4)
    have R4 := Lib.hid (R3.out.below hb4 (Nat.le_refl _))
    have N4 := Lib.hid (heap_below hb4 N3.out)
    have c0 : w4.cell? ⟨p + 1 + 1, 0, none⟩ = some (.int .u8 97) := by rw [cell_at N4.out]; rfl
    have c1 : w4.cell? ⟨p + 1 + 1, 1, none⟩ = some (.int .u8 115) := by rw [cell_at N4.out]; rfl
    have c2 : w4.cell? ⟨p + 1 + 1, 2, none⟩ = some (.slice (some ⟨p + 1, 0, none⟩) 2 2) := by rw [cell_at N4.out]; rfl
    clear hb4
    go_wp2_with fail
    refine (V1.out w4).mono ?_
    rintro e w5 ⟨rfl, hb5⟩
    have B5 := Lib.hid (below_tr B4.out hb5)
    have R5 := Lib.hid (R4.out.below hb5 (Nat.le_refl _))
    have N5 := Lib.hid (heap_below hb5 N4.out)
    clear c0 c1 c2
    have c0 : w5.cell? ⟨p + 1 + 1, 0, none⟩ = some (.int .u8 97) := by rw [cell_at N5.out]; rfl
    have c1 : w5.cell? ⟨p + 1 + 1, 1, none⟩ = some (.int .u8 115) := by rw [cell_at N5.out]; rfl
    have c2 : w5.cell? ⟨p + 1 + 1, 2, none⟩ = some (.slice (some ⟨p + 1, 0, none⟩) 2 2) := by rw [cell_at N5.out]; rfl
    clear hb5
    go_wp2_with fail
    refine (NR.out w5 R5.out).mono ?_
    rintro e w9 ⟨rfl, hb9⟩
    have B9 := Lib.hid (below_tr B5.out hb9)
    clear hb9
    go_wp2
    go_ret
    exact ⟨rfl, B9.out⟩
  | true =>
    rw [htx] at V1
    cases hty : textB y with
    | false =>
      rw [hty] at V2
      simp only [htx, hty, Bool.and_false, Bool.false_eq_true, if_false] at NW NR
      rw [if_neg (by decide)] at NW
      clear htx hty
      have NW := Lib.hid NW
      refine NW.out.mono ?_
      rintro e w4 ⟨rfl, hb4⟩
      have B4 := Lib.hid (below_tr B3.out hb4)
      have R4 := Lib.hid (R3.out.below hb4 (Nat.le_refl _))
      have N4 := Lib.hid (heap_below hb4 N3.out)
      have c0 : w4.cell? ⟨p + 1 + 1, 0, none⟩ = some (.int .u8 97) := by rw [cell_at N4.out]; rfl
      have c1 : w4.cell? ⟨p + 1 + 1, 1, none⟩ = some (.int .u8 115) := by rw [cell_at N4.out]; rfl
      have c2 : w4.cell? ⟨p + 1 + 1, 2, none⟩ = some (.slice (some ⟨p + 1, 0, none⟩) 2 2) := by rw [cell_at N4.out]; rfl
      clear hb4
      go_wp2_with fail
      refine (V1.out w4).mono ?_
      rintro e w5 ⟨rfl, hb5⟩
      have B5 := Lib.hid (below_tr B4.out hb5)
      have R5 := Lib.hid (R4.out.below hb5 (Nat.le_refl _))
      have N5 := Lib.hid (heap_below hb5 N4.out)
      clear c0 c1 c2
      have c0 : w5.cell? ⟨p + 1 + 1, 0, none⟩ = some (.int .u8 97) := by rw [cell_at N5.out]; rfl
      have c1 : w5.cell? ⟨p + 1 + 1, 1, none⟩ = some (.int .u8 115) := by rw [cell_at N5.out]; rfl
      have c2 : w5.cell? ⟨p + 1 + 1, 2, none⟩ = some (.slice (some ⟨p + 1, 0, none⟩) 2 2) := by rw [cell_at N5.out]; rfl
      clear hb5
      go_wp2_with fail
      refine (V2.out w5).mono ?_
      rintro e w6 ⟨rfl, hb6⟩
      have B6 := Lib.hid (below_tr B5.out hb6)
      have R6 := Lib.hid (R5.out.below hb6 (Nat.le_refl _))
      have N6 := Lib.hid (heap_below hb6 N5.out)
      clear c0 c1 c2
      have c0 : w6.cell? ⟨p + 1 + 1, 0, none⟩ = some (.int .u8 97) := by rw [cell_at N6.out]; rfl
      have c1 : w6.cell? ⟨p + 1 + 1, 1, none⟩ = some (.int .u8 115) := by rw [cell_at N6.out]; rfl
      have c2 : w6.cell? ⟨p + 1 + 1, 2, none⟩ = some (.slice (some ⟨p + 1, 0, none⟩) 2 2) := by rw [cell_at N6.out]; rfl
      clear hb6
      go_wp2_with fail
      refine (NR.out w6 R6.out).mono ?_
      rintro e w9 ⟨rfl, hb9⟩
      have B9 := Lib.hid (below_tr B6.out hb9)
      clear hb9
      go_wp2
      go_ret
      exact ⟨rfl, B9.out⟩
    | true =>
      rw [hty] at V2
      have hch := HC.out
      simp only [htx, hty, Bool.and_self, if_true] at NW hch
      have hpw : parseM (writeM (texR x y)) = .ok (texR x y) := parse_write (check_zero hch)
      have hlw : (writeM (texR x y)).length ≤ 1099511627776 := by rw [writeM_len (check_zero hch)]; exact HZ.out
      obtain ⟨wl, hwl⟩ : ∃ wl, writeM (texR x y) = wl := ⟨_, rfl⟩
      rw [hwl] at NW hpw hlw
      have PC := Lib.hid (fun W hT => tex_parse x y wl hpw hlw W hT)
      clear htx hty hch hwl hpw hlw NR
      have NW := Lib.hid NW
      refine NW.out.mono ?_
      rintro e w4 ⟨rfl, hb4⟩
      have B4 := Lib.hid (below_tr B3.out hb4)
      have R4 := Lib.hid (R3.out.below hb4 (Nat.le_refl _))
      have N4 := Lib.hid (heap_below hb4 N3.out)
      have c0 : w4.cell? ⟨p + 1 + 1, 0, none⟩ = some (.int .u8 97) := by rw [cell_at N4.out]; rfl
      have c1 : w4.cell? ⟨p + 1 + 1, 1, none⟩ = some (.int .u8 115) := by rw [cell_at N4.out]; rfl
      have c2 : w4.cell? ⟨p + 1 + 1, 2, none⟩ = some (.slice (some ⟨p + 1, 0, none⟩) 2 2) := by rw [cell_at N4.out]; rfl
      clear hb4
      go_wp2_with fail
      refine (V1.out w4).mono ?_
      rintro e w5 ⟨rfl, hb5⟩
      have B5 := Lib.hid (below_tr B4.out hb5)
      have R5 := Lib.hid (R4.out.below hb5 (Nat.le_refl _))
      have N5 := Lib.hid (heap_below hb5 N4.out)
      clear c0 c1 c2
      have c0 : w5.cell? ⟨p + 1 + 1, 0, none⟩ = some (.int .u8 97) := by rw [cell_at N5.out]; rfl
      have c1 : w5.cell? ⟨p + 1 + 1, 1, none⟩ = some (.int .u8 115) := by rw [cell_at N5.out]; rfl
      have c2 : w5.cell? ⟨p + 1 + 1, 2, none⟩ = some (.slice (some ⟨p + 1, 0, none⟩) 2 2) := by rw [cell_at N5.out]; rfl
      clear hb5
      go_wp2_with fail
      refine (V2.out w5).mono ?_
      rintro e w6 ⟨rfl, hb6⟩
      have B6 := Lib.hid (below_tr B5.out hb6)
      have R6 := Lib.hid (R5.out.below hb6 (Nat.le_refl _))
      have N6 := Lib.hid (heap_below hb6 N5.out)
      clear c0 c1 c2
      have c0 : w6.cell? ⟨p + 1 + 1, 0, none⟩ = some (.int .u8 97) := by rw [cell_at N6.out]; rfl
      have c1 : w6.cell? ⟨p + 1 + 1, 1, none⟩ = some (.int .u8 115) := by rw [cell_at N6.out]; rfl
      have c2 : w6.cell? ⟨p + 1 + 1, 2, none⟩ = some (.slice (some ⟨p + 1, 0, none⟩) 2 2) := by rw [cell_at N6.out]; rfl
      clear hb6
      go_wp2_with fail
      refine (PC.out w6 (tabs_below HT.out B6.out)).mono ?_
      rintro e w7 ⟨fa, fc, rfl, hq7, hb7⟩
      have Q7 := Lib.hid hq7
      clear hq7
      have B7 := Lib.hid (below_tr B6.out hb7)
      have R7 := Lib.hid (R6.out.below hb7 (Nat.le_refl _))
      have N7 := Lib.hid (heap_below hb7 N6.out)
      clear c0 c1 c2
      have c0 : w7.cell? ⟨p + 1 + 1, 0, none⟩ = some (.int .u8 97) := by rw [cell_at N7.out]; rfl
      have c1 : w7.cell? ⟨p + 1 + 1, 1, none⟩ = some (.int .u8 115) := by rw [cell_at N7.out]; rfl
      have c2 : w7.cell? ⟨p + 1 + 1, 2, none⟩ = some (.slice (some ⟨p + 1, 0, none⟩) 2 2) := by rw [cell_at N7.out]; rfl
      clear hb7
      have b8 := below_new w7 (.cells #[.int .u8 97, .int .u8 115, .slice fa 2 fc] 27)
      have n8 := new_at w7 (.cells #[.int .u8 97, .int .u8 115, .slice fa 2 fc] 27)
      have m8 := heap_below b8 N7.out
      have e0 : (w7.alloc (.cells #[.int .u8 97, .int .u8 115, .slice fa 2 fc] 27)).cell? ⟨w7.heap.size, 0, none⟩ = some (.int .u8 97) := by rw [cell_at n8]; rfl
      have e1 : (w7.alloc (.cells #[.int .u8 97, .int .u8 115, .slice fa 2 fc] 27)).cell? ⟨w7.heap.size, 1, none⟩ = some (.int .u8 115) := by rw [cell_at n8]; rfl
      have e2 : (w7.alloc (.cells #[.int .u8 97, .int .u8 115, .slice fa 2 fc] 27)).cell? ⟨w7.heap.size, 2, none⟩ = some (.slice fa 2 fc) := by rw [cell_at n8]; rfl
      have f0 : (w7.alloc (.cells #[.int .u8 97, .int .u8 115, .slice fa 2 fc] 27)).cell? ⟨p + 1 + 1, 0, none⟩ = some (.int .u8 97) := by rw [cell_at m8]; rfl
      have f1 : (w7.alloc (.cells #[.int .u8 97, .int .u8 115, .slice fa 2 fc] 27)).cell? ⟨p + 1 + 1, 1, none⟩ = some (.int .u8 115) := by rw [cell_at m8]; rfl
      have f2 : (w7.alloc (.cells #[.int .u8 97, .int .u8 115, .slice fa 2 fc] 27)).cell? ⟨p + 1 + 1, 2, none⟩ = some (.slice (some ⟨p + 1, 0, none⟩) 2 2) := by rw [cell_at m8]; rfl
      have SM := Lib.hid (same_yes _ _ (texR x y) _ (Q7.out.below b8 (Nat.le_refl _)) (R7.out.below b8 (Nat.le_refl _)))
      have B8 := Lib.hid (below_tr B7.out b8)
      clear c0 c1 c2 b8 n8 m8
      go_wp2_with fail
      refine SM.out.mono ?_
      rintro e w9 ⟨rfl, hb9⟩
      have B9 := Lib.hid (below_tr B8.out hb9)
      clear hb9 e0 e1 e2 f0 f1 f2
      go_wp2
      go_ret
      exact ⟨rfl, B9.out⟩
end Go.Proofs.YtpfnmjcomdckgaaDoor
