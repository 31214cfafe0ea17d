/-
  marc.readFields.
-/
import Derived.Test.YtpfnmjcomdckgaaDoorRFieldV
import Derived.BigRegion
namespace Go.Proofs.YtpfnmjcomdckgaaDoor
open Go.RowKit Go.Shelf
set_option linter.unusedVariables false
set_option linter.unusedSimpArgs false

def fieldsP (data : List UInt8) (off : Nat) : List EntM → PR (List FldM)
  | [] => .ok []
  | e :: es => match fieldM e.tag ((data.drop e.from').take e.size) (off + e.from') with
    | .bad p k => .bad p k
    | .ok f => match fieldsP data off es with
      | .bad p k => .bad p k
      | .ok fs => .ok (f :: fs)
def preF (acc : List FldM) : PR (List FldM) → PR (List FldM)
  | .bad a k => .bad a k
  | .ok es => .ok (acc ++ es)
theorem fieldsP_bad {data : List UInt8} {off p k : Nat} {e : EntM} {es : List EntM} {acc : List FldM} (h : fieldM e.tag ((data.drop e.from').take e.size) (off + e.from') = .bad p k) : preF acc (fieldsP data off (e :: es)) = .bad p k := by
  have : fieldsP data off (e :: es) = .bad p k := by
    show (match fieldM e.tag ((data.drop e.from').take e.size) (off + e.from') with | .bad p k => _ | .ok f => _) = _
    rw [h]
  rw [this]; rfl
theorem fieldsP_go {data : List UInt8} {off : Nat} {e : EntM} {es : List EntM} {f : FldM} {acc : List FldM} (h : fieldM e.tag ((data.drop e.from').take e.size) (off + e.from') = .ok f) : preF acc (fieldsP data off (e :: es)) = preF (acc ++ [f]) (fieldsP data off es) := by
  have : fieldsP data off (e :: es) = (match fieldsP data off es with | .bad p k => .bad p k | .ok fs => .ok (f :: fs)) := by
    show (match fieldM e.tag ((data.drop e.from').take e.size) (off + e.from') with | .bad p k => _ | .ok f => _) = _
    rw [h]
  rw [this]
  cases fieldsP data off es with
  | bad p k => rfl
  | ok fs => simp [preF]
/-- A slice value reads as a list of entries. -/
def EntsAt (w : World) (v : Value) (l : List EntM) : Prop :=
  (∃ a c, v = .slice a 0 c ∧ l = []) ∨
  ∃ b off cap, v = .slice (some ⟨b, off, none⟩) l.length cap ∧ b < w.heap.size ∧
    ∀ i (h : i < l.length), w.cell? ⟨b, off + i * 3, none⟩ = some (str l[i].tag) ∧ w.cell? ⟨b, off + i * 3 + 1, none⟩ = some (.int .i64 l[i].from') ∧ w.cell? ⟨b, off + i * 3 + 2, none⟩ = some (.int .i64 l[i].size)
theorem EntsAt.slice {w : World} {v : Value} {l : List EntM} (h : EntsAt w v l) : ∃ a cap, v = .slice a l.length cap ∧
    ∀ i (h : i < l.length), ∃ b off, a = some ⟨b, off, none⟩ ∧ b < w.heap.size ∧ w.cell? ⟨b, off + i * 3, none⟩ = some (str l[i].tag) ∧ w.cell? ⟨b, off + i * 3 + 1, none⟩ = some (.int .i64 l[i].from') ∧ w.cell? ⟨b, off + i * 3 + 2, none⟩ = some (.int .i64 l[i].size) := by
  rcases h with ⟨a, c, rfl, rfl⟩ | ⟨b, off, cap, hv, hlt, hc⟩
  · exact ⟨a, c, rfl, fun i h => by simp at h⟩
  · exact ⟨_, _, hv, fun i hi => ⟨b, off, rfl, hlt, hc i hi⟩⟩
theorem ents_of_own {w : World} {B : Nat} {v : Value} {l : List EntM} (h : w.ownsRow B 117 3 v l.length (entCells l)) : EntsAt w v l := by
  rcases h.2 with ⟨rfl, h0⟩ | ⟨g, cap, cur, rfl, hB, hg, hnc, hcm, hsz, htake⟩
  · exact .inl ⟨_, _, rfl, List.eq_nil_of_length_eq_zero h0⟩
  · refine .inr ⟨g, 0, cap, rfl, lt_at hg, fun i hi => ?_⟩
    have hat : ∀ (l : List EntM) (i : Nat) (h : i < l.length), (entCells l)[i * 3]? = some (str l[i].tag) ∧ (entCells l)[i * 3 + 1]? = some (.int .i64 l[i].from') ∧ (entCells l)[i * 3 + 2]? = some (.int .i64 l[i].size) := by
      intro l
      induction l with
      | nil => intro i h; simp at h
      | cons x r ih =>
        intro i h
        cases i with
        | zero => simp [entCells]
        | succ k =>
          have := ih k (by simpa using h)
          simp only [entCells, List.flatMap_cons, List.cons_append, List.nil_append, List.getElem_cons_succ] at this ⊢
          rw [show (k + 1) * 3 = k * 3 + 1 + 1 + 1 from by omega]
          simpa using this
    obtain ⟨a0, a1, a2⟩ := hat l i hi
    rw [← htake] at a0 a1 a2
    rw [List.getElem?_take_of_lt (by omega)] at a0 a1 a2
    rw [cell_at hg, cell_at hg, cell_at hg]
    simp only [Nat.zero_add]
    exact ⟨by simpa using a0, by simpa using a1, by simpa using a2⟩
/-- The cells of a row of fields, each with the value of its subfields. -/
def fldCells (l : List (FldM × Value)) : List Value := l.flatMap fun p => [str p.1.tag, str p.1.ind, str p.1.data, p.2]
theorem fldCells_snoc (l : List (FldM × Value)) (p : FldM × Value) : fldCells (l ++ [p]) = fldCells l ++ [str p.1.tag, str p.1.ind, str p.1.data, p.2] := by simp [fldCells]
theorem flds_of_own {w : World} {B : Nat} {v : Value} {l : List (FldM × Value)} (h : w.ownsRow B 62 4 v l.length (fldCells l)) (hs : ∀ p ∈ l, SubsAt w p.2 p.1.subs) : FldsAt w v (l.map (fun p => p.1)) := by
  rcases h.2 with ⟨rfl, h0⟩ | ⟨g, cap, cur, rfl, hB, hg, hnc, hcm, hsz, htake⟩
  · exact .inl ⟨_, _, rfl, by rw [List.eq_nil_of_length_eq_zero h0]; rfl⟩
  · refine .inr ⟨g, 0, cap, by rw [List.length_map], by rw [List.length_map]; exact Nat.le_trans hnc hcm, lt_at hg, fun i hi => ?_⟩
    have hi' : i < l.length := by simpa using hi
    have hat : ∀ (l : List (FldM × Value)) (i : Nat) (h : i < l.length), (fldCells l)[i * 4]? = some (str l[i].1.tag) ∧ (fldCells l)[i * 4 + 1]? = some (str l[i].1.ind) ∧ (fldCells l)[i * 4 + 2]? = some (str l[i].1.data) ∧ (fldCells l)[i * 4 + 3]? = some l[i].2 := by
      intro l
      induction l with
      | nil => intro i h; simp at h
      | cons x r ih =>
        intro i h
        cases i with
        | zero => simp [fldCells]
        | succ k =>
          have := ih k (by simpa using h)
          simp only [fldCells, List.flatMap_cons, List.cons_append, List.nil_append, List.getElem_cons_succ] at this ⊢
          rw [show (k + 1) * 4 = k * 4 + 1 + 1 + 1 + 1 from by omega]
          simpa using this
    obtain ⟨a0, a1, a2, a3⟩ := hat l i hi'
    rw [← htake] at a0 a1 a2 a3
    rw [List.getElem?_take_of_lt (by omega)] at a0 a1 a2 a3
    rw [cell_at hg, cell_at hg, cell_at hg]
    simp only [Nat.zero_add, List.getElem_map]
    refine ⟨by simpa using a0, by simpa using a1, by simpa using a2, l[i].2, by rw [cell_at hg]; simpa using a3, hs _ (List.getElem_mem hi')⟩
theorem below_of_grown {a b c : World} {g : Nat} (h : Below a.heap.size a b) (k : b.grownBy c (some g)) (hg : a.heap.size ≤ g) : Below a.heap.size a c :=
  h.trans ⟨k.os, k.tape, k.output, k.size, fun i hi => k.block i (Nat.lt_of_lt_of_le hi h.size) (fun e => by have := Option.some.inj e; omega)⟩
def FsPost (x : PR (List FldM)) (w : World) (e : Ending) (w' : World) : Prop := match x with
  | .bad p k => e = pan p k ∧ Below w.heap.size w w'
  | .ok fs => ∃ v, e = .returned v ∧ Below w.heap.size w w' ∧ FldsAt w' v fs
theorem infoFld : (Tryd.prog.info? 62).map (fun i => (i.zero, i.size, i.bytes)) = some (some (.agg #[.string ⟨#[]⟩, .string ⟨#[]⟩, .string ⟨#[]⟩, .slice none 0 0]), 4, 72) := by kernel_rfl
set_option maxRecDepth 100000 in
set_option maxHeartbeats 4000000 in
theorem readFields_c (data : List UInt8) (off : Nat) (v : Value) (es : List EntM) (w : World) (hv : EntsAt w v es) (hn : es.length ≤ 1000000) (hd : data.length ≤ 1048576) (ho : off ≤ 1048576) (hT : Tabs w)
    (hes : ∀ e ∈ es, 1 ≤ e.size ∧ e.from' + e.size ≤ data.length) :
    Calls Tryd.prog 70 #[str data, .int .i64 off, v] w (FsPost (fieldsP data off es) w) := by
  obtain ⟨a, cap, rfl, hc⟩ := hv.slice
  have Hc := Lib.hid hc
  have Hes := Lib.hid hes
  have HT := Lib.hid hT
  have hsz := size_str data
  obtain ⟨i0', hi, hz0, hz1, hz2⟩ := info_parts infoFld
  obtain ⟨w2, hrun, hown2, hg2⟩ := run_make_own (P := Tryd.prog) w w.heap.size 25 62 i0' _ 4 Tryd.underlying25 hi hz0 hz1 .i64 .i64 es.length (by rw [hz2]; omega) (by unfold maxLen; omega) (Nat.le_refl _)
  have hB2 : Below w.heap.size w w2 := ⟨hg2.os, hg2.tape, hg2.output, hg2.size, fun k hk => hg2.block k hk (fun e => by cases e)⟩
  have Hi := Lib.hid (show ∃ i, Tryd.prog.info? 62 = some i ∧ i.zero = some (.agg #[.string ⟨#[]⟩, .string ⟨#[]⟩, .string ⟨#[]⟩, .slice none 0 0]) ∧ i.size = 4 ∧ i.bytes = 72 from ⟨i0', hi, hz0, hz1, hz2⟩)
  obtain ⟨R, hR⟩ : ∃ R, fieldsP data off es = R := ⟨_, rfl⟩
  rw [hR]
  have HR := Lib.hid hR
  have Hown2 := Lib.hid hown2
  have HB2 := Lib.hid hB2
  clear hown2 hB2 hg2 hi hz0 hz1 hz2 hc hes hv hT hR
  go_enter Tryd.func70, Tryd.ntmps70
  go_wp2_with fail
  clear hrun
  go_loopw [7, 16] (fun sv iv wr => ∃ (k : Nat) (acc : List (FldM × Value)), k ≤ es.length ∧ iv = .int .i64 k ∧ acc.length = k ∧ wr.ownsRow w.heap.size 62 4 sv acc.length (fldCells acc) ∧ (∀ p ∈ acc, wr.ownsRow w.heap.size 64 2 p.2 p.1.subs.length (subCells p.1.subs)) ∧ Below w.heap.size w wr ∧ R = preF (acc.map (fun p => p.1)) (fieldsP data off (es.drop k))) (fun _ iv _ => es.length - (intOf iv).toNat)
  case atStart => exact ⟨0, [], Nat.zero_le _, rfl, rfl, Hown2.out, by simp, HB2.out, by rw [← HR.out]; simp; cases fieldsP data off es <;> rfl⟩
  case round =>
    obtain ⟨k, acc, hk, rfl, hacc, hown, hsubs, hbel, hres⟩ := hrel
    clear Hown2 HB2 HR
    by_cases hlt : k < es.length
    · obtain ⟨b2, o2, rfl, hb2, c0, c1, c2⟩ := Hc.out k hlt
      have c0 := cell_below hbel (Nat.le_refl _) c0
      have c1 := cell_below hbel (Nat.le_refl _) c1
      have c2 := cell_below hbel (Nat.le_refl _) c2
      obtain ⟨he1, he2⟩ := Hes.out _ (List.getElem_mem hlt)
      have hdr := List.drop_eq_getElem_cons hlt
      have i0 : (0 : Int) ≤ (k : Int) := by omega
      have i1 : (k : Int) < (es.length : Int) := by omega
      obtain ⟨⟨T, F, S⟩, hE⟩ : ∃ e, es[k] = e := ⟨_, rfl⟩
      rw [hE] at c0 c1 c2 he1 he2 hdr
      simp only at c0 c1 c2 he1 he2
      rw [hdr] at hres
      have hbad := fun p kk h => hres.trans (fieldsP_bad (data := data) (off := off) (e := ⟨T, F, S⟩) (es := es.drop (k + 1)) (acc := acc.map (fun p => p.1)) (p := p) (k := kk) h)
      have hgo := fun f h => hres.trans (fieldsP_go (data := data) (off := off) (e := ⟨T, F, S⟩) (es := es.drop (k + 1)) (acc := acc.map (fun p => p.1)) (f := f) h)
      simp only at hbad hgo
      obtain ⟨z, hz⟩ : ∃ z, F + S = z := ⟨_, rfl⟩
      have hex := ext_mid data F z
      rw [show z - F = S by omega] at hex
      obtain ⟨B, hB⟩ : ∃ B, (data.drop F).take S = B := ⟨_, rfl⟩
      have hBl : B.length = S := by rw [← hB, List.length_take, List.length_drop]; omega
      rw [hB] at hex hbad hgo
      have hzI : (F : Int) + (S : Int) = (z : Int) := by omega
      obtain ⟨q, hq⟩ : ∃ q, off + F = q := ⟨_, rfl⟩
      have hqI : (off : Int) + (F : Int) = (q : Int) := by omega
      rw [hq] at hbad hgo
      have k1 : (F : Int) ≤ (z : Int) := by omega
      have k2 : (z : Int) ≤ (data.length : Int) := by omega
      have k3 : (0 : Int) ≤ (F : Int) := by omega
      have k4 : (0 : Int) ≤ (z : Int) := by omega
      have w1 := wrapI (z : Int) (by omega) (by omega)
      have w2 := wrapI (q : Int) (by omega) (by omega)
      have Hbel := Lib.hid hbel
      have Hown := Lib.hid hown
      have Hsubs := Lib.hid hsubs
      have Hbad := Lib.hid hbad
      have Hgo := Lib.hid hgo
      clear hres hdr hbel hown hsubs hbad hgo hE hB
      obtain ⟨W5, hW5⟩ : ∃ W5, wr.alloc (.cells #[str T, .int .i64 F, .int .i64 S] 117) = W5 := ⟨_, rfl⟩
      have hn5 := new_at wr (.cells #[str T, .int .i64 F, .int .i64 S] 117)
      have hb5 : Below wr.heap.size wr W5 := by rw [← hW5]; exact below_new _ _
      rw [hW5] at hn5
      have b0 : W5.cell? ⟨wr.heap.size, 0, none⟩ = some (str T) := by rw [cell_at hn5]; rfl
      have b1 : W5.cell? ⟨wr.heap.size, 1, none⟩ = some (.int .i64 F) := by rw [cell_at hn5]; rfl
      have b3 : W5.cell? ⟨wr.heap.size, 2, none⟩ = some (.int .i64 S) := by rw [cell_at hn5]; rfl
      have g0 : (W5.alloc (.cells #[.string ⟨#[]⟩, .int .i64 0, .int .i64 0] 121)).cell? ⟨wr.heap.size, 0, none⟩ = some (str T) := ((below_new W5 _).cell (lt_at hn5)).trans b0
      have g1 : (W5.alloc (.cells #[.string ⟨#[]⟩, .int .i64 0, .int .i64 0] 121)).cell? ⟨wr.heap.size, 1, none⟩ = some (.int .i64 F) := ((below_new W5 _).cell (lt_at hn5)).trans b1
      have g3 : (W5.alloc (.cells #[.string ⟨#[]⟩, .int .i64 0, .int .i64 0] 121)).cell? ⟨wr.heap.size, 2, none⟩ = some (.int .i64 S) := ((below_new W5 _).cell (lt_at hn5)).trans b3
      have Hb5 := Lib.hid hb5
      have Hn5 := Lib.hid hn5
      clear hb5 hn5
      go_wp2_with fail
      go_region
      have hF6 : FR W5.heap.size B q 0 (W5.alloc (.cells #[str B, .int .i64 q, .int .i64 0] 121)).drew := new_at W5 _
      have hB6 : Below wr.heap.size wr (W5.alloc (.cells #[str B, .int .i64 q, .int .i64 0] 121)).drew := (Hb5.out.alloc Hb5.out.size _).drew
      have h0 : (W5.alloc (.cells #[str B, .int .i64 q, .int .i64 0] 121)).drew.cell? ⟨wr.heap.size, 0, none⟩ = some (str T) := ((below_new W5 _).cell (lt_at Hn5.out)).trans b0
      obtain ⟨W6, hW6⟩ : ∃ W6, (W5.alloc (.cells #[str B, .int .i64 q, .int .i64 0] 121)).drew = W6 := ⟨_, rfl⟩
      rw [hW6] at hF6 hB6 h0 ⊢
      have hT6 := tabs_below HT.out ((Hbel.out.trans (hB6.mono Hbel.out.size)))
      have N := field_c W5.heap.size T B q W6 hF6 (by omega) (by omega) (by omega) hT6
      have HB6 := Lib.hid hB6
      have hbge : wr.heap.size ≤ W5.heap.size := Hb5.out.size
      clear hW6 hF6 hB6 hT6 g0 g1 g3 b0 b1 b3 Hb5 Hn5 hW5
      obtain ⟨b, hb⟩ : ∃ b, W5.heap.size = b := ⟨_, rfl⟩
      rw [hb] at N hbge ⊢
      clear hb
      cases hfm : fieldM T B q with
      | bad pp kk =>
        have HR2 := Lib.hid (Hbad.out pp kk hfm)
        rw [hfm] at N
        unfold FPost at N
        have N := Lib.hid N
        clear hfm
        go_wp2_with fail
        refine N.out.mono ?_
        rintro e w7 ⟨rfl, hg7⟩
        go_wp2_with fail
        refine ⟨rfl, ?_⟩
        rw [HR2.out]
        exact ⟨rfl, Hbel.out.trans ((below_of_grown (HB6.out) hg7 hbge).mono Hbel.out.size)⟩
      | ok f =>
        have HR2 := Lib.hid (Hgo.out f hfm)
        rw [hfm] at N
        unfold FPost at N
        have N := Lib.hid N
        clear hfm Hbad Hgo
        go_wp2_with fail
        refine N.out.mono ?_
        rintro e w7 ⟨sv, rfl, hg7, hsv⟩
        have hB7 := below_of_grown HB6.out hg7 hbge
        obtain ⟨sa, sc, rfl⟩ := own_form hsv
        have hown7 := own_same Hown.out (w' := w7) (fun g _ hlt => hB7.block g hlt)
        have hsubs7 : ∀ p ∈ acc, w7.ownsRow w.heap.size 64 2 p.2 p.1.subs.length (subCells p.1.subs) := fun p hp => own_same (Hsubs.out p hp) (fun g _ hlt => hB7.block g hlt)
        have hsv7 := own_low hsv (show w.heap.size ≤ W6.heap.size by have := Hbel.out.size; have := HB6.out.size; omega)
        have hwl : w.heap.size ≤ w7.heap.size := by have := Hbel.out.size; have := hB7.size; omega
        obtain ⟨i0', hi, hz0, hz1, hz2⟩ := Hi.out
        have hcells : ∀ (j : Nat) (u : Value), [str f.tag, str f.ind, str f.data, Value.slice sa f.subs.length sc][j]? = some u → (w7.alloc (.cells #[str f.tag, str f.ind, str f.data, .slice sa f.subs.length sc] 62)).cell? ((⟨w7.heap.size, 0, none⟩ : Addr).add j) = some u := by
          intro j u hu
          have hj : j < 4 := by
            rcases Nat.lt_or_ge j 4 with h | h
            · exact h
            · rw [List.getElem?_eq_none (by simpa using h)] at hu; cases hu
          match j, hj with
          | 0, _ => cases hu; rw [show ((⟨w7.heap.size, 0, none⟩ : Addr).add 0) = ⟨w7.heap.size, 0, none⟩ from rfl, cell_at (new_at _ _)]; rfl
          | 1, _ => cases hu; rw [show ((⟨w7.heap.size, 0, none⟩ : Addr).add 1) = ⟨w7.heap.size, 1, none⟩ from rfl, cell_at (new_at _ _)]; rfl
          | 2, _ => cases hu; rw [show ((⟨w7.heap.size, 0, none⟩ : Addr).add 2) = ⟨w7.heap.size, 2, none⟩ from rfl, cell_at (new_at _ _)]; rfl
          | 3, _ => cases hu; rw [show ((⟨w7.heap.size, 0, none⟩ : Addr).add 3) = ⟨w7.heap.size, 3, none⟩ from rfl, cell_at (new_at _ _)]; rfl
        have Hown7 := Lib.hid hown7
        have Hsubs7 := Lib.hid hsubs7
        have Hsv7 := Lib.hid hsv7
        have HB7 := Lib.hid hB7
        have Hcells := Lib.hid hcells
        clear hown7 hsubs7 hsv7 hsv hB7 hcells hg7 Hown Hsubs HB6
        go_wp2_with (at_builtin; refine wpList_append_own _ rfl _ _ 25 rfl w.heap.size 62 i0' _ 4 72 Tryd.underlying25 hi hz0 hz1 hz2 rfl (by decide) _ _ _ rfl (Hown7.out.alloc _) ⟨w7.heap.size, 0, none⟩ 1 1 [str f.tag, str f.ind, str f.data, .slice sa f.subs.length sc] rfl rfl ?c1 ?c2 ?c3 ?c4 ?c5 ?_)
        case c1 => exact Hcells.out
        case c2 => simp [Value.oneCell']
        case c3 => unfold maxLen; omega
        case c4 => omega
        case c5 => simp; omega
        intro v' w8 hown8 hgrow _
        have hrow : ∀ {x : Value} {n : Nat} {xs : List Value}, w7.ownsRow w.heap.size 64 2 x n xs → w8.ownsRow w.heap.size 64 2 x n xs := fun {x n xs} hx => by
          refine ⟨hx.1, ?_⟩
          rcases hx.2 with h0 | ⟨g, cap, cur, hv, hbg, hg, rest⟩
          · exact .inl h0
          · refine .inr ⟨g, cap, cur, hv, hbg, ?_, rest⟩
            have hlt7 := lt_at hg
            refine ((hgrow.block g (by simp; omega) (fun e => ?_)).trans ((below_new w7 _).block g hlt7)).trans hg
            rcases Hown7.out.2 with ⟨h1, _⟩ | ⟨g', cap', cur', hv', _, hg', _⟩
            · rw [h1] at e; simp [Value.ownBlock] at e
            · rw [hv'] at e
              simp only [Value.ownBlock, Option.some.injEq] at e
              subst e
              rw [hg] at hg'
              cases hg'
        have hbel8 : Below w.heap.size w w8 := ((Hbel.out.trans (HB7.out.mono Hbel.out.size)).alloc hwl _).grown hgrow (by simp; omega) (fun k hk => (Hown7.out.lt k hk).1)
        rw [show [str f.tag, str f.ind, str f.data, Value.slice sa f.subs.length sc] = [str (f, Value.slice sa f.subs.length sc).1.tag, str (f, Value.slice sa f.subs.length sc).1.ind, str (f, Value.slice sa f.subs.length sc).1.data, (f, Value.slice sa f.subs.length sc).2] from rfl, ← fldCells_snoc] at hown8
        have hsubs8 : ∀ p ∈ acc ++ [(f, Value.slice sa f.subs.length sc)], w8.ownsRow w.heap.size 64 2 p.2 p.1.subs.length (subCells p.1.subs) := by
          intro p hp
          rcases List.mem_append.1 hp with h | h
          · exact hrow (Hsubs7.out p h)
          · rw [List.mem_singleton.1 h]; exact hrow Hsv7.out
        have Hown8 := Lib.hid hown8
        have Hsubs8 := Lib.hid hsubs8
        have Hbel8 := Lib.hid hbel8
        clear hown8 hsubs8 hbel8 hrow hgrow hi hz0 hz1 hz2 Hown7 Hsubs7 Hsv7 HB7 Hcells hwl h0
        go_wp2
        go_roundw
        case rel => exact ⟨k + 1, acc ++ [(f, .slice sa f.subs.length sc)], by omega, by go_num, by rw [List.length_append, hacc]; rfl, by rw [List.length_append, hacc]; exact Hown8.out, Hsubs8.out, Hbel8.out, by rw [List.map_append]; exact HR2.out⟩
        case measure => simp only [intOf]; omega
    · have hkn : k = es.length := by omega
      subst hkn
      rw [List.drop_length] at hres
      have hR2 : R = .ok (acc.map (fun p => p.1)) := by rw [hres]; simp [fieldsP, preF]
      have hd2 : decide (es.length < es.length) = false := by simp
      have hfl := flds_of_own hown (fun p hp => subs_of_own (hsubs p hp))
      have Hfl := Lib.hid hfl
      have Hbel := Lib.hid hbel
      have HR2 := Lib.hid hR2
      clear hres hR2 hown hsubs hbel hfl
      go_wp2
      go_ret
      rw [HR2.out]
      exact ⟨_, rfl, Hbel.out, Hfl.out⟩
end Go.Proofs.YtpfnmjcomdckgaaDoor
