/-
  marc.writeDigits and writeField. marc.writeField. marc.writeDirectory. marc.writeLeader. marc.Write.
-/
import Derived.Test.YtpfnmjcomdckgaaDoorRCheck
import Derived.Test.YtpfnmjcomdckgaaDoorRShelf
namespace Go.Proofs.YtpfnmjcomdckgaaDoor
open Go.RowKit Go.Shelf
set_option linter.unusedVariables false
set_option linter.unusedSimpArgs false

/-- The builder at b has these bytes; what lay below B is as it was. -/
def Bld (B b : Nat) (l : List UInt8) (w : World) : Prop := Lib.IsBuilderF TB TY B b (Lib.byteCells l) w ∧ B ≤ w.heap.size
def WPost (B b : Nat) (l : List UInt8) (w : World) (e : Ending) (w' : World) : Prop := e = .returned (.tuple #[]) ∧ Bld B b l w' ∧ Below B w w' ∧ Lib.OthersKept TY (some b) w w'
theorem cells_len (l : List UInt8) : (Lib.byteCells l).length = l.length := by simp [Lib.byteCells]
theorem cells_app (l m : List UInt8) : Lib.byteCells (l ++ m) = Lib.byteCells l ++ Lib.byteCells m := by simp [Lib.byteCells]
theorem bldByte (B b : Nat) (l : List UInt8) (c : UInt8) (n : Int) (hn : n = (c.toNat : Int)) (w : World) (h : Bld B b l w) (hlen : l.length + 1 ≤ 140737488355328) :
    Calls Tryd.prog 42 #[.pointer (some ⟨b, 0, none⟩), .int .u8 n] w fun e w' => e = .returned .nilIface ∧ Bld B b (l ++ [c]) w' ∧ Below B w w' ∧ Lib.OthersKept TY (some b) w w' := by
  subst hn
  refine (writeByte B b _ _ w h.1 (by rw [cells_len]; exact hlen) h.2).mono ?_
  rintro e w' ⟨rfl, h1, h2, h3⟩
  exact ⟨rfl, ⟨by rw [cells_app]; exact h1, Nat.le_trans h.2 h2.size⟩, h2, h3⟩
theorem bldStr (B b : Nat) (l m : List UInt8) (w : World) (h : Bld B b l w) (hlen : l.length + m.length ≤ 140737488355328) :
    Calls Tryd.prog 62 #[.pointer (some ⟨b, 0, none⟩), str m] w fun e w' => e = .returned (.tuple #[.int .i64 m.length, .nilIface]) ∧ Bld B b (l ++ m) w' ∧ Below B w w' ∧ Lib.OthersKept TY (some b) w w' := by
  have hz := size_str m
  refine (writeString B b _ ⟨m.toArray⟩ w h.1 (by rw [cells_len, hz]; exact hlen) h.2).mono ?_
  rintro e w' ⟨rfl, h1, h2, h3⟩
  refine ⟨by rw [hz], ⟨?_, Nat.le_trans h.2 h2.size⟩, h2, h3⟩
  rw [cells_app]
  have : Lib.strCells ⟨m.toArray⟩ = Lib.byteCells m := by simp [Lib.strCells, Lib.byteCells]
  rw [← this]; exact h1
set_option maxRecDepth 100000 in
set_option maxHeartbeats 1000000 in
theorem digits_c (B b : Nat) : ∀ (k n : Nat) (d q : Int) (l : List UInt8) (w : World), d = (k : Int) + 1 → q = (n : Int) → n ≤ 1099511627776 → k ≤ 100 → Bld B b l w → l.length + k + 1 ≤ 140737488355328 →
    Calls Tryd.prog 61 #[.pointer (some ⟨b, 0, none⟩), .int .i64 q, .int .i64 d] w (WPost B b (l ++ digsN n (k + 1)) w) := by
  intro k
  induction k with
  | zero =>
    rintro n _ _ l w rfl rfl hn hk hb hl
    have N := Lib.hid (bldByte B b l (UInt8.ofNat (48 + n % 10)) (48 + (n % 10 : Nat)) (by simp; omega) w hb (by omega))
    have hq : (n : Int).tmod 10 = ((n % 10 : Nat) : Int) := by rfl
    have h10 : n % 10 < 10 := Nat.mod_lt _ (by decide)
    obtain ⟨m, hm⟩ : ∃ m, n % 10 = m := ⟨_, rfl⟩
    have hd : digsN n 1 = [UInt8.ofNat (48 + m)] := by simp [digsN, hm]
    rw [hm] at N hq h10
    have hw1 : IntKind.u8.wrap (m : Int) = (m : Int) := by rw [IntKind.wrap_u8]; omega
    have hw2 : IntKind.u8.wrap (48 + (m : Int)) = 48 + (m : Int) := by rw [IntKind.wrap_u8]; omega
    rw [hd]
    have i1 : ¬ (1 : Int) < 1 := by omega
    clear hb hm hd
    unfold WPost
    go_enter Tryd.func61, Tryd.ntmps61
    go_wp2_with fail
    refine N.out.mono ?_
    rintro e w1 ⟨rfl, h1, h2, h3⟩
    go_wp2
    go_end0
    exact ⟨rfl, h1, h2, h3⟩
  | succ k ih =>
    rintro n _ _ l w rfl rfl hn hk hb hl
    have hq : (n : Int).tmod 10 = ((n % 10 : Nat) : Int) := by rfl
    have hv : (n : Int).tdiv 10 = ((n / 10 : Nat) : Int) := by rfl
    have h10 : n % 10 < 10 := Nat.mod_lt _ (by decide)
    have ha : n / 10 ≤ 1099511627776 := by omega
    have hd : digsN n (k + 1 + 1) = digsN (n / 10) (k + 1) ++ [UInt8.ofNat (48 + n % 10)] := rfl
    have hdl := digsN_len (k + 1) (n / 10)
    obtain ⟨m, hm⟩ : ∃ m, n % 10 = m := ⟨_, rfl⟩
    obtain ⟨v, hvv⟩ : ∃ v, n / 10 = v := ⟨_, rfl⟩
    rw [hm] at hq h10 hd
    rw [hvv] at hv hd ha hdl
    have hw1 : IntKind.u8.wrap (m : Int) = (m : Int) := by rw [IntKind.wrap_u8]; omega
    have hw2 : IntKind.u8.wrap (48 + (m : Int)) = 48 + (m : Int) := by rw [IntKind.wrap_u8]; omega
    have N1 := Lib.hid (fun d h => ih v d (v : Int) l w h rfl ha (by omega) hb (by omega))
    have N2 := Lib.hid (fun W (hW : Bld B b (l ++ digsN v (k + 1)) W) => bldByte B b (l ++ digsN v (k + 1)) (UInt8.ofNat (48 + m)) (48 + (m : Int)) (by simp; omega) W hW (by rw [List.length_append, hdl]; omega))
    rw [hd, ← List.append_assoc]
    have i1 : (1 : Int) < (k : Int) + 1 + 1 := by omega
    have i2 : (k : Int) ≤ 100 := by omega
    clear hb hm hd hvv ih hdl hl
    unfold WPost
    go_enter Tryd.func61, Tryd.ntmps61
    go_wp2_with fail
    refine (N1.out _ (by omega)).mono ?_
    rintro e w1 ⟨rfl, h1, h2, k2⟩
    have H2 := Lib.hid h2
    have K2 := Lib.hid k2
    have N3 := Lib.hid (N2.out _ h1)
    clear h1 h2 k2
    go_wp2_with fail
    refine N3.out.mono ?_
    rintro e w2 ⟨rfl, h3, h4, k4⟩
    go_wp2
    go_end0
    exact ⟨rfl, h3, H2.out.trans h4, K2.out.trans k4⟩
end Go.Proofs.YtpfnmjcomdckgaaDoor

namespace Go.Proofs.YtpfnmjcomdckgaaDoor
open Go.RowKit Go.Shelf
set_option linter.unusedVariables false
set_option linter.unusedSimpArgs false

theorem Bld.lt {B b : Nat} {l : List UInt8} {w : World} (h : Bld B b l w) : b < w.heap.size := by
  rcases h.1 with ⟨_, v, hb, _⟩ | ⟨_, v, hb, _⟩ <;> exact lt_at hb
theorem Bld.alloc {B b : Nat} {l : List UInt8} {w : World} (h : Bld B b l w) (o : Obj) : Bld B b l (w.alloc o) := ⟨h.1.alloc o, by simp; exact Nat.le_succ_of_le h.2⟩
theorem okept {b g : Nat} {W W' : World} {cs : Array Value} {T : TypeId} (h : Lib.OthersKept TY (some b) W W') (hn : W.heap[g]? = some (.cells cs T (0, 0))) (hT : T ≠ TY) (hg : g ≠ b) : W'.heap[g]? = some (.cells cs T (0, 0)) :=
  h g _ hn (fun e => hg (Option.some.inj e)) (fun c fz e => hT (by cases e; rfl))
theorem kept_new (b : Nat) (w : World) (o : Obj) : Lib.OthersKept TY (some b) w (w.alloc o) := (Lib.OthersKept.refl TY (some b) w).alloc o
set_option maxRecDepth 100000 in
set_option maxHeartbeats 4000000 in
/-- B: what lies below it is as it was: the field and its subfields lie there, the builder at b does not. -/
theorem writeField_c (B b : Nat) (sv : Value) (f : FldM) (l : List UInt8) (w0 w : World) (hsub : SubsAt w0 sv f.subs) (hw0 : w0.heap.size ≤ B) (hb0 : Below w0.heap.size w0 w)
    (hbld : Bld B b l w) (hlen : l.length + sizeF f + 10 ≤ 140737488355328) :
    Calls Tryd.prog 41 #[.pointer (some ⟨b, 0, none⟩), .agg #[str f.tag, str f.ind, str f.data, sv]] w (WPost B b (l ++ bytesF f) w) := by
  obtain ⟨a, cap, rfl, hm, hc⟩ := hsub.slice
  have Hc := Lib.hid hc
  unfold maxLen at hm
  unfold sizeF at hlen
  have hblt := hbld.lt
  have hBw := hbld.2
  clear hc hsub
  obtain ⟨W3, hW3⟩ : ∃ W3, w.alloc (.cells #[str f.tag, str f.ind, str f.data, .slice a f.subs.length cap] 62) = W3 := ⟨_, rfl⟩
  have hb3 : Below w.heap.size w W3 := by rw [← hW3]; exact below_new w _
  have hk3 : Lib.OthersKept TY (some b) w W3 := by rw [← hW3]; exact kept_new b w _
  have hn3 := new_at w (.cells #[str f.tag, str f.ind, str f.data, .slice a f.subs.length cap] 62)
  have hbl3 : Bld B b l W3 := by rw [← hW3]; exact hbld.alloc _
  rw [hW3] at hn3
  have g1 : W3.cell? ⟨w.heap.size, 1, none⟩ = some (str f.ind) := by rw [cell_at hn3]; rfl
  have g2 : W3.cell? ⟨w.heap.size, 2, none⟩ = some (str f.data) := by rw [cell_at hn3]; rfl
  have hgb : w.heap.size ≠ b := by omega
  have h03 : Below w0.heap.size w0 W3 := hb0.trans (hb3.mono hb0.size)
  have N1 := Lib.hid (bldStr B b l f.data W3 hbl3 (by omega))
  have N2 := Lib.hid (fun W h => bldStr B b (l ++ f.data) f.ind W h (by rw [List.length_append]; omega))
  have N5 := Lib.hid (fun W h => bldByte B b (l ++ f.data ++ f.ind ++ subsL f.subs) 30 30 rfl W h (by have := bytesF_len f; unfold bytesF at this; simp only [List.length_append, List.length_cons, List.length_nil] at this ⊢; unfold sizeF at this; omega))
  have H03 := Lib.hid h03
  have Hn3 := Lib.hid hn3
  have HB3 := Lib.hid ((Below.refl B w).alloc hBw (.cells #[str f.tag, str f.ind, str f.data, .slice a f.subs.length cap] 62))
  rw [hW3] at HB3
  have Hk3 := Lib.hid hk3
  have Hlen := Lib.hid hlen
  clear hb3 hn3 hbl3 hbld hb0 h03 hk3 hlen hblt hBw
  unfold WPost
  go_enter Tryd.func41, Tryd.ntmps41
  go_wp2_with fail
  refine N1.out.mono ?_
  clear N1 g1 g2 hW3
  rintro e w4 ⟨rfl, hl4, hb4, hk4⟩
  have hn4 := okept hk4 Hn3.out (by decide) hgb
  have g1 : w4.cell? ⟨w.heap.size, 1, none⟩ = some (str f.ind) := by rw [cell_at hn4]; rfl
  have H04 := Lib.hid (H03.out.trans (hb4.mono hw0))
  have HB4 := Lib.hid (HB3.out.trans hb4)
  have Hk4 := Lib.hid (Hk3.out.trans hk4)
  have N2 := Lib.hid (N2.out w4 hl4)
  have Hn4 := Lib.hid hn4
  clear hn4 hb4 hk4 hl4 H03 HB3 Hk3 Hn3
  go_wp2_with fail
  refine N2.out.mono ?_
  clear N2 g1
  rintro e w5 ⟨rfl, hl5, hb5, hk5⟩
  have hn5 := okept hk5 Hn4.out (by decide) hgb
  have g3 : w5.cell? ⟨w.heap.size, 3, none⟩ = some (.slice a f.subs.length cap) := by rw [cell_at hn5]; rfl
  have H05 := Lib.hid (H04.out.trans (hb5.mono hw0))
  have HB5 := Lib.hid (HB4.out.trans hb5)
  have Hk5 := Lib.hid (Hk4.out.trans hk5)
  have Hl5 := Lib.hid hl5
  clear hn5 hb5 hk5 hl5 H04 HB4 Hk4 Hn4
  go_wp2
  clear g3
  have hP : l.length + f.data.length + f.ind.length = (l ++ f.data ++ f.ind).length := by simp; omega
  obtain ⟨P, hPP⟩ : ∃ P, l ++ f.data ++ f.ind = P := ⟨_, rfl⟩
  have hfin : l ++ bytesF f = P ++ subsL f.subs ++ [30] := by rw [← hPP]; unfold bytesF; simp
  rw [hPP] at Hl5 N5 hP
  have Hfin := Lib.hid hfin
  clear hPP hfin
  go_loopw [17] (fun i wr => ∃ k : Nat, k ≤ f.subs.length ∧ i = .int .i64 k ∧ Bld B b (P ++ subsL (f.subs.take k)) wr ∧ Below w0.heap.size w0 wr ∧ Below B w wr ∧ Lib.OthersKept TY (some b) w wr) (fun i _ => f.subs.length - (intOf i).toNat)
  case atStart => exact ⟨0, Nat.zero_le _, rfl, by simpa [subsL] using Hl5.out, H05.out, HB5.out, Hk5.out⟩
  case round =>
    obtain ⟨k, hk, rfl, hbl, h0w, hBw, hkw⟩ := hrel
    clear Hl5 H05 HB5 Hk5
    by_cases hlt : k < f.subs.length
    · obtain ⟨b2, off, rfl, hb2, c0, c1⟩ := Hc.out k hlt
      have c0 := cell_below h0w (Nat.le_refl _) c0
      have c1 := cell_below h0w (Nat.le_refl _) c1
      have hs := subsL_snoc f.subs k hlt
      have hsl := subsN_snoc f.subs k hlt
      have hle := subsN_le f.subs (k + 1)
      have hsn : (subsL (f.subs.take k)).length = subsN (f.subs.take k) := by
        have : ∀ l : List SubM, (subsL l).length = subsN l := by
          intro l
          induction l with
          | nil => rfl
          | cons s r ih => simp only [subsL, subsN, List.flatMap_cons, List.length_append, List.length_cons, List.map_cons, List.sum_cons] at ih ⊢; omega
        exact this _
      have i0 : (0 : Int) ≤ (k : Int) := by omega
      have i1 : (k : Int) < (f.subs.length : Int) := by omega
      obtain ⟨⟨c, t⟩, hct⟩ : ∃ s, f.subs[k] = s := ⟨_, rfl⟩
      rw [hct] at c0 c1 hs hsl
      simp only at c0 c1 hs hsl
      obtain ⟨S, hS⟩ : ∃ S, subsL (f.subs.take k) = S := ⟨_, rfl⟩
      rw [hS] at hbl hs hsn
      have hlen := Hlen.out
      have hb9 : P.length + S.length + 2 + t.length + 10 ≤ 140737488355328 := by omega
      have hblt := hbl.lt
      have hgb : wr.heap.size ≠ b := by omega
      obtain ⟨W5, hW5⟩ : ∃ W5, wr.alloc (.cells #[.int .u8 (c.toNat : Int), str t] 64) = W5 := ⟨_, rfl⟩
      have hn5 := new_at wr (.cells #[.int .u8 (c.toNat : Int), str t] 64)
      have hbl5 : Bld B b (P ++ S) W5 := by rw [← hW5]; exact hbl.alloc _
      have h05 : Below w0.heap.size w0 W5 := by rw [← hW5]; exact h0w.alloc h0w.size _
      have hB5 : Below B w W5 := by rw [← hW5]; exact hBw.alloc hbl.2 _
      have hk5 : Lib.OthersKept TY (some b) w W5 := by rw [← hW5]; exact hkw.alloc _
      rw [hW5] at hn5
      have M1 := Lib.hid (bldByte B b (P ++ S) 31 31 rfl W5 hbl5 (by rw [List.length_append]; omega))
      have M2 := Lib.hid (fun W h => bldByte B b (P ++ S ++ [31]) c (c.toNat : Int) rfl W h (by rw [List.length_append, List.length_append]; simp; omega))
      have M3 := Lib.hid (fun W h => bldStr B b (P ++ S ++ [31] ++ [c]) t W h (by rw [List.length_append, List.length_append, List.length_append]; simp; omega))
      have H05 := Lib.hid h05
      have HB5 := Lib.hid hB5
      have Hk5 := Lib.hid hk5
      have Hn5 := Lib.hid hn5
      have Hs := Lib.hid hs
      clear hs hsl hle hsn hct hS hlen hb9 hblt hbl hn5 hbl5 h05 hB5 hk5 h0w hBw hkw hP
      go_wp2_with fail
      refine M1.out.mono ?_
      clear M1 hW5
      rintro e w6 ⟨rfl, hl6, hb6, hk6⟩
      have hn6 := okept hk6 Hn5.out (by decide) hgb
      have e0 : w6.cell? ⟨wr.heap.size, 0, none⟩ = some (.int .u8 (c.toNat : Int)) := by rw [cell_at hn6]; rfl
      have H06 := Lib.hid (H05.out.trans (hb6.mono hw0))
      have HB6 := Lib.hid (HB5.out.trans hb6)
      have Hk6 := Lib.hid (Hk5.out.trans hk6)
      have M2 := Lib.hid (M2.out w6 hl6)
      have Hn6 := Lib.hid hn6
      clear hn6 hb6 hk6 hl6 H05 HB5 Hk5 Hn5
      go_wp2_with fail
      refine M2.out.mono ?_
      clear M2 e0
      rintro e w7 ⟨rfl, hl7, hb7, hk7⟩
      have hn7 := okept hk7 Hn6.out (by decide) hgb
      have e1 : w7.cell? ⟨wr.heap.size, 1, none⟩ = some (str t) := by rw [cell_at hn7]; rfl
      have H07 := Lib.hid (H06.out.trans (hb7.mono hw0))
      have HB7 := Lib.hid (HB6.out.trans hb7)
      have Hk7 := Lib.hid (Hk6.out.trans hk7)
      have M3 := Lib.hid (M3.out w7 hl7)
      clear hn7 hb7 hk7 hl7 H06 HB6 Hk6 Hn6
      go_wp2_with fail
      refine M3.out.mono ?_
      clear M3 e1
      rintro e w8 ⟨rfl, hl8, hb8, hk8⟩
      have H08 := Lib.hid (H07.out.trans (hb8.mono hw0))
      have HB8 := Lib.hid (HB7.out.trans hb8)
      have Hk8 := Lib.hid (Hk7.out.trans hk8)
      have Hl8 := Lib.hid hl8
      clear hb8 hk8 hl8 H07 HB7 Hk7
      go_wp2
      go_roundw
      case rel => exact ⟨k + 1, by omega, by go_num, by rw [Hs.out]; have := Hl8.out; simpa using this, H08.out, HB8.out, Hk8.out⟩
      case measure => simp [intOf]; omega
    · have hkl : k = f.subs.length := by omega
      subst hkl
      rw [List.take_length] at hbl
      have hd2 : decide (f.subs.length < f.subs.length) = false := by simp
      have N5 := Lib.hid (N5.out wr hbl)
      have HBw := Lib.hid hBw
      have Hkw := Lib.hid hkw
      clear hbl h0w hBw hkw
      go_wp2_with fail
      refine N5.out.mono ?_
      clear N5
      rintro e w6 ⟨rfl, hl6, hb6, hk6⟩
      go_wp2
      go_end0
      exact ⟨rfl, by rw [Hfin.out]; exact hl6, HBw.out.trans hb6, Hkw.out.trans hk6⟩
end Go.Proofs.YtpfnmjcomdckgaaDoor

namespace Go.Proofs.YtpfnmjcomdckgaaDoor
open Go.RowKit Go.Shelf
set_option linter.unusedVariables false
set_option linter.unusedSimpArgs false

theorem heap_below {w w' : World} {k : Nat} {o : Obj} (h : Below w.heap.size w w') (hk : w.heap[k]? = some o) : w'.heap[k]? = some o := (h.block k (lt_at hk)).trans hk
theorem Bld.below {B b : Nat} {l : List UInt8} {w w' : World} (h : Bld B b l w) (hb : Below w.heap.size w w') : Bld B b l w' := by
  refine ⟨?_, Nat.le_trans h.2 hb.size⟩
  have key : ∀ p, Lib.BuilderAtF TB TY B b p (Lib.byteCells l) w → Lib.BuilderAtF TB TY B b p (Lib.byteCells l) w' := by
    rintro p ⟨hB, v, hh, ⟨hl, hown⟩, hne⟩
    refine ⟨hB, v, heap_below hb hh, ⟨hl, ?_⟩, hne⟩
    rcases hown with hn | ⟨g, cap, cur, fz, hv, hg, hgg, rest⟩
    · exact .inl hn
    · exact .inr ⟨g, cap, cur, fz, hv, hg, heap_below hb hgg, rest⟩
  exact h.1.elim (fun x => .inl (key _ x)) (fun x => .inr (key _ x))
theorem kept_below (b : Nat) {w w' : World} (h : Below w.heap.size w w') : Lib.OthersKept TY (some b) w w' := fun _ _ hk _ _ => heap_below h hk
theorem dirM_snoc (f : FldM) : ∀ (l : List FldM) (b : Nat), dirM b (l ++ [f]) = dirM b l ++ (f.tag ++ digsN (sizeF f) 4 ++ digsN (b + fieldsN l) 5)
  | [], b => by simp [dirM, fieldsN]
  | g :: r, b => by
    rw [List.cons_append, dirM, dirM, dirM_snoc f r]
    have : b + sizeF g + fieldsN r = b + fieldsN (g :: r) := by simp [fieldsN]; omega
    rw [this]; simp
theorem dirM_len : ∀ (l : List FldM) (b : Nat), (∀ f ∈ l, f.tag.length = 3) → (dirM b l).length = 12 * l.length
  | [], b, _ => rfl
  | g :: r, b, h => by
    have h1 := h g (List.mem_cons_self ..)
    have h2 := dirM_len r (b + sizeF g) (fun f hf => h f (List.mem_cons_of_mem _ hf))
    unfold dirM
    simp only [List.length_append, digsN_len, List.length_cons, h1, h2]
    omega
set_option maxRecDepth 100000 in
set_option maxHeartbeats 4000000 in
theorem writeDir_c (B b : Nat) (fv : Value) (fs : List FldM) (l : List UInt8) (w0 w : World) (hf : FldsAt w0 fv fs) (hw0 : w0.heap.size ≤ B) (hb0 : Below w0.heap.size w0 w)
    (ht : ∀ f ∈ fs, f.tag.length = 3) (hn : fs.length ≤ 1000000) (hsz : fieldsN fs ≤ 1099511627776)
    (hbld : Bld B b l w) (hlen : l.length + 12 * fs.length + 20 ≤ 140737488355328) :
    Calls Tryd.prog 40 #[.pointer (some ⟨b, 0, none⟩), fv] w (WPost B b (l ++ dirM 0 fs ++ [30]) w) := by
  obtain ⟨a, cap, rfl, hm, hc⟩ := hf.slice
  have Hc := Lib.hid hc
  unfold maxLen at hm
  have Hlen := Lib.hid hlen
  have Ht := Lib.hid ht
  have N5 := Lib.hid (fun W h => bldByte B b (l ++ dirM 0 fs) 30 30 rfl W h (by rw [List.length_append, dirM_len fs 0 ht]; omega))
  clear hc hf hlen ht
  unfold WPost
  go_enter Tryd.func40, Tryd.ntmps40
  go_wp2
  go_loopw [4, 10] (fun n i wr => ∃ k : Nat, k ≤ fs.length ∧ i = .int .i64 k ∧ n = .int .i64 (fieldsN (fs.take k) : Nat) ∧ Bld B b (l ++ dirM 0 (fs.take k)) wr ∧ Below w0.heap.size w0 wr ∧ Below B w wr ∧ Lib.OthersKept TY (some b) w wr) (fun _ i _ => fs.length - (intOf i).toNat)
  case atStart => exact ⟨0, Nat.zero_le _, rfl, by simp [fieldsN], by simpa [dirM] using hbld, hb0, Below.refl _ _, Lib.OthersKept.refl _ _ _⟩
  case round =>
    obtain ⟨k, hk, rfl, rfl, hbl, h0w, hBw, hkw⟩ := hrel
    by_cases hlt : k < fs.length
    · obtain ⟨b2, off, rfl, hb2, c0, c1, c2, sv, c3, h4⟩ := Hc.out k hlt
      have c0 := cell_below h0w (Nat.le_refl _) c0
      have c1 := cell_below h0w (Nat.le_refl _) c1
      have c2 := cell_below h0w (Nat.le_refl _) c2
      have c3 := cell_below h0w (Nat.le_refl _) c3
      have h4 := h4.below h0w (Nat.le_refl _)
      have hle := fieldsN_le fs k
      have hfe := sizeF_le fs k hlt
      have htk := take_snoc fs k hlt
      have hfn := fieldsN_snoc fs k hlt
      have htag := Ht.out _ (List.getElem_mem hlt)
      have hdl := dirM_len (fs.take k) 0 (fun f hf => Ht.out f (List.mem_of_mem_take hf))
      rw [List.length_take, Nat.min_eq_left hk] at hdl
      have i0 : (0 : Int) ≤ (k : Int) := by omega
      have i1 : (k : Int) < (fs.length : Int) := by omega
      obtain ⟨f, hf⟩ : ∃ f, fs[k] = f := ⟨_, rfl⟩
      rw [hf] at c0 c1 c2 h4 hfe htk hfn htag
      have hsnoc := dirM_snoc f (fs.take k) 0
      rw [← htk, Nat.zero_add] at hsnoc
      obtain ⟨N, hN⟩ : ∃ N, fieldsN (fs.take k) = N := ⟨_, rfl⟩
      obtain ⟨D, hD⟩ : ∃ D, dirM 0 (fs.take k) = D := ⟨_, rfl⟩
      rw [hN] at hle hfn hsnoc ⊢
      rw [hD] at hbl hdl hsnoc
      obtain ⟨sa, sc, hsv, -⟩ := h4.slice
      subst hsv
      have hlen := Hlen.out
      have hblt := hbl.lt
      have hgb : wr.heap.size ≠ b := by omega
      obtain ⟨W5, hW5⟩ : ∃ W5, wr.alloc (.cells #[str f.tag, str f.ind, str f.data, .slice sa f.subs.length sc] 62) = W5 := ⟨_, rfl⟩
      have hn5 := new_at wr (.cells #[str f.tag, str f.ind, str f.data, .slice sa f.subs.length sc] 62)
      have hbl5 : Bld B b (l ++ D) W5 := by rw [← hW5]; exact hbl.alloc _
      have h05 : Below w0.heap.size w0 W5 := by rw [← hW5]; exact h0w.alloc h0w.size _
      have hB5 : Below B w W5 := by rw [← hW5]; exact hBw.alloc hbl.2 _
      have hk5 : Lib.OthersKept TY (some b) w W5 := by rw [← hW5]; exact hkw.alloc _
      have h45 : SubsAt W5 (.slice sa f.subs.length sc) f.subs := by rw [← hW5]; exact h4.below (below_new wr _) (Nat.le_refl _)
      rw [hW5] at hn5
      have e0 : W5.cell? ⟨wr.heap.size, 0, none⟩ = some (str f.tag) := by rw [cell_at hn5]; rfl
      have e1 : W5.cell? ⟨wr.heap.size, 1, none⟩ = some (str f.ind) := by rw [cell_at hn5]; rfl
      have e2 : W5.cell? ⟨wr.heap.size, 2, none⟩ = some (str f.data) := by rw [cell_at hn5]; rfl
      have e3 : W5.cell? ⟨wr.heap.size, 3, none⟩ = some (.slice sa f.subs.length sc) := by rw [cell_at hn5]; rfl
      have M1 := Lib.hid (sizeOfField_c (.agg #[str f.tag, str f.ind, str f.data, .slice sa f.subs.length sc]) f W5 ⟨_, rfl, h45⟩ (by omega))
      have M2 := Lib.hid (fun W h => bldStr B b (l ++ D) f.tag W h (by rw [List.length_append]; omega))
      have M3 := Lib.hid (fun W h => digits_c B b 3 (sizeF f) 4 (sizeF f : Nat) (l ++ D ++ f.tag) W rfl rfl (by omega) (by omega) h (by rw [List.length_append, List.length_append]; omega))
      have M4 := Lib.hid (fun W h => digits_c B b 4 N 5 (N : Nat) (l ++ D ++ f.tag ++ digsN (sizeF f) 4) W rfl rfl (by omega) (by omega) h (by rw [List.length_append, List.length_append, List.length_append, digsN_len]; omega))
      unfold WPost at M3 M4
      obtain ⟨Z, hZ⟩ : ∃ Z, sizeF f = Z := ⟨_, rfl⟩
      rw [hZ] at M1 M3 M4 hfn hsnoc hfe
      have H05 := Lib.hid h05
      have HB5 := Lib.hid hB5
      have Hk5 := Lib.hid hk5
      have Hn5 := Lib.hid hn5
      have Hl5 := Lib.hid hbl5
      have Hs := Lib.hid hsnoc
      have Hfn := Lib.hid hfn
      have hbd : N + Z ≤ 1099511627776 := by
        have := fieldsN_le fs (k + 1)
        rw [Hfn.out] at this
        omega
      clear hsnoc hle hfe htk hfn htag hdl hf hD hN hZ hlen hblt hbl hn5 hbl5 h05 hB5 hk5 h45 h4 h0w hBw hkw
      go_wp2_with fail
      refine M1.out.mono ?_
      clear M1 hW5 e0 e1 e2 e3
      rintro e w6 ⟨rfl, hb6⟩
      have hn6 := heap_below hb6 Hn5.out
      have e0 : w6.cell? ⟨wr.heap.size, 0, none⟩ = some (str f.tag) := by rw [cell_at hn6]; rfl
      have H06 := Lib.hid (H05.out.trans (hb6.mono (H05.out.size)))
      have HB6 := Lib.hid (HB5.out.trans (hb6.mono Hl5.out.2))
      have Hk6 := Lib.hid (Hk5.out.trans (kept_below b hb6))
      have M2 := Lib.hid (M2.out w6 (Hl5.out.below hb6))
      clear hn6 hb6 H05 HB5 Hk5 Hn5 Hl5
      go_wp2_with fail
      refine M2.out.mono ?_
      clear M2 e0
      rintro e w7 ⟨rfl, hl7, hb7, hk7⟩
      have H07 := Lib.hid (H06.out.trans (hb7.mono hw0))
      have HB7 := Lib.hid (HB6.out.trans hb7)
      have Hk7 := Lib.hid (Hk6.out.trans hk7)
      have M3 := Lib.hid (M3.out w7 hl7)
      clear hb7 hk7 hl7 H06 HB6 Hk6
      go_wp2_with fail
      refine M3.out.mono ?_
      clear M3
      rintro e w8 ⟨rfl, hl8, hb8, hk8⟩
      have H08 := Lib.hid (H07.out.trans (hb8.mono hw0))
      have HB8 := Lib.hid (HB7.out.trans hb8)
      have Hk8 := Lib.hid (Hk7.out.trans hk8)
      have M4 := Lib.hid (M4.out w8 hl8)
      clear hb8 hk8 hl8 H07 HB7 Hk7
      go_wp2_with fail
      refine M4.out.mono ?_
      clear M4
      rintro e w9 ⟨rfl, hl9, hb9, hk9⟩
      have H09 := Lib.hid (H08.out.trans (hb9.mono hw0))
      have HB9 := Lib.hid (HB8.out.trans hb9)
      have Hk9 := Lib.hid (Hk8.out.trans hk9)
      have Hl9 := Lib.hid hl9
      clear hb9 hk9 hl9 H08 HB8 Hk8
      go_wp2
      go_roundw
      case rel => exact ⟨k + 1, by omega, by go_num, by rw [Hfn.out]; go_num, by rw [Hs.out]; have := Hl9.out; simpa using this, H09.out, HB9.out, Hk9.out⟩
      case measure => simp [intOf]; omega
    · have hkl : k = fs.length := by omega
      subst hkl
      rw [List.take_length] at hbl
      have hd2 : decide (fs.length < fs.length) = false := by simp
      have N5 := Lib.hid (N5.out wr hbl)
      have HBw := Lib.hid hBw
      have Hkw := Lib.hid hkw
      clear hbl h0w hBw hkw
      go_wp2_with fail
      refine N5.out.mono ?_
      clear N5
      rintro e w6 ⟨rfl, hl6, hb6, hk6⟩
      go_wp2
      go_end0
      exact ⟨rfl, hl6, HBw.out.trans hb6, Hkw.out.trans hk6⟩
end Go.Proofs.YtpfnmjcomdckgaaDoor

namespace Go.Proofs.YtpfnmjcomdckgaaDoor
open Go.RowKit Go.Shelf
set_option linter.unusedVariables false
set_option linter.unusedSimpArgs false

set_option maxRecDepth 100000 in
set_option maxHeartbeats 4000000 in
theorem writeLead_c (B b : Nat) (v : Value) (r : RecM) (l : List UInt8) (w0 w : World) (hv : RecV w0 v r) (hw0 : w0.heap.size ≤ B) (hb0 : Below w0.heap.size w0 w)
    (hsz : sizeR r ≤ 1099511627776) (hbld : Bld B b l w) (hlen : l.length ≤ 1000) :
    Calls Tryd.prog 39 #[.pointer (some ⟨b, 0, none⟩), v] w (WPost B b (l ++ leadM r) w) := by
  obtain ⟨fv, rfl, hf⟩ := hv
  obtain ⟨a, cap, rfl, hm, -⟩ := hf.slice
  unfold maxLen at hm
  have hblt := hbld.lt
  have hgb : w.heap.size ≠ b := by omega
  have hfl : r.fields.length ≤ 1099511627776 := by unfold sizeR sizeH at hsz; omega
  have hh : sizeH r.fields.length ≤ 1099511627776 := by unfold sizeR at hsz; omega
  have hfin : leadM r = digsN (sizeR r) 5 ++ [110] ++ [r.kind] ++ [r.level] ++ [32, 97, 50, 50] ++ digsN (sizeH r.fields.length) 5 ++ [32, 32, 32, 52, 53, 48, 48] := by unfold leadM; simp
  rw [hfin]
  obtain ⟨W3, hW3⟩ : ∃ W3, w.alloc (.cells #[.int .u8 (r.kind.toNat : Int), .int .u8 (r.level.toNat : Int), .slice a r.fields.length cap] 27) = W3 := ⟨_, rfl⟩
  have hb3 : Below w.heap.size w W3 := by rw [← hW3]; exact below_new w _
  have hk3 : Lib.OthersKept TY (some b) w W3 := by rw [← hW3]; exact kept_new b w _
  have hB3 : Below B w W3 := by rw [← hW3]; exact (Below.refl B w).alloc hbld.2 _
  have hn3 := new_at w (.cells #[.int .u8 (r.kind.toNat : Int), .int .u8 (r.level.toNat : Int), .slice a r.fields.length cap] 27)
  have hbl3 : Bld B b l W3 := by rw [← hW3]; exact hbld.alloc _
  rw [hW3] at hn3
  have g0 : W3.cell? ⟨w.heap.size, 0, none⟩ = some (.int .u8 (r.kind.toNat : Int)) := by rw [cell_at hn3]; rfl
  have g1 : W3.cell? ⟨w.heap.size, 1, none⟩ = some (.int .u8 (r.level.toNat : Int)) := by rw [cell_at hn3]; rfl
  have g2 : W3.cell? ⟨w.heap.size, 2, none⟩ = some (.slice a r.fields.length cap) := by rw [cell_at hn3]; rfl
  have hrv : RecV W3 (.agg #[.int .u8 (r.kind.toNat : Int), .int .u8 (r.level.toNat : Int), .slice a r.fields.length cap]) r := ⟨_, rfl, hf.below (hb0.trans (hb3.mono hb0.size)) (Nat.le_refl _)⟩
  have N1 := Lib.hid (sizeOfRecord_c _ r W3 hrv hsz)
  have N2 := Lib.hid (fun W h => digits_c B b 4 (sizeR r) 5 (sizeR r : Nat) l W rfl rfl hsz (by omega) h (by omega))
  have N3 := Lib.hid (fun W h => bldByte B b (l ++ digsN (sizeR r) 5) 110 110 rfl W h (by rw [List.length_append, digsN_len]; omega))
  have N4 := Lib.hid (fun W h => bldByte B b (l ++ digsN (sizeR r) 5 ++ [110]) r.kind (r.kind.toNat : Int) rfl W h (by simp [digsN_len]; omega))
  have N5 := Lib.hid (fun W h => bldByte B b (l ++ digsN (sizeR r) 5 ++ [110] ++ [r.kind]) r.level (r.level.toNat : Int) rfl W h (by simp [digsN_len]; omega))
  have N6 := Lib.hid (fun W h => bldStr B b (l ++ digsN (sizeR r) 5 ++ [110] ++ [r.kind] ++ [r.level]) [32, 97, 50, 50] W h (by simp [digsN_len]; omega))
  have N7 := Lib.hid (fun W h => digits_c B b 4 (sizeH r.fields.length) 5 (24 + 12 * (r.fields.length : Int) + 1) (l ++ digsN (sizeR r) 5 ++ [110] ++ [r.kind] ++ [r.level] ++ [32, 97, 50, 50]) W rfl (by unfold sizeH; push_cast; rfl) hh (by omega) h (by simp [digsN_len]; omega))
  have N8 := Lib.hid (fun W h => bldStr B b (l ++ digsN (sizeR r) 5 ++ [110] ++ [r.kind] ++ [r.level] ++ [32, 97, 50, 50] ++ digsN (sizeH r.fields.length) 5) [32, 32, 32, 52, 53, 48, 48] W h (by simp [digsN_len]; omega))
  unfold WPost at N2 N7
  have HB := Lib.hid hB3
  have Hk := Lib.hid hk3
  have Hn := Lib.hid hn3
  have Hl := Lib.hid hbl3
  obtain ⟨Z, hZ⟩ : ∃ Z, sizeR r = Z := ⟨_, rfl⟩
  rw [hZ] at N1 N2 N3 N4 N5 N6 N7 N8 hsz ⊢
  obtain ⟨Y, hY⟩ : ∃ Y, sizeH r.fields.length = Y := ⟨_, rfl⟩
  rw [hY] at N7 N8 hh ⊢
  clear hb3 hn3 hbl3 hbld hb0 hk3 hB3 hblt hrv hfin hf hZ hY
  unfold WPost
  go_enter Tryd.func39, Tryd.ntmps39
  go_wp2_with fail
  refine N1.out.mono ?_
  clear N1 g0 g1 g2 hW3
  rintro e w4 ⟨rfl, hb4⟩
  have Hn4 := Lib.hid (heap_below hb4 Hn.out)
  have HB4 := Lib.hid (HB.out.trans (hb4.mono Hl.out.2))
  have Hk4 := Lib.hid (Hk.out.trans (kept_below b hb4))
  have M2 := Lib.hid (N2.out w4 (Hl.out.below hb4))
  clear hb4 HB Hk Hn Hl N2
  go_wp2_with fail
  refine M2.out.mono ?_
  clear M2
  rintro e w5 ⟨rfl, hl5, hb5, hk5⟩
  have Hn5 := Lib.hid (okept hk5 Hn4.out (by decide) hgb)
  have HB5 := Lib.hid (HB4.out.trans hb5)
  have Hk5 := Lib.hid (Hk4.out.trans hk5)
  have M3 := Lib.hid (N3.out w5 hl5)
  clear hb5 hk5 hl5 HB4 Hk4 Hn4 N3
  go_wp2_with fail
  refine M3.out.mono ?_
  clear M3
  rintro e w6 ⟨rfl, hl6, hb6, hk6⟩
  have Hn6 := Lib.hid (okept hk6 Hn5.out (by decide) hgb)
  have g0 : w6.cell? ⟨w.heap.size, 0, none⟩ = some (.int .u8 (r.kind.toNat : Int)) := by rw [cell_at Hn6.out]; rfl
  have HB6 := Lib.hid (HB5.out.trans hb6)
  have Hk6 := Lib.hid (Hk5.out.trans hk6)
  have M4 := Lib.hid (N4.out w6 hl6)
  clear hb6 hk6 hl6 HB5 Hk5 Hn5 N4
  go_wp2_with fail
  refine M4.out.mono ?_
  clear M4 g0
  rintro e w7 ⟨rfl, hl7, hb7, hk7⟩
  have Hn7 := Lib.hid (okept hk7 Hn6.out (by decide) hgb)
  have g1 : w7.cell? ⟨w.heap.size, 1, none⟩ = some (.int .u8 (r.level.toNat : Int)) := by rw [cell_at Hn7.out]; rfl
  have HB7 := Lib.hid (HB6.out.trans hb7)
  have Hk7 := Lib.hid (Hk6.out.trans hk7)
  have M5 := Lib.hid (N5.out w7 hl7)
  clear hb7 hk7 hl7 HB6 Hk6 Hn6 N5
  go_wp2_with fail
  refine M5.out.mono ?_
  clear M5 g1
  rintro e w8 ⟨rfl, hl8, hb8, hk8⟩
  have Hn8 := Lib.hid (okept hk8 Hn7.out (by decide) hgb)
  have HB8 := Lib.hid (HB7.out.trans hb8)
  have Hk8 := Lib.hid (Hk7.out.trans hk8)
  have M6 := Lib.hid (N6.out w8 hl8)
  clear hb8 hk8 hl8 HB7 Hk7 Hn7 N6
  go_wp2_with fail
  refine M6.out.mono ?_
  clear M6
  rintro e w9 ⟨rfl, hl9, hb9, hk9⟩
  have Hn9 := Lib.hid (okept hk9 Hn8.out (by decide) hgb)
  have g2 : w9.cell? ⟨w.heap.size, 2, none⟩ = some (.slice a r.fields.length cap) := by rw [cell_at Hn9.out]; rfl
  have HB9 := Lib.hid (HB8.out.trans hb9)
  have Hk9 := Lib.hid (Hk8.out.trans hk9)
  have M7 := Lib.hid (N7.out w9 hl9)
  clear hb9 hk9 hl9 HB8 Hk8 Hn8 N7
  go_wp2_with fail
  refine (sizeOfHead_c _ hfl _).mono ?_
  rintro e w10 ⟨rfl, rfl⟩
  go_wp2_with fail
  refine M7.out.mono ?_
  clear M7 g2
  rintro e w11 ⟨rfl, hl11, hb11, hk11⟩
  have HB11 := Lib.hid (HB9.out.trans hb11)
  have Hk11 := Lib.hid (Hk9.out.trans hk11)
  have M8 := Lib.hid (N8.out w11 hl11)
  clear hb11 hk11 hl11 HB9 Hk9 Hn9 N8
  go_wp2_with fail
  refine M8.out.mono ?_
  rintro e w12 ⟨rfl, hl12, hb12, hk12⟩
  go_wp2
  go_end0
  exact ⟨rfl, by simpa using hl12, HB11.out.trans hb12, Hk11.out.trans hk12⟩
end Go.Proofs.YtpfnmjcomdckgaaDoor

namespace Go.Proofs.YtpfnmjcomdckgaaDoor
open Go.RowKit Go.Shelf
set_option linter.unusedVariables false
set_option linter.unusedSimpArgs false

structure RightM (r : RecM) : Prop where
  kind : lowB r.kind = true
  level : lowB r.level = true
  tags : ∀ f ∈ r.fields, tagB f.tag = true
  flds : ∀ f ∈ r.fields, fieldB f = true
  small : ∀ f ∈ r.fields, sizeF f ≤ 9999
  many : r.fields.length ≤ 999
  size : sizeR r ≤ 99999
theorem firstBad_zero : ∀ {l : List FldM}, firstBad l = 0 → ∀ f ∈ l, tagB f.tag = true ∧ fieldB f = true
  | [], _, f, h => by cases h
  | g :: r, h0, f, h => by
    unfold firstBad at h0
    cases ht : tagB g.tag with
    | false => simp [ht] at h0
    | true =>
      cases hf : fieldB g with
      | false => simp [ht, hf] at h0
      | true =>
        simp only [ht, hf, if_true] at h0
        rcases List.mem_cons.1 h with e | e
        · subst e; exact ⟨ht, hf⟩
        · exact firstBad_zero h0 f e
theorem check_zero {r : RecM} (h : checkM r = 0) : RightM r := by
  unfold checkM at h
  split at h
  · rename_i h1
    split at h
    · rename_i h2
      split at h
      · cases h
      · rename_i h3
        simp only [Bool.and_eq_true] at h1
        simp only [Bool.or_eq_true, decide_eq_true_eq, not_or] at h3
        obtain ⟨⟨h3, h4⟩, h5⟩ := h3
        refine ⟨h1.1, h1.2, fun f hf => (firstBad_zero h2 f hf).1, fun f hf => (firstBad_zero h2 f hf).2, fun f hf => ?_, by omega, by omega⟩
        unfold largeB at h4
        rw [List.any_eq_true] at h4
        have : ¬ decide (9999 < sizeF f) = true := fun e => h4 ⟨f, hf, e⟩
        simpa using this
    · rename_i h2; exact absurd h h2
  · cases h
theorem tag_len {t : List UInt8} (h : tagB t = true) : t.length = 3 := by
  unfold tagB at h
  simp only [Bool.and_eq_true, beq_iff_eq] at h
  exact h.1.2
def writeR (r : RecM) : List UInt8 := if checkM r = 0 then writeM r else []
def WritePost (r : RecM) (w : World) (e : Ending) (w' : World) : Prop := e = .returned (.tuple #[str (writeR r), .int .i64 (checkM r : Nat)]) ∧ Below w.heap.size w w'
theorem flat_len : ∀ l : List FldM, (l.flatMap bytesF).length = fieldsN l
  | [] => rfl
  | f :: r => by rw [List.flatMap_cons, List.length_append, bytesF_len, flat_len r]; simp [fieldsN]
theorem lead_len (r : RecM) : (leadM r).length = 24 := by unfold leadM; simp [digsN_len]
set_option maxRecDepth 100000 in
set_option maxHeartbeats 4000000 in
theorem write_c (v : Value) (r : RecM) (w : World) (hv : RecV w v r) (hs : sizeR r ≤ 1099511627776) (ht : ∀ f ∈ r.fields, f.tag.length ≤ 1099511627776) :
    Calls Tryd.prog 16 #[v] w (WritePost r w) := by
  obtain ⟨fv, rfl, hf⟩ := hv
  obtain ⟨a, cap, rfl, hm, hc⟩ := hf.slice
  obtain ⟨W3, hW3⟩ : ∃ W3, w.alloc (.cells #[.int .u8 (r.kind.toNat : Int), .int .u8 (r.level.toNat : Int), .slice a r.fields.length cap] 27) = W3 := ⟨_, rfl⟩
  have hb3 : Below w.heap.size w W3 := by rw [← hW3]; exact below_new w _
  have hlt3 : w.heap.size < W3.heap.size := by rw [← hW3]; simp
  have hn3 := new_at w (.cells #[.int .u8 (r.kind.toNat : Int), .int .u8 (r.level.toNat : Int), .slice a r.fields.length cap] 27)
  rw [hW3] at hn3
  have g0 : W3.cell? ⟨w.heap.size, 0, none⟩ = some (.int .u8 (r.kind.toNat : Int)) := by rw [cell_at hn3]; rfl
  have g1 : W3.cell? ⟨w.heap.size, 1, none⟩ = some (.int .u8 (r.level.toNat : Int)) := by rw [cell_at hn3]; rfl
  have g2 : W3.cell? ⟨w.heap.size, 2, none⟩ = some (.slice a r.fields.length cap) := by rw [cell_at hn3]; rfl
  have hrv : RecV W3 (.agg #[.int .u8 (r.kind.toNat : Int), .int .u8 (r.level.toNat : Int), .slice a r.fields.length cap]) r := ⟨_, rfl, hf.below hb3 (Nat.le_refl _)⟩
  have N1' := check_c _ r W3 hrv hs ht
  unfold CheckPost at N1'
  have N1 := Lib.hid N1'
  have Hrv := Lib.hid hrv
  have Hf := Lib.hid hf
  have Hb3 := Lib.hid hb3
  have Hn3 := Lib.hid hn3
  unfold maxLen at hm
  unfold WritePost writeR
  by_cases h0 : checkM r = 0
  · have hR := check_zero h0
    rw [if_pos h0, h0]
    rw [h0] at N1
    have hs2 := hR.size
    have hmany := hR.many
    have HR := Lib.hid hR
    clear hb3 hn3 N1' hrv hs ht hf hc h0 hR
    go_enter Tryd.func16, Tryd.ntmps16
    go_wp2_with fail
    refine N1.out.mono ?_
    clear N1
    rintro e w5 ⟨rfl, hb5⟩
    have Hn5 := Lib.hid (heap_below hb5 Hn3.out)
    have Hb5 := Lib.hid hb5
    have Hrv5 := Lib.hid (Hrv.out.below hb5 (Nat.le_refl _))
    clear hb5 hW3 g0 g1 g2
    obtain ⟨W6, hW6⟩ : ∃ W6, w5.alloc (.cells #[.pointer none, .slice none 0 0] 74) = W6 := ⟨_, rfl⟩
    have hb6 : Below w5.heap.size w5 W6 := by rw [← hW6]; exact below_new w5 _
    have hn6 := new_at w5 (.cells #[.pointer none, .slice none 0 0] 74)
    rw [hW6] at hn6
    have hlt6 : w5.heap.size < W6.heap.size := lt_at hn6
    have hr6 := heap_below hb6 Hn5.out
    have g0 : W6.cell? ⟨w.heap.size, 0, none⟩ = some (.int .u8 (r.kind.toNat : Int)) := by rw [cell_at hr6]; rfl
    have g1 : W6.cell? ⟨w.heap.size, 1, none⟩ = some (.int .u8 (r.level.toNat : Int)) := by rw [cell_at hr6]; rfl
    have g2 : W6.cell? ⟨w.heap.size, 2, none⟩ = some (.slice a r.fields.length cap) := by rw [cell_at hr6]; rfl
    have M1 := Lib.hid (sizeOfRecord_c _ r W6 (Hrv5.out.below hb6 (Nat.le_refl _)) (by omega))
    have Hb6 := Lib.hid hb6
    have Hn6 := Lib.hid hn6
    clear hb6 hn6 hr6
    go_wp2_with fail
    refine M1.out.mono ?_
    clear M1 g0 g1 g2 hW6
    rintro e w7 ⟨rfl, hb7⟩
    have hn7 := heap_below hb7 Hn6.out
    have hBw7 : w5.heap.size ≤ w7.heap.size := by have := hb7.size; omega
    have M2 := Lib.hid (growFresh w5.heap.size w5.heap.size (sizeR r) w7 (Nat.le_refl _) hn7 hBw7 (by omega))
    have H37 := Lib.hid (((Hb5.out).trans (Hb6.out.mono Hb5.out.size)).trans (hb7.mono (by have := Hb5.out.size; omega)))
    have hr7 := heap_below hb7 (heap_below Hb6.out Hn5.out)
    have Hn7 := Lib.hid hr7
    clear hb7 hn7 hr7 Hb6 Hn6 Hn5 Hrv5
    obtain ⟨b, hb⟩ : ∃ b, w5.heap.size = b := ⟨_, rfl⟩
    have hw3b : W3.heap.size ≤ b := by have := Hb5.out.size; omega
    have hwb : w.heap.size < b := by omega
    rw [hb] at M2 hlt6 hBw7 ⊢
    clear hb Hb5
    go_wp2_with fail
    refine M2.out.mono ?_
    clear M2
    rintro e w8 ⟨rfl, hbl8, hb8⟩
    have hb8' : Bld b b [] w8 := ⟨hbl8, by have := hb8.size; omega⟩
    have H38 := Lib.hid (H37.out.trans (hb8.mono hw3b))
    have hr8 : w8.heap[w.heap.size]? = _ := (hb8.block _ hwb).trans Hn7.out
    have g0 : w8.cell? ⟨w.heap.size, 0, none⟩ = some (.int .u8 (r.kind.toNat : Int)) := by rw [cell_at hr8]; rfl
    have g1 : w8.cell? ⟨w.heap.size, 1, none⟩ = some (.int .u8 (r.level.toNat : Int)) := by rw [cell_at hr8]; rfl
    have g2 : w8.cell? ⟨w.heap.size, 2, none⟩ = some (.slice a r.fields.length cap) := by rw [cell_at hr8]; rfl
    have M3' := writeLead_c b b _ r [] W3 w8 Hrv.out hw3b H38.out (by omega) hb8' (by simp)
    unfold WPost at M3'
    rw [List.nil_append] at M3'
    have M3 := Lib.hid M3'
    have Hn8 := Lib.hid hr8
    clear M3' hbl8 hb8 hb8' hr8 H37 Hn7
    go_wp2_with fail
    refine M3.out.mono ?_
    clear M3 g0 g1 g2
    rintro e w9 ⟨rfl, hl9, hb9, -⟩
    have H39 := Lib.hid (H38.out.trans (hb9.mono hw3b))
    have hr9 : w9.heap[w.heap.size]? = _ := (hb9.block _ hwb).trans Hn8.out
    have g2 : w9.cell? ⟨w.heap.size, 2, none⟩ = some (.slice a r.fields.length cap) := by rw [cell_at hr9]; rfl
    have hfn : fieldsN r.fields ≤ 99999 := by unfold sizeR at hs2; omega
    have hdl := dirM_len r.fields 0 (fun f hf => tag_len (HR.out.tags f hf))
    have hll := lead_len r
    have hfl := flat_len r.fields
    have M4' := writeDir_c b b (.slice a r.fields.length cap) r.fields (leadM r) W3 w9 (Hf.out.below Hb3.out (Nat.le_refl _)) hw3b H39.out (fun f hf => tag_len (HR.out.tags f hf)) (by omega) (by omega) hl9 (by omega)
    unfold WPost at M4'
    have M4 := Lib.hid M4'
    have Hn9 := Lib.hid hr9
    clear M4' hl9 hb9 hr9 H38 Hn8
    go_wp2_with fail
    refine M4.out.mono ?_
    clear M4 g2
    rintro e w10 ⟨rfl, hl10, hb10, -⟩
    have H310 := Lib.hid (H39.out.trans (hb10.mono hw3b))
    have hr10 : w10.heap[w.heap.size]? = _ := (hb10.block _ hwb).trans Hn9.out
    have g2 : w10.cell? ⟨w.heap.size, 2, none⟩ = some (.slice a r.fields.length cap) := by rw [cell_at hr10]; rfl
    obtain ⟨P, hP⟩ : ∃ P, leadM r ++ dirM 0 r.fields ++ [30] = P := ⟨_, rfl⟩
    have hPl : P.length ≤ 100000 := by rw [← hP]; simp only [List.length_append, List.length_cons, List.length_nil, hdl, hll]; omega
    have hfin : writeM r = P ++ r.fields.flatMap bytesF ++ [29] := by rw [← hP]; rfl
    rw [hP] at hl10
    have Hl10 := Lib.hid hl10
    have Hfin := Lib.hid hfin
    have Hc2 := Lib.hid (Hf.out.below Hb3.out (Nat.le_refl _)).slice
    clear hl10 hb10 hr10 H39 Hn9 hP hfin hdl hll
    go_wp2
    clear g2
    go_loopw [24] (fun i wr => ∃ k : Nat, k ≤ r.fields.length ∧ i = .int .i64 k ∧ Bld b b (P ++ (r.fields.take k).flatMap bytesF) wr ∧ Below W3.heap.size W3 wr) (fun i _ => r.fields.length - (intOf i).toNat)
    case atStart => exact ⟨0, Nat.zero_le _, rfl, by simpa using Hl10.out, H310.out⟩
    case round =>
      obtain ⟨k, hk, rfl, hbl, h0w⟩ := hrel
      clear Hl10 H310
      by_cases hlt : k < r.fields.length
      · obtain ⟨a2, cap2, hsl, -, hcs⟩ := Hc2.out
        obtain ⟨rfl, -, rfl⟩ : a = a2 ∧ True ∧ cap = cap2 := by cases hsl; exact ⟨rfl, trivial, rfl⟩
        obtain ⟨b2, off, rfl, hb2, c0, c1, c2, sv, c3, h4⟩ := hcs k hlt
        have c0 := cell_below h0w (Nat.le_refl _) c0
        have c1 := cell_below h0w (Nat.le_refl _) c1
        have c2 := cell_below h0w (Nat.le_refl _) c2
        have c3 := cell_below h0w (Nat.le_refl _) c3
        have htk := take_snoc r.fields k hlt
        have hfe := sizeF_le r.fields k hlt
        have hfk := flat_len (r.fields.take k)
        have hfle := fieldsN_le r.fields k
        have i0 : (0 : Int) ≤ (k : Int) := by omega
        have i1 : (k : Int) < (r.fields.length : Int) := by omega
        obtain ⟨f, hf⟩ : ∃ f, r.fields[k] = f := ⟨_, rfl⟩
        rw [hf] at c0 c1 c2 h4 hfe htk
        have hsn : (r.fields.take (k + 1)).flatMap bytesF = (r.fields.take k).flatMap bytesF ++ bytesF f := by rw [htk, List.flatMap_append]; simp
        obtain ⟨S, hS⟩ : ∃ S, (r.fields.take k).flatMap bytesF = S := ⟨_, rfl⟩
        rw [hS] at hbl hsn hfk
        obtain ⟨sa, sc, hsv, -⟩ := h4.slice
        subst hsv
        obtain ⟨W5, hW5⟩ : ∃ W5, wr.alloc (.cells #[str f.tag, str f.ind, str f.data, .slice sa f.subs.length sc] 62) = W5 := ⟨_, rfl⟩
        have hn5 := new_at wr (.cells #[str f.tag, str f.ind, str f.data, .slice sa f.subs.length sc] 62)
        have hbl5 : Bld b b (P ++ S) W5 := by rw [← hW5]; exact hbl.alloc _
        have h05 : Below W3.heap.size W3 W5 := by rw [← hW5]; exact h0w.alloc h0w.size _
        rw [hW5] at hn5
        have e0 : W5.cell? ⟨wr.heap.size, 0, none⟩ = some (str f.tag) := by rw [cell_at hn5]; rfl
        have e1 : W5.cell? ⟨wr.heap.size, 1, none⟩ = some (str f.ind) := by rw [cell_at hn5]; rfl
        have e2 : W5.cell? ⟨wr.heap.size, 2, none⟩ = some (str f.data) := by rw [cell_at hn5]; rfl
        have e3 : W5.cell? ⟨wr.heap.size, 3, none⟩ = some (.slice sa f.subs.length sc) := by rw [cell_at hn5]; rfl
        have M5' := writeField_c b b (.slice sa f.subs.length sc) f (P ++ S) W3 W5 h4 hw3b h05 hbl5 (by rw [List.length_append]; omega)
        unfold WPost at M5'
        have M5 := Lib.hid M5'
        have H05 := Lib.hid h05
        have Hsn := Lib.hid hsn
        clear M5' hn5 hbl5 h05 hsn h4 htk hfe hfk hf hS hbl h0w hcs hsl
        go_wp2_with fail
        refine M5.out.mono ?_
        clear M5 hW5 e0 e1 e2 e3
        rintro e w6 ⟨rfl, hl6, hb6, -⟩
        have Hl6 := Lib.hid hl6
        have H06 := Lib.hid (H05.out.trans (hb6.mono hw3b))
        clear hl6 hb6 H05
        go_wp2
        go_roundw
        case rel => exact ⟨k + 1, by omega, by go_num, by rw [Hsn.out]; have := Hl6.out; simpa using this, H06.out⟩
        case measure => simp [intOf]; omega
      · have hkl : k = r.fields.length := by omega
        subst hkl
        rw [List.take_length] at hbl
        have hd2 : decide (r.fields.length < r.fields.length) = false := by simp
        have M6 := Lib.hid (bldByte b b _ 29 29 rfl wr hbl (by rw [List.length_append, hfl]; omega))
        have Hw := Lib.hid (Hb3.out.trans (h0w.mono (by omega)))
        clear hbl h0w
        go_wp2_with fail
        refine M6.out.mono ?_
        clear M6
        rintro e w6 ⟨rfl, hl6, hb6, -⟩
        rw [← Hfin.out] at hl6
        have M7 := Lib.hid (builderString b b (writeM r) w6 hl6.1 hl6.2)
        have Hw6 := Lib.hid (Hw.out.trans (hb6.mono (by omega)))
        clear hl6 hb6
        go_wp2_with fail
        refine M7.out.mono ?_
        clear M7
        rintro e w7 ⟨rfl, -, hb7, -⟩
        have Hw7 := Lib.hid (Hw6.out.trans (hb7.mono (by omega)))
        clear hb7
        go_wp2
        go_ret2
        exact ⟨rfl, Hw7.out⟩
  · have hne : ((checkM r : Int) != 0) = true := by rw [bne_iff_ne]; omega
    rw [if_neg h0]
    obtain ⟨n, hn⟩ : ∃ n, checkM r = n := ⟨_, rfl⟩
    rw [hn] at N1 hne ⊢
    clear hb3 hn3 N1' hrv hs ht hf hc h0 hn
    go_enter Tryd.func16, Tryd.ntmps16
    go_wp2_with fail
    refine N1.out.mono ?_
    clear N1
    rintro e w5 ⟨rfl, hb5⟩
    have Hb5 := Lib.hid (below_tr Hb3.out hb5)
    clear hb5
    go_wp2
    go_ret2
    exact ⟨rfl, Hb5.out⟩
end Go.Proofs.YtpfnmjcomdckgaaDoor
