/-
  marc.writeDigits and writeField.
-/
import Derived.Test.YtpfnmjcomdckgaaDoorRCheck
import Derived.Test.YtpfnmjcomdckgaaDoorRShelf
namespace Go.Proofs.YtpfnmjcomdckgaaDoor
open Go.RowKit Go.Shelf
set_option linter.unusedVariables false
set_option linter.unusedSimpArgs false

/-- The builder at b has these bytes; what lay below B is as it was. -/
def Bld (B b : Nat) (l : List UInt8) (w : World) : Prop := Lib.IsBuilderF TB TY B b (Lib.byteCells l) w ∧ B ≤ w.heap.size
def WPost (B b : Nat) (l : List UInt8) (w : World) (e : Ending) (w' : World) : Prop := e = .returned (.tuple #[]) ∧ Bld B b l w' ∧ Below B w w' ∧ Lib.OthersKept TY (some b) w w'
theorem cells_len (l : List UInt8) : (Lib.byteCells l).length = l.length := by simp [Lib.byteCells]
theorem cells_app (l m : List UInt8) : Lib.byteCells (l ++ m) = Lib.byteCells l ++ Lib.byteCells m := by simp [Lib.byteCells]
theorem bldByte (B b : Nat) (l : List UInt8) (c : UInt8) (n : Int) (hn : n = (c.toNat : Int)) (w : World) (h : Bld B b l w) (hlen : l.length + 1 ≤ 140737488355328) :
    Calls Tryd.prog 42 #[.pointer (some ⟨b, 0, none⟩), .int .u8 n] w fun e w' => e = .returned .nilIface ∧ Bld B b (l ++ [c]) w' ∧ Below B w w' ∧ Lib.OthersKept TY (some b) w w' := by
  subst hn
  refine (writeByte B b _ _ w h.1 (by rw [cells_len]; exact hlen) h.2).mono ?_
  rintro e w' ⟨rfl, h1, h2, h3⟩
  exact ⟨rfl, ⟨by rw [cells_app]; exact h1, Nat.le_trans h.2 h2.size⟩, h2, h3⟩
theorem bldStr (B b : Nat) (l m : List UInt8) (w : World) (h : Bld B b l w) (hlen : l.length + m.length ≤ 140737488355328) :
    Calls Tryd.prog 62 #[.pointer (some ⟨b, 0, none⟩), str m] w fun e w' => e = .returned (.tuple #[.int .i64 m.length, .nilIface]) ∧ Bld B b (l ++ m) w' ∧ Below B w w' ∧ Lib.OthersKept TY (some b) w w' := by
  have hz := size_str m
  refine (writeString B b _ ⟨m.toArray⟩ w h.1 (by rw [cells_len, hz]; exact hlen) h.2).mono ?_
  rintro e w' ⟨rfl, h1, h2, h3⟩
  refine ⟨by rw [hz], ⟨?_, Nat.le_trans h.2 h2.size⟩, h2, h3⟩
  rw [cells_app]
  have : Lib.strCells ⟨m.toArray⟩ = Lib.byteCells m := by simp [Lib.strCells, Lib.byteCells]
  rw [← this]; exact h1
set_option maxRecDepth 100000 in
set_option maxHeartbeats 1000000 in
theorem digits_c (B b : Nat) : ∀ (k n : Nat) (d q : Int) (l : List UInt8) (w : World), d = (k : Int) + 1 → q = (n : Int) → n ≤ 1099511627776 → k ≤ 100 → Bld B b l w → l.length + k + 1 ≤ 140737488355328 →
    Calls Tryd.prog 61 #[.pointer (some ⟨b, 0, none⟩), .int .i64 q, .int .i64 d] w (WPost B b (l ++ digsN n (k + 1)) w) := by
  intro k
  induction k with
  | zero =>
    rintro n _ _ l w rfl rfl hn hk hb hl
    have N := Lib.hid (bldByte B b l (UInt8.ofNat (48 + n % 10)) (48 + (n % 10 : Nat)) (by simp; omega) w hb (by omega))
    have hq : (n : Int).tmod 10 = ((n % 10 : Nat) : Int) := by rfl
    have h10 : n % 10 < 10 := Nat.mod_lt _ (by decide)
    obtain ⟨m, hm⟩ : ∃ m, n % 10 = m := ⟨_, rfl⟩
    have hd : digsN n 1 = [UInt8.ofNat (48 + m)] := by simp [digsN, hm]
    rw [hm] at N hq h10
    have hw1 : IntKind.u8.wrap (m : Int) = (m : Int) := by rw [IntKind.wrap_u8]; omega
    have hw2 : IntKind.u8.wrap (48 + (m : Int)) = 48 + (m : Int) := by rw [IntKind.wrap_u8]; omega
    rw [hd]
    have i1 : ¬ (1 : Int) < 1 := by omega
    clear hb hm hd
    unfold WPost
    go_enter Tryd.func61, Tryd.ntmps61
    go_wp2_with fail
    refine N.out.mono ?_
    rintro e w1 ⟨rfl, h1, h2, h3⟩
    go_wp2
    go_end0
    exact ⟨rfl, h1, h2, h3⟩
  | succ k ih =>
    rintro n _ _ l w rfl rfl hn hk hb hl
    have hq : (n : Int).tmod 10 = ((n % 10 : Nat) : Int) := by rfl
    have hv : (n : Int).tdiv 10 = ((n / 10 : Nat) : Int) := by rfl
    have h10 : n % 10 < 10 := Nat.mod_lt _ (by decide)
    have ha : n / 10 ≤ 1099511627776 := by omega
    have hd : digsN n (k + 1 + 1) = digsN (n / 10) (k + 1) ++ [UInt8.ofNat (48 + n % 10)] := rfl
    have hdl := digsN_len (k + 1) (n / 10)
    obtain ⟨m, hm⟩ : ∃ m, n % 10 = m := ⟨_, rfl⟩
    obtain ⟨v, hvv⟩ : ∃ v, n / 10 = v := ⟨_, rfl⟩
    rw [hm] at hq h10 hd
    rw [hvv] at hv hd ha hdl
    have hw1 : IntKind.u8.wrap (m : Int) = (m : Int) := by rw [IntKind.wrap_u8]; omega
    have hw2 : IntKind.u8.wrap (48 + (m : Int)) = 48 + (m : Int) := by rw [IntKind.wrap_u8]; omega
    have N1 := Lib.hid (fun d h => ih v d (v : Int) l w h rfl ha (by omega) hb (by omega))
    have N2 := Lib.hid (fun W (hW : Bld B b (l ++ digsN v (k + 1)) W) => bldByte B b (l ++ digsN v (k + 1)) (UInt8.ofNat (48 + m)) (48 + (m : Int)) (by simp; omega) W hW (by rw [List.length_append, hdl]; omega))
    rw [hd, ← List.append_assoc]
    have i1 : (1 : Int) < (k : Int) + 1 + 1 := by omega
    have i2 : (k : Int) ≤ 100 := by omega
    clear hb hm hd hvv ih hdl hl
    unfold WPost
    go_enter Tryd.func61, Tryd.ntmps61
    go_wp2_with fail
    refine (N1.out _ (by omega)).mono ?_
    rintro e w1 ⟨rfl, h1, h2, k2⟩
    have H2 := Lib.hid h2
    have K2 := Lib.hid k2
    have N3 := Lib.hid (N2.out _ h1)
    clear h1 h2 k2
    go_wp2_with fail
    refine N3.out.mono ?_
    rintro e w2 ⟨rfl, h3, h4, k4⟩
    go_wp2
    go_end0
    exact ⟨rfl, h3, H2.out.trans h4, K2.out.trans k4⟩
end Go.Proofs.YtpfnmjcomdckgaaDoor
