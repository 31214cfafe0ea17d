/-
  The reference's bytes and fixed.
-/
import Derived.Test.YtpfnmjcomdckgaaDoorRIsT
import Derived.BigRegion
namespace Go.Proofs.YtpfnmjcomdckgaaDoor
open Go.RowKit Go.Shelf
set_option linter.unusedVariables false
set_option linter.unusedSimpArgs false

/-- string([]byte{c}) -/
theorem conv1 (c : UInt8) (W : World) (a : Addr) (hc : W.cell? a = some (.int .u8 (c.toNat : Int))) :
    (convert 42 9 (.slice (some a) 1 1)).run Tryd.prog W = .ok (str [c]) W := by
  refine run_convert_bytes_back W _ _ 5 a 1 [c] Tryd.underlying42 Tryd.underlying5 Tryd.underlying9 ?_
  intro j hj
  have : j = 0 := by simpa using hj
  subst this
  have hz : a.add 0 = a := by simp [Addr.add]
  rw [hz, hc]
  rfl
theorem subsL_len : ∀ l : List SubM, (subsL l).length = subsN l
  | [] => rfl
  | s :: r => by
    have := subsL_len r
    simp only [subsL, subsN, List.flatMap_cons, List.length_append, List.length_cons, List.map_cons, List.sum_cons] at this ⊢
    omega
def StrPost (l : List UInt8) (w : World) (e : Ending) (w' : World) : Prop := e = .returned (str l) ∧ Below w.heap.size w w'
set_option maxRecDepth 100000 in
set_option maxHeartbeats 4000000 in
theorem rBytes_c (v : Value) (f : FldM) (w : World) (hv : FldV w v f) (hs : sizeF f ≤ 1099511627776) :
    Calls Tryd.prog 45 #[v] w (StrPost (bytesF f) w) := by
  obtain ⟨sv, rfl, hsub⟩ := hv
  obtain ⟨tag, ind, data, subs⟩ := f
  obtain ⟨a, cap, rfl, hm, hc⟩ := hsub.slice
  have Hc := Lib.hid hc
  unfold maxLen at hm
  unfold sizeF at hs
  unfold bytesF StrPost
  simp only at hs hm Hc ⊢
  clear hsub hc
  obtain ⟨W3, hW3⟩ : ∃ W3, w.alloc (.cells #[str tag, str ind, str data, .slice a subs.length cap] 62) = W3 := ⟨_, rfl⟩
  have hb3 : Below w.heap.size w W3 := by rw [← hW3]; exact below_new w _
  have hn3 := new_at w (.cells #[str tag, str ind, str data, .slice a subs.length cap] 62)
  rw [hW3] at hn3
  have g1 : W3.cell? ⟨w.heap.size, 1, none⟩ = some (str ind) := by rw [cell_at hn3]; rfl
  have g2 : W3.cell? ⟨w.heap.size, 2, none⟩ = some (str data) := by rw [cell_at hn3]; rfl
  have g3 : W3.cell? ⟨w.heap.size, 3, none⟩ = some (.slice a subs.length cap) := by rw [cell_at hn3]; rfl
  have Hb3 := Lib.hid hb3
  have hlt3 : w.heap.size < W3.heap.size := lt_at hn3
  have had := add_str data ind (by omega)
  have hdl : (data ++ ind).length = data.length + ind.length := List.length_append
  obtain ⟨D, hD⟩ : ∃ D, data ++ ind = D := ⟨_, rfl⟩
  rw [hD] at had hdl ⊢
  clear hb3 hn3 hD
  obtain ⟨F, hF⟩ : ∃ F, D ++ subsL subs ++ [30] = F := ⟨_, rfl⟩
  rw [hF]
  have HF := Lib.hid hF
  clear hF
  go_enter Tryd.func45, Tryd.ntmps45
  go_wp2
  clear hW3 g1 g2 had
  go_loopw [3, 4] (fun n i wr => ∃ k : Nat, k ≤ subs.length ∧ i = .int .i64 k ∧ n = str (D ++ subsL (subs.take k)) ∧ Below W3.heap.size W3 wr) (fun _ i _ => subs.length - (intOf i).toNat)
  case atStart => exact ⟨0, Nat.zero_le _, rfl, by simp [subsL], Below.refl _ _⟩
  case round =>
    obtain ⟨k, hk, rfl, rfl, hb⟩ := hrel
    have g3 := cell_below hb (Nat.le_refl _) g3
    have hsl := subsL_len (subs.take k)
    by_cases hlt : k < subs.length
    · obtain ⟨b, off, rfl, hbl, h0, h1⟩ := Hc.out k hlt
      have hbw := Hb3.out.trans (hb.mono Hb3.out.size)
      have h0 := cell_below hbw (Nat.le_refl _) h0
      have h1 := cell_below hbw (Nat.le_refl _) h1
      have hwr : w.heap.size < wr.heap.size := Nat.lt_of_lt_of_le hlt3 hb.size
      have hblw : b < wr.heap.size := Nat.lt_of_lt_of_le hbl hbw.size
      have hsn := subsL_snoc subs k hlt
      have hnn := subsN_snoc subs k hlt
      have hle2 := subsN_le subs (k + 1)
      have i0 : (0 : Int) ≤ (k : Int) := by omega
      have i1 : (k : Int) < (subs.length : Int) := by omega
      obtain ⟨⟨c, t⟩, hct⟩ : ∃ s, subs[k] = s := ⟨_, rfl⟩
      rw [hct] at h0 h1 hsn hnn
      simp only at h0 h1 hsn hnn
      obtain ⟨S, hS⟩ : ∃ S, subsL (subs.take k) = S := ⟨_, rfl⟩
      rw [hS] at hsn hsl ⊢
      have hcv := conv1 c
      have a1 := add_str (D ++ S) [31] (by simp only [List.length_append, List.length_cons, List.length_nil]; omega)
      have a2 := add_str (D ++ S ++ [31]) [c] (by simp only [List.length_append, List.length_cons, List.length_nil]; omega)
      have a3 := add_str (D ++ S ++ [31] ++ [c]) t (by simp only [List.length_append, List.length_cons, List.length_nil]; omega)
      have hfin : D ++ S ++ [31] ++ [c] ++ t = D ++ subsL (subs.take (k + 1)) := by rw [hsn]; simp
      rw [hfin] at a3
      obtain ⟨P, hP⟩ : ∃ P, D ++ S = P := ⟨_, rfl⟩
      rw [hP] at a1 a2 a3 ⊢
      obtain ⟨Q1, hQ1⟩ : ∃ Q1, P ++ [31] = Q1 := ⟨_, rfl⟩
      rw [hQ1] at a1 a2 a3
      obtain ⟨Q2, hQ2⟩ : ∃ Q2, Q1 ++ [c] = Q2 := ⟨_, rfl⟩
      rw [hQ2] at a2 a3
      obtain ⟨Q3, hQ3⟩ : ∃ Q3, D ++ subsL (subs.take (k + 1)) = Q3 := ⟨_, rfl⟩
      rw [hQ3] at a3
      have Hfin := Lib.hid hQ3
      clear hP hQ1 hQ2 hQ3
      have Hb := Lib.hid hb
      clear hsn hnn hle2 hsl hfin hb hbw hS hct hbl
      go_wp2_with fail
      go_region
      all_goals
        go_wp2
        go_roundw
        case rel => exact ⟨k + 1, by omega, by go_num, by rw [Hfin.out], (Hb.out.alloc Hb.out.size _).drew⟩
        case measure => simp [intOf]; omega
    · have hkl : k = subs.length := by omega
      subst hkl
      rw [List.take_length] at hsl ⊢
      have hd2 : decide (subs.length < subs.length) = false := by simp
      have a1 := add_str (D ++ subsL subs) [30] (by simp only [List.length_append, List.length_cons, List.length_nil]; omega)
      rw [HF.out] at a1
      obtain ⟨P, hP⟩ : ∃ P, D ++ subsL subs = P := ⟨_, rfl⟩
      rw [hP] at a1 ⊢
      clear hP
      have Hb := Lib.hid (Hb3.out.trans (hb.mono Hb3.out.size))
      clear hb hsl
      go_wp2
      go_ret
      exact ⟨rfl, Hb.out⟩
end Go.Proofs.YtpfnmjcomdckgaaDoor
