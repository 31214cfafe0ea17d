/-
  The walk of Marc8Plain.
-/
import Derived.Test.YtjndekmpnihamaaDoorMSan
import Derived.Lib.BufferRead
namespace Go.Proofs.YtjndekmpnihamaaDoor
open Go.RowKit Go.Shelf
set_option linter.unusedVariables false

theorem str_of_own {w : World} {B n : Nat} {v : Value} {l : List UInt8} (h : w.ownsRow B 5 1 v n (Lib.byteCells l)) :
    (convert 30 9 v).run Tryd.prog w = .ok (str l) w := by
  obtain ⟨hn, hcase⟩ := h
  rw [Lib.byteCells_length] at hn
  rcases hcase with ⟨rfl, h0⟩ | ⟨g, cap, cur, rfl, _, hg, _, _, _, htk⟩
  · obtain rfl : l = [] := List.eq_nil_of_length_eq_zero (by omega)
    exact Lib.run_convert_nil_bytes w _ _ _ 0 Tryd.underlying30 Tryd.underlying5 Tryd.underlying9
  · obtain rfl : n = l.length := by omega
    refine run_convert_bytes_back w _ _ 5 ⟨g, 0, none⟩ cap l Tryd.underlying30 Tryd.underlying5 Tryd.underlying9 ?_
    exact Lib.bytes_of_row hg (by simpa using htk)

/-- What is left of a text: the lower seven bits of each byte, but for two. -/
def low (x : UInt8) : UInt8 := x &&& 127
def keepB (x : UInt8) : Bool := !(x.toNat == 27) && !(x.toNat == 127)
def lowL (l : List UInt8) : List UInt8 := (l.map low).filter keepB
theorem low_bits (x : UInt8) : bits BinOp.and IntKind.u8 (x.toNat : Int) 127 = ((low x).toNat : Int) ∧ (low x).toNat ≤ 127 := by
  have : ∀ n : Fin 256, bits BinOp.and IntKind.u8 (n.val : Int) 127 = ((low (UInt8.ofNat n.val)).toNat : Int) ∧ (low (UInt8.ofNat n.val)).toNat ≤ 127 := by decide +kernel
  have h := this ⟨x.toNat, x.toNat_lt⟩
  simpa using h
theorem lowL_plain (l : List UInt8) : plainB (lowL l) = true := by
  unfold plainB lowL
  rw [List.all_eq_true]
  intro x hx
  obtain ⟨h1, h2⟩ := List.mem_filter.1 hx
  obtain ⟨y, _, rfl⟩ := List.mem_map.1 h1
  have := (low_bits y).2
  unfold keepB at h2
  unfold okPlain
  simp at h2 ⊢
  omega
theorem lowL_snoc (l : List UInt8) (x : UInt8) : lowL (l ++ [x]) = lowL l ++ (if keepB (low x) then [low x] else []) := by
  unfold lowL
  rw [List.map_append, List.filter_append]
  congr 1
  simp only [List.map_cons, List.map_nil, List.filter_cons, List.filter_nil]
theorem lowL_len (l : List UInt8) : (lowL l).length ≤ l.length := by
  unfold lowL
  refine Nat.le_trans (List.length_filter_le _ _) ?_
  rw [List.length_map]; exact Nat.le_refl _

set_option maxRecDepth 100000 in
set_option maxHeartbeats 2000000 in
theorem walk_Marc8Plain (l : List UInt8) (hl : l.length ≤ 140737488351232) (w : World) (hT : Tabs w) :
    Calls Tryd.prog 5 #[str l] w fun e w' => e = .returned (.bool true) ∧ Below w.heap.size w w' := by
  have hsz := size_str l
  have H1 := Lib.hid (sanity_c w hT)
  have N1 := Lib.hid (fun W => decode_plain (lowL l) W (by have := lowL_len l; omega) (lowL_plain l))
  have N2 := Lib.hid (fun W => encode_plain (lowL l) W (by have := lowL_len l; omega) (lowL_plain l))
  clear hT
  go_enter Tryd.func5, Tryd.ntmps5
  go_wp2_with fail
  refine H1.out.mono ?_
  clear H1
  rintro e w1 ⟨rfl, hb1⟩
  have Hb1 := Lib.hid hb1
  clear hb1
  go_wp2_with fail
  go_loopw [4, 5] (fun v i wr => ∃ k : Nat, k ≤ l.length ∧ i = .int .i64 k ∧ wr.ownsRow w.heap.size 5 1 v (lowL (l.take k)).length (Lib.byteCells (lowL (l.take k))) ∧ Below w.heap.size w wr) (fun _ i _ => l.length - (intOf i).toNat)
  case atStart => exact ⟨0, Nat.zero_le _, rfl, World.ownsRow_nil _ _ _ _, Hb1.out⟩
  case round =>
    obtain ⟨k, hk, rfl, hown, hbel⟩ := hrel
    by_cases hlt : k < l.length
    · have hget2 : (ByteArray.mk l.toArray)[k]'(by rw [hsz]; exact hlt) = l[k] := rfl
      have hts := List.take_succ_eq_append_getElem hlt
      have hln := lowL_len (l.take k)
      rw [List.length_take] at hln
      obtain ⟨x, hx⟩ : ∃ x, l[k] = x := ⟨_, rfl⟩
      rw [hx] at hget2 hts
      have hnx : lowL (l.take (k + 1)) = lowL (l.take k) ++ (if keepB (low x) then [low x] else []) := by rw [hts, lowL_snoc]
      obtain ⟨A, hA⟩ : ∃ A, lowL (l.take k) = A := ⟨_, rfl⟩
      rw [hA] at hnx hown hln
      obtain ⟨hbits, hb127⟩ := low_bits x
      obtain ⟨y, hy⟩ : ∃ y, low x = y := ⟨_, rfl⟩
      rw [hy] at hbits hb127 hnx
      have Hnx := Lib.hid hnx
      have Hbel := Lib.hid hbel
      have hwB := hbel.size
      clear hts hx hnx hA hy hbel
      by_cases c1 : y.toNat = 27
      · have c1' : ((y.toNat : Int) != 27) = false := by rw [c1]; rfl
        have hk1 : keepB y = false := by simp [keepB, c1]
        have Hown := Lib.hid hown
        clear hown
        go_wp2
        go_roundw
        case rel => exact ⟨k + 1, hlt, by go_num, by rw [Hnx.out, hk1]; simpa using Hown.out, Hbel.out⟩
        case measure => simp [intOf]; omega
      · by_cases c2 : y.toNat = 127
        · have c1' : ((y.toNat : Int) != 27) = true := by rw [c2]; rfl
          have c2' : ((y.toNat : Int) != 127) = false := by rw [c2]; rfl
          have hk1 : keepB y = false := by simp [keepB, c2]
          have Hown := Lib.hid hown
          clear hown
          go_wp2
          go_roundw
          case rel => exact ⟨k + 1, hlt, by go_num, by rw [Hnx.out, hk1]; simpa using Hown.out, Hbel.out⟩
          case measure => simp [intOf]; omega
        · have c1' : ((y.toNat : Int) != 27) = true := by simp; omega
          have c2' : ((y.toNat : Int) != 127) = true := by simp; omega
          have hk1 : keepB y = true := by simp [keepB, c1, c2]
          obtain ⟨i0, hi, hz0, hz1, hz2⟩ := info_parts infoByte
          go_wp2_with (at_builtin; refine wpList_append_own _ rfl _ _ 30 rfl w.heap.size 5 i0 (.int .u8 0) 1 1 Tryd.underlying30 hi hz0 hz1 hz2 rfl (by decide) _ _ _ rfl (hown.alloc _) ⟨wr.heap.size, 0, none⟩ 1 1 [.int .u8 (y.toNat : Int)] rfl rfl ?c1 ?c2 ?c3 ?c4 ?c5 ?_)
          case c1 => exact cell_one_new _ _ _
          case c2 => simp [Value.oneCell']
          case c3 => unfold maxLen; omega
          case c4 => omega
          case c5 => simp; omega
          intro v' w4 hown4 hgrow _
          have Hown4 := Lib.hid hown4
          have Hbel4 := Lib.hid ((Hbel.out.alloc hwB _).grown hgrow (by simp; omega) (fun k hk => (hown.lt k hk).1))
          clear hown4 hgrow hown hi hz0 hz1 hz2
          go_wp2
          go_roundw
          case rel => exact ⟨k + 1, hlt, by go_num, by rw [Hnx.out, hk1, Lib.byteCells_append]; simpa [Lib.byteCells] using Hown4.out, Hbel4.out⟩
          case measure => simp [intOf]; omega
    · obtain rfl : k = l.length := by omega
      rw [List.take_length] at hown
      have hcv := str_of_own hown
      have Hbel := Lib.hid hbel
      clear hown hbel
      go_wp2_with fail
      refine (N1.out _).mono ?_
      rintro e w2 ⟨rfl, hb2⟩
      have Hb2 := Lib.hid (Hbel.out.trans (hb2.mono Hbel.out.size))
      clear hb2
      go_wp2_with fail
      refine (N2.out _).mono ?_
      rintro e w3 ⟨rfl, hb3⟩
      have Hb3 := Lib.hid (Hb2.out.trans (hb3.mono Hb2.out.size))
      clear hb3
      go_wp2_with fail
      refine (is_yes _ _ _ _).mono ?_
      rintro e wi ⟨rfl, rfl⟩
      go_wp2_with fail
      refine (is_yes _ _ _ _).mono ?_
      rintro e wi ⟨rfl, rfl⟩
      go_wp2_with fail
      go_ret
      exact ⟨rfl, Hb3.out⟩
end Go.Proofs.YtjndekmpnihamaaDoor
