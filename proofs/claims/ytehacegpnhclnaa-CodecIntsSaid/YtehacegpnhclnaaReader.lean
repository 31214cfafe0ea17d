/-
  The readers of codec: number, integer, text, begin, more, end, and the two instances of readList.
-/
import Derived.Test.YtehacegpnhclnaaRead1
import Derived.Test.YtehacegpnhclnaaPack
namespace Go.Proofs.Ytehacegpnhclnaa
open Go.RowKit Go.Shelf

theorem ext_drop (l : List UInt8) (k : Nat) : (ByteArray.mk l.toArray).extract k l.length = ⟨(l.drop k).toArray⟩ := by
  apply ByteArray.ext
  rw [ByteArray.data_extract]
  apply Array.toList_inj.1
  rw [Array.toList_extract, List.extract_eq_take_drop]
  simp
  exact List.take_of_length_le (by simp)
theorem ext_take (l : List UInt8) (k : Nat) : (ByteArray.mk l.toArray).extract 0 k = ⟨(l.take k).toArray⟩ := by
  apply ByteArray.ext
  rw [ByteArray.data_extract]
  apply Array.toList_inj.1
  rw [Array.toList_extract, List.extract_eq_take_drop]
  simp

/-- A list reader in a block of its own: the bytes left, and how many elements. -/
abbrev RBlock (w : World) (b : Nat) (r : List UInt8) (left : Nat) : Prop := w.heap[b]? = some (.cells #[str r, .int .u64 (left : Int)] 79 (0, 0))
theorem RBlock.cell0 {w : World} {b : Nat} {r : List UInt8} {left : Nat} (h : RBlock w b r left) : w.cell? ⟨b, 0, none⟩ = some (str r) := by simp [World.cell?, show w.heap[b]? = _ from h]
theorem RBlock.cell1 {w : World} {b : Nat} {r : List UInt8} {left : Nat} (h : RBlock w b r left) : w.cell? ⟨b, 1, none⟩ = some (.int .u64 (left : Int)) := by simp [World.cell?, show w.heap[b]? = _ from h]
theorem RBlock.frozen {w : World} {b : Nat} {r : List UInt8} {left : Nat} (h : RBlock w b r left) (o : Nat) : w.frozen? ⟨b, o, none⟩ = false := by simp [World.frozen?, show w.heap[b]? = _ from h]
theorem RBlock.lt {w : World} {b : Nat} {r : List UInt8} {left : Nat} (h : RBlock w b r left) : b < w.heap.size := (Array.getElem?_eq_some_iff.1 h).1
theorem RBlock.set0 {w : World} {b : Nat} {r : List UInt8} {left : Nat} (h : RBlock w b r left) (r' : List UInt8) : RBlock (w.setCell ⟨b, 0, none⟩ (str r')) b r' left := by
  have hb : w.heap[b]? = _ := h
  simp [RBlock, World.setCell, Array.getElem?_modify, hb]
theorem RBlock.set1 {w : World} {b : Nat} {r : List UInt8} {left : Nat} (h : RBlock w b r left) (left' : Nat) : RBlock (w.setCell ⟨b, 1, none⟩ (.int .u64 (left' : Int))) b r left' := by
  have hb : w.heap[b]? = _ := h
  simp [RBlock, World.setCell, Array.getElem?_modify, hb]
theorem grown_set (w : World) (b o : Nat) (v : Value) : w.grownBy (w.setCell ⟨b, o, none⟩ v) (some b) :=
  ⟨rfl, rfl, rfl, by simp [World.setCell], fun k _ hk => Below.heap_setCell _ _ _ _ (fun e => hk (by rw [e]))⟩
theorem grown_refl (w : World) (row : Option Nat) : w.grownBy w row := ⟨rfl, rfl, rfl, Nat.le_refl _, fun _ _ _ => rfl⟩
theorem grown_trans {a b c : World} {row : Option Nat} (h : a.grownBy b row) (k : b.grownBy c row) : a.grownBy c row :=
  ⟨k.os.trans h.os, k.tape.trans h.tape, k.output.trans h.output, Nat.le_trans h.size k.size, fun i hi hne => (k.block i (Nat.lt_of_lt_of_le hi h.size) hne).trans (h.block i hi hne)⟩
theorem grown_below {a b : World} (h : Below a.heap.size a b) (row : Option Nat) : a.grownBy b row := ⟨h.os, h.tape, h.output, h.size, fun i hi _ => h.block i hi⟩

set_option maxRecDepth 100000 in
set_option maxHeartbeats 400000 in
theorem number_ok (b : Nat) (r : List UInt8) (left n k : Nat) (w : World) (hb : RBlock w b r left) (hl : r.length ≤ 140737488355328) (hn : readN r = (n, k, 0)) :
    Calls Try.prog 57 #[.pointer (some ⟨b, 0, none⟩)] w fun e w' => e = .returned (.tuple #[.int .u64 (n : Int), .int .i64 0]) ∧ w.setCell ⟨b, 0, none⟩ (str (r.drop k)) = w' := by
  have hc := hb.cell0
  have hz := hb.frozen 0
  have h1 := readNumber_c ⟨r.toArray⟩ w (by rw [size_str]; unfold maxLen; omega)
  have hd : (ByteArray.mk r.toArray).data.toList = r := by simp
  rw [hd, hn] at h1
  have hk := (readN_len hn).2.1
  have hsz := size_str r
  have hex := ext_drop r k
  have H1 := Lib.hid h1
  clear h1 hb hn hd
  go_enter Try.func57, Try.ntmps57
  go_wp2_with fail
  refine H1.out.mono ?_
  clear H1
  rintro e w' ⟨rfl, rfl⟩
  go_wp2
  go_ret2
  exact ⟨rfl, rfl⟩
set_option maxRecDepth 100000 in
set_option maxHeartbeats 400000 in
theorem number_err (b : Nat) (r : List UInt8) (left n k e : Nat) (w : World) (hb : RBlock w b r left) (hl : r.length ≤ 140737488355328) (hn : readN r = (n, k, e)) (he : e ≠ 0) :
    Calls Try.prog 57 #[.pointer (some ⟨b, 0, none⟩)] w fun en w' => en = .returned (.tuple #[.int .u64 0, .int .i64 (e : Int)]) ∧ w = w' := by
  have hc := hb.cell0
  have h1 := readNumber_c ⟨r.toArray⟩ w (by rw [size_str]; unfold maxLen; omega)
  have hd : (ByteArray.mk r.toArray).data.toList = r := by simp
  rw [hd, hn] at h1
  have H1 := Lib.hid h1
  have hne : ((e : Int) != 0) = true := by rw [bne_iff_ne]; omega
  clear h1 hb hn hd
  go_enter Try.func57, Try.ntmps57
  go_wp2_with fail
  refine H1.out.mono ?_
  clear H1
  rintro e w' ⟨rfl, rfl⟩
  go_wp2
  go_ret2
  exact ⟨rfl, rfl⟩

/-- An integer taken off. -/
def takeI (r : List UInt8) : Taken Int :=
  if (readN r).2.2 = 0 then (0, us ((readN r).1 : Int), r.drop (readN r).2.1) else ((readN r).2.2, 0, [])
theorem takeI_undoes : Undoes takeI intB (fun n => Fits n) := by
  intro n tail h
  have hs := sg_range n h.1 h.2
  unfold takeI intB
  rw [readN_num _ (by omega)]
  simp only [if_true, List.drop_left]
  rw [show (((sg n).toNat : Nat) : Int) = sg n from by omega, us_sg]

/-- What an element's reader does: it hands back what 't' takes off, and, if there is no error, leaves the rest in its block. -/
def ElemPost {α : Type} (t : List UInt8 → Taken α) (enc : α → Value) (z : α) (b : Nat) (r : List UInt8) (left : Nat) (w : World) (e : Ending) (w' : World) : Prop :=
  e = .returned (.tuple #[(if (t r).1 = 0 then enc (t r).2.1 else enc z), .int .i64 ((t r).1 : Int)]) ∧ w.grownBy w' (some b) ∧ ((t r).1 = 0 → RBlock w' b (t r).2.2 left)
theorem ElemPost.ok {α : Type} {t : List UInt8 → Taken α} {enc : α → Value} {z : α} {b : Nat} {r : List UInt8} {left : Nat} {w w' : World} {x : α} {r' : List UInt8} (ht : t r = (0, x, r')) (hg : w.grownBy w' (some b)) (hb : RBlock w' b r' left) :
    ElemPost t enc z b r left w (.returned (.tuple #[enc x, .int .i64 0])) w' := by
  unfold ElemPost
  rw [ht]
  exact ⟨by simp, hg, fun _ => hb⟩
theorem ElemPost.err {α : Type} {t : List UInt8 → Taken α} {enc : α → Value} {z : α} {b : Nat} {r : List UInt8} {left : Nat} {w w' : World} {y : α} {r' : List UInt8} {e : Nat} (ht : t r = (e, y, r')) (he : e ≠ 0) (hg : w.grownBy w' (some b)) :
    ElemPost t enc z b r left w (.returned (.tuple #[enc z, .int .i64 (e : Int)])) w' := by
  unfold ElemPost
  rw [ht]
  exact ⟨by simp [he], hg, fun h => absurd h he⟩
def Elem {α : Type} (t : List UInt8 → Taken α) (enc : α → Value) (z : α) (f : FuncId) : Prop :=
  ∀ (b : Nat) (r : List UInt8) (left : Nat) (w : World), RBlock w b r left → r.length ≤ 140737488355328 →
    Calls Try.prog f #[.pointer (some ⟨b, 0, none⟩)] w (ElemPost t enc z b r left w)

set_option maxRecDepth 100000 in
set_option maxHeartbeats 400000 in
theorem integer_c : Elem takeI encI 0 49 := by
  intro b r left w hb hl
  obtain ⟨n, k, e, hn⟩ : ∃ n k e, readN r = (n, k, e) := ⟨_, _, _, rfl⟩
  by_cases he : e = 0
  · subst he
    have ht : takeI r = (0, us (n : Int), r.drop k) := by unfold takeI; rw [hn]; rfl
    have hlt := (readN_ok hn).1
    have h1 := number_ok b r left n k w hb hl hn
    have h2 := unsigned_c (n : Int) (w.setCell ⟨b, 0, none⟩ (str (r.drop k))) (by omega) (by omega)
    have H1 := Lib.hid h1
    have H2 := Lib.hid h2
    have Hb := Lib.hid hb
    have Ht := Lib.hid ht
    clear h1 h2 hb hn ht hlt
    go_enter Try.func49, Try.ntmps49
    go_wp2_with fail
    refine H1.out.mono ?_
    clear H1
    rintro e w' ⟨rfl, rfl⟩
    go_wp2_with fail
    refine H2.out.mono ?_
    clear H2
    rintro e w' ⟨rfl, rfl⟩
    go_wp2
    go_ret2
    exact ElemPost.ok Ht.out (grown_set _ _ _ _) (Hb.out.set0 _)
  · have ht : takeI r = (e, 0, []) := by unfold takeI; rw [hn]; simp [he]
    have h1 := number_err b r left n k e w hb hl hn he
    have H1 := Lib.hid h1
    have hne : ((e : Int) != 0) = true := by rw [bne_iff_ne]; omega
    have Ht := Lib.hid ht
    have He := Lib.hid he
    clear h1 hb hn ht he
    go_enter Try.func49, Try.ntmps49
    go_wp2_with fail
    refine H1.out.mono ?_
    clear H1
    rintro e w' ⟨rfl, rfl⟩
    go_wp2
    go_ret2
    exact ElemPost.err Ht.out He.out (grown_refl _ _)

set_option maxRecDepth 100000 in
set_option maxHeartbeats 400000 in
theorem sclone_c (s : ByteArray) (w : World) (hl : s.size ≤ 140737488355328) :
    Calls Try.prog 58 #[.string s] w fun e w' => e = .returned (.string s) ∧ Below w.heap.size w w' := by
  have H1 := Lib.hid (sliteClone s w (by omega))
  go_enter Try.func58, Try.ntmps58
  go_wp2_with fail
  refine H1.out.mono ?_
  clear H1
  rintro e w' ⟨rfl, hb⟩
  go_wp2
  go_ret
  exact ⟨rfl, hb⟩

set_option maxRecDepth 100000 in
set_option maxHeartbeats 400000 in
theorem text_c : Elem takeS encS [] 46 := by
  intro b r left w hb hl
  obtain ⟨n, k, e, hn⟩ : ∃ n k e, readN r = (n, k, e) := ⟨_, _, _, rfl⟩
  by_cases he : e = 0
  · subst he
    have h1 := number_ok b r left n k w hb hl hn
    have H1 := Lib.hid h1
    have hb1 := hb.set0 (r.drop k)
    have hg1 := Lib.hid (grown_set w b 0 (str (r.drop k)))
    obtain ⟨w1, hw1⟩ : ∃ w1, w.setCell ⟨b, 0, none⟩ (str (r.drop k)) = w1 := ⟨_, rfl⟩
    rw [hw1] at hb1 H1 hg1
    have hc := hb1.cell0
    have hdl : (r.drop k).length ≤ 140737488355328 := by simp; omega
    by_cases hle : n ≤ (r.drop k).length
    · have ht : takeS r = (0, (r.drop k).take n, (r.drop k).drop n) := by unfold takeS; rw [hn]; simp only [if_true]; rw [if_pos hle]
      obtain ⟨R, hR⟩ : ∃ R, r.drop k = R := ⟨_, rfl⟩
      rw [hR] at hb1 hc hdl hle ht
      have Ht := Lib.hid ht
      have h2 := sclone_c ⟨(R.take n).toArray⟩ w1 (by rw [size_str, List.length_take]; omega)
      have H2 := Lib.hid h2
      have hsz := size_str R
      have hex := ext_take R n
      have hex2 := ext_drop R n
      have Hb1 := Lib.hid hb1
      clear h1 h2 hb hn ht hw1 hR hl
      go_enter Try.func46, Try.ntmps46
      go_wp2_with fail
      refine H1.out.mono ?_
      clear H1
      rintro e w' ⟨rfl, rfl⟩
      go_wp2_with fail
      refine H2.out.mono ?_
      clear H2
      rintro e w2 ⟨rfl, hw2⟩
      have hb2 : RBlock w2 b R left := (hw2.block b Hb1.out.lt).trans Hb1.out
      have hc2 := hb2.cell0
      have hz2 := hb2.frozen 0
      have Hb2 := Lib.hid hb2
      clear hb2
      go_wp2
      go_ret2
      exact ElemPost.ok Ht.out (grown_trans hg1.out (grown_trans (grown_below hw2 _) (grown_set _ _ _ _))) (Hb2.out.set0 _)
    · have ht : takeS r = (10, [], []) := by unfold takeS; rw [hn]; simp only [if_true]; rw [if_neg hle]
      have Ht := Lib.hid ht
      obtain ⟨R, hR⟩ : ∃ R, r.drop k = R := ⟨_, rfl⟩
      rw [hR] at hb1 hc hdl hle
      have hsz := size_str R
      clear h1 hb hn ht hw1 hR hl
      go_enter Try.func46, Try.ntmps46
      go_wp2_with fail
      refine H1.out.mono ?_
      clear H1
      rintro e w' ⟨rfl, rfl⟩
      go_wp2
      go_ret2
      exact ElemPost.err Ht.out (by decide) hg1.out
  · have ht : takeS r = (e, [], []) := by unfold takeS; rw [hn]; simp [he]
    have h1 := number_err b r left n k e w hb hl hn he
    have H1 := Lib.hid h1
    have hne : ((e : Int) != 0) = true := by rw [bne_iff_ne]; omega
    have Ht := Lib.hid ht
    have He := Lib.hid he
    clear h1 hb hn ht he
    go_enter Try.func46, Try.ntmps46
    go_wp2_with fail
    refine H1.out.mono ?_
    clear H1
    rintro e w' ⟨rfl, rfl⟩
    go_wp2
    go_ret2
    exact ElemPost.err Ht.out He.out (grown_refl _ _)

set_option maxRecDepth 100000 in
set_option maxHeartbeats 400000 in
theorem begin_ok (b : Nat) (r : List UInt8) (left n k : Nat) (w : World) (hb : RBlock w b r left) (hl : r.length ≤ 140737488355328) (hn : readN r = (n, k, 0)) :
    Calls Try.prog 54 #[.pointer (some ⟨b, 0, none⟩)] w fun e w' => e = .returned (.int .i64 0) ∧ w.grownBy w' (some b) ∧ RBlock w' b (r.drop k) n := by
  have h1 := number_ok b r left n k w hb hl hn
  have hb1 := hb.set0 (r.drop k)
  have hg1 := Lib.hid (grown_set w b 0 (str (r.drop k)))
  have H1 := Lib.hid h1
  obtain ⟨w1, hw1⟩ : ∃ w1, w.setCell ⟨b, 0, none⟩ (str (r.drop k)) = w1 := ⟨_, rfl⟩
  rw [hw1] at hb1 H1 hg1
  have hc := hb1.cell1
  have hz := hb1.frozen 1
  have Hb1 := Lib.hid hb1
  have hlt := hb.lt
  clear h1 hb hn hb1 hw1
  go_enter Try.func54, Try.ntmps54
  go_wp2_with fail
  refine H1.out.mono ?_
  clear H1
  rintro e w' ⟨rfl, rfl⟩
  go_wp2
  go_ret
  exact ⟨rfl, grown_trans hg1.out (grown_set _ _ _ _), Hb1.out.set1 _⟩
set_option maxRecDepth 100000 in
set_option maxHeartbeats 400000 in
theorem begin_err (b : Nat) (r : List UInt8) (left n k e : Nat) (w : World) (hb : RBlock w b r left) (hl : r.length ≤ 140737488355328) (hn : readN r = (n, k, e)) (he : e ≠ 0) :
    Calls Try.prog 54 #[.pointer (some ⟨b, 0, none⟩)] w fun en w' => en = .returned (.int .i64 (e : Int)) ∧ w.grownBy w' (some b) := by
  have h1 := number_err b r left n k e w hb hl hn he
  have H1 := Lib.hid h1
  have hc := hb.cell1
  have hz := hb.frozen 1
  clear h1 hb hn
  go_enter Try.func54, Try.ntmps54
  go_wp2_with fail
  refine H1.out.mono ?_
  clear H1
  rintro e w' ⟨rfl, rfl⟩
  go_wp2
  go_ret
  exact ⟨rfl, grown_set _ _ _ _⟩
set_option maxRecDepth 100000 in
set_option maxHeartbeats 400000 in
theorem more_no (b : Nat) (r : List UInt8) (w : World) (hb : RBlock w b r 0) :
    Calls Try.prog 55 #[.pointer (some ⟨b, 0, none⟩)] w fun e w' => e = .returned (.bool false) ∧ w = w' := by
  have hc := hb.cell1
  clear hb
  go_enter Try.func55, Try.ntmps55
  go_wp2
  go_ret
  exact ⟨rfl, rfl⟩
set_option maxRecDepth 100000 in
set_option maxHeartbeats 400000 in
theorem more_yes (b : Nat) (r : List UInt8) (m : Nat) (w : World) (hb : RBlock w b r (m + 1)) (hm : m + 1 < 18446744073709551616) :
    Calls Try.prog 55 #[.pointer (some ⟨b, 0, none⟩)] w fun e w' => e = .returned (.bool true) ∧ w.grownBy w' (some b) ∧ RBlock w' b r m := by
  have hc := hb.cell1
  have hz := hb.frozen 1
  have hbq : (((m + 1 : Nat) : Int) == 0) = false := by rw [beq_eq_false_iff_ne]; omega
  have Hb := Lib.hid (hb.set1 m)
  have Hg := Lib.hid (grown_set w b 1 (.int .u64 (m : Int)))
  have he : ((m + 1 : Nat) : Int) - 1 = (m : Int) := by omega
  clear hb
  go_enter Try.func55, Try.ntmps55
  go_wp2
  go_ret
  exact ⟨rfl, Hg.out, Hb.out⟩
set_option maxRecDepth 100000 in
set_option maxHeartbeats 400000 in
theorem end_c (b : Nat) (r : List UInt8) (left : Nat) (w : World) (hb : RBlock w b r left) :
    Calls Try.prog 56 #[.pointer (some ⟨b, 0, none⟩)] w fun e w' => e = .returned (.int .i64 (if r = [] then 0 else 11)) ∧ w = w' := by
  have hc := hb.cell0
  clear hb
  cases r with
  | nil =>
    go_enter Try.func56, Try.ntmps56
    go_wp2
    go_ret
    exact ⟨rfl, rfl⟩
  | cons x r =>
    go_enter Try.func56, Try.ntmps56
    go_wp2
    go_ret
    exact ⟨rfl, rfl⟩
end Go.Proofs.Ytehacegpnhclnaa
