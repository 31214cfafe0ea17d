/-
  isMissing: a range over the map of tags.
-/
import Derived.Test.YtfccpepmjklodaaSMatch
import Derived.Test.YtfccpepmjklodaaSMap
import Derived.Maps.RangeWalk
import Derived.ChangeKeys
namespace Go.Proofs.Ytfccpepmjklodaa
open Go.RowKit Go.Shelf Go.Maps Go.ChangeMaps
set_option linter.unusedVariables false
set_option linter.unusedSimpArgs false

theorem mapKey_str {K : TypeId} (hK : Try.prog.underlying K = some .string) {s : ByteArray} {kl : Lit} (h : keyOf Try.prog K (.string s) = some kl) : s.size ≤ maxLen ∧ Lit.string s.data.toList = kl := by
  rw [Go.keyOf_string hK] at h
  by_cases hs : s.size ≤ maxLen
  · simp [mapKey, hK, hs] at h
    exact ⟨hs, h⟩
  · simp [mapKey, hK, hs] at h
theorem key_inv {K : TypeId} (hK : Try.prog.underlying K = some .string) {key : Value} {kl : Lit} (h : keyOf Try.prog K key = some kl) : ∃ l : List UInt8, key = str l ∧ kl = .string l ∧ l.length ≤ maxLen := by
  cases key with
  | string s =>
    obtain ⟨h1, h2⟩ := mapKey_str hK h
    exact ⟨s.data.toList, rfl, h2.symm, h1⟩
  | _ => simp [keyOf, hK, mapKey] at h
theorem str_inj {a b : List UInt8} (h : str a = str b) : a = b := by
  simpa using h
theorem grown_dr (w : World) (n : Nat) (row : Option Nat) : w.grownBy (w.drewN n) row := ⟨rfl, rfl, rfl, Nat.le_refl _, fun _ _ _ => rfl⟩
theorem lawStr : Keyed Try.prog 9 := string_keyed Try.underlying9
def ruleCells (r : RuleM) : Array Value := #[str r.tag, .bool r.must, .bool r.once, str r.ind0, str r.ind1, str r.codes, str r.single]
def ruleV (r : RuleM) : Value := .agg #[str r.tag, .bool r.must, .bool r.once, str r.ind0, str r.ind1, str r.codes, str r.single]
set_option maxRecDepth 100000 in
set_option maxHeartbeats 4000000 in
theorem isMissing_c {α : Type} (E : Enc α) (r : RuleM) (ts : List (List UInt8)) (b n : Nat) (m : List UInt8 → Option α) (hr : r.tag.length ≤ 140737488355328) (hts : ∀ t ∈ ts, t.length ≤ 140737488355328)
    (w : World) (hm : MapS E 9 w b n m) (hd : ∀ k, (m k).isSome = ts.contains k) :
    Calls Try.prog 33 #[ruleV r, .map (some b)] w fun e w' => e = .returned (.bool (!(ts.any fun t => matchB t r.tag))) ∧ Below w.heap.size w w' := by
  obtain ⟨D, hown, hD⟩ := hm
  unfold ruleV
  obtain ⟨W1, hW1⟩ : ∃ W1, w.alloc (.cells (ruleCells r) 27) = W1 := ⟨_, rfl⟩
  have hb1 : Below w.heap.size w W1 := by rw [← hW1]; exact below_new _ _
  have hn1 : W1.heap[w.heap.size]? = some (.cells (ruleCells r) 27 (0, 0)) := by rw [← hW1]; exact Array.getElem?_push_size
  have hown1 : W1.ownsMap Try.prog 9 E.read b n D := by rw [← hW1]; exact hown.alloc _
  unfold ruleCells at hW1
  have Hb1 := Lib.hid hb1
  have Hn1 := Lib.hid hn1
  have HD := Lib.hid hD
  have Hd := Lib.hid hd
  have Hts := Lib.hid hts
  clear hb1 hn1 hD hd hts hown
  go_enter Try.func33, Try.ntmps33
  go_wp2_with (at_range; refine wpList_range_own _ rfl _ 68 rfl 9 73 lawStr Try.underlying68 _ b n D rfl hown1 ?_; intro w0 hrg0 hg0 hs0)
  go_frame
  go_loopw [5] (fun _ wr => ∃ (left : Lit → Bool) (cnt : Nat), wr.ranges Try.prog 9 E.read b W1.heap.size n D left cnt ∧ Below w.heap.size w wr ∧ wr.heap[w.heap.size]? = some (.cells (ruleCells r) 27 (0, 0)) ∧
    ∀ k : List UInt8, k.length ≤ maxLen → Maps.has D (.string k) = true → left (.string k) = false → matchB k r.tag = false) (fun _ wr => wr.rangeLeft b W1.heap.size)
  case atStart =>
    refine ⟨_, _, hrg0, ?_, ?_, fun k _ h1 h2 => ?_⟩
    · exact Hb1.out.grown hg0 Hb1.out.size (fun j hj => by cases hj)
    · exact (hg0.block _ (lt_at Hn1.out) (by simp)).trans Hn1.out
    · rw [h1] at h2; cases h2
  case round =>
    obtain ⟨left, cnt, hrg, hbw, hnr, hall⟩ := hrel
    have c0 : wr.cell? ⟨w.heap.size, 0, none⟩ = some (str r.tag) := by rw [cell_at hnr]; rfl
    go_wp2_with (at_next; refine wpList_next_ranges _ rfl _ rfl 9 lawStr E.read str E.val (fun key kl hk => by obtain ⟨l, hl, _⟩ := key_inv Try.underlying9 hk; exact ⟨l, hl⟩) (fun v y hv => by obtain ⟨x, hx, _⟩ := E.read_inv hv; exact ⟨x, hx⟩) b W1.heap.size n D left cnt rfl hrg ?_ ?_)
    · intro hc0 hl0
      have hres : (ts.any fun t => matchB t r.tag) = false := by
        rw [List.any_eq_false]
        intro t ht
        have h40 := Hts.out t ht
        have hle : t.length ≤ maxLen := by unfold maxLen; omega
        obtain ⟨h1, -⟩ := HD.out t hle
        rw [Hd.out t, List.contains_iff_mem.2 ht] at h1
        rw [hall t hle h1 (hl0 _)]
        decide
      have Hres := Lib.hid hres
      have Hbw := Lib.hid hbw
      clear hres hbw hall hl0 hrg hnr
      go_wp2
      go_ret
      exact ⟨by rw [Hres.out]; rfl, Hbw.out⟩
    · intro x c kl yd yp w1 cnt1 hkey hlx hv hat hrg1 hlt hg1 hs1 hen
      obtain ⟨l, hl, rfl, hle⟩ := key_inv Try.underlying9 hkey
      obtain rfl : x = l := str_inj hl
      have hhas : (m x).isSome = true := by
        obtain ⟨-, h2⟩ := HD.out x hle
        cases hmx : m x with
        | some z => rfl
        | none =>
          rw [hmx] at h2
          have e1 := (h2 (.lit (.bool true))).symm.trans (hat (.lit (.bool true)))
          have e2 := (h2 (.lit (.bool false))).symm.trans (hat (.lit (.bool false)))
          rw [← e2] at e1
          simp at e1
      have hmem : x ∈ ts := by rw [Hd.out x] at hhas; exact List.contains_iff_mem.1 hhas
      have hx40 := Hts.out x hmem
      have hwl : w.heap.size < W1.heap.size := lt_at Hn1.out
      have hn1' := (hg1.block _ (lt_at hnr) (by simp; omega)).trans hnr
      have hb1' := hbw.grown hg1 hbw.size (fun j hj => by cases hj; omega)
      have c1 : w1.cell? ⟨w.heap.size, 0, none⟩ = some (str r.tag) := by rw [cell_at hn1']; rfl
      have M := matches_c x r.tag hx40 hr w1
      unfold QB at M
      have hle1 : w1.rangeLeft b W1.heap.size < wr.rangeLeft b W1.heap.size := by rw [hrg1.left_eq, hrg.left_eq]; exact hlt
      have Hle1 := Lib.hid hle1
      have Hrg1 := Lib.hid hrg1
      have Hn1' := Lib.hid hn1'
      have Hb1' := Lib.hid hb1'
      have Hall := Lib.hid hall
      have Hmem := Lib.hid hmem
      cases hmb : matchB x r.tag with
      | true =>
        rw [hmb] at M
        have M := Lib.hid M
        have hres : (ts.any fun t => matchB t r.tag) = true := by rw [List.any_eq_true]; exact ⟨x, hmem, hmb⟩
        have Hres := Lib.hid hres
        clear hle1 hrg1 hn1' hb1' hall hmem hrg hnr hbw hhas hx40 hmb hres hlt hat hlx hkey hl hg1 c0
        go_wp2_with fail
        refine M.out.mono ?_
        rintro _ w2 ⟨rfl, nd, rfl⟩
        have Hb2 := Lib.hid (below_dr Hb1'.out nd)
        go_wp2
        go_ret
        exact ⟨by rw [Hres.out]; rfl, Hb2.out⟩
      | false =>
        rw [hmb] at M
        have M := Lib.hid M
        have Hmb := Lib.hid hmb
        clear hle1 hrg1 hn1' hb1' hall hmem hrg hnr hbw hhas hx40 hmb hlt hat hlx hkey hl hg1 c0
        go_wp2_with fail
        refine M.out.mono ?_
        rintro _ w2 ⟨rfl, nd, rfl⟩
        have Hb2 := Lib.hid (below_dr Hb1'.out nd)
        have Hrg2 := Lib.hid (Hrg1.out.kept (grown_dr w1 nd none) (by simp) (by simp))
        go_wp2
        go_roundw
        case rel => exact ⟨_, _, Hrg2.out, Hb2.out, Hn1'.out, fun k hk h1 h2 => by
          by_cases e : k = x
          · rw [e]; exact Hmb.out
          · refine Hall.out k hk h1 ?_
            rw [Bool.and_eq_false_iff] at h2
            rcases h2 with h2 | h2
            · exact h2
            · simp [Lit.sameKey, e] at h2⟩
        case measure => rw [Hrg2.out.left_eq]; have := Hle1.out; rw [Hrg1.out.left_eq] at this; exact this
end Go.Proofs.Ytfccpepmjklodaa
