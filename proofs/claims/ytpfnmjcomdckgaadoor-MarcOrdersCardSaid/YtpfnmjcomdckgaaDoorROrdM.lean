/-
  A record laid out in another order: its mathematics, and that it is read again.
-/
import Derived.Test.YtpfnmjcomdckgaaDoorRBack
namespace Go.Proofs.YtpfnmjcomdckgaaDoor
open Go.RowKit Go.Shelf
set_option linter.unusedVariables false
set_option linter.unusedSimpArgs false

/-- The directory of a layout. -/
def dirA : List Nat → List FldM → List UInt8
  | a :: ps, f :: fs => f.tag ++ digsN (sizeF f) 4 ++ digsN a 5 ++ dirA ps fs
  | _, _ => []
def entsA : List Nat → List FldM → List EntM
  | a :: ps, f :: fs => ⟨f.tag, a, sizeF f⟩ :: entsA ps fs
  | _, _ => []
/-- Each field's bytes stand at their place in the data. -/
def LayAt (data : List UInt8) : List Nat → List FldM → Prop
  | [], [] => True
  | a :: ps, f :: fs => (a + sizeF f ≤ data.length ∧ (data.drop a).take (sizeF f) = bytesF f) ∧ LayAt data ps fs
  | _, _ => False
theorem LayAt.len {data : List UInt8} : ∀ {ps : List Nat} {fs : List FldM}, LayAt data ps fs → ps.length = fs.length
  | [], [], _ => rfl
  | a :: ps, f :: fs, h => by rw [List.length_cons, List.length_cons, LayAt.len h.2]
theorem lay_of {data : List UInt8} : ∀ (ps : List Nat) (fs : List FldM), ps.length = fs.length → (∀ (k a : Nat) (f : FldM), ps[k]? = some a → fs[k]? = some f → a + sizeF f ≤ data.length ∧ (data.drop a).take (sizeF f) = bytesF f) → LayAt data ps fs
  | [], [], _, _ => trivial
  | a :: ps, f :: fs, h, hp => ⟨hp 0 a f rfl rfl, lay_of ps fs (by simpa using h) (fun k x g hx hg => hp (k + 1) x g (by simpa using hx) (by simpa using hg))⟩
theorem dirA_len {data : List UInt8} : ∀ {ps : List Nat} {fs : List FldM}, LayAt data ps fs → (∀ f ∈ fs, f.tag.length = 3) → (dirA ps fs).length = 12 * fs.length
  | [], [], _, _ => rfl
  | a :: ps, f :: fs, h, ht => by
    have ih := dirA_len h.2 (fun g hg => ht g (by simp [hg]))
    have h3 := ht f (by simp)
    show (f.tag ++ digsN (sizeF f) 4 ++ digsN a 5 ++ dirA ps fs).length = _
    simp only [List.length_append, ih, h3, digsN_len, List.length_cons]
    omega
theorem dirA_back (l B data : List UInt8) (hD : data.length ≤ 99999) : ∀ (ps : List Nat) (fs : List FldM) (a sum : Nat), LayAt data ps fs → l.drop a = dirA ps fs ++ B → (∀ f ∈ fs, tagB f.tag = true) → (∀ f ∈ fs, sizeF f ≤ 9999) → sum + fieldsN fs ≤ data.length →
    dirP l data.length fs.length a sum = .ok (entsA ps fs)
  | [], [], a, sum, _, _, _, _, _ => rfl
  | b :: ps, f :: fs, a, sum, hL, hl, ht, hs, hm => by
    have h3 := tagB_len (ht f (by simp))
    have hz := hs f (by simp)
    have hp := sizeF_pos f
    have hN : fieldsN (f :: fs) = sizeF f + fieldsN fs := by simp [fieldsN]
    have hb := hL.1.1
    rw [hN] at hm
    have hlen : (f.tag ++ digsN (sizeF f) 4 ++ digsN b 5).length = 12 := by simp only [List.length_append, h3, digsN_len]
    have hl' : l.drop a = (f.tag ++ digsN (sizeF f) 4 ++ digsN b 5) ++ (dirA ps fs ++ B) := by
      rw [hl, show dirA (b :: ps) (f :: fs) = f.tag ++ digsN (sizeF f) 4 ++ digsN b 5 ++ dirA ps fs from rfl, List.append_assoc (f.tag ++ digsN (sizeF f) 4 ++ digsN b 5)]
    have ht12 : (l.drop a).take 12 = f.tag ++ digsN (sizeF f) 4 ++ digsN b 5 := by
      rw [hl', ← hlen, List.take_left]
    have hd12 : l.drop (a + 12) = dirA ps fs ++ B := by
      rw [← List.drop_drop, hl', ← hlen, List.drop_left]
    obtain ⟨he, heb⟩ := ent_of f.tag (sizeF f) b h3 (by omega) (by omega)
    have ih := dirA_back l B data hD ps fs (a + 12) (sum + sizeF f) hL.2 hd12 (fun g hg => ht g (by simp [hg])) (fun g hg => hs g (by simp [hg])) (by omega)
    have hok : entOk data.length sum ((l.drop a).take 12) = true := by
      unfold entOk
      rw [ht12, heb, he, ht f (by simp)]
      simp only [Bool.true_and, Bool.and_eq_true, decide_eq_true_eq, Bool.not_eq_true', beq_eq_false_iff_ne]
      omega
    have hst : dirP l data.length (fs.length + 1) a sum = (match dirP l data.length fs.length (a + 12) (sum + (entOf ((l.drop a).take 12)).size) with
        | .bad x k => .bad x k
        | .ok es => .ok (entOf ((l.drop a).take 12) :: es)) := if_pos hok
    show dirP l data.length (fs.length + 1) a sum = _
    rw [hst, ht12, he, ih]
    rfl
theorem fieldsA_back (data B : List UInt8) (off : Nat) : ∀ (ps : List Nat) (fs : List FldM), LayAt data ps fs → (∀ f ∈ fs, fieldB f = true) → fieldsP (data ++ B) off (entsA ps fs) = .ok fs
  | [], [], _, _ => rfl
  | b :: ps, f :: fs, hL, hf => by
    have h1 : ((data ++ B).drop b).take (sizeF f) = bytesF f := by
      rw [List.drop_append_of_le_length (by have := hL.1.1; omega), List.take_append_of_le_length (by rw [List.length_drop]; have := hL.1.1; omega)]
      exact hL.1.2
    have ih := fieldsA_back data B off ps fs hL.2 (fun g hg => hf g (by simp [hg]))
    show (match fieldM f.tag (((data ++ B).drop b).take (sizeF f)) (off + b) with | .bad p k => _ | .ok x => _) = _
    rw [h1, field_back f _ (hf f (by simp))]
    show (match fieldsP (data ++ B) off (entsA ps fs) with | .bad p k => _ | .ok xs => _) = _
    rw [ih]
/-- The layout. -/
def layM (c : UInt8) (r : RecM) (dir data : List UInt8) : List UInt8 :=
  digsN (25 + dir.length + data.length + 1) 5 ++ [c] ++ [r.kind, r.level] ++ [c] ++ [97, 50, 50] ++ digsN (25 + dir.length) 5 ++ [c] ++ [120] ++ [c] ++ [52, 53, 48, 48] ++ dir ++ [30] ++ data ++ [29]
theorem layM_len (c : UInt8) (r : RecM) (dir data : List UInt8) : (layM c r dir data).length = 26 + dir.length + data.length := by
  unfold layM
  simp only [List.length_append, digsN_len, List.length_cons, List.length_nil]
  omega
theorem five_of (l : List UInt8) (hl : l.length = 5) : ∃ a b c d e, l = [a, b, c, d, e] := by
  match l, hl with
  | [a, b, c, d, e], _ => exact ⟨a, b, c, d, e, rfl⟩
/-- What is laid out is read again. -/
theorem parse_lay (c : UInt8) {r : RecM} (h : RightM r) {ps : List Nat} {data : List UInt8} (hL : LayAt data ps r.fields) (hsum : fieldsN r.fields ≤ data.length) (hn : r.fields.length ≤ 999) (hsz : 26 + 12 * r.fields.length + data.length < 100000) :
    parseM (layM c r (dirA ps r.fields) data) = .ok r := by
  have hdl := dirA_len hL (fun f hf => tagB_len (h.tags f hf))
  obtain ⟨dir, hdir⟩ : ∃ d, dirA ps r.fields = d := ⟨_, rfl⟩
  rw [hdir] at hdl ⊢
  obtain ⟨T, hT⟩ : ∃ T, 25 + dir.length + data.length + 1 = T := ⟨_, rfl⟩
  obtain ⟨Bs, hBs⟩ : ∃ B, 25 + dir.length = B := ⟨_, rfl⟩
  have hlen := layM_len c r dir data
  have hTl : (layM c r dir data).length = T := by omega
  obtain ⟨a1, a2, a3, a4, a5, ha⟩ := five_of _ (digsN_len 5 T)
  obtain ⟨b1, b2, b3, b4, b5, hb⟩ := five_of _ (digsN_len 5 Bs)
  have hv1 : valL [a1, a2, a3, a4, a5] = T := by rw [← ha]; exact valL_digsN 5 _ (by show T < 100000; omega)
  have hv2 : valL [b1, b2, b3, b4, b5] = Bs := by rw [← hb]; exact valL_digsN 5 _ (by show Bs < 100000; omega)
  have hd1 : [a1, a2, a3, a4, a5].all digB = true := by rw [← ha]; exact digsN_all 5 _
  have hd2 : [b1, b2, b3, b4, b5].all digB = true := by rw [← hb]; exact digsN_all 5 _
  have hw : layM c r dir data = [a1, a2, a3, a4, a5, c, r.kind, r.level, c, 97, 50, 50, b1, b2, b3, b4, b5, c, 120, c, 52, 53, 48, 48] ++ (dir ++ [30] ++ data ++ [29]) := by
    unfold layM
    rw [hT, hBs, ha, hb]
    simp only [List.append_assoc, List.cons_append, List.nil_append]
  obtain ⟨hd, hhd⟩ : ∃ x, [a1, a2, a3, a4, a5, c, r.kind, r.level, c, 97, 50, 50, b1, b2, b3, b4, b5, c, 120, c, 52, 53, 48, 48] = x := ⟨_, rfl⟩
  have hhl : hd.length = 24 := by rw [← hhd]; rfl
  have e1 : lenErr (layM c r dir data) = none := by
    have ht : (layM c r dir data).take 5 = [a1, a2, a3, a4, a5] := by rw [hw]; rfl
    unfold lenErr
    rw [ht, hTl, hv1, if_neg (by omega), if_pos hd1, if_neg (by omega), if_neg (by omega)]
  have e2 : leadErr (layM c r dir data) = none := by
    rw [hw]
    unfold leadErr hasAt
    simp [h.kind, h.level, Lib.hasPrefix, List.isPrefixOf]
  have hz : (hd ++ dir).length = Bs - 1 := by rw [List.length_append, hhl]; omega
  have e3 : headOf (layM c r dir data) = .ok Bs := by
    have hh : headDigs (layM c r dir data) = [b1, b2, b3, b4, b5] := by rw [hw]; rfl
    have h30 : (layM c r dir data).getD (Bs - 1) 0 = 30 := by
      rw [hw, hhd, List.append_assoc dir, List.append_assoc dir, ← List.append_assoc hd, getD_end _ _ _ hz.symm]
      rfl
    have hbb : headB (layM c r dir data) Bs = true := by
      rw [headB_iff, hTl]
      exact ⟨by omega, by omega, by omega, h30⟩
    unfold headOf
    rw [hh, hv2, if_pos hd2, if_pos hbb, if_neg (by omega)]
  have e4 : (layM c r dir data).getD ((layM c r dir data).length - 1) 0 = 29 := by
    obtain ⟨Y, hY⟩ : ∃ Y, layM c r dir data = Y ++ [29] := ⟨_, rfl⟩
    have hYl : T - 1 = Y.length := by
      have := hTl
      rw [hY, List.length_append] at this
      simp at this
      omega
    rw [hTl, hY, getD_end _ _ _ hYl]
    rfl
  have e5 : (layM c r dir data).drop 24 = dir ++ ([30] ++ data ++ [29]) := by
    rw [hw, hhd, ← hhl, List.drop_left]
    simp only [List.append_assoc]
  have e6 : (layM c r dir data).drop Bs = data ++ [29] := by
    rw [show Bs = 24 + (dir.length + 1) by omega, ← List.drop_drop, e5, ← List.drop_drop, List.drop_left]
    rfl
  have e7 : dirP (layM c r dir data) ((layM c r dir data).length - 1 - Bs) ((Bs - 25) / 12) 24 0 = .ok (entsA ps r.fields) := by
    rw [hTl, show T - 1 - Bs = data.length by omega, show (Bs - 25) / 12 = r.fields.length by omega]
    refine dirA_back _ ([30] ++ data ++ [29]) data (by omega) ps r.fields 24 0 hL ?_ h.tags h.small (by omega)
    rw [e5, hdir]
  have h6 : (layM c r dir data).getD 6 0 = r.kind := by rw [hw]; rfl
  have h7 : (layM c r dir data).getD 7 0 = r.level := by rw [hw]; rfl
  unfold parseM
  rw [e1]
  simp only
  rw [e2]
  simp only
  rw [e3]
  simp only
  rw [e4, if_pos rfl, e7]
  simp only
  rw [e6, fieldsA_back data [29] Bs ps r.fields hL h.flds]
  simp only
  rw [h6, h7]
/-- How many are marked; their sizes. -/
def cntT : List Bool → Nat
  | [] => 0
  | b :: l => (if b then 1 else 0) + cntT l
def sumL : List Bool → List FldM → Nat
  | b :: l, f :: fs => (if b then sizeF f else 0) + sumL l fs
  | _, _ => 0
theorem cnt_set : ∀ (l : List Bool) (k : Nat), l[k]? = some false → cntT (l.set k true) = cntT l + 1
  | [], k, h => by simp at h
  | b :: l, 0, h => by
    obtain rfl : b = false := by simpa using h
    simp [cntT]
    omega
  | b :: l, k + 1, h => by
    have ih := cnt_set l k (by simpa using h)
    simp only [List.set_cons_succ, cntT, ih]
    omega
theorem sum_set : ∀ (l : List Bool) (fs : List FldM) (k : Nat) (f : FldM), l[k]? = some false → fs[k]? = some f → sumL (l.set k true) fs = sumL l fs + sizeF f
  | [], _, k, f, h, _ => by simp at h
  | _ :: _, [], k, f, _, h => by simp at h
  | b :: l, g :: fs, 0, f, h, hf => by
    obtain rfl : b = false := by simpa using h
    obtain rfl : g = f := by simpa using hf
    simp [sumL]
    omega
  | b :: l, g :: fs, k + 1, f, h, hf => by
    have ih := sum_set l fs k f (by simpa using h) (by simpa using hf)
    simp only [List.set_cons_succ, sumL, ih]
    omega
theorem cnt_le : ∀ l : List Bool, cntT l ≤ l.length
  | [] => Nat.le_refl _
  | b :: l => by
    have ih := cnt_le l
    unfold cntT
    rw [List.length_cons]
    split <;> omega
theorem cnt_full : ∀ (l : List Bool), cntT l = l.length → ∀ (k : Nat) (b : Bool), l[k]? = some b → b = true
  | [], _, k, b, h => by simp at h
  | c :: l, hl, k, b, h => by
    have hle := cnt_le l
    unfold cntT at hl
    rw [List.length_cons] at hl
    have hc : c = true := by
      cases c with
      | true => rfl
      | false => simp at hl; omega
    subst hc
    match k, h with
    | 0, h => simpa using h.symm
    | k + 1, h => exact cnt_full l (by simp at hl; omega) k b (by simpa using h)
theorem cnt_ex : ∀ (l : List Bool), cntT l < l.length → ∃ k, k < l.length ∧ l[k]? = some false
  | [], h => by simp [cntT] at h
  | c :: l, h => by
    cases c with
    | false => exact ⟨0, by simp, rfl⟩
    | true =>
      unfold cntT at h
      rw [List.length_cons] at h
      obtain ⟨k, hk, hk2⟩ := cnt_ex l (by simp at h; omega)
      exact ⟨k + 1, by simp; omega, by simpa using hk2⟩
theorem sum_full : ∀ (l : List Bool) (fs : List FldM), l.length = fs.length → (∀ (k : Nat) (b : Bool), l[k]? = some b → b = true) → sumL l fs = fieldsN fs
  | [], [], _, _ => rfl
  | b :: l, f :: fs, h, ha => by
    have hb := ha 0 b rfl
    subst hb
    have ih := sum_full l fs (by simpa using h) (fun k b hk => ha (k + 1) b (by simpa using hk))
    have hN : fieldsN (f :: fs) = sizeF f + fieldsN fs := by simp [fieldsN]
    rw [hN, ← ih]
    simp [sumL]
theorem sum_le : ∀ (l : List Bool) (fs : List FldM), sumL l fs ≤ fieldsN fs
  | [], _ => by simp [sumL]
  | _ :: _, [] => by simp [sumL]
  | b :: l, f :: fs => by
    have ih := sum_le l fs
    unfold sumL
    have hN : fieldsN (f :: fs) = sizeF f + fieldsN fs := by simp [fieldsN]
    rw [hN]
    split <;> omega
theorem cnt_none : ∀ n : Nat, cntT (List.replicate n false) = 0
  | 0 => rfl
  | n + 1 => by rw [List.replicate_succ]; simp [cntT, cnt_none n]
theorem sum_none : ∀ (n : Nat) (fs : List FldM), sumL (List.replicate n false) fs = 0
  | 0, _ => by simp [sumL]
  | n + 1, [] => by rw [List.replicate_succ]; simp [sumL]
  | n + 1, f :: fs => by rw [List.replicate_succ]; simp [sumL, sum_none n fs]
/-- The data while fields are laid: i of them are. -/
structure LayI (fs : List FldM) (i : Nat) (at' : List Nat) (left : List Bool) (data : List UInt8) : Prop where
  la : at'.length = fs.length
  ll : left.length = fs.length
  cnt : cntT left = i
  lo : sumL left fs ≤ data.length
  hi : data.length ≤ sumL left fs + 3 * i
  lay : ∀ (k a : Nat) (f : FldM), left[k]? = some true → at'[k]? = some a → fs[k]? = some f → a + sizeF f ≤ data.length ∧ (data.drop a).take (sizeF f) = bytesF f
  small : ∀ a ∈ at', a ≤ data.length
theorem LayI.start (fs : List FldM) : LayI fs 0 (List.replicate fs.length 0) (List.replicate fs.length false) [] := by
  refine ⟨by simp, by simp, cnt_none _, by rw [sum_none]; exact Nat.zero_le _, Nat.zero_le _, fun k a f h => ?_, fun a ha => by rw [List.eq_of_mem_replicate ha]; exact Nat.le_refl _⟩
  rw [List.getElem?_replicate] at h
  split at h <;> simp at h
theorem LayI.step {fs : List FldM} {i : Nat} {at' : List Nat} {left : List Bool} {data : List UInt8} (h : LayI fs i at' left data) (k : Nat) (f : FldM) (hk : left[k]? = some false) (hf : fs[k]? = some f) (g : List UInt8) (hg : g.length ≤ 3) :
    LayI fs (i + 1) (at'.set k (data ++ g).length) (left.set k true) (data ++ g ++ bytesF f) := by
  have hs := sum_set left fs k f hk hf
  have hbl := bytesF_len f
  refine ⟨by rw [List.length_set]; exact h.la, by rw [List.length_set]; exact h.ll, by rw [cnt_set left k hk, h.cnt], ?_, ?_, fun j a f2 h1 h2 h3 => ?_, fun a ha => ?_⟩
  · rw [hs, List.length_append, List.length_append, hbl]; have := h.lo; omega
  · rw [hs, List.length_append, List.length_append, hbl]; have := h.hi; omega
  · by_cases hj : k = j
    · subst hj
      have hkl : k < at'.length := by rw [h.la]; exact (List.getElem?_eq_some_iff.1 hf).1
      rw [List.getElem?_set_self hkl] at h2
      obtain rfl : (data ++ g).length = a := by simpa using h2
      obtain rfl : f = f2 := by rw [hf] at h3; simpa using h3
      refine ⟨by have e := @List.length_append _ (data ++ g) (bytesF f); omega, ?_⟩
      rw [List.drop_left, ← hbl, List.take_length]
    · rw [List.getElem?_set_ne hj] at h1 h2
      obtain ⟨p1, p2⟩ := h.lay j a f2 h1 h2 h3
      refine ⟨by rw [List.length_append, List.length_append]; omega, ?_⟩
      rw [List.append_assoc, List.drop_append_of_le_length (by omega), List.take_append_of_le_length (by rw [List.length_drop]; omega), p2]
  · rcases List.mem_or_eq_of_mem_set ha with ha | rfl
    · have := h.small a ha; rw [List.length_append, List.length_append]; omega
    · have e := @List.length_append _ (data ++ g) (bytesF f); omega
theorem LayI.done {fs : List FldM} {at' : List Nat} {left : List Bool} {data : List UInt8} (h : LayI fs fs.length at' left data) :
    LayAt data at' fs ∧ fieldsN fs ≤ data.length ∧ data.length ≤ fieldsN fs + 3 * fs.length := by
  have hall := cnt_full left (by rw [h.cnt, h.ll])
  have hs := sum_full left fs h.ll hall
  have h1 := h.lo
  have h2 := h.hi
  rw [hs] at h1 h2
  refine ⟨lay_of at' fs h.la (fun k a f ha hf => ?_), h1, h2⟩
  have hkl : k < left.length := by rw [h.ll]; exact (List.getElem?_eq_some_iff.1 hf).1
  have hb := hall k left[k] (List.getElem?_eq_getElem hkl)
  exact h.lay k a f (by rw [List.getElem?_eq_getElem hkl, hb]) ha hf
end Go.Proofs.YtpfnmjcomdckgaaDoor
