/-
  MarcBack: what is written is read back.
-/
import Derived.Test.YtpfnmjcomdckgaaDoorRMadeK
import Derived.Test.YtpfnmjcomdckgaaDoorRSpoC
import Derived.Test.YtpfnmjcomdckgaaDoorRRefW
import Derived.Test.YtpfnmjcomdckgaaDoorRSame
import Derived.Test.YtpfnmjcomdckgaaDoorRSan
import Derived.Test.YtpfnmjcomdckgaaDoorRBack
import Derived.Test.YtpfnmjcomdckgaaDoorRArgs
import Derived.Deep.RegionWith
import Derived.Deep.Cut
namespace Go.Proofs.YtpfnmjcomdckgaaDoor
open Go.RowKit Go.Shelf
set_option linter.unusedVariables false
set_option linter.unusedSimpArgs false

/-- Block pb holds the record r. -/
def HoldsR (W : World) (pb : Nat) (r : RecM) (fv : Value) : Prop := W.heap[pb]? = some (.cells #[.int .u8 (r.kind.toNat : Int), .int .u8 (r.level.toNat : Int), fv] 27 (0, 0)) ∧ FldsAt W fv r.fields
theorem HoldsR.below {W W' : World} {pb : Nat} {r : RecM} {fv : Value} (h : HoldsR W pb r fv) (hb : Below W.heap.size W W') : HoldsR W' pb r fv := ⟨heap_below hb h.1, h.2.below hb (Nat.le_refl _)⟩
theorem HoldsR.cells {W : World} {pb : Nat} {r : RecM} {fv : Value} (h : HoldsR W pb r fv) :
    W.cell? ⟨pb, 0, none⟩ = some (.int .u8 (r.kind.toNat : Int)) ∧ W.cell? ⟨pb, 1, none⟩ = some (.int .u8 (r.level.toNat : Int)) ∧ W.cell? ⟨pb, 2, none⟩ = some fv ∧
    W.frozen? ⟨pb, 0, none⟩ = false ∧ W.frozen? ⟨pb, 1, none⟩ = false ∧ W.frozen? ⟨pb, 2, none⟩ = false :=
  ⟨by rw [cell_at h.1]; rfl, by rw [cell_at h.1]; rfl, by rw [cell_at h.1]; rfl, Lib.frozen_of_heap h.1 0, Lib.frozen_of_heap h.1 1, Lib.frozen_of_heap h.1 2⟩
theorem zero_cells {W : World} {pb : Nat} {x y z : Value} (h : W.heap[pb]? = some (.cells #[x, y, z] 27 (0, 0))) :
    W.cell? ⟨pb, 0, none⟩ = some x ∧ W.cell? ⟨pb, 1, none⟩ = some y ∧ W.cell? ⟨pb, 2, none⟩ = some z ∧
    W.frozen? ⟨pb, 0, none⟩ = false ∧ W.frozen? ⟨pb, 1, none⟩ = false ∧ W.frozen? ⟨pb, 2, none⟩ = false :=
  ⟨by rw [cell_at h]; rfl, by rw [cell_at h]; rfl, by rw [cell_at h]; rfl, Lib.frozen_of_heap h 0, Lib.frozen_of_heap h 1, Lib.frozen_of_heap h 2⟩
theorem fin3_far (W : World) (pb : Nat) (x y z : Value) (g : Nat) (h : g ≠ pb) : (fin3 W pb x y z).heap[g]? = W.heap[g]? := by
  unfold fin3
  rw [far_set _ _ 2 _ h, far_set _ _ 1 _ h, far_set _ _ 0 _ h]
theorem fin3_at {W : World} {pb : Nat} {a b c : Value} (h : W.heap[pb]? = some (.cells #[a, b, c] 27 (0, 0))) (x y z : Value) : (fin3 W pb x y z).heap[pb]? = some (.cells #[x, y, z] 27 (0, 0)) := by
  have := blk_set (blk_set (blk_set h 0 x) 1 y) 2 z
  unfold fin3
  simpa using this
theorem fin3_below {B : Nat} {w W : World} (hb : Below B w W) {pb : Nat} (hp : B ≤ pb) (x y z : Value) : Below B w (fin3 W pb x y z) := by
  unfold fin3
  exact ((hb.setCell (p := ⟨pb, 0, none⟩) hp _).setCell (p := ⟨pb, 1, none⟩) hp _).setCell (p := ⟨pb, 2, none⟩) hp _
/-- A record whose blocks are new is put into an older block. -/
theorem put_kept {W0 W : World} {pb : Nat} {r : RecM} {fv a b c : Value} (hk : KeptV W0.heap.size W (.agg #[.int .u8 (r.kind.toNat : Int), .int .u8 (r.level.toNat : Int), fv]) r) (hp : pb < W0.heap.size) (hz : W.heap[pb]? = some (.cells #[a, b, c] 27 (0, 0))) :
    HoldsR (fin3 W pb (.int .u8 (r.kind.toNat : Int)) (.int .u8 (r.level.toNat : Int)) fv) pb r fv := by
  refine ⟨fin3_at hz _ _ _, ?_⟩
  obtain ⟨fv', he, hf⟩ := hk (fin3 W pb (.int .u8 (r.kind.toNat : Int)) (.int .u8 (r.level.toNat : Int)) fv) (fun g hg => fin3_far _ _ _ _ _ _ (by omega))
  simp only [Value.agg.injEq, Array.mk.injEq, List.cons.injEq, and_true, true_and] at he
  subst he
  exact hf
/-- A record is put into a new block. -/
theorem put_new {W : World} {r : RecM} {fv : Value} {o : Obj} {a b c : Value} (ho : o = .cells #[a, b, c] 27) (hf : FldsAt W fv r.fields) :
    HoldsR (fin3 (W.alloc o) W.heap.size (.int .u8 (r.kind.toNat : Int)) (.int .u8 (r.level.toNat : Int)) fv) W.heap.size r fv := by
  subst ho
  exact ⟨fin3_at (new_at _ _) _ _ _, hf.below (fin3_below (below_new W _) (Nat.le_refl _) _ _ _) (Nat.le_refl _)⟩
theorem made_size {r : RecM} (hck : checkM r = 0) (hsz : sizeR r ≤ 5000) : SizeOk 5000 r := ⟨hsz, fun f hf => by have := tagB_len ((check_zero hck).tags f hf); omega⟩
theorem SizeOk.mono {S T : Nat} {r : RecM} (h : SizeOk S r) (hS : S ≤ T) : SizeOk T r := ⟨Nat.le_trans h.1 hS, h.2⟩
def BackPost (w : World) (hb : Nat) (s6 : Value) (wx : World) : Prop := ∃ pb r' fv', s6 = .pointer (some ⟨pb, 0, none⟩) ∧ HoldsR wx pb r' fv' ∧ SizeOk 35000 r' ∧ Below w.heap.size w wx ∧ hb ≤ pb
theorem post_new {w W : World} {hb : Nat} {r : RecM} {fv : Value} (hf : FldsAt W fv r.fields) (hs : SizeOk (5000 + 30000) r) (hbw : Below w.heap.size w W) (hl : hb ≤ W.heap.size) :
    ∃ pb r' fv', Value.pointer (some ⟨W.heap.size, 0, none⟩) = .pointer (some ⟨pb, 0, none⟩) ∧ HoldsR (fin3 (W.alloc (.cells #[.int .u8 0, .int .u8 0, .slice none 0 0] 27)) W.heap.size (.int .u8 (r.kind.toNat : Int)) (.int .u8 (r.level.toNat : Int)) fv) pb r' fv' ∧ SizeOk 35000 r' ∧ Below w.heap.size w (fin3 (W.alloc (.cells #[.int .u8 0, .int .u8 0, .slice none 0 0] 27)) W.heap.size (.int .u8 (r.kind.toNat : Int)) (.int .u8 (r.level.toNat : Int)) fv) ∧ hb ≤ pb :=
  ⟨_, r, fv, rfl, put_new rfl hf, hs, fin3_below (hbw.alloc hbw.size _) hbw.size _ _ _, hl⟩
theorem post_kept {w W0 W : World} {hb pb : Nat} {r : RecM} {fv a b c : Value} (hk : KeptV W0.heap.size W (.agg #[.int .u8 (r.kind.toNat : Int), .int .u8 (r.level.toNat : Int), fv]) r) (hs : SizeOk (5000 + 30000) r) (hbw : Below w.heap.size w W) (hp : pb < W0.heap.size) (hz : W.heap[pb]? = some (.cells #[a, b, c] 27 (0, 0))) (hl : hb ≤ pb) (hw : w.heap.size ≤ pb) :
    ∃ pb' r' fv', Value.pointer (some ⟨pb, 0, none⟩) = .pointer (some ⟨pb', 0, none⟩) ∧ HoldsR (fin3 W pb (.int .u8 (r.kind.toNat : Int)) (.int .u8 (r.level.toNat : Int)) fv) pb' r' fv' ∧ SizeOk 35000 r' ∧ Below w.heap.size w (fin3 W pb (.int .u8 (r.kind.toNat : Int)) (.int .u8 (r.level.toNat : Int)) fv) ∧ hb ≤ pb' :=
  ⟨_, r, fv, rfl, put_kept hk hp hz, hs, fin3_below hbw hw _ _ _, hl⟩
set_option maxRecDepth 100000 in
set_option maxHeartbeats 20000000 in
theorem walk_MarcBack (v : Value) (ll : List (Int × Int × Int)) (q0 q1 q2 : Int) (w : World) (hv : ReadsT w v ll) (f0 : Fits q0) (f1 : Fits q1) (f2 : Fits q2) (hT : Tabs w) :
    Calls Tryd.prog 4 #[v, .agg #[.int .i64 q0, .int .i64 q1, .int .i64 q2]] w (Yes w) := by
  obtain ⟨W2, hW2⟩ : ∃ W2, w.alloc (.cells #[.int .i64 q0, .int .i64 q1, .int .i64 q2] 23) = W2 := ⟨_, rfl⟩
  have hb2 : Below w.heap.size w W2 := by rw [← hW2]; exact below_new _ _
  have hn2 : W2.heap[w.heap.size]? = some (.cells #[.int .i64 q0, .int .i64 q1, .int .i64 q2] 23 (0, 0)) := by rw [← hW2]; exact new_at _ _
  have hs := sanity_c W2 (tabs_below hT hb2)
  unfold Yes at hs
  have HS := Lib.hid hs
  have Hb2 := Lib.hid hb2
  have Hn2 := Lib.hid hn2
  have HT := Lib.hid hT
  have Hv := Lib.hid hv
  clear hs hb2 hn2 hT hv
  unfold Yes
  go_enter Tryd.func4, Tryd.ntmps4
  go_wp2_with fail
  refine HS.out.mono ?_
  rintro e w3 ⟨rfl, hb3⟩
  have hn3 := heap_below hb3 Hn2.out
  have hbw3 := Hb2.out.trans (hb3.mono Hb2.out.size)
  go_upto_region 2 with fail
  obtain ⟨W3, hW3⟩ : ∃ W3, w3.drew = W3 := ⟨_, rfl⟩
  have hn3' : W3.heap[w.heap.size]? = some (.cells #[.int .i64 q0, .int .i64 q1, .int .i64 q2] 23 (0, 0)) := by rw [← hW3]; exact heap_below (Below.refl _ w3).drew hn3
  have hbw : Below w.heap.size w W3 := by rw [← hW3]; exact hbw3.trans ((Below.refl _ w3).drew.mono hbw3.size)
  have MA := Lib.hid (fun W (h : ReadsT W v ll) => made_k v ll W h)
  have SPC := Lib.hid (fun W x r (h : RecV W x r) (hs : SizeOk 5000 r) => spoiled_c x r q0 q1 q2 W h 5000 (by omega) hs f0 f1 f2)
  unfold MadePostK at MA
  unfold SpPost at SPC
  obtain ⟨hb, hhb⟩ : ∃ k, w.heap.size = k := ⟨_, rfl⟩
  have Hbw := Lib.hid hbw
  have Hhb := Lib.hid hhb
  have hlt3 := lt_at hn3'
  rw [hhb] at hn3' hlt3
  clear hb3 hn3 hbw3 HS hbw hW2 Hb2 Hn2
  rw [hhb]
  clear hhb
  go_cut [6] from 18 (fun s6 wx => ∃ pb r' fv', s6 = .pointer (some ⟨pb, 0, none⟩) ∧ HoldsR wx pb r' fv' ∧ SizeOk 35000 r' ∧ Below w.heap.size w wx ∧ hb ≤ pb)
  case first =>
    obtain ⟨S, hSd⟩ : ∃ S : World → Prop, S = (fun w' : World => w'.heap[hb]? = some (.cells #[.int .i64 q0, .int .i64 q1, .int .i64 q2] 23 (0, 0))) := ⟨_, rfl⟩
    have hS1 : ∀ w', S w' → w'.cell? ⟨hb, 0, none⟩ = some (.int .i64 q0) := fun w' h => by rw [hSd] at h; rw [cell_at h]; rfl
    have hS2 : ∀ w', S w' → w'.cell? ⟨hb, 1, none⟩ = some (.int .i64 q1) := fun w' h => by rw [hSd] at h; rw [cell_at h]; rfl
    have hS3 : ∀ w', S w' → w'.cell? ⟨hb, 2, none⟩ = some (.int .i64 q2) := fun w' h => by rw [hSd] at h; rw [cell_at h]; rfl
    have hSm : ∀ w5 : World, w5.heap[hb]? = some (.cells #[.int .i64 q0, .int .i64 q1, .int .i64 q2] 23 (0, 0)) → S w5 := fun w5 h => by rw [hSd]; exact h
    have hS0 : S W3 := hSm _ hn3'
    clear hSd
    refine wp_region_C 5 6 S rfl rfl ?_
    rw [hW3]
    clear hW3
    refine wpAnyC_takeD 0 14 (v) rfl rfl rfl (by kernel_rfl) (by kernel_rfl) (by kernel_rfl) (by kernel_rfl) (fun _ _ _ h => h) (fun w5 hw5 => ?_) hS0 ?_
    · have z1 := hS1 w5 hw5; have z2 := hS2 w5 hw5; have z3 := hS3 w5 hw5
      simp only [List.getElem_toArray, List.getElem_cons_zero, List.getElem_cons_succ]
      go_simp
    try simp only [Act.put, List.setIfInBounds_toArray, List.set_cons_zero, List.set_cons_succ]
    refine wpAnyC_takeD 2 16 (.agg #[.int .i64 q0, .int .i64 q1, .int .i64 q2]) rfl rfl rfl (by kernel_rfl) (by kernel_rfl) (by kernel_rfl) (by kernel_rfl) (fun _ _ _ h => h) (fun w5 hw5 => ?_) hS0 ?_
    · have z1 := hS1 w5 hw5; have z2 := hS2 w5 hw5; have z3 := hS3 w5 hw5
      simp only [List.getElem_toArray, List.getElem_cons_zero, List.getElem_cons_succ]
      go_simp
    try simp only [Act.put, List.setIfInBounds_toArray, List.set_cons_zero, List.set_cons_succ]
    refine wpAnyC_two (i := 1) (j := 4) rfl rfl (by kernel_rfl) (fun K hK => ?_) (fun K hK => ?_)
    · skip
      simp only [List.getElem_toArray, List.getElem_cons_zero, List.getElem_cons_succ]
      go_simp
      go_wp2_with fail
      refine (MA.out _ (Hv.out.below Hbw.out (Nat.le_refl _))).mono ?_
      rintro _ w4 ⟨v4, r4, rfl, hrv4, hck4, hsz4, hb4, -, -⟩
      go_wp2_with fail
      have hn4 := heap_below hb4 hn3'
      have hbw4 := Hbw.out.trans (hb4.mono Hbw.out.size)
      refine hK _ _ (fun _ => hSm _ hn4) ?_
      clear hK
      try simp only [Act.put, List.setIfInBounds_toArray, List.set_cons_zero, List.set_cons_succ]
      refine wpAnyC_two (i := 3) (j := 4) rfl rfl (by kernel_rfl) (fun K hK => ?_) (fun K hK => ?_)
      · skip
        simp only [List.getElem_toArray, List.getElem_cons_zero, List.getElem_cons_succ]
        go_simp
        go_wp2_with fail
        refine (SPC.out _ v4 r4 hrv4 (made_size hck4 hsz4)).mono ?_
        rintro _ w5 ⟨v5, r5, rfl, hrv5, hsz5, hb5, hk5⟩
        obtain ⟨fv5, rfl, hf5⟩ := hrv5
        obtain ⟨fa5, fc5, rfl, -, -⟩ := id hf5.slice
        go_wp2_with fail
        have hn5 := heap_below hb5 hn4
        have hbw5 := hbw4.trans (hb5.mono hbw4.size)
        refine hK _ _ (fun _ => hSm _ hn5) ?_
        clear hK
        try simp only [Act.put, List.setIfInBounds_toArray, List.set_cons_zero, List.set_cons_succ]
        refine wpAnyC_step (k := 4) rfl (by kernel_rfl) (fun K hK => ?_)
        simp only [List.getElem_toArray, List.getElem_cons_zero, List.getElem_cons_succ]
        go_simp
        refine hK _ _ (fun _ => hSm _ (heap_below (below_new _ _) hn5)) ?_
        clear hK
        try simp only [Act.put, List.setIfInBounds_toArray, List.set_cons_zero, List.set_cons_succ]
        have hzc := new_at w5 (.cells #[.int .u8 0, .int .u8 0, .slice none 0 0] 27)
        have hpost := post_new (hb := hb) hf5 hsz5 hbw5 (by have := lt_at hn5; omega)
        obtain ⟨pb, hpb⟩ : ∃ k, w5.heap.size = k := ⟨_, rfl⟩
        obtain ⟨W6, hW6⟩ : ∃ W6, w5.alloc (.cells #[.int .u8 0, .int .u8 0, .slice none 0 0] 27) = W6 := ⟨_, rfl⟩
        unfold fin3 at hpost
        rw [hpb, hW6] at hpost hzc ⊢
        obtain ⟨c0, c1, c2, c3, c4, c5⟩ := zero_cells hzc
        refine wpAnyC_step (k := 5) rfl (by kernel_rfl) (fun K hK => ?_)
        simp only [List.getElem_toArray, List.getElem_cons_zero, List.getElem_cons_succ]
        go_simp
        refine hK _ _ (fun h => absurd (of_decide_eq_true h) (by decide)) ?_
        clear hK
        refine wpAnyC_done (by kernel_rfl) ?_
        clear hS0 hSm hS1 hS2 hS3
        go_wp2_with fail
        go_meet
        exact hpost
      · skip
        simp only [List.getElem_toArray, List.getElem_cons_zero, List.getElem_cons_succ]
        go_simp
        have hzc := new_at w4 (.cells #[.int .u8 0, .int .u8 0, .slice none 0 0] 27)
        have hba : Below w4.heap.size w4 (w4.alloc (.cells #[.int .u8 0, .int .u8 0, .slice none 0 0] 27)) := below_new _ _
        obtain ⟨W6, hW6⟩ : ∃ W6, w4.alloc (.cells #[.int .u8 0, .int .u8 0, .slice none 0 0] 27) = W6 := ⟨_, rfl⟩
        rw [hW6] at hzc hba ⊢
        have hn6 := heap_below hba hn4
        have hbw6 := hbw4.trans (hba.mono hbw4.size)
        obtain ⟨pb, hpb⟩ : ∃ k, w4.heap.size = k := ⟨_, rfl⟩
        have hrv6 := hrv4.below hba (Nat.le_refl _)
        have hpl : hb ≤ pb := by have := lt_at hn4; omega
        rw [hpb] at hzc ⊢
        refine hK _ _ (fun _ => hSm _ hn6) ?_
        clear hK
        try simp only [Act.put, List.setIfInBounds_toArray, List.set_cons_zero, List.set_cons_succ]
        refine wpAnyC_step (k := 3) rfl (by kernel_rfl) (fun K hK => ?_)
        simp only [List.getElem_toArray, List.getElem_cons_zero, List.getElem_cons_succ]
        go_simp
        go_wp2_with fail
        refine (SPC.out _ v4 r4 hrv6 (made_size hck4 hsz4)).mono ?_
        rintro _ w5 ⟨v5, r5, rfl, hrv5, hsz5, hb5, hk5⟩
        obtain ⟨fv5, rfl, hf5⟩ := hrv5
        obtain ⟨fa5, fc5, rfl, -, -⟩ := id hf5.slice
        go_wp2_with fail
        have hn5 := heap_below hb5 hn6
        have hbw5 := hbw6.trans (hb5.mono hbw6.size)
        have hpost := post_kept hk5 hsz5 hbw5 (lt_at hzc) (heap_below hb5 hzc) hpl (by have := Hhb.out; omega)
        replace hzc := heap_below hb5 hzc
        refine hK _ _ (fun _ => hSm _ hn5) ?_
        clear hK
        try simp only [Act.put, List.setIfInBounds_toArray, List.set_cons_zero, List.set_cons_succ]
        unfold fin3 at hpost
        obtain ⟨c0, c1, c2, c3, c4, c5⟩ := zero_cells hzc
        refine wpAnyC_step (k := 5) rfl (by kernel_rfl) (fun K hK => ?_)
        simp only [List.getElem_toArray, List.getElem_cons_zero, List.getElem_cons_succ]
        go_simp
        refine hK _ _ (fun h => absurd (of_decide_eq_true h) (by decide)) ?_
        clear hK
        refine wpAnyC_done (by kernel_rfl) ?_
        clear hS0 hSm hS1 hS2 hS3
        go_wp2_with fail
        go_meet
        exact hpost
    · skip
      simp only [List.getElem_toArray, List.getElem_cons_zero, List.getElem_cons_succ]
      go_simp
      have hzc := new_at W3 (.cells #[.int .u8 0, .int .u8 0, .slice none 0 0] 27)
      have hba : Below W3.heap.size W3 (W3.alloc (.cells #[.int .u8 0, .int .u8 0, .slice none 0 0] 27)) := below_new _ _
      obtain ⟨W6, hW6⟩ : ∃ W6, W3.alloc (.cells #[.int .u8 0, .int .u8 0, .slice none 0 0] 27) = W6 := ⟨_, rfl⟩
      rw [hW6] at hzc hba ⊢
      have hn6 := heap_below hba hn3'
      have hbw6 := Hbw.out.trans (hba.mono Hbw.out.size)
      obtain ⟨pb, hpb⟩ : ∃ k, W3.heap.size = k := ⟨_, rfl⟩
      have hpl : hb ≤ pb := by omega
      rw [hpb] at hzc ⊢
      refine hK _ _ (fun _ => hSm _ hn6) ?_
      clear hK
      try simp only [Act.put, List.setIfInBounds_toArray, List.set_cons_zero, List.set_cons_succ]
      refine wpAnyC_step (k := 1) rfl (by kernel_rfl) (fun K hK => ?_)
      simp only [List.getElem_toArray, List.getElem_cons_zero, List.getElem_cons_succ]
      go_simp
      go_wp2_with fail
      refine (MA.out _ (Hv.out.below hbw6 (Nat.le_refl _))).mono ?_
      rintro _ w4 ⟨v4, r4, rfl, hrv4, hck4, hsz4, hb4, -, -⟩
      go_wp2_with fail
      have hn4 := heap_below hb4 hn6
      replace hzc := heap_below hb4 hzc
      have hbw4 := hbw6.trans (hb4.mono hbw6.size)
      refine hK _ _ (fun _ => hSm _ hn4) ?_
      clear hK
      try simp only [Act.put, List.setIfInBounds_toArray, List.set_cons_zero, List.set_cons_succ]
      replace hn6 := hn4
      have hrv6 := hrv4
      replace hbw6 := hbw4
      refine wpAnyC_step (k := 3) rfl (by kernel_rfl) (fun K hK => ?_)
      simp only [List.getElem_toArray, List.getElem_cons_zero, List.getElem_cons_succ]
      go_simp
      go_wp2_with fail
      refine (SPC.out _ v4 r4 hrv6 (made_size hck4 hsz4)).mono ?_
      rintro _ w5 ⟨v5, r5, rfl, hrv5, hsz5, hb5, hk5⟩
      obtain ⟨fv5, rfl, hf5⟩ := hrv5
      obtain ⟨fa5, fc5, rfl, -, -⟩ := id hf5.slice
      go_wp2_with fail
      have hn5 := heap_below hb5 hn6
      have hbw5 := hbw6.trans (hb5.mono hbw6.size)
      have hpost := post_kept hk5 hsz5 hbw5 (lt_at hzc) (heap_below hb5 hzc) hpl (by have := Hhb.out; omega)
      replace hzc := heap_below hb5 hzc
      refine hK _ _ (fun _ => hSm _ hn5) ?_
      clear hK
      try simp only [Act.put, List.setIfInBounds_toArray, List.set_cons_zero, List.set_cons_succ]
      unfold fin3 at hpost
      obtain ⟨c0, c1, c2, c3, c4, c5⟩ := zero_cells hzc
      refine wpAnyC_step (k := 5) rfl (by kernel_rfl) (fun K hK => ?_)
      simp only [List.getElem_toArray, List.getElem_cons_zero, List.getElem_cons_succ]
      go_simp
      refine hK _ _ (fun h => absurd (of_decide_eq_true h) (by decide)) ?_
      clear hK
      refine wpAnyC_done (by kernel_rfl) ?_
      clear hS0 hSm hS1 hS2 hS3
      go_wp2_with fail
      go_meet
      exact hpost
  case rest =>
  obtain ⟨pb, r, fv, rfl, hh, hsz, hbw, hpl⟩ := hcut
  obtain ⟨fa, fc, rfl, -, -⟩ := id hh.2.slice
  obtain ⟨c0, c1, c2, c3, c4, c5⟩ := hh.cells
  have RR := rRightR_c _ r wc ⟨_, rfl, hh.2⟩ (by have := hsz.1; omega) (fun f hf => by have := hsz.2 f hf; omega)
  have Hh := Lib.hid hh
  have Hsz := Lib.hid hsz
  have Hbw4 := Lib.hid hbw
  have hpw : pb < wc.heap.size := lt_at hh.1
  clear hh hsz hbw hn3' hlt3 hW3 SPC Hbw
  by_cases hck : checkM r = 0
  · rw [show (checkM r == 0) = true by rw [hck]; rfl] at RR
    have RR := Lib.hid RR
    go_wp2_with fail
    refine RR.out.mono ?_
    rintro _ W8 ⟨rfl, hb5⟩
    have hh8 := Hh.out.below hb5
    have hsz8 : SizeOk 40000 r := SizeOk.mono Hsz.out (by omega)
    have hbw8 := Hbw4.out.trans (hb5.mono Hbw4.out.size)
    clear hb5 Hh Hsz Hbw4 RR MA c0 c1 c2 c3 c4 c5 hpw
    obtain ⟨c0, c1, c2, -, -, -⟩ := hh8.cells
    have NW := write_c _ r W8 ⟨_, rfl, hh8.2⟩ (by have := hsz8.1; omega) (fun f hf => by have := hsz8.2 f hf; omega)
    unfold WritePost at NW
    have hwr : writeR r = writeM r := by unfold writeR; rw [if_pos hck]
    have hps := parse_write (check_zero hck)
    have hwl := writeM_len (check_zero hck)
    rw [hwr, hck] at NW
    obtain ⟨X, hX⟩ : ∃ X, writeM r = X := ⟨_, rfl⟩
    rw [hX] at NW hps hwl
    have hXl : X.length ≤ 40000 := by have := hsz8.1; omega
    have NW := Lib.hid NW
    have Hh8 := Lib.hid hh8
    have Hbw8 := Lib.hid hbw8
    have Hps := Lib.hid hps
    have HXl := Lib.hid hXl
    clear hh8 hbw8 hps hwl hXl hwr hX hsz8 hck
    go_wp2_with fail
    refine NW.out.mono ?_
    rintro _ w9 ⟨rfl, hb9⟩
    have hh9 := Hh8.out.below hb9
    have hbw9 := Hbw8.out.trans (hb9.mono Hbw8.out.size)
    have hp := Parse_c X (by have := HXl.out; omega) w9 (tabs_below HT.out hbw9)
    rw [Hps.out] at hp
    unfold PV at hp
    have Hpp := Lib.hid hp
    have Hh9 := Lib.hid hh9
    have Hbw9 := Lib.hid hbw9
    clear hp hh9 hbw9 hb9 c0 c1 c2
    go_wp2_with fail
    refine Hpp.out.mono ?_
    rintro _ w10 ⟨gv, rfl, hb10, hgv⟩
    obtain ⟨ga, gc, rfl, -⟩ := hgv.slice
    have hh10 := Hh9.out.below hb10
    have hbw10 := Hbw9.out.trans (hb10.mono Hbw9.out.size)
    obtain ⟨W11, hW11⟩ : ∃ W11, w10.alloc (.cells #[.int .u8 (r.kind.toNat : Int), .int .u8 (r.level.toNat : Int), .slice ga r.fields.length gc] 27) = W11 := ⟨_, rfl⟩
    have hn11 : W11.heap[w10.heap.size]? = some (.cells #[.int .u8 (r.kind.toNat : Int), .int .u8 (r.level.toNat : Int), .slice ga r.fields.length gc] 27 (0, 0)) := by rw [← hW11]; exact new_at _ _
    have hh11 := hh10.below (show Below w10.heap.size w10 W11 by rw [← hW11]; exact below_new _ _)
    have hg11 : FldsAt W11 (.slice ga r.fields.length gc) r.fields := by rw [← hW11]; exact hgv.below (below_new _ _) (Nat.le_refl _)
    have hbw11 : Below w.heap.size w W11 := by rw [← hW11]; exact hbw10.alloc hbw10.size _
    obtain ⟨s0, s1, s2, -, -, -⟩ := hh11.cells
    obtain ⟨t0, t1, t2, -, -, -⟩ := zero_cells hn11
    have NS := same_c _ _ r r W11 ⟨_, rfl, hh11.2⟩ ⟨_, rfl, hg11⟩
    rw [decide_eq_true rfl] at NS
    unfold SP at NS
    have NS := Lib.hid NS
    have Hbw11 := Lib.hid hbw11
    clear hh10 hbw10 hb10 hgv hn11 hh11 hg11 hbw11 Hpp
    go_wp2_with fail
    refine NS.out.mono ?_
    rintro _ w12 ⟨rfl, hb12⟩
    have Hbw12 := Lib.hid (Hbw11.out.trans (hb12.mono Hbw11.out.size))
    clear hb12
    go_wp2
    go_ret
    exact ⟨rfl, Hbw12.out⟩
  · rw [show (checkM r == 0) = false by rw [beq_eq_false_iff_ne]; exact hck] at RR
    have RR := Lib.hid RR
    clear hck
    go_wp2_with fail
    refine RR.out.mono ?_
    rintro _ w5 ⟨rfl, hb5⟩
    have hbw5 := Hbw4.out.trans (hb5.mono Hbw4.out.size)
    have hz5 := heap_below hb5 Hh.out.1
    have hl5 := lt_at hz5
    have Hbw5 := Lib.hid hbw5
    have Hz5 := Lib.hid hz5
    clear hb5 hbw5 hz5 c0 c1 c2 c3 c4 c5 Hh Hsz Hbw4 RR hpw
    go_wp2_with fail
    refine (MA.out w5 (Hv.out.below Hbw5.out (Nat.le_refl _))).mono ?_
    rintro _ w7 ⟨v7, r7, rfl, hrv7, hck, hsz7, hb7, -, hk7⟩
    obtain ⟨fv7, rfl, hf7⟩ := hrv7
    obtain ⟨fa7, fc7, rfl, -, -⟩ := id hf7.slice
    have hz7 := heap_below hb7 Hz5.out
    have hh8 := put_kept hk7 hl5 hz7
    have hbw8 := fin3_below (Hbw5.out.trans (hb7.mono Hbw5.out.size)) (pb := pb) (by have := Hhb.out; omega) (.int .u8 (r7.kind.toNat : Int)) (.int .u8 (r7.level.toNat : Int)) (.slice fa7 r7.fields.length fc7)
    have hsz8 : SizeOk 40000 r7 := SizeOk.mono (made_size hck hsz7) (by omega)
    obtain ⟨d0, d1, d2, d3, d4, d5⟩ := zero_cells hz7
    obtain ⟨W8, hW8⟩ : ∃ W8, fin3 w7 pb (.int .u8 (r7.kind.toNat : Int)) (.int .u8 (r7.level.toNat : Int)) (.slice fa7 r7.fields.length fc7) = W8 := ⟨_, rfl⟩
    rw [hW8] at hh8 hbw8
    unfold fin3 at hW8
    clear hz7 hk7 hb7 hsz7 hf7 MA Hbw5 Hz5 hl5
    obtain ⟨c0, c1, c2, -, -, -⟩ := hh8.cells
    have NW := write_c _ r7 W8 ⟨_, rfl, hh8.2⟩ (by have := hsz8.1; omega) (fun f hf => by have := hsz8.2 f hf; omega)
    unfold WritePost at NW
    have hwr : writeR r7 = writeM r7 := by unfold writeR; rw [if_pos hck]
    have hps := parse_write (check_zero hck)
    have hwl := writeM_len (check_zero hck)
    rw [hwr, hck] at NW
    obtain ⟨X, hX⟩ : ∃ X, writeM r7 = X := ⟨_, rfl⟩
    rw [hX] at NW hps hwl
    have hXl : X.length ≤ 40000 := by have := hsz8.1; omega
    have NW := Lib.hid NW
    have Hh8 := Lib.hid hh8
    have Hbw8 := Lib.hid hbw8
    have Hps := Lib.hid hps
    have HXl := Lib.hid hXl
    clear hh8 hbw8 hps hwl hXl hwr hX hsz8 hck
    go_wp2_with fail
    refine NW.out.mono ?_
    rintro _ w9 ⟨rfl, hb9⟩
    have hh9 := Hh8.out.below hb9
    have hbw9 := Hbw8.out.trans (hb9.mono Hbw8.out.size)
    have hp := Parse_c X (by have := HXl.out; omega) w9 (tabs_below HT.out hbw9)
    rw [Hps.out] at hp
    unfold PV at hp
    have Hpp := Lib.hid hp
    have Hh9 := Lib.hid hh9
    have Hbw9 := Lib.hid hbw9
    clear hp hh9 hbw9 hb9 c0 c1 c2
    go_wp2_with fail
    refine Hpp.out.mono ?_
    rintro _ w10 ⟨gv, rfl, hb10, hgv⟩
    obtain ⟨ga, gc, rfl, -⟩ := hgv.slice
    have hh10 := Hh9.out.below hb10
    have hbw10 := Hbw9.out.trans (hb10.mono Hbw9.out.size)
    obtain ⟨W11, hW11⟩ : ∃ W11, w10.alloc (.cells #[.int .u8 (r7.kind.toNat : Int), .int .u8 (r7.level.toNat : Int), .slice ga r7.fields.length gc] 27) = W11 := ⟨_, rfl⟩
    have hn11 : W11.heap[w10.heap.size]? = some (.cells #[.int .u8 (r7.kind.toNat : Int), .int .u8 (r7.level.toNat : Int), .slice ga r7.fields.length gc] 27 (0, 0)) := by rw [← hW11]; exact new_at _ _
    have hh11 := hh10.below (show Below w10.heap.size w10 W11 by rw [← hW11]; exact below_new _ _)
    have hg11 : FldsAt W11 (.slice ga r7.fields.length gc) r7.fields := by rw [← hW11]; exact hgv.below (below_new _ _) (Nat.le_refl _)
    have hbw11 : Below w.heap.size w W11 := by rw [← hW11]; exact hbw10.alloc hbw10.size _
    obtain ⟨s0, s1, s2, -, -, -⟩ := hh11.cells
    obtain ⟨t0, t1, t2, -, -, -⟩ := zero_cells hn11
    have NS := same_c _ _ r7 r7 W11 ⟨_, rfl, hh11.2⟩ ⟨_, rfl, hg11⟩
    rw [decide_eq_true rfl] at NS
    unfold SP at NS
    have NS := Lib.hid NS
    have Hbw11 := Lib.hid hbw11
    clear hh10 hbw10 hb10 hgv hn11 hh11 hg11 hbw11 Hpp
    go_wp2_with fail
    refine NS.out.mono ?_
    rintro _ w12 ⟨rfl, hb12⟩
    have Hbw12 := Lib.hid (Hbw11.out.trans (hb12.mono Hbw11.out.size))
    clear hb12
    go_wp2
    go_ret
    exact ⟨rfl, Hbw12.out⟩
end Go.Proofs.YtpfnmjcomdckgaaDoor
