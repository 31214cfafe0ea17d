/-
  SchemaRaw: for every input the law returns true, and each argument reads behind the call as it read before. Conditions: none beside the row's own.
-/
import Derived.Test.YtfccpepmjklodaaRows
import Derived.Test.YtfccpepmjklodaaSOpen
import Derived.Test.YtfccpepmjklodaaWSchemaRaw
import Derived.ProofKit
import Derived.OpenShut
import Derived.ShutString
import Derived.ChangeOld
import Derived.SliceStrings
import Derived.WideKeyPair
import Derived.SizedLaws
namespace Go.Proofs.Ytfccpepmjklodaa.schemaRaw
open Go.ChangeShapes Go.WideShapes Go.ChangeAt Go.RowKit
set_option linter.unusedVariables false

theorem own : ownKnob Try.prog.godebug = none := by kernel_rfl
theorem laidOut : laidOutB Try.prog = true := by kernel_rfl

set_option maxRecDepth 100000 in
theorem lifted (os : Os) (started : os.Started) (H : Type) (enc : TypeId × Value → H) :
    ReturnsInHanded {} Try.checked os 6 .any (Rows.schemaRawSpec.pre6 enc Try.prog Try.f6 Rows.schemaRawRow.domain false) (Rows.schemaRawSpec.post enc Try.prog Try.f6 false true false false) := by
  refine returnsInHanded_of_change_sized (C := Try.checked) own started (by kernel_rfl) Try.func6
    (ChangeSpec.witness6 (enc := enc) (C := Try.checked) false ⟨#[], #[.agg #[.string ByteArray.empty, .string ByteArray.empty, .string ByteArray.empty, .string ByteArray.empty, .string ByteArray.empty], .agg #[.string ByteArray.empty, .string ByteArray.empty, .string ByteArray.empty, .string ByteArray.empty], .agg #[.string ByteArray.empty, .string ByteArray.empty, .string ByteArray.empty, .string ByteArray.empty]], []⟩ 8 (by kernel_rfl) (by kernel_rfl) (by kernel_rfl) (by kernel_rfl)) ?_
  intro W base args ds gs before hval0 hW hcnd hsize0 _
  have hval : ∀ (j : Nat) t v, Try.f6.params[j]? = some t → args[j]? = some v → Value.okWide Try.prog W .any base t v := hval0
  have hsize : (DataW.weightsEach Try.prog (Try.f6.params.toList ++ Rows.schemaRawSpec.plain.varTypes Try.prog) (ds ++ gs)).all (· ≤ reachBytes) = true := hsize0
  have hW' := hW
  obtain ⟨p, q, hA0, hV, rfl, hfz, hnd⟩ := hW
  have hA : DataW.TrodAll enc Try.prog W 0 (fun _ => true) true Try.f6.params.toList args.toList ds p := hA0
  rw [Try.params6] at hA hval hsize
  obtain ⟨v0, vs0, d0, ds0, p0, q0, hargs, rfl, rfl, h0, r0⟩ := trodAll_cons hA
  obtain ⟨v1, vs1, d1, ds1, p1, q1, rfl, rfl, rfl, h1, r1⟩ := trodAll_cons r0
  obtain ⟨v2, vs2, d2, ds2, p2, q2, rfl, rfl, rfl, h2, r2⟩ := trodAll_cons r1
  obtain ⟨rfl, rfl, rfl⟩ := trodAll_nil r2
  obtain rfl : args = #[v0, v1, v2] := by cases args; simp_all
  obtain ⟨rfl, rfl⟩ := trodVars_none hV
  have k0 := h0
  have lt0 : ∀ x ∈ p0, x.block < W.heap.size := by obtain ⟨m, hm⟩ := k0; exact DataW.trod_lt m _ _ _ hm
  obtain ⟨x0_0, x0_1, x0_2, x0_3, x0_4, rfl, rfl⟩ := open_s5 Try.underlying42 Try.underlying9 (by kernel_rfl) (by kernel_rfl) (hval 0 42 v0 rfl rfl) h0
  have bx0_0 : x0_0.length ≤ 140737488351232 := sized_agg hsize (j := 0) (t := 42) (bytes := x0_0) rfl rfl Try.underlying42 (by simp)
  have bx0_1 : x0_1.length ≤ 140737488351232 := sized_agg hsize (j := 0) (t := 42) (bytes := x0_1) rfl rfl Try.underlying42 (by simp)
  have bx0_2 : x0_2.length ≤ 140737488351232 := sized_agg hsize (j := 0) (t := 42) (bytes := x0_2) rfl rfl Try.underlying42 (by simp)
  have bx0_3 : x0_3.length ≤ 140737488351232 := sized_agg hsize (j := 0) (t := 42) (bytes := x0_3) rfl rfl Try.underlying42 (by simp)
  have bx0_4 : x0_4.length ≤ 140737488351232 := sized_agg hsize (j := 0) (t := 42) (bytes := x0_4) rfl rfl Try.underlying42 (by simp)
  have k1 := h1
  have lt1 : ∀ x ∈ p1, x.block < W.heap.size := by obtain ⟨m, hm⟩ := k1; exact DataW.trod_lt m _ _ _ hm
  obtain ⟨x1_0, x1_1, x1_2, x1_3, rfl, rfl⟩ := open_s4 Try.underlying43 Try.underlying9 (by kernel_rfl) (by kernel_rfl) (hval 1 43 v1 rfl rfl) h1
  have bx1_0 : x1_0.length ≤ 140737488351232 := sized_agg hsize (j := 1) (t := 43) (bytes := x1_0) rfl rfl Try.underlying43 (by simp)
  have bx1_1 : x1_1.length ≤ 140737488351232 := sized_agg hsize (j := 1) (t := 43) (bytes := x1_1) rfl rfl Try.underlying43 (by simp)
  have bx1_2 : x1_2.length ≤ 140737488351232 := sized_agg hsize (j := 1) (t := 43) (bytes := x1_2) rfl rfl Try.underlying43 (by simp)
  have bx1_3 : x1_3.length ≤ 140737488351232 := sized_agg hsize (j := 1) (t := 43) (bytes := x1_3) rfl rfl Try.underlying43 (by simp)
  have k2 := h2
  have lt2 : ∀ x ∈ p2, x.block < W.heap.size := by obtain ⟨m, hm⟩ := k2; exact DataW.trod_lt m _ _ _ hm
  obtain ⟨x2_0, x2_1, x2_2, x2_3, rfl, rfl⟩ := open_s4 Try.underlying43 Try.underlying9 (by kernel_rfl) (by kernel_rfl) (hval 2 43 v2 rfl rfl) h2
  have bx2_0 : x2_0.length ≤ 140737488351232 := sized_agg hsize (j := 2) (t := 43) (bytes := x2_0) rfl rfl Try.underlying43 (by simp)
  have bx2_1 : x2_1.length ≤ 140737488351232 := sized_agg hsize (j := 2) (t := 43) (bytes := x2_1) rfl rfl Try.underlying43 (by simp)
  have bx2_2 : x2_2.length ≤ 140737488351232 := sized_agg hsize (j := 2) (t := 43) (bytes := x2_2) rfl rfl Try.underlying43 (by simp)
  have bx2_3 : x2_3.length ≤ 140737488351232 := sized_agg hsize (j := 2) (t := 43) (bytes := x2_3) rfl rfl Try.underlying43 (by simp)
  clear hA0 hval0 hsize hsize0
  refine (walk_SchemaRaw x0_0 x0_1 x0_2 x0_3 x0_4 x1_0 x1_1 x1_2 x1_3 x2_0 x2_1 x2_2 x2_3 bx0_0 bx0_1 bx0_2 bx0_3 bx0_4 bx1_0 bx1_1 bx1_2 bx1_3 bx2_0 bx2_1 bx2_2 bx2_3 W).mono fun e W' ⟨he, bel⟩ => ?_
  subst he
  exact ⟨_, rfl, _, _, _, [], _, [], hW', trodAll_mk1 (shut_bool Try.underlying4 _), (trodAll_cons_mk (Below.trod laidOut (by kernel_rfl) (of_decide_eq_true (by kernel_rfl)) k0 bel lt0) (trodAll_cons_mk (Below.trod laidOut (by kernel_rfl) (of_decide_eq_true (by kernel_rfl)) k1 bel lt1) (trodAll_cons_mk (Below.trod laidOut (by kernel_rfl) (of_decide_eq_true (by kernel_rfl)) k2 bel lt2) trodAll_mk0))), rfl, bel.frame _, fun h => by cases h⟩

theorem proved : Rows.SchemaRawSaid :=
  OpenClaim.holds_of_wide 6 Try.f6 rfl rfl rfl rfl rfl rfl rfl ⟨rfl, rfl, rfl, rfl, rfl⟩ rfl rfl rfl rfl rfl (by kernel_rfl) Try.func6 (by kernel_rfl)
    (of_decide_eq_true (by kernel_rfl)) (by unfold Func.isWrapper; first | (rw [if_pos (by decide +kernel)]; kernel_rfl) | (rw [if_neg (by decide +kernel)]; exact ⟨rfl, rfl⟩))
    (fun os started H enc _ => lifted os started H enc)
#print axioms proved
end Go.Proofs.Ytfccpepmjklodaa.schemaRaw
