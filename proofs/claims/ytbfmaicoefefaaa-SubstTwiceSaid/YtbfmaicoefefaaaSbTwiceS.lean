/- SubstTwice: of any type and any bindings the law answers true: bindings put in, and then others, are bindings put in once, into whose types the others were put. No condition. -/
import Derived.Test.YtbfmaicoefefaaaSbJw
import Derived.Test.YtbfmaicoefefaaaPwRn
import Derived.Test.YtbfmaicoefefaaaEnd
import Derived.Deep.CondSized
set_option linter.unusedSimpArgs false
set_option linter.unusedVariables false
namespace Go.Proofs.Ytbfmaicoefefaaa.sbTwiceS
open Go.ChangeShapes Go.WideShapes Go.ChangeAt Go.RowKit Go.Proofs.Ytbfmaicoefefaaa Pv
set_option maxRecDepth 100000
theorem kinds : Kinds Try.prog (fun t => t = 3 ∨ t = 9 ∨ t = 22 ∨ t = 23 ∨ t = 25 ∨ t = 40 ∨ t = 53) where
  ok := by
    rintro t (rfl | rfl | rfl | rfl | rfl | rfl | rfl)
    · rw [Try.underlying3]; show Try.prog.cellsOf _ = 1; kernel_rfl
    · rw [Try.underlying9]; show Try.prog.cellsOf _ = 1; kernel_rfl
    · rw [Try.underlying22]; exact ⟨by kernel_rfl, by simp, by rw [cellsOf_str]; decide⟩
    · rw [Try.underlying23]; exact ⟨by kernel_rfl, by simp, by rw [cellsOf_ty]; decide⟩
    · rw [Try.underlying25]; exact ⟨by kernel_rfl, by intro f hf; simp at hf; rcases hf with rfl | rfl | rfl | rfl | rfl <;> simp⟩
    · rw [Try.underlying40]; exact ⟨by kernel_rfl, by simp, by rw [cellsOf_bnd]; decide⟩
    · rw [Try.underlying53]; exact ⟨by kernel_rfl, by intro f hf; simp at hf; rcases hf with rfl | rfl <;> simp⟩
set_option maxRecDepth 100000 in
theorem lifted (os : Os) (started : os.Started) (H : Type) (enc : TypeId × Value → H) :
    ReturnsInHanded {} Try.checked os 10 .any (Rows.substTwiceSpec.pre6 enc Try.prog Try.f10 Rows.substTwiceRow.domain false) (Rows.substTwiceSpec.post enc Try.prog Try.f10 false true false false) := by
  refine returnsInHanded_of_change_sized (C := Try.checked) own started (by kernel_rfl) Try.func10
    (ChangeSpec.witness6 (enc := enc) (C := Try.checked) false ⟨#[], #[.agg #[.int .i64 0, .int .i64 0, .string ⟨#[]⟩, .slice none 0 0, .slice none 0 0], .slice none 0 0, .slice none 0 0], []⟩ 8 (by kernel_rfl) (by kernel_rfl) (by kernel_rfl) (by kernel_rfl)) ?_
  intro W base args ds gs before hval0 hW _ _ _
  have hval : ∀ (j : Nat) t v, Try.f10.params[j]? = some t → args[j]? = some v → Value.okWide Try.prog W .any base t v := hval0
  have hW' := hW
  have hend : ∀ W', Below W.heap.size W W' → Rows.substTwiceSpec.post enc Try.prog Try.f10 false true false false W args (.bool true) W' := fun W' hb =>
    law_post (bt := 4) laid hW' rfl rfl Try.underlying4 (by rw [show Try.f10.params = _ from Try.params10]; intro t ht; simp at ht; rcases ht with rfl | rfl | rfl <;> exact ⟨by kernel_rfl, of_decide_eq_true (by kernel_rfl)⟩)
      (by rw [show Try.f10.params = _ from Try.params10]; intro l hl; match l, hl with | [_, _, _], _ => rfl) hb
  obtain ⟨p, q, hA0, hV, hpq, _, _⟩ := hW
  have hA : DataW.TrodAll enc Try.prog W 0 (fun _ => true) true Try.f10.params.toList args.toList ds p := hA0
  rw [Try.params10] at hA hval
  have hlt : ∀ x, x ∈ p → x.block < W.heap.size := fun x hx => hW'.lt x (by rw [hpq]; exact List.mem_append.2 (.inl hx))
  obtain ⟨v0, vs0, d0, ds0, p0, q0, hargs, rfl, rfl, h0, r0⟩ := trodAll_cons hA
  obtain ⟨v1, vs1, d1, ds1, p1, q1, rfl, rfl, rfl, h1, r1⟩ := trodAll_cons r0
  obtain ⟨v2, vs2, d2, ds2, p2, q2, rfl, rfl, rfl, h2, r2⟩ := trodAll_cons r1
  obtain ⟨rfl, rfl, rfl⟩ := trodAll_nil r2
  obtain rfl : args = #[v0, v1, v2] := by cases args; simp_all
  obtain ⟨n0, x0, g0, k0⟩ := param_has kinds (by simp) (hval 0 25 v0 rfl rfl) h0
  obtain ⟨n1, x1, g1, k1⟩ := param_has kinds (by simp) (hval 1 40 v1 rfl rfl) h1
  obtain ⟨n2, x2, g2, k2⟩ := param_has kinds (by simp) (hval 2 40 v2 rfl rfl) h2
  obtain ⟨t, rfl, ho_t⟩ := has_ty _ g0
  obtain ⟨m, rfl, _, hb_m⟩ := has_bnds g1
  obtain ⟨n, rfl, _, hb_n⟩ := has_bnds g2
  refine ((twicew_law t m n ho_t hb_m hb_n).2 (allS W) W [v0, v1, v2] ⟨fun _ _ h => h, by unfold ghost; simp⟩ ⟨_, _, rfl, k0, ⟨_, _, rfl, k1, ⟨_, _, rfl, k2, rfl⟩⟩⟩).mono ?_
  rintro e W' ⟨v, S', d, rfl, rfl, hb, _, _, hv⟩
  simp only [Pv.Rd] at hv
  subst hv
  exact ⟨_, rfl, hend W' hb⟩
theorem holds : Rows.SubstTwiceSaid :=
  OpenClaim.holds_of_wide 10 Try.f10 rfl rfl rfl rfl rfl rfl rfl ⟨rfl, rfl, rfl, rfl, rfl⟩ rfl rfl rfl rfl rfl (by kernel_rfl) Try.func10 (by kernel_rfl)
    (of_decide_eq_true (by kernel_rfl)) (by unfold Func.isWrapper; first | (rw [if_pos (by decide +kernel)]; kernel_rfl) | (rw [if_neg (by decide +kernel)]; exact ⟨rfl, rfl⟩))
    (fun os started H enc _ => lifted os started H enc)
end Go.Proofs.Ytbfmaicoefefaaa.sbTwiceS
