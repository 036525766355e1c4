/- TyMakes: of any texts, any types, any type and any label the law answers true: both records are the same, both fields are, and both functions. No condition. -/
import Derived.Test.YtclhomkgphdagaaPwMk
import Derived.Test.YtclhomkgphdagaaEnd
namespace Go.Proofs.Ytclhomkgphdagaa.makesP
open Go.ChangeShapes Go.WideShapes Go.ChangeAt Go.RowKit Go.Proofs.Ytclhomkgphdagaa
open Pv
theorem kinds : Kinds Try.prog (fun t => t = 3 ∨ t = 9 ∨ t = 22 ∨ t = 23 ∨ t = 25) where
  ok := by
    rintro t (rfl | rfl | rfl | rfl | rfl)
    · rw [Try.underlying3]; show Try.prog.cellsOf _ = 1; kernel_rfl
    · rw [Try.underlying9]; show Try.prog.cellsOf _ = 1; kernel_rfl
    · rw [Try.underlying22]; exact ⟨by kernel_rfl, by simp, by rw [cellsOf_str]; decide⟩
    · rw [Try.underlying23]; exact ⟨by kernel_rfl, by simp, by rw [cellsOf_ty]; decide⟩
    · rw [Try.underlying25]; exact ⟨by kernel_rfl, by intro f hf; simp at hf; rcases hf with rfl | rfl | rfl | rfl | rfl <;> simp⟩
set_option maxRecDepth 100000 in
theorem lifted (os : Os) (started : os.Started) (H : Type) (enc : TypeId × Value → H) :
    ReturnsInHanded {} Try.checked os 5 .any (Rows.tyMakesSpec.pre6 enc Try.prog Try.f5 Rows.tyMakesRow.domain false) (Rows.tyMakesSpec.post enc Try.prog Try.f5 false true false false) := by
  refine returnsInHanded_of_change_sized (C := Try.checked) own started (by kernel_rfl) Try.func5
    (ChangeSpec.witness6 (enc := enc) (C := Try.checked) false ⟨#[], #[.slice none 0 0, .slice none 0 0, .agg #[.int .i64 0, .int .i64 0, .string ⟨#[]⟩, .slice none 0 0, .slice none 0 0], .string ⟨#[]⟩], []⟩ 8 (by kernel_rfl) (by kernel_rfl) (by kernel_rfl) (by kernel_rfl)) ?_
  intro W base args ds gs before hval0 hW _ _ _
  have hval : ∀ (j : Nat) t v, Try.f5.params[j]? = some t → args[j]? = some v → Value.okWide Try.prog W .any base t v := hval0
  have hW' := hW
  have hend : ∀ W', Below W.heap.size W W' → Rows.tyMakesSpec.post enc Try.prog Try.f5 false true false false W args (.bool true) W' := fun W' hb =>
    law_post (bt := 4) laid hW' rfl rfl Try.underlying4 (by rw [show Try.f5.params = _ from Try.params5]; intro t ht; simp at ht; rcases ht with rfl | rfl | rfl | rfl <;> exact ⟨by kernel_rfl, of_decide_eq_true (by kernel_rfl)⟩)
      (by rw [show Try.f5.params = _ from Try.params5]; intro l hl; match l, hl with | [_, _, _, _], _ => rfl) hb
  obtain ⟨p, q, hA0, hV, hpq, _, _⟩ := hW
  have hA : DataW.TrodAll enc Try.prog W 0 (fun _ => true) true Try.f5.params.toList args.toList ds p := hA0
  rw [Try.params5] at hA hval
  have hlt : ∀ x, x ∈ p → x.block < W.heap.size := fun x hx => hW'.lt x (by rw [hpq]; exact List.mem_append.2 (.inl hx))
  obtain ⟨v0, vs0, d0, ds0, p0, q0, hargs, rfl, rfl, h0, r0⟩ := trodAll_cons hA
  obtain ⟨v1, vs1, d1, ds1, p1, q1, hargs1, rfl, rfl, h1, r1⟩ := trodAll_cons r0
  obtain ⟨v2, vs2, d2, ds2, p2, q2, hargs2, rfl, rfl, h2, r2⟩ := trodAll_cons r1
  obtain ⟨v3, vs3, d3, ds3, p3, q3, hargs3, rfl, rfl, h3, r3⟩ := trodAll_cons r2
  obtain ⟨rfl, rfl, rfl⟩ := trodAll_nil r3
  obtain rfl : args = #[v0, v1, v2, v3] := by cases args; simp_all
  obtain ⟨n0, x0, g0, k0⟩ := param_has kinds (by simp) (hval 0 22 v0 rfl rfl) h0
  obtain ⟨n1, x1, g1, k1⟩ := param_has kinds (by simp) (hval 1 23 v1 rfl rfl) h1
  obtain ⟨n2, x2, g2, k2⟩ := param_has kinds (by simp) (hval 2 25 v2 rfl rfl) h2
  obtain ⟨n3, x3, g3, k3⟩ := param_has kinds (by simp) (hval 3 9 v3 rfl rfl) h3
  obtain ⟨ss, rfl, _, hss⟩ := has_strs g0
  obtain ⟨ks, rfl, hks, _⟩ := has_tys g1
  obtain ⟨t, rfl, ht⟩ := has_ty _ g2
  obtain ⟨s, rfl, _⟩ := g3.str Try.underlying9
  refine ((makes_cp ss ks t s hss hks ht).2 (allS W) W [v0, v1, v2, v3] (fun _ _ h => h) ⟨_, _, rfl, k0, _, _, rfl, k1, _, _, rfl, k2, _, _, rfl, k3, rfl⟩).mono ?_
  rintro e W' ⟨v, S', d, rfl, rfl, hb, _, _, hv⟩
  simp only [Pv.Rd] at hv
  subst hv
  exact ⟨_, rfl, hend W' hb⟩

theorem holds : Rows.TyMakesSaid :=
  OpenClaim.holds_of_wide 5 Try.f5 rfl rfl rfl rfl rfl rfl rfl ⟨rfl, rfl, rfl, rfl, rfl⟩ rfl rfl rfl rfl rfl (by kernel_rfl) Try.func5 (by kernel_rfl)
    (of_decide_eq_true (by kernel_rfl)) (by unfold Func.isWrapper; first | (rw [if_pos (by decide +kernel)]; kernel_rfl) | (rw [if_neg (by decide +kernel)]; exact ⟨rfl, rfl⟩))
    (fun os started H enc _ => lifted os started H enc)
end Go.Proofs.Ytclhomkgphdagaa.makesP
