/- TySame: of any two types the law answers true: the program says the same of them as the document does, each is the same as itself, and both ways round the answer is one. No condition. -/
import Derived.Test.YtbfmaicoefefaaaTySl
import Derived.Test.YtbfmaicoefefaaaPvA
import Derived.Test.YtbfmaicoefefaaaEnd
set_option linter.unusedSimpArgs false
set_option linter.unusedVariables false
namespace Go.Proofs.Ytbfmaicoefefaaa.sameP
open Go.ChangeShapes Go.WideShapes Go.ChangeAt Go.RowKit Go.Proofs.Ytbfmaicoefefaaa
set_option maxRecDepth 100000
theorem kinds : TyKinds Try.prog 25 where
  under := ⟨_, _, _, _, _, Try.underlying25, by kernel_rfl, by kernel_rfl, by kernel_rfl, by kernel_rfl, ⟨9, by kernel_rfl, by kernel_rfl, by kernel_rfl⟩, by kernel_rfl⟩
  cells := by kernel_rfl
set_option maxRecDepth 100000 in
theorem lifted (os : Os) (started : os.Started) (H : Type) (enc : TypeId × Value → H) :
    ReturnsInHanded {} Try.checked os 4 .any (Rows.tySameSpec.pre6 enc Try.prog Try.f4 Rows.tySameRow.domain false) (Rows.tySameSpec.post enc Try.prog Try.f4 false true false false) := by
  refine returnsInHanded_of_change_sized (C := Try.checked) own started (by kernel_rfl) Try.func4
    (ChangeSpec.witness6 (enc := enc) (C := Try.checked) false ⟨#[], #[.agg #[.int .i64 0, .int .i64 0, .string ⟨#[]⟩, .slice none 0 0, .slice none 0 0], .agg #[.int .i64 0, .int .i64 0, .string ⟨#[]⟩, .slice none 0 0, .slice none 0 0]], []⟩ 8 (by kernel_rfl) (by kernel_rfl) (by kernel_rfl) (by kernel_rfl)) ?_
  intro W base args ds gs before hval0 hW _ _ _
  have hval : ∀ (j : Nat) t v, Try.f4.params[j]? = some t → args[j]? = some v → Value.okWide Try.prog W .any base t v := hval0
  have hW' := hW
  have hend : ∀ W', Below W.heap.size W W' → Rows.tySameSpec.post enc Try.prog Try.f4 false true false false W args (.bool true) W' := fun W' hb =>
    law_post (bt := 4) laid hW' rfl rfl Try.underlying4 (by rw [show Try.f4.params = _ from Try.params4]; intro t ht; simp at ht; rcases ht with rfl | rfl <;> exact ⟨by kernel_rfl, of_decide_eq_true (by kernel_rfl)⟩)
      (by rw [show Try.f4.params = _ from Try.params4]; intro l hl; match l, hl with | [_, _], _ => rfl) hb
  obtain ⟨p, q, hA0, hV, hpq, _, _⟩ := hW
  have hA : DataW.TrodAll enc Try.prog W 0 (fun _ => true) true Try.f4.params.toList args.toList ds p := hA0
  rw [Try.params4] at hA hval
  have hlt : ∀ x, x ∈ p → x.block < W.heap.size := fun x hx => hW'.lt x (by rw [hpq]; exact List.mem_append.2 (.inl hx))
  obtain ⟨v0, vs0, d0, ds0, p0, q0, hargs, rfl, rfl, h0, r0⟩ := trodAll_cons hA
  obtain ⟨v1, vs1, d1, ds1, p1, q1, rfl, rfl, rfl, h1, r1⟩ := trodAll_cons r0
  obtain ⟨rfl, rfl, rfl⟩ := trodAll_nil r1
  obtain rfl : args = #[v0, v1] := by cases args; simp_all
  obtain ⟨a0, a1, a2, a3, a4, t, rfl, hT, _⟩ := ty_param kinds (hval 0 25 v0 rfl rfl) h0
  obtain ⟨b0, b1, b2, b3, b4, t', rfl, hU, _⟩ := ty_param kinds (hval 1 25 v1 rfl rfl) h1
  exact (same_law awake_any t t' _ _ _ _ _ _ _ _ _ _ W hT hU).mono fun e W' ⟨he, hb⟩ => ⟨_, he, hend W' hb⟩

theorem holds : Rows.TySameSaid :=
  OpenClaim.holds_of_wide 4 Try.f4 rfl rfl rfl rfl rfl rfl rfl ⟨rfl, rfl, rfl, rfl, rfl⟩ rfl rfl rfl rfl rfl (by kernel_rfl) Try.func4 (by kernel_rfl)
    (of_decide_eq_true (by kernel_rfl)) (by unfold Func.isWrapper; first | (rw [if_pos (by decide +kernel)]; kernel_rfl) | (rw [if_neg (by decide +kernel)]; exact ⟨rfl, rfl⟩))
    (fun os started H enc _ => lifted os started H enc)
end Go.Proofs.Ytbfmaicoefefaaa.sameP
