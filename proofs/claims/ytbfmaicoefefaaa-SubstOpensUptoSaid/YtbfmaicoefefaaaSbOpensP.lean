/- SubstOpens: of any type, any bindings and any number the law answers true: what is sealed, and opened with types, has those types put in. Of bulk at most 1048576 together. No other condition. -/
import Derived.Test.YtbfmaicoefefaaaSbScr
import Derived.Test.YtbfmaicoefefaaaSbZ
import Derived.Test.YtbfmaicoefefaaaPwRn
import Derived.Test.YtbfmaicoefefaaaEnd
import Derived.Deep.CondSized
import Derived.JoinedCond
set_option linter.unusedSimpArgs false
set_option linter.unusedVariables false
namespace Go.Proofs.Ytbfmaicoefefaaa.opensP
open Go.ChangeShapes Go.WideShapes Go.ChangeAt Go.RowKit Go.Proofs.Ytbfmaicoefefaaa Pv
set_option maxRecDepth 100000
theorem kinds : Kinds Try.prog (fun t => t = 3 ∨ t = 9 ∨ t = 22 ∨ t = 23 ∨ t = 25 ∨ t = 40 ∨ t = 53 ∨ t = 51) where
  ok := by
    rintro t (rfl | rfl | rfl | rfl | rfl | rfl | rfl | rfl)
    · rw [Try.underlying3]; show Try.prog.cellsOf _ = 1; kernel_rfl
    · rw [Try.underlying9]; show Try.prog.cellsOf _ = 1; kernel_rfl
    · rw [Try.underlying22]; exact ⟨by kernel_rfl, by simp, by rw [cellsOf_str]; decide⟩
    · rw [Try.underlying23]; exact ⟨by kernel_rfl, by simp, by rw [cellsOf_ty]; decide⟩
    · rw [Try.underlying25]; exact ⟨by kernel_rfl, by intro f hf; simp at hf; rcases hf with rfl | rfl | rfl | rfl | rfl <;> simp⟩
    · rw [Try.underlying40]; exact ⟨by kernel_rfl, by simp, by rw [cellsOf_bnd]; decide⟩
    · rw [Try.underlying53]; exact ⟨by kernel_rfl, by intro f hf; simp at hf; rcases hf with rfl | rfl <;> simp⟩
    · rw [Try.underlying51]; show Try.prog.cellsOf _ = 1; kernel_rfl
set_option maxRecDepth 100000 in
theorem lifted (os : Os) (started : os.Started) (H : Type) (enc : TypeId × Value → H) (F : Stop.Interp) :
    ReturnsInHanded {} Try.checked os 9 .any ((Rows.OpenSpec.upto Rows.substOpensSpec).pre6 enc Try.prog Try.f9 Rows.substOpensUptoRow.domain false) (((Rows.OpenSpec.upto Rows.substOpensSpec).at F).post enc Try.prog Try.f9 false true false false) := by
  refine returnsInHanded_of_cond (C := Try.checked) (s := Rows.OpenSpec.upto Rows.substOpensSpec) (k := Rows.uptoSmall) rfl own started (by kernel_rfl) Try.func9
    (OpenSpec.witness (enc := enc) (C := Try.checked) (s := Rows.OpenSpec.upto Rows.substOpensSpec) (k := Rows.uptoSmall) rfl false ⟨#[], #[.agg #[.int .i64 0, .int .i64 0, .string ⟨#[]⟩, .slice none 0 0, .slice none 0 0], .slice none 0 0, .int .u16 0], []⟩ 8 (by kernel_rfl) (by kernel_rfl) (by kernel_rfl)
      (x := ([.agg [.lit (.int .i64 0), .lit (.int .i64 0), .lit (.string []), .nil, .nil], .nil, .lit (.int .u16 0)], [], [])) (by kernel_rfl) rfl (by kernel_rfl)) ?_
  intro W base args ds gs before hval0 hW _ hk _
  have hval : ∀ (j : Nat) t v, Try.f9.params[j]? = some t → args[j]? = some v → Value.okWide Try.prog W .any base t v := hval0
  have hW' := hW
  have hend : ∀ W', Below W.heap.size W W' → Rows.substOpensSpec.post enc Try.prog Try.f9 false true false false W args (.bool true) W' := fun W' hb =>
    law_post (bt := 4) laid hW' rfl rfl Try.underlying4 (by rw [show Try.f9.params = _ from Try.params9]; intro t ht; simp at ht; rcases ht with rfl | rfl | rfl <;> exact ⟨by kernel_rfl, of_decide_eq_true (by kernel_rfl)⟩)
      (by rw [show Try.f9.params = _ from Try.params9]; intro l hl; match l, hl with | [_, _, _], _ => rfl) hb
  obtain ⟨p, q, hA0, hV, hpq, _, _⟩ := hW
  have hA : DataW.TrodAll enc Try.prog W 0 (fun _ => true) true Try.f9.params.toList args.toList ds p := hA0
  rw [Try.params9] at hA hval
  obtain ⟨v0, vs0, d0, ds0, p0, q0, hargs, rfl, rfl, h0, r0⟩ := trodAll_cons hA
  obtain ⟨v1, vs1, d1, ds1, p1, q1, rfl, rfl, rfl, h1, r1⟩ := trodAll_cons r0
  obtain ⟨v2, vs2, d2, ds2, p2, q2, rfl, rfl, rfl, h2, r2⟩ := trodAll_cons r1
  obtain ⟨rfl, rfl, rfl⟩ := trodAll_nil r2
  obtain rfl : args = #[v0, v1, v2] := by cases args; simp_all
  have hB : Rows.uptoBulkAll ([d0, d1, d2] ++ gs) ≤ 1048576 := of_decide_eq_true hk
  obtain ⟨n0, x0, g0, k0, b0⟩ := param_hasb kinds (by simp) (hval 0 25 _ rfl rfl) h0
  have b0 := Nat.le_trans b0 (Nat.le_trans (rn_part (H := H) (d := d0) (l := [d0, d1, d2] ++ gs) (by simp)) hB)
  obtain ⟨t, rfl, ho_t, hr_t⟩ := has_tyr _ g0
  have hz_t := Nat.le_trans (tyD_bulk t) b0
  obtain ⟨n1, x1, g1, k1, b1⟩ := param_hasb kinds (by simp) (hval 1 40 _ rfl rfl) h1
  have b1 := Nat.le_trans b1 (Nat.le_trans (rn_part (H := H) (d := d1) (l := [d0, d1, d2] ++ gs) (by simp)) hB)
  obtain ⟨m, rfl, _, hb_m⟩ := has_bnds g1
  have hz_m := bns_bulk b1
  obtain ⟨n2, x2, g2, k2, b2⟩ := param_hasb kinds (by simp) (hval 2 51 _ rfl rfl) h2
  have b2 := Nat.le_trans b2 (Nat.le_trans (rn_part (H := H) (d := d2) (l := [d0, d1, d2] ++ gs) (by simp)) hB)
  obtain ⟨fr, rfl, hi_fr⟩ := g2.int Try.underlying51
  have hi_fr := rn_u16 hi_fr
  refine ((opens_law subP t m fr hi_fr ho_t hr_t hb_m hz_t hz_m).2 (allS W) W [v0, v1, v2] ⟨fun _ _ h => h, by unfold ghost; simp⟩ ⟨_, _, rfl, k0, ⟨_, _, rfl, k1, ⟨_, _, rfl, k2, rfl⟩⟩⟩).mono ?_
  rintro e W' ⟨v, S', d, rfl, rfl, hb, _, _, hv⟩
  simp only [Pv.Rd] at hv
  subst hv
  exact ⟨_, rfl, hend W' hb⟩
theorem holds : Rows.SubstOpensUptoSaid :=
  OpenClaim.holds_of_cond 9 Try.f9 rfl rfl rfl rfl rfl rfl rfl ⟨rfl, rfl, rfl, rfl, rfl⟩ rfl rfl rfl rfl rfl (by kernel_rfl) Try.func9 (by kernel_rfl)
    (of_decide_eq_true (by kernel_rfl)) (by unfold Func.isWrapper; first | (rw [if_pos (by decide +kernel)]; kernel_rfl) | (rw [if_neg (by decide +kernel)]; exact ⟨rfl, rfl⟩))
    (fun os started H enc _ F => lifted os started H enc F)
end Go.Proofs.Ytbfmaicoefefaaa.opensP
