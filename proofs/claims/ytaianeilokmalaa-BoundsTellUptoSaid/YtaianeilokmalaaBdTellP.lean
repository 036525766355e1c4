/- BoundsTell: of any bindings, any text and any type the law answers true: whether the bindings are right bounds, what is found, what is up, their names, and whether they bind all variables, the program and the document say alike. Of bulk at most 1048576 together. No other condition. -/
import Derived.Test.YtaianeilokmalaaBdZ
import Derived.Test.YtaianeilokmalaaPwRn
import Derived.Test.YtaianeilokmalaaEnd
import Derived.Deep.CondSized
import Derived.JoinedCond
namespace Go.Proofs.Ytaianeilokmalaa.bdTellP
open Go.ChangeShapes Go.WideShapes Go.ChangeAt Go.RowKit Go.Proofs.Ytaianeilokmalaa Pv
theorem kinds : Kinds Try.prog (fun t => t = 3 ∨ t = 9 ∨ t = 23 ∨ t = 24 ∨ t = 26 ∨ t = 22 ∨ t = 41) where
  ok := by
    rintro t (rfl | rfl | rfl | rfl | rfl | rfl | rfl)
    · rw [Try.underlying3]; show Try.prog.cellsOf _ = 1; kernel_rfl
    · rw [Try.underlying9]; show Try.prog.cellsOf _ = 1; kernel_rfl
    · rw [Try.underlying23]; exact ⟨by kernel_rfl, by simp, by rw [cellsOf_str]; decide⟩
    · rw [Try.underlying24]; exact ⟨by kernel_rfl, by simp, by rw [cellsOf_ty]; decide⟩
    · rw [Try.underlying26]; exact ⟨by kernel_rfl, by intro f hf; simp at hf; rcases hf with rfl | rfl | rfl | rfl | rfl <;> simp⟩
    · rw [Try.underlying22]; exact ⟨by kernel_rfl, by simp, by rw [cellsOf_bnd]; decide⟩
    · rw [Try.underlying41]; exact ⟨by kernel_rfl, by intro f hf; simp at hf; rcases hf with rfl | rfl <;> simp⟩
set_option maxRecDepth 100000 in
theorem lifted (os : Os) (started : os.Started) (H : Type) (enc : TypeId × Value → H) (F : Stop.Interp) :
    ReturnsInHanded {} Try.checked os 3 .any ((Rows.OpenSpec.upto Rows.boundsTellSpec).pre6 enc Try.prog Try.f3 Rows.boundsTellUptoRow.domain false) (((Rows.OpenSpec.upto Rows.boundsTellSpec).at F).post enc Try.prog Try.f3 false true false false) := by
  refine returnsInHanded_of_cond (C := Try.checked) (s := Rows.OpenSpec.upto Rows.boundsTellSpec) (k := Rows.uptoSmall) rfl own started (by kernel_rfl) Try.func3
    (OpenSpec.witness (enc := enc) (C := Try.checked) (s := Rows.OpenSpec.upto Rows.boundsTellSpec) (k := Rows.uptoSmall) rfl false ⟨#[], #[.slice none 0 0, .string ⟨#[]⟩, .agg #[.int .i64 0, .int .i64 0, .string ⟨#[]⟩, .slice none 0 0, .slice none 0 0]], []⟩ 8 (by kernel_rfl) (by kernel_rfl) (by kernel_rfl)
      (x := ([.nil, .lit (.string []), .agg [.lit (.int .i64 0), .lit (.int .i64 0), .lit (.string []), .nil, .nil]], [], [])) (by kernel_rfl) rfl (by kernel_rfl)) ?_
  intro W base args ds gs before hval0 hW _ hk _
  have hval : ∀ (j : Nat) t v, Try.f3.params[j]? = some t → args[j]? = some v → Value.okWide Try.prog W .any base t v := hval0
  have hW' := hW
  have hend : ∀ W', Below W.heap.size W W' → Rows.boundsTellSpec.post enc Try.prog Try.f3 false true false false W args (.bool true) W' := fun W' hb =>
    law_post (bt := 4) laid hW' rfl rfl Try.underlying4 (by rw [show Try.f3.params = _ from Try.params3]; intro t ht; simp at ht; rcases ht with rfl | rfl | rfl <;> exact ⟨by kernel_rfl, of_decide_eq_true (by kernel_rfl)⟩)
      (by rw [show Try.f3.params = _ from Try.params3]; intro l hl; match l, hl with | [_, _, _], _ => rfl) hb
  obtain ⟨p, q, hA0, hV, hpq, _, _⟩ := hW
  have hA : DataW.TrodAll enc Try.prog W 0 (fun _ => true) true Try.f3.params.toList args.toList ds p := hA0
  rw [Try.params3] at hA hval
  obtain ⟨v0, vs0, d0, ds0, p0, q0, hargs, rfl, rfl, h0, r0⟩ := trodAll_cons hA
  obtain ⟨v1, vs1, d1, ds1, p1, q1, rfl, rfl, rfl, h1, r1⟩ := trodAll_cons r0
  obtain ⟨v2, vs2, d2, ds2, p2, q2, rfl, rfl, rfl, h2, r2⟩ := trodAll_cons r1
  obtain ⟨rfl, rfl, rfl⟩ := trodAll_nil r2
  obtain rfl : args = #[v0, v1, v2] := by cases args; simp_all
  have hB : Rows.uptoBulkAll ([d0, d1, d2] ++ gs) ≤ 1048576 := of_decide_eq_true hk
  obtain ⟨n0, x0, g0, k0, b0⟩ := param_hasb kinds (by simp) (hval 0 22 _ rfl rfl) h0
  have b0 := Nat.le_trans b0 (Nat.le_trans (rn_part (H := H) (d := d0) (l := [d0, d1, d2] ++ gs) (by simp)) hB)
  obtain ⟨m, rfl, _, hb_m⟩ := has_bnds g0
  have hz_m := bns_bulk b0
  obtain ⟨n1, x1, g1, k1, b1⟩ := param_hasb kinds (by simp) (hval 1 9 _ rfl rfl) h1
  have b1 := Nat.le_trans b1 (Nat.le_trans (rn_part (H := H) (d := d1) (l := [d0, d1, d2] ++ gs) (by simp)) hB)
  obtain ⟨s, rfl, _⟩ := g1.str Try.underlying9
  have hl_s : s.size ≤ 1048576 := Nat.le_of_succ_le b1
  obtain ⟨n2, x2, g2, k2, b2⟩ := param_hasb kinds (by simp) (hval 2 26 _ rfl rfl) h2
  have b2 := Nat.le_trans b2 (Nat.le_trans (rn_part (H := H) (d := d2) (l := [d0, d1, d2] ++ gs) (by simp)) hB)
  obtain ⟨t, rfl, ho_t, hr_t⟩ := has_tyr _ g2
  have hz_t := Nat.le_trans (tyD_bulk t) b2
  refine ((tell9_law m s t hb_m hl_s ho_t hz_m hz_t).2 (allS W) W [v0, v1, v2] ⟨fun _ _ h => h, by unfold ghost; simp⟩ ⟨_, _, rfl, k0, ⟨_, _, rfl, k1, ⟨_, _, rfl, k2, rfl⟩⟩⟩).mono ?_
  rintro e W' ⟨v, S', d, rfl, rfl, hb, _, _, hv⟩
  simp only [Pv.Rd] at hv
  subst hv
  exact ⟨_, rfl, hend W' hb⟩
theorem holds : Rows.BoundsTellUptoSaid :=
  OpenClaim.holds_of_cond 3 Try.f3 rfl rfl rfl rfl rfl rfl rfl ⟨rfl, rfl, rfl, rfl, rfl⟩ rfl rfl rfl rfl rfl (by kernel_rfl) Try.func3 (by kernel_rfl)
    (of_decide_eq_true (by kernel_rfl)) (by unfold Func.isWrapper; first | (rw [if_pos (by decide +kernel)]; kernel_rfl) | (rw [if_neg (by decide +kernel)]; exact ⟨rfl, rfl⟩))
    (fun os started H enc _ F => lifted os started H enc F)
end Go.Proofs.Ytaianeilokmalaa.bdTellP
