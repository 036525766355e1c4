/- ExpParts: of any expression the law answers true: of a right one each of its expressions is right, and has no more nodes; there are as many as are counted; their own nodes make all of its nodes. Of bulk at most 1048576. No other condition. -/
import Derived.Deep.CondSized
import Derived.JoinedCond
import Derived.Test.YtglefhgcfijiaaaGBf
import Derived.Test.YtglefhgcfijiaaaGAf
set_option linter.unusedSimpArgs false
set_option linter.unusedVariables false
set_option maxRecDepth 1000000
set_option maxHeartbeats 40000000
namespace Go.Proofs.Ytglefhgcfijiaaa.epPartsP
open Go.ChangeShapes Go.WideShapes Go.ChangeAt Go.RowKit Go.Proofs.Ytglefhgcfijiaaa Pv
theorem kinds : Kinds Try.prog (fun t => t = 3 ∨ t = 9 ∨ t = 4 ∨ t = 23 ∨ t = 22 ∨ t = 38 ∨ t = 24 ∨ t = 26) where
 ok := by
  rintro t (rfl | rfl | rfl | rfl | rfl | rfl | rfl | rfl)
  ·rw [Try.underlying3];show Try.prog.cellsOf _ = 1;kernel_rfl
  ·rw [Try.underlying9];show Try.prog.cellsOf _ = 1;kernel_rfl
  ·rw [Try.underlying4];show Try.prog.cellsOf _ = 1;kernel_rfl
  ·rw [Try.underlying23];exact ⟨by kernel_rfl,by simp,by rw [cellsOf_str];decide⟩
  ·rw [Try.underlying22];exact ⟨by kernel_rfl,by simp,by rw [cellsOf_ty];decide⟩
  ·rw [Try.underlying38];exact ⟨by kernel_rfl,by intro f hf;simp at hf;rcases hf with rfl | rfl | rfl | rfl | rfl <;> simp⟩
  ·rw [Try.underlying24];exact ⟨by kernel_rfl,by simp,by rw [cellsOf_exp];decide⟩
  ·rw [Try.underlying26];exact ⟨by kernel_rfl,by intro f hf;simp at hf;rcases hf with rfl | rfl | rfl | rfl | rfl | rfl | rfl <;> simp⟩
theorem lifted (os : Os) (started : os.Started) (H : Type) (enc : TypeId × Value -> H) (F : Stop.Interp) :
  ReturnsInHanded {} Try.checked os 5 .any ((Rows.OpenSpec.upto Rows.expPartsSpec).pre6 enc Try.prog Try.f5 Rows.expPartsUptoRow.domain false) (((Rows.OpenSpec.upto Rows.expPartsSpec).at F).post enc Try.prog Try.f5 false true false false) := by
 refine returnsInHanded_of_cond (C := Try.checked) (s := Rows.OpenSpec.upto Rows.expPartsSpec) (k := Rows.uptoSmall) rfl own started (by kernel_rfl) Try.func5
  (OpenSpec.witness (enc := enc) (C := Try.checked) (s := Rows.OpenSpec.upto Rows.expPartsSpec) (k := Rows.uptoSmall) rfl false ⟨#[],#[.agg #[.int .i64 0,.int .i64 0,.string ⟨#[]⟩,.bool false,.slice none 0 0,.slice none 0 0,.slice none 0 0]],[]⟩ 8 (by kernel_rfl) (by kernel_rfl) (by kernel_rfl)
   (x := ([.agg [.lit (.int .i64 0),.lit (.int .i64 0),.lit (.string []),.lit (.bool false),.nil,.nil,.nil]],[],[])) (by kernel_rfl) rfl (by kernel_rfl)) ?_
 intro W base args ds gs before hval0 hW _ hk _
 have hval : ∀ (j : Nat) t v,Try.f5.params[j]? = some t -> args[j]? = some v -> Value.okWide Try.prog W .any base t v := hval0
 have hW' := hW
 have hend : ∀ W',Below W.heap.size W W' -> Rows.expPartsSpec.post enc Try.prog Try.f5 false true false false W args (.bool true) W' := fun W' hb =>
  law_post (bt := 4) laid hW' rfl rfl Try.underlying4 (by rw [show Try.f5.params = _ from Try.params5];intro t ht;simp at ht;subst ht;exact ⟨by kernel_rfl,of_decide_eq_true (by kernel_rfl)⟩)
   (by rw [show Try.f5.params = _ from Try.params5];intro l hl;match l,hl with | [_],_ => rfl) hb
 obtain ⟨p,q,hA0,hV,hpq,_,_⟩ := hW
 have hA : DataW.TrodAll enc Try.prog W 0 (fun _ => true) true Try.f5.params.toList args.toList ds p := hA0
 rw [Try.params5] at hA hval
 obtain ⟨v0,vs0,d0,ds0,p0,q0,hargs,rfl,rfl,h0,r0⟩ := trodAll_cons hA
 obtain ⟨rfl,rfl,rfl⟩ := trodAll_nil r0
 obtain rfl : args = #[v0] := by cases args;simp_all
 have hB : Rows.uptoBulkAll ([d0] ++ gs) ≤ 1048576 := of_decide_eq_true hk
 obtain ⟨n0,x0,g0,k0,b0⟩ := param_hasb kinds (by simp) (hval 0 26 _ rfl rfl) h0
 have b0 := Nat.le_trans b0 (Nat.le_trans (rn_part (H := H) (d := d0) (l := [d0] ++ gs) (by simp)) hB)
 obtain ⟨e,rfl,ho_e⟩ := has_ex _ g0
 have hz_e := Nat.le_trans (exD_bulk e) b0
 refine ((parts14_law expPk e ho_e hz_e).2 (allS W) W [v0] ⟨fun _ _ h => h,by unfold ghost;simp⟩ ⟨_,_,rfl,k0,rfl⟩).mono ?_
 rintro e W' ⟨v,S',d,rfl,rfl,hb,_,_,hv⟩
 simp only [Pv.Rd] at hv
 subst hv
 exact ⟨_,rfl,hend W' hb⟩
theorem holds : Rows.ExpPartsUptoSaid :=
 OpenClaim.holds_of_cond 5 Try.f5 rfl rfl rfl rfl rfl rfl rfl ⟨rfl,rfl,rfl,rfl,rfl⟩ rfl rfl rfl rfl rfl (by kernel_rfl) Try.func5 (by kernel_rfl)
  (of_decide_eq_true (by kernel_rfl)) (by unfold Func.isWrapper;first | (rw [if_pos (by decide +kernel)];kernel_rfl) | (rw [if_neg (by decide +kernel)];exact ⟨rfl,rfl⟩))
  (fun os started H enc _ F => lifted os started H enc F)
end Go.Proofs.Ytglefhgcfijiaaa.epPartsP
