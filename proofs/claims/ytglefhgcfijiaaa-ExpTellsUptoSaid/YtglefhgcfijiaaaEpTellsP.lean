/- ExpTells: of any expression and any number the law answers true: the program tells of it what the document tells. Of bulk at most 1048576 together. No other condition. -/
import Derived.Deep.CondSized
import Derived.JoinedCond
import Derived.Test.YtglefhgcfijiaaaGBf
import Derived.Test.YtglefhgcfijiaaaGAf
set_option linter.unusedSimpArgs false
set_option linter.unusedVariables false
set_option maxRecDepth 1000000
set_option maxHeartbeats 40000000
namespace Go.Proofs.Ytglefhgcfijiaaa.epTellsP
open Go.ChangeShapes Go.WideShapes Go.ChangeAt Go.RowKit Go.Proofs.Ytglefhgcfijiaaa Pv
theorem kinds : Kinds Try.prog (fun t => t = 3 ∨ t = 9 ∨ t = 4 ∨ t = 23 ∨ t = 22 ∨ t = 38 ∨ t = 24 ∨ t = 26) where
 ok := by
  rintro t (rfl | rfl | rfl | rfl | rfl | rfl | rfl | rfl)
  ·rw [Try.underlying3];show Try.prog.cellsOf _ = 1;kernel_rfl
  ·rw [Try.underlying9];show Try.prog.cellsOf _ = 1;kernel_rfl
  ·rw [Try.underlying4];show Try.prog.cellsOf _ = 1;kernel_rfl
  ·rw [Try.underlying23];exact ⟨by kernel_rfl,by simp,by rw [cellsOf_str];decide⟩
  ·rw [Try.underlying22];exact ⟨by kernel_rfl,by simp,by rw [cellsOf_ty];decide⟩
  ·rw [Try.underlying38];exact ⟨by kernel_rfl,by intro f hf;simp at hf;rcases hf with rfl | rfl | rfl | rfl | rfl <;> simp⟩
  ·rw [Try.underlying24];exact ⟨by kernel_rfl,by simp,by rw [cellsOf_exp];decide⟩
  ·rw [Try.underlying26];exact ⟨by kernel_rfl,by intro f hf;simp at hf;rcases hf with rfl | rfl | rfl | rfl | rfl | rfl | rfl <;> simp⟩
theorem lifted (os : Os) (started : os.Started) (H : Type) (enc : TypeId × Value -> H) (F : Stop.Interp) :
  ReturnsInHanded {} Try.checked os 3 .any ((Rows.OpenSpec.upto Rows.expTellsSpec).pre6 enc Try.prog Try.f3 Rows.expTellsUptoRow.domain false) (((Rows.OpenSpec.upto Rows.expTellsSpec).at F).post enc Try.prog Try.f3 false true false false) := by
 refine returnsInHanded_of_cond (C := Try.checked) (s := Rows.OpenSpec.upto Rows.expTellsSpec) (k := Rows.uptoSmall) rfl own started (by kernel_rfl) Try.func3
  (OpenSpec.witness (enc := enc) (C := Try.checked) (s := Rows.OpenSpec.upto Rows.expTellsSpec) (k := Rows.uptoSmall) rfl false ⟨#[],#[.agg #[.int .i64 0,.int .i64 0,.string ⟨#[]⟩,.bool false,.slice none 0 0,.slice none 0 0,.slice none 0 0],.int .i64 0],[]⟩ 8 (by kernel_rfl) (by kernel_rfl) (by kernel_rfl)
   (x := ([.agg [.lit (.int .i64 0),.lit (.int .i64 0),.lit (.string []),.lit (.bool false),.nil,.nil,.nil],.lit (.int .i64 0)],[],[])) (by kernel_rfl) rfl (by kernel_rfl)) ?_
 intro W base args ds gs before hval0 hW _ hk _
 have hval : ∀ (j : Nat) t v,Try.f3.params[j]? = some t -> args[j]? = some v -> Value.okWide Try.prog W .any base t v := hval0
 have hW' := hW
 have hend : ∀ W',Below W.heap.size W W' -> Rows.expTellsSpec.post enc Try.prog Try.f3 false true false false W args (.bool true) W' := fun W' hb =>
  law_post (bt := 4) laid hW' rfl rfl Try.underlying4 (by rw [show Try.f3.params = _ from Try.params3];intro t ht;simp at ht;rcases ht with rfl | rfl <;> exact ⟨by kernel_rfl,of_decide_eq_true (by kernel_rfl)⟩)
   (by rw [show Try.f3.params = _ from Try.params3];intro l hl;match l,hl with | [_,_],_ => rfl) hb
 obtain ⟨p,q,hA0,hV,hpq,_,_⟩ := hW
 have hA : DataW.TrodAll enc Try.prog W 0 (fun _ => true) true Try.f3.params.toList args.toList ds p := hA0
 rw [Try.params3] at hA hval
 obtain ⟨v0,vs0,d0,ds0,p0,q0,hargs,rfl,rfl,h0,r0⟩ := trodAll_cons hA
 obtain ⟨v1,vs1,d1,ds1,p1,q1,rfl,rfl,rfl,h1,r1⟩ := trodAll_cons r0
 obtain ⟨rfl,rfl,rfl⟩ := trodAll_nil r1
 obtain rfl : args = #[v0,v1] := by cases args;simp_all
 have hB : Rows.uptoBulkAll ([d0,d1] ++ gs) ≤ 1048576 := of_decide_eq_true hk
 obtain ⟨n0,x0,g0,k0,b0⟩ := param_hasb kinds (by simp) (hval 0 26 _ rfl rfl) h0
 have b0 := Nat.le_trans b0 (Nat.le_trans (rn_part (H := H) (d := d0) (l := [d0,d1] ++ gs) (by simp)) hB)
 obtain ⟨e,rfl,ho_e⟩ := has_ex _ g0
 have hz_e := Nat.le_trans (exD_bulk e) b0
 obtain ⟨n1,x1,g1,k1,b1⟩ := param_hasb kinds (by simp) (hval 1 3 _ rfl rfl) h1
 have b1 := Nat.le_trans b1 (Nat.le_trans (rn_part (H := H) (d := d1) (l := [d0,d1] ++ gs) (by simp)) hB)
 obtain ⟨k,rfl,hi_k⟩ := g1.int Try.underlying3
 have hi_k := rn_i64 hi_k
 refine ((tells14_law expPk e k ho_e hz_e hi_k).2 (allS W) W [v0,v1] ⟨fun _ _ h => h,by unfold ghost;simp⟩ ⟨_,_,rfl,k0,⟨_,_,rfl,k1,rfl⟩⟩).mono ?_
 rintro e W' ⟨v,S',d,rfl,rfl,hb,_,_,hv⟩
 simp only [Pv.Rd] at hv
 subst hv
 exact ⟨_,rfl,hend W' hb⟩
theorem holds : Rows.ExpTellsUptoSaid :=
 OpenClaim.holds_of_cond 3 Try.f3 rfl rfl rfl rfl rfl rfl rfl ⟨rfl,rfl,rfl,rfl,rfl⟩ rfl rfl rfl rfl rfl (by kernel_rfl) Try.func3 (by kernel_rfl)
  (of_decide_eq_true (by kernel_rfl)) (by unfold Func.isWrapper;first | (rw [if_pos (by decide +kernel)];kernel_rfl) | (rw [if_neg (by decide +kernel)];exact ⟨rfl,rfl⟩))
  (fun os started H enc _ F => lifted os started H enc F)
end Go.Proofs.Ytglefhgcfijiaaa.epTellsP
