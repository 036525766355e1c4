/- ExpSame: of any two expressions and any two definitions the law answers true. Of bulk at most 1048576 together. No other condition. -/
import Derived.Deep.CondSized
import Derived.JoinedCond
import Derived.Test.YtglefhgcfijiaaaGBf
import Derived.Test.YtglefhgcfijiaaaGAf
set_option linter.unusedSimpArgs false
set_option linter.unusedVariables false
set_option maxRecDepth 1000000
set_option maxHeartbeats 40000000
namespace Go.Proofs.Ytglefhgcfijiaaa.epSameP
open Go.ChangeShapes Go.WideShapes Go.ChangeAt Go.RowKit Go.Proofs.Ytglefhgcfijiaaa Pv
theorem kinds : Kinds Try.prog (fun t => t = 3 ∨ t = 9 ∨ t = 4 ∨ t = 23 ∨ t = 22 ∨ t = 38 ∨ t = 24 ∨ t = 26 ∨ t = 36 ∨ t = 64 ∨ t = 40 ∨ t = 42) where
 ok := by
  rintro t (rfl | rfl | rfl | rfl | rfl | rfl | rfl | rfl | rfl | rfl | rfl | rfl)
  ·rw [Try.underlying3];show Try.prog.cellsOf _ = 1;kernel_rfl
  ·rw [Try.underlying9];show Try.prog.cellsOf _ = 1;kernel_rfl
  ·rw [Try.underlying4];show Try.prog.cellsOf _ = 1;kernel_rfl
  ·rw [Try.underlying23];exact ⟨by kernel_rfl,by simp,by rw [cellsOf_str];decide⟩
  ·rw [Try.underlying22];exact ⟨by kernel_rfl,by simp,by rw [cellsOf_ty];decide⟩
  ·rw [Try.underlying38];exact ⟨by kernel_rfl,by intro f hf;simp at hf;rcases hf with rfl | rfl | rfl | rfl | rfl <;> simp⟩
  ·rw [Try.underlying24];exact ⟨by kernel_rfl,by simp,by rw [cellsOf_exp];decide⟩
  ·rw [Try.underlying26];exact ⟨by kernel_rfl,by intro f hf;simp at hf;rcases hf with rfl | rfl | rfl | rfl | rfl | rfl | rfl <;> simp⟩
  ·rw [Try.underlying36];exact ⟨by kernel_rfl,by simp,by rw [cellsOf_bnd];decide⟩
  ·rw [Try.underlying64];exact ⟨by kernel_rfl,by intro f hf;simp at hf;rcases hf with rfl | rfl <;> simp⟩
  ·rw [Try.underlying40];exact ⟨by kernel_rfl,by intro f hf;simp at hf;rcases hf with rfl | rfl | rfl | rfl <;> simp⟩
  ·rw [Try.underlying42];exact ⟨by kernel_rfl,by intro f hf;simp at hf;rcases hf with rfl | rfl <;> simp⟩
theorem lifted (os : Os) (started : os.Started) (H : Type) (enc : TypeId × Value -> H) (F : Stop.Interp) :
  ReturnsInHanded {} Try.checked os 4 .any ((Rows.OpenSpec.upto Rows.expSameSpec).pre6 enc Try.prog Try.f4 Rows.expSameUptoRow.domain false) (((Rows.OpenSpec.upto Rows.expSameSpec).at F).post enc Try.prog Try.f4 false true false false) := by
 refine returnsInHanded_of_cond (C := Try.checked) (s := Rows.OpenSpec.upto Rows.expSameSpec) (k := Rows.uptoSmall) rfl own started (by kernel_rfl) Try.func4
  (OpenSpec.witness (enc := enc) (C := Try.checked) (s := Rows.OpenSpec.upto Rows.expSameSpec) (k := Rows.uptoSmall) rfl false ⟨#[],#[.agg #[.int .i64 0,.int .i64 0,.string ⟨#[]⟩,.bool false,.slice none 0 0,.slice none 0 0,.slice none 0 0],.agg #[.int .i64 0,.int .i64 0,.string ⟨#[]⟩,.bool false,.slice none 0 0,.slice none 0 0,.slice none 0 0],.agg #[.string ⟨#[]⟩,.slice none 0 0,.slice none 0 0,.int .i64 0,.int .i64 0,.string ⟨#[]⟩,.slice none 0 0,.slice none 0 0,.int .i64 0,.int .i64 0,.string ⟨#[]⟩,.bool false,.slice none 0 0,.slice none 0 0,.slice none 0 0],.agg #[.string ⟨#[]⟩,.slice none 0 0,.slice none 0 0,.int .i64 0,.int .i64 0,.string ⟨#[]⟩,.slice none 0 0,.slice none 0 0,.int .i64 0,.int .i64 0,.string ⟨#[]⟩,.bool false,.slice none 0 0,.slice none 0 0,.slice none 0 0]],[]⟩ 8 (by kernel_rfl) (by kernel_rfl) (by kernel_rfl)
   (x := ([.agg [.lit (.int .i64 0),.lit (.int .i64 0),.lit (.string []),.lit (.bool false),.nil,.nil,.nil],.agg [.lit (.int .i64 0),.lit (.int .i64 0),.lit (.string []),.lit (.bool false),.nil,.nil,.nil],.agg [.agg [.lit (.string []),.nil,.nil,.agg [.lit (.int .i64 0),.lit (.int .i64 0),.lit (.string []),.nil,.nil]],.agg [.lit (.int .i64 0),.lit (.int .i64 0),.lit (.string []),.lit (.bool false),.nil,.nil,.nil]],.agg [.agg [.lit (.string []),.nil,.nil,.agg [.lit (.int .i64 0),.lit (.int .i64 0),.lit (.string []),.nil,.nil]],.agg [.lit (.int .i64 0),.lit (.int .i64 0),.lit (.string []),.lit (.bool false),.nil,.nil,.nil]]],[],[])) (by kernel_rfl) rfl (by kernel_rfl)) ?_
 intro W base args ds gs before hval0 hW _ hk _
 have hval : ∀ (j : Nat) t v,Try.f4.params[j]? = some t -> args[j]? = some v -> Value.okWide Try.prog W .any base t v := hval0
 have hW' := hW
 have hend : ∀ W',Below W.heap.size W W' -> Rows.expSameSpec.post enc Try.prog Try.f4 false true false false W args (.bool true) W' := fun W' hb =>
  law_post (bt := 4) laid hW' rfl rfl Try.underlying4 (by rw [show Try.f4.params = _ from Try.params4];intro t ht;simp at ht;rcases ht with rfl | rfl | rfl | rfl <;> exact ⟨by kernel_rfl,of_decide_eq_true (by kernel_rfl)⟩)
   (by rw [show Try.f4.params = _ from Try.params4];intro l hl;match l,hl with | [_,_,_,_],_ => rfl) hb
 obtain ⟨p,q,hA0,hV,hpq,_,_⟩ := hW
 have hA : DataW.TrodAll enc Try.prog W 0 (fun _ => true) true Try.f4.params.toList args.toList ds p := hA0
 rw [Try.params4] at hA hval
 obtain ⟨v0,vs0,d0,ds0,p0,q0,hargs,rfl,rfl,h0,r0⟩ := trodAll_cons hA
 obtain ⟨v1,vs1,d1,ds1,p1,q1,rfl,rfl,rfl,h1,r1⟩ := trodAll_cons r0
 obtain ⟨v2,vs2,d2,ds2,p2,q2,rfl,rfl,rfl,h2,r2⟩ := trodAll_cons r1
 obtain ⟨v3,vs3,d3,ds3,p3,q3,rfl,rfl,rfl,h3,r3⟩ := trodAll_cons r2
 obtain ⟨rfl,rfl,rfl⟩ := trodAll_nil r3
 obtain rfl : args = #[v0,v1,v2,v3] := by cases args;simp_all
 have hB : Rows.uptoBulkAll ([d0,d1,d2,d3] ++ gs) ≤ 1048576 := of_decide_eq_true hk
 obtain ⟨n0,x0,g0,k0,b0⟩ := param_hasb kinds (by simp) (hval 0 26 _ rfl rfl) h0
 have b0 := Nat.le_trans b0 (Nat.le_trans (rn_part (H := H) (d := d0) (l := [d0,d1,d2,d3] ++ gs) (by simp)) hB)
 obtain ⟨a,rfl,ho_a⟩ := has_ex _ g0
 have hz_a := Nat.le_trans (exD_bulk a) b0
 obtain ⟨n1,x1,g1,k1,b1⟩ := param_hasb kinds (by simp) (hval 1 26 _ rfl rfl) h1
 have b1 := Nat.le_trans b1 (Nat.le_trans (rn_part (H := H) (d := d1) (l := [d0,d1,d2,d3] ++ gs) (by simp)) hB)
 obtain ⟨b,rfl,ho_b⟩ := has_ex _ g1
 have hz_b := Nat.le_trans (exD_bulk b) b1
 obtain ⟨n2,x2,g2,k2,b2⟩ := param_hasb kinds (by simp) (hval 2 42 _ rfl rfl) h2
 have b2 := Nat.le_trans b2 (Nat.le_trans (rn_part (H := H) (d := d2) (l := [d0,d1,d2,d3] ++ gs) (by simp)) hB)
 obtain ⟨c,rfl,ho_c⟩ := has_df g2
 have hz_c := b2
 obtain ⟨n3,x3,g3,k3,b3⟩ := param_hasb kinds (by simp) (hval 3 42 _ rfl rfl) h3
 have b3 := Nat.le_trans b3 (Nat.le_trans (rn_part (H := H) (d := d3) (l := [d0,d1,d2,d3] ++ gs) (by simp)) hB)
 obtain ⟨d,rfl,ho_d⟩ := has_df g3
 have hz_d := b3
 refine ((same14_law expPk a b c d ho_a ho_b hz_a hz_b ho_c ho_d hz_c hz_d).2 (allS W) W [v0,v1,v2,v3] ⟨fun _ _ h => h,by unfold ghost;simp⟩ ⟨_,_,rfl,k0,⟨_,_,rfl,k1,⟨_,_,rfl,k2,⟨_,_,rfl,k3,rfl⟩⟩⟩⟩).mono ?_
 rintro e W' ⟨v,S',d,rfl,rfl,hb,_,_,hv⟩
 simp only [Pv.Rd] at hv
 subst hv
 exact ⟨_,rfl,hend W' hb⟩
theorem holds : Rows.ExpSameUptoSaid :=
 OpenClaim.holds_of_cond 4 Try.f4 rfl rfl rfl rfl rfl rfl rfl ⟨rfl,rfl,rfl,rfl,rfl⟩ rfl rfl rfl rfl rfl (by kernel_rfl) Try.func4 (by kernel_rfl)
  (of_decide_eq_true (by kernel_rfl)) (by unfold Func.isWrapper;first | (rw [if_pos (by decide +kernel)];kernel_rfl) | (rw [if_neg (by decide +kernel)];exact ⟨rfl,rfl⟩))
  (fun os started H enc _ F => lifted os started H enc F)
end Go.Proofs.Ytglefhgcfijiaaa.epSameP
