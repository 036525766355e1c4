/- The document's own answers of layer 4, and how much a type has, as contracts over data. -/
import Derived.Test.YtllehceckdcbaaaPwY
import Derived.Test.YtllehceckdcbaaaTyV
import Derived.Test.YtllehceckdcbaaaTyE
import Derived.Test.YtllehceckdcbaaaTyK
import Derived.Test.YtllehceckdcbaaaTyR
import Derived.Test.YtllehceckdcbaaaRefL
namespace Go.Proofs.Ytllehceckdcbaaa
open Go.RowKit Pv
theorem c4_run {k : FuncId} {ds : List D} {u : Value} (h : ∀ Q : D → H → Prop, (∀ h', Q (.raw u) h') → wfun TT k ds [] Q) : CP (TT ()) k ds (· = .raw u) :=
  (wfun_ok (T := TT) (by kernel_rfl) (h (fun d _ => d = .raw u) fun _ => rfl)).cp fun d h' h => ⟨d, by rw [h]; rfl, h⟩
theorem c4_runP {k : FuncId} {ds : List D} {d0 : D} (h : ∀ Q : D → H → Prop, (∀ d h', pureD d = some d0 → Q d h') → wfun TT k ds [] Q) : CP (TT ()) k ds (· = d0) :=
  (wfun_ok (T := TT) (by kernel_rfl) (h (fun d _ => pureD d = some d0) fun _ _ e => e)).cp fun d h' h => ⟨d0, h, rfl⟩
/-- The same, where what comes is known by a weaker reading. -/
theorem c4_runW {k : FuncId} {ds : List D} {d0 : D} (hp : pureD d0 = some d0) (h : ∀ Q : D → H → Prop, (∀ d h', Wk d d0 → Q d h') → wfun TT k ds [] Q) : CP (TT ()) k ds (· = d0) := by
  have c : CW (TT ()) k ds [] fun d _ => Wk d d0 := wfun_ok (T := TT) (by kernel_rfl) (h (fun d _ => Wk d d0) fun _ _ e => e)
  exact (c.weaken (R := fun d _ => d = d0) fun d h' h => ⟨d0, h, rfl⟩).cp fun d h' h => ⟨d0, by rw [h]; exact hp, rfl⟩
theorem c4_node (t : Ty5) : ∃ k n nm L K, tyD t = .agg [.raw (.int .i64 k), .raw (.int .i64 n), .raw (.string nm), .sl none 1 L, .sl none 5 K] ∧ (∀ m, idbL m L = true) ∧ ∀ m, idbL m K = true := by
  obtain ⟨k, n, nm, ls, ks⟩ := t
  exact ⟨k, n, nm, _, _, rfl, fun m => pure_idbL m _ (strs_pure ls), fun m => pure_idbL m _ (tys_pure ks)⟩
theorem muchq_cp (a : Ty5) (ha : okT a) (hz : szT a ≤ 1048576) : CP (TT ()) 5 [tyD a] (· = .raw (.int .i64 (much a))) :=
  cp_raw (callable_at Try.func5 (by kernel_rfl) rfl) fun S w args r => by
    obtain ⟨v, rfl, h⟩ := rdL_one r
    obtain ⟨v0, v1, v2, v3, v4, rfl, hT⟩ := ty_in a ha h
    exact rmuch_any _ a _ _ _ _ _ w (Nat.le_refl _) hz hT
theorem sameq_cp (a b : Ty5) (ha : okT a) (hb : okT b) : CP (TT ()) 9 [tyD a, tyD b] (· = .raw (.bool (sameT a b))) :=
  cp_raw (callable_at Try.func9 (by kernel_rfl) rfl) fun S w args r => by
    obtain ⟨v, v', rfl, h, h'⟩ := rdL_two r
    obtain ⟨u0, u1, u2, u3, u4, rfl, hA⟩ := ty_in a ha h
    obtain ⟨v0, v1, v2, v3, v4, rfl, hB⟩ := ty_in b hb h'
    exact rsameTy_any _ a b _ _ _ _ _ _ _ _ _ _ w (Nat.le_refl _) hA hB
end Go.Proofs.Ytllehceckdcbaaa
