/- The document's own answers of layer 4, and how much a type has, as contracts over data. -/
import Derived.Test.YtbfmaicoefefaaaPwY
import Derived.Test.YtbfmaicoefefaaaTyV
import Derived.Test.YtbfmaicoefefaaaTyE
import Derived.Test.YtbfmaicoefefaaaTyK
import Derived.Test.YtbfmaicoefefaaaTyR
import Derived.Test.YtbfmaicoefefaaaRefL
set_option linter.unusedSimpArgs false
set_option linter.unusedVariables false
namespace Go.Proofs.Ytbfmaicoefefaaa
open Go.RowKit Pv
set_option maxRecDepth 100000
theorem c4_run {k : FuncId} {ds : List D} {u : Value} (h : ∀ Q : D → H → Prop, (∀ h', Q (.raw u) h') → wfun TT k ds [] Q) : CP (TT ()) k ds (· = .raw u) :=
  (wfun_ok (T := TT) (by kernel_rfl) (h (fun d _ => d = .raw u) fun _ => rfl)).cp fun d h' h => ⟨d, by rw [h]; rfl, h⟩
theorem c4_runP {k : FuncId} {ds : List D} {d0 : D} (h : ∀ Q : D → H → Prop, (∀ d h', pureD d = some d0 → Q d h') → wfun TT k ds [] Q) : CP (TT ()) k ds (· = d0) :=
  (wfun_ok (T := TT) (by kernel_rfl) (h (fun d _ => pureD d = some d0) fun _ _ e => e)).cp fun d h' h => ⟨d0, h, rfl⟩
/-- The same, where what comes is known by a weaker reading. -/
theorem c4_runW {k : FuncId} {ds : List D} {d0 : D} (hp : pureD d0 = some d0) (h : ∀ Q : D → H → Prop, (∀ d h', Wk d d0 → Q d h') → wfun TT k ds [] Q) : CP (TT ()) k ds (· = d0) := by
  have c : CW (TT ()) k ds [] fun d _ => Wk d d0 := wfun_ok (T := TT) (by kernel_rfl) (h (fun d _ => Wk d d0) fun _ _ e => e)
  exact (c.weaken (R := fun d _ => d = d0) fun d h' h => ⟨d0, h, rfl⟩).cp fun d h' h => ⟨d0, by rw [h]; exact hp, rfl⟩
theorem c4_node (t : Ty5) : ∃ k n nm L K, tyD t = .agg [.raw (.int .i64 k), .raw (.int .i64 n), .raw (.string nm), .sl none 1 L, .sl none 5 K] ∧ (∀ m, idbL m L = true) ∧ ∀ m, idbL m K = true := by
  obtain ⟨k, n, nm, ls, ks⟩ := t
  exact ⟨k, n, nm, _, _, rfl, fun m => pure_idbL m _ (strs_pure ls), fun m => pure_idbL m _ (tys_pure ks)⟩
theorem muchq_cp (a : Ty5) (ha : okT a) (hz : szT a ≤ 1048576) : CP (TT ()) 11 [tyD a] (· = .raw (.int .i64 (much a))) :=
  cp_raw (callable_at Try.func11 (by kernel_rfl) rfl) fun S w args r => by
    obtain ⟨v, rfl, h⟩ := rdL_one r
    obtain ⟨v0, v1, v2, v3, v4, rfl, hT⟩ := ty_in a ha h
    exact rmuch_any _ a _ _ _ _ _ w (Nat.le_refl _) hz hT
theorem sameq_cp (a b : Ty5) (ha : okT a) (hb : okT b) : CP (TT ()) 27 [tyD a, tyD b] (· = .raw (.bool (sameT a b))) :=
  cp_raw (callable_at Try.func27 (by kernel_rfl) rfl) fun S w args r => by
    obtain ⟨v, v', rfl, h, h'⟩ := rdL_two r
    obtain ⟨u0, u1, u2, u3, u4, rfl, hA⟩ := ty_in a ha h
    obtain ⟨v0, v1, v2, v3, v4, rfl, hB⟩ := ty_in b hb h'
    exact rsameTy_any _ a b _ _ _ _ _ _ _ _ _ _ w (Nat.le_refl _) hA hB
theorem nodesq_cp (a : Ty5) (ha : okT a) (hn : nodesT a ≤ 1000000) : CP (TT ()) 16 [tyD a] (· = .raw (.int .i64 (nodesT a))) :=
  cp_raw (callable_at Try.func16 (by kernel_rfl) rfl) fun S w args r => by
    obtain ⟨v, rfl, h⟩ := rdL_one r
    obtain ⟨v0, v1, v2, v3, v4, rfl, hT⟩ := ty_in a ha h
    exact rnodes_any _ a _ _ _ _ _ w (Nat.le_refl _) hn hT
theorem hasq_cp (kd : Int) (a : Ty5) (ha : okT a) : CP (TT ()) 20 [tyD a, .raw (.int .i64 kd)] (· = .raw (.bool (hasT kd a))) :=
  cp_raw (callable_at Try.func20 (by kernel_rfl) rfl) fun S w args r => by
    obtain ⟨v, v', rfl, h, h'⟩ := rdL_two r
    simp only [Pv.Rd] at h'
    subst h'
    obtain ⟨v0, v1, v2, v3, v4, rfl, hT⟩ := ty_in a ha h
    exact rhas_any kd _ a _ _ _ _ _ w (Nat.le_refl _) hT
set_option maxRecDepth 20000 in
theorem fitsq_cp (a : Ty5) (ha : okT a) (hn : nodesT a ≤ 1000000) : CP (TT ()) 25 [tyD a] (· = .raw (.bool (decide (nodesT a ≤ 300)))) := by
  have c := nodesq_cp a ha hn
  have hp := ty_pure a
  have e : decide (nodesT a ≤ 300) = decide (((nodesT a : Nat) : Int) ≤ 300) := by
    rw [Bool.eq_iff_iff, decide_eq_true_iff, decide_eq_true_iff]
    omega
  rw [e]
  generalize ((nodesT a : Nat) : Int) = m at c
  obtain ⟨k, n, nm, L, K, f0, _, _⟩ := c4_node a
  rw [f0] at c hp ⊢
  refine c4_run fun Q hQ => ?_
  cbv
  (repeat'((first|(apply zS;kernel_rfl)|(apply zD;decide +kernel)|(apply zE;decide +kernel)|(apply zF;decide +kernel)|(apply zL;decide +kernel)|(apply zM;decide +kernel)|(apply zN;intros)|(apply zO;intros)|(apply zT;omega)|(apply zU;omega)|(apply zP;omega;intros)|(apply zQ;omega;intros)|apply zR);cbv))
  refine .one c (cons_pure hp rfl) rfl ?_
  cbv
  (repeat'((first|(apply zS;kernel_rfl)|(apply zD;decide +kernel)|(apply zE;decide +kernel)|(apply zF;decide +kernel)|(apply zL;decide +kernel)|(apply zM;decide +kernel)|(apply zN;intros)|(apply zO;intros)|(apply zT;omega)|(apply zU;omega)|(apply zP;omega;intros)|(apply zQ;omega;intros)|apply zR);cbv))
  refine BinK.leq ?_ ?_ <;> intro h <;> cbv <;> (repeat'((first|(apply zS;kernel_rfl)|(apply zD;decide +kernel)|(apply zE;decide +kernel)|(apply zF;decide +kernel)|(apply zL;decide +kernel)|(apply zM;decide +kernel)|(apply zN;intros)|(apply zO;intros)|(apply zT;omega)|(apply zU;omega)|(apply zP;omega;intros)|(apply zQ;omega;intros)|apply zR);cbv))
  · rw [decide_eq_true h] at hQ
    exact ⟨hQ _⟩
  · rw [decide_eq_false (by omega)] at hQ
    exact ⟨hQ _⟩
end Go.Proofs.Ytbfmaicoefefaaa
