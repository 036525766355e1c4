/- limbecklaw04.Much and limbecklaw07.Few of whatever size: counts that wrap round. -/
import Derived.Test.YtbfmaicoefefaaaPwC4
import Derived.Test.YtbfmaicoefefaaaSbW
import Derived.Test.YtbfmaicoefefaaaTyVw
set_option linter.unusedSimpArgs false
set_option linter.unusedVariables false
namespace Go.Proofs.Ytbfmaicoefefaaa
open Go.RowKit Pv
set_option maxRecDepth 100000
theorem muchw_cp (a : Ty5) (ha : okT a) : CP (TT ()) 11 [tyD a] (· = .raw (.int .i64 (muchW a))) :=
  cp_raw (callable_at Try.func11 (by kernel_rfl) rfl) fun S w args r => by
    obtain ⟨v, rfl, h⟩ := rdL_one r
    obtain ⟨v0, v1, v2, v3, v4, rfl, hT⟩ := ty_in a ha h
    exact rmuch_wrap _ a _ _ _ _ _ w (Nat.le_refl _) hT
set_option maxHeartbeats 4000000 in
theorem fewq_run (m : List Bd) (hmo : okB m) (Q : D → H → Prop)
    (hQ : ∀ z h', (z < 5000 → m.length ≤ 20) → Q (.raw (.int .i64 z)) h') : wfun TT 35 [.sl none 6 (bnsD m)] [] Q := by
  have hBi := bns_idb m
  have hBl := bns_len m
  have hat := fun i => bns_at (m := m) (i := i)
  generalize bnsD m = BS at hBi hBl hat ⊢
  cbv
  (repeat'((first|(apply zS;kernel_rfl)|(apply zD;decide +kernel)|(apply zE;decide +kernel)|(apply zF;decide +kernel)|(apply zL;decide +kernel)|(apply zM;decide +kernel)|(apply zN;intros)|(apply zO;intros)|(apply zT;omega)|(apply zU;omega)|(apply zP;omega;intros)|(apply zQ;omega;intros)|apply zR);cbv))
  refine LoopK.put (X := Int × Int) (fun x => [(3, .raw (.int .i64 x.2)), (4, .raw (.int .i64 x.1))]) (fun _ => []) (fun x => 20 - x.1.toNat)
    (fun x => 0 ≤ x.1 ∧ x.1.toNat ≤ m.length ∧ x.1 ≤ 20) (0, 0) ⟨by simp, by simp, by simp⟩ rfl rfl ?_
  rintro ⟨i, n⟩ N ⟨h0, hi, h20⟩ hN
  simp only at h0 hi h20 hN ⊢
  cbv
  (repeat'((first|(apply zS;kernel_rfl)|(apply zD;decide +kernel)|(apply zE;decide +kernel)|(apply zF;decide +kernel)|(apply zL;decide +kernel)|(apply zM;decide +kernel)|(apply zN;intros)|(apply zO;intros)|(apply zT;omega)|(apply zU;omega)|(apply zP;omega;intros)|(apply zQ;omega;intros)|apply zR);cbv))
  refine BinK.lss ?_ ?_ <;> intro hlt <;> cbv <;> (repeat'((first|(apply zS;kernel_rfl)|(apply zD;decide +kernel)|(apply zE;decide +kernel)|(apply zF;decide +kernel)|(apply zL;decide +kernel)|(apply zM;decide +kernel)|(apply zN;intros)|(apply zO;intros)|(apply zT;omega)|(apply zU;omega)|(apply zP;omega;intros)|(apply zQ;omega;intros)|apply zR);cbv))
  case' refine_1 =>
    refine BinK.lss ?_ ?_ <;> intro hlt2 <;> cbv <;> (repeat'((first|(apply zS;kernel_rfl)|(apply zD;decide +kernel)|(apply zE;decide +kernel)|(apply zF;decide +kernel)|(apply zL;decide +kernel)|(apply zM;decide +kernel)|(apply zN;intros)|(apply zO;intros)|(apply zT;omega)|(apply zU;omega)|(apply zP;omega;intros)|(apply zQ;omega;intros)|apply zR);cbv))
    · obtain ⟨p, hp, hB⟩ := hat i.toNat (by omega)
      have hpm := List.mem_of_getElem? hp
      have cM := muchw_cp p.2 (hmo p hpm).2
      generalize muchW p.2 = M at cM
      have hpp := ty_pure p.2
      have hsz := (hmo p hpm).1
      obtain ⟨k0, n0, m0, L0, K0, f0, f1, j1, j2⟩ := bn_node p
      rw [f1] at cM hpp
      rw [f0] at hB
      unfold maxLen at hsz
      obtain ⟨zp, hzp, hz0, hz1⟩ : ∃ z : Int, (p.1.size : Int) = z ∧ 0 ≤ z ∧ z ≤ 9223372036854775807 := ⟨_, rfl, by omega, by omega⟩
      generalize p.1 = pn at hB hzp
      clear f0 f1 j1 j2 hsz
      refine IdxK.intro h0 hB ?_
      cbv
      (repeat'((first|(apply zS;kernel_rfl)|(apply zD;decide +kernel)|(apply zE;decide +kernel)|(apply zF;decide +kernel)|(apply zL;decide +kernel)|(apply zM;decide +kernel)|(apply zN;intros)|(apply zO;intros)|(apply zT;omega)|(apply zU;omega)|(apply zP;omega;intros)|(apply zQ;omega;intros)|apply zR);cbv))
      refine .one cM (cons_pure hpp rfl) rfl ?_
      cbv
      (repeat'((first|(apply zS;kernel_rfl)|(apply zD;decide +kernel)|(apply zE;decide +kernel)|(apply zF;decide +kernel)|(apply zL;decide +kernel)|(apply zM;decide +kernel)|(apply zN;intros)|(apply zO;intros)|(apply zT;omega)|(apply zU;omega)|(apply zP;omega;intros)|(apply zQ;omega;intros)|apply zR);cbv))
      refine IdxK.intro h0 hB ?_
      cbv
      (repeat'((first|(apply zS;kernel_rfl)|(apply zD;decide +kernel)|(apply zE;decide +kernel)|(apply zF;decide +kernel)|(apply zL;decide +kernel)|(apply zM;decide +kernel)|(apply zN;intros)|(apply zO;intros)|(apply zT;omega)|(apply zU;omega)|(apply zP;omega;intros)|(apply zQ;omega;intros)|apply zR);cbv))
      refine lenq_str hzp ?_
      cbv
      (repeat'((first|(apply zS;kernel_rfl)|(apply zD;decide +kernel)|(apply zE;decide +kernel)|(apply zF;decide +kernel)|(apply zL;decide +kernel)|(apply zM;decide +kernel)|(apply zN;intros)|(apply zO;intros)|(apply zT;omega)|(apply zU;omega)|(apply zP;omega;intros)|(apply zQ;omega;intros)|apply zR);cbv))
      refine quo_eight (by omega) fun q hq => ?_
      cbv
      (repeat'((first|(apply zS;kernel_rfl)|(apply zD;decide +kernel)|(apply zE;decide +kernel)|(apply zF;decide +kernel)|(apply zL;decide +kernel)|(apply zM;decide +kernel)|(apply zN;intros)|(apply zO;intros)|(apply zT;omega)|(apply zU;omega)|(apply zP;omega;intros)|(apply zQ;omega;intros)|apply zR);cbv))
      refine max_three fun n' e1 e2 e3 => ?_
      cbv
      (repeat'((first|(apply zS;kernel_rfl)|(apply zD;decide +kernel)|(apply zE;decide +kernel)|(apply zF;decide +kernel)|(apply zL;decide +kernel)|(apply zM;decide +kernel)|(apply zN;intros)|(apply zO;intros)|(apply zT;omega)|(apply zU;omega)|(apply zP;omega;intros)|(apply zQ;omega;intros)|apply zR);cbv))
      rename_i r hr
      refine RoundK.next (r, n') ⟨by omega, by omega, by omega⟩ (by omega) rfl rfl
    · exact ⟨hQ _ _ fun h => absurd h (by omega)⟩
  case' refine_2 =>
    exact ⟨hQ _ _ fun h => by omega⟩
theorem fewq_cp (m : List Bd) (hmo : okB m) : CP (TT ()) 35 [.sl none 6 (bnsD m)] fun d => ∃ z : Int, d = .raw (.int .i64 z) ∧ (z < 5000 → m.length ≤ 20) :=
  (wfun_ok (T := TT) (by kernel_rfl) (fewq_run m hmo (fun d _ => ∃ z : Int, d = .raw (.int .i64 z) ∧ (z < 5000 → m.length ≤ 20)) fun z _ h => ⟨z, rfl, h⟩)).cp fun d h' ⟨z, h1, h2⟩ => ⟨d, by rw [h1]; rfl, z, h1, h2⟩
end Go.Proofs.Ytbfmaicoefefaaa
