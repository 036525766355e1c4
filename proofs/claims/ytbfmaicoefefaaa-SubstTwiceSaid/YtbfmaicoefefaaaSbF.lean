/- What the laws of layer 7 call: Few, types; lists that are the same; All. -/
import Derived.Test.YtbfmaicoefefaaaSbT
import Derived.Test.YtbfmaicoefefaaaSbW
set_option linter.unusedSimpArgs false
set_option linter.unusedVariables false
namespace Go.Proofs.Ytbfmaicoefefaaa
open Go.RowKit Pv
set_option maxRecDepth 100000
set_option maxRecDepth 20000 in
set_option maxHeartbeats 4000000 in
theorem types_run (m : List Bd) (hm : m.length ≤ 140737488355) (Q : D → H → Prop) (hQ : ∀ d h', Wk d (.sl none 5 (tysD (m.map Prod.snd))) → Q d h') : wfun TT 40 [.sl none 6 (bnsD m)] [] Q := by
  have hBi := bns_idb m
  have hBl := bns_len m
  have hat := fun i => bns_at (m := m) (i := i)
  have hQ : ∀ tag h', Q (.sl tag 5 (tysD (m.map Prod.snd))) h' := fun tag h' => hQ _ h' (untag_any _ _ _)
  generalize bnsD m = BS at hBi hBl hat ⊢
  cbv
  (repeat'((first|(apply zS;kernel_rfl)|(apply zD;decide +kernel)|(apply zE;decide +kernel)|(apply zF;decide +kernel)|(apply zL;decide +kernel)|(apply zM;decide +kernel)|(apply zN;intros)|(apply zO;intros)|(apply zT;omega)|(apply zU;omega)|(apply zP;omega;intros)|(apply zQ;omega;intros)|apply zR);cbv))
  refine LoopK.log 3 25 5 rfl ?_
  refine LoopK.put (X := Int × List D × Nat) (fun x => [(3, .sl (some 0) 5 x.2.1), (4, .raw (.int .i64 x.1))]) (fun x => [(0, .log 25 5 x.2.2)]) (fun x => m.length - x.1.toNat)
    (fun x => 0 ≤ x.1 ∧ x.1.toNat ≤ m.length ∧ x.2.1 = tysD ((m.take x.1.toNat).map Prod.snd) ∧ x.2.2 = x.2.1.length) (0, [], 0) ⟨by simp, by simp, rfl, rfl⟩ rfl rfl ?_
  rintro ⟨i, L, nl⟩ N ⟨h0, hi, hL, hnl⟩ hN
  simp only at h0 hi hL hnl hN ⊢
  have hLl : L.length = i.toNat := by rw [hL, tys_len]; simp; omega
  cbv
  (repeat'((first|(apply zS;kernel_rfl)|(apply zD;decide +kernel)|(apply zE;decide +kernel)|(apply zF;decide +kernel)|(apply zL;decide +kernel)|(apply zM;decide +kernel)|(apply zN;intros)|(apply zO;intros)|(apply zT;omega)|(apply zU;omega)|(apply zP;omega;intros)|(apply zQ;omega;intros)|apply zR);cbv))
  refine BinK.lss ?_ ?_ <;> intro hlt <;> cbv <;> (repeat'((first|(apply zS;kernel_rfl)|(apply zD;decide +kernel)|(apply zE;decide +kernel)|(apply zF;decide +kernel)|(apply zL;decide +kernel)|(apply zM;decide +kernel)|(apply zN;intros)|(apply zO;intros)|(apply zT;omega)|(apply zU;omega)|(apply zP;omega;intros)|(apply zQ;omega;intros)|apply zR);cbv))
  · obtain ⟨p, hp, hB⟩ := hat i.toNat (by omega)
    have htake : m.take (i.toNat + 1) = m.take i.toNat ++ [p] := by
      obtain ⟨h1, h2⟩ := List.getElem?_eq_some_iff.1 hp
      rw [List.take_succ_eq_append_getElem h1, h2]
    have hstep : ∀ r : Int, r = i + 1 → tysD ((m.take r.toNat).map Prod.snd) = L ++ [tyD p.2] := fun r hr => by
      rw [hL, show r.toNat = i.toNat + 1 by omega, htake]
      simp [tysD_map]
    obtain ⟨k0, n0, m0, L0, K0, f0, f1, j1, j2⟩ := bn_node p
    rw [f1] at hstep
    rw [f0] at hB
    generalize p.1 = pn at hB
    clear f0 f1 j1 j2
    refine IdxK.intro h0 hB ?_
    cbv
    (repeat'((first|(apply zS;kernel_rfl)|(apply zD;decide +kernel)|(apply zE;decide +kernel)|(apply zF;decide +kernel)|(apply zL;decide +kernel)|(apply zM;decide +kernel)|(apply zN;intros)|(apply zO;intros)|(apply zT;omega)|(apply zU;omega)|(apply zP;omega;intros)|(apply zQ;omega;intros)|apply zR);cbv))
    refine AppK.sl el_tys el_tys rfl hnl (by simp only [List.length_cons, List.length_nil]; omega) ?_
    intro L' nl' hL' hnl'
    cbv
    (repeat'((first|(apply zS;kernel_rfl)|(apply zD;decide +kernel)|(apply zE;decide +kernel)|(apply zF;decide +kernel)|(apply zL;decide +kernel)|(apply zM;decide +kernel)|(apply zN;intros)|(apply zO;intros)|(apply zT;omega)|(apply zU;omega)|(apply zP;omega;intros)|(apply zQ;omega;intros)|apply zR);cbv))
    rename_i r hr
    have hL2 : L' = tysD ((m.take r.toNat).map Prod.snd) := by rw [hstep r hr]; exact hL'
    have hLi : ∀ k, idbL k L' = true := fun k => pure_idbL k _ (by rw [hL2]; exact tys_pure _)
    refine RoundK.forget (r, L', nl') ⟨by omega, by omega, hL2, hnl'⟩ (by omega) rfl rfl ?_ ?_
    · simp [idbL, idb, hBi, hLi]
    · simp [cellIdb]
  · have hall : m.take i.toNat = m := List.take_of_length_le (by omega)
    rw [hall] at hL
    subst hL
    exact ⟨hQ _ _⟩
theorem types_cp (m : List Bd) (hm : m.length ≤ 140737488355) : CP (TT ()) 40 [.sl none 6 (bnsD m)] (· = .sl none 5 (tysD (m.map Prod.snd))) :=
  c4_runW (by simp [pureD, tys_pure]) fun Q hQ => types_run m hm Q hQ
end Go.Proofs.Ytbfmaicoefefaaa
