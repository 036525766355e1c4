/- limbeckref09.In over data. -/
import Derived.Test.YtpnfbmhnmhahnaaBdV
namespace Go.Proofs.Ytpnfbmhnmhahnaa
open Go.RowKit Pv
set_option maxRecDepth 100000
def inB9 (m : List Bd) (t : Ty5) : Bool := (vrsT t).all fun s => decide (0 ≤ placeI (m.map Prod.fst) s)
theorem inB9_at {m : List Bd} {t : Ty5} : inB9 m t = true ↔ ∀ (j : Nat) (s : ByteArray), (vrsT t)[j]? = some s → 0 ≤ placeI (m.map Prod.fst) s := by
  unfold inB9
  rw [List.all_eq_true]
  constructor
  · intro h j s hs
    exact of_decide_eq_true (h s (List.mem_of_getElem? hs))
  · intro h s hs
    obtain ⟨j, hj⟩ := List.getElem?_of_mem hs
    exact decide_eq_true (h j s hj)
set_option maxHeartbeats 4000000 in
theorem inr_run (m : List Bd) (hm : m.length ≤ 140737488355) (hs : okN m) (t : Ty5) (hn : nodesT t ≤ 1000000) (Q : D → H → Prop) (hQ : ∀ h', Q (.raw (.bool (inB9 m t))) h') : wfun TT 19 [.sl none 6 (bnsD m), tyD t] [] Q := by
  have q2 : inB9 m t ≠ true → ∀ h', Q (.raw (.bool false)) h' := fun h => by rw [Bool.eq_false_iff.2 h] at hQ; exact hQ
  have q3 : inB9 m t = true → ∀ h', Q (.raw (.bool true)) h' := fun h => by rw [h] at hQ; exact hQ
  clear hQ
  have cV := varsv_cp t hn
  have hVp := strs_pure (vrsT t)
  have hVl : ((vrsT t).map strD).length = (vrsT t).length := by simp
  have hVat := fun i => strs_at (ls := vrsT t) (i := i)
  have hVn := vrsT_len t
  have hTp := ty_pure t
  have cN := names_cp m hm
  have cP := fun s => place9_cp (m.map Prod.fst) s hs
  have hNp := names_pure m
  have hBp := bns_pure m
  unfold nmD at cN hNp
  generalize (m.map Prod.fst).map strD = NS at cN cP hNp
  have hp1 : pureL [.sl none 6 (bnsD m)] = some [.sl none 6 (bnsD m)] := by simp [pureL, pureD, hBp]
  generalize bnsD m = BS at cN hBp hp1 ⊢
  generalize (vrsT t).map strD = VS at cV hVp hVl hVat
  obtain ⟨k1, n1, m1, L1, K1, f1, i1, j1⟩ := c4_node t
  rw [f1] at cV hTp ⊢
  clear f1 i1 j1
  cbv
  (repeat'((first|(apply zS;kernel_rfl)|(apply zD;decide +kernel)|(apply zE;decide +kernel)|(apply zF;decide +kernel)|(apply zL;decide +kernel)|(apply zM;decide +kernel)|(apply zN;intros)|(apply zO;intros)|(apply zT;omega)|(apply zU;omega)|(apply zP;omega;intros)|(apply zQ;omega;intros)|apply zR);cbv))
  refine .one cV (cons_pure hTp rfl) (by simp [pureD, hVp]) ?_
  cbv
  (repeat'((first|(apply zS;kernel_rfl)|(apply zD;decide +kernel)|(apply zE;decide +kernel)|(apply zF;decide +kernel)|(apply zL;decide +kernel)|(apply zM;decide +kernel)|(apply zN;intros)|(apply zO;intros)|(apply zT;omega)|(apply zU;omega)|(apply zP;omega;intros)|(apply zQ;omega;intros)|apply zR);cbv))
  refine LoopK.put (X := Int) (fun x => [(6, .raw (.int .i64 x))]) (fun _ => []) (fun x => (vrsT t).length - x.toNat)
    (fun x => 0 ≤ x ∧ x.toNat ≤ (vrsT t).length ∧ ∀ (j : Nat) (s : ByteArray), j < x.toNat → (vrsT t)[j]? = some s → 0 ≤ placeI (m.map Prod.fst) s) 0 ⟨by simp, by simp, fun j s hj => absurd hj (Nat.not_lt_zero _)⟩ rfl rfl ?_
  rintro i N ⟨h0, hi, hj⟩ hN
  simp only at h0 hi hj hN ⊢
  cbv
  (repeat'((first|(apply zS;kernel_rfl)|(apply zD;decide +kernel)|(apply zE;decide +kernel)|(apply zF;decide +kernel)|(apply zL;decide +kernel)|(apply zM;decide +kernel)|(apply zN;intros)|(apply zO;intros)|(apply zT;omega)|(apply zU;omega)|(apply zP;omega;intros)|(apply zQ;omega;intros)|apply zR);cbv))
  refine BinK.lss ?_ ?_ <;> intro hlt <;> cbv <;> (repeat'((first|(apply zS;kernel_rfl)|(apply zD;decide +kernel)|(apply zE;decide +kernel)|(apply zF;decide +kernel)|(apply zL;decide +kernel)|(apply zM;decide +kernel)|(apply zN;intros)|(apply zO;intros)|(apply zT;omega)|(apply zU;omega)|(apply zP;omega;intros)|(apply zQ;omega;intros)|apply zR);cbv))
  · obtain ⟨u, hu, hV⟩ := hVat i.toNat (by omega)
    have cP := cP u
    have hno : placeI (m.map Prod.fst) u < 0 → ∀ h', Q (.raw (.bool false)) h' := fun h => q2 fun g => by
      have := inB9_at.1 g _ _ hu
      omega
    have hnext : 0 ≤ placeI (m.map Prod.fst) u → ∀ r : Int, r = i + 1 → ∀ (j : Nat) (s : ByteArray), j < r.toNat → (vrsT t)[j]? = some s → 0 ≤ placeI (m.map Prod.fst) s := fun h r hr j s hjr hs => by
      by_cases hji : j = i.toNat
      · rw [hji, hu] at hs
        cases hs
        exact h
      · exact hj j s (by omega) hs
    have hrg := place_range (m.map Prod.fst) u
    rw [List.length_map] at hrg
    generalize placeI (m.map Prod.fst) u = z at cP hno hnext hrg
    clear hj q2 q3
    refine .one cN hp1 hNp ?_
    cbv
    (repeat'((first|(apply zS;kernel_rfl)|(apply zD;decide +kernel)|(apply zE;decide +kernel)|(apply zF;decide +kernel)|(apply zL;decide +kernel)|(apply zM;decide +kernel)|(apply zN;intros)|(apply zO;intros)|(apply zT;omega)|(apply zU;omega)|(apply zP;omega;intros)|(apply zQ;omega;intros)|apply zR);cbv))
    refine IdxK.intro h0 hV ?_
    cbv
    (repeat'((first|(apply zS;kernel_rfl)|(apply zD;decide +kernel)|(apply zE;decide +kernel)|(apply zF;decide +kernel)|(apply zL;decide +kernel)|(apply zM;decide +kernel)|(apply zN;intros)|(apply zO;intros)|(apply zT;omega)|(apply zU;omega)|(apply zP;omega;intros)|(apply zQ;omega;intros)|apply zR);cbv))
    refine .one cP (cons_pure hNp rfl) rfl ?_
    cbv
    (repeat'((first|(apply zS;kernel_rfl)|(apply zD;decide +kernel)|(apply zE;decide +kernel)|(apply zF;decide +kernel)|(apply zL;decide +kernel)|(apply zM;decide +kernel)|(apply zN;intros)|(apply zO;intros)|(apply zT;omega)|(apply zU;omega)|(apply zP;omega;intros)|(apply zQ;omega;intros)|apply zR);cbv))
    refine BinK.lss ?_ ?_ <;> intro hz <;> cbv <;> (repeat'((first|(apply zS;kernel_rfl)|(apply zD;decide +kernel)|(apply zE;decide +kernel)|(apply zF;decide +kernel)|(apply zL;decide +kernel)|(apply zM;decide +kernel)|(apply zN;intros)|(apply zO;intros)|(apply zT;omega)|(apply zU;omega)|(apply zP;omega;intros)|(apply zQ;omega;intros)|apply zR);cbv))
    · exact ⟨hno hz _⟩
    · rename_i r hr
      refine RoundK.next r ⟨by omega, by omega, hnext hz r hr⟩ (by omega) rfl rfl
  · exact ⟨q3 (inB9_at.2 fun j s hs => hj j s (by have := (List.getElem?_eq_some_iff.1 hs).1; omega) hs) _⟩
theorem inr_cp (m : List Bd) (hm : m.length ≤ 140737488355) (hs : okN m) (t : Ty5) (hn : nodesT t ≤ 1000000) : CP (TT ()) 19 [.sl none 6 (bnsD m), tyD t] (· = .raw (.bool (inB9 m t))) := c4_run fun Q hQ => inr_run m hm hs t hn Q hQ
end Go.Proofs.Ytpnfbmhnmhahnaa
