/- limbeckref09.Right over data. -/
import Derived.Test.YtpnfbmhnmhahnaaBdN
import Derived.Test.YtpnfbmhnmhahnaaTyRi
namespace Go.Proofs.Ytpnfbmhnmhahnaa
open Go.RowKit Pv
set_option maxRecDepth 100000
theorem rvar9_cp (s : ByteArray) (hs : s.size ≤ maxLen) : CP (TT ()) 30 [.raw (.string s)] (· = .raw (.bool (varB s))) :=
  cp_raw (callable_at Try.func30 (by kernel_rfl) rfl) fun S w args r => by
    obtain ⟨v, rfl, h⟩ := rdL_one r
    simp only [Pv.Rd] at h
    subst h
    exact rvar_any s w hs
theorem right9_cp (t : Ty5) (ho : okT t) : CP (TT ()) 20 [tyD t] (· = .raw (.bool (rightT varB risingB t))) :=
  cp_raw (callable_at Try.func20 (by kernel_rfl) rfl) fun S w args r => by
    obtain ⟨v, rfl, h⟩ := rdL_one r
    obtain ⟨v0, v1, v2, v3, v4, rfl, hT⟩ := ty_in t ho h
    exact rright_all t _ _ _ _ _ w hT
theorem closed9_cp (t : Ty5) (ho : okT t) : CP (TT ()) 21 [tyD t] (· = .raw (.bool (!hasT 6 t))) := by
  have c := hasq_cp 6 t ho
  have hp := ty_pure t
  generalize hasT 6 t = b at c ⊢
  obtain ⟨k, n, nm, L, K, f0, _, _⟩ := c4_node t
  rw [f0] at c hp ⊢
  refine c4_run fun Q hQ => ?_
  cbv
  (repeat'((first|(apply zS;kernel_rfl)|(apply zD;decide +kernel)|(apply zE;decide +kernel)|(apply zF;decide +kernel)|(apply zL;decide +kernel)|(apply zM;decide +kernel)|(apply zN;intros)|(apply zO;intros)|(apply zT;omega)|(apply zU;omega)|(apply zP;omega;intros)|(apply zQ;omega;intros)|apply zR);cbv))
  refine .one c (cons_pure hp rfl) rfl ?_
  rcases b with _ | _ <;> cbv <;> (repeat'((first|(apply zS;kernel_rfl)|(apply zD;decide +kernel)|(apply zE;decide +kernel)|(apply zF;decide +kernel)|(apply zL;decide +kernel)|(apply zM;decide +kernel)|(apply zN;intros)|(apply zO;intros)|(apply zT;omega)|(apply zU;omega)|(apply zP;omega;intros)|(apply zQ;omega;intros)|apply zR);cbv))
  · exact ⟨hQ _⟩
  · exact ⟨hQ _⟩
def stepR9 (m : List Bd) (i : Nat) (p : Bd) : Bool := varB p.1 && decide (placeI ((m.take i).map Prod.fst) p.1 < 0) && rightT varB risingB p.2 && !hasT 6 p.2 && !hasT 9 p.2
def rightB9 (m : List Bd) : Bool := (List.range m.length).all fun i => match m[i]? with
  | some p => stepR9 m i p
  | none => true
theorem rightB9_at {m : List Bd} : rightB9 m = true ↔ ∀ (i : Nat) (p : Bd), m[i]? = some p → stepR9 m i p = true := by
  unfold rightB9
  rw [List.all_eq_true]
  constructor
  · intro h i p hp
    have := h i (List.mem_range.2 (List.getElem?_eq_some_iff.1 hp).1)
    rw [hp] at this
    exact this
  · intro h i _
    cases hp : m[i]? with
    | none => rfl
    | some p => exact h i p hp
set_option maxHeartbeats 4000000 in
theorem rightr_run (m : List Bd) (hm : m.length ≤ 140737488355) (ho : okB m) (Q : D → H → Prop) (hQ : ∀ h', Q (.raw (.bool (rightB9 m))) h') : wfun TT 13 [.sl none 6 (bnsD m)] [] Q := by
  have q2 : rightB9 m ≠ true → ∀ h', Q (.raw (.bool false)) h' := fun h => by rw [Bool.eq_false_iff.2 h] at hQ; exact hQ
  have q3 : rightB9 m = true → ∀ h', Q (.raw (.bool true)) h' := fun h => by rw [h] at hQ; exact hQ
  clear hQ
  have hBi := bns_idb m
  have hBl := bns_len m
  have hat := fun i => bns_at (m := m) (i := i)
  have htk : ∀ i : Nat, (bnsD m).take i = bnsD (m.take i) := fun i => by unfold bnsD; rw [List.map_take]
  generalize bnsD m = BS at hBi hBl hat htk ⊢
  cbv
  (repeat'((first|(apply zS;kernel_rfl)|(apply zD;decide +kernel)|(apply zE;decide +kernel)|(apply zF;decide +kernel)|(apply zL;decide +kernel)|(apply zM;decide +kernel)|(apply zN;intros)|(apply zO;intros)|(apply zT;omega)|(apply zU;omega)|(apply zP;omega;intros)|(apply zQ;omega;intros)|apply zR);cbv))
  refine LoopK.put (X := Int) (fun x => [(3, .raw (.int .i64 x))]) (fun _ => []) (fun x => m.length - x.toNat)
    (fun x => 0 ≤ x ∧ x.toNat ≤ m.length ∧ ∀ (j : Nat) (p : Bd), j < x.toNat → m[j]? = some p → stepR9 m j p = true) 0 ⟨by simp, by simp, fun j s hj => absurd hj (Nat.not_lt_zero _)⟩ rfl rfl ?_
  rintro i N ⟨h0, hi, hj⟩ hN
  simp only at h0 hi hj hN ⊢
  cbv
  (repeat'((first|(apply zS;kernel_rfl)|(apply zD;decide +kernel)|(apply zE;decide +kernel)|(apply zF;decide +kernel)|(apply zL;decide +kernel)|(apply zM;decide +kernel)|(apply zN;intros)|(apply zO;intros)|(apply zT;omega)|(apply zU;omega)|(apply zP;omega;intros)|(apply zQ;omega;intros)|apply zR);cbv))
  refine BinK.lss ?_ ?_ <;> intro hlt <;> cbv <;> (repeat'((first|(apply zS;kernel_rfl)|(apply zD;decide +kernel)|(apply zE;decide +kernel)|(apply zF;decide +kernel)|(apply zL;decide +kernel)|(apply zM;decide +kernel)|(apply zN;intros)|(apply zO;intros)|(apply zT;omega)|(apply zU;omega)|(apply zP;omega;intros)|(apply zQ;omega;intros)|apply zR);cbv))
  · obtain ⟨p, hp, hB⟩ := hat i.toNat (by omega)
    obtain ⟨k0, n0, m0, L0, K0, f0, f1, j1, j2⟩ := bn_node p
    rw [f0] at hB
    have hpo := ho p (List.mem_of_getElem? hp)
    have cV := rvar9_cp p.1 hpo.1
    have cR := right9_cp p.2 hpo.2
    have cC := closed9_cp p.2 hpo.2
    have cH := hasq_cp 9 p.2 hpo.2
    have hTp := ty_pure p.2
    have cN := names_cp (m.take i.toNat) (by rw [List.length_take]; omega)
    have cP := place9_cp ((m.take i.toNat).map Prod.fst) p.1 (fun u hu => by
      obtain ⟨x, hx, rfl⟩ := List.mem_map.1 hu
      exact (ho x (List.mem_of_mem_take hx)).1)
    have hNp := names_pure (m.take i.toNat)
    have hBp := bns_pure (m.take i.toNat)
    have hrg := place_range ((m.take i.toNat).map Prod.fst) p.1
    have hrl : ((m.take i.toNat).map Prod.fst).length ≤ 140737488355 := by rw [List.length_map, List.length_take]; omega
    have hrg : placeI ((m.take i.toNat).map Prod.fst) p.1 ≤ 140737488355 := by omega
    clear hrl
    have hno : stepR9 m i.toNat p = false → ∀ h', Q (.raw (.bool false)) h' := fun h => q2 fun g => by
      rw [rightB9_at.1 g _ _ hp] at h
      cases h
    have hnext : stepR9 m i.toNat p = true → ∀ r : Int, r = i + 1 → ∀ (j : Nat) (p : Bd), j < r.toNat → m[j]? = some p → stepR9 m j p = true := fun h r hr j x hjr hx => by
      by_cases hji : j = i.toNat
      · rw [hji, hp] at hx
        cases hx
        rw [hji]
        exact h
      · exact hj j x (by omega) hx
    rw [f1] at cR cC cH hTp
    unfold stepR9 at hno
    have hstep : stepR9 m i.toNat p = (varB p.1 && decide (placeI ((m.take i.toNat).map Prod.fst) p.1 < 0) && rightT varB risingB p.2 && !hasT 6 p.2 && !hasT 9 p.2) := rfl
    rw [hstep] at hnext
    unfold nmD at cN hNp
    have htk := htk i.toNat
    clear f0 f1 j1 j2 hj q2 q3 hstep hat
    generalize rightT varB risingB p.2 = b2 at cR hno hnext
    generalize hasT 6 p.2 = b3 at cC hno hnext
    generalize hasT 9 p.2 = b4 at cH hno hnext
    generalize varB p.1 = b1 at cV hno hnext
    generalize placeI ((m.take i.toNat).map Prod.fst) p.1 = z at cP hno hnext hrg
    generalize ((m.take i.toNat).map Prod.fst).map strD = NS at cN cP hNp
    have hp1 : pureL [.sl none 6 (bnsD (m.take i.toNat))] = some [.sl none 6 (bnsD (m.take i.toNat))] := by simp [pureL, pureD, hBp]
    generalize bnsD (m.take i.toNat) = TS at cN htk hp1
    clear hBp
    generalize p.1 = pn at hB cV cP
    refine IdxK.intro h0 hB ?_
    cbv
    (repeat'((first|(apply zS;kernel_rfl)|(apply zD;decide +kernel)|(apply zE;decide +kernel)|(apply zF;decide +kernel)|(apply zL;decide +kernel)|(apply zM;decide +kernel)|(apply zN;intros)|(apply zO;intros)|(apply zT;omega)|(apply zU;omega)|(apply zP;omega;intros)|(apply zQ;omega;intros)|apply zR);cbv))
    refine IdxK.intro h0 hB ?_
    cbv
    (repeat'((first|(apply zS;kernel_rfl)|(apply zD;decide +kernel)|(apply zE;decide +kernel)|(apply zF;decide +kernel)|(apply zL;decide +kernel)|(apply zM;decide +kernel)|(apply zN;intros)|(apply zO;intros)|(apply zT;omega)|(apply zU;omega)|(apply zP;omega;intros)|(apply zQ;omega;intros)|apply zR);cbv))
    refine .one cV rfl rfl ?_
    cases b1 with
    | false =>
      have hno := hno rfl
      cbv
      (repeat'((first|(apply zS;kernel_rfl)|(apply zD;decide +kernel)|(apply zE;decide +kernel)|(apply zF;decide +kernel)|(apply zL;decide +kernel)|(apply zM;decide +kernel)|(apply zN;intros)|(apply zO;intros)|(apply zT;omega)|(apply zU;omega)|(apply zP;omega;intros)|(apply zQ;omega;intros)|apply zR);cbv))
      exact ⟨hno _⟩
    | true =>
      cbv
      (repeat'((first|(apply zS;kernel_rfl)|(apply zD;decide +kernel)|(apply zE;decide +kernel)|(apply zF;decide +kernel)|(apply zL;decide +kernel)|(apply zM;decide +kernel)|(apply zN;intros)|(apply zO;intros)|(apply zT;omega)|(apply zU;omega)|(apply zP;omega;intros)|(apply zQ;omega;intros)|apply zR);cbv))
      refine SlK.to h0 (by omega) ?_
      intro L hL
      rw [htk] at hL
      subst hL
      cbv
      (repeat'((first|(apply zS;kernel_rfl)|(apply zD;decide +kernel)|(apply zE;decide +kernel)|(apply zF;decide +kernel)|(apply zL;decide +kernel)|(apply zM;decide +kernel)|(apply zN;intros)|(apply zO;intros)|(apply zT;omega)|(apply zU;omega)|(apply zP;omega;intros)|(apply zQ;omega;intros)|apply zR);cbv))
      refine .one cN hp1 hNp ?_
      cbv
      (repeat'((first|(apply zS;kernel_rfl)|(apply zD;decide +kernel)|(apply zE;decide +kernel)|(apply zF;decide +kernel)|(apply zL;decide +kernel)|(apply zM;decide +kernel)|(apply zN;intros)|(apply zO;intros)|(apply zT;omega)|(apply zU;omega)|(apply zP;omega;intros)|(apply zQ;omega;intros)|apply zR);cbv))
      refine IdxK.intro h0 hB ?_
      cbv
      (repeat'((first|(apply zS;kernel_rfl)|(apply zD;decide +kernel)|(apply zE;decide +kernel)|(apply zF;decide +kernel)|(apply zL;decide +kernel)|(apply zM;decide +kernel)|(apply zN;intros)|(apply zO;intros)|(apply zT;omega)|(apply zU;omega)|(apply zP;omega;intros)|(apply zQ;omega;intros)|apply zR);cbv))
      refine .one cP (cons_pure hNp rfl) rfl ?_
      cbv
      (repeat'((first|(apply zS;kernel_rfl)|(apply zD;decide +kernel)|(apply zE;decide +kernel)|(apply zF;decide +kernel)|(apply zL;decide +kernel)|(apply zM;decide +kernel)|(apply zN;intros)|(apply zO;intros)|(apply zT;omega)|(apply zU;omega)|(apply zP;omega;intros)|(apply zQ;omega;intros)|apply zR);cbv))
      refine BinK.geq ?_ ?_ <;> intro hz <;> cbv <;> (repeat'((first|(apply zS;kernel_rfl)|(apply zD;decide +kernel)|(apply zE;decide +kernel)|(apply zF;decide +kernel)|(apply zL;decide +kernel)|(apply zM;decide +kernel)|(apply zN;intros)|(apply zO;intros)|(apply zT;omega)|(apply zU;omega)|(apply zP;omega;intros)|(apply zQ;omega;intros)|apply zR);cbv))
      · exact ⟨hno (by rw [decide_eq_false (by omega : ¬ z < 0)]; rfl) _⟩
      · rw [decide_eq_true (by omega : z < 0)] at hno hnext
        refine .one cR (cons_pure hTp rfl) rfl ?_
        cases b2 with
        | false =>
          have hno := hno rfl
          cbv
          (repeat'((first|(apply zS;kernel_rfl)|(apply zD;decide +kernel)|(apply zE;decide +kernel)|(apply zF;decide +kernel)|(apply zL;decide +kernel)|(apply zM;decide +kernel)|(apply zN;intros)|(apply zO;intros)|(apply zT;omega)|(apply zU;omega)|(apply zP;omega;intros)|(apply zQ;omega;intros)|apply zR);cbv))
          exact ⟨hno _⟩
        | true =>
          cbv
          (repeat'((first|(apply zS;kernel_rfl)|(apply zD;decide +kernel)|(apply zE;decide +kernel)|(apply zF;decide +kernel)|(apply zL;decide +kernel)|(apply zM;decide +kernel)|(apply zN;intros)|(apply zO;intros)|(apply zT;omega)|(apply zU;omega)|(apply zP;omega;intros)|(apply zQ;omega;intros)|apply zR);cbv))
          refine .one cC (cons_pure hTp rfl) rfl ?_
          cases b3 with
          | true =>
            have hno := hno rfl
            cbv
            (repeat'((first|(apply zS;kernel_rfl)|(apply zD;decide +kernel)|(apply zE;decide +kernel)|(apply zF;decide +kernel)|(apply zL;decide +kernel)|(apply zM;decide +kernel)|(apply zN;intros)|(apply zO;intros)|(apply zT;omega)|(apply zU;omega)|(apply zP;omega;intros)|(apply zQ;omega;intros)|apply zR);cbv))
            exact ⟨hno _⟩
          | false =>
            cbv
            (repeat'((first|(apply zS;kernel_rfl)|(apply zD;decide +kernel)|(apply zE;decide +kernel)|(apply zF;decide +kernel)|(apply zL;decide +kernel)|(apply zM;decide +kernel)|(apply zN;intros)|(apply zO;intros)|(apply zT;omega)|(apply zU;omega)|(apply zP;omega;intros)|(apply zQ;omega;intros)|apply zR);cbv))
            refine .one cH (cons_pure hTp rfl) rfl ?_
            cases b4 with
            | true =>
              have hno := hno rfl
              cbv
              (repeat'((first|(apply zS;kernel_rfl)|(apply zD;decide +kernel)|(apply zE;decide +kernel)|(apply zF;decide +kernel)|(apply zL;decide +kernel)|(apply zM;decide +kernel)|(apply zN;intros)|(apply zO;intros)|(apply zT;omega)|(apply zU;omega)|(apply zP;omega;intros)|(apply zQ;omega;intros)|apply zR);cbv))
              exact ⟨hno _⟩
            | false =>
              have hnext := hnext rfl
              clear hno
              cbv
              (repeat'((first|(apply zS;kernel_rfl)|(apply zD;decide +kernel)|(apply zE;decide +kernel)|(apply zF;decide +kernel)|(apply zL;decide +kernel)|(apply zM;decide +kernel)|(apply zN;intros)|(apply zO;intros)|(apply zT;omega)|(apply zU;omega)|(apply zP;omega;intros)|(apply zQ;omega;intros)|apply zR);cbv))
              rename_i r hr
              refine RoundK.forget r ⟨by omega, by omega, hnext r hr⟩ (by omega) rfl rfl ?_ ?_
              · simp [idbL, idb, hBi]
              · simp [cellIdb]
  · exact ⟨q3 (rightB9_at.2 fun j p hp => hj j p (by have := (List.getElem?_eq_some_iff.1 hp).1; omega) hp) _⟩
theorem rightr9_cp (m : List Bd) (hm : m.length ≤ 140737488355) (ho : okB m) : CP (TT ()) 13 [.sl none 6 (bnsD m)] (· = .raw (.bool (rightB9 m))) := c4_run fun Q hQ => rightr_run m hm ho Q hQ
end Go.Proofs.Ytpnfbmhnmhahnaa
