/- limbecklaw09.BoundsTell, run over any data, where the program's calls answer as the document does. -/
import Derived.Test.YtaianeilokmalaaBdI
import Derived.Test.YtaianeilokmalaaBdR
import Derived.Test.YtaianeilokmalaaSbW
import Derived.Test.YtaianeilokmalaaTyS
import Derived.Test.YtaianeilokmalaaTyU
namespace Go.Proofs.Ytaianeilokmalaa
open Go.RowKit Pv
set_option maxRecDepth 100000
/-- Bindings of which a law of this layer asks. -/
structure FewB (m : List Bd) : Prop where
  ok : okB m
  len : m.length ≤ 20
  nodes : ∀ p ∈ m, nodesT p.2 ≤ 200
/-- What the program's package answers. -/
structure BoundsP : Prop where
  awake : CP (TT ()) 7 [] (· = .raw (.bool true))
  right : ∀ m, FewB m → CP (TT ()) 12 [.sl none 6 (bnsD m)] (· = .raw (.bool (rightB9 m)))
  names : ∀ m, FewB m → CP (TT ()) 16 [.sl none 6 (bnsD m)] (· = nmD m)
  find : ∀ m s, FewB m → s.size ≤ maxLen → CP (TT ()) 8 [.sl none 6 (bnsD m), .raw (.string s)] (· = pairD2 (findB m s))
  up : ∀ m t, FewB m → okT t → nodesT t ≤ 500 → CP (TT ()) 10 [.sl none 6 (bnsD m), tyD t] (· = pairD2 (upB9 m t))
  holds : ∀ m t, FewB m → okT t → nodesT t ≤ 500 → CP (TT ()) 18 [.sl none 6 (bnsD m), tyD t] (· = .raw (.bool (inB9 m t)))
theorem FewB.okN {m : List Bd} (h : FewB m) : okN m := fun u hu => by
  obtain ⟨p, hp, rfl⟩ := List.mem_map.1 hu
  exact (h.ok p hp).1
theorem sameS9_cp (a b : List ByteArray) (ha : ∀ u ∈ a, u.size ≤ maxLen) (hb : ∀ u ∈ b, u.size ≤ maxLen) : CP (TT ()) 15 [.sl none 1 (a.map strD), .sl none 1 (b.map strD)] (· = .raw (.bool (eqL a b))) :=
  cp_raw (callable_at Try.func15 (by kernel_rfl) rfl) fun S w args r => by
    obtain ⟨v, v', rfl, h, h'⟩ := rdL_two r
    exact rsameS_any v v' a b w (strs_in h ha) (strs_in h' hb)
theorem zT9_ok : okT zT9 := ⟨Nat.zero_le _, fun _ h => absurd h (by simp), trivial⟩
theorem findB_ok {m : List Bd} (h : okB m) (s : ByteArray) : okT (findB m s).1 := by
  unfold findB
  split
  · exact zT9_ok
  · simp only
    cases hq : m[(placeI (m.map Prod.fst) s).toNat]? with
    | none => exact zT9_ok
    | some p => exact (h p (List.mem_of_getElem? hq)).2
theorem upB9_ok {m : List Bd} (h : okB m) : ∀ {t : Ty5}, okT t → okT (upB9 m t).1
  | .mk k n nm ls ks, ht => by
    rw [upB9_mk]
    split
    · exact findB_ok h nm
    · exact ht
set_option maxHeartbeats 4000000 in
theorem tell_run (P : BoundsP) (m : List Bd) (s : ByteArray) (t : Ty5) (hm : okB m) (hs : s.size ≤ maxLen) (ht : okT t) (hzt : szT t ≤ 1048576) (hzm : ∀ p ∈ m, p.1.size ≤ 1048576 ∧ szT p.2 ≤ 1048576) (Q : D → H → Prop) (hQ : ∀ h', Q (.raw (.bool true)) h') :
    wfun TT 3 [.sl none 6 (bnsD m), .raw (.string s), tyD t] [] Q := by
  have cA := P.awake
  have cM := muchq_cp t ht hzt
  have cF := few_cp m hm hzm
  have main : much t ≤ 500 → (m.length ≤ 20 ∧ ∀ p ∈ m, much p.2 ≤ 200) →
      CP (TT ()) 8 [.sl none 6 (bnsD m), .raw (.string s)] (· = pairD2 (findB m s)) ∧
      CP (TT ()) 9 [.sl none 6 (bnsD m), .raw (.string s)] (· = pairD2 (findB m s)) ∧
      CP (TT ()) 10 [.sl none 6 (bnsD m), tyD t] (· = pairD2 (upB9 m t)) ∧
      CP (TT ()) 11 [.sl none 6 (bnsD m), tyD t] (· = pairD2 (upB9 m t)) ∧
      CP (TT ()) 12 [.sl none 6 (bnsD m)] (· = .raw (.bool (rightB9 m))) ∧
      CP (TT ()) 13 [.sl none 6 (bnsD m)] (· = .raw (.bool (rightB9 m))) ∧
      CP (TT ()) 16 [.sl none 6 (bnsD m)] (· = nmD m) ∧
      CP (TT ()) 17 [.sl none 6 (bnsD m)] (· = nmD m) ∧
      CP (TT ()) 18 [.sl none 6 (bnsD m), tyD t] (· = .raw (.bool (inB9 m t))) ∧
      CP (TT ()) 19 [.sl none 6 (bnsD m), tyD t] (· = .raw (.bool (inB9 m t))) ∧
      CP (TT ()) 14 [tyD (findB m s).1, tyD (findB m s).1] (· = .raw (.bool true)) ∧
      CP (TT ()) 14 [tyD (upB9 m t).1, tyD (upB9 m t).1] (· = .raw (.bool true)) ∧
      CP (TT ()) 15 [nmD m, nmD m] (· = .raw (.bool true)) := fun h1 h2 => by
    have hf : FewB m := ⟨hm, h2.1, fun p hp => Nat.le_trans (much_nodes _ (by have := h2.2 p hp; omega)) (h2.2 p hp)⟩
    have hn : nodesT t ≤ 500 := Nat.le_trans (much_nodes t (by omega)) h1
    have hl : m.length ≤ 140737488355 := by omega
    have e1 := sameq_cp _ _ (findB_ok hm s) (findB_ok hm s)
    have e2 := sameq_cp _ _ (upB9_ok hm ht) (upB9_ok hm ht)
    have e3 := sameS9_cp _ _ hf.okN hf.okN
    rw [same_refl] at e1 e2
    rw [eqL_refl] at e3
    exact ⟨P.find m s hf hs, findr_cp m hl s hf.okN, P.up m t hf ht hn, upr_cp m hl t hf.okN, P.right m hf, rightr9_cp m hl hm, P.names m hf, names_cp m hl, P.holds m t hf ht hn, inr_cp m hl hf.okN t (by omega), e1, e2, e3⟩
  have hp := ty_pure t
  have hBp := bns_pure m
  have hFp := pairD2_pure (findB m s)
  have hUp := pairD2_pure (upB9 m t)
  have hF1 := ty_pure (findB m s).1
  have hU1 := ty_pure (upB9 m t).1
  have hNp := names_pure m
  have hM : ∃ z : Int, ((much t : Nat) : Int) = z := ⟨_, rfl⟩
  obtain ⟨zt, hzt'⟩ := hM
  rw [hzt'] at cM
  have main := fun (h : zt ≤ 500) => main (by omega)
  unfold pairD2 at hFp hUp main
  unfold nmD at hNp main
  generalize findB m s = F at hFp hF1 main
  generalize upB9 m t = U at hUp hU1 main
  obtain ⟨F1, F2⟩ := F
  obtain ⟨U1, U2⟩ := U
  simp only at hFp hUp hF1 hU1 main
  generalize rightB9 m = bR at main
  generalize inB9 m t = bI at main
  generalize (m.map Prod.fst).map strD = NS at hNp main
  generalize bnsD m = BS at cF hBp main ⊢
  obtain ⟨k, x, nm, L, K, f0, i0, j0⟩ := c4_node t
  obtain ⟨k1, x1, nm1, L1, K1, f1, i1, j1⟩ := c4_node F1
  obtain ⟨k2, x2, nm2, L2, K2, f2, i2, j2⟩ := c4_node U1
  rw [f0] at cM hp ⊢
  rw [f0, f1, f2] at main
  rw [f1] at hFp hF1
  rw [f2] at hUp hU1
  clear f0 f1 f2 hzt ht
  cbv
  (repeat'((first|(apply zS;kernel_rfl)|(apply zD;decide +kernel)|(apply zE;decide +kernel)|(apply zF;decide +kernel)|(apply zL;decide +kernel)|(apply zM;decide +kernel)|(apply zN;intros)|(apply zO;intros)|(apply zT;omega)|(apply zU;omega)|(apply zP;omega;intros)|(apply zQ;omega;intros)|apply zR);cbv))
  refine CallK.pure cF (by simp [pureL, pureD, hBp]) ?_
  rintro d ⟨z, rfl, hz⟩
  refine ⟨rfl, ?_⟩
  cbv
  (repeat'((first|(apply zS;kernel_rfl)|(apply zD;decide +kernel)|(apply zE;decide +kernel)|(apply zF;decide +kernel)|(apply zL;decide +kernel)|(apply zM;decide +kernel)|(apply zN;intros)|(apply zO;intros)|(apply zT;omega)|(apply zU;omega)|(apply zP;omega;intros)|(apply zQ;omega;intros)|apply zR);cbv))
  refine BinK.gtr ?_ ?_ <;> intro hz1 <;> cbv <;> (repeat'((first|(apply zS;kernel_rfl)|(apply zD;decide +kernel)|(apply zE;decide +kernel)|(apply zF;decide +kernel)|(apply zL;decide +kernel)|(apply zM;decide +kernel)|(apply zN;intros)|(apply zO;intros)|(apply zT;omega)|(apply zU;omega)|(apply zP;omega;intros)|(apply zQ;omega;intros)|apply zR);cbv))
  · refine .one cA rfl rfl ?_
    cbv
    (repeat'((first|(apply zS;kernel_rfl)|(apply zD;decide +kernel)|(apply zE;decide +kernel)|(apply zF;decide +kernel)|(apply zL;decide +kernel)|(apply zM;decide +kernel)|(apply zN;intros)|(apply zO;intros)|(apply zT;omega)|(apply zU;omega)|(apply zP;omega;intros)|(apply zQ;omega;intros)|apply zR);cbv))
    exact ⟨hQ _⟩
  refine .one cM (cons_pure hp rfl) rfl ?_
  cbv
  (repeat'((first|(apply zS;kernel_rfl)|(apply zD;decide +kernel)|(apply zE;decide +kernel)|(apply zF;decide +kernel)|(apply zL;decide +kernel)|(apply zM;decide +kernel)|(apply zN;intros)|(apply zO;intros)|(apply zT;omega)|(apply zU;omega)|(apply zP;omega;intros)|(apply zQ;omega;intros)|apply zR);cbv))
  refine BinK.gtr ?_ ?_ <;> intro h500 <;> cbv <;> (repeat'((first|(apply zS;kernel_rfl)|(apply zD;decide +kernel)|(apply zE;decide +kernel)|(apply zF;decide +kernel)|(apply zL;decide +kernel)|(apply zM;decide +kernel)|(apply zN;intros)|(apply zO;intros)|(apply zT;omega)|(apply zU;omega)|(apply zP;omega;intros)|(apply zQ;omega;intros)|apply zR);cbv))
  · refine .one cA rfl rfl ?_
    cbv
    (repeat'((first|(apply zS;kernel_rfl)|(apply zD;decide +kernel)|(apply zE;decide +kernel)|(apply zF;decide +kernel)|(apply zL;decide +kernel)|(apply zM;decide +kernel)|(apply zN;intros)|(apply zO;intros)|(apply zT;omega)|(apply zU;omega)|(apply zP;omega;intros)|(apply zQ;omega;intros)|apply zR);cbv))
    exact ⟨hQ _⟩
  obtain ⟨c1, c2, c3, c4, c5, c6, c7, c8, c9, c10, c11, c12, c13⟩ := main h500 ⟨(hz (by omega)).1, fun p hp => by have := (hz (by omega)).2 p hp; omega⟩
  have hB1 : pureL [.sl none 6 BS] = some [.sl none 6 BS] := by simp [pureL, pureD, hBp]
  have hBD : pureD (.sl none 6 BS) = some (.sl none 6 BS) := by simp [pureD, hBp]
  refine .one c1 (cons_pure hBD rfl) hFp ?_
  cbv
  (repeat'((first|(apply zS;kernel_rfl)|(apply zD;decide +kernel)|(apply zE;decide +kernel)|(apply zF;decide +kernel)|(apply zL;decide +kernel)|(apply zM;decide +kernel)|(apply zN;intros)|(apply zO;intros)|(apply zT;omega)|(apply zU;omega)|(apply zP;omega;intros)|(apply zQ;omega;intros)|apply zR);cbv))
  refine .one c2 (cons_pure hBD rfl) hFp ?_
  cbv
  (repeat'((first|(apply zS;kernel_rfl)|(apply zD;decide +kernel)|(apply zE;decide +kernel)|(apply zF;decide +kernel)|(apply zL;decide +kernel)|(apply zM;decide +kernel)|(apply zN;intros)|(apply zO;intros)|(apply zT;omega)|(apply zU;omega)|(apply zP;omega;intros)|(apply zQ;omega;intros)|apply zR);cbv))
  refine .one c3 (cons_pure hBD (cons_pure hp rfl)) hUp ?_
  cbv
  (repeat'((first|(apply zS;kernel_rfl)|(apply zD;decide +kernel)|(apply zE;decide +kernel)|(apply zF;decide +kernel)|(apply zL;decide +kernel)|(apply zM;decide +kernel)|(apply zN;intros)|(apply zO;intros)|(apply zT;omega)|(apply zU;omega)|(apply zP;omega;intros)|(apply zQ;omega;intros)|apply zR);cbv))
  refine .one c4 (cons_pure hBD (cons_pure hp rfl)) hUp ?_
  cbv
  (repeat'((first|(apply zS;kernel_rfl)|(apply zD;decide +kernel)|(apply zE;decide +kernel)|(apply zF;decide +kernel)|(apply zL;decide +kernel)|(apply zM;decide +kernel)|(apply zN;intros)|(apply zO;intros)|(apply zT;omega)|(apply zU;omega)|(apply zP;omega;intros)|(apply zQ;omega;intros)|apply zR);cbv))
  refine .one c5 hB1 rfl ?_
  cbv
  (repeat'((first|(apply zS;kernel_rfl)|(apply zD;decide +kernel)|(apply zE;decide +kernel)|(apply zF;decide +kernel)|(apply zL;decide +kernel)|(apply zM;decide +kernel)|(apply zN;intros)|(apply zO;intros)|(apply zT;omega)|(apply zU;omega)|(apply zP;omega;intros)|(apply zQ;omega;intros)|apply zR);cbv))
  refine .one c6 hB1 rfl ?_
  cbv
  (repeat'((first|(apply zS;kernel_rfl)|(apply zD;decide +kernel)|(apply zE;decide +kernel)|(apply zF;decide +kernel)|(apply zL;decide +kernel)|(apply zM;decide +kernel)|(apply zN;intros)|(apply zO;intros)|(apply zT;omega)|(apply zU;omega)|(apply zP;omega;intros)|(apply zQ;omega;intros)|apply zR);cbv))
  refine ⟨.bool true, by cases bR <;> rfl, ?_⟩
  cbv
  (repeat'((first|(apply zS;kernel_rfl)|(apply zD;decide +kernel)|(apply zE;decide +kernel)|(apply zF;decide +kernel)|(apply zL;decide +kernel)|(apply zM;decide +kernel)|(apply zN;intros)|(apply zO;intros)|(apply zT;omega)|(apply zU;omega)|(apply zP;omega;intros)|(apply zQ;omega;intros)|apply zR);cbv))
  refine .one c11 (cons_pure hF1 (cons_pure hF1 rfl)) rfl ?_
  cbv
  (repeat'((first|(apply zS;kernel_rfl)|(apply zD;decide +kernel)|(apply zE;decide +kernel)|(apply zF;decide +kernel)|(apply zL;decide +kernel)|(apply zM;decide +kernel)|(apply zN;intros)|(apply zO;intros)|(apply zT;omega)|(apply zU;omega)|(apply zP;omega;intros)|(apply zQ;omega;intros)|apply zR);cbv))
  refine ⟨.bool true, by cases F2 <;> rfl, ?_⟩
  cbv
  (repeat'((first|(apply zS;kernel_rfl)|(apply zD;decide +kernel)|(apply zE;decide +kernel)|(apply zF;decide +kernel)|(apply zL;decide +kernel)|(apply zM;decide +kernel)|(apply zN;intros)|(apply zO;intros)|(apply zT;omega)|(apply zU;omega)|(apply zP;omega;intros)|(apply zQ;omega;intros)|apply zR);cbv))
  refine .one c12 (cons_pure hU1 (cons_pure hU1 rfl)) rfl ?_
  cbv
  (repeat'((first|(apply zS;kernel_rfl)|(apply zD;decide +kernel)|(apply zE;decide +kernel)|(apply zF;decide +kernel)|(apply zL;decide +kernel)|(apply zM;decide +kernel)|(apply zN;intros)|(apply zO;intros)|(apply zT;omega)|(apply zU;omega)|(apply zP;omega;intros)|(apply zQ;omega;intros)|apply zR);cbv))
  refine ⟨.bool true, by cases U2 <;> rfl, ?_⟩
  cbv
  (repeat'((first|(apply zS;kernel_rfl)|(apply zD;decide +kernel)|(apply zE;decide +kernel)|(apply zF;decide +kernel)|(apply zL;decide +kernel)|(apply zM;decide +kernel)|(apply zN;intros)|(apply zO;intros)|(apply zT;omega)|(apply zU;omega)|(apply zP;omega;intros)|(apply zQ;omega;intros)|apply zR);cbv))
  refine .one c7 hB1 hNp ?_
  cbv
  (repeat'((first|(apply zS;kernel_rfl)|(apply zD;decide +kernel)|(apply zE;decide +kernel)|(apply zF;decide +kernel)|(apply zL;decide +kernel)|(apply zM;decide +kernel)|(apply zN;intros)|(apply zO;intros)|(apply zT;omega)|(apply zU;omega)|(apply zP;omega;intros)|(apply zQ;omega;intros)|apply zR);cbv))
  refine .one c8 hB1 hNp ?_
  cbv
  (repeat'((first|(apply zS;kernel_rfl)|(apply zD;decide +kernel)|(apply zE;decide +kernel)|(apply zF;decide +kernel)|(apply zL;decide +kernel)|(apply zM;decide +kernel)|(apply zN;intros)|(apply zO;intros)|(apply zT;omega)|(apply zU;omega)|(apply zP;omega;intros)|(apply zQ;omega;intros)|apply zR);cbv))
  refine .one c13 (cons_pure hNp (cons_pure hNp rfl)) rfl ?_
  cbv
  (repeat'((first|(apply zS;kernel_rfl)|(apply zD;decide +kernel)|(apply zE;decide +kernel)|(apply zF;decide +kernel)|(apply zL;decide +kernel)|(apply zM;decide +kernel)|(apply zN;intros)|(apply zO;intros)|(apply zT;omega)|(apply zU;omega)|(apply zP;omega;intros)|(apply zQ;omega;intros)|apply zR);cbv))
  refine .one c9 (cons_pure hBD (cons_pure hp rfl)) rfl ?_
  cbv
  (repeat'((first|(apply zS;kernel_rfl)|(apply zD;decide +kernel)|(apply zE;decide +kernel)|(apply zF;decide +kernel)|(apply zL;decide +kernel)|(apply zM;decide +kernel)|(apply zN;intros)|(apply zO;intros)|(apply zT;omega)|(apply zU;omega)|(apply zP;omega;intros)|(apply zQ;omega;intros)|apply zR);cbv))
  refine .one c10 (cons_pure hBD (cons_pure hp rfl)) rfl ?_
  cbv
  (repeat'((first|(apply zS;kernel_rfl)|(apply zD;decide +kernel)|(apply zE;decide +kernel)|(apply zF;decide +kernel)|(apply zL;decide +kernel)|(apply zM;decide +kernel)|(apply zN;intros)|(apply zO;intros)|(apply zT;omega)|(apply zU;omega)|(apply zP;omega;intros)|(apply zQ;omega;intros)|apply zR);cbv))
  refine ⟨.bool true, by cases bI <;> rfl, ?_⟩
  cbv
  (repeat'((first|(apply zS;kernel_rfl)|(apply zD;decide +kernel)|(apply zE;decide +kernel)|(apply zF;decide +kernel)|(apply zL;decide +kernel)|(apply zM;decide +kernel)|(apply zN;intros)|(apply zO;intros)|(apply zT;omega)|(apply zU;omega)|(apply zP;omega;intros)|(apply zQ;omega;intros)|apply zR);cbv))
  refine .one cA rfl rfl ?_
  cbv
  (repeat'((first|(apply zS;kernel_rfl)|(apply zD;decide +kernel)|(apply zE;decide +kernel)|(apply zF;decide +kernel)|(apply zL;decide +kernel)|(apply zM;decide +kernel)|(apply zN;intros)|(apply zO;intros)|(apply zT;omega)|(apply zU;omega)|(apply zP;omega;intros)|(apply zQ;omega;intros)|apply zR);cbv))
  exact ⟨hQ _⟩
end Go.Proofs.Ytaianeilokmalaa
