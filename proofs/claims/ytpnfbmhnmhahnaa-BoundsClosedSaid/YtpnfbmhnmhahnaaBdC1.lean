/- limbecklaw09.BoundsTell over contracts; right bounds: what is up has no variables. -/
import Derived.Test.YtpnfbmhnmhahnaaBdM
import Derived.Test.YtpnfbmhnmhahnaaSbW
import Derived.Test.YtpnfbmhnmhahnaaTyS
import Derived.Test.YtpnfbmhnmhahnaaTyU
namespace Go.Proofs.Ytpnfbmhnmhahnaa
open Go.RowKit Pv
set_option maxRecDepth 100000
/-- What the program's package answers. -/
structure BoundsP : Prop where
  awake : CP (TT ()) 7 [] (· = .raw (.bool true))
  right : ∀ m, FewB m → CP (TT ()) 12 [.sl none 6 (bnsD m)] (· = .raw (.bool (rightB9 m)))
  names : ∀ m, FewB m → CP (TT ()) 16 [.sl none 6 (bnsD m)] (· = nmD m)
  find : ∀ m s, FewB m → s.size ≤ maxLen → CP (TT ()) 8 [.sl none 6 (bnsD m), .raw (.string s)] (· = pairD2 (findB m s))
  up : ∀ m t, FewB m → okT t → nodesT t ≤ 500 → CP (TT ()) 10 [.sl none 6 (bnsD m), tyD t] (· = pairD2 (upB9 m t))
  holds : ∀ m t, FewB m → okT t → nodesT t ≤ 500 → CP (TT ()) 18 [.sl none 6 (bnsD m), tyD t] (· = .raw (.bool (inB9 m t)))
theorem sameS9_cp (a b : List ByteArray) (ha : ∀ u ∈ a, u.size ≤ maxLen) (hb : ∀ u ∈ b, u.size ≤ maxLen) : CP (TT ()) 15 [.sl none 1 (a.map strD), .sl none 1 (b.map strD)] (· = .raw (.bool (eqL a b))) :=
  cp_raw (callable_at Try.func15 (by kernel_rfl) rfl) fun S w args r => by
    obtain ⟨v, v', rfl, h, h'⟩ := rdL_two r
    exact rsameS_any v v' a b w (strs_in h ha) (strs_in h' hb)
set_option maxHeartbeats 4000000 in
theorem tell_run (P : BoundsP) (m : List Bd) (s : ByteArray) (t : Ty5) (hm : okB m) (hs : s.size ≤ maxLen) (ht : okT t) (hzt : szT t ≤ 1048576) (hzm : ∀ p ∈ m, p.1.size ≤ 1048576 ∧ szT p.2 ≤ 1048576) (Q : D → H → Prop) (hQ : ∀ h', Q (.raw (.bool true)) h') :
    wfun TT 3 [.sl none 6 (bnsD m), .raw (.string s), tyD t] [] Q := by
  have cA := P.awake
  have cM := muchq_cp t ht hzt
  have cF := few_cp m hm hzm
  have main : much t ≤ 500 → (m.length ≤ 20 ∧ ∀ p ∈ m, much p.2 ≤ 200) →
      CP (TT ()) 8 [.sl none 6 (bnsD m), .raw (.string s)] (· = pairD2 (findB m s)) ∧
      CP (TT ()) 9 [.sl none 6 (bnsD m), .raw (.string s)] (· = pairD2 (findB m s)) ∧
      CP (TT ()) 10 [.sl none 6 (bnsD m), tyD t] (· = pairD2 (upB9 m t)) ∧
      CP (TT ()) 11 [.sl none 6 (bnsD m), tyD t] (· = pairD2 (upB9 m t)) ∧
      CP (TT ()) 12 [.sl none 6 (bnsD m)] (· = .raw (.bool (rightB9 m))) ∧
      CP (TT ()) 13 [.sl none 6 (bnsD m)] (· = .raw (.bool (rightB9 m))) ∧
      CP (TT ()) 16 [.sl none 6 (bnsD m)] (· = nmD m) ∧
      CP (TT ()) 17 [.sl none 6 (bnsD m)] (· = nmD m) ∧
      CP (TT ()) 18 [.sl none 6 (bnsD m), tyD t] (· = .raw (.bool (inB9 m t))) ∧
      CP (TT ()) 19 [.sl none 6 (bnsD m), tyD t] (· = .raw (.bool (inB9 m t))) ∧
      CP (TT ()) 14 [tyD (findB m s).1, tyD (findB m s).1] (· = .raw (.bool true)) ∧
      CP (TT ()) 14 [tyD (upB9 m t).1, tyD (upB9 m t).1] (· = .raw (.bool true)) ∧
      CP (TT ()) 15 [nmD m, nmD m] (· = .raw (.bool true)) := fun h1 h2 => by
    have hf : FewB m := ⟨hm, h2.1, fun p hp => Nat.le_trans (much_nodes _ (by have := h2.2 p hp; omega)) (h2.2 p hp)⟩
    have hn : nodesT t ≤ 500 := Nat.le_trans (much_nodes t (by omega)) h1
    have hl : m.length ≤ 140737488355 := by omega
    have e1 := sameq_cp _ _ (findB_ok hm s) (findB_ok hm s)
    have e2 := sameq_cp _ _ (upB9_ok hm ht) (upB9_ok hm ht)
    have e3 := sameS9_cp _ _ hf.okN hf.okN
    rw [same_refl] at e1 e2
    rw [eqL_refl] at e3
    exact ⟨P.find m s hf hs, findr_cp m hl s hf.okN, P.up m t hf ht hn, upr_cp m hl t hf.okN, P.right m hf, rightr9_cp m hl hm, P.names m hf, names_cp m hl, P.holds m t hf ht hn, inr_cp m hl hf.okN t (by omega), e1, e2, e3⟩
  have hp := ty_pure t
  have hBp := bns_pure m
  have hFp := pairD2_pure (findB m s)
  have hUp := pairD2_pure (upB9 m t)
  have hF1 := ty_pure (findB m s).1
  have hU1 := ty_pure (upB9 m t).1
  have hNp := names_pure m
  have hM : ∃ z : Int, ((much t : Nat) : Int) = z := ⟨_, rfl⟩
  obtain ⟨zt, hzt'⟩ := hM
  rw [hzt'] at cM
  have main := fun (h : zt ≤ 500) => main (by omega)
  unfold pairD2 at hFp hUp main
  unfold nmD at hNp main
  generalize findB m s = F at hFp hF1 main
  generalize upB9 m t = U at hUp hU1 main
  obtain ⟨F1, F2⟩ := F
  obtain ⟨U1, U2⟩ := U
  simp only at hFp hUp hF1 hU1 main
  generalize rightB9 m = bR at main
  generalize inB9 m t = bI at main
  generalize (m.map Prod.fst).map strD = NS at hNp main
  generalize bnsD m = BS at cF hBp main ⊢
  obtain ⟨k, x, nm, L, K, f0, i0, j0⟩ := c4_node t
  obtain ⟨k1, x1, nm1, L1, K1, f1, i1, j1⟩ := c4_node F1
  obtain ⟨k2, x2, nm2, L2, K2, f2, i2, j2⟩ := c4_node U1
  rw [f0] at cM hp ⊢
  rw [f0, f1, f2] at main
  rw [f1] at hFp hF1
  rw [f2] at hUp hU1
  clear f0 f1 f2 hzt ht
  cbv
  (repeat'((first|(apply zS;kernel_rfl)|(apply zD;decide +kernel)|(apply zE;decide +kernel)|(apply zF;decide +kernel)|(apply zL;decide +kernel)|(apply zM;decide +kernel)|(apply zN;intros)|(apply zO;intros)|(apply zT;omega)|(apply zU;omega)|(apply zP;omega;intros)|(apply zQ;omega;intros)|apply zR);cbv))
  refine CallK.pure cF (by simp [pureL, pureD, hBp]) ?_
  rintro d ⟨z, rfl, hz⟩
  refine ⟨rfl, ?_⟩
  cbv
  (repeat'((first|(apply zS;kernel_rfl)|(apply zD;decide +kernel)|(apply zE;decide +kernel)|(apply zF;decide +kernel)|(apply zL;decide +kernel)|(apply zM;decide +kernel)|(apply zN;intros)|(apply zO;intros)|(apply zT;omega)|(apply zU;omega)|(apply zP;omega;intros)|(apply zQ;omega;intros)|apply zR);cbv))
  refine BinK.gtr ?_ ?_ <;> intro hz1 <;> cbv <;> (repeat'((first|(apply zS;kernel_rfl)|(apply zD;decide +kernel)|(apply zE;decide +kernel)|(apply zF;decide +kernel)|(apply zL;decide +kernel)|(apply zM;decide +kernel)|(apply zN;intros)|(apply zO;intros)|(apply zT;omega)|(apply zU;omega)|(apply zP;omega;intros)|(apply zQ;omega;intros)|apply zR);cbv))
  · refine .one cA rfl rfl ?_
    cbv
    (repeat'((first|(apply zS;kernel_rfl)|(apply zD;decide +kernel)|(apply zE;decide +kernel)|(apply zF;decide +kernel)|(apply zL;decide +kernel)|(apply zM;decide +kernel)|(apply zN;intros)|(apply zO;intros)|(apply zT;omega)|(apply zU;omega)|(apply zP;omega;intros)|(apply zQ;omega;intros)|apply zR);cbv))
    exact ⟨hQ _⟩
  refine .one cM (cons_pure hp rfl) rfl ?_
  cbv
  (repeat'((first|(apply zS;kernel_rfl)|(apply zD;decide +kernel)|(apply zE;decide +kernel)|(apply zF;decide +kernel)|(apply zL;decide +kernel)|(apply zM;decide +kernel)|(apply zN;intros)|(apply zO;intros)|(apply zT;omega)|(apply zU;omega)|(apply zP;omega;intros)|(apply zQ;omega;intros)|apply zR);cbv))
  refine BinK.gtr ?_ ?_ <;> intro h500 <;> cbv <;> (repeat'((first|(apply zS;kernel_rfl)|(apply zD;decide +kernel)|(apply zE;decide +kernel)|(apply zF;decide +kernel)|(apply zL;decide +kernel)|(apply zM;decide +kernel)|(apply zN;intros)|(apply zO;intros)|(apply zT;omega)|(apply zU;omega)|(apply zP;omega;intros)|(apply zQ;omega;intros)|apply zR);cbv))
  · refine .one cA rfl rfl ?_
    cbv
    (repeat'((first|(apply zS;kernel_rfl)|(apply zD;decide +kernel)|(apply zE;decide +kernel)|(apply zF;decide +kernel)|(apply zL;decide +kernel)|(apply zM;decide +kernel)|(apply zN;intros)|(apply zO;intros)|(apply zT;omega)|(apply zU;omega)|(apply zP;omega;intros)|(apply zQ;omega;intros)|apply zR);cbv))
    exact ⟨hQ _⟩
  obtain ⟨c1, c2, c3, c4, c5, c6, c7, c8, c9, c10, c11, c12, c13⟩ := main h500 ⟨(hz (by omega)).1, fun p hp => by have := (hz (by omega)).2 p hp; omega⟩
  have hB1 : pureL [.sl none 6 BS] = some [.sl none 6 BS] := by simp [pureL, pureD, hBp]
  have hBD : pureD (.sl none 6 BS) = some (.sl none 6 BS) := by simp [pureD, hBp]
  refine .one c1 (cons_pure hBD rfl) hFp ?_
  cbv
  (repeat'((first|(apply zS;kernel_rfl)|(apply zD;decide +kernel)|(apply zE;decide +kernel)|(apply zF;decide +kernel)|(apply zL;decide +kernel)|(apply zM;decide +kernel)|(apply zN;intros)|(apply zO;intros)|(apply zT;omega)|(apply zU;omega)|(apply zP;omega;intros)|(apply zQ;omega;intros)|apply zR);cbv))
  refine .one c2 (cons_pure hBD rfl) hFp ?_
  cbv
  (repeat'((first|(apply zS;kernel_rfl)|(apply zD;decide +kernel)|(apply zE;decide +kernel)|(apply zF;decide +kernel)|(apply zL;decide +kernel)|(apply zM;decide +kernel)|(apply zN;intros)|(apply zO;intros)|(apply zT;omega)|(apply zU;omega)|(apply zP;omega;intros)|(apply zQ;omega;intros)|apply zR);cbv))
  refine .one c3 (cons_pure hBD (cons_pure hp rfl)) hUp ?_
  cbv
  (repeat'((first|(apply zS;kernel_rfl)|(apply zD;decide +kernel)|(apply zE;decide +kernel)|(apply zF;decide +kernel)|(apply zL;decide +kernel)|(apply zM;decide +kernel)|(apply zN;intros)|(apply zO;intros)|(apply zT;omega)|(apply zU;omega)|(apply zP;omega;intros)|(apply zQ;omega;intros)|apply zR);cbv))
  refine .one c4 (cons_pure hBD (cons_pure hp rfl)) hUp ?_
  cbv
  (repeat'((first|(apply zS;kernel_rfl)|(apply zD;decide +kernel)|(apply zE;decide +kernel)|(apply zF;decide +kernel)|(apply zL;decide +kernel)|(apply zM;decide +kernel)|(apply zN;intros)|(apply zO;intros)|(apply zT;omega)|(apply zU;omega)|(apply zP;omega;intros)|(apply zQ;omega;intros)|apply zR);cbv))
  refine .one c5 hB1 rfl ?_
  cbv
  (repeat'((first|(apply zS;kernel_rfl)|(apply zD;decide +kernel)|(apply zE;decide +kernel)|(apply zF;decide +kernel)|(apply zL;decide +kernel)|(apply zM;decide +kernel)|(apply zN;intros)|(apply zO;intros)|(apply zT;omega)|(apply zU;omega)|(apply zP;omega;intros)|(apply zQ;omega;intros)|apply zR);cbv))
  refine .one c6 hB1 rfl ?_
  cbv
  (repeat'((first|(apply zS;kernel_rfl)|(apply zD;decide +kernel)|(apply zE;decide +kernel)|(apply zF;decide +kernel)|(apply zL;decide +kernel)|(apply zM;decide +kernel)|(apply zN;intros)|(apply zO;intros)|(apply zT;omega)|(apply zU;omega)|(apply zP;omega;intros)|(apply zQ;omega;intros)|apply zR);cbv))
  refine ⟨.bool true, by cases bR <;> rfl, ?_⟩
  cbv
  (repeat'((first|(apply zS;kernel_rfl)|(apply zD;decide +kernel)|(apply zE;decide +kernel)|(apply zF;decide +kernel)|(apply zL;decide +kernel)|(apply zM;decide +kernel)|(apply zN;intros)|(apply zO;intros)|(apply zT;omega)|(apply zU;omega)|(apply zP;omega;intros)|(apply zQ;omega;intros)|apply zR);cbv))
  refine .one c11 (cons_pure hF1 (cons_pure hF1 rfl)) rfl ?_
  cbv
  (repeat'((first|(apply zS;kernel_rfl)|(apply zD;decide +kernel)|(apply zE;decide +kernel)|(apply zF;decide +kernel)|(apply zL;decide +kernel)|(apply zM;decide +kernel)|(apply zN;intros)|(apply zO;intros)|(apply zT;omega)|(apply zU;omega)|(apply zP;omega;intros)|(apply zQ;omega;intros)|apply zR);cbv))
  refine ⟨.bool true, by cases F2 <;> rfl, ?_⟩
  cbv
  (repeat'((first|(apply zS;kernel_rfl)|(apply zD;decide +kernel)|(apply zE;decide +kernel)|(apply zF;decide +kernel)|(apply zL;decide +kernel)|(apply zM;decide +kernel)|(apply zN;intros)|(apply zO;intros)|(apply zT;omega)|(apply zU;omega)|(apply zP;omega;intros)|(apply zQ;omega;intros)|apply zR);cbv))
  refine .one c12 (cons_pure hU1 (cons_pure hU1 rfl)) rfl ?_
  cbv
  (repeat'((first|(apply zS;kernel_rfl)|(apply zD;decide +kernel)|(apply zE;decide +kernel)|(apply zF;decide +kernel)|(apply zL;decide +kernel)|(apply zM;decide +kernel)|(apply zN;intros)|(apply zO;intros)|(apply zT;omega)|(apply zU;omega)|(apply zP;omega;intros)|(apply zQ;omega;intros)|apply zR);cbv))
  refine ⟨.bool true, by cases U2 <;> rfl, ?_⟩
  cbv
  (repeat'((first|(apply zS;kernel_rfl)|(apply zD;decide +kernel)|(apply zE;decide +kernel)|(apply zF;decide +kernel)|(apply zL;decide +kernel)|(apply zM;decide +kernel)|(apply zN;intros)|(apply zO;intros)|(apply zT;omega)|(apply zU;omega)|(apply zP;omega;intros)|(apply zQ;omega;intros)|apply zR);cbv))
  refine .one c7 hB1 hNp ?_
  cbv
  (repeat'((first|(apply zS;kernel_rfl)|(apply zD;decide +kernel)|(apply zE;decide +kernel)|(apply zF;decide +kernel)|(apply zL;decide +kernel)|(apply zM;decide +kernel)|(apply zN;intros)|(apply zO;intros)|(apply zT;omega)|(apply zU;omega)|(apply zP;omega;intros)|(apply zQ;omega;intros)|apply zR);cbv))
  refine .one c8 hB1 hNp ?_
  cbv
  (repeat'((first|(apply zS;kernel_rfl)|(apply zD;decide +kernel)|(apply zE;decide +kernel)|(apply zF;decide +kernel)|(apply zL;decide +kernel)|(apply zM;decide +kernel)|(apply zN;intros)|(apply zO;intros)|(apply zT;omega)|(apply zU;omega)|(apply zP;omega;intros)|(apply zQ;omega;intros)|apply zR);cbv))
  refine .one c13 (cons_pure hNp (cons_pure hNp rfl)) rfl ?_
  cbv
  (repeat'((first|(apply zS;kernel_rfl)|(apply zD;decide +kernel)|(apply zE;decide +kernel)|(apply zF;decide +kernel)|(apply zL;decide +kernel)|(apply zM;decide +kernel)|(apply zN;intros)|(apply zO;intros)|(apply zT;omega)|(apply zU;omega)|(apply zP;omega;intros)|(apply zQ;omega;intros)|apply zR);cbv))
  refine .one c9 (cons_pure hBD (cons_pure hp rfl)) rfl ?_
  cbv
  (repeat'((first|(apply zS;kernel_rfl)|(apply zD;decide +kernel)|(apply zE;decide +kernel)|(apply zF;decide +kernel)|(apply zL;decide +kernel)|(apply zM;decide +kernel)|(apply zN;intros)|(apply zO;intros)|(apply zT;omega)|(apply zU;omega)|(apply zP;omega;intros)|(apply zQ;omega;intros)|apply zR);cbv))
  refine .one c10 (cons_pure hBD (cons_pure hp rfl)) rfl ?_
  cbv
  (repeat'((first|(apply zS;kernel_rfl)|(apply zD;decide +kernel)|(apply zE;decide +kernel)|(apply zF;decide +kernel)|(apply zL;decide +kernel)|(apply zM;decide +kernel)|(apply zN;intros)|(apply zO;intros)|(apply zT;omega)|(apply zU;omega)|(apply zP;omega;intros)|(apply zQ;omega;intros)|apply zR);cbv))
  refine ⟨.bool true, by cases bI <;> rfl, ?_⟩
  cbv
  (repeat'((first|(apply zS;kernel_rfl)|(apply zD;decide +kernel)|(apply zE;decide +kernel)|(apply zF;decide +kernel)|(apply zL;decide +kernel)|(apply zM;decide +kernel)|(apply zN;intros)|(apply zO;intros)|(apply zT;omega)|(apply zU;omega)|(apply zP;omega;intros)|(apply zQ;omega;intros)|apply zR);cbv))
  refine .one cA rfl rfl ?_
  cbv
  (repeat'((first|(apply zS;kernel_rfl)|(apply zD;decide +kernel)|(apply zE;decide +kernel)|(apply zF;decide +kernel)|(apply zL;decide +kernel)|(apply zM;decide +kernel)|(apply zN;intros)|(apply zO;intros)|(apply zT;omega)|(apply zU;omega)|(apply zP;omega;intros)|(apply zQ;omega;intros)|apply zR);cbv))
  exact ⟨hQ _⟩
end Go.Proofs.Ytpnfbmhnmhahnaa
namespace Go.Proofs.Ytpnfbmhnmhahnaa
open Go.RowKit Pv
theorem wk_nil6 (ds : List D) : WkL (.raw (.slice none 0 0) :: ds) (.sl none 6 (bnsD []) :: ds) := .cons (nil_any 6) (.refl ds)
theorem cp_wk {k : FuncId} {ds es : List D} {Q : D → Prop} (c : CP (TT ()) k es Q) (hw : WkL ds es) : CP (TT ()) k ds Q := ⟨c.1, fun S w args hS r => c.2 S w args hS (hw _ _ _ r)⟩
theorem fewB_nil : FewB [] := ⟨fun _ h => by simp at h, by simp, fun _ h => by simp at h⟩
set_option maxRecDepth 100000
set_option maxHeartbeats 4000000 in
theorem closed_run (P : BoundsP) (m : List Bd) (k n : Int) (nm : ByteArray) (ls : List ByteArray) (ks : List Ty5) (hm : okB m) (ht : okT (.mk k n nm ls ks)) (hzt : szT (.mk k n nm ls ks) ≤ 1048576) (hzm : ∀ p ∈ m, p.1.size ≤ 1048576 ∧ szT p.2 ≤ 1048576) (Q : D → H → Prop) (hQ : ∀ h', Q (.raw (.bool true)) h') :
    wfun TT 4 [.sl none 6 (bnsD m), tyD (.mk k n nm ls ks)] [] Q := by
  have cA := P.awake
  have cM := muchq_cp _ ht hzt
  have cF := few_cp m hm hzm
  have cR := right9_cp _ ht
  have main0 : much (.mk k n nm ls ks) ≤ 500 → (m.length ≤ 20 ∧ ∀ p ∈ m, much p.2 ≤ 200) → CP (TT ()) 12 [.sl none 6 (bnsD m)] (· = .raw (.bool (rightB9 m))) := fun h1 h2 =>
    P.right m ⟨hm, h2.1, fun p hp => Nat.le_trans (much_nodes _ (by have := h2.2 p hp; omega)) (h2.2 p hp)⟩
  have hUo := upB9_ok hm ht
  have main : much (.mk k n nm ls ks) ≤ 500 → (m.length ≤ 20 ∧ ∀ p ∈ m, much p.2 ≤ 200) →
      CP (TT ()) 10 [.sl none 6 (bnsD m), tyD (.mk k n nm ls ks)] (· = pairD2 (upB9 m (.mk k n nm ls ks))) ∧
      CP (TT ()) 10 [.sl none 6 (bnsD m), tyD (upB9 m (.mk k n nm ls ks)).1] (· = pairD2 (upB9 m (upB9 m (.mk k n nm ls ks)).1)) ∧
      CP (TT ()) 8 [.sl none 6 (bnsD m), .raw (.string nm)] (· = pairD2 (findB m nm)) ∧
      CP (TT ()) 14 [tyD (upB9 m (.mk k n nm ls ks)).1, tyD (upB9 m (.mk k n nm ls ks)).1] (· = .raw (.bool true)) ∧
      CP (TT ()) 21 [tyD (upB9 m (.mk k n nm ls ks)).1] (· = .raw (.bool (!hasT 6 (upB9 m (.mk k n nm ls ks)).1))) ∧
      CP (TT ()) 18 [.raw (.slice none 0 0), tyD (upB9 m (.mk k n nm ls ks)).1] (· = .raw (.bool (inB9 [] (upB9 m (.mk k n nm ls ks)).1))) ∧
      CP (TT ()) 18 [.sl none 6 (bnsD m), tyD (.mk k n nm ls ks)] (· = .raw (.bool (inB9 m (.mk k n nm ls ks)))) := fun h1 h2 => by
    have hb : ∀ p ∈ m, nodesT p.2 ≤ 200 := fun p hp => Nat.le_trans (much_nodes _ (by have := h2.2 p hp; omega)) (h2.2 p hp)
    have hf : FewB m := ⟨hm, h2.1, hb⟩
    have hn : nodesT (.mk k n nm ls ks) ≤ 500 := Nat.le_trans (much_nodes _ (by omega)) h1
    have hun := upB9_nodes hb hn
    have e1 := sameq_cp _ _ hUo hUo
    rw [same_refl] at e1
    exact ⟨P.up m _ hf ht hn, P.up m _ hf hUo hun, P.find m nm hf ht.1, e1, closed9_cp _ hUo, cp_wk (P.holds [] _ fewB_nil hUo hun) (wk_nil6 _), P.holds m _ hf ht hn⟩
  have no : (upB9 m (.mk k n nm ls ks)).2 = false → upB9 m (.mk k n nm ls ks) = (.mk k n nm ls ks, false) ∧ (k = 6 → (findB m nm).2 = false) := up_no
  have yes : rightB9 m = true → rightT varB risingB (.mk k n nm ls ks) = true → (upB9 m (.mk k n nm ls ks)).2 = true → (upB9 m (.mk k n nm ls ks)).1 = (findB m nm).1 ∧ hasT 6 (upB9 m (.mk k n nm ls ks)).1 = false ∧ upB9 m (upB9 m (.mk k n nm ls ks)).1 = ((upB9 m (.mk k n nm ls ks)).1, false) ∧ inB9 [] (upB9 m (.mk k n nm ls ks)).1 = true ∧ inB9 m (.mk k n nm ls ks) = true := fun h1 h2 h3 => by
    obtain ⟨_, e1, e2, _, e4⟩ := up_yes h1 h2 h3
    rw [← e1] at e2
    exact ⟨e1, e2, closed_up m e2, closed_in [] e2, e4⟩
  have hp := ty_pure (.mk k n nm ls ks)
  have hBp := bns_pure m
  have hFp := pairD2_pure (findB m nm)
  have hF1 := ty_pure (findB m nm).1
  have hUp := pairD2_pure (upB9 m (.mk k n nm ls ks))
  have hU1 := ty_pure (upB9 m (.mk k n nm ls ks)).1
  have hVp := pairD2_pure (upB9 m (upB9 m (.mk k n nm ls ks)).1)
  have hM : ∃ z : Int, ((much (.mk k n nm ls ks) : Nat) : Int) = z := ⟨_, rfl⟩
  obtain ⟨zt, hzt'⟩ := hM
  rw [hzt'] at cM
  replace main := fun (h : zt ≤ 500) => main (by omega)
  replace main0 := fun (h : zt ≤ 500) => main0 (by omega)
  clear hUo hzt hzt' ht
  have hT : tyD (.mk k n nm ls ks) = .agg [.raw (.int .i64 k), .raw (.int .i64 n), .raw (.string nm), .sl none 1 (ls.map strD), .sl none 5 (tysD ks)] := rfl
  rw [hT] at cM cR main hp ⊢
  have hU0 : ∀ b, pairD2 (.mk k n nm ls ks, b) = .tup [.agg [.raw (.int .i64 k), .raw (.int .i64 n), .raw (.string nm), .sl none 1 (ls.map strD), .sl none 5 (tysD ks)], .raw (.bool b)] := fun b => rfl
  generalize ls.map strD = LS at cM cR main hp hT hU0 ⊢
  generalize tysD ks = KS at cM cR main hp hT hU0 ⊢
  generalize Ty5.mk k n nm ls ks = T at *
  generalize bnsD m = BS at cF hBp main0 main ⊢
  cbv
  (repeat'((first|(apply zS;kernel_rfl)|(apply zD;decide +kernel)|(apply zE;decide +kernel)|(apply zF;decide +kernel)|(apply zL;decide +kernel)|(apply zM;decide +kernel)|(apply zN;intros)|(apply zO;intros)|(apply zT;omega)|(apply zU;omega)|(apply zP;omega;intros)|(apply zQ;omega;intros)|apply zR);cbv))
  refine CallK.pure cF (by simp [pureL, pureD, hBp]) ?_
  rintro d ⟨z, rfl, hz⟩
  refine ⟨rfl, ?_⟩
  cbv
  (repeat'((first|(apply zS;kernel_rfl)|(apply zD;decide +kernel)|(apply zE;decide +kernel)|(apply zF;decide +kernel)|(apply zL;decide +kernel)|(apply zM;decide +kernel)|(apply zN;intros)|(apply zO;intros)|(apply zT;omega)|(apply zU;omega)|(apply zP;omega;intros)|(apply zQ;omega;intros)|apply zR);cbv))
  refine BinK.gtr ?_ ?_ <;> intro hz1 <;> cbv <;> (repeat'((first|(apply zS;kernel_rfl)|(apply zD;decide +kernel)|(apply zE;decide +kernel)|(apply zF;decide +kernel)|(apply zL;decide +kernel)|(apply zM;decide +kernel)|(apply zN;intros)|(apply zO;intros)|(apply zT;omega)|(apply zU;omega)|(apply zP;omega;intros)|(apply zQ;omega;intros)|apply zR);cbv))
  · refine .one cA rfl rfl ?_
    cbv
    (repeat'((first|(apply zS;kernel_rfl)|(apply zD;decide +kernel)|(apply zE;decide +kernel)|(apply zF;decide +kernel)|(apply zL;decide +kernel)|(apply zM;decide +kernel)|(apply zN;intros)|(apply zO;intros)|(apply zT;omega)|(apply zU;omega)|(apply zP;omega;intros)|(apply zQ;omega;intros)|apply zR);cbv))
    exact ⟨hQ _⟩
  refine .one cM (cons_pure hp rfl) rfl ?_
  cbv
  (repeat'((first|(apply zS;kernel_rfl)|(apply zD;decide +kernel)|(apply zE;decide +kernel)|(apply zF;decide +kernel)|(apply zL;decide +kernel)|(apply zM;decide +kernel)|(apply zN;intros)|(apply zO;intros)|(apply zT;omega)|(apply zU;omega)|(apply zP;omega;intros)|(apply zQ;omega;intros)|apply zR);cbv))
  refine BinK.gtr ?_ ?_ <;> intro h500 <;> cbv <;> (repeat'((first|(apply zS;kernel_rfl)|(apply zD;decide +kernel)|(apply zE;decide +kernel)|(apply zF;decide +kernel)|(apply zL;decide +kernel)|(apply zM;decide +kernel)|(apply zN;intros)|(apply zO;intros)|(apply zT;omega)|(apply zU;omega)|(apply zP;omega;intros)|(apply zQ;omega;intros)|apply zR);cbv))
  · refine .one cA rfl rfl ?_
    cbv
    (repeat'((first|(apply zS;kernel_rfl)|(apply zD;decide +kernel)|(apply zE;decide +kernel)|(apply zF;decide +kernel)|(apply zL;decide +kernel)|(apply zM;decide +kernel)|(apply zN;intros)|(apply zO;intros)|(apply zT;omega)|(apply zU;omega)|(apply zP;omega;intros)|(apply zQ;omega;intros)|apply zR);cbv))
    exact ⟨hQ _⟩
  have hfew : m.length ≤ 20 ∧ ∀ p ∈ m, much p.2 ≤ 200 := ⟨(hz (by omega)).1, fun p hp => by have := (hz (by omega)).2 p hp; omega⟩
  replace main0 := main0 h500 hfew
  have hB1 : pureL [.sl none 6 BS] = some [.sl none 6 BS] := by simp [pureL, pureD, hBp]
  have hBD : pureD (.sl none 6 BS) = some (.sl none 6 BS) := by simp [pureD, hBp]
  generalize rightB9 m = bR at main0 yes
  generalize rightT varB risingB T = bT at cR yes
  refine .one main0 hB1 rfl ?_
  cases bR with
  | false =>
    cbv
    (repeat'((first|(apply zS;kernel_rfl)|(apply zD;decide +kernel)|(apply zE;decide +kernel)|(apply zF;decide +kernel)|(apply zL;decide +kernel)|(apply zM;decide +kernel)|(apply zN;intros)|(apply zO;intros)|(apply zT;omega)|(apply zU;omega)|(apply zP;omega;intros)|(apply zQ;omega;intros)|apply zR);cbv))
    refine .one cA rfl rfl ?_
    cbv
    (repeat'((first|(apply zS;kernel_rfl)|(apply zD;decide +kernel)|(apply zE;decide +kernel)|(apply zF;decide +kernel)|(apply zL;decide +kernel)|(apply zM;decide +kernel)|(apply zN;intros)|(apply zO;intros)|(apply zT;omega)|(apply zU;omega)|(apply zP;omega;intros)|(apply zQ;omega;intros)|apply zR);cbv))
    exact ⟨hQ _⟩
  | true =>
    cbv
    (repeat'((first|(apply zS;kernel_rfl)|(apply zD;decide +kernel)|(apply zE;decide +kernel)|(apply zF;decide +kernel)|(apply zL;decide +kernel)|(apply zM;decide +kernel)|(apply zN;intros)|(apply zO;intros)|(apply zT;omega)|(apply zU;omega)|(apply zP;omega;intros)|(apply zQ;omega;intros)|apply zR);cbv))
    refine .one cR (cons_pure hp rfl) rfl ?_
    cases bT with
    | false =>
      cbv
      (repeat'((first|(apply zS;kernel_rfl)|(apply zD;decide +kernel)|(apply zE;decide +kernel)|(apply zF;decide +kernel)|(apply zL;decide +kernel)|(apply zM;decide +kernel)|(apply zN;intros)|(apply zO;intros)|(apply zT;omega)|(apply zU;omega)|(apply zP;omega;intros)|(apply zQ;omega;intros)|apply zR);cbv))
      refine .one cA rfl rfl ?_
      cbv
      (repeat'((first|(apply zS;kernel_rfl)|(apply zD;decide +kernel)|(apply zE;decide +kernel)|(apply zF;decide +kernel)|(apply zL;decide +kernel)|(apply zM;decide +kernel)|(apply zN;intros)|(apply zO;intros)|(apply zT;omega)|(apply zU;omega)|(apply zP;omega;intros)|(apply zQ;omega;intros)|apply zR);cbv))
      exact ⟨hQ _⟩
    | true =>
      replace yes := yes rfl rfl
      obtain ⟨c1, c2, c3, c4, c5, c6, c7⟩ := main h500 hfew
      rcases hU : upB9 m T with ⟨U1, U2⟩
      rw [hU] at no yes hUp hU1 hVp c1 c2 c4 c5 c6
      cases U2 with
      | false =>
        obtain ⟨n1, n2⟩ := no rfl
        simp only [Prod.mk.injEq, and_true] at n1
        subst n1
        simp only [hU] at c1 c2 c4
        rw [hU0] at c1 c2
        rw [hT] at c2 c4
        have hTf : pureD (.tup [.agg [.raw (.int .i64 k), .raw (.int .i64 n), .raw (.string nm), .sl none 1 LS, .sl none 5 KS], .raw (.bool false)]) = some (.tup [.agg [.raw (.int .i64 k), .raw (.int .i64 n), .raw (.string nm), .sl none 1 LS, .sl none 5 KS], .raw (.bool false)]) := by rw [← hU0]; exact pairD2_pure _
        rcases hF : findB m nm with ⟨F1, F2⟩
        rw [hF] at c3 hFp hF1 n2
        unfold pairD2 at c3 hFp
        simp only at c3 hFp hF1 n2
        obtain ⟨k1, x1, nm1, L1, K1, f1, i1, j1⟩ := c4_node F1
        rw [f1] at c3 hFp hF1
        clear f1 hT hU0 yes no hU hUp hU1 hVp c5 c6 c7
        cbv
        (repeat'((first|(apply zS;kernel_rfl)|(apply zD;decide +kernel)|(apply zE;decide +kernel)|(apply zF;decide +kernel)|(apply zL;decide +kernel)|(apply zM;decide +kernel)|(apply zN;intros)|(apply zO;intros)|(apply zT;omega)|(apply zU;omega)|(apply zP;omega;intros)|(apply zQ;omega;intros)|apply zR);cbv))
        refine .one c1 (cons_pure hBD (cons_pure hp rfl)) hTf ?_
        cbv
        (repeat'((first|(apply zS;kernel_rfl)|(apply zD;decide +kernel)|(apply zE;decide +kernel)|(apply zF;decide +kernel)|(apply zL;decide +kernel)|(apply zM;decide +kernel)|(apply zN;intros)|(apply zO;intros)|(apply zT;omega)|(apply zU;omega)|(apply zP;omega;intros)|(apply zQ;omega;intros)|apply zR);cbv))
        refine .one c2 (cons_pure hBD (cons_pure hp rfl)) hTf ?_
        cbv
        (repeat'((first|(apply zS;kernel_rfl)|(apply zD;decide +kernel)|(apply zE;decide +kernel)|(apply zF;decide +kernel)|(apply zL;decide +kernel)|(apply zM;decide +kernel)|(apply zN;intros)|(apply zO;intros)|(apply zT;omega)|(apply zU;omega)|(apply zP;omega;intros)|(apply zQ;omega;intros)|apply zR);cbv))
        refine .one c3 (cons_pure hBD rfl) hFp ?_
        cbv
        (repeat'((first|(apply zS;kernel_rfl)|(apply zD;decide +kernel)|(apply zE;decide +kernel)|(apply zF;decide +kernel)|(apply zL;decide +kernel)|(apply zM;decide +kernel)|(apply zN;intros)|(apply zO;intros)|(apply zT;omega)|(apply zU;omega)|(apply zP;omega;intros)|(apply zQ;omega;intros)|apply zR);cbv))
        refine .one c4 (cons_pure hp (cons_pure hp rfl)) rfl ?_
        cbv
        (repeat'((first|(apply zS;kernel_rfl)|(apply zD;decide +kernel)|(apply zE;decide +kernel)|(apply zF;decide +kernel)|(apply zL;decide +kernel)|(apply zM;decide +kernel)|(apply zN;intros)|(apply zO;intros)|(apply zT;omega)|(apply zU;omega)|(apply zP;omega;intros)|(apply zQ;omega;intros)|apply zR);cbv))
        refine BinK.neq ?_ ?_ <;> intro hk <;> cbv <;> (repeat'((first|(apply zS;kernel_rfl)|(apply zD;decide +kernel)|(apply zE;decide +kernel)|(apply zF;decide +kernel)|(apply zL;decide +kernel)|(apply zM;decide +kernel)|(apply zN;intros)|(apply zO;intros)|(apply zT;omega)|(apply zU;omega)|(apply zP;omega;intros)|(apply zQ;omega;intros)|apply zR);cbv))
        · refine .one cA rfl rfl ?_
          cbv
          (repeat'((first|(apply zS;kernel_rfl)|(apply zD;decide +kernel)|(apply zE;decide +kernel)|(apply zF;decide +kernel)|(apply zL;decide +kernel)|(apply zM;decide +kernel)|(apply zN;intros)|(apply zO;intros)|(apply zT;omega)|(apply zU;omega)|(apply zP;omega;intros)|(apply zQ;omega;intros)|apply zR);cbv))
          exact ⟨hQ _⟩
        · have n2 := n2 hk
          subst n2
          cbv
          (repeat'((first|(apply zS;kernel_rfl)|(apply zD;decide +kernel)|(apply zE;decide +kernel)|(apply zF;decide +kernel)|(apply zL;decide +kernel)|(apply zM;decide +kernel)|(apply zN;intros)|(apply zO;intros)|(apply zT;omega)|(apply zU;omega)|(apply zP;omega;intros)|(apply zQ;omega;intros)|apply zR);cbv))
          refine .one cA rfl rfl ?_
          cbv
          (repeat'((first|(apply zS;kernel_rfl)|(apply zD;decide +kernel)|(apply zE;decide +kernel)|(apply zF;decide +kernel)|(apply zL;decide +kernel)|(apply zM;decide +kernel)|(apply zN;intros)|(apply zO;intros)|(apply zT;omega)|(apply zU;omega)|(apply zP;omega;intros)|(apply zQ;omega;intros)|apply zR);cbv))
          exact ⟨hQ _⟩
      | true =>
        obtain ⟨y1, y2, y3, y4, y5⟩ := yes rfl
        simp only at y1 y2 y3 y4 c1 c2 c4 c5 c6 hU1 hUp hVp
        rw [y3] at c2 hVp
        rw [y2] at c5
        rw [y4] at c6
        rw [y5] at c7
        have hF : pairD2 (findB m nm) = .tup [tyD U1, .raw (.bool (findB m nm).2)] := by rw [y1]; rfl
        rw [hF] at c3 hFp
        generalize (findB m nm).2 = F2 at c3 hFp
        unfold pairD2 at c1 c2 hUp hVp
        simp only at c1 c2 hUp hVp
        obtain ⟨k1, x1, nm1, L1, K1, f1, i1, j1⟩ := c4_node U1
        rw [f1] at c1 c2 c3 c4 c5 c6 hU1 hUp hVp hFp
        clear f1 hT hU0 yes no hU y1 y2 y3 y4 y5 hF hF1
        cbv
        (repeat'((first|(apply zS;kernel_rfl)|(apply zD;decide +kernel)|(apply zE;decide +kernel)|(apply zF;decide +kernel)|(apply zL;decide +kernel)|(apply zM;decide +kernel)|(apply zN;intros)|(apply zO;intros)|(apply zT;omega)|(apply zU;omega)|(apply zP;omega;intros)|(apply zQ;omega;intros)|apply zR);cbv))
        refine .one c1 (cons_pure hBD (cons_pure hp rfl)) hUp ?_
        cbv
        (repeat'((first|(apply zS;kernel_rfl)|(apply zD;decide +kernel)|(apply zE;decide +kernel)|(apply zF;decide +kernel)|(apply zL;decide +kernel)|(apply zM;decide +kernel)|(apply zN;intros)|(apply zO;intros)|(apply zT;omega)|(apply zU;omega)|(apply zP;omega;intros)|(apply zQ;omega;intros)|apply zR);cbv))
        refine .one c2 (cons_pure hBD (cons_pure hU1 rfl)) hVp ?_
        cbv
        (repeat'((first|(apply zS;kernel_rfl)|(apply zD;decide +kernel)|(apply zE;decide +kernel)|(apply zF;decide +kernel)|(apply zL;decide +kernel)|(apply zM;decide +kernel)|(apply zN;intros)|(apply zO;intros)|(apply zT;omega)|(apply zU;omega)|(apply zP;omega;intros)|(apply zQ;omega;intros)|apply zR);cbv))
        refine .one c3 (cons_pure hBD rfl) hFp ?_
        cbv
        (repeat'((first|(apply zS;kernel_rfl)|(apply zD;decide +kernel)|(apply zE;decide +kernel)|(apply zF;decide +kernel)|(apply zL;decide +kernel)|(apply zM;decide +kernel)|(apply zN;intros)|(apply zO;intros)|(apply zT;omega)|(apply zU;omega)|(apply zP;omega;intros)|(apply zQ;omega;intros)|apply zR);cbv))
        refine .one c4 (cons_pure hU1 (cons_pure hU1 rfl)) rfl ?_
        cbv
        (repeat'((first|(apply zS;kernel_rfl)|(apply zD;decide +kernel)|(apply zE;decide +kernel)|(apply zF;decide +kernel)|(apply zL;decide +kernel)|(apply zM;decide +kernel)|(apply zN;intros)|(apply zO;intros)|(apply zT;omega)|(apply zU;omega)|(apply zP;omega;intros)|(apply zQ;omega;intros)|apply zR);cbv))
        refine .one c4 (cons_pure hU1 (cons_pure hU1 rfl)) rfl ?_
        cbv
        (repeat'((first|(apply zS;kernel_rfl)|(apply zD;decide +kernel)|(apply zE;decide +kernel)|(apply zF;decide +kernel)|(apply zL;decide +kernel)|(apply zM;decide +kernel)|(apply zN;intros)|(apply zO;intros)|(apply zT;omega)|(apply zU;omega)|(apply zP;omega;intros)|(apply zQ;omega;intros)|apply zR);cbv))
        refine .one c5 (cons_pure hU1 rfl) rfl ?_
        cbv
        (repeat'((first|(apply zS;kernel_rfl)|(apply zD;decide +kernel)|(apply zE;decide +kernel)|(apply zF;decide +kernel)|(apply zL;decide +kernel)|(apply zM;decide +kernel)|(apply zN;intros)|(apply zO;intros)|(apply zT;omega)|(apply zU;omega)|(apply zP;omega;intros)|(apply zQ;omega;intros)|apply zR);cbv))
        refine .one c6 (cons_pure rfl (cons_pure hU1 rfl)) rfl ?_
        cbv
        (repeat'((first|(apply zS;kernel_rfl)|(apply zD;decide +kernel)|(apply zE;decide +kernel)|(apply zF;decide +kernel)|(apply zL;decide +kernel)|(apply zM;decide +kernel)|(apply zN;intros)|(apply zO;intros)|(apply zT;omega)|(apply zU;omega)|(apply zP;omega;intros)|(apply zQ;omega;intros)|apply zR);cbv))
        refine .one c7 (cons_pure hBD (cons_pure hp rfl)) rfl ?_
        cbv
        (repeat'((first|(apply zS;kernel_rfl)|(apply zD;decide +kernel)|(apply zE;decide +kernel)|(apply zF;decide +kernel)|(apply zL;decide +kernel)|(apply zM;decide +kernel)|(apply zN;intros)|(apply zO;intros)|(apply zT;omega)|(apply zU;omega)|(apply zP;omega;intros)|(apply zQ;omega;intros)|apply zR);cbv))
        refine .one cA rfl rfl ?_
        cbv
        (repeat'((first|(apply zS;kernel_rfl)|(apply zD;decide +kernel)|(apply zE;decide +kernel)|(apply zF;decide +kernel)|(apply zL;decide +kernel)|(apply zM;decide +kernel)|(apply zN;intros)|(apply zO;intros)|(apply zT;omega)|(apply zU;omega)|(apply zP;omega;intros)|(apply zQ;omega;intros)|apply zR);cbv))
        exact ⟨hQ _⟩
end Go.Proofs.Ytpnfbmhnmhahnaa
