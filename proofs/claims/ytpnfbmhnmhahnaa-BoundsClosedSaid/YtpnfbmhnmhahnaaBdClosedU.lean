/- BoundsClosed: of any bindings and any type the law answers true: of right bounds what is up of a right type that is a variable has no variables, stays, and is found by its name. No condition. -/
import Derived.Test.YtpnfbmhnmhahnaaBdZ1
import Derived.Test.YtpnfbmhnmhahnaaTyVy
import Derived.Test.YtpnfbmhnmhahnaaPwRn
import Derived.Test.YtpnfbmhnmhahnaaEnd
import Derived.Deep.CondSized
namespace Go.Proofs.Ytpnfbmhnmhahnaa
open Go.RowKit Pv
set_option maxRecDepth 100000
/-! ### Much and Few of whatever size -/
theorem muchw_cp (a : Ty5) (ha : okT a) : CP (TT ()) 6 [tyD a] (· = .raw (.int .i64 (muchW a))) :=
  cp_raw (callable_at Try.func6 (by kernel_rfl) rfl) fun S w args r => by
    obtain ⟨v, rfl, h⟩ := rdL_one r
    obtain ⟨v0, v1, v2, v3, v4, rfl, hT⟩ := ty_in a ha h
    exact rmuch_wrap _ a _ _ _ _ _ w (Nat.le_refl _) hT
set_option maxHeartbeats 4000000 in
theorem fewq_run (m : List Bd) (hmo : okB m) (Q : D → H → Prop)
    (hQ : ∀ z h', (z < 5000 → m.length ≤ 20) → Q (.raw (.int .i64 z)) h') : wfun TT 5 [.sl none 6 (bnsD m)] [] Q := by
  have hBi := bns_idb m
  have hBl := bns_len m
  have hat := fun i => bns_at (m := m) (i := i)
  generalize bnsD m = BS at hBi hBl hat ⊢
  cbv
  (repeat'((first|(apply zS;kernel_rfl)|(apply zD;decide +kernel)|(apply zE;decide +kernel)|(apply zF;decide +kernel)|(apply zL;decide +kernel)|(apply zM;decide +kernel)|(apply zN;intros)|(apply zO;intros)|(apply zT;omega)|(apply zU;omega)|(apply zP;omega;intros)|(apply zQ;omega;intros)|apply zR);cbv))
  refine LoopK.put (X := Int × Int) (fun x => [(3, .raw (.int .i64 x.2)), (4, .raw (.int .i64 x.1))]) (fun _ => []) (fun x => 20 - x.1.toNat)
    (fun x => 0 ≤ x.1 ∧ x.1.toNat ≤ m.length ∧ x.1 ≤ 20) (0, 0) ⟨by simp, by simp, by simp⟩ rfl rfl ?_
  rintro ⟨i, n⟩ N ⟨h0, hi, h20⟩ hN
  simp only at h0 hi h20 hN ⊢
  cbv
  (repeat'((first|(apply zS;kernel_rfl)|(apply zD;decide +kernel)|(apply zE;decide +kernel)|(apply zF;decide +kernel)|(apply zL;decide +kernel)|(apply zM;decide +kernel)|(apply zN;intros)|(apply zO;intros)|(apply zT;omega)|(apply zU;omega)|(apply zP;omega;intros)|(apply zQ;omega;intros)|apply zR);cbv))
  refine BinK.lss ?_ ?_ <;> intro hlt <;> cbv <;> (repeat'((first|(apply zS;kernel_rfl)|(apply zD;decide +kernel)|(apply zE;decide +kernel)|(apply zF;decide +kernel)|(apply zL;decide +kernel)|(apply zM;decide +kernel)|(apply zN;intros)|(apply zO;intros)|(apply zT;omega)|(apply zU;omega)|(apply zP;omega;intros)|(apply zQ;omega;intros)|apply zR);cbv))
  case' refine_1 =>
    refine BinK.lss ?_ ?_ <;> intro hlt2 <;> cbv <;> (repeat'((first|(apply zS;kernel_rfl)|(apply zD;decide +kernel)|(apply zE;decide +kernel)|(apply zF;decide +kernel)|(apply zL;decide +kernel)|(apply zM;decide +kernel)|(apply zN;intros)|(apply zO;intros)|(apply zT;omega)|(apply zU;omega)|(apply zP;omega;intros)|(apply zQ;omega;intros)|apply zR);cbv))
    · obtain ⟨p, hp, hB⟩ := hat i.toNat (by omega)
      have hpm := List.mem_of_getElem? hp
      have cM := muchw_cp p.2 (hmo p hpm).2
      generalize muchW p.2 = M at cM
      have hpp := ty_pure p.2
      have hsz := (hmo p hpm).1
      obtain ⟨k0, n0, m0, L0, K0, f0, f1, j1, j2⟩ := bn_node p
      rw [f1] at cM hpp
      rw [f0] at hB
      unfold maxLen at hsz
      obtain ⟨zp, hzp, hz0, hz1⟩ : ∃ z : Int, (p.1.size : Int) = z ∧ 0 ≤ z ∧ z ≤ 9223372036854775807 := ⟨_, rfl, by omega, by omega⟩
      generalize p.1 = pn at hB hzp
      clear f0 f1 j1 j2 hsz
      refine IdxK.intro h0 hB ?_
      cbv
      (repeat'((first|(apply zS;kernel_rfl)|(apply zD;decide +kernel)|(apply zE;decide +kernel)|(apply zF;decide +kernel)|(apply zL;decide +kernel)|(apply zM;decide +kernel)|(apply zN;intros)|(apply zO;intros)|(apply zT;omega)|(apply zU;omega)|(apply zP;omega;intros)|(apply zQ;omega;intros)|apply zR);cbv))
      refine .one cM (cons_pure hpp rfl) rfl ?_
      cbv
      (repeat'((first|(apply zS;kernel_rfl)|(apply zD;decide +kernel)|(apply zE;decide +kernel)|(apply zF;decide +kernel)|(apply zL;decide +kernel)|(apply zM;decide +kernel)|(apply zN;intros)|(apply zO;intros)|(apply zT;omega)|(apply zU;omega)|(apply zP;omega;intros)|(apply zQ;omega;intros)|apply zR);cbv))
      refine IdxK.intro h0 hB ?_
      cbv
      (repeat'((first|(apply zS;kernel_rfl)|(apply zD;decide +kernel)|(apply zE;decide +kernel)|(apply zF;decide +kernel)|(apply zL;decide +kernel)|(apply zM;decide +kernel)|(apply zN;intros)|(apply zO;intros)|(apply zT;omega)|(apply zU;omega)|(apply zP;omega;intros)|(apply zQ;omega;intros)|apply zR);cbv))
      refine lenq_str hzp ?_
      cbv
      (repeat'((first|(apply zS;kernel_rfl)|(apply zD;decide +kernel)|(apply zE;decide +kernel)|(apply zF;decide +kernel)|(apply zL;decide +kernel)|(apply zM;decide +kernel)|(apply zN;intros)|(apply zO;intros)|(apply zT;omega)|(apply zU;omega)|(apply zP;omega;intros)|(apply zQ;omega;intros)|apply zR);cbv))
      refine quo_eight (by omega) fun q hq => ?_
      cbv
      (repeat'((first|(apply zS;kernel_rfl)|(apply zD;decide +kernel)|(apply zE;decide +kernel)|(apply zF;decide +kernel)|(apply zL;decide +kernel)|(apply zM;decide +kernel)|(apply zN;intros)|(apply zO;intros)|(apply zT;omega)|(apply zU;omega)|(apply zP;omega;intros)|(apply zQ;omega;intros)|apply zR);cbv))
      refine max_three fun n' e1 e2 e3 => ?_
      cbv
      (repeat'((first|(apply zS;kernel_rfl)|(apply zD;decide +kernel)|(apply zE;decide +kernel)|(apply zF;decide +kernel)|(apply zL;decide +kernel)|(apply zM;decide +kernel)|(apply zN;intros)|(apply zO;intros)|(apply zT;omega)|(apply zU;omega)|(apply zP;omega;intros)|(apply zQ;omega;intros)|apply zR);cbv))
      rename_i r hr
      refine RoundK.next (r, n') ⟨by omega, by omega, by omega⟩ (by omega) rfl rfl
    · exact ⟨hQ _ _ fun h => absurd h (by omega)⟩
  case' refine_2 =>
    exact ⟨hQ _ _ fun h => by omega⟩
theorem fewq_cp (m : List Bd) (hmo : okB m) : CP (TT ()) 5 [.sl none 6 (bnsD m)] fun d => ∃ z : Int, d = .raw (.int .i64 z) ∧ (z < 5000 → m.length ≤ 20) :=
  (wfun_ok (T := TT) (by kernel_rfl) (fewq_run m hmo (fun d _ => ∃ z : Int, d = .raw (.int .i64 z) ∧ (z < 5000 → m.length ≤ 20)) fun z _ h => ⟨z, rfl, h⟩)).cp fun d h' ⟨z, h1, h2⟩ => ⟨d, by rw [h1]; rfl, z, h1, h2⟩
/-! ### In, of what has no variables -/
theorem pvars0_cp (t : Ty5) (ho : okT t) (hh : hasT 6 t = false) : CP (TT ()) 32 [tyD t] (· = .sl none 1 ((vrsT t).map strD)) := by
  rw [closed_vrs hh]
  refine ⟨callable_at Try.func32 (by kernel_rfl) rfl, fun S w args hS r => ?_⟩
  obtain ⟨v, rfl, h⟩ := rdL_one r
  obtain ⟨v0, v1, v2, v3, v4, rfl, hT⟩ := ty_in t ho h
  refine (pvars_none t v0 v1 v2 v3 v4 w hT hh).mono ?_
  rintro e w' ⟨rfl, hb⟩
  exact ⟨.slice none 0 0, S, .sl none 1 [], rfl, rfl, hb, fun _ _ h => h, fun b o hs => ⟨Nat.lt_of_lt_of_le (hS b o hs) hb.size, fun _ => hs⟩, nil_any 1 _ _ _ rfl⟩
theorem pin0_cp (m : List Bd) (hm : m.length ≤ 140737488355) (t : Ty5) (ho : okT t) (hh : hasT 6 t = false) : CP (TT ()) 18 [.sl none 6 (bnsD m), tyD t] (· = .raw (.bool (inB9 m t))) :=
  yone fun Q hQ => pin_run m hm t (pvars0_cp t ho hh) (by rw [closed_vrs hh]; simp) Q hQ
/-- A right type that is a variable is one node. -/
theorem var_one {k n : Int} {nm : ByteArray} {ls : List ByteArray} {ks : List Ty5} (h : k = 6) (hr : rightT varB risingB (.mk k n nm ls ks) = true) : nodesT (.mk k n nm ls ks) ≤ 1000000 := by
  subst h
  rw [right_var hr]
  simp [nodesT, nodesL]
set_option maxHeartbeats 4000000 in
theorem closedw_run (m : List Bd) (k n : Int) (nm : ByteArray) (ls : List ByteArray) (ks : List Ty5) (hm : okB m) (ht : okT (.mk k n nm ls ks)) (Q : D → H → Prop) (hQ : ∀ h', Q (.raw (.bool true)) h') :
    wfun TT 4 [.sl none 6 (bnsD m), tyD (.mk k n nm ls ks)] [] Q := by
  have cA := awake9_cp
  have cM := muchw_cp _ ht
  have cF := fewq_cp m hm
  have cR := right9_cp _ ht
  have main0 : m.length ≤ 20 → CP (TT ()) 12 [.sl none 6 (bnsD m)] (· = .raw (.bool (rightB9 m))) := fun h2 =>
    rightP9_eq m ▸ pright9m_cp m (by omega) hm
  have hUo := upB9_ok hm ht
  have main : m.length ≤ 20 →
      CP (TT ()) 10 [.sl none 6 (bnsD m), tyD (.mk k n nm ls ks)] (· = pairD2 (upB9 m (.mk k n nm ls ks))) ∧
      CP (TT ()) 10 [.sl none 6 (bnsD m), tyD (upB9 m (.mk k n nm ls ks)).1] (· = pairD2 (upB9 m (upB9 m (.mk k n nm ls ks)).1)) ∧
      CP (TT ()) 8 [.sl none 6 (bnsD m), .raw (.string nm)] (· = pairD2 (findB m nm)) ∧
      CP (TT ()) 14 [tyD (upB9 m (.mk k n nm ls ks)).1, tyD (upB9 m (.mk k n nm ls ks)).1] (· = .raw (.bool true)) ∧
      CP (TT ()) 21 [tyD (upB9 m (.mk k n nm ls ks)).1] (· = .raw (.bool (!hasT 6 (upB9 m (.mk k n nm ls ks)).1))) ∧
      (hasT 6 (upB9 m (.mk k n nm ls ks)).1 = false → CP (TT ()) 18 [.raw (.slice none 0 0), tyD (upB9 m (.mk k n nm ls ks)).1] (· = .raw (.bool (inB9 [] (upB9 m (.mk k n nm ls ks)).1)))) ∧
      (nodesT (.mk k n nm ls ks) ≤ 1000000 → CP (TT ()) 18 [.sl none 6 (bnsD m), tyD (.mk k n nm ls ks)] (· = .raw (.bool (inB9 m (.mk k n nm ls ks))))) := fun h2 => by
    have e1 := sameq_cp _ _ hUo hUo
    rw [same_refl] at e1
    exact ⟨pup_cp m (by omega) _, pup_cp m (by omega) _, pfind_cp m (by omega) nm, e1, closed9_cp _ hUo, fun h => cp_wk (pin0_cp [] (by simp) _ hUo h) (wk_nil6 _), fun hn => pin_cp m (by omega) _ ht hn⟩
  have no : (upB9 m (.mk k n nm ls ks)).2 = false → upB9 m (.mk k n nm ls ks) = (.mk k n nm ls ks, false) ∧ (k = 6 → (findB m nm).2 = false) := up_no
  have yes : rightB9 m = true → rightT varB risingB (.mk k n nm ls ks) = true → (upB9 m (.mk k n nm ls ks)).2 = true → (upB9 m (.mk k n nm ls ks)).1 = (findB m nm).1 ∧ hasT 6 (upB9 m (.mk k n nm ls ks)).1 = false ∧ upB9 m (upB9 m (.mk k n nm ls ks)).1 = ((upB9 m (.mk k n nm ls ks)).1, false) ∧ inB9 [] (upB9 m (.mk k n nm ls ks)).1 = true ∧ inB9 m (.mk k n nm ls ks) = true ∧ nodesT (.mk k n nm ls ks) ≤ 1000000 := fun h1 h2 h3 => by
    obtain ⟨e0, e1, e2, _, e4⟩ := up_yes h1 h2 h3
    rw [← e1] at e2
    exact ⟨e1, e2, closed_up m e2, closed_in [] e2, e4, var_one e0 h2⟩
  have hp := ty_pure (.mk k n nm ls ks)
  have hBp := bns_pure m
  have hFp := pairD2_pure (findB m nm)
  have hF1 := ty_pure (findB m nm).1
  have hUp := pairD2_pure (upB9 m (.mk k n nm ls ks))
  have hU1 := ty_pure (upB9 m (.mk k n nm ls ks)).1
  have hVp := pairD2_pure (upB9 m (upB9 m (.mk k n nm ls ks)).1)
  generalize muchW (.mk k n nm ls ks) = zt at cM
  clear hUo ht
  have hT : tyD (.mk k n nm ls ks) = .agg [.raw (.int .i64 k), .raw (.int .i64 n), .raw (.string nm), .sl none 1 (ls.map strD), .sl none 5 (tysD ks)] := rfl
  rw [hT] at cM cR main hp ⊢
  have hU0 : ∀ b, pairD2 (.mk k n nm ls ks, b) = .tup [.agg [.raw (.int .i64 k), .raw (.int .i64 n), .raw (.string nm), .sl none 1 (ls.map strD), .sl none 5 (tysD ks)], .raw (.bool b)] := fun b => rfl
  generalize ls.map strD = LS at cM cR main hp hT hU0 ⊢
  generalize tysD ks = KS at cM cR main hp hT hU0 ⊢
  generalize Ty5.mk k n nm ls ks = T at *
  generalize bnsD m = BS at cF hBp main0 main ⊢
  cbv
  (repeat'((first|(apply zS;kernel_rfl)|(apply zD;decide +kernel)|(apply zE;decide +kernel)|(apply zF;decide +kernel)|(apply zL;decide +kernel)|(apply zM;decide +kernel)|(apply zN;intros)|(apply zO;intros)|(apply zT;omega)|(apply zU;omega)|(apply zP;omega;intros)|(apply zQ;omega;intros)|apply zR);cbv))
  refine CallK.pure cF (by simp [pureL, pureD, hBp]) ?_
  rintro d ⟨z, rfl, hz⟩
  refine ⟨rfl, ?_⟩
  cbv
  (repeat'((first|(apply zS;kernel_rfl)|(apply zD;decide +kernel)|(apply zE;decide +kernel)|(apply zF;decide +kernel)|(apply zL;decide +kernel)|(apply zM;decide +kernel)|(apply zN;intros)|(apply zO;intros)|(apply zT;omega)|(apply zU;omega)|(apply zP;omega;intros)|(apply zQ;omega;intros)|apply zR);cbv))
  refine BinK.gtr ?_ ?_ <;> intro hz1 <;> cbv <;> (repeat'((first|(apply zS;kernel_rfl)|(apply zD;decide +kernel)|(apply zE;decide +kernel)|(apply zF;decide +kernel)|(apply zL;decide +kernel)|(apply zM;decide +kernel)|(apply zN;intros)|(apply zO;intros)|(apply zT;omega)|(apply zU;omega)|(apply zP;omega;intros)|(apply zQ;omega;intros)|apply zR);cbv))
  · refine .one cA rfl rfl ?_
    cbv
    (repeat'((first|(apply zS;kernel_rfl)|(apply zD;decide +kernel)|(apply zE;decide +kernel)|(apply zF;decide +kernel)|(apply zL;decide +kernel)|(apply zM;decide +kernel)|(apply zN;intros)|(apply zO;intros)|(apply zT;omega)|(apply zU;omega)|(apply zP;omega;intros)|(apply zQ;omega;intros)|apply zR);cbv))
    exact ⟨hQ _⟩
  refine .one cM (cons_pure hp rfl) rfl ?_
  cbv
  (repeat'((first|(apply zS;kernel_rfl)|(apply zD;decide +kernel)|(apply zE;decide +kernel)|(apply zF;decide +kernel)|(apply zL;decide +kernel)|(apply zM;decide +kernel)|(apply zN;intros)|(apply zO;intros)|(apply zT;omega)|(apply zU;omega)|(apply zP;omega;intros)|(apply zQ;omega;intros)|apply zR);cbv))
  refine BinK.gtr ?_ ?_ <;> intro h500 <;> cbv <;> (repeat'((first|(apply zS;kernel_rfl)|(apply zD;decide +kernel)|(apply zE;decide +kernel)|(apply zF;decide +kernel)|(apply zL;decide +kernel)|(apply zM;decide +kernel)|(apply zN;intros)|(apply zO;intros)|(apply zT;omega)|(apply zU;omega)|(apply zP;omega;intros)|(apply zQ;omega;intros)|apply zR);cbv))
  · refine .one cA rfl rfl ?_
    cbv
    (repeat'((first|(apply zS;kernel_rfl)|(apply zD;decide +kernel)|(apply zE;decide +kernel)|(apply zF;decide +kernel)|(apply zL;decide +kernel)|(apply zM;decide +kernel)|(apply zN;intros)|(apply zO;intros)|(apply zT;omega)|(apply zU;omega)|(apply zP;omega;intros)|(apply zQ;omega;intros)|apply zR);cbv))
    exact ⟨hQ _⟩
  have hfew : m.length ≤ 20 := hz (by omega)
  replace main0 := main0 hfew
  have hB1 : pureL [.sl none 6 BS] = some [.sl none 6 BS] := by simp [pureL, pureD, hBp]
  have hBD : pureD (.sl none 6 BS) = some (.sl none 6 BS) := by simp [pureD, hBp]
  generalize rightB9 m = bR at main0 yes
  generalize rightT varB risingB T = bT at cR yes
  refine .one main0 hB1 rfl ?_
  cases bR with
  | false =>
    cbv
    (repeat'((first|(apply zS;kernel_rfl)|(apply zD;decide +kernel)|(apply zE;decide +kernel)|(apply zF;decide +kernel)|(apply zL;decide +kernel)|(apply zM;decide +kernel)|(apply zN;intros)|(apply zO;intros)|(apply zT;omega)|(apply zU;omega)|(apply zP;omega;intros)|(apply zQ;omega;intros)|apply zR);cbv))
    refine .one cA rfl rfl ?_
    cbv
    (repeat'((first|(apply zS;kernel_rfl)|(apply zD;decide +kernel)|(apply zE;decide +kernel)|(apply zF;decide +kernel)|(apply zL;decide +kernel)|(apply zM;decide +kernel)|(apply zN;intros)|(apply zO;intros)|(apply zT;omega)|(apply zU;omega)|(apply zP;omega;intros)|(apply zQ;omega;intros)|apply zR);cbv))
    exact ⟨hQ _⟩
  | true =>
    cbv
    (repeat'((first|(apply zS;kernel_rfl)|(apply zD;decide +kernel)|(apply zE;decide +kernel)|(apply zF;decide +kernel)|(apply zL;decide +kernel)|(apply zM;decide +kernel)|(apply zN;intros)|(apply zO;intros)|(apply zT;omega)|(apply zU;omega)|(apply zP;omega;intros)|(apply zQ;omega;intros)|apply zR);cbv))
    refine .one cR (cons_pure hp rfl) rfl ?_
    cases bT with
    | false =>
      cbv
      (repeat'((first|(apply zS;kernel_rfl)|(apply zD;decide +kernel)|(apply zE;decide +kernel)|(apply zF;decide +kernel)|(apply zL;decide +kernel)|(apply zM;decide +kernel)|(apply zN;intros)|(apply zO;intros)|(apply zT;omega)|(apply zU;omega)|(apply zP;omega;intros)|(apply zQ;omega;intros)|apply zR);cbv))
      refine .one cA rfl rfl ?_
      cbv
      (repeat'((first|(apply zS;kernel_rfl)|(apply zD;decide +kernel)|(apply zE;decide +kernel)|(apply zF;decide +kernel)|(apply zL;decide +kernel)|(apply zM;decide +kernel)|(apply zN;intros)|(apply zO;intros)|(apply zT;omega)|(apply zU;omega)|(apply zP;omega;intros)|(apply zQ;omega;intros)|apply zR);cbv))
      exact ⟨hQ _⟩
    | true =>
      replace yes := yes rfl rfl
      obtain ⟨c1, c2, c3, c4, c5, c6, c7⟩ := main hfew
      rcases hU : upB9 m T with ⟨U1, U2⟩
      rw [hU] at no yes hUp hU1 hVp c1 c2 c4 c5 c6
      cases U2 with
      | false =>
        obtain ⟨n1, n2⟩ := no rfl
        simp only [Prod.mk.injEq, and_true] at n1
        subst n1
        simp only [hU] at c1 c2 c4
        rw [hU0] at c1 c2
        rw [hT] at c2 c4
        have hTf : pureD (.tup [.agg [.raw (.int .i64 k), .raw (.int .i64 n), .raw (.string nm), .sl none 1 LS, .sl none 5 KS], .raw (.bool false)]) = some (.tup [.agg [.raw (.int .i64 k), .raw (.int .i64 n), .raw (.string nm), .sl none 1 LS, .sl none 5 KS], .raw (.bool false)]) := by rw [← hU0]; exact pairD2_pure _
        rcases hF : findB m nm with ⟨F1, F2⟩
        rw [hF] at c3 hFp hF1 n2
        unfold pairD2 at c3 hFp
        simp only at c3 hFp hF1 n2
        obtain ⟨k1, x1, nm1, L1, K1, f1, i1, j1⟩ := c4_node F1
        rw [f1] at c3 hFp hF1
        clear f1 hT hU0 yes no hU hUp hU1 hVp c5 c6 c7
        cbv
        (repeat'((first|(apply zS;kernel_rfl)|(apply zD;decide +kernel)|(apply zE;decide +kernel)|(apply zF;decide +kernel)|(apply zL;decide +kernel)|(apply zM;decide +kernel)|(apply zN;intros)|(apply zO;intros)|(apply zT;omega)|(apply zU;omega)|(apply zP;omega;intros)|(apply zQ;omega;intros)|apply zR);cbv))
        refine .one c1 (cons_pure hBD (cons_pure hp rfl)) hTf ?_
        cbv
        (repeat'((first|(apply zS;kernel_rfl)|(apply zD;decide +kernel)|(apply zE;decide +kernel)|(apply zF;decide +kernel)|(apply zL;decide +kernel)|(apply zM;decide +kernel)|(apply zN;intros)|(apply zO;intros)|(apply zT;omega)|(apply zU;omega)|(apply zP;omega;intros)|(apply zQ;omega;intros)|apply zR);cbv))
        refine .one c2 (cons_pure hBD (cons_pure hp rfl)) hTf ?_
        cbv
        (repeat'((first|(apply zS;kernel_rfl)|(apply zD;decide +kernel)|(apply zE;decide +kernel)|(apply zF;decide +kernel)|(apply zL;decide +kernel)|(apply zM;decide +kernel)|(apply zN;intros)|(apply zO;intros)|(apply zT;omega)|(apply zU;omega)|(apply zP;omega;intros)|(apply zQ;omega;intros)|apply zR);cbv))
        refine .one c3 (cons_pure hBD rfl) hFp ?_
        cbv
        (repeat'((first|(apply zS;kernel_rfl)|(apply zD;decide +kernel)|(apply zE;decide +kernel)|(apply zF;decide +kernel)|(apply zL;decide +kernel)|(apply zM;decide +kernel)|(apply zN;intros)|(apply zO;intros)|(apply zT;omega)|(apply zU;omega)|(apply zP;omega;intros)|(apply zQ;omega;intros)|apply zR);cbv))
        refine .one c4 (cons_pure hp (cons_pure hp rfl)) rfl ?_
        cbv
        (repeat'((first|(apply zS;kernel_rfl)|(apply zD;decide +kernel)|(apply zE;decide +kernel)|(apply zF;decide +kernel)|(apply zL;decide +kernel)|(apply zM;decide +kernel)|(apply zN;intros)|(apply zO;intros)|(apply zT;omega)|(apply zU;omega)|(apply zP;omega;intros)|(apply zQ;omega;intros)|apply zR);cbv))
        refine BinK.neq ?_ ?_ <;> intro hk <;> cbv <;> (repeat'((first|(apply zS;kernel_rfl)|(apply zD;decide +kernel)|(apply zE;decide +kernel)|(apply zF;decide +kernel)|(apply zL;decide +kernel)|(apply zM;decide +kernel)|(apply zN;intros)|(apply zO;intros)|(apply zT;omega)|(apply zU;omega)|(apply zP;omega;intros)|(apply zQ;omega;intros)|apply zR);cbv))
        · refine .one cA rfl rfl ?_
          cbv
          (repeat'((first|(apply zS;kernel_rfl)|(apply zD;decide +kernel)|(apply zE;decide +kernel)|(apply zF;decide +kernel)|(apply zL;decide +kernel)|(apply zM;decide +kernel)|(apply zN;intros)|(apply zO;intros)|(apply zT;omega)|(apply zU;omega)|(apply zP;omega;intros)|(apply zQ;omega;intros)|apply zR);cbv))
          exact ⟨hQ _⟩
        · have n2 := n2 hk
          subst n2
          cbv
          (repeat'((first|(apply zS;kernel_rfl)|(apply zD;decide +kernel)|(apply zE;decide +kernel)|(apply zF;decide +kernel)|(apply zL;decide +kernel)|(apply zM;decide +kernel)|(apply zN;intros)|(apply zO;intros)|(apply zT;omega)|(apply zU;omega)|(apply zP;omega;intros)|(apply zQ;omega;intros)|apply zR);cbv))
          refine .one cA rfl rfl ?_
          cbv
          (repeat'((first|(apply zS;kernel_rfl)|(apply zD;decide +kernel)|(apply zE;decide +kernel)|(apply zF;decide +kernel)|(apply zL;decide +kernel)|(apply zM;decide +kernel)|(apply zN;intros)|(apply zO;intros)|(apply zT;omega)|(apply zU;omega)|(apply zP;omega;intros)|(apply zQ;omega;intros)|apply zR);cbv))
          exact ⟨hQ _⟩
      | true =>
        obtain ⟨y1, y2, y3, y4, y5, y6⟩ := yes rfl
        replace c6 := c6 y2
        replace c7 := c7 y6
        simp only at y1 y2 y3 y4 c1 c2 c4 c5 c6 hU1 hUp hVp
        rw [y3] at c2 hVp
        rw [y2] at c5
        rw [y4] at c6
        rw [y5] at c7
        have hF : pairD2 (findB m nm) = .tup [tyD U1, .raw (.bool (findB m nm).2)] := by rw [y1]; rfl
        rw [hF] at c3 hFp
        generalize (findB m nm).2 = F2 at c3 hFp
        unfold pairD2 at c1 c2 hUp hVp
        simp only at c1 c2 hUp hVp
        obtain ⟨k1, x1, nm1, L1, K1, f1, i1, j1⟩ := c4_node U1
        rw [f1] at c1 c2 c3 c4 c5 c6 hU1 hUp hVp hFp
        clear f1 hT hU0 yes no hU y1 y2 y3 y4 y5 hF hF1
        cbv
        (repeat'((first|(apply zS;kernel_rfl)|(apply zD;decide +kernel)|(apply zE;decide +kernel)|(apply zF;decide +kernel)|(apply zL;decide +kernel)|(apply zM;decide +kernel)|(apply zN;intros)|(apply zO;intros)|(apply zT;omega)|(apply zU;omega)|(apply zP;omega;intros)|(apply zQ;omega;intros)|apply zR);cbv))
        refine .one c1 (cons_pure hBD (cons_pure hp rfl)) hUp ?_
        cbv
        (repeat'((first|(apply zS;kernel_rfl)|(apply zD;decide +kernel)|(apply zE;decide +kernel)|(apply zF;decide +kernel)|(apply zL;decide +kernel)|(apply zM;decide +kernel)|(apply zN;intros)|(apply zO;intros)|(apply zT;omega)|(apply zU;omega)|(apply zP;omega;intros)|(apply zQ;omega;intros)|apply zR);cbv))
        refine .one c2 (cons_pure hBD (cons_pure hU1 rfl)) hVp ?_
        cbv
        (repeat'((first|(apply zS;kernel_rfl)|(apply zD;decide +kernel)|(apply zE;decide +kernel)|(apply zF;decide +kernel)|(apply zL;decide +kernel)|(apply zM;decide +kernel)|(apply zN;intros)|(apply zO;intros)|(apply zT;omega)|(apply zU;omega)|(apply zP;omega;intros)|(apply zQ;omega;intros)|apply zR);cbv))
        refine .one c3 (cons_pure hBD rfl) hFp ?_
        cbv
        (repeat'((first|(apply zS;kernel_rfl)|(apply zD;decide +kernel)|(apply zE;decide +kernel)|(apply zF;decide +kernel)|(apply zL;decide +kernel)|(apply zM;decide +kernel)|(apply zN;intros)|(apply zO;intros)|(apply zT;omega)|(apply zU;omega)|(apply zP;omega;intros)|(apply zQ;omega;intros)|apply zR);cbv))
        refine .one c4 (cons_pure hU1 (cons_pure hU1 rfl)) rfl ?_
        cbv
        (repeat'((first|(apply zS;kernel_rfl)|(apply zD;decide +kernel)|(apply zE;decide +kernel)|(apply zF;decide +kernel)|(apply zL;decide +kernel)|(apply zM;decide +kernel)|(apply zN;intros)|(apply zO;intros)|(apply zT;omega)|(apply zU;omega)|(apply zP;omega;intros)|(apply zQ;omega;intros)|apply zR);cbv))
        refine .one c4 (cons_pure hU1 (cons_pure hU1 rfl)) rfl ?_
        cbv
        (repeat'((first|(apply zS;kernel_rfl)|(apply zD;decide +kernel)|(apply zE;decide +kernel)|(apply zF;decide +kernel)|(apply zL;decide +kernel)|(apply zM;decide +kernel)|(apply zN;intros)|(apply zO;intros)|(apply zT;omega)|(apply zU;omega)|(apply zP;omega;intros)|(apply zQ;omega;intros)|apply zR);cbv))
        refine .one c5 (cons_pure hU1 rfl) rfl ?_
        cbv
        (repeat'((first|(apply zS;kernel_rfl)|(apply zD;decide +kernel)|(apply zE;decide +kernel)|(apply zF;decide +kernel)|(apply zL;decide +kernel)|(apply zM;decide +kernel)|(apply zN;intros)|(apply zO;intros)|(apply zT;omega)|(apply zU;omega)|(apply zP;omega;intros)|(apply zQ;omega;intros)|apply zR);cbv))
        refine .one c6 (cons_pure rfl (cons_pure hU1 rfl)) rfl ?_
        cbv
        (repeat'((first|(apply zS;kernel_rfl)|(apply zD;decide +kernel)|(apply zE;decide +kernel)|(apply zF;decide +kernel)|(apply zL;decide +kernel)|(apply zM;decide +kernel)|(apply zN;intros)|(apply zO;intros)|(apply zT;omega)|(apply zU;omega)|(apply zP;omega;intros)|(apply zQ;omega;intros)|apply zR);cbv))
        refine .one c7 (cons_pure hBD (cons_pure hp rfl)) rfl ?_
        cbv
        (repeat'((first|(apply zS;kernel_rfl)|(apply zD;decide +kernel)|(apply zE;decide +kernel)|(apply zF;decide +kernel)|(apply zL;decide +kernel)|(apply zM;decide +kernel)|(apply zN;intros)|(apply zO;intros)|(apply zT;omega)|(apply zU;omega)|(apply zP;omega;intros)|(apply zQ;omega;intros)|apply zR);cbv))
        refine .one cA rfl rfl ?_
        cbv
        (repeat'((first|(apply zS;kernel_rfl)|(apply zD;decide +kernel)|(apply zE;decide +kernel)|(apply zF;decide +kernel)|(apply zL;decide +kernel)|(apply zM;decide +kernel)|(apply zN;intros)|(apply zO;intros)|(apply zT;omega)|(apply zU;omega)|(apply zP;omega;intros)|(apply zQ;omega;intros)|apply zR);cbv))
        exact ⟨hQ _⟩
theorem closedw_law (m : List Bd) (t : Ty5) (hm : okB m) (ht : okT t) :
    CP (TT ()) 4 [.sl none 6 (bnsD m), tyD t] (· = .raw (.bool true)) := by
  obtain ⟨k, n, nm, ls, ks⟩ := t
  exact c4_run fun Q hQ => closedw_run m k n nm ls ks hm ht Q hQ
end Go.Proofs.Ytpnfbmhnmhahnaa
namespace Go.Proofs.Ytpnfbmhnmhahnaa.bdClosedS
open Go.ChangeShapes Go.WideShapes Go.ChangeAt Go.RowKit Go.Proofs.Ytpnfbmhnmhahnaa Pv
theorem kinds : Kinds Try.prog (fun t => t = 3 ∨ t = 9 ∨ t = 23 ∨ t = 24 ∨ t = 26 ∨ t = 22 ∨ t = 41) where
  ok := by
    rintro t (rfl | rfl | rfl | rfl | rfl | rfl | rfl)
    · rw [Try.underlying3]; show Try.prog.cellsOf _ = 1; kernel_rfl
    · rw [Try.underlying9]; show Try.prog.cellsOf _ = 1; kernel_rfl
    · rw [Try.underlying23]; exact ⟨by kernel_rfl, by simp, by rw [cellsOf_str]; decide⟩
    · rw [Try.underlying24]; exact ⟨by kernel_rfl, by simp, by rw [cellsOf_ty]; decide⟩
    · rw [Try.underlying26]; exact ⟨by kernel_rfl, by intro f hf; simp at hf; rcases hf with rfl | rfl | rfl | rfl | rfl <;> simp⟩
    · rw [Try.underlying22]; exact ⟨by kernel_rfl, by simp, by rw [cellsOf_bnd]; decide⟩
    · rw [Try.underlying41]; exact ⟨by kernel_rfl, by intro f hf; simp at hf; rcases hf with rfl | rfl <;> simp⟩
set_option maxRecDepth 100000 in
theorem lifted (os : Os) (started : os.Started) (H : Type) (enc : TypeId × Value → H) :
    ReturnsInHanded {} Try.checked os 4 .any (Rows.boundsClosedSpec.pre6 enc Try.prog Try.f4 Rows.boundsClosedRow.domain false) (Rows.boundsClosedSpec.post enc Try.prog Try.f4 false true false false) := by
  refine returnsInHanded_of_change_sized (C := Try.checked) own started (by kernel_rfl) Try.func4
    (ChangeSpec.witness6 (enc := enc) (C := Try.checked) false ⟨#[], #[.slice none 0 0, .agg #[.int .i64 0, .int .i64 0, .string ⟨#[]⟩, .slice none 0 0, .slice none 0 0]], []⟩ 8 (by kernel_rfl) (by kernel_rfl) (by kernel_rfl) (by kernel_rfl)) ?_
  intro W base args ds gs before hval0 hW _ _ _
  have hval : ∀ (j : Nat) t v, Try.f4.params[j]? = some t → args[j]? = some v → Value.okWide Try.prog W .any base t v := hval0
  have hW' := hW
  have hend : ∀ W', Below W.heap.size W W' → Rows.boundsClosedSpec.post enc Try.prog Try.f4 false true false false W args (.bool true) W' := fun W' hb =>
    law_post (bt := 4) laid hW' rfl rfl Try.underlying4 (by rw [show Try.f4.params = _ from Try.params4]; intro t ht; simp at ht; rcases ht with rfl | rfl <;> exact ⟨by kernel_rfl, of_decide_eq_true (by kernel_rfl)⟩)
      (by rw [show Try.f4.params = _ from Try.params4]; intro l hl; match l, hl with | [_, _], _ => rfl) hb
  obtain ⟨p, q, hA0, hV, hpq, _, _⟩ := hW
  have hA : DataW.TrodAll enc Try.prog W 0 (fun _ => true) true Try.f4.params.toList args.toList ds p := hA0
  rw [Try.params4] at hA hval
  have hlt : ∀ x, x ∈ p → x.block < W.heap.size := fun x hx => hW'.lt x (by rw [hpq]; exact List.mem_append.2 (.inl hx))
  obtain ⟨v0, vs0, d0, ds0, p0, q0, hargs, rfl, rfl, h0, r0⟩ := trodAll_cons hA
  obtain ⟨v1, vs1, d1, ds1, p1, q1, rfl, rfl, rfl, h1, r1⟩ := trodAll_cons r0
  obtain ⟨rfl, rfl, rfl⟩ := trodAll_nil r1
  obtain rfl : args = #[v0, v1] := by cases args; simp_all
  obtain ⟨n0, x0, g0, k0⟩ := param_has kinds (by simp) (hval 0 22 v0 rfl rfl) h0
  obtain ⟨n1, x1, g1, k1⟩ := param_has kinds (by simp) (hval 1 26 v1 rfl rfl) h1
  obtain ⟨m, rfl, _, hb_m⟩ := has_bnds g0
  obtain ⟨t, rfl, ho_t⟩ := has_ty _ g1
  refine ((closedw_law m t hb_m ho_t).2 (allS W) W [v0, v1] ⟨fun _ _ h => h, by unfold ghost; simp⟩ ⟨_, _, rfl, k0, ⟨_, _, rfl, k1, rfl⟩⟩).mono ?_
  rintro e W' ⟨v, S', d, rfl, rfl, hb, _, _, hv⟩
  simp only [Pv.Rd] at hv
  subst hv
  exact ⟨_, rfl, hend W' hb⟩
theorem holds : Rows.BoundsClosedSaid :=
  OpenClaim.holds_of_wide 4 Try.f4 rfl rfl rfl rfl rfl rfl rfl ⟨rfl, rfl, rfl, rfl, rfl⟩ rfl rfl rfl rfl rfl (by kernel_rfl) Try.func4 (by kernel_rfl)
    (of_decide_eq_true (by kernel_rfl)) (by unfold Func.isWrapper; first | (rw [if_pos (by decide +kernel)]; kernel_rfl) | (rw [if_neg (by decide +kernel)]; exact ⟨rfl, rfl⟩))
    (fun os started H enc _ => lifted os started H enc)
end Go.Proofs.Ytpnfbmhnmhahnaa.bdClosedS
