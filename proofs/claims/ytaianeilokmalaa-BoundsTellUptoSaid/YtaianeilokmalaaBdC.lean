/- Bounds that are right: what is up has no variables (mathematics). -/
import Derived.Test.YtaianeilokmalaaBdL
namespace Go.Proofs.Ytaianeilokmalaa
open Go.RowKit Pv
mutual
theorem closed_names : ∀ t : Ty5, hasT 6 t = false → namesT t = []
  | .mk k n nm ls ks, h => by
    simp only [hasT, Bool.or_eq_false_iff] at h
    simp only [namesT, h.1, closed_namesL ks h.2]
    rfl
theorem closed_namesL : ∀ ks : List Ty5, hasL 6 ks = false → namesL ks = []
  | [], _ => rfl
  | t :: r, h => by
    simp only [hasL, Bool.or_eq_false_iff] at h
    simp only [namesL, closed_names t h.1, closed_namesL r h.2]
    rfl
end
theorem closed_vrs {t : Ty5} (h : hasT 6 t = false) : vrsT t = [] := by
  have := (vrsT_is t).2
  rw [closed_names t h] at this
  exact List.eq_nil_iff_forall_not_mem.2 fun s hs => by simpa using (this s).1 hs
theorem closed_in (m : List Bd) {t : Ty5} (h : hasT 6 t = false) : inB9 m t = true := inB9_at.2 fun j s hs => by
  rw [closed_vrs h] at hs
  simp at hs
theorem findB_two {m : List Bd} {s : ByteArray} (h : (findB m s).2 = true) : 0 ≤ placeI (m.map Prod.fst) s ∧ ∃ p ∈ m, (findB m s).1 = p.2 := by
  unfold findB at h ⊢
  have hr := place_range (m.map Prod.fst) s
  rw [List.length_map] at hr
  split at h
  · cases h
  · rename_i h0
    rw [if_neg h0]
    refine ⟨by omega, ?_⟩
    have hl : (placeI (m.map Prod.fst) s).toNat < m.length := by omega
    exact ⟨m[(placeI (m.map Prod.fst) s).toNat], List.getElem_mem hl, by simp [List.getElem?_eq_getElem hl]⟩
theorem right_closed {m : List Bd} (h : rightB9 m = true) : ∀ p ∈ m, hasT 6 p.2 = false := fun p hp => by
  obtain ⟨i, hi⟩ := List.getElem?_of_mem hp
  have := rightB9_at.1 h i p hi
  unfold stepR9 at this
  simp only [Bool.and_eq_true, Bool.not_eq_true'] at this
  exact this.1.2
theorem closed_up (m : List Bd) : ∀ {t : Ty5}, hasT 6 t = false → upB9 m t = (t, false)
  | .mk k n nm ls ks, h => by
    simp only [hasT, Bool.or_eq_false_iff] at h
    rw [upB9_mk, if_neg fun e => by rw [e.1] at h; cases h.1]
theorem right_var {n : Int} {nm : ByteArray} {ls : List ByteArray} {ks : List Ty5} (h : rightT varB risingB (.mk 6 n nm ls ks) = true) : ks = [] := by
  simp only [rightT, headB, Bool.and_eq_true] at h
  cases ks with
  | nil => rfl
  | cons a r =>
    simp at h
    have := h.2.2.2
    omega
/-- What the law of bounds says. -/
theorem up_no {m : List Bd} {k n : Int} {nm : ByteArray} {ls : List ByteArray} {ks : List Ty5} (h : (upB9 m (.mk k n nm ls ks)).2 = false) : upB9 m (.mk k n nm ls ks) = (.mk k n nm ls ks, false) ∧ (k = 6 → (findB m nm).2 = false) := by
  rw [upB9_mk] at h ⊢
  split at h
  · cases h
  · rename_i h0
    exact ⟨by rw [if_neg h0], fun hk => by
      cases hf : (findB m nm).2 with
      | false => rfl
      | true => exact absurd ⟨hk, hf⟩ h0⟩
theorem up_yes {m : List Bd} (hm : rightB9 m = true) {k n : Int} {nm : ByteArray} {ls : List ByteArray} {ks : List Ty5} (ht : rightT varB risingB (.mk k n nm ls ks) = true) (h : (upB9 m (.mk k n nm ls ks)).2 = true) :
    k = 6 ∧ (upB9 m (.mk k n nm ls ks)).1 = (findB m nm).1 ∧ hasT 6 (findB m nm).1 = false ∧ (∃ p ∈ m, (findB m nm).1 = p.2) ∧ inB9 m (.mk k n nm ls ks) = true := by
  rw [upB9_mk] at h ⊢
  split at h
  · rename_i h0
    obtain ⟨rfl, hf⟩ := h0
    obtain ⟨h1, p, hp, h2⟩ := findB_two hf
    refine ⟨rfl, by rw [if_pos ⟨rfl, hf⟩], by rw [h2]; exact right_closed hm p hp, ⟨p, hp, h2⟩, inB9_at.2 fun j s hs => ?_⟩
    rw [right_var ht] at hs
    simp only [vrsT, vrsL, if_pos] at hs
    have : s = nm := by simpa using List.mem_of_getElem? hs
    rw [this]
    exact h1
  · cases h
theorem upB9_nodes {m : List Bd} (h : ∀ p ∈ m, nodesT p.2 ≤ 200) {t : Ty5} (ht : nodesT t ≤ 500) : nodesT (upB9 m t).1 ≤ 500 := by
  obtain ⟨k, n, nm, ls, ks⟩ := t
  rw [upB9_mk]
  split
  · rename_i h0
    obtain ⟨_, p, hp, h2⟩ := findB_two h0.2
    simp only
    rw [h2]
    have := h p hp
    omega
  · exact ht
theorem wk_nil6 (ds : List D) : WkL (.raw (.slice none 0 0) :: ds) (.sl none 6 (bnsD []) :: ds) := .cons (nil_any 6) (.refl ds)
theorem cp_wk {k : FuncId} {ds es : List D} {Q : D → Prop} (c : CP (TT ()) k es Q) (hw : WkL ds es) : CP (TT ()) k ds Q := ⟨c.1, fun S w args hS r => c.2 S w args hS (hw _ _ _ r)⟩
theorem fewB_nil : FewB [] := ⟨fun _ h => by simp at h, by simp, fun _ h => by simp at h⟩
set_option maxRecDepth 100000
set_option maxHeartbeats 4000000 in
theorem closed_run (P : BoundsP) (m : List Bd) (k n : Int) (nm : ByteArray) (ls : List ByteArray) (ks : List Ty5) (hm : okB m) (ht : okT (.mk k n nm ls ks)) (hzt : szT (.mk k n nm ls ks) ≤ 1048576) (hzm : ∀ p ∈ m, p.1.size ≤ 1048576 ∧ szT p.2 ≤ 1048576) (Q : D → H → Prop) (hQ : ∀ h', Q (.raw (.bool true)) h') :
    wfun TT 4 [.sl none 6 (bnsD m), tyD (.mk k n nm ls ks)] [] Q := by
  have cA := P.awake
  have cM := muchq_cp _ ht hzt
  have cF := few_cp m hm hzm
  have cR := right9_cp _ ht
  have main0 : much (.mk k n nm ls ks) ≤ 500 → (m.length ≤ 20 ∧ ∀ p ∈ m, much p.2 ≤ 200) → CP (TT ()) 12 [.sl none 6 (bnsD m)] (· = .raw (.bool (rightB9 m))) := fun h1 h2 =>
    P.right m ⟨hm, h2.1, fun p hp => Nat.le_trans (much_nodes _ (by have := h2.2 p hp; omega)) (h2.2 p hp)⟩
  have hUo := upB9_ok hm ht
  have main : much (.mk k n nm ls ks) ≤ 500 → (m.length ≤ 20 ∧ ∀ p ∈ m, much p.2 ≤ 200) →
      CP (TT ()) 10 [.sl none 6 (bnsD m), tyD (.mk k n nm ls ks)] (· = pairD2 (upB9 m (.mk k n nm ls ks))) ∧
      CP (TT ()) 10 [.sl none 6 (bnsD m), tyD (upB9 m (.mk k n nm ls ks)).1] (· = pairD2 (upB9 m (upB9 m (.mk k n nm ls ks)).1)) ∧
      CP (TT ()) 8 [.sl none 6 (bnsD m), .raw (.string nm)] (· = pairD2 (findB m nm)) ∧
      CP (TT ()) 14 [tyD (upB9 m (.mk k n nm ls ks)).1, tyD (upB9 m (.mk k n nm ls ks)).1] (· = .raw (.bool true)) ∧
      CP (TT ()) 21 [tyD (upB9 m (.mk k n nm ls ks)).1] (· = .raw (.bool (!hasT 6 (upB9 m (.mk k n nm ls ks)).1))) ∧
      CP (TT ()) 18 [.raw (.slice none 0 0), tyD (upB9 m (.mk k n nm ls ks)).1] (· = .raw (.bool (inB9 [] (upB9 m (.mk k n nm ls ks)).1))) ∧
      CP (TT ()) 18 [.sl none 6 (bnsD m), tyD (.mk k n nm ls ks)] (· = .raw (.bool (inB9 m (.mk k n nm ls ks)))) := fun h1 h2 => by
    have hb : ∀ p ∈ m, nodesT p.2 ≤ 200 := fun p hp => Nat.le_trans (much_nodes _ (by have := h2.2 p hp; omega)) (h2.2 p hp)
    have hf : FewB m := ⟨hm, h2.1, hb⟩
    have hn : nodesT (.mk k n nm ls ks) ≤ 500 := Nat.le_trans (much_nodes _ (by omega)) h1
    have hun := upB9_nodes hb hn
    have e1 := sameq_cp _ _ hUo hUo
    rw [same_refl] at e1
    exact ⟨P.up m _ hf ht hn, P.up m _ hf hUo hun, P.find m nm hf ht.1, e1, closed9_cp _ hUo, cp_wk (P.holds [] _ fewB_nil hUo hun) (wk_nil6 _), P.holds m _ hf ht hn⟩
  have no : (upB9 m (.mk k n nm ls ks)).2 = false → upB9 m (.mk k n nm ls ks) = (.mk k n nm ls ks, false) ∧ (k = 6 → (findB m nm).2 = false) := up_no
  have yes : rightB9 m = true → rightT varB risingB (.mk k n nm ls ks) = true → (upB9 m (.mk k n nm ls ks)).2 = true → (upB9 m (.mk k n nm ls ks)).1 = (findB m nm).1 ∧ hasT 6 (upB9 m (.mk k n nm ls ks)).1 = false ∧ upB9 m (upB9 m (.mk k n nm ls ks)).1 = ((upB9 m (.mk k n nm ls ks)).1, false) ∧ inB9 [] (upB9 m (.mk k n nm ls ks)).1 = true ∧ inB9 m (.mk k n nm ls ks) = true := fun h1 h2 h3 => by
    obtain ⟨_, e1, e2, _, e4⟩ := up_yes h1 h2 h3
    rw [← e1] at e2
    exact ⟨e1, e2, closed_up m e2, closed_in [] e2, e4⟩
  have hp := ty_pure (.mk k n nm ls ks)
  have hBp := bns_pure m
  have hFp := pairD2_pure (findB m nm)
  have hF1 := ty_pure (findB m nm).1
  have hUp := pairD2_pure (upB9 m (.mk k n nm ls ks))
  have hU1 := ty_pure (upB9 m (.mk k n nm ls ks)).1
  have hVp := pairD2_pure (upB9 m (upB9 m (.mk k n nm ls ks)).1)
  have hM : ∃ z : Int, ((much (.mk k n nm ls ks) : Nat) : Int) = z := ⟨_, rfl⟩
  obtain ⟨zt, hzt'⟩ := hM
  rw [hzt'] at cM
  replace main := fun (h : zt ≤ 500) => main (by omega)
  replace main0 := fun (h : zt ≤ 500) => main0 (by omega)
  clear hUo hzt hzt' ht
  have hT : tyD (.mk k n nm ls ks) = .agg [.raw (.int .i64 k), .raw (.int .i64 n), .raw (.string nm), .sl none 1 (ls.map strD), .sl none 5 (tysD ks)] := rfl
  rw [hT] at cM cR main hp ⊢
  have hU0 : ∀ b, pairD2 (.mk k n nm ls ks, b) = .tup [.agg [.raw (.int .i64 k), .raw (.int .i64 n), .raw (.string nm), .sl none 1 (ls.map strD), .sl none 5 (tysD ks)], .raw (.bool b)] := fun b => rfl
  generalize ls.map strD = LS at cM cR main hp hT hU0 ⊢
  generalize tysD ks = KS at cM cR main hp hT hU0 ⊢
  generalize Ty5.mk k n nm ls ks = T at *
  generalize bnsD m = BS at cF hBp main0 main ⊢
  cbv
  (repeat'((first|(apply zS;kernel_rfl)|(apply zD;decide +kernel)|(apply zE;decide +kernel)|(apply zF;decide +kernel)|(apply zL;decide +kernel)|(apply zM;decide +kernel)|(apply zN;intros)|(apply zO;intros)|(apply zT;omega)|(apply zU;omega)|(apply zP;omega;intros)|(apply zQ;omega;intros)|apply zR);cbv))
  refine CallK.pure cF (by simp [pureL, pureD, hBp]) ?_
  rintro d ⟨z, rfl, hz⟩
  refine ⟨rfl, ?_⟩
  cbv
  (repeat'((first|(apply zS;kernel_rfl)|(apply zD;decide +kernel)|(apply zE;decide +kernel)|(apply zF;decide +kernel)|(apply zL;decide +kernel)|(apply zM;decide +kernel)|(apply zN;intros)|(apply zO;intros)|(apply zT;omega)|(apply zU;omega)|(apply zP;omega;intros)|(apply zQ;omega;intros)|apply zR);cbv))
  refine BinK.gtr ?_ ?_ <;> intro hz1 <;> cbv <;> (repeat'((first|(apply zS;kernel_rfl)|(apply zD;decide +kernel)|(apply zE;decide +kernel)|(apply zF;decide +kernel)|(apply zL;decide +kernel)|(apply zM;decide +kernel)|(apply zN;intros)|(apply zO;intros)|(apply zT;omega)|(apply zU;omega)|(apply zP;omega;intros)|(apply zQ;omega;intros)|apply zR);cbv))
  · refine .one cA rfl rfl ?_
    cbv
    (repeat'((first|(apply zS;kernel_rfl)|(apply zD;decide +kernel)|(apply zE;decide +kernel)|(apply zF;decide +kernel)|(apply zL;decide +kernel)|(apply zM;decide +kernel)|(apply zN;intros)|(apply zO;intros)|(apply zT;omega)|(apply zU;omega)|(apply zP;omega;intros)|(apply zQ;omega;intros)|apply zR);cbv))
    exact ⟨hQ _⟩
  refine .one cM (cons_pure hp rfl) rfl ?_
  cbv
  (repeat'((first|(apply zS;kernel_rfl)|(apply zD;decide +kernel)|(apply zE;decide +kernel)|(apply zF;decide +kernel)|(apply zL;decide +kernel)|(apply zM;decide +kernel)|(apply zN;intros)|(apply zO;intros)|(apply zT;omega)|(apply zU;omega)|(apply zP;omega;intros)|(apply zQ;omega;intros)|apply zR);cbv))
  refine BinK.gtr ?_ ?_ <;> intro h500 <;> cbv <;> (repeat'((first|(apply zS;kernel_rfl)|(apply zD;decide +kernel)|(apply zE;decide +kernel)|(apply zF;decide +kernel)|(apply zL;decide +kernel)|(apply zM;decide +kernel)|(apply zN;intros)|(apply zO;intros)|(apply zT;omega)|(apply zU;omega)|(apply zP;omega;intros)|(apply zQ;omega;intros)|apply zR);cbv))
  · refine .one cA rfl rfl ?_
    cbv
    (repeat'((first|(apply zS;kernel_rfl)|(apply zD;decide +kernel)|(apply zE;decide +kernel)|(apply zF;decide +kernel)|(apply zL;decide +kernel)|(apply zM;decide +kernel)|(apply zN;intros)|(apply zO;intros)|(apply zT;omega)|(apply zU;omega)|(apply zP;omega;intros)|(apply zQ;omega;intros)|apply zR);cbv))
    exact ⟨hQ _⟩
  have hfew : m.length ≤ 20 ∧ ∀ p ∈ m, much p.2 ≤ 200 := ⟨(hz (by omega)).1, fun p hp => by have := (hz (by omega)).2 p hp; omega⟩
  replace main0 := main0 h500 hfew
  have hB1 : pureL [.sl none 6 BS] = some [.sl none 6 BS] := by simp [pureL, pureD, hBp]
  have hBD : pureD (.sl none 6 BS) = some (.sl none 6 BS) := by simp [pureD, hBp]
  generalize rightB9 m = bR at main0 yes
  generalize rightT varB risingB T = bT at cR yes
  refine .one main0 hB1 rfl ?_
  cases bR with
  | false =>
    cbv
    (repeat'((first|(apply zS;kernel_rfl)|(apply zD;decide +kernel)|(apply zE;decide +kernel)|(apply zF;decide +kernel)|(apply zL;decide +kernel)|(apply zM;decide +kernel)|(apply zN;intros)|(apply zO;intros)|(apply zT;omega)|(apply zU;omega)|(apply zP;omega;intros)|(apply zQ;omega;intros)|apply zR);cbv))
    refine .one cA rfl rfl ?_
    cbv
    (repeat'((first|(apply zS;kernel_rfl)|(apply zD;decide +kernel)|(apply zE;decide +kernel)|(apply zF;decide +kernel)|(apply zL;decide +kernel)|(apply zM;decide +kernel)|(apply zN;intros)|(apply zO;intros)|(apply zT;omega)|(apply zU;omega)|(apply zP;omega;intros)|(apply zQ;omega;intros)|apply zR);cbv))
    exact ⟨hQ _⟩
  | true =>
    cbv
    (repeat'((first|(apply zS;kernel_rfl)|(apply zD;decide +kernel)|(apply zE;decide +kernel)|(apply zF;decide +kernel)|(apply zL;decide +kernel)|(apply zM;decide +kernel)|(apply zN;intros)|(apply zO;intros)|(apply zT;omega)|(apply zU;omega)|(apply zP;omega;intros)|(apply zQ;omega;intros)|apply zR);cbv))
    refine .one cR (cons_pure hp rfl) rfl ?_
    cases bT with
    | false =>
      cbv
      (repeat'((first|(apply zS;kernel_rfl)|(apply zD;decide +kernel)|(apply zE;decide +kernel)|(apply zF;decide +kernel)|(apply zL;decide +kernel)|(apply zM;decide +kernel)|(apply zN;intros)|(apply zO;intros)|(apply zT;omega)|(apply zU;omega)|(apply zP;omega;intros)|(apply zQ;omega;intros)|apply zR);cbv))
      refine .one cA rfl rfl ?_
      cbv
      (repeat'((first|(apply zS;kernel_rfl)|(apply zD;decide +kernel)|(apply zE;decide +kernel)|(apply zF;decide +kernel)|(apply zL;decide +kernel)|(apply zM;decide +kernel)|(apply zN;intros)|(apply zO;intros)|(apply zT;omega)|(apply zU;omega)|(apply zP;omega;intros)|(apply zQ;omega;intros)|apply zR);cbv))
      exact ⟨hQ _⟩
    | true =>
      replace yes := yes rfl rfl
      obtain ⟨c1, c2, c3, c4, c5, c6, c7⟩ := main h500 hfew
      rcases hU : upB9 m T with ⟨U1, U2⟩
      rw [hU] at no yes hUp hU1 hVp c1 c2 c4 c5 c6
      cases U2 with
      | false =>
        obtain ⟨n1, n2⟩ := no rfl
        simp only [Prod.mk.injEq, and_true] at n1
        subst n1
        simp only [hU] at c1 c2 c4
        rw [hU0] at c1 c2
        rw [hT] at c2 c4
        have hTf : pureD (.tup [.agg [.raw (.int .i64 k), .raw (.int .i64 n), .raw (.string nm), .sl none 1 LS, .sl none 5 KS], .raw (.bool false)]) = some (.tup [.agg [.raw (.int .i64 k), .raw (.int .i64 n), .raw (.string nm), .sl none 1 LS, .sl none 5 KS], .raw (.bool false)]) := by rw [← hU0]; exact pairD2_pure _
        rcases hF : findB m nm with ⟨F1, F2⟩
        rw [hF] at c3 hFp hF1 n2
        unfold pairD2 at c3 hFp
        simp only at c3 hFp hF1 n2
        obtain ⟨k1, x1, nm1, L1, K1, f1, i1, j1⟩ := c4_node F1
        rw [f1] at c3 hFp hF1
        clear f1 hT hU0 yes no hU hUp hU1 hVp c5 c6 c7
        cbv
        (repeat'((first|(apply zS;kernel_rfl)|(apply zD;decide +kernel)|(apply zE;decide +kernel)|(apply zF;decide +kernel)|(apply zL;decide +kernel)|(apply zM;decide +kernel)|(apply zN;intros)|(apply zO;intros)|(apply zT;omega)|(apply zU;omega)|(apply zP;omega;intros)|(apply zQ;omega;intros)|apply zR);cbv))
        refine .one c1 (cons_pure hBD (cons_pure hp rfl)) hTf ?_
        cbv
        (repeat'((first|(apply zS;kernel_rfl)|(apply zD;decide +kernel)|(apply zE;decide +kernel)|(apply zF;decide +kernel)|(apply zL;decide +kernel)|(apply zM;decide +kernel)|(apply zN;intros)|(apply zO;intros)|(apply zT;omega)|(apply zU;omega)|(apply zP;omega;intros)|(apply zQ;omega;intros)|apply zR);cbv))
        refine .one c2 (cons_pure hBD (cons_pure hp rfl)) hTf ?_
        cbv
        (repeat'((first|(apply zS;kernel_rfl)|(apply zD;decide +kernel)|(apply zE;decide +kernel)|(apply zF;decide +kernel)|(apply zL;decide +kernel)|(apply zM;decide +kernel)|(apply zN;intros)|(apply zO;intros)|(apply zT;omega)|(apply zU;omega)|(apply zP;omega;intros)|(apply zQ;omega;intros)|apply zR);cbv))
        refine .one c3 (cons_pure hBD rfl) hFp ?_
        cbv
        (repeat'((first|(apply zS;kernel_rfl)|(apply zD;decide +kernel)|(apply zE;decide +kernel)|(apply zF;decide +kernel)|(apply zL;decide +kernel)|(apply zM;decide +kernel)|(apply zN;intros)|(apply zO;intros)|(apply zT;omega)|(apply zU;omega)|(apply zP;omega;intros)|(apply zQ;omega;intros)|apply zR);cbv))
        refine .one c4 (cons_pure hp (cons_pure hp rfl)) rfl ?_
        cbv
        (repeat'((first|(apply zS;kernel_rfl)|(apply zD;decide +kernel)|(apply zE;decide +kernel)|(apply zF;decide +kernel)|(apply zL;decide +kernel)|(apply zM;decide +kernel)|(apply zN;intros)|(apply zO;intros)|(apply zT;omega)|(apply zU;omega)|(apply zP;omega;intros)|(apply zQ;omega;intros)|apply zR);cbv))
        refine BinK.neq ?_ ?_ <;> intro hk <;> cbv <;> (repeat'((first|(apply zS;kernel_rfl)|(apply zD;decide +kernel)|(apply zE;decide +kernel)|(apply zF;decide +kernel)|(apply zL;decide +kernel)|(apply zM;decide +kernel)|(apply zN;intros)|(apply zO;intros)|(apply zT;omega)|(apply zU;omega)|(apply zP;omega;intros)|(apply zQ;omega;intros)|apply zR);cbv))
        · refine .one cA rfl rfl ?_
          cbv
          (repeat'((first|(apply zS;kernel_rfl)|(apply zD;decide +kernel)|(apply zE;decide +kernel)|(apply zF;decide +kernel)|(apply zL;decide +kernel)|(apply zM;decide +kernel)|(apply zN;intros)|(apply zO;intros)|(apply zT;omega)|(apply zU;omega)|(apply zP;omega;intros)|(apply zQ;omega;intros)|apply zR);cbv))
          exact ⟨hQ _⟩
        · have n2 := n2 hk
          subst n2
          cbv
          (repeat'((first|(apply zS;kernel_rfl)|(apply zD;decide +kernel)|(apply zE;decide +kernel)|(apply zF;decide +kernel)|(apply zL;decide +kernel)|(apply zM;decide +kernel)|(apply zN;intros)|(apply zO;intros)|(apply zT;omega)|(apply zU;omega)|(apply zP;omega;intros)|(apply zQ;omega;intros)|apply zR);cbv))
          refine .one cA rfl rfl ?_
          cbv
          (repeat'((first|(apply zS;kernel_rfl)|(apply zD;decide +kernel)|(apply zE;decide +kernel)|(apply zF;decide +kernel)|(apply zL;decide +kernel)|(apply zM;decide +kernel)|(apply zN;intros)|(apply zO;intros)|(apply zT;omega)|(apply zU;omega)|(apply zP;omega;intros)|(apply zQ;omega;intros)|apply zR);cbv))
          exact ⟨hQ _⟩
      | true =>
        obtain ⟨y1, y2, y3, y4, y5⟩ := yes rfl
        simp only at y1 y2 y3 y4 c1 c2 c4 c5 c6 hU1 hUp hVp
        rw [y3] at c2 hVp
        rw [y2] at c5
        rw [y4] at c6
        rw [y5] at c7
        have hF : pairD2 (findB m nm) = .tup [tyD U1, .raw (.bool (findB m nm).2)] := by rw [y1]; rfl
        rw [hF] at c3 hFp
        generalize (findB m nm).2 = F2 at c3 hFp
        unfold pairD2 at c1 c2 hUp hVp
        simp only at c1 c2 hUp hVp
        obtain ⟨k1, x1, nm1, L1, K1, f1, i1, j1⟩ := c4_node U1
        rw [f1] at c1 c2 c3 c4 c5 c6 hU1 hUp hVp hFp
        clear f1 hT hU0 yes no hU y1 y2 y3 y4 y5 hF hF1
        cbv
        (repeat'((first|(apply zS;kernel_rfl)|(apply zD;decide +kernel)|(apply zE;decide +kernel)|(apply zF;decide +kernel)|(apply zL;decide +kernel)|(apply zM;decide +kernel)|(apply zN;intros)|(apply zO;intros)|(apply zT;omega)|(apply zU;omega)|(apply zP;omega;intros)|(apply zQ;omega;intros)|apply zR);cbv))
        refine .one c1 (cons_pure hBD (cons_pure hp rfl)) hUp ?_
        cbv
        (repeat'((first|(apply zS;kernel_rfl)|(apply zD;decide +kernel)|(apply zE;decide +kernel)|(apply zF;decide +kernel)|(apply zL;decide +kernel)|(apply zM;decide +kernel)|(apply zN;intros)|(apply zO;intros)|(apply zT;omega)|(apply zU;omega)|(apply zP;omega;intros)|(apply zQ;omega;intros)|apply zR);cbv))
        refine .one c2 (cons_pure hBD (cons_pure hU1 rfl)) hVp ?_
        cbv
        (repeat'((first|(apply zS;kernel_rfl)|(apply zD;decide +kernel)|(apply zE;decide +kernel)|(apply zF;decide +kernel)|(apply zL;decide +kernel)|(apply zM;decide +kernel)|(apply zN;intros)|(apply zO;intros)|(apply zT;omega)|(apply zU;omega)|(apply zP;omega;intros)|(apply zQ;omega;intros)|apply zR);cbv))
        refine .one c3 (cons_pure hBD rfl) hFp ?_
        cbv
        (repeat'((first|(apply zS;kernel_rfl)|(apply zD;decide +kernel)|(apply zE;decide +kernel)|(apply zF;decide +kernel)|(apply zL;decide +kernel)|(apply zM;decide +kernel)|(apply zN;intros)|(apply zO;intros)|(apply zT;omega)|(apply zU;omega)|(apply zP;omega;intros)|(apply zQ;omega;intros)|apply zR);cbv))
        refine .one c4 (cons_pure hU1 (cons_pure hU1 rfl)) rfl ?_
        cbv
        (repeat'((first|(apply zS;kernel_rfl)|(apply zD;decide +kernel)|(apply zE;decide +kernel)|(apply zF;decide +kernel)|(apply zL;decide +kernel)|(apply zM;decide +kernel)|(apply zN;intros)|(apply zO;intros)|(apply zT;omega)|(apply zU;omega)|(apply zP;omega;intros)|(apply zQ;omega;intros)|apply zR);cbv))
        refine .one c4 (cons_pure hU1 (cons_pure hU1 rfl)) rfl ?_
        cbv
        (repeat'((first|(apply zS;kernel_rfl)|(apply zD;decide +kernel)|(apply zE;decide +kernel)|(apply zF;decide +kernel)|(apply zL;decide +kernel)|(apply zM;decide +kernel)|(apply zN;intros)|(apply zO;intros)|(apply zT;omega)|(apply zU;omega)|(apply zP;omega;intros)|(apply zQ;omega;intros)|apply zR);cbv))
        refine .one c5 (cons_pure hU1 rfl) rfl ?_
        cbv
        (repeat'((first|(apply zS;kernel_rfl)|(apply zD;decide +kernel)|(apply zE;decide +kernel)|(apply zF;decide +kernel)|(apply zL;decide +kernel)|(apply zM;decide +kernel)|(apply zN;intros)|(apply zO;intros)|(apply zT;omega)|(apply zU;omega)|(apply zP;omega;intros)|(apply zQ;omega;intros)|apply zR);cbv))
        refine .one c6 (cons_pure rfl (cons_pure hU1 rfl)) rfl ?_
        cbv
        (repeat'((first|(apply zS;kernel_rfl)|(apply zD;decide +kernel)|(apply zE;decide +kernel)|(apply zF;decide +kernel)|(apply zL;decide +kernel)|(apply zM;decide +kernel)|(apply zN;intros)|(apply zO;intros)|(apply zT;omega)|(apply zU;omega)|(apply zP;omega;intros)|(apply zQ;omega;intros)|apply zR);cbv))
        refine .one c7 (cons_pure hBD (cons_pure hp rfl)) rfl ?_
        cbv
        (repeat'((first|(apply zS;kernel_rfl)|(apply zD;decide +kernel)|(apply zE;decide +kernel)|(apply zF;decide +kernel)|(apply zL;decide +kernel)|(apply zM;decide +kernel)|(apply zN;intros)|(apply zO;intros)|(apply zT;omega)|(apply zU;omega)|(apply zP;omega;intros)|(apply zQ;omega;intros)|apply zR);cbv))
        refine .one cA rfl rfl ?_
        cbv
        (repeat'((first|(apply zS;kernel_rfl)|(apply zD;decide +kernel)|(apply zE;decide +kernel)|(apply zF;decide +kernel)|(apply zL;decide +kernel)|(apply zM;decide +kernel)|(apply zN;intros)|(apply zO;intros)|(apply zT;omega)|(apply zU;omega)|(apply zP;omega;intros)|(apply zQ;omega;intros)|apply zR);cbv))
        exact ⟨hQ _⟩
end Go.Proofs.Ytaianeilokmalaa
