/- limbeckref09: the names of bindings, what is found, and what is up. -/
import Derived.Test.YtpnfbmhnmhahnaaPwBd
import Derived.Test.YtpnfbmhnmhahnaaPwC4
namespace Go.Proofs.Ytpnfbmhnmhahnaa
open Go.RowKit Pv
set_option maxRecDepth 100000
def nmD (m : List Bd) : D := .sl none 1 ((m.map Prod.fst).map strD)
set_option maxHeartbeats 4000000 in
theorem names_run (m : List Bd) (hm : m.length ≤ 140737488355) (Q : D → H → Prop) (hQ : ∀ d h', Wk d (nmD m) → Q d h') : wfun TT 17 [.sl none 6 (bnsD m)] [] Q := by
  have hBi := bns_idb m
  have hBl := bns_len m
  have hat := fun i => bns_at (m := m) (i := i)
  have hQ : ∀ tag h', Q (.sl tag 1 ((m.map Prod.fst).map strD)) h' := fun tag h' => hQ _ h' (untag_any _ _ _)
  generalize bnsD m = BS at hBi hBl hat ⊢
  cbv
  (repeat'((first|(apply zS;kernel_rfl)|(apply zD;decide +kernel)|(apply zE;decide +kernel)|(apply zF;decide +kernel)|(apply zL;decide +kernel)|(apply zM;decide +kernel)|(apply zN;intros)|(apply zO;intros)|(apply zT;omega)|(apply zU;omega)|(apply zP;omega;intros)|(apply zQ;omega;intros)|apply zR);cbv))
  refine LoopK.log 3 9 1 rfl ?_
  refine LoopK.put (X := Int × List D × Nat) (fun x => [(3, .sl (some 0) 1 x.2.1), (4, .raw (.int .i64 x.1))]) (fun x => [(0, .log 9 1 x.2.2)]) (fun x => m.length - x.1.toNat)
    (fun x => 0 ≤ x.1 ∧ x.1.toNat ≤ m.length ∧ x.2.1 = ((m.take x.1.toNat).map Prod.fst).map strD ∧ x.2.2 = x.2.1.length) (0, [], 0) ⟨by simp, by simp, rfl, rfl⟩ rfl rfl ?_
  rintro ⟨i, L, nl⟩ N ⟨h0, hi, hL, hnl⟩ hN
  simp only at h0 hi hL hnl hN ⊢
  have hLl : L.length = i.toNat := by rw [hL]; simp; omega
  cbv
  (repeat'((first|(apply zS;kernel_rfl)|(apply zD;decide +kernel)|(apply zE;decide +kernel)|(apply zF;decide +kernel)|(apply zL;decide +kernel)|(apply zM;decide +kernel)|(apply zN;intros)|(apply zO;intros)|(apply zT;omega)|(apply zU;omega)|(apply zP;omega;intros)|(apply zQ;omega;intros)|apply zR);cbv))
  refine BinK.lss ?_ ?_ <;> intro hlt <;> cbv <;> (repeat'((first|(apply zS;kernel_rfl)|(apply zD;decide +kernel)|(apply zE;decide +kernel)|(apply zF;decide +kernel)|(apply zL;decide +kernel)|(apply zM;decide +kernel)|(apply zN;intros)|(apply zO;intros)|(apply zT;omega)|(apply zU;omega)|(apply zP;omega;intros)|(apply zQ;omega;intros)|apply zR);cbv))
  · obtain ⟨p, hp, hB⟩ := hat i.toNat (by omega)
    have htake : m.take (i.toNat + 1) = m.take i.toNat ++ [p] := by
      obtain ⟨h1, h2⟩ := List.getElem?_eq_some_iff.1 hp
      rw [List.take_succ_eq_append_getElem h1, h2]
    have hstep : ∀ r : Int, r = i + 1 → ((m.take r.toNat).map Prod.fst).map strD = L ++ [.raw (.string p.1)] := fun r hr => by
      rw [hL, show r.toNat = i.toNat + 1 by omega, htake]
      simp [strD]
    obtain ⟨k0, n0, m0, L0, K0, f0, f1, j1, j2⟩ := bn_node p
    rw [f0] at hB
    generalize p.1 = pn at hB hstep
    clear f0 f1 j1 j2
    refine IdxK.intro h0 hB ?_
    cbv
    (repeat'((first|(apply zS;kernel_rfl)|(apply zD;decide +kernel)|(apply zE;decide +kernel)|(apply zF;decide +kernel)|(apply zL;decide +kernel)|(apply zM;decide +kernel)|(apply zN;intros)|(apply zO;intros)|(apply zT;omega)|(apply zU;omega)|(apply zP;omega;intros)|(apply zQ;omega;intros)|apply zR);cbv))
    refine AppK.sl el_strs el_strs rfl hnl (by simp only [List.length_cons, List.length_nil]; omega) ?_
    intro L' nl' hL' hnl'
    cbv
    (repeat'((first|(apply zS;kernel_rfl)|(apply zD;decide +kernel)|(apply zE;decide +kernel)|(apply zF;decide +kernel)|(apply zL;decide +kernel)|(apply zM;decide +kernel)|(apply zN;intros)|(apply zO;intros)|(apply zT;omega)|(apply zU;omega)|(apply zP;omega;intros)|(apply zQ;omega;intros)|apply zR);cbv))
    rename_i r hr
    have hL2 : L' = ((m.take r.toNat).map Prod.fst).map strD := by rw [hstep r hr]; exact hL'
    have hLi : ∀ k, idbL k L' = true := fun k => pure_idbL k _ (by rw [hL2]; exact strs_pure _)
    refine RoundK.forget (r, L', nl') ⟨by omega, by omega, hL2, hnl'⟩ (by omega) rfl rfl ?_ ?_
    · simp [idbL, idb, hBi, hLi]
    · simp [cellIdb]
  · have hall : m.take i.toNat = m := List.take_of_length_le (by omega)
    rw [hall] at hL
    subst hL
    exact ⟨hQ _ _⟩
theorem names_pure (m : List Bd) : pureD (nmD m) = some (nmD m) := by
  unfold nmD
  have h := strs_pure (m.map Prod.fst)
  generalize (m.map Prod.fst).map strD = L at *
  simp [pureD, h]
theorem names_cp (m : List Bd) (hm : m.length ≤ 140737488355) : CP (TT ()) 17 [.sl none 6 (bnsD m)] (· = nmD m) := c4_runW (names_pure m) fun Q hQ => names_run m hm Q hQ
theorem place9_cp (ls : List ByteArray) (s : ByteArray) (hs : ∀ u ∈ ls, u.size ≤ maxLen) : CP (TT ()) 26 [.sl none 1 (ls.map strD), .raw (.string s)] (· = .raw (.int .i64 (placeI ls s))) :=
  cp_raw (callable_at Try.func26 (by kernel_rfl) rfl) fun S w args r => by
    obtain ⟨v, v', rfl, h, h'⟩ := rdL_two r
    simp only [Pv.Rd] at h'
    subst h'
    refine (place_any v ls s w (strs_in h hs)).mono ?_
    rintro e w' ⟨rfl, rfl⟩
    exact ⟨rfl, Below.refl _ _⟩
/-! ### What is found -/
def zT9 : Ty5 := .mk 0 0 ⟨#[]⟩ [] []
def findB (m : List Bd) (s : ByteArray) : Ty5 × Bool := if placeI (m.map Prod.fst) s < 0 then (zT9, false) else (((m[(placeI (m.map Prod.fst) s).toNat]?).map Prod.snd).getD zT9, true)
def pairD2 (x : Ty5 × Bool) : D := .tup [tyD x.1, .raw (.bool x.2)]
theorem pairD2_pure (x : Ty5 × Bool) : pureD (pairD2 x) = some (pairD2 x) := by simp [pairD2, pureD, pureL, ty_pure]
theorem zero_wk : Wk (.agg [.raw (.int .i64 0), .raw (.int .i64 0), .raw (.string ⟨#[]⟩), .raw (.slice none 0 0), .raw (.slice none 0 0)]) (tyD zT9) := .agg (.cons (.refl _) (.cons (.refl _) (.cons (.refl _) (.cons (nil_any 1) (.cons (nil_any 5) .nil)))))
def okN (m : List Bd) : Prop := ∀ u ∈ m.map Prod.fst, u.size ≤ maxLen
set_option maxHeartbeats 4000000 in
theorem findr_run (m : List Bd) (hm : m.length ≤ 140737488355) (s : ByteArray) (hs : okN m) (Q : D → H → Prop) (hQ : ∀ d h', Wk d (pairD2 (findB m s)) → Q d h') : wfun TT 9 [.sl none 6 (bnsD m), .raw (.string s)] [] Q := by
  have cN := names_cp m hm
  have cP := place9_cp (m.map Prod.fst) s hs
  have hNp := names_pure m
  have hBp := bns_pure m
  have hr := place_range (m.map Prod.fst) s
  rw [List.length_map] at hr
  have hr : ¬ placeI (m.map Prod.fst) s < 0 → (placeI (m.map Prod.fst) s).toNat < m.length ∧ 0 ≤ placeI (m.map Prod.fst) s := fun h => by omega
  have hat := fun i => bns_at (m := m) (i := i)
  unfold findB at hQ
  have hno : placeI (m.map Prod.fst) s < 0 → ∀ d h', Wk d (pairD2 (zT9, false)) → Q d h' := fun h => by rw [if_pos h] at hQ; exact hQ
  have hyes : ¬ placeI (m.map Prod.fst) s < 0 → ∀ p, m[(placeI (m.map Prod.fst) s).toNat]? = some p → ∀ d h', Wk d (pairD2 (p.2, true)) → Q d h' := fun h p hp => by rw [if_neg h, hp] at hQ; exact hQ
  clear hQ
  generalize placeI (m.map Prod.fst) s = z at *
  unfold nmD at cN hNp
  generalize (m.map Prod.fst).map strD = NS at *
  have hp1 : pureL [.sl none 6 (bnsD m)] = some [.sl none 6 (bnsD m)] := by simp [pureL, pureD, hBp]
  generalize bnsD m = BS at *
  cbv
  (repeat'((first|(apply zS;kernel_rfl)|(apply zD;decide +kernel)|(apply zE;decide +kernel)|(apply zF;decide +kernel)|(apply zL;decide +kernel)|(apply zM;decide +kernel)|(apply zN;intros)|(apply zO;intros)|(apply zT;omega)|(apply zU;omega)|(apply zP;omega;intros)|(apply zQ;omega;intros)|apply zR);cbv))
  refine .one cN hp1 hNp ?_
  cbv
  (repeat'((first|(apply zS;kernel_rfl)|(apply zD;decide +kernel)|(apply zE;decide +kernel)|(apply zF;decide +kernel)|(apply zL;decide +kernel)|(apply zM;decide +kernel)|(apply zN;intros)|(apply zO;intros)|(apply zT;omega)|(apply zU;omega)|(apply zP;omega;intros)|(apply zQ;omega;intros)|apply zR);cbv))
  refine .one cP (cons_pure hNp rfl) rfl ?_
  cbv
  (repeat'((first|(apply zS;kernel_rfl)|(apply zD;decide +kernel)|(apply zE;decide +kernel)|(apply zF;decide +kernel)|(apply zL;decide +kernel)|(apply zM;decide +kernel)|(apply zN;intros)|(apply zO;intros)|(apply zT;omega)|(apply zU;omega)|(apply zP;omega;intros)|(apply zQ;omega;intros)|apply zR);cbv))
  refine BinK.lss ?_ ?_ <;> intro h0 <;> cbv <;> (repeat'((first|(apply zS;kernel_rfl)|(apply zD;decide +kernel)|(apply zE;decide +kernel)|(apply zF;decide +kernel)|(apply zL;decide +kernel)|(apply zM;decide +kernel)|(apply zN;intros)|(apply zO;intros)|(apply zT;omega)|(apply zU;omega)|(apply zP;omega;intros)|(apply zQ;omega;intros)|apply zR);cbv))
  · exact ⟨hno h0 _ _ (.tup (.cons zero_wk (.refl _)))⟩
  · obtain ⟨hr1, hr2⟩ := hr (by omega)
    obtain ⟨p, hp, hB⟩ := hat z.toNat hr1
    have hyes := hyes (by omega) p hp
    obtain ⟨k0, n0, m0, L0, K0, f0, f1, j1, j2⟩ := bn_node p
    unfold pairD2 at hyes
    simp only at hyes
    rw [f1] at hyes
    rw [f0] at hB
    generalize p.1 = pn at hB
    clear f0 f1 j1 j2 hno
    refine IdxK.intro hr2 hB ?_
    cbv
    (repeat'((first|(apply zS;kernel_rfl)|(apply zD;decide +kernel)|(apply zE;decide +kernel)|(apply zF;decide +kernel)|(apply zL;decide +kernel)|(apply zM;decide +kernel)|(apply zN;intros)|(apply zO;intros)|(apply zT;omega)|(apply zU;omega)|(apply zP;omega;intros)|(apply zQ;omega;intros)|apply zR);cbv))
    exact ⟨hyes _ _ (.refl _)⟩
theorem findr_cp (m : List Bd) (hm : m.length ≤ 140737488355) (s : ByteArray) (hs : okN m) : CP (TT ()) 9 [.sl none 6 (bnsD m), .raw (.string s)] (· = pairD2 (findB m s)) := c4_runW (pairD2_pure _) fun Q hQ => findr_run m hm s hs Q hQ
/-! ### What is up -/
def upB9 (m : List Bd) : Ty5 → Ty5 × Bool
  | .mk k n nm ls ks => if k = 6 ∧ (findB m nm).2 = true then ((findB m nm).1, true) else (.mk k n nm ls ks, false)
theorem upB9_mk (m : List Bd) (k n : Int) (nm : ByteArray) (ls : List ByteArray) (ks : List Ty5) : upB9 m (.mk k n nm ls ks) = if k = 6 ∧ (findB m nm).2 = true then ((findB m nm).1, true) else (.mk k n nm ls ks, false) := rfl
set_option maxHeartbeats 4000000 in
theorem upr_run (m : List Bd) (hm : m.length ≤ 140737488355) (k n : Int) (nm : ByteArray) (ls : List ByteArray) (ks : List Ty5) (hs : okN m) (Q : D → H → Prop) (hQ : ∀ d h', Wk d (pairD2 (upB9 m (.mk k n nm ls ks))) → Q d h') : wfun TT 11 [.sl none 6 (bnsD m), tyD (.mk k n nm ls ks)] [] Q := by
  have cF := findr_cp m hm nm hs
  have hBp := bns_pure m
  have hFp := pairD2_pure (findB m nm)
  have hTp := ty_pure (.mk k n nm ls ks)
  have hyes : k = 6 → (findB m nm).2 = true → ∀ d h', Wk d (.tup [tyD (findB m nm).1, .raw (.bool true)]) → Q d h' := fun h1 h2 => by
    rw [upB9_mk, if_pos ⟨h1, h2⟩] at hQ
    exact hQ
  have hno : ¬ (k = 6 ∧ (findB m nm).2 = true) → ∀ d h', Wk d (.tup [tyD (.mk k n nm ls ks), .raw (.bool false)]) → Q d h' := fun h => by
    rw [upB9_mk, if_neg h] at hQ
    exact hQ
  clear hQ
  generalize findB m nm = F at *
  obtain ⟨u, b⟩ := F
  unfold pairD2 at *
  simp only [tyD] at *
  have hp1 : pureL [.sl none 6 (bnsD m), .raw (.string nm)] = some [.sl none 6 (bnsD m), .raw (.string nm)] := by simp [pureL, pureD, hBp]
  obtain ⟨k0, n0, m0, L0, K0, f0, _, _⟩ := c4_node u
  rw [f0] at cF hFp hyes
  generalize bnsD m = BS at *
  generalize ls.map strD = LS at *
  generalize tysD ks = KS at *
  cbv
  (repeat'((first|(apply zS;kernel_rfl)|(apply zD;decide +kernel)|(apply zE;decide +kernel)|(apply zF;decide +kernel)|(apply zL;decide +kernel)|(apply zM;decide +kernel)|(apply zN;intros)|(apply zO;intros)|(apply zT;omega)|(apply zU;omega)|(apply zP;omega;intros)|(apply zQ;omega;intros)|apply zR);cbv))
  refine BinK.eql ?_ ?_ <;> intro h0 <;> cbv <;> (repeat'((first|(apply zS;kernel_rfl)|(apply zD;decide +kernel)|(apply zE;decide +kernel)|(apply zF;decide +kernel)|(apply zL;decide +kernel)|(apply zM;decide +kernel)|(apply zN;intros)|(apply zO;intros)|(apply zT;omega)|(apply zU;omega)|(apply zP;omega;intros)|(apply zQ;omega;intros)|apply zR);cbv))
  · refine .one cF hp1 hFp ?_
    cases b with
    | true =>
      have hyes := hyes h0 rfl
      clear hno
      cbv
      (repeat'((first|(apply zS;kernel_rfl)|(apply zD;decide +kernel)|(apply zE;decide +kernel)|(apply zF;decide +kernel)|(apply zL;decide +kernel)|(apply zM;decide +kernel)|(apply zN;intros)|(apply zO;intros)|(apply zT;omega)|(apply zU;omega)|(apply zP;omega;intros)|(apply zQ;omega;intros)|apply zR);cbv))
      exact ⟨hyes _ _ (.refl _)⟩
    | false =>
      have hno := hno (by simp)
      clear hyes
      cbv
      (repeat'((first|(apply zS;kernel_rfl)|(apply zD;decide +kernel)|(apply zE;decide +kernel)|(apply zF;decide +kernel)|(apply zL;decide +kernel)|(apply zM;decide +kernel)|(apply zN;intros)|(apply zO;intros)|(apply zT;omega)|(apply zU;omega)|(apply zP;omega;intros)|(apply zQ;omega;intros)|apply zR);cbv))
      exact ⟨hno _ _ (.refl _)⟩
  · have hno := hno (fun h => h0 h.1)
    clear hyes
    cbv
    exact ⟨hno _ _ (.refl _)⟩
theorem upr_cp (m : List Bd) (hm : m.length ≤ 140737488355) (t : Ty5) (hs : okN m) : CP (TT ()) 11 [.sl none 6 (bnsD m), tyD t] (· = pairD2 (upB9 m t)) := by
  obtain ⟨k, n, nm, ls, ks⟩ := t
  exact c4_runW (pairD2_pure _) fun Q hQ => upr_run m hm k n nm ls ks hs Q hQ
end Go.Proofs.Ytpnfbmhnmhahnaa
