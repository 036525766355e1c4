/- The landed package bounds: Names, Find and Up over data. -/
import Derived.Test.YtpnfbmhnmhahnaaBdN
namespace Go.Proofs.Ytpnfbmhnmhahnaa
open Go.RowKit Pv
set_option maxRecDepth 100000
/-- The first place at which p holds; -1: there is none. -/
def IdxQ (m : List Bd) (p : Bd → Bool) (z : Int) : Prop := (z = -1 ∧ ∀ (j : Nat) (q : Bd), m[j]? = some q → p q = false) ∨ (0 ≤ z ∧ z.toNat < m.length ∧ (∃ q, m[z.toNat]? = some q ∧ p q = true) ∧ ∀ (j : Nat) (q : Bd), j < z.toNat → m[j]? = some q → p q = false)
set_option maxRecDepth 20000 in
set_option maxHeartbeats 4000000 in
theorem idxf_run (m : List Bd) (p : Bd → Bool) (f : FuncId) (cap : List D) (h : H) (hm : m.length ≤ 140737488355328) (hc : ∀ q ∈ m, CW (TT ()) f (bnD q :: cap) h fun d h' => d = .raw (.bool (p q)) ∧ h' = h)
    (Q : D → H → Prop) (hQ : ∀ z : Int, IdxQ m p z → Q (.raw (.int .i64 z)) h) : wfun TT 24 [.sl none 6 (bnsD m), .fn (.func f) [] cap] h Q := by
  have hBl := bns_len m
  have hBi := bns_idb m
  have hat := fun i => bns_at (m := m) (i := i)
  generalize bnsD m = BS at hBl hBi hat ⊢
  cbv
  (repeat'((first|(apply zS;kernel_rfl)|(apply zD;decide +kernel)|(apply zE;decide +kernel)|(apply zF;decide +kernel)|(apply zL;decide +kernel)|(apply zM;decide +kernel)|(apply zN;intros)|(apply zO;intros)|(apply zT;omega)|(apply zU;omega)|(apply zP;omega;intros)|(apply zQ;omega;intros)|apply zR);cbv))
  refine LoopK.put (X := Int) (fun x => [(8, .raw (.int .i64 x))]) (fun _ => []) (fun x => m.length - x.toNat) (fun x => 0 ≤ x ∧ x.toNat ≤ m.length ∧ ∀ (j : Nat) (q : Bd), j < x.toNat → m[j]? = some q → p q = false) 0 ⟨by simp, by simp, fun j q hj => absurd hj (Nat.not_lt_zero _)⟩ rfl rfl ?_
  rintro i N ⟨h0, hi, hj⟩ hN
  simp only at h0 hi hj hN ⊢
  cbv
  (repeat'((first|(apply zS;kernel_rfl)|(apply zD;decide +kernel)|(apply zE;decide +kernel)|(apply zF;decide +kernel)|(apply zL;decide +kernel)|(apply zM;decide +kernel)|(apply zN;intros)|(apply zO;intros)|(apply zT;omega)|(apply zU;omega)|(apply zP;omega;intros)|(apply zQ;omega;intros)|apply zR);cbv))
  refine BinK.lss ?_ ?_ <;> intro hlt <;> cbv <;> (repeat'((first|(apply zS;kernel_rfl)|(apply zD;decide +kernel)|(apply zE;decide +kernel)|(apply zF;decide +kernel)|(apply zL;decide +kernel)|(apply zM;decide +kernel)|(apply zN;intros)|(apply zO;intros)|(apply zT;omega)|(apply zU;omega)|(apply zP;omega;intros)|(apply zQ;omega;intros)|apply zR);cbv))
  · obtain ⟨q, hq, hB⟩ := hat i.toNat (by omega)
    have hcq := hc q (List.mem_of_getElem? hq)
    obtain ⟨k, n, nm, L, K, f0, f1, j1, j2⟩ := bn_node q
    clear f1 j1 j2
    rw [f0] at hB hcq
    have hyes : p q = true → Q (.raw (.int .i64 i)) h := fun e => hQ i (.inr ⟨h0, by omega, ⟨q, hq, e⟩, hj⟩)
    have hnext : p q = false → ∀ r : Int, r = i + 1 → ∀ (j : Nat) (q : Bd), j < r.toNat → m[j]? = some q → p q = false := fun e r hr j q' hjr hq' => by
      by_cases hji : j = i.toNat
      · rw [hji, hq] at hq'
        cases hq'
        exact e
      · exact hj j q' (by omega) hq'
    generalize p q = b at hcq hyes hnext
    generalize q.1 = pn at hB hcq
    clear hj hQ hq f0 hat hc
    refine IdxK.intro h0 hB ?_
    cbv
    (repeat'((first|(apply zS;kernel_rfl)|(apply zD;decide +kernel)|(apply zE;decide +kernel)|(apply zF;decide +kernel)|(apply zL;decide +kernel)|(apply zM;decide +kernel)|(apply zN;intros)|(apply zO;intros)|(apply zT;omega)|(apply zU;omega)|(apply zP;omega;intros)|(apply zQ;omega;intros)|apply zR);cbv))
    refine CallK.mut hcq ?_
    rintro d h' ⟨rfl, rfl⟩
    cases b with
    | true =>
      have hyes := hyes rfl
      cbv
      (repeat'((first|(apply zS;kernel_rfl)|(apply zD;decide +kernel)|(apply zE;decide +kernel)|(apply zF;decide +kernel)|(apply zL;decide +kernel)|(apply zM;decide +kernel)|(apply zN;intros)|(apply zO;intros)|(apply zT;omega)|(apply zU;omega)|(apply zP;omega;intros)|(apply zQ;omega;intros)|apply zR);cbv))
      exact ⟨hyes⟩
    | false =>
      have hnext := hnext rfl
      cbv
      (repeat'((first|(apply zS;kernel_rfl)|(apply zD;decide +kernel)|(apply zE;decide +kernel)|(apply zF;decide +kernel)|(apply zL;decide +kernel)|(apply zM;decide +kernel)|(apply zN;intros)|(apply zO;intros)|(apply zT;omega)|(apply zU;omega)|(apply zP;omega;intros)|(apply zQ;omega;intros)|apply zR);cbv))
      rename_i r hr
      have hnext := hnext r hr
      refine RoundK.next r ?_ ?_ ?_ ?_
      · exact ⟨by omega, by omega, hnext⟩
      · show m.length - r.toNat < N
        omega
      · rfl
      · rfl
  · have hno : Q (.raw (.int .i64 (-1))) h := hQ (-1) (.inl ⟨rfl, fun j q hq => hj j q (by
      have := (List.getElem?_eq_some_iff.1 hq).1
      omega) hq⟩)
    exact ⟨hno⟩
theorem idxf_cw (m : List Bd) (p : Bd → Bool) (f : FuncId) (cap : List D) (h : H) (hm : m.length ≤ 140737488355328) (hc : ∀ q ∈ m, CW (TT ()) f (bnD q :: cap) h fun d h' => d = .raw (.bool (p q)) ∧ h' = h) :
    CW (TT ()) 24 [.sl none 6 (bnsD m), .fn (.func f) [] cap] h fun d h' => ∃ z : Int, d = .raw (.int .i64 z) ∧ IdxQ m p z ∧ h' = h :=
  wfun_ok (T := TT) (by kernel_rfl) (idxf_run m p f cap h hm hc _ fun z hz => ⟨z, rfl, hz, rfl⟩)
theorem idxq_place {m : List Bd} {s : ByteArray} {z : Int} (h : IdxQ m (fun q => decide (q.1 = s)) z) : z = placeI (m.map Prod.fst) s := by
  have hat : ∀ j (hj : j < (m.map Prod.fst).length), ∃ q, m[j]? = some q ∧ stAt (m.map Prod.fst) j = q.1 := fun j hj => by
    have hj' : j < m.length := by simpa using hj
    exact ⟨m[j], List.getElem?_eq_getElem hj', by rw [stAt_get hj, List.getElem_map]⟩
  have hne : ∀ {a : ByteArray}, a ≠ s → (a.toList == s.toList) = false := fun h => by
    rw [toList_beq]
    exact decide_eq_false h
  rcases h with ⟨rfl, h⟩ | ⟨h0, h1, ⟨q, hq, hp⟩, h2⟩
  · refine (place_none fun j hj => ?_).symm
    obtain ⟨q, hq, e⟩ := hat j hj
    rw [e]
    exact hne (of_decide_eq_false (h j q hq))
  · have := place_some (ss := m.map Prod.fst) (s := s) (k := z.toNat) (by simpa using h1) ?_ fun j hj => ?_
    · omega
    · obtain ⟨q', hq', e⟩ := hat z.toNat (by simpa using h1)
      rw [hq] at hq'
      cases hq'
      rw [e, of_decide_eq_true hp]
      exact beq_self_eq_true _
    · obtain ⟨q', hq', e⟩ := hat j (by simp; omega)
      rw [e]
      exact hne (of_decide_eq_false (h2 j q' hj hq'))
/-! ### Names -/
set_option maxHeartbeats 4000000 in
theorem pnames_run (m : List Bd) (hm : m.length ≤ 140737488355) (Q : D → H → Prop) (hQ : ∀ d h', Wk d (nmD m) → Q d h') : wfun TT 16 [.sl none 6 (bnsD m)] [] Q := by
  have hBi := bns_idb m
  have hBl := bns_len m
  have hat := fun i => bns_at (m := m) (i := i)
  have hQ : ∀ tag h', Q (.sl tag 1 ((m.map Prod.fst).map strD)) h' := fun tag h' => hQ _ h' (untag_any _ _ _)
  generalize bnsD m = BS at hBi hBl hat ⊢
  cbv
  (repeat'((first|(apply zS;kernel_rfl)|(apply zD;decide +kernel)|(apply zE;decide +kernel)|(apply zF;decide +kernel)|(apply zL;decide +kernel)|(apply zM;decide +kernel)|(apply zN;intros)|(apply zO;intros)|(apply zT;omega)|(apply zU;omega)|(apply zP;omega;intros)|(apply zQ;omega;intros)|apply zR);cbv))
  refine LoopK.log 3 9 1 rfl ?_
  refine LoopK.put (X := Int × List D × Nat) (fun x => [(3, .sl (some 0) 1 x.2.1), (8, .raw (.int .i64 x.1))]) (fun x => [(0, .log 9 1 x.2.2)]) (fun x => m.length - x.1.toNat)
    (fun x => 0 ≤ x.1 ∧ x.1.toNat ≤ m.length ∧ x.2.1 = ((m.take x.1.toNat).map Prod.fst).map strD ∧ x.2.2 = x.2.1.length) (0, [], 0) ⟨by simp, by simp, rfl, rfl⟩ rfl rfl ?_
  rintro ⟨i, L, nl⟩ N ⟨h0, hi, hL, hnl⟩ hN
  simp only at h0 hi hL hnl hN ⊢
  have hLl : L.length = i.toNat := by rw [hL]; simp; omega
  cbv
  (repeat'((first|(apply zS;kernel_rfl)|(apply zD;decide +kernel)|(apply zE;decide +kernel)|(apply zF;decide +kernel)|(apply zL;decide +kernel)|(apply zM;decide +kernel)|(apply zN;intros)|(apply zO;intros)|(apply zT;omega)|(apply zU;omega)|(apply zP;omega;intros)|(apply zQ;omega;intros)|apply zR);cbv))
  refine BinK.lss ?_ ?_ <;> intro hlt <;> cbv <;> (repeat'((first|(apply zS;kernel_rfl)|(apply zD;decide +kernel)|(apply zE;decide +kernel)|(apply zF;decide +kernel)|(apply zL;decide +kernel)|(apply zM;decide +kernel)|(apply zN;intros)|(apply zO;intros)|(apply zT;omega)|(apply zU;omega)|(apply zP;omega;intros)|(apply zQ;omega;intros)|apply zR);cbv))
  · obtain ⟨p, hp, hB⟩ := hat i.toNat (by omega)
    have htake : m.take (i.toNat + 1) = m.take i.toNat ++ [p] := by
      obtain ⟨h1, h2⟩ := List.getElem?_eq_some_iff.1 hp
      rw [List.take_succ_eq_append_getElem h1, h2]
    have hstep : ∀ r : Int, r = i + 1 → ((m.take r.toNat).map Prod.fst).map strD = L ++ [.raw (.string p.1)] := fun r hr => by
      rw [hL, show r.toNat = i.toNat + 1 by omega, htake]
      simp [strD]
    obtain ⟨k0, n0, m0, L0, K0, f0, f1, j1, j2⟩ := bn_node p
    rw [f0] at hB
    generalize p.1 = pn at hB hstep
    clear f0 f1
    refine IdxK.intro h0 hB ?_
    cbv
    (repeat'((first|(apply zS;kernel_rfl)|(apply zD;decide +kernel)|(apply zE;decide +kernel)|(apply zF;decide +kernel)|(apply zL;decide +kernel)|(apply zM;decide +kernel)|(apply zN;intros)|(apply zO;intros)|(apply zT;omega)|(apply zU;omega)|(apply zP;omega;intros)|(apply zQ;omega;intros)|apply zR);cbv))
    refine AppK.sl el_strs el_strs rfl hnl (by simp only [List.length_cons, List.length_nil]; omega) ?_
    intro L' nl' hL' hnl'
    cbv
    (repeat'((first|(apply zS;kernel_rfl)|(apply zD;decide +kernel)|(apply zE;decide +kernel)|(apply zF;decide +kernel)|(apply zL;decide +kernel)|(apply zM;decide +kernel)|(apply zN;intros)|(apply zO;intros)|(apply zT;omega)|(apply zU;omega)|(apply zP;omega;intros)|(apply zQ;omega;intros)|apply zR);cbv))
    rename_i r hr
    have hL2 : L' = ((m.take r.toNat).map Prod.fst).map strD := by rw [hstep r hr]; exact hL'
    have hLi : ∀ k, idbL k L' = true := fun k => pure_idbL k _ (by rw [hL2]; exact strs_pure _)
    refine RoundK.forget (r, L', nl') ⟨by omega, by omega, hL2, hnl'⟩ (by omega) rfl rfl ?_ ?_
    · simp [idbL, idb, hBi, hLi, j1, j2]
    · simp [cellIdb]
  · have hall : m.take i.toNat = m := List.take_of_length_le (by omega)
    rw [hall] at hL
    subst hL
    exact ⟨hQ _ _⟩
theorem pnames_cp (m : List Bd) (hm : m.length ≤ 140737488355) : CP (TT ()) 16 [.sl none 6 (bnsD m)] (· = nmD m) := c4_runW (names_pure m) fun Q hQ => pnames_run m hm Q hQ
/-! ### Find -/
def zL9 : List D := [.raw (.int .i64 0), .raw (.int .i64 0), .raw (.string ⟨#[]⟩), .raw (.slice none 0 0), .raw (.slice none 0 0)]
/-- The name in its box, and the answer's box. -/
def finH (s : ByteArray) : H := [.box 9 [.raw (.string s)], .box 26 zL9]
theorem finH_idb (s : ByteArray) : (finH s).all (cellIdb 2) = true := by simp [finH, zL9, cellIdb, idbL, idb]
set_option maxHeartbeats 4000000 in
theorem find1_run (q : Bd) (s : ByteArray) (Q : D → H → Prop) (hQ : ∀ c, Q (.raw (.bool (decide (q.1 = s)))) (finH s ++ [c])) :
    wfun TT 25 [bnD q, .bx 0 0] (finH s) Q := by
  obtain ⟨k1, n1, nm1, L, K, f0, f1, j1, j2⟩ := bn_node q
  rw [f0]
  clear f0 f1 j1 j2
  simp only [finH, zL9] at hQ ⊢
  generalize q.1 = u at hQ ⊢
  have hyes : u = s → ∀ c, Q (.raw (.bool true)) ([.box 9 [.raw (.string s)], .box 26 [.raw (.int .i64 0), .raw (.int .i64 0), .raw (.string ⟨#[]⟩), .raw (.slice none 0 0), .raw (.slice none 0 0)]] ++ [c]) := fun e c => by
    have := hQ c
    rwa [decide_eq_true e] at this
  have hno : u ≠ s → ∀ c, Q (.raw (.bool false)) ([.box 9 [.raw (.string s)], .box 26 [.raw (.int .i64 0), .raw (.int .i64 0), .raw (.string ⟨#[]⟩), .raw (.slice none 0 0), .raw (.slice none 0 0)]] ++ [c]) := fun e c => by
    have := hQ c
    rwa [decide_eq_false e] at this
  clear hQ
  cbv
  (repeat'((first|(apply zS;kernel_rfl)|(apply zD;decide +kernel)|(apply zE;decide +kernel)|(apply zF;decide +kernel)|(apply zL;decide +kernel)|(apply zM;decide +kernel)|(apply zN;intros)|(apply zO;intros)|(apply zT;omega)|(apply zU;omega)|(apply zP;omega;intros)|(apply zQ;omega;intros)|apply zR);cbv))
  refine BinK.seql ?_ ?_ <;> intro he
  · have hyes := hyes he
    cbv
    (repeat'((first|(apply zS;kernel_rfl)|(apply zD;decide +kernel)|(apply zE;decide +kernel)|(apply zF;decide +kernel)|(apply zL;decide +kernel)|(apply zM;decide +kernel)|(apply zN;intros)|(apply zO;intros)|(apply zT;omega)|(apply zU;omega)|(apply zP;omega;intros)|(apply zQ;omega;intros)|apply zR);cbv))
    exact ⟨hyes _⟩
  · have hno := hno he
    cbv
    (repeat'((first|(apply zS;kernel_rfl)|(apply zD;decide +kernel)|(apply zE;decide +kernel)|(apply zF;decide +kernel)|(apply zL;decide +kernel)|(apply zM;decide +kernel)|(apply zN;intros)|(apply zO;intros)|(apply zT;omega)|(apply zU;omega)|(apply zP;omega;intros)|(apply zQ;omega;intros)|apply zR);cbv))
    exact ⟨hno _⟩
theorem find1_cw (q : Bd) (s : ByteArray) : CW (TT ()) 25 [bnD q, .bx 0 0] (finH s) fun d h' => d = .raw (.bool (decide (q.1 = s))) ∧ h' = finH s := by
  have c : CW (TT ()) 25 [bnD q, .bx 0 0] (finH s) fun d h' => d = .raw (.bool (decide (q.1 = s))) ∧ ∃ c, h' = finH s ++ [c] := wfun_ok (T := TT) (by kernel_rfl) (find1_run q s _ fun c => ⟨rfl, c, rfl⟩)
  refine c.gc ?_
  rintro d h' ⟨rfl, c, rfl⟩
  have e : (finH s ++ [c]).take (finH s).length = finH s := List.take_left' rfl
  exact ⟨rfl, by rw [e]; exact finH_idb _, rfl, e⟩
set_option maxHeartbeats 4000000 in
theorem pfind_run (m : List Bd) (hm : m.length ≤ 140737488355) (s : ByteArray) (Q : D → H → Prop) (hQ : ∀ d h', Wk d (pairD2 (findB m s)) → Q d h') : wfun TT 8 [.sl none 6 (bnsD m), .raw (.string s)] [] Q := by
  have hcf := idxf_cw m (fun q => decide (q.1 = s)) 25 [.bx 0 0] (finH s) (by omega) fun q _ => find1_cw q s
  have hz : ∀ z, IdxQ m (fun q => decide (q.1 = s)) z → z = placeI (m.map Prod.fst) s := fun z h => idxq_place h
  have hr := place_range (m.map Prod.fst) s
  rw [List.length_map] at hr
  have hr : ¬ placeI (m.map Prod.fst) s < 0 → (placeI (m.map Prod.fst) s).toNat < m.length ∧ 0 ≤ placeI (m.map Prod.fst) s := fun h => by omega
  have hat := fun i => bns_at (m := m) (i := i)
  unfold findB at hQ
  have hno : placeI (m.map Prod.fst) s < 0 → ∀ d h', Wk d (pairD2 (zT9, false)) → Q d h' := fun h => by rw [if_pos h] at hQ; exact hQ
  have hyes : ¬ placeI (m.map Prod.fst) s < 0 → ∀ p, m[(placeI (m.map Prod.fst) s).toNat]? = some p → ∀ d h', Wk d (pairD2 (p.2, true)) → Q d h' := fun h p hp => by rw [if_neg h, hp] at hQ; exact hQ
  clear hQ
  generalize placeI (m.map Prod.fst) s = y at *
  have hBp := bns_pure m
  simp only [finH, zL9] at hcf ⊢
  generalize bnsD m = BS at *
  generalize hq : IdxQ m (fun q => decide (q.1 = s)) = P at hcf hz
  clear hq
  cbv
  (repeat'((first|(apply zS;kernel_rfl)|(apply zD;decide +kernel)|(apply zE;decide +kernel)|(apply zF;decide +kernel)|(apply zL;decide +kernel)|(apply zM;decide +kernel)|(apply zN;intros)|(apply zO;intros)|(apply zT;omega)|(apply zU;omega)|(apply zP;omega;intros)|(apply zQ;omega;intros)|apply zR);cbv))
  refine CallK.mut hcf ?_
  rintro d h' ⟨z, rfl, hp, rfl⟩
  obtain rfl := hz z hp
  clear hcf hp hz
  cbv
  (repeat'((first|(apply zS;kernel_rfl)|(apply zD;decide +kernel)|(apply zE;decide +kernel)|(apply zF;decide +kernel)|(apply zL;decide +kernel)|(apply zM;decide +kernel)|(apply zN;intros)|(apply zO;intros)|(apply zT;omega)|(apply zU;omega)|(apply zP;omega;intros)|(apply zQ;omega;intros)|apply zR);cbv))
  refine BinK.lss ?_ ?_ <;> intro h0 <;> cbv <;> (repeat'((first|(apply zS;kernel_rfl)|(apply zD;decide +kernel)|(apply zE;decide +kernel)|(apply zF;decide +kernel)|(apply zL;decide +kernel)|(apply zM;decide +kernel)|(apply zN;intros)|(apply zO;intros)|(apply zT;omega)|(apply zU;omega)|(apply zP;omega;intros)|(apply zQ;omega;intros)|apply zR);cbv))
  · exact ⟨hno h0 _ _ (.tup (.cons zero_wk (.refl _)))⟩
  · obtain ⟨hr1, hr2⟩ := hr (by omega)
    obtain ⟨p, hp, hB⟩ := hat z.toNat hr1
    have hyes := hyes (by omega) p hp
    obtain ⟨k0, n0, m0, L0, K0, f0, f1, j1, j2⟩ := bn_node p
    unfold pairD2 at hyes
    simp only at hyes
    rw [f1] at hyes
    rw [f0] at hB
    generalize p.1 = pn at hB
    clear f0 f1 j1 j2 hno
    refine IdxK.intro hr2 hB ?_
    cbv
    (repeat'((first|(apply zS;kernel_rfl)|(apply zD;decide +kernel)|(apply zE;decide +kernel)|(apply zF;decide +kernel)|(apply zL;decide +kernel)|(apply zM;decide +kernel)|(apply zN;intros)|(apply zO;intros)|(apply zT;omega)|(apply zU;omega)|(apply zP;omega;intros)|(apply zQ;omega;intros)|apply zR);cbv))
    exact ⟨hyes _ _ (.refl _)⟩
theorem pfind_cp (m : List Bd) (hm : m.length ≤ 140737488355) (s : ByteArray) : CP (TT ()) 8 [.sl none 6 (bnsD m), .raw (.string s)] (· = pairD2 (findB m s)) := c4_runW (pairD2_pure _) fun Q hQ => pfind_run m hm s Q hQ
/-! ### Up -/
set_option maxHeartbeats 4000000 in
theorem pup_run (m : List Bd) (hm : m.length ≤ 140737488355) (k n : Int) (nm : ByteArray) (ls : List ByteArray) (ks : List Ty5) (Q : D → H → Prop) (hQ : ∀ d h', Wk d (pairD2 (upB9 m (.mk k n nm ls ks))) → Q d h') : wfun TT 10 [.sl none 6 (bnsD m), tyD (.mk k n nm ls ks)] [] Q := by
  have cF := pfind_cp m hm nm
  have hBp := bns_pure m
  have hFp := pairD2_pure (findB m nm)
  have hTp := ty_pure (.mk k n nm ls ks)
  have hyes : k = 6 → (findB m nm).2 = true → ∀ d h', Wk d (.tup [tyD (findB m nm).1, .raw (.bool true)]) → Q d h' := fun h1 h2 => by
    rw [upB9_mk, if_pos ⟨h1, h2⟩] at hQ
    exact hQ
  have hno : ¬ (k = 6 ∧ (findB m nm).2 = true) → ∀ d h', Wk d (.tup [tyD (.mk k n nm ls ks), .raw (.bool false)]) → Q d h' := fun h => by
    rw [upB9_mk, if_neg h] at hQ
    exact hQ
  clear hQ
  generalize findB m nm = F at *
  obtain ⟨u, b⟩ := F
  unfold pairD2 at *
  simp only [tyD] at *
  have hp1 : pureL [.sl none 6 (bnsD m), .raw (.string nm)] = some [.sl none 6 (bnsD m), .raw (.string nm)] := by simp [pureL, pureD, hBp]
  obtain ⟨k0, n0, m0, L0, K0, f0, _, _⟩ := c4_node u
  rw [f0] at cF hFp hyes
  generalize bnsD m = BS at *
  generalize ls.map strD = LS at *
  generalize tysD ks = KS at *
  cbv
  (repeat'((first|(apply zS;kernel_rfl)|(apply zD;decide +kernel)|(apply zE;decide +kernel)|(apply zF;decide +kernel)|(apply zL;decide +kernel)|(apply zM;decide +kernel)|(apply zN;intros)|(apply zO;intros)|(apply zT;omega)|(apply zU;omega)|(apply zP;omega;intros)|(apply zQ;omega;intros)|apply zR);cbv))
  refine BinK.eql ?_ ?_ <;> intro h0 <;> cbv <;> (repeat'((first|(apply zS;kernel_rfl)|(apply zD;decide +kernel)|(apply zE;decide +kernel)|(apply zF;decide +kernel)|(apply zL;decide +kernel)|(apply zM;decide +kernel)|(apply zN;intros)|(apply zO;intros)|(apply zT;omega)|(apply zU;omega)|(apply zP;omega;intros)|(apply zQ;omega;intros)|apply zR);cbv))
  · refine .one cF hp1 hFp ?_
    cases b with
    | true =>
      have hyes := hyes h0 rfl
      clear hno
      cbv
      (repeat'((first|(apply zS;kernel_rfl)|(apply zD;decide +kernel)|(apply zE;decide +kernel)|(apply zF;decide +kernel)|(apply zL;decide +kernel)|(apply zM;decide +kernel)|(apply zN;intros)|(apply zO;intros)|(apply zT;omega)|(apply zU;omega)|(apply zP;omega;intros)|(apply zQ;omega;intros)|apply zR);cbv))
      exact ⟨hyes _ _ (.refl _)⟩
    | false =>
      have hno := hno (by simp)
      clear hyes
      cbv
      (repeat'((first|(apply zS;kernel_rfl)|(apply zD;decide +kernel)|(apply zE;decide +kernel)|(apply zF;decide +kernel)|(apply zL;decide +kernel)|(apply zM;decide +kernel)|(apply zN;intros)|(apply zO;intros)|(apply zT;omega)|(apply zU;omega)|(apply zP;omega;intros)|(apply zQ;omega;intros)|apply zR);cbv))
      exact ⟨hno _ _ (.refl _)⟩
  · have hno := hno (fun h => h0 h.1)
    clear hyes
    exact ⟨hno _ _ (.refl _)⟩
theorem pup_cp (m : List Bd) (hm : m.length ≤ 140737488355) (t : Ty5) : CP (TT ()) 10 [.sl none 6 (bnsD m), tyD t] (· = pairD2 (upB9 m t)) := by
  obtain ⟨k, n, nm, ls, ks⟩ := t
  exact c4_runW (pairD2_pure _) fun Q hQ => pup_run m hm k n nm ls ks Q hQ
end Go.Proofs.Ytpnfbmhnmhahnaa
