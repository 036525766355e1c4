/- The program's Fuse. -/
import Derived.Test.YtllehceckdcbaaaPcA
import Derived.Test.YtllehceckdcbaaaPwEx
import Derived.Test.YtllehceckdcbaaaPvU
namespace Go.Proofs.Ytllehceckdcbaaa
open Go.RowKit Pv
/-- A nil slice in a box, from a call on a row of its own. -/
theorem CallK.cellLog {T : TP} {k : FuncId} {ts : List D} {h : H} {K : D → H → Prop} (id j : Nat) (e sz : Nat) {t : TypeId} {ds : List D} (hid : h[id]? = some (.box t ds)) (hd : ds[j]? = some (.raw (.slice none 0 0)))
    (k1 : CallK T k ts (h.set id (.box t (ds.set j (.sl (some h.length) sz []))) ++ [.log e sz 0]) K) : CallK T k ts h K := by
  obtain ⟨Q, c, hq⟩ := k1.out
  refine ⟨Q, ⟨c.1, fun C w args s r => ?_⟩, hq⟩
  obtain ⟨C', f, s', hl⟩ := s.log_nil e sz
  have hlt := (List.getElem?_eq_some_iff.1 hid).1
  have s2 := box_weak s' (.sl (some h.length) sz []) (id := id) (j := j) (t := t) (ds := ds) (by rw [List.getElem?_append_left hlt]; exact hid) hd fun v hv => by
    simp only [Rd] at hv
    subst hv
    exact ⟨⟨none, 0, rfl, Nat.le_refl _, Nat.zero_le _⟩, fun h0 => absurd h0 (Nat.lt_irrefl _), fun id e => by cases e; exact ⟨_, hl, Nat.zero_le _, fun _ => rfl⟩⟩
  rw [List.set_append_left _ _ hlt] at s2
  refine (c.2 C' w args s2 (r.mono f.toEv)).mono ?_
  rintro e' w' ⟨v, C2, d, h', h1, h2, h3, h4, h5⟩
  exact ⟨v, C2, d, h', h1, h2, f.trans h3, h4, h5⟩
/-- What the program's Fuse keeps while it goes through the parts: three boxes, and what is fused so far. -/
abbrev fuH (A B Z : Cell) (L : List D) (n : Nat) (rest : H) : H := A :: B :: Z :: .box 23 [.sl (some 4) 5 L] :: .log 25 5 n :: rest
set_option maxRecDepth 20000 in
set_option maxHeartbeats 4000000 in
theorem fuse1_run (t u : Ty5) (hc : CP (TT ()) 26 [tyD t, tyD u] (· = optP (fuseT t u))) (A B Z : Cell) (L : List D) (nl : Nat) (hnl : nl = L.length) (hL : L.length ≤ 1000000)
    (Q : D → H → Prop) (hQ : ∀ hr, Q (.raw (.bool (fuseT t u).isSome)) (fuH A B Z (L ++ [tyD (optT (fuseT t u))]) (L.length + 1) hr)) :
    wfun TT 40 [tyD t, tyD u, .bx 3 0] (fuH A B Z L nl []) Q := by
  have hpt := ty_pure t
  have hpu := ty_pure u
  have hpo := optP_pure (fuseT t u)
  unfold optP at hc hpo
  unfold fuH at hQ ⊢
  generalize (fuseT t u).isSome = b at hc hpo hQ
  generalize optT (fuseT t u) = v at hc hpo hQ
  obtain ⟨k0, n0, m0, L0, K0, f0, _, _⟩ := c4_node t
  obtain ⟨k1, n1, m1, L1, K1, f1, _, _⟩ := c4_node u
  obtain ⟨k2, n2, m2, L2, K2, f2, _, _⟩ := c4_node v
  rw [f0] at hc hpt
  rw [f1] at hc hpu
  rw [f2] at hc hpo hQ
  rw [f0, f1]
  clear f0 f1 f2
  cbv
  (repeat'((first|(apply zS;kernel_rfl)|(apply zG;decide +kernel)|(apply zF;decide +kernel)|(apply zE;decide +kernel)|(apply zD;decide +kernel)|(apply zL;decide +kernel)|(apply zM;decide +kernel)|(apply zN;intros)|(apply zO;intros)|(apply zT;omega)|(apply zU;omega)|(apply zP;omega;intros)|(apply zQ;omega;intros)|apply zR);cbv))
  refine .one hc (cons_pure hpt (cons_pure hpu rfl)) hpo ?_
  cbv
  (repeat'((first|(apply zS;kernel_rfl)|(apply zG;decide +kernel)|(apply zF;decide +kernel)|(apply zE;decide +kernel)|(apply zD;decide +kernel)|(apply zL;decide +kernel)|(apply zM;decide +kernel)|(apply zN;intros)|(apply zO;intros)|(apply zT;omega)|(apply zU;omega)|(apply zP;omega;intros)|(apply zQ;omega;intros)|apply zR);cbv))
  refine DrawK.tail 4 (by kernel_rfl) (by decide +kernel) ?_
  cbv
  (repeat'((first|(apply zS;kernel_rfl)|(apply zG;decide +kernel)|(apply zF;decide +kernel)|(apply zE;decide +kernel)|(apply zD;decide +kernel)|(apply zL;decide +kernel)|(apply zM;decide +kernel)|(apply zN;intros)|(apply zO;intros)|(apply zT;omega)|(apply zU;omega)|(apply zP;omega;intros)|(apply zQ;omega;intros)|apply zR);cbv))
  rename_i z hz0 hz
  refine TailK.growE el_tys el_tys (by decide +kernel) rfl rfl rfl rfl rfl rfl rfl rfl rfl rfl rfl rfl rfl rfl rfl rfl rfl (by decide) (by simp) (by simp) (by simp) (by simp) (by simp) rfl rfl (by kernel_rfl) rfl rfl rfl hnl (by omega) rfl (by omega) rfl rfl rfl rfl rfl rfl ?_
  intro L' nl' hL' hnl'
  have hL' : L' = L ++ [.agg [.raw (.int .i64 k2), .raw (.int .i64 n2), .raw (.string m2), .sl none 1 L2, .sl none 5 K2]] := hL'
  rw [← hL', ← hnl'] at hQ
  clear hL' hnl'
  cbv
  (repeat'((first|(apply zS;kernel_rfl)|(apply zG;decide +kernel)|(apply zF;decide +kernel)|(apply zE;decide +kernel)|(apply zD;decide +kernel)|(apply zL;decide +kernel)|(apply zM;decide +kernel)|(apply zN;intros)|(apply zO;intros)|(apply zT;omega)|(apply zU;omega)|(apply zP;omega;intros)|(apply zQ;omega;intros)|apply zR);cbv))
  exact ⟨hQ _⟩
set_option maxRecDepth 20000 in
theorem fuse1_cw (t u : Ty5) (hc : CP (TT ()) 26 [tyD t, tyD u] (· = optP (fuseT t u))) (A B Z : Cell) (hA : cellIdb 5 A = true) (hB : cellIdb 5 B = true) (hZ : cellIdb 5 Z = true) (vs : List Ty5) (nl : Nat) (hnl : nl = vs.length) (hL : vs.length ≤ 1000000) :
    CW (TT ()) 40 [tyD t, tyD u, .bx 3 0] (fuH A B Z (tysD vs) nl []) fun d h' => d = .raw (.bool (fuseT t u).isSome) ∧ h' = fuH A B Z (tysD (vs ++ [optT (fuseT t u)])) (vs.length + 1) [] := by
  have c : CW (TT ()) 40 [tyD t, tyD u, .bx 3 0] (fuH A B Z (tysD vs) nl []) fun d h' => d = .raw (.bool (fuseT t u).isSome) ∧ ∃ hr, h' = fuH A B Z (tysD (vs ++ [optT (fuseT t u)])) (vs.length + 1) hr :=
    wfun_ok (T := TT) (by kernel_rfl) (fuse1_run t u hc A B Z (tysD vs) nl (by rw [tys_len]; exact hnl) (by rw [tys_len]; exact hL) _ fun hr => ⟨rfl, hr, by rw [tys_len]; simp [tysD_map]⟩)
  refine c.gc ?_
  rintro d h' ⟨rfl, hr, rfl⟩
  have e : (fuH A B Z (tysD (vs ++ [optT (fuseT t u)])) (vs.length + 1) hr).take (fuH A B Z (tysD vs) nl []).length = fuH A B Z (tysD (vs ++ [optT (fuseT t u)])) (vs.length + 1) [] := rfl
  refine ⟨rfl, ?_, rfl, e⟩
  rw [e]
  have hv := tys_idb (vs ++ [optT (fuseT t u)]) 5
  simp only [cellIdb] at hA hB hZ
  simp [cellIdb, idbL, idb, hA, hB, hZ, hv]
set_option maxRecDepth 20000 in
set_option maxHeartbeats 4000000 in
theorem agreeU_run (ks ks' : List Ty5) (hks : ks.length ≤ 1000000) (A B Z : Cell) (hA : cellIdb 5 A = true) (hB : cellIdb 5 B = true) (hZ : cellIdb 5 Z = true)
    (hc : ∀ t ∈ ks, ∀ u ∈ ks', CP (TT ()) 26 [tyD t, tyD u] (· = optP (fuseT t u)))
    (Q : D → H → Prop) (q1 : fuseL ks ks' = none → ∀ L n hr, (∀ m, idbL m L = true) → Q (.raw (.bool false)) (fuH A B Z L n hr)) (q2 : ∀ vs, fuseL ks ks' = some vs → ∀ hr, Q (.raw (.bool true)) (fuH A B Z (tysD vs) vs.length hr)) :
    wfun TT 29 [.sl none 5 (tysD ks), .sl none 5 (tysD ks'), .fn (.func 40) [] [.bx 3 0]] (fuH A B Z [] 0 []) Q := by
  have hKl := tys_len ks
  have hKl' := tys_len ks'
  have hKi := tys_idb ks
  have hKi' := tys_idb ks'
  have hKat := fun i => tys_at (ks := ks) (i := i)
  have hKat' := fun i => tys_at (ks := ks') (i := i)
  unfold fuH at q1 q2 ⊢
  by_cases hl : ks.length = ks'.length
  · generalize tysD ks = KS at hKl hKi hKat ⊢
    generalize tysD ks' = KS' at hKl' hKi' hKat' ⊢
    cbv
    (repeat'((first|(apply zS;kernel_rfl)|(apply zD;decide +kernel)|(apply zE;decide +kernel)|(apply zF;decide +kernel)|(apply zL;decide +kernel)|(apply zM;decide +kernel)|(apply zN;intros)|(apply zO;intros)|(apply zT;omega)|(apply zU;omega)|(apply zP;omega;intros)|(apply zQ;omega;intros)|apply zR);cbv))
    refine LoopK.put (X := Int × List D × Nat × List Ty5) (fun x => [(16, .raw (.int .i64 x.1))]) (fun x => [(3, .box 23 [.sl (some 4) 5 x.2.1]), (4, .log 25 5 x.2.2.1)]) (fun x => ks.length - x.1.toNat)
      (fun x => 0 ≤ x.1 ∧ x.1.toNat ≤ ks.length ∧ x.2.1 = tysD x.2.2.2 ∧ x.2.2.1 = x.2.2.2.length ∧ x.2.2.2.length = x.1.toNat ∧ ∀ (j : Nat) (t u : Ty5), j < x.1.toNat → ks[j]? = some t → ks'[j]? = some u → fuseT t u = x.2.2.2[j]?) (0, [], 0, []) ⟨by simp, by simp, rfl, rfl, rfl, fun j t u hj => absurd hj (Nat.not_lt_zero _)⟩ rfl rfl ?_
    rintro ⟨i, L, nl, vs⟩ N ⟨h0, hi, hL, hnl, hvl, hj⟩ hN
    simp only at h0 hi hL hnl hvl hj hN ⊢
    have hLi : ∀ m, idbL m L = true := fun m => by rw [hL]; exact tys_idb vs m
    cbv
    (repeat'((first|(apply zS;kernel_rfl)|(apply zD;decide +kernel)|(apply zE;decide +kernel)|(apply zF;decide +kernel)|(apply zL;decide +kernel)|(apply zM;decide +kernel)|(apply zN;intros)|(apply zO;intros)|(apply zT;omega)|(apply zU;omega)|(apply zP;omega;intros)|(apply zQ;omega;intros)|apply zR);cbv))
    refine BinK.lss ?_ ?_ <;> intro hlt <;> cbv <;> (repeat'((first|(apply zS;kernel_rfl)|(apply zD;decide +kernel)|(apply zE;decide +kernel)|(apply zF;decide +kernel)|(apply zL;decide +kernel)|(apply zM;decide +kernel)|(apply zN;intros)|(apply zO;intros)|(apply zT;omega)|(apply zU;omega)|(apply zP;omega;intros)|(apply zQ;omega;intros)|apply zR);cbv))
    · obtain ⟨t, ht, hK⟩ := hKat i.toNat (by omega)
      obtain ⟨u, hu, hK'⟩ := hKat' i.toNat (by omega)
      have hcw := fuse1_cw t u (hc t (List.mem_of_getElem? ht) u (List.mem_of_getElem? hu)) A B Z hA hB hZ vs nl hnl (by omega)
      rw [← hL] at hcw
      have hLi2 := tys_idb (vs ++ [optT (fuseT t u)])
      have hno : fuseT t u = none → fuseL ks ks' = none := fun e => fuseL_not ht hu e
      have hnext : ∀ v, fuseT t u = some v → ∀ r : Int, r = i + 1 → ∀ (j : Nat) (t u : Ty5), j < r.toNat → ks[j]? = some t → ks'[j]? = some u → fuseT t u = (vs ++ [v])[j]? := fun v e r hr j x y hjr hx hy => by
        by_cases hji : j = i.toNat
        · rw [hji, ht] at hx
          rw [hji, hu] at hy
          cases hx
          cases hy
          rw [hji, List.getElem?_append_right (by omega), show i.toNat - vs.length = 0 by omega]
          exact e
        · rw [List.getElem?_append_left (by omega)]
          exact hj j x y (by omega) hx hy
      generalize hL2 : tysD (vs ++ [optT (fuseT t u)]) = L2 at hcw hLi2
      generalize fuseT t u = o at hcw hno hnext hL2
      obtain ⟨k0, n0, m0, L0, K0, f0, i0, j0⟩ := c4_node t
      obtain ⟨k1, n1, m1, L1, K1, f1, i1, j1⟩ := c4_node u
      unfold fuH at hcw
      rw [f0] at hcw hK
      rw [f1] at hcw hK'
      clear f0 f1 hc hj ht hu
      refine IdxK.intro h0 hK ?_
      cbv
      (repeat'((first|(apply zS;kernel_rfl)|(apply zG;decide +kernel)|(apply zF;decide +kernel)|(apply zE;decide +kernel)|(apply zD;decide +kernel)|(apply zL;decide +kernel)|(apply zM;decide +kernel)|(apply zN;intros)|(apply zO;intros)|(apply zT;omega)|(apply zU;omega)|(apply zP;omega;intros)|(apply zQ;omega;intros)|apply zR);cbv))
      refine IdxK.intro h0 hK' ?_
      cbv
      (repeat'((first|(apply zS;kernel_rfl)|(apply zG;decide +kernel)|(apply zF;decide +kernel)|(apply zE;decide +kernel)|(apply zD;decide +kernel)|(apply zL;decide +kernel)|(apply zM;decide +kernel)|(apply zN;intros)|(apply zO;intros)|(apply zT;omega)|(apply zU;omega)|(apply zP;omega;intros)|(apply zQ;omega;intros)|apply zR);cbv))
      refine CallK.mut (hcw.ext [_] (by simp [idbL, idb, i0, j0, i1, j1]) ?_ ?_) ?_
      · simp only [cellIdb] at hA hB hZ
        simp [cellIdb, idbL, idb, hA, hB, hZ, hLi]
      · rintro d h' ⟨rfl, rfl⟩
        simp only [cellIdb] at hA hB hZ
        simp [cellIdb, idbL, idb, hA, hB, hZ, hLi2]
      rintro d h' ⟨h1', ⟨rfl, rfl⟩, rfl⟩
      clear hcw
      rcases o with _ | v
      · have q1 := q1 (hno rfl) L2
        cbv
        (repeat'((first|(apply zS;kernel_rfl)|(apply zD;decide +kernel)|(apply zE;decide +kernel)|(apply zF;decide +kernel)|(apply zL;decide +kernel)|(apply zM;decide +kernel)|(apply zN;intros)|(apply zO;intros)|(apply zT;omega)|(apply zU;omega)|(apply zP;omega;intros)|(apply zQ;omega;intros)|apply zR);cbv))
        exact ⟨q1 _ _ hLi2⟩
      · have hnext := hnext v rfl
        obtain ⟨nv, hnv⟩ : ∃ nv, vs.length + 1 = nv := ⟨_, rfl⟩
        rw [hnv]
        cbv
        (repeat'((first|(apply zS;kernel_rfl)|(apply zD;decide +kernel)|(apply zE;decide +kernel)|(apply zF;decide +kernel)|(apply zL;decide +kernel)|(apply zM;decide +kernel)|(apply zN;intros)|(apply zO;intros)|(apply zT;omega)|(apply zU;omega)|(apply zP;omega;intros)|(apply zQ;omega;intros)|apply zR);cbv))
        rename_i r hr
        have hnext := hnext r hr
        refine RoundK.forget (r, L2, nv, vs ++ [v]) ⟨by omega, by omega, hL2.symm, by rw [List.length_append]; simp; omega, by rw [List.length_append]; simp; omega, hnext⟩ (by omega) rfl rfl ?_ ?_
        · simp [idbL, idb, hKi, hKi', i0, j0, i1, j1]
        · simp only [cellIdb] at hA hB hZ
          simp [cellIdb, idbL, idb, hKi, hKi', i0, j0, i1, j1, hLi2, hA, hB, hZ]
    · have hf : fuseL ks ks' = some vs := fuseL_of hl (by omega) fun j t u ht hu => hj j t u (by have := (List.getElem?_eq_some_iff.1 ht).1; omega) ht hu
      subst hL
      subst hnl
      exact ⟨q2 vs hf _⟩
  · have q1 := q1 (by
      rcases hf : fuseL ks ks' with _ | vs
      · rfl
      · have h := fuseL_less hf
        exact absurd ((lessL_len h.1).symm.trans (lessL_len h.2)) hl)
    generalize tysD ks = KS at hKl ⊢
    generalize tysD ks' = KS' at hKl' ⊢
    cbv
    (repeat'((first|(apply zS;kernel_rfl)|(apply zD;decide +kernel)|(apply zE;decide +kernel)|(apply zF;decide +kernel)|(apply zL;decide +kernel)|(apply zM;decide +kernel)|(apply zN;intros)|(apply zO;intros)|(apply zT;omega)|(apply zU;omega)|(apply zP;omega;intros)|(apply zQ;omega;intros)|apply zR);cbv))
    exact ⟨q1 [] _ _ (fun _ => rfl)⟩
theorem agreeU_cw (ks ks' : List Ty5) (hks : ks.length ≤ 1000000) (A B Z : Cell) (hA : cellIdb 5 A = true) (hB : cellIdb 5 B = true) (hZ : cellIdb 5 Z = true)
    (hc : ∀ t ∈ ks, ∀ u ∈ ks', CP (TT ()) 26 [tyD t, tyD u] (· = optP (fuseT t u))) :
    CW (TT ()) 29 [.sl none 5 (tysD ks), .sl none 5 (tysD ks'), .fn (.func 40) [] [.bx 3 0]] (fuH A B Z [] 0 []) fun d h' =>
      d = .raw (.bool (fuseL ks ks').isSome) ∧ ∃ L n, h' = fuH A B Z L n [] ∧ (∀ m, idbL m L = true) ∧ ∀ vs, fuseL ks ks' = some vs → L = tysD vs := by
  have c : CW (TT ()) 29 [.sl none 5 (tysD ks), .sl none 5 (tysD ks'), .fn (.func 40) [] [.bx 3 0]] (fuH A B Z [] 0 []) fun d h' =>
      d = .raw (.bool (fuseL ks ks').isSome) ∧ ∃ L n hr, h' = fuH A B Z L n hr ∧ (∀ m, idbL m L = true) ∧ ∀ vs, fuseL ks ks' = some vs → L = tysD vs :=
    wfun_ok (T := TT) (by kernel_rfl) (agreeU_run ks ks' hks A B Z hA hB hZ hc _ (fun hf L n hr hi => ⟨by rw [hf]; rfl, L, n, hr, rfl, hi, fun vs h => by rw [hf] at h; cases h⟩)
      fun vs hf hr => ⟨by rw [hf]; rfl, _, _, hr, rfl, tys_idb vs, fun us h => by rw [hf] at h; cases h; rfl⟩)
  refine c.gc ?_
  rintro d h' ⟨rfl, L, n, hr, rfl, hi, hv⟩
  have e : (fuH A B Z L n hr).take (fuH A B Z [] 0 []).length = fuH A B Z L n [] := rfl
  refine ⟨rfl, ?_, rfl, L, n, e, hi, hv⟩
  rw [e]
  have h5 := hi 5
  simp only [cellIdb] at hA hB hZ
  simp [cellIdb, idbL, idb, hA, hB, hZ, h5]
set_option maxRecDepth 20000 in
set_option maxHeartbeats 4000000 in
theorem pfuse_run (k n : Int) (nm : ByteArray) (ls : List ByteArray) (ks : List Ty5) (k' n' : Int) (nm' : ByteArray) (ls' : List ByteArray) (ks' : List Ty5) (ha : okT (.mk k n nm ls ks)) (hb : okT (.mk k' n' nm' ls' ks')) (hks : ks.length ≤ 1000000)
    (hc : ∀ t ∈ ks, ∀ u ∈ ks', CP (TT ()) 26 [tyD t, tyD u] (· = optP (fuseT t u))) (Q : D → H → Prop) (hQ : ∀ d h', Wk d (optP (fuseT (.mk k n nm ls ks) (.mk k' n' nm' ls' ks'))) → Q d h') :
    wfun TT 26 [tyD (.mk k n nm ls ks), tyD (.mk k' n' nm' ls' ks')] [] Q := by
  have c1 := punknown_cp _ hb
  have c0 := punknown_cp _ ha
  have c2 := palike_cp _ _ ha hb
  have hU := agreeU_cw ks ks' hks
  have pa := ty_pure (.mk k n nm ls ks)
  have pb := ty_pure (.mk k' n' nm' ls' ks')
  have q0 : isDyn (.mk k n nm ls ks) = true → ∀ h', Q (.tup [tyD (.mk k' n' nm' ls' ks'), .raw (.bool true)]) h' := fun h h' => hQ _ h' (by
    rcases hb : isDyn (.mk k' n' nm' ls' ks') with _ | _
    · rw [fuse_left (isDyn_no.1 hb) (isDyn_iff.1 h)]
      exact .refl _
    · rw [fuse_right (isDyn_iff.1 hb), isDyn_iff.1 hb, isDyn_iff.1 h]
      exact .refl _)
  have q1 : isDyn (.mk k' n' nm' ls' ks') = true → ∀ h', Q (.tup [tyD (.mk k n nm ls ks), .raw (.bool true)]) h' := fun h h' => hQ _ h' (by
    rw [fuse_right (isDyn_iff.1 h)]
    exact .refl _)
  have wz : Wk (.tup [.agg [.raw (.int .i64 0), .raw (.int .i64 0), .raw (.string ⟨#[]⟩), .raw (.slice none 0 0), .raw (.slice none 0 0)], .raw (.bool false)]) (optP none) := .tup (.cons (.agg (.cons (.refl _) (.cons (.refl _) (.cons (.refl _) (.cons (nil_any 1) (.cons (nil_any 5) .nil)))))) (.refl _))
  have q2 : isDyn (.mk k' n' nm' ls' ks') = false → isDyn (.mk k n nm ls ks) = false → (sameT (bareT (.mk k n nm ls ks)) (bareT (.mk k' n' nm' ls' ks')) = false ∨ fuseL ks ks' = none) → ∀ h', Q (.tup [.agg [.raw (.int .i64 0), .raw (.int .i64 0), .raw (.string ⟨#[]⟩), .raw (.slice none 0 0), .raw (.slice none 0 0)], .raw (.bool false)]) h' := fun h g e h' => hQ _ h' (by
    have : fuseT (.mk k n nm ls ks) (.mk k' n' nm' ls' ks') = none := by
      rcases hal : alikeT (.mk k n nm ls ks) (.mk k' n' nm' ls' ks') with _ | _
      · exact fuse_none (isDyn_no.1 g) (isDyn_no.1 h) hal
      · rcases e with e | e
        · rw [← bare_alike, e] at hal
          cases hal
        · obtain ⟨rfl, rfl, rfl, rfl, hl⟩ := alike_iff.1 hal
          rw [fuse_both (isDyn_no.1 g) (isDyn_no.1 h) hl, e]
          rfl
    rw [this]
    exact wz)
  have q4 : isDyn (.mk k' n' nm' ls' ks') = false → isDyn (.mk k n nm ls ks) = false → sameT (bareT (.mk k n nm ls ks)) (bareT (.mk k' n' nm' ls' ks')) = true → ∀ vs, fuseL ks ks' = some vs → ∀ tag h', Q (.tup [.agg [.raw (.int .i64 k), .raw (.int .i64 n), .raw (.string nm), .sl none 1 (ls.map strD), .sl tag 5 (tysD vs)], .raw (.bool true)]) h' := fun h g e vs hf tag h' => hQ _ h' (by
    have hl : ks.length = ks'.length := by
      have h := fuseL_less hf
      exact (lessL_len h.1).symm.trans (lessL_len h.2)
    have hal : alikeT (.mk k n nm ls ks) (.mk k' n' nm' ls' ks') = true := by
      rw [← bare_alike, e]
      simpa [argsT] using hl
    obtain ⟨rfl, rfl, rfl, rfl, hl⟩ := alike_iff.1 hal
    rw [fuse_both (isDyn_no.1 g) (isDyn_no.1 h) hl, hf]
    exact .tup (.cons (.agg (.cons (.refl _) (.cons (.refl _) (.cons (.refl _) (.cons (.refl _) (.cons (untag_any _ _ _) .nil)))))) (.refl _)))
  generalize isDyn (.mk k' n' nm' ls' ks') = b1 at c1 q1 q2 q4
  generalize isDyn (.mk k n nm ls ks) = b0 at c0 q0 q2 q4
  generalize sameT (bareT (.mk k n nm ls ks)) (bareT (.mk k' n' nm' ls' ks')) = b2 at c2 q2 q4
  simp only [tyD] at c1 c0 c2 pa pb q1 q0 ⊢
  have hLi := strs_idb ls
  have hLi' := strs_idb ls'
  have hKi := tys_idb ks
  have hKi' := tys_idb ks'
  clear hQ wz
  generalize ls.map strD = LS at c0 c2 pa hLi q1 q4 ⊢
  generalize ls'.map strD = LS' at c1 c2 pb hLi' q0 ⊢
  generalize tysD ks = KS at c0 c2 pa hKi q1 hU ⊢
  generalize tysD ks' = KS' at c1 c2 pb hKi' q0 hU ⊢
  cbv
  (repeat'((first|(apply zS;kernel_rfl)|(apply zD;decide +kernel)|(apply zE;decide +kernel)|(apply zF;decide +kernel)|(apply zL;decide +kernel)|(apply zM;decide +kernel)|(apply zN;intros)|(apply zO;intros)|(apply zT;omega)|(apply zU;omega)|(apply zP;omega;intros)|(apply zQ;omega;intros)|apply zR);cbv))
  refine .one c0 (cons_pure pa rfl) rfl ?_
  rcases b0 with _ | _
  case' true =>
    cbv
    (repeat'((first|(apply zS;kernel_rfl)|(apply zD;decide +kernel)|(apply zE;decide +kernel)|(apply zF;decide +kernel)|(apply zL;decide +kernel)|(apply zM;decide +kernel)|(apply zN;intros)|(apply zO;intros)|(apply zT;omega)|(apply zU;omega)|(apply zP;omega;intros)|(apply zQ;omega;intros)|apply zR);cbv))
    exact ⟨q0 rfl _⟩
  cbv
  (repeat'((first|(apply zS;kernel_rfl)|(apply zD;decide +kernel)|(apply zE;decide +kernel)|(apply zF;decide +kernel)|(apply zL;decide +kernel)|(apply zM;decide +kernel)|(apply zN;intros)|(apply zO;intros)|(apply zT;omega)|(apply zU;omega)|(apply zP;omega;intros)|(apply zQ;omega;intros)|apply zR);cbv))
  refine .one c1 (cons_pure pb rfl) rfl ?_
  rcases b1 with _ | _
  case' true =>
    cbv
    (repeat'((first|(apply zS;kernel_rfl)|(apply zD;decide +kernel)|(apply zE;decide +kernel)|(apply zF;decide +kernel)|(apply zL;decide +kernel)|(apply zM;decide +kernel)|(apply zN;intros)|(apply zO;intros)|(apply zT;omega)|(apply zU;omega)|(apply zP;omega;intros)|(apply zQ;omega;intros)|apply zR);cbv))
    exact ⟨q1 rfl _⟩
  cbv
  (repeat'((first|(apply zS;kernel_rfl)|(apply zD;decide +kernel)|(apply zE;decide +kernel)|(apply zF;decide +kernel)|(apply zL;decide +kernel)|(apply zM;decide +kernel)|(apply zN;intros)|(apply zO;intros)|(apply zT;omega)|(apply zU;omega)|(apply zP;omega;intros)|(apply zQ;omega;intros)|apply zR);cbv))
  refine .one c2 (cons_pure pa (cons_pure pb rfl)) rfl ?_
  rcases b2 with _ | _
  · have q2 := q2 rfl rfl (.inl rfl)
    cbv
    (repeat'((first|(apply zS;kernel_rfl)|(apply zD;decide +kernel)|(apply zE;decide +kernel)|(apply zF;decide +kernel)|(apply zL;decide +kernel)|(apply zM;decide +kernel)|(apply zN;intros)|(apply zO;intros)|(apply zT;omega)|(apply zU;omega)|(apply zP;omega;intros)|(apply zQ;omega;intros)|apply zR);cbv))
    exact ⟨q2 _⟩
  have q2 := fun e => q2 rfl rfl (.inr e)
  have q4 := q4 rfl rfl rfl
  clear c0 c1 c2 q0 q1
  cbv
  (repeat'((first|(apply zS;kernel_rfl)|(apply zD;decide +kernel)|(apply zE;decide +kernel)|(apply zF;decide +kernel)|(apply zL;decide +kernel)|(apply zM;decide +kernel)|(apply zN;intros)|(apply zO;intros)|(apply zT;omega)|(apply zU;omega)|(apply zP;omega;intros)|(apply zQ;omega;intros)|apply zR);cbv))
  refine CallK.cellLog 3 0 25 5 rfl rfl ?_
  refine CallK.mut (hU _ _ _ (by simp [cellIdb, idbL, idb, hLi, hKi]) (by simp [cellIdb, idbL, idb, hLi', hKi']) (by simp [cellIdb, idbL, idb]) hc) ?_
  rintro d h' ⟨rfl, L, nl, rfl, hi, hv⟩
  clear hU hc
  rcases hf : fuseL ks ks' with _ | vs
  · have q2 := q2 hf
    cbv
    (repeat'((first|(apply zS;kernel_rfl)|(apply zD;decide +kernel)|(apply zE;decide +kernel)|(apply zF;decide +kernel)|(apply zL;decide +kernel)|(apply zM;decide +kernel)|(apply zN;intros)|(apply zO;intros)|(apply zT;omega)|(apply zU;omega)|(apply zP;omega;intros)|(apply zQ;omega;intros)|apply zR);cbv))
    exact ⟨q2 _⟩
  · have q4 := q4 vs hf
    rw [← hv vs hf] at q4
    clear hv hi q2
    cbv
    (repeat'((first|(apply zS;kernel_rfl)|(apply zD;decide +kernel)|(apply zE;decide +kernel)|(apply zF;decide +kernel)|(apply zL;decide +kernel)|(apply zM;decide +kernel)|(apply zN;intros)|(apply zO;intros)|(apply zT;omega)|(apply zU;omega)|(apply zP;omega;intros)|(apply zQ;omega;intros)|apply zR);cbv))
    exact ⟨q4 _ _⟩
theorem pfuse_cp : ∀ (a : Ty5), nodesT a ≤ 1000000 → okT a → ∀ b, okT b → CP (TT ()) 26 [tyD a, tyD b] (· = optP (fuseT a b)) := by
  intro a
  induction hz : szT a using Nat.strongRecOn generalizing a with
  | ind z ih =>
    obtain ⟨k, n, nm, ls, ks⟩ := a
    intro hn ha b hb
    obtain ⟨k', n', nm', ls', ks'⟩ := b
    have hkn := nodesL_len ks
    simp only [nodesT] at hn
    refine c4_runW (optP_pure _) fun Q hQ => pfuse_run k n nm ls ks k' n' nm' ls' ks' ha hb (by omega) (fun t ht u hu => ih (szT t) ?_ t rfl ?_ (okL_get ha.2.2 t ht) u (okL_get hb.2.2 u hu)) Q hQ
    · have := szL_mem ht
      rw [← hz]
      simp only [szT]
      omega
    · have := nodesL_mem ht
      omega
end Go.Proofs.Ytllehceckdcbaaa
