/- The program's Cut. -/
import Derived.Test.YtllehceckdcbaaaPcN
import Derived.Test.YtllehceckdcbaaaPcA
import Derived.Test.YtllehceckdcbaaaSbG
namespace Go.Proofs.Ytllehceckdcbaaa
open Go.RowKit Pv
/-- How many nodes are still to be passed; below 0: none, it is done. -/
def leftZ (t : Ty5) (k : Int) : Int := if k.toNat < nodesT t then -1 else k - nodesT t
def cutO (t : Ty5) (k : Int) : Ty5 := if k.toNat < nodesT t then cutT t k.toNat else ty0
def cutP (t : Ty5) (k : Int) : D := .tup [tyD (cutO t k), .raw (.int .i64 (leftZ t k))]
theorem cutP_pure (t : Ty5) (k : Int) : pureD (cutP t k) = some (cutP t k) := by simp [cutP, pureD, pureL, ty_pure]
/-- The row whose i-th type is another one. -/
def rowC (ks : List Ty5) (m : Nat) (i : Nat) (c : Ty5) : List (List D) := (ks.map tyF ++ List.replicate m zeroF).set i (tyF c)
theorem rowC_row (ks : List Ty5) (m i : Nat) (c : Ty5) : ∀ r ∈ rowC ks m i c, r.length = 5 := fun r hr => by
  unfold rowC at hr
  rcases List.mem_or_eq_of_mem_set hr with h | h
  · rcases List.mem_append.1 h with h | h
    · obtain ⟨t, _, rfl⟩ := List.mem_map.1 h
      exact tyF_len _
    · rw [List.eq_of_mem_replicate h]
      rfl
  · rw [h]
    exact tyF_len _
theorem row0_row (ks : List Ty5) (m : Nat) : ∀ r ∈ ks.map tyF ++ List.replicate m zeroF, r.length = 5 := fun r hr => by
  rcases List.mem_append.1 hr with h | h
  · obtain ⟨t, _, rfl⟩ := List.mem_map.1 h
    exact tyF_len _
  · rw [List.eq_of_mem_replicate h]
    rfl
theorem row0_at {ks : List Ty5} {m i : Nat} {t : Ty5} (h : ks[i]? = some t) : (ks.map tyF ++ List.replicate m zeroF)[i]? = some (tyF t) := by
  have hlt := (List.getElem?_eq_some_iff.1 h).1
  rw [List.getElem?_append_left (by simpa using hlt), List.getElem?_map, h]
  rfl
theorem rowC_done {ks : List Ty5} {m i : Nat} {c : Ty5} (j : Nat) (d : D) (h : (tysD (ks.set i c))[j]? = some d) : ∃ row, (rowC ks m i c)[j]? = some row ∧ d = D.agg row := by
  rw [tysD_map, List.getElem?_map, Option.map_eq_some_iff] at h
  obtain ⟨t, ht, rfl⟩ := h
  refine ⟨tyF t, ?_, tyF_agg _⟩
  have hlt := (List.getElem?_eq_some_iff.1 ht).1
  rw [List.length_set] at hlt
  unfold rowC
  rw [List.getElem?_set] at ht ⊢
  by_cases hij : i = j
  · subst hij
    rw [if_pos rfl, if_pos hlt, Option.some.injEq] at ht
    subst ht
    rw [if_pos rfl, if_pos (by simp; omega)]
  · rw [if_neg hij] at ht ⊢
    exact row0_at ht
structure CutI (ks : List Ty5) (z i y : Int) : Prop where
  i0 : 0 ≤ i
  i1 : i.toNat ≤ ks.length
  y0 : 0 ≤ y
  y1 : y = z - 1 - nodesL (ks.take i.toNat)
theorem CutI.next {ks : List Ty5} {z i y i2 y2 : Int} {t : Ty5} (h : CutI ks z i y) (ht : ks[i.toNat]? = some t) (hy : ¬ y.toNat < nodesT t) (hi : i2 = i + 1) (hy2 : y2 = y - nodesT t) : CutI ks z i2 y2 := by
  have hs := nodesL_take ht
  have hlt := (List.getElem?_eq_some_iff.1 ht).1
  obtain ⟨h0, h1, h2, h3⟩ := h
  have e : i2.toNat = i.toNat + 1 := by omega
  refine ⟨by omega, by omega, by omega, ?_⟩
  rw [e, hs]
  omega
theorem CutI.here {ks : List Ty5} {z i y : Int} {t : Ty5} (h : CutI ks z i y) (ht : ks[i.toNat]? = some t) (hy : y.toNat < nodesT t) : z.toNat - 1 < nodesL ks ∧ cutL ks (z.toNat - 1) = ks.set i.toNat (cutT t y.toNat) := by
  have hs := nodesL_take ht
  obtain ⟨h0, h1, h2, h3⟩ := h
  have e : z.toNat - 1 - nodesL (ks.take i.toNat) = y.toNat := by omega
  have hle : nodesL (ks.take (i.toNat + 1)) ≤ nodesL ks := by
    have h : nodesL ks = nodesL (ks.take (i.toNat + 1)) + nodesL (ks.drop (i.toNat + 1)) := by rw [← nodesL_app, List.take_append_drop]
    omega
  refine ⟨by omega, ?_⟩
  rw [cutL_set ht (by omega) (by omega), e]
set_option maxRecDepth 20000 in
set_option maxHeartbeats 4000000 in
theorem cutfrom_run (k n : Int) (nm : ByteArray) (ls : List ByteArray) (ks : List Ty5) (z : Int) (hz : 0 < z) (hzm : z ≤ 9223372036854775807) (hks : ks.length ≤ 1000000) (hnn : nodesL ks ≤ 1000000)
    (hc : ∀ t ∈ ks, ∀ y : Int, 0 ≤ y → y ≤ 9223372036854775807 → CP (TT ()) 41 [tyD t, .raw (.int .i64 y)] (· = cutP t y)) (Q : D → H → Prop)
    (q1 : nodesL ks ≤ z.toNat - 1 → ∀ y : Int, y = z - 1 - nodesL ks → ∀ h', Q (.tup [.agg [.raw (.int .i64 0), .raw (.int .i64 0), .raw (.string ⟨#[]⟩), .raw (.slice none 0 0), .raw (.slice none 0 0)], .raw (.int .i64 y)]) h')
    (q2 : z.toNat - 1 < nodesL ks → ∀ i c, cutL ks (z.toNat - 1) = ks.set i c → ∀ m h' id, h'[id]? = some (.box 25 (rowC ks m i c).flatten) → Q (.tup [.agg [.raw (.int .i64 k), .raw (.int .i64 n), .raw (.string nm), .sl none 1 (ls.map strD), .ms id 0 ks.length], .raw (.int .i64 (-1))]) h') :
    wfun TT 41 [tyD (.mk k n nm ls ks), .raw (.int .i64 z)] [] Q := by
  have hKl := tys_len ks
  have hKi := tys_idb ks
  have hKp := tys_pure ks
  have hLi := strs_idb ls
  have hKat := fun i => tys_at (ks := ks) (i := i)
  have hcl := fun h h0 => clone_cw h ks h0 hks
  simp only [tyD]
  generalize ls.map strD = LS at hLi q2 ⊢
  generalize tysD ks = KS at hKl hKi hKp hKat hcl ⊢
  cbv
  (repeat'((first|(apply zS;kernel_rfl)|(apply zD;decide +kernel)|(apply zE;decide +kernel)|(apply zF;decide +kernel)|(apply zL;decide +kernel)|(apply zM;decide +kernel)|(apply zN;intros)|(apply zO;intros)|(apply zT;omega)|(apply zU;omega)|(apply zP;omega;intros)|(apply zQ;omega;intros)|apply zR);cbv))
  rename_i r hr nl hnl0 hnl
  refine LoopK.put (X := Int × Int) (fun x => [(18, .raw (.int .i64 x.1)), (1, .raw (.int .i64 x.2))]) (fun _ => []) (fun x => ks.length - x.1.toNat) (fun x => CutI ks z x.1 x.2) (0, r) ⟨by omega, by simp, by omega, by simp [nodesL]; omega⟩ rfl rfl ?_
  rintro ⟨i, y⟩ N hv hN
  simp only at hv hN ⊢
  have hi0 := hv.i0
  have hi1 := hv.i1
  have hy0 := hv.y0
  have hy1 : y ≤ 9223372036854775807 := by have := hv.y1; omega
  cbv
  (repeat'((first|(apply zS;kernel_rfl)|(apply zD;decide +kernel)|(apply zE;decide +kernel)|(apply zF;decide +kernel)|(apply zL;decide +kernel)|(apply zM;decide +kernel)|(apply zN;intros)|(apply zO;intros)|(apply zT;omega)|(apply zU;omega)|(apply zP;omega;intros)|(apply zQ;omega;intros)|apply zR);cbv))
  refine BinK.lss ?_ ?_ <;> intro hlt <;> cbv <;> (repeat'((first|(apply zS;kernel_rfl)|(apply zD;decide +kernel)|(apply zE;decide +kernel)|(apply zF;decide +kernel)|(apply zL;decide +kernel)|(apply zM;decide +kernel)|(apply zN;intros)|(apply zO;intros)|(apply zT;omega)|(apply zU;omega)|(apply zP;omega;intros)|(apply zQ;omega;intros)|apply zR);cbv))
  · obtain ⟨t, ht, hK⟩ := hKat i.toNat (by omega)
    have hct := hc t (List.mem_of_getElem? ht) y hy0 hy1
    have hcp := cutP_pure t y
    have hpt := ty_pure t
    have hyes := fun h => hv.here ht h
    have hnext := fun i2 y2 h => hv.next (i2 := i2) (y2 := y2) ht h
    have ho : y.toNat < nodesT t → cutO t y = cutT t y.toNat ∧ leftZ t y = -1 := fun h => ⟨if_pos h, if_pos h⟩
    have hno : ¬ y.toNat < nodesT t → leftZ t y = y - nodesT t ∧ 0 ≤ leftZ t y := fun h => by
      have : leftZ t y = y - nodesT t := if_neg h
      exact ⟨this, by rw [this]; omega⟩
    have hne : ks ≠ [] := fun e => by subst e; simp at ht
    unfold cutP at hct hcp
    generalize leftZ t y = lz at hct hcp ho hno
    by_cases hyt : y.toNat < nodesT t
    · obtain ⟨e1, rfl⟩ := ho hyt
      obtain ⟨g1, g2⟩ := hyes hyt
      rw [← e1] at g2
      have q2 := q2 g1 i.toNat _ g2
      generalize cutO t y = c at hct hcp q2
      have hcF : tyF c = leavesD (tyD c) := rfl
      have hrowF : ∀ m, rowC ks m i.toNat c = (ks.map tyF ++ List.replicate m zeroF).set i.toNat (leavesD (tyD c)) := fun m => rfl
      have hat := fun m => row0_at (m := m) ht
      have hrow := row0_row ks
      clear hnext hno ho hyes g1 g2 e1 hcF hc q1
      obtain ⟨k0, n0, m0, l0, s0⟩ := t
      obtain ⟨k2, n2, m2, l2, s2⟩ := c
      simp only [tyF, tyD, leavesD] at hct hcp hpt hK hat hrowF
      generalize l0.map strD = L0 at hct hpt hK hat
      generalize tysD s0 = S0 at hct hpt hK hat
      generalize l2.map strD = L2 at hct hcp hrowF
      generalize tysD s2 = S2 at hct hcp hrowF
      refine IdxK.intro hi0 hK ?_
      cbv
      (repeat'((first|(apply zS;kernel_rfl)|(apply zD;decide +kernel)|(apply zE;decide +kernel)|(apply zF;decide +kernel)|(apply zL;decide +kernel)|(apply zM;decide +kernel)|(apply zN;intros)|(apply zO;intros)|(apply zT;omega)|(apply zU;omega)|(apply zP;omega;intros)|(apply zQ;omega;intros)|apply zR);cbv))
      refine CallK.one hct (cons_pure hpt rfl) hcp ?_
      cbv
      (repeat'((first|(apply zS;kernel_rfl)|(apply zD;decide +kernel)|(apply zE;decide +kernel)|(apply zF;decide +kernel)|(apply zL;decide +kernel)|(apply zM;decide +kernel)|(apply zN;intros)|(apply zO;intros)|(apply zT;omega)|(apply zU;omega)|(apply zP;omega;intros)|(apply zQ;omega;intros)|apply zR);cbv))
      refine CallK.mut (hcl _ hne) ?_
      rintro d h' ⟨m, rfl, rfl⟩
      obtain ⟨E0, hE0⟩ : ∃ E0, E0 = (ks.map tyF ++ List.replicate m zeroF).flatten := ⟨_, rfl⟩
      rw [← hE0]
      obtain ⟨nk, hnk⟩ : ∃ nk, nk = ks.length := ⟨_, rfl⟩
      rw [← hnk]
      rw [← hnk] at q2
      have q2 := q2 m
      rw [hrowF] at q2
      have hrow := hrow m
      have hat := hat m
      clear hrowF hcl
      cbv
      (repeat'((first|(apply zS;kernel_rfl)|(apply zD;decide +kernel)|(apply zE;decide +kernel)|(apply zF;decide +kernel)|(apply zL;decide +kernel)|(apply zM;decide +kernel)|(apply zN;intros)|(apply zO;intros)|(apply zT;omega)|(apply zU;omega)|(apply zP;omega;intros)|(apply zQ;omega;intros)|apply zR);cbv))
      refine MIdxK.intro hi0 (by omega) ?_
      intro j2 hj2
      cbv
      (repeat'((first|(apply zS;kernel_rfl)|(apply zD;decide +kernel)|(apply zE;decide +kernel)|(apply zF;decide +kernel)|(apply zL;decide +kernel)|(apply zM;decide +kernel)|(apply zN;intros)|(apply zO;intros)|(apply zT;omega)|(apply zU;omega)|(apply zP;omega;intros)|(apply zQ;omega;intros)|apply zR);cbv))
      refine MStoreK.row hE0 hrow (by rw [hj2]; exact hat) rfl (by simp) rfl ?_
      intro E2 hE2
      rw [hj2] at hE2
      cbv
      (repeat'((first|(apply zS;kernel_rfl)|(apply zD;decide +kernel)|(apply zE;decide +kernel)|(apply zF;decide +kernel)|(apply zL;decide +kernel)|(apply zM;decide +kernel)|(apply zN;intros)|(apply zO;intros)|(apply zT;omega)|(apply zU;omega)|(apply zP;omega;intros)|(apply zQ;omega;intros)|apply zR);cbv))
      exact ⟨q2 _ 4 (by rw [hE2]; rfl)⟩
    · obtain ⟨e1, e2⟩ := hno hyt
      have hnext := fun i2 y2 h => hnext i2 y2 hyt h
      generalize cutO t y = c at hct hcp
      clear ho hyes hno q2 hc
      obtain ⟨k0, n0, m0, L0, K0, f0, i0, j0⟩ := c4_node t
      obtain ⟨k2, n2, m2, L2, K2, f2, i2, j2⟩ := c4_node c
      rw [f0] at hct hpt hK
      rw [f2] at hct hcp
      refine IdxK.intro hi0 hK ?_
      cbv
      (repeat'((first|(apply zS;kernel_rfl)|(apply zD;decide +kernel)|(apply zE;decide +kernel)|(apply zF;decide +kernel)|(apply zL;decide +kernel)|(apply zM;decide +kernel)|(apply zN;intros)|(apply zO;intros)|(apply zT;omega)|(apply zU;omega)|(apply zP;omega;intros)|(apply zQ;omega;intros)|apply zR);cbv))
      refine CallK.one hct (cons_pure hpt rfl) hcp ?_
      cbv
      (repeat'((first|(apply zS;kernel_rfl)|(apply zD;decide +kernel)|(apply zE;decide +kernel)|(apply zF;decide +kernel)|(apply zL;decide +kernel)|(apply zM;decide +kernel)|(apply zN;intros)|(apply zO;intros)|(apply zT;omega)|(apply zU;omega)|(apply zP;omega;intros)|(apply zQ;omega;intros)|apply zR);cbv))
      rename_i r2 hr2
      refine RoundK.forget (r2, lz) (hnext r2 lz hr2 e1) ?_ rfl rfl ?_ ?_
      · show ks.length - r2.toNat < N
        omega
      · simp [idbL, idb, hLi, hKi, i0, j0, i2, j2]
      · simp [cellIdb, idbL, idb, hLi, hKi, i0, j0, i2, j2]
  · have hall : ks.take i.toNat = ks := List.take_of_length_le (by omega)
    have hy := hv.y1
    rw [hall] at hy
    exact ⟨q1 (by omega) y hy _⟩
set_option maxRecDepth 20000 in
set_option maxHeartbeats 4000000 in
theorem cutfrom_zero (t : Ty5) : CP (TT ()) 41 [tyD t, .raw (.int .i64 0)] (· = cutP t 0) := by
  have hn := nodes_one t
  have e : cutP t 0 = .tup [tyD dynT, .raw (.int .i64 (-1))] := by
    unfold cutP cutO leftZ
    rw [if_pos (by show 0 < _; omega), if_pos (by show 0 < _; omega), show (0 : Int).toNat = 0 from rfl, cut_zero]
  rw [e]
  refine c4_runW (by simp [pureD, pureL, ty_pure]) fun Q hQ => ?_
  have hQ : ∀ h', Q (.tup [.agg [.raw (.int .i64 5), .raw (.int .i64 0), .raw (.string ⟨#[]⟩), .raw (.slice none 0 0), .raw (.slice none 0 0)], .raw (.int .i64 (-1))]) h' := fun h' => hQ _ h' (.tup (.cons (.agg (.cons (.refl _) (.cons (.refl _) (.cons (.refl _) (.cons (nil_any 1) (.cons (nil_any 5) .nil)))))) (.refl _)))
  obtain ⟨k0, n0, m0, L0, K0, f0, _, _⟩ := c4_node t
  rw [f0]
  cbv
  (repeat'((first|(apply zS;kernel_rfl)|(apply zD;decide +kernel)|(apply zE;decide +kernel)|(apply zF;decide +kernel)|(apply zL;decide +kernel)|(apply zM;decide +kernel)|(apply zN;intros)|(apply zO;intros)|(apply zT;omega)|(apply zU;omega)|(apply zP;omega;intros)|(apply zQ;omega;intros)|apply zR);cbv))
  exact ⟨hQ _⟩
theorem cutfrom_cp : ∀ t : Ty5, nodesT t ≤ 1000000 → ∀ y : Int, 0 ≤ y → y ≤ 9223372036854775807 → CP (TT ()) 41 [tyD t, .raw (.int .i64 y)] (· = cutP t y) := by
  refine ty_ind fun k n nm ls ks ih hn y h0 h1 => ?_
  by_cases hy0 : y = 0
  · subst hy0
    exact cutfrom_zero _
  have hkn : ks.length ≤ nodesL ks := nodesL_len ks
  simp only [nodesT] at hn
  have c : CW (TT ()) 41 [tyD (.mk k n nm ls ks), .raw (.int .i64 y)] [] fun d h' => Wk d (cutP (.mk k n nm ls ks) y) ∨ (y.toNat - 1 < nodesL ks ∧ ∃ i c m id, cutL ks (y.toNat - 1) = ks.set i c ∧ h'[id]? = some (.box 25 (rowC ks m i c).flatten) ∧ d = .tup [.agg [.raw (.int .i64 k), .raw (.int .i64 n), .raw (.string nm), .sl none 1 (ls.map strD), .ms id 0 ks.length], .raw (.int .i64 (-1))]) :=
    wfun_ok (T := TT) (by kernel_rfl) (cutfrom_run k n nm ls ks y (by omega) h1 (by omega) (by omega) (fun t ht y g0 g1 => ih t ht (by have := nodesL_mem ht; omega) y g0 g1) _ (fun g z hz h' => .inl (by
      have e : cutP (.mk k n nm ls ks) y = .tup [tyD ty0, .raw (.int .i64 z)] := by
        have hnode : nodesT (.mk k n nm ls ks) = 1 + nodesL ks := by simp only [nodesT]
        unfold cutP cutO leftZ
        rw [if_neg (by omega), if_neg (by omega), show y - ((nodesT (.mk k n nm ls ks) : Nat) : Int) = z by omega]
      rw [e]
      exact .tup (.cons (.agg (.cons (.refl _) (.cons (.refl _) (.cons (.refl _) (.cons (nil_any 1) (.cons (nil_any 5) .nil)))))) (.refl _)))) fun g i c e m h' id hid => .inr ⟨g, i, c, m, id, e, hid, rfl⟩)
  refine (c.conv (R := fun d _ => d = cutP (.mk k n nm ls ks) y) ?_).cp fun d h' h => ⟨d, by rw [h]; exact cutP_pure _ _, h⟩
  rintro d h' (h | ⟨g, i, c, m, id, e, h, rfl⟩)
  · exact ⟨_, h', fun C w v s r => ⟨C, Fw.refl _ _, s, h C w v r⟩, rfl⟩
  · refine ⟨_, h'.set id .dead, fun C w v s r => ?_, rfl⟩
    obtain ⟨C', f', s', hr⟩ := row_still s (n := ks.length) h (rowC_row ks m i c) (tysD (ks.set i c)) rowC_done (by rw [tys_len, List.length_set])
    refine ⟨C', f', s', ?_⟩
    have e2 : cutP (.mk k n nm ls ks) y = .tup [tyD (.mk k n nm ls (ks.set i c)), .raw (.int .i64 (-1))] := by
      unfold cutP cutO leftZ
      rw [if_pos (by simp only [nodesT]; omega), if_pos (by simp only [nodesT]; omega), cut_succ (by omega), e]
    rw [e2]
    obtain ⟨vs, rfl, a0, s0, rfl, ⟨vs', rfl, r⟩, b0, t0, rfl, r9, r10⟩ := r
    simp only [RdL] at r10
    subst r10
    obtain ⟨u0, r0, rfl, q0, u1, r1, rfl, q1, u2, r2, rfl, q2, u3, r3, rfl, q3, u4, r4, rfl, q4, q5⟩ := r
    simp only [RdL] at q5
    subst q5
    exact ⟨_, rfl, _, _, rfl, ⟨_, rfl, u0, _, rfl, q0.mono f'.toEv, u1, _, rfl, q1.mono f'.toEv, u2, _, rfl, q2.mono f'.toEv, u3, _, rfl, q3.mono f'.toEv, u4, _, rfl, hr _ q4, rfl⟩, _, _, rfl, r9.mono f'.toEv, rfl⟩
set_option maxRecDepth 20000 in
set_option maxHeartbeats 4000000 in
theorem pcut_cp (t : Ty5) (hn : nodesT t ≤ 1000000) (y : Int) (hy : y ≤ 9223372036854775807) : CP (TT ()) 27 [tyD t, .raw (.int .i64 y)] (· = cutR2 t y) := by
  refine c4_runW (cutR2_pure t y) fun Q hQ => ?_
  have hc := fun h => cutfrom_cp t hn y h hy
  have hcp := cutP_pure t y
  have hpt := ty_pure t
  have q0 : y < 0 → ∀ h', Q (.tup [.agg [.raw (.int .i64 0), .raw (.int .i64 0), .raw (.string ⟨#[]⟩), .raw (.slice none 0 0), .raw (.slice none 0 0)], .raw (.bool false)]) h' := fun h h' => hQ _ h' (by
    have e : cutR2 t y = .tup [tyD ty0, .raw (.bool false)] := by
      unfold cutR2 cutR cutB
      rw [if_neg (by omega), decide_eq_false (by omega)]
    rw [e]
    exact .tup (.cons (.agg (.cons (.refl _) (.cons (.refl _) (.cons (.refl _) (.cons (nil_any 1) (.cons (nil_any 5) .nil)))))) (.refl _)))
  have q1 : 0 ≤ y → leftZ t y < 0 → ∀ h', Q (.tup [tyD (cutO t y), .raw (.bool true)]) h' := fun h g h' => hQ _ h' (by
    unfold leftZ at g
    have hlt : y.toNat < nodesT t := by
      split at g <;> omega
    have e : cutR2 t y = .tup [tyD (cutO t y), .raw (.bool true)] := by
      unfold cutR2 cutR cutB cutO
      rw [if_pos ⟨h, hlt⟩, decide_eq_true ⟨h, hlt⟩, if_pos hlt]
    rw [e]
    exact .refl _)
  have q2 : 0 ≤ y → ¬ leftZ t y < 0 → ∀ h', Q (.tup [tyD (cutO t y), .raw (.bool false)]) h' := fun h g h' => hQ _ h' (by
    unfold leftZ at g
    have hlt : ¬ y.toNat < nodesT t := by
      split at g <;> omega
    have e : cutR2 t y = .tup [tyD (cutO t y), .raw (.bool false)] := by
      unfold cutR2 cutR cutB cutO
      rw [if_neg (fun h => hlt h.2), decide_eq_false (fun h => hlt h.2), if_neg hlt]
    rw [e]
    exact .refl _)
  clear hQ
  unfold cutP at hc hcp
  generalize leftZ t y = z at hc hcp q1 q2
  generalize cutO t y = c at hc hcp q1 q2
  obtain ⟨k0, n0, m0, L0, K0, f0, _, _⟩ := c4_node t
  obtain ⟨k2, n2, m2, L2, K2, f2, _, _⟩ := c4_node c
  rw [f0] at hc hpt
  rw [f2] at hc hcp q1 q2
  rw [f0]
  cbv
  (repeat'((first|(apply zS;kernel_rfl)|(apply zD;decide +kernel)|(apply zE;decide +kernel)|(apply zF;decide +kernel)|(apply zL;decide +kernel)|(apply zM;decide +kernel)|(apply zN;intros)|(apply zO;intros)|(apply zT;omega)|(apply zU;omega)|(apply zP;omega;intros)|(apply zQ;omega;intros)|apply zR);cbv))
  refine BinK.lss ?_ ?_ <;> intro h0 <;> cbv <;> (repeat'((first|(apply zS;kernel_rfl)|(apply zD;decide +kernel)|(apply zE;decide +kernel)|(apply zF;decide +kernel)|(apply zL;decide +kernel)|(apply zM;decide +kernel)|(apply zN;intros)|(apply zO;intros)|(apply zT;omega)|(apply zU;omega)|(apply zP;omega;intros)|(apply zQ;omega;intros)|apply zR);cbv))
  · exact ⟨q0 h0 _⟩
  · refine CallK.one (hc (by omega)) (cons_pure hpt rfl) hcp ?_
    have q1 := q1 (by omega)
    have q2 := q2 (by omega)
    cbv
    (repeat'((first|(apply zS;kernel_rfl)|(apply zD;decide +kernel)|(apply zE;decide +kernel)|(apply zF;decide +kernel)|(apply zL;decide +kernel)|(apply zM;decide +kernel)|(apply zN;intros)|(apply zO;intros)|(apply zT;omega)|(apply zU;omega)|(apply zP;omega;intros)|(apply zQ;omega;intros)|apply zR);cbv))
    refine BinK.lss ?_ ?_ <;> intro h1
    · have q1 := q1 h1
      cbv
      (repeat'((first|(apply zS;kernel_rfl)|(apply zD;decide +kernel)|(apply zE;decide +kernel)|(apply zF;decide +kernel)|(apply zL;decide +kernel)|(apply zM;decide +kernel)|(apply zN;intros)|(apply zO;intros)|(apply zT;omega)|(apply zU;omega)|(apply zP;omega;intros)|(apply zQ;omega;intros)|apply zR);cbv))
      exact ⟨q1 _⟩
    · have q2 := q2 (by omega)
      cbv
      (repeat'((first|(apply zS;kernel_rfl)|(apply zD;decide +kernel)|(apply zE;decide +kernel)|(apply zF;decide +kernel)|(apply zL;decide +kernel)|(apply zM;decide +kernel)|(apply zN;intros)|(apply zO;intros)|(apply zT;omega)|(apply zU;omega)|(apply zP;omega;intros)|(apply zQ;omega;intros)|apply zR);cbv))
      exact ⟨q2 _⟩
end Go.Proofs.Ytllehceckdcbaaa
