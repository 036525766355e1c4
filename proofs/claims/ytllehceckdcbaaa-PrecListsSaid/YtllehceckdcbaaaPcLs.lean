/- PrecLists, run over any data, of whatever size: counts that wrap round do no harm. -/
import Derived.Test.YtllehceckdcbaaaPcScr
import Derived.Test.YtllehceckdcbaaaPwCw
namespace Go.Proofs.Ytllehceckdcbaaa
open Go.RowKit Pv
set_option maxRecDepth 20000 in
set_option maxHeartbeats 4000000 in
theorem plistsw_run (a b : List Bd) (ha : okB a) (hb : okB b) (hza : ∀ p ∈ a, lenT p.2) (Q : D → H → Prop) (hQ : ∀ h', Q (.raw (.bool true)) h') :
    wfun TT 4 [.sl none 6 (bnsD a), .sl none 6 (bnsD b)] [] Q := by
  have cA := pcawake_cp
  have main : a.length ≤ 20 → b.length ≤ 20 →
      CP (TT ()) 11 [.sl none 5 (tysD (a.map Prod.snd)), .sl none 5 (tysD (b.map Prod.snd))] (· = .raw (.bool (lessL (a.map Prod.snd) (b.map Prod.snd)))) ∧ CP (TT ()) 12 [.sl none 5 (tysD (a.map Prod.snd)), .sl none 5 (tysD (b.map Prod.snd))] (· = .raw (.bool (lessL (a.map Prod.snd) (b.map Prod.snd)))) ∧
      CP (TT ()) 13 [.sl none 6 (bnsD a), .sl none 6 (bnsD b)] (· = .raw (.bool (lessB a b))) ∧ CP (TT ()) 14 [.sl none 6 (bnsD a), .sl none 6 (bnsD b)] (· = .raw (.bool (lessB a b))) := fun h1 h2 => by
    have g1 : ∀ t ∈ a.map Prod.snd, lenT t := fun t ht => by
      obtain ⟨p, hp, rfl⟩ := List.mem_map.1 ht
      exact hza p hp
    have l1 : (a.map Prod.snd).length ≤ 20 := by simpa using h1
    exact ⟨pall_len _ _ (okB_tys ha) (okB_tys hb) (by omega) g1, rallL_len _ _ (okB_tys ha) (okB_tys hb) (by omega) g1, pbinds_len a b ha hb (by omega) hza, rbindsL_len a b ha hb (by omega) hza⟩
  have hAp := bns_pure a
  have hBp := bns_pure b
  have hAl := bns_len a
  have hBl := bns_len b
  have hAi := bns_idb a
  have hBi := bns_idb b
  have hAat := fun i => bns_at (m := a) (i := i)
  have hBat := fun i => bns_at (m := b) (i := i)
  have hlA := tys_pure (a.map Prod.snd)
  have hlB := tys_pure (b.map Prod.snd)
  generalize lessL (a.map Prod.snd) (b.map Prod.snd) = r1 at main
  generalize lessB a b = r2 at main
  generalize hLA : tysD (a.map Prod.snd) = LA at main hlA
  generalize hLB : tysD (b.map Prod.snd) = LB at main hlB
  generalize bnsD a = AS at hAp hAl hAi hAat main ⊢
  generalize bnsD b = BS at hBp hBl hBi hBat main ⊢
  cbv
  (repeat'((first|(apply zS;kernel_rfl)|(apply zD;decide +kernel)|(apply zE;decide +kernel)|(apply zF;decide +kernel)|(apply zL;decide +kernel)|(apply zM;decide +kernel)|(apply zN;intros)|(apply zO;intros)|(apply zT;omega)|(apply zU;omega)|(apply zP;omega;intros)|(apply zQ;omega;intros)|apply zR);cbv))
  refine BinK.gtr ?_ ?_ <;> intro h20 <;> cbv <;> (repeat'((first|(apply zS;kernel_rfl)|(apply zD;decide +kernel)|(apply zE;decide +kernel)|(apply zF;decide +kernel)|(apply zL;decide +kernel)|(apply zM;decide +kernel)|(apply zN;intros)|(apply zO;intros)|(apply zT;omega)|(apply zU;omega)|(apply zP;omega;intros)|(apply zQ;omega;intros)|apply zR);cbv))
  · refine .one cA rfl rfl ?_
    cbv
    (repeat'((first|(apply zS;kernel_rfl)|(apply zD;decide +kernel)|(apply zE;decide +kernel)|(apply zF;decide +kernel)|(apply zL;decide +kernel)|(apply zM;decide +kernel)|(apply zN;intros)|(apply zO;intros)|(apply zT;omega)|(apply zU;omega)|(apply zP;omega;intros)|(apply zQ;omega;intros)|apply zR);cbv))
    exact ⟨hQ _⟩
  refine BinK.gtr ?_ ?_ <;> intro h20' <;> cbv <;> (repeat'((first|(apply zS;kernel_rfl)|(apply zD;decide +kernel)|(apply zE;decide +kernel)|(apply zF;decide +kernel)|(apply zL;decide +kernel)|(apply zM;decide +kernel)|(apply zN;intros)|(apply zO;intros)|(apply zT;omega)|(apply zU;omega)|(apply zP;omega;intros)|(apply zQ;omega;intros)|apply zR);cbv))
  · refine .one cA rfl rfl ?_
    cbv
    (repeat'((first|(apply zS;kernel_rfl)|(apply zD;decide +kernel)|(apply zE;decide +kernel)|(apply zF;decide +kernel)|(apply zL;decide +kernel)|(apply zM;decide +kernel)|(apply zN;intros)|(apply zO;intros)|(apply zT;omega)|(apply zU;omega)|(apply zP;omega;intros)|(apply zQ;omega;intros)|apply zR);cbv))
    exact ⟨hQ _⟩
  have ha20 : a.length ≤ 20 := by omega
  have hb20 : b.length ≤ 20 := by omega
  have main := main ha20 hb20
  refine LoopK.log 5 25 5 rfl ?_
  refine LoopK.put (X := Int × List D × Nat) (fun x => [(5, .sl (some 0) 5 x.2.1), (7, .raw (.int .i64 x.1))]) (fun x => [(0, .log 25 5 x.2.2)]) (fun x => a.length - x.1.toNat)
    (fun x => 0 ≤ x.1 ∧ x.1.toNat ≤ a.length ∧ x.2.1 = tysD ((a.take x.1.toNat).map Prod.snd) ∧ x.2.2 = x.2.1.length ∧ ∀ (j : Nat) (p : Bd), j < x.1.toNat → a[j]? = some p → muchW p.2 ≤ 100) (0, [], 0) ⟨by simp, by simp, rfl, rfl, fun j p hj => absurd hj (Nat.not_lt_zero _)⟩ rfl rfl ?_
  rintro ⟨i, L, nl⟩ N ⟨h0, hi, hL, hnl, hj⟩ hN
  simp only at h0 hi hL hnl hj hN ⊢
  have hLl : L.length = i.toNat := by rw [hL, tys_len]; simp; omega
  cbv
  (repeat'((first|(apply zS;kernel_rfl)|(apply zD;decide +kernel)|(apply zE;decide +kernel)|(apply zF;decide +kernel)|(apply zL;decide +kernel)|(apply zM;decide +kernel)|(apply zN;intros)|(apply zO;intros)|(apply zT;omega)|(apply zU;omega)|(apply zP;omega;intros)|(apply zQ;omega;intros)|apply zR);cbv))
  refine BinK.lss ?_ ?_ <;> intro hlt <;> cbv <;> (repeat'((first|(apply zS;kernel_rfl)|(apply zD;decide +kernel)|(apply zE;decide +kernel)|(apply zF;decide +kernel)|(apply zL;decide +kernel)|(apply zM;decide +kernel)|(apply zN;intros)|(apply zO;intros)|(apply zT;omega)|(apply zU;omega)|(apply zP;omega;intros)|(apply zQ;omega;intros)|apply zR);cbv))
  · obtain ⟨p, hp, hB⟩ := hAat i.toNat (by omega)
    have hpm := List.mem_of_getElem? hp
    have cM := muchw_cp p.2 (ha p hpm).2
    have hpp := ty_pure p.2
    have htake : a.take (i.toNat + 1) = a.take i.toNat ++ [p] := by
      obtain ⟨h1, h2⟩ := List.getElem?_eq_some_iff.1 hp
      rw [List.take_succ_eq_append_getElem h1, h2]
    have hstep : ∀ r : Int, r = i + 1 → tysD ((a.take r.toNat).map Prod.snd) = L ++ [tyD p.2] := fun r hr => by
      rw [hL, show r.toNat = i.toNat + 1 by omega, htake]
      simp [tysD_map]
    obtain ⟨M, hM⟩ : ∃ M : Int, muchW p.2 = M := ⟨_, rfl⟩
    rw [hM] at cM
    have hnext : M ≤ 100 → ∀ r : Int, r = i + 1 → ∀ (j : Nat) (q : Bd), j < r.toNat → a[j]? = some q → muchW q.2 ≤ 100 := fun hm r hr j q hjr hq => by
      by_cases hji : j = i.toNat
      · rw [hji, hp] at hq
        cases hq
        omega
      · exact hj j q (by omega) hq
    obtain ⟨k0, n0, m0, L0, K0, f0, f1, j1, j2⟩ := bn_node p
    rw [f1] at cM hpp hstep
    rw [f0] at hB
    generalize p.1 = pn at hB
    clear f0 f1 j1 j2 hL hj main hM
    refine IdxK.intro h0 hB ?_
    cbv
    (repeat'((first|(apply zS;kernel_rfl)|(apply zD;decide +kernel)|(apply zE;decide +kernel)|(apply zF;decide +kernel)|(apply zL;decide +kernel)|(apply zM;decide +kernel)|(apply zN;intros)|(apply zO;intros)|(apply zT;omega)|(apply zU;omega)|(apply zP;omega;intros)|(apply zQ;omega;intros)|apply zR);cbv))
    refine .one cM (cons_pure hpp rfl) rfl ?_
    cbv
    (repeat'((first|(apply zS;kernel_rfl)|(apply zD;decide +kernel)|(apply zE;decide +kernel)|(apply zF;decide +kernel)|(apply zL;decide +kernel)|(apply zM;decide +kernel)|(apply zN;intros)|(apply zO;intros)|(apply zT;omega)|(apply zU;omega)|(apply zP;omega;intros)|(apply zQ;omega;intros)|apply zR);cbv))
    refine BinK.gtr ?_ ?_ <;> intro hm <;> cbv <;> (repeat'((first|(apply zS;kernel_rfl)|(apply zD;decide +kernel)|(apply zE;decide +kernel)|(apply zF;decide +kernel)|(apply zL;decide +kernel)|(apply zM;decide +kernel)|(apply zN;intros)|(apply zO;intros)|(apply zT;omega)|(apply zU;omega)|(apply zP;omega;intros)|(apply zQ;omega;intros)|apply zR);cbv))
    · refine .one cA rfl rfl ?_
      cbv
      (repeat'((first|(apply zS;kernel_rfl)|(apply zD;decide +kernel)|(apply zE;decide +kernel)|(apply zF;decide +kernel)|(apply zL;decide +kernel)|(apply zM;decide +kernel)|(apply zN;intros)|(apply zO;intros)|(apply zT;omega)|(apply zU;omega)|(apply zP;omega;intros)|(apply zQ;omega;intros)|apply zR);cbv))
      exact ⟨hQ _⟩
    have hnext := hnext hm
    refine IdxK.intro h0 hB ?_
    cbv
    (repeat'((first|(apply zS;kernel_rfl)|(apply zD;decide +kernel)|(apply zE;decide +kernel)|(apply zF;decide +kernel)|(apply zL;decide +kernel)|(apply zM;decide +kernel)|(apply zN;intros)|(apply zO;intros)|(apply zT;omega)|(apply zU;omega)|(apply zP;omega;intros)|(apply zQ;omega;intros)|apply zR);cbv))
    refine AppK.sl el_tys el_tys rfl hnl (by simp only [List.length_cons, List.length_nil]; omega) ?_
    intro L' nl' hL' hnl'
    cbv
    (repeat'((first|(apply zS;kernel_rfl)|(apply zD;decide +kernel)|(apply zE;decide +kernel)|(apply zF;decide +kernel)|(apply zL;decide +kernel)|(apply zM;decide +kernel)|(apply zN;intros)|(apply zO;intros)|(apply zT;omega)|(apply zU;omega)|(apply zP;omega;intros)|(apply zQ;omega;intros)|apply zR);cbv))
    rename_i r hr
    have hnext := hnext r hr
    have hL2 : L' = tysD ((a.take r.toNat).map Prod.snd) := by rw [hstep r hr]; exact hL'
    have hLi : ∀ k, idbL k L' = true := fun k => pure_idbL k _ (by rw [hL2]; exact tys_pure _)
    refine RoundK.forget (r, L', nl') ⟨by omega, by omega, hL2, hnl', hnext⟩ (by omega) rfl rfl ?_ ?_
    · simp [idbL, idb, hAi, hBi, hLi]
    · simp [cellIdb]
  have hall : a.take i.toNat = a := List.take_of_length_le (by omega)
  rw [hall, hLA] at hL
  have hmA : ∀ p ∈ a, muchW p.2 ≤ 100 := fun p hp => by
    obtain ⟨j, hjl, rfl⟩ := List.getElem_of_mem hp
    exact hj j _ (by omega) (List.getElem?_eq_getElem hjl)
  subst hL
  clear hj hLl h0 hi hN
  have hLAi : ∀ k, idbL k L = true := fun k => pure_idbL k _ hlA
  have hLn : nl = L.length := hnl
  clear hnl
  generalize hL0 : L = LX at hlA hLAi main hLn ⊢
  clear hL0
  try clear hLA
  refine LoopK.log 6 25 5 rfl ?_
  refine LoopK.put (X := Int × List D × Nat) (fun x => [(6, .sl (some 1) 5 x.2.1), (8, .raw (.int .i64 x.1))]) (fun x => [(1, .log 25 5 x.2.2)]) (fun x => b.length - x.1.toNat)
    (fun x => 0 ≤ x.1 ∧ x.1.toNat ≤ b.length ∧ x.2.1 = tysD ((b.take x.1.toNat).map Prod.snd) ∧ x.2.2 = x.2.1.length ∧ ∀ (j : Nat) (p : Bd), j < x.1.toNat → b[j]? = some p → muchW p.2 ≤ 100) (0, [], 0) ⟨by simp, by simp, rfl, rfl, fun j p hj => absurd hj (Nat.not_lt_zero _)⟩ rfl rfl ?_
  rintro ⟨i, L, nl⟩ N ⟨h0, hi, hL, hnl, hj⟩ hN
  simp only at h0 hi hL hnl hj hN ⊢
  have hLl : L.length = i.toNat := by rw [hL, tys_len]; simp; omega
  cbv
  (repeat'((first|(apply zS;kernel_rfl)|(apply zD;decide +kernel)|(apply zE;decide +kernel)|(apply zF;decide +kernel)|(apply zL;decide +kernel)|(apply zM;decide +kernel)|(apply zN;intros)|(apply zO;intros)|(apply zT;omega)|(apply zU;omega)|(apply zP;omega;intros)|(apply zQ;omega;intros)|apply zR);cbv))
  refine BinK.lss ?_ ?_ <;> intro hlt <;> cbv <;> (repeat'((first|(apply zS;kernel_rfl)|(apply zD;decide +kernel)|(apply zE;decide +kernel)|(apply zF;decide +kernel)|(apply zL;decide +kernel)|(apply zM;decide +kernel)|(apply zN;intros)|(apply zO;intros)|(apply zT;omega)|(apply zU;omega)|(apply zP;omega;intros)|(apply zQ;omega;intros)|apply zR);cbv))
  · obtain ⟨p, hp, hB⟩ := hBat i.toNat (by omega)
    have hpm := List.mem_of_getElem? hp
    have cM := muchw_cp p.2 (hb p hpm).2
    have hpp := ty_pure p.2
    have htake : b.take (i.toNat + 1) = b.take i.toNat ++ [p] := by
      obtain ⟨h1, h2⟩ := List.getElem?_eq_some_iff.1 hp
      rw [List.take_succ_eq_append_getElem h1, h2]
    have hstep : ∀ r : Int, r = i + 1 → tysD ((b.take r.toNat).map Prod.snd) = L ++ [tyD p.2] := fun r hr => by
      rw [hL, show r.toNat = i.toNat + 1 by omega, htake]
      simp [tysD_map]
    obtain ⟨M, hM⟩ : ∃ M : Int, muchW p.2 = M := ⟨_, rfl⟩
    rw [hM] at cM
    have hnext : M ≤ 100 → ∀ r : Int, r = i + 1 → ∀ (j : Nat) (q : Bd), j < r.toNat → b[j]? = some q → muchW q.2 ≤ 100 := fun hm r hr j q hjr hq => by
      by_cases hji : j = i.toNat
      · rw [hji, hp] at hq
        cases hq
        omega
      · exact hj j q (by omega) hq
    obtain ⟨k0, n0, m0, L0, K0, f0, f1, j1, j2⟩ := bn_node p
    rw [f1] at cM hpp hstep
    rw [f0] at hB
    generalize p.1 = pn at hB
    clear f0 f1 j1 j2 hL hj main hM
    refine IdxK.intro h0 hB ?_
    cbv
    (repeat'((first|(apply zS;kernel_rfl)|(apply zD;decide +kernel)|(apply zE;decide +kernel)|(apply zF;decide +kernel)|(apply zL;decide +kernel)|(apply zM;decide +kernel)|(apply zN;intros)|(apply zO;intros)|(apply zT;omega)|(apply zU;omega)|(apply zP;omega;intros)|(apply zQ;omega;intros)|apply zR);cbv))
    refine .one cM (cons_pure hpp rfl) rfl ?_
    cbv
    (repeat'((first|(apply zS;kernel_rfl)|(apply zD;decide +kernel)|(apply zE;decide +kernel)|(apply zF;decide +kernel)|(apply zL;decide +kernel)|(apply zM;decide +kernel)|(apply zN;intros)|(apply zO;intros)|(apply zT;omega)|(apply zU;omega)|(apply zP;omega;intros)|(apply zQ;omega;intros)|apply zR);cbv))
    refine BinK.gtr ?_ ?_ <;> intro hm <;> cbv <;> (repeat'((first|(apply zS;kernel_rfl)|(apply zD;decide +kernel)|(apply zE;decide +kernel)|(apply zF;decide +kernel)|(apply zL;decide +kernel)|(apply zM;decide +kernel)|(apply zN;intros)|(apply zO;intros)|(apply zT;omega)|(apply zU;omega)|(apply zP;omega;intros)|(apply zQ;omega;intros)|apply zR);cbv))
    · refine .one cA rfl rfl ?_
      cbv
      (repeat'((first|(apply zS;kernel_rfl)|(apply zD;decide +kernel)|(apply zE;decide +kernel)|(apply zF;decide +kernel)|(apply zL;decide +kernel)|(apply zM;decide +kernel)|(apply zN;intros)|(apply zO;intros)|(apply zT;omega)|(apply zU;omega)|(apply zP;omega;intros)|(apply zQ;omega;intros)|apply zR);cbv))
      exact ⟨hQ _⟩
    have hnext := hnext hm
    refine IdxK.intro h0 hB ?_
    cbv
    (repeat'((first|(apply zS;kernel_rfl)|(apply zD;decide +kernel)|(apply zE;decide +kernel)|(apply zF;decide +kernel)|(apply zL;decide +kernel)|(apply zM;decide +kernel)|(apply zN;intros)|(apply zO;intros)|(apply zT;omega)|(apply zU;omega)|(apply zP;omega;intros)|(apply zQ;omega;intros)|apply zR);cbv))
    refine AppK.sl el_tys el_tys rfl hnl (by simp only [List.length_cons, List.length_nil]; omega) ?_
    intro L' nl' hL' hnl'
    cbv
    (repeat'((first|(apply zS;kernel_rfl)|(apply zD;decide +kernel)|(apply zE;decide +kernel)|(apply zF;decide +kernel)|(apply zL;decide +kernel)|(apply zM;decide +kernel)|(apply zN;intros)|(apply zO;intros)|(apply zT;omega)|(apply zU;omega)|(apply zP;omega;intros)|(apply zQ;omega;intros)|apply zR);cbv))
    rename_i r hr
    have hnext := hnext r hr
    have hL2 : L' = tysD ((b.take r.toNat).map Prod.snd) := by rw [hstep r hr]; exact hL'
    have hLi : ∀ k, idbL k L' = true := fun k => pure_idbL k _ (by rw [hL2]; exact tys_pure _)
    refine RoundK.forget (r, L', nl') ⟨by omega, by omega, hL2, hnl', hnext⟩ (by omega) rfl rfl ?_ ?_
    · simp [idbL, idb, hAi, hBi, hLi, hLAi]
    · simp [cellIdb]
  have hall : b.take i.toNat = b := List.take_of_length_le (by omega)
  rw [hall, hLB] at hL
  have hmB : ∀ p ∈ b, muchW p.2 ≤ 100 := fun p hp => by
    obtain ⟨j, hjl, rfl⟩ := List.getElem_of_mem hp
    exact hj j _ (by omega) (List.getElem?_eq_getElem hjl)
  subst hL
  clear hj hLl h0 hi hN
  obtain ⟨c1, c2, c3, c4⟩ := main
  have hp2 : pureL [D.sl (some 0) 5 LX, D.sl (some 1) 5 L] = some [D.sl none 5 LX, D.sl none 5 L] := by simp [pureL, pureD, hlA, hlB]
  have hp4 : pureL [D.sl none 6 AS, D.sl none 6 BS] = some [D.sl none 6 AS, D.sl none 6 BS] := by simp [pureL, pureD, hAp, hBp]
  refine .one c1 hp2 rfl ?_
  cbv
  (repeat'((first|(apply zS;kernel_rfl)|(apply zD;decide +kernel)|(apply zE;decide +kernel)|(apply zF;decide +kernel)|(apply zL;decide +kernel)|(apply zM;decide +kernel)|(apply zN;intros)|(apply zO;intros)|(apply zT;omega)|(apply zU;omega)|(apply zP;omega;intros)|(apply zQ;omega;intros)|apply zR);cbv))
  refine .one c2 hp2 rfl ?_
  cbv
  (repeat'((first|(apply zS;kernel_rfl)|(apply zD;decide +kernel)|(apply zE;decide +kernel)|(apply zF;decide +kernel)|(apply zL;decide +kernel)|(apply zM;decide +kernel)|(apply zN;intros)|(apply zO;intros)|(apply zT;omega)|(apply zU;omega)|(apply zP;omega;intros)|(apply zQ;omega;intros)|apply zR);cbv))
  refine beqF_one ?_
  cbv
  (repeat'((first|(apply zS;kernel_rfl)|(apply zD;decide +kernel)|(apply zE;decide +kernel)|(apply zF;decide +kernel)|(apply zL;decide +kernel)|(apply zM;decide +kernel)|(apply zN;intros)|(apply zO;intros)|(apply zT;omega)|(apply zU;omega)|(apply zP;omega;intros)|(apply zQ;omega;intros)|apply zR);cbv))
  refine .one c3 hp4 rfl ?_
  cbv
  (repeat'((first|(apply zS;kernel_rfl)|(apply zD;decide +kernel)|(apply zE;decide +kernel)|(apply zF;decide +kernel)|(apply zL;decide +kernel)|(apply zM;decide +kernel)|(apply zN;intros)|(apply zO;intros)|(apply zT;omega)|(apply zU;omega)|(apply zP;omega;intros)|(apply zQ;omega;intros)|apply zR);cbv))
  refine .one c4 hp4 rfl ?_
  cbv
  (repeat'((first|(apply zS;kernel_rfl)|(apply zD;decide +kernel)|(apply zE;decide +kernel)|(apply zF;decide +kernel)|(apply zL;decide +kernel)|(apply zM;decide +kernel)|(apply zN;intros)|(apply zO;intros)|(apply zT;omega)|(apply zU;omega)|(apply zP;omega;intros)|(apply zQ;omega;intros)|apply zR);cbv))
  refine beqF_one ?_
  cbv
  (repeat'((first|(apply zS;kernel_rfl)|(apply zD;decide +kernel)|(apply zE;decide +kernel)|(apply zF;decide +kernel)|(apply zL;decide +kernel)|(apply zM;decide +kernel)|(apply zN;intros)|(apply zO;intros)|(apply zT;omega)|(apply zU;omega)|(apply zP;omega;intros)|(apply zQ;omega;intros)|apply zR);cbv))
  refine .one cA rfl rfl ?_
  cbv
  (repeat'((first|(apply zS;kernel_rfl)|(apply zD;decide +kernel)|(apply zE;decide +kernel)|(apply zF;decide +kernel)|(apply zL;decide +kernel)|(apply zM;decide +kernel)|(apply zN;intros)|(apply zO;intros)|(apply zT;omega)|(apply zU;omega)|(apply zP;omega;intros)|(apply zQ;omega;intros)|apply zR);cbv))
  exact ⟨hQ _⟩
theorem plistsw_law (a b : List Bd) (ha : okB a) (hb : okB b) : CP (TT ()) 4 [.sl none 6 (bnsD a), .sl none 6 (bnsD b)] (· = .raw (.bool true)) :=
  cp_when (callable_at Try.func4 (by kernel_rfl) rfl) (fun S w args r => by
    obtain ⟨v, v', rfl, h, h'⟩ := rdL_two r
    exact rd_lenBs a h) fun h => c4_run (plistsw_run a b ha hb h)
end Go.Proofs.Ytllehceckdcbaaa
