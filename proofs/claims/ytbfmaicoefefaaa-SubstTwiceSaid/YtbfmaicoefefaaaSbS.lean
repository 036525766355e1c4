/- limbeckref07: sealed and opened types. -/
import Derived.Test.YtbfmaicoefefaaaSbR
set_option linter.unusedSimpArgs false
set_option linter.unusedVariables false
namespace Go.Proofs.Ytbfmaicoefefaaa
open Go.RowKit Pv
set_option maxRecDepth 100000
theorem placeq_cp (ls : List ByteArray) (s : ByteArray) (hs : ∀ u ∈ ls, u.size ≤ maxLen) : CP (TT ()) 60 [.sl none 1 (ls.map strD), .raw (.string s)] (· = .raw (.int .i64 (placeI ls s))) :=
  cp_raw (callable_at Try.func60 (by kernel_rfl) rfl) fun S w args r => by
    obtain ⟨v, v', rfl, h, h'⟩ := rdL_two r
    simp only [Pv.Rd] at h'
    subst h'
    refine (place_any v ls s w (strs_in h hs)).mono ?_
    rintro e w' ⟨rfl, rfl⟩
    exact ⟨rfl, Below.refl _ _⟩
def sealD (n : Int) : Ty5 := .mk 9 n ⟨#[]⟩ [] []
theorem sealq_cp (n : Int) : CP (TT ()) 87 [.raw (.int .i64 n)] (· = tyD (sealD n)) := by
  refine c4_runW (ty_pure _) fun Q hQ => ?_
  have hQ : ∀ h', Q (.agg [.raw (.int .i64 9), .raw (.int .i64 n), .raw (.string ⟨#[]⟩), .raw (.slice none 0 0), .raw (.slice none 0 0)]) h' := fun h' => hQ _ h' (.agg (.cons (.refl _) (.cons (.refl _) (.cons (.refl _) (.cons (nil_any 1) (.cons (nil_any 5) .nil))))))
  cbv
  (repeat'((first|(apply zS;kernel_rfl)|(apply zD;decide +kernel)|(apply zE;decide +kernel)|(apply zF;decide +kernel)|(apply zL;decide +kernel)|(apply zM;decide +kernel)|(apply zN;intros)|(apply zO;intros)|(apply zT;omega)|(apply zU;omega)|(apply zP;omega;intros)|(apply zQ;omega;intros)|apply zR);cbv))
  exact ⟨hQ _⟩
set_option maxRecDepth 20000 in
set_option maxHeartbeats 4000000 in
theorem sealed_run (names : List ByteArray) (fr : Int) (hf0 : 0 ≤ fr) (hf1 : fr ≤ 1073741824) (hnl : names.length ≤ 140737488355328) (hns : ∀ u ∈ names, u.size ≤ maxLen) (k n : Int) (nm : ByteArray) (ls : List ByteArray) (ks : List Ty5) (hks : ks.length ≤ 1000000)
    (hc : ∀ t ∈ ks, CP (TT ()) 74 [tyD t, .sl none 1 (names.map strD), .raw (.int .i64 fr)] (· = tyD (sealT names fr t))) (Q : D → H → Prop) (hQ : ∀ d h', Wk d (tyD (sealT names fr (.mk k n nm ls ks))) → Q d h') :
    wfun TT 74 [tyD (.mk k n nm ls ks), .sl none 1 (names.map strD), .raw (.int .i64 fr)] [] Q := by
  have hcp := placeq_cp names nm hns
  rw [placeI_T] at hcp
  have hNp := strs_pure names
  have hyes : ∀ i : Nat, k = 6 → placeT names nm = some i → ∀ h', Q (tyD (sealD (fr + i))) h' := fun i h6 hf h' => hQ _ h' (by
    rw [show sealT names fr (.mk k n nm ls ks) = sealD (fr + i) from tr_some (by unfold sealF; rw [if_pos h6, hf]; rfl) ls ks]
    exact .refl _)
  have hno : ¬ (k = 6 ∧ placeT names nm ≠ none) → ∀ tag h', Q (.agg [.raw (.int .i64 k), .raw (.int .i64 n), .raw (.string nm), .sl none 1 (ls.map strD), .sl tag 5 (tysD (ks.map (sealT names fr)))]) h' := fun h tag h' => hQ _ h' (by
    rw [show sealT names fr (.mk k n nm ls ks) = .mk k n nm ls (ks.map (sealT names fr)) from tr_none (by
      unfold sealF
      by_cases h6 : k = 6
      · rw [if_pos h6, Classical.byContradiction fun e => h ⟨h6, e⟩]
        rfl
      · rw [if_neg h6]) ls ks]
    exact .agg (.cons (.refl _) (.cons (.refl _) (.cons (.refl _) (.cons (.refl _) (.cons (untag_any _ _ _) .nil))))))
  have hLi := strs_idb ls
  have hKi := tys_idb ks
  have hKl := tys_len ks
  have hKat := fun i => tys_at (ks := ks) (i := i)
  simp only [tyD]
  clear hQ
  have hNi := strs_idb names
  have hlt' : ∀ i, placeT names nm = some i → i < names.length := fun i h => placeT_lt h
  generalize names.map strD = NS at hNi hNp hcp hc ⊢
  generalize ls.map strD = LS at hno hLi ⊢
  generalize tysD ks = KS at hKi hKl hKat ⊢
  cbv
  (repeat'((first|(apply zS;kernel_rfl)|(apply zD;decide +kernel)|(apply zE;decide +kernel)|(apply zF;decide +kernel)|(apply zL;decide +kernel)|(apply zM;decide +kernel)|(apply zN;intros)|(apply zO;intros)|(apply zT;omega)|(apply zU;omega)|(apply zP;omega;intros)|(apply zQ;omega;intros)|apply zR);cbv))
  refine BinK.eql ?_ ?_ <;> intro h6 <;> cbv <;> (repeat'((first|(apply zS;kernel_rfl)|(apply zD;decide +kernel)|(apply zE;decide +kernel)|(apply zF;decide +kernel)|(apply zL;decide +kernel)|(apply zM;decide +kernel)|(apply zN;intros)|(apply zO;intros)|(apply zT;omega)|(apply zU;omega)|(apply zP;omega;intros)|(apply zQ;omega;intros)|apply zR);cbv))
  case' refine_1 =>
    rcases hp : placeT names nm with _ | i
    case' some =>
      have hyes := hyes i h6 hp
      have hil := hlt' i hp
      rw [hp] at hcp
      simp only at hcp
      obtain ⟨z, hz, hz0, hz1⟩ : ∃ z : Int, (i : Int) = z ∧ 0 ≤ z ∧ z < 140737488355328 := ⟨i, rfl, by omega, by omega⟩
      have hsq := sealq_cp (fr + z)
      have hcp : CP (TT ()) 60 [.sl none 1 NS, .raw (.string nm)] (· = .raw (.int .i64 z)) := by rw [← hz]; exact hcp
      have hyes : ∀ h', Q (tyD (sealD (fr + z))) h' := by rw [← hz]; exact hyes
      obtain ⟨x, hx⟩ : ∃ x, x = fr + z := ⟨_, rfl⟩
      rw [← hx] at hsq hyes
      have hpx := ty_pure (sealD x)
      generalize hu : sealD x = u at hsq hyes hpx
      obtain ⟨k', n', nm', L', K', f0, _, _⟩ := c4_node u
      rw [f0] at hsq hyes hpx
      refine CallK.one hcp (by simp [pureL, pureD, hNp]) rfl ?_
      cbv
      (repeat'((first|(apply zS;kernel_rfl)|(apply zD;decide +kernel)|(apply zE;decide +kernel)|(apply zF;decide +kernel)|(apply zL;decide +kernel)|(apply zM;decide +kernel)|(apply zN;intros)|(apply zO;intros)|(apply zT;omega)|(apply zU;omega)|(apply zP;omega;intros)|(apply zQ;omega;intros)|apply zR);cbv))
      rename_i r hr
      obtain rfl : r = x := by omega
      refine CallK.one hsq rfl hpx ?_
      cbv
      (repeat'((first|(apply zS;kernel_rfl)|(apply zD;decide +kernel)|(apply zE;decide +kernel)|(apply zF;decide +kernel)|(apply zL;decide +kernel)|(apply zM;decide +kernel)|(apply zN;intros)|(apply zO;intros)|(apply zT;omega)|(apply zU;omega)|(apply zP;omega;intros)|(apply zQ;omega;intros)|apply zR);cbv))
      exact ⟨hyes _⟩
    case' none =>
      rw [hp] at hcp
      simp only at hcp
      have hno := hno (fun h => h.2 hp)
      refine CallK.one hcp (by simp [pureL, pureD, hNp]) rfl ?_
      cbv
      (repeat'((first|(apply zS;kernel_rfl)|(apply zD;decide +kernel)|(apply zE;decide +kernel)|(apply zF;decide +kernel)|(apply zL;decide +kernel)|(apply zM;decide +kernel)|(apply zN;intros)|(apply zO;intros)|(apply zT;omega)|(apply zU;omega)|(apply zP;omega;intros)|(apply zQ;omega;intros)|apply zR);cbv))
  case' refine_2 =>
    have hno := hno (fun h => h6 h.1)
  all_goals
    refine LoopK.cellLog 2 4 25 5 rfl rfl ?_
    cbv
    refine LoopK.put (X := Int × List D × Nat) (fun x => [(9, .raw (.int .i64 x.1))]) (fun x => [(2, .box 25 [.raw (.int .i64 k), .raw (.int .i64 n), .raw (.string nm), .sl none 1 LS, .sl (some 3) 5 x.2.1]), (3, .log 25 5 x.2.2)]) (fun x => ks.length - x.1.toNat)
      (fun x => 0 ≤ x.1 ∧ x.1.toNat ≤ ks.length ∧ x.2.1 = tysD ((ks.take x.1.toNat).map (sealT names fr)) ∧ x.2.2 = x.2.1.length) (0, [], 0) ⟨by simp, by simp, rfl, rfl⟩ rfl rfl ?_
    rintro ⟨i, L, nl⟩ N ⟨h0, hi, hL, hnl⟩ hN
    simp only at h0 hi hL hnl hN ⊢
    have hLl : L.length = i.toNat := by rw [hL, tys_len]; simp; omega
    cbv
    (repeat'((first|(apply zS;kernel_rfl)|(apply zD;decide +kernel)|(apply zE;decide +kernel)|(apply zF;decide +kernel)|(apply zL;decide +kernel)|(apply zM;decide +kernel)|(apply zN;intros)|(apply zO;intros)|(apply zT;omega)|(apply zU;omega)|(apply zP;omega;intros)|(apply zQ;omega;intros)|apply zR);cbv))
    refine BinK.lss ?_ ?_ <;> intro hlt <;> cbv <;> (repeat'((first|(apply zS;kernel_rfl)|(apply zG;decide +kernel)|(apply zF;decide +kernel)|(apply zE;decide +kernel)|(apply zD;decide +kernel)|(apply zL;decide +kernel)|(apply zM;decide +kernel)|(apply zN;intros)|(apply zO;intros)|(apply zT;omega)|(apply zU;omega)|(apply zP;omega;intros)|(apply zQ;omega;intros)|apply zR);cbv))
    · obtain ⟨t, ht, hK⟩ := hKat i.toNat (by omega)
      have hct := hc t (List.mem_of_getElem? ht)
      have hpt := ty_pure t
      have hpu := ty_pure (sealT names fr t)
      have htake : ks.take (i.toNat + 1) = ks.take i.toNat ++ [t] := by
        obtain ⟨h1, h2⟩ := List.getElem?_eq_some_iff.1 ht
        rw [List.take_succ_eq_append_getElem h1, h2]
      have hstep : ∀ r : Int, r = i + 1 → tysD ((ks.take r.toNat).map (sealT names fr)) = L ++ [tyD (sealT names fr t)] := fun r hr => by
        rw [hL, show r.toNat = i.toNat + 1 by omega, htake]
        simp [tysD_map]
      obtain ⟨k0, n0, m0, L0, K0, f0, i0, j0⟩ := c4_node t
      obtain ⟨k1, n1, m1, L1, K1, f1, i1, j1⟩ := c4_node (sealT names fr t)
      clear i0 j0 i1 j1
      rw [f0] at hct hpt hK
      rw [f1] at hct hpu hstep
      clear hc hno hL
      refine IdxK.intro h0 hK ?_
      cbv
      (repeat'((first|(apply zS;kernel_rfl)|(apply zG;decide +kernel)|(apply zF;decide +kernel)|(apply zE;decide +kernel)|(apply zD;decide +kernel)|(apply zL;decide +kernel)|(apply zM;decide +kernel)|(apply zN;intros)|(apply zO;intros)|(apply zT;omega)|(apply zU;omega)|(apply zP;omega;intros)|(apply zQ;omega;intros)|apply zR);cbv))
      refine PCallK.one hct (cons_pure hpt (by simp [pureL, pureD, hNp])) hpu ?_
      cbv
      (repeat'((first|(apply zS;kernel_rfl)|(apply zD;decide +kernel)|(apply zE;decide +kernel)|(apply zF;decide +kernel)|(apply zL;decide +kernel)|(apply zM;decide +kernel)|(apply zN;intros)|(apply zO;intros)|(apply zT;omega)|(apply zU;omega)|(apply zP;omega;intros)|(apply zQ;omega;intros)|apply zR);cbv))
      refine AppK.sl el_tys el_tys rfl hnl (by simp only [List.length_cons, List.length_nil]; omega) ?_
      intro L' nl' hL' hnl'
      cbv
      (repeat'((first|(apply zS;kernel_rfl)|(apply zD;decide +kernel)|(apply zE;decide +kernel)|(apply zF;decide +kernel)|(apply zL;decide +kernel)|(apply zM;decide +kernel)|(apply zN;intros)|(apply zO;intros)|(apply zT;omega)|(apply zU;omega)|(apply zP;omega;intros)|(apply zQ;omega;intros)|apply zR);cbv))
      rename_i r hr
      have hL2 : L' = tysD ((ks.take r.toNat).map (sealT names fr)) := by rw [hstep r hr]; exact hL'
      have hLi2 : ∀ m, idbL m L' = true := fun m => pure_idbL m _ (by rw [hL2]; exact tys_pure _)
      refine RoundK.forget (r, L', nl') ⟨by omega, by omega, hL2, hnl'⟩ (by omega) rfl rfl ?_ ?_
      · simp [idbL, idb, hNi, hLi, hKi]
      · simp [cellIdb, idbL, idb, hLi, hKi, hLi2]
    · have hall : ks.take i.toNat = ks := List.take_of_length_le (by omega)
      rw [hall] at hL
      subst hL
      exact ⟨hno _ _⟩
set_option maxRecDepth 20000 in
set_option maxHeartbeats 4000000 in
theorem opened_run (fr : Int) (l : List Ty5) (hf0 : 0 ≤ fr) (hf1 : fr ≤ 1073741824) (hll : l.length ≤ 140737488355328) (k n : Int) (nm : ByteArray) (ls : List ByteArray) (ks : List Ty5) (hn63 : n ≤ 9223372036854775807) (hks : ks.length ≤ 1000000)
    (hc : ∀ t ∈ ks, CP (TT ()) 71 [tyD t, .raw (.int .i64 fr), .sl none 5 (tysD l)] (· = tyD (openT fr l t))) (Q : D → H → Prop) (hQ : ∀ d h', Wk d (tyD (openT fr l (.mk k n nm ls ks))) → Q d h') :
    wfun TT 71 [tyD (.mk k n nm ls ks), .raw (.int .i64 fr), .sl none 5 (tysD l)] [] Q := by
  have hKp := tys_pure l
  have hyes : ∀ (z : Int) (u : Ty5), k = 9 → z = n - fr → 0 ≤ z → l[z.toNat]? = some u → ∀ h', Q (tyD u) h' := fun z u h9 hz h0 hu h' => hQ _ h' (by
    rw [show openT fr l (.mk k n nm ls ks) = u from tr_some (by unfold openF nth?; rw [if_pos h9, ← hz, if_pos h0, hu]) ls ks]
    exact .refl _)
  have hno : ¬ (k = 9 ∧ fr ≤ n ∧ (n - fr).toNat < l.length) → ∀ tag h', Q (.agg [.raw (.int .i64 k), .raw (.int .i64 n), .raw (.string nm), .sl none 1 (ls.map strD), .sl tag 5 (tysD (ks.map (openT fr l)))]) h' := fun h tag h' => hQ _ h' (by
    rw [show openT fr l (.mk k n nm ls ks) = .mk k n nm ls (ks.map (openT fr l)) from tr_none (by
      unfold openF nth?
      by_cases h9 : k = 9
      · rw [if_pos h9]
        split
        · exact List.getElem?_eq_none (by omega)
        · rfl
      · rw [if_neg h9]) ls ks]
    exact .agg (.cons (.refl _) (.cons (.refl _) (.cons (.refl _) (.cons (.refl _) (.cons (untag_any _ _ _) .nil))))))
  have hLi := strs_idb ls
  have hKi := tys_idb ks
  have hKl := tys_len ks
  have hKat := fun i => tys_at (ks := ks) (i := i)
  simp only [tyD]
  clear hQ
  have hMi := tys_idb l
  have hMl := tys_len l
  have hMat := fun i => tys_at (ks := l) (i := i)
  generalize tysD l = MS at hMi hMl hMat hKp hc ⊢
  generalize ls.map strD = LS at hno hLi ⊢
  generalize tysD ks = KS at hKi hKl hKat ⊢
  cbv
  (repeat'((first|(apply zS;kernel_rfl)|(apply zD;decide +kernel)|(apply zE;decide +kernel)|(apply zF;decide +kernel)|(apply zL;decide +kernel)|(apply zM;decide +kernel)|(apply zN;intros)|(apply zO;intros)|(apply zT;omega)|(apply zU;omega)|(apply zP;omega;intros)|(apply zQ;omega;intros)|apply zR);cbv))
  refine BinK.eql ?_ ?_ <;> intro h9 <;> cbv <;> (repeat'((first|(apply zS;kernel_rfl)|(apply zD;decide +kernel)|(apply zE;decide +kernel)|(apply zF;decide +kernel)|(apply zL;decide +kernel)|(apply zM;decide +kernel)|(apply zN;intros)|(apply zO;intros)|(apply zT;omega)|(apply zU;omega)|(apply zP;omega;intros)|(apply zQ;omega;intros)|apply zR);cbv))
  case' refine_1 =>
    refine BinK.geq ?_ ?_ <;> intro hge <;> cbv <;> (repeat'((first|(apply zS;kernel_rfl)|(apply zD;decide +kernel)|(apply zE;decide +kernel)|(apply zF;decide +kernel)|(apply zL;decide +kernel)|(apply zM;decide +kernel)|(apply zN;intros)|(apply zO;intros)|(apply zT;omega)|(apply zU;omega)|(apply zP;omega;intros)|(apply zQ;omega;intros)|apply zR);cbv))
    case' refine_1 =>
      refine BinK.lss ?_ ?_ <;> intro hlt <;> cbv <;> (repeat'((first|(apply zS;kernel_rfl)|(apply zD;decide +kernel)|(apply zE;decide +kernel)|(apply zF;decide +kernel)|(apply zL;decide +kernel)|(apply zM;decide +kernel)|(apply zN;intros)|(apply zO;intros)|(apply zT;omega)|(apply zU;omega)|(apply zP;omega;intros)|(apply zQ;omega;intros)|apply zR);cbv))
      case' refine_1 =>
        rename_i m hm0 hm1 r hr
        obtain ⟨u, hu, hM⟩ := hMat r.toNat (by omega)
        have hyes := hyes r u h9 hr (by omega) hu
        obtain ⟨k', n', nm', L', K', f0, _, _⟩ := c4_node u
        rw [f0] at hyes hM
        refine IdxK.intro (by omega) hM ?_
        cbv
        (repeat'((first|(apply zS;kernel_rfl)|(apply zD;decide +kernel)|(apply zE;decide +kernel)|(apply zF;decide +kernel)|(apply zL;decide +kernel)|(apply zM;decide +kernel)|(apply zN;intros)|(apply zO;intros)|(apply zT;omega)|(apply zU;omega)|(apply zP;omega;intros)|(apply zQ;omega;intros)|apply zR);cbv))
        exact ⟨hyes _⟩
      case' refine_2 =>
        have hno := hno (fun h => by omega)
    case' refine_2 =>
      have hno := hno (fun h => by omega)
  case' refine_2 =>
    have hno := hno (fun h => h9 h.1)
  all_goals
    refine LoopK.cellLog 2 4 25 5 rfl rfl ?_
    cbv
    refine LoopK.put (X := Int × List D × Nat) (fun x => [(8, .raw (.int .i64 x.1))]) (fun x => [(2, .box 25 [.raw (.int .i64 k), .raw (.int .i64 n), .raw (.string nm), .sl none 1 LS, .sl (some 3) 5 x.2.1]), (3, .log 25 5 x.2.2)]) (fun x => ks.length - x.1.toNat)
      (fun x => 0 ≤ x.1 ∧ x.1.toNat ≤ ks.length ∧ x.2.1 = tysD ((ks.take x.1.toNat).map (openT fr l)) ∧ x.2.2 = x.2.1.length) (0, [], 0) ⟨by simp, by simp, rfl, rfl⟩ rfl rfl ?_
    rintro ⟨i, L, nl⟩ N ⟨h0, hi, hL, hnl⟩ hN
    simp only at h0 hi hL hnl hN ⊢
    have hLl : L.length = i.toNat := by rw [hL, tys_len]; simp; omega
    cbv
    (repeat'((first|(apply zS;kernel_rfl)|(apply zD;decide +kernel)|(apply zE;decide +kernel)|(apply zF;decide +kernel)|(apply zL;decide +kernel)|(apply zM;decide +kernel)|(apply zN;intros)|(apply zO;intros)|(apply zT;omega)|(apply zU;omega)|(apply zP;omega;intros)|(apply zQ;omega;intros)|apply zR);cbv))
    refine BinK.lss ?_ ?_ <;> intro hlt <;> cbv <;> (repeat'((first|(apply zS;kernel_rfl)|(apply zG;decide +kernel)|(apply zF;decide +kernel)|(apply zE;decide +kernel)|(apply zD;decide +kernel)|(apply zL;decide +kernel)|(apply zM;decide +kernel)|(apply zN;intros)|(apply zO;intros)|(apply zT;omega)|(apply zU;omega)|(apply zP;omega;intros)|(apply zQ;omega;intros)|apply zR);cbv))
    · obtain ⟨t, ht, hK⟩ := hKat i.toNat (by omega)
      have hct := hc t (List.mem_of_getElem? ht)
      have hpt := ty_pure t
      have hpu := ty_pure (openT fr l t)
      have htake : ks.take (i.toNat + 1) = ks.take i.toNat ++ [t] := by
        obtain ⟨h1, h2⟩ := List.getElem?_eq_some_iff.1 ht
        rw [List.take_succ_eq_append_getElem h1, h2]
      have hstep : ∀ r : Int, r = i + 1 → tysD ((ks.take r.toNat).map (openT fr l)) = L ++ [tyD (openT fr l t)] := fun r hr => by
        rw [hL, show r.toNat = i.toNat + 1 by omega, htake]
        simp [tysD_map]
      obtain ⟨k0, n0, m0, L0, K0, f0, i0, j0⟩ := c4_node t
      obtain ⟨k1, n1, m1, L1, K1, f1, i1, j1⟩ := c4_node (openT fr l t)
      clear i0 j0 i1 j1
      rw [f0] at hct hpt hK
      rw [f1] at hct hpu hstep
      clear hc hno hL
      refine IdxK.intro h0 hK ?_
      cbv
      (repeat'((first|(apply zS;kernel_rfl)|(apply zG;decide +kernel)|(apply zF;decide +kernel)|(apply zE;decide +kernel)|(apply zD;decide +kernel)|(apply zL;decide +kernel)|(apply zM;decide +kernel)|(apply zN;intros)|(apply zO;intros)|(apply zT;omega)|(apply zU;omega)|(apply zP;omega;intros)|(apply zQ;omega;intros)|apply zR);cbv))
      refine PCallK.one hct (cons_pure hpt (by simp [pureL, pureD, hKp])) hpu ?_
      cbv
      (repeat'((first|(apply zS;kernel_rfl)|(apply zD;decide +kernel)|(apply zE;decide +kernel)|(apply zF;decide +kernel)|(apply zL;decide +kernel)|(apply zM;decide +kernel)|(apply zN;intros)|(apply zO;intros)|(apply zT;omega)|(apply zU;omega)|(apply zP;omega;intros)|(apply zQ;omega;intros)|apply zR);cbv))
      refine AppK.sl el_tys el_tys rfl hnl (by simp only [List.length_cons, List.length_nil]; omega) ?_
      intro L' nl' hL' hnl'
      cbv
      (repeat'((first|(apply zS;kernel_rfl)|(apply zD;decide +kernel)|(apply zE;decide +kernel)|(apply zF;decide +kernel)|(apply zL;decide +kernel)|(apply zM;decide +kernel)|(apply zN;intros)|(apply zO;intros)|(apply zT;omega)|(apply zU;omega)|(apply zP;omega;intros)|(apply zQ;omega;intros)|apply zR);cbv))
      rename_i r hr
      have hL2 : L' = tysD ((ks.take r.toNat).map (openT fr l)) := by rw [hstep r hr]; exact hL'
      have hLi2 : ∀ m, idbL m L' = true := fun m => pure_idbL m _ (by rw [hL2]; exact tys_pure _)
      refine RoundK.forget (r, L', nl') ⟨by omega, by omega, hL2, hnl'⟩ (by omega) rfl rfl ?_ ?_
      · simp [idbL, idb, hMi, hLi, hKi]
      · simp [cellIdb, idbL, idb, hLi, hKi, hLi2]
    · have hall : ks.take i.toNat = ks := List.take_of_length_le (by omega)
      rw [hall] at hL
      subst hL
      exact ⟨hno _ _⟩
end Go.Proofs.Ytbfmaicoefefaaa
