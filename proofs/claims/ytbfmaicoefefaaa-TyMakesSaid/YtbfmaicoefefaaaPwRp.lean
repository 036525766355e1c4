/- ty.Rec: of at most 10000 texts and types it answers by RecIs, and what it answers stands as data. -/
import Derived.Test.YtbfmaicoefefaaaPwSo
import Derived.Test.YtbfmaicoefefaaaPwRc
import Derived.Test.YtbfmaicoefefaaaTyRec
set_option linter.unusedSimpArgs false
set_option linter.unusedVariables false
namespace Go.Proofs.Ytbfmaicoefefaaa
set_option maxRecDepth 100000
open Go.RowKit Pv Go.Sort
theorem el_flds : ElemIs (TT ()) 64 66 6 96 := by unfold ElemIs; kernel_rfl
def zeroFld : List D := [.raw (.string ⟨#[]⟩), .raw (.int .i64 0), .raw (.int .i64 0), .raw (.string ⟨#[]⟩), .raw (.slice none 0 0), .raw (.slice none 0 0)]
theorem zero_fld : zeroD (TT ()) 66 = some zeroFld := by kernel_rfl
/-- The fields laid so far, and zeros. -/
def laidE (ps : List (ByteArray × Ty5)) (i : Nat) : List (List D) := (ps.take i).map fldD ++ List.replicate (ps.length - i) zeroFld
theorem laidE_len (ps : List (ByteArray × Ty5)) (i : Nat) (hi : i ≤ ps.length) : (laidE ps i).length = ps.length := by
  simp [laidE]
  omega
theorem laidE_row (ps : List (ByteArray × Ty5)) (i : Nat) : ∀ r ∈ laidE ps i, r.length = 6 := by
  intro r hr
  rcases List.mem_append.1 hr with h | h
  · obtain ⟨p, _, rfl⟩ := List.mem_map.1 h
    exact fldD_len p
  · rw [List.eq_of_mem_replicate h]
    rfl
theorem laidE_at (ps : List (ByteArray × Ty5)) {i : Nat} (hi : i < ps.length) : (laidE ps i)[i]? = some zeroFld := by
  unfold laidE
  rw [List.getElem?_append_right (by simp; omega)]
  simp [List.getElem?_replicate]
  omega
theorem laidE_step (ps : List (ByteArray × Ty5)) {i : Nat} {p : ByteArray × Ty5} (hp : ps[i]? = some p) : (laidE ps i).set i (fldD p) = laidE ps (i + 1) := by
  obtain ⟨hi, rfl⟩ := List.getElem?_eq_some_iff.1 hp
  unfold laidE
  rw [List.set_append_right _ _ (by simp; omega)]
  have e1 : i - ((ps.take i).map fldD).length = 0 := by simp; omega
  have e2 : ps.length - i = (ps.length - (i + 1)) + 1 := by omega
  rw [e1, e2, List.replicate_succ, List.set_cons_zero, List.take_succ_eq_append_getElem hi, List.map_append, List.append_assoc]
  rfl
theorem laidE_zero (ps : List (ByteArray × Ty5)) : laidE ps 0 = List.replicate ps.length zeroFld := by simp [laidE]
theorem laidE_done (ps : List (ByteArray × Ty5)) : (laidE ps ps.length).flatten = ps.flatMap fldD := by simp [laidE, List.flatMap]
theorem pureL_app : ∀ {a b : List D}, pureL a = some a → pureL b = some b → pureL (a ++ b) = some (a ++ b)
  | [], b, _, h => h
  | d :: r, b, h1, h2 => by
    simp only [pureL] at h1
    split at h1
    · rename_i d' r' k1 k2
      cases h1
      simp only [List.cons_append, pureL, k1, pureL_app k2 h2]
    · cases h1
theorem flds_pure : ∀ ps : List (ByteArray × Ty5), pureL (ps.flatMap fldD) = some (ps.flatMap fldD)
  | [] => rfl
  | p :: r => by
    rw [List.flatMap_cons]
    refine pureL_app ?_ (flds_pure r)
    obtain ⟨s, k, n, nm, ls, ks⟩ := p
    simp [fldD, tyD, leavesD, pureL, pureD, tys_pure, strs_pure, strD]
theorem up_of {ss : List ByteArray} {ps : List (ByteArray × Ty5)} (h : ∀ i j, i < j → (hj : j < ps.length) → (hi : i < ps.length) → ltS ps[j].1 ps[i].1 = false) : ∀ j, (h : j + 1 < (ps.map Prod.fst).length) → ltS (ps.map Prod.fst)[j + 1] (ps.map Prod.fst)[j] = false := by
  intro j hj
  rw [List.length_map] at hj
  rw [List.getElem_map, List.getElem_map]
  exact h j (j + 1) (by omega) hj (by omega)
/-- Sorted fields: they rise, or there is no such record. -/
theorem rec_sorted {ss : List ByteArray} {ks : List Ty5} (hl : ss.length = ks.length) {ps : List (ByteArray × Ty5)} (hp : ps.Perm (ss.zip ks)) (hs : ∀ i j, i < j → (hj : j < ps.length) → (hi : i < ps.length) → ltS ps[j].1 ps[i].1 = false) :
    (risingB (ps.map Prod.fst) = true → RecIs ss ks true (.mk 8 0 ⟨#[]⟩ (ps.map Prod.fst) (ps.map Prod.snd))) ∧ (risingB (ps.map Prod.fst) = false → ss.length ≠ ks.length ∨ ((∃ s ∈ ss, fineB s = false) ∨ ¬ ss.Nodup)) := by
  have hm : (ps.map Prod.fst).Perm ss := by
    have := hp.map Prod.fst
    rwa [List.map_fst_zip (by omega)] at this
  refine ⟨fun h => .inl ⟨rfl, hl, ps, hp, h, rfl⟩, fun h => .inr ?_⟩
  rcases not_rising (up_of (ss := ss) hs) h with ⟨s, h1, h2⟩ | h1
  · exact .inl ⟨s, hm.subset h1, h2⟩
  · exact .inr fun hn => h1 (hm.nodup_iff.2 hn)
theorem rising_cp (ls : List ByteArray) (hs : ∀ u ∈ ls, u.size ≤ maxLen) : CP (TT ()) 58 [.sl none 1 (ls.map strD)] (· = .raw (.bool (risingB ls))) :=
  cp_raw (callable_at Try.func58 (by kernel_rfl) rfl) fun S w args r => by
    obtain ⟨v, rfl, h⟩ := rdL_one r
    exact rising_any v ls w (strs_in h hs)
set_option maxRecDepth 20000 in
set_option maxHeartbeats 4000000 in
theorem recp_run (ss : List ByteArray) (ks : List Ty5) (hss : ∀ s ∈ ss, s.size ≤ maxLen) (hl : ss.length = ks.length) (h60 : ss.length ≤ 10000) (Q : D → H → Prop) (hQ : ∀ d h', RecQ ss ks d h' → Q d h') : wfun TT 29 [.sl none 1 (ss.map strD), .sl none 5 (tysD ks)] [] Q := by
  generalize hSS : ss.map strD = SS
  generalize hKS : tysD ks = KS
  have hSl : SS.length = ss.length := by rw [← hSS]; simp
  have hKl : KS.length = ks.length := by rw [← hKS]; simp [tysD_map]
  have hzl : (ss.zip ks).length = ss.length := by rw [List.length_zip]; omega
  have hSi : ∀ m, idbL m SS = true := fun m => pure_idbL m _ (by rw [← hSS]; exact strs_pure ss)
  have hKi : ∀ m, idbL m KS = true := fun m => pure_idbL m _ (by rw [← hKS]; exact tys_pure ks)
  cbv
  (repeat'((first|(apply zS;kernel_rfl)|(apply zD;decide +kernel)|(apply zE;decide +kernel)|(apply zF;decide +kernel)|(apply zL;decide +kernel)|(apply zM;decide +kernel)|(apply zN;intros)|(apply zO;intros)|(apply zT;omega)|(apply zU;omega)|(apply zP;omega;intros)|(apply zQ;omega;intros)|apply zR);cbv))
  refine MakeK.row el_flds zero_fld (by omega) rfl (by omega) ?_
  intro ds n hn hds
  cbv
  (repeat'((first|(apply zS;kernel_rfl)|(apply zD;decide +kernel)|(apply zE;decide +kernel)|(apply zF;decide +kernel)|(apply zL;decide +kernel)|(apply zM;decide +kernel)|(apply zN;intros)|(apply zO;intros)|(apply zT;omega)|(apply zU;omega)|(apply zP;omega;intros)|(apply zQ;omega;intros)|apply zR);cbv))
  have hn2 : n = (ss.zip ks).length := by omega
  refine LoopK.put (X := Int) (fun x => [(23, .raw (.int .i64 x))]) (fun x => [(1, .box 66 (laidE (ss.zip ks) x.toNat).flatten)]) (fun x => ss.length - x.toNat) (fun x => 0 ≤ x ∧ x.toNat ≤ ss.length) 0 ⟨by simp, by simp⟩ rfl (by rw [hds, hn2, show (0 : Int).toNat = 0 from rfl, laidE_zero]; rfl) ?_
  rintro i N ⟨h0, hi⟩ hN
  simp only at h0 hi hN ⊢
  generalize hE : (laidE (ss.zip ks) i.toNat).flatten = E
  cbv
  (repeat'((first|(apply zS;kernel_rfl)|(apply zD;decide +kernel)|(apply zE;decide +kernel)|(apply zF;decide +kernel)|(apply zL;decide +kernel)|(apply zM;decide +kernel)|(apply zN;intros)|(apply zO;intros)|(apply zT;omega)|(apply zU;omega)|(apply zP;omega;intros)|(apply zQ;omega;intros)|apply zR);cbv))
  refine BinK.lss ?_ ?_ <;> intro hlt <;> cbv <;> (repeat'((first|(apply zS;kernel_rfl)|(apply zD;decide +kernel)|(apply zE;decide +kernel)|(apply zF;decide +kernel)|(apply zL;decide +kernel)|(apply zM;decide +kernel)|(apply zN;intros)|(apply zO;intros)|(apply zT;omega)|(apply zU;omega)|(apply zP;omega;intros)|(apply zQ;omega;intros)|apply zR);cbv))
  · have hi' : i.toNat < ss.length := by omega
    obtain ⟨s, hs⟩ : ∃ s, ss[i.toNat]? = some s := ⟨_, List.getElem?_eq_getElem hi'⟩
    obtain ⟨t, ht⟩ : ∃ t, ks[i.toNat]? = some t := ⟨_, List.getElem?_eq_getElem (by omega)⟩
    have hz : (ss.zip ks)[i.toNat]? = some (s, t) := by rw [List.getElem?_zip_eq_some]; exact ⟨hs, ht⟩
    have hS : SS[i.toNat]? = some (.raw (.string s)) := by rw [← hSS, List.getElem?_map, hs]; rfl
    have hK : KS[i.toNat]? = some (tyD t) := by rw [← hKS, tysD_map, List.getElem?_map, ht]; rfl
    refine IdxK.intro h0 hS ?_
    cbv
    (repeat'((first|(apply zS;kernel_rfl)|(apply zD;decide +kernel)|(apply zE;decide +kernel)|(apply zF;decide +kernel)|(apply zL;decide +kernel)|(apply zM;decide +kernel)|(apply zN;intros)|(apply zO;intros)|(apply zT;omega)|(apply zU;omega)|(apply zP;omega;intros)|(apply zQ;omega;intros)|apply zR);cbv))
    obtain ⟨tk, tn, tm, tl, tks⟩ := t
    simp only [tyD] at hK
    generalize htl : tl.map strD = TL at hK
    generalize htk : tysD tks = TK at hK
    refine IdxK.intro h0 hK ?_
    cbv
    (repeat'((first|(apply zS;kernel_rfl)|(apply zD;decide +kernel)|(apply zE;decide +kernel)|(apply zF;decide +kernel)|(apply zL;decide +kernel)|(apply zM;decide +kernel)|(apply zN;intros)|(apply zO;intros)|(apply zT;omega)|(apply zU;omega)|(apply zP;omega;intros)|(apply zQ;omega;intros)|apply zR);cbv))
    refine MIdxK.intro h0 (by omega) ?_
    intro j hj
    cbv
    (repeat'((first|(apply zS;kernel_rfl)|(apply zD;decide +kernel)|(apply zE;decide +kernel)|(apply zF;decide +kernel)|(apply zL;decide +kernel)|(apply zM;decide +kernel)|(apply zN;intros)|(apply zO;intros)|(apply zT;omega)|(apply zU;omega)|(apply zP;omega;intros)|(apply zQ;omega;intros)|apply zR);cbv))
    refine MStoreK.row hE.symm (laidE_row _ _) (by rw [hj]; exact laidE_at _ (by omega)) rfl (by simp) rfl ?_
    intro E' hE'
    cbv
    (repeat'((first|(apply zS;kernel_rfl)|(apply zD;decide +kernel)|(apply zE;decide +kernel)|(apply zF;decide +kernel)|(apply zL;decide +kernel)|(apply zM;decide +kernel)|(apply zN;intros)|(apply zO;intros)|(apply zT;omega)|(apply zU;omega)|(apply zP;omega;intros)|(apply zQ;omega;intros)|apply zR);cbv))
    rename_i r hr
    have hE2 : E' = (laidE (ss.zip ks) r.toNat).flatten := by
      rw [hE', hj, show r.toNat = i.toNat + 1 by omega, ← laidE_step _ hz]
      congr 2
      simp [fldD, tyD, leavesD, strD, splice, zeroFld, htl, htk]
    exact RoundK.next r ⟨by omega, by omega⟩ (by omega) rfl (by rw [hE2]; rfl)
  · have hE3 : E = (ss.zip ks).flatMap fldD := by rw [← hE, show i.toNat = (ss.zip ks).length by omega, laidE_done]
    refine CallK.mut (sort_cw _ 1 n (ss.zip ks) (by rw [hE3]; rfl) hn2 (by omega)) ?_
    rintro d h' ⟨rfl, ps, hp, hs, rfl⟩
    have hpl : ps.length = ss.length := by rw [hp.length_eq, hzl]
    obtain ⟨hyes, hno⟩ := rec_sorted hl hp hs
    have hpm : ∀ u ∈ ps.map Prod.fst, u.size ≤ maxLen := fun u hu => by
      obtain ⟨q, hq, rfl⟩ := List.mem_map.1 hu
      exact hss _ (List.of_mem_zip (a := q.1) (b := q.2) (hp.subset hq)).1
    have hFi0 : ∀ m, idbL m (ps.flatMap fldD) = true := fun m => pure_idbL m _ (flds_pure ps)
    generalize hF : ps.flatMap fldD = F at hFi0
    have hFi := hFi0
    cbv
    (repeat'((first|(apply zS;kernel_rfl)|(apply zD;decide +kernel)|(apply zE;decide +kernel)|(apply zF;decide +kernel)|(apply zL;decide +kernel)|(apply zM;decide +kernel)|(apply zN;intros)|(apply zO;intros)|(apply zT;omega)|(apply zU;omega)|(apply zP;omega;intros)|(apply zQ;omega;intros)|apply zR);cbv))
    refine LoopK.cellLog 2 3 9 1 rfl rfl ?_
    cbv
    refine LoopK.cellLog 2 4 25 5 rfl rfl ?_
    cbv
    refine LoopK.put (X := Int × List D × List D × Nat × Nat) (fun x => [(43, .raw (.int .i64 x.1))]) (fun x => [(2, .box 25 [.raw (.int .i64 8), .raw (.int .i64 0), .raw (.string ⟨#[]⟩), .sl (some 3) 1 x.2.1, .sl (some 4) 5 x.2.2.1]), (3, .log 9 1 x.2.2.2.1), (4, .log 25 5 x.2.2.2.2)]) (fun x => ss.length - x.1.toNat)
      (fun x => 0 ≤ x.1 ∧ x.1.toNat ≤ ss.length ∧ x.2.1 = ((ps.take x.1.toNat).map Prod.fst).map strD ∧ x.2.2.1 = tysD ((ps.take x.1.toNat).map Prod.snd) ∧ x.2.2.2.1 = x.2.1.length ∧ x.2.2.2.2 = x.2.2.1.length) (0, [], [], 0, 0) ⟨by simp, by simp, rfl, rfl, rfl, rfl⟩ rfl rfl ?_
    rintro ⟨i, L, A, nl, na⟩ N ⟨h0, hi, hL, hA, hnl, hna⟩ hN
    simp only at h0 hi hL hA hnl hna hN ⊢
    have hLl : L.length = i.toNat := by rw [hL]; simp; omega
    have hAl : A.length = i.toNat := by rw [hA]; simp [tysD_map]; omega
    cbv
    (repeat'((first|(apply zS;kernel_rfl)|(apply zD;decide +kernel)|(apply zE;decide +kernel)|(apply zF;decide +kernel)|(apply zL;decide +kernel)|(apply zM;decide +kernel)|(apply zN;intros)|(apply zO;intros)|(apply zT;omega)|(apply zU;omega)|(apply zP;omega;intros)|(apply zQ;omega;intros)|apply zR);cbv))
    refine BinK.lss ?_ ?_ <;> intro hlt <;> cbv <;> (repeat'((first|(apply zS;kernel_rfl)|(apply zD;decide +kernel)|(apply zE;decide +kernel)|(apply zF;decide +kernel)|(apply zL;decide +kernel)|(apply zM;decide +kernel)|(apply zN;intros)|(apply zO;intros)|(apply zT;omega)|(apply zU;omega)|(apply zP;omega;intros)|(apply zQ;omega;intros)|apply zR);cbv))
    · refine MIdxK.intro h0 (by omega) ?_
      intro j hj
      cbv
      (repeat'((first|(apply zS;kernel_rfl)|(apply zD;decide +kernel)|(apply zE;decide +kernel)|(apply zF;decide +kernel)|(apply zL;decide +kernel)|(apply zM;decide +kernel)|(apply zN;intros)|(apply zO;intros)|(apply zT;omega)|(apply zU;omega)|(apply zP;omega;intros)|(apply zQ;omega;intros)|apply zR);cbv))
      obtain ⟨⟨s, tk, tn, tm, tl, tks⟩, hpj⟩ : ∃ p, ps[j]? = some p := ⟨_, List.getElem?_eq_getElem (by omega)⟩
      generalize htl : tl.map strD = TL
      generalize htk : tysD tks = TK
      have hrow : (ps.map fldD)[j]? = some [.raw (.string s), .raw (.int .i64 tk), .raw (.int .i64 tn), .raw (.string tm), .sl none 1 TL, .sl none 5 TK] := by
        rw [List.getElem?_map, hpj, ← htl, ← htk]
        rfl
      refine MLoadK.row (E := ps.map fldD) (by rw [← hF, List.flatMap]) (fun r hr => by obtain ⟨p, _, rfl⟩ := List.mem_map.1 hr; exact fldD_len p) hrow rfl ?_
      cbv
      (repeat'((first|(apply zS;kernel_rfl)|(apply zD;decide +kernel)|(apply zE;decide +kernel)|(apply zF;decide +kernel)|(apply zL;decide +kernel)|(apply zM;decide +kernel)|(apply zN;intros)|(apply zO;intros)|(apply zT;omega)|(apply zU;omega)|(apply zP;omega;intros)|(apply zQ;omega;intros)|apply zR);cbv))
      refine AppK.sl el_strs el_strs rfl hnl (by simp; omega) ?_
      intro L' nl' hL' hnl'
      cbv
      (repeat'((first|(apply zS;kernel_rfl)|(apply zD;decide +kernel)|(apply zE;decide +kernel)|(apply zF;decide +kernel)|(apply zL;decide +kernel)|(apply zM;decide +kernel)|(apply zN;intros)|(apply zO;intros)|(apply zT;omega)|(apply zU;omega)|(apply zP;omega;intros)|(apply zQ;omega;intros)|apply zR);cbv))
      refine AppK.sl el_tys el_tys rfl hna (by simp; omega) ?_
      intro A' na' hA' hna'
      cbv
      (repeat'((first|(apply zS;kernel_rfl)|(apply zD;decide +kernel)|(apply zE;decide +kernel)|(apply zF;decide +kernel)|(apply zL;decide +kernel)|(apply zM;decide +kernel)|(apply zN;intros)|(apply zO;intros)|(apply zT;omega)|(apply zU;omega)|(apply zP;omega;intros)|(apply zQ;omega;intros)|apply zR);cbv))
      rename_i r hr
      have htake : ps.take (i.toNat + 1) = ps.take i.toNat ++ [(s, (.mk tk tn tm tl tks : Ty5))] := by
        rw [hj] at hpj
        obtain ⟨h1, h2⟩ := List.getElem?_eq_some_iff.1 hpj
        rw [List.take_succ_eq_append_getElem h1, h2]
      have hL2 : L' = ((ps.take r.toNat).map Prod.fst).map strD := by
        rw [hL', hL, show r.toNat = i.toNat + 1 by omega, htake]
        simp [strD]
      have hA2 : A' = tysD ((ps.take r.toNat).map Prod.snd) := by
        rw [hA', hA, show r.toNat = i.toNat + 1 by omega, htake]
        simp [tysD_map, tyD, htl]
        rw [← htk, tysD_map]
      have hLi : ∀ m, idbL m L' = true := fun m => pure_idbL m _ (by rw [hL2]; exact strs_pure _)
      have hAi : ∀ m, idbL m A' = true := fun m => pure_idbL m _ (by rw [hA2]; exact tys_pure _)
      refine RoundK.forget (r, L', A', nl', na') ⟨by omega, by omega, hL2, hA2, hnl', hna'⟩ (by omega) rfl rfl ?_ ?_
      · simp [idbL, idb, hSi, hKi]
      · simp [cellIdb, idbL, idb, hLi, hAi, hFi]
    · have hall : ps.take i.toNat = ps := List.take_of_length_le (by omega)
      rw [hall] at hL hA
      have hLp : pureL [D.sl (some 3) 1 L] = some [D.sl none 1 ((ps.map Prod.fst).map strD)] := by
        rw [hL]
        simp only [pureL, pureD, strs_pure, Option.map_some]
      refine CallK.one (d := .raw (.bool (risingB (ps.map Prod.fst)))) (rising_cp _ hpm) hLp rfl ?_
      rcases hr : risingB (ps.map Prod.fst) with _ | _
      · cbv
        (repeat'((first|(apply zS;kernel_rfl)|(apply zD;decide +kernel)|(apply zE;decide +kernel)|(apply zF;decide +kernel)|(apply zL;decide +kernel)|(apply zM;decide +kernel)|(apply zN;intros)|(apply zO;intros)|(apply zT;omega)|(apply zU;omega)|(apply zP;omega;intros)|(apply zQ;omega;intros)|apply zR);cbv))
        exact ⟨hQ _ _ (rec_no (hno hr) _)⟩
      · cbv
        (repeat'((first|(apply zS;kernel_rfl)|(apply zD;decide +kernel)|(apply zE;decide +kernel)|(apply zF;decide +kernel)|(apply zL;decide +kernel)|(apply zM;decide +kernel)|(apply zN;intros)|(apply zO;intros)|(apply zT;omega)|(apply zU;omega)|(apply zP;omega;intros)|(apply zQ;omega;intros)|apply zR);cbv))
        refine ⟨hQ _ _ ⟨true, _, ?_, hyes hr⟩⟩
        rw [hL, hA]
        exact .tup (.cons (.agg (.cons (.refl _) (.cons (.refl _) (.cons (.refl _) (.cons (untag_any _ _ _) (.cons (untag_any _ _ _) .nil)))))) (.cons (.refl _) .nil))
set_option maxRecDepth 20000 in
set_option maxHeartbeats 4000000 in
theorem recp_off (ss : List ByteArray) (ks : List Ty5) (hl : ss.length ≠ ks.length) (Q : D → H → Prop) (hQ : ∀ d h', RecQ ss ks d h' → Q d h') : wfun TT 29 [.sl none 1 (ss.map strD), .sl none 5 (tysD ks)] [] Q := by
  generalize hSS : ss.map strD = SS
  generalize hKS : tysD ks = KS
  have hSl : SS.length = ss.length := by rw [← hSS]; simp
  have hKl : KS.length = ks.length := by rw [← hKS]; simp [tysD_map]
  cbv
  (repeat'((first|(apply zS;kernel_rfl)|(apply zD;decide +kernel)|(apply zE;decide +kernel)|(apply zF;decide +kernel)|(apply zL;decide +kernel)|(apply zM;decide +kernel)|(apply zN;intros)|(apply zO;intros)|(apply zT;omega)|(apply zU;omega)|(apply zP;omega;intros)|(apply zQ;omega;intros)|apply zR);cbv))
  exact ⟨hQ _ _ (rec_no (.inl hl) _)⟩
set_option maxRecDepth 100000 in
theorem recp_cp (ss : List ByteArray) (ks : List Ty5) (hss : ∀ s ∈ ss, s.size ≤ maxLen) (h60 : ss.length ≤ 10000) : CP (TT ()) 29 [.sl none 1 (ss.map strD), .sl none 5 (tysD ks)] fun d => ∃ b t, d = .tup [tyD t, .raw (.bool b)] ∧ RecIs ss ks b t := by
  have c : CW (TT ()) 29 [.sl none 1 (ss.map strD), .sl none 5 (tysD ks)] [] (RecQ ss ks) := by
    by_cases hl : ss.length = ks.length
    · exact wfun_ok (T := TT) (by kernel_rfl) (recp_run ss ks hss hl h60 _ fun _ _ h => h)
    · exact wfun_ok (T := TT) (by kernel_rfl) (recp_off ss ks hl _ fun _ _ h => h)
  exact (c.weaken (R := fun d _ => ∃ b t, d = .tup [tyD t, .raw (.bool b)] ∧ RecIs ss ks b t) fun d h' ⟨b, t, h1, h2⟩ => ⟨_, h1, b, t, rfl, h2⟩).cp fun d h' ⟨b, t, h1, h2⟩ => ⟨d, by rw [h1]; simp [pureD, pureL, ty_pure], b, t, h1, h2⟩
end Go.Proofs.Ytbfmaicoefefaaa
