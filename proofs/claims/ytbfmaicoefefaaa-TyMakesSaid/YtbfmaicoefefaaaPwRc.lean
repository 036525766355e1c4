/- limbeckref04.Rec: of at most 10000 texts and types it answers by RecIs. -/
import Derived.Test.YtbfmaicoefefaaaPwY
import Derived.Test.YtbfmaicoefefaaaTyIs
import Derived.Test.YtbfmaicoefefaaaRefL
set_option linter.unusedSimpArgs false
set_option linter.unusedVariables false
namespace Go.Proofs.Ytbfmaicoefefaaa
set_option maxRecDepth 100000
open Go.RowKit Pv Go.Sort
theorem stAt_at {l : List ByteArray} {j : Nat} {u : ByteArray} (h : l[j]? = some u) : stAt l j = u := by
  unfold stAt
  rw [List.getD_eq_getElem?_getD, h]
  rfl
structure RP (ss : List ByteArray) (ks : List Ty5) (i : Nat) (P : List (ByteArray × Ty5)) : Prop where
  perm : P.Perm ((ss.zip ks).take i)
  up : (P.map Prod.fst).Pairwise (fun a b => ltS a b = true)
  fine : ∀ s ∈ P.map Prod.fst, fineB s = true
theorem RP.start (ss : List ByteArray) (ks : List Ty5) : RP ss ks 0 [] := ⟨by simp, by simp, fun s h => (by simp at h)⟩
theorem RP.len {ss : List ByteArray} {ks : List Ty5} {i : Nat} {P : List (ByteArray × Ty5)} (h : RP ss ks i P) (hl : ss.length = ks.length) (hi : i ≤ ss.length) : P.length = i := by
  rw [h.perm.length_eq, List.length_take, List.length_zip]
  omega
theorem RP.step {ss : List ByteArray} {ks : List Ty5} {i : Nat} {P : List (ByteArray × Ty5)} (h : RP ss ks i P) (hl : ss.length = ks.length) (hi : i < ss.length) {s : ByteArray} {t : Ty5} (hs : ss[i]? = some s) (ht : ks[i]? = some t) (hf : fineB s = true)
    (hp : placeI (P.map Prod.fst) s < 0) {a : Nat} (hlo : ∀ q, q < a → ltS (stAt (P.map Prod.fst) q) s = true) (hap : a ≤ P.length) (hhi : a = P.length ∨ ltS (stAt (P.map Prod.fst) a) s = false) : RP ss ks (i + 1) (ins a (s, t) P) := by
  refine ⟨?_, ?_, ?_⟩
  · have hz : i < (ss.zip ks).length := by rw [List.length_zip]; omega
    rw [List.take_succ_eq_append_getElem hz]
    have e : (ss.zip ks)[i] = (s, t) := by
      rw [List.getElem_zip]
      obtain ⟨_, h1⟩ := List.getElem?_eq_some_iff.1 hs
      obtain ⟨_, h2⟩ := List.getElem?_eq_some_iff.1 ht
      rw [h1, h2]
    rw [e]
    exact (ins_perm _ _ _).trans ((h.perm.cons _).trans (List.perm_append_comm (l₁ := [_])))
  · rw [ins_map]
    refine ins_up h.up (fun q hq _ => hlo q hq) (place_not hp) ?_
    rw [List.length_map]
    rcases hhi with h | h
    · exact .inl h
    · rcases Nat.lt_or_ge a P.length with h' | h'
      · exact .inr ⟨h', h⟩
      · exact .inl (by omega)
  · intro u hu
    rw [ins_map] at hu
    rcases List.mem_cons.1 ((ins_perm _ _ _).subset hu) with rfl | hu
    · exact hf
    · exact h.fine u hu
theorem RP.dup {ss : List ByteArray} {ks : List Ty5} {i : Nat} {P : List (ByteArray × Ty5)} (h : RP ss ks i P) (hl : ss.length = ks.length) (hi : i < ss.length) {s : ByteArray} (hs : ss[i]? = some s) (hp : 0 ≤ placeI (P.map Prod.fst) s) : ¬ ss.Nodup := by
  intro hn
  have hm := place_is hp
  have h1 := (h.perm.map Prod.fst).subset hm
  rw [List.map_take, List.map_fst_zip (by omega)] at h1
  obtain ⟨q, hq, he⟩ := List.getElem_of_mem h1
  rw [List.length_take] at hq
  obtain ⟨_, h2⟩ := List.getElem?_eq_some_iff.1 hs
  rw [List.getElem_take, ← h2] at he
  have := (List.getElem_inj hn).1 he
  omega
theorem RP.done {ss : List ByteArray} {ks : List Ty5} {P : List (ByteArray × Ty5)} (h : RP ss ks ss.length P) (hl : ss.length = ks.length) : RecIs ss ks true (.mk 8 0 ⟨#[]⟩ (P.map Prod.fst) (P.map Prod.snd)) := by
  refine .inl ⟨rfl, hl, P, ?_, rising_true fun j hj => ?_, rfl⟩
  · have := h.perm
    rwa [List.take_of_length_le (by rw [List.length_zip]; omega)] at this
  · have hf := h.fine _ (getD_mem hj)
    match j, hj, hf with
    | 0, hj, hf => rw [up_zero]; exact hf
    | q + 1, hj, hf =>
      rw [up_succ, hf, Bool.true_and, stAt_get hj, stAt_get (by omega : q < (P.map Prod.fst).length)]
      exact List.pairwise_iff_getElem.1 h.up q (q + 1) (by omega) hj (by omega)
/-! ### What it calls -/
theorem fine_cp (s : ByteArray) (hs : s.size ≤ maxLen) : CP (TT ()) 59 [.raw (.string s)] (· = .raw (.bool (fineB s))) :=
  cp_raw (callable_at Try.func59 (by kernel_rfl) rfl) fun S w args r => by
    obtain ⟨v, rfl, h⟩ := rdL_one r
    simp only [Pv.Rd] at h
    subst h
    exact rfine_any s w hs
theorem place_cp (ls : List ByteArray) (s : ByteArray) (hs : ∀ u ∈ ls, u.size ≤ maxLen) : CP (TT ()) 60 [.sl none 1 (ls.map strD), .raw (.string s)] (· = .raw (.int .i64 (placeI ls s))) :=
  cp_raw (callable_at Try.func60 (by kernel_rfl) rfl) fun S w args r => by
    obtain ⟨v, v', rfl, h, h'⟩ := rdL_two r
    simp only [Pv.Rd] at h'
    subst h'
    refine (place_any v ls s w (strs_in h hs)).mono ?_
    rintro e w' ⟨rfl, rfl⟩
    exact ⟨rfl, Below.refl _ _⟩
/-! ### Its run -/
def RecQ (ss : List ByteArray) (ks : List Ty5) : D → H → Prop := fun d _ => ∃ b t, Wk d (.tup [tyD t, .raw (.bool b)]) ∧ RecIs ss ks b t
theorem rec_no {ss : List ByteArray} {ks : List Ty5} (h : ss.length ≠ ks.length ∨ ((∃ s ∈ ss, fineB s = false) ∨ ¬ ss.Nodup)) (h' : H) : RecQ ss ks (.tup [.agg [.raw (.int .i64 0), .raw (.int .i64 0), .raw (.string ⟨#[]⟩), .raw (.slice none 0 0), .raw (.slice none 0 0)], .raw (.bool false)]) h' :=
  ⟨false, ty0, .tup (.cons (.agg (.cons (.refl _) (.cons (.refl _) (.cons (.refl _) (.cons (nil_any 1) (.cons (nil_any 5) .nil)))))) (.cons (.refl _) .nil)), .inr ⟨rfl, rfl, h⟩⟩
set_option maxRecDepth 20000 in
set_option maxHeartbeats 4000000 in
theorem recs_run (ss : List ByteArray) (ks : List Ty5) (hss : ∀ s ∈ ss, s.size ≤ maxLen) (hl : ss.length = ks.length) (h60 : ss.length ≤ 10000) (Q : D → H → Prop) (hQ : ∀ d h', RecQ ss ks d h' → Q d h') : wfun TT 30 [.sl none 1 (ss.map strD), .sl none 5 (tysD ks)] [] Q := by
  generalize hSS : ss.map strD = SS
  generalize hKS : tysD ks = KS
  have hSl : SS.length = ss.length := by rw [← hSS]; simp
  have hKl : KS.length = ks.length := by rw [← hKS]; simp [tysD_map]
  have hSi : ∀ m, idbL m SS = true := fun m => pure_idbL m _ (by rw [← hSS]; exact strs_pure ss)
  have hKi : ∀ m, idbL m KS = true := fun m => pure_idbL m _ (by rw [← hKS]; exact tys_pure ks)
  cbv
  (repeat'((first|(apply zS;kernel_rfl)|(apply zD;decide +kernel)|(apply zE;decide +kernel)|(apply zF;decide +kernel)|(apply zL;decide +kernel)|(apply zM;decide +kernel)|(apply zN;intros)|(apply zO;intros)|(apply zT;omega)|(apply zU;omega)|(apply zP;omega;intros)|(apply zQ;omega;intros)|apply zR);cbv))
  refine LoopK.cell 1 3 (.sl none 1 []) rfl rfl (nil_any 1) ?_
  cbv
  refine LoopK.cell 1 4 (.sl none 5 []) rfl rfl (nil_any 5) ?_
  cbv
  refine LoopK.put (X := Int × List (ByteArray × Ty5)) (fun x => [(7, .raw (.int .i64 x.1))]) (fun x => [(1, .box 25 [.raw (.int .i64 8), .raw (.int .i64 0), .raw (.string ⟨#[]⟩), .sl none 1 ((x.2.map Prod.fst).map strD), .sl none 5 (tysD (x.2.map Prod.snd))])]) (fun x => ss.length - x.1.toNat)
    (fun x => 0 ≤ x.1 ∧ x.1.toNat ≤ ss.length ∧ RP ss ks x.1.toNat x.2) (0, []) ⟨by simp, by simp, RP.start ss ks⟩ rfl rfl ?_
  rintro ⟨i, P⟩ N ⟨h0, hi, hR⟩ hN
  simp only at h0 hi hR hN ⊢
  have hPl := hR.len hl hi
  generalize hLS : (P.map Prod.fst).map strD = LS
  generalize hAS : tysD (P.map Prod.snd) = AS
  have hLl : LS.length = P.length := by rw [← hLS]; simp
  have hAl : AS.length = P.length := by rw [← hAS]; simp [tysD_map]
  cbv
  (repeat'((first|(apply zS;kernel_rfl)|(apply zD;decide +kernel)|(apply zE;decide +kernel)|(apply zF;decide +kernel)|(apply zL;decide +kernel)|(apply zM;decide +kernel)|(apply zN;intros)|(apply zO;intros)|(apply zT;omega)|(apply zU;omega)|(apply zP;omega;intros)|(apply zQ;omega;intros)|apply zR);cbv))
  refine BinK.lss ?_ ?_ <;> intro hlt <;> cbv <;> (repeat'((first|(apply zS;kernel_rfl)|(apply zD;decide +kernel)|(apply zE;decide +kernel)|(apply zF;decide +kernel)|(apply zL;decide +kernel)|(apply zM;decide +kernel)|(apply zN;intros)|(apply zO;intros)|(apply zT;omega)|(apply zU;omega)|(apply zP;omega;intros)|(apply zQ;omega;intros)|apply zR);cbv))
  · have hi' : i.toNat < ss.length := by omega
    obtain ⟨s, hs⟩ : ∃ s, ss[i.toNat]? = some s := ⟨_, List.getElem?_eq_getElem hi'⟩
    have hS : SS[i.toNat]? = some (.raw (.string s)) := by rw [← hSS, List.getElem?_map, hs]; rfl
    have hsm := hss s (List.mem_of_getElem? hs)
    refine IdxK.intro h0 hS ?_
    cbv
    refine PCallK.one (d := .raw (.bool (fineB s))) (fine_cp s hsm) rfl rfl ?_
    rcases hf : fineB s with _ | _
    · cbv
      (repeat'((first|(apply zS;kernel_rfl)|(apply zD;decide +kernel)|(apply zE;decide +kernel)|(apply zF;decide +kernel)|(apply zL;decide +kernel)|(apply zM;decide +kernel)|(apply zN;intros)|(apply zO;intros)|(apply zT;omega)|(apply zU;omega)|(apply zP;omega;intros)|(apply zQ;omega;intros)|apply zR);cbv))
      exact ⟨hQ _ _ (rec_no (.inr (.inl ⟨s, List.mem_of_getElem? hs, hf⟩)) _)⟩
    · cbv
      (repeat'((first|(apply zS;kernel_rfl)|(apply zD;decide +kernel)|(apply zE;decide +kernel)|(apply zF;decide +kernel)|(apply zL;decide +kernel)|(apply zM;decide +kernel)|(apply zN;intros)|(apply zO;intros)|(apply zT;omega)|(apply zU;omega)|(apply zP;omega;intros)|(apply zQ;omega;intros)|apply zR);cbv))
      refine IdxK.intro h0 hS ?_
      cbv
      (repeat'((first|(apply zS;kernel_rfl)|(apply zD;decide +kernel)|(apply zE;decide +kernel)|(apply zF;decide +kernel)|(apply zL;decide +kernel)|(apply zM;decide +kernel)|(apply zN;intros)|(apply zO;intros)|(apply zT;omega)|(apply zU;omega)|(apply zP;omega;intros)|(apply zQ;omega;intros)|apply zR);cbv))
      obtain ⟨pl, hpl⟩ : ∃ pl, pl = placeI (P.map Prod.fst) s := ⟨_, rfl⟩
      have hmem : ∀ u ∈ P.map Prod.fst, u.size ≤ maxLen := fun u hu => by
        obtain ⟨q, hq, rfl⟩ := List.mem_map.1 hu
        have h1 : q ∈ ss.zip ks := List.mem_of_mem_take (hR.perm.subset hq)
        exact hss _ (List.of_mem_zip (a := q.1) (b := q.2) h1).1
      have hplace : CP (TT ()) 60 [.sl none 1 LS, .raw (.string s)] (· = .raw (.int .i64 pl)) := by
        rw [hpl, ← hLS]
        exact place_cp _ s hmem
      refine PCallK.one (d := .raw (.int .i64 pl)) hplace (by simp [pureL, pureD, show pureL LS = some LS by rw [← hLS]; exact strs_pure _]) rfl ?_
      cbv
      (repeat'((first|(apply zS;kernel_rfl)|(apply zD;decide +kernel)|(apply zE;decide +kernel)|(apply zF;decide +kernel)|(apply zL;decide +kernel)|(apply zM;decide +kernel)|(apply zN;intros)|(apply zO;intros)|(apply zT;omega)|(apply zU;omega)|(apply zP;omega;intros)|(apply zQ;omega;intros)|apply zR);cbv))
      refine BinK.geq ?_ ?_ <;> intro hp0 <;> cbv <;> (repeat'((first|(apply zS;kernel_rfl)|(apply zD;decide +kernel)|(apply zE;decide +kernel)|(apply zF;decide +kernel)|(apply zL;decide +kernel)|(apply zM;decide +kernel)|(apply zN;intros)|(apply zO;intros)|(apply zT;omega)|(apply zU;omega)|(apply zP;omega;intros)|(apply zQ;omega;intros)|apply zR);cbv))
      · exact ⟨hQ _ _ (rec_no (.inr (.inr (hR.dup hl hi' hs (by rw [← hpl]; exact hp0)))) _)⟩
      · obtain ⟨t, ht⟩ : ∃ t, ks[i.toNat]? = some t := ⟨_, List.getElem?_eq_getElem (by omega)⟩
        have hK : KS[i.toNat]? = some (tyD t) := by rw [← hKS, tysD_map, List.getElem?_map, ht]; rfl
        refine LoopK.put (X := Int) (fun x => [(8, .raw (.int .i64 x))]) (fun x => []) (fun x => P.length - x.toNat) (fun x => 0 ≤ x ∧ x.toNat ≤ P.length ∧ ∀ j, j < x.toNat → ltS (stAt (P.map Prod.fst) j) s = true) 0 ⟨by simp, by simp, fun j hj => absurd hj (Nat.not_lt_zero _)⟩ rfl rfl ?_
        rintro a M ⟨ha0, hap, haj⟩ hM
        simp only at ha0 hap haj hM ⊢
        cbv
        (repeat'((first|(apply zS;kernel_rfl)|(apply zD;decide +kernel)|(apply zE;decide +kernel)|(apply zF;decide +kernel)|(apply zL;decide +kernel)|(apply zM;decide +kernel)|(apply zN;intros)|(apply zO;intros)|(apply zT;omega)|(apply zU;omega)|(apply zP;omega;intros)|(apply zQ;omega;intros)|apply zR);cbv))
        refine BinK.lss ?_ ?_ <;> intro hap1 <;> cbv <;> (repeat'((first|(apply zS;kernel_rfl)|(apply zD;decide +kernel)|(apply zE;decide +kernel)|(apply zF;decide +kernel)|(apply zL;decide +kernel)|(apply zM;decide +kernel)|(apply zN;intros)|(apply zO;intros)|(apply zT;omega)|(apply zU;omega)|(apply zP;omega;intros)|(apply zQ;omega;intros)|apply zR);cbv))
        focus
          obtain ⟨u, hu⟩ : ∃ u, (P.map Prod.fst)[a.toNat]? = some u := ⟨_, List.getElem?_eq_getElem (by simp; omega)⟩
          have hL : LS[a.toNat]? = some (.raw (.string u)) := by rw [← hLS, List.getElem?_map, hu]; rfl
          refine IdxK.intro ha0 hL ?_
          cbv
          (repeat'((first|(apply zS;kernel_rfl)|(apply zD;decide +kernel)|(apply zE;decide +kernel)|(apply zF;decide +kernel)|(apply zL;decide +kernel)|(apply zM;decide +kernel)|(apply zN;intros)|(apply zO;intros)|(apply zT;omega)|(apply zU;omega)|(apply zP;omega;intros)|(apply zQ;omega;intros)|apply zR);cbv))
          refine IdxK.intro h0 hS ?_
          cbv
          (repeat'((first|(apply zS;kernel_rfl)|(apply zD;decide +kernel)|(apply zE;decide +kernel)|(apply zF;decide +kernel)|(apply zL;decide +kernel)|(apply zM;decide +kernel)|(apply zN;intros)|(apply zO;intros)|(apply zT;omega)|(apply zU;omega)|(apply zP;omega;intros)|(apply zQ;omega;intros)|apply zR);cbv))
          refine BinK.slss ?_ ?_ <;> intro hlu <;> cbv <;> (repeat'((first|(apply zS;kernel_rfl)|(apply zD;decide +kernel)|(apply zE;decide +kernel)|(apply zF;decide +kernel)|(apply zL;decide +kernel)|(apply zM;decide +kernel)|(apply zN;intros)|(apply zO;intros)|(apply zT;omega)|(apply zU;omega)|(apply zP;omega;intros)|(apply zQ;omega;intros)|apply zR);cbv))
          rename_i r hr
          refine RoundK.next r ⟨by omega, by omega, fun j hj => ?_⟩ (by omega) rfl rfl
          by_cases hja : j = a.toNat
          · rw [hja, stAt_at hu]; exact hlu
          · exact haj j (by omega)
          have hst : a.toNat = P.length ∨ ltS (stAt (P.map Prod.fst) a.toNat) s = false := .inr (by rw [stAt_at hu]; exact hlu)
        rotate_left
        focus
          have hst : a.toNat = P.length ∨ ltS (stAt (P.map Prod.fst) a.toNat) s = false := .inl (by omega)
        rotate_left
        all_goals
          refine SlK.to ha0 (by omega) ?_
          intro L1 hL1
          have hl1 : L1.length = a.toNat := by rw [hL1, List.length_take]; omega
          cbv
          (repeat'((first|(apply zS;kernel_rfl)|(apply zD;decide +kernel)|(apply zE;decide +kernel)|(apply zF;decide +kernel)|(apply zL;decide +kernel)|(apply zM;decide +kernel)|(apply zN;intros)|(apply zO;intros)|(apply zT;omega)|(apply zU;omega)|(apply zP;omega;intros)|(apply zQ;omega;intros)|apply zR);cbv))
          refine HAppK.sl el_strs el_strs (by simp; omega) ?_
          intro L2 hL2
          have hl2 : L2.length = a.toNat := by rw [hL2]; simpa using hl1
          cbv
          (repeat'((first|(apply zS;kernel_rfl)|(apply zD;decide +kernel)|(apply zE;decide +kernel)|(apply zF;decide +kernel)|(apply zL;decide +kernel)|(apply zM;decide +kernel)|(apply zN;intros)|(apply zO;intros)|(apply zT;omega)|(apply zU;omega)|(apply zP;omega;intros)|(apply zQ;omega;intros)|apply zR);cbv))
          refine IdxK.intro h0 hS ?_
          cbv
          (repeat'((first|(apply zS;kernel_rfl)|(apply zD;decide +kernel)|(apply zE;decide +kernel)|(apply zF;decide +kernel)|(apply zL;decide +kernel)|(apply zM;decide +kernel)|(apply zN;intros)|(apply zO;intros)|(apply zT;omega)|(apply zU;omega)|(apply zP;omega;intros)|(apply zQ;omega;intros)|apply zR);cbv))
          refine HAppK.sl el_strs el_strs (by simp; omega) ?_
          intro L3 hL3
          have hl3 : L3.length = a.toNat + 1 := by rw [hL3]; simp [hl2]
          cbv
          (repeat'((first|(apply zS;kernel_rfl)|(apply zD;decide +kernel)|(apply zE;decide +kernel)|(apply zF;decide +kernel)|(apply zL;decide +kernel)|(apply zM;decide +kernel)|(apply zN;intros)|(apply zO;intros)|(apply zT;omega)|(apply zU;omega)|(apply zP;omega;intros)|(apply zQ;omega;intros)|apply zR);cbv))
          refine SlK.from ha0 (by omega) ?_
          intro L4 hL4
          have hl4 : L4.length = P.length - a.toNat := by rw [hL4]; simp; omega
          cbv
          (repeat'((first|(apply zS;kernel_rfl)|(apply zD;decide +kernel)|(apply zE;decide +kernel)|(apply zF;decide +kernel)|(apply zL;decide +kernel)|(apply zM;decide +kernel)|(apply zN;intros)|(apply zO;intros)|(apply zT;omega)|(apply zU;omega)|(apply zP;omega;intros)|(apply zQ;omega;intros)|apply zR);cbv))
          refine HAppK.sl el_strs el_strs (by omega) ?_
          intro L5 hL5
          cbv
          (repeat'((first|(apply zS;kernel_rfl)|(apply zD;decide +kernel)|(apply zE;decide +kernel)|(apply zF;decide +kernel)|(apply zL;decide +kernel)|(apply zM;decide +kernel)|(apply zN;intros)|(apply zO;intros)|(apply zT;omega)|(apply zU;omega)|(apply zP;omega;intros)|(apply zQ;omega;intros)|apply zR);cbv))
          refine SlK.to ha0 (by omega) ?_
          intro A1 hA1
          have ha1 : A1.length = a.toNat := by rw [hA1, List.length_take]; omega
          cbv
          (repeat'((first|(apply zS;kernel_rfl)|(apply zD;decide +kernel)|(apply zE;decide +kernel)|(apply zF;decide +kernel)|(apply zL;decide +kernel)|(apply zM;decide +kernel)|(apply zN;intros)|(apply zO;intros)|(apply zT;omega)|(apply zU;omega)|(apply zP;omega;intros)|(apply zQ;omega;intros)|apply zR);cbv))
          refine HAppK.sl el_tys el_tys (by simp; omega) ?_
          intro A2 hA2
          have ha2 : A2.length = a.toNat := by rw [hA2]; simpa using ha1
          cbv
          (repeat'((first|(apply zS;kernel_rfl)|(apply zD;decide +kernel)|(apply zE;decide +kernel)|(apply zF;decide +kernel)|(apply zL;decide +kernel)|(apply zM;decide +kernel)|(apply zN;intros)|(apply zO;intros)|(apply zT;omega)|(apply zU;omega)|(apply zP;omega;intros)|(apply zQ;omega;intros)|apply zR);cbv))
          obtain ⟨tk, tn, tm, tl, tks⟩ := t
          simp only [tyD] at hK
          generalize htl : tl.map strD = TL at hK
          generalize htk : tysD tks = TK at hK
          refine IdxK.intro h0 hK ?_
          cbv
          (repeat'((first|(apply zS;kernel_rfl)|(apply zD;decide +kernel)|(apply zE;decide +kernel)|(apply zF;decide +kernel)|(apply zL;decide +kernel)|(apply zM;decide +kernel)|(apply zN;intros)|(apply zO;intros)|(apply zT;omega)|(apply zU;omega)|(apply zP;omega;intros)|(apply zQ;omega;intros)|apply zR);cbv))
          refine HAppK.sl el_tys el_tys (by simp; omega) ?_
          intro A3 hA3
          have ha3 : A3.length = a.toNat + 1 := by rw [hA3]; simp [ha2]
          cbv
          (repeat'((first|(apply zS;kernel_rfl)|(apply zD;decide +kernel)|(apply zE;decide +kernel)|(apply zF;decide +kernel)|(apply zL;decide +kernel)|(apply zM;decide +kernel)|(apply zN;intros)|(apply zO;intros)|(apply zT;omega)|(apply zU;omega)|(apply zP;omega;intros)|(apply zQ;omega;intros)|apply zR);cbv))
          refine SlK.from ha0 (by omega) ?_
          intro A4 hA4
          have ha4 : A4.length = P.length - a.toNat := by rw [hA4]; simp; omega
          cbv
          (repeat'((first|(apply zS;kernel_rfl)|(apply zD;decide +kernel)|(apply zE;decide +kernel)|(apply zF;decide +kernel)|(apply zL;decide +kernel)|(apply zM;decide +kernel)|(apply zN;intros)|(apply zO;intros)|(apply zT;omega)|(apply zU;omega)|(apply zP;omega;intros)|(apply zQ;omega;intros)|apply zR);cbv))
          refine HAppK.sl el_tys el_tys (by omega) ?_
          intro A5 hA5
          cbv
          (repeat'((first|(apply zS;kernel_rfl)|(apply zD;decide +kernel)|(apply zE;decide +kernel)|(apply zF;decide +kernel)|(apply zL;decide +kernel)|(apply zM;decide +kernel)|(apply zN;intros)|(apply zO;intros)|(apply zT;omega)|(apply zU;omega)|(apply zP;omega;intros)|(apply zQ;omega;intros)|apply zR);cbv))
          rename_i r hr
          have hL5' : L5 = ((ins a.toNat (s, (.mk tk tn tm tl tks : Ty5)) P).map Prod.fst).map strD := by
            rw [hL5, hL3, hL4, hL2, hL1, ← hLS]
            simp [ins, strD]
          have hA5' : A5 = tysD ((ins a.toNat (s, (.mk tk tn tm tl tks : Ty5)) P).map Prod.snd) := by
            rw [hA5, hA3, hA4, hA2, hA1, ← hAS]
            simp [ins, tysD_map, tyD, ← htl, ← htk]
          have hL5i : ∀ m, idbL m L5 = true := fun m => pure_idbL m _ (by rw [hL5']; exact strs_pure _)
          have hA5i : ∀ m, idbL m A5 = true := fun m => pure_idbL m _ (by rw [hA5']; exact tys_pure _)
          refine RoundK.cell 1 3 (.sl none 1 L5) rfl rfl (untag_any _ _ _) ?_
          refine RoundK.cell 1 4 (.sl none 5 A5) rfl rfl (untag_any _ _ _) ?_
          refine RoundK.forget (r, ins a.toNat (s, .mk tk tn tm tl tks) P) ⟨by omega, by omega, ?_⟩ (by omega) ?_ ?_ ?_ ?_
          · have hr' : r.toNat = i.toNat + 1 := by omega
            rw [hr']
            exact hR.step hl hi' hs ht hf (by rw [← hpl]; exact hp0) haj hap hst
          · rfl
          · rw [hL5', hA5']
            rfl
          · simp [idbL, idb, hSi, hKi]
          · simp [cellIdb, idbL, idb, hL5i, hA5i]
  · have hiN : i.toNat = ss.length := by omega
    have hD := (hiN ▸ hR).done hl
    refine ⟨hQ _ _ ⟨true, _, ?_, hD⟩⟩
    rw [← hLS, ← hAS]
    exact .refl _
set_option maxRecDepth 20000 in
set_option maxHeartbeats 4000000 in
theorem recs_off (ss : List ByteArray) (ks : List Ty5) (hl : ss.length ≠ ks.length) (Q : D → H → Prop) (hQ : ∀ d h', RecQ ss ks d h' → Q d h') : wfun TT 30 [.sl none 1 (ss.map strD), .sl none 5 (tysD ks)] [] Q := by
  generalize hSS : ss.map strD = SS
  generalize hKS : tysD ks = KS
  have hSl : SS.length = ss.length := by rw [← hSS]; simp
  have hKl : KS.length = ks.length := by rw [← hKS]; simp [tysD_map]
  cbv
  (repeat'((first|(apply zS;kernel_rfl)|(apply zD;decide +kernel)|(apply zE;decide +kernel)|(apply zF;decide +kernel)|(apply zL;decide +kernel)|(apply zM;decide +kernel)|(apply zN;intros)|(apply zO;intros)|(apply zT;omega)|(apply zU;omega)|(apply zP;omega;intros)|(apply zQ;omega;intros)|apply zR);cbv))
  exact ⟨hQ _ _ (rec_no (.inl hl) _)⟩
set_option maxRecDepth 100000 in
theorem recs_cp (ss : List ByteArray) (ks : List Ty5) (hss : ∀ s ∈ ss, s.size ≤ maxLen) (h60 : ss.length ≤ 10000) : CP (TT ()) 30 [.sl none 1 (ss.map strD), .sl none 5 (tysD ks)] fun d => ∃ b t, d = .tup [tyD t, .raw (.bool b)] ∧ RecIs ss ks b t := by
  have c : CW (TT ()) 30 [.sl none 1 (ss.map strD), .sl none 5 (tysD ks)] [] (RecQ ss ks) := by
    by_cases hl : ss.length = ks.length
    · exact wfun_ok (T := TT) (by kernel_rfl) (recs_run ss ks hss hl h60 _ fun _ _ h => h)
    · exact wfun_ok (T := TT) (by kernel_rfl) (recs_off ss ks hl _ fun _ _ h => h)
  exact (c.weaken (R := fun d _ => ∃ b t, d = .tup [tyD t, .raw (.bool b)] ∧ RecIs ss ks b t) fun d h' ⟨b, t, h1, h2⟩ => ⟨_, h1, b, t, rfl, h2⟩).cp fun d h' ⟨b, t, h1, h2⟩ => ⟨d, by rw [h1]; simp [pureD, pureL, ty_pure], b, t, h1, h2⟩
end Go.Proofs.Ytbfmaicoefefaaa
