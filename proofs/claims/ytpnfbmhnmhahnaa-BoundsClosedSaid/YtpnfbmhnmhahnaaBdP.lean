/- limbeckref04.Put over data. -/
import Derived.Test.YtpnfbmhnmhahnaaBdN
import Derived.Test.YtpnfbmhnmhahnaaTyPu
namespace Go.Proofs.Ytpnfbmhnmhahnaa
open Go.RowKit Pv
set_option maxRecDepth 100000
set_option maxHeartbeats 4000000 in
theorem putv_run (l : List ByteArray) (hl : l.length ≤ 140737488355) (s : ByteArray) (Q : D → H → Prop) (hQ : ∀ d h', Wk d (.sl none 1 ((putL l s).map strD)) → Q d h') : wfun TT 42 [.sl none 1 (l.map strD), .raw (.string s)] [] Q := by
  have hQ : ∀ tag h', Q (.sl tag 1 ((putL l s).map strD)) h' := fun tag h' => hQ _ h' (untag_any _ _ _)
  have hBl : (l.map strD).length = l.length := by simp
  have hp := strs_pure l
  have hBi := fun k => pure_idbL k _ hp
  have hat := fun i => strs_at (ls := l) (i := i)
  generalize l.map strD = BS at hBi hBl hat hp ⊢
  cbv
  (repeat'((first|(apply zS;kernel_rfl)|(apply zD;decide +kernel)|(apply zE;decide +kernel)|(apply zF;decide +kernel)|(apply zL;decide +kernel)|(apply zM;decide +kernel)|(apply zN;intros)|(apply zO;intros)|(apply zT;omega)|(apply zU;omega)|(apply zP;omega;intros)|(apply zQ;omega;intros)|apply zR);cbv))
  refine LoopK.log 5 9 1 rfl ?_
  refine LoopK.put (X := Int × List D × Nat × Bool) (fun x => [(5, .sl (some 0) 1 x.2.1), (6, .raw (.bool x.2.2.2)), (7, .raw (.int .i64 x.1))]) (fun x => [(0, .log 9 1 x.2.2.1)]) (fun x => l.length - x.1.toNat)
    (fun x => 0 ≤ x.1 ∧ x.1.toNat ≤ l.length ∧ x.2.1 = (putSt s (l.take x.1.toNat)).1.map strD ∧ x.2.2.1 = x.2.1.length ∧ x.2.2.2 = (putSt s (l.take x.1.toNat)).2 ∧ x.2.1.length ≤ 2 * x.1.toNat) (0, [], 0, false) ⟨by simp, by simp, rfl, rfl, rfl, by simp⟩ rfl rfl ?_
  rintro ⟨i, L, nl, dn⟩ N ⟨h0, hi, hL, hnl, hdn, hlen⟩ hN
  simp only at h0 hi hL hnl hdn hlen hN ⊢
  cbv
  (repeat'((first|(apply zS;kernel_rfl)|(apply zD;decide +kernel)|(apply zE;decide +kernel)|(apply zF;decide +kernel)|(apply zL;decide +kernel)|(apply zM;decide +kernel)|(apply zN;intros)|(apply zO;intros)|(apply zT;omega)|(apply zU;omega)|(apply zP;omega;intros)|(apply zQ;omega;intros)|apply zR);cbv))
  refine BinK.lss ?_ ?_ <;> intro hlt <;> cbv <;> (repeat'((first|(apply zS;kernel_rfl)|(apply zD;decide +kernel)|(apply zE;decide +kernel)|(apply zF;decide +kernel)|(apply zL;decide +kernel)|(apply zM;decide +kernel)|(apply zN;intros)|(apply zO;intros)|(apply zT;omega)|(apply zU;omega)|(apply zP;omega;intros)|(apply zQ;omega;intros)|apply zR);cbv))
  · obtain ⟨x, hx, hB⟩ := hat i.toNat (by omega)
    have hstep : ∀ r : Int, r = i + 1 → putSt s (l.take r.toNat) = putStep s (putSt s (l.take i.toNat)) x := fun r hr => by
      obtain ⟨h1, h2⟩ := List.getElem?_eq_some_iff.1 hx
      rw [show r.toNat = i.toNat + 1 by omega, List.take_succ_eq_append_getElem h1, h2, putSt_snoc]
    rcases hP : putSt s (l.take i.toNat) with ⟨P, pd⟩
    rw [hP] at hL hdn hstep
    simp only at hL hdn
    subst hdn
    clear hat hQ hP
    have hLl : L.length ≤ 2 * i.toNat := hlen
    cases dn with
    | true =>
      have hps : putStep s (P, true) x = (P ++ [x], true) := by simp [putStep]
      cbv
      (repeat'((first|(apply zS;kernel_rfl)|(apply zD;decide +kernel)|(apply zE;decide +kernel)|(apply zF;decide +kernel)|(apply zL;decide +kernel)|(apply zM;decide +kernel)|(apply zN;intros)|(apply zO;intros)|(apply zT;omega)|(apply zU;omega)|(apply zP;omega;intros)|(apply zQ;omega;intros)|apply zR);cbv))
      refine IdxK.intro h0 hB ?_
      cbv
      (repeat'((first|(apply zS;kernel_rfl)|(apply zD;decide +kernel)|(apply zE;decide +kernel)|(apply zF;decide +kernel)|(apply zL;decide +kernel)|(apply zM;decide +kernel)|(apply zN;intros)|(apply zO;intros)|(apply zT;omega)|(apply zU;omega)|(apply zP;omega;intros)|(apply zQ;omega;intros)|apply zR);cbv))
      refine AppK.sl el_strs el_strs rfl hnl (by simp only [List.length_cons, List.length_nil, List.length_append]; omega) ?_
      intro L9 n9 hL9 hn9
      cbv
      (repeat'((first|(apply zS;kernel_rfl)|(apply zD;decide +kernel)|(apply zE;decide +kernel)|(apply zF;decide +kernel)|(apply zL;decide +kernel)|(apply zM;decide +kernel)|(apply zN;intros)|(apply zO;intros)|(apply zT;omega)|(apply zU;omega)|(apply zP;omega;intros)|(apply zQ;omega;intros)|apply zR);cbv))
      rename_i r hr
      have hs9 := hstep r hr
      rw [hps] at hs9
      refine RoundK.forget (r, L9, n9, true) ⟨by omega, by omega, by rw [hs9]; simp [hL9, hL, strD], hn9, by rw [hs9], by rw [hL9]; simp only [List.length_cons, List.length_nil, List.length_append] at *; omega⟩ (by omega) rfl rfl ?_ ?_
      · have hi9 : ∀ k, idbL k L9 = true := fun k => pure_idbL k _ (by rw [show L9 = (putSt s (l.take r.toNat)).1.map strD by rw [hs9]; simp [hL9, hL, strD]]; exact strs_pure _)
        simp [idbL, idb, hBi, hi9]
      · simp [cellIdb]
    | false =>
      cbv
      (repeat'((first|(apply zS;kernel_rfl)|(apply zD;decide +kernel)|(apply zE;decide +kernel)|(apply zF;decide +kernel)|(apply zL;decide +kernel)|(apply zM;decide +kernel)|(apply zN;intros)|(apply zO;intros)|(apply zT;omega)|(apply zU;omega)|(apply zP;omega;intros)|(apply zQ;omega;intros)|apply zR);cbv))
      refine IdxK.intro h0 hB ?_
      cbv
      (repeat'((first|(apply zS;kernel_rfl)|(apply zD;decide +kernel)|(apply zE;decide +kernel)|(apply zF;decide +kernel)|(apply zL;decide +kernel)|(apply zM;decide +kernel)|(apply zN;intros)|(apply zO;intros)|(apply zT;omega)|(apply zU;omega)|(apply zP;omega;intros)|(apply zQ;omega;intros)|apply zR);cbv))
      refine BinK.sgeq ?_ ?_ <;> intro hge <;> cbv <;> (repeat'((first|(apply zS;kernel_rfl)|(apply zD;decide +kernel)|(apply zE;decide +kernel)|(apply zF;decide +kernel)|(apply zL;decide +kernel)|(apply zM;decide +kernel)|(apply zN;intros)|(apply zO;intros)|(apply zT;omega)|(apply zU;omega)|(apply zP;omega;intros)|(apply zQ;omega;intros)|apply zR);cbv))
      · refine IdxK.intro h0 hB ?_
        cbv
        (repeat'((first|(apply zS;kernel_rfl)|(apply zD;decide +kernel)|(apply zE;decide +kernel)|(apply zF;decide +kernel)|(apply zL;decide +kernel)|(apply zM;decide +kernel)|(apply zN;intros)|(apply zO;intros)|(apply zT;omega)|(apply zU;omega)|(apply zP;omega;intros)|(apply zQ;omega;intros)|apply zR);cbv))
        refine BinK.sgtr ?_ ?_
        · intro _ hne
          have hps : putStep s (P, false) x = (P ++ [s] ++ [x], true) := by
            have hne : ¬ (x.toList == s.toList) = true := fun h => hne (eqS_iff.1 h)
            have hge : ltS x s = false := hge
            simp [putStep, hge, hne]
          cbv
          (repeat'((first|(apply zS;kernel_rfl)|(apply zD;decide +kernel)|(apply zE;decide +kernel)|(apply zF;decide +kernel)|(apply zL;decide +kernel)|(apply zM;decide +kernel)|(apply zN;intros)|(apply zO;intros)|(apply zT;omega)|(apply zU;omega)|(apply zP;omega;intros)|(apply zQ;omega;intros)|apply zR);cbv))
          refine AppK.sl el_strs el_strs rfl hnl (by simp only [List.length_cons, List.length_nil, List.length_append]; omega) ?_
          intro L8 n8 hL8 hn8
          have hq8 : L8.length = L.length + 1 := by rw [hL8]; simp
          cbv
          (repeat'((first|(apply zS;kernel_rfl)|(apply zD;decide +kernel)|(apply zE;decide +kernel)|(apply zF;decide +kernel)|(apply zL;decide +kernel)|(apply zM;decide +kernel)|(apply zN;intros)|(apply zO;intros)|(apply zT;omega)|(apply zU;omega)|(apply zP;omega;intros)|(apply zQ;omega;intros)|apply zR);cbv))
          refine IdxK.intro h0 hB ?_
          cbv
          (repeat'((first|(apply zS;kernel_rfl)|(apply zD;decide +kernel)|(apply zE;decide +kernel)|(apply zF;decide +kernel)|(apply zL;decide +kernel)|(apply zM;decide +kernel)|(apply zN;intros)|(apply zO;intros)|(apply zT;omega)|(apply zU;omega)|(apply zP;omega;intros)|(apply zQ;omega;intros)|apply zR);cbv))
          refine AppK.sl el_strs el_strs rfl hn8 (by simp only [List.length_cons, List.length_nil, List.length_append]; omega) ?_
          intro L9 n9 hL9 hn9
          cbv
          (repeat'((first|(apply zS;kernel_rfl)|(apply zD;decide +kernel)|(apply zE;decide +kernel)|(apply zF;decide +kernel)|(apply zL;decide +kernel)|(apply zM;decide +kernel)|(apply zN;intros)|(apply zO;intros)|(apply zT;omega)|(apply zU;omega)|(apply zP;omega;intros)|(apply zQ;omega;intros)|apply zR);cbv))
          rename_i r hr
          have hs9 := hstep r hr
          rw [hps] at hs9
          refine RoundK.forget (r, L9, n9, true) ⟨by omega, by omega, by rw [hs9]; simp [hL9, hL8, hL, strD], hn9, by rw [hs9], by rw [hL9]; simp only [List.length_cons, List.length_nil, List.length_append] at *; omega⟩ (by omega) rfl rfl ?_ ?_
          · have hi9 : ∀ k, idbL k L9 = true := fun k => pure_idbL k _ (by rw [show L9 = (putSt s (l.take r.toNat)).1.map strD by rw [hs9]; simp [hL9, hL8, hL, strD]]; exact strs_pure _)
            simp [idbL, idb, hBi, hi9]
          · simp [cellIdb]
        · intro hor
          have hxs : x = s := hor.resolve_left (by rw [hge]; simp)
          have hps : putStep s (P, false) x = (P ++ [x], true) := by
            have he : (x.toList == s.toList) = true := eqS_iff.2 hxs
            have hge : ltS x s = false := hge
            simp [putStep, hge, he]
          cbv
          (repeat'((first|(apply zS;kernel_rfl)|(apply zD;decide +kernel)|(apply zE;decide +kernel)|(apply zF;decide +kernel)|(apply zL;decide +kernel)|(apply zM;decide +kernel)|(apply zN;intros)|(apply zO;intros)|(apply zT;omega)|(apply zU;omega)|(apply zP;omega;intros)|(apply zQ;omega;intros)|apply zR);cbv))
          refine IdxK.intro h0 hB ?_
          cbv
          (repeat'((first|(apply zS;kernel_rfl)|(apply zD;decide +kernel)|(apply zE;decide +kernel)|(apply zF;decide +kernel)|(apply zL;decide +kernel)|(apply zM;decide +kernel)|(apply zN;intros)|(apply zO;intros)|(apply zT;omega)|(apply zU;omega)|(apply zP;omega;intros)|(apply zQ;omega;intros)|apply zR);cbv))
          refine AppK.sl el_strs el_strs rfl hnl (by simp only [List.length_cons, List.length_nil, List.length_append]; omega) ?_
          intro L9 n9 hL9 hn9
          cbv
          (repeat'((first|(apply zS;kernel_rfl)|(apply zD;decide +kernel)|(apply zE;decide +kernel)|(apply zF;decide +kernel)|(apply zL;decide +kernel)|(apply zM;decide +kernel)|(apply zN;intros)|(apply zO;intros)|(apply zT;omega)|(apply zU;omega)|(apply zP;omega;intros)|(apply zQ;omega;intros)|apply zR);cbv))
          rename_i r hr
          have hs9 := hstep r hr
          rw [hps] at hs9
          refine RoundK.forget (r, L9, n9, true) ⟨by omega, by omega, by rw [hs9]; simp [hL9, hL, strD], hn9, by rw [hs9], by rw [hL9]; simp only [List.length_cons, List.length_nil, List.length_append] at *; omega⟩ (by omega) rfl rfl ?_ ?_
          · have hi9 : ∀ k, idbL k L9 = true := fun k => pure_idbL k _ (by rw [show L9 = (putSt s (l.take r.toNat)).1.map strD by rw [hs9]; simp [hL9, hL, strD]]; exact strs_pure _)
            simp [idbL, idb, hBi, hi9]
          · simp [cellIdb]
      · have hps : putStep s (P, false) x = (P ++ [x], false) := by
          have hge : ltS x s = true := hge
          simp [putStep, hge]
        refine IdxK.intro h0 hB ?_
        cbv
        (repeat'((first|(apply zS;kernel_rfl)|(apply zD;decide +kernel)|(apply zE;decide +kernel)|(apply zF;decide +kernel)|(apply zL;decide +kernel)|(apply zM;decide +kernel)|(apply zN;intros)|(apply zO;intros)|(apply zT;omega)|(apply zU;omega)|(apply zP;omega;intros)|(apply zQ;omega;intros)|apply zR);cbv))
        refine AppK.sl el_strs el_strs rfl hnl (by simp only [List.length_cons, List.length_nil, List.length_append]; omega) ?_
        intro L9 n9 hL9 hn9
        cbv
        (repeat'((first|(apply zS;kernel_rfl)|(apply zD;decide +kernel)|(apply zE;decide +kernel)|(apply zF;decide +kernel)|(apply zL;decide +kernel)|(apply zM;decide +kernel)|(apply zN;intros)|(apply zO;intros)|(apply zT;omega)|(apply zU;omega)|(apply zP;omega;intros)|(apply zQ;omega;intros)|apply zR);cbv))
        rename_i r hr
        have hs9 := hstep r hr
        rw [hps] at hs9
        refine RoundK.forget (r, L9, n9, false) ⟨by omega, by omega, by rw [hs9]; simp [hL9, hL, strD], hn9, by rw [hs9], by rw [hL9]; simp only [List.length_cons, List.length_nil, List.length_append] at *; omega⟩ (by omega) rfl rfl ?_ ?_
        · have hi9 : ∀ k, idbL k L9 = true := fun k => pure_idbL k _ (by rw [show L9 = (putSt s (l.take r.toNat)).1.map strD by rw [hs9]; simp [hL9, hL, strD]]; exact strs_pure _)
          simp [idbL, idb, hBi, hi9]
        · simp [cellIdb]
  · have hall : l.take i.toNat = l := List.take_of_length_le (by omega)
    rw [hall] at hL hdn
    unfold putL at hQ
    rcases hP : putSt s l with ⟨P, pd⟩
    rw [hP] at hL hdn hQ
    simp only at hL hdn hQ
    subst hdn
    cases dn with
    | true =>
      cbv
      (repeat'((first|(apply zS;kernel_rfl)|(apply zD;decide +kernel)|(apply zE;decide +kernel)|(apply zF;decide +kernel)|(apply zL;decide +kernel)|(apply zM;decide +kernel)|(apply zN;intros)|(apply zO;intros)|(apply zT;omega)|(apply zU;omega)|(apply zP;omega;intros)|(apply zQ;omega;intros)|apply zR);cbv))
      rw [hL]
      exact ⟨hQ _ _⟩
    | false =>
      cbv
      (repeat'((first|(apply zS;kernel_rfl)|(apply zD;decide +kernel)|(apply zE;decide +kernel)|(apply zF;decide +kernel)|(apply zL;decide +kernel)|(apply zM;decide +kernel)|(apply zN;intros)|(apply zO;intros)|(apply zT;omega)|(apply zU;omega)|(apply zP;omega;intros)|(apply zQ;omega;intros)|apply zR);cbv))
      refine AppK.sl el_strs el_strs rfl hnl (by simp only [List.length_cons, List.length_nil, List.length_append]; omega) ?_
      intro L8 n8 hL8 hn8
      have hq8 : L8.length = L.length + 1 := by rw [hL8]; simp
      cbv
      (repeat'((first|(apply zS;kernel_rfl)|(apply zD;decide +kernel)|(apply zE;decide +kernel)|(apply zF;decide +kernel)|(apply zL;decide +kernel)|(apply zM;decide +kernel)|(apply zN;intros)|(apply zO;intros)|(apply zT;omega)|(apply zU;omega)|(apply zP;omega;intros)|(apply zQ;omega;intros)|apply zR);cbv))
      
      have e8 : L8 = (P ++ [s]).map strD := by rw [hL8, hL]; simp [strD]
      rw [e8]
      exact ⟨hQ _ _⟩
theorem putL_pure (l : List ByteArray) (s : ByteArray) : pureD (.sl none 1 ((putL l s).map strD)) = some (.sl none 1 ((putL l s).map strD)) := by
  have h := strs_pure (putL l s)
  generalize (putL l s).map strD = L at *
  simp [pureD, h]
theorem putv_cp (l : List ByteArray) (hl : l.length ≤ 140737488355) (s : ByteArray) : CP (TT ()) 42 [.sl none 1 (l.map strD), .raw (.string s)] (· = .sl none 1 ((putL l s).map strD)) := c4_runW (putL_pure l s) fun Q hQ => putv_run l hl s Q hQ
end Go.Proofs.Ytpnfbmhnmhahnaa
