/- TyMakes, with what only it needs (joined out of three texts: a claim has at most 60 files). -/
import Derived.Test.YtbfmaicoefefaaaPvT
import Derived.Test.YtbfmaicoefefaaaTyVp
import Derived.Test.YtbfmaicoefefaaaPwRp
import Derived.Test.YtbfmaicoefefaaaPwFi
import Derived.Test.YtbfmaicoefefaaaTyRu
import Derived.Test.YtbfmaicoefefaaaEnd
set_option linter.unusedSimpArgs false
set_option linter.unusedVariables false

namespace Go.Proofs.Ytbfmaicoefefaaa
open Go.RowKit Pv
set_option maxRecDepth 100000
theorem vars_one1 {N L : List ByteArray} (h : VarsIs N L) (s : ByteArray) (r : List ByteArray) (hN : N = s :: r) (hr : ∀ x ∈ r, x = s) : L.length = 1 := by
  have hm : ∀ x, x ∈ L → x = s := fun x hx => by
    have := (h.2 x).1 hx
    rw [hN] at this
    rcases List.mem_cons.1 this with h | h
    · exact h
    · exact hr x h
  have hs : s ∈ L := (h.2 s).2 (by rw [hN]; exact List.mem_cons_self ..)
  have hp := h.1
  match L, hm, hs, hp with
  | [_], _, _, _ => rfl
  | x :: y :: l, hm, _, hp =>
    have e1 := hm x (List.mem_cons_self ..)
    have e2 := hm y (List.mem_cons_of_mem _ (List.mem_cons_self ..))
    have := (List.pairwise_cons.1 hp).1 y (List.mem_cons_self ..)
    rw [e1, e2] at this
    unfold ltS at this
    rw [less_irr] at this
    cases this
def awBase : FuncId → List D → Option D := fun k ds =>
  if k = 22 then match ds with
    | [d] => match tyOf 400 d with
      | some t => if nodesT t ≤ 1000000 then match namesT t with
          | s :: r => if r.all (fun x => x.toList == s.toList) = true then some (.sln 1) else none
          | [] => none
        else none
      | none => none
    | _ => none
  else tyBase k ds
theorem awBase_ok : PureOk Try.prog awBase := by
  have hcV : Callable Try.prog 22 := callable_of Try.func22 (by kernel_rfl) rfl
  have key : ∀ k ds d, awBase k ds = some d → Callable Try.prog k ∧ Yd Try.prog k ds d := by
    intro k ds d e
    unfold awBase at e
    split at e
    · rename_i hk
      subst hk
      split at e
      · rename_i d0
        split at e
        · rename_i t ht
          split at e
          · rename_i hn
            split at e
            · rename_i s r hN
              split at e
              · rename_i hall
                cases e
                refine ⟨hcV, fun S w args hS r0 => ?_⟩
                obtain ⟨v0, v1, v2, v3, v4, rfl, hT⟩ := one_ty ht r0
                refine (pvars_any t v0 v1 v2 v3 v4 w hT hn).mono ?_
                rintro e' w' ⟨v, L, rfl, hb, hL, hV, _⟩
                have hl : L.length = 1 := vars_one1 hV s r hN fun x hx => by
                  have := List.all_eq_true.1 hall x hx
                  exact eqS_iff.1 this
                refine ⟨v, S, rfl, hb, fun _ _ h => h, fun b o hs => ⟨Nat.lt_of_lt_of_le (hS b o hs) hb.size, fun _ => hs⟩, ?_⟩
                obtain ⟨_, _, h3⟩ := hL
                rcases h3 with ⟨a, cap, rfl, rfl⟩ | ⟨b, off, cap, rfl, _⟩
                · simp at hl
                · rw [hl]
                  exact ⟨_, _, rfl⟩
              · cases e
            · cases e
          · cases e
        · cases e
      · cases e
    · exact ⟨tyBase_ok.can k ds d e, tyBase_ok.ok k ds d e⟩
  exact ⟨fun k ds d e => (key k ds d e).1, fun k ds d e => (key k ds d e).2⟩
theorem t0 : (afun Try.prog ((lay Try.prog awBase 100 9).env Try.prog) 50 12 [] []).map (·.1) = some (.raw (.bool true)) := by kernel_rfl
theorem awake_any (w : World) : Calls Try.prog 12 #[] w fun e w' => e = .returned (.bool true) ∧ Below w.heap.size w w' := by
  obtain ⟨⟨d, h'⟩, e, hd⟩ := Option.map_eq_some_iff.1 t0
  simp only at hd
  subst hd
  refine (afun_yd (env_ok (by kernel_rfl) awBase_ok 100 9) e rfl (fun _ _ => False) w [] ⟨fun _ _ h => h.elim, by unfold ghost; simp⟩ rfl).mono ?_
  rintro e' w' ⟨v, S', rfl, hb, _, _, hv⟩
  simp only [Rd] at hv
  exact ⟨by rw [hv], hb⟩
end Go.Proofs.Ytbfmaicoefefaaa

namespace Go.Proofs.Ytbfmaicoefefaaa
open Go.RowKit Pv Go.Sort
set_option maxRecDepth 100000
theorem ty_form (t : Ty5) : ∃ k n s L K, tyD t = .agg [.raw (.int .i64 k), .raw (.int .i64 n), .raw (.string s), .sl none 1 L, .sl none 5 K] := by
  obtain ⟨k, n, nm, ls, ks⟩ := t
  exact ⟨k, n, nm, _, _, rfl⟩
theorem rec_fun {ss : List ByteArray} {ks : List Ty5} {b b' : Bool} {t t' : Ty5} (h : RecIs ss ks b t) (h' : RecIs ss ks b' t') : b' = b ∧ t' = t := by
  cases b with
  | true =>
    obtain ⟨e1, e2⟩ := rec_true h h'
    exact ⟨e1.symm, e2.symm⟩
  | false =>
    cases b' with
    | true =>
      obtain ⟨e1, _⟩ := rec_true h' h
      cases e1
    | false =>
      rcases h with ⟨h1, _⟩ | ⟨_, h1, _⟩
      · cases h1
      rcases h' with ⟨h2, _⟩ | ⟨_, h2, _⟩
      · cases h2
      exact ⟨rfl, by rw [h1, h2]⟩
theorem okL_of : ∀ {ks : List Ty5}, (∀ t ∈ ks, okT t) → okT.okL ks
  | [], _ => trivial
  | t :: r, h => ⟨h t (List.mem_cons_self ..), okL_of fun u hu => h u (List.mem_cons_of_mem _ hu)⟩
theorem ty0_ok : okT ty0 := ⟨by decide, fun s h => (by cases h), trivial⟩
theorem rec_ok {ss : List ByteArray} {ks : List Ty5} {b : Bool} {t : Ty5} (h : RecIs ss ks b t) (hs : ∀ s ∈ ss, s.size ≤ maxLen) (hk : okT.okL ks) : okT t := by
  rcases h with ⟨_, hl, P, hp, _, rfl⟩ | ⟨_, rfl, _⟩
  · refine ⟨by decide, fun s h => ?_, okL_of fun u hu => ?_⟩
    · obtain ⟨q, hq, rfl⟩ := List.mem_map.1 h
      exact hs _ (List.of_mem_zip (a := q.1) (b := q.2) (hp.subset hq)).1
    · obtain ⟨q, hq, rfl⟩ := List.mem_map.1 hu
      exact okL_get hk _ (List.of_mem_zip (a := q.1) (b := q.2) (hp.subset hq)).2
  · exact ty0_ok
theorem field_ok {s : ByteArray} {t : Ty5} (h : okT t) : okT (fieldT s t).1 := by
  obtain ⟨k, n, nm, ls, ks⟩ := t
  obtain ⟨h1, h2, h3, h4⟩ := field_cases (s := s) n nm ks (k := k) (ls := ls) rfl
  by_cases hk : k = 8
  · by_cases h0 : 0 ≤ placeI ls s
    · by_cases hl : (placeI ls s).toNat < ks.length
      · rw [h4 hk h0 hl, kAt_get hl]
        exact okL_get h.2.2 _ (List.getElem_mem hl)
      · rw [h3 h0 (by omega)]
        exact ty0_ok
    · rw [h2 (by omega)]
      exact ty0_ok
  · rw [h1 hk]
    exact ty0_ok
theorem awake_cp : CP (TT ()) 12 [] (· = .raw (.bool true)) :=
  cp_raw (callable_at Try.func12 (by kernel_rfl) rfl) fun S w args r => by
    simp only [RdL] at r
    subst r
    exact awake_any w
set_option maxRecDepth 20000 in
set_option maxHeartbeats 4000000 in
theorem makes_run (ss : List ByteArray) (ks : List Ty5) (t : Ty5) (label : ByteArray) (hss : ∀ s ∈ ss, s.size ≤ maxLen) (hks : okT.okL ks) (ht : okT t) (Q : D → H → Prop) (hQ : ∀ h', Q (.raw (.bool true)) h') :
    wfun TT 5 [.sl none 1 (ss.map strD), .sl none 5 (tysD ks), tyD t, .raw (.string label)] [] Q := by
  have c1 := few_cp ss ks hss hks
  have c2 := much_cp t ht
  have c3 := fun h => recp_cp ss ks hss h
  have c4 := fun h => recs_cp ss ks hss h
  have c5 := fieldp_cp label t ht
  have c6 := fieldr_cp label t ht
  have c8 := same_cp _ _ (field_ok (s := label) ht) (field_ok (s := label) ht)
  rw [same_refl] at c8
  have p1 := ty_pure t
  have p2 := ty_pure (fieldT label t).1
  have pS := strs_pure ss
  have pK := tys_pure ks
  have c9 := fun a => funp_cp t a
  have c10 := fun a => funr_cp t a
  have c7 : ∀ a, okT a → _ := fun a ha => same_cp a a ha ha
  have hfo : ∀ a, okT a → okT (.mk 7 0 ⟨#[]⟩ [] [t, a]) := fun a ha => ⟨by decide, fun s h => (by cases h), ht, ha, trivial⟩
  generalize (fieldT label t).2 = fb at c5 c6
  generalize (fieldT label t).1 = fT at c5 c6 c8 p2
  obtain ⟨t0, t1, t2, t3, t4, hT⟩ := ty_form t
  obtain ⟨f0, f1, f2, f3, f4, hF⟩ := ty_form fT
  rw [hT] at c2 c5 c6 p1 ⊢
  rw [hF] at c5 c6 c8 p2
  simp only [hT] at c9 c10
  have hok : ∀ b a, RecIs ss ks b a → okT a := fun b a h => rec_ok h hss hks
  generalize ss.map strD = SS at c1 c3 c4 pS ⊢
  generalize tysD ks = KS at c1 c3 c4 pK ⊢
  cbv
  (repeat'((first|(apply zS;kernel_rfl)|(apply zD;decide +kernel)|(apply zE;decide +kernel)|(apply zF;decide +kernel)|(apply zL;decide +kernel)|(apply zM;decide +kernel)|(apply zN;intros)|(apply zO;intros)|(apply zT;omega)|(apply zU;omega)|(apply zP;omega;intros)|(apply zQ;omega;intros)|apply zR);cbv))
  refine CallK.pure c1 (by simp [pureL, pureD, pS, pK]) ?_
  rintro d ⟨b, rfl, hb⟩
  refine ⟨rfl, ?_⟩
  rcases b with _ | _
  · cbv
    (repeat'((first|(apply zS;kernel_rfl)|(apply zD;decide +kernel)|(apply zE;decide +kernel)|(apply zF;decide +kernel)|(apply zL;decide +kernel)|(apply zM;decide +kernel)|(apply zN;intros)|(apply zO;intros)|(apply zT;omega)|(apply zU;omega)|(apply zP;omega;intros)|(apply zQ;omega;intros)|apply zR);cbv))
    refine CallK.one awake_cp rfl rfl ?_
    cbv
    (repeat'((first|(apply zS;kernel_rfl)|(apply zD;decide +kernel)|(apply zE;decide +kernel)|(apply zF;decide +kernel)|(apply zL;decide +kernel)|(apply zM;decide +kernel)|(apply zN;intros)|(apply zO;intros)|(apply zT;omega)|(apply zU;omega)|(apply zP;omega;intros)|(apply zQ;omega;intros)|apply zR);cbv))
    exact ⟨hQ _⟩
  obtain ⟨h60, _⟩ := hb rfl
  cbv
  (repeat'((first|(apply zS;kernel_rfl)|(apply zD;decide +kernel)|(apply zE;decide +kernel)|(apply zF;decide +kernel)|(apply zL;decide +kernel)|(apply zM;decide +kernel)|(apply zN;intros)|(apply zO;intros)|(apply zT;omega)|(apply zU;omega)|(apply zP;omega;intros)|(apply zQ;omega;intros)|apply zR);cbv))
  refine CallK.pure c2 (cons_pure p1 rfl) ?_
  rintro d ⟨m, rfl⟩
  refine ⟨rfl, ?_⟩
  cbv
  (repeat'((first|(apply zS;kernel_rfl)|(apply zD;decide +kernel)|(apply zE;decide +kernel)|(apply zF;decide +kernel)|(apply zL;decide +kernel)|(apply zM;decide +kernel)|(apply zN;intros)|(apply zO;intros)|(apply zT;omega)|(apply zU;omega)|(apply zP;omega;intros)|(apply zQ;omega;intros)|apply zR);cbv))
  refine BinK.gtr ?_ ?_ <;> intro hm <;> cbv <;> (repeat'((first|(apply zS;kernel_rfl)|(apply zD;decide +kernel)|(apply zE;decide +kernel)|(apply zF;decide +kernel)|(apply zL;decide +kernel)|(apply zM;decide +kernel)|(apply zN;intros)|(apply zO;intros)|(apply zT;omega)|(apply zU;omega)|(apply zP;omega;intros)|(apply zQ;omega;intros)|apply zR);cbv))
  · refine CallK.one awake_cp rfl rfl ?_
    cbv
    (repeat'((first|(apply zS;kernel_rfl)|(apply zD;decide +kernel)|(apply zE;decide +kernel)|(apply zF;decide +kernel)|(apply zL;decide +kernel)|(apply zM;decide +kernel)|(apply zN;intros)|(apply zO;intros)|(apply zT;omega)|(apply zU;omega)|(apply zP;omega;intros)|(apply zQ;omega;intros)|apply zR);cbv))
    exact ⟨hQ _⟩
  refine CallK.pure (c3 (by omega)) (by simp [pureL, pureD, pS, pK]) ?_
  rintro d ⟨b, a, rfl, hR⟩
  have hao := hok b a hR
  have pa := ty_pure a
  have c7a := c7 a hao
  rw [same_refl] at c7a
  have c9a := c9 a
  have c10a := c10 a
  have c11 := same_cp _ _ (hfo a hao) (hfo a hao)
  rw [same_refl] at c11
  have pu := ty_pure (.mk 7 0 ⟨#[]⟩ [] [t, a])
  have hsnd : ∀ b' a', RecIs ss ks b' a' → b' = b ∧ a' = a := fun b' a' h => rec_fun hR h
  generalize (Ty5.mk 7 0 ⟨#[]⟩ [] [t, a]) = u at c9a c10a c11 pu
  obtain ⟨a0, a1, a2, a3, a4, hA⟩ := ty_form a
  obtain ⟨u0, u1, u2, u3, u4, hU⟩ := ty_form u
  have hA' : ∀ a', a' = a → tyD a' = .agg [.raw (.int .i64 a0), .raw (.int .i64 a1), .raw (.string a2), .sl none 1 a3, .sl none 5 a4] := fun a' h => by rw [h]; exact hA
  rw [hA] at c7a c9a c10a pa ⊢
  rw [hU] at c9a c10a c11 pu
  refine ⟨tup_pure (cons_pure pa rfl), ?_⟩
  cbv
  (repeat'((first|(apply zS;kernel_rfl)|(apply zD;decide +kernel)|(apply zE;decide +kernel)|(apply zF;decide +kernel)|(apply zL;decide +kernel)|(apply zM;decide +kernel)|(apply zN;intros)|(apply zO;intros)|(apply zT;omega)|(apply zU;omega)|(apply zP;omega;intros)|(apply zQ;omega;intros)|apply zR);cbv))
  refine CallK.pure (c4 (by omega)) (by simp [pureL, pureD, pS, pK]) ?_
  rintro d ⟨b', a', rfl, hR'⟩
  obtain ⟨rfl, e2⟩ := hsnd b' a' hR'
  rw [hA' a' e2]
  refine ⟨tup_pure (cons_pure pa rfl), ?_⟩
  clear hR' e2 hR hsnd hA' hok c7 c9 c10 c3 c4
  cbv
  (repeat'((first|(apply zS;kernel_rfl)|(apply zD;decide +kernel)|(apply zE;decide +kernel)|(apply zF;decide +kernel)|(apply zL;decide +kernel)|(apply zM;decide +kernel)|(apply zN;intros)|(apply zO;intros)|(apply zT;omega)|(apply zU;omega)|(apply zP;omega;intros)|(apply zQ;omega;intros)|apply zR);cbv))
  refine CallK.one c5 (cons_pure p1 rfl) (tup_pure (cons_pure p2 rfl)) ?_
  cbv
  (repeat'((first|(apply zS;kernel_rfl)|(apply zD;decide +kernel)|(apply zE;decide +kernel)|(apply zF;decide +kernel)|(apply zL;decide +kernel)|(apply zM;decide +kernel)|(apply zN;intros)|(apply zO;intros)|(apply zT;omega)|(apply zU;omega)|(apply zP;omega;intros)|(apply zQ;omega;intros)|apply zR);cbv))
  refine CallK.one c6 (cons_pure p1 rfl) (tup_pure (cons_pure p2 rfl)) ?_
  cbv
  (repeat'((first|(apply zS;kernel_rfl)|(apply zD;decide +kernel)|(apply zE;decide +kernel)|(apply zF;decide +kernel)|(apply zL;decide +kernel)|(apply zM;decide +kernel)|(apply zN;intros)|(apply zO;intros)|(apply zT;omega)|(apply zU;omega)|(apply zP;omega;intros)|(apply zQ;omega;intros)|apply zR);cbv))
  refine PCallK.one c7a (cons_pure pa (cons_pure pa rfl)) rfl ?_
  cbv
  (repeat'((first|(apply zS;kernel_rfl)|(apply zD;decide +kernel)|(apply zE;decide +kernel)|(apply zF;decide +kernel)|(apply zL;decide +kernel)|(apply zM;decide +kernel)|(apply zN;intros)|(apply zO;intros)|(apply zT;omega)|(apply zU;omega)|(apply zP;omega;intros)|(apply zQ;omega;intros)|apply zR);cbv))
  rcases b' with _ | _
  all_goals
    refine ⟨.bool true, by kernel_rfl, ?_⟩
    cbv
    (repeat'((first|(apply zS;kernel_rfl)|(apply zD;decide +kernel)|(apply zE;decide +kernel)|(apply zF;decide +kernel)|(apply zL;decide +kernel)|(apply zM;decide +kernel)|(apply zN;intros)|(apply zO;intros)|(apply zT;omega)|(apply zU;omega)|(apply zP;omega;intros)|(apply zQ;omega;intros)|apply zR);cbv))
    refine PCallK.one c8 (cons_pure p2 (cons_pure p2 rfl)) rfl ?_
    cbv
    (repeat'((first|(apply zS;kernel_rfl)|(apply zD;decide +kernel)|(apply zE;decide +kernel)|(apply zF;decide +kernel)|(apply zL;decide +kernel)|(apply zM;decide +kernel)|(apply zN;intros)|(apply zO;intros)|(apply zT;omega)|(apply zU;omega)|(apply zP;omega;intros)|(apply zQ;omega;intros)|apply zR);cbv))
    rcases fb with _ | _
    all_goals
      refine ⟨.bool true, by kernel_rfl, ?_⟩
      cbv
      (repeat'((first|(apply zS;kernel_rfl)|(apply zD;decide +kernel)|(apply zE;decide +kernel)|(apply zF;decide +kernel)|(apply zL;decide +kernel)|(apply zM;decide +kernel)|(apply zN;intros)|(apply zO;intros)|(apply zT;omega)|(apply zU;omega)|(apply zP;omega;intros)|(apply zQ;omega;intros)|apply zR);cbv))
      refine PCallK.one c9a (cons_pure p1 (cons_pure pa rfl)) pu ?_
      cbv
      (repeat'((first|(apply zS;kernel_rfl)|(apply zD;decide +kernel)|(apply zE;decide +kernel)|(apply zF;decide +kernel)|(apply zL;decide +kernel)|(apply zM;decide +kernel)|(apply zN;intros)|(apply zO;intros)|(apply zT;omega)|(apply zU;omega)|(apply zP;omega;intros)|(apply zQ;omega;intros)|apply zR);cbv))
      refine PCallK.one c10a (cons_pure p1 (cons_pure pa rfl)) pu ?_
      cbv
      (repeat'((first|(apply zS;kernel_rfl)|(apply zD;decide +kernel)|(apply zE;decide +kernel)|(apply zF;decide +kernel)|(apply zL;decide +kernel)|(apply zM;decide +kernel)|(apply zN;intros)|(apply zO;intros)|(apply zT;omega)|(apply zU;omega)|(apply zP;omega;intros)|(apply zQ;omega;intros)|apply zR);cbv))
      refine PCallK.one c11 (cons_pure pu (cons_pure pu rfl)) rfl ?_
      cbv
      (repeat'((first|(apply zS;kernel_rfl)|(apply zD;decide +kernel)|(apply zE;decide +kernel)|(apply zF;decide +kernel)|(apply zL;decide +kernel)|(apply zM;decide +kernel)|(apply zN;intros)|(apply zO;intros)|(apply zT;omega)|(apply zU;omega)|(apply zP;omega;intros)|(apply zQ;omega;intros)|apply zR);cbv))
      refine PCallK.one awake_cp rfl rfl ?_
      cbv
      (repeat'((first|(apply zS;kernel_rfl)|(apply zD;decide +kernel)|(apply zE;decide +kernel)|(apply zF;decide +kernel)|(apply zL;decide +kernel)|(apply zM;decide +kernel)|(apply zN;intros)|(apply zO;intros)|(apply zT;omega)|(apply zU;omega)|(apply zP;omega;intros)|(apply zQ;omega;intros)|apply zR);cbv))
      exact ⟨hQ _⟩
theorem makes_cp (ss : List ByteArray) (ks : List Ty5) (t : Ty5) (label : ByteArray) (hss : ∀ s ∈ ss, s.size ≤ maxLen) (hks : okT.okL ks) (ht : okT t) :
    CP (TT ()) 5 [.sl none 1 (ss.map strD), .sl none 5 (tysD ks), tyD t, .raw (.string label)] (· = .raw (.bool true)) :=
  (wfun_ok (T := TT) (by kernel_rfl) (makes_run ss ks t label hss hks ht (fun d _ => d = .raw (.bool true)) fun _ => rfl)).cp fun d h' h => ⟨d, by rw [h]; rfl, h⟩
end Go.Proofs.Ytbfmaicoefefaaa

namespace Go.Proofs.Ytbfmaicoefefaaa.makesP
open Go.ChangeShapes Go.WideShapes Go.ChangeAt Go.RowKit Go.Proofs.Ytbfmaicoefefaaa
set_option maxRecDepth 100000
open Pv
theorem kinds : Kinds Try.prog (fun t => t = 3 ∨ t = 9 ∨ t = 22 ∨ t = 23 ∨ t = 25) where
  ok := by
    rintro t (rfl | rfl | rfl | rfl | rfl)
    · rw [Try.underlying3]; show Try.prog.cellsOf _ = 1; kernel_rfl
    · rw [Try.underlying9]; show Try.prog.cellsOf _ = 1; kernel_rfl
    · rw [Try.underlying22]; exact ⟨by kernel_rfl, by simp, by rw [cellsOf_str]; decide⟩
    · rw [Try.underlying23]; exact ⟨by kernel_rfl, by simp, by rw [cellsOf_ty]; decide⟩
    · rw [Try.underlying25]; exact ⟨by kernel_rfl, by intro f hf; simp at hf; rcases hf with rfl | rfl | rfl | rfl | rfl <;> simp⟩
set_option maxRecDepth 100000 in
theorem lifted (os : Os) (started : os.Started) (H : Type) (enc : TypeId × Value → H) :
    ReturnsInHanded {} Try.checked os 5 .any (Rows.tyMakesSpec.pre6 enc Try.prog Try.f5 Rows.tyMakesRow.domain false) (Rows.tyMakesSpec.post enc Try.prog Try.f5 false true false false) := by
  refine returnsInHanded_of_change_sized (C := Try.checked) own started (by kernel_rfl) Try.func5
    (ChangeSpec.witness6 (enc := enc) (C := Try.checked) false ⟨#[], #[.slice none 0 0, .slice none 0 0, .agg #[.int .i64 0, .int .i64 0, .string ⟨#[]⟩, .slice none 0 0, .slice none 0 0], .string ⟨#[]⟩], []⟩ 8 (by kernel_rfl) (by kernel_rfl) (by kernel_rfl) (by kernel_rfl)) ?_
  intro W base args ds gs before hval0 hW _ _ _
  have hval : ∀ (j : Nat) t v, Try.f5.params[j]? = some t → args[j]? = some v → Value.okWide Try.prog W .any base t v := hval0
  have hW' := hW
  have hend : ∀ W', Below W.heap.size W W' → Rows.tyMakesSpec.post enc Try.prog Try.f5 false true false false W args (.bool true) W' := fun W' hb =>
    law_post (bt := 4) laid hW' rfl rfl Try.underlying4 (by rw [show Try.f5.params = _ from Try.params5]; intro t ht; simp at ht; rcases ht with rfl | rfl | rfl | rfl <;> exact ⟨by kernel_rfl, of_decide_eq_true (by kernel_rfl)⟩)
      (by rw [show Try.f5.params = _ from Try.params5]; intro l hl; match l, hl with | [_, _, _, _], _ => rfl) hb
  obtain ⟨p, q, hA0, hV, hpq, _, _⟩ := hW
  have hA : DataW.TrodAll enc Try.prog W 0 (fun _ => true) true Try.f5.params.toList args.toList ds p := hA0
  rw [Try.params5] at hA hval
  have hlt : ∀ x, x ∈ p → x.block < W.heap.size := fun x hx => hW'.lt x (by rw [hpq]; exact List.mem_append.2 (.inl hx))
  obtain ⟨v0, vs0, d0, ds0, p0, q0, hargs, rfl, rfl, h0, r0⟩ := trodAll_cons hA
  obtain ⟨v1, vs1, d1, ds1, p1, q1, hargs1, rfl, rfl, h1, r1⟩ := trodAll_cons r0
  obtain ⟨v2, vs2, d2, ds2, p2, q2, hargs2, rfl, rfl, h2, r2⟩ := trodAll_cons r1
  obtain ⟨v3, vs3, d3, ds3, p3, q3, hargs3, rfl, rfl, h3, r3⟩ := trodAll_cons r2
  obtain ⟨rfl, rfl, rfl⟩ := trodAll_nil r3
  obtain rfl : args = #[v0, v1, v2, v3] := by cases args; simp_all
  obtain ⟨n0, x0, g0, k0⟩ := param_has kinds (by simp) (hval 0 22 v0 rfl rfl) h0
  obtain ⟨n1, x1, g1, k1⟩ := param_has kinds (by simp) (hval 1 23 v1 rfl rfl) h1
  obtain ⟨n2, x2, g2, k2⟩ := param_has kinds (by simp) (hval 2 25 v2 rfl rfl) h2
  obtain ⟨n3, x3, g3, k3⟩ := param_has kinds (by simp) (hval 3 9 v3 rfl rfl) h3
  obtain ⟨ss, rfl, _, hss⟩ := has_strs g0
  obtain ⟨ks, rfl, hks, _⟩ := has_tys g1
  obtain ⟨t, rfl, ht⟩ := has_ty _ g2
  obtain ⟨s, rfl, _⟩ := g3.str Try.underlying9
  refine ((makes_cp ss ks t s hss hks ht).2 (allS W) W [v0, v1, v2, v3] ⟨fun _ _ h => h, by unfold ghost; simp⟩ ⟨_, _, rfl, k0, _, _, rfl, k1, _, _, rfl, k2, _, _, rfl, k3, rfl⟩).mono ?_
  rintro e W' ⟨v, S', d, rfl, rfl, hb, _, _, hv⟩
  simp only [Pv.Rd] at hv
  subst hv
  exact ⟨_, rfl, hend W' hb⟩

theorem holds : Rows.TyMakesSaid :=
  OpenClaim.holds_of_wide 5 Try.f5 rfl rfl rfl rfl rfl rfl rfl ⟨rfl, rfl, rfl, rfl, rfl⟩ rfl rfl rfl rfl rfl (by kernel_rfl) Try.func5 (by kernel_rfl)
    (of_decide_eq_true (by kernel_rfl)) (by unfold Func.isWrapper; first | (rw [if_pos (by decide +kernel)]; kernel_rfl) | (rw [if_neg (by decide +kernel)]; exact ⟨rfl, rfl⟩))
    (fun os started H enc _ => lifted os started H enc)
end Go.Proofs.Ytbfmaicoefefaaa.makesP
