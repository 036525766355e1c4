/- The program's Put, Seal, Open and All, over data. -/
import Derived.Test.YtbfmaicoefefaaaSbI
set_option linter.unusedSimpArgs false
set_option linter.unusedVariables false
namespace Go.Proofs.Ytbfmaicoefefaaa
open Go.RowKit Pv
set_option maxRecDepth 100000
theorem rowE_done {f : NodeF} {ks : List Ty5} {m : Nat} (j : Nat) (d : D) (h : (tysD (ks.map (trT f)))[j]? = some d) : ∃ row, (rowE f ks m ks.length)[j]? = some row ∧ d = D.agg row := by
  rw [tysD_map, List.map_map, List.getElem?_map, Option.map_eq_some_iff] at h
  obtain ⟨t, ht, rfl⟩ := h
  refine ⟨tyF (trT f t), ?_, tyF_agg _⟩
  have hlt := (List.getElem?_eq_some_iff.1 ht).1
  unfold rowE
  rw [List.take_length, List.getElem?_append_left (by simpa using hlt), List.getElem?_map, ht]
  rfl
theorem made_cp (kf : FuncId) (cap : List D) (hcap : pureL cap = some cap) (f : NodeF) (G : Ty5 → Prop) (hG : ∀ k n nm ls ks, G (.mk k n nm ls ks) → ∀ t ∈ ks, G t) (hI : ∀ k n nm ls ks, G (.mk k n nm ls ks) → CP (TT ()) kf (tyD (.mk k n nm ls ks) :: cap) (· = insP (f k n nm))) :
    ∀ t : Ty5, G t → nodesT t ≤ 1000000 → CP (TT ()) 73 [chD kf cap, tyD t] (· = tyD (trT f t)) := by
  refine ty_ind fun k n nm ls ks ih hg hn => ?_
  have hkn : ks.length ≤ nodesL ks := nodesL_len ks
  simp only [nodesT] at hn
  have c : CW (TT ()) 73 [chD kf cap, tyD (.mk k n nm ls ks)] [] fun d h' => Wk d (tyD (trT f (.mk k n nm ls ks))) ∨ (f k n nm = none ∧ d = .agg [.raw (.int .i64 k), .raw (.int .i64 n), .raw (.string nm), .sl none 1 (ls.map strD), .ms 4 0 ks.length] ∧ ∃ m, h'[4]? = some (.box 25 (rowE f ks m ks.length).flatten)) :=
    wfun_ok (T := TT) (by kernel_rfl) (made_run kf cap hcap f k n nm ls ks (hI _ _ _ _ _ hg) (fun _ => by omega) (fun _ t ht => ih t ht (hG _ _ _ _ _ hg t ht) (by have := nodesL_mem ht; omega)) _ (fun d h' h => .inl h) fun e m h' h => .inr ⟨e, rfl, m, h⟩)
  refine (c.conv (R := fun d _ => d = tyD (trT f (.mk k n nm ls ks))) ?_).cp fun d h' h => ⟨d, by rw [h]; exact ty_pure _, h⟩
  rintro d h' (h | ⟨e, rfl, m, h⟩)
  · exact ⟨_, h', fun C w v s r => ⟨C, Fw.refl _ _, s, h C w v r⟩, rfl⟩
  · refine ⟨_, h'.set 4 .dead, fun C w v s r => ?_, rfl⟩
    obtain ⟨C', f', s', hr⟩ := row_still s (n := ks.length) h (rowE_row f ks m ks.length) (tysD (ks.map (trT f))) rowE_done (by rw [tys_len, List.length_map])
    refine ⟨C', f', s', ?_⟩
    rw [tr_none e]
    obtain ⟨vs, rfl, u0, r0, rfl, q0, u1, r1, rfl, q1, u2, r2, rfl, q2, u3, r3, rfl, q3, u4, r4, rfl, q4, q5⟩ := r
    simp only [RdL] at q5
    subst q5
    exact ⟨_, rfl, u0, _, rfl, q0.mono f'.toEv, u1, _, rfl, q1.mono f'.toEv, u2, _, rfl, q2.mono f'.toEv, u3, _, rfl, q3.mono f'.toEv, u4, _, rfl, hr _ q4, rfl⟩
/-- What is made fits: then no list that is copied is long. -/
theorem made_fit (kf : FuncId) (cap : List D) (hcap : pureL cap = some cap) (f : NodeF) (G : Ty5 → Prop) (hG : ∀ k n nm ls ks, G (.mk k n nm ls ks) → ∀ t ∈ ks, G t) (hI : ∀ k n nm ls ks, G (.mk k n nm ls ks) → CP (TT ()) kf (tyD (.mk k n nm ls ks) :: cap) (· = insP (f k n nm))) :
    ∀ t : Ty5, G t → nodesT (trT f t) ≤ 1000000 → CP (TT ()) 73 [chD kf cap, tyD t] (· = tyD (trT f t)) := by
  refine ty_ind fun k n nm ls ks ih hg hn => ?_
  have hkn : f k n nm = none → ks.length ≤ 1000000 ∧ ∀ t ∈ ks, nodesT (trT f t) ≤ 1000000 := fun e => by
    rw [tr_none e] at hn
    simp only [nodesT] at hn
    have h1 := nodesL_len (ks.map (trT f))
    rw [List.length_map] at h1
    exact ⟨by omega, fun t ht => by have := nodesL_mem (List.mem_map_of_mem (f := trT f) ht); omega⟩
  have c : CW (TT ()) 73 [chD kf cap, tyD (.mk k n nm ls ks)] [] fun d h' => Wk d (tyD (trT f (.mk k n nm ls ks))) ∨ (f k n nm = none ∧ d = .agg [.raw (.int .i64 k), .raw (.int .i64 n), .raw (.string nm), .sl none 1 (ls.map strD), .ms 4 0 ks.length] ∧ ∃ m, h'[4]? = some (.box 25 (rowE f ks m ks.length).flatten)) :=
    wfun_ok (T := TT) (by kernel_rfl) (made_run kf cap hcap f k n nm ls ks (hI _ _ _ _ _ hg) (fun e => (hkn e).1) (fun e t ht => ih t ht (hG _ _ _ _ _ hg t ht) ((hkn e).2 t ht)) _ (fun d h' h => .inl h) fun e m h' h => .inr ⟨e, rfl, m, h⟩)
  refine (c.conv (R := fun d _ => d = tyD (trT f (.mk k n nm ls ks))) ?_).cp fun d h' h => ⟨d, by rw [h]; exact ty_pure _, h⟩
  rintro d h' (h | ⟨e, rfl, m, h⟩)
  · exact ⟨_, h', fun C w v s r => ⟨C, Fw.refl _ _, s, h C w v r⟩, rfl⟩
  · refine ⟨_, h'.set 4 .dead, fun C w v s r => ?_, rfl⟩
    obtain ⟨C', f', s', hr⟩ := row_still s (n := ks.length) h (rowE_row f ks m ks.length) (tysD (ks.map (trT f))) rowE_done (by rw [tys_len, List.length_map])
    refine ⟨C', f', s', ?_⟩
    rw [tr_none e]
    obtain ⟨vs, rfl, u0, r0, rfl, q0, u1, r1, rfl, q1, u2, r2, rfl, q2, u3, r3, rfl, q3, u4, r4, rfl, q4, q5⟩ := r
    simp only [RdL] at q5
    subst q5
    exact ⟨_, rfl, u0, _, rfl, q0.mono f'.toEv, u1, _, rfl, q1.mono f'.toEv, u2, _, rfl, q2.mono f'.toEv, u3, _, rfl, q3.mono f'.toEv, u4, _, rfl, hr _ q4, rfl⟩
set_option maxRecDepth 20000 in
set_option maxHeartbeats 4000000 in
theorem pfitting_cp (kf : FuncId) (cap : List D) (hcap : pureL cap = some cap) (f : NodeF) (t : Ty5) (hl : CP (TT ()) 84 [chD kf cap, tyD t, .raw (.int .i64 300)] fun d => ∃ z : Int, d = .raw (.int .i64 z) ∧ LeftZ f t 300 z) (hm : nodesT (trT f t) ≤ 300 → CP (TT ()) 73 [chD kf cap, tyD t] (· = tyD (trT f t))) :
    CP (TT ()) 67 [chD kf cap, tyD t] (· = fitP (trT f t)) := by
  refine c4_runW (fitP_pure _) fun Q hQ => ?_
  have hp := ty_pure t
  have hpu := ty_pure (trT f t)
  have hno : ∀ z, LeftZ f t 300 z → z < 0 → ∀ h', Q (.tup [zeroA, .raw (.bool false)]) h' := fun z hz h h' => hQ _ h' (by
    have hb : fitB (trT f t) = false := decide_eq_false fun h300 => by
      have := hz.yes (by omega)
      omega
    unfold fitP fitT
    rw [hb]
    exact .tup (.cons zero_wk (.refl _)))
  have hyes : ∀ z, LeftZ f t 300 z → 0 ≤ z → ∀ h', Q (.tup [tyD (trT f t), .raw (.bool true)]) h' := fun z hz h h' => hQ _ h' (by
    have hb : fitB (trT f t) = true := decide_eq_true (Classical.byContradiction fun h300 => by
      have := (hz.no (by omega)).2
      omega)
    unfold fitP fitT
    rw [hb]
    exact .refl _)
  have hfit : ∀ z, LeftZ f t 300 z → 0 ≤ z → nodesT (trT f t) ≤ 300 := fun z hz h => Classical.byContradiction fun h300 => by
    have := (hz.no (by omega)).2
    omega
  clear hQ
  unfold zeroA at hno
  generalize trT f t = u at hm hpu hyes hfit
  obtain ⟨k1, n1, m1, L1, K1, f1, _, _⟩ := c4_node t
  obtain ⟨k2, n2, m2, L2, K2, f2, _, _⟩ := c4_node u
  rw [f1] at hl hm hp ⊢
  rw [f2] at hm hpu hyes
  unfold chD at hl hm ⊢
  have hcp : pureD (.agg [.fn (.func kf) [] cap]) = some (.agg [.fn (.func kf) [] cap]) := by simp [pureD, pureL, hcap]
  cbv
  (repeat'((first|(apply zS;kernel_rfl)|(apply zD;decide +kernel)|(apply zE;decide +kernel)|(apply zF;decide +kernel)|(apply zL;decide +kernel)|(apply zM;decide +kernel)|(apply zN;intros)|(apply zO;intros)|(apply zT;omega)|(apply zU;omega)|(apply zP;omega;intros)|(apply zQ;omega;intros)|apply zR);cbv))
  refine CallK.pure hl (cons_pure hcp (cons_pure hp rfl)) ?_
  rintro d ⟨z, rfl, hz⟩
  refine ⟨rfl, ?_⟩
  have hno := hno z hz
  have hyes := hyes z hz
  have hfit := hfit z hz
  clear hz
  cbv
  (repeat'((first|(apply zS;kernel_rfl)|(apply zD;decide +kernel)|(apply zE;decide +kernel)|(apply zF;decide +kernel)|(apply zL;decide +kernel)|(apply zM;decide +kernel)|(apply zN;intros)|(apply zO;intros)|(apply zT;omega)|(apply zU;omega)|(apply zP;omega;intros)|(apply zQ;omega;intros)|apply zR);cbv))
  refine BinK.lss ?_ ?_ <;> intro h0 <;> cbv <;> (repeat'((first|(apply zS;kernel_rfl)|(apply zD;decide +kernel)|(apply zE;decide +kernel)|(apply zF;decide +kernel)|(apply zL;decide +kernel)|(apply zM;decide +kernel)|(apply zN;intros)|(apply zO;intros)|(apply zT;omega)|(apply zU;omega)|(apply zP;omega;intros)|(apply zQ;omega;intros)|apply zR);cbv))
  · exact ⟨hno h0 _⟩
  · have hyes := hyes h0
    refine CallK.one (hm (hfit h0)) (cons_pure hcp (cons_pure hp rfl)) hpu ?_
    cbv
    (repeat'((first|(apply zS;kernel_rfl)|(apply zD;decide +kernel)|(apply zE;decide +kernel)|(apply zF;decide +kernel)|(apply zL;decide +kernel)|(apply zM;decide +kernel)|(apply zN;intros)|(apply zO;intros)|(apply zT;omega)|(apply zU;omega)|(apply zP;omega;intros)|(apply zQ;omega;intros)|apply zR);cbv))
    exact ⟨hyes _⟩
theorem CallK.cellw {T : TP} {k : FuncId} {ds : List D} {h : H} {K : D → H → Prop} (id j : Nat) {t : TypeId} {bs : List D} {d : D} (d' : D) (e : h[id]? = some (.box t bs)) (hd : bs[j]? = some d) (hr : Wk d d') (k1 : CallK T k ds (h.set id (.box t (bs.set j d'))) K) : CallK T k ds h K := by
  obtain ⟨Q, c, hq⟩ := k1.out
  exact ⟨Q, ⟨c.1, fun C w args s r => c.2 C w args (box_weak s d' e hd (hr C w)) r⟩, hq⟩
set_option maxRecDepth 20000 in
set_option maxHeartbeats 4000000 in
theorem pput_len (m : List Bd) (hm : m.length ≤ 1000) (hmo : okB m) (t : Ty5) (hn : lenT t) : CP (TT ()) 37 [tyD t, .sl none 6 (bnsD m)] (· = fitP (putT m t)) := by
  have hcap : pureL [.pe (.sl none 6 (bnsD m)) 0] = some [.pe (.sl none 6 (bnsD m)) 0] := by simp [pureL, pureD, bns_pure]
  have hI : ∀ k n nm ls ks, True → CP (TT ()) 64 (tyD (.mk k n nm ls ks) :: [.pe (.sl none 6 (bnsD m)) 0]) (· = insP (putF m k n nm)) := fun k n nm ls ks _ => put1_cp m (by omega) k n nm ls ks
  have hok : ∀ k n nm u, putF m k n nm = some u → okT u := fun k n nm u e => by
    unfold putF at e
    split at e
    · obtain ⟨p, hp, _, rfl⟩ := findT_mem e
      exact (hmo p hp).2
    · cases e
  have hf := pfitting_cp 64 _ hcap (putF m) t (left_len _ _ hcap _ (fun _ => True) (fun _ _ _ _ _ _ _ _ => trivial) hI hok t trivial hn 300 (by omega) (by omega)) (fun h => made_fit _ _ hcap _ (fun _ => True) (fun _ _ _ _ _ _ _ _ => trivial) hI t trivial (by omega))
  have hpf := fitP_pure (putT m t)
  refine c4_runW (fitP_pure _) fun Q hQ => ?_
  have hQ := fun h' => hQ _ h' (.refl _)
  rw [show trT (putF m) t = putT m t from rfl] at hf
  have hp := ty_pure t
  have hBp := bns_pure m
  unfold fitP at hf hpf hQ
  generalize fitB (putT m t) = b at hf hpf hQ
  generalize fitT (putT m t) = u at hf hpf hQ
  obtain ⟨k1, n1, m1, L1, K1, f1, _, _⟩ := c4_node t
  obtain ⟨k2, n2, m2, L2, K2, f2, _, _⟩ := c4_node u
  rw [f1] at hf hp ⊢
  rw [f2] at hf hpf hQ
  unfold chD at hf
  generalize bnsD m = BS at hf hBp ⊢
  clear hI hcap
  cbv
  (repeat'((first|(apply zS;kernel_rfl)|(apply zD;decide +kernel)|(apply zE;decide +kernel)|(apply zF;decide +kernel)|(apply zL;decide +kernel)|(apply zM;decide +kernel)|(apply zN;intros)|(apply zO;intros)|(apply zT;omega)|(apply zU;omega)|(apply zP;omega;intros)|(apply zQ;omega;intros)|apply zR);cbv))
  refine CallK.still 1 rfl (.inr rfl) ?_
  refine CallK.one hf (by simp [fzL, fzD, pureL, pureD] at hp ⊢; simp [hp, hBp]) hpf ?_
  cbv
  (repeat'((first|(apply zS;kernel_rfl)|(apply zD;decide +kernel)|(apply zE;decide +kernel)|(apply zF;decide +kernel)|(apply zL;decide +kernel)|(apply zM;decide +kernel)|(apply zN;intros)|(apply zO;intros)|(apply zT;omega)|(apply zU;omega)|(apply zP;omega;intros)|(apply zQ;omega;intros)|apply zR);cbv))
  exact ⟨hQ _⟩
theorem pput_cp (m : List Bd) (hm : m.length ≤ 1000) (hmo : okB m) (t : Ty5) (hn : nodesT t ≤ 100000) : CP (TT ()) 37 [tyD t, .sl none 6 (bnsD m)] (· = fitP (putT m t)) := pput_len m hm hmo t (nodes_lenT t (by omega))
/-- Put of any type, however great. -/
theorem pput_any (m : List Bd) (hm : m.length ≤ 1000) (hmo : okB m) (t : Ty5) : CP (TT ()) 37 [tyD t, .sl none 6 (bnsD m)] (· = fitP (putT m t)) :=
  cp_when (callable_at Try.func37 (by kernel_rfl) rfl) (fun S w args r => by
    obtain ⟨v, v', rfl, h, h'⟩ := rdL_two r
    exact rd_lenT t h) fun h => pput_len m hm hmo t h
end Go.Proofs.Ytbfmaicoefefaaa
