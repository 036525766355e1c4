/- limbeckref14.without, Free and Calls over data. -/
import Derived.Test.YtglefhgcfijiaaaGAi
set_option linter.unusedSimpArgs false
set_option linter.unusedVariables false
set_option maxRecDepth 1000000
set_option maxHeartbeats 40000000
namespace Go.Proofs.Ytglefhgcfijiaaa
open Go.RowKit Pv
theorem without_run (l : List ByteArray) (s : ByteArray) (hl : l.length ≤ 1000000) (Q : D -> H -> Prop) (hQ : ∀ d h',Wk d (.sl none 1 ((l.filter (fun u => !eqS u s)).map strD)) -> Q d h') : wfun TT 42 [.sl none 1 (l.map strD),.raw (.string s)] [] Q := by
 have hLi := strs_idb l
 have hLl : (l.map strD).length = l.length := by simp
 have hat := fun i => strs_at (ls := l) (i := i)
 have hQ : ∀ tag h',Q (.sl tag 1 ((l.filter (fun u => !eqS u s)).map strD)) h' := fun tag h' => hQ _ h' (untag_any _ _ _)
 generalize l.map strD = LS at hLi hLl hat ⊢
 cbv
 (repeat'((first|(apply zS;kernel_rfl)|(apply zD;decide +kernel)|(apply zE;decide +kernel)|(apply zF;decide +kernel)|(apply zL;decide +kernel)|(apply zM;decide +kernel)|(apply zN;intros)|(apply zO;intros)|(apply zT;omega)|(apply zU;omega)|(apply zP;omega;intros)|(apply zQ;omega;intros)|apply zR);cbv))
 refine LoopK.log 5 9 1 rfl ?_
 refine LoopK.put (X := Int × List D × Nat) (fun x => [(5,.sl (some 0) 1 x.2.1),(6,.raw (.int .i64 x.1))]) (fun x => [(0,.log 9 1 x.2.2)]) (fun x => l.length - x.1.toNat)
  (fun x => 0 ≤ x.1 ∧ x.1.toNat ≤ l.length ∧ x.2.1 = ((l.take x.1.toNat).filter (fun u => !eqS u s)).map strD ∧ x.2.2 = x.2.1.length) (0,[],0) ⟨by simp,by simp,rfl,rfl⟩ rfl rfl ?_
 rintro ⟨i,L,nl⟩ N ⟨h0,hi,hL,hnl⟩ hN
 simp only at h0 hi hL hnl hN ⊢
 have hLlen : L.length ≤ 1000000 := by
  rw [hL,List.length_map]
  have := List.length_filter_le (fun u => !eqS u s) (l.take i.toNat)
  rw [List.length_take] at this
  omega
 cbv
 (repeat'((first|(apply zS;kernel_rfl)|(apply zD;decide +kernel)|(apply zE;decide +kernel)|(apply zF;decide +kernel)|(apply zL;decide +kernel)|(apply zM;decide +kernel)|(apply zN;intros)|(apply zO;intros)|(apply zT;omega)|(apply zU;omega)|(apply zP;omega;intros)|(apply zQ;omega;intros)|apply zR);cbv))
 refine BinK.lss ?_ ?_ <;> intro hlt <;> cbv <;> (repeat'((first|(apply zS;kernel_rfl)|(apply zD;decide +kernel)|(apply zE;decide +kernel)|(apply zF;decide +kernel)|(apply zL;decide +kernel)|(apply zM;decide +kernel)|(apply zN;intros)|(apply zO;intros)|(apply zT;omega)|(apply zU;omega)|(apply zP;omega;intros)|(apply zQ;omega;intros)|apply zR);cbv))
 ·obtain ⟨u,hu,hV⟩ := hat i.toNat (by omega)
  have htake : l.take (i.toNat + 1) = l.take i.toNat ++ [u] := by
   obtain ⟨h1,h2⟩ := List.getElem?_eq_some_iff.1 hu
   rw [List.take_succ_eq_append_getElem h1,h2]
  have hyes : u ≠ s -> ∀ r : Int,r = i + 1 -> ((l.take r.toNat).filter (fun u => !eqS u s)).map strD = L ++ [strD u] := fun hne r hr => by
   rw [hL,show r.toNat = i.toNat + 1 by omega,htake,List.filter_append,List.map_append]
   congr 1
   rw [List.filter_cons_of_pos (by rw [Bool.not_eq_true'];exact Bool.eq_false_iff.2 fun e => hne (eqS_eq e))]
   try rfl
  have hno : u = s -> ∀ r : Int,r = i + 1 -> L = ((l.take r.toNat).filter (fun u => !eqS u s)).map strD := fun he r hr => by
   rw [hL,show r.toNat = i.toNat + 1 by omega,htake,List.filter_append,List.map_append]
   rw [List.filter_cons_of_neg (by subst he;simp [eqS])]
   simp
  have hLi2 : ∀ k,idbL k L = true := fun k => pure_idbL k _ (by rw [hL];exact strs_pure _)
  unfold strD at hV
  clear hL hQ htake
  refine IdxK.intro h0 hV ?_
  cbv
  (repeat'((first|(apply zS;kernel_rfl)|(apply zD;decide +kernel)|(apply zE;decide +kernel)|(apply zF;decide +kernel)|(apply zL;decide +kernel)|(apply zM;decide +kernel)|(apply zN;intros)|(apply zO;intros)|(apply zT;omega)|(apply zU;omega)|(apply zP;omega;intros)|(apply zQ;omega;intros)|apply zR);cbv))
  refine BinK.sneq ?_ ?_ <;> intro hs <;> cbv <;> (repeat'((first|(apply zS;kernel_rfl)|(apply zD;decide +kernel)|(apply zE;decide +kernel)|(apply zF;decide +kernel)|(apply zL;decide +kernel)|(apply zM;decide +kernel)|(apply zN;intros)|(apply zO;intros)|(apply zT;omega)|(apply zU;omega)|(apply zP;omega;intros)|(apply zQ;omega;intros)|apply zR);cbv))
  ·have hyes := hyes hs
   refine IdxK.intro h0 hV ?_
   cbv
   (repeat'((first|(apply zS;kernel_rfl)|(apply zD;decide +kernel)|(apply zE;decide +kernel)|(apply zF;decide +kernel)|(apply zL;decide +kernel)|(apply zM;decide +kernel)|(apply zN;intros)|(apply zO;intros)|(apply zT;omega)|(apply zU;omega)|(apply zP;omega;intros)|(apply zQ;omega;intros)|apply zR);cbv))
   refine AppK.sl el_strs el_strs rfl hnl (by simp only [List.length_cons,List.length_nil];omega) ?_
   intro L' nl' hL' hnl'
   cbv
   (repeat'((first|(apply zS;kernel_rfl)|(apply zD;decide +kernel)|(apply zE;decide +kernel)|(apply zF;decide +kernel)|(apply zL;decide +kernel)|(apply zM;decide +kernel)|(apply zN;intros)|(apply zO;intros)|(apply zT;omega)|(apply zU;omega)|(apply zP;omega;intros)|(apply zQ;omega;intros)|apply zR);cbv))
   rename_i r hr
   have hL2 : L' = ((l.take r.toNat).filter (fun u => !eqS u s)).map strD := by rw [hyes r hr];exact hL'
   have hLi3 : ∀ k,idbL k L' = true := fun k => pure_idbL k _ (by rw [hL2];exact strs_pure _)
   refine RoundK.forget (r,L',nl') ⟨by omega,by omega,hL2,hnl'⟩ (by omega) rfl rfl ?_ ?_
   ·simp [idbL,idb,hLi,hLi3]
   ·simp [cellIdb]
  ·rename_i r hr
   have hno := hno hs r hr
   refine RoundK.forget (r,L,nl) ⟨by omega,by omega,hno,hnl⟩ (by omega) rfl rfl ?_ ?_
   ·simp [idbL,idb,hLi,hLi2]
   ·simp [cellIdb]
 ·have hall : l.take i.toNat = l := List.take_of_length_le (by omega)
  rw [hall] at hL
  subst hL
  exact ⟨hQ _ _⟩
theorem without_cp (l : List ByteArray) (s : ByteArray) (hl : l.length ≤ 1000000) : CP (TT ()) 42 [.sl none 1 (l.map strD),.raw (.string s)] (· = .sl none 1 ((l.filter (fun u => !eqS u s)).map strD)) :=
 c4_runW (by simp [pureD,strs_pure]) fun Q hQ => without_run l s hl Q hQ
theorem rfreeE_run (k n : Int) (nm : ByteArray) (hs : Bool) (ts : List Ty5) (ls : List ByteArray) (ks : List Ex7) (hn : 1 + countEL ks ≤ 1000000)
    (hc : ∀ t ∈ ks, CP (TT ()) 21 [exD t] (· = .sl none 1 ((freeE t).map strD)))
    (Q : D -> H -> Prop) (hQ : ∀ d h', Wk d (.sl none 1 ((freeE (.mk k n nm hs ts ls ks)).map strD)) -> Q d h') : wfun TT 21 [exD (.mk k n nm hs ts ls ks)] [] Q := by
  obtain ⟨a0, ha0⟩ : ∃ a0 : List ByteArray, a0 = if k = 4 then [nm] else [] := ⟨_, rfl⟩
  have hal : a0.length ≤ 1 := by rw [ha0]; split <;> simp
  have hQ : ∀ tag h', Q (.sl tag 1 ((freeEL k nm 0 a0 (ks)).map strD)) h' := fun tag h' => hQ _ h' (by
    simp only [freeE]
    rw [← ha0]
    exact untag_any _ _ _)
  have hkl := countEL_len ks
  have hKl := exs_len ks
  have hKi := exs_idb ks
  have hKat := fun i => exs_at (ks := ks) (i := i)
  have hLi := strs_idb ls
  have hTi := tys_idb ts
  simp only [exD]
  generalize ls.map strD = LS at hLi ⊢
  generalize tysD ts = TS at hTi ⊢
  generalize exsD ks = KS at hKl hKi hKat ⊢
  cbv
  (repeat'((first|(apply zS;kernel_rfl)|(apply zD;decide +kernel)|(apply zE;decide +kernel)|(apply zF;decide +kernel)|(apply zL;decide +kernel)|(apply zM;decide +kernel)|(apply zN;intros)|(apply zO;intros)|(apply zT;omega)|(apply zU;omega)|(apply zP;omega;intros)|(apply zQ;omega;intros)|apply zR);cbv))
  refine BinK.eql ?_ ?_ <;> intro hk <;> cbv <;> (repeat'((first|(apply zS;kernel_rfl)|(apply zD;decide +kernel)|(apply zE;decide +kernel)|(apply zF;decide +kernel)|(apply zL;decide +kernel)|(apply zM;decide +kernel)|(apply zN;intros)|(apply zO;intros)|(apply zT;omega)|(apply zU;omega)|(apply zP;omega;intros)|(apply zQ;omega;intros)|apply zR);cbv))
  case' refine_1 =>
    refine AppK.nilSl el_strs el_strs (by simp only [List.length_cons, List.length_nil]; omega) ?_
    intro L8 n8 hL8 hn8
    cbv
    (repeat'((first|(apply zS;kernel_rfl)|(apply zD;decide +kernel)|(apply zE;decide +kernel)|(apply zF;decide +kernel)|(apply zL;decide +kernel)|(apply zM;decide +kernel)|(apply zN;intros)|(apply zO;intros)|(apply zT;omega)|(apply zU;omega)|(apply zP;omega;intros)|(apply zQ;omega;intros)|apply zR);cbv))
    subst hL8
    refine LoopK.slot 3 (.sl none 1 (a0.map strD)) rfl (by rw [ha0, if_pos hk]; exact untag_any _ _ _) ?_
  case' refine_2 => refine LoopK.slot 3 (.sl none 1 (a0.map strD)) rfl (by rw [ha0, if_neg hk]; exact nil_any 1) ?_
  all_goals
    obtain ⟨A0, hA0⟩ : ∃ A0, A0 = a0.map strD := ⟨_, rfl⟩
    rw [← hA0]
    refine LoopK.put (X := Int × List D) (fun x => [(3, .sl none 1 x.2), (4, .raw (.int .i64 x.1))]) (fun _ => []) (fun x => ks.length - x.1.toNat)
      (fun x => 0 ≤ x.1 ∧ x.1.toNat ≤ ks.length ∧ x.2 = (freeEL k nm 0 a0 (ks.take x.1.toNat)).map strD) (0, A0) ⟨by simp, by simp, by simp [freeEL, hA0]⟩ rfl rfl ?_
    rintro ⟨i, L⟩ N ⟨h0, hi, hL⟩ hN
    simp only at h0 hi hL hN ⊢
    cbv
    (repeat'((first|(apply zS;kernel_rfl)|(apply zD;decide +kernel)|(apply zE;decide +kernel)|(apply zF;decide +kernel)|(apply zL;decide +kernel)|(apply zM;decide +kernel)|(apply zN;intros)|(apply zO;intros)|(apply zT;omega)|(apply zU;omega)|(apply zP;omega;intros)|(apply zQ;omega;intros)|apply zR);cbv))
    refine BinK.lss ?_ ?_ <;> intro hlt <;> cbv <;> (repeat'((first|(apply zS;kernel_rfl)|(apply zD;decide +kernel)|(apply zE;decide +kernel)|(apply zF;decide +kernel)|(apply zL;decide +kernel)|(apply zM;decide +kernel)|(apply zN;intros)|(apply zO;intros)|(apply zT;omega)|(apply zU;omega)|(apply zP;omega;intros)|(apply zQ;omega;intros)|apply zR);cbv))
    · obtain ⟨t, ht, hK⟩ := hKat i.toNat (by omega)
      have hct := hc t (List.mem_of_getElem? ht)
      have hpt := ex_pure t
      have hfl := freeE_len t
      have hpart := countEL_part ks (i.toNat + 1)
      have hstp := countEL_step ht
      have hAl : (freeEL k nm 0 a0 (ks.take i.toNat)).length ≤ a0.length + countEL (ks.take i.toNat) := freeEL_len k nm _ 0 a0
      have hnext0 : ∀ r : Int, r = i + 1 -> freeEL k nm 0 a0 (ks.take r.toNat) = (keepF k nm i.toNat (freeE t)).foldl putL (freeEL k nm 0 a0 (ks.take i.toNat)) := fun r hr => by
        rw [show r.toNat = i.toNat + 1 by omega]
        exact freeEL_step ht
      obtain ⟨A, hA⟩ : ∃ A, A = freeEL k nm 0 a0 (ks.take i.toNat) := ⟨_, rfl⟩
      obtain ⟨V, hV⟩ : ∃ V, V = keepF k nm i.toNat (freeE t) := ⟨_, rfl⟩
      have hVl : V.length ≤ countE t := by
        rw [hV]
        exact Nat.le_trans (keepF_len _ _ _ _) hfl
      rw [← hA] at hL hAl hnext0
      rw [← hV] at hnext0
      have hFp := strs_pure (freeE t)
      have hVp := strs_pure V
      have hVSl : (V.map strD).length = V.length := by simp
      have hVat := fun i => strs_at (ls := V) (i := i)
      have hnext : ∀ M : List D, M = (V.foldl putL A).map strD -> ∀ r : Int, r = i + 1 -> M = (freeEL k nm 0 a0 (ks.take r.toNat)).map strD := fun M hM r hr => by rw [hM, hnext0 r hr]
      have hcW := fun (h : k = 7 ∨ (k = 5 ∧ 0 < i)) => show CP (TT ()) 42 [.sl none 1 ((freeE t).map strD), .raw (.string nm)] (· = .sl none 1 (V.map strD)) by
        rw [hV]
        unfold keepF
        rw [if_pos (by omega)]
        exact without_cp (freeE t) nm (by omega)
      have hcS : ¬ (k = 7 ∨ (k = 5 ∧ 0 < i)) -> (freeE t).map strD = V.map strD := fun h => by
        rw [hV]
        unfold keepF
        rw [if_neg (by omega)]
      have hways : (k = 7 ∨ (k = 5 ∧ 0 < i)) ∨ ¬ (k = 7 ∨ (k = 5 ∧ 0 < i)) := Classical.em _
      generalize (freeE t).map strD = FS at hct hFp hcW hcS
      generalize V.map strD = VS at hVp hVSl hVat hcW hcS
      obtain ⟨k1, n1, m1, b1, T1, L1, K1, f1, i1, j1, o1⟩ := ex_node t
      rw [f1] at hct hpt hK
      clear f1 hc hQ i1 j1 o1 hnext0 hV hA
      refine IdxK.intro h0 hK ?_
      cbv
      (repeat'((first|(apply zS;kernel_rfl)|(apply zD;decide +kernel)|(apply zE;decide +kernel)|(apply zF;decide +kernel)|(apply zL;decide +kernel)|(apply zM;decide +kernel)|(apply zN;intros)|(apply zO;intros)|(apply zT;omega)|(apply zU;omega)|(apply zP;omega;intros)|(apply zQ;omega;intros)|apply zR);cbv))
      refine .one hct (cons_pure hpt rfl) (by simp [pureD, hFp]) ?_
      cbv
      rcases hways with hw | hw
      case' inl =>
        have hcW := hcW hw
        rcases hw with hw | hw
        all_goals first
          | (exfalso; omega)
          | ((repeat'((first|(apply zS;kernel_rfl)|(apply zD;decide +kernel)|(apply zE;decide +kernel)|(apply zF;decide +kernel)|(apply zL;decide +kernel)|(apply zM;decide +kernel)|(apply zN;intros)|(apply zO;intros)|(apply zT;omega)|(apply zU;omega)|(apply zP;omega;intros)|(apply zQ;omega;intros)|apply zR|(apply yA;omega)|(apply yB;omega)|(apply yC;omega)|(apply yD;omega)|(apply yE;omega)|(apply yF;omega)|(apply yG;omega)|(apply yH;omega)|(apply yI;omega)|(apply yJ;omega)|(apply yK;omega)|(apply yL;omega)|fail);cbv))
             refine .one hcW (cons_pure (by simp [pureD, hFp]) rfl) (by simp [pureD, hVp]) ?_
             cbv
             (repeat'((first|(apply zS;kernel_rfl)|(apply zD;decide +kernel)|(apply zE;decide +kernel)|(apply zF;decide +kernel)|(apply zL;decide +kernel)|(apply zM;decide +kernel)|(apply zN;intros)|(apply zO;intros)|(apply zT;omega)|(apply zU;omega)|(apply zP;omega;intros)|(apply zQ;omega;intros)|apply zR|(apply yA;omega)|(apply yB;omega)|(apply yC;omega)|(apply yD;omega)|(apply yE;omega)|(apply yF;omega)|(apply yG;omega)|(apply yH;omega)|(apply yI;omega)|(apply yJ;omega)|(apply yK;omega)|(apply yL;omega)|fail);cbv)))
      case' inr =>
        have hcS := hcS hw
        subst hcS
        rcases (show (k ≠ 7 ∧ k = 5 ∧ i ≤ 0) ∨ (k ≠ 7 ∧ k ≠ 5) by omega) with hw | hw
        all_goals first
          | (exfalso; omega)
          | (repeat'((first|(apply zS;kernel_rfl)|(apply zD;decide +kernel)|(apply zE;decide +kernel)|(apply zF;decide +kernel)|(apply zL;decide +kernel)|(apply zM;decide +kernel)|(apply zN;intros)|(apply zO;intros)|(apply zT;omega)|(apply zU;omega)|(apply zP;omega;intros)|(apply zQ;omega;intros)|apply zR|(apply yA;omega)|(apply yB;omega)|(apply yC;omega)|(apply yD;omega)|(apply yE;omega)|(apply yF;omega)|(apply yG;omega)|(apply yH;omega)|(apply yI;omega)|(apply yJ;omega)|(apply yK;omega)|(apply yL;omega)|fail);cbv))
      all_goals
        refine LoopK.put (X := Int × List D) (fun x => [(3, .sl none 1 x.2), (6, .raw (.int .i64 x.1))]) (fun _ => []) (fun x => V.length - x.1.toNat)
          (fun x => 0 ≤ x.1 ∧ x.1.toNat ≤ V.length ∧ x.2 = ((V.take x.1.toNat).foldl putL A).map strD) (0, L) ⟨by simp, by simp, by simp [hL]⟩ rfl rfl ?_
        rintro ⟨q, M⟩ N' ⟨g0, gi, hM⟩ gN
        simp only at g0 gi hM gN ⊢
        cbv
        (repeat'((first|(apply zS;kernel_rfl)|(apply zD;decide +kernel)|(apply zE;decide +kernel)|(apply zF;decide +kernel)|(apply zL;decide +kernel)|(apply zM;decide +kernel)|(apply zN;intros)|(apply zO;intros)|(apply zT;omega)|(apply zU;omega)|(apply zP;omega;intros)|(apply zQ;omega;intros)|apply zR);cbv))
        refine BinK.lss ?_ ?_ <;> intro glt <;> cbv <;> (repeat'((first|(apply zS;kernel_rfl)|(apply zD;decide +kernel)|(apply zE;decide +kernel)|(apply zF;decide +kernel)|(apply zL;decide +kernel)|(apply zM;decide +kernel)|(apply zN;intros)|(apply zO;intros)|(apply zT;omega)|(apply zU;omega)|(apply zP;omega;intros)|(apply zQ;omega;intros)|apply zR);cbv))
        · obtain ⟨u, hu, hV⟩ := hVat q.toNat (by omega)
          have hlen : ((V.take q.toNat).foldl putL A).length ≤ 140737488355 := by
            have l1 := foldPut_len (V.take q.toNat) A
            simp only [List.length_take] at l1
            omega
          have hcp := putv_cp _ hlen u
          have hstep : ∀ r : Int, r = q + 1 -> (putL ((V.take q.toNat).foldl putL A) u).map strD = ((V.take r.toNat).foldl putL A).map strD := fun r hr => by
            obtain ⟨h1, h2⟩ := List.getElem?_eq_some_iff.1 hu
            rw [show r.toNat = q.toNat + 1 by omega, List.take_succ_eq_append_getElem h1, h2, List.foldl_append]
            rfl
          rw [← hM] at hcp
          have hMp : pureL M = some M := by rw [hM]; exact strs_pure _
          have hRp := strs_pure (putL ((V.take q.toNat).foldl putL A) u)
          clear hlen hM hnext
          generalize (putL ((V.take q.toNat).foldl putL A) u).map strD = RS at hcp hRp hstep
          refine IdxK.intro g0 hV ?_
          cbv
          (repeat'((first|(apply zS;kernel_rfl)|(apply zD;decide +kernel)|(apply zE;decide +kernel)|(apply zF;decide +kernel)|(apply zL;decide +kernel)|(apply zM;decide +kernel)|(apply zN;intros)|(apply zO;intros)|(apply zT;omega)|(apply zU;omega)|(apply zP;omega;intros)|(apply zQ;omega;intros)|apply zR);cbv))
          refine .one hcp (cons_pure (by simp [pureD, hMp]) rfl) (by simp [pureD, hRp]) ?_
          cbv
          (repeat'((first|(apply zS;kernel_rfl)|(apply zD;decide +kernel)|(apply zE;decide +kernel)|(apply zF;decide +kernel)|(apply zL;decide +kernel)|(apply zM;decide +kernel)|(apply zN;intros)|(apply zO;intros)|(apply zT;omega)|(apply zU;omega)|(apply zP;omega;intros)|(apply zQ;omega;intros)|apply zR);cbv))
          rename_i r hr
          refine RoundK.next (r, RS) ⟨by omega, by omega, hstep r hr⟩ (by omega) rfl rfl
        · have hq : V.take q.toNat = V := List.take_of_length_le (by omega)
          rw [hq] at hM
          have hnext := hnext M hM
          clear hM
          rename_i r hr
          refine RoundK.next (r, M) ⟨by omega, by omega, hnext r hr⟩ (by omega) rfl rfl
    · have hall : ks.take i.toNat = ks := List.take_of_length_le (by omega)
      rw [hall] at hL
      subst hL
      exact ⟨hQ _ _⟩
theorem rfreeE_cp : ∀ e : Ex7,okE e -> nodesE e ≤ 1000000 -> CP (TT ()) 21 [exD e] (· = .sl none 1 ((freeE e).map strD)) := by
 refine ex_ind fun k n nm hs ts ls ks ih ho hn => c4_runW (by simp [pureD,strs_pure]) fun Q hQ => ?_
 have hcn := count_nodesL ks
 simp only [nodesE] at hn
 refine rfreeE_run k n nm hs ts ls ks (by omega) (fun t ht => ih t ht (okEL_get ho.2.2.2 t ht) ?_) Q hQ
 have := nodesEL_mem ht
 omega
theorem rcallsE_run (k n : Int) (nm : ByteArray) (hs : Bool) (ts : List Ty5) (ls : List ByteArray) (ks : List Ex7) (hn : 1 + countEL ks ≤ 1000000)
  (hc : ∀ t ∈ ks,CP (TT ()) 23 [exD t] (· = .sl none 1 ((callsE t).map strD)))
  (Q : D -> H -> Prop) (hQ : ∀ d h',Wk d (.sl none 1 ((callsE (.mk k n nm hs ts ls ks)).map strD)) -> Q d h') : wfun TT 23 [exD (.mk k n nm hs ts ls ks)] [] Q := by
 obtain ⟨a0,ha0⟩ : ∃ a0 : List ByteArray,a0 = if k = 13 then [nm] else [] := ⟨_,rfl⟩
 have hal : a0.length ≤ 1 := by rw [ha0];split <;> simp
 have hQ : ∀ tag h',Q (.sl tag 1 ((callsEL a0 (ks)).map strD)) h' := fun tag h' => hQ _ h' (by
  simp only [callsE]
  rw [← ha0]
  exact untag_any _ _ _)
 have hkl := countEL_len ks
 have hKl := exs_len ks
 have hKi := exs_idb ks
 have hKat := fun i => exs_at (ks := ks) (i := i)
 have hLi := strs_idb ls
 have hTi := tys_idb ts
 simp only [exD]
 generalize ls.map strD = LS at hLi ⊢
 generalize tysD ts = TS at hTi ⊢
 generalize exsD ks = KS at hKl hKi hKat ⊢
 cbv
 (repeat'((first|(apply zS;kernel_rfl)|(apply zD;decide +kernel)|(apply zE;decide +kernel)|(apply zF;decide +kernel)|(apply zL;decide +kernel)|(apply zM;decide +kernel)|(apply zN;intros)|(apply zO;intros)|(apply zT;omega)|(apply zU;omega)|(apply zP;omega;intros)|(apply zQ;omega;intros)|apply zR);cbv))
 refine BinK.eql ?_ ?_ <;> intro hk <;> cbv <;> (repeat'((first|(apply zS;kernel_rfl)|(apply zD;decide +kernel)|(apply zE;decide +kernel)|(apply zF;decide +kernel)|(apply zL;decide +kernel)|(apply zM;decide +kernel)|(apply zN;intros)|(apply zO;intros)|(apply zT;omega)|(apply zU;omega)|(apply zP;omega;intros)|(apply zQ;omega;intros)|apply zR);cbv))
 case' refine_1 =>
  refine AppK.nilSl el_strs el_strs (by simp only [List.length_cons,List.length_nil];omega) ?_
  intro L8 n8 hL8 hn8
  cbv
  (repeat'((first|(apply zS;kernel_rfl)|(apply zD;decide +kernel)|(apply zE;decide +kernel)|(apply zF;decide +kernel)|(apply zL;decide +kernel)|(apply zM;decide +kernel)|(apply zN;intros)|(apply zO;intros)|(apply zT;omega)|(apply zU;omega)|(apply zP;omega;intros)|(apply zQ;omega;intros)|apply zR);cbv))
  subst hL8
  refine LoopK.slot 3 (.sl none 1 (a0.map strD)) rfl (by rw [ha0,if_pos hk];exact untag_any _ _ _) ?_
 case' refine_2 => refine LoopK.slot 3 (.sl none 1 (a0.map strD)) rfl (by rw [ha0,if_neg hk];exact nil_any 1) ?_
 all_goals
  obtain ⟨A0,hA0⟩ : ∃ A0,A0 = a0.map strD := ⟨_,rfl⟩
  rw [← hA0]
  refine LoopK.put (X := Int × List D) (fun x => [(3,.sl none 1 x.2),(4,.raw (.int .i64 x.1))]) (fun _ => []) (fun x => ks.length - x.1.toNat)
   (fun x => 0 ≤ x.1 ∧ x.1.toNat ≤ ks.length ∧ x.2 = (callsEL a0 (ks.take x.1.toNat)).map strD) (0,A0) ⟨by simp,by simp,by simp [callsEL,hA0]⟩ rfl rfl ?_
  rintro ⟨i,L⟩ N ⟨h0,hi,hL⟩ hN
  simp only at h0 hi hL hN ⊢
  cbv
  (repeat'((first|(apply zS;kernel_rfl)|(apply zD;decide +kernel)|(apply zE;decide +kernel)|(apply zF;decide +kernel)|(apply zL;decide +kernel)|(apply zM;decide +kernel)|(apply zN;intros)|(apply zO;intros)|(apply zT;omega)|(apply zU;omega)|(apply zP;omega;intros)|(apply zQ;omega;intros)|apply zR);cbv))
  refine BinK.lss ?_ ?_ <;> intro hlt <;> cbv <;> (repeat'((first|(apply zS;kernel_rfl)|(apply zD;decide +kernel)|(apply zE;decide +kernel)|(apply zF;decide +kernel)|(apply zL;decide +kernel)|(apply zM;decide +kernel)|(apply zN;intros)|(apply zO;intros)|(apply zT;omega)|(apply zU;omega)|(apply zP;omega;intros)|(apply zQ;omega;intros)|apply zR);cbv))
  ·obtain ⟨t,ht,hK⟩ := hKat i.toNat (by omega)
   have hct := hc t (List.mem_of_getElem? ht)
   have hpt := ex_pure t
   have hfl := callsE_len t
   have hpart := countEL_part ks (i.toNat + 1)
   have hstp := countEL_step ht
   have hAl : (callsEL a0 (ks.take i.toNat)).length ≤ a0.length + countEL (ks.take i.toNat) := callsEL_len _ a0
   have hnext0 : ∀ r : Int,r = i + 1 -> callsEL a0 (ks.take r.toNat) = (callsE t).foldl putL (callsEL a0 (ks.take i.toNat)) := fun r hr => by
    rw [show r.toNat = i.toNat + 1 by omega]
    exact callsEL_step ht
   obtain ⟨A,hA⟩ : ∃ A,A = callsEL a0 (ks.take i.toNat) := ⟨_,rfl⟩
   obtain ⟨V,hV⟩ : ∃ V,V = callsE t := ⟨_,rfl⟩
   have hVl : V.length ≤ countE t := by
    rw [hV]
    exact hfl
   rw [← hA] at hL hAl hnext0
   rw [← hV] at hnext0
   have hFp := strs_pure (callsE t)
   have hVp := strs_pure V
   have hVSl : (V.map strD).length = V.length := by simp
   have hVat := fun i => strs_at (ls := V) (i := i)
   have hnext : ∀ M : List D,M = (V.foldl putL A).map strD -> ∀ r : Int,r = i + 1 -> M = (callsEL a0 (ks.take r.toNat)).map strD := fun M hM r hr => by rw [hM,hnext0 r hr]
   have hVe : (callsE t).map strD = V.map strD := by rw [hV]
   rw [hVe] at hct
   generalize V.map strD = VS at hVp hVSl hVat hct
   clear hVe hFp
   obtain ⟨k1,n1,m1,b1,T1,L1,K1,f1,i1,j1,o1⟩ := ex_node t
   rw [f1] at hct hpt hK
   clear f1 hc hQ i1 j1 o1 hnext0 hV hA
   refine IdxK.intro h0 hK ?_
   cbv
   (repeat'((first|(apply zS;kernel_rfl)|(apply zD;decide +kernel)|(apply zE;decide +kernel)|(apply zF;decide +kernel)|(apply zL;decide +kernel)|(apply zM;decide +kernel)|(apply zN;intros)|(apply zO;intros)|(apply zT;omega)|(apply zU;omega)|(apply zP;omega;intros)|(apply zQ;omega;intros)|apply zR);cbv))
   refine .one hct (cons_pure hpt rfl) (by simp [pureD,hVp]) ?_
   cbv
   (repeat'((first|(apply zS;kernel_rfl)|(apply zD;decide +kernel)|(apply zE;decide +kernel)|(apply zF;decide +kernel)|(apply zL;decide +kernel)|(apply zM;decide +kernel)|(apply zN;intros)|(apply zO;intros)|(apply zT;omega)|(apply zU;omega)|(apply zP;omega;intros)|(apply zQ;omega;intros)|apply zR);cbv))
   all_goals
    refine LoopK.put (X := Int × List D) (fun x => [(3,.sl none 1 x.2),(6,.raw (.int .i64 x.1))]) (fun _ => []) (fun x => V.length - x.1.toNat)
     (fun x => 0 ≤ x.1 ∧ x.1.toNat ≤ V.length ∧ x.2 = ((V.take x.1.toNat).foldl putL A).map strD) (0,L) ⟨by simp,by simp,by simp [hL]⟩ rfl rfl ?_
    rintro ⟨q,M⟩ N' ⟨g0,gi,hM⟩ gN
    simp only at g0 gi hM gN ⊢
    cbv
    (repeat'((first|(apply zS;kernel_rfl)|(apply zD;decide +kernel)|(apply zE;decide +kernel)|(apply zF;decide +kernel)|(apply zL;decide +kernel)|(apply zM;decide +kernel)|(apply zN;intros)|(apply zO;intros)|(apply zT;omega)|(apply zU;omega)|(apply zP;omega;intros)|(apply zQ;omega;intros)|apply zR);cbv))
    refine BinK.lss ?_ ?_ <;> intro glt <;> cbv <;> (repeat'((first|(apply zS;kernel_rfl)|(apply zD;decide +kernel)|(apply zE;decide +kernel)|(apply zF;decide +kernel)|(apply zL;decide +kernel)|(apply zM;decide +kernel)|(apply zN;intros)|(apply zO;intros)|(apply zT;omega)|(apply zU;omega)|(apply zP;omega;intros)|(apply zQ;omega;intros)|apply zR);cbv))
    ·obtain ⟨u,hu,hV⟩ := hVat q.toNat (by omega)
     have hlen : ((V.take q.toNat).foldl putL A).length ≤ 140737488355 := by
      have l1 := foldPut_len (V.take q.toNat) A
      simp only [List.length_take] at l1
      omega
     have hcp := putv_cp _ hlen u
     have hstep : ∀ r : Int,r = q + 1 -> (putL ((V.take q.toNat).foldl putL A) u).map strD = ((V.take r.toNat).foldl putL A).map strD := fun r hr => by
      obtain ⟨h1,h2⟩ := List.getElem?_eq_some_iff.1 hu
      rw [show r.toNat = q.toNat + 1 by omega,List.take_succ_eq_append_getElem h1,h2,List.foldl_append]
      try rfl
     rw [← hM] at hcp
     have hMp : pureL M = some M := by rw [hM];exact strs_pure _
     have hRp := strs_pure (putL ((V.take q.toNat).foldl putL A) u)
     clear hlen hM hnext
     generalize (putL ((V.take q.toNat).foldl putL A) u).map strD = RS at hcp hRp hstep
     refine IdxK.intro g0 hV ?_
     cbv
     (repeat'((first|(apply zS;kernel_rfl)|(apply zD;decide +kernel)|(apply zE;decide +kernel)|(apply zF;decide +kernel)|(apply zL;decide +kernel)|(apply zM;decide +kernel)|(apply zN;intros)|(apply zO;intros)|(apply zT;omega)|(apply zU;omega)|(apply zP;omega;intros)|(apply zQ;omega;intros)|apply zR);cbv))
     refine .one hcp (cons_pure (by simp [pureD,hMp]) rfl) (by simp [pureD,hRp]) ?_
     cbv
     (repeat'((first|(apply zS;kernel_rfl)|(apply zD;decide +kernel)|(apply zE;decide +kernel)|(apply zF;decide +kernel)|(apply zL;decide +kernel)|(apply zM;decide +kernel)|(apply zN;intros)|(apply zO;intros)|(apply zT;omega)|(apply zU;omega)|(apply zP;omega;intros)|(apply zQ;omega;intros)|apply zR);cbv))
     rename_i r hr
     refine RoundK.next (r,RS) ⟨by omega,by omega,hstep r hr⟩ (by omega) rfl rfl
    ·have hq : V.take q.toNat = V := List.take_of_length_le (by omega)
     rw [hq] at hM
     have hnext := hnext M hM
     clear hM
     rename_i r hr
     refine RoundK.next (r,M) ⟨by omega,by omega,hnext r hr⟩ (by omega) rfl rfl
  ·have hall : ks.take i.toNat = ks := List.take_of_length_le (by omega)
   rw [hall] at hL
   subst hL
   exact ⟨hQ _ _⟩
theorem rcallsE_cp : ∀ e : Ex7,okE e -> nodesE e ≤ 1000000 -> CP (TT ()) 23 [exD e] (· = .sl none 1 ((callsE e).map strD)) := by
 refine ex_ind fun k n nm hs ts ls ks ih ho hn => c4_runW (by simp [pureD,strs_pure]) fun Q hQ => ?_
 have hcn := count_nodesL ks
 simp only [nodesE] at hn
 refine rcallsE_run k n nm hs ts ls ks (by omega) (fun t ht => ih t ht (okEL_get ho.2.2.2 t ht) ?_) Q hQ
 have := nodesEL_mem ht
 omega
end Go.Proofs.Ytglefhgcfijiaaa
