/- limbeckref04.Vars over data. -/
import Derived.Test.YtpnfbmhnmhahnaaBdP
namespace Go.Proofs.Ytpnfbmhnmhahnaa
open Go.RowKit Pv
set_option maxRecDepth 100000
mutual
def vrsT : Ty5 → List ByteArray
  | .mk k _ nm _ ks => vrsL (if k = 6 then [nm] else []) ks
def vrsL (a : List ByteArray) : List Ty5 → List ByteArray
  | [] => a
  | t :: r => vrsL ((vrsT t).foldl putL a) r
end
theorem vrsL_fold : ∀ (ks : List Ty5) (a : List ByteArray), vrsL a ks = ks.foldl (fun a t => (vrsT t).foldl putL a) a
  | [], a => by simp [vrsL]
  | t :: r, a => by
    simp only [vrsL, List.foldl_cons]
    exact vrsL_fold r _
theorem putL_len (l : List ByteArray) (s : ByteArray) : (putL l s).length ≤ l.length + 1 := by
  rw [putL_eq]
  exact putR_len s l
theorem foldPut_len : ∀ (m l : List ByteArray), (m.foldl putL l).length ≤ l.length + m.length
  | [], l => by simp
  | s :: r, l => by
    have := foldPut_len r (putL l s)
    have := putL_len l s
    simp only [List.foldl_cons, List.length_cons]
    omega
theorem foldPut_is : ∀ (m N L : List ByteArray), VarsIs N L → VarsIs (N ++ m) (m.foldl putL L)
  | [], N, L, h => by simpa using h
  | s :: r, N, L, h => by
    have := foldPut_is r (N ++ [s]) (putL L s) (varsIs_put h s)
    simpa using this
mutual
theorem vrsT_is : ∀ t : Ty5, VarsIs (namesT t) (vrsT t)
  | .mk k n nm ls ks => by
    have := vrsL_is ks (if k = 6 then [nm] else []) (if k = 6 then [nm] else []) (by split <;> exact ⟨by simp, fun s => Iff.rfl⟩)
    simp only [vrsT, namesT]
    rcases Decidable.em (k = 6) with h | h
    · simpa [h] using this
    · simpa [h] using this
theorem vrsL_is : ∀ (ks : List Ty5) (N L : List ByteArray), VarsIs N L → VarsIs (N ++ namesL ks) (vrsL L ks)
  | [], N, L, h => by simpa [namesL, vrsL] using h
  | t :: r, N, L, h => by
    have h1 := foldPut_is (vrsT t) N L h
    have h2 : VarsIs (N ++ namesT t) ((vrsT t).foldl putL L) := varsIs_of h1 fun s => by
      rw [List.mem_append, List.mem_append, (vrsT_is t).2 s]
    have := vrsL_is r _ _ h2
    simpa [namesL, vrsL] using this
end
mutual
theorem vrsT_len : ∀ t : Ty5, (vrsT t).length ≤ nodesT t
  | .mk k n nm ls ks => by
    have := vrsL_len ks (if k = 6 then [nm] else [])
    have : (if k = 6 then [nm] else ([] : List ByteArray)).length ≤ 1 := by split <;> simp
    simp only [vrsT, nodesT]
    omega
theorem vrsL_len : ∀ (ks : List Ty5) (L : List ByteArray), (vrsL L ks).length ≤ L.length + nodesL ks
  | [], L => by simp [vrsL]
  | t :: r, L => by
    have := vrsL_len r ((vrsT t).foldl putL L)
    have := foldPut_len (vrsT t) L
    have := vrsT_len t
    simp only [vrsL, nodesL]
    omega
end
set_option maxHeartbeats 4000000 in
theorem varsv_run (k n : Int) (nm : ByteArray) (ls : List ByteArray) (ks : List Ty5) (hn : 1 + nodesL ks ≤ 1000000) (hc : ∀ t ∈ ks, CP (TT ()) 33 [tyD t] (· = .sl none 1 ((vrsT t).map strD)))
    (Q : D → H → Prop) (hQ : ∀ d h', Wk d (.sl none 1 ((vrsT (.mk k n nm ls ks)).map strD)) → Q d h') : wfun TT 33 [tyD (.mk k n nm ls ks)] [] Q := by
  have hQ : ∀ tag h', Q (.sl tag 1 ((vrsL (if k = 6 then [nm] else []) ks).map strD)) h' := fun tag h' => hQ _ h' (untag_any _ _ _)
  have hkl := nodesL_len ks
  have hKl := tys_len ks
  have hKi := tys_idb ks
  have hKat := fun i => tys_at (ks := ks) (i := i)
  simp only [tyD]
  have hLi := strs_idb ls
  generalize ls.map strD = LS at hLi ⊢
  generalize tysD ks = KS at hKl hKi hKat ⊢
  cbv
  (repeat'((first|(apply zS;kernel_rfl)|(apply zD;decide +kernel)|(apply zE;decide +kernel)|(apply zF;decide +kernel)|(apply zL;decide +kernel)|(apply zM;decide +kernel)|(apply zN;intros)|(apply zO;intros)|(apply zT;omega)|(apply zU;omega)|(apply zP;omega;intros)|(apply zQ;omega;intros)|apply zR);cbv))
  refine BinK.eql ?_ ?_ <;> intro hk <;> cbv <;> (repeat'((first|(apply zS;kernel_rfl)|(apply zD;decide +kernel)|(apply zE;decide +kernel)|(apply zF;decide +kernel)|(apply zL;decide +kernel)|(apply zM;decide +kernel)|(apply zN;intros)|(apply zO;intros)|(apply zT;omega)|(apply zU;omega)|(apply zP;omega;intros)|(apply zQ;omega;intros)|apply zR);cbv))
  · refine AppK.nilSl el_strs el_strs (by simp only [List.length_cons, List.length_nil]; omega) ?_
    intro L8 n8 hL8 hn8
    cbv
    (repeat'((first|(apply zS;kernel_rfl)|(apply zD;decide +kernel)|(apply zE;decide +kernel)|(apply zF;decide +kernel)|(apply zL;decide +kernel)|(apply zM;decide +kernel)|(apply zN;intros)|(apply zO;intros)|(apply zT;omega)|(apply zU;omega)|(apply zP;omega;intros)|(apply zQ;omega;intros)|apply zR);cbv))
    subst hL8
    refine LoopK.slot 3 (.sl none 1 ([nm].map strD)) rfl (by exact untag_any _ _ _) ?_
    refine LoopK.put (X := Int × List D) (fun x => [(3, .sl none 1 x.2), (4, .raw (.int .i64 x.1))]) (fun _ => []) (fun x => ks.length - x.1.toNat)
      (fun x => 0 ≤ x.1 ∧ x.1.toNat ≤ ks.length ∧ x.2 = (vrsL [nm] (ks.take x.1.toNat)).map strD) (0, ([nm].map strD)) ⟨by simp, by simp, by simp [vrsL]⟩ rfl rfl ?_
    rintro ⟨i, L⟩ N ⟨h0, hi, hL⟩ hN
    simp only at h0 hi hL hN ⊢
    cbv
    (repeat'((first|(apply zS;kernel_rfl)|(apply zD;decide +kernel)|(apply zE;decide +kernel)|(apply zF;decide +kernel)|(apply zL;decide +kernel)|(apply zM;decide +kernel)|(apply zN;intros)|(apply zO;intros)|(apply zT;omega)|(apply zU;omega)|(apply zP;omega;intros)|(apply zQ;omega;intros)|apply zR);cbv))
    refine BinK.lss ?_ ?_ <;> intro hlt <;> cbv <;> (repeat'((first|(apply zS;kernel_rfl)|(apply zD;decide +kernel)|(apply zE;decide +kernel)|(apply zF;decide +kernel)|(apply zL;decide +kernel)|(apply zM;decide +kernel)|(apply zN;intros)|(apply zO;intros)|(apply zT;omega)|(apply zU;omega)|(apply zP;omega;intros)|(apply zQ;omega;intros)|apply zR);cbv))
    · obtain ⟨t, ht, hK⟩ := hKat i.toNat (by omega)
      have hct := hc t (List.mem_of_getElem? ht)
      have hpt := ty_pure t
      have hVp := strs_pure (vrsT t)
      have hVi := strs_idb (vrsT t)
      have hVl : ((vrsT t).map strD).length = (vrsT t).length := by simp
      have hVat := fun i => strs_at (ls := vrsT t) (i := i)
      have hVn := vrsT_len t
      have hnt := nodesL_mem (List.mem_of_getElem? ht)
      obtain ⟨k1, n1, m1, L1, K1, f1, i1, j1⟩ := c4_node t
      rw [f1] at hct hpt hK
      clear f1 hc hQ i1 j1
      generalize (vrsT t).map strD = VS at hct hVp hVi hVl hVat
      refine IdxK.intro h0 hK ?_
      cbv
      (repeat'((first|(apply zS;kernel_rfl)|(apply zD;decide +kernel)|(apply zE;decide +kernel)|(apply zF;decide +kernel)|(apply zL;decide +kernel)|(apply zM;decide +kernel)|(apply zN;intros)|(apply zO;intros)|(apply zT;omega)|(apply zU;omega)|(apply zP;omega;intros)|(apply zQ;omega;intros)|apply zR);cbv))
      refine .one hct (cons_pure hpt rfl) (by simp [pureD, hVp]) ?_
      cbv
      (repeat'((first|(apply zS;kernel_rfl)|(apply zD;decide +kernel)|(apply zE;decide +kernel)|(apply zF;decide +kernel)|(apply zL;decide +kernel)|(apply zM;decide +kernel)|(apply zN;intros)|(apply zO;intros)|(apply zT;omega)|(apply zU;omega)|(apply zP;omega;intros)|(apply zQ;omega;intros)|apply zR);cbv))
      refine LoopK.put (X := Int × List D) (fun x => [(3, .sl none 1 x.2), (6, .raw (.int .i64 x.1))]) (fun _ => []) (fun x => (vrsT t).length - x.1.toNat)
        (fun x => 0 ≤ x.1 ∧ x.1.toNat ≤ (vrsT t).length ∧ x.2 = (((vrsT t).take x.1.toNat).foldl putL (vrsL [nm] (ks.take i.toNat))).map strD) (0, L) ⟨by simp, by simp, by simp [hL]⟩ rfl rfl ?_
      rintro ⟨q, M⟩ N' ⟨g0, gi, hM⟩ gN
      simp only at g0 gi hM gN ⊢
      cbv
      (repeat'((first|(apply zS;kernel_rfl)|(apply zD;decide +kernel)|(apply zE;decide +kernel)|(apply zF;decide +kernel)|(apply zL;decide +kernel)|(apply zM;decide +kernel)|(apply zN;intros)|(apply zO;intros)|(apply zT;omega)|(apply zU;omega)|(apply zP;omega;intros)|(apply zQ;omega;intros)|apply zR);cbv))
      refine BinK.lss ?_ ?_ <;> intro glt <;> cbv <;> (repeat'((first|(apply zS;kernel_rfl)|(apply zD;decide +kernel)|(apply zE;decide +kernel)|(apply zF;decide +kernel)|(apply zL;decide +kernel)|(apply zM;decide +kernel)|(apply zN;intros)|(apply zO;intros)|(apply zT;omega)|(apply zU;omega)|(apply zP;omega;intros)|(apply zQ;omega;intros)|apply zR);cbv))
      · obtain ⟨u, hu, hV⟩ := hVat q.toNat (by omega)
        have hlen : (((vrsT t).take q.toNat).foldl putL (vrsL [nm] (ks.take i.toNat))).length ≤ 140737488355 := by
          have l1 := foldPut_len ((vrsT t).take q.toNat) (vrsL [nm] (ks.take i.toNat))
          have l2 := vrsL_len (ks.take i.toNat) [nm]
          have l3 := nodesL_le ks i.toNat
          simp only [List.length_take, List.length_cons, List.length_nil] at l1 l2
          omega
        have hcp := putv_cp _ hlen u
        have hstep : ∀ r : Int, r = q + 1 → ((vrsT t).take r.toNat).foldl putL (vrsL [nm] (ks.take i.toNat)) = putL (((vrsT t).take q.toNat).foldl putL (vrsL [nm] (ks.take i.toNat))) u := fun r hr => by
          obtain ⟨h1, h2⟩ := List.getElem?_eq_some_iff.1 hu
          rw [show r.toNat = q.toNat + 1 by omega, List.take_succ_eq_append_getElem h1, h2, List.foldl_append]
          rfl
        rw [← hM] at hcp
        have hMp : pureL M = some M := by rw [hM]; exact strs_pure _
        have hRp := strs_pure (putL (((vrsT t).take q.toNat).foldl putL (vrsL [nm] (ks.take i.toNat))) u)
        have hstep : ∀ r : Int, r = q + 1 → (putL (((vrsT t).take q.toNat).foldl putL (vrsL [nm] (ks.take i.toNat))) u).map strD = (((vrsT t).take r.toNat).foldl putL (vrsL [nm] (ks.take i.toNat))).map strD := fun r hr => by rw [hstep r hr]
        clear hlen hM
        generalize (putL (((vrsT t).take q.toNat).foldl putL (vrsL [nm] (ks.take i.toNat))) u).map strD = RS at hcp hRp hstep
        refine IdxK.intro g0 hV ?_
        cbv
        (repeat'((first|(apply zS;kernel_rfl)|(apply zD;decide +kernel)|(apply zE;decide +kernel)|(apply zF;decide +kernel)|(apply zL;decide +kernel)|(apply zM;decide +kernel)|(apply zN;intros)|(apply zO;intros)|(apply zT;omega)|(apply zU;omega)|(apply zP;omega;intros)|(apply zQ;omega;intros)|apply zR);cbv))
        refine .one hcp (cons_pure (by simp [pureD, hMp]) rfl) (by simp [pureD, hRp]) ?_
        cbv
        (repeat'((first|(apply zS;kernel_rfl)|(apply zD;decide +kernel)|(apply zE;decide +kernel)|(apply zF;decide +kernel)|(apply zL;decide +kernel)|(apply zM;decide +kernel)|(apply zN;intros)|(apply zO;intros)|(apply zT;omega)|(apply zU;omega)|(apply zP;omega;intros)|(apply zQ;omega;intros)|apply zR);cbv))
        rename_i r hr
        refine RoundK.next (r, RS) ⟨by omega, by omega, hstep r hr⟩ (by omega) rfl rfl
      · have hq : (vrsT t).take q.toNat = vrsT t := List.take_of_length_le (by omega)
        rw [hq] at hM
        have hstep : ∀ r : Int, r = i + 1 → M = (vrsL [nm] (ks.take r.toNat)).map strD := fun r hr => by
          obtain ⟨h1, h2⟩ := List.getElem?_eq_some_iff.1 ht
          rw [hM, vrsL_fold, vrsL_fold, show r.toNat = i.toNat + 1 by omega, List.take_succ_eq_append_getElem h1, h2, List.foldl_append]
          rfl
        clear hM
        rename_i r hr
        refine RoundK.next (r, M) ⟨by omega, by omega, hstep r hr⟩ (by omega) rfl rfl
    · have hall : ks.take i.toNat = ks := List.take_of_length_le (by omega)
      rw [hall] at hL
      subst hL
      simp only [vrsT, if_pos hk] at hQ
      exact ⟨hQ _ _⟩
  · refine LoopK.slot 3 (.sl none 1 (([] : List ByteArray).map strD)) rfl (by exact nil_any 1) ?_
    refine LoopK.put (X := Int × List D) (fun x => [(3, .sl none 1 x.2), (4, .raw (.int .i64 x.1))]) (fun _ => []) (fun x => ks.length - x.1.toNat)
      (fun x => 0 ≤ x.1 ∧ x.1.toNat ≤ ks.length ∧ x.2 = (vrsL ([] : List ByteArray) (ks.take x.1.toNat)).map strD) (0, (([] : List ByteArray).map strD)) ⟨by simp, by simp, by simp [vrsL]⟩ rfl rfl ?_
    rintro ⟨i, L⟩ N ⟨h0, hi, hL⟩ hN
    simp only at h0 hi hL hN ⊢
    cbv
    (repeat'((first|(apply zS;kernel_rfl)|(apply zD;decide +kernel)|(apply zE;decide +kernel)|(apply zF;decide +kernel)|(apply zL;decide +kernel)|(apply zM;decide +kernel)|(apply zN;intros)|(apply zO;intros)|(apply zT;omega)|(apply zU;omega)|(apply zP;omega;intros)|(apply zQ;omega;intros)|apply zR);cbv))
    refine BinK.lss ?_ ?_ <;> intro hlt <;> cbv <;> (repeat'((first|(apply zS;kernel_rfl)|(apply zD;decide +kernel)|(apply zE;decide +kernel)|(apply zF;decide +kernel)|(apply zL;decide +kernel)|(apply zM;decide +kernel)|(apply zN;intros)|(apply zO;intros)|(apply zT;omega)|(apply zU;omega)|(apply zP;omega;intros)|(apply zQ;omega;intros)|apply zR);cbv))
    · obtain ⟨t, ht, hK⟩ := hKat i.toNat (by omega)
      have hct := hc t (List.mem_of_getElem? ht)
      have hpt := ty_pure t
      have hVp := strs_pure (vrsT t)
      have hVi := strs_idb (vrsT t)
      have hVl : ((vrsT t).map strD).length = (vrsT t).length := by simp
      have hVat := fun i => strs_at (ls := vrsT t) (i := i)
      have hVn := vrsT_len t
      have hnt := nodesL_mem (List.mem_of_getElem? ht)
      obtain ⟨k1, n1, m1, L1, K1, f1, i1, j1⟩ := c4_node t
      rw [f1] at hct hpt hK
      clear f1 hc hQ i1 j1
      generalize (vrsT t).map strD = VS at hct hVp hVi hVl hVat
      refine IdxK.intro h0 hK ?_
      cbv
      (repeat'((first|(apply zS;kernel_rfl)|(apply zD;decide +kernel)|(apply zE;decide +kernel)|(apply zF;decide +kernel)|(apply zL;decide +kernel)|(apply zM;decide +kernel)|(apply zN;intros)|(apply zO;intros)|(apply zT;omega)|(apply zU;omega)|(apply zP;omega;intros)|(apply zQ;omega;intros)|apply zR);cbv))
      refine .one hct (cons_pure hpt rfl) (by simp [pureD, hVp]) ?_
      cbv
      (repeat'((first|(apply zS;kernel_rfl)|(apply zD;decide +kernel)|(apply zE;decide +kernel)|(apply zF;decide +kernel)|(apply zL;decide +kernel)|(apply zM;decide +kernel)|(apply zN;intros)|(apply zO;intros)|(apply zT;omega)|(apply zU;omega)|(apply zP;omega;intros)|(apply zQ;omega;intros)|apply zR);cbv))
      refine LoopK.put (X := Int × List D) (fun x => [(3, .sl none 1 x.2), (6, .raw (.int .i64 x.1))]) (fun _ => []) (fun x => (vrsT t).length - x.1.toNat)
        (fun x => 0 ≤ x.1 ∧ x.1.toNat ≤ (vrsT t).length ∧ x.2 = (((vrsT t).take x.1.toNat).foldl putL (vrsL ([] : List ByteArray) (ks.take i.toNat))).map strD) (0, L) ⟨by simp, by simp, by simp [hL]⟩ rfl rfl ?_
      rintro ⟨q, M⟩ N' ⟨g0, gi, hM⟩ gN
      simp only at g0 gi hM gN ⊢
      cbv
      (repeat'((first|(apply zS;kernel_rfl)|(apply zD;decide +kernel)|(apply zE;decide +kernel)|(apply zF;decide +kernel)|(apply zL;decide +kernel)|(apply zM;decide +kernel)|(apply zN;intros)|(apply zO;intros)|(apply zT;omega)|(apply zU;omega)|(apply zP;omega;intros)|(apply zQ;omega;intros)|apply zR);cbv))
      refine BinK.lss ?_ ?_ <;> intro glt <;> cbv <;> (repeat'((first|(apply zS;kernel_rfl)|(apply zD;decide +kernel)|(apply zE;decide +kernel)|(apply zF;decide +kernel)|(apply zL;decide +kernel)|(apply zM;decide +kernel)|(apply zN;intros)|(apply zO;intros)|(apply zT;omega)|(apply zU;omega)|(apply zP;omega;intros)|(apply zQ;omega;intros)|apply zR);cbv))
      · obtain ⟨u, hu, hV⟩ := hVat q.toNat (by omega)
        have hlen : (((vrsT t).take q.toNat).foldl putL (vrsL ([] : List ByteArray) (ks.take i.toNat))).length ≤ 140737488355 := by
          have l1 := foldPut_len ((vrsT t).take q.toNat) (vrsL ([] : List ByteArray) (ks.take i.toNat))
          have l2 := vrsL_len (ks.take i.toNat) ([] : List ByteArray)
          have l3 := nodesL_le ks i.toNat
          simp only [List.length_take, List.length_cons, List.length_nil] at l1 l2
          omega
        have hcp := putv_cp _ hlen u
        have hstep : ∀ r : Int, r = q + 1 → ((vrsT t).take r.toNat).foldl putL (vrsL ([] : List ByteArray) (ks.take i.toNat)) = putL (((vrsT t).take q.toNat).foldl putL (vrsL ([] : List ByteArray) (ks.take i.toNat))) u := fun r hr => by
          obtain ⟨h1, h2⟩ := List.getElem?_eq_some_iff.1 hu
          rw [show r.toNat = q.toNat + 1 by omega, List.take_succ_eq_append_getElem h1, h2, List.foldl_append]
          rfl
        rw [← hM] at hcp
        have hMp : pureL M = some M := by rw [hM]; exact strs_pure _
        have hRp := strs_pure (putL (((vrsT t).take q.toNat).foldl putL (vrsL ([] : List ByteArray) (ks.take i.toNat))) u)
        have hstep : ∀ r : Int, r = q + 1 → (putL (((vrsT t).take q.toNat).foldl putL (vrsL ([] : List ByteArray) (ks.take i.toNat))) u).map strD = (((vrsT t).take r.toNat).foldl putL (vrsL ([] : List ByteArray) (ks.take i.toNat))).map strD := fun r hr => by rw [hstep r hr]
        clear hlen hM
        generalize (putL (((vrsT t).take q.toNat).foldl putL (vrsL ([] : List ByteArray) (ks.take i.toNat))) u).map strD = RS at hcp hRp hstep
        refine IdxK.intro g0 hV ?_
        cbv
        (repeat'((first|(apply zS;kernel_rfl)|(apply zD;decide +kernel)|(apply zE;decide +kernel)|(apply zF;decide +kernel)|(apply zL;decide +kernel)|(apply zM;decide +kernel)|(apply zN;intros)|(apply zO;intros)|(apply zT;omega)|(apply zU;omega)|(apply zP;omega;intros)|(apply zQ;omega;intros)|apply zR);cbv))
        refine .one hcp (cons_pure (by simp [pureD, hMp]) rfl) (by simp [pureD, hRp]) ?_
        cbv
        (repeat'((first|(apply zS;kernel_rfl)|(apply zD;decide +kernel)|(apply zE;decide +kernel)|(apply zF;decide +kernel)|(apply zL;decide +kernel)|(apply zM;decide +kernel)|(apply zN;intros)|(apply zO;intros)|(apply zT;omega)|(apply zU;omega)|(apply zP;omega;intros)|(apply zQ;omega;intros)|apply zR);cbv))
        rename_i r hr
        refine RoundK.next (r, RS) ⟨by omega, by omega, hstep r hr⟩ (by omega) rfl rfl
      · have hq : (vrsT t).take q.toNat = vrsT t := List.take_of_length_le (by omega)
        rw [hq] at hM
        have hstep : ∀ r : Int, r = i + 1 → M = (vrsL ([] : List ByteArray) (ks.take r.toNat)).map strD := fun r hr => by
          obtain ⟨h1, h2⟩ := List.getElem?_eq_some_iff.1 ht
          rw [hM, vrsL_fold, vrsL_fold, show r.toNat = i.toNat + 1 by omega, List.take_succ_eq_append_getElem h1, h2, List.foldl_append]
          rfl
        clear hM
        rename_i r hr
        refine RoundK.next (r, M) ⟨by omega, by omega, hstep r hr⟩ (by omega) rfl rfl
    · have hall : ks.take i.toNat = ks := List.take_of_length_le (by omega)
      rw [hall] at hL
      subst hL
      simp only [vrsT, if_neg hk] at hQ
      exact ⟨hQ _ _⟩
theorem vrs_pure (t : Ty5) : pureD (.sl none 1 ((vrsT t).map strD)) = some (.sl none 1 ((vrsT t).map strD)) := by
  have h := strs_pure (vrsT t)
  generalize (vrsT t).map strD = L at *
  simp [pureD, h]
theorem varsv_cp : ∀ t : Ty5, nodesT t ≤ 1000000 → CP (TT ()) 33 [tyD t] (· = .sl none 1 ((vrsT t).map strD)) := by
  intro a
  induction hz : szT a using Nat.strongRecOn generalizing a with
  | ind z ih =>
    obtain ⟨k, n, nm, ls, ks⟩ := a
    intro hn
    simp only [nodesT] at hn
    refine c4_runW (vrs_pure _) fun Q hQ => varsv_run k n nm ls ks hn (fun t ht => ih (szT t) ?_ t rfl ?_) Q hQ
    · have := szL_mem ht
      rw [← hz]
      simp only [szT]
      omega
    · have := nodesL_mem ht
      omega
end Go.Proofs.Ytpnfbmhnmhahnaa
