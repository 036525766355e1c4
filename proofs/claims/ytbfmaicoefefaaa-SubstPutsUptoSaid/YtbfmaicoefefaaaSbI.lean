/- The program's transformations: what comes of a type. -/
import Derived.Test.YtbfmaicoefefaaaSbE
set_option linter.unusedSimpArgs false
set_option linter.unusedVariables false
namespace Go.Proofs.Ytbfmaicoefefaaa
open Go.RowKit Pv
set_option maxRecDepth 100000
set_option maxRecDepth 20000 in
set_option maxHeartbeats 4000000 in
theorem clone_nil_any (a : Option Addr) (c : Nat) (w : World) :
    Calls Try.prog 86 #[.slice a 0 c] w fun e w' => ∃ a' c', e = .returned (.slice a' 0 c') ∧ c' ≤ maxLen ∧ Below w.heap.size w w' := by
  obtain ⟨i, z, hi, hz, hs, hb, hzc⟩ := info_ty
  have hu := Try.underlying23
  have q : ∀ (w : World) (a : Option Addr) (n c n' c' : Nat), (binOp .eql 23 (.slice a n c) (.slice none n' c')).run Try.prog w = .ok (.bool a.isNone) w := fun w a n c n' c' => Lib.run_eql_slice_nil w _ _ a n c n' c' hu
  cases a with
  | none =>
    go_enter Try.func86, Try.ntmps86
    go_wp2
    go_ret
    exact ⟨_, _, rfl, Nat.zero_le _, Below.refl _ _⟩
  | some a =>
    go_enter Try.func86, Try.ntmps86
    go_wp2_with (at_builtin; refine wpList_append_own _ rfl _ _ 23 rfl w.heap.size 25 i z 5 80 hu hi hz hs hb (by rw [hzc]; rfl) (by decide) _ _ _ rfl (World.ownsRow_made w #[] 0 (Nat.le_refl _) (Nat.zero_le _) rfl) a 0 c [] rfl rfl (by intro j u hj; simp at hj) (by intro u hu; cases hu) (by unfold maxLen; omega) (by omega) (by simp) ?_)
    intro v' w1 hown hgrow hnil
    obtain ⟨a', c', rfl, h2⟩ : ∃ a' c', v' = .slice a' 0 c' ∧ c' ≤ maxLen := by
      rcases hown.2 with ⟨rfl, _⟩ | ⟨g, cp, cur, rfl, _, _, h1, h2, _⟩
      · exact ⟨_, _, rfl, Nat.zero_le _⟩
      · exact ⟨_, _, rfl, h2⟩
    go_wp2
    go_ret
    exact ⟨a', c', rfl, h2, ((Below.refl _ w).alloc (Nat.le_refl _) _).grown hgrow (by simp) (by intro k hk; simp [Value.ownBlock] at hk; omega)⟩
theorem clone_nil_cp : CP (TT ()) 86 [.sl none 5 []] (· = .sl none 5 []) := by
  refine ⟨callable_at Try.func86 (by kernel_rfl) rfl, fun S w args hS r => ?_⟩
  obtain ⟨v, rfl, hv⟩ := rdL_one r
  obtain ⟨⟨a, cap, rfl, _⟩, _⟩ := hv
  refine (clone_nil_any a cap w).mono ?_
  rintro e w' ⟨a', c', rfl, hc, hb⟩
  exact ⟨_, S, _, rfl, rfl, hb, fun _ _ h => h, fun b o hs => ⟨Nat.lt_of_lt_of_le (hS b o hs) hb.size, fun _ => hs⟩, ⟨⟨a', c', rfl, Nat.zero_le _, hc⟩, fun h => absurd h (by simp), fun _ e => by cases e⟩⟩
/-- The row, when i of its types are done. -/
def rowE (f : NodeF) (ks : List Ty5) (m i : Nat) : List (List D) := (ks.take i).map (fun t => tyF (trT f t)) ++ ((ks.drop i).map tyF ++ List.replicate m zeroF)
theorem rowE_zero (f : NodeF) (ks : List Ty5) (m : Nat) : rowE f ks m 0 = ks.map tyF ++ List.replicate m zeroF := by simp [rowE]
theorem rowE_row (f : NodeF) (ks : List Ty5) (m i : Nat) : ∀ r ∈ rowE f ks m i, r.length = 5 := fun r hr => by
  unfold rowE at hr
  rcases List.mem_append.1 hr with h | h
  · obtain ⟨t, _, rfl⟩ := List.mem_map.1 h
    exact tyF_len _
  rcases List.mem_append.1 h with h | h
  · obtain ⟨t, _, rfl⟩ := List.mem_map.1 h
    exact tyF_len _
  · rw [List.eq_of_mem_replicate h]
    rfl
theorem rowE_at {f : NodeF} {ks : List Ty5} {m i : Nat} {t : Ty5} (h : ks[i]? = some t) : (rowE f ks m i)[i]? = some (tyF t) := by
  obtain ⟨h1, h2⟩ := List.getElem?_eq_some_iff.1 h
  unfold rowE
  rw [List.getElem?_append_right (by simp; omega), show i - ((ks.take i).map (fun t => tyF (trT f t))).length = 0 by simp; omega, List.drop_eq_getElem_cons h1, h2]
  rfl
theorem rowE_set {f : NodeF} {ks : List Ty5} {m i : Nat} {t : Ty5} (h : ks[i]? = some t) : (rowE f ks m i).set i (tyF (trT f t)) = rowE f ks m (i + 1) := by
  obtain ⟨h1, h2⟩ := List.getElem?_eq_some_iff.1 h
  unfold rowE
  rw [List.set_append_right _ _ (by simp; omega), show i - ((ks.take i).map (fun t => tyF (trT f t))).length = 0 by simp; omega, List.drop_eq_getElem_cons h1, h2, List.take_succ_eq_append_getElem h1, h2]
  simp
theorem tyF_idb (t : Ty5) (k : Nat) : idbL k (tyF t) = true := by
  obtain ⟨a, b, c, ls, ks⟩ := t
  simp [tyF, tyD, leavesD, idbL, idb, strs_idb ls, tys_idb ks]
theorem idbL_app (k : Nat) : ∀ a b : List D, idbL k (a ++ b) = (idbL k a && idbL k b)
  | [], b => by simp [idbL]
  | x :: a, b => by simp [idbL, idbL_app k a b, Bool.and_assoc]
theorem idbL_flat {k : Nat} : ∀ {E : List (List D)}, (∀ r ∈ E, idbL k r = true) → idbL k E.flatten = true
  | [], _ => rfl
  | r :: E, h => by
    rw [List.flatten_cons, idbL_app, h r (List.mem_cons_self ..), idbL_flat fun r hr => h r (List.mem_cons_of_mem _ hr)]
    rfl
theorem rowE_idb (f : NodeF) (ks : List Ty5) (m i k : Nat) : idbL k (rowE f ks m i).flatten = true := idbL_flat fun r hr => by
  unfold rowE at hr
  rcases List.mem_append.1 hr with h | h
  · obtain ⟨t, _, rfl⟩ := List.mem_map.1 h
    exact tyF_idb _ _
  rcases List.mem_append.1 h with h | h
  · obtain ⟨t, _, rfl⟩ := List.mem_map.1 h
    exact tyF_idb _ _
  · rw [List.eq_of_mem_replicate h]
    rfl
/-- Where the loop stands. -/
structure MadeI (f : NodeF) (ks : List Ty5) (m : Nat) (i : Int) (E : List D) : Prop where
  i0 : 0 ≤ i
  i1 : i.toNat ≤ ks.length
  row : E = (rowE f ks m i.toNat).flatten
theorem MadeI.next {f : NodeF} {ks : List Ty5} {m : Nat} {i i2 : Int} {E E2 : List D} {t : Ty5} (h : MadeI f ks m i E) (ht : ks[i.toNat]? = some t) (hi : i2 = i + 1) (hE : E2 = ((rowE f ks m i.toNat).set i.toNat (tyF (trT f t))).flatten) : MadeI f ks m i2 E2 := by
  have hlt := (List.getElem?_eq_some_iff.1 ht).1
  obtain ⟨h0, h1, h2⟩ := h
  refine ⟨by omega, by omega, ?_⟩
  rw [hE, rowE_set ht, show i2.toNat = i.toNat + 1 by omega]
set_option maxRecDepth 20000 in
set_option maxHeartbeats 4000000 in
theorem made_run (kf : FuncId) (cap : List D) (hcap : pureL cap = some cap) (f : NodeF) (k n : Int) (nm : ByteArray) (ls : List ByteArray) (ks : List Ty5) (hI : CP (TT ()) kf (tyD (.mk k n nm ls ks) :: cap) (· = insP (f k n nm)))
    (hks : f k n nm = none → ks.length ≤ 1000000) (hc : f k n nm = none → ∀ t ∈ ks, CP (TT ()) 73 [chD kf cap, tyD t] (· = tyD (trT f t)))
    (Q : D → H → Prop) (hQ1 : ∀ d h', Wk d (tyD (trT f (.mk k n nm ls ks))) → Q d h')
    (hQ2 : f k n nm = none → ∀ m h', h'[4]? = some (.box 25 (rowE f ks m ks.length).flatten) → Q (.agg [.raw (.int .i64 k), .raw (.int .i64 n), .raw (.string nm), .sl none 1 (ls.map strD), .ms 4 0 ks.length]) h') :
    wfun TT 73 [chD kf cap, tyD (.mk k n nm ls ks)] [] Q := by
  have hp := ty_pure (.mk k n nm ls ks)
  have hcI := fun m => pure_idbL m _ hcap
  have hLi := strs_idb ls
  have hLp := strs_pure ls
  rcases hf : f k n nm with _ | u
  case some =>
    have hip := insP_pure (some u)
    have hQ : ∀ h', Q (tyD u) h' := fun h' => hQ1 _ h' (by
      rw [tr_some hf]
      exact .refl _)
    rw [hf] at hI
    simp only [insP, Option.getD_some, Option.isSome_some] at hI hip
    obtain ⟨k1, n1, m1, L1, K1, f1, _, _⟩ := c4_node u
    rw [f1] at hI hip hQ
    clear hc hQ1 hQ2
    simp only [tyD] at hI hp ⊢
    unfold chD
    generalize ls.map strD = LS at hI hp ⊢
    generalize tysD ks = KS at hI hp ⊢
    cbv
    (repeat'((first|(apply zS;kernel_rfl)|(apply zD;decide +kernel)|(apply zE;decide +kernel)|(apply zF;decide +kernel)|(apply zL;decide +kernel)|(apply zM;decide +kernel)|(apply zN;intros)|(apply zO;intros)|(apply zT;omega)|(apply zU;omega)|(apply zP;omega;intros)|(apply zQ;omega;intros)|apply zR);cbv))
    refine CallK.one hI (cons_pure hp hcap) hip ?_
    cbv
    (repeat'((first|(apply zS;kernel_rfl)|(apply zD;decide +kernel)|(apply zE;decide +kernel)|(apply zF;decide +kernel)|(apply zL;decide +kernel)|(apply zM;decide +kernel)|(apply zN;intros)|(apply zO;intros)|(apply zT;omega)|(apply zU;omega)|(apply zP;omega;intros)|(apply zQ;omega;intros)|apply zR);cbv))
    exact ⟨hQ _⟩
  have hks := hks hf
  have hc := hc hf
  have hip := insP_pure none
  rw [hf] at hI
  simp only [insP, Option.getD_none, Option.isSome_none, noT] at hI hip
  have hL1 := strs_idb []
  have hK1 := tys_idb []
  by_cases hnil : ks = []
  · subst hnil
    have hcl := clone_nil_cp
    have hQ : ∀ h', Q (.agg [.raw (.int .i64 k), .raw (.int .i64 n), .raw (.string nm), .sl none 1 (ls.map strD), .sl none 5 []]) h' := fun h' => hQ1 _ h' (by
      rw [tr_none hf]
      exact .refl _)
    clear hc hQ1 hQ2
    simp only [tyD, tysD] at hI hp hip hK1 hL1 ⊢
    unfold chD
    generalize ls.map strD = LS at hI hp hQ ⊢
    generalize [].map strD = L1 at hI hip hL1
    cbv
    (repeat'((first|(apply zS;kernel_rfl)|(apply zD;decide +kernel)|(apply zE;decide +kernel)|(apply zF;decide +kernel)|(apply zL;decide +kernel)|(apply zM;decide +kernel)|(apply zN;intros)|(apply zO;intros)|(apply zT;omega)|(apply zU;omega)|(apply zP;omega;intros)|(apply zQ;omega;intros)|apply zR);cbv))
    refine CallK.one hI (cons_pure hp hcap) hip ?_
    cbv
    (repeat'((first|(apply zS;kernel_rfl)|(apply zD;decide +kernel)|(apply zE;decide +kernel)|(apply zF;decide +kernel)|(apply zL;decide +kernel)|(apply zM;decide +kernel)|(apply zN;intros)|(apply zO;intros)|(apply zT;omega)|(apply zU;omega)|(apply zP;omega;intros)|(apply zQ;omega;intros)|apply zR);cbv))
    refine CallK.one hcl rfl rfl ?_
    cbv
    (repeat'((first|(apply zS;kernel_rfl)|(apply zD;decide +kernel)|(apply zE;decide +kernel)|(apply zF;decide +kernel)|(apply zL;decide +kernel)|(apply zM;decide +kernel)|(apply zN;intros)|(apply zO;intros)|(apply zT;omega)|(apply zU;omega)|(apply zP;omega;intros)|(apply zQ;omega;intros)|apply zR);cbv))
    rename_i nl hnl0 hnl
    have hnl : nl = 0 := by simp at hnl; omega
    refine LoopK.put (X := Int) (fun x => [(25, .raw (.int .i64 x))]) (fun _ => []) (fun _ => 0) (fun x => x = 0) 0 rfl rfl rfl ?_
    intro x N hx hN
    cbv
    (repeat'((first|(apply zS;kernel_rfl)|(apply zD;decide +kernel)|(apply zE;decide +kernel)|(apply zF;decide +kernel)|(apply zL;decide +kernel)|(apply zM;decide +kernel)|(apply zN;intros)|(apply zO;intros)|(apply zT;omega)|(apply zU;omega)|(apply zP;omega;intros)|(apply zQ;omega;intros)|apply zR);cbv))
    exact ⟨hQ _⟩
  · have hcl := fun h => clone_cw h ks hnil hks
    clear hQ1
    have hQ2 := hQ2 hf
    simp only [tyD] at hI hp hip ⊢
    unfold chD at hc ⊢
    have hKi := tys_idb ks
    have hKp := tys_pure ks
    generalize ls.map strD = LS at hI hp hLi hLp hQ2 ⊢
    generalize tysD ks = KS at hI hp hcl hKi hKp ⊢
    generalize [].map strD = L1 at hI hip hL1
    generalize tysD [] = K1 at hI hip hK1
    cbv
    (repeat'((first|(apply zS;kernel_rfl)|(apply zD;decide +kernel)|(apply zE;decide +kernel)|(apply zF;decide +kernel)|(apply zL;decide +kernel)|(apply zM;decide +kernel)|(apply zN;intros)|(apply zO;intros)|(apply zT;omega)|(apply zU;omega)|(apply zP;omega;intros)|(apply zQ;omega;intros)|apply zR);cbv))
    refine CallK.one hI (cons_pure hp hcap) hip ?_
    cbv
    (repeat'((first|(apply zS;kernel_rfl)|(apply zD;decide +kernel)|(apply zE;decide +kernel)|(apply zF;decide +kernel)|(apply zL;decide +kernel)|(apply zM;decide +kernel)|(apply zN;intros)|(apply zO;intros)|(apply zT;omega)|(apply zU;omega)|(apply zP;omega;intros)|(apply zQ;omega;intros)|apply zR);cbv))
    refine CallK.mut (hcl _) ?_
    rintro d h' ⟨m, rfl, rfl⟩
    obtain ⟨E0, hE0⟩ : ∃ E0, E0 = (ks.map tyF ++ List.replicate m zeroF).flatten := ⟨_, rfl⟩
    rw [← hE0]
    obtain ⟨nk, hnk⟩ : ∃ nk, nk = ks.length := ⟨_, rfl⟩
    rw [← hnk]
    have hv0 : MadeI f ks m 0 E0 := ⟨by omega, by simp, by rw [hE0, ← rowE_zero f]; rfl⟩
    cbv
    (repeat'((first|(apply zS;kernel_rfl)|(apply zD;decide +kernel)|(apply zE;decide +kernel)|(apply zF;decide +kernel)|(apply zL;decide +kernel)|(apply zM;decide +kernel)|(apply zN;intros)|(apply zO;intros)|(apply zT;omega)|(apply zU;omega)|(apply zP;omega;intros)|(apply zQ;omega;intros)|apply zR);cbv))
    rename_i nl hnl0 hnl
    refine LoopK.put (X := Int × List D) (fun x => [(25, .raw (.int .i64 x.1))]) (fun x => [(4, .box 25 x.2)]) (fun x => ks.length - x.1.toNat) (fun x => MadeI f ks m x.1 x.2) (0, E0) hv0 rfl rfl ?_
    rintro ⟨i, E⟩ N hv hN
    simp only at hv hN ⊢
    have hi0 := hv.i0
    have hi1 := hv.i1
    cbv
    (repeat'((first|(apply zS;kernel_rfl)|(apply zD;decide +kernel)|(apply zE;decide +kernel)|(apply zF;decide +kernel)|(apply zL;decide +kernel)|(apply zM;decide +kernel)|(apply zN;intros)|(apply zO;intros)|(apply zT;omega)|(apply zU;omega)|(apply zP;omega;intros)|(apply zQ;omega;intros)|apply zR);cbv))
    refine BinK.lss ?_ ?_ <;> intro hlt <;> cbv <;> (repeat'((first|(apply zS;kernel_rfl)|(apply zD;decide +kernel)|(apply zE;decide +kernel)|(apply zF;decide +kernel)|(apply zL;decide +kernel)|(apply zM;decide +kernel)|(apply zN;intros)|(apply zO;intros)|(apply zT;omega)|(apply zU;omega)|(apply zP;omega;intros)|(apply zQ;omega;intros)|apply zR);cbv))
    · obtain ⟨t, ht⟩ : ∃ t, ks[i.toNat]? = some t := ⟨_, List.getElem?_eq_getElem (by omega)⟩
      have hct := hc t (List.mem_of_getElem? ht)
      have hpt := ty_pure t
      have hpu := ty_pure (trT f t)
      have hat := rowE_at (f := f) (m := m) ht
      have hrow := rowE_row f ks m i.toNat
      have hE := hv.row
      have hnext := fun i2 E2 => hv.next (i2 := i2) (E2 := E2) ht
      generalize trT f t = u at hct hpu hnext
      obtain ⟨k0, n0, m0, l0, s0⟩ := t
      obtain ⟨k2, n2, m2, l2, s2⟩ := u
      simp only [tyF, tyD, leavesD] at hct hpt hpu hat hnext
      generalize l0.map strD = L0 at hct hpt hat
      generalize tysD s0 = S0 at hct hpt hat
      generalize l2.map strD = L2 at hct hpu hnext
      generalize tysD s2 = S2 at hct hpu hnext
      refine MIdxK.intro hi0 (by omega) ?_
      intro j hj
      cbv
      (repeat'((first|(apply zS;kernel_rfl)|(apply zD;decide +kernel)|(apply zE;decide +kernel)|(apply zF;decide +kernel)|(apply zL;decide +kernel)|(apply zM;decide +kernel)|(apply zN;intros)|(apply zO;intros)|(apply zT;omega)|(apply zU;omega)|(apply zP;omega;intros)|(apply zQ;omega;intros)|apply zR);cbv))
      refine MLoadK.row hE hrow (by rw [hj]; exact hat) rfl ?_
      cbv
      (repeat' (first | (refine Pv.StatK.go (by kernel_rfl) (by kernel_rfl) ?_; cbv) | (refine Pv.DrawK.go 1 (by decide +kernel) ?_; cbv)))
      refine PCallK.one hct (cons_pure (by simp [pureD, pureL, hcap]) (cons_pure hpt rfl)) hpu ?_
      cbv
      refine MIdxK.intro hi0 (by omega) ?_
      intro j2 hj2
      cbv
      (repeat' (first | (refine Pv.StatK.go (by kernel_rfl) (by kernel_rfl) ?_; cbv)))
      refine MStoreK.row hE hrow (by rw [hj2]; exact hat) rfl (by simp) rfl ?_
      intro E2 hE2
      cbv
      (repeat'((first|(apply zS;kernel_rfl)|(apply zD;decide +kernel)|(apply zE;decide +kernel)|(apply zF;decide +kernel)|(apply zL;decide +kernel)|(apply zM;decide +kernel)|(apply zN;intros)|(apply zO;intros)|(apply zT;omega)|(apply zU;omega)|(apply zP;omega;intros)|(apply zQ;omega;intros)|apply zR);cbv))
      rename_i r hr
      have hv2 := hnext r E2 hr (by rw [hE2, hj2]; rfl)
      have hEi : ∀ q, idbL q E2 = true := fun q => by rw [hv2.row]; exact rowE_idb ..
      refine RoundK.forget (r, E2) hv2 ?_ rfl rfl ?_ ?_
      · show ks.length - r.toNat < N
        omega
      · simp [idbL, idb, hcI, hLi, hKi, hL1, hK1, hEi]
      · simp [cellIdb, idbL, idb, hcI, hLi, hKi, hL1, hK1, hEi]
    · have hend : i.toNat = ks.length := by omega
      have hE := hv.row
      rw [hend] at hE
      subst hnk
      exact ⟨hQ2 m _ (by rw [← hE]; rfl)⟩
end Go.Proofs.Ytbfmaicoefefaaa
