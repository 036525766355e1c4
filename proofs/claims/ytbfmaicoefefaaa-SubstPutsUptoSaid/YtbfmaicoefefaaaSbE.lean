/- The program's transformations: how much room is left beside what comes. -/
import Derived.Test.YtbfmaicoefefaaaTyLn
import Derived.Test.YtbfmaicoefefaaaSbD
set_option linter.unusedSimpArgs false
set_option linter.unusedVariables false
namespace Go.Proofs.Ytbfmaicoefefaaa
open Go.RowKit Pv
set_option maxRecDepth 100000
/-- A transformation: what it keeps is a function that captures data. -/
def chD (kf : FuncId) (cap : List D) : D := .agg [.fn (.func kf) [] cap]
structure LeftN (n : Nat) (room z : Int) : Prop where
  yes : (n : Int) ≤ room → z = room - n
  no : room < n → -1000 ≤ z ∧ z < 0
abbrev LeftZ (f : NodeF) (t : Ty5) (room z : Int) : Prop := LeftN (nodesT (trT f t)) room z
/-- How many nodes the first i make. -/
def sumT (f : NodeF) (ks : List Ty5) (i : Nat) : Nat := nodesL ((ks.take i).map (trT f))
theorem sumT_succ {f : NodeF} {ks : List Ty5} {i : Nat} {t : Ty5} (h : ks[i]? = some t) : sumT f ks (i + 1) = sumT f ks i + nodesT (trT f t) := by
  obtain ⟨h1, h2⟩ := List.getElem?_eq_some_iff.1 h
  unfold sumT
  rw [List.take_succ_eq_append_getElem h1, h2, List.map_append, nodesL_app]
  simp [nodesL]
theorem sumT_all (f : NodeF) (ks : List Ty5) : sumT f ks ks.length = nodesL (ks.map (trT f)) := by unfold sumT; rw [List.take_length]
theorem sumT_le (f : NodeF) (ks : List Ty5) (i : Nat) : sumT f ks i ≤ nodesL (ks.map (trT f)) := by
  have h : ks.map (trT f) = (ks.take i).map (trT f) ++ (ks.drop i).map (trT f) := by rw [← List.map_append, List.take_append_drop]
  rw [h, nodesL_app]
  exact Nat.le_add_right _ _
/-- Where the loop stands: i children are counted, r is left. -/
structure LeftI (f : NodeF) (ks : List Ty5) (room i r : Int) : Prop where
  i0 : 0 ≤ i
  i1 : i.toNat ≤ ks.length
  r1 : r ≤ 300
  r2 : -1000 ≤ r
  s1 : (sumT f ks i.toNat : Int) + 1 ≤ room → r = room - (sumT f ks i.toNat + 1)
  s2 : room < (sumT f ks i.toNat : Int) + 1 → r < 0
theorem LeftI.begin (f : NodeF) (ks : List Ty5) {room r : Int} (h0 : 0 ≤ room) (h1 : room ≤ 300) (hr : r = room - 1) : LeftI f ks room 0 r :=
  ⟨by omega, by simp, by omega, by omega, fun _ => by simp [sumT, nodesL]; omega, fun h => by simp [sumT, nodesL] at h; omega⟩
theorem LeftI.stop {f : NodeF} {ks : List Ty5} {room i r : Int} (h : LeftI f ks room i r) (hr : r < 0) : LeftN (nodesL (ks.map (trT f)) + 1) room r := by
  have := sumT_le f ks i.toNat
  obtain ⟨_, _, _, h2, h3, h4⟩ := h
  exact ⟨fun h => by omega, fun _ => ⟨h2, hr⟩⟩
theorem LeftI.next {f : NodeF} {ks : List Ty5} {room i r z i2 : Int} {t : Ty5} (h : LeftI f ks room i r) (ht : ks[i.toNat]? = some t) (hr : 0 ≤ r) (hz : LeftN (nodesT (trT f t)) r z) (hi : i2 = i + 1) : LeftI f ks room i2 z := by
  have hs := sumT_succ (f := f) ht
  have hlt := (List.getElem?_eq_some_iff.1 ht).1
  obtain ⟨h0, h1, h2, h3, h4, h5⟩ := h
  obtain ⟨z1, z2⟩ := hz
  have e2 : i2.toNat = i.toNat + 1 := by omega
  refine ⟨by omega, by omega, by omega, by omega, ?_, ?_⟩
  · rw [e2, hs]
    omega
  · rw [e2, hs]
    omega
theorem LeftI.done {f : NodeF} {ks : List Ty5} {room i r : Int} (h : LeftI f ks room i r) (hi : ks.length ≤ i.toNat) : LeftN (nodesL (ks.map (trT f)) + 1) room r := by
  obtain ⟨h0, h1, h2, h3, h4, h5⟩ := h
  have hall : sumT f ks i.toNat = nodesL (ks.map (trT f)) := by rw [show i.toNat = ks.length by omega, sumT_all]
  rw [hall] at h4 h5
  exact ⟨fun h => by rw [h4 (by omega)]; omega, fun h => ⟨h3, h5 (by omega)⟩⟩
set_option maxRecDepth 20000 in
set_option maxHeartbeats 4000000 in
theorem left_run (kf : FuncId) (cap : List D) (hcap : pureL cap = some cap) (f : NodeF) (k n : Int) (nm : ByteArray) (ls : List ByteArray) (ks : List Ty5) (hI : CP (TT ()) kf (tyD (.mk k n nm ls ks) :: cap) (· = insP (f k n nm))) (hok : ∀ u, f k n nm = some u → okT u)
    (hks : ks.length ≤ 9223372036854775807) (room : Int) (h0 : 0 ≤ room) (h1 : room ≤ 300)
    (hc : ∀ t ∈ ks, ∀ r : Int, 0 ≤ r → r ≤ 300 → CP (TT ()) 84 [chD kf cap, tyD t, .raw (.int .i64 r)] fun d => ∃ z : Int, d = .raw (.int .i64 z) ∧ LeftZ f t r z)
    (Q : D → H → Prop) (hQ : ∀ (z : Int) h', LeftZ f (.mk k n nm ls ks) room z → Q (.raw (.int .i64 z)) h') :
    wfun TT 84 [chD kf cap, tyD (.mk k n nm ls ks), .raw (.int .i64 room)] [] Q := by
  have hp := ty_pure (.mk k n nm ls ks)
  have hcI := fun m => pure_idbL m _ hcap
  have hLi := strs_idb ls
  have hKi := tys_idb ks
  have hKl := tys_len ks
  have hKat := fun i => tys_at (ks := ks) (i := i)
  rcases hf : f k n nm with _ | u
  case' some =>
    have ho := hok u hf
    have cF := pfitsq_cp u ho
    have cN := fun h => pnodesq_cp u ho (Nat.le_trans (h : nodesT u ≤ 300) (by omega))
    have hup := ty_pure u
    have hip := insP_pure (some u)
    have hQ : ∀ (z : Int) h', LeftN (nodesT u) room z → Q (.raw (.int .i64 z)) h' := fun z h' h => hQ z h' (by
      rw [← tr_some hf ls ks] at h
      exact h)
    have hD : decide (nodesT u ≤ 300) = decide (((nodesT u : Nat) : Int) ≤ 300) := by
      rw [Bool.eq_iff_iff, decide_eq_true_iff, decide_eq_true_iff]
      omega
    rw [hD] at cF
    have cN := fun (h : ((nodesT u : Nat) : Int) ≤ 300) => cN (by omega)
    have hQy : ∀ x r : Int, x = nodesT u → x ≤ 300 → r = room - x → ∀ h', Q (.raw (.int .i64 r)) h' := fun x r hx h300 hr h' => hQ r h' ⟨fun h => by omega, fun h => by omega⟩
    have hQn : ∀ x : Int, x = nodesT u → 300 < x → ∀ h', Q (.raw (.int .i64 (-1))) h' := fun x hx h300 h' => hQ (-1) h' ⟨fun h => by omega, fun h => by omega⟩
    obtain ⟨nu, hnu⟩ : ∃ nu : Int, nu = nodesT u := ⟨_, rfl⟩
    have hn0 : 0 ≤ nu := by omega
    have hQy := fun r => hQy nu r hnu
    have hQn := hQn nu hnu
    rw [← hnu] at cF cN
    clear hQ hnu hD
    rw [hf] at hI
    simp only [insP, Option.getD_some, Option.isSome_some] at hI hip
    obtain ⟨k1, n1, m1, L1, K1, f1, _, _⟩ := c4_node u
    rw [f1] at hI hip cF cN hup
  case' none =>
    have hip := insP_pure none
    rw [hf] at hI
    have hQ : ∀ (z : Int) h', LeftN (nodesL (ks.map (trT f)) + 1) room z → Q (.raw (.int .i64 z)) h' := fun z h' h => hQ z h' (by
      rw [LeftZ, tr_none hf]
      simp only [nodesT]
      rw [Nat.add_comm]
      exact h)
    simp only [insP, Option.getD_none, Option.isSome_none, noT, tyD] at hI hip
    have hL1 := strs_idb []
    have hK1 := tys_idb []
    generalize [].map strD = L1 at hI hip hL1
    generalize tysD [] = K1 at hI hip hK1
  all_goals
    simp only [tyD] at hI hp ⊢
    unfold chD at hc ⊢
    generalize ls.map strD = LS at hI hp hLi ⊢
    generalize tysD ks = KS at hI hp hKi hKl hKat ⊢
    cbv
    (repeat'((first|(apply zS;kernel_rfl)|(apply zD;decide +kernel)|(apply zE;decide +kernel)|(apply zF;decide +kernel)|(apply zL;decide +kernel)|(apply zM;decide +kernel)|(apply zN;intros)|(apply zO;intros)|(apply zT;omega)|(apply zU;omega)|(apply zP;omega;intros)|(apply zQ;omega;intros)|apply zR);cbv))
    refine CallK.one hI (cons_pure hp hcap) hip ?_
    cbv
    (repeat'((first|(apply zS;kernel_rfl)|(apply zD;decide +kernel)|(apply zE;decide +kernel)|(apply zF;decide +kernel)|(apply zL;decide +kernel)|(apply zM;decide +kernel)|(apply zN;intros)|(apply zO;intros)|(apply zT;omega)|(apply zU;omega)|(apply zP;omega;intros)|(apply zQ;omega;intros)|apply zR);cbv))
  case none =>
    rename_i r0 hr0 nl hnl0 hnl
    refine LoopK.put (X := Int × Int) (fun x => [(31, .raw (.int .i64 x.1)), (2, .raw (.int .i64 x.2))]) (fun _ => []) (fun x => ks.length - x.1.toNat)
      (fun x => LeftI f ks room x.1 x.2) (0, r0) (LeftI.begin f ks h0 h1 hr0) rfl rfl ?_
    rintro ⟨i, r⟩ N hv hN
    simp only at hv hN ⊢
    have hi0 := hv.i0
    have hi1 := hv.i1
    have hr1 := hv.r1
    cbv
    (repeat'((first|(apply zS;kernel_rfl)|(apply zD;decide +kernel)|(apply zE;decide +kernel)|(apply zF;decide +kernel)|(apply zL;decide +kernel)|(apply zM;decide +kernel)|(apply zN;intros)|(apply zO;intros)|(apply zT;omega)|(apply zU;omega)|(apply zP;omega;intros)|(apply zQ;omega;intros)|apply zR);cbv))
    refine BinK.lss ?_ ?_ <;> intro hlt <;> cbv <;> (repeat'((first|(apply zS;kernel_rfl)|(apply zD;decide +kernel)|(apply zE;decide +kernel)|(apply zF;decide +kernel)|(apply zL;decide +kernel)|(apply zM;decide +kernel)|(apply zN;intros)|(apply zO;intros)|(apply zT;omega)|(apply zU;omega)|(apply zP;omega;intros)|(apply zQ;omega;intros)|apply zR);cbv))
    · obtain ⟨t, ht, hK⟩ := hKat i.toNat (by omega)
      have hct := hc t (List.mem_of_getElem? ht) r
      have hpt := ty_pure t
      obtain ⟨k0, n0, m0, L0, K0, f0, i0, j0⟩ := c4_node t
      rw [f0] at hct hpt hK
      refine IdxK.intro hi0 hK ?_
      cbv
      (repeat'((first|(apply zS;kernel_rfl)|(apply zD;decide +kernel)|(apply zE;decide +kernel)|(apply zF;decide +kernel)|(apply zL;decide +kernel)|(apply zM;decide +kernel)|(apply zN;intros)|(apply zO;intros)|(apply zT;omega)|(apply zU;omega)|(apply zP;omega;intros)|(apply zQ;omega;intros)|apply zR);cbv))
      refine BinK.lss ?_ ?_ <;> intro hr0 <;> cbv <;> (repeat'((first|(apply zS;kernel_rfl)|(apply zD;decide +kernel)|(apply zE;decide +kernel)|(apply zF;decide +kernel)|(apply zL;decide +kernel)|(apply zM;decide +kernel)|(apply zN;intros)|(apply zO;intros)|(apply zT;omega)|(apply zU;omega)|(apply zP;omega;intros)|(apply zQ;omega;intros)|apply zR);cbv))
      · exact ⟨hQ r _ (hv.stop hr0)⟩
      · refine CallK.pure (hct (by omega) (by omega)) (cons_pure (by simp [pureD, pureL, hcap]) (cons_pure hpt rfl)) ?_
        rintro d ⟨z, rfl, hz⟩
        refine ⟨rfl, ?_⟩
        cbv
        (repeat'((first|(apply zS;kernel_rfl)|(apply zD;decide +kernel)|(apply zE;decide +kernel)|(apply zF;decide +kernel)|(apply zL;decide +kernel)|(apply zM;decide +kernel)|(apply zN;intros)|(apply zO;intros)|(apply zT;omega)|(apply zU;omega)|(apply zP;omega;intros)|(apply zQ;omega;intros)|apply zR);cbv))
        rename_i i2 hi2
        refine RoundK.forget (i2, z) (hv.next ht (by omega) hz hi2) ?_ rfl rfl ?_ ?_
        · show ks.length - i2.toNat < N
          omega
        · simp [idbL, idb, hcI, hLi, hKi, i0, j0, hL1, hK1]
        · simp [cellIdb, idbL, idb, hcI, hLi, hKi, i0, j0, hL1, hK1]
    · exact ⟨hQ r _ (hv.done (by omega))⟩
  case some =>
    clear hc
    refine CallK.one cF (cons_pure hup rfl) rfl ?_
    by_cases h300 : nu ≤ 300
    · rw [decide_eq_true h300]
      have cN := cN h300
      cbv
      (repeat'((first|(apply zS;kernel_rfl)|(apply zD;decide +kernel)|(apply zE;decide +kernel)|(apply zF;decide +kernel)|(apply zL;decide +kernel)|(apply zM;decide +kernel)|(apply zN;intros)|(apply zO;intros)|(apply zT;omega)|(apply zU;omega)|(apply zP;omega;intros)|(apply zQ;omega;intros)|apply zR);cbv))
      refine CallK.one cN (cons_pure hup rfl) rfl ?_
      cbv
      (repeat'((first|(apply zS;kernel_rfl)|(apply zD;decide +kernel)|(apply zE;decide +kernel)|(apply zF;decide +kernel)|(apply zL;decide +kernel)|(apply zM;decide +kernel)|(apply zN;intros)|(apply zO;intros)|(apply zT;omega)|(apply zU;omega)|(apply zP;omega;intros)|(apply zQ;omega;intros)|apply zR);cbv))
      rename_i r hr
      have hQy := hQy r h300 hr
      exact ⟨hQy _⟩
    · rw [decide_eq_false h300]
      have hQn := hQn (by omega)
      cbv
      (repeat'((first|(apply zS;kernel_rfl)|(apply zD;decide +kernel)|(apply zE;decide +kernel)|(apply zF;decide +kernel)|(apply zL;decide +kernel)|(apply zM;decide +kernel)|(apply zN;intros)|(apply zO;intros)|(apply zT;omega)|(apply zU;omega)|(apply zP;omega;intros)|(apply zQ;omega;intros)|apply zR);cbv))
      exact ⟨hQn _⟩
theorem left_len (kf : FuncId) (cap : List D) (hcap : pureL cap = some cap) (f : NodeF) (G : Ty5 → Prop) (hG : ∀ k n nm ls ks, G (.mk k n nm ls ks) → ∀ t ∈ ks, G t) (hI : ∀ k n nm ls ks, G (.mk k n nm ls ks) → CP (TT ()) kf (tyD (.mk k n nm ls ks) :: cap) (· = insP (f k n nm))) (hok : ∀ k n nm u, f k n nm = some u → okT u) :
    ∀ t : Ty5, G t → lenT t → ∀ room : Int, 0 ≤ room → room ≤ 300 → CP (TT ()) 84 [chD kf cap, tyD t, .raw (.int .i64 room)] fun d => ∃ z : Int, d = .raw (.int .i64 z) ∧ LeftZ f t room z := by
  refine ty_ind fun k n nm ls ks ih hg hn room h0 h1 => ?_
  obtain ⟨hkn, hkk⟩ := lenT_kids hn
  exact (wfun_ok (T := TT) (by kernel_rfl) (left_run kf cap hcap f k n nm ls ks (hI _ _ _ _ _ hg) (fun u => hok _ _ _ u) hkn room h0 h1 (fun t ht => ih t ht (hG _ _ _ _ _ hg t ht) (hkk t ht)) (fun d _ => ∃ z : Int, d = .raw (.int .i64 z) ∧ LeftZ f (.mk k n nm ls ks) room z) fun z _ h => ⟨z, rfl, h⟩)).cp fun d h' ⟨z, h1, h2⟩ => ⟨d, by rw [h1]; rfl, z, h1, h2⟩
theorem left_cp (kf : FuncId) (cap : List D) (hcap : pureL cap = some cap) (f : NodeF) (G : Ty5 → Prop) (hG : ∀ k n nm ls ks, G (.mk k n nm ls ks) → ∀ t ∈ ks, G t) (hI : ∀ k n nm ls ks, G (.mk k n nm ls ks) → CP (TT ()) kf (tyD (.mk k n nm ls ks) :: cap) (· = insP (f k n nm))) (hok : ∀ k n nm u, f k n nm = some u → okT u) :
    ∀ t : Ty5, G t → nodesT t ≤ 1000000 → ∀ room : Int, 0 ≤ room → room ≤ 300 → CP (TT ()) 84 [chD kf cap, tyD t, .raw (.int .i64 room)] fun d => ∃ z : Int, d = .raw (.int .i64 z) ∧ LeftZ f t room z :=
  fun t hg hn => left_len kf cap hcap f G hG hI hok t hg (nodes_lenT t hn)
end Go.Proofs.Ytbfmaicoefefaaa
