/- limbeckref14.own, kind by kind. -/
import Derived.Test.YtglefhgcfijiaaaGAl
set_option linter.unusedSimpArgs false
set_option linter.unusedVariables false
set_option maxRecDepth 1000000
set_option maxHeartbeats 40000000
namespace Go.Proofs.Ytglefhgcfijiaaa
open Go.RowKit Pv
theorem own_run10 (k n : Int) (hk : k = 10) (nm : ByteArray) (hs : Bool) (ts : List Ty5) (ls : List ByteArray) (ks : List Ex7) (ho : okE (.mk k n nm hs ts ls ks)) (hts : ts.length ≤ 1000000) (Q : D -> H -> Prop) (hQ : ∀ h',Q (.raw (.bool (ownE (.mk k n nm hs ts ls ks)))) h') : wfun TT 34 [exD (.mk k n nm hs ts ls ks)] [] Q := by
 have cF := fine14_cp nm ho.1
 have cR := rising14_cp ls ho.2.2.1
 have cT := types14_cp ts ho.2.1 hts
 obtain ⟨zn,hzn,hzn0⟩ : ∃ z : Int,(nm.size : Int) = z ∧ 0 ≤ z := ⟨_,rfl,by omega⟩
 obtain ⟨zl,hzl,hzl0,hzl1⟩ : ∃ z : Int,(ls.length : Int) = z ∧ 0 ≤ z ∧ z.toNat = ls.length := ⟨_,rfl,by omega,by omega⟩
 obtain ⟨zt,hzt,hzt0,hzt1⟩ : ∃ z : Int,(ts.length : Int) = z ∧ 0 ≤ z ∧ z.toNat = ts.length := ⟨_,rfl,by omega,by omega⟩
 obtain ⟨zk,hzk,hzk0,hzk1⟩ : ∃ z : Int,(ks.length : Int) = z ∧ 0 ≤ z ∧ z.toNat = ks.length := ⟨_,rfl,by omega,by omega⟩
 have cS := shape_cp k n nm hs ts ls ks zl hzl0 hzl1
 have he : (nm = ⟨#[]⟩ -> bI14 (eqS nm ⟨#[]⟩) = 1) ∧ (¬ nm = ⟨#[]⟩ -> bI14 (eqS nm ⟨#[]⟩) = 0) := by
  constructor
  ·intro h
   rw [eqS_iff.2 h]
   try rfl
  ·intro h
   rw [show eqS nm ⟨#[]⟩ = false from Bool.eq_false_iff.2 fun e => h (eqS_iff.1 e)]
   try rfl
 simp only [ownE,hzn,hzl,hzt,hzk] at hQ
 generalize bI14 (eqS nm ⟨#[]⟩) = ei at he hQ
 obtain ⟨fi,hf⟩ : ∃ fi,fi = bI14 (fineB nm) := ⟨_,rfl⟩
 obtain ⟨ri,hr⟩ : ∃ ri,ri = bI14 (risingB ls) := ⟨_,rfl⟩
 obtain ⟨ti,ht⟩ : ∃ ti,ti = bI14 (typesB ts) := ⟨_,rfl⟩
 rw [← hf,← hr,← ht] at hQ
 generalize fineB nm = fB at cF hf
 generalize risingB ls = rB at cR hr
 generalize typesB ts = tB at cT ht
 have hLp := strs_pure ls
 have hTp := tys_pure ts
 have hpe : pureL [exD (.mk k n nm hs ts ls ks)] = some [exD (.mk k n nm hs ts ls ks)] := cons_pure (ex_pure _) rfl
 have hLl : (ls.map strD).length = ls.length := by simp
 have hTl := tys_len ts
 have hKl := exs_len ks
 simp only [exD] at cS hpe ⊢
 generalize ls.map strD = LS at cR cS hLp hLl hpe ⊢
 generalize tysD ts = TS at cT cS hTp hTl hpe ⊢
 generalize exsD ks = KS at cS hKl hpe ⊢
 clear ho hts hzl hzt hzk
 have hQy : ownP k n fi ei (bI14 hs) ri ti zn zl zt zk (shI k hs zl).1 (shI k hs zl).2.1 (shI k hs zl).2.2.1 (shI k hs zl).2.2.2 -> ∀ h',Q (.raw (.bool true)) h' := fun h => by
  rw [decide_eq_true h] at hQ
  exact hQ
 have hQn : ¬ ownP k n fi ei (bI14 hs) ri ti zn zl zt zk (shI k hs zl).1 (shI k hs zl).2.1 (shI k hs zl).2.2.1 (shI k hs zl).2.2.2 -> ∀ h',Q (.raw (.bool false)) h' := fun h => by
  rw [decide_eq_false h] at hQ
  exact hQ
 clear hQ
 have hrange : 1 ≤ k ∧ k ≤ 13 := by omega
 unfold ownP at hQy hQn
 unfold quadD at cS
 clear hrange
 subst hk
 cases hs
 case false =>
  simp [shI,bI14] at hQn cS
  cbv
  (repeat'((first|(apply zS;kernel_rfl)|(apply zD;decide +kernel)|(apply zE;decide +kernel)|(apply zF;decide +kernel)|(apply zL;decide +kernel)|(apply zM;decide +kernel)|(apply zN;intros)|(apply zO;intros)|(apply zT;omega)|(apply zU;omega)|(apply zP;omega;intros)|(apply zQ;omega;intros)|apply zR|(apply yA;omega)|(apply yB;omega)|(apply yC;omega)|(apply yD;omega)|(apply yE;omega)|(apply yF;omega)|(apply yG;omega)|(apply yH;omega)|(apply yI;omega)|(apply yJ;omega)|(apply yK;omega)|(apply yL;omega)|fail);cbv))
  refine .one cF rfl rfl ?_
  rcases fB with _ | _ <;> simp [bI14] at hf <;> cbv
  case false =>
   (repeat'((first|(apply zS;kernel_rfl)|(apply zD;decide +kernel)|(apply zE;decide +kernel)|(apply zF;decide +kernel)|(apply zL;decide +kernel)|(apply zM;decide +kernel)|(apply zN;intros)|(apply zO;intros)|(apply zT;omega)|(apply zU;omega)|(apply zP;omega;intros)|(apply zQ;omega;intros)|apply zR|(apply yA;omega)|(apply yB;omega)|(apply yC;omega)|(apply yD;omega)|(apply yE;omega)|(apply yF;omega)|(apply yG;omega)|(apply yH;omega)|(apply yI;omega)|(apply yJ;omega)|(apply yK;omega)|(apply yL;omega)|fail);cbv))
   first | exact ⟨hQn (by omega) _⟩ | exact ⟨hQn _⟩
  (repeat'((first|(apply zS;kernel_rfl)|(apply zD;decide +kernel)|(apply zE;decide +kernel)|(apply zF;decide +kernel)|(apply zL;decide +kernel)|(apply zM;decide +kernel)|(apply zN;intros)|(apply zO;intros)|(apply zT;omega)|(apply zU;omega)|(apply zP;omega;intros)|(apply zQ;omega;intros)|apply zR|(apply yA;omega)|(apply yB;omega)|(apply yC;omega)|(apply yD;omega)|(apply yE;omega)|(apply yF;omega)|(apply yG;omega)|(apply yH;omega)|(apply yI;omega)|(apply yJ;omega)|(apply yK;omega)|(apply yL;omega)|fail);cbv))
  rcases (show n = 0 ∨ n ≠ 0 by omega) with hn0 | hn0
  case inr =>
   (repeat'((first|(apply zS;kernel_rfl)|(apply zD;decide +kernel)|(apply zE;decide +kernel)|(apply zF;decide +kernel)|(apply zL;decide +kernel)|(apply zM;decide +kernel)|(apply zN;intros)|(apply zO;intros)|(apply zT;omega)|(apply zU;omega)|(apply zP;omega;intros)|(apply zQ;omega;intros)|apply zR|(apply yA;omega)|(apply yB;omega)|(apply yC;omega)|(apply yD;omega)|(apply yE;omega)|(apply yF;omega)|(apply yG;omega)|(apply yH;omega)|(apply yI;omega)|(apply yJ;omega)|(apply yK;omega)|(apply yL;omega)|fail);cbv))
   first | exact ⟨hQn (by omega) _⟩ | exact ⟨hQn _⟩
  all_goals
   (repeat'((first|(apply zS;kernel_rfl)|(apply zD;decide +kernel)|(apply zE;decide +kernel)|(apply zF;decide +kernel)|(apply zL;decide +kernel)|(apply zM;decide +kernel)|(apply zN;intros)|(apply zO;intros)|(apply zT;omega)|(apply zU;omega)|(apply zP;omega;intros)|(apply zQ;omega;intros)|apply zR|(apply yA;omega)|(apply yB;omega)|(apply yC;omega)|(apply yD;omega)|(apply yE;omega)|(apply yF;omega)|(apply yG;omega)|(apply yH;omega)|(apply yI;omega)|(apply yJ;omega)|(apply yK;omega)|(apply yL;omega)|fail);cbv))
   refine BinK.gtr ?_ ?_ <;> intro hl0 <;> cbv
   case refine_1 =>
    (repeat'((first|(apply zS;kernel_rfl)|(apply zD;decide +kernel)|(apply zE;decide +kernel)|(apply zF;decide +kernel)|(apply zL;decide +kernel)|(apply zM;decide +kernel)|(apply zN;intros)|(apply zO;intros)|(apply zT;omega)|(apply zU;omega)|(apply zP;omega;intros)|(apply zQ;omega;intros)|apply zR|(apply yA;omega)|(apply yB;omega)|(apply yC;omega)|(apply yD;omega)|(apply yE;omega)|(apply yF;omega)|(apply yG;omega)|(apply yH;omega)|(apply yI;omega)|(apply yJ;omega)|(apply yK;omega)|(apply yL;omega)|fail);cbv))
    first | exact ⟨hQn (by omega) _⟩ | exact ⟨hQn _⟩
   (repeat'((first|(apply zS;kernel_rfl)|(apply zD;decide +kernel)|(apply zE;decide +kernel)|(apply zF;decide +kernel)|(apply zL;decide +kernel)|(apply zM;decide +kernel)|(apply zN;intros)|(apply zO;intros)|(apply zT;omega)|(apply zU;omega)|(apply zP;omega;intros)|(apply zQ;omega;intros)|apply zR|(apply yA;omega)|(apply yB;omega)|(apply yC;omega)|(apply yD;omega)|(apply yE;omega)|(apply yF;omega)|(apply yG;omega)|(apply yH;omega)|(apply yI;omega)|(apply yJ;omega)|(apply yK;omega)|(apply yL;omega)|fail);cbv))
   refine .one cR (by simp [pureL,pureD,hLp]) rfl ?_
   rcases rB with _ | _ <;> simp [bI14] at hr <;> cbv
   case false =>
    (repeat'((first|(apply zS;kernel_rfl)|(apply zD;decide +kernel)|(apply zE;decide +kernel)|(apply zF;decide +kernel)|(apply zL;decide +kernel)|(apply zM;decide +kernel)|(apply zN;intros)|(apply zO;intros)|(apply zT;omega)|(apply zU;omega)|(apply zP;omega;intros)|(apply zQ;omega;intros)|apply zR|(apply yA;omega)|(apply yB;omega)|(apply yC;omega)|(apply yD;omega)|(apply yE;omega)|(apply yF;omega)|(apply yG;omega)|(apply yH;omega)|(apply yI;omega)|(apply yJ;omega)|(apply yK;omega)|(apply yL;omega)|fail);cbv))
    first | exact ⟨hQn (by omega) _⟩ | exact ⟨hQn _⟩
   (repeat'((first|(apply zS;kernel_rfl)|(apply zD;decide +kernel)|(apply zE;decide +kernel)|(apply zF;decide +kernel)|(apply zL;decide +kernel)|(apply zM;decide +kernel)|(apply zN;intros)|(apply zO;intros)|(apply zT;omega)|(apply zU;omega)|(apply zP;omega;intros)|(apply zQ;omega;intros)|apply zR|(apply yA;omega)|(apply yB;omega)|(apply yC;omega)|(apply yD;omega)|(apply yE;omega)|(apply yF;omega)|(apply yG;omega)|(apply yH;omega)|(apply yI;omega)|(apply yJ;omega)|(apply yK;omega)|(apply yL;omega)|fail);cbv))
   refine .one cS hpe rfl ?_
   cbv
   (repeat'((first|(apply zS;kernel_rfl)|(apply zD;decide +kernel)|(apply zE;decide +kernel)|(apply zF;decide +kernel)|(apply zL;decide +kernel)|(apply zM;decide +kernel)|(apply zN;intros)|(apply zO;intros)|(apply zT;omega)|(apply zU;omega)|(apply zP;omega;intros)|(apply zQ;omega;intros)|apply zR|(apply yA;omega)|(apply yB;omega)|(apply yC;omega)|(apply yD;omega)|(apply yE;omega)|(apply yF;omega)|(apply yG;omega)|(apply yH;omega)|(apply yI;omega)|(apply yJ;omega)|(apply yK;omega)|(apply yL;omega)|fail);cbv))
   iterate 6 (all_goals try (first | (refine BinK.leq ?_ ?_ <;> intro _ <;> cbv) | (refine BinK.geq ?_ ?_ <;> intro _ <;> cbv) | (refine .one cT (by simp [pureL,pureD,hTp]) rfl ?_;rcases tB with _ | _ <;> simp [bI14] at ht <;> cbv) | fail);all_goals try (repeat'((first|(apply zS;kernel_rfl)|(apply zD;decide +kernel)|(apply zE;decide +kernel)|(apply zF;decide +kernel)|(apply zL;decide +kernel)|(apply zM;decide +kernel)|(apply zN;intros)|(apply zO;intros)|(apply zT;omega)|(apply zU;omega)|(apply zP;omega;intros)|(apply zQ;omega;intros)|apply zR|(apply yA;omega)|(apply yB;omega)|(apply yC;omega)|(apply yD;omega)|(apply yE;omega)|(apply yF;omega)|(apply yG;omega)|(apply yH;omega)|(apply yI;omega)|(apply yJ;omega)|(apply yK;omega)|(apply yL;omega)|fail);cbv)))
   all_goals first | exact ⟨hQn (by omega) _⟩ | exact ⟨hQn _⟩ | exact ⟨hQy (by simp [shI,bI14] <;> omega) _⟩
 case true =>
  simp [shI,bI14] at hQn cS
  cbv
  (repeat'((first|(apply zS;kernel_rfl)|(apply zD;decide +kernel)|(apply zE;decide +kernel)|(apply zF;decide +kernel)|(apply zL;decide +kernel)|(apply zM;decide +kernel)|(apply zN;intros)|(apply zO;intros)|(apply zT;omega)|(apply zU;omega)|(apply zP;omega;intros)|(apply zQ;omega;intros)|apply zR|(apply yA;omega)|(apply yB;omega)|(apply yC;omega)|(apply yD;omega)|(apply yE;omega)|(apply yF;omega)|(apply yG;omega)|(apply yH;omega)|(apply yI;omega)|(apply yJ;omega)|(apply yK;omega)|(apply yL;omega)|fail);cbv))
  refine .one cF rfl rfl ?_
  rcases fB with _ | _ <;> simp [bI14] at hf <;> cbv
  case false =>
   (repeat'((first|(apply zS;kernel_rfl)|(apply zD;decide +kernel)|(apply zE;decide +kernel)|(apply zF;decide +kernel)|(apply zL;decide +kernel)|(apply zM;decide +kernel)|(apply zN;intros)|(apply zO;intros)|(apply zT;omega)|(apply zU;omega)|(apply zP;omega;intros)|(apply zQ;omega;intros)|apply zR|(apply yA;omega)|(apply yB;omega)|(apply yC;omega)|(apply yD;omega)|(apply yE;omega)|(apply yF;omega)|(apply yG;omega)|(apply yH;omega)|(apply yI;omega)|(apply yJ;omega)|(apply yK;omega)|(apply yL;omega)|fail);cbv))
   first | exact ⟨hQn (by omega) _⟩ | exact ⟨hQn _⟩
  (repeat'((first|(apply zS;kernel_rfl)|(apply zD;decide +kernel)|(apply zE;decide +kernel)|(apply zF;decide +kernel)|(apply zL;decide +kernel)|(apply zM;decide +kernel)|(apply zN;intros)|(apply zO;intros)|(apply zT;omega)|(apply zU;omega)|(apply zP;omega;intros)|(apply zQ;omega;intros)|apply zR|(apply yA;omega)|(apply yB;omega)|(apply yC;omega)|(apply yD;omega)|(apply yE;omega)|(apply yF;omega)|(apply yG;omega)|(apply yH;omega)|(apply yI;omega)|(apply yJ;omega)|(apply yK;omega)|(apply yL;omega)|fail);cbv))
  rcases (show n = 0 ∨ n ≠ 0 by omega) with hn0 | hn0
  case inr =>
   (repeat'((first|(apply zS;kernel_rfl)|(apply zD;decide +kernel)|(apply zE;decide +kernel)|(apply zF;decide +kernel)|(apply zL;decide +kernel)|(apply zM;decide +kernel)|(apply zN;intros)|(apply zO;intros)|(apply zT;omega)|(apply zU;omega)|(apply zP;omega;intros)|(apply zQ;omega;intros)|apply zR|(apply yA;omega)|(apply yB;omega)|(apply yC;omega)|(apply yD;omega)|(apply yE;omega)|(apply yF;omega)|(apply yG;omega)|(apply yH;omega)|(apply yI;omega)|(apply yJ;omega)|(apply yK;omega)|(apply yL;omega)|fail);cbv))
   first | exact ⟨hQn (by omega) _⟩ | exact ⟨hQn _⟩
  all_goals
   (repeat'((first|(apply zS;kernel_rfl)|(apply zD;decide +kernel)|(apply zE;decide +kernel)|(apply zF;decide +kernel)|(apply zL;decide +kernel)|(apply zM;decide +kernel)|(apply zN;intros)|(apply zO;intros)|(apply zT;omega)|(apply zU;omega)|(apply zP;omega;intros)|(apply zQ;omega;intros)|apply zR|(apply yA;omega)|(apply yB;omega)|(apply yC;omega)|(apply yD;omega)|(apply yE;omega)|(apply yF;omega)|(apply yG;omega)|(apply yH;omega)|(apply yI;omega)|(apply yJ;omega)|(apply yK;omega)|(apply yL;omega)|fail);cbv))
   first | exact ⟨hQn (by omega) _⟩ | exact ⟨hQn _⟩
theorem own_run13 (k n : Int) (hk : k = 13) (nm : ByteArray) (hs : Bool) (ts : List Ty5) (ls : List ByteArray) (ks : List Ex7) (ho : okE (.mk k n nm hs ts ls ks)) (hts : ts.length ≤ 1000000) (Q : D -> H -> Prop) (hQ : ∀ h',Q (.raw (.bool (ownE (.mk k n nm hs ts ls ks)))) h') : wfun TT 34 [exD (.mk k n nm hs ts ls ks)] [] Q := by
 have cF := fine14_cp nm ho.1
 have cR := rising14_cp ls ho.2.2.1
 have cT := types14_cp ts ho.2.1 hts
 obtain ⟨zn,hzn,hzn0⟩ : ∃ z : Int,(nm.size : Int) = z ∧ 0 ≤ z := ⟨_,rfl,by omega⟩
 obtain ⟨zl,hzl,hzl0,hzl1⟩ : ∃ z : Int,(ls.length : Int) = z ∧ 0 ≤ z ∧ z.toNat = ls.length := ⟨_,rfl,by omega,by omega⟩
 obtain ⟨zt,hzt,hzt0,hzt1⟩ : ∃ z : Int,(ts.length : Int) = z ∧ 0 ≤ z ∧ z.toNat = ts.length := ⟨_,rfl,by omega,by omega⟩
 obtain ⟨zk,hzk,hzk0,hzk1⟩ : ∃ z : Int,(ks.length : Int) = z ∧ 0 ≤ z ∧ z.toNat = ks.length := ⟨_,rfl,by omega,by omega⟩
 have cS := shape_cp k n nm hs ts ls ks zl hzl0 hzl1
 have he : (nm = ⟨#[]⟩ -> bI14 (eqS nm ⟨#[]⟩) = 1) ∧ (¬ nm = ⟨#[]⟩ -> bI14 (eqS nm ⟨#[]⟩) = 0) := by
  constructor
  ·intro h
   rw [eqS_iff.2 h]
   try rfl
  ·intro h
   rw [show eqS nm ⟨#[]⟩ = false from Bool.eq_false_iff.2 fun e => h (eqS_iff.1 e)]
   try rfl
 simp only [ownE,hzn,hzl,hzt,hzk] at hQ
 generalize bI14 (eqS nm ⟨#[]⟩) = ei at he hQ
 obtain ⟨fi,hf⟩ : ∃ fi,fi = bI14 (fineB nm) := ⟨_,rfl⟩
 obtain ⟨ri,hr⟩ : ∃ ri,ri = bI14 (risingB ls) := ⟨_,rfl⟩
 obtain ⟨ti,ht⟩ : ∃ ti,ti = bI14 (typesB ts) := ⟨_,rfl⟩
 rw [← hf,← hr,← ht] at hQ
 generalize fineB nm = fB at cF hf
 generalize risingB ls = rB at cR hr
 generalize typesB ts = tB at cT ht
 have hLp := strs_pure ls
 have hTp := tys_pure ts
 have hpe : pureL [exD (.mk k n nm hs ts ls ks)] = some [exD (.mk k n nm hs ts ls ks)] := cons_pure (ex_pure _) rfl
 have hLl : (ls.map strD).length = ls.length := by simp
 have hTl := tys_len ts
 have hKl := exs_len ks
 simp only [exD] at cS hpe ⊢
 generalize ls.map strD = LS at cR cS hLp hLl hpe ⊢
 generalize tysD ts = TS at cT cS hTp hTl hpe ⊢
 generalize exsD ks = KS at cS hKl hpe ⊢
 clear ho hts hzl hzt hzk
 have hQy : ownP k n fi ei (bI14 hs) ri ti zn zl zt zk (shI k hs zl).1 (shI k hs zl).2.1 (shI k hs zl).2.2.1 (shI k hs zl).2.2.2 -> ∀ h',Q (.raw (.bool true)) h' := fun h => by
  rw [decide_eq_true h] at hQ
  exact hQ
 have hQn : ¬ ownP k n fi ei (bI14 hs) ri ti zn zl zt zk (shI k hs zl).1 (shI k hs zl).2.1 (shI k hs zl).2.2.1 (shI k hs zl).2.2.2 -> ∀ h',Q (.raw (.bool false)) h' := fun h => by
  rw [decide_eq_false h] at hQ
  exact hQ
 clear hQ
 have hrange : 1 ≤ k ∧ k ≤ 13 := by omega
 unfold ownP at hQy hQn
 unfold quadD at cS
 clear hrange
 subst hk
 cases hs
 case false =>
  simp [shI,bI14] at hQn cS
  cbv
  (repeat'((first|(apply zS;kernel_rfl)|(apply zD;decide +kernel)|(apply zE;decide +kernel)|(apply zF;decide +kernel)|(apply zL;decide +kernel)|(apply zM;decide +kernel)|(apply zN;intros)|(apply zO;intros)|(apply zT;omega)|(apply zU;omega)|(apply zP;omega;intros)|(apply zQ;omega;intros)|apply zR|(apply yA;omega)|(apply yB;omega)|(apply yC;omega)|(apply yD;omega)|(apply yE;omega)|(apply yF;omega)|(apply yG;omega)|(apply yH;omega)|(apply yI;omega)|(apply yJ;omega)|(apply yK;omega)|(apply yL;omega)|fail);cbv))
  refine .one cF rfl rfl ?_
  rcases fB with _ | _ <;> simp [bI14] at hf <;> cbv
  case false =>
   (repeat'((first|(apply zS;kernel_rfl)|(apply zD;decide +kernel)|(apply zE;decide +kernel)|(apply zF;decide +kernel)|(apply zL;decide +kernel)|(apply zM;decide +kernel)|(apply zN;intros)|(apply zO;intros)|(apply zT;omega)|(apply zU;omega)|(apply zP;omega;intros)|(apply zQ;omega;intros)|apply zR|(apply yA;omega)|(apply yB;omega)|(apply yC;omega)|(apply yD;omega)|(apply yE;omega)|(apply yF;omega)|(apply yG;omega)|(apply yH;omega)|(apply yI;omega)|(apply yJ;omega)|(apply yK;omega)|(apply yL;omega)|fail);cbv))
   first | exact ⟨hQn (by omega) _⟩ | exact ⟨hQn _⟩
  (repeat'((first|(apply zS;kernel_rfl)|(apply zD;decide +kernel)|(apply zE;decide +kernel)|(apply zF;decide +kernel)|(apply zL;decide +kernel)|(apply zM;decide +kernel)|(apply zN;intros)|(apply zO;intros)|(apply zT;omega)|(apply zU;omega)|(apply zP;omega;intros)|(apply zQ;omega;intros)|apply zR|(apply yA;omega)|(apply yB;omega)|(apply yC;omega)|(apply yD;omega)|(apply yE;omega)|(apply yF;omega)|(apply yG;omega)|(apply yH;omega)|(apply yI;omega)|(apply yJ;omega)|(apply yK;omega)|(apply yL;omega)|fail);cbv))
  rcases (show n = 0 ∨ n ≠ 0 by omega) with hn0 | hn0
  case inr =>
   (repeat'((first|(apply zS;kernel_rfl)|(apply zD;decide +kernel)|(apply zE;decide +kernel)|(apply zF;decide +kernel)|(apply zL;decide +kernel)|(apply zM;decide +kernel)|(apply zN;intros)|(apply zO;intros)|(apply zT;omega)|(apply zU;omega)|(apply zP;omega;intros)|(apply zQ;omega;intros)|apply zR|(apply yA;omega)|(apply yB;omega)|(apply yC;omega)|(apply yD;omega)|(apply yE;omega)|(apply yF;omega)|(apply yG;omega)|(apply yH;omega)|(apply yI;omega)|(apply yJ;omega)|(apply yK;omega)|(apply yL;omega)|fail);cbv))
   first | exact ⟨hQn (by omega) _⟩ | exact ⟨hQn _⟩
  all_goals
   (repeat'((first|(apply zS;kernel_rfl)|(apply zD;decide +kernel)|(apply zE;decide +kernel)|(apply zF;decide +kernel)|(apply zL;decide +kernel)|(apply zM;decide +kernel)|(apply zN;intros)|(apply zO;intros)|(apply zT;omega)|(apply zU;omega)|(apply zP;omega;intros)|(apply zQ;omega;intros)|apply zR|(apply yA;omega)|(apply yB;omega)|(apply yC;omega)|(apply yD;omega)|(apply yE;omega)|(apply yF;omega)|(apply yG;omega)|(apply yH;omega)|(apply yI;omega)|(apply yJ;omega)|(apply yK;omega)|(apply yL;omega)|fail);cbv))
   refine BinK.gtr ?_ ?_ <;> intro hl0 <;> cbv
   case refine_1 =>
    (repeat'((first|(apply zS;kernel_rfl)|(apply zD;decide +kernel)|(apply zE;decide +kernel)|(apply zF;decide +kernel)|(apply zL;decide +kernel)|(apply zM;decide +kernel)|(apply zN;intros)|(apply zO;intros)|(apply zT;omega)|(apply zU;omega)|(apply zP;omega;intros)|(apply zQ;omega;intros)|apply zR|(apply yA;omega)|(apply yB;omega)|(apply yC;omega)|(apply yD;omega)|(apply yE;omega)|(apply yF;omega)|(apply yG;omega)|(apply yH;omega)|(apply yI;omega)|(apply yJ;omega)|(apply yK;omega)|(apply yL;omega)|fail);cbv))
    first | exact ⟨hQn (by omega) _⟩ | exact ⟨hQn _⟩
   (repeat'((first|(apply zS;kernel_rfl)|(apply zD;decide +kernel)|(apply zE;decide +kernel)|(apply zF;decide +kernel)|(apply zL;decide +kernel)|(apply zM;decide +kernel)|(apply zN;intros)|(apply zO;intros)|(apply zT;omega)|(apply zU;omega)|(apply zP;omega;intros)|(apply zQ;omega;intros)|apply zR|(apply yA;omega)|(apply yB;omega)|(apply yC;omega)|(apply yD;omega)|(apply yE;omega)|(apply yF;omega)|(apply yG;omega)|(apply yH;omega)|(apply yI;omega)|(apply yJ;omega)|(apply yK;omega)|(apply yL;omega)|fail);cbv))
   refine .one cR (by simp [pureL,pureD,hLp]) rfl ?_
   rcases rB with _ | _ <;> simp [bI14] at hr <;> cbv
   case false =>
    (repeat'((first|(apply zS;kernel_rfl)|(apply zD;decide +kernel)|(apply zE;decide +kernel)|(apply zF;decide +kernel)|(apply zL;decide +kernel)|(apply zM;decide +kernel)|(apply zN;intros)|(apply zO;intros)|(apply zT;omega)|(apply zU;omega)|(apply zP;omega;intros)|(apply zQ;omega;intros)|apply zR|(apply yA;omega)|(apply yB;omega)|(apply yC;omega)|(apply yD;omega)|(apply yE;omega)|(apply yF;omega)|(apply yG;omega)|(apply yH;omega)|(apply yI;omega)|(apply yJ;omega)|(apply yK;omega)|(apply yL;omega)|fail);cbv))
    first | exact ⟨hQn (by omega) _⟩ | exact ⟨hQn _⟩
   (repeat'((first|(apply zS;kernel_rfl)|(apply zD;decide +kernel)|(apply zE;decide +kernel)|(apply zF;decide +kernel)|(apply zL;decide +kernel)|(apply zM;decide +kernel)|(apply zN;intros)|(apply zO;intros)|(apply zT;omega)|(apply zU;omega)|(apply zP;omega;intros)|(apply zQ;omega;intros)|apply zR|(apply yA;omega)|(apply yB;omega)|(apply yC;omega)|(apply yD;omega)|(apply yE;omega)|(apply yF;omega)|(apply yG;omega)|(apply yH;omega)|(apply yI;omega)|(apply yJ;omega)|(apply yK;omega)|(apply yL;omega)|fail);cbv))
   refine .one cS hpe rfl ?_
   cbv
   (repeat'((first|(apply zS;kernel_rfl)|(apply zD;decide +kernel)|(apply zE;decide +kernel)|(apply zF;decide +kernel)|(apply zL;decide +kernel)|(apply zM;decide +kernel)|(apply zN;intros)|(apply zO;intros)|(apply zT;omega)|(apply zU;omega)|(apply zP;omega;intros)|(apply zQ;omega;intros)|apply zR|(apply yA;omega)|(apply yB;omega)|(apply yC;omega)|(apply yD;omega)|(apply yE;omega)|(apply yF;omega)|(apply yG;omega)|(apply yH;omega)|(apply yI;omega)|(apply yJ;omega)|(apply yK;omega)|(apply yL;omega)|fail);cbv))
   iterate 6 (all_goals try (first | (refine BinK.leq ?_ ?_ <;> intro _ <;> cbv) | (refine BinK.geq ?_ ?_ <;> intro _ <;> cbv) | (refine .one cT (by simp [pureL,pureD,hTp]) rfl ?_;rcases tB with _ | _ <;> simp [bI14] at ht <;> cbv) | fail);all_goals try (repeat'((first|(apply zS;kernel_rfl)|(apply zD;decide +kernel)|(apply zE;decide +kernel)|(apply zF;decide +kernel)|(apply zL;decide +kernel)|(apply zM;decide +kernel)|(apply zN;intros)|(apply zO;intros)|(apply zT;omega)|(apply zU;omega)|(apply zP;omega;intros)|(apply zQ;omega;intros)|apply zR|(apply yA;omega)|(apply yB;omega)|(apply yC;omega)|(apply yD;omega)|(apply yE;omega)|(apply yF;omega)|(apply yG;omega)|(apply yH;omega)|(apply yI;omega)|(apply yJ;omega)|(apply yK;omega)|(apply yL;omega)|fail);cbv)))
   all_goals first | exact ⟨hQn (by omega) _⟩ | exact ⟨hQn _⟩ | exact ⟨hQy (by simp [shI,bI14] <;> omega) _⟩
 case true =>
  simp [shI,bI14] at hQn cS
  cbv
  (repeat'((first|(apply zS;kernel_rfl)|(apply zD;decide +kernel)|(apply zE;decide +kernel)|(apply zF;decide +kernel)|(apply zL;decide +kernel)|(apply zM;decide +kernel)|(apply zN;intros)|(apply zO;intros)|(apply zT;omega)|(apply zU;omega)|(apply zP;omega;intros)|(apply zQ;omega;intros)|apply zR|(apply yA;omega)|(apply yB;omega)|(apply yC;omega)|(apply yD;omega)|(apply yE;omega)|(apply yF;omega)|(apply yG;omega)|(apply yH;omega)|(apply yI;omega)|(apply yJ;omega)|(apply yK;omega)|(apply yL;omega)|fail);cbv))
  refine .one cF rfl rfl ?_
  rcases fB with _ | _ <;> simp [bI14] at hf <;> cbv
  case false =>
   (repeat'((first|(apply zS;kernel_rfl)|(apply zD;decide +kernel)|(apply zE;decide +kernel)|(apply zF;decide +kernel)|(apply zL;decide +kernel)|(apply zM;decide +kernel)|(apply zN;intros)|(apply zO;intros)|(apply zT;omega)|(apply zU;omega)|(apply zP;omega;intros)|(apply zQ;omega;intros)|apply zR|(apply yA;omega)|(apply yB;omega)|(apply yC;omega)|(apply yD;omega)|(apply yE;omega)|(apply yF;omega)|(apply yG;omega)|(apply yH;omega)|(apply yI;omega)|(apply yJ;omega)|(apply yK;omega)|(apply yL;omega)|fail);cbv))
   first | exact ⟨hQn (by omega) _⟩ | exact ⟨hQn _⟩
  (repeat'((first|(apply zS;kernel_rfl)|(apply zD;decide +kernel)|(apply zE;decide +kernel)|(apply zF;decide +kernel)|(apply zL;decide +kernel)|(apply zM;decide +kernel)|(apply zN;intros)|(apply zO;intros)|(apply zT;omega)|(apply zU;omega)|(apply zP;omega;intros)|(apply zQ;omega;intros)|apply zR|(apply yA;omega)|(apply yB;omega)|(apply yC;omega)|(apply yD;omega)|(apply yE;omega)|(apply yF;omega)|(apply yG;omega)|(apply yH;omega)|(apply yI;omega)|(apply yJ;omega)|(apply yK;omega)|(apply yL;omega)|fail);cbv))
  rcases (show n = 0 ∨ n ≠ 0 by omega) with hn0 | hn0
  case inr =>
   (repeat'((first|(apply zS;kernel_rfl)|(apply zD;decide +kernel)|(apply zE;decide +kernel)|(apply zF;decide +kernel)|(apply zL;decide +kernel)|(apply zM;decide +kernel)|(apply zN;intros)|(apply zO;intros)|(apply zT;omega)|(apply zU;omega)|(apply zP;omega;intros)|(apply zQ;omega;intros)|apply zR|(apply yA;omega)|(apply yB;omega)|(apply yC;omega)|(apply yD;omega)|(apply yE;omega)|(apply yF;omega)|(apply yG;omega)|(apply yH;omega)|(apply yI;omega)|(apply yJ;omega)|(apply yK;omega)|(apply yL;omega)|fail);cbv))
   first | exact ⟨hQn (by omega) _⟩ | exact ⟨hQn _⟩
  all_goals
   (repeat'((first|(apply zS;kernel_rfl)|(apply zD;decide +kernel)|(apply zE;decide +kernel)|(apply zF;decide +kernel)|(apply zL;decide +kernel)|(apply zM;decide +kernel)|(apply zN;intros)|(apply zO;intros)|(apply zT;omega)|(apply zU;omega)|(apply zP;omega;intros)|(apply zQ;omega;intros)|apply zR|(apply yA;omega)|(apply yB;omega)|(apply yC;omega)|(apply yD;omega)|(apply yE;omega)|(apply yF;omega)|(apply yG;omega)|(apply yH;omega)|(apply yI;omega)|(apply yJ;omega)|(apply yK;omega)|(apply yL;omega)|fail);cbv))
   refine BinK.gtr ?_ ?_ <;> intro hl0 <;> cbv
   case refine_1 =>
    (repeat'((first|(apply zS;kernel_rfl)|(apply zD;decide +kernel)|(apply zE;decide +kernel)|(apply zF;decide +kernel)|(apply zL;decide +kernel)|(apply zM;decide +kernel)|(apply zN;intros)|(apply zO;intros)|(apply zT;omega)|(apply zU;omega)|(apply zP;omega;intros)|(apply zQ;omega;intros)|apply zR|(apply yA;omega)|(apply yB;omega)|(apply yC;omega)|(apply yD;omega)|(apply yE;omega)|(apply yF;omega)|(apply yG;omega)|(apply yH;omega)|(apply yI;omega)|(apply yJ;omega)|(apply yK;omega)|(apply yL;omega)|fail);cbv))
    first | exact ⟨hQn (by omega) _⟩ | exact ⟨hQn _⟩
   (repeat'((first|(apply zS;kernel_rfl)|(apply zD;decide +kernel)|(apply zE;decide +kernel)|(apply zF;decide +kernel)|(apply zL;decide +kernel)|(apply zM;decide +kernel)|(apply zN;intros)|(apply zO;intros)|(apply zT;omega)|(apply zU;omega)|(apply zP;omega;intros)|(apply zQ;omega;intros)|apply zR|(apply yA;omega)|(apply yB;omega)|(apply yC;omega)|(apply yD;omega)|(apply yE;omega)|(apply yF;omega)|(apply yG;omega)|(apply yH;omega)|(apply yI;omega)|(apply yJ;omega)|(apply yK;omega)|(apply yL;omega)|fail);cbv))
   refine .one cR (by simp [pureL,pureD,hLp]) rfl ?_
   rcases rB with _ | _ <;> simp [bI14] at hr <;> cbv
   case false =>
    (repeat'((first|(apply zS;kernel_rfl)|(apply zD;decide +kernel)|(apply zE;decide +kernel)|(apply zF;decide +kernel)|(apply zL;decide +kernel)|(apply zM;decide +kernel)|(apply zN;intros)|(apply zO;intros)|(apply zT;omega)|(apply zU;omega)|(apply zP;omega;intros)|(apply zQ;omega;intros)|apply zR|(apply yA;omega)|(apply yB;omega)|(apply yC;omega)|(apply yD;omega)|(apply yE;omega)|(apply yF;omega)|(apply yG;omega)|(apply yH;omega)|(apply yI;omega)|(apply yJ;omega)|(apply yK;omega)|(apply yL;omega)|fail);cbv))
    first | exact ⟨hQn (by omega) _⟩ | exact ⟨hQn _⟩
   (repeat'((first|(apply zS;kernel_rfl)|(apply zD;decide +kernel)|(apply zE;decide +kernel)|(apply zF;decide +kernel)|(apply zL;decide +kernel)|(apply zM;decide +kernel)|(apply zN;intros)|(apply zO;intros)|(apply zT;omega)|(apply zU;omega)|(apply zP;omega;intros)|(apply zQ;omega;intros)|apply zR|(apply yA;omega)|(apply yB;omega)|(apply yC;omega)|(apply yD;omega)|(apply yE;omega)|(apply yF;omega)|(apply yG;omega)|(apply yH;omega)|(apply yI;omega)|(apply yJ;omega)|(apply yK;omega)|(apply yL;omega)|fail);cbv))
   refine .one cS hpe rfl ?_
   cbv
   (repeat'((first|(apply zS;kernel_rfl)|(apply zD;decide +kernel)|(apply zE;decide +kernel)|(apply zF;decide +kernel)|(apply zL;decide +kernel)|(apply zM;decide +kernel)|(apply zN;intros)|(apply zO;intros)|(apply zT;omega)|(apply zU;omega)|(apply zP;omega;intros)|(apply zQ;omega;intros)|apply zR|(apply yA;omega)|(apply yB;omega)|(apply yC;omega)|(apply yD;omega)|(apply yE;omega)|(apply yF;omega)|(apply yG;omega)|(apply yH;omega)|(apply yI;omega)|(apply yJ;omega)|(apply yK;omega)|(apply yL;omega)|fail);cbv))
   iterate 6 (all_goals try (first | (refine BinK.leq ?_ ?_ <;> intro _ <;> cbv) | (refine BinK.geq ?_ ?_ <;> intro _ <;> cbv) | (refine .one cT (by simp [pureL,pureD,hTp]) rfl ?_;rcases tB with _ | _ <;> simp [bI14] at ht <;> cbv) | fail);all_goals try (repeat'((first|(apply zS;kernel_rfl)|(apply zD;decide +kernel)|(apply zE;decide +kernel)|(apply zF;decide +kernel)|(apply zL;decide +kernel)|(apply zM;decide +kernel)|(apply zN;intros)|(apply zO;intros)|(apply zT;omega)|(apply zU;omega)|(apply zP;omega;intros)|(apply zQ;omega;intros)|apply zR|(apply yA;omega)|(apply yB;omega)|(apply yC;omega)|(apply yD;omega)|(apply yE;omega)|(apply yF;omega)|(apply yG;omega)|(apply yH;omega)|(apply yI;omega)|(apply yJ;omega)|(apply yK;omega)|(apply yL;omega)|fail);cbv)))
   all_goals first | exact ⟨hQn (by omega) _⟩ | exact ⟨hQn _⟩ | exact ⟨hQy (by simp [shI,bI14] <;> omega) _⟩
theorem own_run11 (k n : Int) (hk : k = 11) (nm : ByteArray) (hs : Bool) (ts : List Ty5) (ls : List ByteArray) (ks : List Ex7) (ho : okE (.mk k n nm hs ts ls ks)) (hts : ts.length ≤ 1000000) (Q : D -> H -> Prop) (hQ : ∀ h',Q (.raw (.bool (ownE (.mk k n nm hs ts ls ks)))) h') : wfun TT 34 [exD (.mk k n nm hs ts ls ks)] [] Q := by
 have cF := fine14_cp nm ho.1
 have cR := rising14_cp ls ho.2.2.1
 have cT := types14_cp ts ho.2.1 hts
 obtain ⟨zn,hzn,hzn0⟩ : ∃ z : Int,(nm.size : Int) = z ∧ 0 ≤ z := ⟨_,rfl,by omega⟩
 obtain ⟨zl,hzl,hzl0,hzl1⟩ : ∃ z : Int,(ls.length : Int) = z ∧ 0 ≤ z ∧ z.toNat = ls.length := ⟨_,rfl,by omega,by omega⟩
 obtain ⟨zt,hzt,hzt0,hzt1⟩ : ∃ z : Int,(ts.length : Int) = z ∧ 0 ≤ z ∧ z.toNat = ts.length := ⟨_,rfl,by omega,by omega⟩
 obtain ⟨zk,hzk,hzk0,hzk1⟩ : ∃ z : Int,(ks.length : Int) = z ∧ 0 ≤ z ∧ z.toNat = ks.length := ⟨_,rfl,by omega,by omega⟩
 have cS := shape_cp k n nm hs ts ls ks zl hzl0 hzl1
 have he : (nm = ⟨#[]⟩ -> bI14 (eqS nm ⟨#[]⟩) = 1) ∧ (¬ nm = ⟨#[]⟩ -> bI14 (eqS nm ⟨#[]⟩) = 0) := by
  constructor
  ·intro h
   rw [eqS_iff.2 h]
   try rfl
  ·intro h
   rw [show eqS nm ⟨#[]⟩ = false from Bool.eq_false_iff.2 fun e => h (eqS_iff.1 e)]
   try rfl
 simp only [ownE,hzn,hzl,hzt,hzk] at hQ
 generalize bI14 (eqS nm ⟨#[]⟩) = ei at he hQ
 obtain ⟨fi,hf⟩ : ∃ fi,fi = bI14 (fineB nm) := ⟨_,rfl⟩
 obtain ⟨ri,hr⟩ : ∃ ri,ri = bI14 (risingB ls) := ⟨_,rfl⟩
 obtain ⟨ti,ht⟩ : ∃ ti,ti = bI14 (typesB ts) := ⟨_,rfl⟩
 rw [← hf,← hr,← ht] at hQ
 generalize fineB nm = fB at cF hf
 generalize risingB ls = rB at cR hr
 generalize typesB ts = tB at cT ht
 have hLp := strs_pure ls
 have hTp := tys_pure ts
 have hpe : pureL [exD (.mk k n nm hs ts ls ks)] = some [exD (.mk k n nm hs ts ls ks)] := cons_pure (ex_pure _) rfl
 have hLl : (ls.map strD).length = ls.length := by simp
 have hTl := tys_len ts
 have hKl := exs_len ks
 simp only [exD] at cS hpe ⊢
 generalize ls.map strD = LS at cR cS hLp hLl hpe ⊢
 generalize tysD ts = TS at cT cS hTp hTl hpe ⊢
 generalize exsD ks = KS at cS hKl hpe ⊢
 clear ho hts hzl hzt hzk
 have hQy : ownP k n fi ei (bI14 hs) ri ti zn zl zt zk (shI k hs zl).1 (shI k hs zl).2.1 (shI k hs zl).2.2.1 (shI k hs zl).2.2.2 -> ∀ h',Q (.raw (.bool true)) h' := fun h => by
  rw [decide_eq_true h] at hQ
  exact hQ
 have hQn : ¬ ownP k n fi ei (bI14 hs) ri ti zn zl zt zk (shI k hs zl).1 (shI k hs zl).2.1 (shI k hs zl).2.2.1 (shI k hs zl).2.2.2 -> ∀ h',Q (.raw (.bool false)) h' := fun h => by
  rw [decide_eq_false h] at hQ
  exact hQ
 clear hQ
 have hrange : 1 ≤ k ∧ k ≤ 13 := by omega
 unfold ownP at hQy hQn
 unfold quadD at cS
 clear hrange
 subst hk
 cases hs
 case false =>
  simp [shI,bI14] at hQn cS
  cbv
  (repeat'((first|(apply zS;kernel_rfl)|(apply zD;decide +kernel)|(apply zE;decide +kernel)|(apply zF;decide +kernel)|(apply zL;decide +kernel)|(apply zM;decide +kernel)|(apply zN;intros)|(apply zO;intros)|(apply zT;omega)|(apply zU;omega)|(apply zP;omega;intros)|(apply zQ;omega;intros)|apply zR|(apply yA;omega)|(apply yB;omega)|(apply yC;omega)|(apply yD;omega)|(apply yE;omega)|(apply yF;omega)|(apply yG;omega)|(apply yH;omega)|(apply yI;omega)|(apply yJ;omega)|(apply yK;omega)|(apply yL;omega)|fail);cbv))
  refine BinK.sneq ?_ ?_ <;> intro hem <;> cbv
  case refine_1 =>
   have hei := he.2 hem
   (repeat'((first|(apply zS;kernel_rfl)|(apply zD;decide +kernel)|(apply zE;decide +kernel)|(apply zF;decide +kernel)|(apply zL;decide +kernel)|(apply zM;decide +kernel)|(apply zN;intros)|(apply zO;intros)|(apply zT;omega)|(apply zU;omega)|(apply zP;omega;intros)|(apply zQ;omega;intros)|apply zR|(apply yA;omega)|(apply yB;omega)|(apply yC;omega)|(apply yD;omega)|(apply yE;omega)|(apply yF;omega)|(apply yG;omega)|(apply yH;omega)|(apply yI;omega)|(apply yJ;omega)|(apply yK;omega)|(apply yL;omega)|fail);cbv))
   first | exact ⟨hQn (by omega) _⟩ | exact ⟨hQn _⟩
  have hei := he.1 hem
  (repeat'((first|(apply zS;kernel_rfl)|(apply zD;decide +kernel)|(apply zE;decide +kernel)|(apply zF;decide +kernel)|(apply zL;decide +kernel)|(apply zM;decide +kernel)|(apply zN;intros)|(apply zO;intros)|(apply zT;omega)|(apply zU;omega)|(apply zP;omega;intros)|(apply zQ;omega;intros)|apply zR|(apply yA;omega)|(apply yB;omega)|(apply yC;omega)|(apply yD;omega)|(apply yE;omega)|(apply yF;omega)|(apply yG;omega)|(apply yH;omega)|(apply yI;omega)|(apply yJ;omega)|(apply yK;omega)|(apply yL;omega)|fail);cbv))
  rcases (show n < 1 ∨ 7 < n ∨ (1 ≤ n ∧ n ≤ 7) by omega) with hn0 | hn0 | hn0
  case inl =>
   (repeat'((first|(apply zS;kernel_rfl)|(apply zD;decide +kernel)|(apply zE;decide +kernel)|(apply zF;decide +kernel)|(apply zL;decide +kernel)|(apply zM;decide +kernel)|(apply zN;intros)|(apply zO;intros)|(apply zT;omega)|(apply zU;omega)|(apply zP;omega;intros)|(apply zQ;omega;intros)|apply zR|(apply yA;omega)|(apply yB;omega)|(apply yC;omega)|(apply yD;omega)|(apply yE;omega)|(apply yF;omega)|(apply yG;omega)|(apply yH;omega)|(apply yI;omega)|(apply yJ;omega)|(apply yK;omega)|(apply yL;omega)|fail);cbv))
   first | exact ⟨hQn (by omega) _⟩ | exact ⟨hQn _⟩
  case inr.inl =>
   (repeat'((first|(apply zS;kernel_rfl)|(apply zD;decide +kernel)|(apply zE;decide +kernel)|(apply zF;decide +kernel)|(apply zL;decide +kernel)|(apply zM;decide +kernel)|(apply zN;intros)|(apply zO;intros)|(apply zT;omega)|(apply zU;omega)|(apply zP;omega;intros)|(apply zQ;omega;intros)|apply zR|(apply yA;omega)|(apply yB;omega)|(apply yC;omega)|(apply yD;omega)|(apply yE;omega)|(apply yF;omega)|(apply yG;omega)|(apply yH;omega)|(apply yI;omega)|(apply yJ;omega)|(apply yK;omega)|(apply yL;omega)|fail);cbv))
   first | exact ⟨hQn (by omega) _⟩ | exact ⟨hQn _⟩
  all_goals
   (repeat'((first|(apply zS;kernel_rfl)|(apply zD;decide +kernel)|(apply zE;decide +kernel)|(apply zF;decide +kernel)|(apply zL;decide +kernel)|(apply zM;decide +kernel)|(apply zN;intros)|(apply zO;intros)|(apply zT;omega)|(apply zU;omega)|(apply zP;omega;intros)|(apply zQ;omega;intros)|apply zR|(apply yA;omega)|(apply yB;omega)|(apply yC;omega)|(apply yD;omega)|(apply yE;omega)|(apply yF;omega)|(apply yG;omega)|(apply yH;omega)|(apply yI;omega)|(apply yJ;omega)|(apply yK;omega)|(apply yL;omega)|fail);cbv))
   refine BinK.gtr ?_ ?_ <;> intro hl0 <;> cbv
   case refine_1 =>
    (repeat'((first|(apply zS;kernel_rfl)|(apply zD;decide +kernel)|(apply zE;decide +kernel)|(apply zF;decide +kernel)|(apply zL;decide +kernel)|(apply zM;decide +kernel)|(apply zN;intros)|(apply zO;intros)|(apply zT;omega)|(apply zU;omega)|(apply zP;omega;intros)|(apply zQ;omega;intros)|apply zR|(apply yA;omega)|(apply yB;omega)|(apply yC;omega)|(apply yD;omega)|(apply yE;omega)|(apply yF;omega)|(apply yG;omega)|(apply yH;omega)|(apply yI;omega)|(apply yJ;omega)|(apply yK;omega)|(apply yL;omega)|fail);cbv))
    first | exact ⟨hQn (by omega) _⟩ | exact ⟨hQn _⟩
   (repeat'((first|(apply zS;kernel_rfl)|(apply zD;decide +kernel)|(apply zE;decide +kernel)|(apply zF;decide +kernel)|(apply zL;decide +kernel)|(apply zM;decide +kernel)|(apply zN;intros)|(apply zO;intros)|(apply zT;omega)|(apply zU;omega)|(apply zP;omega;intros)|(apply zQ;omega;intros)|apply zR|(apply yA;omega)|(apply yB;omega)|(apply yC;omega)|(apply yD;omega)|(apply yE;omega)|(apply yF;omega)|(apply yG;omega)|(apply yH;omega)|(apply yI;omega)|(apply yJ;omega)|(apply yK;omega)|(apply yL;omega)|fail);cbv))
   refine .one cR (by simp [pureL,pureD,hLp]) rfl ?_
   rcases rB with _ | _ <;> simp [bI14] at hr <;> cbv
   case false =>
    (repeat'((first|(apply zS;kernel_rfl)|(apply zD;decide +kernel)|(apply zE;decide +kernel)|(apply zF;decide +kernel)|(apply zL;decide +kernel)|(apply zM;decide +kernel)|(apply zN;intros)|(apply zO;intros)|(apply zT;omega)|(apply zU;omega)|(apply zP;omega;intros)|(apply zQ;omega;intros)|apply zR|(apply yA;omega)|(apply yB;omega)|(apply yC;omega)|(apply yD;omega)|(apply yE;omega)|(apply yF;omega)|(apply yG;omega)|(apply yH;omega)|(apply yI;omega)|(apply yJ;omega)|(apply yK;omega)|(apply yL;omega)|fail);cbv))
    first | exact ⟨hQn (by omega) _⟩ | exact ⟨hQn _⟩
   (repeat'((first|(apply zS;kernel_rfl)|(apply zD;decide +kernel)|(apply zE;decide +kernel)|(apply zF;decide +kernel)|(apply zL;decide +kernel)|(apply zM;decide +kernel)|(apply zN;intros)|(apply zO;intros)|(apply zT;omega)|(apply zU;omega)|(apply zP;omega;intros)|(apply zQ;omega;intros)|apply zR|(apply yA;omega)|(apply yB;omega)|(apply yC;omega)|(apply yD;omega)|(apply yE;omega)|(apply yF;omega)|(apply yG;omega)|(apply yH;omega)|(apply yI;omega)|(apply yJ;omega)|(apply yK;omega)|(apply yL;omega)|fail);cbv))
   refine .one cS hpe rfl ?_
   cbv
   (repeat'((first|(apply zS;kernel_rfl)|(apply zD;decide +kernel)|(apply zE;decide +kernel)|(apply zF;decide +kernel)|(apply zL;decide +kernel)|(apply zM;decide +kernel)|(apply zN;intros)|(apply zO;intros)|(apply zT;omega)|(apply zU;omega)|(apply zP;omega;intros)|(apply zQ;omega;intros)|apply zR|(apply yA;omega)|(apply yB;omega)|(apply yC;omega)|(apply yD;omega)|(apply yE;omega)|(apply yF;omega)|(apply yG;omega)|(apply yH;omega)|(apply yI;omega)|(apply yJ;omega)|(apply yK;omega)|(apply yL;omega)|fail);cbv))
   iterate 6 (all_goals try (first | (refine BinK.leq ?_ ?_ <;> intro _ <;> cbv) | (refine BinK.geq ?_ ?_ <;> intro _ <;> cbv) | (refine .one cT (by simp [pureL,pureD,hTp]) rfl ?_;rcases tB with _ | _ <;> simp [bI14] at ht <;> cbv) | fail);all_goals try (repeat'((first|(apply zS;kernel_rfl)|(apply zD;decide +kernel)|(apply zE;decide +kernel)|(apply zF;decide +kernel)|(apply zL;decide +kernel)|(apply zM;decide +kernel)|(apply zN;intros)|(apply zO;intros)|(apply zT;omega)|(apply zU;omega)|(apply zP;omega;intros)|(apply zQ;omega;intros)|apply zR|(apply yA;omega)|(apply yB;omega)|(apply yC;omega)|(apply yD;omega)|(apply yE;omega)|(apply yF;omega)|(apply yG;omega)|(apply yH;omega)|(apply yI;omega)|(apply yJ;omega)|(apply yK;omega)|(apply yL;omega)|fail);cbv)))
   all_goals first | exact ⟨hQn (by omega) _⟩ | exact ⟨hQn _⟩ | exact ⟨hQy (by simp [shI,bI14] <;> omega) _⟩
 case true =>
  simp [shI,bI14] at hQn cS
  cbv
  (repeat'((first|(apply zS;kernel_rfl)|(apply zD;decide +kernel)|(apply zE;decide +kernel)|(apply zF;decide +kernel)|(apply zL;decide +kernel)|(apply zM;decide +kernel)|(apply zN;intros)|(apply zO;intros)|(apply zT;omega)|(apply zU;omega)|(apply zP;omega;intros)|(apply zQ;omega;intros)|apply zR|(apply yA;omega)|(apply yB;omega)|(apply yC;omega)|(apply yD;omega)|(apply yE;omega)|(apply yF;omega)|(apply yG;omega)|(apply yH;omega)|(apply yI;omega)|(apply yJ;omega)|(apply yK;omega)|(apply yL;omega)|fail);cbv))
  refine BinK.sneq ?_ ?_ <;> intro hem <;> cbv
  case refine_1 =>
   have hei := he.2 hem
   (repeat'((first|(apply zS;kernel_rfl)|(apply zD;decide +kernel)|(apply zE;decide +kernel)|(apply zF;decide +kernel)|(apply zL;decide +kernel)|(apply zM;decide +kernel)|(apply zN;intros)|(apply zO;intros)|(apply zT;omega)|(apply zU;omega)|(apply zP;omega;intros)|(apply zQ;omega;intros)|apply zR|(apply yA;omega)|(apply yB;omega)|(apply yC;omega)|(apply yD;omega)|(apply yE;omega)|(apply yF;omega)|(apply yG;omega)|(apply yH;omega)|(apply yI;omega)|(apply yJ;omega)|(apply yK;omega)|(apply yL;omega)|fail);cbv))
   first | exact ⟨hQn (by omega) _⟩ | exact ⟨hQn _⟩
  have hei := he.1 hem
  (repeat'((first|(apply zS;kernel_rfl)|(apply zD;decide +kernel)|(apply zE;decide +kernel)|(apply zF;decide +kernel)|(apply zL;decide +kernel)|(apply zM;decide +kernel)|(apply zN;intros)|(apply zO;intros)|(apply zT;omega)|(apply zU;omega)|(apply zP;omega;intros)|(apply zQ;omega;intros)|apply zR|(apply yA;omega)|(apply yB;omega)|(apply yC;omega)|(apply yD;omega)|(apply yE;omega)|(apply yF;omega)|(apply yG;omega)|(apply yH;omega)|(apply yI;omega)|(apply yJ;omega)|(apply yK;omega)|(apply yL;omega)|fail);cbv))
  rcases (show n < 1 ∨ 7 < n ∨ (1 ≤ n ∧ n ≤ 7) by omega) with hn0 | hn0 | hn0
  case inl =>
   (repeat'((first|(apply zS;kernel_rfl)|(apply zD;decide +kernel)|(apply zE;decide +kernel)|(apply zF;decide +kernel)|(apply zL;decide +kernel)|(apply zM;decide +kernel)|(apply zN;intros)|(apply zO;intros)|(apply zT;omega)|(apply zU;omega)|(apply zP;omega;intros)|(apply zQ;omega;intros)|apply zR|(apply yA;omega)|(apply yB;omega)|(apply yC;omega)|(apply yD;omega)|(apply yE;omega)|(apply yF;omega)|(apply yG;omega)|(apply yH;omega)|(apply yI;omega)|(apply yJ;omega)|(apply yK;omega)|(apply yL;omega)|fail);cbv))
   first | exact ⟨hQn (by omega) _⟩ | exact ⟨hQn _⟩
  case inr.inl =>
   (repeat'((first|(apply zS;kernel_rfl)|(apply zD;decide +kernel)|(apply zE;decide +kernel)|(apply zF;decide +kernel)|(apply zL;decide +kernel)|(apply zM;decide +kernel)|(apply zN;intros)|(apply zO;intros)|(apply zT;omega)|(apply zU;omega)|(apply zP;omega;intros)|(apply zQ;omega;intros)|apply zR|(apply yA;omega)|(apply yB;omega)|(apply yC;omega)|(apply yD;omega)|(apply yE;omega)|(apply yF;omega)|(apply yG;omega)|(apply yH;omega)|(apply yI;omega)|(apply yJ;omega)|(apply yK;omega)|(apply yL;omega)|fail);cbv))
   first | exact ⟨hQn (by omega) _⟩ | exact ⟨hQn _⟩
  all_goals
   (repeat'((first|(apply zS;kernel_rfl)|(apply zD;decide +kernel)|(apply zE;decide +kernel)|(apply zF;decide +kernel)|(apply zL;decide +kernel)|(apply zM;decide +kernel)|(apply zN;intros)|(apply zO;intros)|(apply zT;omega)|(apply zU;omega)|(apply zP;omega;intros)|(apply zQ;omega;intros)|apply zR|(apply yA;omega)|(apply yB;omega)|(apply yC;omega)|(apply yD;omega)|(apply yE;omega)|(apply yF;omega)|(apply yG;omega)|(apply yH;omega)|(apply yI;omega)|(apply yJ;omega)|(apply yK;omega)|(apply yL;omega)|fail);cbv))
   first | exact ⟨hQn (by omega) _⟩ | exact ⟨hQn _⟩
end Go.Proofs.Ytglefhgcfijiaaa
