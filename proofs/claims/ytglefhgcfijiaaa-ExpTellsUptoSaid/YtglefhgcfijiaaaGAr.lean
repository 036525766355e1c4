/- exp.sound, kind by kind. -/
import Derived.Test.YtglefhgcfijiaaaGAl
set_option linter.unusedSimpArgs false
set_option linter.unusedVariables false
set_option maxRecDepth 1000000
set_option maxHeartbeats 40000000
namespace Go.Proofs.Ytglefhgcfijiaaa
open Go.RowKit Pv
theorem sound_run12 (k n : Int) (hk : k = 12) (nm : ByteArray) (hs : Bool) (ts : List Ty5) (ls : List ByteArray) (ks : List Ex7) (ho : okE (.mk k n nm hs ts ls ks)) (hts : ts.length ≤ 1000000) (Q : D -> H -> Prop) (hQ : ∀ h',Q (.raw (.bool (ownE (.mk k n nm hs ts ls ks)))) h') : wfun TT 33 [exD (.mk k n nm hs ts ls ks)] [] Q := by
 have cF := pfine14_cp nm ho.1
 have cR := prising14_cp ls ho.2.2.1
 have cT := plain_cp ts ho.2.1 hts
 obtain ⟨zn,hzn,hzn0,hzn1⟩ : ∃ z : Int,(nm.size : Int) = z ∧ 0 ≤ z ∧ z.toNat = nm.size := ⟨_,rfl,by omega,by omega⟩
 obtain ⟨zl,hzl,hzl0,hzl1⟩ : ∃ z : Int,(ls.length : Int) = z ∧ 0 ≤ z ∧ z.toNat = ls.length := ⟨_,rfl,by omega,by omega⟩
 obtain ⟨zt,hzt,hzt0,hzt1⟩ : ∃ z : Int,(ts.length : Int) = z ∧ 0 ≤ z ∧ z.toNat = ts.length := ⟨_,rfl,by omega,by omega⟩
 obtain ⟨zk,hzk,hzk0,hzk1⟩ : ∃ z : Int,(ks.length : Int) = z ∧ 0 ≤ z ∧ z.toNat = ks.length := ⟨_,rfl,by omega,by omega⟩
 have hr0 : zl = 0 -> risingB ls = true := fun h => by
  have : ls = [] := List.eq_nil_of_length_eq_zero (by omega)
  rw [this]
  try rfl
 have he : (nm = ⟨#[]⟩ -> bI14 (eqS nm ⟨#[]⟩) = 1) ∧ (¬ nm = ⟨#[]⟩ -> bI14 (eqS nm ⟨#[]⟩) = 0) := by
  constructor
  ·intro h
   rw [eqS_iff.2 h]
   try rfl
  ·intro h
   rw [show eqS nm ⟨#[]⟩ = false from Bool.eq_false_iff.2 fun e => h (eqS_iff.1 e)]
   try rfl
 have he0 : ((⟨#[]⟩ : ByteArray) = ⟨#[]⟩ -> (1 : Int) = 1) ∧ (¬ (⟨#[]⟩ : ByteArray) = ⟨#[]⟩ -> (1 : Int) = 0) := ⟨fun _ => rfl,fun h => absurd rfl h⟩
 simp only [ownE,hzn,hzl,hzt,hzk] at hQ
 generalize bI14 (eqS nm ⟨#[]⟩) = ei at he hQ
 obtain ⟨fi,hf⟩ : ∃ fi,fi = bI14 (fineB nm) := ⟨_,rfl⟩
 obtain ⟨ri,hr⟩ : ∃ ri,ri = bI14 (risingB ls) := ⟨_,rfl⟩
 obtain ⟨ti,ht⟩ : ∃ ti,ti = bI14 (typesB ts) := ⟨_,rfl⟩
 have hr1 : zl = 0 -> ri = 1 := fun h => by rw [hr,hr0 h];rfl
 rw [← hf,← hr,← ht] at hQ
 generalize fineB nm = fB at cF hf
 generalize risingB ls = rB at cR hr hr0
 generalize typesB ts = tB at cT ht
 have hLp := strs_pure ls
 have hTp := tys_pure ts
 have hKp := exs_pure ks
 have hLl : (ls.map strD).length = ls.length := by simp
 have hTl := tys_len ts
 have hKl := exs_len ks
 simp only [exD]
 generalize ls.map strD = LS at cR hLp hLl ⊢
 generalize tysD ts = TS at cT hTp hTl ⊢
 generalize exsD ks = KS at hKp hKl ⊢
 have cB := blank_any k n nm hs (.raw (.slice none 0 0)) (.sl none 1 LS) (.raw (.slice none 0 0)) [] LS [] (none_wk 5) (.refl _) (none_wk 7) ei 0 zl 0 he ⟨by omega,rfl⟩ ⟨hzl0,by omega⟩ ⟨by omega,rfl⟩
 obtain ⟨bl,hbl⟩ : ∃ bl,bl = decide (blankP n ei (bI14 hs) 0 zl 0) := ⟨_,rfl⟩
 rw [← hbl] at cB
 have hbl1 : bl = true -> blankP n ei (bI14 hs) 0 zl 0 := fun h => by rw [h] at hbl;exact of_decide_eq_true hbl.symm
 have hbl2 : bl = false -> ¬ blankP n ei (bI14 hs) 0 zl 0 := fun h => by rw [h] at hbl;exact of_decide_eq_false hbl.symm
 clear hbl ho hts hzl hzt hzk hr0 hzn
 have hsh : shI k hs zl = (1,1,1,1) := by subst hk;simp [shI]
 rw [hsh] at hQ
 simp only at hQ
 have hQy : ownP k n fi ei (bI14 hs) ri ti zn zl zt zk 1 1 1 1 -> ∀ h',Q (.raw (.bool true)) h' := fun h => by
  rw [decide_eq_true h] at hQ
  exact hQ
 have hQn : ¬ ownP k n fi ei (bI14 hs) ri ti zn zl zt zk 1 1 1 1 -> ∀ h',Q (.raw (.bool false)) h' := fun h => by
  rw [decide_eq_false h] at hQ
  exact hQ
 clear hQ hsh
 have hi : bI14 hs = 0 ∨ bI14 hs = 1 := by cases hs <;> simp [bI14]
 have hb0 : bI14 false = 0 := rfl
 unfold blankP at hbl1 hbl2
 generalize bI14 hs = hi' at *
 try rw [hb0] at hbl1 hbl2
 subst hk
 have hP : ownP 12 n fi ei hi' ri ti zn zl zt zk 1 1 1 1 ↔ (ei = 1 ∧ n = 0 ∧ hi' = 0 ∧ zl ≤ 0 ∧ ri = 1 ∧ zl ≤ 6 ∧ 1 ≤ zt ∧ zt ≤ 1 ∧ 1 ≤ zk ∧ zk ≤ 1 ∧ ti = 1) :=
  ⟨fun ⟨c1,c2,c3,c4,c5,c6,c7,c8,c9,c10,c11,c12,c13,c14,c15,c16,c17⟩ => ⟨c3 (by decide),c8 (by decide),c9 (by decide),c10 (by decide),c11,c12,c13,c14,c15,c16,c17⟩,fun ⟨c3,c8,c9,c10,c11,c12,c13,c14,c15,c16,c17⟩ => ⟨by decide,fun h => absurd h (by decide),fun _ => c3,fun h => absurd h (by decide),fun h => absurd h (by decide),fun h => absurd h (by decide),fun h => absurd h (by decide),fun _ => c8,fun _ => c9,fun _ => c10,c11,c12,c13,c14,c15,c16,c17⟩⟩
 rw [hP] at hQy hQn
 clear hP
 cbv
 (repeat'((first|(apply zS;kernel_rfl)|(apply zD;decide +kernel)|(apply zE;decide +kernel)|(apply zF;decide +kernel)|(apply zL;decide +kernel)|(apply zM;decide +kernel)|(apply zN;intros)|(apply zO;intros)|(apply zT;omega)|(apply zU;omega)|(apply zP;omega;intros)|(apply zQ;omega;intros)|apply zR|(apply yA;omega)|(apply yB;omega)|(apply yC;omega)|(apply yD;omega)|(apply yE;omega)|(apply yF;omega)|(apply yG;omega)|(apply yH;omega)|(apply yI;omega)|(apply yJ;omega)|(apply yK;omega)|(apply yL;omega)|fail);cbv))
 refine .one cT (by simp [pureL,pureD,hTp]) rfl ?_
 rcases tB with _ | _ <;> simp [bI14] at ht <;> cbv
 case false =>
  (repeat'((first|(apply zS;kernel_rfl)|(apply zD;decide +kernel)|(apply zE;decide +kernel)|(apply zF;decide +kernel)|(apply zL;decide +kernel)|(apply zM;decide +kernel)|(apply zN;intros)|(apply zO;intros)|(apply zT;omega)|(apply zU;omega)|(apply zP;omega;intros)|(apply zQ;omega;intros)|apply zR|(apply yA;omega)|(apply yB;omega)|(apply yC;omega)|(apply yD;omega)|(apply yE;omega)|(apply yF;omega)|(apply yG;omega)|(apply yH;omega)|(apply yI;omega)|(apply yJ;omega)|(apply yK;omega)|(apply yL;omega)|fail);cbv))
  exact ⟨hQn (by omega) _⟩
 (repeat'((first|(apply zS;kernel_rfl)|(apply zD;decide +kernel)|(apply zE;decide +kernel)|(apply zF;decide +kernel)|(apply zL;decide +kernel)|(apply zM;decide +kernel)|(apply zN;intros)|(apply zO;intros)|(apply zT;omega)|(apply zU;omega)|(apply zP;omega;intros)|(apply zQ;omega;intros)|apply zR|(apply yA;omega)|(apply yB;omega)|(apply yC;omega)|(apply yD;omega)|(apply yE;omega)|(apply yF;omega)|(apply yG;omega)|(apply yH;omega)|(apply yI;omega)|(apply yJ;omega)|(apply yK;omega)|(apply yL;omega)|fail);cbv))
 refine BinK.eql ?_ ?_ <;> intro _ <;> cbv
 case refine_2 =>
  (repeat'((first|(apply zS;kernel_rfl)|(apply zD;decide +kernel)|(apply zE;decide +kernel)|(apply zF;decide +kernel)|(apply zL;decide +kernel)|(apply zM;decide +kernel)|(apply zN;intros)|(apply zO;intros)|(apply zT;omega)|(apply zU;omega)|(apply zP;omega;intros)|(apply zQ;omega;intros)|apply zR|(apply yA;omega)|(apply yB;omega)|(apply yC;omega)|(apply yD;omega)|(apply yE;omega)|(apply yF;omega)|(apply yG;omega)|(apply yH;omega)|(apply yI;omega)|(apply yJ;omega)|(apply yK;omega)|(apply yL;omega)|fail);cbv))
  exact ⟨hQn (by omega) _⟩
 (repeat'((first|(apply zS;kernel_rfl)|(apply zD;decide +kernel)|(apply zE;decide +kernel)|(apply zF;decide +kernel)|(apply zL;decide +kernel)|(apply zM;decide +kernel)|(apply zN;intros)|(apply zO;intros)|(apply zT;omega)|(apply zU;omega)|(apply zP;omega;intros)|(apply zQ;omega;intros)|apply zR|(apply yA;omega)|(apply yB;omega)|(apply yC;omega)|(apply yD;omega)|(apply yE;omega)|(apply yF;omega)|(apply yG;omega)|(apply yH;omega)|(apply yI;omega)|(apply yJ;omega)|(apply yK;omega)|(apply yL;omega)|fail);cbv))
 refine BinK.eql ?_ ?_ <;> intro _ <;> cbv
 case refine_2 =>
  (repeat'((first|(apply zS;kernel_rfl)|(apply zD;decide +kernel)|(apply zE;decide +kernel)|(apply zF;decide +kernel)|(apply zL;decide +kernel)|(apply zM;decide +kernel)|(apply zN;intros)|(apply zO;intros)|(apply zT;omega)|(apply zU;omega)|(apply zP;omega;intros)|(apply zQ;omega;intros)|apply zR|(apply yA;omega)|(apply yB;omega)|(apply yC;omega)|(apply yD;omega)|(apply yE;omega)|(apply yF;omega)|(apply yG;omega)|(apply yH;omega)|(apply yI;omega)|(apply yJ;omega)|(apply yK;omega)|(apply yL;omega)|fail);cbv))
  exact ⟨hQn (by omega) _⟩
 (repeat'((first|(apply zS;kernel_rfl)|(apply zD;decide +kernel)|(apply zE;decide +kernel)|(apply zF;decide +kernel)|(apply zL;decide +kernel)|(apply zM;decide +kernel)|(apply zN;intros)|(apply zO;intros)|(apply zT;omega)|(apply zU;omega)|(apply zP;omega;intros)|(apply zQ;omega;intros)|apply zR|(apply yA;omega)|(apply yB;omega)|(apply yC;omega)|(apply yD;omega)|(apply yE;omega)|(apply yF;omega)|(apply yG;omega)|(apply yH;omega)|(apply yI;omega)|(apply yJ;omega)|(apply yK;omega)|(apply yL;omega)|fail);cbv))
 refine .one cB (by simp [pureL,pureD,hTp,hLp,hKp]) rfl ?_
 rcases bl with _ | _
 ·have hbl2 := hbl2 rfl
  clear hbl1
  cbv
  (repeat'((first|(apply zS;kernel_rfl)|(apply zD;decide +kernel)|(apply zE;decide +kernel)|(apply zF;decide +kernel)|(apply zL;decide +kernel)|(apply zM;decide +kernel)|(apply zN;intros)|(apply zO;intros)|(apply zT;omega)|(apply zU;omega)|(apply zP;omega;intros)|(apply zQ;omega;intros)|apply zR|(apply yA;omega)|(apply yB;omega)|(apply yC;omega)|(apply yD;omega)|(apply yE;omega)|(apply yF;omega)|(apply yG;omega)|(apply yH;omega)|(apply yI;omega)|(apply yJ;omega)|(apply yK;omega)|(apply yL;omega)|fail);cbv))
  exact ⟨hQn (by omega) _⟩
 ·have hbl1 := hbl1 rfl
  clear hbl2
  cbv
  (repeat'((first|(apply zS;kernel_rfl)|(apply zD;decide +kernel)|(apply zE;decide +kernel)|(apply zF;decide +kernel)|(apply zL;decide +kernel)|(apply zM;decide +kernel)|(apply zN;intros)|(apply zO;intros)|(apply zT;omega)|(apply zU;omega)|(apply zP;omega;intros)|(apply zQ;omega;intros)|apply zR|(apply yA;omega)|(apply yB;omega)|(apply yC;omega)|(apply yD;omega)|(apply yE;omega)|(apply yF;omega)|(apply yG;omega)|(apply yH;omega)|(apply yI;omega)|(apply yJ;omega)|(apply yK;omega)|(apply yL;omega)|fail);cbv))
  exact ⟨hQy (by omega) _⟩
end Go.Proofs.Ytglefhgcfijiaaa
