/- Parts of the proof: PwWr, PwSw, RdAw. -/
import Derived.Test.YtkoabcncdjmoeaaGreatDoorNn
import Derived.Test.YtkoabcncdjmoeaaGreatDoorMs
import Derived.Test.YtkoabcncdjmoeaaGreatDoorNo
import Derived.Test.YtkoabcncdjmoeaaGreatDoorNq
import Derived.Test.YtkoabcncdjmoeaaGreatDoorNx
set_option linter.unusedSimpArgs false
set_option linter.unusedVariables false
set_option maxRecDepth 1000000
set_option maxHeartbeats 40000000
namespace Go.Proofs.YtkoabcncdjmoeaaGreatDoor
open Go.RowKit Pv
theorem write_rec (n : Int) (nm : ByteArray) (LS KS : List D) (hL : idbL 2 LS = true) (hK : idbL 2 KS = true) (S T : List UInt8) (hr : Step 90 [nodeD 8 n nm LS KS,addD] S T) : Step 59 [nodeD 8 n nm LS KS,addD] S T := by
 refine Step.run (by simp [idbL,idb,hL,hK,addD]) fun c0 c1 hG Q hQ => ?_
 unfold addD at hr
 cbv
 (repeat'((first|(apply zS;kernel_rfl)|(apply zD;decide +kernel)|(apply zE;decide +kernel)|(apply zF;decide +kernel)|(apply zL;decide +kernel)|(apply zM;decide +kernel)|(apply zN;intros)|(apply zO;intros)|(apply zT;omega)|(apply zU;omega)|(apply zP;omega;intros)|(apply zQ;omega;intros)|apply zR);cbv))
 refine CallK.mut (hr _ _ _ hG) ?_
 rintro d h' ⟨rfl,e0,e1,hG1,rfl⟩
 cbv
 (repeat'((first|(apply zS;kernel_rfl)|(apply zD;decide +kernel)|(apply zE;decide +kernel)|(apply zF;decide +kernel)|(apply zL;decide +kernel)|(apply zM;decide +kernel)|(apply zN;intros)|(apply zO;intros)|(apply zT;omega)|(apply zU;omega)|(apply zP;omega;intros)|(apply zQ;omega;intros)|apply zR);cbv))
 exact ⟨hQ _ _ _ hG1⟩
theorem ty_node (t : Ty5) : ∃ k n nm L K,tyD t = nodeD k n nm L K ∧ k = kT t ∧ (∀ m,idbL m L = true) ∧ ∀ m,idbL m K = true := by
 obtain ⟨k,n,nm,ls,ks⟩ := t
 exact ⟨k,n,nm,_,_,rfl,rfl,fun m => pure_idbL m _ (strs_pure ls),fun m => pure_idbL m _ (tys_pure ks)⟩
theorem rightL_get : ∀ {ks : List Ty5},rightL varB risingB ks = true -> ∀ t ∈ ks,rightT varB risingB t = true
 | [],_,t,h => by cases h
 | a :: r,h,t,ht => by
  simp only [rightL,Bool.and_eq_true] at h
  rcases List.mem_cons.1 ht with rfl | ht
  ·exact h.1
  ·exact rightL_get h.2 t ht
theorem head_cases {k n : Int} {nm : ByteArray} {ls : List ByteArray} {len : Nat} (h : headB varB risingB k n nm ls len = true) : (1 ≤ k ∧ k ≤ 5) ∨ k = 6 ∨ (k = 9 ∧ 0 ≤ n ∧ n ≤ 1073741824) ∨ (k = 7 ∧ len = 2) ∨ (k = 8 ∧ ls.length = len) := by
 unfold headB at h
 split at h
 ·cases h
 ·split at h
  ·rename_i h1;exact .inl h1
  ·split at h
   ·rename_i h1;exact .inr (.inl h1)
   ·split at h
    ·rename_i h1
     simp only [Bool.and_eq_true,decide_eq_true_eq] at h
     exact .inr (.inr (.inl ⟨h1,h.1,h.2.1⟩))
    ·split at h
     ·rename_i h1
      simp only [beq_iff_eq] at h
      exact .inr (.inr (.inr (.inl ⟨h1,by omega⟩)))
     ·simp only [Bool.and_eq_true,decide_eq_true_eq,beq_iff_eq] at h
      exact .inr (.inr (.inr (.inr ⟨h.1,by omega⟩)))
mutual
theorem write_any : ∀ (t : Ty5),rightT varB risingB t = true -> ∀ S : List UInt8,S.length + (showT t).length ≤ 140737488355328 -> Step 59 [tyD t,addD] S (S ++ showT t)
 | .mk k n nm ls ks,hR,S,hr => by
  simp only [rightT,Bool.and_eq_true] at hR
  have hall := write_all ks hR.1
  have hhead := head_cases hR.2
  have hLi : ∀ m,idbL m (ls.map strD) = true := fun m => pure_idbL m _ (strs_pure ls)
  have hKi : ∀ m,idbL m (tysD ks) = true := fun m => pure_idbL m _ (tys_pure ks)
  simp only [showT,showL_map] at hr ⊢
  simp only [tyD]
  rcases hhead with ⟨h1,h5⟩ | rfl | ⟨rfl,h0,h9⟩ | ⟨rfl,hlen⟩ | ⟨rfl,hlen⟩
  ·rcases (by omega : k = 1 ∨ k = 2 ∨ k = 3 ∨ k = 4 ∨ k = 5) with rfl | rfl | rfl | rfl | rfl
   ·exact write_k1 n nm _ _ (hLi 2) (hKi 2) S hr
   ·exact write_k2 n nm _ _ (hLi 2) (hKi 2) S hr
   ·exact write_k3 n nm _ _ (hLi 2) (hKi 2) S hr
   ·exact write_k4 n nm _ _ (hLi 2) (hKi 2) S hr
   ·exact write_k5 n nm _ _ (hLi 2) (hKi 2) S hr
  ·have e : combT 6 n nm ls (ks.map kT) (ks.map showT) = nm.data.toList := rfl
   rw [e] at hr ⊢
   rw [size_lst] at hr
   exact write_var n nm _ _ (hLi 2) (hKi 2) S hr
  ·have e : combT 9 n nm ls (ks.map kT) (ks.map showT) = [35] ++ Lib.itoa n := rfl
   rw [e] at hr ⊢
   simp only [List.length_append,List.length_cons,List.length_nil] at hr
   have := write_seal n nm _ _ (hLi 2) (hKi 2) S (by omega) (by omega) (by omega)
   rw [List.append_assoc] at this
   exact this
  ·obtain ⟨a,b,rfl⟩ : ∃ a b,ks = [a,b] := by
    match ks,hlen with
    | [a,b],_ => exact ⟨a,b,rfl⟩
   have ha := hall a (by simp)
   have hb := hall b (by simp)
   obtain ⟨k0,n0,m0,L0,K0,f0,g0,i0,j0⟩ := ty_node a
   obtain ⟨k1,n1,m1,L1,K1,f1,g1,i1,j1⟩ := ty_node b
   have e : combT 7 n nm ls ([a,b].map kT) ([a,b].map showT) = (if kT a = 7 then [40] ++ showT a ++ [41] else showT a) ++ [32,45,62,32] ++ showT b := rfl
   rw [e,← g0] at hr ⊢
   simp only [tysD]
   rw [f0] at ha ⊢
   rw [f1] at hb ⊢
   simp only [List.length_append,List.length_cons,List.length_nil] at hr
   rw [← List.append_assoc,← List.append_assoc]
   by_cases h7 : k0 = 7
   ·subst h7
    rw [if_pos rfl] at hr ⊢
    simp only [List.length_append,List.length_cons,List.length_nil] at hr
    refine write_fun n nm _ _ _ _ _ _ _ _ _ _ _ (hLi 2) (i0 2) (j0 2) (i1 2) (j1 2) S _ _ ?_ (add_step _ ⟨#[32,45,62,32]⟩ ?_) _ (hb _ ?_)
    ·rw [← List.append_assoc,← List.append_assoc]
     exact param_fun _ _ _ _ (i0 2) (j0 2) _ _ _ _ (add_step _ ⟨#[40]⟩ (by show _ + 1 ≤ _;omega)) (ha _ (by simp only [List.length_append,List.length_cons,List.length_nil];omega)) (add_step _ ⟨#[41]⟩ (by show _ + 1 ≤ _;simp only [List.length_append,List.length_cons,List.length_nil];omega))
    ·show _ + 4 ≤ _;simp only [List.length_append,List.length_cons,List.length_nil];omega
    ·simp only [List.length_append,List.length_cons,List.length_nil];omega
   ·rw [if_neg h7] at hr ⊢
    refine write_fun n nm _ _ _ _ _ _ _ _ _ _ _ (hLi 2) (i0 2) (j0 2) (i1 2) (j1 2) S _ _ (param_other _ _ _ _ _ h7 (i0 2) (j0 2) _ _ (ha S (by omega))) (add_step _ ⟨#[32,45,62,32]⟩ ?_) _ (hb _ ?_)
    ·show _ + 4 ≤ _;simp only [List.length_append,List.length_cons,List.length_nil];omega
    ·simp only [List.length_append,List.length_cons,List.length_nil];omega
  ·have e : combT 8 n nm ls (ks.map kT) (ks.map showT) = recX [123] ls (ks.map showT) (ks.map showT).length ++ [125] := rfl
   rw [e] at hr ⊢
   have hKl : (tysD ks).length = ks.length := by simp [tysD_map]
   rw [List.length_map,← List.append_assoc,← recX_app,← hKl]
   rw [List.length_map,← hKl] at hr
   refine write_rec n nm _ _ (hLi 2) (hKi 2) S _ (record_step n nm ls _ (ks.map showT) (by omega) (fun m _ => hKi m) (fun j A hA => ?_) S ?_ (fun j A hA U hU => ?_))
   ·rw [tysD_map,List.getElem?_map,Option.map_eq_some_iff] at hA
    obtain ⟨t,_,rfl⟩ := hA
    obtain ⟨k0,n0,m0,L0,K0,f0,g0,i0,j0⟩ := ty_node t
    exact ⟨k0,n0,m0,L0,K0,f0,fun m _ => i0 m,fun m _ => j0 m⟩
   ·rw [recX_app]
    simp only [List.length_append,List.length_cons,List.length_nil] at hr ⊢
    omega
   ·rw [tysD_map,List.getElem?_map,Option.map_eq_some_iff] at hA
    obtain ⟨t,ht,rfl⟩ := hA
    have hx : (ks.map showT).getD j [] = showT t := by rw [List.getD_eq_getElem?_getD,List.getElem?_map,ht];rfl
    rw [hx] at hU ⊢
    exact hall t (List.mem_of_getElem? ht) U hU
theorem write_all : ∀ (ks : List Ty5),rightL varB risingB ks = true -> ∀ t ∈ ks,∀ S : List UInt8,S.length + (showT t).length ≤ 140737488355328 -> Step 59 [tyD t,addD] S (S ++ showT t)
 | [],_,t,h => by cases h
 | a :: r,hR,t,ht => by
  simp only [rightL,Bool.and_eq_true] at hR
  have ha := write_any a hR.1
  have hr := write_all r hR.2
  rcases List.mem_cons.1 ht with e | ht
  ·rw [e];exact ha
  ·exact hr t ht
end
def shT (t : Ty5) : List UInt8 := if rightT varB risingB t = true then showT t else []
theorem right_cp (t : Ty5) (ho : okT t) : CP (TT ()) 58 [tyD t] (· = .raw (.bool (rightT varB risingB t))) :=
 cp_raw (callable_at Tryz.func58 (by kernel_rfl) rfl) fun S w args r => by
  obtain ⟨v,rfl,h⟩ := rdL_one r
  obtain ⟨v0,v1,v2,v3,v4,rfl,hT⟩ := ty_in t ho h
  exact pright_any t v0 v1 v2 v3 v4 w hT
theorem show_step (t : Ty5) (ho : okT t) (S : List UInt8) (hr : S.length + (shT t).length ≤ 140737488355328) : Step 41 [tyD t,addD] S (S ++ shT t) := by
 have hc := right_cp t ho
 have hw : rightT varB risingB t = true -> Step 59 [tyD t,addD] S (S ++ shT t) := fun h => by
  unfold shT at hr ⊢
  rw [if_pos h] at hr ⊢
  exact write_any t h S hr
 have hno : rightT varB risingB t = false -> S ++ shT t = S := fun h => by
  unfold shT
  rw [h]
  simp
 have hp := ty_pure t
 generalize S ++ shT t = T at hw hno ⊢
 generalize rightT varB risingB t = q at hc hw hno
 obtain ⟨k,n,nm,L,K,f0,g0,i0,j0⟩ := ty_node t
 rw [f0] at hc hw hp ⊢
 refine Step.run (by simp [idbL,idb,i0,j0,addD]) fun c0 c1 hG Q hQ => ?_
 unfold addD at hw ⊢
 cbv
 (repeat'((first|(apply zS;kernel_rfl)|(apply zD;decide +kernel)|(apply zE;decide +kernel)|(apply zF;decide +kernel)|(apply zL;decide +kernel)|(apply zM;decide +kernel)|(apply zN;intros)|(apply zO;intros)|(apply zT;omega)|(apply zU;omega)|(apply zP;omega;intros)|(apply zQ;omega;intros)|apply zR);cbv))
 refine CallK.one hc (cons_pure hp rfl) rfl ?_
 rcases q with _ | _
 ·rw [hno rfl] at hQ
  cbv
  (repeat'((first|(apply zS;kernel_rfl)|(apply zD;decide +kernel)|(apply zE;decide +kernel)|(apply zF;decide +kernel)|(apply zL;decide +kernel)|(apply zM;decide +kernel)|(apply zN;intros)|(apply zO;intros)|(apply zT;omega)|(apply zU;omega)|(apply zP;omega;intros)|(apply zQ;omega;intros)|apply zR);cbv))
  exact ⟨hQ _ _ _ hG⟩
 ·cbv
  (repeat'((first|(apply zS;kernel_rfl)|(apply zD;decide +kernel)|(apply zE;decide +kernel)|(apply zF;decide +kernel)|(apply zL;decide +kernel)|(apply zM;decide +kernel)|(apply zN;intros)|(apply zO;intros)|(apply zT;omega)|(apply zU;omega)|(apply zP;omega;intros)|(apply zQ;omega;intros)|apply zR);cbv))
  refine CallK.mut (hw rfl _ _ _ hG) ?_
  rintro d h' ⟨rfl,e0,e1,hG1,rfl⟩
  cbv
  (repeat'((first|(apply zS;kernel_rfl)|(apply zD;decide +kernel)|(apply zE;decide +kernel)|(apply zF;decide +kernel)|(apply zL;decide +kernel)|(apply zM;decide +kernel)|(apply zN;intros)|(apply zO;intros)|(apply zT;omega)|(apply zU;omega)|(apply zP;omega;intros)|(apply zQ;omega;intros)|apply zR);cbv))
  exact ⟨hQ _ _ _ hG1⟩
abbrev sh1 : Nat -> Nat := fun i => i + 1
def add1D : D := .fn (.func 54) [] [.bx 1 0]
def text1D : D := .fn (.func 56) [] [.bx 1 0]
theorem Step.ahead {k : FuncId} {ds es : List D} {S T : List UInt8} (h : Step k ds S T) (he : es = renL sh1 ds) (hid : idbL 2 ds = true) (b c0 c1 : Cell) (hG : GB S c0 c1) :
  CW (TT ()) k es [b,renC sh1 c0,renC sh1 c1] fun d h' => d = .tup [] ∧ ∃ e0 e1,GB T e0 e1 ∧ h' = [b,renC sh1 e0,renC sh1 e1] := by
 have hi := hG.idb (m := 2) (by decide)
 refine ((h [] c0 c1 hG).frame (h := [b,renC sh1 c0,renC sh1 c1]) sh1 he hid (by simp [hi]) (fun i j _ _ e => by simp only [sh1] at e;omega) (fun i hi => ?_) ?_).mono ?_
 ·match i,hi with
  | 0,_ => rfl
  | 1,_ => rfl
  | n + 2,hi => exact absurd hi (by show ¬ (n + 2 < 2);omega)
 ·rintro d h' ⟨rfl,e0,e1,hE,rfl⟩
  have := hE.idb (m := 2) (by decide)
  exact ⟨rfl,rfl,by simp [this]⟩
 ·rintro d h' ⟨d0,h0',⟨rfl,e0,e1,hE,rfl⟩,rfl,rfl⟩
  exact ⟨rfl,e0,e1,hE,rfl⟩
theorem text_ahead (S : List UInt8) (b c0 c1 : Cell) (hG : GB S c0 c1) : CW (TT ()) 56 [.bx 1 0] [b,renC sh1 c0,renC sh1 c1] fun d h' => d = .raw (.string ⟨S.toArray⟩) ∧ h' = [b,.dead,.dead] := by
 obtain ⟨u,hu⟩ := hG
 refine ((text_cw u S).frame (h := [b,renC sh1 c0,renC sh1 c1]) sh1 rfl rfl (bld_idb u S) (fun i j _ _ e => by simp only [sh1] at e;omega) (fun i hi => ?_) ?_).mono ?_
 ·rw [← hu]
  match i,hi with
  | 0,_ => rfl
  | 1,_ => rfl
  | n + 2,hi => exact absurd hi (by show ¬ (n + 2 < 2);omega)
 ·rintro d h' ⟨rfl,rfl⟩
  exact ⟨rfl,rfl,rfl⟩
 ·rintro d h' ⟨d0,h0',⟨rfl,rfl⟩,rfl,rfl⟩
  exact ⟨rfl,rfl⟩
theorem colb_run (b : Cell) (Q : D -> H -> Prop) (hQ : Q (.tup [add1D,text1D]) [b,.box 99 [.raw (.pointer none),.raw (.slice none 0 0)]]) : wfun TT 40 [] [b] Q := by
 unfold add1D text1D at hQ
 cbv
 (repeat'((first|(apply zS;kernel_rfl)|(apply zD;decide +kernel)|(apply zE;decide +kernel)|(apply zF;decide +kernel)|(apply zL;decide +kernel)|(apply zM;decide +kernel)|(apply zN;intros)|(apply zO;intros)|(apply zT;omega)|(apply zU;omega)|(apply zP;omega;intros)|(apply zQ;omega;intros)|apply zR);cbv))
 exact ⟨hQ⟩
theorem colb_cw (b : Cell) : CW (TT ()) 40 [] [b] fun d h' => d = .tup [add1D,text1D] ∧ ∃ c0 c1,GB [] c0 c1 ∧ h' = [b,renC sh1 c0,renC sh1 c1] := by
 have c := wfun_ok (T := TT) (by kernel_rfl) (colb_run b (fun d h' => d = .tup [add1D,text1D] ∧ h' = [b,.box 99 [.raw (.pointer none),.raw (.slice none 0 0)]]) ⟨rfl,rfl⟩)
 refine ⟨c.1,fun C w args s r => (c.2 C w args s r).mono ?_⟩
 rintro e w' ⟨v,C',d,h',h1,⟨rfl,rfl⟩,f,s',r'⟩
 obtain ⟨C2,f2,s2,hl⟩ := s'.log_nil 5 1
 refine ⟨v,C2,_,[b,.box 99 [.raw (.pointer none),.sl (some 2) 1 []],.log 5 1 0],h1,⟨rfl,_,_,⟨false,rfl⟩,rfl⟩,f.trans f2,s2.weak rfl (fun id t ds' e => ?_) (fun id e sz n e' => ?_) (fun id bb PP e => ?_),r'.mono f2.toEv⟩
 ·match id,e with
  | 0,e => exact ⟨ds',e,fun vs h => h⟩
  | 1,e =>
   cases e
   refine ⟨_,rfl,?_⟩
   rintro vs ⟨v0,rest,rfl,h0,v1,rest',rfl,h1,h2⟩
   simp only [Pv.Rd] at h1
   refine ⟨_,_,rfl,h0,_,_,rfl,⟨⟨none,0,by rw [h1];rfl,Nat.le_refl _,Nat.zero_le _⟩,fun h => absurd h (by simp),fun id e => ?_⟩,h2⟩
   cases e
   exact ⟨.slice none 0 0,hl,by simp,fun _ => h1⟩
  | 2,e => cases e
  | n + 3,e => simp at e
 ·match id,e' with
  | 0,e => exact e
  | 1,e => cases e
  | 2,e => cases e;rfl
  | n + 3,e => simp at e
 ·match id,e with
  | 0,e => exact e
  | 1,e => cases e
  | 2,e => cases e
  | n + 3,e => simp at e
theorem showp_cp (t : Ty5) (ho : okT t) (hr : (shT t).length ≤ 140737488355328) : CP (TT ()) 20 [tyD t] (· = .raw (.string ⟨(shT t).toArray⟩)) := by
 have hs := show_step t ho [] (by simpa using hr)
 obtain ⟨k,n,nm,L,K,f0,g0,i0,j0⟩ := ty_node t
 have hp := ty_pure t
 have hre := pure_ren sh1 _ hp
 rw [f0] at hs hp hre ⊢
 rw [List.nil_append] at hs
 have hs1 := fun b c0 c1 hG => hs.ahead (es := [nodeD k n nm L K,add1D]) (by simp only [renL,hre];rfl) (by simp [idbL,idb,i0,j0,addD]) b c0 c1 hG
 have ht1 := text_ahead (shT t)
 have hc := colb_cw
 generalize shT t = T at hs1 ht1 ⊢
 generalize (⟨T.toArray⟩ : ByteArray) = z at ht1 ⊢
 suffices hw : ∀ Q : D -> H -> Prop,(∀ h',Q (.raw (.string z)) h') -> wfun TT 20 [nodeD k n nm L K] [] Q from
  (wfun_ok (T := TT) (by kernel_rfl) (hw (fun d _ => d = .raw (.string z)) fun _ => rfl)).cp fun d h' h => ⟨d,by rw [h];rfl,h⟩
 intro Q hQ
 unfold add1D at hs1 hc
 unfold text1D at hc
 cbv
 (repeat'((first|(apply zS;kernel_rfl)|(apply zD;decide +kernel)|(apply zE;decide +kernel)|(apply zF;decide +kernel)|(apply zL;decide +kernel)|(apply zM;decide +kernel)|(apply zN;intros)|(apply zO;intros)|(apply zT;omega)|(apply zU;omega)|(apply zP;omega;intros)|(apply zQ;omega;intros)|apply zR);cbv))
 refine CallK.mut (hc _) ?_
 rintro d h' ⟨rfl,c0,c1,hG,rfl⟩
 have h1 := fun b => hs1 b c0 c1 hG
 generalize renC sh1 c0 = x0 at h1 ⊢
 generalize renC sh1 c1 = x1 at h1 ⊢
 cbv
 (repeat'((first|(apply zS;kernel_rfl)|(apply zD;decide +kernel)|(apply zE;decide +kernel)|(apply zF;decide +kernel)|(apply zL;decide +kernel)|(apply zM;decide +kernel)|(apply zN;intros)|(apply zO;intros)|(apply zT;omega)|(apply zU;omega)|(apply zP;omega;intros)|(apply zQ;omega;intros)|apply zR);cbv))
 refine CallK.mut (h1 _) ?_
 rintro d h' ⟨rfl,e0,e1,hE,rfl⟩
 have h2 := fun b => ht1 b e0 e1 hE
 generalize renC sh1 e0 = y0 at h2 ⊢
 generalize renC sh1 e1 = y1 at h2 ⊢
 cbv
 (repeat'((first|(apply zS;kernel_rfl)|(apply zD;decide +kernel)|(apply zE;decide +kernel)|(apply zF;decide +kernel)|(apply zL;decide +kernel)|(apply zM;decide +kernel)|(apply zN;intros)|(apply zO;intros)|(apply zT;omega)|(apply zU;omega)|(apply zP;omega;intros)|(apply zQ;omega;intros)|apply zR);cbv))
 refine CallK.mut (h2 _) ?_
 rintro d h' ⟨rfl,rfl⟩
 cbv
 (repeat'((first|(apply zS;kernel_rfl)|(apply zD;decide +kernel)|(apply zE;decide +kernel)|(apply zF;decide +kernel)|(apply zL;decide +kernel)|(apply zM;decide +kernel)|(apply zN;intros)|(apply zO;intros)|(apply zT;omega)|(apply zU;omega)|(apply zP;omega;intros)|(apply zQ;omega;intros)|apply zR);cbv))
 exact ⟨hQ _⟩
def awakeS : ByteArray := ⟨#[123,98,58,32,73,110,116,44,32,97,58,32,40,88,32,45,62,32,63,41,32,45,62,32,84,111,112,125]⟩
def awakeK : List Ty5 := [.mk 7 0 ⟨#[]⟩ [] [.mk 7 0 ⟨#[]⟩ [] [.mk 6 0 ⟨#[88]⟩ [] [],.mk 5 0 ⟨#[]⟩ [] []],.mk 4 0 ⟨#[]⟩ [] []],.mk 1 0 ⟨#[]⟩ [] []]
def awakeT : Ty5 := .mk 8 0 ⟨#[]⟩ [⟨#[97]⟩,⟨#[98]⟩] awakeK
theorem awake_parse : parseS awakeS = .ok awakeT 15 := by kernel_rfl
theorem awake_shows : shT awakeT = [123,97,58,32,40,88,32,45,62,32,63,41,32,45,62,32,84,111,112,44,32,98,58,32,73,110,116,125] := by kernel_rfl
theorem awake_ok : okT awakeT := by
 have h : (1 : Nat) ≤ maxLen := by decide
 have z : ∀ k,okT (.mk k 0 ⟨#[]⟩ [] []) := fun k => ⟨nil_size,no_mem,trivial⟩
 refine ⟨nil_size,fun s hs => ?_,⟨nil_size,no_mem,⟨nil_size,no_mem,⟨h,no_mem,trivial⟩,z 5,trivial⟩,z 4,trivial⟩,z 1,trivial⟩
 rcases List.mem_cons.1 hs with rfl | hs
 ·exact h
 ·rw [List.mem_singleton.1 hs]
  exact h
theorem awake_cp : CP (TT ()) 7 [] (· = .raw (.bool true)) := by
 refine runV fun Q hQ => ?_
 have c1 := parse_cp awakeS (by decide)
 rw [awake_parse] at c1
 have p1 := parseD_pure (.ok awakeT 15)
 have c2 := showp_cp awakeT awake_ok (by rw [awake_shows];decide)
 rw [awake_shows] at c2
 have pT := ty_pure awakeT
 unfold awakeS at c1
 simp only [parseD,awakeT,tyD] at c1 p1 c2 pT
 have e1 : ([⟨#[97]⟩,⟨#[98]⟩] : List ByteArray).map strD = [.raw (.string ⟨#[97]⟩),.raw (.string ⟨#[98]⟩)] := rfl
 rw [e1] at c1 p1 c2 pT
 generalize tysD awakeK = K at c1 p1 c2 pT
 cbv
 (repeat'((first|(apply zS;kernel_rfl)|(apply zD;decide +kernel)|(apply zE;decide +kernel)|(apply zF;decide +kernel)|(apply zL;decide +kernel)|(apply zM;decide +kernel)|(apply zN;intros)|(apply zO;intros)|(apply zT;omega)|(apply zU;omega)|(apply zP;omega;intros)|(apply zQ;omega;intros)|apply zR);cbv))
 refine .one c1 rfl p1 ?_
 cbv
 (repeat'((first|(apply zS;kernel_rfl)|(apply zD;decide +kernel)|(apply zE;decide +kernel)|(apply zF;decide +kernel)|(apply zL;decide +kernel)|(apply zM;decide +kernel)|(apply zN;intros)|(apply zO;intros)|(apply zT;omega)|(apply zU;omega)|(apply zP;omega;intros)|(apply zQ;omega;intros)|apply zR);cbv))
 refine BinK.nilEq ?_
 cbv
 (repeat'((first|(apply zS;kernel_rfl)|(apply zD;decide +kernel)|(apply zE;decide +kernel)|(apply zF;decide +kernel)|(apply zL;decide +kernel)|(apply zM;decide +kernel)|(apply zN;intros)|(apply zO;intros)|(apply zT;omega)|(apply zU;omega)|(apply zP;omega;intros)|(apply zQ;omega;intros)|apply zR);cbv))
 refine IdxK.intro (by decide) rfl ?_
 cbv
 (repeat'((first|(apply zS;kernel_rfl)|(apply zD;decide +kernel)|(apply zE;decide +kernel)|(apply zF;decide +kernel)|(apply zL;decide +kernel)|(apply zM;decide +kernel)|(apply zN;intros)|(apply zO;intros)|(apply zT;omega)|(apply zU;omega)|(apply zP;omega;intros)|(apply zQ;omega;intros)|apply zR);cbv))
 refine BinK.seql (fun _ => ?_) (fun h => absurd rfl h)
 cbv
 (repeat'((first|(apply zS;kernel_rfl)|(apply zD;decide +kernel)|(apply zE;decide +kernel)|(apply zF;decide +kernel)|(apply zL;decide +kernel)|(apply zM;decide +kernel)|(apply zN;intros)|(apply zO;intros)|(apply zT;omega)|(apply zU;omega)|(apply zP;omega;intros)|(apply zQ;omega;intros)|apply zR);cbv))
 refine .one c2 (cons_pure pT rfl) rfl ?_
 cbv
 (repeat'((first|(apply zS;kernel_rfl)|(apply zD;decide +kernel)|(apply zE;decide +kernel)|(apply zF;decide +kernel)|(apply zL;decide +kernel)|(apply zM;decide +kernel)|(apply zN;intros)|(apply zO;intros)|(apply zT;omega)|(apply zU;omega)|(apply zP;omega;intros)|(apply zQ;omega;intros)|apply zR);cbv))
 refine BinK.seql (fun _ => ?_) (fun h => absurd rfl h)
 cbv
 (repeat'((first|(apply zS;kernel_rfl)|(apply zD;decide +kernel)|(apply zE;decide +kernel)|(apply zF;decide +kernel)|(apply zL;decide +kernel)|(apply zM;decide +kernel)|(apply zN;intros)|(apply zO;intros)|(apply zT;omega)|(apply zU;omega)|(apply zP;omega;intros)|(apply zQ;omega;intros)|apply zR);cbv))
 exact ⟨hQ _⟩
end Go.Proofs.YtkoabcncdjmoeaaGreatDoor
