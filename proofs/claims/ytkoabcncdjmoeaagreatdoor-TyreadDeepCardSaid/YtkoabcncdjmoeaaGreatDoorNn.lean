/- Parts of the proof: PwSh, PwJo, ShD, PwRd. -/
import Derived.Lib.ItoaNum
import Derived.Test.YtkoabcncdjmoeaaGreatDoorNk
import Derived.Test.YtkoabcncdjmoeaaGreatDoorMe
import Derived.Test.YtkoabcncdjmoeaaGreatDoorNm
import Derived.Test.YtkoabcncdjmoeaaGreatDoorMd
set_option linter.unusedSimpArgs false
set_option linter.unusedVariables false
set_option maxRecDepth 1000000
set_option maxHeartbeats 40000000
namespace Go.Proofs.YtkoabcncdjmoeaaGreatDoor
open Go.RowKit Pv
def GB (S : List UInt8) (c0 c1 : Cell) : Prop := ∃ u,[c0,c1] = Bld u S
def Step (k : FuncId) (ds : List D) (S T : List UInt8) : Prop := ∀ (rest : H) (c0 c1 : Cell),GB S c0 c1 -> CW (TT ()) k ds (c0 :: c1 :: rest) fun d h' => d = .tup [] ∧ ∃ e0 e1,GB T e0 e1 ∧ h' = e0 :: e1 :: rest
theorem bytes_idb (m : Nat) : ∀ S : List UInt8,idbL m (bytesD S) = true
 | [] => rfl
 | b :: r => by
  have := bytes_idb m r
  simp only [bytesD,List.map_cons,idbL,byteD,idb,Bool.true_and] at this ⊢
  exact this
theorem bld_idb (u : Bool) (S : List UInt8) : (Bld u S).all (cellIdb 2) = true := by
 have := bytes_idb 2 S
 cases u <;> simp [Bld,cellIdb,idbL,idb,headD,this]
theorem Step.mk {k : FuncId} {ds : List D} {S T : List UInt8} (hid : idbL 2 ds = true) (h : ∀ u,CW (TT ()) k ds (Bld u S) fun d h' => d = .tup [] ∧ ∃ u',h' = Bld u' T) : Step k ds S T := by
 rintro rest c0 c1 ⟨u,hu⟩
 have c := (h u).ext rest hid (bld_idb u S) (fun d h' ⟨h1,u',h2⟩ => by subst h1 h2;exact ⟨rfl,rfl,bld_idb u' T⟩)
 rw [show c0 :: c1 :: rest = Bld u S ++ rest by rw [← hu];rfl]
 refine c.mono ?_
 rintro d h' ⟨h0',⟨h1,u',rfl⟩,rfl⟩
 exact ⟨h1,_,_,⟨u',rfl⟩,rfl⟩
theorem Step.run {k : FuncId} {ds : List D} {S T : List UInt8} (hid : idbL 2 ds = true) (h : ∀ (c0 c1 : Cell),GB S c0 c1 -> ∀ Q : D -> H -> Prop,(∀ e0 e1 tl,GB T e0 e1 -> Q (.tup []) (e0 :: e1 :: tl)) -> wfun TT k ds [c0,c1] Q) : Step k ds S T := by
 refine Step.mk hid fun u => ?_
 have c := wfun_ok (T := TT) (by kernel_rfl) (h _ _ ⟨u,rfl⟩ (fun d h' => d = .tup [] ∧ ∃ e0 e1 tl,GB T e0 e1 ∧ h' = e0 :: e1 :: tl) fun e0 e1 tl hG => ⟨rfl,e0,e1,tl,hG,rfl⟩)
 refine CW.gc (h := Bld u S) c ?_
 rintro d h' ⟨rfl,e0,e1,tl,⟨u',hu⟩,rfl⟩
 refine ⟨rfl,?_,rfl,u',hu⟩
 show [e0,e1].all (cellIdb 2) = true
 rw [hu]
 exact bld_idb u' T
theorem add_step (S : List UInt8) (s : ByteArray) (hr : S.length + s.size ≤ 140737488355328) : Step 54 [.raw (.string s),.bx 0 0] S (S ++ s.data.toList) :=
 Step.mk rfl fun u => (add_cw u S s hr).mono fun d h' ⟨h1,h2⟩ => ⟨h1,true,h2⟩
abbrev nodeD (k n : Int) (nm : ByteArray) (LS KS : List D) : D := .agg [.raw (.int .i64 k),.raw (.int .i64 n),.raw (.string nm),.sl none 1 LS,.sl none 5 KS]
theorem write_k1 (n : Int) (nm : ByteArray) (LS KS : List D) (hL : idbL 2 LS = true) (hK : idbL 2 KS = true) (S : List UInt8) (hr : S.length + 3 ≤ 140737488355328) : Step 59 [nodeD 1 n nm LS KS,addD] S (S ++ [73,110,116]) := by
 refine Step.run (by simp [idbL,idb,hL,hK,addD]) fun c0 c1 hG Q hQ => ?_
 have ha : Step 54 [.raw (.string ⟨#[73,110,116]⟩),.bx 0 0] S (S ++ [73,110,116]) := add_step S ⟨#[73,110,116]⟩ (by show S.length + 3 ≤ _;omega)
 generalize S ++ [73,110,116] = T at ha hQ
 cbv
 (repeat'((first|(apply zS;kernel_rfl)|(apply zD;decide +kernel)|(apply zE;decide +kernel)|(apply zF;decide +kernel)|(apply zL;decide +kernel)|(apply zM;decide +kernel)|(apply zN;intros)|(apply zO;intros)|(apply zT;omega)|(apply zU;omega)|(apply zP;omega;intros)|(apply zQ;omega;intros)|apply zR);cbv))
 refine CallK.mut (ha _ _ _ hG) ?_
 rintro d h' ⟨rfl,e0,e1,hG',rfl⟩
 cbv
 (repeat'((first|(apply zS;kernel_rfl)|(apply zD;decide +kernel)|(apply zE;decide +kernel)|(apply zF;decide +kernel)|(apply zL;decide +kernel)|(apply zM;decide +kernel)|(apply zN;intros)|(apply zO;intros)|(apply zT;omega)|(apply zU;omega)|(apply zP;omega;intros)|(apply zQ;omega;intros)|apply zR);cbv))
 exact ⟨hQ _ _ _ hG'⟩
theorem write_k2 (n : Int) (nm : ByteArray) (LS KS : List D) (hL : idbL 2 LS = true) (hK : idbL 2 KS = true) (S : List UInt8) (hr : S.length + 4 ≤ 140737488355328) : Step 59 [nodeD 2 n nm LS KS,addD] S (S ++ [66,111,111,108]) := by
 refine Step.run (by simp [idbL,idb,hL,hK,addD]) fun c0 c1 hG Q hQ => ?_
 have ha : Step 54 [.raw (.string ⟨#[66,111,111,108]⟩),.bx 0 0] S (S ++ [66,111,111,108]) := add_step S ⟨#[66,111,111,108]⟩ (by show S.length + 4 ≤ _;omega)
 generalize S ++ [66,111,111,108] = T at ha hQ
 cbv
 (repeat'((first|(apply zS;kernel_rfl)|(apply zD;decide +kernel)|(apply zE;decide +kernel)|(apply zF;decide +kernel)|(apply zL;decide +kernel)|(apply zM;decide +kernel)|(apply zN;intros)|(apply zO;intros)|(apply zT;omega)|(apply zU;omega)|(apply zP;omega;intros)|(apply zQ;omega;intros)|apply zR);cbv))
 refine CallK.mut (ha _ _ _ hG) ?_
 rintro d h' ⟨rfl,e0,e1,hG',rfl⟩
 cbv
 (repeat'((first|(apply zS;kernel_rfl)|(apply zD;decide +kernel)|(apply zE;decide +kernel)|(apply zF;decide +kernel)|(apply zL;decide +kernel)|(apply zM;decide +kernel)|(apply zN;intros)|(apply zO;intros)|(apply zT;omega)|(apply zU;omega)|(apply zP;omega;intros)|(apply zQ;omega;intros)|apply zR);cbv))
 exact ⟨hQ _ _ _ hG'⟩
theorem write_k3 (n : Int) (nm : ByteArray) (LS KS : List D) (hL : idbL 2 LS = true) (hK : idbL 2 KS = true) (S : List UInt8) (hr : S.length + 6 ≤ 140737488355328) : Step 59 [nodeD 3 n nm LS KS,addD] S (S ++ [83,116,114,105,110,103]) := by
 refine Step.run (by simp [idbL,idb,hL,hK,addD]) fun c0 c1 hG Q hQ => ?_
 have ha : Step 54 [.raw (.string ⟨#[83,116,114,105,110,103]⟩),.bx 0 0] S (S ++ [83,116,114,105,110,103]) := add_step S ⟨#[83,116,114,105,110,103]⟩ (by show S.length + 6 ≤ _;omega)
 generalize S ++ [83,116,114,105,110,103] = T at ha hQ
 cbv
 (repeat'((first|(apply zS;kernel_rfl)|(apply zD;decide +kernel)|(apply zE;decide +kernel)|(apply zF;decide +kernel)|(apply zL;decide +kernel)|(apply zM;decide +kernel)|(apply zN;intros)|(apply zO;intros)|(apply zT;omega)|(apply zU;omega)|(apply zP;omega;intros)|(apply zQ;omega;intros)|apply zR);cbv))
 refine CallK.mut (ha _ _ _ hG) ?_
 rintro d h' ⟨rfl,e0,e1,hG',rfl⟩
 cbv
 (repeat'((first|(apply zS;kernel_rfl)|(apply zD;decide +kernel)|(apply zE;decide +kernel)|(apply zF;decide +kernel)|(apply zL;decide +kernel)|(apply zM;decide +kernel)|(apply zN;intros)|(apply zO;intros)|(apply zT;omega)|(apply zU;omega)|(apply zP;omega;intros)|(apply zQ;omega;intros)|apply zR);cbv))
 exact ⟨hQ _ _ _ hG'⟩
theorem write_k4 (n : Int) (nm : ByteArray) (LS KS : List D) (hL : idbL 2 LS = true) (hK : idbL 2 KS = true) (S : List UInt8) (hr : S.length + 3 ≤ 140737488355328) : Step 59 [nodeD 4 n nm LS KS,addD] S (S ++ [84,111,112]) := by
 refine Step.run (by simp [idbL,idb,hL,hK,addD]) fun c0 c1 hG Q hQ => ?_
 have ha : Step 54 [.raw (.string ⟨#[84,111,112]⟩),.bx 0 0] S (S ++ [84,111,112]) := add_step S ⟨#[84,111,112]⟩ (by show S.length + 3 ≤ _;omega)
 generalize S ++ [84,111,112] = T at ha hQ
 cbv
 (repeat'((first|(apply zS;kernel_rfl)|(apply zD;decide +kernel)|(apply zE;decide +kernel)|(apply zF;decide +kernel)|(apply zL;decide +kernel)|(apply zM;decide +kernel)|(apply zN;intros)|(apply zO;intros)|(apply zT;omega)|(apply zU;omega)|(apply zP;omega;intros)|(apply zQ;omega;intros)|apply zR);cbv))
 refine CallK.mut (ha _ _ _ hG) ?_
 rintro d h' ⟨rfl,e0,e1,hG',rfl⟩
 cbv
 (repeat'((first|(apply zS;kernel_rfl)|(apply zD;decide +kernel)|(apply zE;decide +kernel)|(apply zF;decide +kernel)|(apply zL;decide +kernel)|(apply zM;decide +kernel)|(apply zN;intros)|(apply zO;intros)|(apply zT;omega)|(apply zU;omega)|(apply zP;omega;intros)|(apply zQ;omega;intros)|apply zR);cbv))
 exact ⟨hQ _ _ _ hG'⟩
theorem write_k5 (n : Int) (nm : ByteArray) (LS KS : List D) (hL : idbL 2 LS = true) (hK : idbL 2 KS = true) (S : List UInt8) (hr : S.length + 1 ≤ 140737488355328) : Step 59 [nodeD 5 n nm LS KS,addD] S (S ++ [63]) := by
 refine Step.run (by simp [idbL,idb,hL,hK,addD]) fun c0 c1 hG Q hQ => ?_
 have ha : Step 54 [.raw (.string ⟨#[63]⟩),.bx 0 0] S (S ++ [63]) := add_step S ⟨#[63]⟩ (by show S.length + 1 ≤ _;omega)
 generalize S ++ [63] = T at ha hQ
 cbv
 (repeat'((first|(apply zS;kernel_rfl)|(apply zD;decide +kernel)|(apply zE;decide +kernel)|(apply zF;decide +kernel)|(apply zL;decide +kernel)|(apply zM;decide +kernel)|(apply zN;intros)|(apply zO;intros)|(apply zT;omega)|(apply zU;omega)|(apply zP;omega;intros)|(apply zQ;omega;intros)|apply zR);cbv))
 refine CallK.mut (ha _ _ _ hG) ?_
 rintro d h' ⟨rfl,e0,e1,hG',rfl⟩
 cbv
 (repeat'((first|(apply zS;kernel_rfl)|(apply zD;decide +kernel)|(apply zE;decide +kernel)|(apply zF;decide +kernel)|(apply zL;decide +kernel)|(apply zM;decide +kernel)|(apply zN;intros)|(apply zO;intros)|(apply zT;omega)|(apply zU;omega)|(apply zP;omega;intros)|(apply zQ;omega;intros)|apply zR);cbv))
 exact ⟨hQ _ _ _ hG'⟩
theorem write_var (n : Int) (nm : ByteArray) (LS KS : List D) (hL : idbL 2 LS = true) (hK : idbL 2 KS = true) (S : List UInt8) (hr : S.length + nm.size ≤ 140737488355328) : Step 59 [nodeD 6 n nm LS KS,addD] S (S ++ nm.data.toList) := by
 refine Step.run (by simp [idbL,idb,hL,hK,addD]) fun c0 c1 hG Q hQ => ?_
 have ha := add_step S nm hr
 generalize S ++ nm.data.toList = T at ha hQ
 cbv
 (repeat'((first|(apply zS;kernel_rfl)|(apply zD;decide +kernel)|(apply zE;decide +kernel)|(apply zF;decide +kernel)|(apply zL;decide +kernel)|(apply zM;decide +kernel)|(apply zN;intros)|(apply zO;intros)|(apply zT;omega)|(apply zU;omega)|(apply zP;omega;intros)|(apply zQ;omega;intros)|apply zR);cbv))
 refine CallK.mut (ha _ _ _ hG) ?_
 rintro d h' ⟨rfl,e0,e1,hG',rfl⟩
 cbv
 (repeat'((first|(apply zS;kernel_rfl)|(apply zD;decide +kernel)|(apply zE;decide +kernel)|(apply zF;decide +kernel)|(apply zL;decide +kernel)|(apply zM;decide +kernel)|(apply zN;intros)|(apply zO;intros)|(apply zT;omega)|(apply zU;omega)|(apply zP;omega;intros)|(apply zQ;omega;intros)|apply zR);cbv))
 exact ⟨hQ _ _ _ hG'⟩
theorem write_seal (n : Int) (nm : ByteArray) (LS KS : List D) (hL : idbL 2 LS = true) (hK : idbL 2 KS = true) (S : List UInt8) (h0 : -9223372036854775808 ≤ n) (h1 : n ≤ 9223372036854775807) (hr : S.length + 1 + (Lib.itoa n).length ≤ 140737488355328) : Step 59 [nodeD 9 n nm LS KS,addD] S (S ++ [35] ++ Lib.itoa n) := by
 refine Step.run (by simp [idbL,idb,hL,hK,addD]) fun c0 c1 hG Q hQ => ?_
 have ha := add_step S ⟨#[35]⟩ (by show S.length + 1 ≤ _;omega)
 have hi := itoa_cp n h0 h1
 have hb := add_step (S ++ [35]) ⟨(Lib.itoa n).toArray⟩ (by simp [ByteArray.size];omega)
 rw [show (⟨(Lib.itoa n).toArray⟩ : ByteArray).data.toList = Lib.itoa n from rfl] at hb
 change Step _ _ _ (S ++ [35]) at ha
 generalize S ++ [35] ++ Lib.itoa n = T at hb hQ
 generalize S ++ [35] = T1 at ha hb
 generalize (⟨(Lib.itoa n).toArray⟩ : ByteArray) = z at hi hb
 cbv
 (repeat'((first|(apply zS;kernel_rfl)|(apply zD;decide +kernel)|(apply zE;decide +kernel)|(apply zF;decide +kernel)|(apply zL;decide +kernel)|(apply zM;decide +kernel)|(apply zN;intros)|(apply zO;intros)|(apply zT;omega)|(apply zU;omega)|(apply zP;omega;intros)|(apply zQ;omega;intros)|apply zR);cbv))
 refine CallK.mut (ha _ _ _ hG) ?_
 rintro d h' ⟨rfl,e0,e1,hG1,rfl⟩
 cbv
 (repeat'((first|(apply zS;kernel_rfl)|(apply zD;decide +kernel)|(apply zE;decide +kernel)|(apply zF;decide +kernel)|(apply zL;decide +kernel)|(apply zM;decide +kernel)|(apply zN;intros)|(apply zO;intros)|(apply zT;omega)|(apply zU;omega)|(apply zP;omega;intros)|(apply zQ;omega;intros)|apply zR);cbv))
 refine CallK.one hi rfl rfl ?_
 cbv
 (repeat'((first|(apply zS;kernel_rfl)|(apply zD;decide +kernel)|(apply zE;decide +kernel)|(apply zF;decide +kernel)|(apply zL;decide +kernel)|(apply zM;decide +kernel)|(apply zN;intros)|(apply zO;intros)|(apply zT;omega)|(apply zU;omega)|(apply zP;omega;intros)|(apply zQ;omega;intros)|apply zR);cbv))
 refine CallK.mut (hb _ _ _ hG1) ?_
 rintro d h' ⟨rfl,f0,f1,hG2,rfl⟩
 cbv
 (repeat'((first|(apply zS;kernel_rfl)|(apply zD;decide +kernel)|(apply zE;decide +kernel)|(apply zF;decide +kernel)|(apply zL;decide +kernel)|(apply zM;decide +kernel)|(apply zN;intros)|(apply zO;intros)|(apply zT;omega)|(apply zU;omega)|(apply zP;omega;intros)|(apply zQ;omega;intros)|apply zR);cbv))
 exact ⟨hQ _ _ _ hG2⟩
theorem write_fun (n : Int) (nm : ByteArray) (LS : List D) (k0 n0 k1 n1 : Int) (m0 m1 : ByteArray) (L0 K0 L1 K1 : List D) (hL : idbL 2 LS = true) (hL0 : idbL 2 L0 = true) (hK0 : idbL 2 K0 = true) (hL1 : idbL 2 L1 = true) (hK1 : idbL 2 K1 = true) (S T1 T2 : List UInt8)
  (hp : Step 89 [nodeD k0 n0 m0 L0 K0,addD] S T1) (ha : Step 54 [.raw (.string ⟨#[32,45,62,32]⟩),.bx 0 0] T1 T2) (T3 : List UInt8) (hw : Step 59 [nodeD k1 n1 m1 L1 K1,addD] T2 T3) :
  Step 59 [nodeD 7 n nm LS [nodeD k0 n0 m0 L0 K0,nodeD k1 n1 m1 L1 K1],addD] S T3 := by
 refine Step.run (by simp [idbL,idb,hL,hL0,hK0,hL1,hK1,addD]) fun c0 c1 hG Q hQ => ?_
 unfold addD at hp hw
 cbv
 (repeat'((first|(apply zS;kernel_rfl)|(apply zD;decide +kernel)|(apply zE;decide +kernel)|(apply zF;decide +kernel)|(apply zL;decide +kernel)|(apply zM;decide +kernel)|(apply zN;intros)|(apply zO;intros)|(apply zT;omega)|(apply zU;omega)|(apply zP;omega;intros)|(apply zQ;omega;intros)|apply zR);cbv))
 refine IdxK.intro (by omega) rfl ?_
 cbv
 (repeat'((first|(apply zS;kernel_rfl)|(apply zD;decide +kernel)|(apply zE;decide +kernel)|(apply zF;decide +kernel)|(apply zL;decide +kernel)|(apply zM;decide +kernel)|(apply zN;intros)|(apply zO;intros)|(apply zT;omega)|(apply zU;omega)|(apply zP;omega;intros)|(apply zQ;omega;intros)|apply zR);cbv))
 refine CallK.mut (hp _ _ _ hG) ?_
 rintro d h' ⟨rfl,e0,e1,hG1,rfl⟩
 cbv
 (repeat'((first|(apply zS;kernel_rfl)|(apply zD;decide +kernel)|(apply zE;decide +kernel)|(apply zF;decide +kernel)|(apply zL;decide +kernel)|(apply zM;decide +kernel)|(apply zN;intros)|(apply zO;intros)|(apply zT;omega)|(apply zU;omega)|(apply zP;omega;intros)|(apply zQ;omega;intros)|apply zR);cbv))
 refine CallK.mut (ha _ _ _ hG1) ?_
 rintro d h' ⟨rfl,f0,f1,hG2,rfl⟩
 cbv
 (repeat'((first|(apply zS;kernel_rfl)|(apply zD;decide +kernel)|(apply zE;decide +kernel)|(apply zF;decide +kernel)|(apply zL;decide +kernel)|(apply zM;decide +kernel)|(apply zN;intros)|(apply zO;intros)|(apply zT;omega)|(apply zU;omega)|(apply zP;omega;intros)|(apply zQ;omega;intros)|apply zR);cbv))
 refine IdxK.intro (by omega) rfl ?_
 cbv
 (repeat'((first|(apply zS;kernel_rfl)|(apply zD;decide +kernel)|(apply zE;decide +kernel)|(apply zF;decide +kernel)|(apply zL;decide +kernel)|(apply zM;decide +kernel)|(apply zN;intros)|(apply zO;intros)|(apply zT;omega)|(apply zU;omega)|(apply zP;omega;intros)|(apply zQ;omega;intros)|apply zR);cbv))
 refine CallK.mut (hw _ _ _ hG2) ?_
 rintro d h' ⟨rfl,g0,g1,hG3,rfl⟩
 cbv
 (repeat'((first|(apply zS;kernel_rfl)|(apply zD;decide +kernel)|(apply zE;decide +kernel)|(apply zF;decide +kernel)|(apply zL;decide +kernel)|(apply zM;decide +kernel)|(apply zN;intros)|(apply zO;intros)|(apply zT;omega)|(apply zU;omega)|(apply zP;omega;intros)|(apply zQ;omega;intros)|apply zR);cbv))
 exact ⟨hQ _ _ _ hG3⟩
theorem param_other (k n : Int) (nm : ByteArray) (LS KS : List D) (hk : k ≠ 7) (hL : idbL 2 LS = true) (hK : idbL 2 KS = true) (S T : List UInt8) (hw : Step 59 [nodeD k n nm LS KS,addD] S T) : Step 89 [nodeD k n nm LS KS,addD] S T := by
 refine Step.run (by simp [idbL,idb,hL,hK,addD]) fun c0 c1 hG Q hQ => ?_
 unfold addD at hw
 cbv
 (repeat'((first|(apply zS;kernel_rfl)|(apply zD;decide +kernel)|(apply zE;decide +kernel)|(apply zF;decide +kernel)|(apply zL;decide +kernel)|(apply zM;decide +kernel)|(apply zN;intros)|(apply zO;intros)|(apply zT;omega)|(apply zU;omega)|(apply zP;omega;intros)|(apply zQ;omega;intros)|apply zR);cbv))
 refine CallK.mut (hw _ _ _ hG) ?_
 rintro d h' ⟨rfl,e0,e1,hG1,rfl⟩
 cbv
 (repeat'((first|(apply zS;kernel_rfl)|(apply zD;decide +kernel)|(apply zE;decide +kernel)|(apply zF;decide +kernel)|(apply zL;decide +kernel)|(apply zM;decide +kernel)|(apply zN;intros)|(apply zO;intros)|(apply zT;omega)|(apply zU;omega)|(apply zP;omega;intros)|(apply zQ;omega;intros)|apply zR);cbv))
 exact ⟨hQ _ _ _ hG1⟩
theorem param_fun (n : Int) (nm : ByteArray) (LS KS : List D) (hL : idbL 2 LS = true) (hK : idbL 2 KS = true) (S T1 T2 T3 : List UInt8) (ha : Step 54 [.raw (.string ⟨#[40]⟩),.bx 0 0] S T1) (hw : Step 59 [nodeD 7 n nm LS KS,addD] T1 T2)
  (hb : Step 54 [.raw (.string ⟨#[41]⟩),.bx 0 0] T2 T3) : Step 89 [nodeD 7 n nm LS KS,addD] S T3 := by
 refine Step.run (by simp [idbL,idb,hL,hK,addD]) fun c0 c1 hG Q hQ => ?_
 unfold addD at hw
 cbv
 (repeat'((first|(apply zS;kernel_rfl)|(apply zD;decide +kernel)|(apply zE;decide +kernel)|(apply zF;decide +kernel)|(apply zL;decide +kernel)|(apply zM;decide +kernel)|(apply zN;intros)|(apply zO;intros)|(apply zT;omega)|(apply zU;omega)|(apply zP;omega;intros)|(apply zQ;omega;intros)|apply zR);cbv))
 refine CallK.mut (ha _ _ _ hG) ?_
 rintro d h' ⟨rfl,e0,e1,hG1,rfl⟩
 cbv
 (repeat'((first|(apply zS;kernel_rfl)|(apply zD;decide +kernel)|(apply zE;decide +kernel)|(apply zF;decide +kernel)|(apply zL;decide +kernel)|(apply zM;decide +kernel)|(apply zN;intros)|(apply zO;intros)|(apply zT;omega)|(apply zU;omega)|(apply zP;omega;intros)|(apply zQ;omega;intros)|apply zR);cbv))
 refine CallK.mut (hw _ _ _ hG1) ?_
 rintro d h' ⟨rfl,f0,f1,hG2,rfl⟩
 cbv
 (repeat'((first|(apply zS;kernel_rfl)|(apply zD;decide +kernel)|(apply zE;decide +kernel)|(apply zF;decide +kernel)|(apply zL;decide +kernel)|(apply zM;decide +kernel)|(apply zN;intros)|(apply zO;intros)|(apply zT;omega)|(apply zU;omega)|(apply zP;omega;intros)|(apply zQ;omega;intros)|apply zR);cbv))
 refine CallK.mut (hb _ _ _ hG2) ?_
 rintro d h' ⟨rfl,g0,g1,hG3,rfl⟩
 cbv
 (repeat'((first|(apply zS;kernel_rfl)|(apply zD;decide +kernel)|(apply zE;decide +kernel)|(apply zF;decide +kernel)|(apply zL;decide +kernel)|(apply zM;decide +kernel)|(apply zN;intros)|(apply zO;intros)|(apply zT;omega)|(apply zU;omega)|(apply zP;omega;intros)|(apply zQ;omega;intros)|apply zR);cbv))
 exact ⟨hQ _ _ _ hG3⟩
theorem GB.idb {S : List UInt8} {c0 c1 : Cell} (h : GB S c0 c1) {m : Nat} (hm : 2 ≤ m) : cellIdb m c0 = true ∧ cellIdb m c1 = true := by
 obtain ⟨u,hu⟩ := h
 simp only [Bld,List.cons.injEq,and_true] at hu
 obtain ⟨rfl,rfl⟩ := hu
 have := bytes_idb m S
 have h0 : (0 < m) = True := eq_true (by omega)
 have h1 : (1 < m) = True := eq_true (by omega)
 cases u <;> simp [cellIdb,idbL,Pv.idb,headD,this,h0,h1]
theorem join2_run (Ls : List D) (cl : FuncId) (cap : List D) (r0 r1 : Cell) (X Y : Nat -> List UInt8) (hform : ∀ (j : Nat) (A : D),Ls[j]? = some A -> ∃ (k n : Int) (nm : ByteArray) (L K : List D),A = nodeD k n nm L K ∧ idbL 4 L = true ∧ idbL 4 K = true) (hLs : idbL 4 Ls = true) (hcap : idbL 4 cap = true)
  (hrs : cellIdb 4 r0 = true ∧ cellIdb 4 r1 = true) (hY : Y 0 = X 0) (hcomma : ∀ j,0 < j -> j < Ls.length -> Step 54 [.raw (.string ⟨#[44,32]⟩),.bx 0 0] (X j) (Y j))
  (heach : ∀ (i : Int) (A : D),0 ≤ i -> Ls[i.toNat]? = some A -> ∀ c0 c1 bx,GB (Y i.toNat) c0 c1 -> CW (TT ()) cl (.raw (.int .i64 i) :: A :: cap) [c0,c1,r0,r1,bx] fun d h' => d = .tup [] ∧ ∃ e0 e1 tl,GB (X (i.toNat + 1)) e0 e1 ∧ h' = e0 :: e1 :: r0 :: r1 :: tl)
  (hn : Ls.length ≤ 140737488355328) (c0 c1 : Cell) (hG : GB (X 0) c0 c1) (Q : D -> H -> Prop) (hQ : ∀ e0 e1,GB (X Ls.length) e0 e1 -> Q (.tup []) [e0,e1,r0,r1]) : wfun TT 116 [.sl none 5 Ls,addD,.fn (.func cl) [] cap] [c0,c1,r0,r1] Q := by
 cbv
 (repeat'((first|(apply zS;kernel_rfl)|(apply zD;decide +kernel)|(apply zE;decide +kernel)|(apply zF;decide +kernel)|(apply zL;decide +kernel)|(apply zM;decide +kernel)|(apply zN;intros)|(apply zO;intros)|(apply zT;omega)|(apply zU;omega)|(apply zP;omega;intros)|(apply zQ;omega;intros)|apply zR);cbv))
 rename_i z hz0 hzl
 refine LoopK.put (X := Int × Cell × Cell) (fun x => [(10,.raw (.int .i64 x.1))]) (fun x => [(0,x.2.1),(1,x.2.2)]) (fun x => Ls.length - x.1.toNat) (fun x => 0 ≤ x.1 ∧ x.1.toNat ≤ Ls.length ∧ GB (X x.1.toNat) x.2.1 x.2.2) (0,c0,c1) ⟨by simp,by simp,hG⟩ rfl rfl ?_
 rintro ⟨i,d0,d1⟩ N ⟨h0,hi,hD⟩ hN
 simp only at h0 hi hD hN ⊢
 cbv
 (repeat'((first|(apply zS;kernel_rfl)|(apply zD;decide +kernel)|(apply zE;decide +kernel)|(apply zF;decide +kernel)|(apply zL;decide +kernel)|(apply zM;decide +kernel)|(apply zN;intros)|(apply zO;intros)|(apply zT;omega)|(apply zU;omega)|(apply zP;omega;intros)|(apply zQ;omega;intros)|apply zR);cbv))
 refine BinK.lss ?_ ?_ <;> intro hlt <;> cbv <;> (repeat'((first|(apply zS;kernel_rfl)|(apply zD;decide +kernel)|(apply zE;decide +kernel)|(apply zF;decide +kernel)|(apply zL;decide +kernel)|(apply zM;decide +kernel)|(apply zN;intros)|(apply zO;intros)|(apply zT;omega)|(apply zU;omega)|(apply zP;omega;intros)|(apply zQ;omega;intros)|apply zR);cbv))
 ·have hi' : i.toNat < Ls.length := by omega
  obtain ⟨A,hA⟩ : ∃ A,Ls[i.toNat]? = some A := ⟨_,List.getElem?_eq_getElem hi'⟩
  obtain ⟨k,n,nm,L,K,rfl,hiL,hiK⟩ := hform _ _ hA
  refine IdxK.intro h0 hA ?_
  have he := heach i _ h0 hA
  cbv
  (repeat'((first|(apply zS;kernel_rfl)|(apply zD;decide +kernel)|(apply zE;decide +kernel)|(apply zF;decide +kernel)|(apply zL;decide +kernel)|(apply zM;decide +kernel)|(apply zN;intros)|(apply zO;intros)|(apply zT;omega)|(apply zU;omega)|(apply zP;omega;intros)|(apply zQ;omega;intros)|apply zR);cbv))
  refine BinK.gtr ?_ ?_ <;> intro hpos <;> cbv <;> (repeat'((first|(apply zS;kernel_rfl)|(apply zD;decide +kernel)|(apply zE;decide +kernel)|(apply zF;decide +kernel)|(apply zL;decide +kernel)|(apply zM;decide +kernel)|(apply zN;intros)|(apply zO;intros)|(apply zT;omega)|(apply zU;omega)|(apply zP;omega;intros)|(apply zQ;omega;intros)|apply zR);cbv))
  ·refine CallK.mut (hcomma i.toNat (by omega) hi' _ _ _ hD) ?_
   rintro d h' ⟨rfl,e0,e1,hE,rfl⟩
   cbv
   (repeat'((first|(apply zS;kernel_rfl)|(apply zD;decide +kernel)|(apply zE;decide +kernel)|(apply zF;decide +kernel)|(apply zL;decide +kernel)|(apply zM;decide +kernel)|(apply zN;intros)|(apply zO;intros)|(apply zT;omega)|(apply zU;omega)|(apply zP;omega;intros)|(apply zQ;omega;intros)|apply zR);cbv))
   refine CallK.mut (he _ _ _ hE) ?_
   rintro d h' ⟨rfl,g0,g1,tl,hF,rfl⟩
   cbv
   (repeat'((first|(apply zS;kernel_rfl)|(apply zD;decide +kernel)|(apply zE;decide +kernel)|(apply zF;decide +kernel)|(apply zL;decide +kernel)|(apply zM;decide +kernel)|(apply zN;intros)|(apply zO;intros)|(apply zT;omega)|(apply zU;omega)|(apply zP;omega;intros)|(apply zQ;omega;intros)|apply zR);cbv))
   rename_i r hr
   refine RoundK.forget (r,g0,g1) ⟨by omega,by omega,by rw [show r.toNat = i.toNat + 1 by omega];exact hF⟩ (by simp only;omega) rfl rfl ?_ ?_
   ·simp [idbL,Pv.idb,hLs,hcap,hiL,hiK]
   ·have := hF.idb (m := 4) (by decide)
    simp [this,hrs]
  ·have hz : i.toNat = 0 := by omega
   rw [hz] at hD he
   rw [hY] at he
   refine CallK.mut (he _ _ _ hD) ?_
   rintro d h' ⟨rfl,g0,g1,tl,hF,rfl⟩
   cbv
   (repeat'((first|(apply zS;kernel_rfl)|(apply zD;decide +kernel)|(apply zE;decide +kernel)|(apply zF;decide +kernel)|(apply zL;decide +kernel)|(apply zM;decide +kernel)|(apply zN;intros)|(apply zO;intros)|(apply zT;omega)|(apply zU;omega)|(apply zP;omega;intros)|(apply zQ;omega;intros)|apply zR);cbv))
   rename_i r hr
   refine RoundK.forget (r,g0,g1) ⟨by omega,by omega,by rw [show r.toNat = 0 + 1 by omega];exact hF⟩ (by simp only;omega) rfl rfl ?_ ?_
   ·simp [idbL,Pv.idb,hLs,hcap,hiL,hiK]
   ·have := hF.idb (m := 4) (by decide)
    simp [this,hrs]
 ·have hend : i.toNat = Ls.length := by omega
  rw [hend] at hD
  exact ⟨hQ _ _ hD⟩
open Go Go.RowKit
def recX (S : List UInt8) (ls : List ByteArray) (tx : List (List UInt8)) : Nat -> List UInt8
 | 0 => S
 | j + 1 => (if j = 0 then S else recX S ls tx j ++ [44,32]) ++ (stAt ls j).data.toList ++ [58,32] ++ tx.getD j []
def recY (S : List UInt8) (ls : List ByteArray) (tx : List (List UInt8)) (j : Nat) : List UInt8 := if j = 0 then S else recX S ls tx j ++ [44,32]
theorem size_lst (s : ByteArray) : s.data.toList.length = s.size := by rw [Array.length_toList];rfl
theorem recX_succ (S : List UInt8) (ls : List ByteArray) (tx : List (List UInt8)) (j : Nat) : recX S ls tx (j + 1) = recY S ls tx j ++ (stAt ls j).data.toList ++ [58,32] ++ tx.getD j [] := rfl
def kT : Ty5 -> Int
 | .mk k _ _ _ _ => k
def combT (k n : Int) (nm : ByteArray) (ls : List ByteArray) (kinds : List Int) (ts : List (List UInt8)) : List UInt8 :=
 if k = 1 then [73,110,116] else if k = 2 then [66,111,111,108] else if k = 3 then [83,116,114,105,110,103] else if k = 4 then [84,111,112] else if k = 5 then [63]
 else if k = 6 then nm.data.toList else if k = 9 then [35] ++ Lib.itoa n
 else if k = 7 then (if kinds.getD 0 0 = 7 then [40] ++ ts.getD 0 [] ++ [41] else ts.getD 0 []) ++ [32,45,62,32] ++ ts.getD 1 []
 else if k = 8 then recX [123] ls ts ts.length ++ [125] else []
mutual
def showT : Ty5 -> List UInt8
 | .mk k n nm ls ks => combT k n nm ls (ks.map kT) (showL ks)
def showL : List Ty5 -> List (List UInt8)
 | [] => []
 | t :: r => showT t :: showL r
end
theorem showL_map : ∀ ks : List Ty5,showL ks = ks.map showT
 | [] => rfl
 | t :: r => by simp [showL,showL_map r]
theorem rec1_run (n : Int) (nm : ByteArray) (LS KS : List D) (i : Int) (k' n' : Int) (nm' : ByteArray) (L' K' : List D) (s : ByteArray) (Y W Z X : List UInt8) (h0 : 0 ≤ i) (hs : LS[i.toNat]? = some (.raw (.string s)))
  (ha : Step 54 [.raw (.string s),.bx 0 0] Y W) (hb : Step 54 [.raw (.string ⟨#[58,32]⟩),.bx 0 0] W Z) (hw : Step 59 [nodeD k' n' nm' L' K',addD] Z X)
  (c0 c1 bx : Cell) (hG : GB Y c0 c1) (Q : D -> H -> Prop) (hQ : ∀ e0 e1 tl,GB X e0 e1 -> Q (.tup []) (e0 :: e1 :: .box 26 [.raw (.int .i64 8),.raw (.int .i64 n),.raw (.string nm),.sl none 1 LS,.sl none 5 KS] :: .box 76 [addD] :: tl)) :
  wfun TT 117 [.raw (.int .i64 i),nodeD k' n' nm' L' K',.bx 3 0,.bx 2 0] [c0,c1,.box 26 [.raw (.int .i64 8),.raw (.int .i64 n),.raw (.string nm),.sl none 1 LS,.sl none 5 KS],.box 76 [addD],bx] Q := by
 unfold addD at hw hQ ⊢
 cbv
 (repeat'((first|(apply zS;kernel_rfl)|(apply zE;decide +kernel)|(apply zF;decide +kernel)|(apply zL;decide +kernel)|(apply zM;decide +kernel)|(apply zN;intros)|(apply zO;intros)|(apply zT;omega)|(apply zU;omega)|(apply zP;omega;intros)|(apply zQ;omega;intros)|apply zR);cbv))
 refine IdxK.intro h0 hs ?_
 cbv
 (repeat'((first|(apply zS;kernel_rfl)|(apply zD;decide +kernel)|(apply zE;decide +kernel)|(apply zF;decide +kernel)|(apply zL;decide +kernel)|(apply zM;decide +kernel)|(apply zN;intros)|(apply zO;intros)|(apply zT;omega)|(apply zU;omega)|(apply zP;omega;intros)|(apply zQ;omega;intros)|apply zR);cbv))
 refine CallK.mut (ha _ _ _ hG) ?_
 rintro d h' ⟨rfl,e0,e1,hG1,rfl⟩
 cbv
 (repeat'((first|(apply zS;kernel_rfl)|(apply zD;decide +kernel)|(apply zE;decide +kernel)|(apply zF;decide +kernel)|(apply zL;decide +kernel)|(apply zM;decide +kernel)|(apply zN;intros)|(apply zO;intros)|(apply zT;omega)|(apply zU;omega)|(apply zP;omega;intros)|(apply zQ;omega;intros)|apply zR);cbv))
 refine CallK.mut (hb _ _ _ hG1) ?_
 rintro d h' ⟨rfl,f0,f1,hG2,rfl⟩
 cbv
 (repeat'((first|(apply zS;kernel_rfl)|(apply zD;decide +kernel)|(apply zE;decide +kernel)|(apply zF;decide +kernel)|(apply zL;decide +kernel)|(apply zM;decide +kernel)|(apply zN;intros)|(apply zO;intros)|(apply zT;omega)|(apply zU;omega)|(apply zP;omega;intros)|(apply zQ;omega;intros)|apply zR);cbv))
 refine CallK.mut (hw _ _ _ hG2) ?_
 rintro d h' ⟨rfl,g0,g1,hG3,rfl⟩
 cbv
 (repeat'((first|(apply zS;kernel_rfl)|(apply zD;decide +kernel)|(apply zE;decide +kernel)|(apply zF;decide +kernel)|(apply zL;decide +kernel)|(apply zM;decide +kernel)|(apply zN;intros)|(apply zO;intros)|(apply zT;omega)|(apply zU;omega)|(apply zP;omega;intros)|(apply zQ;omega;intros)|apply zR);cbv))
 exact ⟨hQ _ _ _ hG3⟩
theorem recX_le (S : List UInt8) (ls : List ByteArray) (tx : List (List UInt8)) (j : Nat) : (recX S ls tx j).length ≤ (recY S ls tx j).length := by
 unfold recY
 split
 ·rename_i h;subst h;exact Nat.le_refl _
 ·simp
theorem recX_mono (S : List UInt8) (ls : List ByteArray) (tx : List (List UInt8)) : ∀ d j : Nat,(recX S ls tx j).length ≤ (recX S ls tx (j + d)).length
 | 0,_ => Nat.le_refl _
 | d + 1,j => by
  have h1 := recX_mono S ls tx d j
  have h2 := recX_le S ls tx (j + d)
  rw [← Nat.add_assoc,recX_succ]
  simp only [List.length_append]
  omega
theorem recX_two (S : List UInt8) (ls : List ByteArray) (tx : List (List UInt8)) : ∀ j : Nat,2 * j ≤ (recX S ls tx j).length
 | 0 => Nat.zero_le _
 | j + 1 => by
  have h1 := recX_two S ls tx j
  have h2 := recX_le S ls tx j
  rw [recX_succ]
  simp only [List.length_append,List.length_cons,List.length_nil]
  omega
theorem recX_app (S U : List UInt8) (ls : List ByteArray) (tx : List (List UInt8)) : ∀ j : Nat,recX (S ++ U) ls tx j = S ++ recX U ls tx j
 | 0 => rfl
 | j + 1 => by
  simp only [recX,recX_app S U ls tx j]
  by_cases h : j = 0
  ·simp [h]
  ·simp [h]
theorem recX_at (S : List UInt8) (ls : List ByteArray) (tx : List (List UInt8)) {j n : Nat} (h : j < n) : (recY S ls tx j).length + (stAt ls j).size + 2 + (tx.getD j []).length ≤ (recX S ls tx n).length := by
 have := recX_mono S ls tx (n - (j + 1)) (j + 1)
 rw [show j + 1 + (n - (j + 1)) = n by omega,recX_succ] at this
 simp only [List.length_append,List.length_cons,List.length_nil] at this
 have hs : (stAt ls j).data.toList.length = (stAt ls j).size := size_lst _
 omega
theorem record_step (n : Int) (nm : ByteArray) (ls : List ByteArray) (KS : List D) (tx : List (List UInt8)) (hl : ls.length = KS.length) (hKS : ∀ m,2 ≤ m -> idbL m KS = true)
  (hform : ∀ (j : Nat) (A : D),KS[j]? = some A -> ∃ (k n : Int) (nm : ByteArray) (L K : List D),A = nodeD k n nm L K ∧ (∀ m,2 ≤ m -> idbL m L = true) ∧ (∀ m,2 ≤ m -> idbL m K = true))
  (S : List UInt8) (hfin : (recX (S ++ [123]) ls tx KS.length).length + 1 ≤ 140737488355328)
  (hw : ∀ (j : Nat) (A : D),KS[j]? = some A -> ∀ U : List UInt8,U.length + (tx.getD j []).length ≤ 140737488355328 -> Step 59 [A,addD] U (U ++ tx.getD j [])) :
  Step 90 [nodeD 8 n nm (ls.map strD) KS,addD] S (recX (S ++ [123]) ls tx KS.length ++ [125]) := by
 have hLi : ∀ m,idbL m (ls.map strD) = true := fun m => pure_idbL m _ (strs_pure ls)
 have hn : KS.length ≤ 140737488355328 := by
  have := recX_two (S ++ [123]) ls tx KS.length
  omega
 refine Step.run (by simp [idbL,idb,hLi,hKS,addD]) fun c0 c1 hG Q hQ => ?_
 have h123 : S.length + 1 ≤ 140737488355328 := by
  have := recX_mono (S ++ [123]) ls tx KS.length 0
  rw [Nat.zero_add] at this
  simp only [recX,List.length_append,List.length_cons,List.length_nil] at this
  omega
 have ha : Step 54 [.raw (.string ⟨#[123]⟩),.bx 0 0] S (S ++ [123]) := add_step S ⟨#[123]⟩ (by show S.length + 1 ≤ _;omega)
 have hb : Step 54 [.raw (.string ⟨#[125]⟩),.bx 0 0] (recX (S ++ [123]) ls tx KS.length) (recX (S ++ [123]) ls tx KS.length ++ [125]) := add_step _ ⟨#[125]⟩ (by show _ + 1 ≤ _;omega)
 have hj : ∀ c0 c1,GB (S ++ [123]) c0 c1 -> CW (TT ()) 116 [.sl none 5 KS,addD,.fn (.func 117) [] [.bx 3 0,.bx 2 0]] [c0,c1,.box 26 [.raw (.int .i64 8),.raw (.int .i64 n),.raw (.string nm),.sl none 1 (ls.map strD),.sl none 5 KS],.box 76 [addD]]
   fun d h' => d = .tup [] ∧ ∃ e0 e1,GB (recX (S ++ [123]) ls tx KS.length) e0 e1 ∧ h' = [e0,e1,.box 26 [.raw (.int .i64 8),.raw (.int .i64 n),.raw (.string nm),.sl none 1 (ls.map strD),.sl none 5 KS],.box 76 [addD]] := fun c0 c1 hG => by
  refine wfun_ok (T := TT) (by kernel_rfl) (join2_run KS _ _ _ _ (recX (S ++ [123]) ls tx) (recY (S ++ [123]) ls tx) (fun j A hA => ?_) (hKS 4 (by decide)) (by simp [idbL,idb]) ⟨?_,?_⟩ rfl (fun j h0 h1 => ?_) (fun i A h0 hA c0 c1 bx hG => ?_) hn c0 c1 hG _ fun e0 e1 hE => ⟨rfl,e0,e1,hE,rfl⟩)
  ·obtain ⟨k,n,nm,L,K,h1,h2,h3⟩ := hform j A hA
   exact ⟨k,n,nm,L,K,h1,h2 4 (by decide),h3 4 (by decide)⟩
  ·simp [cellIdb,idbL,idb,hLi,hKS]
  ·simp [cellIdb,idbL,idb,addD]
  ·have := recX_at (S ++ [123]) ls tx h1
   unfold recY at this ⊢
   rw [if_neg (by omega)] at this ⊢
   simp only [List.length_append,List.length_cons,List.length_nil] at this
   exact add_step _ ⟨#[44,32]⟩ (by show _ + 2 ≤ _;omega)
  ·have hlt : i.toNat < KS.length := (List.getElem?_eq_some_iff.1 hA).1
   have hat := recX_at (S ++ [123]) ls tx hlt
   obtain ⟨k',n',nm',L',K',rfl,_,_⟩ := hform _ _ hA
   have hw' := hw _ _ hA (recY (S ++ [123]) ls tx i.toNat ++ (stAt ls i.toNat).data.toList ++ [58,32]) (by
    simp only [List.length_append,List.length_cons,List.length_nil]
    have hs : (stAt ls i.toNat).data.toList.length = (stAt ls i.toNat).size := size_lst _
    omega)
   rw [← recX_succ] at hw'
   exact wfun_ok (T := TT) (by kernel_rfl) (rec1_run n nm _ KS i k' n' nm' L' K' (stAt ls i.toNat) _ _ _ _ h0 (by rw [List.getElem?_map,List.getElem?_eq_getElem (by omega),stAt_get (by omega)];rfl)
    (add_step _ _ (by omega)) (add_step _ ⟨#[58,32]⟩ (by
     show _ + 2 ≤ _
     simp only [List.length_append]
     have hs : (stAt ls i.toNat).data.toList.length = (stAt ls i.toNat).size := size_lst _
     omega)) hw' c0 c1 bx hG _ fun e0 e1 tl hE => ⟨rfl,e0,e1,_,hE,rfl⟩)
 clear hw hform hfin h123 hl
 generalize recX (S ++ [123]) ls tx KS.length = T2 at hb hj hQ
 generalize T2 ++ [125] = T3 at hb hQ
 generalize S ++ [123] = T1 at ha hj
 generalize ls.map strD = LS at hj ⊢
 unfold addD at hj ⊢
 cbv
 (repeat'((first|(apply zS;kernel_rfl)|(apply zE;decide +kernel)|(apply zF;decide +kernel)|(apply zL;decide +kernel)|(apply zM;decide +kernel)|(apply zN;intros)|(apply zO;intros)|(apply zT;omega)|(apply zU;omega)|(apply zP;omega;intros)|(apply zQ;omega;intros)|apply zR);cbv))
 refine CallK.mut (ha _ _ _ hG) ?_
 rintro d h' ⟨rfl,e0,e1,hG1,rfl⟩
 cbv
 (repeat'((first|(apply zS;kernel_rfl)|(apply zE;decide +kernel)|(apply zF;decide +kernel)|(apply zL;decide +kernel)|(apply zM;decide +kernel)|(apply zN;intros)|(apply zO;intros)|(apply zT;omega)|(apply zU;omega)|(apply zP;omega;intros)|(apply zQ;omega;intros)|apply zR);cbv))
 refine CallK.mut (hj _ _ hG1) ?_
 rintro d h' ⟨rfl,f0,f1,hG2,rfl⟩
 cbv
 (repeat'((first|(apply zS;kernel_rfl)|(apply zE;decide +kernel)|(apply zF;decide +kernel)|(apply zL;decide +kernel)|(apply zM;decide +kernel)|(apply zN;intros)|(apply zO;intros)|(apply zT;omega)|(apply zU;omega)|(apply zP;omega;intros)|(apply zQ;omega;intros)|apply zR);cbv))
 refine CallK.mut (hb _ _ _ hG2) ?_
 rintro d h' ⟨rfl,g0,g1,hG3,rfl⟩
 cbv
 (repeat'((first|(apply zS;kernel_rfl)|(apply zE;decide +kernel)|(apply zF;decide +kernel)|(apply zL;decide +kernel)|(apply zM;decide +kernel)|(apply zN;intros)|(apply zO;intros)|(apply zT;omega)|(apply zU;omega)|(apply zP;omega;intros)|(apply zQ;omega;intros)|apply zR);cbv))
 exact ⟨hQ _ _ _ hG3⟩
end Go.Proofs.YtkoabcncdjmoeaaGreatDoor
