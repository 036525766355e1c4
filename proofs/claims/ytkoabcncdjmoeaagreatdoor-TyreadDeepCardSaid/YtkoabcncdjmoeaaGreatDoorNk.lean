/- The builder's WriteString, the collector and its two closures, by the open run. -/
import Derived.Test.YtkoabcncdjmoeaaGreatDoorNj
set_option linter.unusedSimpArgs false
set_option linter.unusedVariables false
set_option maxRecDepth 1000000
set_option maxHeartbeats 40000000
namespace Go.Proofs.YtkoabcncdjmoeaaGreatDoor
open Go.RowKit Pv
theorem el_bytes : ElemIs (TT ()) 97 5 1 1 := by unfold ElemIs;kernel_rfl
theorem len_str {ty : TypeId} {cs : Array Bool} {s : ByteArray} {z : Int} {K : D -> Prop} (hz : (s.size : Int) = z) (hk : K (.raw (.int .i64 z))) : BuiltK TT .len #[9] ty cs [.string s] K := by
 subst hz
 exact ⟨.int .i64 s.size,by kernel_rfl,hk⟩
theorem bld_app {S : List UInt8} {LS L : List D} {n n' : Nat} {s : ByteArray} (hLS : bytesD S = LS) (hn : S.length = n) (hL : L = LS ++ (s.data.toList.map fun b => D.raw (.int .u8 b.toNat))) (hn' : n' = L.length) : [Cell.box 99 [.bx 0 0,.sl (some 1) 1 L],.log 5 1 n'] = Bld true (S ++ s.data.toList) := by
 subst hLS hn' hL
 simp [Bld,headD,bytesD]
theorem bw_run (u : Bool) (S : List UInt8) (s : ByteArray) (hr : S.length + s.size ≤ 140737488355328) (Q : D -> H -> Prop) (hQ : ∀ h',h' = Bld true (S ++ s.data.toList) -> Q (.tup [.raw (.int .i64 s.size),.raw .nilIface]) h') : wfun TT 55 [.bx 0 0,.raw (.string s)] (Bld u S) Q := by
 have hcc : CW (TT ()) 85 [.bx 0 0] (Bld u S) fun d h' => d = .tup [] ∧ h' = [.box 99 [.bx 0 0,.sl (some 1) 1 (bytesD S)],.log 5 1 S.length] := cc_cw u S
 have hap : ∀ {LS L : List D} {n n' : Nat},bytesD S = LS -> S.length = n -> L = LS ++ (s.data.toList.map fun b => D.raw (.int .u8 b.toNat)) -> n' = L.length -> Q (.tup [.raw (.int .i64 s.size),.raw .nilIface]) [Cell.box 99 [.bx 0 0,.sl (some 1) 1 L],.log 5 1 n'] := fun h1 h2 h3 h4 => hQ _ (bld_app h1 h2 h3 h4)
 clear hQ
 unfold Bld at hcc ⊢
 have hl := bytesD_len S
 generalize headD u = p at hcc ⊢
 generalize hLS : bytesD S = LS at hcc hl ⊢
 generalize hn : S.length = n at hcc hl hr ⊢
 cbv
 (repeat'((first|(apply zS;kernel_rfl)|(apply zD;decide +kernel)|(apply zE;decide +kernel)|(apply zF;decide +kernel)|(apply zL;decide +kernel)|(apply zM;decide +kernel)|(apply zN;intros)|(apply zO;intros)|(apply zT;omega)|(apply zU;omega)|(apply zP;omega;intros)|(apply zQ;omega;intros)|apply zR);cbv))
 refine CallK.mut hcc ?_
 rintro d h' ⟨rfl,rfl⟩
 cbv
 (repeat'((first|(apply zS;kernel_rfl)|(apply zD;decide +kernel)|(apply zE;decide +kernel)|(apply zF;decide +kernel)|(apply zL;decide +kernel)|(apply zM;decide +kernel)|(apply zN;intros)|(apply zO;intros)|(apply zT;omega)|(apply zU;omega)|(apply zP;omega;intros)|(apply zQ;omega;intros)|apply zR);cbv))
 refine AppK.str el_bytes Tryz.underlying9 rfl hl.symm (by omega) fun L n' h1 h2 => ?_
 have hf := hap hLS hn h1 h2
 clear h1 h2 hap hcc hl hLS hn hr
 generalize hsz : (s.size : Int) = z at hf
 cbv
 (repeat'((first|(apply zS;kernel_rfl)|(apply zD;decide +kernel)|(apply zE;decide +kernel)|(apply zF;decide +kernel)|(apply zL;decide +kernel)|(apply zM;decide +kernel)|(apply zN;intros)|(apply zO;intros)|(apply zT;omega)|(apply zU;omega)|(apply zP;omega;intros)|(apply zQ;omega;intros)|apply zR);cbv))
 refine len_str hsz ?_
 cbv
 (repeat'((first|(apply zS;kernel_rfl)|(apply zD;decide +kernel)|(apply zE;decide +kernel)|(apply zF;decide +kernel)|(apply zL;decide +kernel)|(apply zM;decide +kernel)|(apply zN;intros)|(apply zO;intros)|(apply zT;omega)|(apply zU;omega)|(apply zP;omega;intros)|(apply zQ;omega;intros)|apply zR);cbv))
 subst hsz
 exact ⟨hf⟩
theorem bw_cw (u : Bool) (S : List UInt8) (s : ByteArray) (hr : S.length + s.size ≤ 140737488355328) : CW (TT ()) 55 [.bx 0 0,.raw (.string s)] (Bld u S) fun d h' => d = .tup [.raw (.int .i64 s.size),.raw .nilIface] ∧ h' = Bld true (S ++ s.data.toList) :=
 wfun_ok (T := TT) (by kernel_rfl) (bw_run u S s hr _ fun _ h => ⟨rfl,h⟩)
theorem add_cw (u : Bool) (S : List UInt8) (s : ByteArray) (hr : S.length + s.size ≤ 140737488355328) : CW (TT ()) 54 [.raw (.string s),.bx 0 0] (Bld u S) fun d h' => d = .tup [] ∧ h' = Bld true (S ++ s.data.toList) := by
 have c := bw_cw u S s hr
 generalize Bld u S = h at c ⊢
 generalize Bld true (S ++ s.data.toList) = h2 at c ⊢
 generalize D.tup [.raw (.int .i64 s.size),.raw .nilIface] = dd at c
 suffices hs : ∀ Q : D -> H -> Prop,Q (.tup []) h2 -> wfun TT 54 [.raw (.string s),.bx 0 0] h Q from wfun_ok (T := TT) (by kernel_rfl) (hs _ ⟨rfl,rfl⟩)
 intro Q hQ
 cbv
 (repeat'((first|(apply zS;kernel_rfl)|(apply zD;decide +kernel)|(apply zE;decide +kernel)|(apply zF;decide +kernel)|(apply zL;decide +kernel)|(apply zM;decide +kernel)|(apply zN;intros)|(apply zO;intros)|(apply zT;omega)|(apply zU;omega)|(apply zP;omega;intros)|(apply zQ;omega;intros)|apply zR);cbv))
 refine CallK.mut c ?_
 rintro d h' ⟨rfl,rfl⟩
 cbv
 (repeat'((first|(apply zS;kernel_rfl)|(apply zD;decide +kernel)|(apply zE;decide +kernel)|(apply zF;decide +kernel)|(apply zL;decide +kernel)|(apply zM;decide +kernel)|(apply zN;intros)|(apply zO;intros)|(apply zT;omega)|(apply zU;omega)|(apply zP;omega;intros)|(apply zQ;omega;intros)|apply zR);cbv))
 exact ⟨hQ⟩
theorem text_cw (u : Bool) (S : List UInt8) : CW (TT ()) 56 [.bx 0 0] (Bld u S) fun d h' => d = .raw (.string ⟨S.toArray⟩) ∧ h' = [.dead,.dead] := by
 have c := bs_cw u S
 generalize Bld u S = h at c ⊢
 generalize D.raw (.string ⟨S.toArray⟩) = dd at c ⊢
 suffices hs : ∀ Q : D -> H -> Prop,Q dd [.dead,.dead] -> wfun TT 56 [.bx 0 0] h Q from wfun_ok (T := TT) (by kernel_rfl) (hs _ ⟨rfl,rfl⟩)
 intro Q hQ
 cbv
 (repeat'((first|(apply zS;kernel_rfl)|(apply zD;decide +kernel)|(apply zE;decide +kernel)|(apply zF;decide +kernel)|(apply zL;decide +kernel)|(apply zM;decide +kernel)|(apply zN;intros)|(apply zO;intros)|(apply zT;omega)|(apply zU;omega)|(apply zP;omega;intros)|(apply zQ;omega;intros)|apply zR);cbv))
 refine CallK.mut c ?_
 rintro d h' ⟨rfl,rfl⟩
 cbv
 (repeat'((first|(apply zS;kernel_rfl)|(apply zD;decide +kernel)|(apply zE;decide +kernel)|(apply zF;decide +kernel)|(apply zL;decide +kernel)|(apply zM;decide +kernel)|(apply zN;intros)|(apply zO;intros)|(apply zT;omega)|(apply zU;omega)|(apply zP;omega;intros)|(apply zQ;omega;intros)|apply zR);cbv))
 exact ⟨hQ⟩
def addD : D := .fn (.func 54) [] [.bx 0 0]
end Go.Proofs.YtkoabcncdjmoeaaGreatDoor
