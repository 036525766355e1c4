/- limbeckref06.Parse: what a text is read as, by the document. -/
import Derived.Test.YtkoabcncdjmoeaaGreatDoorOe
import Derived.Test.YtkoabcncdjmoeaaGreatDoorNx
set_option linter.unusedSimpArgs false
set_option linter.unusedVariables false
set_option maxRecDepth 1000000
set_option maxHeartbeats 40000000
namespace Go.Proofs.YtkoabcncdjmoeaaGreatDoor
open Go.RowKit Pv
theorem itemE_bad {l : List UInt8} {c : Int} {o : Nat} (h : itemE l = .bad c o) : c ≠ 0 := by
 unfold itemE at h
 split at h
 ·cases h
 ·have := itemI_bad h
  simpa using this
theorem lexF_ne : ∀ (f : Nat) (l : List UInt8) (p : Nat) (acc : List Tk) (c : Int) (a : Nat),l.length < f -> lexF f l p acc = .bad c a -> c ≠ 0
 | 0,l,p,acc,c,a,h,_ => absurd h (Nat.not_lt_zero _)
 | f + 1,l,p,acc,c,a,h,e => by
  unfold lexF at e
  split at e
  ·rename_i hit
   cases e
   exact itemE_bad hit
  ·rename_i k n t wd hit
   split at e
   ·cases e
   ·rename_i hk
    have := lex_shrink hit (by simpa using hk)
    exact lexF_ne f _ _ _ c a (by rw [List.length_drop];omega) e
theorem lexAll_ne {l : List UInt8} {c : Int} {a : Nat} (e : lexAll l = .bad c a) : c ≠ 0 := by
 unfold lexAll lexL at e
 split at e
 ·cases e
  decide
 ·exact lexF_ne _ _ _ _ _ _ (Nat.lt_succ_self _) e
theorem parseS_ne {s : ByteArray} {e p : Int} (h : parseS s = .bad e p) : e ≠ 0 := by
 unfold parseS at h
 split at h
 ·rename_i hx
  cases h
  exact lexAll_ne hx
 ·split at h
  ·split at h
   ·cases h
   ·cases h
    decide
  ·rename_i hx
   cases h
   exact readS_ne hx
theorem parseS_okT {s : ByteArray} (hs : s.size ≤ 2000) {t : Ty5} {to : Int} (h : parseS s = .ok t to) : okT t := by
 unfold parseS at h
 split at h
 ·cases h
 ·rename_i ts hx
  have hsm := toks_small hx (by rw [size_list];omega)
  split at h
  ·rename_i hr
   split at h
   ·cases h
    exact readS_okT hsm hr
   ·cases h
  ·cases h
def rlexD (o : Out) : D := match o with
 | .ok ts => .tup [toksD ts,.raw (.int .i64 0),.raw (.int .i64 0)]
 | .bad c a => .tup [.raw (.slice none 0 0),.raw (.int .i64 c),.raw (.int .i64 a)]
theorem rlexD_pure (o : Out) : pureD (rlexD o) = some (rlexD o) := by
 cases o with
 | ok ts => simp [rlexD,pureD,pureL,toksD_pure]
 | bad c a => simp [rlexD,pureD,pureL]
theorem rlex_cp (s : ByteArray) (hs : s.size ≤ maxLen) : CP (TT ()) 21 [.raw (.string s)] (· = rlexD (lexAll s.data.toList)) := by
 refine ⟨callable_at Tryz.func21 (by kernel_rfl) rfl,fun S w args hS r => ?_⟩
 obtain ⟨v,rfl,h⟩ := rdL_one r
 simp only [Pv.Rd] at h
 subst h
 refine (rall_own s w hs).mono ?_
 rintro e w' ⟨h,hn⟩
 generalize lexAll s.data.toList = o at h hn ⊢
 cases o with
 | ok ts =>
  obtain ⟨v,rfl,hT,hb⟩ := h
  obtain ⟨S',h1,h2,h3⟩ := toks_rd (S := S) hT (hn ts rfl v _ _ rfl)
  refine ⟨_,S',_,rfl,rfl,hb,h1,fun b o hs => ?_,⟨[v,.int .i64 0,.int .i64 0],rfl,_,_,rfl,h3,_,_,rfl,rfl,_,_,rfl,rfl,rfl⟩⟩
  rcases h2 b o hs with h4 | ⟨h4,h5⟩
  ·exact ⟨Nat.lt_of_lt_of_le (hS b o h4) hb.size,fun _ => h4⟩
  ·exact ⟨h5,fun h6 => by omega⟩
 | bad c a =>
  obtain ⟨rfl,_,hb⟩ := h
  exact ⟨_,S,_,rfl,rfl,hb,fun _ _ h => h,fun b o hs => ⟨Nat.lt_of_lt_of_le (hS b o hs) hb.size,fun _ => hs⟩,⟨[.slice none 0 0,.int .i64 c,.int .i64 a],rfl,_,_,rfl,rfl,_,_,rfl,rfl,_,_,rfl,rfl,rfl⟩⟩
theorem rparse_run (s : ByteArray) (hs : s.size ≤ 2000) (Q : D -> H -> Prop) (hQ : ∀ d h',Wk d (gotD (parseS s)) -> Q d h') : wfun TT 9 [.raw (.string s)] [] Q := by
 have c0 := rlex_cp s (by unfold maxLen;omega)
 have p0 := rlexD_pure (lexAll s.data.toList)
 unfold parseS at hQ
 have hle : s.data.toList.length ≤ 2000 := by rw [size_list];exact hs
 cases hx : lexAll s.data.toList with
 | bad c a =>
  rw [hx] at hQ c0 p0
  have hc := lexAll_ne hx
  have cb := badr_cp c a
  unfold rlexD at c0 p0
  simp only at c0 p0
  obtain ⟨z,hz⟩ : ∃ z : Int,((a : Nat) : Int) = z := ⟨_,rfl⟩
  simp only at hQ
  rw [hz] at c0 p0 cb hQ
  have pb := got_pure (.bad c z)
  clear hx hle hs
  cbv
  (repeat'((first|(apply zS;kernel_rfl)|(apply zD;decide +kernel)|(apply zE;decide +kernel)|(apply zF;decide +kernel)|(apply zL;decide +kernel)|(apply zM;decide +kernel)|(apply zN;intros)|(apply zO;intros)|(apply zT;omega)|(apply zU;omega)|(apply zP;omega;intros)|(apply zQ;omega;intros)|apply zR);cbv))
  refine .one c0 rfl p0 ?_
  cbv
  (repeat'((first|(apply zS;kernel_rfl)|(apply zD;decide +kernel)|(apply zE;decide +kernel)|(apply zF;decide +kernel)|(apply zL;decide +kernel)|(apply zM;decide +kernel)|(apply zN;intros)|(apply zO;intros)|(apply zT;omega)|(apply zU;omega)|(apply zP;omega;intros)|(apply zQ;omega;intros)|apply zR);cbv))
  refine .one cb rfl pb ?_
  cbv
  (repeat'((first|(apply zS;kernel_rfl)|(apply zD;decide +kernel)|(apply zE;decide +kernel)|(apply zF;decide +kernel)|(apply zL;decide +kernel)|(apply zM;decide +kernel)|(apply zN;intros)|(apply zO;intros)|(apply zT;omega)|(apply zU;omega)|(apply zP;omega;intros)|(apply zQ;omega;intros)|apply zR);cbv))
  exact ⟨hQ _ _ (.refl _)⟩
 | ok ts =>
  rw [hx] at hQ c0 p0
  have hsz := lexAll_size hx
  have hsm := toks_small hx (by omega)
  simp only at hQ
  have hll : (ts.map tknOf).length ≤ 2001 := by rw [List.length_map];omega
  unfold rlexD toksD at c0 p0
  simp only at c0 p0
  generalize ts.map tknOf = l at *
  clear hx hsz hle hs
  have c1 := readr_is l (by omega) hsm 1 (by omega) 0 (by unfold inR;omega)
  have p1 := got_pure (readS recT l 64 0)
  have hl := tks_pure l
  cases hr : readS recT l 64 0 with
  | bad e p =>
   have c1 : CP (TT ()) 13 [.sl none 4 (l.map tkD),.raw (.int .i64 0),.raw (.int .i64 1)] (· = gotD (.bad e p)) := by rw [← hr];exact c1
   have he := readS_ne hr
   rw [hr] at hQ p1
   simp only at hQ
   clear hr hsm
   generalize l.map tkD = L at *
   have hp3 : pureL [.sl none 4 L,.raw (.int .i64 0),.raw (.int .i64 1)] = some [.sl none 4 L,.raw (.int .i64 0),.raw (.int .i64 1)] := by simp [pureL,pureD,hl]
   cbv
   (repeat'((first|(apply zS;kernel_rfl)|(apply zD;decide +kernel)|(apply zE;decide +kernel)|(apply zF;decide +kernel)|(apply zL;decide +kernel)|(apply zM;decide +kernel)|(apply zN;intros)|(apply zO;intros)|(apply zT;omega)|(apply zU;omega)|(apply zP;omega;intros)|(apply zQ;omega;intros)|apply zR);cbv))
   refine .one c0 rfl p0 ?_
   cbv
   (repeat'((first|(apply zS;kernel_rfl)|(apply zD;decide +kernel)|(apply zE;decide +kernel)|(apply zF;decide +kernel)|(apply zL;decide +kernel)|(apply zM;decide +kernel)|(apply zN;intros)|(apply zO;intros)|(apply zT;omega)|(apply zU;omega)|(apply zP;omega;intros)|(apply zQ;omega;intros)|apply zR);cbv))
   refine .one c1 hp3 p1 ?_
   cbv
   (repeat'((first|(apply zS;kernel_rfl)|(apply zD;decide +kernel)|(apply zE;decide +kernel)|(apply zF;decide +kernel)|(apply zL;decide +kernel)|(apply zM;decide +kernel)|(apply zN;intros)|(apply zO;intros)|(apply zT;omega)|(apply zU;omega)|(apply zP;omega;intros)|(apply zQ;omega;intros)|apply zR);cbv))
   exact ⟨hQ _ _ (.refl _)⟩
  | ok t to =>
   have c1 : CP (TT ()) 13 [.sl none 4 (l.map tkD),.raw (.int .i64 0),.raw (.int .i64 1)] (· = gotD (.ok t to)) := by rw [← hr];exact c1
   rw [hr] at hQ p1
   simp only at hQ
   clear hr hsm
   have ct := tokr_cp l to
   have hp := tk_pure (tokT l to)
   have cb := badr_cp 4 (tokT l to).a
   have pb := got_pure (.bad 4 (tokT l to).a)
   generalize tokT l to = x at ct hp cb pb hQ
   obtain ⟨k,n,u,a⟩ := x
   simp only [tkD] at ct hp cb pb hQ
   have hok : k = 0 -> ∀ d h',Wk d (gotD (.ok t to)) -> Q d h' := fun h => by rw [if_pos h] at hQ;exact hQ
   have hbad : k ≠ 0 -> ∀ d h',Wk d (gotD (.bad 4 a)) -> Q d h' := fun h => by rw [if_neg h] at hQ;exact hQ
   clear hQ
   obtain ⟨kt,nt,mt,Lt,Kt,ft,_,_,_⟩ := got_node t to
   rw [ft] at c1 p1 hok
   generalize l.map tkD = L at *
   have hp3 : pureL [.sl none 4 L,.raw (.int .i64 0),.raw (.int .i64 1)] = some [.sl none 4 L,.raw (.int .i64 0),.raw (.int .i64 1)] := by simp [pureL,pureD,hl]
   have hp4 : pureL [.sl none 4 L,.raw (.int .i64 to)] = some [.sl none 4 L,.raw (.int .i64 to)] := by simp [pureL,pureD,hl]
   cbv
   (repeat'((first|(apply zS;kernel_rfl)|(apply zD;decide +kernel)|(apply zE;decide +kernel)|(apply zF;decide +kernel)|(apply zL;decide +kernel)|(apply zM;decide +kernel)|(apply zN;intros)|(apply zO;intros)|(apply zT;omega)|(apply zU;omega)|(apply zP;omega;intros)|(apply zQ;omega;intros)|apply zR);cbv))
   refine .one c0 rfl p0 ?_
   cbv
   (repeat'((first|(apply zS;kernel_rfl)|(apply zD;decide +kernel)|(apply zE;decide +kernel)|(apply zF;decide +kernel)|(apply zL;decide +kernel)|(apply zM;decide +kernel)|(apply zN;intros)|(apply zO;intros)|(apply zT;omega)|(apply zU;omega)|(apply zP;omega;intros)|(apply zQ;omega;intros)|apply zR);cbv))
   refine .one c1 hp3 p1 ?_
   cbv
   (repeat'((first|(apply zS;kernel_rfl)|(apply zD;decide +kernel)|(apply zE;decide +kernel)|(apply zF;decide +kernel)|(apply zL;decide +kernel)|(apply zM;decide +kernel)|(apply zN;intros)|(apply zO;intros)|(apply zT;omega)|(apply zU;omega)|(apply zP;omega;intros)|(apply zQ;omega;intros)|apply zR);cbv))
   refine .one ct hp4 hp ?_
   cbv
   (repeat'((first|(apply zS;kernel_rfl)|(apply zD;decide +kernel)|(apply zE;decide +kernel)|(apply zF;decide +kernel)|(apply zL;decide +kernel)|(apply zM;decide +kernel)|(apply zN;intros)|(apply zO;intros)|(apply zT;omega)|(apply zU;omega)|(apply zP;omega;intros)|(apply zQ;omega;intros)|apply zR);cbv))
   refine BinK.neq ?_ ?_ <;> intro h1 <;> cbv <;> (repeat'((first|(apply zS;kernel_rfl)|(apply zD;decide +kernel)|(apply zE;decide +kernel)|(apply zF;decide +kernel)|(apply zL;decide +kernel)|(apply zM;decide +kernel)|(apply zN;intros)|(apply zO;intros)|(apply zT;omega)|(apply zU;omega)|(apply zP;omega;intros)|(apply zQ;omega;intros)|apply zR);cbv))
   ·refine .one ct hp4 hp ?_
    cbv
    (repeat'((first|(apply zS;kernel_rfl)|(apply zD;decide +kernel)|(apply zE;decide +kernel)|(apply zF;decide +kernel)|(apply zL;decide +kernel)|(apply zM;decide +kernel)|(apply zN;intros)|(apply zO;intros)|(apply zT;omega)|(apply zU;omega)|(apply zP;omega;intros)|(apply zQ;omega;intros)|apply zR);cbv))
    refine .one cb rfl pb ?_
    cbv
    (repeat'((first|(apply zS;kernel_rfl)|(apply zD;decide +kernel)|(apply zE;decide +kernel)|(apply zF;decide +kernel)|(apply zL;decide +kernel)|(apply zM;decide +kernel)|(apply zN;intros)|(apply zO;intros)|(apply zT;omega)|(apply zU;omega)|(apply zP;omega;intros)|(apply zQ;omega;intros)|apply zR);cbv))
    exact ⟨hbad h1 _ _ (.refl _)⟩
   ·exact ⟨hok h1 _ _ (.refl _)⟩
theorem rparse_cp (s : ByteArray) (hs : s.size ≤ 2000) : CP (TT ()) 9 [.raw (.string s)] (· = gotD (parseS s)) := runW (got_pure _) fun Q hQ => rparse_run s hs Q hQ
end Go.Proofs.YtkoabcncdjmoeaaGreatDoor
