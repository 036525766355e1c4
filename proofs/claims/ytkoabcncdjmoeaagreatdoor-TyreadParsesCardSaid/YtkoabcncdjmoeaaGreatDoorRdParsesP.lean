/- TyreadParses: of any text the law answers true: the program reads the type that a text consists of as the document does, or tells what is wrong, and where. Condition: the four laid variables of the packages strconv, math/bits and errors hold what their text lays (tied). -/
import Derived.SevenTiedAt
import Derived.Test.YtkoabcncdjmoeaaGreatDoorCards
import Derived.Test.YtkoabcncdjmoeaaGreatDoorTie
import Derived.Test.YtkoabcncdjmoeaaGreatDoorMy
import Derived.Test.YtkoabcncdjmoeaaGreatDoorOf
import Derived.Test.YtkoabcncdjmoeaaGreatDoorNr
import Derived.Test.YtkoabcncdjmoeaaGreatDoorNt
set_option linter.unusedSimpArgs false
set_option linter.unusedVariables false
set_option maxRecDepth 1000000
set_option maxHeartbeats 40000000
namespace Go.Proofs.YtkoabcncdjmoeaaGreatDoor
open Go.RowKit Pv
theorem parses_run (s : ByteArray) (Q : D -> H -> Prop) (hQ : ∀ h',Q (.raw (.bool true)) h') : wfun TT 3 [.raw (.string s)] [] Q := by
 have cA := awake_cp
 have main : (s.size : Int) ≤ 2000 -> CP (TT ()) 8 [.raw (.string s)] (· = parseD (parseS s)) ∧ CP (TT ()) 9 [.raw (.string s)] (· = gotD (parseS s)) ∧ (∀ t to,parseS s = .ok t to -> okT t) := fun h =>
  ⟨parse_cp s (by omega),rparse_cp s (by omega),fun t to e => parseS_okT (by omega) e⟩
 have hne : ∀ e p,parseS s = .bad e p -> e ≠ 0 := fun e p h => parseS_ne h
 generalize parseS s = R at main hne
 obtain ⟨z,hz⟩ : ∃ z : Int,(s.size : Int) = z := ⟨_,rfl⟩
 rw [hz] at main
 cbv
 (repeat'((first|(apply zS;kernel_rfl)|(apply zD;decide +kernel)|(apply zE;decide +kernel)|(apply zF;decide +kernel)|(apply zL;decide +kernel)|(apply zM;decide +kernel)|(apply zN;intros)|(apply zO;intros)|(apply zT;omega)|(apply zU;omega)|(apply zP;omega;intros)|(apply zQ;omega;intros)|apply zR);cbv))
 refine len_str hz ?_
 cbv
 (repeat'((first|(apply zS;kernel_rfl)|(apply zD;decide +kernel)|(apply zE;decide +kernel)|(apply zF;decide +kernel)|(apply zL;decide +kernel)|(apply zM;decide +kernel)|(apply zN;intros)|(apply zO;intros)|(apply zT;omega)|(apply zU;omega)|(apply zP;omega;intros)|(apply zQ;omega;intros)|apply zR);cbv))
 refine BinK.gtr ?_ ?_ <;> intro h1 <;> cbv <;> (repeat'((first|(apply zS;kernel_rfl)|(apply zD;decide +kernel)|(apply zE;decide +kernel)|(apply zF;decide +kernel)|(apply zL;decide +kernel)|(apply zM;decide +kernel)|(apply zN;intros)|(apply zO;intros)|(apply zT;omega)|(apply zU;omega)|(apply zP;omega;intros)|(apply zQ;omega;intros)|apply zR);cbv))
 ·refine .one cA rfl rfl ?_
  cbv
  (repeat'((first|(apply zS;kernel_rfl)|(apply zD;decide +kernel)|(apply zE;decide +kernel)|(apply zF;decide +kernel)|(apply zL;decide +kernel)|(apply zM;decide +kernel)|(apply zN;intros)|(apply zO;intros)|(apply zT;omega)|(apply zU;omega)|(apply zP;omega;intros)|(apply zQ;omega;intros)|apply zR);cbv))
  exact ⟨hQ _⟩
 obtain ⟨c1,c2,h5⟩ := main h1
 clear main
 have p1 := parseD_pure R
 have p2 := got_pure R
 cases R with
 | bad e p =>
  have cT := toldR_cp e p (hne e p rfl)
  refine .one c1 rfl p1 ?_
  cbv
  (repeat'((first|(apply zS;kernel_rfl)|(apply zD;decide +kernel)|(apply zE;decide +kernel)|(apply zF;decide +kernel)|(apply zL;decide +kernel)|(apply zM;decide +kernel)|(apply zN;intros)|(apply zO;intros)|(apply zT;omega)|(apply zU;omega)|(apply zP;omega;intros)|(apply zQ;omega;intros)|apply zR);cbv))
  refine .one c2 rfl p2 ?_
  cbv
  (repeat'((first|(apply zS;kernel_rfl)|(apply zD;decide +kernel)|(apply zE;decide +kernel)|(apply zF;decide +kernel)|(apply zL;decide +kernel)|(apply zM;decide +kernel)|(apply zN;intros)|(apply zO;intros)|(apply zT;omega)|(apply zU;omega)|(apply zP;omega;intros)|(apply zQ;omega;intros)|apply zR);cbv))
  refine .one cT rfl rfl ?_
  cbv
  (repeat'((first|(apply zS;kernel_rfl)|(apply zD;decide +kernel)|(apply zE;decide +kernel)|(apply zF;decide +kernel)|(apply zL;decide +kernel)|(apply zM;decide +kernel)|(apply zN;intros)|(apply zO;intros)|(apply zT;omega)|(apply zU;omega)|(apply zP;omega;intros)|(apply zQ;omega;intros)|apply zR);cbv))
  refine BinK.someNe ?_
  cbv
  (repeat'((first|(apply zS;kernel_rfl)|(apply zD;decide +kernel)|(apply zE;decide +kernel)|(apply zF;decide +kernel)|(apply zL;decide +kernel)|(apply zM;decide +kernel)|(apply zN;intros)|(apply zO;intros)|(apply zT;omega)|(apply zU;omega)|(apply zP;omega;intros)|(apply zQ;omega;intros)|apply zR);cbv))
  refine .one cA rfl rfl ?_
  cbv
  (repeat'((first|(apply zS;kernel_rfl)|(apply zD;decide +kernel)|(apply zE;decide +kernel)|(apply zF;decide +kernel)|(apply zL;decide +kernel)|(apply zM;decide +kernel)|(apply zN;intros)|(apply zO;intros)|(apply zT;omega)|(apply zU;omega)|(apply zP;omega;intros)|(apply zQ;omega;intros)|apply zR);cbv))
  exact ⟨hQ _⟩
 | ok t to =>
  have ht := h5 t to rfl
  have cS := sameq_cp t t ht ht
  rw [same_refl] at cS
  have cT := toldN_cp 0
  have pT := ty_pure t
  clear h5 ht
  obtain ⟨k,n,nm,ls,ks⟩ := t
  have c1 : CP (TT ()) 8 _ (· = .tup [.agg [.raw (.int .i64 k),.raw (.int .i64 n),.raw (.string nm),.sl none 1 (ls.map strD),.sl none 5 (tysD ks)],.raw .nilIface]) := c1
  have c2 : CP (TT ()) 9 _ (· = .agg [.raw (.int .i64 k),.raw (.int .i64 n),.raw (.string nm),.sl none 1 (ls.map strD),.sl none 5 (tysD ks),.raw (.int .i64 to),.raw (.int .i64 0),.raw (.int .i64 0)]) := c2
  have cS : CP (TT ()) 11 [.agg [.raw (.int .i64 k),.raw (.int .i64 n),.raw (.string nm),.sl none 1 (ls.map strD),.sl none 5 (tysD ks)],.agg [.raw (.int .i64 k),.raw (.int .i64 n),.raw (.string nm),.sl none 1 (ls.map strD),.sl none 5 (tysD ks)]] (· = .raw (.bool true)) := cS
  have p1 : pureD (.tup [.agg [.raw (.int .i64 k),.raw (.int .i64 n),.raw (.string nm),.sl none 1 (ls.map strD),.sl none 5 (tysD ks)],.raw .nilIface]) = some (.tup [.agg [.raw (.int .i64 k),.raw (.int .i64 n),.raw (.string nm),.sl none 1 (ls.map strD),.sl none 5 (tysD ks)],.raw .nilIface]) := p1
  have p2 : pureD (.agg [.raw (.int .i64 k),.raw (.int .i64 n),.raw (.string nm),.sl none 1 (ls.map strD),.sl none 5 (tysD ks),.raw (.int .i64 to),.raw (.int .i64 0),.raw (.int .i64 0)]) = some (.agg [.raw (.int .i64 k),.raw (.int .i64 n),.raw (.string nm),.sl none 1 (ls.map strD),.sl none 5 (tysD ks),.raw (.int .i64 to),.raw (.int .i64 0),.raw (.int .i64 0)]) := p2
  have pT : pureD (.agg [.raw (.int .i64 k),.raw (.int .i64 n),.raw (.string nm),.sl none 1 (ls.map strD),.sl none 5 (tysD ks)]) = some (.agg [.raw (.int .i64 k),.raw (.int .i64 n),.raw (.string nm),.sl none 1 (ls.map strD),.sl none 5 (tysD ks)]) := pT
  generalize ls.map strD = LS at *
  generalize tysD ks = KS at *
  refine .one c1 rfl p1 ?_
  cbv
  (repeat'((first|(apply zS;kernel_rfl)|(apply zD;decide +kernel)|(apply zE;decide +kernel)|(apply zF;decide +kernel)|(apply zL;decide +kernel)|(apply zM;decide +kernel)|(apply zN;intros)|(apply zO;intros)|(apply zT;omega)|(apply zU;omega)|(apply zP;omega;intros)|(apply zQ;omega;intros)|apply zR);cbv))
  refine .one c2 rfl p2 ?_
  cbv
  (repeat'((first|(apply zS;kernel_rfl)|(apply zD;decide +kernel)|(apply zE;decide +kernel)|(apply zF;decide +kernel)|(apply zL;decide +kernel)|(apply zM;decide +kernel)|(apply zN;intros)|(apply zO;intros)|(apply zT;omega)|(apply zU;omega)|(apply zP;omega;intros)|(apply zQ;omega;intros)|apply zR);cbv))
  refine .one cT rfl rfl ?_
  cbv
  (repeat'((first|(apply zS;kernel_rfl)|(apply zD;decide +kernel)|(apply zE;decide +kernel)|(apply zF;decide +kernel)|(apply zL;decide +kernel)|(apply zM;decide +kernel)|(apply zN;intros)|(apply zO;intros)|(apply zT;omega)|(apply zU;omega)|(apply zP;omega;intros)|(apply zQ;omega;intros)|apply zR);cbv))
  refine BinK.nilNe ?_
  cbv
  (repeat'((first|(apply zS;kernel_rfl)|(apply zD;decide +kernel)|(apply zE;decide +kernel)|(apply zF;decide +kernel)|(apply zL;decide +kernel)|(apply zM;decide +kernel)|(apply zN;intros)|(apply zO;intros)|(apply zT;omega)|(apply zU;omega)|(apply zP;omega;intros)|(apply zQ;omega;intros)|apply zR);cbv))
  refine BinK.nilEq ?_
  cbv
  (repeat'((first|(apply zS;kernel_rfl)|(apply zD;decide +kernel)|(apply zE;decide +kernel)|(apply zF;decide +kernel)|(apply zL;decide +kernel)|(apply zM;decide +kernel)|(apply zN;intros)|(apply zO;intros)|(apply zT;omega)|(apply zU;omega)|(apply zP;omega;intros)|(apply zQ;omega;intros)|apply zR);cbv))
  refine .one cS (cons_pure pT (cons_pure pT rfl)) rfl ?_
  cbv
  (repeat'((first|(apply zS;kernel_rfl)|(apply zD;decide +kernel)|(apply zE;decide +kernel)|(apply zF;decide +kernel)|(apply zL;decide +kernel)|(apply zM;decide +kernel)|(apply zN;intros)|(apply zO;intros)|(apply zT;omega)|(apply zU;omega)|(apply zP;omega;intros)|(apply zQ;omega;intros)|apply zR);cbv))
  refine .one cA rfl rfl ?_
  cbv
  (repeat'((first|(apply zS;kernel_rfl)|(apply zD;decide +kernel)|(apply zE;decide +kernel)|(apply zF;decide +kernel)|(apply zL;decide +kernel)|(apply zM;decide +kernel)|(apply zN;intros)|(apply zO;intros)|(apply zT;omega)|(apply zU;omega)|(apply zP;omega;intros)|(apply zQ;omega;intros)|apply zR);cbv))
  exact ⟨hQ _⟩
theorem parses_law (s : ByteArray) (hs : s.size ≤ maxLen) : CP (TT ()) 3 [.raw (.string s)] (· = .raw (.bool true)) := runV fun Q hQ => parses_run s Q hQ
end Go.Proofs.YtkoabcncdjmoeaaGreatDoor
namespace Go.Proofs.YtkoabcncdjmoeaaGreatDoor.rdpP
open Go.ChangeShapes Go.WideShapes Go.ChangeAt Go.RowKit Go.Proofs.YtkoabcncdjmoeaaGreatDoor Pv
theorem kinds : Kinds Tryz.prog (fun t => t = 9) where
 ok := by
  rintro t (rfl)
  ·rw [Tryz.underlying9];show Tryz.prog.cellsOf _ = 1;kernel_rfl
theorem lifted (os : Os) (started : os.Started) (H : Type) (enc : TypeId × Value -> H) :
  ReturnsInHanded {} Tryz.checked os 3 .any (fun w args => (Rows.tyreadParsesSpec.pre enc Tryz.prog Tryz.f3 [] false w args ∧ laidMetH Tryz.prog laidList w) ∧ sizedMet enc Tryz.prog Tryz.f3 (OpenSpec.ofChange Rows.tyreadParsesSpec) false w args)
   (Rows.tyreadParsesSpec.post enc Tryz.prog Tryz.f3 false true false false) := by
 refine returnsInHanded_of_change_and (C := Tryz.checked) (X := fun w _ => laidMetH Tryz.prog laidList w) (fun _ _ _ hh h => h.of_heap hh) own started (by kernel_rfl) Tryz.func3
  (ChangeSpec.witness_at (enc := enc) (C := Tryz.checked) (os := os) (X := fun w _ => laidMetH Tryz.prog laidList w) false (laidWorld os) #[.string ⟨#[]⟩] 8 rfl (by kernel_rfl) (by kernel_rfl) (by kernel_rfl) (by kernel_rfl) (by kernel_rfl) (laidWorld_met os _)) ?_
 intro W base args ds gs before hval0 hW _ _ hL _
 have hval : ∀ (j : Nat) t v,Tryz.f3.params[j]? = some t -> args[j]? = some v -> Value.okWide Tryz.prog W .any base t v := hval0
 have hW' := hW
 have hend : ∀ W',Below W.heap.size W W' -> Rows.tyreadParsesSpec.post enc Tryz.prog Tryz.f3 false true false false W args (.bool true) W' := fun W' hb =>
  law_post (bt := 4) laid hW' rfl rfl Tryz.underlying4 (by rw [show Tryz.f3.params = _ from Tryz.params3];intro t ht;simp at ht;subst ht;exact ⟨by kernel_rfl,of_decide_eq_true (by kernel_rfl)⟩)
   (by rw [show Tryz.f3.params = _ from Tryz.params3];intro l hl;match l,hl with | [_],_ => rfl) hb
 obtain ⟨p,q,hA0,hV,hpq,_,_⟩ := hW
 have hA : DataW.TrodAll enc Tryz.prog W 0 (fun _ => true) true Tryz.f3.params.toList args.toList ds p := hA0
 rw [Tryz.params3] at hA hval
 obtain ⟨v0,vs0,d0,ds0,p0,q0,hargs,rfl,rfl,h0,r0⟩ := trodAll_cons hA
 obtain ⟨rfl,rfl,rfl⟩ := trodAll_nil r0
 obtain rfl : args = #[v0] := by cases args;simp_all
 obtain ⟨n0,x0,g0,k0⟩ := param_has kinds (by simp) (hval 0 9 _ rfl rfl) h0
 obtain ⟨s,rfl,hs_s⟩ := g0.str Tryz.underlying9
 refine ((parses_law s hs_s).2 (allS W) W [v0] (okay_laid hL) ⟨_,_,rfl,k0,rfl⟩).mono ?_
 rintro e W' ⟨v,S',d,rfl,rfl,hb,_,_,hv⟩
 simp only [Pv.Rd] at hv
 subst hv
 exact ⟨_,rfl,hend W' hb⟩
theorem row_holds : Rows.TyreadParsesSaid :=
 OpenClaim.holds_of_wide 3 Tryz.f3 rfl rfl rfl rfl rfl rfl rfl ⟨rfl,rfl,rfl,rfl,rfl⟩ rfl rfl rfl rfl rfl (by kernel_rfl) Tryz.func3 (by kernel_rfl)
  (of_decide_eq_true (by kernel_rfl)) (by unfold Func.isWrapper;first | (rw [if_pos (by decide +kernel)];kernel_rfl) | (rw [if_neg (by decide +kernel)];exact ⟨rfl,rfl⟩))
  (fun os started H enc _ => lifted os started H enc)
theorem holds : Rows.TyreadParsesCardSaid :=
 Claim7.holds_tied_plain_at .later [] [.data,.data,.data,.handle] true Rows.tyreadParsesCard.stood.harness true
  row_holds (fun _ h => by cases h) (by kernel_rfl) (fun _ h => by cases h) tyreadParses_row_tie rfl ⟨rfl,rfl⟩ (by kernel_rfl) rfl
  (fun f fn hf hfn => by
   obtain rfl : f = 3 := Option.some.inj ((show Tryz.prog.funcNamed "limbeck/limbecklaw06.TyreadParses" = some 3 by kernel_rfl).symm.trans hf) |>.symm
   obtain rfl : fn = Tryz.f3 := (Option.some.inj (Tryz.func3.symm.trans hfn)).symm
   exact ⟨by kernel_rfl,fun j t ht => by
    have hm : t ∈ Tryz.f3.params.toList := by
     have := (Array.getElem?_eq_some_iff.1 ht)
     obtain ⟨h1,h2⟩ := this
     rw [← h2];simp
    rw [show Tryz.f3.params = _ from Tryz.params3] at hm
    simp at hm
    rcases hm with rfl <;> (refine (show Tryz.prog.wantsStandIn _ = false from ?_);kernel_rfl)⟩)
  (by kernel_rfl)
end Go.Proofs.YtkoabcncdjmoeaaGreatDoor.rdpP
