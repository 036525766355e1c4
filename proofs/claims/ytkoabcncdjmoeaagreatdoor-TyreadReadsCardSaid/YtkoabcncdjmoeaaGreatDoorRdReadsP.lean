/- TyreadReads: of any tokens, from any one on, at any depth, the law answers true: the program reads a type as the document does, or tells what is wrong, and where. Condition: the four tables and the one type of the packages strconv, math/bits and errors hold what their text lays (tied). -/
import Derived.SevenTiedAt
import Derived.Test.YtkoabcncdjmoeaaGreatDoorCards
import Derived.Test.YtkoabcncdjmoeaaGreatDoorTie
import Derived.Test.YtkoabcncdjmoeaaGreatDoorMt
import Derived.Test.YtkoabcncdjmoeaaGreatDoorMy
import Derived.Test.YtkoabcncdjmoeaaGreatDoorMx
import Derived.Test.YtkoabcncdjmoeaaGreatDoorMe
import Derived.Test.YtkoabcncdjmoeaaGreatDoorNr
import Derived.Test.YtkoabcncdjmoeaaGreatDoorNt
set_option linter.unusedSimpArgs false
set_option linter.unusedVariables false
set_option maxRecDepth 1000000
set_option maxHeartbeats 40000000
namespace Go.Proofs.YtkoabcncdjmoeaaGreatDoor
open Go.RowKit Pv
def wantD (l : List Tkn) (i : Int) (s : ByteArray) : D := if isT l i s = true then .raw .nilIface else errD (misT (tokT l i)) (tokT l i).a
theorem wantD_pure (l : List Tkn) (i : Int) (s : ByteArray) : pureD (wantD l i s) = some (wantD l i s) := by
 unfold wantD
 split
 ·rfl
 ·exact err_pure _ _
theorem wantp_cp (l : List Tkn) (i : Int) (s : ByteArray) : CP (TT ()) 15 [.sl none 4 (l.map tkD),.raw (.int .i64 i),.raw (.string s)] (· = wantD l i s) := by
 refine runW (wantD_pure l i s) fun Q hQ => ?_
 have hQ := fun h' => hQ _ h' (.refl _)
 have ct := token_cp l i
 have ci := is_cp (tokT l i) s
 have cm := misfit_cp (tokT l i)
 have ce := new_cp (misT (tokT l i)) (tokT l i).a (misT_ne _)
 have hl := tks_pure l
 have hp := tk_pure (tokT l i)
 have e : (decide ((tokT l i).k = 5) && decide ((tokT l i).s = s)) = isT l i s := rfl
 rw [e] at ci
 clear e
 unfold wantD at hQ
 generalize isT l i s = b at ci hQ
 generalize misT (tokT l i) = c at cm ce hQ
 generalize tokT l i = t at ct ci cm ce hp hQ
 obtain ⟨k,n,u,a⟩ := t
 unfold errD at ce hQ
 simp only [tkD] at ct ci cm hp
 simp only at ce hQ
 have hpl : pureL [.sl none 4 (l.map tkD),.raw (.int .i64 i)] = some [.sl none 4 (l.map tkD),.raw (.int .i64 i)] := by simp [pureL,pureD,hl]
 have hLi := tks_idb l
 generalize l.map tkD = L at ct hpl hLi ⊢
 cbv
 (repeat'((first|(apply zS;kernel_rfl)|(apply zD;decide +kernel)|(apply zE;decide +kernel)|(apply zF;decide +kernel)|(apply zL;decide +kernel)|(apply zM;decide +kernel)|(apply zN;intros)|(apply zO;intros)|(apply zT;omega)|(apply zU;omega)|(apply zP;omega;intros)|(apply zQ;omega;intros)|apply zR);cbv))
 refine CallK.one ct hpl hp ?_
 cbv
 (repeat'((first|(apply zS;kernel_rfl)|(apply zD;decide +kernel)|(apply zE;decide +kernel)|(apply zF;decide +kernel)|(apply zL;decide +kernel)|(apply zM;decide +kernel)|(apply zN;intros)|(apply zO;intros)|(apply zT;omega)|(apply zU;omega)|(apply zP;omega;intros)|(apply zQ;omega;intros)|apply zR);cbv))
 refine .one ci (cons_pure hp rfl) rfl ?_
 cases b with
 | true =>
  rw [if_pos rfl] at hQ
  cbv
  (repeat'((first|(apply zS;kernel_rfl)|(apply zD;decide +kernel)|(apply zE;decide +kernel)|(apply zF;decide +kernel)|(apply zL;decide +kernel)|(apply zM;decide +kernel)|(apply zN;intros)|(apply zO;intros)|(apply zT;omega)|(apply zU;omega)|(apply zP;omega;intros)|(apply zQ;omega;intros)|apply zR);cbv))
  exact ⟨hQ _⟩
 | false =>
  rw [if_neg (by simp)] at hQ
  cbv
  (repeat'((first|(apply zS;kernel_rfl)|(apply zD;decide +kernel)|(apply zE;decide +kernel)|(apply zF;decide +kernel)|(apply zL;decide +kernel)|(apply zM;decide +kernel)|(apply zN;intros)|(apply zO;intros)|(apply zT;omega)|(apply zU;omega)|(apply zP;omega;intros)|(apply zQ;omega;intros)|apply zR);cbv))
  refine .one cm (cons_pure hp rfl) rfl ?_
  cbv
  (repeat'((first|(apply zS;kernel_rfl)|(apply zD;decide +kernel)|(apply zE;decide +kernel)|(apply zF;decide +kernel)|(apply zL;decide +kernel)|(apply zM;decide +kernel)|(apply zN;intros)|(apply zO;intros)|(apply zT;omega)|(apply zU;omega)|(apply zP;omega;intros)|(apply zQ;omega;intros)|apply zR);cbv))
  refine .one ce rfl rfl ?_
  cbv
  (repeat'((first|(apply zS;kernel_rfl)|(apply zD;decide +kernel)|(apply zE;decide +kernel)|(apply zF;decide +kernel)|(apply zL;decide +kernel)|(apply zM;decide +kernel)|(apply zN;intros)|(apply zO;intros)|(apply zT;omega)|(apply zU;omega)|(apply zP;omega;intros)|(apply zQ;omega;intros)|apply zR);cbv))
  exact ⟨hQ _⟩
theorem want_told (l : List Tkn) (i : Int) (s : ByteArray) : CP (TT ()) 10 [wantD l i s,.raw (.int .i64 (wantT l i s).1),.raw (.int .i64 (wantT l i s).2)] (· = .raw (.bool true)) := by
 unfold wantD wantT
 split
 ·exact toldN_cp 0
 ·refine (told_cp _ _ _ _ (misT_ne _)).mono fun d h => ?_
  rw [h]
  simp [misT_ne]
theorem reads_run (l : List Tkn) (i deep : Int) (sign : ByteArray) (R : Rs) (cA : CP (TT ()) 7 [] (· = .raw (.bool true)))
  (main : l.length ≤ 500 -> -1000 ≤ deep -> i ≤ 1000000 -> -1000000 ≤ i -> CP (TT ()) 12 [.sl none 4 (l.map tkD),.raw (.int .i64 i),.raw (.int .i64 deep)] (· = readD R) ∧ CP (TT ()) 13 [.sl none 4 (l.map tkD),.raw (.int .i64 i),.raw (.int .i64 deep)] (· = gotD R) ∧ (∀ t to,R = .ok t to -> okT t) ∧ ∀ e p,R = .bad e p -> e ≠ 0)
  (Q : D -> H -> Prop) (hQ : ∀ h',Q (.raw (.bool true)) h') : wfun TT 4 [.sl none 4 (l.map tkD),.raw (.int .i64 i),.raw (.int .i64 deep),.raw (.string sign)] [] Q := by
 have cw := wantp_cp l i sign
 have cq := wantr_cp l i sign
 have ct := want_told l i sign
 have hpw := wantD_pure l i sign
 have hl := tks_pure l
 have hlen : (l.map tkD).length = l.length := List.length_map ..
 rw [← hlen] at main
 clear hlen
 generalize wantD l i sign = dw at cw ct hpw
 generalize wantT l i sign = wt at cq ct
 obtain ⟨we,wp⟩ := wt
 simp only at cq ct
 generalize l.map tkD = L at *
 have hp3 : pureL [.sl none 4 L,.raw (.int .i64 i),.raw (.int .i64 deep)] = some [.sl none 4 L,.raw (.int .i64 i),.raw (.int .i64 deep)] := by simp [pureL,pureD,hl]
 have hp4 : pureL [.sl none 4 L,.raw (.int .i64 i),.raw (.string sign)] = some [.sl none 4 L,.raw (.int .i64 i),.raw (.string sign)] := by simp [pureL,pureD,hl]
 have hp5 : pureL [dw,.raw (.int .i64 we),.raw (.int .i64 wp)] = some [dw,.raw (.int .i64 we),.raw (.int .i64 wp)] := cons_pure hpw rfl
 have main := fun (z : Int) (h0 : 0 ≤ z) (hz : z.toNat = L.length) (h : z ≤ 500) => main (by omega)
 cbv
 (repeat'((first|(apply zS;kernel_rfl)|(apply zD;decide +kernel)|(apply zE;decide +kernel)|(apply zF;decide +kernel)|(apply zL;decide +kernel)|(apply zM;decide +kernel)|(apply zN;intros)|(apply zO;intros)|(apply zT;omega)|(apply zU;omega)|(apply zP;omega;intros)|(apply zQ;omega;intros)|apply zR);cbv))
 rename_i z h0 hz
 have main := main z h0 hz
 refine BinK.gtr ?_ ?_ <;> intro h1 <;> cbv <;> (repeat'((first|(apply zS;kernel_rfl)|(apply zD;decide +kernel)|(apply zE;decide +kernel)|(apply zF;decide +kernel)|(apply zL;decide +kernel)|(apply zM;decide +kernel)|(apply zN;intros)|(apply zO;intros)|(apply zT;omega)|(apply zU;omega)|(apply zP;omega;intros)|(apply zQ;omega;intros)|apply zR);cbv))
 ·refine .one cA rfl rfl ?_
  cbv
  (repeat'((first|(apply zS;kernel_rfl)|(apply zD;decide +kernel)|(apply zE;decide +kernel)|(apply zF;decide +kernel)|(apply zL;decide +kernel)|(apply zM;decide +kernel)|(apply zN;intros)|(apply zO;intros)|(apply zT;omega)|(apply zU;omega)|(apply zP;omega;intros)|(apply zQ;omega;intros)|apply zR);cbv))
  exact ⟨hQ _⟩
 refine BinK.lss ?_ ?_ <;> intro h2 <;> cbv <;> (repeat'((first|(apply zS;kernel_rfl)|(apply zD;decide +kernel)|(apply zE;decide +kernel)|(apply zF;decide +kernel)|(apply zL;decide +kernel)|(apply zM;decide +kernel)|(apply zN;intros)|(apply zO;intros)|(apply zT;omega)|(apply zU;omega)|(apply zP;omega;intros)|(apply zQ;omega;intros)|apply zR);cbv))
 ·refine .one cA rfl rfl ?_
  cbv
  (repeat'((first|(apply zS;kernel_rfl)|(apply zD;decide +kernel)|(apply zE;decide +kernel)|(apply zF;decide +kernel)|(apply zL;decide +kernel)|(apply zM;decide +kernel)|(apply zN;intros)|(apply zO;intros)|(apply zT;omega)|(apply zU;omega)|(apply zP;omega;intros)|(apply zQ;omega;intros)|apply zR);cbv))
  exact ⟨hQ _⟩
 refine BinK.gtr ?_ ?_ <;> intro h3 <;> cbv <;> (repeat'((first|(apply zS;kernel_rfl)|(apply zD;decide +kernel)|(apply zE;decide +kernel)|(apply zF;decide +kernel)|(apply zL;decide +kernel)|(apply zM;decide +kernel)|(apply zN;intros)|(apply zO;intros)|(apply zT;omega)|(apply zU;omega)|(apply zP;omega;intros)|(apply zQ;omega;intros)|apply zR);cbv))
 ·refine .one cA rfl rfl ?_
  cbv
  (repeat'((first|(apply zS;kernel_rfl)|(apply zD;decide +kernel)|(apply zE;decide +kernel)|(apply zF;decide +kernel)|(apply zL;decide +kernel)|(apply zM;decide +kernel)|(apply zN;intros)|(apply zO;intros)|(apply zT;omega)|(apply zU;omega)|(apply zP;omega;intros)|(apply zQ;omega;intros)|apply zR);cbv))
  exact ⟨hQ _⟩
 refine BinK.lss ?_ ?_ <;> intro h4 <;> cbv <;> (repeat'((first|(apply zS;kernel_rfl)|(apply zD;decide +kernel)|(apply zE;decide +kernel)|(apply zF;decide +kernel)|(apply zL;decide +kernel)|(apply zM;decide +kernel)|(apply zN;intros)|(apply zO;intros)|(apply zT;omega)|(apply zU;omega)|(apply zP;omega;intros)|(apply zQ;omega;intros)|apply zR);cbv))
 ·refine .one cA rfl rfl ?_
  cbv
  (repeat'((first|(apply zS;kernel_rfl)|(apply zD;decide +kernel)|(apply zE;decide +kernel)|(apply zF;decide +kernel)|(apply zL;decide +kernel)|(apply zM;decide +kernel)|(apply zN;intros)|(apply zO;intros)|(apply zT;omega)|(apply zU;omega)|(apply zP;omega;intros)|(apply zQ;omega;intros)|apply zR);cbv))
  exact ⟨hQ _⟩
 obtain ⟨c1,c2,h5,h6⟩ := main h1 h2 h3 h4
 clear main
 cases R with
 | bad e p =>
  have cT := toldR_cp e p (h6 e p rfl)
  clear h5 h6
  refine .one c1 hp3 (readD_pure _) ?_
  cbv
  (repeat'((first|(apply zS;kernel_rfl)|(apply zD;decide +kernel)|(apply zE;decide +kernel)|(apply zF;decide +kernel)|(apply zL;decide +kernel)|(apply zM;decide +kernel)|(apply zN;intros)|(apply zO;intros)|(apply zT;omega)|(apply zU;omega)|(apply zP;omega;intros)|(apply zQ;omega;intros)|apply zR);cbv))
  refine .one c2 hp3 (got_pure _) ?_
  cbv
  (repeat'((first|(apply zS;kernel_rfl)|(apply zD;decide +kernel)|(apply zE;decide +kernel)|(apply zF;decide +kernel)|(apply zL;decide +kernel)|(apply zM;decide +kernel)|(apply zN;intros)|(apply zO;intros)|(apply zT;omega)|(apply zU;omega)|(apply zP;omega;intros)|(apply zQ;omega;intros)|apply zR);cbv))
  refine .one cq hp4 rfl ?_
  cbv
  (repeat'((first|(apply zS;kernel_rfl)|(apply zD;decide +kernel)|(apply zE;decide +kernel)|(apply zF;decide +kernel)|(apply zL;decide +kernel)|(apply zM;decide +kernel)|(apply zN;intros)|(apply zO;intros)|(apply zT;omega)|(apply zU;omega)|(apply zP;omega;intros)|(apply zQ;omega;intros)|apply zR);cbv))
  refine .one cT rfl rfl ?_
  cbv
  (repeat'((first|(apply zS;kernel_rfl)|(apply zD;decide +kernel)|(apply zE;decide +kernel)|(apply zF;decide +kernel)|(apply zL;decide +kernel)|(apply zM;decide +kernel)|(apply zN;intros)|(apply zO;intros)|(apply zT;omega)|(apply zU;omega)|(apply zP;omega;intros)|(apply zQ;omega;intros)|apply zR);cbv))
  refine .one cw hp4 hpw ?_
  cbv
  (repeat'((first|(apply zS;kernel_rfl)|(apply zD;decide +kernel)|(apply zE;decide +kernel)|(apply zF;decide +kernel)|(apply zL;decide +kernel)|(apply zM;decide +kernel)|(apply zN;intros)|(apply zO;intros)|(apply zT;omega)|(apply zU;omega)|(apply zP;omega;intros)|(apply zQ;omega;intros)|apply zR);cbv))
  refine .one ct hp5 rfl ?_
  cbv
  (repeat'((first|(apply zS;kernel_rfl)|(apply zD;decide +kernel)|(apply zE;decide +kernel)|(apply zF;decide +kernel)|(apply zL;decide +kernel)|(apply zM;decide +kernel)|(apply zN;intros)|(apply zO;intros)|(apply zT;omega)|(apply zU;omega)|(apply zP;omega;intros)|(apply zQ;omega;intros)|apply zR);cbv))
  refine BinK.someNe ?_
  cbv
  (repeat'((first|(apply zS;kernel_rfl)|(apply zD;decide +kernel)|(apply zE;decide +kernel)|(apply zF;decide +kernel)|(apply zL;decide +kernel)|(apply zM;decide +kernel)|(apply zN;intros)|(apply zO;intros)|(apply zT;omega)|(apply zU;omega)|(apply zP;omega;intros)|(apply zQ;omega;intros)|apply zR);cbv))
  refine .one cA rfl rfl ?_
  cbv
  (repeat'((first|(apply zS;kernel_rfl)|(apply zD;decide +kernel)|(apply zE;decide +kernel)|(apply zF;decide +kernel)|(apply zL;decide +kernel)|(apply zM;decide +kernel)|(apply zN;intros)|(apply zO;intros)|(apply zT;omega)|(apply zU;omega)|(apply zP;omega;intros)|(apply zQ;omega;intros)|apply zR);cbv))
  exact ⟨hQ _⟩
 | ok t to =>
  have ht := h5 t to rfl
  have cS := sameq_cp t t ht ht
  rw [same_refl] at cS
  have cT := toldN_cp 0
  have pR := readD_pure (.ok t to)
  have pG := got_pure (.ok t to)
  have pT := ty_pure t
  clear h5 h6 ht
  obtain ⟨k,n,nm,ls,ks⟩ := t
  have c1 : CP (TT ()) 12 _ (· = .tup [.agg [.raw (.int .i64 k),.raw (.int .i64 n),.raw (.string nm),.sl none 1 (ls.map strD),.sl none 5 (tysD ks)],.raw (.int .i64 to),.raw .nilIface]) := c1
  have c2 : CP (TT ()) 13 _ (· = .agg [.raw (.int .i64 k),.raw (.int .i64 n),.raw (.string nm),.sl none 1 (ls.map strD),.sl none 5 (tysD ks),.raw (.int .i64 to),.raw (.int .i64 0),.raw (.int .i64 0)]) := c2
  have cS : CP (TT ()) 11 [.agg [.raw (.int .i64 k),.raw (.int .i64 n),.raw (.string nm),.sl none 1 (ls.map strD),.sl none 5 (tysD ks)],.agg [.raw (.int .i64 k),.raw (.int .i64 n),.raw (.string nm),.sl none 1 (ls.map strD),.sl none 5 (tysD ks)]] (· = .raw (.bool true)) := cS
  have pR : pureD (.tup [.agg [.raw (.int .i64 k),.raw (.int .i64 n),.raw (.string nm),.sl none 1 (ls.map strD),.sl none 5 (tysD ks)],.raw (.int .i64 to),.raw .nilIface]) = some (.tup [.agg [.raw (.int .i64 k),.raw (.int .i64 n),.raw (.string nm),.sl none 1 (ls.map strD),.sl none 5 (tysD ks)],.raw (.int .i64 to),.raw .nilIface]) := pR
  have pG : pureD (.agg [.raw (.int .i64 k),.raw (.int .i64 n),.raw (.string nm),.sl none 1 (ls.map strD),.sl none 5 (tysD ks),.raw (.int .i64 to),.raw (.int .i64 0),.raw (.int .i64 0)]) = some (.agg [.raw (.int .i64 k),.raw (.int .i64 n),.raw (.string nm),.sl none 1 (ls.map strD),.sl none 5 (tysD ks),.raw (.int .i64 to),.raw (.int .i64 0),.raw (.int .i64 0)]) := pG
  have pT : pureD (.agg [.raw (.int .i64 k),.raw (.int .i64 n),.raw (.string nm),.sl none 1 (ls.map strD),.sl none 5 (tysD ks)]) = some (.agg [.raw (.int .i64 k),.raw (.int .i64 n),.raw (.string nm),.sl none 1 (ls.map strD),.sl none 5 (tysD ks)]) := pT
  generalize ls.map strD = LS at *
  generalize tysD ks = KS at *
  refine .one c1 hp3 pR ?_
  cbv
  (repeat'((first|(apply zS;kernel_rfl)|(apply zD;decide +kernel)|(apply zE;decide +kernel)|(apply zF;decide +kernel)|(apply zL;decide +kernel)|(apply zM;decide +kernel)|(apply zN;intros)|(apply zO;intros)|(apply zT;omega)|(apply zU;omega)|(apply zP;omega;intros)|(apply zQ;omega;intros)|apply zR);cbv))
  refine .one c2 hp3 pG ?_
  cbv
  (repeat'((first|(apply zS;kernel_rfl)|(apply zD;decide +kernel)|(apply zE;decide +kernel)|(apply zF;decide +kernel)|(apply zL;decide +kernel)|(apply zM;decide +kernel)|(apply zN;intros)|(apply zO;intros)|(apply zT;omega)|(apply zU;omega)|(apply zP;omega;intros)|(apply zQ;omega;intros)|apply zR);cbv))
  refine .one cq hp4 rfl ?_
  cbv
  (repeat'((first|(apply zS;kernel_rfl)|(apply zD;decide +kernel)|(apply zE;decide +kernel)|(apply zF;decide +kernel)|(apply zL;decide +kernel)|(apply zM;decide +kernel)|(apply zN;intros)|(apply zO;intros)|(apply zT;omega)|(apply zU;omega)|(apply zP;omega;intros)|(apply zQ;omega;intros)|apply zR);cbv))
  refine .one cT rfl rfl ?_
  cbv
  (repeat'((first|(apply zS;kernel_rfl)|(apply zD;decide +kernel)|(apply zE;decide +kernel)|(apply zF;decide +kernel)|(apply zL;decide +kernel)|(apply zM;decide +kernel)|(apply zN;intros)|(apply zO;intros)|(apply zT;omega)|(apply zU;omega)|(apply zP;omega;intros)|(apply zQ;omega;intros)|apply zR);cbv))
  refine .one cw hp4 hpw ?_
  cbv
  (repeat'((first|(apply zS;kernel_rfl)|(apply zD;decide +kernel)|(apply zE;decide +kernel)|(apply zF;decide +kernel)|(apply zL;decide +kernel)|(apply zM;decide +kernel)|(apply zN;intros)|(apply zO;intros)|(apply zT;omega)|(apply zU;omega)|(apply zP;omega;intros)|(apply zQ;omega;intros)|apply zR);cbv))
  refine .one ct hp5 rfl ?_
  cbv
  (repeat'((first|(apply zS;kernel_rfl)|(apply zD;decide +kernel)|(apply zE;decide +kernel)|(apply zF;decide +kernel)|(apply zL;decide +kernel)|(apply zM;decide +kernel)|(apply zN;intros)|(apply zO;intros)|(apply zT;omega)|(apply zU;omega)|(apply zP;omega;intros)|(apply zQ;omega;intros)|apply zR);cbv))
  refine BinK.nilNe ?_
  cbv
  (repeat'((first|(apply zS;kernel_rfl)|(apply zD;decide +kernel)|(apply zE;decide +kernel)|(apply zF;decide +kernel)|(apply zL;decide +kernel)|(apply zM;decide +kernel)|(apply zN;intros)|(apply zO;intros)|(apply zT;omega)|(apply zU;omega)|(apply zP;omega;intros)|(apply zQ;omega;intros)|apply zR);cbv))
  refine BinK.nilEq ?_
  cbv
  (repeat'((first|(apply zS;kernel_rfl)|(apply zD;decide +kernel)|(apply zE;decide +kernel)|(apply zF;decide +kernel)|(apply zL;decide +kernel)|(apply zM;decide +kernel)|(apply zN;intros)|(apply zO;intros)|(apply zT;omega)|(apply zU;omega)|(apply zP;omega;intros)|(apply zQ;omega;intros)|apply zR);cbv))
  refine .one cS (cons_pure pT (cons_pure pT rfl)) rfl ?_
  cbv
  (repeat'((first|(apply zS;kernel_rfl)|(apply zD;decide +kernel)|(apply zE;decide +kernel)|(apply zF;decide +kernel)|(apply zL;decide +kernel)|(apply zM;decide +kernel)|(apply zN;intros)|(apply zO;intros)|(apply zT;omega)|(apply zU;omega)|(apply zP;omega;intros)|(apply zQ;omega;intros)|apply zR);cbv))
  refine .one cA rfl rfl ?_
  cbv
  (repeat'((first|(apply zS;kernel_rfl)|(apply zD;decide +kernel)|(apply zE;decide +kernel)|(apply zF;decide +kernel)|(apply zL;decide +kernel)|(apply zM;decide +kernel)|(apply zN;intros)|(apply zO;intros)|(apply zT;omega)|(apply zU;omega)|(apply zP;omega;intros)|(apply zQ;omega;intros)|apply zR);cbv))
  exact ⟨hQ _⟩
theorem cellsOf_tok : Tryz.prog.cellsOf 56 = 4 := by kernel_rfl
theorem has_tok {n : Nat} {d : D} (h : Has Tryz.prog n 56 d) : ∃ t : Tkn,d = tkD t ∧ t.s.size ≤ maxLen := by
 obtain ⟨m,xs,rfl,rfl,hl,hx⟩ := h.struct Tryz.underlying56
 match xs,hl with
 | [x0,x1,x2,x3],_ =>
  obtain ⟨k,rfl,_⟩ := (hx 0 _ x0 rfl rfl).int Tryz.underlying3
  obtain ⟨a,rfl,_⟩ := (hx 1 _ x1 rfl rfl).int Tryz.underlying3
  obtain ⟨nm,rfl,hnm⟩ := (hx 2 _ x2 rfl rfl).str Tryz.underlying9
  obtain ⟨p,rfl,_⟩ := (hx 3 _ x3 rfl rfl).int Tryz.underlying3
  exact ⟨⟨k,a,nm,p⟩,rfl,hnm⟩
theorem toks_of : ∀ {ds : List D},(∀ x ∈ ds,∃ t : Tkn,x = tkD t ∧ t.s.size ≤ maxLen) -> ∃ l : List Tkn,ds = l.map tkD ∧ ∀ t ∈ l,t.s.size ≤ maxLen
 | [],_ => ⟨[],rfl,fun t h => absurd h List.not_mem_nil⟩
 | x :: r,h => by
  obtain ⟨l,h1,h2⟩ := toks_of (ds := r) fun y hy => h y (List.mem_cons_of_mem _ hy)
  obtain ⟨t,rfl,ht⟩ := h x (List.mem_cons_self ..)
  refine ⟨t :: l,by simp [h1],fun u hu => ?_⟩
  rcases List.mem_cons.1 hu with rfl | hu
  ·exact ht
  ·exact h2 u hu
theorem has_toks {n : Nat} {d : D} (h : Has Tryz.prog n 38 d) : ∃ l : List Tkn,d = .sl none 4 (l.map tkD) ∧ ∀ j,(tokT l j).s.size ≤ maxLen := by
 obtain ⟨m,ds,_,rfl,hl,hds⟩ := h.slice Tryz.underlying38
 obtain ⟨l,rfl,hs⟩ := toks_of fun x hx => has_tok (hds x hx)
 rw [cellsOf_tok]
 refine ⟨l,rfl,fun j => ?_⟩
 unfold tokT
 split
 ·rw [List.getD]
  cases hx : l[j.toNat]? with
  | none => exact nil_size
  | some t => exact hs t (List.mem_of_getElem? hx)
 ·exact nil_size
theorem reads_law (l : List Tkn) (hs : ∀ j,(tokT l j).s.size ≤ maxLen) (i deep : Int) (sign : ByteArray) : CP (TT ()) 4 [.sl none 4 (l.map tkD),.raw (.int .i64 i),.raw (.int .i64 deep),.raw (.string sign)] (· = .raw (.bool true)) :=
 runV fun Q hQ => reads_run l i deep sign (readS recT l (65 - deep).toNat i) awake_cp (fun h1 h2 h3 h4 => by
  have hi : inR i := by unfold inR;omega
  exact ⟨read_cp l deep _ (whole_is l (by omega) hs deep (by omega)) i hi,readr_is l (by omega) hs deep (by omega) i hi,fun t to e => readS_okT hs e,fun e p h => readS_ne h⟩) Q hQ
end Go.Proofs.YtkoabcncdjmoeaaGreatDoor
namespace Go.Proofs.YtkoabcncdjmoeaaGreatDoor.rdsP
open Go.ChangeShapes Go.WideShapes Go.ChangeAt Go.RowKit Go.Proofs.YtkoabcncdjmoeaaGreatDoor Pv
theorem kinds : Kinds Tryz.prog (fun t => t = 3 ∨ t = 9 ∨ t = 56 ∨ t = 38) where
 ok := by
  rintro t (rfl | rfl | rfl | rfl)
  ·rw [Tryz.underlying3];show Tryz.prog.cellsOf _ = 1;kernel_rfl
  ·rw [Tryz.underlying9];show Tryz.prog.cellsOf _ = 1;kernel_rfl
  ·rw [Tryz.underlying56];exact ⟨by kernel_rfl,by intro f hf;simp at hf;rcases hf with rfl | rfl | rfl | rfl <;> simp⟩
  ·rw [Tryz.underlying38];exact ⟨by kernel_rfl,by simp,by rw [cellsOf_tok];decide⟩
theorem lifted (os : Os) (started : os.Started) (H : Type) (enc : TypeId × Value -> H) :
  ReturnsInHanded {} Tryz.checked os 4 .any (fun w args => (Rows.tyreadReadsSpec.pre enc Tryz.prog Tryz.f4 [] false w args ∧ laidMetH Tryz.prog laidList w) ∧ sizedMet enc Tryz.prog Tryz.f4 (OpenSpec.ofChange Rows.tyreadReadsSpec) false w args)
   (Rows.tyreadReadsSpec.post enc Tryz.prog Tryz.f4 false true false false) := by
 refine returnsInHanded_of_change_and (C := Tryz.checked) (X := fun w _ => laidMetH Tryz.prog laidList w) (fun _ _ _ hh h => h.of_heap hh) own started (by kernel_rfl) Tryz.func4
  (ChangeSpec.witness_at (enc := enc) (C := Tryz.checked) (os := os) (X := fun w _ => laidMetH Tryz.prog laidList w) false (laidWorld os) #[.slice none 0 0,.int .i64 0,.int .i64 0,.string ⟨#[]⟩] 8 rfl (by kernel_rfl) (by kernel_rfl) (by kernel_rfl) (by kernel_rfl) (by kernel_rfl) (laidWorld_met os _)) ?_
 intro W base args ds gs before hval0 hW _ _ hL _
 have hval : ∀ (j : Nat) t v,Tryz.f4.params[j]? = some t -> args[j]? = some v -> Value.okWide Tryz.prog W .any base t v := hval0
 have hW' := hW
 have hend : ∀ W',Below W.heap.size W W' -> Rows.tyreadReadsSpec.post enc Tryz.prog Tryz.f4 false true false false W args (.bool true) W' := fun W' hb =>
  law_post (bt := 4) laid hW' rfl rfl Tryz.underlying4 (by rw [show Tryz.f4.params = _ from Tryz.params4];intro t ht;simp at ht;rcases ht with rfl | rfl | rfl | rfl <;> exact ⟨by kernel_rfl,of_decide_eq_true (by kernel_rfl)⟩)
   (by rw [show Tryz.f4.params = _ from Tryz.params4];intro l hl;match l,hl with | [_,_,_,_],_ => rfl) hb
 obtain ⟨p,q,hA0,hV,hpq,_,_⟩ := hW
 have hA : DataW.TrodAll enc Tryz.prog W 0 (fun _ => true) true Tryz.f4.params.toList args.toList ds p := hA0
 rw [Tryz.params4] at hA hval
 obtain ⟨v0,vs0,d0,ds0,p0,q0,hargs,rfl,rfl,h0,r0⟩ := trodAll_cons hA
 obtain ⟨v1,vs1,d1,ds1,p1,q1,rfl,rfl,rfl,h1,r1⟩ := trodAll_cons r0
 obtain ⟨v2,vs2,d2,ds2,p2,q2,rfl,rfl,rfl,h2,r2⟩ := trodAll_cons r1
 obtain ⟨v3,vs3,d3,ds3,p3,q3,rfl,rfl,rfl,h3,r3⟩ := trodAll_cons r2
 obtain ⟨rfl,rfl,rfl⟩ := trodAll_nil r3
 obtain rfl : args = #[v0,v1,v2,v3] := by cases args;simp_all
 obtain ⟨n0,x0,g0,k0⟩ := param_has kinds (by simp) (hval 0 38 _ rfl rfl) h0
 obtain ⟨l,rfl,hs_l⟩ := has_toks g0
 obtain ⟨n1,x1,g1,k1⟩ := param_has kinds (by simp) (hval 1 3 _ rfl rfl) h1
 obtain ⟨i,rfl,hi_i⟩ := g1.int Tryz.underlying3
 obtain ⟨n2,x2,g2,k2⟩ := param_has kinds (by simp) (hval 2 3 _ rfl rfl) h2
 obtain ⟨deep,rfl,hi_deep⟩ := g2.int Tryz.underlying3
 obtain ⟨n3,x3,g3,k3⟩ := param_has kinds (by simp) (hval 3 9 _ rfl rfl) h3
 obtain ⟨sign,rfl,hs_sign⟩ := g3.str Tryz.underlying9
 refine ((reads_law l hs_l i deep sign).2 (allS W) W [v0,v1,v2,v3] (okay_laid hL) ⟨_,_,rfl,k0,⟨_,_,rfl,k1,⟨_,_,rfl,k2,⟨_,_,rfl,k3,rfl⟩⟩⟩⟩).mono ?_
 rintro e W' ⟨v,S',d,rfl,rfl,hb,_,_,hv⟩
 simp only [Pv.Rd] at hv
 subst hv
 exact ⟨_,rfl,hend W' hb⟩
theorem row_holds : Rows.TyreadReadsSaid :=
 OpenClaim.holds_of_wide 4 Tryz.f4 rfl rfl rfl rfl rfl rfl rfl ⟨rfl,rfl,rfl,rfl,rfl⟩ rfl rfl rfl rfl rfl (by kernel_rfl) Tryz.func4 (by kernel_rfl)
  (of_decide_eq_true (by kernel_rfl)) (by unfold Func.isWrapper;first | (rw [if_pos (by decide +kernel)];kernel_rfl) | (rw [if_neg (by decide +kernel)];exact ⟨rfl,rfl⟩))
  (fun os started H enc _ => lifted os started H enc)
theorem holds : Rows.TyreadReadsCardSaid :=
 Claim7.holds_tied_plain_at .later [] [.data,.data,.data,.handle] true Rows.tyreadReadsCard.stood.harness true
  row_holds (fun _ h => by cases h) (by kernel_rfl) (fun _ h => by cases h) tyreadReads_row_tie rfl ⟨rfl,rfl⟩ (by kernel_rfl) rfl
  (fun f fn hf hfn => by
   obtain rfl : f = 4 := Option.some.inj ((show Tryz.prog.funcNamed "limbeck/limbecklaw06.TyreadReads" = some 4 by kernel_rfl).symm.trans hf) |>.symm
   obtain rfl : fn = Tryz.f4 := (Option.some.inj (Tryz.func4.symm.trans hfn)).symm
   exact ⟨by kernel_rfl,fun j t ht => by
    have hm : t ∈ Tryz.f4.params.toList := by
     have := (Array.getElem?_eq_some_iff.1 ht)
     obtain ⟨h1,h2⟩ := this
     rw [← h2];simp
    rw [show Tryz.f4.params = _ from Tryz.params4] at hm
    simp at hm
    rcases hm with rfl | rfl | rfl | rfl <;> (refine (show Tryz.prog.wantsStandIn _ = false from ?_);kernel_rfl)⟩)
  (by kernel_rfl)
end Go.Proofs.YtkoabcncdjmoeaaGreatDoor.rdsP
