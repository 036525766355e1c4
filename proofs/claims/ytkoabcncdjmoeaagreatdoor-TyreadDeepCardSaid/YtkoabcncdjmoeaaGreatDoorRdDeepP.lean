/- TyreadDeep: of any number the law answers true: so many functions, or brackets, within one another are read up to the limit, and not beyond it. Condition: the four laid variables of the packages strconv, math/bits and errors hold what their text lays (tied). -/
import Derived.SevenTiedAt
import Derived.Test.YtkoabcncdjmoeaaGreatDoorCards
import Derived.Test.YtkoabcncdjmoeaaGreatDoorTie
import Derived.Test.YtkoabcncdjmoeaaGreatDoorOf
import Derived.Test.YtkoabcncdjmoeaaGreatDoorNr
import Derived.Test.YtkoabcncdjmoeaaGreatDoorMv
import Derived.Test.YtkoabcncdjmoeaaGreatDoorNt
set_option linter.unusedSimpArgs false
set_option linter.unusedVariables false
set_option maxRecDepth 1000000
set_option maxHeartbeats 40000000
namespace Go.Proofs.YtkoabcncdjmoeaaGreatDoor
open Go.RowKit Pv
def appB (s u : ByteArray) : Nat -> ByteArray
 | 0 => s
 | m + 1 => appB s u m ++ u
def unitB (b : Bool) : ByteArray := if b = true then ⟨#[40]⟩ else ⟨#[73,110,116,32,45,62,32]⟩
def intB : ByteArray := ⟨#[73,110,116]⟩
def deepB (b : Bool) (m : Nat) : ByteArray := if b = true then appB (appB ⟨#[]⟩ (unitB b) m ++ intB) ⟨#[41]⟩ m else appB ⟨#[]⟩ (unitB b) m ++ intB
theorem appB_size (s u : ByteArray) : ∀ m,(appB s u m).size = s.size + m * u.size
 | 0 => by simp [appB]
 | m + 1 => by
  rw [appB,ByteArray.size_append,appB_size s u m,Nat.succ_mul]
  omega
theorem unitB_size (b : Bool) : (unitB b).size ≤ 7 := by cases b <;> decide
theorem deepB_size (b : Bool) (m : Nat) (hm : m ≤ 79) : (deepB b m).size ≤ 2000 := by
 have h1 := appB_size ⟨#[]⟩ (unitB b) m
 have h2 := unitB_size b
 have h3 : intB.size = 3 := rfl
 have h4 : (⟨#[]⟩ : ByteArray).size = 0 := rfl
 have h5 : m * (unitB b).size ≤ 79 * 7 := Nat.mul_le_mul hm h2
 unfold deepB
 split
 ·rw [appB_size,ByteArray.size_append,h1,h3,h4]
  have h6 : (⟨#[41]⟩ : ByteArray).size = 1 := rfl
  rw [h6]
  omega
 ·rw [ByteArray.size_append,h1,h3,h4]
  omega
def deepAt (b : Bool) : Nat := if b = true then 64 else 128
def deepOk (b : Bool) (m : Nat) : Bool := match lexAll (deepB b m).data.toList with
 | .bad _ _ => false
 | .ok ts => match readS recT (ts.map tknOf) 64 0 with
  | .ok _ to => decide (m ≤ 63) && decide ((tokT (ts.map tknOf) to).k = 0)
  | .bad e p => decide (64 ≤ m) && (decide (e = 7) && (decide (deepAt b < ts.length) && decide (p = (tokT (ts.map tknOf) (deepAt b)).a)))
theorem deep_all0 : ((List.range 80).all fun m => deepOk false m) = true := by decide +kernel
theorem deep_all1 : ((List.range 80).all fun m => deepOk true m) = true := by decide +kernel
theorem deep_ok (b : Bool) (m : Nat) (hm : m ≤ 79) : deepOk b m = true := by
 cases b with
 | false => exact List.all_eq_true.1 deep_all0 m (List.mem_range.2 (by omega))
 | true => exact List.all_eq_true.1 deep_all1 m (List.mem_range.2 (by omega))
theorem deep_reads (b : Bool) (m : Nat) (hm : m ≤ 79) : ∃ ts,lexAll (deepB b m).data.toList = .ok ts ∧
  ((m ≤ 63 ∧ ∃ t to,parseS (deepB b m) = .ok t to) ∨ (64 ≤ m ∧ deepAt b < ts.length ∧ parseS (deepB b m) = .bad 7 (tokT (ts.map tknOf) (deepAt b)).a)) := by
 have h := deep_ok b m hm
 unfold deepOk at h
 unfold parseS
 cases hx : lexAll (deepB b m).data.toList with
 | bad c a =>
  rw [hx] at h
  cases h
 | ok ts =>
  rw [hx] at h
  simp only at h ⊢
  refine ⟨ts,rfl,?_⟩
  cases hr : readS recT (ts.map tknOf) 64 0 with
  | ok t to =>
   rw [hr] at h
   simp only [Bool.and_eq_true,decide_eq_true_eq] at h
   exact .inl ⟨h.1,t,to,by simp only [h.2,if_true]⟩
  | bad e p =>
   rw [hr] at h
   simp only [Bool.and_eq_true,decide_eq_true_eq] at h
   obtain ⟨h1,rfl,h3,rfl⟩ := h
   exact .inr ⟨h1,h3,rfl⟩
theorem code_cp (c a : Int) (hc : c ≠ 0) : CP (TT ()) 22 [errR c a] (· = .raw (.int .i64 c)) := by
 refine ⟨callable_at Tryz.func22 (by kernel_rfl) rfl,fun S w args hS r => ?_⟩
 obtain ⟨v,rfl,h⟩ := rdL_one r
 have h : v = errV c a := h
 subst h
 refine (code_one c a w (beq_eq_false_iff_ne.2 hc) (errT_at hS)).mono ?_
 rintro ev w' ⟨rfl,hb⟩
 exact ⟨_,S,.raw _,rfl,rfl,hb,fun _ _ h => h,fun b o hs => ⟨Nat.lt_of_lt_of_le (hS b o hs) hb.size,fun _ => hs⟩,rfl⟩
theorem fat_cp (c a : Int) (hc : c ≠ 0) : CP (TT ()) 23 [errR c a] (· = .raw (.int .i64 a)) := by
 refine ⟨callable_at Tryz.func23 (by kernel_rfl) rfl,fun S w args hS r => ?_⟩
 obtain ⟨v,rfl,h⟩ := rdL_one r
 have h : v = errV c a := h
 subst h
 refine (at_one c a w (beq_eq_false_iff_ne.2 hc) (errT_at hS)).mono ?_
 rintro ev w' ⟨rfl,hb⟩
 exact ⟨_,S,.raw _,rfl,rfl,hb,fun _ _ h => h,fun b o hs => ⟨Nat.lt_of_lt_of_le (hS b o hs) hb.size,fun _ => hs⟩,rfl⟩
theorem conv_n {v : Int} {K : D -> Prop} (h : 0 ≤ v ∧ v ≤ 255) (hk : K (.raw (.int .i64 v))) : ConvK TT 5 3 (.int .u8 v) K := by
 refine ⟨.int .i64 (IntKind.i64.wrap v),by kernel_rfl,?_⟩
 rw [IntWalk.i64_in _ (by omega)]
 exact hk
theorem rem_n {t : TypeId} {x y : Operand} {a : Int} {K : D -> Prop} (h : 0 ≤ a ∧ a ≤ 255) (hk : ∀ r,0 ≤ r ∧ r ≤ 79 -> K (.raw (.int .i64 r))) : BinK TT .rem t x y (.int .i64 a) (.int .i64 80) K :=
 ⟨.int .i64 (a.tmod 80),by kernel_rfl,by rw [Int.tmod_eq_emod_of_nonneg h.1];exact hk _ (by omega)⟩
structure AppI (s u : ByteArray) (k i : Int) (x : ByteArray) : Prop where
 i1 : 1 ≤ i
 ik : i ≤ k
 x1 : x = appB s u (i - 1).toNat
theorem AppI.next {s u : ByteArray} {k i i2 : Int} {x y : ByteArray} (h : AppI s u k i x) (hlt : i < k) (h2 : i2 = i + 1) (hy : y = x ++ u) : AppI s u k i2 y := by
 obtain ⟨h1,h3,rfl⟩ := h
 subst h2 hy
 refine ⟨by omega,by omega,?_⟩
 rw [show (i + 1 - 1).toNat = (i - 1).toNat + 1 by omega]
 try rfl
theorem AppI.last {s u : ByteArray} {k i : Int} {x : ByteArray} (h : AppI s u k i x) (hlt : k ≤ i) : x = appB s u (k - 1).toNat := by
 obtain ⟨h1,h3,rfl⟩ := h
 rw [show i = k by omega]
theorem AppI.small {s u : ByteArray} {k i : Int} {x : ByteArray} (h : AppI s u k i x) (hs : s.size ≤ 1000) (hu : u.size ≤ 7) (hk : k ≤ 80) : x.size + 7 ≤ maxLen := by
 obtain ⟨h1,h3,rfl⟩ := h
 have := appB_size s u (i - 1).toNat
 have h5 : (i - 1).toNat * u.size ≤ 79 * 7 := Nat.mul_le_mul (by omega) hu
 unfold maxLen
 omega
theorem appB_le {s u x : ByteArray} {m : Nat} (h : x = appB s u m) (hs : s.size ≤ 0) (hu : u.size ≤ 7) (hm : m ≤ 79) : x.size ≤ 600 := by
 have h1 := appB_size s u m
 have h5 : m * u.size ≤ 79 * 7 := Nat.mul_le_mul hm hu
 rw [h]
 omega
theorem app_le {x y u : ByteArray} (h : y = x ++ u) (hu : u.size ≤ 3) (hx : x.size ≤ 600) : y.size ≤ 1000 := by
 rw [h,ByteArray.size_append]
 omega
theorem deep_last (b : Bool) (k : Int) (hk : 1 ≤ k ∧ k ≤ 80) : CP (TT ()) 8 [.raw (.string (deepB b (k - 1).toNat))] (· = parseD (parseS (deepB b (k - 1).toNat))) := parse_cp _ (deepB_size b _ (by omega))
theorem deep_facts (b : Bool) (k : Int) (hk : 1 ≤ k ∧ k ≤ 80) :
  (k ≤ 64 -> ∃ t,CP (TT ()) 8 [.raw (.string (deepB b (k - 1).toNat))] (· = .tup [tyD t,.raw .nilIface])) ∧
  (64 < k -> ∃ (l : List Tkn) (x : Tkn),CP (TT ()) 8 [.raw (.string (deepB b (k - 1).toNat))] (· = .tup [tyD zeroT,errR 7 x.a]) ∧ CP (TT ()) 21 [.raw (.string (deepB b (k - 1).toNat))] (· = .tup [.sl none 4 (l.map tkD),.raw (.int .i64 0),.raw (.int .i64 0)]) ∧ deepAt b < l.length ∧ (l.map tkD)[deepAt b]? = some (tkD x)) := by
 have hm : (k - 1).toNat ≤ 79 := by omega
 have hs := deepB_size b _ hm
 obtain ⟨ts,h1,h2⟩ := deep_reads b _ hm
 have c1 := parse_cp _ hs
 have c2 := rlex_cp (deepB b (k - 1).toNat) (by unfold maxLen;omega)
 rw [h1] at c2
 rcases h2 with ⟨h3,t,to,h4⟩ | ⟨h3,h4,h5⟩
 ·rw [h4] at c1
  exact ⟨fun _ => ⟨t,c1⟩,fun h => by omega⟩
 ·rw [h5] at c1
  refine ⟨fun h => by omega,fun _ => ⟨ts.map tknOf,_,c1,c2,by rw [List.length_map];exact h4,?_⟩⟩
  unfold tokT
  rw [if_pos (by omega),Int.toNat_natCast,List.getD,List.getElem?_map,List.getElem?_map,List.getElem?_eq_getElem h4]
  try rfl
theorem deep_run (n : Int) (b : Bool) (hn : 0 ≤ n ∧ n ≤ 255) (Q : D -> H -> Prop) (hQ : ∀ h',Q (.raw (.bool true)) h') : wfun TT 6 [.raw (.int .u8 n),.raw (.bool b)] [] Q := by
 have cA := awake_cp
 have main := fun k hk => deep_facts b k hk
 cases b with
 | true =>
  cbv
  (repeat'((first|(apply zS;kernel_rfl)|(apply zD;decide +kernel)|(apply zE;decide +kernel)|(apply zF;decide +kernel)|(apply zL;decide +kernel)|(apply zM;decide +kernel)|(apply zN;intros)|(apply zO;intros)|(apply zT;omega)|(apply zU;omega)|(apply zP;omega;intros)|(apply zQ;omega;intros)|apply zR);cbv))
  refine conv_n hn ?_
  cbv
  (repeat'((first|(apply zS;kernel_rfl)|(apply zD;decide +kernel)|(apply zE;decide +kernel)|(apply zF;decide +kernel)|(apply zL;decide +kernel)|(apply zM;decide +kernel)|(apply zN;intros)|(apply zO;intros)|(apply zT;omega)|(apply zU;omega)|(apply zP;omega;intros)|(apply zQ;omega;intros)|apply zR);cbv))
  refine rem_n hn fun r hr => ?_
  cbv
  (repeat'((first|(apply zS;kernel_rfl)|(apply zD;decide +kernel)|(apply zE;decide +kernel)|(apply zF;decide +kernel)|(apply zL;decide +kernel)|(apply zM;decide +kernel)|(apply zN;intros)|(apply zO;intros)|(apply zT;omega)|(apply zU;omega)|(apply zP;omega;intros)|(apply zQ;omega;intros)|apply zR);cbv))
  rename_i k hk
  have hk : 1 ≤ k ∧ k ≤ 80 := by omega
  obtain ⟨main1,main2⟩ := main k hk
  clear hr main
  refine LoopK.put (X := Int × ByteArray) (fun x => [(6,.raw (.string x.2)),(7,.raw (.int .i64 x.1))]) (fun _ => []) (fun x => (k - x.1).toNat) (fun x => AppI ⟨#[]⟩ ⟨#[40]⟩ k x.1 x.2) (1,⟨#[]⟩) ⟨by omega,by omega,rfl⟩ rfl rfl ?_
  rintro ⟨i,x⟩ N hv hN
  simp only at hv hN ⊢
  have hi1 := hv.i1
  have hsm := hv.small (by decide) (by decide) hk.2
  cbv
  (repeat'((first|(apply zS;kernel_rfl)|(apply zD;decide +kernel)|(apply zE;decide +kernel)|(apply zF;decide +kernel)|(apply zL;decide +kernel)|(apply zM;decide +kernel)|(apply zN;intros)|(apply zO;intros)|(apply zT;omega)|(apply zU;omega)|(apply zP;omega;intros)|(apply zQ;omega;intros)|apply zR);cbv))
  refine BinK.lss ?_ ?_ <;> intro hlt <;> cbv <;> (repeat'((first|(apply zS;kernel_rfl)|(apply zD;decide +kernel)|(apply zE;decide +kernel)|(apply zF;decide +kernel)|(apply zL;decide +kernel)|(apply zM;decide +kernel)|(apply zN;intros)|(apply zO;intros)|(apply zT;omega)|(apply zU;omega)|(apply zP;omega;intros)|(apply zQ;omega;intros)|apply zR);cbv))
  ·refine BinK.sadd (Nat.le_trans (Nat.add_le_add_left (by decide) _) hsm) fun y hy => ?_
   cbv
   (repeat'((first|(apply zS;kernel_rfl)|(apply zD;decide +kernel)|(apply zE;decide +kernel)|(apply zF;decide +kernel)|(apply zL;decide +kernel)|(apply zM;decide +kernel)|(apply zN;intros)|(apply zO;intros)|(apply zT;omega)|(apply zU;omega)|(apply zP;omega;intros)|(apply zQ;omega;intros)|apply zR);cbv))
   rename_i i2 hi2
   exact RoundK.next (i2,y) (hv.next hlt hi2 hy) (by omega) rfl rfl
  ·have hx := hv.last hlt
   have hys := appB_le hx (by decide) (by decide) (by omega)
   clear hv hN hi1
   refine BinK.sadd (Nat.le_trans (Nat.add_le_add_left (by decide) _) hsm) fun y hy => ?_
   cbv
   (repeat'((first|(apply zS;kernel_rfl)|(apply zD;decide +kernel)|(apply zE;decide +kernel)|(apply zF;decide +kernel)|(apply zL;decide +kernel)|(apply zM;decide +kernel)|(apply zN;intros)|(apply zO;intros)|(apply zT;omega)|(apply zU;omega)|(apply zP;omega;intros)|(apply zQ;omega;intros)|apply zR);cbv))
   have hyz := app_le hy (by decide) hys
   refine LoopK.put (X := Int × ByteArray) (fun x => [(6,.raw (.string x.2)),(8,.raw (.int .i64 x.1))]) (fun _ => []) (fun x => (k - x.1).toNat) (fun x => AppI y ⟨#[41]⟩ k x.1 x.2) (1,y) ⟨by omega,by omega,rfl⟩ rfl rfl ?_
   rintro ⟨j,z⟩ N hv hN
   simp only at hv hN ⊢
   have hj1 := hv.i1
   have hsm := hv.small hyz (by decide) hk.2
   cbv
   (repeat'((first|(apply zS;kernel_rfl)|(apply zD;decide +kernel)|(apply zE;decide +kernel)|(apply zF;decide +kernel)|(apply zL;decide +kernel)|(apply zM;decide +kernel)|(apply zN;intros)|(apply zO;intros)|(apply zT;omega)|(apply zU;omega)|(apply zP;omega;intros)|(apply zQ;omega;intros)|apply zR);cbv))
   refine BinK.lss ?_ ?_ <;> intro hlt <;> cbv <;> (repeat'((first|(apply zS;kernel_rfl)|(apply zD;decide +kernel)|(apply zE;decide +kernel)|(apply zF;decide +kernel)|(apply zL;decide +kernel)|(apply zM;decide +kernel)|(apply zN;intros)|(apply zO;intros)|(apply zT;omega)|(apply zU;omega)|(apply zP;omega;intros)|(apply zQ;omega;intros)|apply zR);cbv))
   ·refine BinK.sadd (Nat.le_trans (Nat.add_le_add_left (by decide) _) hsm) fun y' hy' => ?_
    cbv
    (repeat'((first|(apply zS;kernel_rfl)|(apply zD;decide +kernel)|(apply zE;decide +kernel)|(apply zF;decide +kernel)|(apply zL;decide +kernel)|(apply zM;decide +kernel)|(apply zN;intros)|(apply zO;intros)|(apply zT;omega)|(apply zU;omega)|(apply zP;omega;intros)|(apply zQ;omega;intros)|apply zR);cbv))
    rename_i j2 hj2
    exact RoundK.next (j2,y') (hv.next hlt hj2 hy') (by omega) rfl rfl
   have hz : z = deepB true (k - 1).toNat := by
    rw [hv.last hlt,hy,hx]
    try rfl
   clear hv hN hj1 hsm hyz hys hy hx
   generalize deepB true (k - 1).toNat = w at *
   subst hz
   by_cases hk64 : k ≤ 64
   ·obtain ⟨t,c1⟩ := main1 hk64
    have p1 : pureD (.tup [tyD t,.raw .nilIface]) = some (.tup [tyD t,.raw .nilIface]) := parseD_pure (.ok t 0)
    obtain ⟨nt,mt,Lt,Kt,ft,_,_⟩ := ty_nodeR t
    rw [ft] at c1 p1
    generalize (match t with | .mk k _ _ _ _ => k) = kt at *
    clear main1 main2
    refine .one c1 rfl p1 ?_
    cbv
    (repeat'((first|(apply zS;kernel_rfl)|(apply zD;decide +kernel)|(apply zE;decide +kernel)|(apply zF;decide +kernel)|(apply zL;decide +kernel)|(apply zM;decide +kernel)|(apply zN;intros)|(apply zO;intros)|(apply zT;omega)|(apply zU;omega)|(apply zP;omega;intros)|(apply zQ;omega;intros)|apply zR);cbv))
    refine BinK.nilEq ?_
    cbv
    (repeat'((first|(apply zS;kernel_rfl)|(apply zD;decide +kernel)|(apply zE;decide +kernel)|(apply zF;decide +kernel)|(apply zL;decide +kernel)|(apply zM;decide +kernel)|(apply zN;intros)|(apply zO;intros)|(apply zT;omega)|(apply zU;omega)|(apply zP;omega;intros)|(apply zQ;omega;intros)|apply zR);cbv))
    refine .one cA rfl rfl ?_
    cbv
    (repeat'((first|(apply zS;kernel_rfl)|(apply zD;decide +kernel)|(apply zE;decide +kernel)|(apply zF;decide +kernel)|(apply zL;decide +kernel)|(apply zM;decide +kernel)|(apply zN;intros)|(apply zO;intros)|(apply zT;omega)|(apply zU;omega)|(apply zP;omega;intros)|(apply zQ;omega;intros)|apply zR);cbv))
    exact ⟨hQ _⟩
   ·obtain ⟨l,x,c1,c2,h3,h4⟩ := main2 (by omega)
    have hlen : (l.map tkD).length = l.length := List.length_map ..
    have hl := tks_pure l
    rw [← hlen] at h3
    clear main1 main2 hlen
    generalize l.map tkD = L at *
    obtain ⟨kx,nx,sx,ax⟩ := x
    have h3 : 64 < L.length := h3
    have h4 : L[64]? = some (.agg [.raw (.int .i64 kx),.raw (.int .i64 nx),.raw (.string sx),.raw (.int .i64 ax)]) := h4
    have cc := code_cp 7 ax (by decide)
    have ca := fat_cp 7 ax (by decide)
    have p2 : pureD (.tup [.sl none 4 L,.raw (.int .i64 0),.raw (.int .i64 0)]) = some (.tup [.sl none 4 L,.raw (.int .i64 0),.raw (.int .i64 0)]) := by simp [pureD,pureL,hl]
    refine .one c1 rfl (parseD_pure (.bad 7 ax)) ?_
    cbv
    (repeat'((first|(apply zS;kernel_rfl)|(apply zD;decide +kernel)|(apply zE;decide +kernel)|(apply zF;decide +kernel)|(apply zL;decide +kernel)|(apply zM;decide +kernel)|(apply zN;intros)|(apply zO;intros)|(apply zT;omega)|(apply zU;omega)|(apply zP;omega;intros)|(apply zQ;omega;intros)|apply zR);cbv))
    refine .one c2 rfl p2 ?_
    cbv
    (repeat'((first|(apply zS;kernel_rfl)|(apply zD;decide +kernel)|(apply zE;decide +kernel)|(apply zF;decide +kernel)|(apply zL;decide +kernel)|(apply zM;decide +kernel)|(apply zN;intros)|(apply zO;intros)|(apply zT;omega)|(apply zU;omega)|(apply zP;omega;intros)|(apply zQ;omega;intros)|apply zR);cbv))
    refine .one cc rfl rfl ?_
    cbv
    (repeat'((first|(apply zS;kernel_rfl)|(apply zD;decide +kernel)|(apply zE;decide +kernel)|(apply zF;decide +kernel)|(apply zL;decide +kernel)|(apply zM;decide +kernel)|(apply zN;intros)|(apply zO;intros)|(apply zT;omega)|(apply zU;omega)|(apply zP;omega;intros)|(apply zQ;omega;intros)|apply zR);cbv))
    refine .one ca rfl rfl ?_
    cbv
    (repeat'((first|(apply zS;kernel_rfl)|(apply zD;decide +kernel)|(apply zE;decide +kernel)|(apply zF;decide +kernel)|(apply zL;decide +kernel)|(apply zM;decide +kernel)|(apply zN;intros)|(apply zO;intros)|(apply zT;omega)|(apply zU;omega)|(apply zP;omega;intros)|(apply zQ;omega;intros)|apply zR);cbv))
    refine IdxK.intro (by decide) h4 ?_
    cbv
    (repeat'((first|(apply zS;kernel_rfl)|(apply zD;decide +kernel)|(apply zE;decide +kernel)|(apply zF;decide +kernel)|(apply zL;decide +kernel)|(apply zM;decide +kernel)|(apply zN;intros)|(apply zO;intros)|(apply zT;omega)|(apply zU;omega)|(apply zP;omega;intros)|(apply zQ;omega;intros)|apply zR);cbv))
    refine .one cA rfl rfl ?_
    cbv
    (repeat'((first|(apply zS;kernel_rfl)|(apply zD;decide +kernel)|(apply zE;decide +kernel)|(apply zF;decide +kernel)|(apply zL;decide +kernel)|(apply zM;decide +kernel)|(apply zN;intros)|(apply zO;intros)|(apply zT;omega)|(apply zU;omega)|(apply zP;omega;intros)|(apply zQ;omega;intros)|apply zR);cbv))
    exact ⟨hQ _⟩
 | false =>
  cbv
  (repeat'((first|(apply zS;kernel_rfl)|(apply zD;decide +kernel)|(apply zE;decide +kernel)|(apply zF;decide +kernel)|(apply zL;decide +kernel)|(apply zM;decide +kernel)|(apply zN;intros)|(apply zO;intros)|(apply zT;omega)|(apply zU;omega)|(apply zP;omega;intros)|(apply zQ;omega;intros)|apply zR);cbv))
  refine conv_n hn ?_
  cbv
  (repeat'((first|(apply zS;kernel_rfl)|(apply zD;decide +kernel)|(apply zE;decide +kernel)|(apply zF;decide +kernel)|(apply zL;decide +kernel)|(apply zM;decide +kernel)|(apply zN;intros)|(apply zO;intros)|(apply zT;omega)|(apply zU;omega)|(apply zP;omega;intros)|(apply zQ;omega;intros)|apply zR);cbv))
  refine rem_n hn fun r hr => ?_
  cbv
  (repeat'((first|(apply zS;kernel_rfl)|(apply zD;decide +kernel)|(apply zE;decide +kernel)|(apply zF;decide +kernel)|(apply zL;decide +kernel)|(apply zM;decide +kernel)|(apply zN;intros)|(apply zO;intros)|(apply zT;omega)|(apply zU;omega)|(apply zP;omega;intros)|(apply zQ;omega;intros)|apply zR);cbv))
  rename_i k hk
  have hk : 1 ≤ k ∧ k ≤ 80 := by omega
  obtain ⟨main1,main2⟩ := main k hk
  clear hr main
  refine LoopK.put (X := Int × ByteArray) (fun x => [(6,.raw (.string x.2)),(7,.raw (.int .i64 x.1))]) (fun _ => []) (fun x => (k - x.1).toNat) (fun x => AppI ⟨#[]⟩ ⟨#[73,110,116,32,45,62,32]⟩ k x.1 x.2) (1,⟨#[]⟩) ⟨by omega,by omega,rfl⟩ rfl rfl ?_
  rintro ⟨i,x⟩ N hv hN
  simp only at hv hN ⊢
  have hi1 := hv.i1
  have hsm := hv.small (by decide) (by decide) hk.2
  cbv
  (repeat'((first|(apply zS;kernel_rfl)|(apply zD;decide +kernel)|(apply zE;decide +kernel)|(apply zF;decide +kernel)|(apply zL;decide +kernel)|(apply zM;decide +kernel)|(apply zN;intros)|(apply zO;intros)|(apply zT;omega)|(apply zU;omega)|(apply zP;omega;intros)|(apply zQ;omega;intros)|apply zR);cbv))
  refine BinK.lss ?_ ?_ <;> intro hlt <;> cbv <;> (repeat'((first|(apply zS;kernel_rfl)|(apply zD;decide +kernel)|(apply zE;decide +kernel)|(apply zF;decide +kernel)|(apply zL;decide +kernel)|(apply zM;decide +kernel)|(apply zN;intros)|(apply zO;intros)|(apply zT;omega)|(apply zU;omega)|(apply zP;omega;intros)|(apply zQ;omega;intros)|apply zR);cbv))
  ·refine BinK.sadd (Nat.le_trans (Nat.add_le_add_left (by decide) _) hsm) fun y hy => ?_
   cbv
   (repeat'((first|(apply zS;kernel_rfl)|(apply zD;decide +kernel)|(apply zE;decide +kernel)|(apply zF;decide +kernel)|(apply zL;decide +kernel)|(apply zM;decide +kernel)|(apply zN;intros)|(apply zO;intros)|(apply zT;omega)|(apply zU;omega)|(apply zP;omega;intros)|(apply zQ;omega;intros)|apply zR);cbv))
   rename_i i2 hi2
   exact RoundK.next (i2,y) (hv.next hlt hi2 hy) (by omega) rfl rfl
  ·have hx := hv.last hlt
   have hys := appB_le hx (by decide) (by decide) (by omega)
   clear hv hN hi1
   refine BinK.sadd (Nat.le_trans (Nat.add_le_add_left (by decide) _) hsm) fun y hy => ?_
   cbv
   (repeat'((first|(apply zS;kernel_rfl)|(apply zD;decide +kernel)|(apply zE;decide +kernel)|(apply zF;decide +kernel)|(apply zL;decide +kernel)|(apply zM;decide +kernel)|(apply zN;intros)|(apply zO;intros)|(apply zT;omega)|(apply zU;omega)|(apply zP;omega;intros)|(apply zQ;omega;intros)|apply zR);cbv))
   refine LoopK.put (X := Unit) (fun _ => []) (fun _ => []) (fun _ => 0) (fun _ => True) () trivial rfl rfl ?_
   rintro ⟨⟩ N _ hN
   cbv
   (repeat'((first|(apply zS;kernel_rfl)|(apply zD;decide +kernel)|(apply zE;decide +kernel)|(apply zF;decide +kernel)|(apply zL;decide +kernel)|(apply zM;decide +kernel)|(apply zN;intros)|(apply zO;intros)|(apply zT;omega)|(apply zU;omega)|(apply zP;omega;intros)|(apply zQ;omega;intros)|apply zR);cbv))
   have hz : y = deepB false (k - 1).toNat := by
    rw [hy,hx]
    try rfl
   clear hN hsm hys hy hx
   generalize deepB false (k - 1).toNat = w at *
   subst hz
   refine BinK.lss ?_ ?_ <;> intro hlt2 <;> cbv <;> (repeat'((first|(apply zS;kernel_rfl)|(apply zD;decide +kernel)|(apply zE;decide +kernel)|(apply zF;decide +kernel)|(apply zL;decide +kernel)|(apply zM;decide +kernel)|(apply zN;intros)|(apply zO;intros)|(apply zT;omega)|(apply zU;omega)|(apply zP;omega;intros)|(apply zQ;omega;intros)|apply zR);cbv))
   all_goals
    clear hlt2
    by_cases hk64 : k ≤ 64
    ·obtain ⟨t,c1⟩ := main1 hk64
     have p1 : pureD (.tup [tyD t,.raw .nilIface]) = some (.tup [tyD t,.raw .nilIface]) := parseD_pure (.ok t 0)
     obtain ⟨nt,mt,Lt,Kt,ft,_,_⟩ := ty_nodeR t
     rw [ft] at c1 p1
     generalize (match t with | .mk k _ _ _ _ => k) = kt at *
     clear main1 main2
     refine .one c1 rfl p1 ?_
     cbv
     (repeat'((first|(apply zS;kernel_rfl)|(apply zD;decide +kernel)|(apply zE;decide +kernel)|(apply zF;decide +kernel)|(apply zL;decide +kernel)|(apply zM;decide +kernel)|(apply zN;intros)|(apply zO;intros)|(apply zT;omega)|(apply zU;omega)|(apply zP;omega;intros)|(apply zQ;omega;intros)|apply zR);cbv))
     refine BinK.nilEq ?_
     cbv
     (repeat'((first|(apply zS;kernel_rfl)|(apply zD;decide +kernel)|(apply zE;decide +kernel)|(apply zF;decide +kernel)|(apply zL;decide +kernel)|(apply zM;decide +kernel)|(apply zN;intros)|(apply zO;intros)|(apply zT;omega)|(apply zU;omega)|(apply zP;omega;intros)|(apply zQ;omega;intros)|apply zR);cbv))
     refine .one cA rfl rfl ?_
     cbv
     (repeat'((first|(apply zS;kernel_rfl)|(apply zD;decide +kernel)|(apply zE;decide +kernel)|(apply zF;decide +kernel)|(apply zL;decide +kernel)|(apply zM;decide +kernel)|(apply zN;intros)|(apply zO;intros)|(apply zT;omega)|(apply zU;omega)|(apply zP;omega;intros)|(apply zQ;omega;intros)|apply zR);cbv))
     exact ⟨hQ _⟩
    ·obtain ⟨l,x,c1,c2,h3,h4⟩ := main2 (by omega)
     have hlen : (l.map tkD).length = l.length := List.length_map ..
     have hl := tks_pure l
     rw [← hlen] at h3
     clear main1 main2 hlen
     generalize l.map tkD = L at *
     obtain ⟨kx,nx,sx,ax⟩ := x
     have h3 : 128 < L.length := h3
     have h4 : L[128]? = some (.agg [.raw (.int .i64 kx),.raw (.int .i64 nx),.raw (.string sx),.raw (.int .i64 ax)]) := h4
     have cc := code_cp 7 ax (by decide)
     have ca := fat_cp 7 ax (by decide)
     have p2 : pureD (.tup [.sl none 4 L,.raw (.int .i64 0),.raw (.int .i64 0)]) = some (.tup [.sl none 4 L,.raw (.int .i64 0),.raw (.int .i64 0)]) := by simp [pureD,pureL,hl]
     refine .one c1 rfl (parseD_pure (.bad 7 ax)) ?_
     cbv
     (repeat'((first|(apply zS;kernel_rfl)|(apply zD;decide +kernel)|(apply zE;decide +kernel)|(apply zF;decide +kernel)|(apply zL;decide +kernel)|(apply zM;decide +kernel)|(apply zN;intros)|(apply zO;intros)|(apply zT;omega)|(apply zU;omega)|(apply zP;omega;intros)|(apply zQ;omega;intros)|apply zR);cbv))
     refine .one c2 rfl p2 ?_
     cbv
     (repeat'((first|(apply zS;kernel_rfl)|(apply zD;decide +kernel)|(apply zE;decide +kernel)|(apply zF;decide +kernel)|(apply zL;decide +kernel)|(apply zM;decide +kernel)|(apply zN;intros)|(apply zO;intros)|(apply zT;omega)|(apply zU;omega)|(apply zP;omega;intros)|(apply zQ;omega;intros)|apply zR);cbv))
     refine .one cc rfl rfl ?_
     cbv
     (repeat'((first|(apply zS;kernel_rfl)|(apply zD;decide +kernel)|(apply zE;decide +kernel)|(apply zF;decide +kernel)|(apply zL;decide +kernel)|(apply zM;decide +kernel)|(apply zN;intros)|(apply zO;intros)|(apply zT;omega)|(apply zU;omega)|(apply zP;omega;intros)|(apply zQ;omega;intros)|apply zR);cbv))
     refine .one ca rfl rfl ?_
     cbv
     (repeat'((first|(apply zS;kernel_rfl)|(apply zD;decide +kernel)|(apply zE;decide +kernel)|(apply zF;decide +kernel)|(apply zL;decide +kernel)|(apply zM;decide +kernel)|(apply zN;intros)|(apply zO;intros)|(apply zT;omega)|(apply zU;omega)|(apply zP;omega;intros)|(apply zQ;omega;intros)|apply zR);cbv))
     refine IdxK.intro (by decide) h4 ?_
     cbv
     (repeat'((first|(apply zS;kernel_rfl)|(apply zD;decide +kernel)|(apply zE;decide +kernel)|(apply zF;decide +kernel)|(apply zL;decide +kernel)|(apply zM;decide +kernel)|(apply zN;intros)|(apply zO;intros)|(apply zT;omega)|(apply zU;omega)|(apply zP;omega;intros)|(apply zQ;omega;intros)|apply zR);cbv))
     refine .one cA rfl rfl ?_
     cbv
     (repeat'((first|(apply zS;kernel_rfl)|(apply zD;decide +kernel)|(apply zE;decide +kernel)|(apply zF;decide +kernel)|(apply zL;decide +kernel)|(apply zM;decide +kernel)|(apply zN;intros)|(apply zO;intros)|(apply zT;omega)|(apply zU;omega)|(apply zP;omega;intros)|(apply zQ;omega;intros)|apply zR);cbv))
     exact ⟨hQ _⟩
theorem deep_law (n : Int) (b : Bool) (hn : 0 ≤ n ∧ n ≤ 255) : CP (TT ()) 6 [.raw (.int .u8 n),.raw (.bool b)] (· = .raw (.bool true)) := runV fun Q hQ => deep_run n b hn Q hQ
end Go.Proofs.YtkoabcncdjmoeaaGreatDoor
namespace Go.Proofs.YtkoabcncdjmoeaaGreatDoor.rddP
open Go.ChangeShapes Go.WideShapes Go.ChangeAt Go.RowKit Go.Proofs.YtkoabcncdjmoeaaGreatDoor Pv
theorem kinds : Kinds Tryz.prog (fun t => t = 5 ∨ t = 4) where
 ok := by
  rintro t (rfl | rfl)
  ·rw [Tryz.underlying5];show Tryz.prog.cellsOf _ = 1;kernel_rfl
  ·rw [Tryz.underlying4];show Tryz.prog.cellsOf _ = 1;kernel_rfl
theorem lifted (os : Os) (started : os.Started) (H : Type) (enc : TypeId × Value -> H) :
  ReturnsInHanded {} Tryz.checked os 6 .any (fun w args => (Rows.tyreadDeepSpec.pre enc Tryz.prog Tryz.f6 [] false w args ∧ laidMetH Tryz.prog laidList w) ∧ sizedMet enc Tryz.prog Tryz.f6 (OpenSpec.ofChange Rows.tyreadDeepSpec) false w args)
   (Rows.tyreadDeepSpec.post enc Tryz.prog Tryz.f6 false true false false) := by
 refine returnsInHanded_of_change_and (C := Tryz.checked) (X := fun w _ => laidMetH Tryz.prog laidList w) (fun _ _ _ hh h => h.of_heap hh) own started (by kernel_rfl) Tryz.func6
  (ChangeSpec.witness_at (enc := enc) (C := Tryz.checked) (os := os) (X := fun w _ => laidMetH Tryz.prog laidList w) false (laidWorld os) #[.int .u8 0,.bool false] 8 rfl (by kernel_rfl) (by kernel_rfl) (by kernel_rfl) (by kernel_rfl) (by kernel_rfl) (laidWorld_met os _)) ?_
 intro W base args ds gs before hval0 hW _ _ hL _
 have hval : ∀ (j : Nat) t v,Tryz.f6.params[j]? = some t -> args[j]? = some v -> Value.okWide Tryz.prog W .any base t v := hval0
 have hW' := hW
 have hend : ∀ W',Below W.heap.size W W' -> Rows.tyreadDeepSpec.post enc Tryz.prog Tryz.f6 false true false false W args (.bool true) W' := fun W' hb =>
  law_post (bt := 4) laid hW' rfl rfl Tryz.underlying4 (by rw [show Tryz.f6.params = _ from Tryz.params6];intro t ht;simp at ht;rcases ht with rfl | rfl <;> exact ⟨by kernel_rfl,of_decide_eq_true (by kernel_rfl)⟩)
   (by rw [show Tryz.f6.params = _ from Tryz.params6];intro l hl;match l,hl with | [_,_],_ => rfl) hb
 obtain ⟨p,q,hA0,hV,hpq,_,_⟩ := hW
 have hA : DataW.TrodAll enc Tryz.prog W 0 (fun _ => true) true Tryz.f6.params.toList args.toList ds p := hA0
 rw [Tryz.params6] at hA hval
 obtain ⟨v0,vs0,d0,ds0,p0,q0,hargs,rfl,rfl,h0,r0⟩ := trodAll_cons hA
 obtain ⟨v1,vs1,d1,ds1,p1,q1,rfl,rfl,rfl,h1,r1⟩ := trodAll_cons r0
 obtain ⟨rfl,rfl,rfl⟩ := trodAll_nil r1
 obtain rfl : args = #[v0,v1] := by cases args;simp_all
 obtain ⟨n0,x0,g0,k0⟩ := param_has kinds (by simp) (hval 0 5 _ rfl rfl) h0
 obtain ⟨n,rfl,hi_n⟩ := g0.int Tryz.underlying5
 obtain ⟨n1,x1,g1,k1⟩ := param_has kinds (by simp) (hval 1 4 _ rfl rfl) h1
 obtain ⟨b,rfl⟩ := g1.bool Tryz.underlying4
 refine ((deep_law n b (bounds_u8 hi_n)).2 (allS W) W [v0,v1] (okay_laid hL) ⟨_,_,rfl,k0,⟨_,_,rfl,k1,rfl⟩⟩).mono ?_
 rintro e W' ⟨v,S',d,rfl,rfl,hb,_,_,hv⟩
 simp only [Pv.Rd] at hv
 subst hv
 exact ⟨_,rfl,hend W' hb⟩
theorem row_holds : Rows.TyreadDeepSaid :=
 OpenClaim.holds_of_wide 6 Tryz.f6 rfl rfl rfl rfl rfl rfl rfl ⟨rfl,rfl,rfl,rfl,rfl⟩ rfl rfl rfl rfl rfl (by kernel_rfl) Tryz.func6 (by kernel_rfl)
  (of_decide_eq_true (by kernel_rfl)) (by unfold Func.isWrapper;first | (rw [if_pos (by decide +kernel)];kernel_rfl) | (rw [if_neg (by decide +kernel)];exact ⟨rfl,rfl⟩))
  (fun os started H enc _ => lifted os started H enc)
theorem holds : Rows.TyreadDeepCardSaid :=
 Claim7.holds_tied_plain_at .later [] [.data,.data,.data,.handle] true Rows.tyreadDeepCard.stood.harness true
  row_holds (fun _ h => by cases h) (by kernel_rfl) (fun _ h => by cases h) tyreadDeep_row_tie rfl ⟨rfl,rfl⟩ (by kernel_rfl) rfl
  (fun f fn hf hfn => by
   obtain rfl : f = 6 := Option.some.inj ((show Tryz.prog.funcNamed "limbeck/limbecklaw06.TyreadDeep" = some 6 by kernel_rfl).symm.trans hf) |>.symm
   obtain rfl : fn = Tryz.f6 := (Option.some.inj (Tryz.func6.symm.trans hfn)).symm
   exact ⟨by kernel_rfl,fun j t ht => by
    have hm : t ∈ Tryz.f6.params.toList := by
     have := (Array.getElem?_eq_some_iff.1 ht)
     obtain ⟨h1,h2⟩ := this
     rw [← h2];simp
    rw [show Tryz.f6.params = _ from Tryz.params6] at hm
    simp at hm
    rcases hm with rfl | rfl <;> (refine (show Tryz.prog.wantsStandIn _ = false from ?_);kernel_rfl)⟩)
  (by kernel_rfl)
end Go.Proofs.YtkoabcncdjmoeaaGreatDoor.rddP
