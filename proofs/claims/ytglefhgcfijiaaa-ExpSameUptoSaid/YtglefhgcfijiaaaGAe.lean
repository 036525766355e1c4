/- Parts of the proof: TyD, Asd, TyP, PwT, PwR, PwY, TyN, TyU, Low, Math. -/
import Derived.WalkKit
import Derived.ProofKit
import Derived.OpenShut
import Derived.Below
import Derived.Deep.Slices
import Derived.Deep.Fields
import Derived.Deep.Strs
import Derived.ChangeSame
import Derived.Lib.SmallJoins
import Derived.Test.YtglefhgcfijiaaaRows
import Derived.Handy
import Derived.Lib.Hide
import Derived.KernelRfl
import Derived.ChangeArms
import Derived.WideShapes
import Derived.BigQuiet
import Derived.Deep.QuietTactic
import Derived.Laws.RangeAny
import Derived.Lib.OthersKept
import Derived.Lib.QuietBelow
import Derived.Test.YtglefhgcfijiaaaGAd
set_option linter.unusedSimpArgs false
set_option linter.unusedVariables false
set_option maxRecDepth 1000000
set_option maxHeartbeats 40000000
namespace Go.Proofs.Ytglefhgcfijiaaa
open Go.ChangeShapes Go.WideShapes Go.RowKit Go.Deep
inductive Ty5 where
  | mk (k n : Int) (nm : ByteArray) (ls : List ByteArray) (ks : List Ty5)
def stAt (ss : List ByteArray) (j : Nat) : ByteArray := ss.getD j ByteArray.empty
theorem stAt_get {ss : List ByteArray} {j : Nat} (h : j < ss.length) : stAt ss j = ss[j] := by
 unfold stAt
 rw [List.getD_eq_getElem?_getD,List.getElem?_eq_getElem h]
 try rfl
def StrsAt (w : World) (v : Value) (ss : List ByteArray) : Prop :=
  (∀ s, s ∈ ss -> s.size ≤ maxLen) ∧ ss.length ≤ maxLen ∧
  ((∃ a cap, v = .slice a 0 cap ∧ ss = []) ∨
   ∃ b off cap, v = .slice (some ⟨b, off, none⟩) ss.length cap ∧ b < w.heap.size ∧ ∀ j, j < ss.length -> w.cell? ⟨b, off + j, none⟩ = some (.string (stAt ss j)))
theorem StrsAt.mono {w w' : World} {v : Value} {ss : List ByteArray} (h : StrsAt w v ss) (hb : Below w.heap.size w w') : StrsAt w' v ss := by
 obtain ⟨h1,h2,h3⟩ := h
 refine ⟨h1,h2,?_⟩
 rcases h3 with h3 | ⟨b,off,cap,rfl,hlt,hc⟩
 ·exact .inl h3
 ·exact .inr ⟨b,off,cap,rfl,Nat.lt_of_lt_of_le hlt hb.size,fun j hj => (hb.cell (p := ⟨b,off + j,none⟩) hlt).trans (hc j hj)⟩
mutual
def TyIn (w : World) : Ty5 -> Value -> Value -> Value -> Value -> Value -> Prop
 | .mk k n nm ls ks,v0,v1,v2,v3,v4 =>
  v0 = .int .i64 k ∧ v1 = .int .i64 n ∧ (v2 = .string nm ∧ nm.size ≤ maxLen) ∧ StrsAt w v3 ls ∧ ks.length ≤ maxLen ∧
   ((∃ a cap,v4 = .slice a 0 cap ∧ ks = []) ∨ ∃ b off cap,v4 = .slice (some ⟨b,off,none⟩) ks.length cap ∧ RowIn w b off ks)
def RowIn (w : World) : Nat -> Nat -> List Ty5 -> Prop
 | _,_,[] => True
 | b,off,t :: r => (∃ v0 v1 v2 v3 v4,w.cell? ⟨b,off,none⟩ = some v0 ∧ w.cell? ⟨b,off + 1,none⟩ = some v1 ∧ w.cell? ⟨b,off + 2,none⟩ = some v2 ∧ w.cell? ⟨b,off + 3,none⟩ = some v3 ∧ w.cell? ⟨b,off + 4,none⟩ = some v4 ∧ TyIn w t v0 v1 v2 v3 v4) ∧ RowIn w b (off + 5) r
end
mutual
theorem TyIn.mono {w w' : World} (hb : Below w.heap.size w w') : ∀ {t : Ty5} {v0 v1 v2 v3 v4 : Value},TyIn w t v0 v1 v2 v3 v4 -> TyIn w' t v0 v1 v2 v3 v4
 | .mk k n nm ls ks,v0,v1,v2,v3,v4,h => by
  obtain ⟨h0,h1,h2,h3,h4,h5⟩ := h
  refine ⟨h0,h1,h2,h3.mono hb,h4,?_⟩
  rcases h5 with h5 | ⟨b,off,cap,h6,h7⟩
  ·exact .inl h5
  ·exact .inr ⟨b,off,cap,h6,RowIn.mono hb h7⟩
theorem RowIn.mono {w w' : World} (hb : Below w.heap.size w w') : ∀ {b off : Nat} {ks : List Ty5},RowIn w b off ks -> RowIn w' b off ks
 | _,_,[],_ => trivial
 | b,off,t :: r,h => by
  obtain ⟨⟨v0,v1,v2,v3,v4,c0,c1,c2,c3,c4,ht⟩,hr⟩ := h
  have k : ∀ {a : Addr} {v : Value},w.cell? a = some v -> w'.cell? a = some v := fun {a v} hc => by
   rw [← hc]
   exact hb.cell (Nat.lt_of_not_le fun hn => by simp [World.cell?,Array.getElem?_eq_none hn] at hc)
  exact ⟨⟨v0,v1,v2,v3,v4,k c0,k c1,k c2,k c3,k c4,TyIn.mono hb ht⟩,RowIn.mono hb hr⟩
end
theorem RowIn.get {w : World} : ∀ {b off : Nat} {ks : List Ty5} {j : Nat} (hj : j < ks.length),RowIn w b off ks ->
  ∃ v0 v1 v2 v3 v4,w.cell? ⟨b,off + j * 5,none⟩ = some v0 ∧ w.cell? ⟨b,off + j * 5 + 1,none⟩ = some v1 ∧ w.cell? ⟨b,off + j * 5 + 2,none⟩ = some v2 ∧ w.cell? ⟨b,off + j * 5 + 3,none⟩ = some v3 ∧ w.cell? ⟨b,off + j * 5 + 4,none⟩ = some v4 ∧ TyIn w ks[j] v0 v1 v2 v3 v4
 | b,off,t :: r,0,_,h => by
  obtain ⟨v0,v1,v2,v3,v4,h⟩ := h.1
  exact ⟨v0,v1,v2,v3,v4,by simpa using h⟩
 | b,off,t :: r,j + 1,hj,h => by
  have := RowIn.get (j := j) (by simpa using hj) h.2
  obtain ⟨v0,v1,v2,v3,v4,h⟩ := this
  refine ⟨v0,v1,v2,v3,v4,?_⟩
  have e : off + 5 + j * 5 = off + (j + 1) * 5 := by omega
  rw [e] at h
  exact h
mutual
def szT : Ty5 -> Nat
 | .mk _ _ nm ls ks => 1 + nm.size + szS ls + szL ks
def szL : List Ty5 -> Nat
 | [] => 0
 | t :: r => szT t + szL r
def szS : List ByteArray -> Nat
 | [] => 0
 | s :: r => s.size + 1 + szS r
end
section
variable {H : Type} {enc : TypeId × Value -> H} {P : Program} {w : World} {base : Nat} {spare : Nat -> Bool} {held : Bool}
theorem addPlain (b off i : Nat) : (⟨b,off,none⟩ : Addr).add i = ⟨b,off + i,none⟩ := by
 unfold Addr.add
 by_cases h : i = 0 <;> simp [h]
end
structure Asd (p : Prop) : Prop where
 out : p
open Go.RowKit
theorem retB {a b : Bool} (h : a = b) : Ending.returned (.bool a) = .returned (.bool b) := by rw [h]
theorem retI {k : IntKind} {a b : Int} (h : a = b) : Ending.returned (.int k a) = .returned (.int k b) := by rw [h]
def Ty5.k : Ty5 -> Int | .mk k _ _ _ _ => k
def ty0 : Ty5 := .mk 0 0 ByteArray.empty [] []
def kAt (ks : List Ty5) (j : Nat) : Ty5 := ks.getD j ty0
theorem kAt_get {ks : List Ty5} {j : Nat} (h : j < ks.length) : kAt ks j = ks[j] := by
 unfold kAt
 rw [List.getD_eq_getElem?_getD,List.getElem?_eq_getElem h]
 try rfl
theorem kAt_mem {ks : List Ty5} {j : Nat} (h : j < ks.length) : kAt ks j ∈ ks := by
 rw [kAt_get h]
 exact List.getElem_mem h
theorem take_kAt {ks : List Ty5} {j : Nat} (h : j < ks.length) : ks.take (j + 1) = ks.take j ++ [kAt ks j] := by
 rw [kAt_get h,List.take_succ_eq_append_getElem h]
theorem szT_pos (t : Ty5) : 0 < szT t := by
 cases t
 simp only [szT]
 omega
theorem szL_mem : ∀ {ks : List Ty5} {t : Ty5},t ∈ ks -> szT t ≤ szL ks
 | [],_,h => by simp at h
 | x :: r,t,h => by
  simp only [szL]
  rcases List.mem_cons.1 h with rfl | h
  ·omega
  ·have := szL_mem h
   omega
theorem szT_kid {k n : Int} {nm : ByteArray} {ls : List ByteArray} {ks : List Ty5} {j : Nat} (h : j < ks.length) : szT (kAt ks j) < szT (.mk k n nm ls ks) := by
 have := szL_mem (kAt_mem h)
 simp only [szT]
 omega
mutual
def nodesT : Ty5 -> Nat
 | .mk _ _ _ _ ks => 1 + nodesL ks
def nodesL : List Ty5 -> Nat
 | [] => 0
 | t :: r => nodesT t + nodesL r
end
theorem nodesL_app : ∀ a b : List Ty5,nodesL (a ++ b) = nodesL a + nodesL b
 | [],b => by simp [nodesL]
 | t :: r,b => by
  rw [List.cons_append]
  simp only [nodesL]
  rw [nodesL_app r b]
  omega
theorem nodesL_step {ks : List Ty5} {j : Nat} (h : j < ks.length) : nodesL (ks.take (j + 1)) = nodesL (ks.take j) + nodesT (kAt ks j) := by
 rw [take_kAt h,nodesL_app]
 simp [nodesL]
theorem nodesL_le (ks : List Ty5) (j : Nat) : nodesL (ks.take j) ≤ nodesL ks := by
 have := nodesL_app (ks.take j) (ks.drop j)
 rw [List.take_append_drop] at this
 omega
mutual
def depthT : Ty5 -> Nat
 | .mk _ _ _ _ ks => depthL ks + 1
def depthL : List Ty5 -> Nat
 | [] => 0
 | t :: r => max (depthT t) (depthL r)
end
theorem depthL_app : ∀ a b : List Ty5,depthL (a ++ b) = max (depthL a) (depthL b)
 | [],b => by simp [depthL]
 | t :: r,b => by
  rw [List.cons_append]
  simp only [depthL]
  rw [depthL_app r b]
  omega
theorem depthL_step {ks : List Ty5} {j : Nat} (h : j < ks.length) : depthL (ks.take (j + 1)) = max (depthL (ks.take j)) (depthT (kAt ks j)) := by
 rw [take_kAt h,depthL_app]
 simp [depthL]
mutual
theorem depth_nodes : ∀ t : Ty5,depthT t ≤ nodesT t
 | .mk _ _ _ _ ks => by
  have := depthL_nodes ks
  simp only [depthT,nodesT]
  omega
theorem depthL_nodes : ∀ ks : List Ty5,depthL ks ≤ nodesL ks
 | [] => Nat.le_refl _
 | t :: r => by
  have h1 := depth_nodes t
  have h2 := depthL_nodes r
  simp only [depthL,nodesL]
  omega
end
mutual
def hasT (kd : Int) : Ty5 -> Bool
 | .mk k _ _ _ ks => k == kd || hasL kd ks
def hasL (kd : Int) : List Ty5 -> Bool
 | [] => false
 | t :: r => hasT kd t || hasL kd r
end
theorem hasL_of {kd : Int} : ∀ {ks : List Ty5} {t : Ty5},t ∈ ks -> hasT kd t = true -> hasL kd ks = true
 | [],_,h,_ => by simp at h
 | x :: r,t,h,ht => by
  simp only [hasL]
  rcases List.mem_cons.1 h with rfl | h
  ·rw [ht,Bool.true_or]
  ·rw [hasL_of h ht,Bool.or_true]
theorem hasL_none {kd : Int} : ∀ {ks : List Ty5},(∀ j,j < ks.length -> hasT kd (kAt ks j) = false) -> hasL kd ks = false
 | [],_ => rfl
 | x :: r,h => by
  simp only [hasL]
  rw [show hasT kd x = false from h 0 (Nat.zero_lt_succ _),hasL_none fun j hj => h (j + 1) (Nat.succ_lt_succ hj)]
  try rfl
def eqS (a b : ByteArray) : Bool := a.toList == b.toList
theorem eqS_iff {a b : ByteArray} : eqS a b = true ↔ a = b := by
 unfold eqS
 rw [beq_iff_eq,ByteArray.toList_eq,ByteArray.toList_eq]
 constructor
 ·intro h
  exact ByteArray.ext (Array.toList_inj.1 h)
 ·rintro rfl
  rfl
def eqL : List ByteArray -> List ByteArray -> Bool
 | [],[] => true
 | a :: r,b :: q => eqS a b && eqL r q
 | [],_ :: _ => false
 | _ :: _,[] => false
theorem eqL_eq : ∀ {a b : List ByteArray},eqL a b = true -> a = b
 | [],[],_ => rfl
 | a :: r,b :: q,h => by
  simp only [eqL,Bool.and_eq_true] at h
  rw [eqS_iff.1 h.1,eqL_eq h.2]
 | [],_ :: _,h => by simp [eqL] at h
 | _ :: _,[],h => by simp [eqL] at h
theorem eqL_refl : ∀ a : List ByteArray,eqL a a = true
 | [] => rfl
 | a :: r => by
  simp only [eqL,Bool.and_eq_true]
  exact ⟨eqS_iff.2 rfl,eqL_refl r⟩
theorem eqL_len : ∀ {a b : List ByteArray},a.length ≠ b.length -> eqL a b = false
 | [],[],h => absurd rfl h
 | t :: r,t' :: r',h => by
  simp only [eqL]
  rw [eqL_len (a := r) (b := r') fun e => h (by simp [e]),Bool.and_false]
 | [],_ :: _,_ => rfl
 | _ :: _,[],_ => rfl
theorem eqL_differ {a b : List ByteArray} {j : Nat} (h : eqS (stAt a j) (stAt b j) = false) : eqL a b = false := by
 rcases hq : eqL a b with _ | _
 ·rfl
 ·rw [eqL_eq hq,eqS_iff.2 rfl] at h
  cases h
theorem eqL_all : ∀ {a b : List ByteArray},a.length = b.length -> (∀ j,j < a.length -> eqS (stAt a j) (stAt b j) = true) -> eqL a b = true
 | [],[],_,_ => rfl
 | t :: r,t' :: r',h,hj => by
  simp only [eqL,Bool.and_eq_true]
  exact ⟨hj 0 (Nat.zero_lt_succ _),eqL_all (by simpa using h) fun j hl => hj (j + 1) (Nat.succ_lt_succ hl)⟩
 | [],_ :: _,h,_ => by simp at h
 | _ :: _,[],h,_ => by simp at h
mutual
def sameT : Ty5 -> Ty5 -> Bool
 | .mk k n nm ls ks,.mk k' n' nm' ls' ks' => k == k' && (n == n' && (eqS nm nm' && (eqL ls ls' && sameL ks ks')))
def sameL : List Ty5 -> List Ty5 -> Bool
 | [],[] => true
 | t :: r,t' :: r' => sameT t t' && sameL r r'
 | [],_ :: _ => false
 | _ :: _,[] => false
end
mutual
theorem same_eq : ∀ {a b : Ty5},sameT a b = true -> a = b
 | .mk k n nm ls ks,.mk k' n' nm' ls' ks',h => by
  simp only [sameT,Bool.and_eq_true,beq_iff_eq] at h
  obtain ⟨rfl,rfl,h1,h2,h⟩ := h
  rw [eqS_iff.1 h1,eqL_eq h2,sameL_eq h]
theorem sameL_eq : ∀ {a b : List Ty5},sameL a b = true -> a = b
 | [],[],_ => rfl
 | t :: r,t' :: r',h => by
  simp only [sameL,Bool.and_eq_true] at h
  rw [same_eq h.1,sameL_eq h.2]
 | [],_ :: _,h => by simp [sameL] at h
 | _ :: _,[],h => by simp [sameL] at h
end
mutual
theorem same_refl : ∀ a : Ty5,sameT a a = true
 | .mk k n nm ls ks => by
  simp only [sameT,Bool.and_eq_true,beq_self_eq_true,true_and]
  exact ⟨eqS_iff.2 rfl,eqL_refl ls,sameL_refl ks⟩
theorem sameL_refl : ∀ a : List Ty5,sameL a a = true
 | [] => rfl
 | t :: r => by
  simp only [sameL,Bool.and_eq_true]
  exact ⟨same_refl t,sameL_refl r⟩
end
theorem sameL_len : ∀ {a b : List Ty5},a.length ≠ b.length -> sameL a b = false
 | [],[],h => absurd rfl h
 | t :: r,t' :: r',h => by
  simp only [sameL]
  rw [sameL_len (a := r) (b := r') fun e => h (by simp [e]),Bool.and_false]
 | [],_ :: _,_ => rfl
 | _ :: _,[],_ => rfl
theorem sameL_differ {a b : List Ty5} {j : Nat} (ha : j < a.length) (hb : j < b.length) (h : sameT (kAt a j) (kAt b j) = false) : sameL a b = false := by
 rcases hq : sameL a b with _ | _
 ·rfl
 ·rw [sameL_eq hq,same_refl] at h
  cases h
theorem sameL_all : ∀ {a b : List Ty5},a.length = b.length -> (∀ j,j < a.length -> sameT (kAt a j) (kAt b j) = true) -> sameL a b = true
 | [],[],_,_ => rfl
 | t :: r,t' :: r',h,hj => by
  simp only [sameL,Bool.and_eq_true]
  exact ⟨hj 0 (Nat.zero_lt_succ _),sameL_all (by simpa using h) fun j hl => hj (j + 1) (Nat.succ_lt_succ hl)⟩
 | [],_ :: _,h,_ => by simp at h
 | _ :: _,[],h,_ => by simp at h
theorem RowIn.at {w : World} {b off : Nat} {ks : List Ty5} {j : Nat} (h : RowIn w b off ks) (hj : j < ks.length) :
  ∃ v0 v1 v2 v3 v4,w.cell? ⟨b,off + j * 5,none⟩ = some v0 ∧ w.cell? ⟨b,off + j * 5 + 1,none⟩ = some v1 ∧ w.cell? ⟨b,off + j * 5 + 2,none⟩ = some v2 ∧ w.cell? ⟨b,off + j * 5 + 3,none⟩ = some v3 ∧ w.cell? ⟨b,off + j * 5 + 4,none⟩ = some v4 ∧ TyIn w (kAt ks j) v0 v1 v2 v3 v4 := by
 rw [kAt_get hj]
 exact h.get hj
open Go.RowKit Pv
noncomputable def TT : TP := fun _ => Try.prog
def strD (s : ByteArray) : D := .raw (.string s)
mutual
def tyD : Ty5 -> D
 | .mk k n nm ls ks => .agg [.raw (.int .i64 k),.raw (.int .i64 n),.raw (.string nm),.sl none 1 (ls.map strD),.sl none 5 (tysD ks)]
def tysD : List Ty5 -> List D
 | [] => []
 | t :: r => tyD t :: tysD r
end
theorem tysD_map : ∀ ks : List Ty5,tysD ks = ks.map tyD
 | [] => rfl
 | t :: r => by simp [tysD,tysD_map r]
theorem strs_pure : ∀ ls : List ByteArray,pureL (ls.map strD) = some (ls.map strD)
 | [] => rfl
 | s :: r => by
  have := strs_pure r
  simp only [List.map_cons,pureL,this]
  try rfl
mutual
theorem ty_pure : ∀ t : Ty5,pureD (tyD t) = some (tyD t)
 | .mk k n nm ls ks => by
  simp [tyD,pureD,pureL,strs_pure ls,tys_pure ks]
theorem tys_pure : ∀ ks : List Ty5,pureL (tysD ks) = some (tysD ks)
 | [] => rfl
 | t :: r => by simp [tysD,pureL,ty_pure t,tys_pure r]
end
theorem cons_pure {d : D} {r : List D} (h1 : pureD d = some d) (h2 : pureL r = some r) : pureL (d :: r) = some (d :: r) := by simp only [pureL,h1,h2]
theorem tup_pure {ds : List D} (h : pureL ds = some ds) : pureD (.tup ds) = some (.tup ds) := by simp only [pureD,h,Option.map_some]
mutual
theorem pure_idb (m : Nat) : ∀ d : D,pureD d = some d -> idb m d = true
 | .any,e => by cases e
 | .raw _,_ => rfl
 | .sln _,_ => rfl
 | .agg ds,e => by
  simp only [pureD,Option.map_eq_some_iff] at e
  obtain ⟨es,h1,h2⟩ := e
  cases h2
  exact pure_idbL m ds h1
 | .tup ds,e => by
  simp only [pureD,Option.map_eq_some_iff] at e
  obtain ⟨es,h1,h2⟩ := e
  cases h2
  exact pure_idbL m ds h1
 | .sl tag sz ds,e => by
  simp only [pureD,Option.map_eq_some_iff] at e
  obtain ⟨es,h1,h2⟩ := e
  cases h2
  simp [idb,pure_idbL m ds h1]
 | .bx _ _,e => by cases e
 | .ms _ _ _,e => by cases e
 | .mp _ _ _ _,e => by cases e
 | .pe d off,e => by
  simp only [pureD,Option.map_eq_some_iff] at e
  obtain ⟨es,h1,h2⟩ := e
  cases h2
  exact pure_idb m d h1
 | .fn g a b,e => by
  simp only [pureD] at e
  split at e
  ·rename_i a' b' h1 h2
   cases e
   simp [idb,pure_idbL m a h1,pure_idbL m b h2]
  ·cases e
 | .ifc t d,e => by
  simp only [pureD,Option.map_eq_some_iff] at e
  obtain ⟨es,h1,h2⟩ := e
  cases h2
  exact pure_idb m d h1
theorem pure_idbL (m : Nat) : ∀ ds : List D,pureL ds = some ds -> idbL m ds = true
 | [],_ => rfl
 | d :: ds,e => by
  simp only [pureL] at e
  split at e
  ·rename_i d' ds' h1 h2
   cases e
   simp [idbL,pure_idb m d h1,pure_idbL m ds h2]
  ·cases e
end
def okT : Ty5 -> Prop
 | .mk _ _ nm ls ks => nm.size ≤ maxLen ∧ (∀ s ∈ ls,s.size ≤ maxLen) ∧ okL ks
where okL : List Ty5 -> Prop
 | [] => True
 | t :: r => okT t ∧ okL r
theorem okL_get : ∀ {ks : List Ty5},okT.okL ks -> ∀ t ∈ ks,okT t
 | [],_,t,h => by cases h
 | a :: r,h,t,ht => by
  rcases List.mem_cons.1 ht with rfl | ht
  ·exact h.1
  ·exact okL_get h.2 t ht
section
variable {C : Cx} {w : World}
theorem strs_in {ls : List ByteArray} {v : Value} (h : Rd C w (.sl none 1 (ls.map strD)) v) (hs : ∀ s ∈ ls,s.size ≤ maxLen) : StrsAt w v ls := by
 obtain ⟨⟨a,cap,rfl,hc1,hc2⟩,hx,_⟩ := h
 simp only [List.length_map] at *
 refine ⟨hs,by omega,?_⟩
 by_cases h0 : 0 < ls.length
 ·obtain ⟨b,off,cap',hv,_,hr⟩ := hx h0
  simp at hv
  obtain ⟨rfl,rfl⟩ := hv
  have hcell : ∀ j,j < ls.length -> w.cell? ⟨b,off + j,none⟩ = some (.string (stAt ls j)) := fun j hj => by
   obtain ⟨u,k1,k2,_,k4⟩ := hr.get (i := j) (d := strD (stAt ls j)) (by rw [List.getElem?_map,List.getElem?_eq_getElem hj,stAt_get hj];rfl)
   simp only [strD,Rd] at k1
   subst k1
   have := k4 0 (by simp [Value.cells])
   simpa [Value.cells] using this
  exact .inr ⟨b,off,cap,rfl,World.block_lt_of_cell? w _ (hcell 0 (by omega)),hcell⟩
 ·have : ls = [] := List.eq_nil_of_length_eq_zero (by omega)
  subst this
  exact .inl ⟨a,cap,rfl,rfl⟩
mutual
theorem ty_in : ∀ (t : Ty5) {v : Value},okT t -> Rd C w (tyD t) v -> ∃ v0 v1 v2 v3 v4,v = .agg #[v0,v1,v2,v3,v4] ∧ TyIn w t v0 v1 v2 v3 v4
 | .mk k n nm ls ks,v,ho,h => by
  obtain ⟨vs,rfl,u0,r0,rfl,q0,u1,r1,rfl,q1,u2,r2,rfl,q2,u3,r3,rfl,q3,u4,r4,rfl,q4,q5⟩ := h
  simp only [RdL] at q5
  subst q5
  simp only [Rd] at q0 q1 q2
  subst q0 q1 q2
  refine ⟨_,_,_,_,_,rfl,rfl,rfl,⟨rfl,ho.1⟩,strs_in q3 ho.2.1,?_⟩
  obtain ⟨⟨a,cap,rfl,hc1,hc2⟩,hx,_⟩ := q4
  have hl : (tysD ks).length = ks.length := by simp [tysD_map]
  rw [hl] at hc1 hx ⊢
  refine ⟨by omega,?_⟩
  by_cases h0 : 0 < ks.length
  ·obtain ⟨b,off,cap',hv,_,hr⟩ := hx h0
   simp at hv
   obtain ⟨rfl,rfl⟩ := hv
   exact .inr ⟨b,off,cap,rfl,tys_in ks b off ho.2.2 hr⟩
  ·have : ks = [] := List.eq_nil_of_length_eq_zero (by omega)
   subst this
   exact .inl ⟨a,cap,rfl,rfl⟩
theorem tys_in : ∀ (ks : List Ty5) (b off : Nat),okT.okL ks -> RdE C w 5 (tysD ks) (fun i => w.cell? ⟨b,off + i,none⟩) -> RowIn w b off ks
 | [],_,_,_,_ => trivial
 | t :: r,b,off,ho,⟨⟨u,k1,k2,_,k4⟩,hr⟩ => by
  obtain ⟨v0,v1,v2,v3,v4,rfl,hT⟩ := ty_in t ho.1 k1
  refine ⟨⟨v0,v1,v2,v3,v4,?_,?_,?_,?_,?_,hT⟩,tys_in r b (off + 5) ho.2 (by simpa only [Nat.add_assoc] using hr)⟩
  ·simpa [Value.cells] using k4 0 (by simp [Value.cells])
  ·simpa [Value.cells] using k4 1 (by simp [Value.cells])
  ·simpa [Value.cells] using k4 2 (by simp [Value.cells])
  ·simpa [Value.cells] using k4 3 (by simp [Value.cells])
  ·simpa [Value.cells] using k4 4 (by simp [Value.cells])
end
end
def allS (w : World) : Nat -> Nat -> Prop := fun b _ => b < w.heap.size
theorem cp_raw {P : Program} {k : FuncId} {ds : List D} {u : Value} (hc : Callable P k) (h : ∀ (S : Nat -> Nat -> Prop) (w : World) (args : List Value),RdL (bare S) w ds args -> Calls P k args.toArray w fun e w' => e = .returned u ∧ Below w.heap.size w w') : CP P k ds (· = .raw u) := by
 refine ⟨hc,fun S w args hS r => (h S w args r).mono ?_⟩
 rintro e w' ⟨rfl,hb⟩
 exact ⟨u,S,.raw u,rfl,rfl,hb,fun _ _ h => h,fun b o hs => ⟨Nat.lt_of_lt_of_le (hS b o hs) hb.size,fun _ => hs⟩,rfl⟩
theorem callable_at {k : FuncId} {fn : Func} {c : Code} (hf : Try.prog.funcs[k]? = some fn) (hn : (fn.name == "runtime.NumGoroutine") = false) (hb : fn.body = some c) : Callable Try.prog k := ⟨fn, c, hf, hn, hb⟩
theorem rdL_one {C : Cx} {w : World} {d : D} {args : List Value} (r : RdL C w [d] args) : ∃ v,args = [v] ∧ Rd C w d v := by
 obtain ⟨v,rest,rfl,h1,h2⟩ := r
 simp only [RdL] at h2
 subst h2
 exact ⟨v,rfl,h1⟩
theorem rdL_two {C : Cx} {w : World} {d d' : D} {args : List Value} (r : RdL C w [d,d'] args) : ∃ v v',args = [v,v'] ∧ Rd C w d v ∧ Rd C w d' v' := by
 obtain ⟨v,rest,rfl,h1,h2⟩ := r
 obtain ⟨v',rfl,h3⟩ := rdL_one h2
 exact ⟨v,v',rfl,h1,h3⟩
end Go.Proofs.Ytglefhgcfijiaaa
namespace Go.Proofs.Ytglefhgcfijiaaa.Pv
open Go Go.RowKit Go.WideShapes
def leavesD : D -> List D
 | .agg ds => ds
 | d => [d]
mutual
def bulkD : D -> Nat
 | .raw (.string s) => s.size + 1
 | .sl _ _ ds => bulkL ds + 1
 | .agg ds => bulkL ds + 1
 | _ => 0
def bulkL : List D -> Nat
 | [] => 0
 | d :: r => bulkD d + bulkL r
end
theorem bulkL_app : ∀ a b : List D,bulkL (a ++ b) = bulkL a + bulkL b
 | [],b => by simp [bulkL]
 | d :: r,b => by simp only [List.cons_append,bulkL,bulkL_app r b];omega
theorem bulk_one (e : D) : bulkL [e] = bulkD e := by simp only [bulkL,Nat.add_zero]
theorem bulk_leaves (d : D) : bulkL (leavesD d) ≤ bulkD d := by
 cases d with
 | agg ds =>
  have h : bulkD (.agg ds) = bulkL ds + 1 := by simp only [bulkD]
  rw [h]
  exact Nat.le_succ _
 | _ => exact Nat.le_of_eq (bulk_one _)
theorem bulkL_pt {H : Type} : ∀ (ds : List D) (es : List (DataW H)),ds.length = es.length -> (∀ (i : Nat) (d : D) (e : DataW H),ds[i]? = some d -> es[i]? = some e -> bulkD d ≤ Rows.uptoBulk e) -> bulkL ds ≤ Rows.uptoBulkAll es
 | [],_,_,_ => by simp [bulkL]
 | d :: ds,[],h,_ => by simp at h
 | d :: ds,e :: es,h,hp => by
  have h0 := hp 0 d e rfl rfl
  have h1 := bulkL_pt ds es (by simpa using h) fun i d' e' h1 h2 => hp (i + 1) d' e' (by simpa using h1) (by simpa using h2)
  simp only [bulkL,Rows.uptoBulkAll]
  omega
theorem bulk_mem : ∀ {ds : List D} {d : D},d ∈ ds -> bulkD d ≤ bulkL ds
 | x :: r,d,h => by
  simp only [bulkL]
  rcases List.mem_cons.1 h with rfl | h
  ·omega
  ·have := bulk_mem h
   omega
def Has (P : Program) : Nat -> TypeId -> D -> Prop
 | 0,_,_ => False
 | n + 1,t,d => match P.underlying t with
  | some (.int k) => ∃ m,d = .raw (.int k m) ∧ (Lit.int k m).wf = true
  | some .bool => ∃ b,d = .raw (.bool b)
  | some .string => ∃ s : ByteArray,d = .raw (.string s) ∧ s.size ≤ maxLen
  | some (.slice e) => ∃ ds,d = .sl none (P.cellsOf e) ds ∧ ds.length ≤ maxLen ∧ ∀ x ∈ ds,Has P n e x
  | some (.struct fs) => ∃ xs : List D,d = .agg (xs.flatMap leavesD) ∧ xs.length = fs.size ∧ ∀ (i : Nat) (f : Field) (x : D),fs[i]? = some f -> xs[i]? = some x -> Has P n f.type x
  | _ => False
def tiles (P : Program) : Nat -> List Field -> Nat -> Bool
 | off,[],total => off == total
 | off,f :: r,total => f.offset == off && tiles P (off + P.cellsOf f.type) r total
structure Kinds (P : Program) (T : TypeId -> Prop) : Prop where
 ok : ∀ t,T t -> match P.underlying t with
  | some (.int _) | some .bool | some .string => P.cellsOf t = 1
  | some (.slice e) => P.cellsOf t = 1 ∧ T e ∧ 0 < P.cellsOf e
  | some (.struct fs) => tiles P 0 fs.toList (P.cellsOf t) = true ∧ ∀ f ∈ fs.toList,T f.type
  | _ => False
section
variable {P : Program} {T : TypeId -> Prop} {H : Type} {enc : TypeId × Value -> H} {w : World} {base : Nat} {spare : Nat -> Bool} {held : Bool}
theorem parts_rd {C : Cx} {n : Nat} : ∀ (fs : List Field) (zs : List (DataW H)) (cs : List Value) (off total : Nat),cs.length = total -> tiles P off fs total = true -> off ≤ total ->
  (∀ (i : Nat) (f : Field),fs[i]? = some f -> ∃ y,zs[i]? = some y.1 ∧ DataW.trod enc P w base spare held n f.type ((cs.drop f.offset).take (P.cellsOf f.type)) = some y) ->
  (∀ (f : Field),f ∈ fs -> ∀ cs' y,DataW.trod enc P w base spare held n f.type cs' = some y -> ∃ d,Has P n f.type d ∧ RdL C w (leavesD d) cs' ∧ (leavesD d).all leafD = true ∧ bulkD d ≤ Rows.uptoBulk y.1) ->
  ∃ xs : List D,xs.length = fs.length ∧ RdL C w (xs.flatMap leavesD) (cs.drop off) ∧ (xs.flatMap leavesD).all leafD = true ∧ (∀ (i : Nat) (f : Field) (x : D),fs[i]? = some f -> xs[i]? = some x -> Has P n f.type x) ∧ bulkL (xs.flatMap leavesD) ≤ Rows.uptoBulkAll zs
 | [],zs,cs,off,total,hl,ht,hle,_,_ => by
  simp only [tiles,beq_iff_eq] at ht
  exact ⟨[],rfl,by rw [List.drop_eq_nil_of_le (by omega)];rfl,rfl,fun i f x h => by simp at h,by simp [bulkL]⟩
 | f :: r,zs,cs,off,total,hl,ht,hle,hy,hr => by
  simp only [tiles,Bool.and_eq_true,beq_iff_eq] at ht
  obtain ⟨h1,h2⟩ := ht
  obtain ⟨y,hz0,hy0⟩ := hy 0 f rfl
  obtain ⟨zr,rfl⟩ : ∃ zr,zs = y.1 :: zr := by
   cases zs with
   | nil => simp at hz0
   | cons z zr => simp at hz0;exact ⟨zr,by rw [hz0]⟩
  obtain ⟨d,k1,k2,k3,k5⟩ := hr f (List.mem_cons_self ..) _ y hy0
  have hle2 : off + P.cellsOf f.type ≤ total := by
   have : ∀ (l : List Field) (o : Nat),tiles P o l total = true -> o ≤ total := by
    intro l
    induction l with
    | nil => intro o h;simp only [tiles,beq_iff_eq] at h;omega
    | cons g l ih =>
     intro o h
     simp only [tiles,Bool.and_eq_true,beq_iff_eq] at h
     have := ih _ h.2
     omega
   exact this r _ h2
  obtain ⟨xs,j1,j2,j3,j4,j5⟩ := parts_rd (C := C) r zr cs (off + P.cellsOf f.type) total hl h2 hle2 (fun i g hg => hy (i + 1) g (by simpa using hg)) (fun g hg => hr g (List.mem_cons_of_mem _ hg))
  refine ⟨d :: xs,by simp [j1],?_,?_,fun i g x hg hx => ?_,?_⟩
  ·have e : cs.drop off = (cs.drop off).take (P.cellsOf f.type) ++ cs.drop (off + P.cellsOf f.type) := by
    rw [← List.drop_drop,List.take_append_drop]
   rw [e,List.flatMap_cons]
   rw [h1] at k2
   exact k2.app j2
  ·rw [List.flatMap_cons,List.all_append,k3,j3]
   try rfl
  ·cases i with
   | zero =>
    simp at hg hx
    subst hg hx
    exact k1
   | succ i => exact j4 i g x (by simpa using hg) (by simpa using hx)
  ·have := bulk_leaves d
   rw [List.flatMap_cons,bulkL_app]
   simp only [Rows.uptoBulkAll]
   omega
theorem list_of {R : Nat -> D -> Prop} : ∀ (len : Nat),(∀ i,i < len -> ∃ d,R i d) -> ∃ ds : List D,ds.length = len ∧ ∀ (i : Nat) (d : D),ds[i]? = some d -> R i d
 | 0,_ => ⟨[],rfl,fun i d h => by simp at h⟩
 | m + 1,each => by
  obtain ⟨ds,h1,h2⟩ := list_of m fun i hi => each i (by omega)
  obtain ⟨d,h3⟩ := each m (by omega)
  refine ⟨ds ++ [d],by simp [h1],fun i x hx => ?_⟩
  by_cases him : i < ds.length
  ·rw [List.getElem?_append_left him] at hx
   exact h2 i x hx
  ·rw [List.getElem?_append_right (by omega)] at hx
   have h0 : i - ds.length = 0 := by
    have := (List.getElem?_eq_some_iff.1 hx).1
    simp at this
    omega
   rw [h0] at hx
   simp at hx
   subst hx
   have : i = m := by omega
   subst this
   exact h3
theorem trod_hasb (K : Kinds P T) : ∀ (fuel : Nat) (t : TypeId) (cs : List Value) (x : DataW H × List MemPlace),T t -> DataW.trod enc P w base spare held fuel t cs = some x ->
  ∃ d,Has P fuel t d ∧ RdL (bare (allS w)) w (leavesD d) cs ∧ (leavesD d).all leafD = true ∧ bulkD d ≤ Rows.uptoBulk x.1 := by
 intro fuel
 induction fuel with
 | zero => intro t cs x _ h;simp [DataW.trod] at h
 | succ n ih =>
  intro t cs x hT h
  have hk := K.ok t hT
  cases hu : P.underlying t with
  | none => rw [hu] at hk;exact hk.elim
  | some u =>
   rw [hu] at hk
   cases u with
   | int k =>
    obtain ⟨m,rfl,_,hw⟩ := DataW.trod_int hu h
    exact ⟨.raw (.int k m),by simp only [Has,hu];exact ⟨m,rfl,hw⟩,⟨_,_,rfl,rfl,rfl⟩,rfl,Nat.zero_le _⟩
   | bool =>
    obtain ⟨b,rfl,_⟩ := DataW.trod_bool hu h
    exact ⟨.raw (.bool b),by simp only [Has,hu];exact ⟨b,rfl⟩,⟨_,_,rfl,rfl,rfl⟩,rfl,Nat.zero_le _⟩
   | string =>
    obtain ⟨s,rfl,rfl,hs⟩ := DataW.trod_string hu h
    exact ⟨.raw (.string s),by simp only [Has,hu];exact ⟨s,rfl,hs⟩,⟨_,_,rfl,rfl,rfl⟩,rfl,by simp only [bulkD,Rows.uptoBulk];rw [Array.length_toList];exact Nat.le_refl _⟩
   | slice e =>
    simp only at hk
    rcases DataW.trod_slice hu h with ⟨rfl,rfl⟩ | ⟨a,len,cap,elems,rest,n',hn',rfl,rfl,hb,hl,hm,hel,hcell,_,_⟩
    ·exact ⟨.sl none (P.cellsOf e) [],by simp only [Has,hu];exact ⟨[],rfl,Nat.zero_le _,fun x h => by cases h⟩,⟨_,_,rfl,⟨⟨none,0,rfl,Nat.le_refl _,Nat.zero_le _⟩,fun h => absurd h (by simp),fun id e => by cases e⟩,rfl⟩,rfl,by simp [bulkD,bulkL,Rows.uptoBulk]⟩
    ·obtain rfl : n = n' := by omega
     have each : ∀ i,i < len -> ∃ d,Has P n e d ∧ ∃ cs',w.cells? base (a.add (i * P.cellsOf e)) (P.cellsOf e) = some cs' ∧ RdL (bare (allS w)) w (leavesD d) cs' ∧ (leavesD d).all leafD = true ∧ ∀ e,(elems.map (·.1))[i]? = some e -> bulkD d ≤ Rows.uptoBulk e := fun i hi => by
      have hc := hcell i hi
      rw [List.getElem?_eq_getElem (by omega)] at hc
      obtain ⟨cs',h1,h2⟩ := Option.bind_eq_some_iff.1 hc
      obtain ⟨d,k1,k2,k3,k4⟩ := ih e cs' _ hk.2.1 h2
      refine ⟨d,k1,cs',h1,k2,k3,fun y hy => ?_⟩
      rw [List.getElem?_map,List.getElem?_eq_getElem (by omega)] at hy
      cases hy
      exact k4
     obtain ⟨ds,hds,hget⟩ : ∃ ds : List D,ds.length = len ∧ ∀ i d,ds[i]? = some d -> Has P n e d ∧ ∃ cs',w.cells? base (a.add (i * P.cellsOf e)) (P.cellsOf e) = some cs' ∧ RdL (bare (allS w)) w (leavesD d) cs' ∧ (leavesD d).all leafD = true ∧ ∀ e,(elems.map (·.1))[i]? = some e -> bulkD d ≤ Rows.uptoBulk e := by
      exact list_of len each
     have hall : ∀ x ∈ ds,Has P n e x := fun x hx => by
      obtain ⟨i,hi,rfl⟩ := List.getElem_of_mem hx
      exact (hget i _ (List.getElem?_eq_getElem hi)).1
     refine ⟨.sl none (P.cellsOf e) ds,by simp only [Has,hu];exact ⟨ds,rfl,by omega,hall⟩,⟨_,_,rfl,⟨⟨some a,cap,by rw [hds],by omega,hm⟩,fun h0 => ?_,fun id e => by cases e⟩,rfl⟩,rfl,?_⟩
     rotate_left
     ·have := bulkL_pt ds (elems.map (·.1)) (by rw [List.length_map];omega) fun i d y h1 h2 => by
       obtain ⟨_,_,_,_,_,k⟩ := hget i d h1
       exact k y h2
      simp only [bulkD,Rows.uptoBulk]
      omega
     have hcsz : 0 < P.cellsOf e := hk.2.2
     obtain ⟨b,off,spot⟩ := a
     have hspot : spot = none := by
      obtain ⟨d,k1,cs',k2,k3,k4,_⟩ := each 0 (by omega)
      obtain ⟨_,hcl,hat⟩ := World.cells?_some k2
      have := hat 0 hcsz
      rw [List.getElem?_eq_getElem (by omega)] at this
      simpa [Addr.add] using World.cell?_spot this
     subst hspot
     have hadd : ∀ i : Nat,(⟨b,off,none⟩ : Addr).add i = ⟨b,off + i,none⟩ := fun i => by
      unfold Addr.add
      by_cases h : i = 0 <;> simp [h]
     have hcells : ∀ i,i < len -> ∀ j,j < P.cellsOf e -> w.cell? ⟨b,off + i * P.cellsOf e + j,none⟩ ≠ none := fun i hi j hj => by
      obtain ⟨d,k1,cs',k2,k3,k4,_⟩ := each i hi
      obtain ⟨_,hcl,hat⟩ := World.cells?_some k2
      have := hat j hj
      rw [Go.Deep.add_add,hadd,List.getElem?_eq_getElem (by omega),← Nat.add_assoc] at this
      rw [this]
      simp
     have hblk : b < w.heap.size := by
      have := hcells 0 (by omega) 0 hcsz
      cases hc : w.cell? ⟨b,off + 0 * P.cellsOf e + 0,none⟩ with
      | none => exact absurd hc this
      | some v => exact World.block_lt_of_cell? w _ hc
     refine ⟨b,off,cap,by rw [hds],fun i hi => hblk,RdE.mk fun i d hd => ?_⟩
     obtain ⟨k1,cs',k2,k3,k4,_⟩ := hget i d hd
     obtain ⟨_,hcl,hat⟩ := World.cells?_some k2
     have hcj : ∀ j (hj : j < cs'.length),w.cell? ⟨b,off + (i * P.cellsOf e + j),none⟩ = some cs'[j] := fun j hj => by
      have := hat j (by omega)
      rw [Go.Deep.add_add,hadd,List.getElem?_eq_getElem hj] at this
      exact this
     have h1c := k3.leaves k4
     by_cases hag : ∃ es,d = .agg es
     ·obtain ⟨es,rfl⟩ := hag
      refine ⟨.agg cs'.toArray,⟨cs',rfl,k3⟩,by simp [Value.cells,hcl],fun c hc => h1c c (by simpa [Value.cells] using hc),fun j hj => ?_⟩
      simp only [Value.cells] at hj ⊢
      simpa using hcj j (by simpa using hj)
     ·have hl1 : leavesD d = [d] := by
       cases d <;> first | rfl | exact absurd ⟨_,rfl⟩ hag
      rw [hl1] at k3
      obtain ⟨v,rest',rfl,k5,k6⟩ := k3
      simp only [RdL] at k6
      subst k6
      have ho : v.oneCell' = true := h1c v (by simp)
      have hvc : v.cells = #[v] := by
       cases v <;> first | rfl | cases ho
      refine ⟨v,k5,by rw [hvc,← hcl];rfl,fun c hc => by rw [hvc] at hc;simp at hc;rw [hc];exact ho,fun j hj => ?_⟩
      have : j = 0 := by rw [hvc] at hj;simp at hj;omega
      subst this
      have := hcj 0 (by simp)
      simpa [hvc] using this
   | struct fs =>
    simp only at hk
    obtain ⟨xs,n',hn',rfl,hlen,hxl,hf⟩ := DataW.trod_struct hu h
    obtain rfl : n = n' := by omega
    obtain ⟨ys,h1,h2,h3,h4,h5⟩ := parts_rd (C := bare (allS w)) (enc := enc) (P := P) (w := w) (base := base) (spare := spare) (held := held) (n := n) fs.toList (xs.map (·.1)) cs 0 (P.cellsOf t) hlen hk.1 (Nat.zero_le _)
     (fun i f hi => by
      have hi' : fs[i]? = some f := by simpa using hi
      have := hf i f hi'
      have hlt : i < fs.size := (Array.getElem?_eq_some_iff.1 hi').1
      rw [List.getElem?_eq_getElem (by omega)] at this
      exact ⟨_,by rw [List.getElem?_map,List.getElem?_eq_getElem (by omega)];rfl,this⟩)
     (fun f hfm cs' y hy => ih f.type cs' y (hk.2 f hfm) hy)
    refine ⟨.agg (ys.flatMap leavesD),by simp only [Has,hu];exact ⟨ys,rfl,by simpa using h1,fun i f x hi hx => h4 i f x (by simpa using hi) hx⟩,by simpa [leavesD] using h2,h3,by simp only [bulkD,Rows.uptoBulk];omega⟩
   | _ => exact hk.elim
theorem trodAll_of {v : Value} {t : TypeId} {d : DataW H} {p : List MemPlace} (h : DataW.Trod enc P w base spare held t v d p) : ∃ fuel,DataW.trod enc P w base spare held fuel t v.cells.toList = some (d,p) := h
theorem param_hasb (K : Kinds P T) {t : TypeId} (hT : T t) {r : Reach} {b0 : Nat} {v : Value} {d : DataW H} {p : List MemPlace} (hv : Value.okWide P w r b0 t v) (h : DataW.Trod enc P w base spare held t v d p) : ∃ n x,Has P n t x ∧ Rd (bare (allS w)) w x v ∧ bulkD x ≤ Rows.uptoBulk d := by
 obtain ⟨fuel,hf⟩ := trodAll_of h
 obtain ⟨x,h1,h2,h3,h5⟩ := trod_hasb K fuel t _ _ hT hf
 refine ⟨fuel,x,h1,?_,h5⟩
 have one : ∀ u : Value,v.cells = #[u] -> v = u -> (∀ ds,x ≠ .agg ds) -> Rd (bare (allS w)) w x v := fun u hu hvu hx => by
  have hl : leavesD x = [x] := by cases x <;> first | rfl | exact absurd rfl (hx _)
  rw [hl,hu] at h2
  obtain ⟨u',r',e,k1,k2⟩ := h2
  simp at e
  rw [hvu,e.1]
  exact k1
 cases fuel with
 | zero => simp [Has] at h1
 | succ n =>
  have hk := K.ok t hT
  simp only [Has] at h1
  cases hu : P.underlying t with
  | none => rw [hu] at h1;exact h1.elim
  | some u =>
   rw [hu] at h1
   cases u with
   | int k =>
    obtain ⟨m,rfl⟩ := okWide_int hu hv
    obtain ⟨_,rfl,_⟩ := h1
    exact one _ rfl rfl fun ds => by simp
   | bool =>
    obtain ⟨m,rfl⟩ := okWide_bool hu hv
    obtain ⟨_,rfl⟩ := h1
    exact one _ rfl rfl fun ds => by simp
   | string =>
    obtain ⟨m,rfl⟩ := okWide_string hu hv
    obtain ⟨_,rfl,_⟩ := h1
    exact one _ rfl rfl fun ds => by simp
   | slice e =>
    obtain ⟨a,l,c,rfl⟩ := okWide_slice hu hv
    obtain ⟨_,rfl,_⟩ := h1
    exact one _ rfl rfl fun ds => by simp
   | struct fs =>
    obtain ⟨cs,rfl,_⟩ := okWide_struct hu hv
    obtain ⟨xs,rfl,_⟩ := h1
    exact ⟨cs.toList,by simp,h2⟩
   | _ => exact h1.elim
theorem Has.int {n : Nat} {t : TypeId} {k : IntKind} {d : D} (h : Has P n t d) (hu : P.underlying t = some (.int k)) : ∃ m,d = .raw (.int k m) ∧ (Lit.int k m).wf = true := by
 cases n with
 | zero => exact h.elim
 | succ n => simpa only [Has,hu] using h
theorem Has.bool {n : Nat} {t : TypeId} {d : D} (h : Has P n t d) (hu : P.underlying t = some .bool) : ∃ b,d = .raw (.bool b) := by
 cases n with
 | zero => exact h.elim
 | succ n => simpa only [Has,hu] using h
theorem Has.str {n : Nat} {t : TypeId} {d : D} (h : Has P n t d) (hu : P.underlying t = some .string) : ∃ s : ByteArray,d = .raw (.string s) ∧ s.size ≤ maxLen := by
 cases n with
 | zero => exact h.elim
 | succ n => simpa only [Has,hu] using h
theorem Has.slice {n : Nat} {t e : TypeId} {d : D} (h : Has P n t d) (hu : P.underlying t = some (.slice e)) : ∃ m ds,n = m + 1 ∧ d = .sl none (P.cellsOf e) ds ∧ ds.length ≤ maxLen ∧ ∀ x ∈ ds,Has P m e x := by
 cases n with
 | zero => exact h.elim
 | succ n =>
  simp only [Has,hu] at h
  obtain ⟨ds,h1,h2,h3⟩ := h
  exact ⟨n,ds,rfl,h1,h2,h3⟩
theorem Has.struct {n : Nat} {t : TypeId} {fs : Array Field} {d : D} (h : Has P n t d) (hu : P.underlying t = some (.struct fs)) : ∃ (m : Nat) (xs : List D),n = m + 1 ∧ d = .agg (xs.flatMap leavesD) ∧ xs.length = fs.size ∧ ∀ (i : Nat) (f : Field) (x : D),fs[i]? = some f -> xs[i]? = some x -> Has P m f.type x := by
 cases n with
 | zero => exact h.elim
 | succ n =>
  simp only [Has,hu] at h
  obtain ⟨xs,h1,h2,h3⟩ := h
  exact ⟨n,xs,rfl,h1,h2,h3⟩
theorem Has.strs {n : Nat} {t e : TypeId} {d : D} (h : Has P n t d) (hu : P.underlying t = some (.slice e)) (he : P.underlying e = some .string) (hc : P.cellsOf e = 1) : ∃ ls : List ByteArray,d = .sl none 1 (ls.map fun s => .raw (.string s)) ∧ ls.length ≤ maxLen ∧ ∀ s ∈ ls,s.size ≤ maxLen := by
 obtain ⟨m,ds,_,rfl,h2,h3⟩ := h.slice hu
 rw [hc]
 have : ∃ ls : List ByteArray,ds = ls.map (fun s => D.raw (.string s)) ∧ ∀ s ∈ ls,s.size ≤ maxLen := by
  clear h2 h
  induction ds with
  | nil => exact ⟨[],rfl,fun s h => by cases h⟩
  | cons x r ih =>
   obtain ⟨ls,h4,h5⟩ := ih fun y hy => h3 y (List.mem_cons_of_mem _ hy)
   obtain ⟨s,rfl,hs⟩ := (h3 x (List.mem_cons_self ..)).str he
   refine ⟨s :: ls,by simp [h4],fun y hy => ?_⟩
   rcases List.mem_cons.1 hy with rfl | hy
   ·exact hs
   ·exact h5 y hy
 obtain ⟨ls,rfl,h4⟩ := this
 exact ⟨ls,rfl,by simpa using h2,h4⟩
end
end Go.Proofs.Ytglefhgcfijiaaa.Pv
namespace Go.Proofs.Ytglefhgcfijiaaa
open Go.RowKit Pv
theorem cellsOf_str : Try.prog.cellsOf 9 = 1 := by kernel_rfl
theorem cellsOf_ty : Try.prog.cellsOf 38 = 5 := by kernel_rfl
theorem tys_of : ∀ {ds : List D},(∀ x ∈ ds,∃ t : Ty5,x = tyD t ∧ okT t) -> ∃ ks : List Ty5,ds = tysD ks ∧ okT.okL ks
 | [],_ => ⟨[],rfl,trivial⟩
 | x :: r,h => by
  obtain ⟨ks,h1,h2⟩ := tys_of (ds := r) fun y hy => h y (List.mem_cons_of_mem _ hy)
  obtain ⟨t,rfl,ht⟩ := h x (List.mem_cons_self ..)
  exact ⟨t :: ks,by simp [tysD,h1],ht,h2⟩
theorem has_ty : ∀ (n : Nat) {d : D},Has Try.prog n 38 d -> ∃ t : Ty5,d = tyD t ∧ okT t := by
 intro n
 induction n using Nat.strongRecOn with
 | _ n ih =>
  intro d h
  obtain ⟨m,xs,rfl,rfl,hl,hx⟩ := h.struct Try.underlying38
  match xs,hl with
  | [x0,x1,x2,x3,x4],_ =>
   obtain ⟨k,rfl,_⟩ := (hx 0 _ x0 rfl rfl).int Try.underlying3
   obtain ⟨a,rfl,_⟩ := (hx 1 _ x1 rfl rfl).int Try.underlying3
   obtain ⟨nm,rfl,hnm⟩ := (hx 2 _ x2 rfl rfl).str Try.underlying9
   obtain ⟨ls,rfl,_,hls⟩ := (hx 3 _ x3 rfl rfl).strs Try.underlying23 Try.underlying9 cellsOf_str
   obtain ⟨m',ds,e,rfl,_,hds⟩ := (hx 4 _ x4 rfl rfl).slice Try.underlying22
   obtain ⟨ks,rfl,hks⟩ := tys_of fun x hx' => ih m' (by omega) (hds x hx')
   rw [cellsOf_ty]
   exact ⟨.mk k a nm ls ks,rfl,hnm,hls,hks⟩
theorem has_tys {n : Nat} {d : D} (h : Has Try.prog n 22 d) : ∃ ks : List Ty5,d = .sl none 5 (tysD ks) ∧ okT.okL ks ∧ ks.length ≤ maxLen := by
 obtain ⟨m,ds,_,rfl,hl,hds⟩ := h.slice Try.underlying22
 obtain ⟨ks,rfl,hks⟩ := tys_of fun x hx => has_ty m (hds x hx)
 rw [cellsOf_ty]
 exact ⟨ks,rfl,hks,by simpa [tysD_map] using hl⟩
theorem has_strs {n : Nat} {d : D} (h : Has Try.prog n 23 d) : ∃ ls : List ByteArray,d = .sl none 1 (ls.map strD) ∧ ls.length ≤ maxLen ∧ ∀ s ∈ ls,s.size ≤ maxLen := h.strs Try.underlying23 Try.underlying9 cellsOf_str
theorem el_strs : ElemIs (TT ()) 23 9 1 16 := by unfold ElemIs;kernel_rfl
open Go.RowKit Go.Deep Go.Sort
theorem alloc_at (w : World) (vs : Array Value) (t : TypeId) (i : Nat) (v : Value) (h : vs[i]? = some v) : (w.alloc (.cells vs t)).cell? ⟨w.heap.size,i,none⟩ = some v := by
 have hi : i < vs.size := (Array.getElem?_eq_some_iff.1 h).1
 simp [go_sem,h]
theorem alloc_lt (w : World) (o : Obj) : w.heap.size < (w.alloc o).heap.size := by
 simp [go_sem]
theorem i64_small {a b : Int} (h : a = b) (h0 : 0 ≤ b) (h1 : b ≤ 1000001) : Value.int .i64 (wrap64 a) = .int .i64 b := by
 subst h
 have : wrap64 a = a := by unfold wrap64;omega
 rw [this]
theorem cell_below {w w' : World} (h : Below w.heap.size w w') {a : Addr} {v : Value} (hc : w.cell? a = some v) : w'.cell? a = some v := by
 rw [← hc]
 exact h.cell (Nat.lt_of_not_le fun hn => by simp [World.cell?,Array.getElem?_eq_none hn] at hc)
theorem rnodes_any : ∀ (f : Nat) (t : Ty5) (v0 v1 v2 v3 v4 : Value) (w : World),szT t ≤ f -> nodesT t ≤ 1000000 -> TyIn w t v0 v1 v2 v3 v4 ->
  Calls Try.prog 30 #[.agg #[v0,v1,v2,v3,v4]] w fun e w' => e = .returned (.int .i64 (nodesT t)) ∧ Below w.heap.size w w'
 | 0,t,_,_,_,_,_,_,h,_,_ => absurd (szT_pos t) (by omega)
 | f + 1,.mk k n nm ls ks,v0,v1,v2,v3,v4,w,hz,hn,hT => by
  obtain ⟨rfl,rfl,⟨rfl,hm⟩,hl,hk,h4⟩ := hT
  unfold maxLen at hk
  rcases h4 with ⟨a,cap,rfl,rfl⟩ | ⟨b,off,cap,rfl,hr⟩
  ·go_enter Try.func30,Try.ntmps30
   go_wp2
   go_rounds 1
   go_ret
   exact ⟨retI rfl,by go_grown⟩
  ·have IH := Asd.mk (rnodes_any f)
   have HZ := Asd.mk hz
   have HN := Asd.mk hn
   have HM := Asd.mk hm
   have HL := Asd.mk hl
   have HR := Asd.mk hr
   clear hz hn hm hl hr
   go_enter Try.func30,Try.ntmps30
   go_wp2
   have Z := alloc_at w #[.int .i64 k,.int .i64 n,.string nm,v3,.slice (some ⟨b,off,none⟩) ks.length cap] 38 4 _ rfl
   have L := alloc_lt w (.cells #[.int .i64 k,.int .i64 n,.string nm,v3,.slice (some ⟨b,off,none⟩) ks.length cap] 38)
   have B1 : Below w.heap.size w (w.alloc (.cells #[.int .i64 k,.int .i64 n,.string nm,v3,.slice (some ⟨b,off,none⟩) ks.length cap] 38)) := (Below.refl _ _).alloc (Nat.le_refl _) _
   generalize w.alloc (.cells #[.int .i64 k,.int .i64 n,.string nm,v3,.slice (some ⟨b,off,none⟩) ks.length cap] 38) = W at Z L B1 ⊢
   have B1 := Asd.mk B1
   have Z := Asd.mk Z
   have L := Asd.mk L
   go_loopw [3,4] (fun m i wr => ∃ j : Nat,j ≤ ks.length ∧ i = .int .i64 j ∧ m = .int .i64 ((1 + nodesL (ks.take j) : Nat) : Int) ∧ Below W.heap.size W wr) (fun _ i _ => ks.length - (intOf i).toNat)
   case atStart => exact ⟨0,by omega,rfl,by simp [nodesL],Below.refl _ _⟩
   case round =>
    obtain ⟨j,hj,rfl,rfl,hb⟩ := hrel
    have z := cell_below hb Z.out
    by_cases hlt : j < ks.length
    ·obtain ⟨x0,x1,x2,x3,x4,c0,c1,c2,c3,c4,ht⟩ := (((HR.out).mono B1.out).mono hb).at hlt
     have HT := Asd.mk ht
     have HB := Asd.mk hb
     clear ht hb
     go_wp2_with (go_at_call 30;refine (IH.out (kAt ks j) _ _ _ _ _ _ (by have := HZ.out;have := szT_kid (k := k) (n := n) (nm := nm) (ls := ls) hlt;omega) (by have := HN.out;have := nodesL_step hlt;have := nodesL_le ks (j + 1);simp only [nodesT] at *;omega) HT.out).mono ?_;rintro e w2 ⟨rfl,hb2⟩)
     have hn1 : nodesL (ks.take (j + 1)) ≤ 1000000 := by have := HN.out;have := nodesL_le ks (j + 1);simp only [nodesT] at *;omega
     go_roundw
     case rel => exact ⟨j + 1,by omega,by go_num,i64_small (by rw [nodesL_step hlt];omega) (by omega) (by omega),HB.out.trans (hb2.mono HB.out.size)⟩
     case measure => simp [intOf];omega
    ·have : j = ks.length := by omega
     subst this
     go_wp2
     go_ret
     exact ⟨retI (by rw [List.take_length];simp [nodesT]),B1.out.trans (hb.mono B1.out.size)⟩
theorem i64_le {a b : Int} (h : a = b) (h0 : 0 ≤ b) (h1 : b ≤ 4000000000) : Value.int .i64 (wrap64 a) = .int .i64 b := by
 subst h
 have : wrap64 a = a := by unfold wrap64;omega
 rw [this]
def eighths : List ByteArray -> Nat
 | [] => 0
 | s :: r => s.size / 8 + eighths r
theorem eighths_app : ∀ a b : List ByteArray,eighths (a ++ b) = eighths a + eighths b
 | [],b => by simp [eighths]
 | s :: r,b => by
  rw [List.cons_append]
  simp only [eighths]
  rw [eighths_app r b]
  omega
theorem eighths_step {ls : List ByteArray} {j : Nat} (h : j < ls.length) : eighths (ls.take (j + 1)) = eighths (ls.take j) + (stAt ls j).size / 8 := by
 rw [stAt_get h,List.take_succ_eq_append_getElem h,eighths_app]
 simp [eighths]
theorem eighths_le : ∀ ls : List ByteArray,eighths ls + ls.length ≤ szS ls
 | [] => Nat.le_refl _
 | s :: r => by
  have := eighths_le r
  simp only [eighths,szS,List.length_cons]
  omega
theorem eighths_take (ls : List ByteArray) (j : Nat) : eighths (ls.take j) + ls.length ≤ szS ls := by
 have h := eighths_le ls
 have := eighths_app (ls.take j) (ls.drop j)
 rw [List.take_append_drop] at this
 omega
def muchA (nm : ByteArray) (ls : List ByteArray) : Nat := 1 + nm.size / 8 + ls.length + eighths (ls.take 1000)
mutual
def much : Ty5 -> Nat
 | .mk _ _ nm ls ks => muchL (muchA nm ls) ks
def muchL : Nat -> List Ty5 -> Nat
 | n,[] => n
 | n,t :: r => if n < 3000 then muchL (n + much t) r else n
end
mutual
theorem much_le : ∀ t : Ty5,much t ≤ szT t
 | .mk k n nm ls ks => by
  have := muchL_le (muchA nm ls) ks
  have := eighths_take ls 1000
  simp only [much,szT,muchA] at *
  omega
theorem muchL_le : ∀ (n : Nat) (ks : List Ty5),muchL n ks ≤ n + szL ks
 | n,[] => by simp [muchL,szL]
 | n,t :: r => by
  have h1 := much_le t
  have h2 := muchL_le (n + much t) r
  simp only [muchL,szL]
  split <;> omega
end
theorem muchL_ge : ∀ (n : Nat) (ks : List Ty5),n ≤ muchL n ks
 | n,[] => Nat.le_refl _
 | n,t :: r => by
  have h2 := muchL_ge (n + much t) r
  simp only [muchL]
  split <;> omega
mutual
theorem much_nodes : ∀ t : Ty5,much t < 3000 -> nodesT t ≤ much t
 | .mk k n nm ls ks,h => by
  simp only [much,nodesT] at *
  have := muchL_nodes (muchA nm ls) ks h
  have : 1 ≤ muchA nm ls := by unfold muchA;omega
  omega
theorem muchL_nodes : ∀ (n : Nat) (ks : List Ty5),muchL n ks < 3000 -> n + nodesL ks ≤ muchL n ks
 | n,[],_ => by simp [muchL,nodesL]
 | n,t :: r,h => by
  simp only [muchL,nodesL] at *
  have hn := muchL_ge n (t :: r)
  simp only [muchL] at hn
  by_cases h3 : n < 3000
  ·rw [if_pos h3] at h ⊢
   have h1 := muchL_ge (n + much t) r
   have h2 := much_nodes t (by omega)
   have h4 := muchL_nodes (n + much t) r h
   omega
  ·rw [if_neg h3] at h
   omega
end
theorem muchL_drop {n : Nat} {ks : List Ty5} {j : Nat} (hj : j < ks.length) (h : n < 3000) : muchL n (ks.drop j) = muchL (n + much (kAt ks j)) (ks.drop (j + 1)) := by
 rw [List.drop_eq_getElem_cons hj,kAt_get hj]
 simp only [muchL]
 rw [if_pos h]
theorem muchL_stop {n : Nat} (ks : List Ty5) (h : ¬ n < 3000) : muchL n ks = n := by
 cases ks
 ·rfl
 ·simp only [muchL]
  rw [if_neg h]
theorem szL_step {ks : List Ty5} {j : Nat} (h : j < ks.length) : szL (ks.take j) + szT (kAt ks j) ≤ szL ks := by
 have app : ∀ a b : List Ty5,szL (a ++ b) = szL a + szL b := by
  intro a b
  induction a with
  | nil => simp [szL]
  | cons t r ih =>
   rw [List.cons_append]
   simp only [szL]
   rw [ih]
   omega
 have h1 := app (ks.take j) (ks.drop j)
 rw [List.take_append_drop,List.drop_eq_getElem_cons h] at h1
 simp only [szL] at h1
 rw [kAt_get h]
 omega
theorem szL_take {ks : List Ty5} {j : Nat} (h : j < ks.length) : szL (ks.take (j + 1)) = szL (ks.take j) + szT (kAt ks j) := by
 have app : ∀ a b : List Ty5,szL (a ++ b) = szL a + szL b := by
  intro a b
  induction a with
  | nil => simp [szL]
  | cons t r ih =>
   rw [List.cons_append]
   simp only [szL]
   rw [ih]
   omega
 rw [take_kAt h,app]
 simp [szL]
open Go.RowKit
def lowB (c : Int) : Bool := decide (97 ≤ c) && decide (c ≤ 122)
def upB (c : Int) : Bool := decide (65 ≤ c) && decide (c ≤ 90)
def digB (c : Int) : Bool := decide (48 ≤ c) && decide (c ≤ 57)
def begunI (c : Int) : Int := if lowB c = true then 1 else if upB c = true then 2 else 0
def contB (k c : Int) : Bool := (k == 2 && upB c) || ((k == 1 || k == 2) && (lowB c || digB c))
theorem ret_bool {a b : Bool} (h : a = b) : Ending.returned (.bool a) = .returned (.bool b) := by rw [h]
theorem ret_int {k : IntKind} {a b : Int} (h : a = b) : Ending.returned (.int k a) = .returned (.int k b) := by rw [h]
theorem lower_any (c : Int) (w : World) : Calls Try.prog 109 #[.int .i32 c] w fun e w' => e = .returned (.bool (lowB c)) ∧ w = w' := by
 go_enter Try.func109,Try.ntmps109
 go_wp2
 all_goals go_ret
 all_goals exact ⟨ret_bool (by simp [lowB, *] <;> omega),rfl⟩
theorem upper_any (c : Int) (w : World) : Calls Try.prog 110 #[.int .i32 c] w fun e w' => e = .returned (.bool (upB c)) ∧ w = w' := by
 go_enter Try.func110,Try.ntmps110
 go_wp2
 all_goals go_ret
 all_goals exact ⟨ret_bool (by simp [upB, *] <;> omega),rfl⟩
theorem digit_any (c : Int) (w : World) : Calls Try.prog 111 #[.int .i32 c] w fun e w' => e = .returned (.bool (digB c)) ∧ w = w' := by
 go_enter Try.func111,Try.ntmps111
 go_wp2
 all_goals go_ret
 all_goals exact ⟨ret_bool (by simp [digB, *] <;> omega),rfl⟩
theorem begun_any (c : Int) (w : World) : Calls Try.prog 101 #[.int .i32 c] w fun e w' => e = .returned (.int .i64 (begunI c)) ∧ w = w' := by
 go_enter Try.func101,Try.ntmps101
 go_wp2_with (first | (go_at_call 109;refine (lower_any _ _).mono ?_;rintro e w' ⟨rfl,rfl⟩) | (go_at_call 110;refine (upper_any _ _).mono ?_;rintro e w' ⟨rfl,rfl⟩))
 all_goals go_ret
 all_goals exact ⟨ret_int (by simp [begunI, *]),rfl⟩
theorem continues_any (k c : Int) (w : World) : Calls Try.prog 102 #[.int .i64 k,.int .i32 c] w fun e w' => e = .returned (.bool (contB k c)) ∧ w = w' := by
 go_enter Try.func102,Try.ntmps102
 go_wp2_with (first | (go_at_call 109;refine (lower_any _ _).mono ?_;rintro e w' ⟨rfl,rfl⟩) | (go_at_call 110;refine (upper_any _ _).mono ?_;rintro e w' ⟨rfl,rfl⟩) | (go_at_call 111;refine (digit_any _ _).mono ?_;rintro e w' ⟨rfl,rfl⟩))
 all_goals go_ret
 all_goals exact ⟨ret_bool (by simp_all [contB]),rfl⟩
def shapeI : List UInt8 -> Int
 | [] => 0
 | a :: r => if r.all (fun c => contB (begunI (a.toNat : Int)) (c.toNat : Int)) = true then begunI (a.toNat : Int) else 0
theorem begun_high (c : Int) (h : 128 ≤ c) : begunI c = 0 := by
 simp [begunI,lowB,upB];omega
theorem cont_high (k c : Int) (h : 128 ≤ c) : contB k c = false := by
 have h1 : lowB c = false := by simp [lowB];omega
 have h2 : upB c = false := by simp [upB];omega
 have h3 : digB c = false := by simp [digB];omega
 simp [contB,h1,h2,h3]
def ShapeAt (s : ByteArray) (pos : Nat) (kind : Int) : Prop :=
 (pos = 0 ∧ kind = 0) ∨ (0 < pos ∧ ∃ a r,s.data.toList = a :: r ∧ kind = begunI (a.toNat : Int) ∧ (kind = 0 ∨ (pos ≤ s.size ∧ ∀ j c,j + 1 < pos -> r[j]? = some c -> contB kind (c.toNat : Int) = true)))
theorem size_list (s : ByteArray) : s.data.toList.length = s.size := rfl
theorem shapeAt_end {s : ByteArray} {pos : Nat} {kind : Int} (h : ShapeAt s pos kind) (hp : ¬ pos < s.size) : kind = shapeI s.data.toList := by
 rcases h with ⟨rfl,rfl⟩ | ⟨h0,a,r,hl,hk,h2⟩
 ·have : s.data.toList = [] := by have := size_list s;cases h : s.data.toList with
   | nil => rfl
   | cons a r => rw [h] at this;simp at this;omega
  rw [this];rfl
 ·rw [hl]
  simp only [shapeI]
  rcases h2 with h2 | ⟨h3,h4⟩
  ·rw [← hk,h2];simp
  ·rw [← hk,if_pos]
   rw [List.all_eq_true]
   intro c hc
   obtain ⟨j,hj⟩ := List.mem_iff_getElem?.1 hc
   have hlen := size_list s
   rw [hl] at hlen
   simp at hlen
   have hjl : j < r.length := by
    have := (List.getElem?_eq_some_iff.1 hj).1
    exact this
   exact h4 j c (by omega) hj
theorem byte_at (s : ByteArray) (pos : Nat) (hp : pos < s.size) : s.data.toList[pos]? = some (s[pos]'hp) := by
 have h : pos < s.data.toList.length := by rw [size_list];exact hp
 rw [List.getElem?_eq_getElem h]
 try rfl
theorem shapeAt_bad {s : ByteArray} {pos : Nat} {kind : Int} (h : ShapeAt s pos kind) (hp : pos < s.size) (h0 : 0 < pos) (hc : contB kind ((s[pos]'hp).toNat : Int) = false ∨ kind = 0) : shapeI s.data.toList = 0 := by
 rcases h with ⟨rfl,rfl⟩ | ⟨_,a,r,hl,hk,h2⟩
 ·omega
 ·have hb := byte_at s pos hp
  rw [hl]
  simp only [shapeI]
  rw [← hk]
  split
  ·rename_i hall
   rcases hc with hc | hc
   ·rw [List.all_eq_true] at hall
    rw [hl] at hb
    obtain ⟨q,rfl⟩ : ∃ q,pos = q + 1 := ⟨pos - 1,by omega⟩
    simp at hb
    have := hall _ (List.mem_iff_getElem?.2 ⟨q,hb⟩)
    rw [this] at hc
    cases hc
   ·exact hc
  ·rfl
theorem shapeAt_zero {s : ByteArray} (hp : 0 < s.size) (wd : Nat) (hw : 1 ≤ wd) (c : Int) (h : (wd = 1 ∧ c = ((s[0]'hp).toNat : Int)) ∨ (128 ≤ c ∧ 128 ≤ ((s[0]'hp).toNat : Int))) : ShapeAt s wd (begunI c) := by
 right
 have hb := byte_at s 0 hp
 cases hl : s.data.toList with
 | nil => rw [hl] at hb;simp at hb
 | cons a r =>
  rw [hl] at hb
  simp at hb
  refine ⟨by omega,a,r,rfl,?_,?_⟩
  ·rcases h with ⟨_,h⟩ | ⟨h1,h2⟩
   ·rw [h,hb]
   ·rw [begun_high _ h1,hb,begun_high _ h2]
  ·rcases h with ⟨rfl,_⟩ | ⟨h1,_⟩
   ·exact .inr ⟨by omega,fun j c hj _ => by omega⟩
   ·exact .inl (begun_high _ h1)
theorem shapeAt_step {s : ByteArray} {pos : Nat} {kind : Int} (h : ShapeAt s pos kind) (hp : pos < s.size) (h0 : 0 < pos) (hc : contB kind ((s[pos]'hp).toNat : Int) = true) : ShapeAt s (pos + 1) kind := by
 rcases h with ⟨rfl,rfl⟩ | ⟨_,a,r,hl,hk,h2⟩
 ·omega
 ·refine .inr ⟨by omega,a,r,hl,hk,?_⟩
  rcases h2 with h2 | ⟨h3,h4⟩
  ·exact .inl h2
  ·refine .inr ⟨by omega,fun j c hj hjc => ?_⟩
   by_cases hjp : j + 1 = pos
   ·have hb := byte_at s pos hp
    subst hjp
    rw [hl] at hb
    simp at hb
    rw [hjc] at hb
    obtain rfl := Option.some.inj hb
    exact hc
   ·exact h4 j c (by omega) hjc
end Go.Proofs.Ytglefhgcfijiaaa
