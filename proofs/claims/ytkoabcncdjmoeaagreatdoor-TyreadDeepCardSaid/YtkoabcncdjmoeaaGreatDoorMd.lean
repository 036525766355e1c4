/- Parts of the proof: Asd, TyD, TyP. -/
import Derived.Test.YtkoabcncdjmoeaaGreatDoorRows
import Derived.WalkKit
import Derived.ProofKit
import Derived.OpenShut
import Derived.Below
import Derived.Deep.Slices
import Derived.Deep.Fields
import Derived.Deep.Strs
import Derived.ChangeSame
import Derived.Lib.SmallJoins
import Derived.Handy
import Derived.Lib.Hide
set_option linter.unusedSimpArgs false
set_option linter.unusedVariables false
set_option maxRecDepth 1000000
set_option maxHeartbeats 40000000
namespace Go.Proofs.YtkoabcncdjmoeaaGreatDoor
structure Asd (p : Prop) : Prop where
 out : p
open Go.ChangeShapes Go.WideShapes Go.RowKit Go.Deep
inductive Ty5 where
  | mk (k n : Int) (nm : ByteArray) (ls : List ByteArray) (ks : List Ty5)
def stAt (ss : List ByteArray) (j : Nat) : ByteArray := ss.getD j ByteArray.empty
theorem stAt_get {ss : List ByteArray} {j : Nat} (h : j < ss.length) : stAt ss j = ss[j] := by
 unfold stAt
 rw [List.getD_eq_getElem?_getD,List.getElem?_eq_getElem h]
 try rfl
def StrsAt (w : World) (v : Value) (ss : List ByteArray) : Prop :=
  (∀ s, s ∈ ss -> s.size ≤ maxLen) ∧ ss.length ≤ maxLen ∧
  ((∃ a cap, v = .slice a 0 cap ∧ ss = []) ∨
   ∃ b off cap, v = .slice (some ⟨b, off, none⟩) ss.length cap ∧ b < w.heap.size ∧ ∀ j, j < ss.length -> w.cell? ⟨b, off + j, none⟩ = some (.string (stAt ss j)))
theorem StrsAt.mono {w w' : World} {v : Value} {ss : List ByteArray} (h : StrsAt w v ss) (hb : Below w.heap.size w w') : StrsAt w' v ss := by
 obtain ⟨h1,h2,h3⟩ := h
 refine ⟨h1,h2,?_⟩
 rcases h3 with h3 | ⟨b,off,cap,rfl,hlt,hc⟩
 ·exact .inl h3
 ·exact .inr ⟨b,off,cap,rfl,Nat.lt_of_lt_of_le hlt hb.size,fun j hj => (hb.cell (p := ⟨b,off + j,none⟩) hlt).trans (hc j hj)⟩
mutual
def TyIn (w : World) : Ty5 -> Value -> Value -> Value -> Value -> Value -> Prop
 | .mk k n nm ls ks,v0,v1,v2,v3,v4 =>
  v0 = .int .i64 k ∧ v1 = .int .i64 n ∧ (v2 = .string nm ∧ nm.size ≤ maxLen) ∧ StrsAt w v3 ls ∧ ks.length ≤ maxLen ∧
   ((∃ a cap,v4 = .slice a 0 cap ∧ ks = []) ∨ ∃ b off cap,v4 = .slice (some ⟨b,off,none⟩) ks.length cap ∧ RowIn w b off ks)
def RowIn (w : World) : Nat -> Nat -> List Ty5 -> Prop
 | _,_,[] => True
 | b,off,t :: r => (∃ v0 v1 v2 v3 v4,w.cell? ⟨b,off,none⟩ = some v0 ∧ w.cell? ⟨b,off + 1,none⟩ = some v1 ∧ w.cell? ⟨b,off + 2,none⟩ = some v2 ∧ w.cell? ⟨b,off + 3,none⟩ = some v3 ∧ w.cell? ⟨b,off + 4,none⟩ = some v4 ∧ TyIn w t v0 v1 v2 v3 v4) ∧ RowIn w b (off + 5) r
end
mutual
theorem TyIn.mono {w w' : World} (hb : Below w.heap.size w w') : ∀ {t : Ty5} {v0 v1 v2 v3 v4 : Value},TyIn w t v0 v1 v2 v3 v4 -> TyIn w' t v0 v1 v2 v3 v4
 | .mk k n nm ls ks,v0,v1,v2,v3,v4,h => by
  obtain ⟨h0,h1,h2,h3,h4,h5⟩ := h
  refine ⟨h0,h1,h2,h3.mono hb,h4,?_⟩
  rcases h5 with h5 | ⟨b,off,cap,h6,h7⟩
  ·exact .inl h5
  ·exact .inr ⟨b,off,cap,h6,RowIn.mono hb h7⟩
theorem RowIn.mono {w w' : World} (hb : Below w.heap.size w w') : ∀ {b off : Nat} {ks : List Ty5},RowIn w b off ks -> RowIn w' b off ks
 | _,_,[],_ => trivial
 | b,off,t :: r,h => by
  obtain ⟨⟨v0,v1,v2,v3,v4,c0,c1,c2,c3,c4,ht⟩,hr⟩ := h
  have k : ∀ {a : Addr} {v : Value},w.cell? a = some v -> w'.cell? a = some v := fun {a v} hc => by
   rw [← hc]
   exact hb.cell (Nat.lt_of_not_le fun hn => by simp [World.cell?,Array.getElem?_eq_none hn] at hc)
  exact ⟨⟨v0,v1,v2,v3,v4,k c0,k c1,k c2,k c3,k c4,TyIn.mono hb ht⟩,RowIn.mono hb hr⟩
end
theorem RowIn.get {w : World} : ∀ {b off : Nat} {ks : List Ty5} {j : Nat} (hj : j < ks.length),RowIn w b off ks ->
  ∃ v0 v1 v2 v3 v4,w.cell? ⟨b,off + j * 5,none⟩ = some v0 ∧ w.cell? ⟨b,off + j * 5 + 1,none⟩ = some v1 ∧ w.cell? ⟨b,off + j * 5 + 2,none⟩ = some v2 ∧ w.cell? ⟨b,off + j * 5 + 3,none⟩ = some v3 ∧ w.cell? ⟨b,off + j * 5 + 4,none⟩ = some v4 ∧ TyIn w ks[j] v0 v1 v2 v3 v4
 | b,off,t :: r,0,_,h => by
  obtain ⟨v0,v1,v2,v3,v4,h⟩ := h.1
  exact ⟨v0,v1,v2,v3,v4,by simpa using h⟩
 | b,off,t :: r,j + 1,hj,h => by
  have := RowIn.get (j := j) (by simpa using hj) h.2
  obtain ⟨v0,v1,v2,v3,v4,h⟩ := this
  refine ⟨v0,v1,v2,v3,v4,?_⟩
  have e : off + 5 + j * 5 = off + (j + 1) * 5 := by omega
  rw [e] at h
  exact h
mutual
def szT : Ty5 -> Nat
 | .mk _ _ nm ls ks => 1 + nm.size + szS ls + szL ks
def szL : List Ty5 -> Nat
 | [] => 0
 | t :: r => szT t + szL r
def szS : List ByteArray -> Nat
 | [] => 0
 | s :: r => s.size + 1 + szS r
end
section
variable {H : Type} {enc : TypeId × Value -> H} {P : Program} {w : World} {base : Nat} {spare : Nat -> Bool} {held : Bool}
end
open Go.RowKit
theorem retB {a b : Bool} (h : a = b) : Ending.returned (.bool a) = .returned (.bool b) := by rw [h]
def ty0 : Ty5 := .mk 0 0 ByteArray.empty [] []
def kAt (ks : List Ty5) (j : Nat) : Ty5 := ks.getD j ty0
theorem kAt_get {ks : List Ty5} {j : Nat} (h : j < ks.length) : kAt ks j = ks[j] := by
 unfold kAt
 rw [List.getD_eq_getElem?_getD,List.getElem?_eq_getElem h]
 try rfl
theorem kAt_mem {ks : List Ty5} {j : Nat} (h : j < ks.length) : kAt ks j ∈ ks := by
 rw [kAt_get h]
 exact List.getElem_mem h
theorem take_kAt {ks : List Ty5} {j : Nat} (h : j < ks.length) : ks.take (j + 1) = ks.take j ++ [kAt ks j] := by
 rw [kAt_get h,List.take_succ_eq_append_getElem h]
theorem szT_pos (t : Ty5) : 0 < szT t := by
 cases t
 simp only [szT]
 omega
theorem szL_mem : ∀ {ks : List Ty5} {t : Ty5},t ∈ ks -> szT t ≤ szL ks
 | [],_,h => by simp at h
 | x :: r,t,h => by
  simp only [szL]
  rcases List.mem_cons.1 h with rfl | h
  ·omega
  ·have := szL_mem h
   omega
theorem szT_kid {k n : Int} {nm : ByteArray} {ls : List ByteArray} {ks : List Ty5} {j : Nat} (h : j < ks.length) : szT (kAt ks j) < szT (.mk k n nm ls ks) := by
 have := szL_mem (kAt_mem h)
 simp only [szT]
 omega
mutual
def nodesT : Ty5 -> Nat
 | .mk _ _ _ _ ks => 1 + nodesL ks
def nodesL : List Ty5 -> Nat
 | [] => 0
 | t :: r => nodesT t + nodesL r
end
mutual
def depthT : Ty5 -> Nat
 | .mk _ _ _ _ ks => depthL ks + 1
def depthL : List Ty5 -> Nat
 | [] => 0
 | t :: r => max (depthT t) (depthL r)
end
mutual
theorem depth_nodes : ∀ t : Ty5,depthT t ≤ nodesT t
 | .mk _ _ _ _ ks => by
  have := depthL_nodes ks
  simp only [depthT,nodesT]
  omega
theorem depthL_nodes : ∀ ks : List Ty5,depthL ks ≤ nodesL ks
 | [] => Nat.le_refl _
 | t :: r => by
  have h1 := depth_nodes t
  have h2 := depthL_nodes r
  simp only [depthL,nodesL]
  omega
end
def eqS (a b : ByteArray) : Bool := a.toList == b.toList
theorem eqS_iff {a b : ByteArray} : eqS a b = true ↔ a = b := by
 unfold eqS
 rw [beq_iff_eq,ByteArray.toList_eq,ByteArray.toList_eq]
 constructor
 ·intro h
  exact ByteArray.ext (Array.toList_inj.1 h)
 ·rintro rfl
  rfl
def eqL : List ByteArray -> List ByteArray -> Bool
 | [],[] => true
 | a :: r,b :: q => eqS a b && eqL r q
 | [],_ :: _ => false
 | _ :: _,[] => false
theorem eqL_eq : ∀ {a b : List ByteArray},eqL a b = true -> a = b
 | [],[],_ => rfl
 | a :: r,b :: q,h => by
  simp only [eqL,Bool.and_eq_true] at h
  rw [eqS_iff.1 h.1,eqL_eq h.2]
 | [],_ :: _,h => by simp [eqL] at h
 | _ :: _,[],h => by simp [eqL] at h
theorem eqL_refl : ∀ a : List ByteArray,eqL a a = true
 | [] => rfl
 | a :: r => by
  simp only [eqL,Bool.and_eq_true]
  exact ⟨eqS_iff.2 rfl,eqL_refl r⟩
theorem eqL_len : ∀ {a b : List ByteArray},a.length ≠ b.length -> eqL a b = false
 | [],[],h => absurd rfl h
 | t :: r,t' :: r',h => by
  simp only [eqL]
  rw [eqL_len (a := r) (b := r') fun e => h (by simp [e]),Bool.and_false]
 | [],_ :: _,_ => rfl
 | _ :: _,[],_ => rfl
theorem eqL_differ {a b : List ByteArray} {j : Nat} (h : eqS (stAt a j) (stAt b j) = false) : eqL a b = false := by
 rcases hq : eqL a b with _ | _
 ·rfl
 ·rw [eqL_eq hq,eqS_iff.2 rfl] at h
  cases h
theorem eqL_all : ∀ {a b : List ByteArray},a.length = b.length -> (∀ j,j < a.length -> eqS (stAt a j) (stAt b j) = true) -> eqL a b = true
 | [],[],_,_ => rfl
 | t :: r,t' :: r',h,hj => by
  simp only [eqL,Bool.and_eq_true]
  exact ⟨hj 0 (Nat.zero_lt_succ _),eqL_all (by simpa using h) fun j hl => hj (j + 1) (Nat.succ_lt_succ hl)⟩
 | [],_ :: _,h,_ => by simp at h
 | _ :: _,[],h,_ => by simp at h
mutual
def sameT : Ty5 -> Ty5 -> Bool
 | .mk k n nm ls ks,.mk k' n' nm' ls' ks' => k == k' && (n == n' && (eqS nm nm' && (eqL ls ls' && sameL ks ks')))
def sameL : List Ty5 -> List Ty5 -> Bool
 | [],[] => true
 | t :: r,t' :: r' => sameT t t' && sameL r r'
 | [],_ :: _ => false
 | _ :: _,[] => false
end
mutual
theorem same_eq : ∀ {a b : Ty5},sameT a b = true -> a = b
 | .mk k n nm ls ks,.mk k' n' nm' ls' ks',h => by
  simp only [sameT,Bool.and_eq_true,beq_iff_eq] at h
  obtain ⟨rfl,rfl,h1,h2,h⟩ := h
  rw [eqS_iff.1 h1,eqL_eq h2,sameL_eq h]
theorem sameL_eq : ∀ {a b : List Ty5},sameL a b = true -> a = b
 | [],[],_ => rfl
 | t :: r,t' :: r',h => by
  simp only [sameL,Bool.and_eq_true] at h
  rw [same_eq h.1,sameL_eq h.2]
 | [],_ :: _,h => by simp [sameL] at h
 | _ :: _,[],h => by simp [sameL] at h
end
mutual
theorem same_refl : ∀ a : Ty5,sameT a a = true
 | .mk k n nm ls ks => by
  simp only [sameT,Bool.and_eq_true,beq_self_eq_true,true_and]
  exact ⟨eqS_iff.2 rfl,eqL_refl ls,sameL_refl ks⟩
theorem sameL_refl : ∀ a : List Ty5,sameL a a = true
 | [] => rfl
 | t :: r => by
  simp only [sameL,Bool.and_eq_true]
  exact ⟨same_refl t,sameL_refl r⟩
end
theorem sameL_len : ∀ {a b : List Ty5},a.length ≠ b.length -> sameL a b = false
 | [],[],h => absurd rfl h
 | t :: r,t' :: r',h => by
  simp only [sameL]
  rw [sameL_len (a := r) (b := r') fun e => h (by simp [e]),Bool.and_false]
 | [],_ :: _,_ => rfl
 | _ :: _,[],_ => rfl
theorem sameL_differ {a b : List Ty5} {j : Nat} (ha : j < a.length) (hb : j < b.length) (h : sameT (kAt a j) (kAt b j) = false) : sameL a b = false := by
 rcases hq : sameL a b with _ | _
 ·rfl
 ·rw [sameL_eq hq,same_refl] at h
  cases h
theorem sameL_all : ∀ {a b : List Ty5},a.length = b.length -> (∀ j,j < a.length -> sameT (kAt a j) (kAt b j) = true) -> sameL a b = true
 | [],[],_,_ => rfl
 | t :: r,t' :: r',h,hj => by
  simp only [sameL,Bool.and_eq_true]
  exact ⟨hj 0 (Nat.zero_lt_succ _),sameL_all (by simpa using h) fun j hl => hj (j + 1) (Nat.succ_lt_succ hl)⟩
 | [],_ :: _,h,_ => by simp at h
 | _ :: _,[],h,_ => by simp at h
theorem RowIn.at {w : World} {b off : Nat} {ks : List Ty5} {j : Nat} (h : RowIn w b off ks) (hj : j < ks.length) :
  ∃ v0 v1 v2 v3 v4,w.cell? ⟨b,off + j * 5,none⟩ = some v0 ∧ w.cell? ⟨b,off + j * 5 + 1,none⟩ = some v1 ∧ w.cell? ⟨b,off + j * 5 + 2,none⟩ = some v2 ∧ w.cell? ⟨b,off + j * 5 + 3,none⟩ = some v3 ∧ w.cell? ⟨b,off + j * 5 + 4,none⟩ = some v4 ∧ TyIn w (kAt ks j) v0 v1 v2 v3 v4 := by
 rw [kAt_get hj]
 exact h.get hj
end Go.Proofs.YtkoabcncdjmoeaaGreatDoor
