/- A row of fields (six cells each) that the call itself made: stores, what the sort asks and leaves; a row of types that the call itself made. -/
import Derived.Sort.OwnSorted
import Derived.Laws.OwnMore
import Derived.Test.YtkoabcncdjmoeaaGreatDoorNb
import Derived.Test.YtkoabcncdjmoeaaGreatDoorMw
set_option linter.unusedSimpArgs false
set_option linter.unusedVariables false
set_option maxRecDepth 1000000
set_option maxHeartbeats 40000000
namespace Go.Proofs.YtkoabcncdjmoeaaGreatDoor
open Go.RowKit Go.Sort
inductive All2 {α β : Type} (R : α -> β -> Prop) : List α -> List β -> Prop where
  | nil : All2 R [] []
  | cons {a : α} {b : β} {l : List α} {m : List β} : R a b -> All2 R l m -> All2 R (a :: l) (b :: m)
theorem All2.len {α β : Type} {R : α -> β -> Prop} {l : List α} {m : List β} (h : All2 R l m) : l.length = m.length := by
 induction h with
 | nil => rfl
 | cons _ _ ih => simp [ih]
theorem All2.perm {α β : Type} {R : α -> β -> Prop} {l l' : List α} (hp : l'.Perm l) : ∀ {m : List β},All2 R l m -> ∃ m',m'.Perm m ∧ All2 R l' m' := by
 induction hp with
 | nil => exact fun h => ⟨_,.refl _,h⟩
 | cons x _ ih =>
  intro m h
  cases h with
  | cons hx h =>
   obtain ⟨m',h1,h2⟩ := ih h
   exact ⟨_,h1.cons _,.cons hx h2⟩
 | swap x y l =>
  intro m h
  cases h with
  | cons hx h =>
   cases h with
   | cons hy h => exact ⟨_,.swap _ _ _,.cons hy (.cons hx h)⟩
 | trans _ _ ih1 ih2 =>
  intro m h
  obtain ⟨m1,h1,h2⟩ := ih2 h
  obtain ⟨m2,h3,h4⟩ := ih1 h2
  exact ⟨m2,h3.trans h1,h4⟩
theorem All2.get {α β : Type} {R : α -> β -> Prop} : ∀ {l : List α} {m : List β} (_ : All2 R l m) {j : Nat} (h1 : j < l.length) (h2 : j < m.length),R l[j] m[j]
 | _,_,.cons h _,0,_,_ => h
 | _,_,.cons _ h,j + 1,h1,h2 => h.get (j := j) (by simpa using h1) (by simpa using h2)
def FVIs (w : World) (x : FV) (p : ByteArray × Ty5) : Prop := x.lb = p.1 ∧ TyIn w p.2 (.int .i64 x.k) (.int .i64 x.n) (.string x.nm) (.slice x.a x.l x.c) (.slice x.a' x.l' x.c')
theorem enc_len (x : FV) : x.enc.length = 6 := rfl
theorem flat_len (d : List FV) : (d.flatMap FV.enc).length = d.length * 6 := by
 induction d with
 | nil => rfl
 | cons x r ih =>
  simp only [List.flatMap_cons,List.length_append,enc_len,ih,List.length_cons]
  omega
theorem flat_set : ∀ (d : List FV) (i : Nat) (x : FV),i < d.length ->
  ((((((d.flatMap FV.enc).set (i * 6) (.string x.lb)).set (i * 6 + 1) (.int .i64 x.k)).set (i * 6 + 2) (.int .i64 x.n)).set (i * 6 + 3) (.string x.nm)).set (i * 6 + 4) (.slice x.a x.l x.c)).set (i * 6 + 5) (.slice x.a' x.l' x.c') = (d.set i x).flatMap FV.enc
 | [],i,x,h => by simp at h
 | y :: r,0,x,_ => by simp [FV.enc]
 | y :: r,i + 1,x,h => by
  have ih := flat_set r i x (by simpa using h)
  have e0 : (i + 1) * 6 = i * 6 + 1 + 1 + 1 + 1 + 1 + 1 := by omega
  have e1 : (i + 1) * 6 + 1 = i * 6 + 1 + 1 + 1 + 1 + 1 + 1 + 1 := by omega
  have e2 : (i + 1) * 6 + 2 = i * 6 + 2 + 1 + 1 + 1 + 1 + 1 + 1 := by omega
  have e3 : (i + 1) * 6 + 3 = i * 6 + 3 + 1 + 1 + 1 + 1 + 1 + 1 := by omega
  have e4 : (i + 1) * 6 + 4 = i * 6 + 4 + 1 + 1 + 1 + 1 + 1 + 1 := by omega
  have e5 : (i + 1) * 6 + 5 = i * 6 + 5 + 1 + 1 + 1 + 1 + 1 + 1 := by omega
  rw [e1,e2,e3,e4,e5,e0]
  simp only [List.flatMap_cons,List.set_cons_succ]
  simp only [FV.enc,List.cons_append,List.nil_append,List.set_cons_succ]
  rw [← ih]
theorem flat_getF : ∀ (d : List FV) (i c : Nat),(h : i < d.length) -> c < 6 -> (d.flatMap FV.enc)[i * 6 + c]? = d[i].enc[c]?
 | [],i,c,h,_ => by simp at h
 | y :: r,0,c,_,hc => by
  simp only [List.flatMap_cons,Nat.zero_mul,Nat.zero_add,List.getElem_cons_zero]
  rw [List.getElem?_append_left (by rw [enc_len];exact hc)]
 | y :: r,i + 1,c,h,hc => by
  have ih := flat_getF r i c (by simpa using h) hc
  have e : (i + 1) * 6 + c = i * 6 + c + 6 := by omega
  rw [e]
  simp only [List.flatMap_cons,List.getElem_cons_succ]
  rw [List.getElem?_append_right (by rw [enc_len];omega),enc_len,Nat.add_sub_cancel]
  exact ih
theorem holds_row {w : World} {base e n c g : Nat} {d : List FV} (h : w.ownsRow base e 6 (.slice (some ⟨g,0,none⟩) n c) n (d.flatMap FV.enc)) (hd : d.length = n) : HoldsK FV.enc 6 w g 0 d.toArray := by
 intro j hj
 have hj' : j < d.length * 6 := by simpa using hj
 refine ⟨?_,by rw [Nat.zero_add];exact h.frozenAt j⟩
 have hc : j / 6 < d.length := by omega
 rw [Nat.zero_add,h.cellAt j (by rw [← hd];exact hj'),get_flatK _ _ _ _ (by simpa using hj')]
 have := flat_getF d (j / 6) (j % 6) hc (by omega)
 rw [show j / 6 * 6 + j % 6 = j by omega] at this
 rw [this]
 have e1 : d.toArray[j / 6]! = d[j / 6] := by
  rw [getElem!_pos _ _ (by simpa using hc)]
  simp
 rw [e1]
 have hl : j % 6 < (d[j / 6]).enc.length := by rw [enc_len];omega
 rw [List.getElem?_eq_getElem hl]
 congr 1
 exact (getElem!_pos (d[j / 6].enc) (j % 6) hl).symm
theorem grownBy_sortedK {w : World} {g n : Nat} {os : Array Obj} (d : Array FV) : w.grownBy (sortWorldK FV.enc 6 w g 0 n d os) (some g) := by
 unfold sortWorldK putRowK
 refine ⟨rfl,rfl,rfl,by simp [putRow,mapBlock,Sort.ahead,grow],fun k hk hne => ?_⟩
 rw [heap_grow_old _ _ (by simpa [putRow,mapBlock,Sort.ahead] using hk)]
 have : g ≠ k := fun e => hne (by rw [e])
 simp [putRow,mapBlock,Sort.ahead,Array.getElem?_modify,this]
end Go.Proofs.YtkoabcncdjmoeaaGreatDoor
