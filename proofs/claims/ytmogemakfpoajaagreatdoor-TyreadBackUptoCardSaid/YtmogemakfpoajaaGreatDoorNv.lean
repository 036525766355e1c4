/- Parts of the proof: BkM, BkR, BkU, BkL, BkP. -/
import Derived.Test.YtmogemakfpoajaaGreatDoorMo
import Derived.Test.YtmogemakfpoajaaGreatDoorNn
import Derived.Test.YtmogemakfpoajaaGreatDoorMp
import Derived.Test.YtmogemakfpoajaaGreatDoorNo
import Derived.Test.YtmogemakfpoajaaGreatDoorMq
import Derived.Test.YtmogemakfpoajaaGreatDoorNx
import Derived.Test.YtmogemakfpoajaaGreatDoorNg
set_option linter.unusedSimpArgs false
set_option linter.unusedVariables false
set_option maxRecDepth 1000000
set_option maxHeartbeats 40000000
namespace Go.Proofs.YtmogemakfpoajaaGreatDoor
open Go.RowKit
abbrev KS := Int × List UInt8
def lexP (l : List UInt8) (p : Nat) (acc : List Tk) : Out := lexF (l.length + 1) l p acc
theorem lexP_fuel {f : Nat} {l : List UInt8} {p : Nat} {acc : List Tk} (h : l.length < f) : lexF f l p acc = lexP l p acc := lexF_fuel f _ l p acc h (Nat.lt_succ_self _)
def ksOf (x : Tk) : KS := (x.k,x.t)
def Good (r : List UInt8) : Prop := ∀ c q,r = c :: q -> alnB (c.toNat : Int) = false
theorem good_nil : Good [] := fun c q h => by cases h
theorem good_cons {c : UInt8} {q : List UInt8} (h : alnB (c.toNat : Int) = false) : Good (c :: q) := fun d q' e => by cases e;exact h
def LxA (x : List UInt8) (tk : List KS) : Prop := ∀ (r : List UInt8) (p : Nat) (acc : List Tk),∃ ts : List Tk,ts.map ksOf = tk ∧ lexP (x ++ r) p acc = lexP r (p + x.length) (acc ++ ts)
def LxG (x : List UInt8) (tk : List KS) : Prop := ∀ (r : List UInt8) (p : Nat) (acc : List Tk),Good r -> ∃ ts : List Tk,ts.map ksOf = tk ∧ lexP (x ++ r) p acc = lexP r (p + x.length) (acc ++ ts)
theorem LxA.g {x : List UInt8} {tk : List KS} (h : LxA x tk) : LxG x tk := fun r p acc _ => h r p acc
theorem lx_join {x y r : List UInt8} {tk tk' : List KS} {p : Nat} {acc : List Tk} (h1 : ∃ ts : List Tk,ts.map ksOf = tk ∧ lexP (x ++ (y ++ r)) p acc = lexP (y ++ r) (p + x.length) (acc ++ ts))
  (h2 : ∀ acc,∃ ts : List Tk,ts.map ksOf = tk' ∧ lexP (y ++ r) (p + x.length) acc = lexP r (p + x.length + y.length) (acc ++ ts)) : ∃ ts : List Tk,ts.map ksOf = tk ++ tk' ∧ lexP (x ++ y ++ r) p acc = lexP r (p + (x ++ y).length) (acc ++ ts) := by
 obtain ⟨ts,e1,e2⟩ := h1
 obtain ⟨ts',e3,e4⟩ := h2 (acc ++ ts)
 exact ⟨ts ++ ts',by rw [List.map_append,e1,e3],by rw [List.append_assoc,e2,e4,List.length_append,Nat.add_assoc,List.append_assoc]⟩
theorem LxA.a {x y : List UInt8} {tk tk' : List KS} (h : LxA x tk) (h' : LxA y tk') : LxA (x ++ y) (tk ++ tk') := fun r _ _ => lx_join (h _ _ _) fun _ => h' r _ _
theorem LxA.gg {x y : List UInt8} {tk tk' : List KS} (h : LxA x tk) (h' : LxG y tk') : LxG (x ++ y) (tk ++ tk') := fun r _ _ hr => lx_join (h _ _ _) fun _ => h' r _ _ hr
theorem LxG.a {x y : List UInt8} {tk tk' : List KS} (h : LxG x tk) {c : UInt8} {q : List UInt8} (hy : y = c :: q) (hc : alnB (c.toNat : Int) = false) (h' : LxA y tk') : LxA (x ++ y) (tk ++ tk') := fun r _ _ => lx_join (h _ _ _ (by rw [hy];exact good_cons hc)) fun _ => h' r _ _
theorem lx_blank : LxA [32] [] := fun r p acc => ⟨[],rfl,by
 show lexF (r.length + 1 + 1) (32 :: r) p acc = lexP r (p + 1) (acc ++ [])
 have h : gapN false (32 :: r) = 1 + gapN false r := by
  show (if blankB ((32 : UInt8).toNat : Int) = true then gapN false r + 1 else _) = _
  rw [if_pos (by decide),Nat.add_comm]
 have e : lexF (r.length + 1 + 1) (32 :: r) p acc = lexF (r.length + 1 + 1) r (p + 1) acc := by
  have hd : itemE ((32 :: r).drop (gapN false (32 :: r))) = itemE (r.drop (gapN false r)) := by
   rw [h,Nat.add_comm,List.drop_succ_cons]
  cases hit : itemE (r.drop (gapN false r)) with
  | bad c o => rw [lexF_bad (hd.trans hit),lexF_bad hit,h,Nat.add_assoc p 1]
  | tok k n t wd =>
   rcases Bool.eq_false_or_eq_true (k == 0) with hk | hk
   ·rw [lexF_end (hd.trans hit) hk,lexF_end hit hk,h,Nat.add_assoc p 1]
   ·rw [lexF_tok (hd.trans hit) hk,lexF_tok hit hk,h,Nat.add_assoc p 1,show 1 + gapN false r + wd = (gapN false r + wd) + 1 by omega,List.drop_succ_cons]
 rw [e,lexP_fuel (by omega),List.append_nil]⟩
theorem lx_tok {x r : List UInt8} {k : Int} {p : Nat} {acc : List Tk} (h0 : 0 < x.length) (hg : gapN false (x ++ r) = 0) (h : itemE (x ++ r) = .tok k 0 x x.length) (hk : k ≠ 0) : ∃ ts : List Tk,ts.map ksOf = [(k,x)] ∧ lexP (x ++ r) p acc = lexP r (p + x.length) (acc ++ ts) := by
 refine ⟨[⟨k,0,x,p⟩],rfl,?_⟩
 have hit : itemE ((x ++ r).drop (gapN false (x ++ r))) = .tok k 0 x x.length := by rw [hg,List.drop_zero];exact h
 unfold lexP
 rw [lexF_tok hit (by simpa using hk),hg,Nat.zero_add,Nat.add_zero,List.drop_left' rfl]
 exact lexF_fuel _ _ _ _ _ (by rw [List.length_append];omega) (Nat.lt_succ_self _)
theorem gap_zero {c : UInt8} {q : List UInt8} (h1 : blankB (c.toNat : Int) = false) (h2 : ((c.toNat : Int) == 59) = false) : gapN false (c :: q) = 0 := by
 show (if blankB (c.toNat : Int) = true then _ else if ((c.toNat : Int) == 59) = true then _ else 0) = 0
 rw [h1,h2]
 try rfl
theorem itemE_cons (c : UInt8) (q : List UInt8) : itemE (c :: q) = itemI (c :: q) := by
 unfold itemE
 rw [if_neg (by simp)]
theorem item_sign {c : UInt8} {q : List UInt8} (h1 : digB (c.toNat : Int) = false) (h2 : letB (c.toNat : Int) = false) (h3 : ((c.toNat : Int) == 34) = false) : itemE (c :: q) = signI (c :: q) := by
 have e : bI (c :: q) 0 = (c.toNat : Int) := rfl
 rw [itemE_cons]
 unfold itemI
 rw [e,h1,h2,h3]
 try rfl
theorem two_not {c : UInt8} (h : c ≠ 61 ∧ c ≠ 45 ∧ c ≠ 60 ∧ c ≠ 43) (q : List UInt8) : twoB (c :: q) = false := by
 obtain ⟨h1,h2,h3,h4⟩ := h
 unfold twoB
 cases q with
 | nil => simp
 | cons d q' => simp [h1,h2,h3,h4]
theorem lx_one (c : UInt8) (h : c = 63 ∨ c = 40 ∨ c = 41 ∨ c = 123 ∨ c = 125 ∨ c = 44 ∨ c = 58) : LxA [c] [(5,[c])] := fun r p acc => by
 refine lx_tok (by simp) ?_ ?_ (by decide)
 ·show gapN false (c :: r) = 0
  rcases h with rfl | rfl | rfl | rfl | rfl | rfl | rfl <;> exact gap_zero (by decide) (by decide)
 ·show itemE (c :: r) = _
  have h1 : twoB (c :: r) = false := two_not (by rcases h with rfl | rfl | rfl | rfl | rfl | rfl | rfl <;> decide) r
  have h2 : oneB (c.toNat : Int) = true := by rcases h with rfl | rfl | rfl | rfl | rfl | rfl | rfl <;> decide
  have e : bI (c :: r) 0 = (c.toNat : Int) := rfl
  have h3 : sgnW (c :: r) = 1 := by
   unfold sgnW
   rw [h1,e,h2,Bool.and_false]
   try rfl
  have h4 : itemE (c :: r) = signI (c :: r) := by rcases h with rfl | rfl | rfl | rfl | rfl | rfl | rfl <;> exact item_sign (by decide) (by decide) (by decide)
  rw [h4]
  unfold signI
  rw [h3]
  try rfl
theorem lx_arrow : LxA [45,62] [(5,[45,62])] := fun r p acc => by
 refine lx_tok (by simp) ?_ ?_ (by decide)
 ·exact gap_zero (by decide) (by decide)
 ·show itemE (45 :: 62 :: r) = _
  have h1 : twoB (45 :: 62 :: r) = true := by simp [twoB]
  have h3 : sgnW (45 :: 62 :: r) = 2 := by
   unfold sgnW
   rw [h1,if_pos (by simp)]
  rw [item_sign (by decide) (by decide) (by decide)]
  unfold signI
  rw [h3]
  try rfl
theorem lx_to : LxA [32,45,62,32] [(5,[45,62])] := (lx_blank.a lx_arrow).a lx_blank
theorem lx_comma : LxA [44,32] [(5,[44])] := (lx_one 44 (by decide)).a lx_blank
theorem lx_colon : LxA [58,32] [(5,[58])] := (lx_one 58 (by decide)).a lx_blank
theorem run_word {w r : List UInt8} (hw : ∀ c ∈ w,alnB (c.toNat : Int) = true) (hr : Good r) : runN alnB (w ++ r) = w.length := by
 induction w with
 | nil =>
  cases r with
  | nil => rfl
  | cons c q =>
   show (if alnB (c.toNat : Int) = true then _ else 0) = 0
   rw [hr c q rfl]
   try rfl
 | cons a w ih =>
  show (if alnB (a.toNat : Int) = true then runN alnB (w ++ r) + 1 else 0) = _
  rw [hw a (List.mem_cons_self ..),ih fun c hc => hw c (List.mem_cons_of_mem _ hc)]
  try rfl
theorem kind_word {w : List UInt8} (h : kindI w = 1 ∨ kindI w = 2) : w.length ≤ 8 ∧ ∃ a r,w = a :: r ∧ letB (a.toNat : Int) = true ∧ ∀ c ∈ w,alnB (c.toNat : Int) = true := by
 unfold kindI at h
 rcases kept_vals w with hk | hk | hk
 ·rw [if_pos hk] at h
  by_cases h8 : 8 < w.length
  ·rw [if_pos h8] at h
   omega
  ·rw [if_neg h8] at h
   refine ⟨by omega,?_⟩
   cases w with
   | nil => simp [shapeI] at h
   | cons a r =>
    simp only [shapeI] at h
    by_cases ha : r.all (fun c => contB (begunI (a.toNat : Int)) (c.toNat : Int)) = true
    ·rw [if_pos ha] at h
     have hl : letB (a.toNat : Int) = true := by
      unfold begunI at h
      unfold letB
      by_cases h1 : lowB (a.toNat : Int) = true
      ·rw [h1];rfl
      ·rw [if_neg h1] at h
       by_cases h2 : upB (a.toNat : Int) = true
       ·rw [h2,Bool.or_true]
       ·rw [if_neg h2] at h
        omega
     refine ⟨a,r,rfl,hl,fun c hc => ?_⟩
     rcases List.mem_cons.1 hc with rfl | hc
     ·unfold alnB
      rw [hl,Bool.true_or]
     ·have := List.all_eq_true.1 ha c hc
      unfold contB at this
      unfold alnB letB
      simp only [Bool.or_eq_true,Bool.and_eq_true] at this ⊢
      rcases this with ⟨_,h1⟩ | ⟨_,h1 | h1⟩
      ·exact .inl (.inr h1)
      ·exact .inl (.inl h1)
      ·exact .inr h1
    ·rw [if_neg ha] at h
     omega
 ·rw [if_neg (by omega),hk] at h
  omega
 ·rw [if_neg (by omega),hk] at h
  omega
theorem lx_word {w : List UInt8} {k : Int} (h8 : w.length ≤ 8) {a : UInt8} {q : List UInt8} (hw : w = a :: q) (hl : letB (a.toNat : Int) = true) (ha : ∀ c ∈ w,alnB (c.toNat : Int) = true) (hk : k ≠ 0)
  (hkind : (k = 3 ∧ kindI w = 1) ∨ (k = 4 ∧ (kindI w = 2 ∨ kindI w = 4))) : LxG w [(k,w)] := fun r p acc hr => by
 have hrun := run_word ha hr
 have e : bI (w ++ r) 0 = (a.toNat : Int) := by rw [hw];rfl
 have hlet : 65 ≤ (a.toNat : Int) ∧ (a.toNat : Int) ≤ 122 := by
  unfold letB lowB upB at hl
  simp only [Bool.or_eq_true,Bool.and_eq_true,decide_eq_true_eq] at hl
  omega
 have hdig : digB (a.toNat : Int) = false := by
  unfold digB
  simp only [Bool.and_eq_false_iff,decide_eq_false_iff_not]
  omega
 refine lx_tok (by rw [hw];simp) ?_ ?_ hk
 ·rw [hw]
  refine gap_zero ?_ (by simp only [beq_eq_false_iff_ne];omega)
  unfold blankB
  simp only [Bool.or_eq_false_iff,beq_eq_false_iff_ne]
  omega
 ·rw [hw,List.cons_append,itemE_cons,← List.cons_append,← hw]
  unfold itemI
  rw [e,hdig,hl]
  simp only [Bool.false_eq_true,if_false,if_true]
  unfold wordI
  rw [hrun,if_neg (by omega),List.take_left' rfl]
  rcases hkind with ⟨rfl,h1⟩ | ⟨rfl,h1 | h1⟩ <;> rw [h1] <;> rfl
theorem lx_var {s : ByteArray} (h : varB s = true) : LxG s.data.toList [(4,s.data.toList)] := by
 have h : kindI s.data.toList = 2 := by simpa [varB] using h
 obtain ⟨h8,a,q,hw,hl,ha⟩ := kind_word (.inr h)
 exact lx_word h8 hw hl ha (by decide) (.inr ⟨rfl,.inl h⟩)
theorem lx_label {s : ByteArray} (h : fineB s = true) : LxG s.data.toList [(3,s.data.toList)] := by
 have h : kindI s.data.toList = 1 := by simpa [fineB] using h
 obtain ⟨h8,a,q,hw,hl,ha⟩ := kind_word (.inl h)
 exact lx_word h8 hw hl ha (by decide) (.inl ⟨rfl,h⟩)
theorem lx_int : LxG [73,110,116] [(4,[73,110,116])] := lx_word (by decide) rfl (by decide) (by decide) (by decide) (.inr ⟨rfl,.inr (by decide)⟩)
theorem lx_bool : LxG [66,111,111,108] [(4,[66,111,111,108])] := lx_word (by decide) rfl (by decide) (by decide) (by decide) (.inr ⟨rfl,.inr (by decide)⟩)
theorem lx_str : LxG [83,116,114,105,110,103] [(4,[83,116,114,105,110,103])] := lx_word (by decide) rfl (by decide) (by decide) (by decide) (.inr ⟨rfl,.inr (by decide)⟩)
theorem lx_top : LxG [84,111,112] [(4,[84,111,112])] := lx_word (by decide) rfl (by decide) (by decide) (by decide) (.inr ⟨rfl,.inr (by decide)⟩)
def recK (ls : List ByteArray) (tks : List (List KS)) : Nat -> List KS
 | 0 => [(5,[123])]
 | j + 1 => (if j = 0 then [(5,[123])] else recK ls tks j ++ [(5,[44])]) ++ [(3,(stAt ls j).data.toList)] ++ [(5,[58])] ++ tks.getD j []
def combK (k : Int) (nm : ByteArray) (ls : List ByteArray) (kinds : List Int) (tks : List (List KS)) : List KS :=
 if k = 1 then [(4,[73,110,116])] else if k = 2 then [(4,[66,111,111,108])] else if k = 3 then [(4,[83,116,114,105,110,103])] else if k = 4 then [(4,[84,111,112])] else if k = 5 then [(5,[63])]
 else if k = 6 then [(4,nm.data.toList)]
 else if k = 7 then (if kinds.getD 0 0 = 7 then [(5,[40])] ++ tks.getD 0 [] ++ [(5,[41])] else tks.getD 0 []) ++ [(5,[45,62])] ++ tks.getD 1 []
 else recK ls tks tks.length ++ [(5,[125])]
mutual
def tkl : Ty5 -> List KS
 | .mk k _ nm ls ks => combK k nm ls (ks.map kT) (tklL ks)
def tklL : List Ty5 -> List (List KS)
 | [] => []
 | t :: r => tkl t :: tklL r
end
theorem tklL_map : ∀ ks : List Ty5,tklL ks = ks.map tkl
 | [] => rfl
 | t :: r => by simp [tklL,tklL_map r]
theorem head_all {k n : Int} {nm : ByteArray} {ls : List ByteArray} {len : Nat} (h : headB varB risingB k n nm ls len = true) (h9 : k ≠ 9) :
  ((1 ≤ k ∧ k ≤ 5) ∧ len = 0 ∧ n = 0 ∧ nm = ⟨#[]⟩ ∧ ls = []) ∨ (k = 6 ∧ varB nm = true ∧ len = 0 ∧ n = 0 ∧ ls = []) ∨ (k = 7 ∧ len = 2 ∧ n = 0 ∧ nm = ⟨#[]⟩ ∧ ls = []) ∨ (k = 8 ∧ risingB ls = true ∧ ls.length = len ∧ n = 0 ∧ nm = ⟨#[]⟩) := by
 have hnm : nm.toList = [] -> nm = ⟨#[]⟩ := fun h => eqS_iff.1 (by unfold eqS;rw [h];decide +kernel)
 unfold headB at h
 split at h
 ·cases h
 ·rename_i h0
  have h0 : (k = 6 ∨ nm.toList = []) ∧ n = 0 ∧ (k = 8 ∨ ls.length = 0) := by
   refine ⟨?_,?_,?_⟩
   ·by_cases h1 : k = 6
    ·exact .inl h1
    ·refine .inr (Classical.byContradiction fun h2 => h0 (.inl ⟨h1,h2⟩))
   ·exact Classical.byContradiction fun h2 => h0 (.inr (.inl ⟨h9,h2⟩))
   ·by_cases h1 : k = 8
    ·exact .inl h1
    ·refine .inr (Classical.byContradiction fun h2 => h0 (.inr (.inr ⟨h1,by omega⟩)))
  obtain ⟨g1,g2,g3⟩ := h0
  have gl : k ≠ 8 -> ls = [] := fun h => List.eq_nil_of_length_eq_zero (g3.resolve_left h)
  split at h
  ·rename_i h1
   exact .inl ⟨h1,by simpa using h,g2,hnm (g1.resolve_left (by omega)),gl (by omega)⟩
  ·split at h
   ·rename_i h1
    simp only [Bool.and_eq_true,beq_iff_eq] at h
    exact .inr (.inl ⟨h1,h.1,by omega,g2,gl (by omega)⟩)
   ·split at h
    ·rename_i h1
     exact .inr (.inr (.inl ⟨h1,by have h2 : (len : Int) = 2 := (by simpa using h);omega,g2,hnm (g1.resolve_left (by omega)),gl (by omega)⟩))
    ·simp only [Bool.and_eq_true,decide_eq_true_eq,beq_iff_eq] at h
     exact .inr (.inr (.inr ⟨h.1,h.2.1,by omega,g2,hnm (g1.resolve_left (by omega))⟩))
theorem lx_rec {ls : List ByteArray} {ts : List (List UInt8)} {tks : List (List KS)} {n : Nat} (hls : ∀ j,j < n -> fineB (stAt ls j) = true) (hts : ∀ j,j < n -> LxG (ts.getD j []) (tks.getD j [])) : ∀ j,j ≤ n -> LxG (recX [123] ls ts j) (recK ls tks j)
 | 0,_ => (lx_one 123 (by decide)).g
 | j + 1,hj => by
  have ih := lx_rec hls hts j (by omega)
  have h0 : LxA (if j = 0 then [123] else recX [123] ls ts j ++ [44,32]) (if j = 0 then [(5,[123])] else recK ls tks j ++ [(5,[44])]) := by
   by_cases hj0 : j = 0
   ·rw [if_pos hj0,if_pos hj0]
    exact lx_one 123 (by decide)
   ·rw [if_neg hj0,if_neg hj0]
    exact ih.a rfl (by decide) lx_comma
  exact ((h0.gg (lx_label (hls j (by omega)))).a rfl (by decide) lx_colon).gg (hts j (by omega))
theorem rising_fineB {ls : List ByteArray} (h : risingB ls = true) {j : Nat} (hj : j < ls.length) : fineB (stAt ls j) = true := by
 simp only [risingB,List.all_eq_true,List.mem_range] at h
 have := h j hj
 unfold upAt at this
 simp only [Bool.and_eq_true] at this
 exact this.1
mutual
theorem lx_type : ∀ t : Ty5,rightT varB risingB t = true -> hasT 9 t = false -> LxG (showT t) (tkl t)
 | .mk k n nm ls ks,hr,h9 => by
  simp only [rightT,Bool.and_eq_true] at hr
  simp only [hasT,Bool.or_eq_false_iff,beq_eq_false_iff_ne] at h9
  have hk := lx_types ks hr.1 h9.2
  simp only [showT,tkl,showL_map,tklL_map]
  rcases head_all hr.2 h9.1 with ⟨h1,h5,-⟩ | ⟨rfl,h1,-⟩ | ⟨rfl,h1,-⟩ | ⟨rfl,h1,h2,-⟩
  ·rcases (by omega : k = 1 ∨ k = 2 ∨ k = 3 ∨ k = 4 ∨ k = 5) with rfl | rfl | rfl | rfl | rfl
   ·exact lx_int
   ·exact lx_bool
   ·exact lx_str
   ·exact lx_top
   ·exact (lx_one 63 (by decide)).g
  ·exact lx_var h1
  ·match ks,h1 with
   | [a,b],_ =>
    have ha := hk a (by simp)
    have hb := hk b (by simp)
    show LxG ((if kT a = 7 then [40] ++ showT a ++ [41] else showT a) ++ [32,45,62,32] ++ showT b) ((if kT a = 7 then [(5,[40])] ++ tkl a ++ [(5,[41])] else tkl a) ++ [(5,[45,62])] ++ tkl b)
    by_cases h7 : kT a = 7
    ·rw [if_pos h7,if_pos h7]
     exact ((((lx_one 40 (by decide)).gg ha).a rfl (by decide) (lx_one 41 (by decide))).a lx_to).gg hb
    ·rw [if_neg h7,if_neg h7]
     exact (ha.a rfl (by decide) lx_to).gg hb
  ·have hts : ∀ j,j < ks.length -> LxG ((ks.map showT).getD j []) ((ks.map tkl).getD j []) := fun j hj => by
    have e1 : (ks.map showT).getD j [] = showT ks[j] := by simp [List.getD,hj]
    have e2 : (ks.map tkl).getD j [] = tkl ks[j] := by simp [List.getD,hj]
    rw [e1,e2]
    exact hk _ (List.getElem_mem hj)
   have := lx_rec (n := ks.length) (fun j hj => rising_fineB h1 (by omega)) hts ks.length (Nat.le_refl _)
   show LxG (recX [123] ls (ks.map showT) (ks.map showT).length ++ [125]) (recK ls (ks.map tkl) (ks.map tkl).length ++ [(5,[125])])
   rw [List.length_map,List.length_map]
   exact (this.a rfl (by decide) (lx_one 125 (by decide))).g
theorem lx_types : ∀ ks : List Ty5,rightL varB risingB ks = true -> hasL 9 ks = false -> ∀ t ∈ ks,LxG (showT t) (tkl t)
 | [],_,_,t,h => absurd h List.not_mem_nil
 | a :: r,hr,h9,t,h => by
  simp only [rightL,Bool.and_eq_true] at hr
  simp only [hasL,Bool.or_eq_false_iff] at h9
  rcases List.mem_cons.1 h with h1 | h1
  ·rw [h1]
   exact lx_type a hr.1 h9.1
  ·exact lx_types r hr.2 h9.2 t h1
end
theorem lex_shown (t : Ty5) (hr : rightT varB risingB t = true) (h9 : hasT 9 t = false) (hlen : (showT t).length ≤ 65536) : ∃ (ts : List Tk) (a : Nat),ts.map ksOf = tkl t ∧ lexAll (showT t) = .ok (ts ++ [⟨0,0,[],a⟩]) := by
 obtain ⟨ts,h1,h2⟩ := lx_type t hr h9 [] 0 [] good_nil
 refine ⟨ts,(showT t).length,h1,?_⟩
 rw [List.append_nil] at h2
 unfold lexAll lexL
 rw [if_neg (by omega)]
 show lexP (showT t) 0 [] = _
 rw [h2]
 simp [lexP,lexF,gapN,itemE]
theorem bT_data (s : ByteArray) : bT s.data.toList = s := by
 cases s
 simp [bT]
def AtK (l : List Tkn) (i : Int) (tk : List KS) : Prop := ∀ (j : Nat) (x : KS),tk[j]? = some x -> (tokT l (i + j)).k = x.1 ∧ (tokT l (i + j)).s = bT x.2
section
variable {l : List Tkn} {i : Int} {a b r : List KS}
theorem AtK.left (h : AtK l i (a ++ b)) : AtK l i a := fun j x hx => h j x (by
 rw [List.getElem?_append_left (List.getElem?_eq_some_iff.1 hx).1]
 exact hx)
theorem AtK.right (h : AtK l i (a ++ b)) : AtK l (i + a.length) b := fun j x hx => by
 have := h (a.length + j) x (by rw [List.getElem?_append_right (by omega),Nat.add_sub_cancel_left];exact hx)
 rw [show i + (a.length : Int) + (j : Int) = i + ((a.length + j : Nat) : Int) by omega]
 exact this
theorem AtK.one {x : KS} (h : AtK l i (x :: r)) : (tokT l i).k = x.1 ∧ (tokT l i).s = bT x.2 := by
 have := h 0 x rfl
 simpa using this
theorem AtK.sign {x : List UInt8} (h : AtK l i ((5,x) :: r)) (s : ByteArray) : isT l i s = decide (bT x = s) := by
 obtain ⟨h1,h2⟩ := h.one
 unfold isT
 rw [h1,h2]
 simp
theorem AtK.noSign {k : Int} {x : List UInt8} (h : AtK l i ((k,x) :: r)) (hk : k ≠ 5) (s : ByteArray) : isT l i s = false := by
 obtain ⟨h1,h2⟩ := h.one
 unfold isT
 rw [h1]
 simp [hk]
end
def maxN : List Nat -> Nat
 | [] => 0
 | a :: r => max a (maxN r)
theorem maxN_mem : ∀ {l : List Nat} {a : Nat},a ∈ l -> a ≤ maxN l
 | b :: r,a,h => by
  rcases List.mem_cons.1 h with rfl | h
  ·exact Nat.le_max_left ..
  ·exact Nat.le_trans (maxN_mem h) (Nat.le_max_right ..)
theorem maxN_le : ∀ {l : List Nat} {m : Nat},(∀ a ∈ l,a ≤ m) -> maxN l ≤ m
 | [],m,_ => Nat.zero_le _
 | b :: r,m,h => Nat.max_le.2 ⟨h b (List.mem_cons_self ..),maxN_le fun a ha => h a (List.mem_cons_of_mem _ ha)⟩
def needC (k : Int) (kinds : List Int) (ns : List Nat) : Nat :=
 if k = 7 then 1 + max (if kinds.getD 0 0 = 7 then ns.getD 0 0 else ns.getD 0 0 - 1) (ns.getD 1 0) else 1 + maxN ns
mutual
def needT : Ty5 -> Nat
 | .mk k _ _ _ ks => needC k (ks.map kT) (needL ks)
def needL : List Ty5 -> List Nat
 | [] => []
 | t :: r => needT t :: needL r
end
theorem needL_map : ∀ ks : List Ty5,needL ks = ks.map needT
 | [] => rfl
 | t :: r => by simp [needL,needL_map r]
theorem need_pos (t : Ty5) : 1 ≤ needT t := by
 obtain ⟨k,n,nm,ls,ks⟩ := t
 simp only [needT,needC]
 split <;> omega
theorem getD_le {ns : List Nat} {m : Nat} (h : ∀ a ∈ ns,a ≤ m) (j : Nat) : ns.getD j 0 ≤ m := by
 rw [List.getD]
 cases hx : ns[j]? with
 | none => exact Nat.zero_le _
 | some a => exact h a (List.mem_of_getElem? hx)
mutual
theorem need_depth : ∀ t : Ty5,needT t ≤ depthT t
 | .mk k n nm ls ks => by
  have h := needs_depth ks
  simp only [needT,needL_map,depthT]
  have h' : ∀ a ∈ ks.map needT,a ≤ depthL ks := fun a ha => by
   obtain ⟨t,ht,e⟩ := List.mem_map.1 ha
   rw [← e]
   exact h t ht
  unfold needC
  split
  ·have h0 := getD_le h' 0
   have h1 := getD_le h' 1
   split <;> omega
  ·have := maxN_le h'
   omega
theorem needs_depth : ∀ ks : List Ty5,∀ t ∈ ks,needT t ≤ depthL ks
 | [],t,h => absurd h List.not_mem_nil
 | a :: r,t,h => by
  simp only [depthL]
  rcases List.mem_cons.1 h with h1 | h1
  ·rw [h1]
   exact Nat.le_trans (need_depth a) (Nat.le_max_left ..)
  ·exact Nat.le_trans (needs_depth r t h1) (Nat.le_max_right ..)
end
theorem mean_var {s : ByteArray} (h : varB s = true) : meanT s = some (.mk 6 0 s [] []) := by
 have h2 : kindI s.data.toList = 2 := by simpa [varB] using h
 have hne : ∀ w : ByteArray,kindI w.data.toList = 4 -> s ≠ w := fun w hw e => by
  rw [e,hw] at h2
  cases h2
 unfold meanT
 rw [if_neg (hne _ (by decide)),if_neg (hne _ (by decide)),if_neg (hne _ (by decide)),if_neg (hne _ (by decide)),if_pos h]
theorem word_reads {l : List Tkn} {i : Int} {w : List UInt8} {u : Ty5} {rd : Int -> Rs} (h : AtK l i [(4,w)]) (hm : meanT (bT w) = some u) : simpleS recT rd l i = .ok u (i + 1) := by
 obtain ⟨h1,h2⟩ := h.one
 unfold simpleS
 rw [h.noSign (by decide),h.noSign (by decide),h.noSign (by decide)]
 simp only [Bool.false_eq_true,if_false]
 unfold wordS
 rw [h1,h2]
 simp only [if_true,hm]
def recY5 (ls : List ByteArray) (tks : List (List KS)) (j : Nat) : List KS := if j = 0 then [(5,[123])] else recK ls tks j ++ [(5,[44])]
theorem recK_succ (ls : List ByteArray) (tks : List (List KS)) (j : Nat) : recK ls tks (j + 1) = recY5 ls tks j ++ [(3,(stAt ls j).data.toList)] ++ [(5,[58])] ++ tks.getD j [] := rfl
theorem recK_pre (ls : List ByteArray) (tks : List (List KS)) : ∀ (d j : Nat),∃ s,recK ls tks (j + d) = recK ls tks j ++ s
 | 0,j => ⟨[],by simp⟩
 | d + 1,j => by
  obtain ⟨s,hs⟩ := recK_pre ls tks d j
  rw [← Nat.add_assoc,recK_succ]
  unfold recY5
  split
  ·rename_i h0
   obtain ⟨rfl,rfl⟩ : j = 0 ∧ d = 0 := by omega
   exact ⟨_,by simp only [recK,List.append_assoc];rfl⟩
  ·rw [hs]
   exact ⟨_,by simp only [List.append_assoc];rfl⟩
theorem arrow_ne (x : List UInt8) (h : x.length = 1) : bT x ≠ ⟨#[45,62]⟩ := fun e => by
 have := congrArg ByteArray.size e
 have h2 : (bT x).size = x.length := by simp [bT,ByteArray.size]
 rw [h2,h] at this
 cases this
section
variable {l : List Tkn} {rd : Int -> Rs} {ls : List ByteArray} {ks : List Ty5}
theorem fields_read (hr : risingB ls = true) (hlen : ls.length = ks.length) {i : Int} (hat : AtK l i (recK ls (ks.map tkl) ks.length ++ [(5,[125])]))
  (hrd : ∀ (j : Nat) (t : Ty5) (q : Int),ks[j]? = some t -> AtK l q (tkl t) -> isT l (q + (tkl t).length) ⟨#[45,62]⟩ = false -> rd q = .ok t (q + (tkl t).length)) :
  ∀ (m j f : Nat),j + m = ks.length -> m < f -> fieldsS recT rd l f (i + (recK ls (ks.map tkl) j).length) (ls.take j) (ks.take j) = .ok (recT ls ks) (i + (recK ls (ks.map tkl) ks.length).length + 1)
 | 0,j,0,_,hf => absurd hf (Nat.lt_irrefl _)
 | 0,j,f + 1,hj,_ => by
  obtain rfl : j = ks.length := by omega
  simp only [fieldsS]
  rw [hat.right.sign]
  rw [if_pos (by decide),List.take_of_length_le (by omega),List.take_of_length_le (Nat.le_refl _)]
 | m + 1,j,0,_,hf => absurd hf (Nat.not_lt_zero _)
 | m + 1,j,f + 1,hj,hf => by
  have hjk : j < ks.length := by omega
  have hjl : j < ls.length := by omega
  have ih := fields_read hr hlen hat hrd m (j + 1) f (by omega) (by omega)
  have hpre : ∀ a,a ≤ ks.length -> AtK l i (recK ls (ks.map tkl) a) := fun a ha => by
   obtain ⟨s,hs⟩ := recK_pre ls (ks.map tkl) (ks.length - a) a
   rw [Nat.add_sub_cancel' ha] at hs
   have := hat.left
   rw [hs] at this
   exact this.left
  have hP := hpre (j + 1) (by omega)
  rw [recK_succ] at hP
  have hlab := hP.left.left.right
  have hcol := hP.left.right
  have hty := hP.right
  have hnext : isT l (i + (recK ls (ks.map tkl) (j + 1)).length) ⟨#[45,62]⟩ = false := by
   by_cases hl : j + 1 = ks.length
   ·have := hat.right
    rw [hl,this.sign]
    exact decide_eq_false (arrow_ne _ rfl)
   ·have h2 := hpre (j + 2) (by omega)
    rw [recK_succ] at h2
    have h3 := h2.left.left.left
    unfold recY5 at h3
    rw [if_neg (by omega)] at h3
    rw [h3.right.sign]
    exact decide_eq_false (arrow_ne _ rfl)
  have hlen2 : ((recK ls (ks.map tkl) (j + 1)).length : Int) = (recY5 ls (ks.map tkl) j).length + 2 + ((ks.map tkl).getD j []).length := by
   rw [recK_succ]
   simp only [List.length_append,List.length_cons,List.length_nil]
   omega
  have htk : (ks.map tkl).getD j [] = tkl ks[j] := by simp [List.getD,hjk]
  rw [htk] at hty hlen2
  simp only [List.length_append,List.length_cons,List.length_nil] at hcol hty
  obtain ⟨hk3,hs3⟩ := hlab.one
  simp only at hk3 hs3
  rw [bT_data] at hs3
  have hst : stAt ls j = ls[j] := stAt_get hjl
  generalize hq : i + ((recY5 ls (ks.map tkl) j).length : Int) = q at hk3 hs3
  have hcol' : isT l (q + 1) ⟨#[58]⟩ = true := by
   have := hcol.sign ⟨#[58]⟩
   rw [show i + (((recY5 ls (ks.map tkl) j).length + (0 + 1) : Nat) : Int) = q + 1 by omega] at this
   rw [this]
   decide
  have hrd' : rd (q + 2) = .ok ks[j] (i + (recK ls (ks.map tkl) (j + 1)).length) := by
   have e1 : i + (((recY5 ls (ks.map tkl) j).length + (0 + 1) + (0 + 1) : Nat) : Int) = q + 2 := by omega
   rw [e1] at hty
   have e2 : i + ((recK ls (ks.map tkl) (j + 1)).length : Int) = q + 2 + ((tkl ks[j]).length : Int) := by omega
   rw [e2] at hnext ⊢
   exact hrd j _ _ (List.getElem?_eq_getElem hjk) hty hnext
  have hfine := rising_fineB hr hjl
  have hin : inB (ls.take j) ls[j] = false := by
   rw [Bool.eq_false_iff]
   intro h
   obtain ⟨a,ha,e⟩ := List.getElem_of_mem (inB_mem.1 h)
   rw [List.length_take] at ha
   rw [List.getElem_take] at e
   have := List.pairwise_iff_getElem.1 (risingq_pair hr) a j (by omega) hjl (by omega)
   rw [e] at this
   unfold ltS at this
   rw [less_irr] at this
   cases this
  have hlabel : labelS rd l (fieldsS recT rd l f) q (ls.take j) (ks.take j) = .ok (recT ls ks) (i + (recK ls (ks.map tkl) ks.length).length + 1) := by
   unfold labelS
   rw [hk3,hs3,hst,if_pos ⟨rfl,by rw [← hst];exact hfine⟩,hin,hcol',hrd']
   simp only [Bool.false_eq_true,if_false,if_true]
   rw [← List.take_succ_eq_append_getElem hjl,← List.take_succ_eq_append_getElem hjk]
   exact ih
  have hlab' : AtK l q [(3,(stAt ls j).data.toList)] := hq ▸ hlab
  simp only [fieldsS]
  by_cases hj0 : j = 0
  ·subst hj0
   have e : i + ((recK ls (ks.map tkl) 0).length : Int) = q := by rw [← hq];rfl
   rw [e,hlab'.noSign (by decide)]
   simp only [Bool.false_eq_true,if_false,List.take_zero,ne_eq,not_true_eq_false,false_and,if_true]
   simpa using hlabel
  ·have hy := hP.left.left.left
   have hyl : ((recY5 ls (ks.map tkl) j).length : Int) = (recK ls (ks.map tkl) j).length + 1 := by
    unfold recY5
    rw [if_neg hj0]
    simp
   unfold recY5 at hy
   rw [if_neg hj0] at hy
   have hc := hy.right
   have e : i + ((recK ls (ks.map tkl) j).length : Int) + 1 = q := by omega
   have htn : ls.take j ≠ [] := fun h => by
    have := congrArg List.length h
    rw [List.length_take,List.length_nil] at this
    omega
   have h1 : isT l (i + ((recK ls (ks.map tkl) j).length : Int)) ⟨#[125]⟩ = false := by
    rw [hc.sign]
    decide
   have h2 : isT l (i + ((recK ls (ks.map tkl) j).length : Int)) ⟨#[44]⟩ = true := by
    rw [hc.sign]
    decide
   rw [h1,h2]
   simp only [Bool.false_eq_true,if_false,Bool.true_eq_false,and_false,if_neg htn]
   rw [e]
   exact hlabel
end
theorem simple_readsB {l : List Tkn} {rd : Int -> Rs} {n : Nat} (hrd : ∀ (t : Ty5) (q : Int),rightT varB risingB t = true -> hasT 9 t = false -> needT t ≤ n -> AtK l q (tkl t) -> isT l (q + (tkl t).length) ⟨#[45,62]⟩ = false -> rd q = .ok t (q + (tkl t).length))
  (hl : ∀ ks : List Ty5,∀ ls : List ByteArray,∀ i : Int,AtK l i (recK ls (ks.map tkl) ks.length ++ [(5,[125])]) -> ks.length ≤ l.length) (t : Ty5) (i : Int) (hr : rightT varB risingB t = true) (h9 : hasT 9 t = false) (h7 : kT t ≠ 7) (hn : needT t ≤ n + 1) (hat : AtK l i (tkl t)) : simpleS recT rd l i = .ok t (i + (tkl t).length) := by
 obtain ⟨k,m,nm,ls,ks⟩ := t
 simp only [rightT,Bool.and_eq_true] at hr
 simp only [hasT,Bool.or_eq_false_iff,beq_eq_false_iff_ne] at h9
 have h7 : k ≠ 7 := h7
 simp only [tkl,tklL_map] at hat ⊢
 have word : ∀ (w : List UInt8) (u : Ty5),AtK l i [(4,w)] -> meanT (bT w) = some u -> simpleS recT rd l i = .ok u (i + (([(4,w)] : List KS).length : Int)) := fun w u h1 h2 => by
  rw [word_reads h1 h2]
  try rfl
 rcases head_all hr.2 h9.1 with ⟨h1,h5,rfl,rfl,rfl⟩ | ⟨rfl,h1,h5,rfl,rfl⟩ | ⟨rfl,-⟩ | ⟨rfl,h1,h2,rfl,rfl⟩
 ·obtain rfl := List.eq_nil_of_length_eq_zero h5
  rcases (by omega : k = 1 ∨ k = 2 ∨ k = 3 ∨ k = 4 ∨ k = 5) with rfl | rfl | rfl | rfl | rfl
  ·exact word _ _ hat rfl
  ·exact word _ _ hat rfl
  ·exact word _ _ hat rfl
  ·exact word _ _ hat rfl
  ·have hat : AtK l i [(5,[63])] := hat
   unfold simpleS
   rw [hat.sign,if_pos (by decide)]
   try rfl
 ·obtain rfl := List.eq_nil_of_length_eq_zero h5
  refine word _ _ hat ?_
  rw [bT_data]
  exact mean_var h1
 ·exact absurd rfl h7
 ·have hat : AtK l i (recK ls (ks.map tkl) (ks.map tkl).length ++ [(5,[125])]) := hat
  show simpleS recT rd l i = .ok _ (i + ((recK ls (ks.map tkl) (ks.map tkl).length ++ [(5,[125])]).length : Int))
  rw [List.length_map] at hat ⊢
  obtain ⟨s,hs⟩ := recK_pre ls (ks.map tkl) ks.length 0
  rw [Nat.zero_add] at hs
  have h0 : AtK l i [(5,[123])] := by
   have := hat.left
   rw [hs] at this
   exact this.left
  have hneed : ∀ u ∈ ks,needT u ≤ n := fun u hu => by
   simp only [needT,needL_map,needC] at hn
   rw [if_neg (by decide)] at hn
   have := maxN_mem (List.mem_map.2 ⟨u,hu,rfl⟩ : needT u ∈ ks.map needT)
   omega
  have hrk : ∀ u ∈ ks,rightT varB risingB u = true := fun u hu => rightL_mem hr.1 hu
  have h9k : ∀ u ∈ ks,hasT 9 u = false := fun u hu => by
   rw [Bool.eq_false_iff]
   intro h
   rw [hasL_of hu h] at h9
   cases h9.2
  have hf := fields_read (rd := rd) h1 h2 hat (fun j t q ht h1 h2 => hrd t q (hrk t (List.mem_of_getElem? ht)) (h9k t (List.mem_of_getElem? ht)) (hneed t (List.mem_of_getElem? ht)) h1 h2) ks.length 0 (l.length + 1) (by omega) (Nat.lt_succ_of_le (hl ks ls i hat))
  have hrec : recT ls ks = .mk 8 0 ⟨#[]⟩ ls ks := by
   have := recT_of (ls := ls) (ks := ks) (P := ls.zip ks) (.refl _) (by rw [List.map_fst_zip (by omega)];exact h1)
   rw [List.map_fst_zip (by omega),List.map_snd_zip (by omega)] at this
   exact this
  unfold simpleS
  rw [h0.sign,h0.sign,h0.sign,if_neg (by decide),if_neg (by decide),if_pos (by decide)]
  simp only [List.take_zero] at hf
  rw [hrec] at hf
  have e : i + ((recK ls (ks.map tkl) 0).length : Int) = i + 1 := rfl
  rw [e] at hf
  rw [hf,List.length_append]
  simp only [List.length_cons,List.length_nil]
  congr 1
  omega
theorem reads_type {l : List Tkn} (hl : ∀ ks : List Ty5,∀ ls : List ByteArray,∀ i : Int,AtK l i (recK ls (ks.map tkl) ks.length ++ [(5,[125])]) -> ks.length ≤ l.length) : ∀ (n : Nat) (t : Ty5) (i : Int),rightT varB risingB t = true -> hasT 9 t = false -> needT t ≤ n -> AtK l i (tkl t) -> isT l (i + (tkl t).length) ⟨#[45,62]⟩ = false -> readS recT l n i = .ok t (i + (tkl t).length)
 | 0,t,i,_,_,hn,_,_ => by
  have := need_pos t
  omega
 | n + 1,t,i,hr,h9,hn,hat,hend => by
  have ih := reads_type hl n
  have hs := simple_readsB ih hl
  by_cases h7 : kT t = 7
  ·obtain ⟨k,m,nm,ls,ks⟩ := t
   have h7 : k = 7 := h7
   subst h7
   simp only [rightT,Bool.and_eq_true] at hr
   simp only [hasT,Bool.or_eq_false_iff,beq_eq_false_iff_ne] at h9
   obtain ⟨hlen,rfl,rfl,rfl⟩ : ks.length = 2 ∧ m = 0 ∧ nm = ⟨#[]⟩ ∧ ls = [] := by
    rcases head_all hr.2 h9.1 with ⟨h1,-⟩ | ⟨h1,-⟩ | ⟨-,h⟩ | ⟨h1,-⟩
    ·omega
    ·omega
    ·exact h
    ·omega
   match ks,hlen with
   | [a,b],_ =>
    simp only [rightL,Bool.and_eq_true,Bool.and_true] at hr
    simp only [hasL,Bool.or_eq_false_iff,Bool.or_false] at h9
    have hra := hr.1.1
    have hrb := hr.1.2
    have h9a := h9.2.1
    have h9b := h9.2.2
    have hn : 1 + max (if kT a = 7 then needT a else needT a - 1) (needT b) ≤ n + 1 := hn
    have hat : AtK l i ((if kT a = 7 then [(5,[40])] ++ tkl a ++ [(5,[41])] else tkl a) ++ [(5,[45,62])] ++ tkl b) := hat
    have hend : isT l (i + (((if kT a = 7 then [(5,[40])] ++ tkl a ++ [(5,[41])] else tkl a) ++ [(5,[45,62])] ++ tkl b : List KS).length : Int)) ⟨#[45,62]⟩ = false := hend
    show readS recT l (n + 1) i = .ok _ (i + (((if kT a = 7 then [(5,[40])] ++ tkl a ++ [(5,[41])] else tkl a) ++ [(5,[45,62])] ++ tkl b : List KS).length : Int))
    generalize hA : (if kT a = 7 then [(5,[40])] ++ tkl a ++ [(5,[41])] else tkl a : List KS) = A at hat hend ⊢
    have hsA : simpleS recT (readS recT l n) l i = .ok a (i + A.length) := by
     have hA1 := hat.left.left
     by_cases h7a : kT a = 7
     ·rw [if_pos h7a] at hA hn
      subst hA
      have hopen : AtK l i [(5,[40])] := hA1.left.left
      have hta := hA1.left.right
      have hclose := hA1.right
      simp only [List.length_append,List.length_cons,List.length_nil] at hta hclose
      have e1 : i + ((0 + 1 : Nat) : Int) = i + 1 := by omega
      rw [e1] at hta
      have e2 : i + ((0 + 1 + (tkl a).length : Nat) : Int) = i + 1 + (tkl a).length := by omega
      rw [e2] at hclose
      have hra' := ih a (i + 1) hra h9a (by omega) hta (by rw [hclose.sign];decide)
      unfold simpleS
      rw [hopen.sign,hopen.sign,if_neg (by decide),if_pos (by decide),hra']
      simp only
      rw [hclose.sign,if_pos (by decide)]
      congr 1
      simp only [List.length_append,List.length_cons,List.length_nil]
      omega
     ·rw [if_neg h7a] at hA hn
      subst hA
      exact hs a i hra h9a h7a (by omega) hA1
    have harr := hat.left.right
    have htb := hat.right
    have hrb' := ih b (i + A.length + 1) hrb h9b (by omega) (by
     have := htb
     simp only [List.length_append,List.length_cons,List.length_nil] at this
     rw [show i + (A.length : Int) + 1 = i + ((A.length + (0 + 1) : Nat) : Int) by omega]
     exact this) (by
     rw [← hend]
     congr 1
     simp only [List.length_append,List.length_cons,List.length_nil]
     omega)
    simp only [readS]
    rw [hsA]
    simp only
    rw [harr.sign,if_pos (by decide),hrb']
    simp only
    congr 1
    simp only [List.length_append,List.length_cons,List.length_nil]
    omega
  ·simp only [readS]
   rw [hs t i hr h9 h7 hn hat]
   simp only
   rw [hend]
   try rfl
theorem insP_up (p : ByteArray × Ty5) : ∀ (l : List (ByteArray × Ty5)),l.Pairwise (fun a b => ltS a.1 b.1 = true) -> (∀ q ∈ l,p.1 ≠ q.1) -> (insP p l).Pairwise fun a b => ltS a.1 b.1 = true
 | [],_,_ => by simp [insP]
 | q :: r,h,hn => by
  rw [List.pairwise_cons] at h
  unfold insP
  split
  ·rename_i hp
   refine List.pairwise_cons.2 ⟨fun x hx => ?_,List.pairwise_cons.2 h⟩
   rcases List.mem_cons.1 hx with rfl | hx
   ·exact hp
   ·exact less_trans _ _ _ hp (h.1 x hx)
  ·rename_i hp
   have hqp : ltS q.1 p.1 = true := (ltS_total (hn q (List.mem_cons_self ..))).resolve_left hp
   refine List.pairwise_cons.2 ⟨fun x hx => ?_,insP_up p r h.2 fun y hy => hn y (List.mem_cons_of_mem _ hy)⟩
   rcases List.mem_cons.1 ((insP_perm p r).mem_iff.1 hx) with rfl | hx
   ·exact hqp
   ·exact h.1 x hx
theorem sortP_up : ∀ (l : List (ByteArray × Ty5)),(l.map Prod.fst).Nodup -> (sortP l).Pairwise fun a b => ltS a.1 b.1 = true
 | [],_ => by simp [sortP]
 | p :: l,h => by
  rw [List.map_cons,List.nodup_cons] at h
  refine insP_up p (sortP l) (sortP_up l h.2) fun q hq e => h.1 ?_
  rw [e]
  exact List.mem_map.2 ⟨q,(sortP_perm l).mem_iff.1 hq,rfl⟩
theorem rising_of {L : List ByteArray} (hf : ∀ s ∈ L,fineB s = true) (hp : L.Pairwise fun a b => ltS a b = true) : risingB L = true := by
 refine rising_true fun j hj => ?_
 unfold upAt
 rw [stAt_get hj,hf _ (List.getElem_mem hj)]
 cases j with
 | zero => rfl
 | succ j =>
  rw [Nat.add_sub_cancel,stAt_get (show j < L.length by omega),List.pairwise_iff_getElem.1 hp j (j + 1) (by omega) hj (Nat.lt_succ_self _)]
  simp
def sumN : List Nat -> Nat
 | [] => 0
 | a :: r => a + sumN r
theorem sumN_perm {a b : List Nat} (h : a.Perm b) : sumN a = sumN b := by
 induction h with
 | nil => rfl
 | cons x _ ih => simp only [sumN,ih]
 | swap x y l => simp only [sumN];omega
 | trans _ _ h1 h2 => exact h1.trans h2
theorem sumN_app : ∀ a b : List Nat,sumN (a ++ b) = sumN a + sumN b
 | [],b => by simp [sumN]
 | x :: r,b => by simp only [List.cons_append,sumN,sumN_app r b];omega
def cntT (ks : List Ty5) : Nat := sumN (ks.map fun t => 3 + (tkl t).length)
theorem recK_len (ls : List ByteArray) (ks : List Ty5) : ∀ j,j ≤ ks.length -> (recK ls (ks.map tkl) j).length + (if j = 0 then 0 else 1) = 1 + cntT (ks.take j)
 | 0,_ => rfl
 | j + 1,hj => by
  have ih := recK_len ls ks j (by omega)
  have htk : (ks.map tkl).getD j [] = tkl ks[j] := by simp [List.getD,show j < ks.length by omega]
  have e : cntT (ks.take (j + 1)) = cntT (ks.take j) + (3 + (tkl ks[j]).length) := by
   unfold cntT
   rw [List.take_succ_eq_append_getElem (show j < ks.length by omega),List.map_append,sumN_app]
   simp [sumN]
  rw [e,recK_succ,htk]
  unfold recY5
  by_cases h0 : j = 0
  ·subst h0
   simp only [if_true,List.length_append,List.length_cons,List.length_nil,recK] at ih ⊢
   simp only [Nat.add_eq_zero_iff,Nat.succ_ne_zero,and_false,if_false]
   omega
  ·rw [if_neg h0] at ih ⊢
   simp only [List.length_append,List.length_cons,List.length_nil,Nat.add_eq_zero_iff,Nat.succ_ne_zero,and_false,if_false]
   omega
theorem rightL_of {ks : List Ty5} (h : ∀ t ∈ ks,rightT varB risingB t = true) : rightL varB risingB ks = true := by
 induction ks with
 | nil => rfl
 | cons t r ih =>
  simp only [rightL,Bool.and_eq_true]
  exact ⟨h t (List.mem_cons_self ..),ih fun u hu => h u (List.mem_cons_of_mem _ hu)⟩
theorem hasL_no {kd : Int} {ks : List Ty5} (h : ∀ t ∈ ks,hasT kd t = false) : hasL kd ks = false := by
 induction ks with
 | nil => rfl
 | cons t r ih =>
  simp only [hasL,Bool.or_eq_false_iff]
  exact ⟨h t (List.mem_cons_self ..),ih fun u hu => h u (List.mem_cons_of_mem _ hu)⟩
theorem nil_toList : (⟨#[]⟩ : ByteArray).toList = [] := by decide +kernel
structure Fit (n : Nat) (t : Ty5) : Prop where
 right : rightT varB risingB t = true
 open9 : hasT 9 t = false
 need : needT t ≤ n
theorem Fit.mono {n m : Nat} {t : Ty5} (h : Fit n t) (hn : n ≤ m) : Fit m t := ⟨h.right,h.open9,Nat.le_trans h.need hn⟩
theorem fit_base {k : Int} (h : k = 1 ∨ k = 2 ∨ k = 3 ∨ k = 4 ∨ k = 5) : Fit 1 (.mk k 0 ⟨#[]⟩ [] []) ∧ (tkl (.mk k 0 ⟨#[]⟩ [] [])).length = 1 := by
 rcases h with rfl | rfl | rfl | rfl | rfl <;> exact ⟨⟨by simp [rightT,rightL,headB,nil_toList],rfl,by simp [needT,needC,needL,maxN]⟩,rfl⟩
theorem fit_var {s : ByteArray} (h : varB s = true) : Fit 1 (.mk 6 0 s [] []) ∧ (tkl (.mk 6 0 s [] [])).length = 1 :=
 ⟨⟨by simp [rightT,rightL,headB,h],rfl,by simp [needT,needC,needL,maxN]⟩,rfl⟩
theorem fit_mean {s : ByteArray} {u : Ty5} (h : meanT s = some u) : Fit 1 u ∧ (tkl u).length = 1 ∧ kT u ≠ 7 := by
 unfold meanT at h
 split at h
 ·cases h;exact ⟨(fit_base (.inl rfl)).1,(fit_base (.inl rfl)).2,by decide⟩
 split at h
 ·cases h;exact ⟨(fit_base (.inr (.inl rfl))).1,(fit_base (.inr (.inl rfl))).2,by decide⟩
 split at h
 ·cases h;exact ⟨(fit_base (.inr (.inr (.inl rfl)))).1,(fit_base (.inr (.inr (.inl rfl)))).2,by decide⟩
 split at h
 ·cases h;exact ⟨(fit_base (.inr (.inr (.inr (.inl rfl))))).1,(fit_base (.inr (.inr (.inr (.inl rfl))))).2,by decide⟩
 split at h
 ·rename_i hv
  cases h;exact ⟨(fit_var hv).1,(fit_var hv).2,by show (6 : Int) ≠ 7;decide⟩
 ·cases h
theorem fit_rec {n : Nat} {ls : List ByteArray} {ks : List Ty5} (hl : ls.length = ks.length) (hn : ls.Nodup) (hf : ∀ s ∈ ls,fineB s = true) (hk : ∀ t ∈ ks,Fit n t) : Fit (n + 1) (recT ls ks) ∧ (tkl (recT ls ks)).length + (if ks.length = 0 then 0 else 1) = 2 + cntT ks ∧ kT (recT ls ks) ≠ 7 := by
 have hp := sortP_perm (ls.zip ks)
 have hz : ((ls.zip ks).map Prod.fst) = ls := List.map_fst_zip (by omega)
 have hz2 : ((ls.zip ks).map Prod.snd) = ks := List.map_snd_zip (by omega)
 have hup := sortP_up (ls.zip ks) (by rw [hz];exact hn)
 have hL : ∀ s ∈ (sortP (ls.zip ks)).map Prod.fst,fineB s = true := fun s hs => hf s (by
  have := (hp.map Prod.fst).mem_iff.1 hs
  rwa [hz] at this)
 have hKp : ((sortP (ls.zip ks)).map Prod.snd).Perm ks := by
  have := hp.map Prod.snd
  rwa [hz2] at this
 have hK : ∀ t ∈ (sortP (ls.zip ks)).map Prod.snd,Fit n t := fun t ht => hk t (hKp.mem_iff.1 ht)
 have hris := rising_of hL (List.pairwise_map.2 hup)
 have hlen : ((sortP (ls.zip ks)).map Prod.fst).length = ((sortP (ls.zip ks)).map Prod.snd).length := by simp
 unfold recT
 generalize (sortP (ls.zip ks)).map Prod.fst = L at hL hris hlen ⊢
 generalize (sortP (ls.zip ks)).map Prod.snd = K at hK hKp hlen ⊢
 refine ⟨⟨?_,?_,?_⟩,?_,by show (8 : Int) ≠ 7;decide⟩
 ·simp only [rightT,Bool.and_eq_true]
  refine ⟨rightL_of fun t ht => (hK t ht).right,?_⟩
  simp [headB,nil_toList,hris,hlen]
 ·simp only [hasT,Bool.or_eq_false_iff]
  exact ⟨by decide,hasL_no fun t ht => (hK t ht).open9⟩
 ·simp only [needT,needL_map,needC]
  rw [if_neg (by decide)]
  have := maxN_le (l := K.map needT) (m := n) fun a ha => by
   obtain ⟨t,ht,e⟩ := List.mem_map.1 ha
   rw [← e]
   exact (hK t ht).need
  omega
 ·have h1 := recK_len L K K.length (Nat.le_refl _)
  have h2 : cntT K = cntT ks := sumN_perm (hKp.map _)
  have h3 : K.length = ks.length := hKp.length_eq
  simp only [tkl,tklL_map]
  show (recK L (K.map tkl) (K.map tkl).length ++ [(5,[125])]).length + _ = _
  rw [List.length_map,List.length_append,List.length_cons,List.length_nil,← h3,← h2]
  rw [List.take_of_length_le (Nat.le_refl _)] at h1
  omega
theorem label_ok {rd : Int -> Rs} {l : List Tkn} {next : Int -> List ByteArray -> List Ty5 -> Rs} {j : Int} {ls : List ByteArray} {ks : List Ty5} {t : Ty5} {to : Int} (e : labelS rd l next j ls ks = .ok t to) :
  ∃ v to',((tokT l j).k = 3 ∧ fineB (tokT l j).s = true) ∧ ¬ inB ls (tokT l j).s = true ∧ rd (j + 2) = .ok v to' ∧ next to' (ls ++ [(tokT l j).s]) (ks ++ [v]) = .ok t to := by
 unfold labelS wrongT at e
 split at e
 ·rename_i h1
  split at e
  ·cases e
  rename_i h2
  split at e
  ·split at e
   ·rename_i v to' hr
    exact ⟨v,to',h1,h2,hr,e⟩
   ·cases e
  ·cases e
 ·cases e
section
variable {l : List Tkn} {rd : Int -> Rs} {n : Nat} (hrd : ∀ i u to,rd i = .ok u to -> Fit n u ∧ i + (tkl u).length ≤ to)
include hrd
theorem fields_fit : ∀ {f : Nat} {i b : Int} {ls : List ByteArray} {ks : List Ty5} {u : Ty5} {to : Int}, ls.length = ks.length -> ls.Nodup -> (∀ s ∈ ls, fineB s = true) -> (∀ t ∈ ks, Fit n t) -> b ≤ i -> b + cntT ks ≤ i + 1 -> fieldsS recT rd l f i ls ks = .ok u to -> Fit (n + 1) u ∧ b - 1 + (tkl u).length ≤ to ∧ kT u ≠ 7
  | 0, i, b, ls, ks, u, to, _, _, _, _, _, _, e => by simp [fieldsS, wrongT] at e
  | f + 1, i, b, ls, ks, u, to, hl, hn, hf, hk, hb, hc, e => by
    simp only [fieldsS] at e
    split at e
    · cases e
      obtain ⟨h1, h2, h3⟩ := fit_rec hl hn hf hk
      refine ⟨h1, ?_, h3⟩
      split at h2
      · rename_i h0
        obtain rfl := List.eq_nil_of_length_eq_zero h0
        have : cntT [] = 0 := rfl
        omega
      · omega
    split at e
    · simp [wrongT] at e
    · obtain ⟨v, to', hlab, hin, hr, e⟩ := label_ok e
      · obtain ⟨g1, g2⟩ := hrd _ _ _ hr
        · · have hnew : (tokT l (if ls = [] then i else i + 1)).s ∉ ls := fun h => hin (inB_mem.2 h)
            refine fields_fit (by simp [hl]) (List.nodup_append.2 ⟨hn, by simp, fun a ha c hc e => ?_⟩) (fun s hs => ?_) (fun t ht => ?_) (b := b) ?_ ?_ e
            · rw [List.mem_singleton.1 hc] at e
              exact hnew (e ▸ ha)
            · rcases List.mem_append.1 hs with h | h
              · exact hf s h
              · rw [List.mem_singleton.1 h]
                exact hlab.2
            · rcases List.mem_append.1 ht with h | h
              · exact hk t h
              · rw [List.mem_singleton.1 h]
                exact g1
            · split at g2 <;> omega
            · have e2 : cntT (ks ++ [v]) = cntT ks + (3 + (tkl v).length) := by
                unfold cntT
                rw [List.map_append, sumN_app]
                simp [sumN]
              rw [e2]
              split at g2
              · rename_i h0
                subst h0
                obtain rfl : ks = [] := List.eq_nil_of_length_eq_zero (by simpa using hl.symm)
                have : cntT [] = 0 := rfl
                omega
              · omega
theorem simple_fit {i : Int} {u : Ty5} {to : Int} (e : simpleS recT rd l i = .ok u to) : (if kT u = 7 then Fit n u ∧ i + (tkl u).length + 2 ≤ to else Fit (n + 1) u ∧ i + (tkl u).length ≤ to) := by
 unfold simpleS at e
 split at e
 ·cases e
  have := fit_base (k := 5) (by simp)
  rw [if_neg (by decide)]
  exact ⟨this.1.mono (by omega),by rw [this.2];omega⟩
 split at e
 ·split at e
  ·rename_i t to' hr
   obtain ⟨g1,g2⟩ := hrd _ _ _ hr
   unfold wrongT at e
   split at e
   ·cases e
    split
    ·exact ⟨g1,by omega⟩
    ·exact ⟨g1.mono (by omega),by omega⟩
   ·cases e
  ·cases e
 split at e
 ·obtain ⟨h1,h2,h3⟩ := fields_fit hrd (b := i + 1) rfl (by simp) (fun s h => absurd h List.not_mem_nil) (fun t h => absurd h List.not_mem_nil) (Int.le_refl _) (by have : cntT [] = 0 := rfl;omega) e
  rw [if_neg h3]
  exact ⟨h1,by omega⟩
 ·unfold wordS wrongT at e
  split at e
  ·split at e
   ·rename_i v hv
    cases e
    obtain ⟨h1,h2,h3⟩ := fit_mean hv
    rw [if_neg h3]
    exact ⟨h1.mono (by omega),by omega⟩
   ·cases e
  ·cases e
end
theorem read_fit {l : List Tkn} : ∀ {n : Nat} {i : Int} {u : Ty5} {to : Int},readS recT l n i = .ok u to -> Fit n u ∧ i + (tkl u).length ≤ to
 | 0,i,u,to,e => by simp [readS] at e
 | n + 1,i,u,to,e => by
  simp only [readS] at e
  split at e
  ·rename_i t to' hs
   have h1 := simple_fit (fun i u to e => read_fit e) hs
   split at e
   ·split at e
    ·rename_i v to2 hr
     obtain ⟨g1,g2⟩ := read_fit hr
     cases e
     have ht : Fit (n + 1) t := by
      split at h1
      ·exact h1.1.mono (by omega)
      ·exact h1.1
     refine ⟨⟨?_,?_,?_⟩,?_⟩
     ·simp [rightT,rightL,headB,nil_toList,ht.right,g1.right]
     ·simp [hasT,hasL,ht.open9,g1.open9]
     ·show 1 + max (if kT t = 7 then needT t else needT t - 1) (needT v) ≤ n + 1
      have := g1.need
      split at h1
      ·rename_i h7
       rw [if_pos h7]
       have := h1.1.need
       omega
      ·rename_i h7
       rw [if_neg h7]
       have := h1.1.need
       omega
     ·show i + (((if kT t = 7 then [(5,[40])] ++ tkl t ++ [(5,[41])] else tkl t) ++ [(5,[45,62])] ++ tkl v : List KS).length : Int) ≤ to
      split at h1
      ·rename_i h7
       rw [if_pos h7]
       simp only [List.length_append,List.length_cons,List.length_nil]
       omega
      ·rename_i h7
       rw [if_neg h7]
       simp only [List.length_append,List.length_cons,List.length_nil]
       omega
    ·cases e
   ·cases e
    split at h1
    ·exact ⟨h1.1.mono (by omega),by omega⟩
    ·exact h1
  ·cases e
theorem label_short {s : ByteArray} (h : fineB s = true) : s.data.toList.length ≤ 8 := (kind_word (.inl (by simpa [fineB] using h))).1
theorem var_short {s : ByteArray} (h : varB s = true) : s.data.toList.length ≤ 8 := (kind_word (.inr (by simpa [varB] using h))).1
theorem rec_show {ls : List ByteArray} {ts : List (List UInt8)} {tks : List (List KS)} {n : Nat} (hls : ∀ j,j < n -> (stAt ls j).data.toList.length ≤ 8) (hts : ∀ j,j < n -> (ts.getD j []).length ≤ 10 * (tks.getD j []).length) : ∀ j,j ≤ n -> (recX [123] ls ts j).length ≤ 10 * (recK ls tks j).length
 | 0,_ => by simp [recX,recK]
 | j + 1,hj => by
  have ih := rec_show hls hts j (by omega)
  have h1 := hls j (by omega)
  have h2 := hts j (by omega)
  simp only [recX,recK]
  split
  ·simp only [List.length_append,List.length_cons,List.length_nil]
   omega
  ·simp only [List.length_append,List.length_cons,List.length_nil]
   omega
mutual
theorem show_len : ∀ t : Ty5,rightT varB risingB t = true -> hasT 9 t = false -> (showT t).length ≤ 10 * (tkl t).length
 | .mk k n nm ls ks,hr,h9 => by
  simp only [rightT,Bool.and_eq_true] at hr
  simp only [hasT,Bool.or_eq_false_iff,beq_eq_false_iff_ne] at h9
  have hk := shows_len ks hr.1 h9.2
  simp only [showT,tkl,showL_map,tklL_map]
  rcases head_all hr.2 h9.1 with ⟨h1,h5,-⟩ | ⟨rfl,h1,-⟩ | ⟨rfl,h1,-⟩ | ⟨rfl,h1,h2,-⟩
  ·rcases (by omega : k = 1 ∨ k = 2 ∨ k = 3 ∨ k = 4 ∨ k = 5) with rfl | rfl | rfl | rfl | rfl <;> simp [combT,combK]
  ·have := var_short h1
   show nm.data.toList.length ≤ 10 * 1
   omega
  ·match ks,h1 with
   | [a,b],_ =>
    have ha := hk a (by simp)
    have hb := hk b (by simp)
    show ((if kT a = 7 then [40] ++ showT a ++ [41] else showT a) ++ [32,45,62,32] ++ showT b).length ≤ 10 * ((if kT a = 7 then [(5,[40])] ++ tkl a ++ [(5,[41])] else tkl a) ++ [(5,[45,62])] ++ tkl b : List KS).length
    by_cases h7 : kT a = 7
    ·rw [if_pos h7,if_pos h7]
     simp only [List.length_append,List.length_cons,List.length_nil]
     omega
    ·rw [if_neg h7,if_neg h7]
     simp only [List.length_append,List.length_cons,List.length_nil]
     omega
  ·have hts : ∀ j,j < ks.length -> ((ks.map showT).getD j []).length ≤ 10 * ((ks.map tkl).getD j []).length := fun j hj => by
    have e1 : (ks.map showT).getD j [] = showT ks[j] := by simp [List.getD,hj]
    have e2 : (ks.map tkl).getD j [] = tkl ks[j] := by simp [List.getD,hj]
    rw [e1,e2]
    exact hk _ (List.getElem_mem hj)
   have := rec_show (n := ks.length) (fun j hj => label_short (rising_fineB h1 (by omega))) hts ks.length (Nat.le_refl _)
   show (recX [123] ls (ks.map showT) (ks.map showT).length ++ [125]).length ≤ 10 * (recK ls (ks.map tkl) (ks.map tkl).length ++ [(5,[125])]).length
   rw [List.length_map,List.length_map]
   simp only [List.length_append,List.length_cons,List.length_nil]
   omega
theorem shows_len : ∀ ks : List Ty5,rightL varB risingB ks = true -> hasL 9 ks = false -> ∀ t ∈ ks,(showT t).length ≤ 10 * (tkl t).length
 | [],_,_,t,h => absurd h List.not_mem_nil
 | a :: r,hr,h9,t,h => by
  simp only [rightL,Bool.and_eq_true] at hr
  simp only [hasL,Bool.or_eq_false_iff] at h9
  rcases List.mem_cons.1 h with h1 | h1
  ·rw [h1]
   exact show_len a hr.1 h9.1
  ·exact shows_len r hr.2 h9.2 t h1
end
mutual
theorem tkl_nodes : ∀ t : Ty5,rightT varB risingB t = true -> hasT 9 t = false -> (tkl t).length + 3 ≤ 6 * nodesT t
 | .mk k n nm ls ks,hr,h9 => by
  simp only [rightT,Bool.and_eq_true] at hr
  simp only [hasT,Bool.or_eq_false_iff,beq_eq_false_iff_ne] at h9
  have hk := tkls_nodes ks hr.1 h9.2
  simp only [tkl,tklL_map,nodesT]
  rcases head_all hr.2 h9.1 with ⟨h1,h5,-⟩ | ⟨rfl,h1,-⟩ | ⟨rfl,h1,-⟩ | ⟨rfl,h1,h2,-⟩
  ·rcases (by omega : k = 1 ∨ k = 2 ∨ k = 3 ∨ k = 4 ∨ k = 5) with rfl | rfl | rfl | rfl | rfl <;> simp [combK] <;> omega
  ·show 1 + 3 ≤ _
   omega
  ·match ks,h1 with
   | [a,b],_ =>
    have hab : cntT [a,b] = 3 + (tkl a).length + (3 + (tkl b).length) := by simp [cntT,sumN]
    rw [hab] at hk
    show ((if kT a = 7 then [(5,[40])] ++ tkl a ++ [(5,[41])] else tkl a) ++ [(5,[45,62])] ++ tkl b : List KS).length + 3 ≤ _
    split
    ·simp only [List.length_append,List.length_cons,List.length_nil]
     omega
    ·simp only [List.length_append,List.length_cons,List.length_nil]
     omega
  ·have h3 := recK_len ls ks ks.length (Nat.le_refl _)
   rw [List.take_of_length_le (Nat.le_refl _)] at h3
   show (recK ls (ks.map tkl) (ks.map tkl).length ++ [(5,[125])]).length + 3 ≤ _
   rw [List.length_map,List.length_append,List.length_cons,List.length_nil]
   omega
theorem tkls_nodes : ∀ ks : List Ty5,rightL varB risingB ks = true -> hasL 9 ks = false -> cntT ks ≤ 6 * nodesL ks
 | [],_,_ => Nat.zero_le _
 | a :: r,hr,h9 => by
  simp only [rightL,Bool.and_eq_true] at hr
  simp only [hasL,Bool.or_eq_false_iff] at h9
  have h1 := tkl_nodes a hr.1 h9.1
  have h2 := tkls_nodes r hr.2 h9.2
  have e : cntT (a :: r) = 3 + (tkl a).length + cntT r := rfl
  simp only [nodesL]
  omega
end
theorem recK_small {ls : List ByteArray} {ks : List Ty5} : ks.length ≤ (recK ls (ks.map tkl) ks.length).length := by
 have h1 := recK_len ls ks ks.length (Nat.le_refl _)
 rw [List.take_of_length_le (Nat.le_refl _)] at h1
 have h2 : ∀ ks : List Ty5,3 * ks.length ≤ cntT ks := fun ks => by
  induction ks with
  | nil => exact Nat.zero_le _
  | cons a r ih =>
   have e : cntT (a :: r) = 3 + (tkl a).length + cntT r := rfl
   rw [List.length_cons]
   omega
 have := h2 ks
 split at h1 <;> omega
theorem reads_shown {l : List Tkn} {t : Ty5} (hr : rightT varB risingB t = true) (h9 : hasT 9 t = false) (hn : needT t ≤ 64) (hat : AtK l 0 (tkl t)) (hend : (tokT l (tkl t).length).k = 0) (hlen : l.length = (tkl t).length + 1) : readS recT l 64 0 = .ok t (tkl t).length := by
 have hend' : isT l (0 + (tkl t).length) ⟨#[45,62]⟩ = false := by
  rw [Int.zero_add]
  unfold isT
  rw [hend]
  try rfl
 have hz : ∀ j : Int,(tokT l j).k ≠ 0 -> 0 ≤ j ∧ j < (tkl t).length := fun j hj => by
  have h1 : 0 ≤ j ∧ j < l.length := by
   unfold tokT at hj
   split at hj
   ·rename_i hj0
    refine ⟨hj0,?_⟩
    rcases Nat.lt_or_ge j.toNat l.length with h1 | h1
    ·omega
    ·rw [List.getD,List.getElem?_eq_none h1] at hj
     exact absurd rfl hj
   ·exact absurd rfl hj
  have h2 : j ≠ (tkl t).length := fun e => hj (by rw [e];exact hend)
  omega
 have := reads_type (l := l) (fun ks ls i hat => ?_) 64 t 0 hr h9 hn hat hend'
 ·rwa [Int.zero_add] at this
 ·
  have hs := recK_small (ls := ls) (ks := ks)
  have hlast := hat.right.one
  have hl := hz _ (by rw [hlast.1];show (5 : Int) ≠ 0;decide)
  obtain ⟨s,hs0⟩ := recK_pre ls (ks.map tkl) ks.length 0
  rw [Nat.zero_add] at hs0
  have h0 := hat.left
  rw [hs0] at h0
  have hfirst := h0.left.one
  have hf := hz _ (by rw [hfirst.1];show (5 : Int) ≠ 0;decide)
  omega
open Go.RowKit Pv
theorem arr_list (x : List UInt8) : (⟨x.toArray⟩ : ByteArray).data.toList = x := by simp
theorem arr_size (x : List UInt8) : (⟨x.toArray⟩ : ByteArray).size = x.length := by simp [ByteArray.size]
theorem parse_shown {t : Ty5} (h : Fit 64 t) (hlen : (showT t).length ≤ 65536) : parseS ⟨(showT t).toArray⟩ = .ok t (tkl t).length ∧ ∀ ts,lexAll (showT t) = .ok ts -> ts.length = (tkl t).length + 1 := by
 obtain ⟨ts,a,h1,h2⟩ := lex_shown t h.right h.open9 hlen
 have hts : ts.length = (tkl t).length := by rw [← h1,List.length_map]
 constructor
 ·unfold parseS
  rw [arr_list,h2]
  simp only
  have hat : AtK ((ts ++ [(⟨0,0,[],a⟩ : Tk)]).map tknOf) 0 (tkl t) := fun j x hx => by
   rw [← h1,List.getElem?_map,Option.map_eq_some_iff] at hx
   obtain ⟨y,hy,rfl⟩ := hx
   have hj := (List.getElem?_eq_some_iff.1 hy).1
   have e : tokT ((ts ++ [(⟨0,0,[],a⟩ : Tk)]).map tknOf) (0 + j) = tknOf y := by
    unfold tokT
    rw [if_pos (by omega),Int.zero_add,Int.toNat_natCast,List.getD,List.getElem?_map,List.getElem?_append_left hj,hy]
    try rfl
   rw [e]
   exact ⟨rfl,rfl⟩
  have hend : tokT ((ts ++ [(⟨0,0,[],a⟩ : Tk)]).map tknOf) ((tkl t).length : Nat) = ⟨0,0,bytesOf [],a⟩ := by
   unfold tokT
   rw [if_pos (by omega),Int.toNat_natCast,List.getD,List.getElem?_map,← hts,List.getElem?_append_right (Nat.le_refl _),Nat.sub_self]
   try rfl
  rw [reads_shown h.right h.open9 h.need hat (by rw [hend]) (by rw [List.length_map,List.length_append,hts];rfl)]
  simp only
  rw [hend,if_pos rfl]
 ·intro ts' h3
  rw [h2] at h3
  cases h3
  rw [List.length_append,hts]
  try rfl
theorem parse_fit {s : ByteArray} (hs : s.size ≤ 2000) {u : Ty5} {to : Int} (h : parseS s = .ok u to) : Fit 64 u ∧ (tkl u).length ≤ 2001 := by
 unfold parseS at h
 split at h
 ·cases h
 ·rename_i ts hx
  have hsz := (lexAll_size hx).2
  rw [size_list] at hsz
  split at h
  ·rename_i hr
   split at h
   ·cases h
    obtain ⟨h1,h2⟩ := read_fit hr
    have h3 := readS_le hr
    rw [List.length_map] at h3
    exact ⟨h1,by omega⟩
   ·cases h
  ·cases h
theorem fit_of {t : Ty5} (hr : rightT varB risingB t = true) (h9 : hasT 9 t = false) (hd : depthT t ≤ 64) : Fit 64 t := ⟨hr,h9,Nat.le_trans (need_depth t) hd⟩
theorem fit_shown {t : Ty5} (h : Fit 64 t) (hk : (tkl t).length ≤ 5000) : (showT t).length ≤ 50000 := by
 have := show_len t h.right h.open9
 omega
theorem shown_cp {t : Ty5} (ho : okT t) (h : Fit 64 t) (hk : (tkl t).length ≤ 5000) : parseS ⟨(showT t).toArray⟩ = .ok t (tkl t).length ∧ CP (TT ()) 9 [.raw (.string ⟨(showT t).toArray⟩)] (· = .tup [tyD t,.raw .nilIface]) := by
 have hl := fit_shown h hk
 obtain ⟨h1,h2⟩ := parse_shown h (by omega)
 refine ⟨h1,?_⟩
 have := parse_cpT ⟨(showT t).toArray⟩ (by rw [arr_size];unfold maxLen;omega) fun ts hts => by
  rw [arr_list] at hts
  have := h2 ts hts
  omega
 rw [h1] at this
 exact this
theorem parseQ_okT {s : ByteArray} (hs : s.size ≤ 2000) {t : Ty5} {to : Int} (h : parseS s = .ok t to) : okT t := by
 unfold parseS at h
 split at h
 ·cases h
 ·rename_i ts hx
  have hsm := toks_small hx (lexAll_short hx)
  split at h
  ·rename_i hr
   split at h
   ·cases h
    exact readS_okT hsm hr
   ·cases h
  ·cases h
theorem tkl_few {t : Ty5} (h : Fit 64 t) (hm : much t ≤ 800) : (tkl t).length ≤ 5000 := by
 have h1 := tkl_nodes t h.right h.open9
 have h2 := much_nodes t (by omega)
 omega
end Go.Proofs.YtmogemakfpoajaaGreatDoor
