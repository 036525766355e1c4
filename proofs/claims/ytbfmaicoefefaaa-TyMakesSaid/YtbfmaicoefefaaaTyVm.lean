/- The variables of a type: mathematics of lists that rise; sorted and compacted. -/
import Derived.Test.YtbfmaicoefefaaaTyC
import Derived.Test.YtbfmaicoefefaaaStrs
import Derived.Test.YtbfmaicoefefaaaTyM
import Derived.Lib.SlicesCompact
import Derived.Sort.Walk0
import Derived.Sort.OwnSorted
set_option linter.unusedSimpArgs false
set_option linter.unusedVariables false
namespace Go.Proofs.Ytbfmaicoefefaaa
open Go.RowKit Go.Sort
mutual
/-- The names of the variables, in the order in which they come. -/
def namesT : Ty5 → List ByteArray
  | .mk k _ nm _ ks => (if k == 6 then [nm] else []) ++ namesL ks
def namesL : List Ty5 → List ByteArray
  | [] => []
  | t :: r => namesT t ++ namesL r
end
def Ty5.isVar (t : Ty5) : Bool := t.k == 6
mutual
theorem names_walk : ∀ (t : Ty5) (d : Int), ((walkT d t).filter (fun p => p.2.isVar)).map (fun p => p.2.nm) = namesT t
  | .mk k n nm ls ks, d => by
    have ih := namesL_walk ks (wrap64 (d + 1))
    simp only [walkT, namesT, List.filter_cons]
    rcases h : (k == 6) with _ | _
    · have h' : (Ty5.mk k n nm ls ks).isVar = false := h
      simp only [h', Bool.false_eq_true, if_false, List.nil_append]
      exact ih
    · have h' : (Ty5.mk k n nm ls ks).isVar = true := h
      simp only [h', if_true, List.map_cons, List.singleton_append]
      rw [ih]
      rfl
theorem namesL_walk : ∀ (ks : List Ty5) (d : Int), ((walkL d ks).filter (fun p => p.2.isVar)).map (fun p => p.2.nm) = namesL ks
  | [], _ => rfl
  | t :: r, d => by
    simp only [walkL, namesL, List.filter_append, List.map_append]
    rw [names_walk t, namesL_walk r]
end
/-- The names among what has come. -/
def fnames {w0 : World} (xs : List (Nd w0)) : List ByteArray := (xs.filter (fun x => x.t.isVar)).map (fun x => x.t.nm)
theorem fnames_snoc {w0 : World} (xs : List (Nd w0)) (x : Nd w0) : fnames (xs ++ [x]) = fnames xs ++ (if x.t.isVar = true then [x.t.nm] else []) := by
  unfold fnames
  rw [List.filter_append, List.map_append]
  rcases h : x.t.isVar with _ | _ <;> simp [h]
theorem fnames_keys {w0 : World} {xs : List (Nd w0)} {t : Ty5} (h : xs.map Nd.key = walkT 1 t) : fnames xs = namesT t := by
  rw [← names_walk t 1, ← h, List.filter_map, List.map_map]
  rfl
theorem fnames_le {w0 : World} (xs : List (Nd w0)) : (fnames xs).length ≤ xs.length := by
  unfold fnames
  rw [List.length_map]
  exact List.length_filter_le _ _
theorem fnames_size {w0 : World} {xs : List (Nd w0)} {s : ByteArray} (h : s ∈ fnames xs) : s.size ≤ maxLen := by
  obtain ⟨x, _, rfl⟩ := List.mem_map.1 h
  obtain ⟨d, ⟨k, n, nm, ls, ks⟩, v0, v1, v2, v3, v4, hx⟩ := x
  obtain ⟨_, _, ⟨_, hm⟩, _⟩ := hx
  exact hm
/-- What the list of a type's variables is: it rises, and has these names. -/
def VarsIs (N L : List ByteArray) : Prop := L.Pairwise (fun a b => ltS a b = true) ∧ ∀ s, s ∈ L ↔ s ∈ N
theorem varsIs_unique {N L M : List ByteArray} (h : VarsIs N L) (g : VarsIs N M) : L = M :=
  rise_unique (R := fun a b => ltS a b = true) (fun a b h1 h2 => by
    have := less_trans _ _ _ h1 h2
    rw [less_irr] at this
    cases this) L M h.1 g.1 (fun s => (h.2 s).trans (g.2 s).symm)
theorem le_not (x y : List UInt8) : decide (x ≤ y) = !Op.bytesLess y x := by
  rw [bytesLess_eq]
  by_cases h : y < x
  · have : ¬ x ≤ y := fun hle => hle h
    simp [h, this]
  · have : x ≤ y := h
    simp [h, this]
theorem get_sorted {zs : List (List UInt8)} (h : zs.Pairwise (fun x y => Op.bytesLess y x = false)) {i j : Nat} (hij : i < j) (hj : j < zs.length) : Op.bytesLess zs[j] zs[i] = false :=
  (List.pairwise_iff_getElem.1 h) i j (by omega) hj hij
/-- A sorted list, compacted, rises. -/
theorem compact_rises {zs : List (List UInt8)} (h : zs.Pairwise (fun x y => Op.bytesLess y x = false)) : (Lib.compact zs).Pairwise (fun x y => Op.bytesLess x y = true) := by
  unfold Lib.compact Lib.compactUpTo
  rw [List.pairwise_map]
  have hr : ((List.range zs.length).filter (Lib.keeps zs.toArray)).Pairwise (· < ·) := List.Pairwise.filter _ List.pairwise_lt_range
  refine hr.imp_of_mem ?_
  intro i j hi hj hij
  have hj1 := List.mem_filter.1 hj
  have hjl : j < zs.length := List.mem_range.1 hj1.1
  have hk := hj1.2
  simp only [Lib.keeps, decide_eq_true_eq] at hk
  rcases hk with hk | hk
  · omega
  have gt : ∀ q (hq : q < zs.length), zs.toArray[q]! = zs[q] := fun q hq => by
    rw [getElem!_pos _ _ (by simpa using hq)]
    simp
  rw [gt j hjl, gt (j - 1) (by omega)] at hk
  rw [gt i (by omega), gt j hjl]
  have h1 := get_sorted h (i := j - 1) (j := j) (by omega) hjl
  have h2 : Op.bytesLess zs[j - 1] zs[j] = true := by
    rcases less_total zs[j - 1] zs[j] with k | k | k
    · exact k
    · exact absurd k.symm hk
    · rw [k] at h1; cases h1
  by_cases e : i = j - 1
  · subst e
    exact h2
  · have h3 := get_sorted h (i := i) (j := j - 1) (by omega) (by omega)
    rcases less_total zs[i] zs[j - 1] with k | k | k
    · exact less_trans _ _ _ k h2
    · rw [k]; exact h2
    · rw [k] at h3; cases h3
theorem compact_mem (zs : List (List UInt8)) (s : List UInt8) : s ∈ Lib.compact zs ↔ s ∈ zs := by
  unfold Lib.compact Lib.compactUpTo
  have gt : ∀ q (hq : q < zs.length), zs.toArray[q]! = zs[q] := fun q hq => by
    rw [getElem!_pos _ _ (by simpa using hq)]
    simp
  constructor
  · intro h
    obtain ⟨j, hj, rfl⟩ := List.mem_map.1 h
    have hjl : j < zs.length := List.mem_range.1 (List.mem_filter.1 hj).1
    rw [gt j hjl]
    exact List.getElem_mem hjl
  · intro h
    obtain ⟨j, hj, rfl⟩ := List.getElem_of_mem h
    clear h
    induction j with
    | zero => exact List.mem_map.2 ⟨0, List.mem_filter.2 ⟨List.mem_range.2 hj, by simp [Lib.keeps]⟩, gt 0 hj⟩
    | succ j ih =>
      by_cases hk : zs[j + 1] = zs[j]
      · rw [hk]
        exact ih (by omega)
      · exact List.mem_map.2 ⟨j + 1, List.mem_filter.2 ⟨List.mem_range.2 hj, by
          simp only [Lib.keeps, decide_eq_true_eq]
          right
          rw [gt (j + 1) hj, Nat.add_sub_cancel, gt j (by omega)]
          exact hk⟩, gt (j + 1) hj⟩
def toB (l : List UInt8) : ByteArray := ⟨l.toArray⟩
theorem toB_list (l : List UInt8) : (toB l).toList = l := by
  rw [ByteArray.toList_eq]
  rfl
theorem toB_data (s : ByteArray) : toB s.data.toList = s := by
  unfold toB
  rw [Array.toArray_toList]
/-- Sorted and compacted: the variables. -/
theorem vars_sorted (N : List ByteArray) : VarsIs N ((Lib.compact ((N.map fun s => s.data.toList).mergeSort fun x y => decide (x ≤ y))).map toB) := by
  have hs : ((N.map fun s => s.data.toList).mergeSort fun x y => decide (x ≤ y)).Pairwise (fun x y => Op.bytesLess y x = false) := by
    have h := List.pairwise_mergeSort (le := fun x y : List UInt8 => decide (x ≤ y)) (fun a b c h1 h2 => by
      rw [le_not] at *
      rcases less_total c a with k | k | k
      · rcases less_total a b with q | q | q
        · rw [less_trans _ _ _ k q] at h2; cases h2
        · rw [← q, k] at h2; cases h2
        · rw [q] at h1; cases h1
      · rw [k, less_irr]; rfl
      · rcases h : Op.bytesLess c a with _ | _
        · rfl
        · have := less_trans _ _ _ h k
          rw [less_irr] at this
          cases this) (fun a b => by
      rw [le_not, le_not]
      rcases h : Op.bytesLess b a with _ | _
      · rfl
      · rcases h' : Op.bytesLess a b with _ | _
        · rfl
        · have := less_trans _ _ _ h h'
          rw [less_irr] at this
          cases this) (N.map fun s => s.data.toList)
    refine h.imp ?_
    intro a b hab
    rw [le_not] at hab
    simpa using hab
  refine ⟨?_, fun s => ?_⟩
  · rw [List.pairwise_map]
    refine (compact_rises hs).imp ?_
    intro a b hab
    unfold ltS
    rw [toB_list, toB_list]
    exact hab
  · constructor
    · intro h
      obtain ⟨l, hl, rfl⟩ := List.mem_map.1 h
      rw [compact_mem] at hl
      have hl := (List.mergeSort_perm _ _).subset hl
      obtain ⟨q, hq, rfl⟩ := List.mem_map.1 hl
      rw [toB_data]
      exact hq
    · intro h
      refine List.mem_map.2 ⟨s.data.toList, ?_, toB_data s⟩
      rw [compact_mem]
      exact (List.mergeSort_perm _ _).symm.subset (List.mem_map.2 ⟨s, h, rfl⟩)
end Go.Proofs.Ytbfmaicoefefaaa
