/- A text put in its place: mathematics. -/
import Derived.Test.YtbfmaicoefefaaaTyVm
set_option linter.unusedSimpArgs false
set_option linter.unusedVariables false
namespace Go.Proofs.Ytbfmaicoefefaaa
open Go.RowKit Go.Deep Go.Sort
/-- One place of Put. -/
def putStep (s : ByteArray) (st : List ByteArray × Bool) (x : ByteArray) : List ByteArray × Bool :=
  if st.2 = true ∨ ltS x s = true then (st.1 ++ [x], st.2) else if (x.toList == s.toList) = true then (st.1 ++ [x], true) else (st.1 ++ [s] ++ [x], true)
def putSt (s : ByteArray) (l : List ByteArray) : List ByteArray × Bool := l.foldl (putStep s) ([], false)
theorem putSt_snoc (s : ByteArray) (l : List ByteArray) (x : ByteArray) : putSt s (l ++ [x]) = putStep s (putSt s l) x := by simp [putSt]
def putL (l : List ByteArray) (s : ByteArray) : List ByteArray := if (putSt s l).2 = true then (putSt s l).1 else (putSt s l).1 ++ [s]
def putR (s : ByteArray) : List ByteArray → List ByteArray
  | [] => [s]
  | x :: r => if ltS x s = true then x :: putR s r else if (x.toList == s.toList) = true then x :: r else s :: x :: r
theorem put_done (s : ByteArray) : ∀ (l a : List ByteArray), l.foldl (putStep s) (a, true) = (a ++ l, true)
  | [], a => by simp
  | x :: r, a => by
    rw [List.foldl_cons]
    have : putStep s (a, true) x = (a ++ [x], true) := by simp [putStep]
    rw [this, put_done s r, List.append_assoc]
    rfl
theorem put_fold (s : ByteArray) : ∀ (l a : List ByteArray), (if (l.foldl (putStep s) (a, false)).2 = true then (l.foldl (putStep s) (a, false)).1 else (l.foldl (putStep s) (a, false)).1 ++ [s]) = a ++ putR s l
  | [], a => by simp [putR]
  | x :: r, a => by
    rw [List.foldl_cons]
    unfold putR
    rcases h : ltS x s with _ | _
    · rcases h' : (x.toList == s.toList) with _ | _
      · have : putStep s (a, false) x = (a ++ [s] ++ [x], true) := by simp [putStep, h, h']
        rw [this, put_done]
        simp
      · have : putStep s (a, false) x = (a ++ [x], true) := by simp [putStep, h, h']
        rw [this, put_done]
        simp
    · have : putStep s (a, false) x = (a ++ [x], false) := by simp [putStep, h]
      rw [this, put_fold s r (a ++ [x])]
      simp
theorem putL_eq (l : List ByteArray) (s : ByteArray) : putL l s = putR s l := by
  have := put_fold s l []
  rwa [List.nil_append] at this
theorem putR_mem (s z : ByteArray) : ∀ l : List ByteArray, z ∈ putR s l ↔ z = s ∨ z ∈ l
  | [] => by simp [putR]
  | x :: r => by
    unfold putR
    rcases h : ltS x s with _ | _
    · rcases h' : (x.toList == s.toList) with _ | _
      · simp
      · have e : x = s := eqS_iff.1 h'
        subst e
        simp
    · simp only [if_true, List.mem_cons, putR_mem s z r]
      constructor
      · rintro (h | h | h) <;> simp [h]
      · rintro (h | h | h) <;> simp [h]
theorem putR_len (s : ByteArray) : ∀ l : List ByteArray, (putR s l).length ≤ l.length + 1
  | [] => by simp [putR]
  | x :: r => by
    have := putR_len s r
    unfold putR
    split
    · simp; omega
    · split <;> simp
theorem putR_rises (s : ByteArray) : ∀ l : List ByteArray, l.Pairwise (fun a b => ltS a b = true) → (putR s l).Pairwise (fun a b => ltS a b = true)
  | [], _ => by simp [putR]
  | x :: r, hl => by
    rw [List.pairwise_cons] at hl
    unfold putR
    rcases h : ltS x s with _ | _
    · rcases h' : (x.toList == s.toList) with _ | _
      · have hs : ltS s x = true := by
          unfold ltS at *
          rcases less_total x.toList s.toList with k | k | k
          · rw [k] at h; cases h
          · rw [k] at h'; simp at h'
          · exact k
        simp only [Bool.false_eq_true, if_false]
        refine List.pairwise_cons.2 ⟨fun z hz => ?_, List.pairwise_cons.2 hl⟩
        rcases List.mem_cons.1 hz with rfl | hz
        · exact hs
        · exact less_trans _ _ _ hs (hl.1 z hz)
      · simp only [Bool.false_eq_true, if_false, if_true]
        exact List.pairwise_cons.2 hl
    · simp only [if_true]
      refine List.pairwise_cons.2 ⟨fun z hz => ?_, putR_rises s r hl.2⟩
      rcases (putR_mem s z r).1 hz with rfl | hz
      · exact h
      · exact hl.1 z hz
theorem varsIs_put {N L : List ByteArray} (h : VarsIs N L) (s : ByteArray) : VarsIs (N ++ [s]) (putL L s) := by
  rw [putL_eq]
  refine ⟨putR_rises s L h.1, fun z => ?_⟩
  rw [putR_mem, h.2, List.mem_append, List.mem_singleton, or_comm]
theorem varsIs_of {N M L : List ByteArray} (h : VarsIs N L) (e : ∀ s, s ∈ N ↔ s ∈ M) : VarsIs M L := ⟨h.1, fun s => (h.2 s).trans (e s)⟩
end Go.Proofs.Ytbfmaicoefefaaa
