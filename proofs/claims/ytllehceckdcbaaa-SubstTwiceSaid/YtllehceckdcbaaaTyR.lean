/- The document's own answers of layer 4: is a type right? (What a variable and a list of labels must be comes in as two contracts.) -/
import Derived.Test.YtllehceckdcbaaaTyN
namespace Go.Proofs.Ytllehceckdcbaaa
open Go.RowKit Go.Deep Go.Sort
/-- What is asked of the fields of one node. -/
def headB (varB : ByteArray → Bool) (risB : List ByteArray → Bool) (k n : Int) (nm : ByteArray) (ls : List ByteArray) (len : Nat) : Bool :=
  if (¬ k = 6 ∧ ¬ nm.toList = []) ∨ (¬ k = 9 ∧ ¬ n = 0) ∨ (¬ k = 8 ∧ 0 < ls.length) then false
  else if 1 ≤ k ∧ k ≤ 5 then (len : Int) == 0
  else if k = 6 then varB nm && (len : Int) == 0
  else if k = 9 then decide (0 ≤ n) && (decide (n ≤ 1073741824) && (len : Int) == 0)
  else if k = 7 then (len : Int) == 2
  else decide (k = 8) && (risB ls && (ls.length : Int) == (len : Int))
mutual
def rightT (varB : ByteArray → Bool) (risB : List ByteArray → Bool) : Ty5 → Bool
  | .mk k n nm ls ks => rightL varB risB ks && headB varB risB k n nm ls ks.length
def rightL (varB : ByteArray → Bool) (risB : List ByteArray → Bool) : List Ty5 → Bool
  | [] => true
  | t :: r => rightT varB risB t && rightL varB risB r
end
section
variable {varB : ByteArray → Bool} {risB : List ByteArray → Bool}
theorem rightL_all : ∀ {ks : List Ty5}, (∀ j, j < ks.length → rightT varB risB (kAt ks j) = true) → rightL varB risB ks = true
  | [], _ => rfl
  | t :: r, h => by
    simp only [rightL, Bool.and_eq_true]
    exact ⟨h 0 (Nat.zero_lt_succ _), rightL_all fun j hj => h (j + 1) (Nat.succ_lt_succ hj)⟩
theorem rightL_mem : ∀ {ks : List Ty5} {t : Ty5}, rightL varB risB ks = true → t ∈ ks → rightT varB risB t = true
  | [], _, _, h => by simp at h
  | x :: r, t, h, ht => by
    simp only [rightL, Bool.and_eq_true] at h
    rcases List.mem_cons.1 ht with rfl | ht
    · exact h.1
    · exact rightL_mem h.2 ht
theorem rightL_not {ks : List Ty5} {j : Nat} (hj : j < ks.length) (h : rightT varB risB (kAt ks j) = false) : rightL varB risB ks = false := by
  rcases hq : rightL varB risB ks with _ | _
  · rfl
  · rw [rightL_mem hq (kAt_mem hj)] at h
    cases h
end
theorem ls_none {k : Int} {m : Nat} (h : (k != 8) = false ∨ ¬ 0 < m) (q : ¬ k = 8) : ¬ 0 < m := by
  rcases h with h | h
  · exact absurd (bne_eq_false_iff_eq.1 h) q
  · exact h
theorem StrsAt.form {w : World} {v : Value} {ss : List ByteArray} (h : StrsAt w v ss) : ss.length ≤ maxLen ∧ ∃ a cap, v = .slice a ss.length cap := by
  obtain ⟨_, hm, h⟩ := h
  refine ⟨hm, ?_⟩
  rcases h with ⟨a, cap, rfl, rfl⟩ | ⟨b, off, cap, rfl, _⟩
  · exact ⟨a, cap, rfl⟩
  · exact ⟨_, cap, rfl⟩
end Go.Proofs.Ytllehceckdcbaaa
