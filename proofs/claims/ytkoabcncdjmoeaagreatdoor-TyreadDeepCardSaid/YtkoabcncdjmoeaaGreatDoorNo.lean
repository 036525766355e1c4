/- The document's own answers of layer 4: is a type right? (What a variable and a list of labels must be comes in as two contracts.) -/
import Derived.Test.YtkoabcncdjmoeaaGreatDoorMw
set_option linter.unusedSimpArgs false
set_option linter.unusedVariables false
set_option maxRecDepth 1000000
set_option maxHeartbeats 40000000
namespace Go.Proofs.YtkoabcncdjmoeaaGreatDoor
open Go.RowKit Go.Deep Go.Sort
def headB (varB : ByteArray -> Bool) (risB : List ByteArray -> Bool) (k n : Int) (nm : ByteArray) (ls : List ByteArray) (len : Nat) : Bool :=
 if (¬ k = 6 ∧ ¬ nm.toList = []) ∨ (¬ k = 9 ∧ ¬ n = 0) ∨ (¬ k = 8 ∧ 0 < ls.length) then false
 else if 1 ≤ k ∧ k ≤ 5 then (len : Int) == 0
 else if k = 6 then varB nm && (len : Int) == 0
 else if k = 9 then decide (0 ≤ n) && (decide (n ≤ 1073741824) && (len : Int) == 0)
 else if k = 7 then (len : Int) == 2
 else decide (k = 8) && (risB ls && (ls.length : Int) == (len : Int))
mutual
def rightT (varB : ByteArray -> Bool) (risB : List ByteArray -> Bool) : Ty5 -> Bool
 | .mk k n nm ls ks => rightL varB risB ks && headB varB risB k n nm ls ks.length
def rightL (varB : ByteArray -> Bool) (risB : List ByteArray -> Bool) : List Ty5 -> Bool
 | [] => true
 | t :: r => rightT varB risB t && rightL varB risB r
end
section
variable {varB : ByteArray -> Bool} {risB : List ByteArray -> Bool}
end
theorem StrsAt.form {w : World} {v : Value} {ss : List ByteArray} (h : StrsAt w v ss) : ss.length ≤ maxLen ∧ ∃ a cap,v = .slice a ss.length cap := by
 obtain ⟨_,hm,h⟩ := h
 refine ⟨hm,?_⟩
 rcases h with ⟨a,cap,rfl,rfl⟩ | ⟨b,off,cap,rfl,_⟩
 ·exact ⟨a,cap,rfl⟩
 ·exact ⟨_,cap,rfl⟩
end Go.Proofs.YtkoabcncdjmoeaaGreatDoor
