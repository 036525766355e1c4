/- limbecklaw04.Much: how much a type holds, up to some thousands. -/
import Derived.Test.YtbfmaicoefefaaaTyN
set_option linter.unusedSimpArgs false
set_option linter.unusedVariables false
namespace Go.Proofs.Ytbfmaicoefefaaa
open Go.RowKit Go.Deep Go.Sort
theorem i64_le {a b : Int} (h : a = b) (h0 : 0 ≤ b) (h1 : b ≤ 4000000000) : Value.int .i64 (wrap64 a) = .int .i64 b := by
  subst h
  have : wrap64 a = a := by unfold wrap64; omega
  rw [this]
def eighths : List ByteArray → Nat
  | [] => 0
  | s :: r => s.size / 8 + eighths r
theorem eighths_app : ∀ a b : List ByteArray, eighths (a ++ b) = eighths a + eighths b
  | [], b => by simp [eighths]
  | s :: r, b => by
    rw [List.cons_append]
    simp only [eighths]
    rw [eighths_app r b]
    omega
theorem eighths_step {ls : List ByteArray} {j : Nat} (h : j < ls.length) : eighths (ls.take (j + 1)) = eighths (ls.take j) + (stAt ls j).size / 8 := by
  rw [stAt_get h, List.take_succ_eq_append_getElem h, eighths_app]
  simp [eighths]
theorem eighths_le : ∀ ls : List ByteArray, eighths ls + ls.length ≤ szS ls
  | [] => Nat.le_refl _
  | s :: r => by
    have := eighths_le r
    simp only [eighths, szS, List.length_cons]
    omega
theorem eighths_take (ls : List ByteArray) (j : Nat) : eighths (ls.take j) + ls.length ≤ szS ls := by
  have h := eighths_le ls
  have := eighths_app (ls.take j) (ls.drop j)
  rw [List.take_append_drop] at this
  omega
/-- What the fields of one node count. -/
def muchA (nm : ByteArray) (ls : List ByteArray) : Nat := 1 + nm.size / 8 + ls.length + eighths (ls.take 1000)
mutual
def much : Ty5 → Nat
  | .mk _ _ nm ls ks => muchL (muchA nm ls) ks
def muchL : Nat → List Ty5 → Nat
  | n, [] => n
  | n, t :: r => if n < 3000 then muchL (n + much t) r else n
end
mutual
theorem much_le : ∀ t : Ty5, much t ≤ szT t
  | .mk k n nm ls ks => by
    have := muchL_le (muchA nm ls) ks
    have := eighths_take ls 1000
    simp only [much, szT, muchA] at *
    omega
theorem muchL_le : ∀ (n : Nat) (ks : List Ty5), muchL n ks ≤ n + szL ks
  | n, [] => by simp [muchL, szL]
  | n, t :: r => by
    have h1 := much_le t
    have h2 := muchL_le (n + much t) r
    simp only [muchL, szL]
    split <;> omega
end
theorem muchL_ge : ∀ (n : Nat) (ks : List Ty5), n ≤ muchL n ks
  | n, [] => Nat.le_refl _
  | n, t :: r => by
    have h2 := muchL_ge (n + much t) r
    simp only [muchL]
    split <;> omega
mutual
/-- What counts little has few nodes. -/
theorem much_nodes : ∀ t : Ty5, much t < 3000 → nodesT t ≤ much t
  | .mk k n nm ls ks, h => by
    simp only [much, nodesT] at *
    have := muchL_nodes (muchA nm ls) ks h
    have : 1 ≤ muchA nm ls := by unfold muchA; omega
    omega
theorem muchL_nodes : ∀ (n : Nat) (ks : List Ty5), muchL n ks < 3000 → n + nodesL ks ≤ muchL n ks
  | n, [], _ => by simp [muchL, nodesL]
  | n, t :: r, h => by
    simp only [muchL, nodesL] at *
    have hn := muchL_ge n (t :: r)
    simp only [muchL] at hn
    by_cases h3 : n < 3000
    · rw [if_pos h3] at h ⊢
      have h1 := muchL_ge (n + much t) r
      have h2 := much_nodes t (by omega)
      have h4 := muchL_nodes (n + much t) r h
      omega
    · rw [if_neg h3] at h
      omega
end
theorem muchL_drop {n : Nat} {ks : List Ty5} {j : Nat} (hj : j < ks.length) (h : n < 3000) : muchL n (ks.drop j) = muchL (n + much (kAt ks j)) (ks.drop (j + 1)) := by
  rw [List.drop_eq_getElem_cons hj, kAt_get hj]
  simp only [muchL]
  rw [if_pos h]
theorem muchL_stop {n : Nat} (ks : List Ty5) (h : ¬ n < 3000) : muchL n ks = n := by
  cases ks
  · rfl
  · simp only [muchL]
    rw [if_neg h]
theorem szL_step {ks : List Ty5} {j : Nat} (h : j < ks.length) : szL (ks.take j) + szT (kAt ks j) ≤ szL ks := by
  have app : ∀ a b : List Ty5, szL (a ++ b) = szL a + szL b := by
    intro a b
    induction a with
    | nil => simp [szL]
    | cons t r ih =>
      rw [List.cons_append]
      simp only [szL]
      rw [ih]
      omega
  have h1 := app (ks.take j) (ks.drop j)
  rw [List.take_append_drop, List.drop_eq_getElem_cons h] at h1
  simp only [szL] at h1
  rw [kAt_get h]
  omega
theorem szL_take {ks : List Ty5} {j : Nat} (h : j < ks.length) : szL (ks.take (j + 1)) = szL (ks.take j) + szT (kAt ks j) := by
  have app : ∀ a b : List Ty5, szL (a ++ b) = szL a + szL b := by
    intro a b
    induction a with
    | nil => simp [szL]
    | cons t r ih =>
      rw [List.cons_append]
      simp only [szL]
      rw [ih]
      omega
  rw [take_kAt h, app]
  simp [szL]
end Go.Proofs.Ytbfmaicoefefaaa
