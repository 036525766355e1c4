/- Types as data: what the chapter's words come to (nodes, depth, kinds, sameness). Plain mathematics. -/
import Derived.Test.YtbfmaicoefefaaaTyD
import Derived.Test.YtbfmaicoefefaaaAsd
import Derived.Handy
import Derived.Lib.Hide
set_option linter.unusedSimpArgs false
set_option linter.unusedVariables false
namespace Go.Proofs.Ytbfmaicoefefaaa
open Go.RowKit
theorem retB {a b : Bool} (h : a = b) : Ending.returned (.bool a) = .returned (.bool b) := by rw [h]
theorem retI {k : IntKind} {a b : Int} (h : a = b) : Ending.returned (.int k a) = .returned (.int k b) := by rw [h]
def Ty5.k : Ty5 → Int | .mk k _ _ _ _ => k
def Ty5.n : Ty5 → Int | .mk _ n _ _ _ => n
def Ty5.nm : Ty5 → ByteArray | .mk _ _ m _ _ => m
def Ty5.ls : Ty5 → List ByteArray | .mk _ _ _ l _ => l
def Ty5.ks : Ty5 → List Ty5 | .mk _ _ _ _ a => a
def ty0 : Ty5 := .mk 0 0 ByteArray.empty [] []
/-- The type at a place. -/
def kAt (ks : List Ty5) (j : Nat) : Ty5 := ks.getD j ty0
theorem kAt_get {ks : List Ty5} {j : Nat} (h : j < ks.length) : kAt ks j = ks[j] := by
  unfold kAt
  rw [List.getD_eq_getElem?_getD, List.getElem?_eq_getElem h]
  rfl
theorem kAt_mem {ks : List Ty5} {j : Nat} (h : j < ks.length) : kAt ks j ∈ ks := by
  rw [kAt_get h]
  exact List.getElem_mem h
theorem take_kAt {ks : List Ty5} {j : Nat} (h : j < ks.length) : ks.take (j + 1) = ks.take j ++ [kAt ks j] := by
  rw [kAt_get h, List.take_succ_eq_append_getElem h]
theorem szT_pos (t : Ty5) : 0 < szT t := by
  cases t
  simp only [szT]
  omega
theorem szL_mem : ∀ {ks : List Ty5} {t : Ty5}, t ∈ ks → szT t ≤ szL ks
  | [], _, h => by simp at h
  | x :: r, t, h => by
    simp only [szL]
    rcases List.mem_cons.1 h with rfl | h
    · omega
    · have := szL_mem h
      omega
theorem szT_kid {k n : Int} {nm : ByteArray} {ls : List ByteArray} {ks : List Ty5} {j : Nat} (h : j < ks.length) : szT (kAt ks j) < szT (.mk k n nm ls ks) := by
  have := szL_mem (kAt_mem h)
  simp only [szT]
  omega
mutual
def nodesT : Ty5 → Nat
  | .mk _ _ _ _ ks => 1 + nodesL ks
def nodesL : List Ty5 → Nat
  | [] => 0
  | t :: r => nodesT t + nodesL r
end
theorem nodesL_app : ∀ a b : List Ty5, nodesL (a ++ b) = nodesL a + nodesL b
  | [], b => by simp [nodesL]
  | t :: r, b => by
    rw [List.cons_append]
    simp only [nodesL]
    rw [nodesL_app r b]
    omega
theorem nodesL_step {ks : List Ty5} {j : Nat} (h : j < ks.length) : nodesL (ks.take (j + 1)) = nodesL (ks.take j) + nodesT (kAt ks j) := by
  rw [take_kAt h, nodesL_app]
  simp [nodesL]
theorem nodesL_le (ks : List Ty5) (j : Nat) : nodesL (ks.take j) ≤ nodesL ks := by
  have := nodesL_app (ks.take j) (ks.drop j)
  rw [List.take_append_drop] at this
  omega
mutual
def depthT : Ty5 → Nat
  | .mk _ _ _ _ ks => depthL ks + 1
def depthL : List Ty5 → Nat
  | [] => 0
  | t :: r => max (depthT t) (depthL r)
end
theorem depthL_app : ∀ a b : List Ty5, depthL (a ++ b) = max (depthL a) (depthL b)
  | [], b => by simp [depthL]
  | t :: r, b => by
    rw [List.cons_append]
    simp only [depthL]
    rw [depthL_app r b]
    omega
theorem depthL_step {ks : List Ty5} {j : Nat} (h : j < ks.length) : depthL (ks.take (j + 1)) = max (depthL (ks.take j)) (depthT (kAt ks j)) := by
  rw [take_kAt h, depthL_app]
  simp [depthL]
mutual
theorem depth_nodes : ∀ t : Ty5, depthT t ≤ nodesT t
  | .mk _ _ _ _ ks => by
    have := depthL_nodes ks
    simp only [depthT, nodesT]
    omega
theorem depthL_nodes : ∀ ks : List Ty5, depthL ks ≤ nodesL ks
  | [] => Nat.le_refl _
  | t :: r => by
    have h1 := depth_nodes t
    have h2 := depthL_nodes r
    simp only [depthL, nodesL]
    omega
end
mutual
def hasT (kd : Int) : Ty5 → Bool
  | .mk k _ _ _ ks => k == kd || hasL kd ks
def hasL (kd : Int) : List Ty5 → Bool
  | [] => false
  | t :: r => hasT kd t || hasL kd r
end
theorem hasL_of {kd : Int} : ∀ {ks : List Ty5} {t : Ty5}, t ∈ ks → hasT kd t = true → hasL kd ks = true
  | [], _, h, _ => by simp at h
  | x :: r, t, h, ht => by
    simp only [hasL]
    rcases List.mem_cons.1 h with rfl | h
    · rw [ht, Bool.true_or]
    · rw [hasL_of h ht, Bool.or_true]
theorem hasL_none {kd : Int} : ∀ {ks : List Ty5}, (∀ j, j < ks.length → hasT kd (kAt ks j) = false) → hasL kd ks = false
  | [], _ => rfl
  | x :: r, h => by
    simp only [hasL]
    rw [show hasT kd x = false from h 0 (Nat.zero_lt_succ _), hasL_none fun j hj => h (j + 1) (Nat.succ_lt_succ hj)]
    rfl
/-- Are two texts the same? -/
def eqS (a b : ByteArray) : Bool := a.toList == b.toList
theorem eqS_iff {a b : ByteArray} : eqS a b = true ↔ a = b := by
  unfold eqS
  rw [beq_iff_eq, ByteArray.toList_eq, ByteArray.toList_eq]
  constructor
  · intro h
    exact ByteArray.ext (Array.toList_inj.1 h)
  · rintro rfl
    rfl
def eqL : List ByteArray → List ByteArray → Bool
  | [], [] => true
  | a :: r, b :: q => eqS a b && eqL r q
  | [], _ :: _ => false
  | _ :: _, [] => false
theorem eqL_eq : ∀ {a b : List ByteArray}, eqL a b = true → a = b
  | [], [], _ => rfl
  | a :: r, b :: q, h => by
    simp only [eqL, Bool.and_eq_true] at h
    rw [eqS_iff.1 h.1, eqL_eq h.2]
  | [], _ :: _, h => by simp [eqL] at h
  | _ :: _, [], h => by simp [eqL] at h
theorem eqL_refl : ∀ a : List ByteArray, eqL a a = true
  | [] => rfl
  | a :: r => by
    simp only [eqL, Bool.and_eq_true]
    exact ⟨eqS_iff.2 rfl, eqL_refl r⟩
theorem eqL_len : ∀ {a b : List ByteArray}, a.length ≠ b.length → eqL a b = false
  | [], [], h => absurd rfl h
  | t :: r, t' :: r', h => by
    simp only [eqL]
    rw [eqL_len (a := r) (b := r') fun e => h (by simp [e]), Bool.and_false]
  | [], _ :: _, _ => rfl
  | _ :: _, [], _ => rfl
theorem eqL_differ {a b : List ByteArray} {j : Nat} (h : eqS (stAt a j) (stAt b j) = false) : eqL a b = false := by
  rcases hq : eqL a b with _ | _
  · rfl
  · rw [eqL_eq hq, eqS_iff.2 rfl] at h
    cases h
theorem eqL_all : ∀ {a b : List ByteArray}, a.length = b.length → (∀ j, j < a.length → eqS (stAt a j) (stAt b j) = true) → eqL a b = true
  | [], [], _, _ => rfl
  | t :: r, t' :: r', h, hj => by
    simp only [eqL, Bool.and_eq_true]
    exact ⟨hj 0 (Nat.zero_lt_succ _), eqL_all (by simpa using h) fun j hl => hj (j + 1) (Nat.succ_lt_succ hl)⟩
  | [], _ :: _, h, _ => by simp at h
  | _ :: _, [], h, _ => by simp at h
mutual
/-- Are two types the same at every level? -/
def sameT : Ty5 → Ty5 → Bool
  | .mk k n nm ls ks, .mk k' n' nm' ls' ks' => k == k' && (n == n' && (eqS nm nm' && (eqL ls ls' && sameL ks ks')))
def sameL : List Ty5 → List Ty5 → Bool
  | [], [] => true
  | t :: r, t' :: r' => sameT t t' && sameL r r'
  | [], _ :: _ => false
  | _ :: _, [] => false
end
mutual
theorem same_eq : ∀ {a b : Ty5}, sameT a b = true → a = b
  | .mk k n nm ls ks, .mk k' n' nm' ls' ks', h => by
    simp only [sameT, Bool.and_eq_true, beq_iff_eq] at h
    obtain ⟨rfl, rfl, h1, h2, h⟩ := h
    rw [eqS_iff.1 h1, eqL_eq h2, sameL_eq h]
theorem sameL_eq : ∀ {a b : List Ty5}, sameL a b = true → a = b
  | [], [], _ => rfl
  | t :: r, t' :: r', h => by
    simp only [sameL, Bool.and_eq_true] at h
    rw [same_eq h.1, sameL_eq h.2]
  | [], _ :: _, h => by simp [sameL] at h
  | _ :: _, [], h => by simp [sameL] at h
end
mutual
theorem same_refl : ∀ a : Ty5, sameT a a = true
  | .mk k n nm ls ks => by
    simp only [sameT, Bool.and_eq_true, beq_self_eq_true, true_and]
    exact ⟨eqS_iff.2 rfl, eqL_refl ls, sameL_refl ks⟩
theorem sameL_refl : ∀ a : List Ty5, sameL a a = true
  | [] => rfl
  | t :: r => by
    simp only [sameL, Bool.and_eq_true]
    exact ⟨same_refl t, sameL_refl r⟩
end
theorem same_iff {a b : Ty5} : sameT a b = true ↔ a = b := ⟨same_eq, fun h => h ▸ same_refl a⟩
theorem same_turn (a b : Ty5) : sameT a b = sameT b a := by
  rcases h : sameT b a with _ | _
  · rcases h' : sameT a b with _ | _
    · rfl
    · rw [same_eq h', same_refl] at h
      cases h
  · rw [same_eq h, same_refl]
theorem sameL_len : ∀ {a b : List Ty5}, a.length ≠ b.length → sameL a b = false
  | [], [], h => absurd rfl h
  | t :: r, t' :: r', h => by
    simp only [sameL]
    rw [sameL_len (a := r) (b := r') fun e => h (by simp [e]), Bool.and_false]
  | [], _ :: _, _ => rfl
  | _ :: _, [], _ => rfl
theorem sameL_differ {a b : List Ty5} {j : Nat} (ha : j < a.length) (hb : j < b.length) (h : sameT (kAt a j) (kAt b j) = false) : sameL a b = false := by
  rcases hq : sameL a b with _ | _
  · rfl
  · rw [sameL_eq hq, same_refl] at h
    cases h
theorem sameL_all : ∀ {a b : List Ty5}, a.length = b.length → (∀ j, j < a.length → sameT (kAt a j) (kAt b j) = true) → sameL a b = true
  | [], [], _, _ => rfl
  | t :: r, t' :: r', h, hj => by
    simp only [sameL, Bool.and_eq_true]
    exact ⟨hj 0 (Nat.zero_lt_succ _), sameL_all (by simpa using h) fun j hl => hj (j + 1) (Nat.succ_lt_succ hl)⟩
  | [], _ :: _, h, _ => by simp at h
  | _ :: _, [], h, _ => by simp at h
/-- The element at a place, by kAt. -/
theorem RowIn.at {w : World} {b off : Nat} {ks : List Ty5} {j : Nat} (h : RowIn w b off ks) (hj : j < ks.length) :
    ∃ v0 v1 v2 v3 v4, w.cell? ⟨b, off + j * 5, none⟩ = some v0 ∧ w.cell? ⟨b, off + j * 5 + 1, none⟩ = some v1 ∧ w.cell? ⟨b, off + j * 5 + 2, none⟩ = some v2 ∧ w.cell? ⟨b, off + j * 5 + 3, none⟩ = some v3 ∧ w.cell? ⟨b, off + j * 5 + 4, none⟩ = some v4 ∧ TyIn w (kAt ks j) v0 v1 v2 v3 v4 := by
  rw [kAt_get hj]
  exact h.get hj
end Go.Proofs.Ytbfmaicoefefaaa
