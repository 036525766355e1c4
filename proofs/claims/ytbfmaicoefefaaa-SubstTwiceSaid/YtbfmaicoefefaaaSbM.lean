/- Types of which nodes are replaced: bindings put in, variables sealed, seals opened. No program. -/
import Derived.Test.YtbfmaicoefefaaaTyP
import Derived.Test.YtbfmaicoefefaaaTyU
import Derived.Test.YtbfmaicoefefaaaStrs
set_option linter.unusedSimpArgs false
set_option linter.unusedVariables false
namespace Go.Proofs.Ytbfmaicoefefaaa
open Go.RowKit
/-- What stands for a node: its kind, number and name say it; or the node stays. -/
abbrev NodeF := Int → Int → ByteArray → Option Ty5
mutual
def trT (f : NodeF) : Ty5 → Ty5
  | .mk k n nm ls ks => match f k n nm with
    | some u => u
    | none => .mk k n nm ls (trL f ks)
def trL (f : NodeF) : List Ty5 → List Ty5
  | [] => []
  | t :: r => trT f t :: trL f r
end
theorem trL_map (f : NodeF) : ∀ ks : List Ty5, trL f ks = ks.map (trT f)
  | [] => rfl
  | t :: r => by simp only [trL, List.map_cons, trL_map f r]
theorem tr_some {f : NodeF} {k n : Int} {nm : ByteArray} {u : Ty5} (h : f k n nm = some u) (ls : List ByteArray) (ks : List Ty5) : trT f (.mk k n nm ls ks) = u := by
  simp only [trT, h]
theorem tr_none {f : NodeF} {k n : Int} {nm : ByteArray} (h : f k n nm = none) (ls : List ByteArray) (ks : List Ty5) : trT f (.mk k n nm ls ks) = .mk k n nm ls (ks.map (trT f)) := by
  simp only [trT, h, trL_map]
mutual
/-- One behind the other. -/
theorem tr_tr {f g h : NodeF} (p : Int → Prop) (hs : ∀ k n nm, p k → h k n nm = match f k n nm with | some u => some (trT g u) | none => g k n nm) : ∀ t : Ty5, (∀ kd, hasT kd t = true → p kd) → trT g (trT f t) = trT h t
  | .mk k n nm ls ks, hp => by
    have hk := hs k n nm (hp k (by simp [hasT]))
    have hL := tr_trL p hs ks fun kd hkd => hp kd (by simp [hasT, hkd])
    rcases hf : f k n nm with _ | u
    · rw [hf] at hk
      simp only at hk
      rcases hg : g k n nm with _ | u
      · rw [tr_none hf, tr_none (hk.trans hg), tr_none hg, ← trL_map f, ← trL_map g, ← trL_map h, hL]
      · rw [tr_none hf, tr_some (hk.trans hg), tr_some hg]
    · rw [hf] at hk
      simp only at hk
      rw [tr_some hf, tr_some hk]
theorem tr_trL {f g h : NodeF} (p : Int → Prop) (hs : ∀ k n nm, p k → h k n nm = match f k n nm with | some u => some (trT g u) | none => g k n nm) : ∀ ks : List Ty5, (∀ kd, hasL kd ks = true → p kd) → trL g (trL f ks) = trL h ks
  | [], _ => rfl
  | t :: r, hp => by
    simp only [trL]
    rw [tr_tr p hs t fun kd hkd => hp kd (by simp [hasL, hkd]), tr_trL p hs r fun kd hkd => hp kd (by simp [hasL, hkd])]
end
theorem nodesL_mem : ∀ {ks : List Ty5} {t : Ty5}, t ∈ ks → nodesT t ≤ nodesL ks
  | x :: r, t, h => by
    simp only [nodesL]
    rcases List.mem_cons.1 h with rfl | h
    · omega
    · have := nodesL_mem h
      omega
theorem nodes_one (t : Ty5) : 1 ≤ nodesT t := by
  cases t
  simp only [nodesT]
  omega
theorem nodesL_len : ∀ ks : List Ty5, ks.length ≤ nodesL ks
  | [] => Nat.le_refl _
  | t :: r => by
    have := nodes_one t
    have := nodesL_len r
    simp only [nodesL, List.length_cons]
    omega
mutual
/-- How many nodes there are behind it. -/
theorem tr_nodes {f : NodeF} {B : Nat} (h1 : 1 ≤ B) (hB : ∀ k n nm u, f k n nm = some u → nodesT u ≤ B) : ∀ t : Ty5, nodesT (trT f t) ≤ nodesT t * B
  | .mk k n nm ls ks => by
    rcases hf : f k n nm with _ | u
    · rw [tr_none hf, ← trL_map]
      have := tr_nodesL h1 hB ks
      simp only [nodesT, Nat.add_mul, Nat.one_mul]
      omega
    · rw [tr_some hf]
      have := hB _ _ _ _ hf
      simp only [nodesT, Nat.add_mul, Nat.one_mul]
      omega
theorem tr_nodesL {f : NodeF} {B : Nat} (h1 : 1 ≤ B) (hB : ∀ k n nm u, f k n nm = some u → nodesT u ≤ B) : ∀ ks : List Ty5, nodesL (trL f ks) ≤ nodesL ks * B
  | [] => Nat.zero_le _
  | t :: r => by
    have := tr_nodes h1 hB t
    have := tr_nodesL h1 hB r
    simp only [trL, nodesL, Nat.add_mul]
    omega
end
mutual
/-- How much it holds. -/
theorem tr_sz {f : NodeF} {B : Nat} (h1 : 1 ≤ B) (hB : ∀ k n nm u, f k n nm = some u → szT u ≤ B) : ∀ t : Ty5, szT (trT f t) ≤ szT t * B
  | .mk k n nm ls ks => by
    rcases hf : f k n nm with _ | u
    · rw [tr_none hf, ← trL_map]
      have := tr_szL h1 hB ks
      have := Nat.le_mul_of_pos_right nm.size h1
      have := Nat.le_mul_of_pos_right (szS ls) h1
      simp only [szT, Nat.add_mul, Nat.one_mul]
      omega
    · rw [tr_some hf]
      have := hB _ _ _ _ hf
      simp only [szT, Nat.add_mul, Nat.one_mul]
      omega
theorem tr_szL {f : NodeF} {B : Nat} (h1 : 1 ≤ B) (hB : ∀ k n nm u, f k n nm = some u → szT u ≤ B) : ∀ ks : List Ty5, szL (trL f ks) ≤ szL ks * B
  | [] => Nat.zero_le _
  | t :: r => by
    have := tr_sz h1 hB t
    have := tr_szL h1 hB r
    simp only [trL, szL, Nat.add_mul]
    omega
end
/-! ### Bindings -/
abbrev Bd := ByteArray × Ty5
/-- The type of the first binding of a name. -/
def findT : List Bd → ByteArray → Option Ty5
  | [], _ => none
  | p :: r, s => if p.1 = s then some p.2 else findT r s
theorem findT_none : ∀ {m : List Bd} {s : ByteArray}, (∀ (j : Nat) (p : Bd), m[j]? = some p → p.1 ≠ s) → findT m s = none
  | [], _, _ => rfl
  | p :: r, s, h => by
    simp only [findT]
    rw [if_neg (h 0 p rfl)]
    exact findT_none fun j q hq => h (j + 1) q (by simpa using hq)
theorem findT_some : ∀ {m : List Bd} {s : ByteArray} {i : Nat} {p : Bd}, m[i]? = some p → p.1 = s → (∀ (j : Nat) (q : Bd), j < i → m[j]? = some q → q.1 ≠ s) → findT m s = some p.2
  | [], _, _, _, h, _, _ => by simp at h
  | q :: r, s, 0, p, h, e, _ => by
    simp at h
    subst h
    simp only [findT, e, if_true]
  | q :: r, s, i + 1, p, h, e, hj => by
    simp only [findT]
    rw [if_neg (hj 0 q (Nat.zero_lt_succ _) rfl)]
    exact findT_some (i := i) (by simpa using h) e fun j u hl hu => hj (j + 1) u (Nat.succ_lt_succ hl) (by simpa using hu)
theorem findT_mem : ∀ {m : List Bd} {s : ByteArray} {u : Ty5}, findT m s = some u → ∃ p ∈ m, p.1 = s ∧ p.2 = u
  | [], _, _, h => by cases h
  | p :: r, s, u, h => by
    simp only [findT] at h
    split at h
    · rename_i e
      exact ⟨p, by simp, e, Option.some.inj h⟩
    · obtain ⟨q, hq, h1⟩ := findT_mem h
      exact ⟨q, List.mem_cons_of_mem _ hq, h1⟩
theorem findT_app : ∀ (a b : List Bd) (s : ByteArray), findT (a ++ b) s = match findT a s with | some u => some u | none => findT b s
  | [], _, _ => rfl
  | p :: r, b, s => by
    simp only [List.cons_append, findT]
    split
    · rfl
    · exact findT_app r b s
theorem findT_map (g : Ty5 → Ty5) : ∀ (a : List Bd) (s : ByteArray), findT (a.map fun p => (p.1, g p.2)) s = (findT a s).map g
  | [], _ => rfl
  | p :: r, s => by
    simp only [List.map_cons, findT]
    split
    · rfl
    · exact findT_map g r s
/-- Bindings, put in. -/
def putF (m : List Bd) : NodeF := fun k _ nm => if k = 6 then findT m nm else none
def putT (m : List Bd) (t : Ty5) : Ty5 := trT (putF m) t
/-- Bindings put in, and then others: once, into whose types the others were put. -/
theorem put_put (m n : List Bd) (t : Ty5) : putT n (putT m t) = putT (m.map (fun p => (p.1, putT n p.2)) ++ n) t := by
  refine tr_tr (fun _ => True) (fun k x nm _ => ?_) t fun _ _ => trivial
  unfold putF
  by_cases h : k = 6
  · simp only [if_pos h]
    rw [findT_app, show (fun p : Bd => (p.1, putT n p.2)) = fun p => (p.1, (putT n) p.2) from rfl, findT_map]
    cases findT m nm <;> rfl
  · simp only [if_neg h]
/-! ### Seals -/
def nth? (ks : List Ty5) (z : Int) : Option Ty5 := if 0 ≤ z then ks[z.toNat]? else none
def openF (fr : Int) (l : List Ty5) : NodeF := fun k n _ => if k = 9 then nth? l (n - fr) else none
def openT (fr : Int) (l : List Ty5) (t : Ty5) : Ty5 := trT (openF fr l) t
/-- The place of a name in a list of names. -/
def placeT : List ByteArray → ByteArray → Option Nat
  | [], _ => none
  | p :: r, s => if p = s then some 0 else (placeT r s).map (· + 1)
theorem placeT_some : ∀ {l : List ByteArray} {s : ByteArray} {i : Nat}, l[i]? = some s → (∀ (j : Nat) (q : ByteArray), j < i → l[j]? = some q → q ≠ s) → placeT l s = some i
  | [], _, _, h, _ => by simp at h
  | q :: r, s, 0, h, _ => by
    simp at h
    simp only [placeT, h, if_true]
  | q :: r, s, i + 1, h, hj => by
    simp only [placeT]
    rw [if_neg (hj 0 q (Nat.zero_lt_succ _) rfl), placeT_some (i := i) (by simpa using h) fun j u hl hu => hj (j + 1) u (Nat.succ_lt_succ hl) (by simpa using hu)]
    rfl
theorem placeT_none : ∀ {l : List ByteArray} {s : ByteArray}, (∀ (j : Nat) (q : ByteArray), l[j]? = some q → q ≠ s) → placeT l s = none
  | [], _, _ => rfl
  | q :: r, s, h => by
    simp only [placeT]
    rw [if_neg (h 0 q rfl), placeT_none fun j u hu => h (j + 1) u (by simpa using hu)]
    rfl
theorem placeT_find : ∀ (m : List Bd) (s : ByteArray), (placeT (m.map Prod.fst) s).bind (fun i => (m.map Prod.snd)[i]?) = findT m s
  | [], _ => rfl
  | p :: r, s => by
    simp only [List.map_cons, placeT, findT]
    split
    · rfl
    · rw [← placeT_find r s]
      cases placeT (r.map Prod.fst) s <;> simp
theorem placeT_lt : ∀ {l : List ByteArray} {s : ByteArray} {i : Nat}, placeT l s = some i → i < l.length
  | [], _, _, h => by cases h
  | q :: r, s, i, h => by
    simp only [placeT] at h
    split at h
    · cases h; simp
    · rw [Option.map_eq_some_iff] at h
      obtain ⟨j, hj, rfl⟩ := h
      have := placeT_lt hj
      simp
      omega
def sealF (names : List ByteArray) (fr : Int) : NodeF := fun k _ nm => if k = 6 then (placeT names nm).map fun (i : Nat) => .mk 9 (fr + i) ⟨#[]⟩ [] [] else none
def sealT (names : List ByteArray) (fr : Int) (t : Ty5) : Ty5 := trT (sealF names fr) t
/-- What is sealed, and opened with types, has those types put in; of a type without seals. -/
theorem open_seal (m : List Bd) (fr : Int) (t : Ty5) (ht : hasT 9 t = false) : openT fr (m.map Prod.snd) (sealT (m.map Prod.fst) fr t) = putT m t := by
  refine tr_tr (fun k => k ≠ 9) (fun k n nm hk => ?_) t fun kd hkd e => ?_
  · unfold putF sealF
    by_cases h : k = 6
    · simp only [if_pos h]
      rw [← placeT_find]
      rcases hp : placeT (m.map Prod.fst) nm with _ | i
      · simp only [Option.bind_none, Option.map_none]
        unfold openF
        rw [if_neg hk]
      · have hi : i < (m.map Prod.snd).length := by have := placeT_lt hp; simpa using this
        simp only [Option.bind_some, Option.map_some]
        rw [List.getElem?_eq_getElem hi, tr_some (u := (m.map Prod.snd)[i])]
        unfold openF nth?
        rw [if_pos rfl, if_pos (by omega), show (fr + (i : Int) - fr).toNat = i by omega, List.getElem?_eq_getElem hi]
    · simp only [if_neg h]
      unfold openF
      rw [if_neg hk]
  · subst e
    rw [hkd] at ht
    cases ht
theorem placeI_T (ls : List ByteArray) (s : ByteArray) : placeI ls s = match placeT ls s with
    | some i => (i : Int)
    | none => -1 := by
  have h : ∀ ls : List ByteArray, ls.findIdx? (fun x => x.toList == s.toList) = placeT ls s := by
    intro ls
    induction ls with
    | nil => rfl
    | cons x r ih =>
      rw [List.findIdx?_cons, ih]
      simp only [placeT]
      by_cases e : x = s
      · have h1 : (x.toList == s.toList) = true := eqS_iff.2 e
        rw [if_pos e, if_pos h1]
      · have h1 : ¬ (x.toList == s.toList) = true := fun h => e (eqS_iff.1 h)
        rw [if_neg e, if_neg h1]
  unfold placeI
  rw [h]
  cases placeT ls s <;> rfl
/-- A type, if it fits. -/
def fitB (t : Ty5) : Bool := decide (nodesT t ≤ 300)
def fitT (t : Ty5) : Ty5 := if fitB t = true then t else .mk 0 0 ⟨#[]⟩ [] []
end Go.Proofs.Ytbfmaicoefefaaa
