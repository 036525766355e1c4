/- More and less precise types; what two types tell; a part taken away. No program. -/
import Derived.Test.YtllehceckdcbaaaSbM
namespace Go.Proofs.Ytllehceckdcbaaa
open Go.RowKit
def dynT : Ty5 := .mk 5 0 ⟨#[]⟩ [] []
def isDyn (t : Ty5) : Bool := sameT t dynT
theorem isDyn_iff {t : Ty5} : isDyn t = true ↔ t = dynT := same_iff
theorem isDyn_no {t : Ty5} : isDyn t = false ↔ t ≠ dynT := by
  rw [Bool.eq_false_iff, Ne, isDyn_iff]
/-- Two nodes are the same, but for their parts. -/
def alikeT : Ty5 → Ty5 → Bool
  | .mk k n nm ls ks, .mk k' n' nm' ls' ks' => k == k' && (n == n' && (eqS nm nm' && (eqL ls ls' && ks.length == ks'.length)))
def argsT : Ty5 → List Ty5
  | .mk _ _ _ _ ks => ks
theorem alike_iff {k n : Int} {nm : ByteArray} {ls : List ByteArray} {ks : List Ty5} {k' n' : Int} {nm' : ByteArray} {ls' : List ByteArray} {ks' : List Ty5} : alikeT (.mk k n nm ls ks) (.mk k' n' nm' ls' ks') = true ↔ k = k' ∧ n = n' ∧ nm = nm' ∧ ls = ls' ∧ ks.length = ks'.length := by
  simp only [alikeT, Bool.and_eq_true, beq_iff_eq, eqS_iff]
  constructor
  · rintro ⟨h1, h2, h3, h4, h5⟩
    exact ⟨h1, h2, h3, eqL_eq h4, h5⟩
  · rintro ⟨h1, h2, h3, rfl, h5⟩
    exact ⟨h1, h2, h3, eqL_refl _, h5⟩
mutual
def lessT : Ty5 → Ty5 → Bool
  | .mk k n nm ls ks, .mk k' n' nm' ls' ks' => isDyn (.mk k' n' nm' ls' ks') || (alikeT (.mk k n nm ls ks) (.mk k' n' nm' ls' ks') && lessL ks ks')
def lessL : List Ty5 → List Ty5 → Bool
  | [], [] => true
  | t :: r, u :: q => lessT t u && lessL r q
  | [], _ :: _ => false
  | _ :: _, [] => false
end
theorem less_dyn {a b : Ty5} (h : isDyn b = true) : lessT a b = true := by
  obtain ⟨k, n, nm, ls, ks⟩ := a
  obtain ⟨k', n', nm', ls', ks'⟩ := b
  simp only [lessT, h, Bool.true_or]
theorem less_alike {a b : Ty5} (h : isDyn b = false) : lessT a b = (alikeT a b && lessL (argsT a) (argsT b)) := by
  obtain ⟨k, n, nm, ls, ks⟩ := a
  obtain ⟨k', n', nm', ls', ks'⟩ := b
  simp only [lessT, h, Bool.false_or, argsT]
theorem lessL_len : ∀ {a b : List Ty5}, lessL a b = true → a.length = b.length
  | [], [], _ => rfl
  | t :: r, u :: q, h => by
    simp only [lessL, Bool.and_eq_true] at h
    simp only [List.length_cons, lessL_len h.2]
  | [], _ :: _, h => by cases h
  | _ :: _, [], h => by cases h
theorem lessL_at : ∀ {a b : List Ty5}, a.length = b.length → (lessL a b = true ↔ ∀ (j : Nat) (t u : Ty5), a[j]? = some t → b[j]? = some u → lessT t u = true)
  | [], [], _ => ⟨fun _ j t u h => by simp at h, fun _ => rfl⟩
  | t :: r, u :: q, hl => by
    simp only [lessL, Bool.and_eq_true]
    rw [lessL_at (a := r) (b := q) (by simpa using hl)]
    constructor
    · rintro ⟨h1, h2⟩ j x y hx hy
      cases j with
      | zero => simp at hx hy; subst hx hy; exact h1
      | succ j => exact h2 j x y (by simpa using hx) (by simpa using hy)
    · intro h
      exact ⟨h 0 t u rfl rfl, fun j x y hx hy => h (j + 1) x y (by simpa using hx) (by simpa using hy)⟩
  | [], _ :: _, h => by simp at h
  | _ :: _, [], h => by simp at h
/-- The ways of being less precise. -/
theorem less_cases {k n : Int} {nm : ByteArray} {ls : List ByteArray} {ks : List Ty5} {b : Ty5} (h : lessT (.mk k n nm ls ks) b = true) : b = dynT ∨ ∃ ks', b = .mk k n nm ls ks' ∧ lessL ks ks' = true := by
  obtain ⟨k', n', nm', ls', ks'⟩ := b
  simp only [lessT, Bool.or_eq_true, Bool.and_eq_true] at h
  rcases h with h | ⟨h1, h2⟩
  · exact .inl (isDyn_iff.1 h)
  · obtain ⟨rfl, rfl, rfl, rfl, _⟩ := alike_iff.1 h1
    exact .inr ⟨ks', rfl, h2⟩
theorem less_mk {k n : Int} {nm : ByteArray} {ls : List ByteArray} {ks ks' : List Ty5} (h : lessL ks ks' = true) : lessT (.mk k n nm ls ks) (.mk k n nm ls ks') = true := by
  simp only [lessT, Bool.or_eq_true, Bool.and_eq_true]
  exact .inr ⟨alike_iff.2 ⟨rfl, rfl, rfl, rfl, lessL_len h⟩, h⟩
theorem less_top (a : Ty5) : lessT a dynT = true := less_dyn (isDyn_iff.2 rfl)
mutual
theorem less_refl : ∀ a : Ty5, lessT a a = true
  | .mk k n nm ls ks => less_mk (lessL_refl ks)
theorem lessL_refl : ∀ a : List Ty5, lessL a a = true
  | [] => rfl
  | t :: r => by simp only [lessL, Bool.and_eq_true]; exact ⟨less_refl t, lessL_refl r⟩
end
theorem dyn_less {b : Ty5} (h : lessT dynT b = true) : b = dynT := by
  rcases less_cases h with h | ⟨ks', rfl, h'⟩
  · exact h
  · cases ks' with
    | nil => rfl
    | cons t r => cases h'
mutual
theorem less_tr : ∀ {a b c : Ty5}, lessT a b = true → lessT b c = true → lessT a c = true
  | .mk k n nm ls ks, b, c, h1, h2 => by
    rcases less_cases h1 with rfl | ⟨ks', rfl, g1⟩
    · rw [dyn_less h2]
      exact less_top _
    · rcases less_cases h2 with rfl | ⟨ks'', rfl, g2⟩
      · exact less_top _
      · exact less_mk (lessL_tr g1 g2)
theorem lessL_tr : ∀ {a b c : List Ty5}, lessL a b = true → lessL b c = true → lessL a c = true
  | [], [], [], _, _ => rfl
  | t :: r, u :: q, v :: s, h1, h2 => by
    simp only [lessL, Bool.and_eq_true] at h1 h2 ⊢
    exact ⟨less_tr h1.1 h2.1, lessL_tr h1.2 h2.2⟩
  | [], _ :: _, _, h, _ => by cases h
  | _ :: _, [], _, h, _ => by cases h
  | [], [], _ :: _, _, h => by cases h
  | _ :: _, _ :: _, [], _, h => by cases h
end
mutual
theorem less_anti : ∀ {a b : Ty5}, lessT a b = true → lessT b a = true → a = b
  | .mk k n nm ls ks, b, h1, h2 => by
    rcases less_cases h1 with rfl | ⟨ks', rfl, g1⟩
    · exact dyn_less h2
    · rcases less_cases h2 with h | ⟨ks'', h, g2⟩
      · have e : ks = [] ∧ k = 5 := by
          simp only [dynT, Ty5.mk.injEq] at h
          exact ⟨h.2.2.2.2, h.1⟩
        rw [e.1] at g1 ⊢
        cases ks' with
        | nil => rfl
        | cons t r => cases g1
      · simp only [Ty5.mk.injEq, true_and] at h
        subst h
        rw [lessL_anti g1 g2]
theorem lessL_anti : ∀ {a b : List Ty5}, lessL a b = true → lessL b a = true → a = b
  | [], [], _, _ => rfl
  | t :: r, u :: q, h1, h2 => by
    simp only [lessL, Bool.and_eq_true] at h1 h2
    rw [less_anti h1.1 h2.1, lessL_anti h1.2 h2.2]
  | [], _ :: _, h, _ => by cases h
  | _ :: _, [], h, _ => by cases h
end
mutual
theorem less_nodes : ∀ {a b : Ty5}, lessT a b = true → nodesT b ≤ nodesT a
  | .mk k n nm ls ks, b, h => by
    rcases less_cases h with rfl | ⟨ks', rfl, g⟩
    · simp only [dynT, nodesT, nodesL]; omega
    · have := lessL_nodes g
      simp only [nodesT]; omega
theorem lessL_nodes : ∀ {a b : List Ty5}, lessL a b = true → nodesL b ≤ nodesL a
  | [], [], _ => Nat.le_refl _
  | t :: r, u :: q, h => by
    simp only [lessL, Bool.and_eq_true] at h
    have := less_nodes h.1
    have := lessL_nodes h.2
    simp only [nodesL]; omega
  | [], _ :: _, h => by cases h
  | _ :: _, [], h => by cases h
end
/-! ### What both tell -/
mutual
def fuseT : Ty5 → Ty5 → Option Ty5
  | .mk k n nm ls ks, .mk k' n' nm' ls' ks' =>
    if isDyn (.mk k' n' nm' ls' ks') = true then some (.mk k n nm ls ks) else if isDyn (.mk k n nm ls ks) = true then some (.mk k' n' nm' ls' ks')
    else if alikeT (.mk k n nm ls ks) (.mk k' n' nm' ls' ks') = true then (fuseL ks ks').map (.mk k n nm ls) else none
def fuseL : List Ty5 → List Ty5 → Option (List Ty5)
  | [], [] => some []
  | t :: r, u :: q => match fuseT t u with
    | some v => (fuseL r q).map (v :: ·)
    | none => none
  | [], _ :: _ => none
  | _ :: _, [] => none
end
theorem fuse_right {a b : Ty5} (h : b = dynT) : fuseT a b = some a := by
  obtain ⟨k, n, nm, ls, ks⟩ := a
  obtain ⟨k', n', nm', ls', ks'⟩ := b
  simp only [fuseT]
  rw [if_pos (isDyn_iff.2 h)]
theorem fuse_left {a b : Ty5} (hb : b ≠ dynT) (h : a = dynT) : fuseT a b = some b := by
  obtain ⟨k, n, nm, ls, ks⟩ := a
  obtain ⟨k', n', nm', ls', ks'⟩ := b
  simp only [fuseT]
  rw [if_neg (fun e => hb (isDyn_iff.1 e)), if_pos (isDyn_iff.2 h)]
theorem fuse_both {k n : Int} {nm : ByteArray} {ls : List ByteArray} {ks ks' : List Ty5} (ha : Ty5.mk k n nm ls ks ≠ dynT) (hb : Ty5.mk k n nm ls ks' ≠ dynT) (hl : ks.length = ks'.length) : fuseT (.mk k n nm ls ks) (.mk k n nm ls ks') = (fuseL ks ks').map (.mk k n nm ls) := by
  simp only [fuseT]
  rw [if_neg (fun e => hb (isDyn_iff.1 e)), if_neg (fun e => ha (isDyn_iff.1 e)), if_pos (alike_iff.2 ⟨rfl, rfl, rfl, rfl, hl⟩)]
theorem fuse_none {a b : Ty5} (ha : a ≠ dynT) (hb : b ≠ dynT) (h : alikeT a b = false) : fuseT a b = none := by
  obtain ⟨k, n, nm, ls, ks⟩ := a
  obtain ⟨k', n', nm', ls', ks'⟩ := b
  simp only [fuseT]
  rw [if_neg (fun e => hb (isDyn_iff.1 e)), if_neg (fun e => ha (isDyn_iff.1 e)), h]
  rfl
mutual
theorem fuse_less : ∀ {a b t : Ty5}, fuseT a b = some t → lessT t a = true ∧ lessT t b = true
  | .mk k n nm ls ks, .mk k' n' nm' ls' ks', t, h => by
    simp only [fuseT] at h
    split at h
    · rename_i hd
      cases h
      exact ⟨less_refl _, less_dyn hd⟩
    · split at h
      · rename_i hd
        cases h
        exact ⟨less_dyn hd, less_refl _⟩
      · split at h
        · rename_i hal
          obtain ⟨rfl, rfl, rfl, rfl, _⟩ := alike_iff.1 hal
          obtain ⟨vs, hv, rfl⟩ := Option.map_eq_some_iff.1 h
          obtain ⟨h1, h2⟩ := fuseL_less hv
          exact ⟨less_mk h1, less_mk h2⟩
        · cases h
theorem fuseL_less : ∀ {a b vs : List Ty5}, fuseL a b = some vs → lessL vs a = true ∧ lessL vs b = true
  | [], [], vs, h => by cases h; exact ⟨rfl, rfl⟩
  | t :: r, u :: q, vs, h => by
    simp only [fuseL] at h
    split at h
    · rename_i v hv
      obtain ⟨ws, hw, rfl⟩ := Option.map_eq_some_iff.1 h
      obtain ⟨h1, h2⟩ := fuse_less hv
      obtain ⟨h3, h4⟩ := fuseL_less hw
      simp only [lessL, Bool.and_eq_true]
      exact ⟨⟨h1, h3⟩, ⟨h2, h4⟩⟩
    · cases h
  | [], _ :: _, _, h => by cases h
  | _ :: _, [], _, h => by cases h
end
mutual
theorem fuse_least : ∀ {c a b : Ty5}, lessT c a = true → lessT c b = true → ∃ t, fuseT a b = some t ∧ lessT c t = true
  | .mk k n nm ls ks, a, b, h1, h2 => by
    by_cases hb : b = dynT
    · exact ⟨a, fuse_right hb, h1⟩
    · by_cases ha : a = dynT
      · exact ⟨b, fuse_left hb ha, h2⟩
      · rcases less_cases h1 with h | ⟨ka, rfl, g1⟩
        · exact absurd h ha
        · rcases less_cases h2 with h | ⟨kb, rfl, g2⟩
          · exact absurd h hb
          · obtain ⟨vs, hv, hl⟩ := fuseL_least g1 g2
            exact ⟨.mk k n nm ls vs, by rw [fuse_both ha hb ((lessL_len g1).symm.trans (lessL_len g2)), hv]; rfl, less_mk hl⟩
theorem fuseL_least : ∀ {c a b : List Ty5}, lessL c a = true → lessL c b = true → ∃ vs, fuseL a b = some vs ∧ lessL c vs = true
  | [], [], [], _, _ => ⟨[], rfl, rfl⟩
  | t :: r, u :: q, v :: s, h1, h2 => by
    simp only [lessL, Bool.and_eq_true] at h1 h2
    obtain ⟨w, hw, hl⟩ := fuse_least h1.1 h2.1
    obtain ⟨ws, hws, hls⟩ := fuseL_least h1.2 h2.2
    exact ⟨w :: ws, by simp only [fuseL, hw, hws, Option.map_some], by simp only [lessL, Bool.and_eq_true]; exact ⟨hl, hls⟩⟩
  | [], _ :: _, _, h, _ => by cases h
  | _ :: _, [], _, h, _ => by cases h
  | [], [], _ :: _, _, h => by cases h
  | _ :: _, _ :: _, [], _, h => by cases h
end
/-! ### A part taken away -/
mutual
def cutT : Ty5 → Nat → Ty5
  | .mk k n nm ls ks, j => if j = 0 then dynT else .mk k n nm ls (cutL ks (j - 1))
def cutL : List Ty5 → Nat → List Ty5
  | [], _ => []
  | t :: r, j => if j < nodesT t then cutT t j :: r else t :: cutL r (j - nodesT t)
end
mutual
theorem cut_less : ∀ (t : Ty5) (j : Nat), lessT t (cutT t j) = true
  | .mk k n nm ls ks, j => by
    simp only [cutT]
    split
    · exact less_top _
    · exact less_mk (cutL_less ks _)
theorem cutL_less : ∀ (ks : List Ty5) (j : Nat), lessL ks (cutL ks j) = true
  | [], _ => rfl
  | t :: r, j => by
    simp only [cutL]
    split
    · simp only [lessL, Bool.and_eq_true]
      exact ⟨cut_less t j, lessL_refl r⟩
    · simp only [lessL, Bool.and_eq_true]
      exact ⟨less_refl t, cutL_less r _⟩
end
theorem cutL_len : ∀ (ks : List Ty5) (j : Nat), (cutL ks j).length = ks.length
  | [], _ => rfl
  | t :: r, j => by
    simp only [cutL]
    split
    · rfl
    · simp only [List.length_cons, cutL_len r]
/-- At each place: the part whose nodes the number falls into is cut; all others stay. -/
theorem cutL_at : ∀ (ks : List Ty5) (j i : Nat) (t : Ty5), ks[i]? = some t → (cutL ks j)[i]? = some (if nodesL (ks.take i) ≤ j ∧ j < nodesL (ks.take i) + nodesT t then cutT t (j - nodesL (ks.take i)) else t)
  | [], _, _, _, h => by simp at h
  | x :: r, j, 0, t, h => by
    simp at h
    subst h
    simp only [cutL, List.take_zero, nodesL, Nat.zero_le, true_and, Nat.zero_add, Nat.sub_zero]
    split <;> simp
  | x :: r, j, i + 1, t, h => by
    simp at h
    simp only [cutL, List.take_succ_cons, nodesL]
    split
    · rename_i hj
      rw [if_neg (by omega)]
      simpa using h
    · rename_i hj
      have ih := cutL_at r (j - nodesT x) i t h
      simp only [List.getElem?_cons_succ]
      rw [ih]
      by_cases hc : nodesL (r.take i) ≤ j - nodesT x ∧ j - nodesT x < nodesL (r.take i) + nodesT t
      · rw [if_pos hc, if_pos (by omega)]
        rw [show j - nodesT x - nodesL (r.take i) = j - (nodesT x + nodesL (r.take i)) by omega]
      · rw [if_neg hc, if_neg (by omega)]
end Go.Proofs.Ytllehceckdcbaaa
