/- The lists within a type that is read are no longer than a slice can be. -/
import Derived.Test.YtbfmaicoefefaaaPwBd
import Derived.Test.YtbfmaicoefefaaaPwC4
set_option linter.unusedSimpArgs false
set_option linter.unusedVariables false
namespace Go.Proofs.Ytbfmaicoefefaaa
open Go.RowKit Pv
set_option maxRecDepth 100000
mutual
def lenT : Ty5 → Prop
  | .mk _ _ _ _ ks => ks.length ≤ 9223372036854775807 ∧ lenL ks
def lenL : List Ty5 → Prop
  | [] => True
  | t :: r => lenT t ∧ lenL r
end
theorem lenL_get : ∀ {ks : List Ty5}, lenL ks → ∀ t ∈ ks, lenT t
  | [], _, t, h => by cases h
  | a :: r, h, t, ht => by
    rcases List.mem_cons.1 ht with rfl | ht
    · exact h.1
    · exact lenL_get h.2 t ht
theorem lenT_kids {k n : Int} {nm : ByteArray} {ls : List ByteArray} {ks : List Ty5} (h : lenT (.mk k n nm ls ks)) : ks.length ≤ 9223372036854775807 ∧ ∀ t ∈ ks, lenT t := by
  simp only [lenT] at h
  exact ⟨h.1, lenL_get h.2⟩
mutual
theorem nodes_lenT : ∀ t : Ty5, nodesT t ≤ 1000000 → lenT t
  | .mk k n nm ls ks, h => by
    have hl := nodesL_len ks
    simp only [nodesT] at h
    simp only [lenT]
    exact ⟨by omega, nodes_lenL ks (by omega)⟩
theorem nodes_lenL : ∀ ks : List Ty5, nodesL ks ≤ 1000000 → lenL ks
  | [], _ => trivial
  | t :: r, h => by
    simp only [nodesL] at h
    exact ⟨nodes_lenT t (by omega), nodes_lenL r (by omega)⟩
end
mutual
theorem rd_lenT {C : Cx} {w : World} : ∀ (t : Ty5) {v : Value}, Rd C w (tyD t) v → lenT t
  | .mk k n nm ls ks, v, h => by
    obtain ⟨vs, rfl, u0, r0, rfl, q0, u1, r1, rfl, q1, u2, r2, rfl, q2, u3, r3, rfl, q3, u4, r4, rfl, q4, q5⟩ := h
    obtain ⟨⟨a, cap, rfl, hc1, hc2⟩, hx, _⟩ := q4
    have hl : (tysD ks).length = ks.length := by simp [tysD_map]
    rw [hl] at hc1 hx
    unfold maxLen at hc2
    simp only [lenT]
    refine ⟨by omega, ?_⟩
    by_cases h0 : 0 < ks.length
    · obtain ⟨b, off, cap', hv, _, hr⟩ := hx h0
      exact rd_lenL ks hr
    · have : ks = [] := List.eq_nil_of_length_eq_zero (by omega)
      subst this
      trivial
theorem rd_lenL {C : Cx} {w : World} : ∀ (ks : List Ty5) {f : Nat → Option Value}, RdE C w 5 (tysD ks) f → lenL ks
  | [], _, _ => trivial
  | t :: r, f, ⟨⟨u, k1, _⟩, hr⟩ => ⟨rd_lenT t k1, rd_lenL r hr⟩
end
theorem rd_lenB1 {C : Cx} {w : World} (p : Bd) {v : Value} (h : Rd C w (bnD p) v) : lenT p.2 := by
  obtain ⟨bn, k, n, nm, ls, ks⟩ := p
  obtain ⟨vs, rfl, _, _, rfl, _, u0, r0, rfl, q0, u1, r1, rfl, q1, u2, r2, rfl, q2, u3, r3, rfl, q3, u4, r4, rfl, q4, q5⟩ := h
  refine rd_lenT (C := C) (w := w) (.mk k n nm ls ks) (v := .agg #[u0, u1, u2, u3, u4]) ⟨[u0, u1, u2, u3, u4], rfl, ?_⟩
  exact ⟨_, _, rfl, q0, _, _, rfl, q1, _, _, rfl, q2, _, _, rfl, q3, _, _, rfl, q4, rfl⟩
theorem rd_lenB {C : Cx} {w : World} : ∀ (m : List Bd) {f : Nat → Option Value}, RdE C w 6 (bnsD m) f → ∀ p ∈ m, lenT p.2
  | [], _, _, p, hp => by cases hp
  | q :: r, f, ⟨⟨u, k1, _⟩, hr⟩, p, hp => by
    rcases List.mem_cons.1 hp with rfl | hp
    · exact rd_lenB1 p k1
    · exact rd_lenB r hr p hp
theorem rd_lenBs {C : Cx} {w : World} (m : List Bd) {v : Value} (h : Rd C w (.sl none 6 (bnsD m)) v) : ∀ p ∈ m, lenT p.2 := by
  obtain ⟨_, hx, _⟩ := h
  by_cases h0 : 0 < (bnsD m).length
  · obtain ⟨b, off, cap', hv, _, hr⟩ := hx h0
    exact rd_lenB m hr
  · have : m = [] := List.eq_nil_of_length_eq_zero (by rw [bns_len] at h0; omega)
    subst this
    exact fun p hp => by cases hp
/-- A contract that leans on what every reading of its arguments tells. -/
theorem cp_when {P : Program} {k : FuncId} {ds : List D} {Q : D → Prop} {A : Prop} (hc : Callable P k) (ha : ∀ S w args, RdL (bare S) w ds args → A) (h : A → CP P k ds Q) : CP P k ds Q :=
  ⟨hc, fun S w args hS r => (h (ha S w args r)).2 S w args hS r⟩
end Go.Proofs.Ytbfmaicoefefaaa
