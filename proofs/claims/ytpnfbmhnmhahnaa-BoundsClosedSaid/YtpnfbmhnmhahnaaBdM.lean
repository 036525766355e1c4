/- Right bounds: what is up has no variables (mathematics); few bindings. -/
import Derived.Test.YtpnfbmhnmhahnaaBdI
import Derived.Test.YtpnfbmhnmhahnaaBdR
namespace Go.Proofs.Ytpnfbmhnmhahnaa
open Go.RowKit Pv
/-- Bindings of which a law asks. -/
structure FewB (m : List Bd) : Prop where
  ok : okB m
  len : m.length ≤ 20
  nodes : ∀ p ∈ m, nodesT p.2 ≤ 200
theorem FewB.okN {m : List Bd} (h : FewB m) : okN m := fun u hu => by
  obtain ⟨p, hp, rfl⟩ := List.mem_map.1 hu
  exact (h.ok p hp).1
theorem zT9_ok : okT zT9 := ⟨Nat.zero_le _, fun _ h => absurd h (by simp), trivial⟩
theorem findB_ok {m : List Bd} (h : okB m) (s : ByteArray) : okT (findB m s).1 := by
  unfold findB
  split
  · exact zT9_ok
  · simp only
    cases hq : m[(placeI (m.map Prod.fst) s).toNat]? with
    | none => exact zT9_ok
    | some p => exact (h p (List.mem_of_getElem? hq)).2
theorem upB9_ok {m : List Bd} (h : okB m) : ∀ {t : Ty5}, okT t → okT (upB9 m t).1
  | .mk k n nm ls ks, ht => by
    rw [upB9_mk]
    split
    · exact findB_ok h nm
    · exact ht
mutual
theorem closed_names : ∀ t : Ty5, hasT 6 t = false → namesT t = []
  | .mk k n nm ls ks, h => by
    simp only [hasT, Bool.or_eq_false_iff] at h
    simp only [namesT, h.1, closed_namesL ks h.2]
    rfl
theorem closed_namesL : ∀ ks : List Ty5, hasL 6 ks = false → namesL ks = []
  | [], _ => rfl
  | t :: r, h => by
    simp only [hasL, Bool.or_eq_false_iff] at h
    simp only [namesL, closed_names t h.1, closed_namesL r h.2]
    rfl
end
theorem closed_vrs {t : Ty5} (h : hasT 6 t = false) : vrsT t = [] := by
  have := (vrsT_is t).2
  rw [closed_names t h] at this
  exact List.eq_nil_iff_forall_not_mem.2 fun s hs => by simpa using (this s).1 hs
theorem closed_in (m : List Bd) {t : Ty5} (h : hasT 6 t = false) : inB9 m t = true := inB9_at.2 fun j s hs => by
  rw [closed_vrs h] at hs
  simp at hs
theorem findB_two {m : List Bd} {s : ByteArray} (h : (findB m s).2 = true) : 0 ≤ placeI (m.map Prod.fst) s ∧ ∃ p ∈ m, (findB m s).1 = p.2 := by
  unfold findB at h ⊢
  have hr := place_range (m.map Prod.fst) s
  rw [List.length_map] at hr
  split at h
  · cases h
  · rename_i h0
    rw [if_neg h0]
    refine ⟨by omega, ?_⟩
    have hl : (placeI (m.map Prod.fst) s).toNat < m.length := by omega
    exact ⟨m[(placeI (m.map Prod.fst) s).toNat], List.getElem_mem hl, by simp [List.getElem?_eq_getElem hl]⟩
theorem right_closed {m : List Bd} (h : rightB9 m = true) : ∀ p ∈ m, hasT 6 p.2 = false := fun p hp => by
  obtain ⟨i, hi⟩ := List.getElem?_of_mem hp
  have := rightB9_at.1 h i p hi
  unfold stepR9 at this
  simp only [Bool.and_eq_true, Bool.not_eq_true'] at this
  exact this.1.2
theorem closed_up (m : List Bd) : ∀ {t : Ty5}, hasT 6 t = false → upB9 m t = (t, false)
  | .mk k n nm ls ks, h => by
    simp only [hasT, Bool.or_eq_false_iff] at h
    rw [upB9_mk, if_neg fun e => by rw [e.1] at h; cases h.1]
theorem right_var {n : Int} {nm : ByteArray} {ls : List ByteArray} {ks : List Ty5} (h : rightT varB risingB (.mk 6 n nm ls ks) = true) : ks = [] := by
  simp only [rightT, headB, Bool.and_eq_true] at h
  cases ks with
  | nil => rfl
  | cons a r =>
    simp at h
    have := h.2.2.2
    omega
/-- What the law of bounds says. -/
theorem up_no {m : List Bd} {k n : Int} {nm : ByteArray} {ls : List ByteArray} {ks : List Ty5} (h : (upB9 m (.mk k n nm ls ks)).2 = false) : upB9 m (.mk k n nm ls ks) = (.mk k n nm ls ks, false) ∧ (k = 6 → (findB m nm).2 = false) := by
  rw [upB9_mk] at h ⊢
  split at h
  · cases h
  · rename_i h0
    exact ⟨by rw [if_neg h0], fun hk => by
      cases hf : (findB m nm).2 with
      | false => rfl
      | true => exact absurd ⟨hk, hf⟩ h0⟩
theorem up_yes {m : List Bd} (hm : rightB9 m = true) {k n : Int} {nm : ByteArray} {ls : List ByteArray} {ks : List Ty5} (ht : rightT varB risingB (.mk k n nm ls ks) = true) (h : (upB9 m (.mk k n nm ls ks)).2 = true) :
    k = 6 ∧ (upB9 m (.mk k n nm ls ks)).1 = (findB m nm).1 ∧ hasT 6 (findB m nm).1 = false ∧ (∃ p ∈ m, (findB m nm).1 = p.2) ∧ inB9 m (.mk k n nm ls ks) = true := by
  rw [upB9_mk] at h ⊢
  split at h
  · rename_i h0
    obtain ⟨rfl, hf⟩ := h0
    obtain ⟨h1, p, hp, h2⟩ := findB_two hf
    refine ⟨rfl, by rw [if_pos ⟨rfl, hf⟩], by rw [h2]; exact right_closed hm p hp, ⟨p, hp, h2⟩, inB9_at.2 fun j s hs => ?_⟩
    rw [right_var ht] at hs
    simp only [vrsT, vrsL, if_pos] at hs
    have : s = nm := by simpa using List.mem_of_getElem? hs
    rw [this]
    exact h1
  · cases h
theorem upB9_nodes {m : List Bd} (h : ∀ p ∈ m, nodesT p.2 ≤ 200) {t : Ty5} (ht : nodesT t ≤ 500) : nodesT (upB9 m t).1 ≤ 500 := by
  obtain ⟨k, n, nm, ls, ks⟩ := t
  rw [upB9_mk]
  split
  · rename_i h0
    obtain ⟨_, p, hp, h2⟩ := findB_two h0.2
    simp only
    rw [h2]
    have := h p hp
    omega
  · exact ht
end Go.Proofs.Ytpnfbmhnmhahnaa
