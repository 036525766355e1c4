/- Plain mathematics: a list that rises, without one of its texts. -/
import Derived.Test.YtdcnccjabgldmaaLaws
namespace Go.Proofs.Ytdcnccjabgldmaa
open Go.RowKit
theorem rising_get {ss : List ByteArray} (h : risingB ss = true) {j : Nat} (hj : j < ss.length) : upAt ss j = true := by
  simp only [risingB, List.all_eq_true, List.mem_range] at h; exact h j hj
theorem rising_fine {ss : List ByteArray} (h : risingB ss = true) {j : Nat} (hj : j < ss.length) : fineB (stAt ss j) = true := by
  have := rising_get h hj
  simp only [upAt, Bool.and_eq_true] at this
  exact this.1
theorem rising_lt {ss : List ByteArray} (h : risingB ss = true) : ∀ (d a : Nat), a + d + 1 < ss.length → ltS (stAt ss a) (stAt ss (a + d + 1)) = true
  | 0, a, hl => by
    have := rising_get h hl
    rw [Nat.add_zero, up_succ, Bool.and_eq_true] at this
    exact this.2
  | d + 1, a, hl => by
    have h1 := rising_lt h d a (by omega)
    have h2 := rising_get h hl
    rw [show a + (d + 1) + 1 = (a + d + 1) + 1 from by omega, up_succ, Bool.and_eq_true] at h2
    exact less_trans _ _ _ h1 h2.2
theorem rising_pair {ss : List ByteArray} (h : risingB ss = true) {a b : Nat} (hab : a < b) (hb : b < ss.length) : ltS (stAt ss a) (stAt ss b) = true := by
  have := rising_lt h (b - a - 1) a (by omega)
  rw [show a + (b - a - 1) + 1 = b from by omega] at this
  exact this
theorem ltS_ne {a b : ByteArray} (h : ltS a b = true) : (a.toList == b.toList) = false ∧ (b.toList == a.toList) = false := by
  have e : a.toList ≠ b.toList := by
    intro e
    unfold ltS at h
    rw [e, less_irr] at h
    cases h
  exact ⟨beq_eq_false_iff_ne.2 e, beq_eq_false_iff_ne.2 e.symm⟩
/-- The list without the text at place i. -/
def without (ss : List ByteArray) (i : Nat) : List ByteArray := ss.take i ++ ss.drop (i + 1)
theorem without_len {ss : List ByteArray} {i : Nat} (h : i < ss.length) : (without ss i).length = ss.length - 1 := by
  simp [without]; omega
theorem without_get {ss : List ByteArray} {i : Nat} (h : i < ss.length) (j : Nat) (hj : j < ss.length - 1) : stAt (without ss i) j = stAt ss (if j < i then j else j + 1) := by
  have hj2 : j < (without ss i).length := by rw [without_len h]; exact hj
  split
  · rename_i hji
    rw [stAt_get hj2, stAt_get (by omega)]
    simp only [without]
    rw [List.getElem_append_left (by simp; omega), List.getElem_take]
  · rename_i hji
    rw [stAt_get hj2, stAt_get (by omega)]
    simp only [without]
    rw [List.getElem_append_right (by simp; omega), List.getElem_drop]
    congr 1
    simp
    omega
theorem without_rising {ss : List ByteArray} {i : Nat} (h : i < ss.length) (hr : risingB ss = true) : risingB (without ss i) = true := by
  refine rising_true fun j hj => ?_
  rw [without_len h] at hj
  cases j with
  | zero =>
    rw [up_zero, without_get h _ hj]
    exact rising_fine hr (by split <;> omega)
  | succ q =>
    rw [up_succ, without_get h _ hj, without_get h _ (by omega), Bool.and_eq_true]
    exact ⟨rising_fine hr (by split <;> omega), rising_pair hr (by split <;> split <;> omega) (by split <;> omega)⟩
theorem without_fresh {ss : List ByteArray} {i : Nat} (h : i < ss.length) (hr : risingB ss = true) : placeI (without ss i) (stAt ss i) = -1 := by
  refine place_none fun j hj => ?_
  rw [without_len h] at hj
  rw [without_get h _ hj]
  split
  · exact (ltS_ne (rising_pair hr (by omega) h)).1
  · exact (ltS_ne (rising_pair hr (a := i) (b := j + 1) (by omega) (by omega))).2
theorem rising_place {ss : List ByteArray} {i : Nat} (h : i < ss.length) (hr : risingB ss = true) : placeI ss (stAt ss i) = (i : Int) :=
  place_some h (by simp) fun j hj => (ltS_ne (rising_pair hr hj h)).1
theorem strsAt_own {w : World} {base e : Nat} {v : Value} {ss : List ByteArray} (h : w.ownsRow base e 1 v ss.length (ss.map Value.string)) (hs : ∀ s, s ∈ ss → s.size ≤ maxLen) (hm : ss.length ≤ maxLen) : StrsAt w v ss := by
  refine ⟨hs, hm, ?_⟩
  rcases h.2 with ⟨rfl, h0⟩ | ⟨g, cap, cur, rfl, _, hg, _⟩
  · exact .inl ⟨none, 0, rfl, List.eq_nil_of_length_eq_zero h0⟩
  · refine .inr ⟨g, 0, cap, rfl, (Array.getElem?_eq_some_iff.1 hg).1, fun j hj => ?_⟩
    rw [Nat.zero_add, h.cellAt j (by omega), List.getElem?_map, List.getElem?_eq_getElem hj, ← stAt_get hj]
    rfl
end Go.Proofs.Ytdcnccjabgldmaa
