/- name.shape, name.Kind, name.Fine, name.Var: what they answer of any text. -/
import Derived.Test.YtllehceckdcbaaaMath
namespace Go.Proofs.Ytllehceckdcbaaa
open Go.RowKit
theorem iterPos_of {w : World} {k : Nat} {s : ByteArray} {p : Nat} (h : w.heap[k]? = some (.stringIter s p)) : w.iterPos k = p := by simp [World.iterPos, h]

/-- What decoding gives at pos. -/
theorem decode_cases (s : ByteArray) (pos : Nat) (hp : pos < s.size) : ∃ c wd : Nat, Utf8.decode s pos = (c, wd) ∧ 1 ≤ wd ∧ ((wd = 1 ∧ (c : Int) = ((s[pos]'hp).toNat : Int)) ∨ (128 ≤ (c : Int) ∧ 128 ≤ ((s[pos]'hp).toNat : Int))) := by
  by_cases ha : (s[pos]'hp).toNat < 128
  · exact ⟨_, 1, decode_ascii s pos hp ha, Nat.le_refl _, .inl ⟨rfl, rfl⟩⟩
  · have h := decode_high s pos hp (by omega)
    exact ⟨(Utf8.decode s pos).1, (Utf8.decode s pos).2, rfl, h.2, .inr ⟨by have := h.1; omega, by omega⟩⟩

def keptI (l : List UInt8) : Int :=
  if (l == [108, 101, 116]) = true then 3 else
  if (l == [105, 110]) = true then 3 else
  if (l == [105, 102]) = true then 3 else
  if (l == [116, 104, 101, 110]) = true then 3 else
  if (l == [101, 108, 115, 101]) = true then 3 else
  if (l == [102, 110]) = true then 3 else
  if (l == [99, 97, 108, 108]) = true then 3 else
  if (l == [100, 101, 102]) = true then 3 else
  if (l == [116, 114, 117, 101]) = true then 3 else
  if (l == [102, 97, 108, 115, 101]) = true then 3 else
  if (l == [73, 110, 116]) = true then 4 else
  if (l == [66, 111, 111, 108]) = true then 4 else
  if (l == [83, 116, 114, 105, 110, 103]) = true then 4 else
  if (l == [84, 111, 112]) = true then 4 else
  0

/-- What a text is. -/
def kindI (l : List UInt8) : Int := if keptI l = 0 then (if 8 < l.length then 0 else shapeI l) else keptI l

theorem kept_long (l : List UInt8) (h : 8 < l.length) : keptI l = 0 := by
  unfold keptI
  repeat (rw [if_neg (by intro e; rw [beq_iff_eq] at e; subst e; simp at h)])
theorem ite_P {P : Int → Prop} {c : Prop} [Decidable c] {a b : Int} (ha : P a) (hb : P b) : P (if c then a else b) := by
  split
  · exact ha
  · exact hb
theorem kept_vals (l : List UInt8) : keptI l = 0 ∨ keptI l = 3 ∨ keptI l = 4 := by
  unfold keptI
  repeat' (first | exact .inl rfl | exact .inr (.inl rfl) | exact .inr (.inr rfl) | refine ite_P (P := fun x : Int => x = 0 ∨ x = 3 ∨ x = 4) ?_ ?_)

end Go.Proofs.Ytllehceckdcbaaa
