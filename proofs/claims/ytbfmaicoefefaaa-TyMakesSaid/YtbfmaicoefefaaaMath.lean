/- Plain mathematics on bytes and texts: no walk. -/
import Derived.Test.YtbfmaicoefefaaaLow
set_option linter.unusedSimpArgs false
set_option linter.unusedVariables false
namespace Go.Proofs.Ytbfmaicoefefaaa
def shapeI : List UInt8 → Int
  | [] => 0
  | a :: r => if r.all (fun c => contB (begunI (a.toNat : Int)) (c.toNat : Int)) = true then begunI (a.toNat : Int) else 0

theorem begun_high (c : Int) (h : 128 ≤ c) : begunI c = 0 := by
  simp [begunI, lowB, upB]; omega
theorem cont_high (k c : Int) (h : 128 ≤ c) : contB k c = false := by
  have h1 : lowB c = false := by simp [lowB]; omega
  have h2 : upB c = false := by simp [upB]; omega
  have h3 : digB c = false := by simp [digB]; omega
  simp [contB, h1, h2, h3]
theorem cont_zero (c : Int) : contB 0 c = false := by simp [contB]

/-- What the scanning loop knows at byte pos. -/
def ShapeAt (s : ByteArray) (pos : Nat) (kind : Int) : Prop :=
  (pos = 0 ∧ kind = 0) ∨ (0 < pos ∧ ∃ a r, s.data.toList = a :: r ∧ kind = begunI (a.toNat : Int) ∧ (kind = 0 ∨ (pos ≤ s.size ∧ ∀ j c, j + 1 < pos → r[j]? = some c → contB kind (c.toNat : Int) = true)))

theorem size_list (s : ByteArray) : s.data.toList.length = s.size := rfl

theorem shapeAt_end {s : ByteArray} {pos : Nat} {kind : Int} (h : ShapeAt s pos kind) (hp : ¬ pos < s.size) : kind = shapeI s.data.toList := by
  rcases h with ⟨rfl, rfl⟩ | ⟨h0, a, r, hl, hk, h2⟩
  · have : s.data.toList = [] := by have := size_list s; cases h : s.data.toList with
      | nil => rfl
      | cons a r => rw [h] at this; simp at this; omega
    rw [this]; rfl
  · rw [hl]
    simp only [shapeI]
    rcases h2 with h2 | ⟨h3, h4⟩
    · rw [← hk, h2]; simp
    · rw [← hk, if_pos]
      rw [List.all_eq_true]
      intro c hc
      obtain ⟨j, hj⟩ := List.mem_iff_getElem?.1 hc
      have hlen := size_list s
      rw [hl] at hlen
      simp at hlen
      have hjl : j < r.length := by
        have := (List.getElem?_eq_some_iff.1 hj).1
        exact this
      exact h4 j c (by omega) hj
theorem byte_at (s : ByteArray) (pos : Nat) (hp : pos < s.size) : s.data.toList[pos]? = some (s[pos]'hp) := by
  have h : pos < s.data.toList.length := by rw [size_list]; exact hp
  rw [List.getElem?_eq_getElem h]
  rfl
theorem shapeAt_bad {s : ByteArray} {pos : Nat} {kind : Int} (h : ShapeAt s pos kind) (hp : pos < s.size) (h0 : 0 < pos) (hc : contB kind ((s[pos]'hp).toNat : Int) = false ∨ kind = 0) : shapeI s.data.toList = 0 := by
  rcases h with ⟨rfl, rfl⟩ | ⟨_, a, r, hl, hk, h2⟩
  · omega
  · have hb := byte_at s pos hp
    rw [hl]
    simp only [shapeI]
    rw [← hk]
    split
    · rename_i hall
      rcases hc with hc | hc
      · rw [List.all_eq_true] at hall
        rw [hl] at hb
        obtain ⟨q, rfl⟩ : ∃ q, pos = q + 1 := ⟨pos - 1, by omega⟩
        simp at hb
        have := hall _ (List.mem_iff_getElem?.2 ⟨q, hb⟩)
        rw [this] at hc
        cases hc
      · exact hc
    · rfl
theorem shapeAt_zero {s : ByteArray} (hp : 0 < s.size) (wd : Nat) (hw : 1 ≤ wd) (c : Int) (h : (wd = 1 ∧ c = ((s[0]'hp).toNat : Int)) ∨ (128 ≤ c ∧ 128 ≤ ((s[0]'hp).toNat : Int))) : ShapeAt s wd (begunI c) := by
  right
  have hb := byte_at s 0 hp
  cases hl : s.data.toList with
  | nil => rw [hl] at hb; simp at hb
  | cons a r =>
    rw [hl] at hb
    simp at hb
    refine ⟨by omega, a, r, rfl, ?_, ?_⟩
    · rcases h with ⟨_, h⟩ | ⟨h1, h2⟩
      · rw [h, hb]
      · rw [begun_high _ h1, hb, begun_high _ h2]
    · rcases h with ⟨rfl, _⟩ | ⟨h1, _⟩
      · exact .inr ⟨by omega, fun j c hj _ => by omega⟩
      · exact .inl (begun_high _ h1)
theorem shapeAt_step {s : ByteArray} {pos : Nat} {kind : Int} (h : ShapeAt s pos kind) (hp : pos < s.size) (h0 : 0 < pos) (hc : contB kind ((s[pos]'hp).toNat : Int) = true) : ShapeAt s (pos + 1) kind := by
  rcases h with ⟨rfl, rfl⟩ | ⟨_, a, r, hl, hk, h2⟩
  · omega
  · refine .inr ⟨by omega, a, r, hl, hk, ?_⟩
    rcases h2 with h2 | ⟨h3, h4⟩
    · exact .inl h2
    · refine .inr ⟨by omega, fun j c hj hjc => ?_⟩
      by_cases hjp : j + 1 = pos
      · have hb := byte_at s pos hp
        subst hjp
        rw [hl] at hb
        simp at hb
        rw [hjc] at hb
        obtain rfl := Option.some.inj hb
        exact hc
      · exact h4 j c (by omega) hjc
end Go.Proofs.Ytbfmaicoefefaaa
