/- Plain mathematics of lists that rise: one list with the same members; a member put in its place. -/
import Derived.Test.YtbfmaicoefefaaaRows
set_option linter.unusedSimpArgs false
set_option linter.unusedVariables false
namespace Go.Proofs.Ytbfmaicoefefaaa
section
variable {α : Type}
/-- Two lists that rise by one order and have the same members are the same. -/
theorem rise_unique {R : α → α → Prop} (hR : ∀ a b, R a b → ¬ R b a) : ∀ (l m : List α), l.Pairwise R → m.Pairwise R → (∀ x, x ∈ l ↔ x ∈ m) → l = m
  | [], [], _, _, _ => rfl
  | [], b :: m, _, _, h => by have := (h b).2 (List.mem_cons_self ..); simp at this
  | a :: l, [], _, _, h => by have := (h a).1 (List.mem_cons_self ..); simp at this
  | a :: l, b :: m, hl, hm, h => by
    rw [List.pairwise_cons] at hl hm
    have hab : a = b := by
      rcases List.mem_cons.1 ((h a).1 (List.mem_cons_self ..)) with e | ha
      · exact e
      · rcases List.mem_cons.1 ((h b).2 (List.mem_cons_self ..)) with e | hb
        · exact e.symm
        · exact absurd (hm.1 a ha) (hR _ _ (hl.1 b hb))
    subst hab
    have irr : ∀ x, ¬ R x x := fun x hx => hR x x hx hx
    congr 1
    refine rise_unique hR l m hl.2 hm.2 fun x => ⟨fun hx => ?_, fun hx => ?_⟩
    · rcases List.mem_cons.1 ((h x).1 (List.mem_cons_of_mem _ hx)) with e | hx'
      · subst e
        exact absurd (hl.1 x hx) (irr x)
      · exact hx'
    · rcases List.mem_cons.1 ((h x).2 (List.mem_cons_of_mem _ hx)) with e | hx'
      · subst e
        exact absurd (hm.1 x hx) (irr x)
      · exact hx'
/-- Put behind all that is less. -/
def insB (lt : α → α → Bool) (x : α) : List α → List α
  | [] => [x]
  | y :: r => if lt y x = true then y :: insB lt x r else x :: y :: r
theorem insB_mem (lt : α → α → Bool) (x z : α) : ∀ l, z ∈ insB lt x l ↔ z = x ∨ z ∈ l
  | [] => by simp [insB]
  | y :: r => by
    unfold insB
    split
    · rw [List.mem_cons, insB_mem lt x z r, List.mem_cons]
      constructor
      · rintro (h | h | h)
        · exact .inr (.inl h)
        · exact .inl h
        · exact .inr (.inr h)
      · rintro (h | h | h)
        · exact .inr (.inl h)
        · exact .inl h
        · exact .inr (.inr h)
    · rw [List.mem_cons]
theorem insB_rises {lt : α → α → Bool} (htr : ∀ a b c, lt a b = true → lt b c = true → lt a c = true) (x : α) : ∀ (l : List α), (∀ y, y ∈ l → lt y x = true ∨ lt x y = true) → l.Pairwise (fun a b => lt a b = true) → (insB lt x l).Pairwise (fun a b => lt a b = true)
  | [], _, _ => by simp [insB]
  | y :: r, hc, hl => by
    rw [List.pairwise_cons] at hl
    unfold insB
    split
    · rename_i hy
      rw [List.pairwise_cons]
      refine ⟨fun z hz => ?_, insB_rises htr x r (fun z hz => hc z (List.mem_cons_of_mem _ hz)) hl.2⟩
      rcases (insB_mem lt x z r).1 hz with rfl | hz
      · exact hy
      · exact hl.1 z hz
    · rename_i hy
      have hxy : lt x y = true := by
        rcases hc y (List.mem_cons_self ..) with h | h
        · exact absurd h hy
        · exact h
      rw [List.pairwise_cons]
      refine ⟨fun z hz => ?_, List.pairwise_cons.2 hl⟩
      rcases List.mem_cons.1 hz with rfl | hz
      · exact hxy
      · exact htr _ _ _ hxy (hl.1 z hz)
theorem insB_split (lt : α → α → Bool) (x : α) : ∀ l : List α, insB lt x l = l.takeWhile (fun y => lt y x) ++ x :: l.dropWhile (fun y => lt y x)
  | [] => rfl
  | y :: r => by
    unfold insB
    by_cases h : lt y x = true
    · rw [if_pos h, insB_split lt x r, List.takeWhile_cons, List.dropWhile_cons, if_pos h, if_pos h]
      rfl
    · rw [if_neg h, List.takeWhile_cons, List.dropWhile_cons, if_neg h, if_neg h]
      rfl
end
end Go.Proofs.Ytbfmaicoefefaaa
