/- What a type reads as is one type. -/
import Derived.Test.YtclhomkgphdagaaDoorTyP
namespace Go.Proofs.YtclhomkgphdagaaDoor
open Go.RowKit
theorem strsAt_inj {w : World} {v : Value} {ss us : List ByteArray} (h : StrsAt w v ss) (k : StrsAt w v us) : ss = us := by
  obtain ⟨_, _, h⟩ := h
  obtain ⟨_, _, k⟩ := k
  rcases h with ⟨a, cap, rfl, rfl⟩ | ⟨b, off, cap, rfl, _, hc⟩
  · rcases k with ⟨_, _, _, rfl⟩ | ⟨b, off, cap, e, _, _⟩
    · rfl
    · injection e with _ e2 _
      exact (List.eq_nil_of_length_eq_zero e2.symm).symm
  · rcases k with ⟨a, _, e, rfl⟩ | ⟨b', off', cap', e, _, kc⟩
    · injection e with _ e2 _
      exact List.eq_nil_of_length_eq_zero e2
    · simp at e
      obtain ⟨⟨rfl, rfl⟩, hl, _⟩ := e
      apply List.ext_getElem hl
      intro j h1 h2
      have := (hc j h1).symm.trans (kc j h2)
      simp at this
      rw [stAt_get h1, stAt_get h2] at this
      exact this
mutual
theorem tyIn_inj {w : World} : ∀ (t u : Ty5) {v0 v1 v2 v3 v4 : Value}, TyIn w t v0 v1 v2 v3 v4 → TyIn w u v0 v1 v2 v3 v4 → t = u
  | .mk k n nm ls ks, .mk k' n' nm' ls' ks', v0, v1, v2, v3, v4, h, g => by
    obtain ⟨rfl, rfl, ⟨rfl, _⟩, h3, _, h5⟩ := h
    obtain ⟨g0, g1, ⟨g2, _⟩, g3, _, g5⟩ := g
    injection g0 with _ g0
    injection g1 with _ g1
    injection g2 with g2
    have g3 := strsAt_inj h3 g3
    have hks : ks = ks' := by
      rcases h5 with ⟨a, cap, rfl, rfl⟩ | ⟨b, off, cap, rfl, hr⟩
      · rcases g5 with ⟨_, _, _, rfl⟩ | ⟨b, off, cap, e, _⟩
        · rfl
        · injection e with _ e2 _
          exact (List.eq_nil_of_length_eq_zero e2.symm).symm
      · rcases g5 with ⟨a, _, e, rfl⟩ | ⟨b', off', cap', e, gr⟩
        · injection e with _ e2 _
          exact List.eq_nil_of_length_eq_zero e2
        · simp at e
          obtain ⟨⟨rfl, rfl⟩, hl, _⟩ := e
          exact rowIn_inj ks ks' b off hl hr gr
    rw [g0, g1, g2, g3, hks]
theorem rowIn_inj {w : World} : ∀ (ks us : List Ty5) (b off : Nat), ks.length = us.length → RowIn w b off ks → RowIn w b off us → ks = us
  | [], [], _, _, _, _, _ => rfl
  | t :: r, u :: s, b, off, hl, ⟨⟨v0, v1, v2, v3, v4, a0, a1, a2, a3, a4, hT⟩, hr⟩, ⟨⟨u0, u1, u2, u3, u4, b0, b1, b2, b3, b4, hU⟩, gr⟩ => by
    have e0 := Option.some.inj (a0.symm.trans b0)
    have e1 := Option.some.inj (a1.symm.trans b1)
    have e2 := Option.some.inj (a2.symm.trans b2)
    have e3 := Option.some.inj (a3.symm.trans b3)
    have e4 := Option.some.inj (a4.symm.trans b4)
    rw [← e0, ← e1, ← e2, ← e3, ← e4] at hU
    rw [tyIn_inj t u hT hU, rowIn_inj r s b (off + 5) (by simpa using hl) hr gr]
end
end Go.Proofs.YtclhomkgphdagaaDoor
