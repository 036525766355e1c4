/- The program's ty.Same, by the type's size. -/
import Derived.Test.YtbfmaicoefefaaaTySm
set_option linter.unusedSimpArgs false
set_option linter.unusedVariables false
namespace Go.Proofs.Ytbfmaicoefefaaa
open Go.RowKit Go.Deep Go.Sort
set_option maxRecDepth 20000 in
set_option maxHeartbeats 4000000 in
theorem psameTy_any : ∀ (f : Nat) (t t' : Ty5) (v0 v1 v2 v3 v4 u0 u1 u2 u3 u4 : Value) (w : World), szT t ≤ f → TyIn w t v0 v1 v2 v3 v4 → TyIn w t' u0 u1 u2 u3 u4 →
    Calls Try.prog 26 #[.agg #[v0, v1, v2, v3, v4], .agg #[u0, u1, u2, u3, u4]] w fun e w' => e = .returned (.bool (sameT t t')) ∧ Below w.heap.size w w'
  | 0, t, _, _, _, _, _, _, _, _, _, _, _, _, h, _, _ => absurd (szT_pos t) (by omega)
  | f + 1, .mk k n nm ls ks, .mk k' n' nm' ls' ks', v0, v1, v2, v3, v4, u0, u1, u2, u3, u4, w, hz, hT, hU => by
    obtain ⟨rfl, rfl, ⟨rfl, hm⟩, hl, hk, h4⟩ := hT
    obtain ⟨rfl, rfl, ⟨rfl, hm'⟩, hl', hk', h4'⟩ := hU
    have IH := Asd.mk (psameTy_any f)
    have HZ : Asd (∀ j, j < ks.length → szT (kAt ks j) ≤ f) := ⟨fun j hj => by have := szT_kid (k := k) (n := n) (nm := nm) (ls := ls) hj; omega⟩
    have C := Asd.mk (fun W (hB : Below w.heap.size w W) => equalS_any v3 u3 ls ls' W (hl.mono hB) (hl'.mono hB))
    have D := Asd.mk (fun W (hB : Below w.heap.size w W) => eqf_any f IH ks ks' HZ.out v4 u4 W (h4.elim (fun ⟨a, c, e, h⟩ => .inl ⟨a, c, e, h⟩) (fun ⟨b, o, c, e, h⟩ => .inr ⟨b, o, c, e, h.mono hB⟩)) (h4'.elim (fun ⟨a, c, e, h⟩ => .inl ⟨a, c, e, h⟩) (fun ⟨b, o, c, e, h⟩ => .inr ⟨b, o, c, e, h.mono hB⟩)) hk hk')
    have HB2 := Asd.mk (two_below w (.cells #[.int .i64 k, .int .i64 n, .string nm, v3, v4] 25) (.cells #[.int .i64 k', .int .i64 n', .string nm', u3, u4] 25))
    have Z1 := Asd.mk (two_a w #[.int .i64 k, .int .i64 n, .string nm, v3, v4] #[.int .i64 k', .int .i64 n', .string nm', u3, u4] 25 4 _ rfl)
    have Z2 := Asd.mk (two_b w #[.int .i64 k, .int .i64 n, .string nm, v3, v4] #[.int .i64 k', .int .i64 n', .string nm', u3, u4] 25 4 _ rfl)
    clear hz hm hm' hl hl' hk hk' h4 h4' IH HZ
    by_cases q0 : k = k'
    case neg =>
      rw [show sameT (.mk k n nm ls ks) (.mk k' n' nm' ls' ks') = false by simp [sameT, q0]]
      go_enter Try.func26, Try.ntmps26
      go_wp2
      go_ret
      exact ⟨rfl, by go_grown⟩
    subst q0
    by_cases q1 : n = n'
    case neg =>
      rw [show sameT (.mk k n nm ls ks) (.mk k n' nm' ls' ks') = false by simp [sameT, q1]]
      go_enter Try.func26, Try.ntmps26
      go_wp2
      go_ret
      exact ⟨rfl, by go_grown⟩
    subst q1
    rcases Bool.eq_false_or_eq_true (nm.toList == nm'.toList) with q2 | q2
    case inr =>
      rw [show sameT (.mk k n nm ls ks) (.mk k n nm' ls' ks') = false by simp [sameT, eqS, q2]]
      go_enter Try.func26, Try.ntmps26
      go_wp2
      go_ret
      exact ⟨rfl, by go_grown⟩
    rcases Bool.eq_false_or_eq_true (eqL ls ls') with q3 | q3
    case inr =>
      rw [show sameT (.mk k n nm ls ks) (.mk k n nm' ls' ks') = false by simp [sameT, q3]]
      go_enter Try.func26, Try.ntmps26
      go_wp2_with (go_at_call 54; refine (C.out _ HB2.out).mono ?_; rintro e w2 ⟨rfl, hb2⟩; rw [q3])
      go_ret
      exact ⟨rfl, HB2.out.trans (hb2.mono HB2.out.size)⟩
    rw [show sameT (.mk k n nm ls ks) (.mk k n nm' ls' ks') = sameL ks ks' by simp [sameT, eqS, q2, q3]]
    go_enter Try.func26, Try.ntmps26
    rcases Bool.eq_false_or_eq_true (sameL ks ks') with q4 | q4
    all_goals
      go_wp2_with (first
        | (go_at_call 54; refine (C.out _ HB2.out).mono ?_; rintro e w2 ⟨rfl, hb2⟩; rw [q3]; have HW2 := Asd.mk (HB2.out.trans (hb2.mono HB2.out.size)); have z1 := cell_below hb2 Z1.out; have z2 := cell_below hb2 Z2.out; clear hb2)
        | (go_at_call 55; refine (D.out _ HW2.out).mono ?_; rintro e w3 ⟨rfl, hb3⟩; rw [q4]))
      go_ret
      exact ⟨by rw [q4]; rfl, HW2.out.trans (hb3.mono HW2.out.size)⟩
end Go.Proofs.Ytbfmaicoefefaaa
