/- The document's own answers of layer 4: are two types the same. -/
import Derived.Test.YtbfmaicoefefaaaTyS
set_option linter.unusedSimpArgs false
set_option linter.unusedVariables false
namespace Go.Proofs.Ytbfmaicoefefaaa
open Go.RowKit Go.Deep Go.Sort
theorem two_a (w : World) (A B : Array Value) (t : TypeId) (i : Nat) (v : Value) (h : A[i]? = some v) : ((w.alloc (.cells A t)).alloc (.cells B t)).cell? ⟨w.heap.size, i, none⟩ = some v :=
  cell_below ((Below.refl _ _).alloc (Nat.le_refl _) _) (alloc_at _ _ _ _ _ h)
theorem two_b (w : World) (A B : Array Value) (t : TypeId) (i : Nat) (v : Value) (h : B[i]? = some v) : ((w.alloc (.cells A t)).alloc (.cells B t)).cell? ⟨w.heap.size + 1, i, none⟩ = some v := by
  have := alloc_at (w.alloc (.cells A t)) B t i v h
  have e : (w.alloc (.cells A t)).heap.size = w.heap.size + 1 := by simp [go_sem]
  rw [e] at this
  exact this
theorem two_below (w : World) (o o' : Obj) : Below w.heap.size w ((w.alloc o).alloc o') :=
  ((Below.refl _ _).alloc (Nat.le_refl _) _).alloc (Nat.le_of_lt (alloc_lt _ _)) _
/-- The slice of a type's kinds, read. -/
def KidsAt (w : World) (v : Value) (ks : List Ty5) : Prop := (∃ a cap, v = .slice a 0 cap ∧ ks = []) ∨ ∃ b off cap, v = .slice (some ⟨b, off, none⟩) ks.length cap ∧ RowIn w b off ks
theorem KidsAt.form {w : World} {v : Value} {ks : List Ty5} (h : KidsAt w v ks) : ∃ a cap, v = .slice a ks.length cap := by
  rcases h with ⟨a, cap, rfl, rfl⟩ | ⟨b, off, cap, rfl, _⟩
  · exact ⟨a, cap, rfl⟩
  · exact ⟨_, cap, rfl⟩
set_option maxRecDepth 20000 in
set_option maxHeartbeats 2000000 in
theorem rsameTy_any : ∀ (f : Nat) (t t' : Ty5) (v0 v1 v2 v3 v4 u0 u1 u2 u3 u4 : Value) (w : World), szT t ≤ f → TyIn w t v0 v1 v2 v3 v4 → TyIn w t' u0 u1 u2 u3 u4 →
    Calls Try.prog 27 #[.agg #[v0, v1, v2, v3, v4], .agg #[u0, u1, u2, u3, u4]] w fun e w' => e = .returned (.bool (sameT t t')) ∧ Below w.heap.size w w'
  | 0, t, _, _, _, _, _, _, _, _, _, _, _, _, h, _, _ => absurd (szT_pos t) (by omega)
  | f + 1, .mk k n nm ls ks, .mk k' n' nm' ls' ks', v0, v1, v2, v3, v4, u0, u1, u2, u3, u4, w, hz, hT, hU => by
    obtain ⟨rfl, rfl, ⟨rfl, hm⟩, hl, hk, h4⟩ := hT
    obtain ⟨rfl, rfl, ⟨rfl, hm'⟩, hl', hk', h4'⟩ := hU
    unfold maxLen at hk hk'
    obtain ⟨a, cap, e4⟩ := KidsAt.form h4
    obtain ⟨a', cap', e4'⟩ := KidsAt.form h4'
    by_cases q0 : k = k'
    case neg =>
      subst e4 e4'
      rw [show sameT (.mk k n nm ls ks) (.mk k' n' nm' ls' ks') = false by simp [sameT, q0]]
      clear h4 h4' hl hl'
      go_enter Try.func27, Try.ntmps27
      go_wp2
      go_ret
      exact ⟨rfl, by go_grown⟩
    subst q0
    by_cases q1 : n = n'
    case neg =>
      subst e4 e4'
      rw [show sameT (.mk k n nm ls ks) (.mk k n' nm' ls' ks') = false by simp [sameT, q1]]
      clear h4 h4' hl hl'
      go_enter Try.func27, Try.ntmps27
      go_wp2
      go_ret
      exact ⟨rfl, by go_grown⟩
    subst q1
    rcases Bool.eq_false_or_eq_true (nm.toList == nm'.toList) with q2 | q2
    case inr =>
      subst e4 e4'
      rw [show sameT (.mk k n nm ls ks) (.mk k n nm' ls' ks') = false by simp [sameT, eqS, q2]]
      clear h4 h4' hl hl'
      go_enter Try.func27, Try.ntmps27
      go_wp2
      go_ret
      exact ⟨rfl, by go_grown⟩
    have C := Asd.mk (fun W (hB : Below w.heap.size w W) => rsameS_any v3 u3 ls ls' W (hl.mono hB) (hl'.mono hB))
    rcases Bool.eq_false_or_eq_true (eqL ls ls') with q3 | q3
    case inr =>
      subst e4 e4'
      rw [show sameT (.mk k n nm ls ks) (.mk k n nm' ls' ks') = false by simp [sameT, q3]]
      clear h4 h4' hl hl'
      go_enter Try.func27, Try.ntmps27
      go_wp2_with (go_at_call 21; refine (C.out _ (two_below _ _ _)).mono ?_; rintro e w2 ⟨rfl, hb2⟩; rw [q3])
      go_ret
      exact ⟨rfl, (two_below w _ _).trans (hb2.mono (two_below w _ _).size)⟩
    by_cases q4 : ks.length = ks'.length
    case neg =>
      subst e4 e4'
      rw [show sameT (.mk k n nm ls ks) (.mk k n nm' ls' ks') = false by simp [sameT, sameL_len q4]]
      clear h4 h4' hl hl'
      go_enter Try.func27, Try.ntmps27
      have Z1 := two_a w #[.int .i64 k, .int .i64 n, .string nm, v3, .slice a ks.length cap] #[.int .i64 k, .int .i64 n, .string nm', u3, .slice a' ks'.length cap'] 25 4 _ rfl
      have Z2 := two_b w #[.int .i64 k, .int .i64 n, .string nm, v3, .slice a ks.length cap] #[.int .i64 k, .int .i64 n, .string nm', u3, .slice a' ks'.length cap'] 25 4 _ rfl
      have Z1 := Asd.mk Z1
      have Z2 := Asd.mk Z2
      go_wp2_with (go_at_call 21; refine (C.out _ (two_below _ _ _)).mono ?_; rintro e w2 ⟨rfl, hb2⟩; rw [q3]; have z1 := cell_below hb2 Z1.out; have z2 := cell_below hb2 Z2.out)
      go_ret
      exact ⟨rfl, (two_below w _ _).trans (hb2.mono (two_below w _ _).size)⟩
    rw [show sameT (.mk k n nm ls ks) (.mk k n nm' ls' ks') = sameL ks ks' by simp [sameT, eqS, q2, q3]]
    by_cases q5 : ks = []
    case pos =>
      subst q5
      obtain rfl : ks' = [] := List.length_eq_zero_iff.1 (by simpa using q4.symm)
      subst e4 e4'
      clear h4 h4' hl hl'
      go_enter Try.func27, Try.ntmps27
      have Z1 := two_a w #[.int .i64 k, .int .i64 n, .string nm, v3, .slice a 0 cap] #[.int .i64 k, .int .i64 n, .string nm', u3, .slice a' 0 cap'] 25 4 _ rfl
      have Z2 := two_b w #[.int .i64 k, .int .i64 n, .string nm, v3, .slice a 0 cap] #[.int .i64 k, .int .i64 n, .string nm', u3, .slice a' 0 cap'] 25 4 _ rfl
      have Z1 := Asd.mk Z1
      have Z2 := Asd.mk Z2
      go_wp2_with (go_at_call 21; refine (C.out _ (two_below _ _ _)).mono ?_; rintro e w2 ⟨rfl, hb2⟩; rw [q3]; have z1 := cell_below hb2 Z1.out; have z2 := cell_below hb2 Z2.out)
      go_rounds 1
      go_ret
      exact ⟨rfl, (two_below w _ _).trans (hb2.mono (two_below w _ _).size)⟩
    have q6 : ks' ≠ [] := by
      rintro rfl
      exact q5 (List.length_eq_zero_iff.1 q4)
    rcases h4 with ⟨_, _, _, h4⟩ | ⟨b, off, cap, rfl, hr⟩
    · exact absurd h4 q5
    rcases h4' with ⟨_, _, _, h4'⟩ | ⟨b', off', cap', rfl, hr'⟩
    · exact absurd h4' q6
    have IH := Asd.mk (rsameTy_any f)
    have HZ := Asd.mk hz
    have HM := Asd.mk hm
    have HM' := Asd.mk hm'
    have HL := Asd.mk hl
    have HL' := Asd.mk hl'
    have HR := Asd.mk hr
    have HR' := Asd.mk hr'
    have Q4 := Asd.mk q4
    rw [← q4]
    clear hz hm hm' hl hl' hr hr' e4 e4' q4 q5 q6 hk'
    go_enter Try.func27, Try.ntmps27
    have Z1 := two_a w #[.int .i64 k, .int .i64 n, .string nm, v3, .slice (some ⟨b, off, none⟩) ks.length cap] #[.int .i64 k, .int .i64 n, .string nm', u3, .slice (some ⟨b', off', none⟩) ks.length cap'] 25 4 _ rfl
    have Z2 := two_b w #[.int .i64 k, .int .i64 n, .string nm, v3, .slice (some ⟨b, off, none⟩) ks.length cap] #[.int .i64 k, .int .i64 n, .string nm', u3, .slice (some ⟨b', off', none⟩) ks.length cap'] 25 4 _ rfl
    have Z1 := Asd.mk Z1
    have Z2 := Asd.mk Z2
    go_wp2_with (go_at_call 21; refine (C.out _ (two_below _ _ _)).mono ?_; rintro e w2 ⟨rfl, hb2⟩; rw [q3]; have z1 := cell_below hb2 Z1.out; have z2 := cell_below hb2 Z2.out)
    have B1 := Asd.mk ((two_below w _ _).trans (hb2.mono (two_below w _ _).size))
    have z1 := Asd.mk z1
    have z2 := Asd.mk z2
    clear hb2 Z1 Z2
    go_loopw [5] (fun i wr => ∃ j : Nat, j ≤ ks.length ∧ i = .int .i64 j ∧ Below w2.heap.size w2 wr ∧ ∀ q, q < j → sameT (kAt ks q) (kAt ks' q) = true) (fun i _ => ks.length - (intOf i).toNat)
    case atStart => exact ⟨0, by omega, rfl, Below.refl _ _, fun q hq => by omega⟩
    case round =>
      obtain ⟨j, hj, rfl, hb, hA⟩ := hrel
      have HA := Asd.mk hA
      clear hA
      have y1 := cell_below hb z1.out
      have y2 := cell_below hb z2.out
      by_cases hlt : j < ks.length
      · obtain ⟨x0, x1, x2, x3, x4, c0, c1, c2, c3, c4, ht⟩ := (((HR.out).mono B1.out).mono hb).at hlt
        obtain ⟨t0, t1, t2, t3, t4, d0, d1, d2, d3, d4, hu⟩ := (((HR'.out).mono B1.out).mono hb).at (by rw [← Q4.out]; exact hlt : j < ks'.length)
        have HT := Asd.mk ht
        have HU := Asd.mk hu
        have HB := Asd.mk hb
        clear ht hu hb
        have ky1 := cell_regrown y1
        have ky2 := cell_regrown y2
        have k0 := cell_regrown c0
        have k1 := cell_regrown c1
        have k2 := cell_regrown c2
        have k3 := cell_regrown c3
        have k4 := cell_regrown c4
        have m0 := cell_regrown d0
        have m1 := cell_regrown d1
        have m2 := cell_regrown d2
        have m3 := cell_regrown d3
        have m4 := cell_regrown d4
        have cF : ∀ d os, Calls Try.prog 27 #[.agg #[x0, x1, x2, x3, x4], .agg #[t0, t1, t2, t3, t4]] (grow (redrawn wr d) os) fun e w'' => e = .returned (.bool (sameT (kAt ks j) (kAt ks' j))) ∧ ∃ p : Regrown, w'' = grow (redrawn wr p.d) p.os := fun d os => Calls.regrown_of (IH.out _ _ _ _ _ _ _ _ _ _ _ _ _ (by have := HZ.out; have := szT_kid (k := k) (n := n) (nm := nm) (ls := ls) hlt; omega) (HT.out.mono (below_regrown wr d os)) (HU.out.mono (below_regrown wr d os)))
        clear c0 c1 c2 c3 c4 d0 d1 d2 d3 d4
        rcases Bool.eq_false_or_eq_true (sameT (kAt ks j) (kAt ks' j)) with hh | hh
        · go_wp2_with fail
          refine wp_region_quiet_below (by kernel_rfl) (by kernel_rfl) ?_
          repeat (go_big_quiet_step (exact cF _ _))
          refine wpQuiet_nil ?_
          intro _ hw'
          obtain ⟨⟨dq, osq⟩, hw''⟩ := hw'
          obtain ⟨W2, hW2⟩ : ∃ W2, W2 = grow (redrawn wr dq) osq := ⟨_, rfl⟩
          have hb2 : Below wr.heap.size wr W2 := by rw [hW2]; exact below_regrown wr dq osq
          subst hw''
          rw [← hW2]
          clear hW2 ky1 ky2 k0 k1 k2 k3 k4 m0 m1 m2 m3 m4 cF
          go_wp2
          go_roundw
          case rel => exact ⟨j + 1, by omega, by go_num, HB.out.trans (hb2.mono HB.out.size), fun q hq => by
            by_cases e : q = j
            · rw [e]; exact hh
            · exact HA.out q (by omega)⟩
          case measure => simp [intOf]; omega
        · go_wp2_with fail
          refine wp_region_quiet_below (by kernel_rfl) (by kernel_rfl) ?_
          repeat (go_big_quiet_step (exact cF _ _))
          refine wpQuiet_nil ?_
          intro _ hw'
          obtain ⟨⟨dq, osq⟩, hw''⟩ := hw'
          obtain ⟨W2, hW2⟩ : ∃ W2, W2 = grow (redrawn wr dq) osq := ⟨_, rfl⟩
          have hb2 : Below wr.heap.size wr W2 := by rw [hW2]; exact below_regrown wr dq osq
          subst hw''
          rw [← hW2]
          clear hW2 ky1 ky2 k0 k1 k2 k3 k4 m0 m1 m2 m3 m4 cF
          go_wp2
          go_ret
          exact ⟨retB (sameL_differ hlt (by rw [← Q4.out]; exact hlt) hh).symm, B1.out.trans ((HB.out.trans (hb2.mono HB.out.size)).mono B1.out.size)⟩
      · have : j = ks.length := by omega
        subst this
        go_wp2
        go_ret
        exact ⟨retB (sameL_all Q4.out HA.out).symm, B1.out.trans (hb.mono B1.out.size)⟩
end Go.Proofs.Ytbfmaicoefefaaa
