/- The program's ty.Same: slices.Equal at texts, slices.EqualFunc at types. -/
import Derived.Test.YtbfmaicoefefaaaTyE
import Derived.Test.YtbfmaicoefefaaaTyIt
set_option linter.unusedSimpArgs false
set_option linter.unusedVariables false
namespace Go.Proofs.Ytbfmaicoefefaaa
open Go.RowKit Go.Deep Go.Sort
set_option maxHeartbeats 1000000 in
theorem equalS_any (v u : Value) (ss ts : List ByteArray) (w : World) (h : StrsAt w v ss) (g : StrsAt w u ts) :
    Calls Try.prog 54 #[v, u] w fun e w' => e = .returned (.bool (eqL ss ts)) ∧ Below w.heap.size w w' := by
  obtain ⟨_, hm, h⟩ := h
  obtain ⟨_, gm, g⟩ := g
  unfold maxLen at hm gm
  by_cases hl : ss.length = ts.length
  · rcases h with ⟨a, cap, rfl, rfl⟩ | ⟨b, off, cap, rfl, hb, hc⟩
    · obtain rfl : ts = [] := List.length_eq_zero_iff.1 (by simpa using hl.symm)
      rcases g with ⟨a', cap', rfl, _⟩ | ⟨b', off', cap', rfl, gb, gc⟩
      all_goals
        go_enter Try.func54, Try.ntmps54
        go_wp2
        go_rounds 1
        go_ret
        exact ⟨retB rfl, Below.refl _ _⟩
    · rcases g with ⟨a', cap', rfl, rfl⟩ | ⟨b', off', cap', rfl, gb, gc⟩
      · obtain rfl : ss = [] := List.length_eq_zero_iff.1 (by simpa using hl)
        go_enter Try.func54, Try.ntmps54
        go_wp2
        go_rounds 1
        go_ret
        exact ⟨retB rfl, Below.refl _ _⟩
      · rw [← hl] at gc ⊢
        have HL := Asd.mk hl
        clear hl
        go_enter Try.func54, Try.ntmps54
        go_wp2
        go_loopw [13] (fun i wr => ∃ k : Nat, k ≤ ss.length ∧ i = .int .i64 k ∧ Below w.heap.size w wr ∧ ∀ j, j < k → eqS (stAt ss j) (stAt ts j) = true) (fun i _ => ss.length - (intOf i).toNat)
        case atStart => exact ⟨0, by omega, rfl, Below.refl _ _, fun j hj => by omega⟩
        case round =>
          obtain ⟨k, hk, rfl, hbw, hq⟩ := hrel
          have HQ := Asd.mk hq
          clear hq
          by_cases hlt : k < ss.length
          · have hcx := (hbw.cell (p := ⟨b, off + k, none⟩) hb).trans (hc k hlt)
            have hcy := (hbw.cell (p := ⟨b', off' + k, none⟩) gb).trans (gc k hlt)
            obtain ⟨x, hx⟩ : ∃ x, x = stAt ss k := ⟨_, rfl⟩
            obtain ⟨y, hy⟩ : ∃ y, y = stAt ts k := ⟨_, rfl⟩
            rw [← hx] at hcx
            rw [← hy] at hcy
            have HX := Asd.mk hx
            have HY := Asd.mk hy
            clear hx hy hc gc
            have kx := cell_regrown hcx
            have ky := cell_regrown hcy
            rcases Bool.eq_false_or_eq_true (x.toList == y.toList) with he | he
            · go_wp2_with fail
              refine wp_region_quiet_below (by kernel_rfl) (by kernel_rfl) ?_
              repeat (go_big_quiet_step (fail))
              refine wpQuiet_nil ?_
              intro _ hw'
              obtain ⟨⟨dq, osq⟩, hw''⟩ := hw'
              obtain ⟨W2, hW2⟩ : ∃ W2, W2 = grow (redrawn wr dq) osq := ⟨_, rfl⟩
              have hb2 : Below wr.heap.size wr W2 := by rw [hW2]; exact below_regrown wr dq osq
              subst hw''
              rw [← hW2]
              clear hW2 kx ky
              go_wp2
              go_roundw
              case rel => exact ⟨k + 1, by omega, by go_num, hbw.trans (hb2.mono hbw.size), fun j hj => by
                by_cases hjk : j = k
                · subst hjk; rw [← HX.out, ← HY.out]; exact he
                · exact HQ.out j (by omega)⟩
              case measure => simp [intOf]; omega
            · go_wp2_with fail
              refine wp_region_quiet_below (by kernel_rfl) (by kernel_rfl) ?_
              repeat (go_big_quiet_step (fail))
              refine wpQuiet_nil ?_
              intro _ hw'
              obtain ⟨⟨dq, osq⟩, hw''⟩ := hw'
              obtain ⟨W2, hW2⟩ : ∃ W2, W2 = grow (redrawn wr dq) osq := ⟨_, rfl⟩
              have hb2 : Below wr.heap.size wr W2 := by rw [hW2]; exact below_regrown wr dq osq
              subst hw''
              rw [← hW2]
              clear hW2 kx ky
              go_wp2
              go_ret
              exact ⟨retB (eqL_differ (j := k) (by rw [← HX.out, ← HY.out]; exact he)).symm, hbw.trans (hb2.mono hbw.size)⟩
          · have : k = ss.length := by omega
            subst this
            clear hc gc
            go_wp2
            go_ret
            exact ⟨retB (eqL_all HL.out HQ.out).symm, hbw⟩
  · rw [eqL_len hl]
    rcases h with ⟨a, cap, rfl, rfl⟩ | ⟨b, off, cap, rfl, hb, hc⟩ <;> rcases g with ⟨a', cap', rfl, rfl⟩ | ⟨b', off', cap', rfl, gb, gc⟩
    · exact absurd rfl hl
    all_goals
      try (simp only [List.length_nil] at hl)
      go_enter Try.func54, Try.ntmps54
      go_wp2
      all_goals (first | go_ret | skip)
      all_goals exact ⟨retB rfl, Below.refl _ _⟩
set_option maxRecDepth 20000 in
set_option maxHeartbeats 4000000 in
theorem eqf_any (f : Nat)
    (IH : Asd (∀ (t t' : Ty5) (v0 v1 v2 v3 v4 u0 u1 u2 u3 u4 : Value) (w : World), szT t ≤ f → TyIn w t v0 v1 v2 v3 v4 → TyIn w t' u0 u1 u2 u3 u4 →
      Calls Try.prog 26 #[.agg #[v0, v1, v2, v3, v4], .agg #[u0, u1, u2, u3, u4]] w fun e w' => e = .returned (.bool (sameT t t')) ∧ Below w.heap.size w w'))
    (ks ks' : List Ty5) (hz : ∀ j, j < ks.length → szT (kAt ks j) ≤ f) (v u : Value) (w : World) (h : KidsAt w v ks) (g : KidsAt w u ks') (hk : ks.length ≤ maxLen) (hk' : ks'.length ≤ maxLen) :
    Calls Try.prog 55 #[v, u, .func (.func 26) #[] #[]] w fun e w' => e = .returned (.bool (sameL ks ks')) ∧ Below w.heap.size w w' := by
  unfold maxLen at hk hk'
  by_cases hl : ks.length = ks'.length
  case neg =>
    rw [sameL_len hl]
    obtain ⟨a, cap, rfl⟩ := h.form
    obtain ⟨a', cap', rfl⟩ := g.form
    clear h g hz
    go_enter Try.func55, Try.ntmps55
    go_wp2
    go_ret
    exact ⟨rfl, Below.refl _ _⟩
  by_cases q5 : ks = []
  case pos =>
    subst q5
    obtain rfl : ks' = [] := List.length_eq_zero_iff.1 (by simpa using hl.symm)
    obtain ⟨a, cap, rfl⟩ := h.form
    obtain ⟨a', cap', rfl⟩ := g.form
    clear h g hz
    go_enter Try.func55, Try.ntmps55
    go_wp2
    go_rounds 1
    go_ret
    exact ⟨rfl, Below.refl _ _⟩
  have q6 : ks' ≠ [] := by
    rintro rfl
    exact q5 (List.length_eq_zero_iff.1 hl)
  rcases h with ⟨_, _, _, h4⟩ | ⟨b, off, cap, rfl, hr⟩
  · exact absurd h4 q5
  rcases g with ⟨_, _, _, h4⟩ | ⟨b', off', cap', rfl, hr'⟩
  · exact absurd h4 q6
  have HR := Asd.mk hr
  have HR' := Asd.mk hr'
  have HL := Asd.mk hl
  have HZ := Asd.mk hz
  rw [← hl]
  clear hr hr' hl hz q5 q6 hk'
  have eg : ∀ args w, (callFunc 26 args).run Try.prog w = .ok (.enter 26 args) w := enters_of Try.func26 (by kernel_rfl) rfl
  go_enter Try.func55, Try.ntmps55
  go_wp2
  go_loopw [17] (fun i wr => ∃ j : Nat, j ≤ ks.length ∧ i = .int .i64 j ∧ Asd (∀ q, q < j → sameT (kAt ks q) (kAt ks' q) = true) ∧ Below w.heap.size w wr) (fun i _ => ks.length - (intOf i).toNat)
  case atStart => exact ⟨0, by omega, rfl, ⟨fun q hq => by omega⟩, Below.refl _ _⟩
  case round =>
    obtain ⟨j, hj, rfl, HA, hb⟩ := hrel
    by_cases hlt : j < ks.length
    · obtain ⟨x0, x1, x2, x3, x4, c0, c1, c2, c3, c4, ht⟩ := ((HR.out).mono hb).at hlt
      obtain ⟨t0, t1, t2, t3, t4, d0, d1, d2, d3, d4, hu⟩ := ((HR'.out).mono hb).at (by rw [← HL.out]; exact hlt : j < ks'.length)
      obtain ⟨k', n', nm', a', l', cc', a'', l'', cc'', rfl, rfl, rfl, rfl, rfl⟩ := ht.form
      obtain ⟨k1, n1, nm1, a1, l1, cc1, a2, l2, cc2, rfl, rfl, rfl, rfl, rfl⟩ := hu.form
      have B2 := two_below wr (.cells #[.int .i64 k', .int .i64 n', .string nm', .slice a' l' cc', .slice a'' l'' cc''] 25) (.cells #[.int .i64 k1, .int .i64 n1, .string nm1, .slice a1 l1 cc1, .slice a2 l2 cc2] 25)
      have C := Asd.mk (IH.out (kAt ks j) (kAt ks' j) _ _ _ _ _ _ _ _ _ _ _ (HZ.out j hlt) (ht.mono B2) (hu.mono B2))
      have D0 := cell_below ((Below.refl wr.heap.size wr).alloc (Nat.le_refl _) (.cells #[.int .i64 k', .int .i64 n', .string nm', .slice a' l' cc', .slice a'' l'' cc''] 25)) d0
      have D1 := cell_below ((Below.refl wr.heap.size wr).alloc (Nat.le_refl _) (.cells #[.int .i64 k', .int .i64 n', .string nm', .slice a' l' cc', .slice a'' l'' cc''] 25)) d1
      have D2 := cell_below ((Below.refl wr.heap.size wr).alloc (Nat.le_refl _) (.cells #[.int .i64 k', .int .i64 n', .string nm', .slice a' l' cc', .slice a'' l'' cc''] 25)) d2
      have D3 := cell_below ((Below.refl wr.heap.size wr).alloc (Nat.le_refl _) (.cells #[.int .i64 k', .int .i64 n', .string nm', .slice a' l' cc', .slice a'' l'' cc''] 25)) d3
      have D4 := cell_below ((Below.refl wr.heap.size wr).alloc (Nat.le_refl _) (.cells #[.int .i64 k', .int .i64 n', .string nm', .slice a' l' cc', .slice a'' l'' cc''] 25)) d4
      have HB := Asd.mk hb
      have HB2 := Asd.mk B2
      clear hb B2 ht hu
      rcases Bool.eq_false_or_eq_true (sameT (kAt ks j) (kAt ks' j)) with hh | hh
      · go_wp2_with (go_at_fn 26; refine C.out.mono ?_; clear C; rintro e w2 ⟨rfl, hb2⟩; rw [hh])
        go_roundw
        case rel => exact ⟨j + 1, by omega, by go_num, ⟨fun q hq => by
          by_cases e : q = j
          · rw [e]; exact hh
          · exact HA.out q (by omega)⟩, HB.out.trans ((HB2.out.trans (hb2.mono HB2.out.size)).mono HB.out.size)⟩
        case measure => simp [intOf]; omega
      · go_wp2_with (go_at_fn 26; refine C.out.mono ?_; clear C; rintro e w2 ⟨rfl, hb2⟩; rw [hh])
        go_ret
        exact ⟨retB (sameL_differ hlt (by rw [← HL.out]; exact hlt) hh).symm, HB.out.trans ((HB2.out.trans (hb2.mono HB2.out.size)).mono HB.out.size)⟩
    · have : j = ks.length := by omega
      subst this
      go_wp2
      go_ret
      exact ⟨retB (sameL_all HL.out HA.out).symm, hb⟩
end Go.Proofs.Ytbfmaicoefefaaa
