/- The document's own answers: are two lists of texts the same; are two types the same. -/
import Derived.Test.YtbfmaicoefefaaaTyN
set_option linter.unusedSimpArgs false
set_option linter.unusedVariables false
namespace Go.Proofs.Ytbfmaicoefefaaa
open Go.RowKit Go.Deep Go.Sort
set_option maxHeartbeats 1000000 in
theorem rsameS_any (v u : Value) (ss ts : List ByteArray) (w : World) (h : StrsAt w v ss) (g : StrsAt w u ts) :
    Calls Try.prog 21 #[v, u] w fun e w' => e = .returned (.bool (eqL ss ts)) ∧ Below w.heap.size w w' := by
  obtain ⟨_, hm, h⟩ := h
  obtain ⟨_, gm, g⟩ := g
  unfold maxLen at hm gm
  by_cases hl : ss.length = ts.length
  · rcases h with ⟨a, cap, rfl, rfl⟩ | ⟨b, off, cap, rfl, hb, hc⟩
    · obtain rfl : ts = [] := List.length_eq_zero_iff.1 (by simpa using hl.symm)
      rcases g with ⟨a', cap', rfl, _⟩ | ⟨b', off', cap', rfl, gb, gc⟩
      all_goals
        go_enter Try.func21, Try.ntmps21
        go_wp2
        go_rounds 1
        go_ret
        exact ⟨retB rfl, Below.refl _ _⟩
    · rcases g with ⟨a', cap', rfl, rfl⟩ | ⟨b', off', cap', rfl, gb, gc⟩
      · obtain rfl : ss = [] := List.length_eq_zero_iff.1 (by simpa using hl)
        go_enter Try.func21, Try.ntmps21
        go_wp2
        go_rounds 1
        go_ret
        exact ⟨retB rfl, Below.refl _ _⟩
      · rw [← hl] at gc ⊢
        have HL := Asd.mk hl
        clear hl
        go_enter Try.func21, Try.ntmps21
        go_wp2
        go_loopw [5] (fun i wr => ∃ k : Nat, k ≤ ss.length ∧ i = .int .i64 k ∧ Below w.heap.size w wr ∧ ∀ j, j < k → eqS (stAt ss j) (stAt ts j) = true) (fun i _ => ss.length - (intOf i).toNat)
        case atStart => exact ⟨0, by omega, rfl, Below.refl _ _, fun j hj => by omega⟩
        case round =>
          obtain ⟨k, hk, rfl, hbw, hq⟩ := hrel
          have HQ := Asd.mk hq
          clear hq
          by_cases hlt : k < ss.length
          · have hcx := (hbw.cell (p := ⟨b, off + k, none⟩) hb).trans (hc k hlt)
            have hcy := (hbw.cell (p := ⟨b', off' + k, none⟩) gb).trans (gc k hlt)
            obtain ⟨x, hx⟩ : ∃ x, x = stAt ss k := ⟨_, rfl⟩
            obtain ⟨y, hy⟩ : ∃ y, y = stAt ts k := ⟨_, rfl⟩
            rw [← hx] at hcx
            rw [← hy] at hcy
            have HX := Asd.mk hx
            have HY := Asd.mk hy
            clear hx hy hc gc
            have kx := cell_regrown hcx
            have ky := cell_regrown hcy
            rcases Bool.eq_false_or_eq_true (x.toList == y.toList) with he | he
            · go_wp2_with fail
              refine wp_region_quiet_below (by kernel_rfl) (by kernel_rfl) ?_
              repeat (go_big_quiet_step (fail))
              refine wpQuiet_nil ?_
              intro _ hw'
              obtain ⟨⟨dq, osq⟩, hw''⟩ := hw'
              obtain ⟨W2, hW2⟩ : ∃ W2, W2 = grow (redrawn wr dq) osq := ⟨_, rfl⟩
              have hb2 : Below wr.heap.size wr W2 := by rw [hW2]; exact below_regrown wr dq osq
              subst hw''
              rw [← hW2]
              clear hW2 kx ky
              go_wp2
              go_roundw
              case rel => exact ⟨k + 1, by omega, by go_num, hbw.trans (hb2.mono hbw.size), fun j hj => by
                by_cases hjk : j = k
                · subst hjk; rw [← HX.out, ← HY.out]; exact he
                · exact HQ.out j (by omega)⟩
              case measure => simp [intOf]; omega
            · go_wp2_with fail
              refine wp_region_quiet_below (by kernel_rfl) (by kernel_rfl) ?_
              repeat (go_big_quiet_step (fail))
              refine wpQuiet_nil ?_
              intro _ hw'
              obtain ⟨⟨dq, osq⟩, hw''⟩ := hw'
              obtain ⟨W2, hW2⟩ : ∃ W2, W2 = grow (redrawn wr dq) osq := ⟨_, rfl⟩
              have hb2 : Below wr.heap.size wr W2 := by rw [hW2]; exact below_regrown wr dq osq
              subst hw''
              rw [← hW2]
              clear hW2 kx ky
              go_wp2
              go_ret
              exact ⟨retB (eqL_differ (j := k) (by rw [← HX.out, ← HY.out]; exact he)).symm, hbw.trans (hb2.mono hbw.size)⟩
          · have : k = ss.length := by omega
            subst this
            clear hc gc
            go_wp2
            go_ret
            exact ⟨retB (eqL_all HL.out HQ.out).symm, hbw⟩
  · rw [eqL_len hl]
    rcases h with ⟨a, cap, rfl, rfl⟩ | ⟨b, off, cap, rfl, hb, hc⟩ <;> rcases g with ⟨a', cap', rfl, rfl⟩ | ⟨b', off', cap', rfl, gb, gc⟩
    · exact absurd rfl hl
    all_goals
      try (simp only [List.length_nil] at hl)
      go_enter Try.func21, Try.ntmps21
      go_wp2
      all_goals (first | go_ret | skip)
      all_goals exact ⟨retB rfl, Below.refl _ _⟩
end Go.Proofs.Ytbfmaicoefefaaa
