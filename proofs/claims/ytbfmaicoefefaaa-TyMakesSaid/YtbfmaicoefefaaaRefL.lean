/- The document's own answers of layer 1, on lists: limbeckref01. -/
import Derived.Test.YtbfmaicoefefaaaRef
import Derived.Lib.QuietBelow
set_option linter.unusedSimpArgs false
set_option linter.unusedVariables false
namespace Go.Proofs.Ytbfmaicoefefaaa
open Go.RowKit Go.Sort
theorem rfine_any (s : ByteArray) (w : World) (hs : s.size ≤ maxLen) : Calls Try.prog 59 #[.string s] w fun e w' => e = .returned (.bool (fineB s)) ∧ Below w.heap.size w w' := by
  go_enter Try.func59, Try.ntmps59
  go_wp2_with (go_at_call 78; refine (rkind_any _ _ hs).mono ?_; rintro e w' ⟨rfl, hb⟩)
  go_ret
  exact ⟨rfl, hb⟩
theorem place_any (v : Value) (ss : List ByteArray) (s : ByteArray) (w : World) (h : StrsAt w v ss) :
    Calls Try.prog 60 #[v, .string s] w fun e w' => e = .returned (.int .i64 (placeI ss s)) ∧ w = w' := by
  obtain ⟨hs, hm, h⟩ := h
  unfold maxLen at hm
  rcases h with ⟨a, cap, rfl, rfl⟩ | ⟨b, off, cap, rfl, hb, hc⟩
  · go_enter Try.func60, Try.ntmps60
    go_wp2
    go_rounds 1
    go_ret
    exact ⟨ret_int rfl, rfl⟩
  · go_enter Try.func60, Try.ntmps60
    go_wp2
    go_loop [5] (fun i => ∃ k : Nat, k ≤ ss.length ∧ i = .int .i64 k ∧ ∀ j, j < k → ((stAt ss j).toList == s.toList) = false) (fun i => ss.length - (intOf i).toNat)
    case atStart => exact ⟨0, by omega, rfl, fun j hj => by omega⟩
    case round =>
      obtain ⟨k, hk, rfl, hq⟩ := hrel
      have HQ := Lib.hid hq
      clear hq
      by_cases hlt : k < ss.length
      · have hcx := hc k hlt
        obtain ⟨x, hx⟩ : ∃ x, x = stAt ss k := ⟨_, rfl⟩
        rw [← hx] at hcx
        have HX := Lib.hid hx
        clear hx hc
        rcases Bool.eq_false_or_eq_true (x.toList == s.toList) with he | he
        · go_wp2
          go_ret
          exact ⟨ret_int (place_some hlt (by rw [← HX.out]; exact he) HQ.out).symm, rfl⟩
        · go_wp2
          go_round
          case rel => exact ⟨k + 1, by omega, by go_num, fun j hj => by
            by_cases hjk : j = k
            · subst hjk; rw [← HX.out]; exact he
            · exact HQ.out j (by omega)⟩
          case measure => simp [intOf]; omega
      · have : k = ss.length := by omega
        subst this
        clear hc
        go_wp2
        go_ret
        exact ⟨ret_int (place_none HQ.out).symm, rfl⟩

set_option maxHeartbeats 1000000 in
theorem rrising_any (v : Value) (ss : List ByteArray) (w : World) (h : StrsAt w v ss) :
    Calls Try.prog 50 #[v] w fun e w' => e = .returned (.bool (risingB ss)) ∧ Below w.heap.size w w' := by
  obtain ⟨hs, hm, h⟩ := h
  unfold maxLen at hm
  rcases h with ⟨a, cap, rfl, rfl⟩ | ⟨b, off, cap, rfl, hb, hc⟩
  · go_enter Try.func50, Try.ntmps50
    go_wp2
    go_rounds 1
    go_ret
    exact ⟨ret_bool rfl, Below.refl _ _⟩
  · go_enter Try.func50, Try.ntmps50
    go_wp2
    go_loopw [3] (fun i wr => ∃ k : Nat, k ≤ ss.length ∧ i = .int .i64 k ∧ Below w.heap.size w wr ∧ ∀ j, j < k → upAt ss j = true) (fun i _ => ss.length - (intOf i).toNat)
    case atStart => exact ⟨0, by omega, rfl, Below.refl _ _, fun j hj => by omega⟩
    case round =>
      obtain ⟨k, hk, rfl, hbw, hq⟩ := hrel
      have HQ := Lib.hid hq
      clear hq
      by_cases hlt : k < ss.length
      · have hcx := (hbw.cell (p := ⟨b, off + k, none⟩) hb).trans (hc k hlt)
        have hsx := hs _ (getD_mem hlt)
        obtain ⟨x, hx⟩ : ∃ x, x = stAt ss k := ⟨_, rfl⟩
        rw [← hx] at hcx hsx
        have HX := Lib.hid hx
        clear hx
        have hbz : b < wr.heap.size := Nat.lt_of_lt_of_le hb hbw.size
        by_cases h0 : k = 0
        · subst h0
          clear hc
          simp only [Nat.add_zero] at hcx
          rw [show ((0 : Nat) : Int) = 0 from rfl]
          have kx := cell_regrown hcx
          have cF : ∀ d os, Calls Try.prog 59 #[.string x] (grow (redrawn wr d) os) fun e w'' => e = .returned (.bool (fineB x)) ∧ ∃ p : Regrown, w'' = grow (redrawn wr p.d) p.os := fun d os => Calls.regrown_of (rfine_any _ _ hsx)
          rcases Bool.eq_false_or_eq_true (fineB x) with hf | hf
          · go_wp2_with fail
            refine wp_region_quiet_below (by kernel_rfl) (by kernel_rfl) ?_
            repeat (go_big_quiet_step (exact cF _ _))
            refine wpQuiet_nil ?_
            intro _ hw'
            obtain ⟨⟨dq, osq⟩, hw''⟩ := hw'
            obtain ⟨W2, hW2⟩ : ∃ W2, W2 = grow (redrawn wr dq) osq := ⟨_, rfl⟩
            have hb2 : Below wr.heap.size wr W2 := by rw [hW2]; exact below_regrown wr dq osq
            subst hw''
            rw [← hW2]
            clear hW2 kx cF
            go_wp2
            go_roundw
            case rel => exact ⟨1, by omega, by go_num, hbw.trans (hb2.mono hbw.size), fun j hj => by
              obtain rfl : j = 0 := by omega
              rw [up_zero, ← HX.out]; exact hf⟩
            case measure => simp [intOf]; omega
          · go_wp2_with fail
            refine wp_region_quiet_below (by kernel_rfl) (by kernel_rfl) ?_
            repeat (go_big_quiet_step (exact cF _ _))
            refine wpQuiet_nil ?_
            intro _ hw'
            obtain ⟨⟨dq, osq⟩, hw''⟩ := hw'
            obtain ⟨W2, hW2⟩ : ∃ W2, W2 = grow (redrawn wr dq) osq := ⟨_, rfl⟩
            have hb2 : Below wr.heap.size wr W2 := by rw [hW2]; exact below_regrown wr dq osq
            subst hw''
            rw [← hW2]
            clear hW2 kx cF
            go_wp2
            go_ret
            exact ⟨ret_bool (rising_false hlt (by rw [up_zero, ← HX.out]; exact hf)).symm, hbw.trans (hb2.mono hbw.size)⟩
        · obtain ⟨q, rfl⟩ : ∃ q, k = q + 1 := ⟨k - 1, by omega⟩
          have hcy := (hbw.cell (p := ⟨b, off + q, none⟩) hb).trans (hc q (by omega))
          obtain ⟨y, hy⟩ : ∃ y, y = stAt ss q := ⟨_, rfl⟩
          rw [← hy] at hcy
          have HY := Lib.hid hy
          clear hy hc
          have hgt : (0 : Int) < (q : Int) + 1 := by omega
          have kx := cell_regrown hcx
          have ky := cell_regrown hcy
          have cF : ∀ d os, Calls Try.prog 59 #[.string x] (grow (redrawn wr d) os) fun e w'' => e = .returned (.bool (fineB x)) ∧ ∃ p : Regrown, w'' = grow (redrawn wr p.d) p.os := fun d os => Calls.regrown_of (rfine_any _ _ hsx)
          rcases Bool.eq_false_or_eq_true (fineB x) with hf | hf
          · rcases Bool.eq_false_or_eq_true (Op.bytesLess y.toList x.toList) with hl | hl
            · go_wp2_with fail
              refine wp_region_quiet_below (by kernel_rfl) (by kernel_rfl) ?_
              repeat (go_big_quiet_step (exact cF _ _))
              refine wpQuiet_nil ?_
              intro _ hw'
              obtain ⟨⟨dq, osq⟩, hw''⟩ := hw'
              obtain ⟨W2, hW2⟩ : ∃ W2, W2 = grow (redrawn wr dq) osq := ⟨_, rfl⟩
              have hb2 : Below wr.heap.size wr W2 := by rw [hW2]; exact below_regrown wr dq osq
              subst hw''
              rw [← hW2]
              clear hW2 kx cF ky
              go_wp2
              go_roundw
              case rel => exact ⟨q + 1 + 1, by omega, by go_num, hbw.trans (hb2.mono hbw.size), fun j hj => by
                by_cases hjq : j = q + 1
                · subst hjq; rw [up_succ, ← HX.out, ← HY.out, hf]; exact hl
                · exact HQ.out j (by omega)⟩
              case measure => simp [intOf]; omega
            · go_wp2_with fail
              refine wp_region_quiet_below (by kernel_rfl) (by kernel_rfl) ?_
              repeat (go_big_quiet_step (exact cF _ _))
              refine wpQuiet_nil ?_
              intro _ hw'
              obtain ⟨⟨dq, osq⟩, hw''⟩ := hw'
              obtain ⟨W2, hW2⟩ : ∃ W2, W2 = grow (redrawn wr dq) osq := ⟨_, rfl⟩
              have hb2 : Below wr.heap.size wr W2 := by rw [hW2]; exact below_regrown wr dq osq
              subst hw''
              rw [← hW2]
              clear hW2 kx cF ky
              go_wp2
              go_ret
              exact ⟨ret_bool (rising_false hlt (by rw [up_succ, ← HX.out, ← HY.out, hf]; exact hl)).symm, hbw.trans (hb2.mono hbw.size)⟩
          · go_wp2_with fail
            refine wp_region_quiet_below (by kernel_rfl) (by kernel_rfl) ?_
            repeat (go_big_quiet_step (exact cF _ _))
            refine wpQuiet_nil ?_
            intro _ hw'
            obtain ⟨⟨dq, osq⟩, hw''⟩ := hw'
            obtain ⟨W2, hW2⟩ : ∃ W2, W2 = grow (redrawn wr dq) osq := ⟨_, rfl⟩
            have hb2 : Below wr.heap.size wr W2 := by rw [hW2]; exact below_regrown wr dq osq
            subst hw''
            rw [← hW2]
            clear hW2 kx cF ky
            go_wp2
            go_ret
            exact ⟨ret_bool (rising_false hlt (by rw [up_succ, ← HX.out, hf]; rfl)).symm, hbw.trans (hb2.mono hbw.size)⟩
      · have : k = ss.length := by omega
        subst this
        clear hc
        go_wp2
        go_ret
        exact ⟨ret_bool (rising_true HQ.out).symm, hbw⟩
end Go.Proofs.Ytbfmaicoefefaaa
