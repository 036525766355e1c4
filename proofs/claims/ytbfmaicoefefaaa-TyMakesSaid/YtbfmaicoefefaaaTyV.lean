/- limbecklaw04.Much: the walk. -/
import Derived.Test.YtbfmaicoefefaaaTyU
set_option linter.unusedSimpArgs false
set_option linter.unusedVariables false
namespace Go.Proofs.Ytbfmaicoefefaaa
open Go.RowKit Go.Deep Go.Sort
set_option maxRecDepth 20000 in
set_option maxHeartbeats 2000000 in
theorem rmuch_any : ∀ (f : Nat) (t : Ty5) (v0 v1 v2 v3 v4 : Value) (w : World), szT t ≤ f → szT t ≤ 1048576 → TyIn w t v0 v1 v2 v3 v4 →
    Calls Try.prog 11 #[.agg #[v0, v1, v2, v3, v4]] w fun e w' => e = .returned (.int .i64 (much t)) ∧ Below w.heap.size w w'
  | 0, t, _, _, _, _, _, _, h, _, _ => absurd (szT_pos t) (by omega)
  | f + 1, .mk k n nm ls ks, v0, v1, v2, v3, v4, w, hz, hn, hT => by
    obtain ⟨rfl, rfl, ⟨rfl, hm⟩, hl, hk, h4⟩ := hT
    unfold maxLen at hk hm
    obtain ⟨hls, hlm, hlf⟩ := hl
    unfold maxLen at hlm
    have hsum : nm.size ≤ 1048576 ∧ ls.length ≤ 1048576 ∧ ∀ j, eighths (ls.take j) ≤ 1048576 := by
      have h1 := eighths_le ls
      have h2 := eighths_take ls
      simp only [szT] at hn
      exact ⟨by omega, by omega, fun j => by have := h2 j; omega⟩
    obtain ⟨hs1, hs2, hs3⟩ := hsum
    obtain ⟨a3, cap3, e3⟩ : ∃ a cap, v3 = .slice a ls.length cap := by
      rcases hlf with ⟨a, cap, rfl, rfl⟩ | ⟨b, off, cap, rfl, _⟩
      · exact ⟨a, cap, rfl⟩
      · exact ⟨_, cap, rfl⟩
    obtain ⟨a4, cap4, e4⟩ : ∃ a cap, v4 = .slice a ks.length cap := by
      rcases h4 with ⟨a, cap, rfl, rfl⟩ | ⟨b, off, cap, rfl, _⟩
      · exact ⟨a, cap, rfl⟩
      · exact ⟨_, cap, rfl⟩
    subst e3 e4
    have IH := Asd.mk (rmuch_any f)
    have HZ := Asd.mk hz
    have HN := Asd.mk hn
    have HLF := Asd.mk hlf
    have HLS := Asd.mk hls
    have H4 := Asd.mk h4
    have HE := Asd.mk hs3
    clear hz hn hlf hls h4 hs3
    have Z : ∀ (i : Nat) (v : Value), (#[.int .i64 k, .int .i64 n, .string nm, .slice a3 ls.length cap3, .slice a4 ks.length cap4] : Array Value)[i]? = some v → (w.alloc (.cells #[.int .i64 k, .int .i64 n, .string nm, .slice a3 ls.length cap3, .slice a4 ks.length cap4] 25)).cell? ⟨w.heap.size, i, none⟩ = some v := fun i v h => alloc_at w #[.int .i64 k, .int .i64 n, .string nm, .slice a3 ls.length cap3, .slice a4 ks.length cap4] 25 i v h
    have B0 : Below w.heap.size w (w.alloc (.cells #[.int .i64 k, .int .i64 n, .string nm, .slice a3 ls.length cap3, .slice a4 ks.length cap4] 25)) := (Below.refl _ _).alloc (Nat.le_refl _) _
    have Z3 := Asd.mk (Z 3 _ rfl)
    have Z4 := Asd.mk (Z 4 _ rfl)
    have B1 := Asd.mk B0
    clear Z B0
    go_enter Try.func11, Try.ntmps11
    go_wp2
    generalize w.alloc (.cells #[.int .i64 k, .int .i64 n, .string nm, .slice a3 ls.length cap3, .slice a4 ks.length cap4] 25) = W at Z3 Z4 B1 ⊢
    go_loopw [3, 4] (fun m i wr => ∃ j : Nat, j ≤ ls.length ∧ j ≤ 1000 ∧ i = .int .i64 j ∧ m = .int .i64 ((1 + nm.size / 8 + ls.length + eighths (ls.take j) : Nat) : Int) ∧ Below W.heap.size W wr) (fun _ i _ => ls.length - (intOf i).toNat)
    case atStart => exact ⟨0, by omega, by omega, rfl, by simp only [List.take_zero, eighths]; go_num, Below.refl _ _⟩
    case round =>
      obtain ⟨j, hj, hj2, rfl, rfl, hb⟩ := hrel
      have z3 := cell_below hb Z3.out
      by_cases hlt : j < ls.length ∧ j < 1000
      · obtain ⟨hlt, hlt2⟩ := hlt
        rcases HLF.out with ⟨_, _, _, e⟩ | ⟨b, off, cap, e, hbz, hc⟩
        · rw [e] at hlt
          exact absurd hlt (Nat.not_lt_zero _)
        obtain ⟨rfl, rfl⟩ : a3 = some ⟨b, off, none⟩ ∧ cap3 = cap := by simpa using e
        have hcx := ((B1.out.trans (hb.mono B1.out.size)).cell (p := ⟨b, off + j, none⟩) hbz).trans (hc j hlt)
        have hsx := HLS.out _ (by rw [stAt_get hlt]; exact List.getElem_mem hlt : stAt ls j ∈ ls)
        unfold maxLen at hsx
        have HS := Asd.mk (eighths_step hlt)
        have HX := HE.out (j + 1)
        clear e hc
        generalize hx : stAt ls j = x at hcx hsx HS
        have hx := Asd.mk hx
        go_wp2
        go_roundw
        case rel => exact ⟨j + 1, by omega, by omega, by go_num, i64_le (by rw [HS.out]; omega) (by omega) (by omega), hb⟩
        case measure => simp [intOf]; omega
      · have hm8 : eighths (ls.take j) = eighths (ls.take 1000) := by
          by_cases h : j = 1000
          · rw [h]
          · rw [List.take_of_length_le (by omega), List.take_of_length_le (by omega)]
        have hA : ((1 + nm.size / 8 + ls.length + eighths (ls.take j) : Nat) : Int) = (muchA nm ls : Nat) := by rw [hm8]; rfl
        have hA2 : muchA nm ls ≤ 1 + nm.size + szS ls := by have := eighths_take ls 1000; unfold muchA; omega
        rw [hA]
        clear hA hm8
        have z4 := Asd.mk Z4.out
        have HA2 := Asd.mk hA2
        clear hA2
        rcases (show ¬ j < ls.length ∨ (j < ls.length ∧ ¬ j < 1000) by omega) with h | ⟨h, h'⟩
        all_goals
          go_wp2
          have HB := Asd.mk hb
          clear hb z3
          go_loopw [3, 5] (fun m i w3 => ∃ q nn : Nat, q ≤ ks.length ∧ i = .int .i64 q ∧ m = .int .i64 (nn : Int) ∧ muchL nn (ks.drop q) = much (.mk k n nm ls ks) ∧ nn ≤ 1 + nm.size + szS ls + szL (ks.take q) ∧ Below wr.heap.size wr w3) (fun _ i _ => ks.length - (intOf i).toNat)
          case atStart => exact ⟨0, muchA nm ls, by omega, rfl, rfl, by simp [much], by have := HA2.out; omega, Below.refl _ _⟩
          case round =>
            obtain ⟨q, nn, hq, rfl, rfl, hM, hnn, hb3⟩ := hrel
            have y4 := cell_below hb3 (cell_below HB.out z4.out)
            have HM := Asd.mk hM
            have HNN := Asd.mk hnn
            clear hM hnn
            by_cases h3 : nn < 3000
            · by_cases hlt : q < ks.length
              · rcases H4.out with ⟨_, _, _, e⟩ | ⟨b, off, cap, e, hr⟩
                · rw [e] at hlt
                  exact absurd hlt (Nat.not_lt_zero _)
                obtain ⟨rfl, rfl⟩ : a4 = some ⟨b, off, none⟩ ∧ cap4 = cap := by simpa using e
                obtain ⟨x0, x1, x2, x3, x4, c0, c1, c2, c3, c4, ht⟩ := (((hr.mono B1.out).mono HB.out).mono hb3).at hlt
                have HT := Asd.mk ht
                have HB3 := Asd.mk hb3
                have hkid := szL_step hlt
                have hmk := much_le (kAt ks q)
                have HS : Asd (szT (kAt ks q) ≤ f ∧ szT (kAt ks q) ≤ 1048576 ∧ nn + much (kAt ks q) ≤ 1048576 ∧ nn + much (kAt ks q) ≤ 1 + nm.size + szS ls + szL (ks.take (q + 1))) := ⟨by
                  have h1 := HZ.out
                  have h2 := HN.out
                  have h5 := HNN.out
                  have h6 := szL_take hlt
                  simp only [szT] at h1 h2
                  omega⟩
                clear ht hb3 hr e hkid hmk
                go_wp2_with (go_at_call 11; refine (IH.out (kAt ks q) _ _ _ _ _ _ HS.out.1 HS.out.2.1 HT.out).mono ?_; rintro e w4 ⟨rfl, hb4⟩)
                go_roundw
                case rel => exact ⟨q + 1, nn + much (kAt ks q), by omega, by go_num, i64_le (by omega) (by omega) (by have := HS.out.2.2.1; omega), by rw [← muchL_drop hlt h3]; exact HM.out, HS.out.2.2.2, HB3.out.trans (hb4.mono HB3.out.size)⟩
                case measure => simp [intOf]; omega
              · have hqe : q = ks.length := by omega
                subst hqe
                go_wp2
                go_ret
                exact ⟨retI (by have e := HM.out; rw [List.drop_length] at e; rw [← e]; rfl), B1.out.trans ((HB.out.trans (hb3.mono HB.out.size)).mono B1.out.size)⟩
            · have e := muchL_stop (ks.drop q) h3
              rcases (show q < ks.length ∨ ¬ q < ks.length by omega) with hlt | hlt
              all_goals
                go_wp2
                go_ret
                exact ⟨retI (by rw [← HM.out, e]), B1.out.trans ((HB.out.trans (hb3.mono HB.out.size)).mono B1.out.size)⟩
end Go.Proofs.Ytbfmaicoefefaaa
