/- limbecklaw04.Much on any type, however large: it comes back with some number. -/
import Derived.Test.YtbfmaicoefefaaaTyU
set_option linter.unusedSimpArgs false
set_option linter.unusedVariables false
namespace Go.Proofs.Ytbfmaicoefefaaa
open Go.RowKit Go.Deep Go.Sort
set_option maxRecDepth 20000 in
set_option maxHeartbeats 2000000 in
theorem rmuch_some : ∀ (f : Nat) (t : Ty5) (v0 v1 v2 v3 v4 : Value) (w : World), szT t ≤ f → TyIn w t v0 v1 v2 v3 v4 →
    Calls Try.prog 11 #[.agg #[v0, v1, v2, v3, v4]] w fun e w' => (∃ n : Int, e = .returned (.int .i64 n)) ∧ Below w.heap.size w w'
  | 0, t, _, _, _, _, _, _, h, _ => absurd (szT_pos t) (by omega)
  | f + 1, .mk k n nm ls ks, v0, v1, v2, v3, v4, w, hz, hT => by
    obtain ⟨rfl, rfl, ⟨rfl, hm⟩, hl, hk, h4⟩ := hT
    unfold maxLen at hk hm
    obtain ⟨hls, hlm, hlf⟩ := hl
    unfold maxLen at hlm
    obtain ⟨a3, cap3, e3⟩ : ∃ a cap, v3 = .slice a ls.length cap := by
      rcases hlf with ⟨a, cap, rfl, rfl⟩ | ⟨b, off, cap, rfl, _⟩
      · exact ⟨a, cap, rfl⟩
      · exact ⟨_, cap, rfl⟩
    obtain ⟨a4, cap4, e4⟩ : ∃ a cap, v4 = .slice a ks.length cap := by
      rcases h4 with ⟨a, cap, rfl, rfl⟩ | ⟨b, off, cap, rfl, _⟩
      · exact ⟨a, cap, rfl⟩
      · exact ⟨_, cap, rfl⟩
    subst e3 e4
    have IH := Asd.mk (rmuch_some f)
    have HZ := Asd.mk hz
    have HLF := Asd.mk hlf
    have HLS := Asd.mk hls
    have H4 := Asd.mk h4
    clear hz hlf hls h4
    have Z : ∀ (i : Nat) (v : Value), (#[.int .i64 k, .int .i64 n, .string nm, .slice a3 ls.length cap3, .slice a4 ks.length cap4] : Array Value)[i]? = some v → (w.alloc (.cells #[.int .i64 k, .int .i64 n, .string nm, .slice a3 ls.length cap3, .slice a4 ks.length cap4] 25)).cell? ⟨w.heap.size, i, none⟩ = some v := fun i v h => alloc_at w #[.int .i64 k, .int .i64 n, .string nm, .slice a3 ls.length cap3, .slice a4 ks.length cap4] 25 i v h
    have B0 : Below w.heap.size w (w.alloc (.cells #[.int .i64 k, .int .i64 n, .string nm, .slice a3 ls.length cap3, .slice a4 ks.length cap4] 25)) := (Below.refl _ _).alloc (Nat.le_refl _) _
    have Z3 := Asd.mk (Z 3 _ rfl)
    have Z4 := Asd.mk (Z 4 _ rfl)
    have B1 := Asd.mk B0
    clear Z B0
    go_enter Try.func11, Try.ntmps11
    go_wp2
    generalize w.alloc (.cells #[.int .i64 k, .int .i64 n, .string nm, .slice a3 ls.length cap3, .slice a4 ks.length cap4] 25) = W at Z3 Z4 B1 ⊢
    go_loopw [3, 4] (fun m i wr => ∃ j : Nat, j ≤ ls.length ∧ j ≤ 1000 ∧ i = .int .i64 j ∧ (∃ mm : Int, m = .int .i64 mm) ∧ Below W.heap.size W wr) (fun _ i _ => ls.length - (intOf i).toNat)
    case atStart => exact ⟨0, by omega, by omega, rfl, ⟨_, rfl⟩, Below.refl _ _⟩
    case round =>
      obtain ⟨j, hj, hj2, rfl, ⟨mm, rfl⟩, hb⟩ := hrel
      have z3 := cell_below hb Z3.out
      by_cases hlt : j < ls.length ∧ j < 1000
      · obtain ⟨hlt, hlt2⟩ := hlt
        rcases HLF.out with ⟨_, _, _, e⟩ | ⟨b, off, cap, e, hbz, hc⟩
        · rw [e] at hlt
          exact absurd hlt (Nat.not_lt_zero _)
        obtain ⟨rfl, rfl⟩ : a3 = some ⟨b, off, none⟩ ∧ cap3 = cap := by simpa using e
        have hcx := ((B1.out.trans (hb.mono B1.out.size)).cell (p := ⟨b, off + j, none⟩) hbz).trans (hc j hlt)
        have hsx := HLS.out _ (by rw [stAt_get hlt]; exact List.getElem_mem hlt : stAt ls j ∈ ls)
        unfold maxLen at hsx
        clear e hc
        generalize hx : stAt ls j = x at hcx hsx
        have hx := Asd.mk hx
        go_wp2
        go_roundw
        case rel => exact ⟨j + 1, by omega, by omega, by go_num, ⟨_, rfl⟩, hb⟩
        case measure => simp [intOf]; omega
      · have z4 := Asd.mk Z4.out
        rcases (show ¬ j < ls.length ∨ (j < ls.length ∧ ¬ j < 1000) by omega) with h | ⟨h, h'⟩
        all_goals
          go_wp2
          have HB := Asd.mk hb
          clear hb z3
          go_loopw [3, 5] (fun m i w3 => ∃ (q : Nat) (nn : Int), q ≤ ks.length ∧ i = .int .i64 q ∧ m = .int .i64 nn ∧ Below wr.heap.size wr w3) (fun _ i _ => ks.length - (intOf i).toNat)
          case atStart => exact ⟨0, _, by omega, rfl, rfl, Below.refl _ _⟩
          case round =>
            obtain ⟨q, nn, hq, rfl, rfl, hb3⟩ := hrel
            have y4 := cell_below hb3 (cell_below HB.out z4.out)
            by_cases h3 : nn < 3000
            · by_cases hlt : q < ks.length
              · rcases H4.out with ⟨_, _, _, e⟩ | ⟨b, off, cap, e, hr⟩
                · rw [e] at hlt
                  exact absurd hlt (Nat.not_lt_zero _)
                obtain ⟨rfl, rfl⟩ : a4 = some ⟨b, off, none⟩ ∧ cap4 = cap := by simpa using e
                obtain ⟨x0, x1, x2, x3, x4, c0, c1, c2, c3, c4, ht⟩ := (((hr.mono B1.out).mono HB.out).mono hb3).at hlt
                have HT := Asd.mk ht
                have HB3 := Asd.mk hb3
                have hkid := szL_step hlt
                have HS : Asd (szT (kAt ks q) ≤ f) := ⟨by
                  have h1 := HZ.out
                  simp only [szT] at h1
                  omega⟩
                clear ht hb3 hr e hkid
                go_wp2_with (go_at_call 11; refine (IH.out (kAt ks q) _ _ _ _ _ _ HS.out HT.out).mono ?_; rintro e w4 ⟨⟨n4, rfl⟩, hb4⟩)
                go_roundw
                case rel => exact ⟨q + 1, _, by omega, by go_num, rfl, HB3.out.trans (hb4.mono HB3.out.size)⟩
                case measure => simp [intOf]; omega
              · have hqe : q = ks.length := by omega
                subst hqe
                go_wp2
                go_ret
                exact ⟨⟨_, rfl⟩, B1.out.trans ((HB.out.trans (hb3.mono HB.out.size)).mono B1.out.size)⟩
            · rcases (show q < ks.length ∨ ¬ q < ks.length by omega) with hlt | hlt
              all_goals
                go_wp2
                go_ret
                exact ⟨⟨_, rfl⟩, B1.out.trans ((HB.out.trans (hb3.mono HB.out.size)).mono B1.out.size)⟩
end Go.Proofs.Ytbfmaicoefefaaa
