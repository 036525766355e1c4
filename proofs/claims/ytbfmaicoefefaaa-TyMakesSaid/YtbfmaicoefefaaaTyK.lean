/- The document's own answers of layer 4: depth, kinds. -/
import Derived.Test.YtbfmaicoefefaaaTyN
set_option linter.unusedSimpArgs false
set_option linter.unusedVariables false
namespace Go.Proofs.Ytbfmaicoefefaaa
open Go.RowKit Go.Deep Go.Sort
set_option maxHeartbeats 1000000 in
theorem rdepth_any : ∀ (f : Nat) (t : Ty5) (v0 v1 v2 v3 v4 : Value) (w : World), szT t ≤ f → nodesT t ≤ 1000000 → TyIn w t v0 v1 v2 v3 v4 →
    Calls Try.prog 18 #[.agg #[v0, v1, v2, v3, v4]] w fun e w' => e = .returned (.int .i64 (depthT t)) ∧ Below w.heap.size w w'
  | 0, t, _, _, _, _, _, _, h, _, _ => absurd (szT_pos t) (by omega)
  | f + 1, .mk k n nm ls ks, v0, v1, v2, v3, v4, w, hz, hn, hT => by
    obtain ⟨rfl, rfl, ⟨rfl, hm⟩, hl, hk, h4⟩ := hT
    unfold maxLen at hk
    rcases h4 with ⟨a, cap, rfl, rfl⟩ | ⟨b, off, cap, rfl, hr⟩
    · go_enter Try.func18, Try.ntmps18
      go_wp2
      go_rounds 1
      go_ret
      exact ⟨retI rfl, by go_grown⟩
    · have IH := Asd.mk (rdepth_any f)
      have HZ := Asd.mk hz
      have HN := Asd.mk hn
      have HM := Asd.mk hm
      have HL := Asd.mk hl
      have HR := Asd.mk hr
      clear hz hn hm hl hr
      go_enter Try.func18, Try.ntmps18
      go_wp2
      have Z := alloc_at w #[.int .i64 k, .int .i64 n, .string nm, v3, .slice (some ⟨b, off, none⟩) ks.length cap] 25 4 _ rfl
      have L := alloc_lt w (.cells #[.int .i64 k, .int .i64 n, .string nm, v3, .slice (some ⟨b, off, none⟩) ks.length cap] 25)
      have B1 : Below w.heap.size w (w.alloc (.cells #[.int .i64 k, .int .i64 n, .string nm, v3, .slice (some ⟨b, off, none⟩) ks.length cap] 25)) := (Below.refl _ _).alloc (Nat.le_refl _) _
      generalize w.alloc (.cells #[.int .i64 k, .int .i64 n, .string nm, v3, .slice (some ⟨b, off, none⟩) ks.length cap] 25) = W at Z L B1 ⊢
      have B1 := Asd.mk B1
      have Z := Asd.mk Z
      have L := Asd.mk L
      go_loopw [3, 4] (fun m i wr => ∃ j : Nat, j ≤ ks.length ∧ i = .int .i64 j ∧ m = .int .i64 ((depthL (ks.take j) : Nat) : Int) ∧ Below W.heap.size W wr) (fun _ i _ => ks.length - (intOf i).toNat)
      case atStart => exact ⟨0, by omega, rfl, by simp [depthL], Below.refl _ _⟩
      case round =>
        obtain ⟨j, hj, rfl, rfl, hb⟩ := hrel
        have z := cell_below hb Z.out
        by_cases hlt : j < ks.length
        · obtain ⟨x0, x1, x2, x3, x4, c0, c1, c2, c3, c4, ht⟩ := (((HR.out).mono B1.out).mono hb).at hlt
          have HT := Asd.mk ht
          have HB := Asd.mk hb
          clear ht hb
          go_wp2_with (go_at_call 18; refine (IH.out (kAt ks j) _ _ _ _ _ _ (by have := HZ.out; have := szT_kid (k := k) (n := n) (nm := nm) (ls := ls) hlt; omega) (by have := HN.out; have := nodesL_step hlt; have := nodesL_le ks (j + 1); simp only [nodesT] at *; omega) HT.out).mono ?_; rintro e w2 ⟨rfl, hb2⟩)
          have hn1 : nodesL (ks.take (j + 1)) ≤ 1000000 := by have := HN.out; have := nodesL_le ks (j + 1); simp only [nodesT] at *; omega
          go_roundw
          case rel => exact ⟨j + 1, by omega, by go_num, by rw [depthL_step hlt]; go_num, HB.out.trans (hb2.mono HB.out.size)⟩
          case measure => simp [intOf]; omega
        · have : j = ks.length := by omega
          subst this
          go_wp2
          go_ret
          have hd := depth_nodes (.mk k n nm ls ks)
          have := HN.out
          exact ⟨congrArg Ending.returned (i64_small (by simp only [depthT]; omega) (by omega) (by omega)), B1.out.trans (hb.mono B1.out.size)⟩
set_option maxHeartbeats 1000000 in
theorem rhas_any (kd : Int) : ∀ (f : Nat) (t : Ty5) (v0 v1 v2 v3 v4 : Value) (w : World), szT t ≤ f → TyIn w t v0 v1 v2 v3 v4 →
    Calls Try.prog 20 #[.agg #[v0, v1, v2, v3, v4], .int .i64 kd] w fun e w' => e = .returned (.bool (hasT kd t)) ∧ Below w.heap.size w w'
  | 0, t, _, _, _, _, _, _, h, _ => absurd (szT_pos t) (by omega)
  | f + 1, .mk k n nm ls ks, v0, v1, v2, v3, v4, w, hz, hT => by
    obtain ⟨rfl, rfl, ⟨rfl, hm⟩, hl, hk, h4⟩ := hT
    unfold maxLen at hk
    rcases Bool.eq_false_or_eq_true (k == kd) with hq | hq
    · have hv : hasT kd (.mk k n nm ls ks) = true := by simp [hasT, hq]
      rw [hv]
      rw [beq_iff_eq] at hq
      subst hq
      rcases h4 with ⟨a, cap, rfl, rfl⟩ | ⟨b, off, cap, rfl, hr⟩
      all_goals
        go_enter Try.func20, Try.ntmps20
        go_wp2
        go_ret
        exact ⟨rfl, by go_grown⟩
    have hne : k ≠ kd := by intro e; rw [e] at hq; simp at hq
    rcases h4 with ⟨a, cap, rfl, rfl⟩ | ⟨b, off, cap, rfl, hr⟩
    · have hv : hasT kd (.mk k n nm ls []) = false := by simp [hasT, hasL, hne]
      rw [hv]
      clear hv
      go_enter Try.func20, Try.ntmps20
      go_wp2
      go_rounds 1
      go_ret
      exact ⟨rfl, by go_grown⟩
    · have IH := Asd.mk (rhas_any kd f)
      have HZ := Asd.mk hz
      have HM := Asd.mk hm
      have HL := Asd.mk hl
      have HR := Asd.mk hr
      have HQ := Asd.mk hq
      clear hz hm hl hr hq
      go_enter Try.func20, Try.ntmps20
      go_wp2
      clear hne
      rw [HQ.out]
      have Z := alloc_at w #[.int .i64 k, .int .i64 n, .string nm, v3, .slice (some ⟨b, off, none⟩) ks.length cap] 25 4 _ rfl
      have L := alloc_lt w (.cells #[.int .i64 k, .int .i64 n, .string nm, v3, .slice (some ⟨b, off, none⟩) ks.length cap] 25)
      have B1 : Below w.heap.size w (w.alloc (.cells #[.int .i64 k, .int .i64 n, .string nm, v3, .slice (some ⟨b, off, none⟩) ks.length cap] 25)) := (Below.refl _ _).alloc (Nat.le_refl _) _
      generalize w.alloc (.cells #[.int .i64 k, .int .i64 n, .string nm, v3, .slice (some ⟨b, off, none⟩) ks.length cap] 25) = W at Z L B1 ⊢
      have B1 := Asd.mk B1
      have Z := Asd.mk Z
      have L := Asd.mk L
      go_loopw [5] (fun i wr => ∃ j : Nat, j ≤ ks.length ∧ i = .int .i64 j ∧ (∀ q, q < j → hasT kd (kAt ks q) = false) ∧ Below W.heap.size W wr) (fun i _ => ks.length - (intOf i).toNat)
      case atStart => exact ⟨0, by omega, rfl, fun q hq => by omega, Below.refl _ _⟩
      case round =>
        obtain ⟨j, hj, rfl, hA, hb⟩ := hrel
        have HA := Asd.mk hA
        clear hA
        have z := cell_below hb Z.out
        by_cases hlt : j < ks.length
        · obtain ⟨x0, x1, x2, x3, x4, c0, c1, c2, c3, c4, ht⟩ := (((HR.out).mono B1.out).mono hb).at hlt
          have HT := Asd.mk ht
          have HB := Asd.mk hb
          clear ht hb
          rcases Bool.eq_false_or_eq_true (hasT kd (kAt ks j)) with hh | hh
          · go_wp2_with (go_at_call 20; refine (IH.out (kAt ks j) _ _ _ _ _ _ (by have := HZ.out; have := szT_kid (k := k) (n := n) (nm := nm) (ls := ls) hlt; omega) HT.out).mono ?_; rintro e w2 ⟨rfl, hb2⟩)
            go_ret
            exact ⟨retB (by simp [hasT, hasL_of (kAt_mem hlt) hh]), B1.out.trans ((HB.out.trans (hb2.mono HB.out.size)).mono B1.out.size)⟩
          · go_wp2_with (go_at_call 20; refine (IH.out (kAt ks j) _ _ _ _ _ _ (by have := HZ.out; have := szT_kid (k := k) (n := n) (nm := nm) (ls := ls) hlt; omega) HT.out).mono ?_; rintro e w2 ⟨rfl, hb2⟩)
            go_roundw
            case rel => exact ⟨j + 1, by omega, by go_num, fun q hq => by
              by_cases e : q = j
              · rw [e]; exact hh
              · exact HA.out q (by omega), HB.out.trans (hb2.mono HB.out.size)⟩
            case measure => simp [intOf]; omega
        · have : j = ks.length := by omega
          subst this
          go_wp2
          go_ret
          exact ⟨retB (by simp only [hasT]; rw [HQ.out, hasL_none HA.out]; rfl), B1.out.trans (hb.mono B1.out.size)⟩
end Go.Proofs.Ytbfmaicoefefaaa
