/- limbecklaw04.TySame: the walk (awake's contract comes in). -/
import Derived.Test.YtbfmaicoefefaaaTyMs
import Derived.Test.YtbfmaicoefefaaaTySp
import Derived.Test.YtbfmaicoefefaaaTyE
import Derived.Deep.RegionHeld3
import Derived.Deep.DrawnRows
set_option linter.unusedSimpArgs false
set_option linter.unusedVariables false
namespace Go.Proofs.Ytbfmaicoefefaaa
open Go.RowKit Go.Deep Go.Sort
theorem sl_alloc {a w : World} {o : Obj} (h : Below a.heap.size a w) : Below a.heap.size a (w.alloc o) := h.alloc h.size o
theorem sl_drew {a w : World} (h : Below a.heap.size a w) : Below a.heap.size a w.drew := h.drew
theorem sl_trans {a x w : World} (h : Below a.heap.size a x) (k : Below x.heap.size x w) : Below a.heap.size a w := h.trans (k.mono h.size)
attribute [local go_sem ↓] Go.wp_at_zero Go.wp_at_succ
set_option maxRecDepth 20000 in
set_option maxHeartbeats 8000000 in
theorem same_law (HA : ∀ w, Calls Try.prog 12 #[] w fun e w' => e = .returned (.bool true) ∧ Below w.heap.size w w')
    (t t' : Ty5) (v0 v1 v2 v3 v4 u0 u1 u2 u3 u4 : Value) (w : World) (hT : TyIn w t v0 v1 v2 v3 v4) (hU : TyIn w t' u0 u1 u2 u3 u4) :
    Calls Try.prog 4 #[.agg #[v0, v1, v2, v3, v4], .agg #[u0, u1, u2, u3, u4]] w fun e w' => e = .returned (.bool true) ∧ Below w.heap.size w w' := by
  have HTu := Asd.mk hT
  have HUu := Asd.mk hU
  obtain ⟨tk, tn, tm, ta, tl, tc, ta', tl', tc', rfl, rfl, rfl, rfl, rfl⟩ := hT.form
  obtain ⟨uk, un, um, ua, ul, uc, ua', ul', uc', rfl, rfl, rfl, rfl, rfl⟩ := hU.form
  clear hT hU
  go_enter Try.func4, Try.ntmps4
  go_wp2_with fail
  have hb0 : Below w.heap.size w ((w.alloc (.cells #[.int .i64 tk, .int .i64 tn, .string tm, .slice ta tl tc, .slice ta' tl' tc'] 25)).alloc (.cells #[.int .i64 uk, .int .i64 un, .string um, .slice ua ul uc, .slice ua' ul' uc'] 25)) := two_below w _ _
  have ha := fun i v h => two_a w #[.int .i64 tk, .int .i64 tn, .string tm, .slice ta tl tc, .slice ta' tl' tc'] #[.int .i64 uk, .int .i64 un, .string um, .slice ua ul uc, .slice ua' ul' uc'] 25 i v h
  have hb := fun i v h => two_b w #[.int .i64 tk, .int .i64 tn, .string tm, .slice ta tl tc, .slice ta' tl' tc'] #[.int .i64 uk, .int .i64 un, .string um, .slice ua ul uc, .slice ua' ul' uc'] 25 i v h
  obtain ⟨W, hW⟩ : ∃ W, ((w.alloc (.cells #[.int .i64 tk, .int .i64 tn, .string tm, .slice ta tl tc, .slice ta' tl' tc'] 25)).alloc (.cells #[.int .i64 uk, .int .i64 un, .string um, .slice ua ul uc, .slice ua' ul' uc'] 25)) = W := ⟨_, rfl⟩
  rw [hW] at hb0 ha hb ⊢
  clear hW
  have HB0 := Asd.mk hb0
  have HT := Asd.mk (HTu.out.mono hb0)
  have HU := Asd.mk (HUu.out.mono hb0)
  have i0 := ha 0 _ rfl
  have i1 := ha 1 _ rfl
  have i2 := ha 2 _ rfl
  have i3 := ha 3 _ rfl
  have i4 := ha 4 _ rfl
  have x0 := hb 0 _ rfl
  have x1 := hb 1 _ rfl
  have x2 := hb 2 _ rfl
  have x3 := hb 3 _ rfl
  have x4 := hb 4 _ rfl
  have HS : Asd (∀ w', Below W.heap.size W w' → (w'.cell? ⟨w.heap.size, 0, none⟩ = some (.int .i64 tk) ∧ w'.cell? ⟨w.heap.size, 1, none⟩ = some (.int .i64 tn) ∧ w'.cell? ⟨w.heap.size, 2, none⟩ = some (.string tm) ∧ w'.cell? ⟨w.heap.size, 3, none⟩ = some (.slice ta tl tc) ∧ w'.cell? ⟨w.heap.size, 4, none⟩ = some (.slice ta' tl' tc')) ∧ (w'.cell? ⟨w.heap.size + 1, 0, none⟩ = some (.int .i64 uk) ∧ w'.cell? ⟨w.heap.size + 1, 1, none⟩ = some (.int .i64 un) ∧ w'.cell? ⟨w.heap.size + 1, 2, none⟩ = some (.string um) ∧ w'.cell? ⟨w.heap.size + 1, 3, none⟩ = some (.slice ua ul uc) ∧ w'.cell? ⟨w.heap.size + 1, 4, none⟩ = some (.slice ua' ul' uc'))) := ⟨fun w' h => ⟨⟨cell_below h i0, cell_below h i1, cell_below h i2, cell_below h i3, cell_below h i4⟩, ⟨cell_below h x0, cell_below h x1, cell_below h x2, cell_below h x3, cell_below h x4⟩⟩⟩
  clear ha hb hb0 i0 i1 i2 i3 i4 x0 x1 x2 x3 x4 HTu HUu
  refine (rmuch_some _ t _ _ _ _ _ _ (Nat.le_refl _) HT.out).mono ?_
  rintro e w1 ⟨⟨n, rfl⟩, hb1⟩
  have hs1 := HS.out w1 hb1
  have H1 := Asd.mk hb1
  clear hb1
  go_split_ands
  by_cases hn : 1500 < n
  · go_wp2_with fail
    refine (HA _).mono ?_
    rintro e w2 ⟨rfl, hb2⟩
    go_wp2
    go_ret
    exact ⟨rfl, sl_trans HB0.out (sl_trans H1.out hb2)⟩
  · go_wp2_with fail
    refine (rmuch_some _ t' _ _ _ _ _ _ (Nat.le_refl _) (HU.out.mono H1.out)).mono ?_
    rintro e w2 ⟨⟨m, rfl⟩, hb2⟩
    have H2 : Asd (Below W.heap.size W w2) := ⟨sl_trans H1.out hb2⟩
    have hs2 := HS.out w2 H2.out
    clear hb2
    go_split_ands
    by_cases hm : 1500 < m
    · go_wp2_with fail
      refine (HA _).mono ?_
      rintro e w3 ⟨rfl, hb3⟩
      go_wp2
      go_ret
      exact ⟨rfl, sl_trans HB0.out (sl_trans H2.out hb3)⟩
    · go_wp2_with fail
      have hB2 := H2.out
      rcases Bool.eq_false_or_eq_true (sameT t t') with hq | hq
      all_goals
        have CTU : ∀ wx, Below W.heap.size W wx → Calls Try.prog 26 #[.agg #[.int .i64 tk, .int .i64 tn, .string tm, .slice ta tl tc, .slice ta' tl' tc'], .agg #[.int .i64 uk, .int .i64 un, .string um, .slice ua ul uc, .slice ua' ul' uc']] wx fun e w' => e = .returned (.bool (sameT t t')) ∧ Below W.heap.size W w' := fun wx hx => (psameTy_any _ t t' _ _ _ _ _ _ _ _ _ _ wx (Nat.le_refl _) (HT.out.mono hx) (HU.out.mono hx)).mono fun e w' h => ⟨h.1, sl_trans hx h.2⟩
        have CTT : ∀ wx, Below W.heap.size W wx → Calls Try.prog 26 #[.agg #[.int .i64 tk, .int .i64 tn, .string tm, .slice ta tl tc, .slice ta' tl' tc'], .agg #[.int .i64 tk, .int .i64 tn, .string tm, .slice ta tl tc, .slice ta' tl' tc']] wx fun e w' => e = .returned (.bool (true)) ∧ Below W.heap.size W w' := fun wx hx => (psameTy_any _ t t _ _ _ _ _ _ _ _ _ _ wx (Nat.le_refl _) (HT.out.mono hx) (HT.out.mono hx)).mono fun e w' h => ⟨by rw [h.1, same_refl], sl_trans hx h.2⟩
        have CUT : ∀ wx, Below W.heap.size W wx → Calls Try.prog 26 #[.agg #[.int .i64 uk, .int .i64 un, .string um, .slice ua ul uc, .slice ua' ul' uc'], .agg #[.int .i64 tk, .int .i64 tn, .string tm, .slice ta tl tc, .slice ta' tl' tc']] wx fun e w' => e = .returned (.bool (sameT t t')) ∧ Below W.heap.size W w' := fun wx hx => (psameTy_any _ t' t _ _ _ _ _ _ _ _ _ _ wx (Nat.le_refl _) (HU.out.mono hx) (HT.out.mono hx)).mono fun e w' h => ⟨by rw [h.1, same_turn], sl_trans hx h.2⟩
        have RTU : ∀ wx, Below W.heap.size W wx → Calls Try.prog 27 #[.agg #[.int .i64 tk, .int .i64 tn, .string tm, .slice ta tl tc, .slice ta' tl' tc'], .agg #[.int .i64 uk, .int .i64 un, .string um, .slice ua ul uc, .slice ua' ul' uc']] wx fun e w' => e = .returned (.bool (sameT t t')) ∧ Below W.heap.size W w' := fun wx hx => (rsameTy_any _ t t' _ _ _ _ _ _ _ _ _ _ wx (Nat.le_refl _) (HT.out.mono hx) (HU.out.mono hx)).mono fun e w' h => ⟨h.1, sl_trans hx h.2⟩
        have CA : ∀ wx, Below W.heap.size W wx → Calls Try.prog 12 #[] wx fun e w' => e = .returned (.bool true) ∧ Below W.heap.size W w' := fun wx hx => (HA wx).mono fun e w' h => ⟨h.1, sl_trans hx h.2⟩
        rw [hq] at CTU CUT RTU
        go_region_held3 (fun w' => (w'.cell? ⟨w.heap.size, 0, none⟩ = some (.int .i64 tk) ∧ w'.cell? ⟨w.heap.size, 1, none⟩ = some (.int .i64 tn) ∧ w'.cell? ⟨w.heap.size, 2, none⟩ = some (.string tm) ∧ w'.cell? ⟨w.heap.size, 3, none⟩ = some (.slice ta tl tc) ∧ w'.cell? ⟨w.heap.size, 4, none⟩ = some (.slice ta' tl' tc')) ∧ (w'.cell? ⟨w.heap.size + 1, 0, none⟩ = some (.int .i64 uk) ∧ w'.cell? ⟨w.heap.size + 1, 1, none⟩ = some (.int .i64 un) ∧ w'.cell? ⟨w.heap.size + 1, 2, none⟩ = some (.string um) ∧ w'.cell? ⟨w.heap.size + 1, 3, none⟩ = some (.slice ua ul uc) ∧ w'.cell? ⟨w.heap.size + 1, 4, none⟩ = some (.slice ua' ul' uc')))
          ((refine HS.out _ ?_; repeat (first | assumption | apply sl_drew | apply sl_alloc)))
          (first
            | (go_at_call 27; (first | (with_reducible refine Calls.mono (RTU _ (by repeat (first | assumption | apply sl_drew | apply sl_alloc))) ?_)); rintro e wq ⟨rfl, hBq⟩)
            | (go_at_call 12; (first | (with_reducible refine Calls.mono (CA _ (by repeat (first | assumption | apply sl_drew | apply sl_alloc))) ?_)); rintro e wq ⟨rfl, hBq⟩)
            | (go_at_call 26; (first | (with_reducible refine Calls.mono (CTU _ (by repeat (first | assumption | apply sl_drew | apply sl_alloc))) ?_) | (with_reducible refine Calls.mono (CTT _ (by repeat (first | assumption | apply sl_drew | apply sl_alloc))) ?_) | (with_reducible refine Calls.mono (CUT _ (by repeat (first | assumption | apply sl_drew | apply sl_alloc))) ?_)); rintro e wq ⟨rfl, hBq⟩))
      all_goals
        go_wp2
        go_ret
        exact ⟨rfl, sl_trans HB0.out (by assumption)⟩
end Go.Proofs.Ytbfmaicoefefaaa
