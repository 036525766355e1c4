/- limbecklaw04.TyRight: the walk (awake's contract comes in). -/
import Derived.Test.YtbfmaicoefefaaaTySl
import Derived.Test.YtbfmaicoefefaaaTyV
import Derived.Test.YtbfmaicoefefaaaTyVr
import Derived.Test.YtbfmaicoefefaaaTyVp
import Derived.Test.YtbfmaicoefefaaaTyRt
import Derived.Test.YtbfmaicoefefaaaTyFd
import Derived.Deep.RegionHeld3
import Derived.Deep.DrawnRows
set_option linter.unusedSimpArgs false
set_option linter.unusedVariables false
namespace Go.Proofs.Ytbfmaicoefefaaa
open Go.RowKit Go.Deep Go.Sort
theorem rvar_any (s : ByteArray) (w : World) (hs : s.size ≤ maxLen) : Calls Try.prog 49 #[.string s] w fun e w' => e = .returned (.bool (varB s)) ∧ Below w.heap.size w w' := by
  go_enter Try.func49, Try.ntmps49
  go_wp2_with (go_at_call 78; refine (rkind_any _ _ hs).mono ?_; rintro e w' ⟨rfl, hb⟩)
  go_ret
  exact ⟨rfl, hb⟩
theorem rright_all (t : Ty5) (v0 v1 v2 v3 v4 : Value) (w : World) (hT : TyIn w t v0 v1 v2 v3 v4) :
    Calls Try.prog 14 #[.agg #[v0, v1, v2, v3, v4]] w fun e w' => e = .returned (.bool (rightT varB risingB t)) ∧ Below w.heap.size w w' :=
  rright_any varB risingB ⟨fun s w hs => rvar_any s w hs⟩ ⟨fun v ss w h => rrising_any v ss w h⟩ _ t _ _ _ _ _ w (Nat.le_refl _) hT
/-- The one list of a type's variables. -/
theorem vars_one (N : List ByteArray) : ∃ L, VarsIs N L := ⟨_, vars_sorted N⟩
attribute [local go_sem ↓] Go.wp_at_zero Go.wp_at_succ
set_option maxRecDepth 20000 in
set_option maxHeartbeats 0 in
theorem right_law (HA : ∀ w, Calls Try.prog 12 #[] w fun e w' => e = .returned (.bool true) ∧ Below w.heap.size w w')
    (t : Ty5) (kd : Int) (v0 v1 v2 v3 v4 : Value) (w : World) (hT : TyIn w t v0 v1 v2 v3 v4) (hz : szT t ≤ 1048576) :
    Calls Try.prog 3 #[.agg #[v0, v1, v2, v3, v4], .int .i64 kd] w fun e w' => e = .returned (.bool true) ∧ Below w.heap.size w w' := by
  have HTu := Asd.mk hT
  obtain ⟨tk, tn, tm, ta, tl, tc, ta', tl', tc', rfl, rfl, rfl, rfl, rfl⟩ := hT.form
  clear hT
  go_enter Try.func3, Try.ntmps3
  go_wp2_with fail
  have hb0 : Below w.heap.size w (w.alloc (.cells #[.int .i64 tk, .int .i64 tn, .string tm, .slice ta tl tc, .slice ta' tl' tc'] 25)) := (Below.refl _ _).alloc (Nat.le_refl _) _
  have ha := fun i v h => alloc_at w #[.int .i64 tk, .int .i64 tn, .string tm, .slice ta tl tc, .slice ta' tl' tc'] 25 i v h
  obtain ⟨W, hW⟩ : ∃ W, (w.alloc (.cells #[.int .i64 tk, .int .i64 tn, .string tm, .slice ta tl tc, .slice ta' tl' tc'] 25)) = W := ⟨_, rfl⟩
  rw [hW] at hb0 ha ⊢
  clear hW
  have HB0 := Asd.mk hb0
  have HT := Asd.mk (HTu.out.mono hb0)
  have i0 := ha 0 _ rfl
  have i1 := ha 1 _ rfl
  have i2 := ha 2 _ rfl
  have i3 := ha 3 _ rfl
  have i4 := ha 4 _ rfl
  have HS : Asd (∀ w', Below W.heap.size W w' → (w'.cell? ⟨w.heap.size, 0, none⟩ = some (.int .i64 tk) ∧ w'.cell? ⟨w.heap.size, 1, none⟩ = some (.int .i64 tn) ∧ w'.cell? ⟨w.heap.size, 2, none⟩ = some (.string tm) ∧ w'.cell? ⟨w.heap.size, 3, none⟩ = some (.slice ta tl tc) ∧ w'.cell? ⟨w.heap.size, 4, none⟩ = some (.slice ta' tl' tc'))) := ⟨fun w' h => ⟨cell_below h i0, cell_below h i1, cell_below h i2, cell_below h i3, cell_below h i4⟩⟩
  clear ha hb0 i0 i1 i2 i3 i4 HTu
  refine (rmuch_any _ t _ _ _ _ _ _ (Nat.le_refl _) hz HT.out).mono ?_
  rintro e w1 ⟨rfl, hb1⟩
  have hs1 := HS.out w1 hb1
  have H1 := Asd.mk hb1
  have hmn := much_nodes t
  clear hb1 hz
  go_split_ands
  generalize much t = n at *
  by_cases hn : (1500 : Int) < (n : Int)
  · go_wp2_with fail
    refine (HA _).mono ?_
    rintro e w2 ⟨rfl, hb2⟩
    go_wp2
    go_ret
    exact ⟨rfl, sl_trans HB0.out (sl_trans H1.out hb2)⟩
  · have hN : nodesT t ≤ 1000000 := by have := hmn (by omega); omega
    clear hmn
    obtain ⟨L0, hL0⟩ := vars_one (namesT t)
    have HL0 := Asd.mk hL0
    have HNN := Asd.mk hN
    clear hL0 hN
    go_wp2_with fail
    have hB1 := H1.out
    have C1 : ∀ wx, Below W.heap.size W wx → Calls Try.prog 13 #[.agg #[.int .i64 tk, .int .i64 tn, .string tm, .slice ta tl tc, .slice ta' tl' tc']] wx fun e w' => e = .returned (.bool (rightT varB risingB t)) ∧ Below W.heap.size W w' := fun wx hx => (pright_any t _ _ _ _ _ wx (HT.out.mono hx)).mono fun e w' h => ⟨h.1, sl_trans hx h.2⟩
    have C2 : ∀ wx, Below W.heap.size W wx → Calls Try.prog 14 #[.agg #[.int .i64 tk, .int .i64 tn, .string tm, .slice ta tl tc, .slice ta' tl' tc']] wx fun e w' => e = .returned (.bool (rightT varB risingB t)) ∧ Below W.heap.size W w' := fun wx hx => (rright_all t _ _ _ _ _ wx (HT.out.mono hx)).mono fun e w' h => ⟨h.1, sl_trans hx h.2⟩
    have C3 : ∀ wx, Below W.heap.size W wx → Calls Try.prog 15 #[.agg #[.int .i64 tk, .int .i64 tn, .string tm, .slice ta tl tc, .slice ta' tl' tc']] wx fun e w' => e = .returned (.int .i64 (nodesT t)) ∧ Below W.heap.size W w' := fun wx hx => (pnodes_any t _ _ _ _ _ wx (HT.out.mono hx) HNN.out).mono fun e w' h => ⟨h.1, sl_trans hx h.2⟩
    have C4 : ∀ wx, Below W.heap.size W wx → Calls Try.prog 16 #[.agg #[.int .i64 tk, .int .i64 tn, .string tm, .slice ta tl tc, .slice ta' tl' tc']] wx fun e w' => e = .returned (.int .i64 (nodesT t)) ∧ Below W.heap.size W w' := fun wx hx => (rnodes_any _ t _ _ _ _ _ wx (Nat.le_refl _) HNN.out (HT.out.mono hx)).mono fun e w' h => ⟨h.1, sl_trans hx h.2⟩
    have C5 : ∀ wx, Below W.heap.size W wx → Calls Try.prog 17 #[.agg #[.int .i64 tk, .int .i64 tn, .string tm, .slice ta tl tc, .slice ta' tl' tc']] wx fun e w' => e = .returned (.int .i64 (depthT t)) ∧ Below W.heap.size W w' := fun wx hx => (pdepth_any t _ _ _ _ _ wx (HT.out.mono hx) HNN.out).mono fun e w' h => ⟨h.1, sl_trans hx h.2⟩
    have C6 : ∀ wx, Below W.heap.size W wx → Calls Try.prog 18 #[.agg #[.int .i64 tk, .int .i64 tn, .string tm, .slice ta tl tc, .slice ta' tl' tc']] wx fun e w' => e = .returned (.int .i64 (depthT t)) ∧ Below W.heap.size W w' := fun wx hx => (rdepth_any _ t _ _ _ _ _ wx (Nat.le_refl _) HNN.out (HT.out.mono hx)).mono fun e w' h => ⟨h.1, sl_trans hx h.2⟩
    have C7 : ∀ wx, Below W.heap.size W wx → Calls Try.prog 19 #[.agg #[.int .i64 tk, .int .i64 tn, .string tm, .slice ta tl tc, .slice ta' tl' tc'], .int .i64 kd] wx fun e w' => e = .returned (.bool (hasT kd t)) ∧ Below W.heap.size W w' := fun wx hx => (phas_any t kd _ _ _ _ _ wx (HT.out.mono hx)).mono fun e w' h => ⟨h.1, sl_trans hx h.2⟩
    have C8 : ∀ wx, Below W.heap.size W wx → Calls Try.prog 20 #[.agg #[.int .i64 tk, .int .i64 tn, .string tm, .slice ta tl tc, .slice ta' tl' tc'], .int .i64 kd] wx fun e w' => e = .returned (.bool (hasT kd t)) ∧ Below W.heap.size W w' := fun wx hx => (rhas_any kd _ t _ _ _ _ _ wx (Nat.le_refl _) (HT.out.mono hx)).mono fun e w' h => ⟨h.1, sl_trans hx h.2⟩
    have C9 : ∀ wx, Below W.heap.size W wx → Calls Try.prog 22 #[.agg #[.int .i64 tk, .int .i64 tn, .string tm, .slice ta tl tc, .slice ta' tl' tc']] wx fun e w' => ∃ v, e = .returned v ∧ Below wx.heap.size wx w' ∧ StrsAt w' v L0 := fun wx hx => (pvars_any t _ _ _ _ _ wx (HT.out.mono hx) HNN.out).mono fun e w' ⟨v, L, h1, h2, h3, h4, _⟩ => ⟨v, h1, h2, by rw [varsIs_unique HL0.out h4]; exact h3⟩
    have C10 : ∀ wx, Below W.heap.size W wx → Calls Try.prog 23 #[.agg #[.int .i64 tk, .int .i64 tn, .string tm, .slice ta tl tc, .slice ta' tl' tc']] wx fun e w' => ∃ v, e = .returned v ∧ Below wx.heap.size wx w' ∧ StrsAt w' v L0 := fun wx hx => (rvars_any _ t _ _ _ _ _ wx (Nat.le_refl _) HNN.out (HT.out.mono hx)).mono fun e w' ⟨v, h1, h2, h3⟩ => ⟨v, h1, h2, by obtain ⟨L, h4, h5, _⟩ := h3.out; rw [varsIs_unique HL0.out h5]; exact h4⟩
    have C11 : ∀ wx v u, Below W.heap.size W wx → StrsAt wx v L0 → StrsAt wx u L0 → Calls Try.prog 21 #[v, u] wx fun e w' => e = .returned (.bool true) ∧ Below W.heap.size W w' := fun wx v u hx hv hu => (rsameS_any v u _ _ wx hv hu).mono fun e w' h => ⟨by rw [h.1, eqL_refl], sl_trans hx h.2⟩
    have C12 : ∀ wx, Below W.heap.size W wx → Calls Try.prog 24 #[.agg #[.int .i64 tk, .int .i64 tn, .string tm, .slice ta tl tc, .slice ta' tl' tc']] wx fun e w' => e = .returned (.bool (decide (nodesT t ≤ 300))) ∧ Below W.heap.size W w' := fun wx hx => (pfits_any t _ _ _ _ _ wx (HT.out.mono hx)).mono fun e w' h => ⟨h.1, sl_trans hx h.2⟩
    have C13 : ∀ wx, Below W.heap.size W wx → Calls Try.prog 25 #[.agg #[.int .i64 tk, .int .i64 tn, .string tm, .slice ta tl tc, .slice ta' tl' tc']] wx fun e w' => e = .returned (.bool (decide (nodesT t ≤ 300))) ∧ Below W.heap.size W w' := fun wx hx => (rfits_any t _ _ _ _ _ wx (HT.out.mono hx) HNN.out).mono fun e w' h => ⟨h.1, sl_trans hx h.2⟩
    have CA : ∀ wx, Below W.heap.size W wx → Calls Try.prog 12 #[] wx fun e w' => e = .returned (.bool true) ∧ Below W.heap.size W w' := fun wx hx => (HA wx).mono fun e w' h => ⟨h.1, sl_trans hx h.2⟩
    generalize rightT varB risingB t = q1 at C1 C2
    generalize (nodesT t : Int) = q2 at C3 C4
    generalize (depthT t : Int) = q3 at C5 C6
    generalize hasT kd t = q4 at C7 C8
    generalize decide (nodesT t ≤ 300) = q5 at C12 C13
    clear HL0 HNN HT HA
    go_region_held3 (fun w' => (w'.cell? ⟨w.heap.size, 0, none⟩ = some (.int .i64 tk) ∧ w'.cell? ⟨w.heap.size, 1, none⟩ = some (.int .i64 tn) ∧ w'.cell? ⟨w.heap.size, 2, none⟩ = some (.string tm) ∧ w'.cell? ⟨w.heap.size, 3, none⟩ = some (.slice ta tl tc) ∧ w'.cell? ⟨w.heap.size, 4, none⟩ = some (.slice ta' tl' tc')))
      ((refine HS.out _ ?_; repeat (first | assumption | apply sl_drew | apply sl_alloc)))
      (first
        | (go_at_call 13; with_reducible refine Calls.mono (C1 _ (by repeat (first | assumption | apply sl_drew | apply sl_alloc))) ?_; rintro e wq ⟨rfl, hBq⟩)
        | (go_at_call 14; with_reducible refine Calls.mono (C2 _ (by repeat (first | assumption | apply sl_drew | apply sl_alloc))) ?_; rintro e wq ⟨rfl, hBq⟩)
        | (go_at_call 15; with_reducible refine Calls.mono (C3 _ (by repeat (first | assumption | apply sl_drew | apply sl_alloc))) ?_; rintro e wq ⟨rfl, hBq⟩)
        | (go_at_call 16; with_reducible refine Calls.mono (C4 _ (by repeat (first | assumption | apply sl_drew | apply sl_alloc))) ?_; rintro e wq ⟨rfl, hBq⟩)
        | (go_at_call 17; with_reducible refine Calls.mono (C5 _ (by repeat (first | assumption | apply sl_drew | apply sl_alloc))) ?_; rintro e wq ⟨rfl, hBq⟩)
        | (go_at_call 18; with_reducible refine Calls.mono (C6 _ (by repeat (first | assumption | apply sl_drew | apply sl_alloc))) ?_; rintro e wq ⟨rfl, hBq⟩)
        | (go_at_call 19; with_reducible refine Calls.mono (C7 _ (by repeat (first | assumption | apply sl_drew | apply sl_alloc))) ?_; rintro e wq ⟨rfl, hBq⟩)
        | (go_at_call 20; with_reducible refine Calls.mono (C8 _ (by repeat (first | assumption | apply sl_drew | apply sl_alloc))) ?_; rintro e wq ⟨rfl, hBq⟩)
        | (go_at_call 22; with_reducible refine Calls.mono (C9 _ (by repeat (first | assumption | apply sl_drew | apply sl_alloc))) ?_; rintro e wp ⟨vp, rfl, hbp, hvp⟩; have hBp : Below W.heap.size W wp := sl_trans (by repeat (first | assumption | apply sl_drew | apply sl_alloc)) hbp)
        | (go_at_call 23; with_reducible refine Calls.mono (C10 _ (by repeat (first | assumption | apply sl_drew | apply sl_alloc))) ?_; rintro e wr ⟨vr, rfl, hbr, hvr⟩; have hBr : Below W.heap.size W wr := sl_trans (by repeat (first | assumption | apply sl_drew | apply sl_alloc)) hbr)
        | (go_at_call 21; (first | (with_reducible refine Calls.mono (C11 _ _ _ hBr (hvp.mono hbr) hvr) ?_) | (with_reducible refine Calls.mono (C11 _ _ _ hBp hvp (hvr.mono hbp)) ?_)); rintro e wq ⟨rfl, hBq⟩)
        | (go_at_call 24; with_reducible refine Calls.mono (C12 _ (by repeat (first | assumption | apply sl_drew | apply sl_alloc))) ?_; rintro e wq ⟨rfl, hBq⟩)
        | (go_at_call 25; with_reducible refine Calls.mono (C13 _ (by repeat (first | assumption | apply sl_drew | apply sl_alloc))) ?_; rintro e wq ⟨rfl, hBq⟩)
        | (go_at_call 12; with_reducible refine Calls.mono (CA _ (by repeat (first | assumption | apply sl_drew | apply sl_alloc))) ?_; rintro e wq ⟨rfl, hBq⟩))
    all_goals
      go_wp2
      go_ret
      exact ⟨rfl, sl_trans HB0.out (by assumption)⟩
end Go.Proofs.Ytbfmaicoefefaaa
