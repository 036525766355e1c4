/- ty.sound: what is asked of one node; ty.Right. -/
import Derived.Test.YtbfmaicoefefaaaTyH
import Derived.Test.YtbfmaicoefefaaaTyR
import Derived.Test.YtbfmaicoefefaaaStrs
set_option linter.unusedSimpArgs false
set_option linter.unusedVariables false
namespace Go.Proofs.Ytbfmaicoefefaaa
open Go.RowKit Go.Deep Go.Sort
def headT : Ty5 → Bool
  | .mk k n nm ls ks => headB varB risingB k n nm ls ks.length
set_option maxRecDepth 20000 in
set_option maxHeartbeats 4000000 in
theorem sound_any (k n : Int) (nm : ByteArray) (ls : List ByteArray) (len : Nat) (a3 : Option Addr) (cap3 : Nat) (a4 : Option Addr) (cap4 : Nat) (w : World)
    (hm : nm.size ≤ maxLen) (hl : StrsAt w (.slice a3 ls.length cap3) ls) (hk : len ≤ maxLen) :
    Calls Try.prog 48 #[.agg #[.int .i64 k, .int .i64 n, .string nm, .slice a3 ls.length cap3, .slice a4 len cap4]] w fun e w' =>
      e = .returned (.bool (headB varB risingB k n nm ls len)) ∧ Below w.heap.size w w' := by
  have hlm := hl.2.1
  unfold maxLen at hk hlm
  have hB1 : Below w.heap.size w (w.alloc (.cells #[.int .i64 k, .int .i64 n, .string nm, .slice a3 ls.length cap3, .slice a4 len cap4] 25)) := (Below.refl _ _).alloc (Nat.le_refl _) _
  have hbox : (w.alloc (.cells #[.int .i64 k, .int .i64 n, .string nm, .slice a3 ls.length cap3, .slice a4 len cap4] 25)).heap[w.heap.size]? = some (.cells #[.int .i64 k, .int .i64 n, .string nm, .slice a3 ls.length cap3, .slice a4 len cap4] 25 (0, 0)) := World.alloc_heap_new w _
  have hsz : (w.alloc (.cells #[.int .i64 k, .int .i64 n, .string nm, .slice a3 ls.length cap3, .slice a4 len cap4] 25)).heap.size = w.heap.size + 1 := by simp
  have HM := Asd.mk hm
  have HL := Asd.mk (hl.mono hB1)
  have HB1 := Asd.mk hB1
  have HX := Asd.mk hbox
  have HZ := Asd.mk hsz
  clear hm hl hB1 hbox hsz
  by_cases h5 : k = 1 ∨ k = 2 ∨ k = 3 ∨ k = 4 ∨ k = 5
  · have HE : Asd (headB varB risingB k n nm ls len = decide (n = 0 ∧ nm.toList = [] ∧ ls.length = 0 ∧ len = 0)) := ⟨by
      have h6 : ¬ k = 6 := by omega
      have h9 : ¬ k = 9 := by omega
      have h8 : ¬ k = 8 := by omega
      have hk1 : 1 ≤ k ∧ k ≤ 5 := by omega
      unfold headB
      rw [if_pos hk1]
      simp only [h6, h9, h8, not_false_eq_true, true_and]
      by_cases hn : n = 0 <;> by_cases hs : nm.toList = [] <;> by_cases hq : ls.length = 0 <;> by_cases hc : len = 0 <;> simp [hn, hs, hq, hc] <;> omega⟩
    rcases h5 with rfl | rfl | rfl | rfl | rfl
    all_goals
      go_enter Try.func48, Try.ntmps48
      go_wp2
      all_goals go_ret
      all_goals (refine ⟨retB ?_, by go_grown⟩; rw [HE.out])
      all_goals clear HE HL HX HZ HB1 HM
      all_goals simp_all
      all_goals try (rw [Bool.eq_iff_iff]; simp)
  by_cases h6 : k = 6
  · subst h6
    have HE : Asd (headB varB risingB 6 n nm ls len = (varB nm && decide (n = 0 ∧ ls.length = 0 ∧ len = 0))) := ⟨by
      unfold headB
      by_cases hn : n = 0 <;> by_cases hq : ls.length = 0 <;> by_cases hc : len = 0 <;> simp [hn, hq, hc] <;> omega⟩
    go_enter Try.func48, Try.ntmps48
    rcases Bool.eq_false_or_eq_true (varB nm) with hv | hv
    all_goals
      go_wp2_with (go_at_call 77; refine (var_any _ _ HM.out).mono ?_; rintro e w2 ⟨rfl, hb2⟩; rw [hv]; have hx := (hb2.block w.heap.size (by have := HZ.out; omega)).trans HX.out; have y2 := box_cell (i := 2) hx rfl; have y1 := box_cell (i := 1) hx rfl; have y3 := box_cell (i := 3) hx rfl; have y4 := box_cell (i := 4) hx rfl; have f2 : w2.frozen? ⟨w.heap.size, 2, none⟩ = false := by simp [World.frozen?, hx])
      all_goals go_ret
      all_goals refine ⟨retB ?_, (HB1.out.trans (hb2.mono HB1.out.size)).setCell (p := ⟨w.heap.size, 2, none⟩) (Nat.le_refl _) _⟩
      all_goals (rw [HE.out, hv]; clear HE HL HX HZ HB1 HM hx y1 y2 y3 y4 f2 hb2)
      all_goals simp_all
      all_goals try (rw [Bool.eq_iff_iff]; simp)
  by_cases h9 : k = 9
  · subst h9
    have HE : Asd (headB varB risingB 9 n nm ls len = decide (0 ≤ n ∧ n ≤ 1073741824 ∧ nm.toList = [] ∧ ls.length = 0 ∧ len = 0)) := ⟨by
      unfold headB
      by_cases hn : 0 ≤ n <;> by_cases hn' : n ≤ 1073741824 <;> by_cases hs : nm.toList = [] <;> by_cases hq : ls.length = 0 <;> by_cases hc : len = 0 <;> simp [hn, hn', hs, hq, hc] <;> omega⟩
    go_enter Try.func48, Try.ntmps48
    go_wp2
    all_goals go_ret
    all_goals (refine ⟨retB ?_, by go_grown⟩; rw [HE.out])
    all_goals clear HE HL HX HZ HB1 HM
    all_goals simp_all
    all_goals try (rw [Bool.eq_iff_iff]; simp)
    all_goals try omega
  by_cases h7 : k = 7
  · subst h7
    have HE : Asd (headB varB risingB 7 n nm ls len = decide (len = 2 ∧ n = 0 ∧ nm.toList = [] ∧ ls.length = 0)) := ⟨by
      unfold headB
      by_cases hn : n = 0 <;> by_cases hs : nm.toList = [] <;> by_cases hq : ls.length = 0 <;> by_cases hc : len = 2 <;> simp [hn, hs, hq, hc] <;> omega⟩
    go_enter Try.func48, Try.ntmps48
    go_wp2
    all_goals go_ret
    all_goals (refine ⟨retB ?_, by go_grown⟩; rw [HE.out])
    all_goals clear HE HL HX HZ HB1 HM
    all_goals simp_all
    all_goals try (rw [Bool.eq_iff_iff]; simp)
    all_goals try omega
  by_cases h8 : k = 8
  · subst h8
    have HE : Asd (headB varB risingB 8 n nm ls len = (decide (ls.length = len) && (risingB ls && decide (n = 0 ∧ nm.toList = [])))) := ⟨by
      unfold headB
      by_cases hn : n = 0 <;> by_cases hs : nm.toList = [] <;> by_cases hc : ls.length = len <;> simp [hn, hs, hc] <;> omega⟩
    by_cases hc : ls.length = len
    · subst hc
      go_enter Try.func48, Try.ntmps48
      rcases Bool.eq_false_or_eq_true (risingB ls) with hv | hv
      all_goals
        go_wp2_with (go_at_call 58; refine (rising_any _ _ _ HL.out).mono ?_; rintro e w2 ⟨rfl, hb2⟩; rw [hv]; have hx := (hb2.block w.heap.size (by have := HZ.out; omega)).trans HX.out; have y2 := box_cell (i := 2) hx rfl; have y1 := box_cell (i := 1) hx rfl; have y3 := box_cell (i := 3) hx rfl; have y4 := box_cell (i := 4) hx rfl; have f3 : w2.frozen? ⟨w.heap.size, 3, none⟩ = false := (by simp [World.frozen?, hx]); have f4 : w2.frozen? ⟨w.heap.size, 4, none⟩ = false := by simp [World.frozen?, hx])
        all_goals go_ret
        all_goals refine ⟨retB ?_, ((HB1.out.trans (hb2.mono HB1.out.size)).setCell (p := ⟨w.heap.size, 3, none⟩) (Nat.le_refl _) _).setCell (p := ⟨w.heap.size, 4, none⟩) (Nat.le_refl _) _⟩
        all_goals (rw [HE.out, hv]; clear HE HL HX HZ HB1 HM hx y1 y2 y3 y4 f3 f4 hb2)
        all_goals simp_all
        all_goals try (rw [Bool.eq_iff_iff]; simp)
    · go_enter Try.func48, Try.ntmps48
      go_wp2
      all_goals go_ret
      all_goals (refine ⟨retB ?_, by go_grown⟩; rw [HE.out])
      all_goals clear HE HL HX HZ HB1 HM
      all_goals simp_all
  have HE : Asd (headB varB risingB k n nm ls len = false) := ⟨by
    unfold headB
    have h1 : ¬ (1 ≤ k ∧ k ≤ 5) := by omega
    rw [if_neg h1]
    simp [h6, h9, h7, h8]⟩
  have h1 : ¬ k = 1 := by omega
  have h2 : ¬ k = 2 := by omega
  have h3 : ¬ k = 3 := by omega
  have h4 : ¬ k = 4 := by omega
  have h5' : ¬ k = 5 := by omega
  go_enter Try.func48, Try.ntmps48
  go_wp2
  all_goals go_ret
  all_goals (refine ⟨retB ?_, by go_grown⟩; rw [HE.out])
end Go.Proofs.Ytbfmaicoefefaaa
