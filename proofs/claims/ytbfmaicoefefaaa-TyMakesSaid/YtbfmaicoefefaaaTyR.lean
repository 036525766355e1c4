/- The document's own answers of layer 4: is a type right? (What a variable and a list of labels must be comes in as two contracts.) -/
import Derived.Test.YtbfmaicoefefaaaTyN
set_option linter.unusedSimpArgs false
set_option linter.unusedVariables false
namespace Go.Proofs.Ytbfmaicoefefaaa
open Go.RowKit Go.Deep Go.Sort
/-- What is asked of the fields of one node. -/
def headB (varB : ByteArray → Bool) (risB : List ByteArray → Bool) (k n : Int) (nm : ByteArray) (ls : List ByteArray) (len : Nat) : Bool :=
  if (¬ k = 6 ∧ ¬ nm.toList = []) ∨ (¬ k = 9 ∧ ¬ n = 0) ∨ (¬ k = 8 ∧ 0 < ls.length) then false
  else if 1 ≤ k ∧ k ≤ 5 then (len : Int) == 0
  else if k = 6 then varB nm && (len : Int) == 0
  else if k = 9 then decide (0 ≤ n) && (decide (n ≤ 1073741824) && (len : Int) == 0)
  else if k = 7 then (len : Int) == 2
  else decide (k = 8) && (risB ls && (ls.length : Int) == (len : Int))
mutual
def rightT (varB : ByteArray → Bool) (risB : List ByteArray → Bool) : Ty5 → Bool
  | .mk k n nm ls ks => rightL varB risB ks && headB varB risB k n nm ls ks.length
def rightL (varB : ByteArray → Bool) (risB : List ByteArray → Bool) : List Ty5 → Bool
  | [] => true
  | t :: r => rightT varB risB t && rightL varB risB r
end
section
variable {varB : ByteArray → Bool} {risB : List ByteArray → Bool}
theorem rightL_all : ∀ {ks : List Ty5}, (∀ j, j < ks.length → rightT varB risB (kAt ks j) = true) → rightL varB risB ks = true
  | [], _ => rfl
  | t :: r, h => by
    simp only [rightL, Bool.and_eq_true]
    exact ⟨h 0 (Nat.zero_lt_succ _), rightL_all fun j hj => h (j + 1) (Nat.succ_lt_succ hj)⟩
theorem rightL_mem : ∀ {ks : List Ty5} {t : Ty5}, rightL varB risB ks = true → t ∈ ks → rightT varB risB t = true
  | [], _, _, h => by simp at h
  | x :: r, t, h, ht => by
    simp only [rightL, Bool.and_eq_true] at h
    rcases List.mem_cons.1 ht with rfl | ht
    · exact h.1
    · exact rightL_mem h.2 ht
theorem rightL_not {ks : List Ty5} {j : Nat} (hj : j < ks.length) (h : rightT varB risB (kAt ks j) = false) : rightL varB risB ks = false := by
  rcases hq : rightL varB risB ks with _ | _
  · rfl
  · rw [rightL_mem hq (kAt_mem hj)] at h
    cases h
end
theorem ls_none {k : Int} {m : Nat} (h : (k != 8) = false ∨ ¬ 0 < m) (q : ¬ k = 8) : ¬ 0 < m := by
  rcases h with h | h
  · exact absurd (bne_eq_false_iff_eq.1 h) q
  · exact h
theorem StrsAt.form {w : World} {v : Value} {ss : List ByteArray} (h : StrsAt w v ss) : ss.length ≤ maxLen ∧ ∃ a cap, v = .slice a ss.length cap := by
  obtain ⟨_, hm, h⟩ := h
  refine ⟨hm, ?_⟩
  rcases h with ⟨a, cap, rfl, rfl⟩ | ⟨b, off, cap, rfl, _⟩
  · exact ⟨a, cap, rfl⟩
  · exact ⟨_, cap, rfl⟩
set_option maxRecDepth 20000 in
set_option maxHeartbeats 4000000 in
theorem rright_any (varB : ByteArray → Bool) (risB : List ByteArray → Bool)
    (HV : Asd (∀ (s : ByteArray) (w : World), s.size ≤ maxLen → Calls Try.prog 49 #[.string s] w fun e w' => e = .returned (.bool (varB s)) ∧ Below w.heap.size w w'))
    (HS : Asd (∀ (v : Value) (ss : List ByteArray) (w : World), StrsAt w v ss → Calls Try.prog 50 #[v] w fun e w' => e = .returned (.bool (risB ss)) ∧ Below w.heap.size w w')) :
    ∀ (f : Nat) (t : Ty5) (v0 v1 v2 v3 v4 : Value) (w : World), szT t ≤ f → TyIn w t v0 v1 v2 v3 v4 →
    Calls Try.prog 14 #[.agg #[v0, v1, v2, v3, v4]] w fun e w' => e = .returned (.bool (rightT varB risB t)) ∧ Below w.heap.size w w'
  | 0, t, _, _, _, _, _, _, h, _ => absurd (szT_pos t) (by omega)
  | f + 1, .mk k n nm ls ks, v0, v1, v2, v3, v4, w, hz, hT => by
    obtain ⟨rfl, rfl, ⟨rfl, hm⟩, hl, hk, h4⟩ := hT
    unfold maxLen at hk
    have hlf := hl.form
    obtain ⟨hlm, a3, cap3, rfl⟩ := hlf
    unfold maxLen at hlm
    obtain ⟨a4, cap4, rfl⟩ : ∃ a cap, v4 = .slice a ks.length cap := by
      rcases h4 with ⟨a, cap, rfl, rfl⟩ | ⟨b, off, cap, rfl, _⟩
      · exact ⟨a, cap, rfl⟩
      · exact ⟨_, cap, rfl⟩
    have IH := Asd.mk (rright_any varB risB HV HS f)
    have HZ := Asd.mk hz
    have HM := Asd.mk hm
    have HL := Asd.mk hl
    have H4 := Asd.mk h4
    clear hz hm hl h4
    go_enter Try.func14, Try.ntmps14
    go_wp2
    have Z : ∀ (i : Nat) (v : Value), (#[.int .i64 k, .int .i64 n, .string nm, .slice a3 ls.length cap3, .slice a4 ks.length cap4] : Array Value)[i]? = some v → (w.alloc (.cells #[.int .i64 k, .int .i64 n, .string nm, .slice a3 ls.length cap3, .slice a4 ks.length cap4] 25)).cell? ⟨w.heap.size, i, none⟩ = some v := fun i v h => alloc_at w #[.int .i64 k, .int .i64 n, .string nm, .slice a3 ls.length cap3, .slice a4 ks.length cap4] 25 i v h
    have B1 : Below w.heap.size w (w.alloc (.cells #[.int .i64 k, .int .i64 n, .string nm, .slice a3 ls.length cap3, .slice a4 ks.length cap4] 25)) := (Below.refl _ _).alloc (Nat.le_refl _) _
    generalize w.alloc (.cells #[.int .i64 k, .int .i64 n, .string nm, .slice a3 ls.length cap3, .slice a4 ks.length cap4] 25) = W at Z B1 ⊢
    have B1 := Asd.mk B1
    have Z0 := Asd.mk (Z 0 _ rfl)
    have Z1 := Asd.mk (Z 1 _ rfl)
    have Z2 := Asd.mk (Z 2 _ rfl)
    have Z3 := Asd.mk (Z 3 _ rfl)
    have Z4 := Asd.mk (Z 4 _ rfl)
    clear Z
    go_loopw [3] (fun i wr => ∃ j : Nat, j ≤ ks.length ∧ i = .int .i64 j ∧ (∀ q, q < j → rightT varB risB (kAt ks q) = true) ∧ Below W.heap.size W wr) (fun i _ => ks.length - (intOf i).toNat)
    case atStart => exact ⟨0, by omega, rfl, fun q hq => by omega, Below.refl _ _⟩
    case round =>
      obtain ⟨j, hj, rfl, hA, hb⟩ := hrel
      have HA := Asd.mk hA
      clear hA
      have z4 := cell_below hb Z4.out
      by_cases hlt : j < ks.length
      · rcases H4.out with ⟨_, _, _, e⟩ | ⟨b, off, cap, e, hr⟩
        · rw [e] at hlt
          exact absurd hlt (Nat.not_lt_zero _)
        obtain ⟨rfl, rfl⟩ : a4 = some ⟨b, off, none⟩ ∧ cap4 = cap := by simpa using e
        obtain ⟨x0, x1, x2, x3, x4, c0, c1, c2, c3, c4, ht⟩ := ((hr.mono B1.out).mono hb).at hlt
        have HT := Asd.mk ht
        have HB := Asd.mk hb
        clear ht hb hr e
        rcases Bool.eq_false_or_eq_true (rightT varB risB (kAt ks j)) with hh | hh
        · go_wp2_with (go_at_call 14; refine (IH.out (kAt ks j) _ _ _ _ _ _ (by have := HZ.out; have := szT_kid (k := k) (n := n) (nm := nm) (ls := ls) hlt; omega) HT.out).mono ?_; rintro e w2 ⟨rfl, hb2⟩)
          go_roundw
          case rel => exact ⟨j + 1, by omega, by go_num, fun q hq => by
            by_cases e : q = j
            · rw [e]; exact hh
            · exact HA.out q (by omega), HB.out.trans (hb2.mono HB.out.size)⟩
          case measure => simp [intOf]; omega
        · go_wp2_with (go_at_call 14; refine (IH.out (kAt ks j) _ _ _ _ _ _ (by have := HZ.out; have := szT_kid (k := k) (n := n) (nm := nm) (ls := ls) hlt; omega) HT.out).mono ?_; rintro e w2 ⟨rfl, hb2⟩)
          go_ret
          exact ⟨retB (by simp [rightT, rightL_not hlt hh]), B1.out.trans ((HB.out.trans (hb2.mono HB.out.size)).mono B1.out.size)⟩
      · have : j = ks.length := by omega
        subst this
        have HE : Asd (rightT varB risB (.mk k n nm ls ks) = headB varB risB k n nm ls ks.length) := ⟨by simp only [rightT]; rw [rightL_all HA.out, Bool.true_and]⟩
        have HB := Asd.mk hb
        have z0 := cell_below hb Z0.out
        have z1 := cell_below hb Z1.out
        have z2 := cell_below hb Z2.out
        have z3 := cell_below hb Z3.out
        have HHl := Asd.mk (fun W2 hB => HL.out.mono (w' := W2) hB)
        clear hb
        go_wp2_with (first
          | (go_at_call 49; refine (HV.out _ _ HM.out).mono ?_; rintro e w2 ⟨rfl, hb2⟩; have y4 := cell_below hb2 z4)
          | (go_at_call 50; refine (HS.out _ _ _ (HL.out.mono (B1.out.trans (HB.out.mono B1.out.size)))).mono ?_; rintro e w2 ⟨rfl, hb2⟩; have y3 := cell_below hb2 z3; have y4 := cell_below hb2 z4))
        all_goals go_ret
        all_goals clear HV HS IH HM HL H4 Z0 Z1 Z2 Z3 Z4 HHl HA
        all_goals refine ⟨retB ?_, ?_⟩
        any_goals (first | exact B1.out.trans (HB.out.mono B1.out.size) | exact B1.out.trans ((HB.out.trans (hb2.mono HB.out.size)).mono B1.out.size))
        all_goals first
          | rw [HE.out]
          | (have q9 : k = 9 := by assumption
             subst q9
             rw [HE.out])
          | (have qn : n = 0 := by assumption
             subst qn
             rw [HE.out])
        all_goals clear HE
        all_goals try (have h8 : ¬ 0 < ls.length := ls_none ‹(k != 8) = false ∨ ¬ 0 < ls.length› ‹¬ k = 8›)
        all_goals try (have h7 : k = 7 := beq_iff_eq.1 ‹(k == 7) = true›)
        all_goals try (have h7 : ¬ k = 7 := beq_eq_false_iff_ne.1 ‹(k == 7) = false›)
        all_goals try (have h5 : ¬ k ≤ 5 := by omega)
        all_goals try (have h1 : ¬ 1 ≤ k := by omega)
        all_goals simp [headB, *]
        all_goals try omega
end Go.Proofs.Ytbfmaicoefefaaa
