/- The document's own answers of layer 1: limbeckref01. -/
import Derived.Test.YtbfmaicoefefaaaRefKept
set_option linter.unusedSimpArgs false
set_option linter.unusedVariables false
namespace Go.Proofs.Ytbfmaicoefefaaa
open Go.RowKit
theorem rlow_any (c : Int) (w : World) : Calls Try.prog 92 #[.int .u8 c] w fun e w' => e = .returned (.bool (lowB c)) ∧ w = w' := by
  go_enter Try.func92, Try.ntmps92
  go_wp2
  all_goals go_ret
  all_goals exact ⟨ret_bool (by simp [lowB, *] <;> omega), rfl⟩
theorem rup_any (c : Int) (w : World) : Calls Try.prog 93 #[.int .u8 c] w fun e w' => e = .returned (.bool (upB c)) ∧ w = w' := by
  go_enter Try.func93, Try.ntmps93
  go_wp2
  all_goals go_ret
  all_goals exact ⟨ret_bool (by simp [upB, *] <;> omega), rfl⟩
theorem rdigit_any (c : Int) (w : World) : Calls Try.prog 94 #[.int .u8 c] w fun e w' => e = .returned (.bool (digB c)) ∧ w = w' := by
  go_enter Try.func94, Try.ntmps94
  go_wp2
  all_goals go_ret
  all_goals exact ⟨ret_bool (by simp [digB, *] <;> omega), rfl⟩

theorem shapeAt_skip {s : ByteArray} {pos : Nat} (h : ShapeAt s pos 0) (h0 : 0 < pos) : ShapeAt s (pos + 1) 0 := by
  rcases h with ⟨rfl, _⟩ | ⟨_, a, r, hl, hk, _⟩
  · omega
  · exact .inr ⟨by omega, a, r, hl, hk, .inl rfl⟩
theorem up_not_low (c : Int) (h : lowB c = true) : upB c = false := by
  simp [lowB] at h; simp [upB]; omega

set_option maxHeartbeats 1000000 in
theorem rkind_any (s : ByteArray) (w : World) (hs : s.size ≤ maxLen) :
    Calls Try.prog 78 #[.string s] w fun e w' => e = .returned (.int .i64 (kindI s.data.toList)) ∧ Below w.heap.size w w' := by
  unfold maxLen at hs
  have hl := size_list s
  by_cases hk : keptI s.data.toList = 0
  · have hkk : (keptI s.data.toList != 0) = false := by rw [hk]; rfl
    by_cases h8 : 8 < s.size
    · have HF : Hid (kindI s.data.toList = 0) := by show kindI _ = 0; simp only [kindI]; rw [if_pos hk, if_pos (by omega)]
      clear hk
      go_enter Try.func78, Try.ntmps78
      go_wp2_with (go_at_call 91; refine (rkept_any _ _).mono ?_; rintro e w1 ⟨rfl, hb1⟩)
      go_ret
      exact ⟨ret_int HF.out.symm, hb1⟩
    · by_cases h1 : s.size < 1
      · have HF : Hid (kindI s.data.toList = 0) := by
          have : s.data.toList = [] := List.eq_nil_of_length_eq_zero (by omega)
          show kindI _ = 0
          rw [this]; rfl
        clear hk
        go_enter Try.func78, Try.ntmps78
        go_wp2_with (go_at_call 91; refine (rkept_any _ _).mono ?_; rintro e w1 ⟨rfl, hb1⟩)
        go_ret
        exact ⟨ret_int HF.out.symm, hb1⟩
      · have HF : Hid (kindI s.data.toList = shapeI s.data.toList) := by simp only [kindI]; rw [if_pos hk, if_neg (by omega)]; exact rfl
        have hp0 : 0 < s.size := by omega
        have hz : ShapeAt s 1 (begunI ((s[0]'hp0).toNat : Int)) := shapeAt_zero hp0 1 (Nat.le_refl _) _ (.inl ⟨rfl, rfl⟩)
        have hkind : Hid (begunI ((s[0]'hp0).toNat : Int) = if lowB ((s[0]'hp0).toNat : Int) = true then 1 else if upB ((s[0]'hp0).toNat : Int) = true then 2 else 0) := rfl
        have hnot := up_not_low ((s[0]'hp0).toNat : Int)
        have HN := Lib.hid hnot
        clear hk hnot
        rcases Bool.eq_false_or_eq_true (lowB ((s[0]'hp0).toNat : Int)) with hw0 | hw0
        · skip
          have hu0 : upB ((s[0]'hp0).toNat : Int) = false := HN.out hw0
          have HZ : Hid (ShapeAt s 1 1) := by have h : begunI ((s[0]'hp0).toNat : Int) = 1 := by rw [hkind.out, if_pos hw0]
                                              rw [h] at hz; exact hz
          clear hz hkind
          go_enter Try.func78, Try.ntmps78
          go_wp2_with (first
                      | (go_at_call 91; refine (rkept_any _ _).mono ?_; rintro e w1 ⟨rfl, hb1⟩)
                      | (go_at_call 92; refine (rlow_any _ _).mono ?_; rintro e w1 ⟨rfl, rfl⟩)
                      | (go_at_call 93; refine (rup_any _ _).mono ?_; rintro e w1 ⟨rfl, rfl⟩)
                      | (go_at_call 94; refine (rdigit_any _ _).mono ?_; rintro e w1 ⟨rfl, rfl⟩))
          go_loop [5] (fun i => ∃ k : Nat, 1 ≤ k ∧ k ≤ s.size ∧ i = .int .i64 k ∧ ShapeAt s k 1) (fun i => s.size - (intOf i).toNat)
          case atStart => exact ⟨1, by omega, by omega, rfl, HZ.out⟩
          case round =>
            obtain ⟨k, hk1, hk, rfl, hsh⟩ := hrel
            have HS := Lib.hid hsh
            clear hsh
            by_cases hlt : k < s.size
            · skip
              rcases Bool.eq_false_or_eq_true (digB ((s[k]'hlt).toNat : Int)) with hd | hd
              · skip
                go_wp2_with (first
                            | (go_at_call 91; refine (rkept_any _ _).mono ?_; rintro e w1 ⟨rfl, hb1⟩)
                            | (go_at_call 92; refine (rlow_any _ _).mono ?_; rintro e w1 ⟨rfl, rfl⟩)
                            | (go_at_call 93; refine (rup_any _ _).mono ?_; rintro e w1 ⟨rfl, rfl⟩)
                            | (go_at_call 94; refine (rdigit_any _ _).mono ?_; rintro e w1 ⟨rfl, rfl⟩))
                go_round
                case rel => exact ⟨k + 1, by omega, by omega, by go_num, by have h := HS.out; exact shapeAt_step h hlt (by omega) (by simp [contB, *])⟩
                case measure => simp [intOf]; omega
              rcases Bool.eq_false_or_eq_true (lowB ((s[k]'hlt).toNat : Int)) with hw | hw
              · skip
                go_wp2_with (first
                            | (go_at_call 91; refine (rkept_any _ _).mono ?_; rintro e w1 ⟨rfl, hb1⟩)
                            | (go_at_call 92; refine (rlow_any _ _).mono ?_; rintro e w1 ⟨rfl, rfl⟩)
                            | (go_at_call 93; refine (rup_any _ _).mono ?_; rintro e w1 ⟨rfl, rfl⟩)
                            | (go_at_call 94; refine (rdigit_any _ _).mono ?_; rintro e w1 ⟨rfl, rfl⟩))
                go_round
                case rel => exact ⟨k + 1, by omega, by omega, by go_num, by have h := HS.out; exact shapeAt_step h hlt (by omega) (by simp [contB, *])⟩
                case measure => simp [intOf]; omega
              rcases Bool.eq_false_or_eq_true (upB ((s[k]'hlt).toNat : Int)) with hu | hu
              · skip
                go_wp2_with (first
                            | (go_at_call 91; refine (rkept_any _ _).mono ?_; rintro e w1 ⟨rfl, hb1⟩)
                            | (go_at_call 92; refine (rlow_any _ _).mono ?_; rintro e w1 ⟨rfl, rfl⟩)
                            | (go_at_call 93; refine (rup_any _ _).mono ?_; rintro e w1 ⟨rfl, rfl⟩)
                            | (go_at_call 94; refine (rdigit_any _ _).mono ?_; rintro e w1 ⟨rfl, rfl⟩))
                go_ret
                exact ⟨ret_int (HF.out.trans (shapeAt_bad HS.out hlt (by omega) (.inl (by simp [contB, *])))).symm, hb1⟩
              go_wp2_with (first
                          | (go_at_call 91; refine (rkept_any _ _).mono ?_; rintro e w1 ⟨rfl, hb1⟩)
                          | (go_at_call 92; refine (rlow_any _ _).mono ?_; rintro e w1 ⟨rfl, rfl⟩)
                          | (go_at_call 93; refine (rup_any _ _).mono ?_; rintro e w1 ⟨rfl, rfl⟩)
                          | (go_at_call 94; refine (rdigit_any _ _).mono ?_; rintro e w1 ⟨rfl, rfl⟩))
              go_ret
              exact ⟨ret_int (HF.out.trans (shapeAt_bad HS.out hlt (by omega) (.inl (by simp [contB, *])))).symm, hb1⟩
            · have hke : k = s.size := by omega
              have HE := Lib.hid (HF.out.trans (shapeAt_end HS.out (by omega)).symm)
              clear HS
              subst hke
              go_wp2
              go_ret
              exact ⟨ret_int HE.out.symm, hb1⟩
        rcases Bool.eq_false_or_eq_true (upB ((s[0]'hp0).toNat : Int)) with hu0 | hu0
        · skip
          have HZ : Hid (ShapeAt s 1 2) := by have h : begunI ((s[0]'hp0).toNat : Int) = 2 := by rw [hkind.out, if_neg (by rw [hw0]; exact Bool.false_ne_true), if_pos hu0]
                                              rw [h] at hz; exact hz
          clear hz hkind
          go_enter Try.func78, Try.ntmps78
          go_wp2_with (first
                      | (go_at_call 91; refine (rkept_any _ _).mono ?_; rintro e w1 ⟨rfl, hb1⟩)
                      | (go_at_call 92; refine (rlow_any _ _).mono ?_; rintro e w1 ⟨rfl, rfl⟩)
                      | (go_at_call 93; refine (rup_any _ _).mono ?_; rintro e w1 ⟨rfl, rfl⟩)
                      | (go_at_call 94; refine (rdigit_any _ _).mono ?_; rintro e w1 ⟨rfl, rfl⟩))
          go_loop [5] (fun i => ∃ k : Nat, 1 ≤ k ∧ k ≤ s.size ∧ i = .int .i64 k ∧ ShapeAt s k 2) (fun i => s.size - (intOf i).toNat)
          case atStart => exact ⟨1, by omega, by omega, rfl, HZ.out⟩
          case round =>
            obtain ⟨k, hk1, hk, rfl, hsh⟩ := hrel
            have HS := Lib.hid hsh
            clear hsh
            by_cases hlt : k < s.size
            · skip
              rcases Bool.eq_false_or_eq_true (digB ((s[k]'hlt).toNat : Int)) with hd | hd
              · skip
                go_wp2_with (first
                            | (go_at_call 91; refine (rkept_any _ _).mono ?_; rintro e w1 ⟨rfl, hb1⟩)
                            | (go_at_call 92; refine (rlow_any _ _).mono ?_; rintro e w1 ⟨rfl, rfl⟩)
                            | (go_at_call 93; refine (rup_any _ _).mono ?_; rintro e w1 ⟨rfl, rfl⟩)
                            | (go_at_call 94; refine (rdigit_any _ _).mono ?_; rintro e w1 ⟨rfl, rfl⟩))
                go_round
                case rel => exact ⟨k + 1, by omega, by omega, by go_num, by have h := HS.out; exact shapeAt_step h hlt (by omega) (by simp [contB, *])⟩
                case measure => simp [intOf]; omega
              rcases Bool.eq_false_or_eq_true (lowB ((s[k]'hlt).toNat : Int)) with hw | hw
              · skip
                go_wp2_with (first
                            | (go_at_call 91; refine (rkept_any _ _).mono ?_; rintro e w1 ⟨rfl, hb1⟩)
                            | (go_at_call 92; refine (rlow_any _ _).mono ?_; rintro e w1 ⟨rfl, rfl⟩)
                            | (go_at_call 93; refine (rup_any _ _).mono ?_; rintro e w1 ⟨rfl, rfl⟩)
                            | (go_at_call 94; refine (rdigit_any _ _).mono ?_; rintro e w1 ⟨rfl, rfl⟩))
                go_round
                case rel => exact ⟨k + 1, by omega, by omega, by go_num, by have h := HS.out; exact shapeAt_step h hlt (by omega) (by simp [contB, *])⟩
                case measure => simp [intOf]; omega
              rcases Bool.eq_false_or_eq_true (upB ((s[k]'hlt).toNat : Int)) with hu | hu
              · skip
                go_wp2_with (first
                            | (go_at_call 91; refine (rkept_any _ _).mono ?_; rintro e w1 ⟨rfl, hb1⟩)
                            | (go_at_call 92; refine (rlow_any _ _).mono ?_; rintro e w1 ⟨rfl, rfl⟩)
                            | (go_at_call 93; refine (rup_any _ _).mono ?_; rintro e w1 ⟨rfl, rfl⟩)
                            | (go_at_call 94; refine (rdigit_any _ _).mono ?_; rintro e w1 ⟨rfl, rfl⟩))
                go_round
                case rel => exact ⟨k + 1, by omega, by omega, by go_num, by have h := HS.out; exact shapeAt_step h hlt (by omega) (by simp [contB, *])⟩
                case measure => simp [intOf]; omega
              go_wp2_with (first
                          | (go_at_call 91; refine (rkept_any _ _).mono ?_; rintro e w1 ⟨rfl, hb1⟩)
                          | (go_at_call 92; refine (rlow_any _ _).mono ?_; rintro e w1 ⟨rfl, rfl⟩)
                          | (go_at_call 93; refine (rup_any _ _).mono ?_; rintro e w1 ⟨rfl, rfl⟩)
                          | (go_at_call 94; refine (rdigit_any _ _).mono ?_; rintro e w1 ⟨rfl, rfl⟩))
              go_ret
              exact ⟨ret_int (HF.out.trans (shapeAt_bad HS.out hlt (by omega) (.inl (by simp [contB, *])))).symm, hb1⟩
            · have hke : k = s.size := by omega
              have HE := Lib.hid (HF.out.trans (shapeAt_end HS.out (by omega)).symm)
              clear HS
              subst hke
              go_wp2
              go_ret
              exact ⟨ret_int HE.out.symm, hb1⟩
        · skip
          have HZ : Hid (ShapeAt s 1 0) := by have h : begunI ((s[0]'hp0).toNat : Int) = 0 := by rw [hkind.out, if_neg (by rw [hw0]; exact Bool.false_ne_true), if_neg (by rw [hu0]; exact Bool.false_ne_true)]
                                              rw [h] at hz; exact hz
          clear hz hkind
          go_enter Try.func78, Try.ntmps78
          go_wp2_with (first
                      | (go_at_call 91; refine (rkept_any _ _).mono ?_; rintro e w1 ⟨rfl, hb1⟩)
                      | (go_at_call 92; refine (rlow_any _ _).mono ?_; rintro e w1 ⟨rfl, rfl⟩)
                      | (go_at_call 93; refine (rup_any _ _).mono ?_; rintro e w1 ⟨rfl, rfl⟩)
                      | (go_at_call 94; refine (rdigit_any _ _).mono ?_; rintro e w1 ⟨rfl, rfl⟩))
          go_loop [5] (fun i => ∃ k : Nat, 1 ≤ k ∧ k ≤ s.size ∧ i = .int .i64 k ∧ ShapeAt s k 0) (fun i => s.size - (intOf i).toNat)
          case atStart => exact ⟨1, by omega, by omega, rfl, HZ.out⟩
          case round =>
            obtain ⟨k, hk1, hk, rfl, hsh⟩ := hrel
            have HS := Lib.hid hsh
            clear hsh
            by_cases hlt : k < s.size
            · skip
              rcases Bool.eq_false_or_eq_true (digB ((s[k]'hlt).toNat : Int)) with hd | hd
              · skip
                go_wp2_with (first
                            | (go_at_call 91; refine (rkept_any _ _).mono ?_; rintro e w1 ⟨rfl, hb1⟩)
                            | (go_at_call 92; refine (rlow_any _ _).mono ?_; rintro e w1 ⟨rfl, rfl⟩)
                            | (go_at_call 93; refine (rup_any _ _).mono ?_; rintro e w1 ⟨rfl, rfl⟩)
                            | (go_at_call 94; refine (rdigit_any _ _).mono ?_; rintro e w1 ⟨rfl, rfl⟩))
                go_round
                case rel => exact ⟨k + 1, by omega, by omega, by go_num, shapeAt_skip HS.out (by omega)⟩
                case measure => simp [intOf]; omega
              rcases Bool.eq_false_or_eq_true (lowB ((s[k]'hlt).toNat : Int)) with hw | hw
              · skip
                go_wp2_with (first
                            | (go_at_call 91; refine (rkept_any _ _).mono ?_; rintro e w1 ⟨rfl, hb1⟩)
                            | (go_at_call 92; refine (rlow_any _ _).mono ?_; rintro e w1 ⟨rfl, rfl⟩)
                            | (go_at_call 93; refine (rup_any _ _).mono ?_; rintro e w1 ⟨rfl, rfl⟩)
                            | (go_at_call 94; refine (rdigit_any _ _).mono ?_; rintro e w1 ⟨rfl, rfl⟩))
                go_round
                case rel => exact ⟨k + 1, by omega, by omega, by go_num, shapeAt_skip HS.out (by omega)⟩
                case measure => simp [intOf]; omega
              rcases Bool.eq_false_or_eq_true (upB ((s[k]'hlt).toNat : Int)) with hu | hu
              · skip
                go_wp2_with (first
                            | (go_at_call 91; refine (rkept_any _ _).mono ?_; rintro e w1 ⟨rfl, hb1⟩)
                            | (go_at_call 92; refine (rlow_any _ _).mono ?_; rintro e w1 ⟨rfl, rfl⟩)
                            | (go_at_call 93; refine (rup_any _ _).mono ?_; rintro e w1 ⟨rfl, rfl⟩)
                            | (go_at_call 94; refine (rdigit_any _ _).mono ?_; rintro e w1 ⟨rfl, rfl⟩))
                go_round
                case rel => exact ⟨k + 1, by omega, by omega, by go_num, shapeAt_skip HS.out (by omega)⟩
                case measure => simp [intOf]; omega
              go_wp2_with (first
                          | (go_at_call 91; refine (rkept_any _ _).mono ?_; rintro e w1 ⟨rfl, hb1⟩)
                          | (go_at_call 92; refine (rlow_any _ _).mono ?_; rintro e w1 ⟨rfl, rfl⟩)
                          | (go_at_call 93; refine (rup_any _ _).mono ?_; rintro e w1 ⟨rfl, rfl⟩)
                          | (go_at_call 94; refine (rdigit_any _ _).mono ?_; rintro e w1 ⟨rfl, rfl⟩))
              go_ret
              exact ⟨ret_int (HF.out.trans (shapeAt_bad HS.out hlt (by omega) (.inr rfl))).symm, hb1⟩
            · have hke : k = s.size := by omega
              have HE := Lib.hid (HF.out.trans (shapeAt_end HS.out (by omega)).symm)
              clear HS
              subst hke
              go_wp2
              go_ret
              exact ⟨ret_int HE.out.symm, hb1⟩
  · have hkk : (keptI s.data.toList != 0) = true := by simp [hk]
    have HF : Hid (kindI s.data.toList = keptI s.data.toList) := by show kindI _ = _; simp [kindI, hk]
    clear hk
    go_enter Try.func78, Try.ntmps78
    go_wp2_with (go_at_call 91; refine (rkept_any _ _).mono ?_; rintro e w1 ⟨rfl, hb1⟩)
    go_ret
    exact ⟨ret_int HF.out.symm, hb1⟩
end Go.Proofs.Ytbfmaicoefefaaa
