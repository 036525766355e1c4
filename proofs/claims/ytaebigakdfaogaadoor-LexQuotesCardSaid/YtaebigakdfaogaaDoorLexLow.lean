/- The lexer's small functions on bytes: each answers what the plain test says. -/
import Derived.Test.YtaebigakdfaogaaDoorShape
import Derived.IntWalk
namespace Go.Proofs.YtaebigakdfaogaaDoor
open Go.RowKit
def letB (c : Int) : Bool := lowB c || upB c
def alnB (c : Int) : Bool := letB c || digB c
def plainB (c : Int) : Bool := decide (32 ≤ c) && decide (c ≤ 126)
def dgtI (b c : Int) : Int := if digB c = true then (if c - 48 < b then c - 48 else -1) else if lowB c = true then (if c - 97 + 10 < b then c - 97 + 10 else -1) else -1

theorem ldigit_any (c : Int) (w : World) : Calls Tryd.prog 23 #[.int .u8 c] w fun e w' => e = .returned (.bool (digB c)) ∧ w = w' := by
  go_enter Tryd.func23, Tryd.ntmps23
  go_wp2
  all_goals go_ret
  all_goals exact ⟨ret_bool (by simp [digB, *] <;> omega), rfl⟩
theorem lplain_any (c : Int) (w : World) : Calls Tryd.prog 39 #[.int .u8 c] w fun e w' => e = .returned (.bool (plainB c)) ∧ w = w' := by
  go_enter Tryd.func39, Tryd.ntmps39
  go_wp2
  all_goals go_ret
  all_goals exact ⟨ret_bool (by simp [plainB, *] <;> omega), rfl⟩
theorem lletter_any (c : Int) (w : World) : Calls Tryd.prog 25 #[.int .u8 c] w fun e w' => e = .returned (.bool (letB c)) ∧ w = w' := by
  go_enter Tryd.func25, Tryd.ntmps25
  go_wp2
  all_goals go_ret
  all_goals exact ⟨ret_bool (by simp [letB, lowB, upB, *] <;> omega), rfl⟩
theorem skip1_any (c : Int) (w : World) : Calls Tryd.prog 41 #[.int .u8 c] w fun e w' => e = .returned (.bool (c != 10)) ∧ w = w' := by
  go_enter Tryd.func41, Tryd.ntmps41
  go_wp2
  all_goals go_ret
  all_goals exact ⟨ret_bool (by simp [*]), rfl⟩
theorem word1_any (c : Int) (w : World) : Calls Tryd.prog 46 #[.int .u8 c] w fun e w' => e = .returned (.bool (alnB c)) ∧ w = w' := by
  go_enter Tryd.func46, Tryd.ntmps46
  go_wp2_with (first | (go_at_call 25; refine (lletter_any _ _).mono ?_; rintro e w' ⟨rfl, rfl⟩) | (go_at_call 23; refine (ldigit_any _ _).mono ?_; rintro e w' ⟨rfl, rfl⟩))
  all_goals go_ret
  all_goals exact ⟨ret_bool (by simp_all [alnB]), rfl⟩

theorem digits1_any (b c : Int) (k : Nat) (w : World) (h0 : 0 ≤ c) (h1 : c ≤ 255) (h : w.cell? ⟨k, 0, none⟩ = some (.int .i64 b)) :
    Calls Tryd.prog 60 #[.int .u8 c, .pointer (some ⟨k, 0, none⟩)] w fun e w' => e = .returned (.int .i64 (dgtI b c)) ∧ w = w' := by
  unfold dgtI
  rcases Bool.eq_false_or_eq_true (digB c) with hd | hd
  · have hd2 : 48 ≤ c ∧ c ≤ 57 := by simpa [digB] using hd
    obtain ⟨d1, d2⟩ := hd2
    by_cases hb : c - 48 < b
    all_goals
      simp only [hd, hb, if_true, if_false]
      go_enter Tryd.func60, Tryd.ntmps60
      go_wp2_with (go_at_call 23; refine (ldigit_any _ _).mono ?_; rintro e w' ⟨rfl, rfl⟩)
      go_ret
      exact ⟨rfl, rfl⟩
  · rcases Bool.eq_false_or_eq_true (lowB c) with hl | hl
    · have hl2 : 97 ≤ c ∧ c ≤ 122 := by simpa [lowB] using hl
      obtain ⟨d1, d2⟩ := hl2
      by_cases hb : c - 97 + 10 < b
      all_goals
        simp only [hd, hl, hb, if_true, if_false, Bool.false_eq_true]
        go_enter Tryd.func60, Tryd.ntmps60
        go_wp2_with (go_at_call 23; refine (ldigit_any _ _).mono ?_; rintro e w' ⟨rfl, rfl⟩)
        go_ret
        exact ⟨rfl, rfl⟩
    · have hl2 : ¬ (97 ≤ c ∧ c ≤ 122) := by simpa [lowB] using hl
      simp only [hd, hl, if_true, if_false, Bool.false_eq_true]
      by_cases hz : 97 ≤ c
      all_goals by_cases hb : -1 < b
      all_goals
        go_enter Tryd.func60, Tryd.ntmps60
        go_wp2_with (go_at_call 23; refine (ldigit_any _ _).mono ?_; rintro e w' ⟨rfl, rfl⟩)
        go_ret
        exact ⟨rfl, rfl⟩
theorem number1_any (c : Int) (j k : Nat) (w : World) (h0 : 0 ≤ c) (h1 : c ≤ 255) (h : w.cell? ⟨k, 0, none⟩ = some (.int .i64 10)) (hj : w.cell? ⟨j, 0, none⟩ = some (.func (.func 60) #[] #[.pointer (some ⟨k, 0, none⟩)])) :
    Calls Tryd.prog 43 #[.int .u8 c, .pointer (some ⟨j, 0, none⟩)] w fun e w' => e = .returned (.bool (digB c)) ∧ w = w' := by
  have hz : digB c = decide (0 ≤ dgtI 10 c) := by
    unfold dgtI
    rcases Bool.eq_false_or_eq_true (digB c) with hd | hd
    · have hd2 : 48 ≤ c ∧ c ≤ 57 := by simpa [digB] using hd
      simp [hd]; rw [if_pos (by omega)]; omega
    · rcases Bool.eq_false_or_eq_true (lowB c) with hl | hl
      · have hl2 : 97 ≤ c ∧ c ≤ 122 := by simpa [lowB] using hl
        simp [hd, hl]; rw [if_neg (by omega)]; omega
      · simp [hd, hl]
  rw [hz]
  clear hz
  go_enter Tryd.func43, Tryd.ntmps43
  go_wp2_with fail
  refine (digits1_any 10 c k _ h0 h1 h).mono ?_
  rintro e w' ⟨rfl, rfl⟩
  go_wp2_with fail
  all_goals go_ret
  all_goals exact ⟨ret_bool (by simp [*]), rfl⟩
theorem digits_any (b : Int) (w : World) : Calls Tryd.prog 42 #[.int .i64 b] w fun e w' => e = .returned (.func (.func 60) #[] #[.pointer (some ⟨w.heap.size, 0, none⟩)]) ∧ w.alloc (.cells #[.int .i64 b] 3) = w' := by
  have hmf : ∀ (fn : Fn) (first cap : Array Value) (w : World), (Instr.makeFunc fn first cap).run Tryd.prog w = .ok (.func fn first cap) w := fun _ _ _ _ => rfl
  go_enter Tryd.func42, Tryd.ntmps42
  go_wp2
  go_ret
  exact ⟨rfl, rfl⟩
end Go.Proofs.YtaebigakdfaogaaDoor
