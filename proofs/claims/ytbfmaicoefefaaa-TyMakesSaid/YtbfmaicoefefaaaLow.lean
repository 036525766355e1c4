/- The small functions on bytes and runes: each answers what the plain test says. -/
import Derived.Test.YtbfmaicoefefaaaRows
import Derived.WalkKit
import Derived.ProofKit
import Derived.OpenShut
import Derived.Handy
import Derived.BigQuiet
import Derived.Deep.QuietTactic
import Derived.Lib.Hide
import Derived.Laws.RangeAny
import Derived.Lib.OthersKept
set_option linter.unusedSimpArgs false
set_option linter.unusedVariables false
namespace Go.Proofs.Ytbfmaicoefefaaa
open Go.RowKit
def lowB (c : Int) : Bool := decide (97 ≤ c) && decide (c ≤ 122)
def upB (c : Int) : Bool := decide (65 ≤ c) && decide (c ≤ 90)
def digB (c : Int) : Bool := decide (48 ≤ c) && decide (c ≤ 57)
def begunI (c : Int) : Int := if lowB c = true then 1 else if upB c = true then 2 else 0
def contB (k c : Int) : Bool := (k == 2 && upB c) || ((k == 1 || k == 2) && (lowB c || digB c))

theorem ret_bool {a b : Bool} (h : a = b) : Ending.returned (.bool a) = .returned (.bool b) := by rw [h]
theorem ret_int {k : IntKind} {a b : Int} (h : a = b) : Ending.returned (.int k a) = .returned (.int k b) := by rw [h]

theorem lower_any (c : Int) (w : World) : Calls Try.prog 128 #[.int .i32 c] w fun e w' => e = .returned (.bool (lowB c)) ∧ w = w' := by
  go_enter Try.func128, Try.ntmps128
  go_wp2
  all_goals go_ret
  all_goals exact ⟨ret_bool (by simp [lowB, *] <;> omega), rfl⟩
theorem upper_any (c : Int) (w : World) : Calls Try.prog 129 #[.int .i32 c] w fun e w' => e = .returned (.bool (upB c)) ∧ w = w' := by
  go_enter Try.func129, Try.ntmps129
  go_wp2
  all_goals go_ret
  all_goals exact ⟨ret_bool (by simp [upB, *] <;> omega), rfl⟩
theorem digit_any (c : Int) (w : World) : Calls Try.prog 130 #[.int .i32 c] w fun e w' => e = .returned (.bool (digB c)) ∧ w = w' := by
  go_enter Try.func130, Try.ntmps130
  go_wp2
  all_goals go_ret
  all_goals exact ⟨ret_bool (by simp [digB, *] <;> omega), rfl⟩
theorem begun_any (c : Int) (w : World) : Calls Try.prog 124 #[.int .i32 c] w fun e w' => e = .returned (.int .i64 (begunI c)) ∧ w = w' := by
  go_enter Try.func124, Try.ntmps124
  go_wp2_with (first | (go_at_call 128; refine (lower_any _ _).mono ?_; rintro e w' ⟨rfl, rfl⟩) | (go_at_call 129; refine (upper_any _ _).mono ?_; rintro e w' ⟨rfl, rfl⟩))
  all_goals go_ret
  all_goals exact ⟨ret_int (by simp [begunI, *]), rfl⟩
theorem continues_any (k c : Int) (w : World) : Calls Try.prog 125 #[.int .i64 k, .int .i32 c] w fun e w' => e = .returned (.bool (contB k c)) ∧ w = w' := by
  go_enter Try.func125, Try.ntmps125
  go_wp2_with (first | (go_at_call 128; refine (lower_any _ _).mono ?_; rintro e w' ⟨rfl, rfl⟩) | (go_at_call 129; refine (upper_any _ _).mono ?_; rintro e w' ⟨rfl, rfl⟩) | (go_at_call 130; refine (digit_any _ _).mono ?_; rintro e w' ⟨rfl, rfl⟩))
  all_goals go_ret
  all_goals exact ⟨ret_bool (by simp_all [contB]), rfl⟩
end Go.Proofs.Ytbfmaicoefefaaa
