/- The document's own answers of layer 1: limbeckref01. -/
import Derived.Test.YtbfmaicoefefaaaStrs
set_option linter.unusedSimpArgs false
set_option linter.unusedVariables false
namespace Go.Proofs.Ytbfmaicoefefaaa
open Go.RowKit
set_option maxHeartbeats 4000000 in
theorem rkept_any (s : ByteArray) (w : World) :
    Calls Try.prog 91 #[.string s] w fun e w' => e = .returned (.int .i64 (keptI s.data.toList)) ∧ Below w.heap.size w w' := by
  rcases Bool.eq_false_or_eq_true (s.toList == [108, 101, 116]) with h0 | h0
  · have g0 : ([108, 101, 116] == s.toList) = true := by rw [beq_turn]; exact h0
    go_enter Try.func91, Try.ntmps91
    go_wp2
    go_rounds 1
    go_ret
    exact ⟨ret_int (by rw [ByteArray.toList_eq] at *; simp [keptI, *]), by go_grown⟩
  have g0 : ([108, 101, 116] == s.toList) = false := by rw [beq_turn]; exact h0
  rcases Bool.eq_false_or_eq_true (s.toList == [105, 110]) with h1 | h1
  · have g1 : ([105, 110] == s.toList) = true := by rw [beq_turn]; exact h1
    go_enter Try.func91, Try.ntmps91
    go_wp2
    go_rounds 2
    go_ret
    exact ⟨ret_int (by rw [ByteArray.toList_eq] at *; simp [keptI, *]), by go_grown⟩
  have g1 : ([105, 110] == s.toList) = false := by rw [beq_turn]; exact h1
  rcases Bool.eq_false_or_eq_true (s.toList == [105, 102]) with h2 | h2
  · have g2 : ([105, 102] == s.toList) = true := by rw [beq_turn]; exact h2
    go_enter Try.func91, Try.ntmps91
    go_wp2
    go_rounds 3
    go_ret
    exact ⟨ret_int (by rw [ByteArray.toList_eq] at *; simp [keptI, *]), by go_grown⟩
  have g2 : ([105, 102] == s.toList) = false := by rw [beq_turn]; exact h2
  rcases Bool.eq_false_or_eq_true (s.toList == [116, 104, 101, 110]) with h3 | h3
  · have g3 : ([116, 104, 101, 110] == s.toList) = true := by rw [beq_turn]; exact h3
    go_enter Try.func91, Try.ntmps91
    go_wp2
    go_rounds 4
    go_ret
    exact ⟨ret_int (by rw [ByteArray.toList_eq] at *; simp [keptI, *]), by go_grown⟩
  have g3 : ([116, 104, 101, 110] == s.toList) = false := by rw [beq_turn]; exact h3
  rcases Bool.eq_false_or_eq_true (s.toList == [101, 108, 115, 101]) with h4 | h4
  · have g4 : ([101, 108, 115, 101] == s.toList) = true := by rw [beq_turn]; exact h4
    go_enter Try.func91, Try.ntmps91
    go_wp2
    go_rounds 5
    go_ret
    exact ⟨ret_int (by rw [ByteArray.toList_eq] at *; simp [keptI, *]), by go_grown⟩
  have g4 : ([101, 108, 115, 101] == s.toList) = false := by rw [beq_turn]; exact h4
  rcases Bool.eq_false_or_eq_true (s.toList == [102, 110]) with h5 | h5
  · have g5 : ([102, 110] == s.toList) = true := by rw [beq_turn]; exact h5
    go_enter Try.func91, Try.ntmps91
    go_wp2
    go_rounds 6
    go_ret
    exact ⟨ret_int (by rw [ByteArray.toList_eq] at *; simp [keptI, *]), by go_grown⟩
  have g5 : ([102, 110] == s.toList) = false := by rw [beq_turn]; exact h5
  rcases Bool.eq_false_or_eq_true (s.toList == [99, 97, 108, 108]) with h6 | h6
  · have g6 : ([99, 97, 108, 108] == s.toList) = true := by rw [beq_turn]; exact h6
    go_enter Try.func91, Try.ntmps91
    go_wp2
    go_rounds 7
    go_ret
    exact ⟨ret_int (by rw [ByteArray.toList_eq] at *; simp [keptI, *]), by go_grown⟩
  have g6 : ([99, 97, 108, 108] == s.toList) = false := by rw [beq_turn]; exact h6
  rcases Bool.eq_false_or_eq_true (s.toList == [100, 101, 102]) with h7 | h7
  · have g7 : ([100, 101, 102] == s.toList) = true := by rw [beq_turn]; exact h7
    go_enter Try.func91, Try.ntmps91
    go_wp2
    go_rounds 8
    go_ret
    exact ⟨ret_int (by rw [ByteArray.toList_eq] at *; simp [keptI, *]), by go_grown⟩
  have g7 : ([100, 101, 102] == s.toList) = false := by rw [beq_turn]; exact h7
  rcases Bool.eq_false_or_eq_true (s.toList == [116, 114, 117, 101]) with h8 | h8
  · have g8 : ([116, 114, 117, 101] == s.toList) = true := by rw [beq_turn]; exact h8
    go_enter Try.func91, Try.ntmps91
    go_wp2
    go_rounds 9
    go_ret
    exact ⟨ret_int (by rw [ByteArray.toList_eq] at *; simp [keptI, *]), by go_grown⟩
  have g8 : ([116, 114, 117, 101] == s.toList) = false := by rw [beq_turn]; exact h8
  rcases Bool.eq_false_or_eq_true (s.toList == [102, 97, 108, 115, 101]) with h9 | h9
  · have g9 : ([102, 97, 108, 115, 101] == s.toList) = true := by rw [beq_turn]; exact h9
    go_enter Try.func91, Try.ntmps91
    go_wp2
    go_rounds 10
    go_ret
    exact ⟨ret_int (by rw [ByteArray.toList_eq] at *; simp [keptI, *]), by go_grown⟩
  have g9 : ([102, 97, 108, 115, 101] == s.toList) = false := by rw [beq_turn]; exact h9
  rcases Bool.eq_false_or_eq_true (s.toList == [73, 110, 116]) with h10 | h10
  · have g10 : ([73, 110, 116] == s.toList) = true := by rw [beq_turn]; exact h10
    go_enter Try.func91, Try.ntmps91
    go_wp2
    go_rounds 11
    go_wp2
    go_rounds 1
    go_ret
    exact ⟨ret_int (by rw [ByteArray.toList_eq] at *; simp [keptI, *]), by go_grown⟩
  have g10 : ([73, 110, 116] == s.toList) = false := by rw [beq_turn]; exact h10
  rcases Bool.eq_false_or_eq_true (s.toList == [66, 111, 111, 108]) with h11 | h11
  · have g11 : ([66, 111, 111, 108] == s.toList) = true := by rw [beq_turn]; exact h11
    go_enter Try.func91, Try.ntmps91
    go_wp2
    go_rounds 11
    go_wp2
    go_rounds 2
    go_ret
    exact ⟨ret_int (by rw [ByteArray.toList_eq] at *; simp [keptI, *]), by go_grown⟩
  have g11 : ([66, 111, 111, 108] == s.toList) = false := by rw [beq_turn]; exact h11
  rcases Bool.eq_false_or_eq_true (s.toList == [83, 116, 114, 105, 110, 103]) with h12 | h12
  · have g12 : ([83, 116, 114, 105, 110, 103] == s.toList) = true := by rw [beq_turn]; exact h12
    go_enter Try.func91, Try.ntmps91
    go_wp2
    go_rounds 11
    go_wp2
    go_rounds 3
    go_ret
    exact ⟨ret_int (by rw [ByteArray.toList_eq] at *; simp [keptI, *]), by go_grown⟩
  have g12 : ([83, 116, 114, 105, 110, 103] == s.toList) = false := by rw [beq_turn]; exact h12
  rcases Bool.eq_false_or_eq_true (s.toList == [84, 111, 112]) with h13 | h13
  · have g13 : ([84, 111, 112] == s.toList) = true := by rw [beq_turn]; exact h13
    go_enter Try.func91, Try.ntmps91
    go_wp2
    go_rounds 11
    go_wp2
    go_rounds 4
    go_ret
    exact ⟨ret_int (by rw [ByteArray.toList_eq] at *; simp [keptI, *]), by go_grown⟩
  have g13 : ([84, 111, 112] == s.toList) = false := by rw [beq_turn]; exact h13
  go_enter Try.func91, Try.ntmps91
  go_wp2
  go_rounds 11
  go_wp2
  go_rounds 5
  go_ret
  exact ⟨ret_int (by rw [ByteArray.toList_eq] at *; simp [keptI, *]), by go_grown⟩
end Go.Proofs.Ytbfmaicoefefaaa
