/- limbecklaw01: awake, and the walks of the three statements. -/
import Derived.Test.YtdcnccjabgldmaaRefL
namespace Go.Proofs.Ytdcnccjabgldmaa
open Go.RowKit Go.Sort
theorem kindOf (l : List UInt8) (n : Int) (h : kindI l = n) (hl : l.length ≤ maxLen) (w : World) : Calls Try.prog 7 #[.string ⟨l.toArray⟩] w fun e w' => e = .returned (.int .i64 n) ∧ Below w.heap.size w w' :=
  (nkind_any ⟨l.toArray⟩ w hl).mono fun e w' ⟨he, hb⟩ => ⟨by rw [he]; exact ret_int (by rw [← h]), hb⟩
theorem fineOf (l : List UInt8) (b : Bool) (h : (kindI l == 1) = b) (hl : l.length ≤ maxLen) (w : World) : Calls Try.prog 8 #[.string ⟨l.toArray⟩] w fun e w' => e = .returned (.bool b) ∧ Below w.heap.size w w' :=
  (fine_any ⟨l.toArray⟩ w hl).mono fun e w' ⟨he, hb⟩ => ⟨by rw [he]; exact ret_bool (by rw [← h]; rfl), hb⟩
theorem varOf (l : List UInt8) (b : Bool) (h : (kindI l == 2) = b) (hl : l.length ≤ maxLen) (w : World) : Calls Try.prog 9 #[.string ⟨l.toArray⟩] w fun e w' => e = .returned (.bool b) ∧ Below w.heap.size w w' :=
  (var_any ⟨l.toArray⟩ w hl).mono fun e w' ⟨he, hb⟩ => ⟨by rw [he]; exact ret_bool (by rw [← h]; rfl), hb⟩
theorem strsAt_nil (w : World) : StrsAt w (.slice none 0 0) [] := ⟨fun s h => (by simp at h), by simp, .inl ⟨none, 0, rfl, rfl⟩⟩

theorem awake_any (w : World) : Calls Try.prog 10 #[] w fun e w' => e = .returned (.bool true) ∧ Below w.heap.size w w' := by
  go_enter Try.func10, Try.ntmps10
  go_wp2_with fail
  refine (kindOf [120, 49] 1 (by decide +kernel) (by unfold maxLen; simp) _).mono ?_; rintro e w1 ⟨rfl, hb1⟩
  go_wp2_with fail
  refine (kindOf [88] 2 (by decide +kernel) (by unfold maxLen; simp) _).mono ?_; rintro e w2 ⟨rfl, hb2⟩
  go_wp2_with fail
  refine (kindOf [108, 101, 116] 3 (by decide +kernel) (by unfold maxLen; simp) _).mono ?_; rintro e w3 ⟨rfl, hb3⟩
  go_wp2_with fail
  refine (kindOf [73, 110, 116] 4 (by decide +kernel) (by unfold maxLen; simp) _).mono ?_; rintro e w4 ⟨rfl, hb4⟩
  go_wp2_with fail
  refine (fineOf [97] true (by decide +kernel) (by unfold maxLen; simp) _).mono ?_; rintro e w5 ⟨rfl, hb5⟩
  go_wp2_with fail
  refine (varOf [65, 98] true (by decide +kernel) (by unfold maxLen; simp) _).mono ?_; rintro e w6 ⟨rfl, hb6⟩
  go_wp2_with fail
  refine (fresh_any _ [] _ _ (strsAt_nil _)).mono ?_; rintro e w7 ⟨rfl, rfl⟩
  go_wp2_with fail
  go_ret
  have s1 := hb1.size; have s2 := hb2.size; have s3 := hb3.size; have s4 := hb4.size; have s5 := hb5.size; have s6 := hb6.size
  exact ⟨ret_bool (by simp [placeI]), (((((hb1.trans (hb2.mono s1)).trans (hb3.mono (by omega))).trans (hb4.mono (by omega))).trans (hb5.mono (by omega))).trans (hb6.mono (by omega)))⟩

theorem kinds_any (s : ByteArray) (w : World) (hs : s.size ≤ maxLen) : Calls Try.prog 3 #[.string s] w fun e w' => e = .returned (.bool true) ∧ Below w.heap.size w w' := by
  have hf1 : (fineB s == (kindI s.data.toList == 1)) = true := by simp [fineB]
  have hf2 : (varB s == (kindI s.data.toList == 2)) = true := by simp [varB]
  have hf0 : (kindI s.data.toList == kindI s.data.toList) = true := by simp
  go_enter Try.func3, Try.ntmps3
  go_wp2_with fail
  refine (rkind_any _ _ hs).mono ?_; rintro e w1 ⟨rfl, hb1⟩
  go_wp2_with fail
  refine (nkind_any _ _ hs).mono ?_; rintro e w2 ⟨rfl, hb2⟩
  go_wp2_with fail
  refine (fine_any _ _ hs).mono ?_; rintro e w3 ⟨rfl, hb3⟩
  go_wp2_with fail
  refine (var_any _ _ hs).mono ?_; rintro e w4 ⟨rfl, hb4⟩
  go_wp2_with fail
  refine (awake_any _).mono ?_; rintro e w5 ⟨rfl, hb5⟩
  go_wp2_with fail
  go_ret
  have s1 := hb1.size; have s2 := hb2.size; have s3 := hb3.size; have s4 := hb4.size
  exact ⟨rfl, ((((hb1.trans (hb2.mono s1)).trans (hb3.mono (by omega))).trans (hb4.mono (by omega))).trans (hb5.mono (by omega)))⟩

theorem lists_any (v : Value) (ss : List ByteArray) (s : ByteArray) (w : World) (h : StrsAt w v ss) : Calls Try.prog 4 #[v, .string s] w fun e w' => e = .returned (.bool true) ∧ Below w.heap.size w w' := by
  have hv : ∃ a cap, v = .slice a ss.length cap := by
    rcases h.2.2 with ⟨a, cap, rfl, rfl⟩ | ⟨b, off, cap, rfl, _⟩
    · exact ⟨a, cap, rfl⟩
    · exact ⟨_, cap, rfl⟩
  obtain ⟨a, cap, rfl⟩ := hv
  have hm := h.2.1
  unfold maxLen at hm
  have h1 : (risingB ss == risingB ss) = true := by simp
  have h2 : (decide (placeI ss s < 0) == decide (placeI ss s < 0)) = true := by simp
  by_cases hlen : 100 < ss.length
  · go_enter Try.func4, Try.ntmps4
    go_wp2_with fail
    refine (awake_any _).mono ?_; rintro e w5 ⟨rfl, hb5⟩
    go_wp2_with fail
    go_ret
    exact ⟨rfl, hb5⟩
  · go_enter Try.func4, Try.ntmps4
    go_wp2_with fail
    refine (rising_any _ ss _ h).mono ?_; rintro e w1 ⟨rfl, hb1⟩
    go_wp2_with fail
    refine (rrising_any _ ss _ (h.mono hb1)).mono ?_; rintro e w2 ⟨rfl, hb2⟩
    go_wp2_with fail
    refine (fresh_any _ ss _ _ ((h.mono hb1).mono hb2)).mono ?_; rintro e w3 ⟨rfl, rfl⟩
    go_wp2_with fail
    refine (place_any _ ss _ _ ((h.mono hb1).mono hb2)).mono ?_; rintro e w3 ⟨rfl, rfl⟩
    go_wp2_with fail
    go_outline
    go_ways
    refine (awake_any _).mono ?_; rintro e w5 ⟨rfl, hb5⟩
    go_wp2_with fail
    go_ret
    have s1 := hb1.size; have s2 := hb2.size
    exact ⟨rfl, (hb1.trans (hb2.mono s1)).trans (hb5.mono (by omega))⟩
end Go.Proofs.Ytdcnccjabgldmaa
