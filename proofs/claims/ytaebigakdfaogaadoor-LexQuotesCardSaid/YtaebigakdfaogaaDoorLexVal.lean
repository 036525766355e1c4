/- lex.value at the bases 10 and 16. -/
import Derived.Test.YtaebigakdfaogaaDoorLexRd
namespace Go.Proofs.YtaebigakdfaogaaDoor
open Go.RowKit
theorem cellNew (w : World) (cs : Array Value) (t : TypeId) (j : Nat) (v : Value) (h : cs[j]? = some v) : (w.alloc (.cells cs t)).cell? ⟨w.heap.size, j, none⟩ = some v := by
  rw [World.cell?_alloc_at _ _ _ _ rfl]
  exact h
def valF (b : Int) : List UInt8 → Int → Int × Bool
  | [], n => (n, true)
  | c :: r, n => if (decide (dgtI b (c.toNat : Int) < 0) || decide ((9223372036854775807 - dgtI b (c.toNat : Int)) / b < n)) = true then (0, false) else valF b r (n * b + dgtI b (c.toNat : Int))
theorem dgt_range (b c : Int) (hb : 1 ≤ b) : -1 ≤ dgtI b c ∧ dgtI b c < b := by
  unfold dgtI
  rcases Bool.eq_false_or_eq_true (digB c) with hd | hd
  · have hd2 : 48 ≤ c ∧ c ≤ 57 := by simpa [digB] using hd
    simp only [hd, if_true]
    split <;> omega
  · rcases Bool.eq_false_or_eq_true (lowB c) with hl | hl
    · have hl2 : 97 ≤ c ∧ c ≤ 122 := by simpa [lowB] using hl
      simp only [hd, hl, if_true, Bool.false_eq_true, if_false]
      split <;> omega
    · simp only [hd, hl, Bool.false_eq_true, if_false]
      omega
set_option maxHeartbeats 1000000
theorem value10_any (s : ByteArray) (w : World) (hs : s.size ≤ maxLen) :
    Calls Tryd.prog 45 #[.string s, .int .i64 10] w fun e w' => e = .returned (.tuple #[.int .i64 (valF 10 s.data.toList 0).1, .bool (valF 10 s.data.toList 0).2]) ∧ Below w.heap.size w w' := by
  unfold maxLen at hs
  generalize hN : valF 10 s.data.toList 0 = N
  have HN : Asd (valF 10 (rest s 0) 0 = N) := ⟨by simpa [rest] using hN⟩
  clear hN
  go_enter Tryd.func45, Tryd.ntmps45
  go_wp2_with fail
  refine (digits_any 10 _).mono ?_
  rintro e w1 ⟨rfl, rfl⟩
  have hc : (w.alloc (.cells #[.int .i64 10] 3)).cell? ⟨w.heap.size, 0, none⟩ = some (.int .i64 10) := cellNew _ _ _ 0 _ rfl
  have HB : Asd (Below w.heap.size w (w.alloc (.cells #[.int .i64 10] 3))) := ⟨(Below.refl _ _).alloc (Nat.le_refl _) _⟩
  generalize w.alloc (.cells #[.int .i64 10] 3) = W at hc HB ⊢
  go_wp2_with fail
  go_loop [4, 13] (fun n i => ∃ (k : Nat) (m : Int), k ≤ s.size ∧ i = .int .i64 k ∧ n = .int .i64 m ∧ 0 ≤ m ∧ m ≤ 9223372036854775807 ∧ valF 10 (rest s k) m = N) (fun _ i => s.size - (intOf i).toNat)
  case atStart => exact ⟨0, 0, Nat.zero_le _, rfl, rfl, Int.le_refl _, by omega, HN.out⟩
  case round =>
    obtain ⟨k, m, hk, rfl, rfl, hm0, hm1, hv⟩ := hrel
    have HV : Asd (valF 10 (rest s k) m = N) := ⟨hv⟩
    clear hv
    by_cases hlt : k < s.size
    · have hb := byte_le s[k]
      have XX := Asd.mk (digits1_any 10 (s[k].toNat : Int) w.heap.size W hb.1 hb.2 hc)
      have hr := dgt_range 10 (s[k].toNat : Int) (by omega)
      have HS : Asd (valF 10 (rest s k) m = if (decide (dgtI 10 (s[k].toNat : Int) < 0) || decide ((9223372036854775807 - dgtI 10 (s[k].toNat : Int)) / 10 < m)) = true then (0, false) else valF 10 (rest s (k + 1)) (m * 10 + dgtI 10 (s[k].toNat : Int))) := ⟨by rw [rest_lt s k hlt]; rfl⟩
      generalize dgtI 10 (s[k].toNat : Int) = d at XX hr HS
      obtain ⟨hr1, hr2⟩ := hr
      clear hb
      by_cases hd : d < 0
      · go_wp2_with fail
        refine XX.out.mono ?_
        rintro e w1 ⟨rfl, rfl⟩
        go_wp2_with fail
        go_ret2
        have hN : N = (0, false) := by rw [← HV.out, HS.out, if_pos (by simp [hd])]
        rw [hN]
        exact ⟨rfl, HB.out⟩
      · by_cases hq : (9223372036854775807 - d) / 10 < m
        · go_wp2_with fail
          refine XX.out.mono ?_
          rintro e w1 ⟨rfl, rfl⟩
          go_wp2_with fail
          go_ret2
          have hN : N = (0, false) := by rw [← HV.out, HS.out, if_pos (by simp [hq])]
          rw [hN]
          exact ⟨rfl, HB.out⟩
        · have g1 : 0 ≤ m * 10 + d := by omega
          have g2 : m * 10 + d ≤ 9223372036854775807 := by omega
          go_wp2_with fail
          refine XX.out.mono ?_
          rintro e w1 ⟨rfl, rfl⟩
          go_wp2_with fail
          go_round
          case rel => exact ⟨k + 1, m * 10 + d, by omega, by go_num, rfl, g1, g2, by rw [← HV.out, HS.out, if_neg (by simp [hd, hq])]⟩
          case measure => simp [intOf]; omega
    · have hN : N = (m, true) := by rw [← HV.out, rest_end s k (by omega)]; rfl
      have HM := Asd.mk hN
      clear hN
      go_wp2_with fail
      go_ret2
      rw [HM.out]
      exact ⟨rfl, HB.out⟩

theorem value16_any (s : ByteArray) (w : World) (hs : s.size ≤ maxLen) :
    Calls Tryd.prog 45 #[.string s, .int .i64 16] w fun e w' => e = .returned (.tuple #[.int .i64 (valF 16 s.data.toList 0).1, .bool (valF 16 s.data.toList 0).2]) ∧ Below w.heap.size w w' := by
  unfold maxLen at hs
  generalize hN : valF 16 s.data.toList 0 = N
  have HN : Asd (valF 16 (rest s 0) 0 = N) := ⟨by simpa [rest] using hN⟩
  clear hN
  go_enter Tryd.func45, Tryd.ntmps45
  go_wp2_with fail
  refine (digits_any 16 _).mono ?_
  rintro e w1 ⟨rfl, rfl⟩
  have hc : (w.alloc (.cells #[.int .i64 16] 3)).cell? ⟨w.heap.size, 0, none⟩ = some (.int .i64 16) := cellNew _ _ _ 0 _ rfl
  have HB : Asd (Below w.heap.size w (w.alloc (.cells #[.int .i64 16] 3))) := ⟨(Below.refl _ _).alloc (Nat.le_refl _) _⟩
  generalize w.alloc (.cells #[.int .i64 16] 3) = W at hc HB ⊢
  go_wp2_with fail
  go_loop [4, 13] (fun n i => ∃ (k : Nat) (m : Int), k ≤ s.size ∧ i = .int .i64 k ∧ n = .int .i64 m ∧ 0 ≤ m ∧ m ≤ 9223372036854775807 ∧ valF 16 (rest s k) m = N) (fun _ i => s.size - (intOf i).toNat)
  case atStart => exact ⟨0, 0, Nat.zero_le _, rfl, rfl, Int.le_refl _, by omega, HN.out⟩
  case round =>
    obtain ⟨k, m, hk, rfl, rfl, hm0, hm1, hv⟩ := hrel
    have HV : Asd (valF 16 (rest s k) m = N) := ⟨hv⟩
    clear hv
    by_cases hlt : k < s.size
    · have hb := byte_le s[k]
      have XX := Asd.mk (digits1_any 16 (s[k].toNat : Int) w.heap.size W hb.1 hb.2 hc)
      have hr := dgt_range 16 (s[k].toNat : Int) (by omega)
      have HS : Asd (valF 16 (rest s k) m = if (decide (dgtI 16 (s[k].toNat : Int) < 0) || decide ((9223372036854775807 - dgtI 16 (s[k].toNat : Int)) / 16 < m)) = true then (0, false) else valF 16 (rest s (k + 1)) (m * 16 + dgtI 16 (s[k].toNat : Int))) := ⟨by rw [rest_lt s k hlt]; rfl⟩
      generalize dgtI 16 (s[k].toNat : Int) = d at XX hr HS
      obtain ⟨hr1, hr2⟩ := hr
      clear hb
      by_cases hd : d < 0
      · go_wp2_with fail
        refine XX.out.mono ?_
        rintro e w1 ⟨rfl, rfl⟩
        go_wp2_with fail
        go_ret2
        have hN : N = (0, false) := by rw [← HV.out, HS.out, if_pos (by simp [hd])]
        rw [hN]
        exact ⟨rfl, HB.out⟩
      · by_cases hq : (9223372036854775807 - d) / 16 < m
        · go_wp2_with fail
          refine XX.out.mono ?_
          rintro e w1 ⟨rfl, rfl⟩
          go_wp2_with fail
          go_ret2
          have hN : N = (0, false) := by rw [← HV.out, HS.out, if_pos (by simp [hq])]
          rw [hN]
          exact ⟨rfl, HB.out⟩
        · have g1 : 0 ≤ m * 16 + d := by omega
          have g2 : m * 16 + d ≤ 9223372036854775807 := by omega
          go_wp2_with fail
          refine XX.out.mono ?_
          rintro e w1 ⟨rfl, rfl⟩
          go_wp2_with fail
          go_round
          case rel => exact ⟨k + 1, m * 16 + d, by omega, by go_num, rfl, g1, g2, by rw [← HV.out, HS.out, if_neg (by simp [hd, hq])]⟩
          case measure => simp [intOf]; omega
    · have hN : N = (m, true) := by rw [← HV.out, rest_end s k (by omega)]; rfl
      have HM := Asd.mk hN
      clear hN
      go_wp2_with fail
      go_ret2
      rw [HM.out]
      exact ⟨rfl, HB.out⟩
end Go.Proofs.YtaebigakdfaogaaDoor
