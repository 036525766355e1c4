/- The document's lexer: escape. -/
import Derived.Test.YtaebigakdfaogaaDoorLR1
namespace Go.Proofs.YtaebigakdfaogaaDoor
open Go.RowKit
theorem valF16_two (a b : UInt8) : valF 16 [a, b] 0 = if dgtI 16 (a.toNat : Int) < 0 then (0, false) else if dgtI 16 (b.toNat : Int) < 0 then (0, false) else (dgtI 16 (a.toNat : Int) * 16 + dgtI 16 (b.toNat : Int), true) := by
  have ha := dgt_range 16 (a.toNat : Int) (by omega)
  have hb := dgt_range 16 (b.toNat : Int) (by omega)
  generalize hda : dgtI 16 (a.toNat : Int) = da at ha ⊢
  generalize hdb : dgtI 16 (b.toNat : Int) = db at hb ⊢
  simp only [valF, hda, hdb]
  by_cases h1 : da < 0
  · rw [if_pos h1, if_pos (by simp [h1])]
  · rw [if_neg h1, if_neg (by simp only [Bool.or_eq_true, decide_eq_true_eq, not_or]; omega)]
    by_cases h2 : db < 0
    · rw [if_pos h2, if_pos (by simp [h2])]
    · rw [if_neg h2, if_neg (by simp only [Bool.or_eq_true, decide_eq_true_eq, not_or]; omega)]
      congr 1
      omega
theorem rest_bI (s : ByteArray) (p j : Nat) (h : p + j < s.size) : bI (rest s p) j = (s[p + j].toNat : Int) := by
  unfold bI rest
  rw [List.getD_eq_getElem?_getD, List.getElem?_drop, byte_at s (p + j) h]
  rfl
theorem rest_two (s : ByteArray) (p : Nat) (h : p + 3 < s.size) : ((rest s p).drop 2).take 2 = [s[p + 2], s[p + 3]] := by
  rw [rest_drop, rest_lt s (p + 2) (by omega), rest_lt s (p + 2 + 1) (by omega)]
  rfl
theorem rhexQ (c : Int) (h0 : 0 ≤ c) (h1 : c ≤ 255) (w : World) : Calls Tryd.prog 64 #[.int .u8 c] w fun e w' => e = .returned (.int .i64 (dgtI 16 c)) ∧ w' = w :=
  (rhex_any c w h0 h1).mono fun _ _ hh => ⟨hh.1, hh.2.symm⟩

set_option maxRecDepth 8000 in
set_option maxHeartbeats 2000000 in
theorem rescape_any (s : ByteArray) (p : Nat) (w : World) (hs : s.size ≤ 65536) (hp : p < s.size) :
    Calls Tryd.prog 54 #[.string s, .int .i64 p] w fun e w' => e = .returned (.tuple #[.int .u8 (escE (rest s p)).1, .int .i64 (escE (rest s p)).2]) ∧ Below w.heap.size w w' := by
  generalize hR : escE (rest s p) = R
  unfold escE at hR
  rw [rest_len] at hR
  by_cases h2 : s.size ≤ p + 1
  · obtain rfl : R = (0, 0) := by rw [← hR, if_pos (by omega)]
    clear hR
    go_enter Tryd.func54, Tryd.ntmps54
    go_wp2_with fail
    go_ret2
    exact ⟨rfl, Below.refl _ _⟩
  rw [if_neg (by omega), rest_bI s p 1 (by omega)] at hR
  have hp1 : p + 1 < s.size := by omega
  have hb1 := byte_le s[p + 1]
  rcases Bool.eq_false_or_eq_true ((s[p + 1].toNat : Int) == 34) with h34 | h34
  · have he : (s[p + 1].toNat : Int) = 34 := by simpa using h34
    obtain rfl : R = ((s[p + 1].toNat : Int), 2) := by rw [← hR, h34, he]; rfl
    clear hR he
    go_enter Tryd.func54, Tryd.ntmps54
    go_wp2_with fail
    go_ret2
    exact ⟨rfl, Below.refl _ _⟩
  rcases Bool.eq_false_or_eq_true ((s[p + 1].toNat : Int) == 92) with h92 | h92
  · have he : (s[p + 1].toNat : Int) = 92 := by simpa using h92
    obtain rfl : R = ((s[p + 1].toNat : Int), 2) := by rw [← hR, h34, h92, he]; rfl
    clear hR he
    go_enter Tryd.func54, Tryd.ntmps54
    go_wp2_with fail
    go_ret2
    exact ⟨rfl, Below.refl _ _⟩
  rcases Bool.eq_false_or_eq_true ((s[p + 1].toNat : Int) == 110) with h110 | h110
  · obtain rfl : R = (10, 2) := by rw [← hR, h34, h92, h110]; rfl
    clear hR
    go_enter Tryd.func54, Tryd.ntmps54
    go_wp2_with fail
    go_ret2
    exact ⟨rfl, Below.refl _ _⟩
  rcases Bool.eq_false_or_eq_true ((s[p + 1].toNat : Int) == 120) with h120 | h120
  · have hR2 : R = hexE (rest s p) := by rw [← hR, h34, h92, h110, h120]; rfl
    clear hR
    unfold hexE at hR2
    rw [rest_len] at hR2
    by_cases h3 : p + 3 < s.size
    · rw [if_neg (by omega), rest_two s p h3, valF16_two] at hR2
      have hp2 : p + 2 < s.size := by omega
      have k2 := byte_le s[p + 2]
      have k3 := byte_le s[p + 3]
      have d2 := dgt_range 16 (s[p + 2].toNat : Int) (by omega)
      have d3 := dgt_range 16 (s[p + 3].toNat : Int) (by omega)
      have X2 := Asd.mk (rhexQ (s[p + 2].toNat : Int) k2.1 k2.2)
      have X3 := Asd.mk (rhexQ (s[p + 3].toNat : Int) k3.1 k3.2)
      generalize dgtI 16 (s[p + 2].toNat : Int) = e2 at hR2 d2 X2
      generalize dgtI 16 (s[p + 3].toNat : Int) = e3 at hR2 d3 X3
      clear k2 k3
      by_cases g2 : e2 < 0
      · obtain rfl : R = (0, 0) := by rw [hR2, if_pos g2]; rfl
        clear hR2
        go_enter Tryd.func54, Tryd.ntmps54
        go_wp2_with fail
        refine (X2.out _).mono ?_
        rintro e w' ⟨rfl, rfl⟩
        go_wp2_with fail
        go_ret2
        exact ⟨rfl, Below.refl _ _⟩
      by_cases g3 : e3 < 0
      · obtain rfl : R = (0, 0) := by rw [hR2, if_neg g2, if_pos g3]; rfl
        clear hR2
        go_enter Tryd.func54, Tryd.ntmps54
        go_wp2_with fail
        refine (X2.out _).mono ?_
        rintro e w' ⟨rfl, rfl⟩
        go_wp2_with fail
        refine (X3.out _).mono ?_
        rintro e w'' ⟨rfl, rfl⟩
        go_wp2_with fail
        go_ret2
        exact ⟨rfl, Below.refl _ _⟩
      · obtain rfl : R = (e2 * 16 + e3, 4) := by rw [hR2, if_neg g2, if_neg g3]; rfl
        clear hR2
        have hw1 : IntKind.i64.wrap (e2 * 16) = e2 * 16 := by rw [IntKind.wrap_i64]; omega
        go_enter Tryd.func54, Tryd.ntmps54
        go_wp2_with fail
        refine (X2.out _).mono ?_
        rintro e w' ⟨rfl, rfl⟩
        go_wp2_with fail
        refine (X3.out _).mono ?_
        rintro e w'' ⟨rfl, rfl⟩
        go_wp2_with fail
        go_quiet ((go_at_call 64; first | with_reducible exact Calls.quiet_of_same (X2.out _) | with_reducible exact Calls.quiet_of_same (X3.out _)))
        go_wp2_with fail
        go_ret2
        exact ⟨rfl, ⟨rfl, rfl, rfl, Nat.le_refl _, fun _ _ => rfl⟩⟩
    · obtain rfl : R = (0, 0) := by rw [hR2, if_pos (by omega)]
      have h3i : ¬ ((p : Int) + 3 < (s.size : Int)) := by omega
      clear hR2
      go_enter Tryd.func54, Tryd.ntmps54
      go_wp2_with fail
      go_ret2
      exact ⟨rfl, Below.refl _ _⟩
  · obtain rfl : R = (0, 0) := by rw [← hR, h34, h92, h110, h120]; rfl
    clear hR
    go_enter Tryd.func54, Tryd.ntmps54
    go_wp2_with fail
    go_ret2
    exact ⟨rfl, Below.refl _ _⟩
end Go.Proofs.YtaebigakdfaogaaDoor
