/- (*reader).take, at each of its three kinds of bytes. -/
import Derived.Test.YtaebigakdfaogaaDoorLexRd
namespace Go.Proofs.YtaebigakdfaogaaDoor
open Go.RowKit
theorem ret_str {a b : ByteArray} (h : a = b) : Ending.returned (.string a) = .returned (.string b) := by rw [h]
def notNl (c : Int) : Bool := c != 10
theorem skip1_nl (c : Int) (w : World) : Calls Tryd.prog 41 #[.int .u8 c] w fun e w' => e = .returned (.bool (notNl c)) ∧ w = w' := skip1_any c w

set_option maxHeartbeats 1000000 in
theorem take_skip (b : Nat) (s : ByteArray) (p : Nat) (w : World) (hs : s.size ≤ maxLen) (hp : p ≤ s.size) (h : Rd b s p w w) :
    Calls Tryd.prog 40 #[.pointer (some ⟨b, 0, none⟩), .func (.func 41) #[] #[]] w fun e w' => e = .returned (.string (s.extract p (p + runN notNl (rest s p)))) ∧ Rd b s (p + runN notNl (rest s p)) w w' := by
  unfold maxLen at hs
  generalize hN : runN notNl (rest s p) = N
  have HN : Asd (runN notNl (rest s p) = N) := ⟨hN⟩
  clear hN
  have HR : Asd (Rd b s p w w) := ⟨h⟩
  have c0 := h.c0; have c1 := h.c1
  clear h
  go_enter Tryd.func40, Tryd.ntmps40
  go_wp2
  clear c0 c1
  go_loopg [32] (s.size - p) (fun gk p32 wr => ∃ k : Nat, p + k + gk = s.size ∧ k + runN notNl (rest s (p + k)) = N ∧ Rd b s (p + k) w wr)
  case atStart => exact ⟨0, by omega, by rw [Nat.add_zero, Nat.zero_add]; exact HN.out, HR.out⟩
  case round =>
    obtain ⟨k, hk, hr, hrd⟩ := hrel
    have c0 := hrd.c0; have c1 := hrd.c1; have f1 := hrd.f1
    obtain ⟨m, hm⟩ : ∃ m, m = p + k := ⟨_, rfl⟩
    rw [← hm] at hr hrd c1
    have A : Asd (k + runN notNl (rest s m) = N ∧ Rd b s m w wr) := ⟨hr, hrd⟩
    have HM : Asd (m = p + k) := ⟨hm⟩
    have hm1 : p ≤ m := by omega
    have hm2 : m ≤ s.size := by omega
    have hm3 : m + gk = s.size := by omega
    clear hr hrd hk hm
    by_cases hlt : m < s.size
    · have hd : decide (m < s.size) = true := by simpa using hlt
      have hb := byte_le s[m]
      rcases Bool.eq_false_or_eq_true (notNl (s[m].toNat : Int)) with hq | hq
      · have HX : Asd (notNl (s[m].toNat : Int) = true) := ⟨hq⟩
        go_wp2_with fail
        go_quiet ((go_at_call 41; exact Calls.quiet_of_same ((skip1_nl _ _).mono fun _ _ hh => ⟨hh.1, hh.2.symm⟩)))
        go_wp2
        go_roundg (gk - 1)
        case measure => omega
        case rel => exact ⟨k + 1, by have := HM.out; omega, by
            have h1 := A.out.1
            rw [rest_lt s m hlt, runN, if_pos HX.out] at h1
            rw [← Nat.add_assoc, ← HM.out]
            omega, by
            rw [← Nat.add_assoc, ← HM.out]
            exact (A.out.2.drewN _).put _ _ (by omega)⟩
      · have HX : Asd (notNl (s[m].toNat : Int) = false) := ⟨hq⟩
        have hmi : (m : Int) ≤ (s.size : Int) := by omega
        have hpi : (p : Int) ≤ (m : Int) := by omega
        go_wp2_with fail
        go_quiet ((go_at_call 41; exact Calls.quiet_of_same ((skip1_nl _ _).mono fun _ _ hh => ⟨hh.1, hh.2.symm⟩)))
        go_wp2
        go_quiet (fail)
        go_wp2
        go_ret
        have h1 := A.out.1
        rw [rest_lt s m hlt, runN, if_neg (by rw [HX.out]; simp)] at h1
        have : m = p + N := by have := HM.out; omega
        have hx : s.extract p m = s.extract p (p + N) := by rw [← this]
        exact ⟨ret_str hx, by rw [← this]; exact (A.out.2.drewN _).drewN _⟩
    · have hd : decide (m < s.size) = false := by simpa using hlt
      have hmi : (m : Int) ≤ (s.size : Int) := by omega
      have hpi : (p : Int) ≤ (m : Int) := by omega
      go_wp2_with fail
      go_quiet (fail)
      go_wp2
      go_quiet (fail)
      go_wp2
      go_ret
      have h1 := A.out.1
      rw [rest_end s m (by omega), runN] at h1
      have : m = p + N := by have := HM.out; omega
      have hx : s.extract p m = s.extract p (p + N) := by rw [← this]
      exact ⟨ret_str hx, by rw [← this]; exact (A.out.2.drewN _).drewN _⟩

set_option maxHeartbeats 1000000 in
theorem take_word (b : Nat) (s : ByteArray) (p : Nat) (w : World) (hs : s.size ≤ maxLen) (hp : p ≤ s.size) (h : Rd b s p w w) :
    Calls Tryd.prog 40 #[.pointer (some ⟨b, 0, none⟩), .func (.func 46) #[] #[]] w fun e w' => e = .returned (.string (s.extract p (p + runN alnB (rest s p)))) ∧ Rd b s (p + runN alnB (rest s p)) w w' := by
  unfold maxLen at hs
  generalize hN : runN alnB (rest s p) = N
  have HN : Asd (runN alnB (rest s p) = N) := ⟨hN⟩
  clear hN
  have HR : Asd (Rd b s p w w) := ⟨h⟩
  have c0 := h.c0; have c1 := h.c1
  clear h
  go_enter Tryd.func40, Tryd.ntmps40
  go_wp2
  clear c0 c1
  go_loopg [32] (s.size - p) (fun gk p32 wr => ∃ k : Nat, p + k + gk = s.size ∧ k + runN alnB (rest s (p + k)) = N ∧ Rd b s (p + k) w wr)
  case atStart => exact ⟨0, by omega, by rw [Nat.add_zero, Nat.zero_add]; exact HN.out, HR.out⟩
  case round =>
    obtain ⟨k, hk, hr, hrd⟩ := hrel
    have c0 := hrd.c0; have c1 := hrd.c1; have f1 := hrd.f1
    obtain ⟨m, hm⟩ : ∃ m, m = p + k := ⟨_, rfl⟩
    rw [← hm] at hr hrd c1
    have A : Asd (k + runN alnB (rest s m) = N ∧ Rd b s m w wr) := ⟨hr, hrd⟩
    have HM : Asd (m = p + k) := ⟨hm⟩
    have hm1 : p ≤ m := by omega
    have hm2 : m ≤ s.size := by omega
    have hm3 : m + gk = s.size := by omega
    clear hr hrd hk hm
    by_cases hlt : m < s.size
    · have hd : decide (m < s.size) = true := by simpa using hlt
      have hb := byte_le s[m]
      rcases Bool.eq_false_or_eq_true (alnB (s[m].toNat : Int)) with hq | hq
      · have HX : Asd (alnB (s[m].toNat : Int) = true) := ⟨hq⟩
        go_wp2_with fail
        go_quiet ((go_at_call 46; exact Calls.quiet_of_same ((word1_any _ _).mono fun _ _ hh => ⟨hh.1, hh.2.symm⟩)))
        go_wp2
        go_roundg (gk - 1)
        case measure => omega
        case rel => exact ⟨k + 1, by have := HM.out; omega, by
            have h1 := A.out.1
            rw [rest_lt s m hlt, runN, if_pos HX.out] at h1
            rw [← Nat.add_assoc, ← HM.out]
            omega, by
            rw [← Nat.add_assoc, ← HM.out]
            exact (A.out.2.drewN _).put _ _ (by omega)⟩
      · have HX : Asd (alnB (s[m].toNat : Int) = false) := ⟨hq⟩
        have hmi : (m : Int) ≤ (s.size : Int) := by omega
        have hpi : (p : Int) ≤ (m : Int) := by omega
        go_wp2_with fail
        go_quiet ((go_at_call 46; exact Calls.quiet_of_same ((word1_any _ _).mono fun _ _ hh => ⟨hh.1, hh.2.symm⟩)))
        go_wp2
        go_quiet (fail)
        go_wp2
        go_ret
        have h1 := A.out.1
        rw [rest_lt s m hlt, runN, if_neg (by rw [HX.out]; simp)] at h1
        have : m = p + N := by have := HM.out; omega
        have hx : s.extract p m = s.extract p (p + N) := by rw [← this]
        exact ⟨ret_str hx, by rw [← this]; exact (A.out.2.drewN _).drewN _⟩
    · have hd : decide (m < s.size) = false := by simpa using hlt
      have hmi : (m : Int) ≤ (s.size : Int) := by omega
      have hpi : (p : Int) ≤ (m : Int) := by omega
      go_wp2_with fail
      go_quiet (fail)
      go_wp2
      go_quiet (fail)
      go_wp2
      go_ret
      have h1 := A.out.1
      rw [rest_end s m (by omega), runN] at h1
      have : m = p + N := by have := HM.out; omega
      have hx : s.extract p m = s.extract p (p + N) := by rw [← this]
      exact ⟨ret_str hx, by rw [← this]; exact (A.out.2.drewN _).drewN _⟩

set_option maxHeartbeats 1000000 in
theorem take_num (b : Nat) (s : ByteArray) (p : Nat) (i j : Nat) (w : World) (hs : s.size ≤ maxLen) (hp : p ≤ s.size) (h : Rd b s p w w) (hib : i ≠ b) (hjb : j ≠ b) (hi : w.cell? ⟨i, 0, none⟩ = some (.int .i64 10)) (hj : w.cell? ⟨j, 0, none⟩ = some (.func (.func 60) #[] #[.pointer (some ⟨i, 0, none⟩)])) :
    Calls Tryd.prog 40 #[.pointer (some ⟨b, 0, none⟩), .func (.func 43) #[] #[.pointer (some ⟨j, 0, none⟩)]] w fun e w' => e = .returned (.string (s.extract p (p + runN digB (rest s p)))) ∧ Rd b s (p + runN digB (rest s p)) w w' := by
  unfold maxLen at hs
  generalize hN : runN digB (rest s p) = N
  have HN : Asd (runN digB (rest s p) = N) := ⟨hN⟩
  clear hN
  have HR : Asd (Rd b s p w w) := ⟨h⟩
  have c0 := h.c0; have c1 := h.c1
  clear h
  go_enter Tryd.func40, Tryd.ntmps40
  go_wp2
  clear c0 c1
  go_loopg [32] (s.size - p) (fun gk p32 wr => ∃ k : Nat, p + k + gk = s.size ∧ k + runN digB (rest s (p + k)) = N ∧ Rd b s (p + k) w wr)
  case atStart => exact ⟨0, by omega, by rw [Nat.add_zero, Nat.zero_add]; exact HN.out, HR.out⟩
  case round =>
    obtain ⟨k, hk, hr, hrd⟩ := hrel
    have c0 := hrd.c0; have c1 := hrd.c1; have f1 := hrd.f1; have ki := hrd.cell (a := ⟨i, 0, none⟩) hib hi; have kj := hrd.cell (a := ⟨j, 0, none⟩) hjb hj
    obtain ⟨m, hm⟩ : ∃ m, m = p + k := ⟨_, rfl⟩
    rw [← hm] at hr hrd c1
    have A : Asd (k + runN digB (rest s m) = N ∧ Rd b s m w wr) := ⟨hr, hrd⟩
    have HM : Asd (m = p + k) := ⟨hm⟩
    have hm1 : p ≤ m := by omega
    have hm2 : m ≤ s.size := by omega
    have hm3 : m + gk = s.size := by omega
    clear hr hrd hk hm
    by_cases hlt : m < s.size
    · have hd : decide (m < s.size) = true := by simpa using hlt
      have hb := byte_le s[m]
      have XX := Asd.mk (fun n => number1_any (s[m].toNat : Int) j i (wr.drewN n) hb.1 hb.2 ki kj)
      rcases Bool.eq_false_or_eq_true (digB (s[m].toNat : Int)) with hq | hq
      · have HX : Asd (digB (s[m].toNat : Int) = true) := ⟨hq⟩
        go_wp2_with fail
        go_quiet ((go_at_call 43; exact Calls.quiet_of_same ((XX.out _).mono fun _ _ hh => ⟨hh.1, hh.2.symm⟩)))
        go_wp2
        go_roundg (gk - 1)
        case measure => omega
        case rel => exact ⟨k + 1, by have := HM.out; omega, by
            have h1 := A.out.1
            rw [rest_lt s m hlt, runN, if_pos HX.out] at h1
            rw [← Nat.add_assoc, ← HM.out]
            omega, by
            rw [← Nat.add_assoc, ← HM.out]
            exact (A.out.2.drewN _).put _ _ (by omega)⟩
      · have HX : Asd (digB (s[m].toNat : Int) = false) := ⟨hq⟩
        have hmi : (m : Int) ≤ (s.size : Int) := by omega
        have hpi : (p : Int) ≤ (m : Int) := by omega
        go_wp2_with fail
        go_quiet ((go_at_call 43; exact Calls.quiet_of_same ((XX.out _).mono fun _ _ hh => ⟨hh.1, hh.2.symm⟩)))
        go_wp2
        go_quiet (fail)
        go_wp2
        go_ret
        have h1 := A.out.1
        rw [rest_lt s m hlt, runN, if_neg (by rw [HX.out]; simp)] at h1
        have : m = p + N := by have := HM.out; omega
        have hx : s.extract p m = s.extract p (p + N) := by rw [← this]
        exact ⟨ret_str hx, by rw [← this]; exact (A.out.2.drewN _).drewN _⟩
    · have hd : decide (m < s.size) = false := by simpa using hlt
      have hmi : (m : Int) ≤ (s.size : Int) := by omega
      have hpi : (p : Int) ≤ (m : Int) := by omega
      go_wp2_with fail
      go_quiet (fail)
      go_wp2
      go_quiet (fail)
      go_wp2
      go_ret
      have h1 := A.out.1
      rw [rest_end s m (by omega), runN] at h1
      have : m = p + N := by have := HM.out; omega
      have hx : s.extract p m = s.extract p (p + N) := by rw [← this]
      exact ⟨ret_str hx, by rw [← this]; exact (A.out.2.drewN _).drewN _⟩
end Go.Proofs.YtaebigakdfaogaaDoor
