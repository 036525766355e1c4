/- The document's lexer: next, All. -/
import Derived.Test.YtaebigakdfaogaaDoorLR2w
import Derived.Test.YtaebigakdfaogaaDoorLR3
import Derived.Test.YtaebigakdfaogaaDoorLR4
import Derived.Test.YtaebigakdfaogaaDoorLR5
import Derived.Test.YtaebigakdfaogaaDoorLexMO
namespace Go.Proofs.YtaebigakdfaogaaDoor
open Go.RowKit
/-- What next tells. -/
def stepV (s : ByteArray) (p : Nat) : Value :=
  if blankB (bI (rest s p) 0) = true then gotV 0 0 ⟨#[]⟩ 0 true ((p : Int) + 1) 0 0
  else if (bI (rest s p) 0 == 59) = true then gotV 0 0 ⟨#[]⟩ 0 true ((p : Int) + (runN notNl (rest s p) : Int)) 0 0
  else gotOf (itemI (rest s p)) p
theorem gotOf_form (it : It) (p : Nat) : ∃ k n t a to e at', gotOf it p = gotV k n t a false to e at' := by
  cases it with
  | tok k n t wd => exact ⟨_, _, _, _, _, _, _, rfl⟩
  | bad c o => exact ⟨_, _, _, _, _, _, _, rfl⟩

set_option maxRecDepth 8000 in
set_option maxHeartbeats 4000000 in
theorem rnext_any (s : ByteArray) (p : Nat) (w : World) (hs : s.size ≤ 65536) (hp : p < s.size) :
    Calls Tryd.prog 16 #[.string s, .int .i64 p] w fun e w' => e = .returned (stepV s p) ∧ Below w.heap.size w w' := by
  have HS : Asd (s.size ≤ maxLen) := ⟨by unfold maxLen; omega⟩
  have hb0 : bI (rest s p) 0 = (s[p].toNat : Int) := rest_bI s p 0 (by omega)
  generalize hV : stepV s p = V
  unfold stepV at hV
  rw [hb0] at hV
  have HV := Asd.mk hV
  have HB0 := Asd.mk hb0
  clear hV hb0
  have F := Asd.mk (G8.start w _ rfl)
  have dig := Asd.mk (fun w => rdigit_any (s[p].toNat : Int) w)
  have let' := Asd.mk (fun w => rletter_any (s[p].toNat : Int) w)
  rcases Bool.eq_false_or_eq_true ((s[p].toNat : Int) == 32) with h32 | h32
  · have hbl : blankB (s[p].toNat : Int) = true := by simp only [blankB, h32, Bool.or_true, Bool.true_or, Bool.false_or]
    obtain rfl : V = gotV 0 0 ⟨#[]⟩ 0 true ((p : Int) + 1) 0 0 := by rw [← HV.out, hbl]; rfl
    clear hbl F dig let'
    go_enter Tryd.func16, Tryd.ntmps16
    go_wp2_with fail
    exact bodyPost_ret (v := gotV 0 0 ⟨#[]⟩ 0 true ((p : Int) + 1) 0 0) (by simp [results, Tryd.results16, go_sem, gotV]) rfl ⟨rfl, (Below.refl _ _).alloc (Nat.le_refl _) _⟩
  rcases Bool.eq_false_or_eq_true ((s[p].toNat : Int) == 9) with h9 | h9
  · have hbl : blankB (s[p].toNat : Int) = true := by simp only [blankB, h32, h9, Bool.or_true, Bool.true_or, Bool.false_or]
    obtain rfl : V = gotV 0 0 ⟨#[]⟩ 0 true ((p : Int) + 1) 0 0 := by rw [← HV.out, hbl]; rfl
    clear hbl F dig let'
    go_enter Tryd.func16, Tryd.ntmps16
    go_wp2_with fail
    exact bodyPost_ret (v := gotV 0 0 ⟨#[]⟩ 0 true ((p : Int) + 1) 0 0) (by simp [results, Tryd.results16, go_sem, gotV]) rfl ⟨rfl, (Below.refl _ _).alloc (Nat.le_refl _) _⟩
  rcases Bool.eq_false_or_eq_true ((s[p].toNat : Int) == 10) with h10 | h10
  · have hbl : blankB (s[p].toNat : Int) = true := by simp only [blankB, h32, h9, h10, Bool.or_true, Bool.true_or, Bool.false_or]
    obtain rfl : V = gotV 0 0 ⟨#[]⟩ 0 true ((p : Int) + 1) 0 0 := by rw [← HV.out, hbl]; rfl
    clear hbl F dig let'
    go_enter Tryd.func16, Tryd.ntmps16
    go_wp2_with fail
    exact bodyPost_ret (v := gotV 0 0 ⟨#[]⟩ 0 true ((p : Int) + 1) 0 0) (by simp [results, Tryd.results16, go_sem, gotV]) rfl ⟨rfl, (Below.refl _ _).alloc (Nat.le_refl _) _⟩
  rcases Bool.eq_false_or_eq_true ((s[p].toNat : Int) == 13) with h13 | h13
  · have hbl : blankB (s[p].toNat : Int) = true := by simp only [blankB, h32, h9, h10, h13, Bool.or_true, Bool.true_or, Bool.false_or]
    obtain rfl : V = gotV 0 0 ⟨#[]⟩ 0 true ((p : Int) + 1) 0 0 := by rw [← HV.out, hbl]; rfl
    clear hbl F dig let'
    go_enter Tryd.func16, Tryd.ntmps16
    go_wp2_with fail
    exact bodyPost_ret (v := gotV 0 0 ⟨#[]⟩ 0 true ((p : Int) + 1) 0 0) (by simp [results, Tryd.results16, go_sem, gotV]) rfl ⟨rfl, (Below.refl _ _).alloc (Nat.le_refl _) _⟩
  have hbl : blankB (s[p].toNat : Int) = false := by simp only [blankB, h32, h9, h10, h13, Bool.or_self]
  rcases Bool.eq_false_or_eq_true ((s[p].toNat : Int) == 59) with h59 | h59
  · have HN : Asd (∃ N, N = runN notNl (rest s p)) := ⟨_, rfl⟩
    obtain ⟨N, hN⟩ := HN.out
    clear HN
    have HN := Asd.mk hN
    have hNle : p + N ≤ s.size := by have := runN_le notNl (rest s p); rw [rest_len] at this; omega
    obtain rfl : V = gotV 0 0 ⟨#[]⟩ 0 true ((p : Int) + (N : Int)) 0 0 := by rw [← HV.out, hbl, h59, hN]; rfl
    clear hbl hN
    go_enter Tryd.func16, Tryd.ntmps16
    go_wp2_with fail
    generalize (w.alloc (.cells #[.int .i64 0, .int .i64 0, .string ⟨#[]⟩, .int .i64 0, .bool false, .int .i64 0, .int .i64 0, .int .i64 0] 47)) = W at F ⊢
    go_loop [6] (fun v6 => ∃ k : Nat, v6 = .int .i64 ((p : Int) + (k : Int)) ∧ p + k ≤ s.size ∧ k + runN notNl (rest s (p + k)) = N) (fun v6 => s.size - (intOf v6).toNat)
    case atStart => exact ⟨0, by simp, by omega, by rw [Nat.add_zero, Nat.zero_add]; exact HN.out.symm⟩
    case round =>
      obtain ⟨k, rfl, hk, hr⟩ := hrel
      obtain ⟨m, hm⟩ : ∃ m, m = p + k := ⟨_, rfl⟩
      have hmi : (p : Int) + (k : Int) = (m : Int) := by omega
      rw [hmi]
      rw [← hm] at hr hk
      have HM := Asd.mk (And.intro hm hr)
      clear hm hr hmi
      by_cases hlt : m < s.size
      · rcases Bool.eq_false_or_eq_true ((s[m].toNat : Int) != 10) with hq | hq
        · have HX : Asd (notNl (s[m].toNat : Int) = true) := ⟨hq⟩
          go_wp2_with fail
          go_round
          case rel => exact ⟨k + 1, by have := HM.out.1; exact congrArg (Value.int .i64) (by omega), by have := HM.out.1; omega, by
            have h1 := HM.out.2
            rw [rest_lt s m hlt, runN, if_pos HX.out] at h1
            rw [← Nat.add_assoc, ← HM.out.1]
            omega⟩
          case measure => simp [intOf]; omega
        · have HX : Asd (notNl (s[m].toNat : Int) = false) := ⟨hq⟩
          have HMN : Asd ((m : Int) = (p : Int) + (N : Int)) := ⟨by
            have h1 := HM.out.2
            rw [rest_lt s m hlt, runN, if_neg (by rw [HX.out]; simp)] at h1
            have := HM.out.1
            omega⟩
          have hz5 := F.out.blk
          have z0 : W.cell? ⟨w.heap.size, 0, none⟩ = some (.int .i64 0) := cell_of hz5 0
          have z1 : W.cell? ⟨w.heap.size, 1, none⟩ = some (.int .i64 0) := cell_of hz5 1
          have z2 : W.cell? ⟨w.heap.size, 2, none⟩ = some (.string ⟨#[]⟩) := cell_of hz5 2
          have z3 : W.cell? ⟨w.heap.size, 3, none⟩ = some (.int .i64 0) := cell_of hz5 3
          have z4 : W.cell? ⟨w.heap.size, 4, none⟩ = some (.bool false) := cell_of hz5 4
          have z5 : W.cell? ⟨w.heap.size, 5, none⟩ = some (.int .i64 0) := cell_of hz5 5
          have z6 : W.cell? ⟨w.heap.size, 6, none⟩ = some (.int .i64 0) := cell_of hz5 6
          have z7 : W.cell? ⟨w.heap.size, 7, none⟩ = some (.int .i64 0) := cell_of hz5 7
          have f0 : W.frozen? ⟨w.heap.size, 0, none⟩ = false := free_of hz5 0
          have f1 : W.frozen? ⟨w.heap.size, 1, none⟩ = false := free_of hz5 1
          have f2 : W.frozen? ⟨w.heap.size, 2, none⟩ = false := free_of hz5 2
          have f3 : W.frozen? ⟨w.heap.size, 3, none⟩ = false := free_of hz5 3
          have f4 : W.frozen? ⟨w.heap.size, 4, none⟩ = false := free_of hz5 4
          have f5 : W.frozen? ⟨w.heap.size, 5, none⟩ = false := free_of hz5 5
          have f6 : W.frozen? ⟨w.heap.size, 6, none⟩ = false := free_of hz5 6
          have f7 : W.frozen? ⟨w.heap.size, 7, none⟩ = false := free_of hz5 7
          clear hz5
          go_wp2_with fail
          refine got_ret F.out.below F.out.blk rfl ?_
          intro Wf hR y0 y1 y2 y3 y4 y5 y6 y7
          exact bodyPost_ret (v := gotV 0 0 (⟨#[]⟩) 0 true ((p : Int) + (N : Int)) 0 0) (by simp [results, Tryd.results16, go_sem, y0, y1, y2, y3, y4, y5, y6, y7, gotV, HMN.out]) rfl ⟨rfl, hR⟩
      · have HMN : Asd ((m : Int) = (p : Int) + (N : Int)) := ⟨by
          have h1 := HM.out.2
          rw [rest_end s m (by omega), runN] at h1
          have := HM.out.1
          omega⟩
        have hz5 := F.out.blk
        have z0 : W.cell? ⟨w.heap.size, 0, none⟩ = some (.int .i64 0) := cell_of hz5 0
        have z1 : W.cell? ⟨w.heap.size, 1, none⟩ = some (.int .i64 0) := cell_of hz5 1
        have z2 : W.cell? ⟨w.heap.size, 2, none⟩ = some (.string ⟨#[]⟩) := cell_of hz5 2
        have z3 : W.cell? ⟨w.heap.size, 3, none⟩ = some (.int .i64 0) := cell_of hz5 3
        have z4 : W.cell? ⟨w.heap.size, 4, none⟩ = some (.bool false) := cell_of hz5 4
        have z5 : W.cell? ⟨w.heap.size, 5, none⟩ = some (.int .i64 0) := cell_of hz5 5
        have z6 : W.cell? ⟨w.heap.size, 6, none⟩ = some (.int .i64 0) := cell_of hz5 6
        have z7 : W.cell? ⟨w.heap.size, 7, none⟩ = some (.int .i64 0) := cell_of hz5 7
        have f0 : W.frozen? ⟨w.heap.size, 0, none⟩ = false := free_of hz5 0
        have f1 : W.frozen? ⟨w.heap.size, 1, none⟩ = false := free_of hz5 1
        have f2 : W.frozen? ⟨w.heap.size, 2, none⟩ = false := free_of hz5 2
        have f3 : W.frozen? ⟨w.heap.size, 3, none⟩ = false := free_of hz5 3
        have f4 : W.frozen? ⟨w.heap.size, 4, none⟩ = false := free_of hz5 4
        have f5 : W.frozen? ⟨w.heap.size, 5, none⟩ = false := free_of hz5 5
        have f6 : W.frozen? ⟨w.heap.size, 6, none⟩ = false := free_of hz5 6
        have f7 : W.frozen? ⟨w.heap.size, 7, none⟩ = false := free_of hz5 7
        clear hz5
        go_wp2_with fail
        refine got_ret F.out.below F.out.blk rfl ?_
        intro Wf hR y0 y1 y2 y3 y4 y5 y6 y7
        exact bodyPost_ret (v := gotV 0 0 (⟨#[]⟩) 0 true ((p : Int) + (N : Int)) 0 0) (by simp [results, Tryd.results16, go_sem, y0, y1, y2, y3, y4, y5, y6, y7, gotV, HMN.out]) rfl ⟨rfl, hR⟩
  have hV2 : V = gotOf (itemI (rest s p)) p := by rw [← HV.out, hbl, h59]; rfl
  unfold itemI at hV2
  rw [HB0.out] at hV2
  have HV2 := Asd.mk hV2
  clear hV2 hbl HV
  rcases Bool.eq_false_or_eq_true (digB (s[p].toNat : Int)) with hd | hd
  · have HI : Asd (V = gotOf (numI (rest s p)) p) := ⟨by rw [HV2.out, hd]; rfl⟩
    have HD := Asd.mk hd
    rw [hd] at dig
    clear HV2 hd
    obtain ⟨gk, gn, gt, ga, gto, ge, gat, hform⟩ := gotOf_form (numI (rest s p)) p
    have X := Asd.mk (fun w => rnumber_any s p w HS.out hp HD.out)
    rw [hform] at X
    have HF : Asd (V = gotV gk gn gt ga false gto ge gat) := ⟨by rw [← hform]; exact HI.out⟩
    clear hform HI
    obtain rfl := HF.out
    clear HF
    go_enter Tryd.func16, Tryd.ntmps16
    go_wp2_with fail
    generalize (w.alloc (.cells #[.int .i64 0, .int .i64 0, .string ⟨#[]⟩, .int .i64 0, .bool false, .int .i64 0, .int .i64 0, .int .i64 0] 47)) = W at F ⊢
    refine (dig.out _).mono ?_
    rintro e w1 ⟨rfl, rfl⟩
    go_wp2_with fail
    refine (X.out _).mono ?_
    rintro e w5 ⟨rfl, hb5⟩
    have G5 := Asd.mk (F.out.step hb5)
    have hz5 := G5.out.blk
    have z0 : w5.cell? ⟨w.heap.size, 0, none⟩ = some (.int .i64 0) := cell_of hz5 0
    have z1 : w5.cell? ⟨w.heap.size, 1, none⟩ = some (.int .i64 0) := cell_of hz5 1
    have z2 : w5.cell? ⟨w.heap.size, 2, none⟩ = some (.string ⟨#[]⟩) := cell_of hz5 2
    have z3 : w5.cell? ⟨w.heap.size, 3, none⟩ = some (.int .i64 0) := cell_of hz5 3
    have z4 : w5.cell? ⟨w.heap.size, 4, none⟩ = some (.bool false) := cell_of hz5 4
    have z5 : w5.cell? ⟨w.heap.size, 5, none⟩ = some (.int .i64 0) := cell_of hz5 5
    have z6 : w5.cell? ⟨w.heap.size, 6, none⟩ = some (.int .i64 0) := cell_of hz5 6
    have z7 : w5.cell? ⟨w.heap.size, 7, none⟩ = some (.int .i64 0) := cell_of hz5 7
    have f0 : w5.frozen? ⟨w.heap.size, 0, none⟩ = false := free_of hz5 0
    have f1 : w5.frozen? ⟨w.heap.size, 1, none⟩ = false := free_of hz5 1
    have f2 : w5.frozen? ⟨w.heap.size, 2, none⟩ = false := free_of hz5 2
    have f3 : w5.frozen? ⟨w.heap.size, 3, none⟩ = false := free_of hz5 3
    have f4 : w5.frozen? ⟨w.heap.size, 4, none⟩ = false := free_of hz5 4
    have f5 : w5.frozen? ⟨w.heap.size, 5, none⟩ = false := free_of hz5 5
    have f6 : w5.frozen? ⟨w.heap.size, 6, none⟩ = false := free_of hz5 6
    have f7 : w5.frozen? ⟨w.heap.size, 7, none⟩ = false := free_of hz5 7
    clear hz5 hb5
    unfold gotV
    go_wp2_with fail
    refine got_ret G5.out.below G5.out.blk rfl ?_
    intro Wf hR y0 y1 y2 y3 y4 y5 y6 y7
    exact bodyPost_ret (v := gotV gk gn gt ga false gto ge gat) (by simp [results, Tryd.results16, go_sem, y0, y1, y2, y3, y4, y5, y6, y7, gotV]) rfl ⟨rfl, hR⟩
  rw [hd] at dig HV2
  simp only [Bool.false_eq_true, if_false] at HV2
  rcases Bool.eq_false_or_eq_true (letB (s[p].toNat : Int)) with hl | hl
  · have HI : Asd (V = gotOf (wordI (rest s p)) p) := ⟨by rw [HV2.out, hl]; rfl⟩
    have ha : alnB (s[p].toNat : Int) = true := by unfold alnB; rw [hl]; rfl
    rw [ha] at let'
    clear HV2 hd hl ha
    obtain ⟨gk, gn, gt, ga, gto, ge, gat, hform⟩ := gotOf_form (wordI (rest s p)) p
    have X := Asd.mk (fun w => rword_any s p w HS.out hp)
    rw [hform] at X
    have HF : Asd (V = gotV gk gn gt ga false gto ge gat) := ⟨by rw [← hform]; exact HI.out⟩
    clear hform HI
    obtain rfl := HF.out
    clear HF
    go_enter Tryd.func16, Tryd.ntmps16
    go_wp2_with fail
    generalize (w.alloc (.cells #[.int .i64 0, .int .i64 0, .string ⟨#[]⟩, .int .i64 0, .bool false, .int .i64 0, .int .i64 0, .int .i64 0] 47)) = W at F ⊢
    refine (dig.out _).mono ?_
    rintro e w1 ⟨rfl, rfl⟩
    go_wp2_with fail
    refine (let'.out _).mono ?_
    rintro e w1 ⟨rfl, rfl⟩
    go_wp2_with fail
    refine (X.out _).mono ?_
    rintro e w5 ⟨rfl, hb5⟩
    have G5 := Asd.mk (F.out.step hb5)
    have hz5 := G5.out.blk
    have z0 : w5.cell? ⟨w.heap.size, 0, none⟩ = some (.int .i64 0) := cell_of hz5 0
    have z1 : w5.cell? ⟨w.heap.size, 1, none⟩ = some (.int .i64 0) := cell_of hz5 1
    have z2 : w5.cell? ⟨w.heap.size, 2, none⟩ = some (.string ⟨#[]⟩) := cell_of hz5 2
    have z3 : w5.cell? ⟨w.heap.size, 3, none⟩ = some (.int .i64 0) := cell_of hz5 3
    have z4 : w5.cell? ⟨w.heap.size, 4, none⟩ = some (.bool false) := cell_of hz5 4
    have z5 : w5.cell? ⟨w.heap.size, 5, none⟩ = some (.int .i64 0) := cell_of hz5 5
    have z6 : w5.cell? ⟨w.heap.size, 6, none⟩ = some (.int .i64 0) := cell_of hz5 6
    have z7 : w5.cell? ⟨w.heap.size, 7, none⟩ = some (.int .i64 0) := cell_of hz5 7
    have f0 : w5.frozen? ⟨w.heap.size, 0, none⟩ = false := free_of hz5 0
    have f1 : w5.frozen? ⟨w.heap.size, 1, none⟩ = false := free_of hz5 1
    have f2 : w5.frozen? ⟨w.heap.size, 2, none⟩ = false := free_of hz5 2
    have f3 : w5.frozen? ⟨w.heap.size, 3, none⟩ = false := free_of hz5 3
    have f4 : w5.frozen? ⟨w.heap.size, 4, none⟩ = false := free_of hz5 4
    have f5 : w5.frozen? ⟨w.heap.size, 5, none⟩ = false := free_of hz5 5
    have f6 : w5.frozen? ⟨w.heap.size, 6, none⟩ = false := free_of hz5 6
    have f7 : w5.frozen? ⟨w.heap.size, 7, none⟩ = false := free_of hz5 7
    clear hz5 hb5
    unfold gotV
    go_wp2_with fail
    refine got_ret G5.out.below G5.out.blk rfl ?_
    intro Wf hR y0 y1 y2 y3 y4 y5 y6 y7
    exact bodyPost_ret (v := gotV gk gn gt ga false gto ge gat) (by simp [results, Tryd.results16, go_sem, y0, y1, y2, y3, y4, y5, y6, y7, gotV]) rfl ⟨rfl, hR⟩
  rw [hl] at HV2
  simp only [Bool.false_eq_true, if_false] at HV2
  have ha : alnB (s[p].toNat : Int) = false := by unfold alnB; rw [hl, hd]; rfl
  rw [ha] at let'
  clear ha hd hl
  rcases Bool.eq_false_or_eq_true ((s[p].toNat : Int) == 34) with h34 | h34
  · have HI : Asd (V = gotOf (textI (rest s p)) p) := ⟨by rw [HV2.out, h34]; rfl⟩
    clear HV2
    obtain ⟨gk, gn, gt, ga, gto, ge, gat, hform⟩ := gotOf_form (textI (rest s p)) p
    have X := Asd.mk (fun w => rtext_any s p w hs hp)
    rw [hform] at X
    have HF : Asd (V = gotV gk gn gt ga false gto ge gat) := ⟨by rw [← hform]; exact HI.out⟩
    clear hform HI
    obtain rfl := HF.out
    clear HF
    go_enter Tryd.func16, Tryd.ntmps16
    go_wp2_with fail
    generalize (w.alloc (.cells #[.int .i64 0, .int .i64 0, .string ⟨#[]⟩, .int .i64 0, .bool false, .int .i64 0, .int .i64 0, .int .i64 0] 47)) = W at F ⊢
    refine (dig.out _).mono ?_
    rintro e w1 ⟨rfl, rfl⟩
    go_wp2_with fail
    refine (let'.out _).mono ?_
    rintro e w1 ⟨rfl, rfl⟩
    go_wp2_with fail
    refine (X.out _).mono ?_
    rintro e w5 ⟨rfl, hb5⟩
    have G5 := Asd.mk (F.out.step hb5)
    have hz5 := G5.out.blk
    have z0 : w5.cell? ⟨w.heap.size, 0, none⟩ = some (.int .i64 0) := cell_of hz5 0
    have z1 : w5.cell? ⟨w.heap.size, 1, none⟩ = some (.int .i64 0) := cell_of hz5 1
    have z2 : w5.cell? ⟨w.heap.size, 2, none⟩ = some (.string ⟨#[]⟩) := cell_of hz5 2
    have z3 : w5.cell? ⟨w.heap.size, 3, none⟩ = some (.int .i64 0) := cell_of hz5 3
    have z4 : w5.cell? ⟨w.heap.size, 4, none⟩ = some (.bool false) := cell_of hz5 4
    have z5 : w5.cell? ⟨w.heap.size, 5, none⟩ = some (.int .i64 0) := cell_of hz5 5
    have z6 : w5.cell? ⟨w.heap.size, 6, none⟩ = some (.int .i64 0) := cell_of hz5 6
    have z7 : w5.cell? ⟨w.heap.size, 7, none⟩ = some (.int .i64 0) := cell_of hz5 7
    have f0 : w5.frozen? ⟨w.heap.size, 0, none⟩ = false := free_of hz5 0
    have f1 : w5.frozen? ⟨w.heap.size, 1, none⟩ = false := free_of hz5 1
    have f2 : w5.frozen? ⟨w.heap.size, 2, none⟩ = false := free_of hz5 2
    have f3 : w5.frozen? ⟨w.heap.size, 3, none⟩ = false := free_of hz5 3
    have f4 : w5.frozen? ⟨w.heap.size, 4, none⟩ = false := free_of hz5 4
    have f5 : w5.frozen? ⟨w.heap.size, 5, none⟩ = false := free_of hz5 5
    have f6 : w5.frozen? ⟨w.heap.size, 6, none⟩ = false := free_of hz5 6
    have f7 : w5.frozen? ⟨w.heap.size, 7, none⟩ = false := free_of hz5 7
    clear hz5 hb5
    unfold gotV
    go_wp2_with fail
    refine got_ret G5.out.below G5.out.blk rfl ?_
    intro Wf hR y0 y1 y2 y3 y4 y5 y6 y7
    exact bodyPost_ret (v := gotV gk gn gt ga false gto ge gat) (by simp [results, Tryd.results16, go_sem, y0, y1, y2, y3, y4, y5, y6, y7, gotV]) rfl ⟨rfl, hR⟩
  · have HI : Asd (V = gotOf (signI (rest s p)) p) := ⟨by rw [HV2.out, h34]; rfl⟩
    clear HV2
    obtain ⟨gk, gn, gt, ga, gto, ge, gat, hform⟩ := gotOf_form (signI (rest s p)) p
    have X := Asd.mk (fun w => rsign_any s p w hs hp)
    rw [hform] at X
    have HF : Asd (V = gotV gk gn gt ga false gto ge gat) := ⟨by rw [← hform]; exact HI.out⟩
    clear hform HI
    obtain rfl := HF.out
    clear HF
    go_enter Tryd.func16, Tryd.ntmps16
    go_wp2_with fail
    generalize (w.alloc (.cells #[.int .i64 0, .int .i64 0, .string ⟨#[]⟩, .int .i64 0, .bool false, .int .i64 0, .int .i64 0, .int .i64 0] 47)) = W at F ⊢
    refine (dig.out _).mono ?_
    rintro e w1 ⟨rfl, rfl⟩
    go_wp2_with fail
    refine (let'.out _).mono ?_
    rintro e w1 ⟨rfl, rfl⟩
    go_wp2_with fail
    refine (X.out _).mono ?_
    rintro e w5 ⟨rfl, hb5⟩
    have G5 := Asd.mk (F.out.step hb5)
    have hz5 := G5.out.blk
    have z0 : w5.cell? ⟨w.heap.size, 0, none⟩ = some (.int .i64 0) := cell_of hz5 0
    have z1 : w5.cell? ⟨w.heap.size, 1, none⟩ = some (.int .i64 0) := cell_of hz5 1
    have z2 : w5.cell? ⟨w.heap.size, 2, none⟩ = some (.string ⟨#[]⟩) := cell_of hz5 2
    have z3 : w5.cell? ⟨w.heap.size, 3, none⟩ = some (.int .i64 0) := cell_of hz5 3
    have z4 : w5.cell? ⟨w.heap.size, 4, none⟩ = some (.bool false) := cell_of hz5 4
    have z5 : w5.cell? ⟨w.heap.size, 5, none⟩ = some (.int .i64 0) := cell_of hz5 5
    have z6 : w5.cell? ⟨w.heap.size, 6, none⟩ = some (.int .i64 0) := cell_of hz5 6
    have z7 : w5.cell? ⟨w.heap.size, 7, none⟩ = some (.int .i64 0) := cell_of hz5 7
    have f0 : w5.frozen? ⟨w.heap.size, 0, none⟩ = false := free_of hz5 0
    have f1 : w5.frozen? ⟨w.heap.size, 1, none⟩ = false := free_of hz5 1
    have f2 : w5.frozen? ⟨w.heap.size, 2, none⟩ = false := free_of hz5 2
    have f3 : w5.frozen? ⟨w.heap.size, 3, none⟩ = false := free_of hz5 3
    have f4 : w5.frozen? ⟨w.heap.size, 4, none⟩ = false := free_of hz5 4
    have f5 : w5.frozen? ⟨w.heap.size, 5, none⟩ = false := free_of hz5 5
    have f6 : w5.frozen? ⟨w.heap.size, 6, none⟩ = false := free_of hz5 6
    have f7 : w5.frozen? ⟨w.heap.size, 7, none⟩ = false := free_of hz5 7
    clear hz5 hb5
    unfold gotV
    go_wp2_with fail
    refine got_ret G5.out.below G5.out.blk rfl ?_
    intro Wf hR y0 y1 y2 y3 y4 y5 y6 y7
    exact bodyPost_ret (v := gotV gk gn gt ga false gto ge gat) (by simp [results, Tryd.results16, go_sem, y0, y1, y2, y3, y4, y5, y6, y7, gotV]) rfl ⟨rfl, hR⟩
end Go.Proofs.YtaebigakdfaogaaDoor
