/- (*reader).next. -/
import Derived.Test.YtaebigakdfaogaaDoorLexText
import Derived.Test.YtaebigakdfaogaaDoorLexSkip
namespace Go.Proofs.YtaebigakdfaogaaDoor
open Go.RowKit
def itemI (l : List UInt8) : It := if digB (bI l 0) = true then numI l else if letB (bI l 0) = true then wordI l else if (bI l 0 == 34) = true then textI l else signI l
def itemE (l : List UInt8) : It := if l.length = 0 then .tok 0 0 [] 0 else itemI l
theorem ItP_form {it : It} {b : Nat} {s : ByteArray} {p : Nat} {w w' : World} {e : Ending} (h : ItP it b s p w e w') :
    ∃ k n t a ev q, e = .returned (.tuple #[.agg #[.int .i64 k, .int .i64 n, .string t, .int .i64 a], ev]) ∧ Rd b s q w w' ∧
      ∀ w0 w1, Rd b s q w0 w1 → ItP it b s p w0 (.returned (.tuple #[.agg #[.int .i64 k, .int .i64 n, .string t, .int .i64 a], ev])) w1 := by
  cases it with
  | tok k n t wd => exact ⟨k, n, _, p, _, _, h.1, h.2, fun w0 w1 hr => ⟨rfl, hr⟩⟩
  | bad c o =>
    obtain ⟨he, q, hr⟩ := h
    exact ⟨0, 0, _, 0, _, q, he, hr, fun w0 w1 hr => ⟨rfl, q, hr⟩⟩

set_option maxRecDepth 8000 in
set_option maxHeartbeats 2000000 in
theorem next_any (b : Nat) (s : ByteArray) (p q : Nat) (w : World) (hs : s.size ≤ maxLen) (hp : p ≤ s.size) (hq : q = p + gapN false (rest s p)) (h : Rd b s p w w) :
    Calls Tryd.prog 15 #[.pointer (some ⟨b, 0, none⟩)] w fun e w' => ItP (itemE (rest s q)) b s q w e w' := by
  have hqs : q ≤ s.size := by have := gap_le false (rest s p); rw [rest_len] at this; omega
  have F := Asd.mk (tok_start b s p w h _ rfl)
  have HS := Asd.mk hs
  have HP := Asd.mk hp
  have HQ := Asd.mk hq
  have hbl := h.lt
  clear h hq hp
  unfold maxLen at hs
  generalize hI : itemE (rest s q) = I
  have HI := Asd.mk hI
  clear hI
  go_enter Tryd.func15, Tryd.ntmps15
  go_wp2_with fail
  generalize w.alloc (.cells #[.int .i64 0, .int .i64 0, .string ⟨#[]⟩, .int .i64 0] 37) = W at F ⊢
  refine (skip_any b s p W HS.out HP.out (Rd.refl F.out.1.here)).mono ?_
  rintro e w4 ⟨rfl, hrd⟩
  rw [← HQ.out] at hrd
  have hz := hrd.blk (k := w.heap.size) (by omega) F.out.2
  have E := Asd.mk (And.intro (F.out.1.trans hrd) hz)
  have c0 := hrd.c0
  have c1 := hrd.c1
  clear hrd F hz
  by_cases hlt : q < s.size
  · have hlen : (rest s q).length = s.size - q := rest_len s q
    have hI2 : I = itemI (rest s q) := by rw [← HI.out]; unfold itemE; rw [if_neg (by omega)]
    have hb0 : bI (rest s q) 0 = (s[q].toNat : Int) := by rw [rest_lt s q hlt]; rfl
    unfold itemI at hI2
    rw [hb0] at hI2
    have HI2 := Asd.mk hI2
    clear hI2 hb0 HI hlen
    have hne : ((q : Int) == (s.size : Int)) = false := by rw [beq_eq_false_iff_ne]; omega
    have hne2 : (q == s.size) = false := by rw [beq_eq_false_iff_ne]; omega
    have dig := Asd.mk (fun w => ldigit_any (s[q].toNat : Int) w)
    have let' := Asd.mk (fun w => lletter_any (s[q].toNat : Int) w)
    have hqi : (q : Int) ≤ (s.size : Int) := by omega
    rcases Bool.eq_false_or_eq_true (digB (s[q].toNat : Int)) with hd | hd
    · obtain rfl : I = numI (rest s q) := by rw [HI2.out, hd]; rfl
      rw [hd] at dig
      clear HI2 hd
      go_wp2_with fail
      go_quiet (fail)
      obtain ⟨w5, hw5⟩ : ∃ w5, w5 = w4.drewN nq := ⟨_, rfl⟩
      rw [← hw5]
      have E5 := Asd.mk (And.intro (show Rd b s q w w5 by rw [hw5]; exact E.out.1.drewN nq) (show w5.heap[w.heap.size]? = some (.cells zeroTok 37 (0, 0)) by rw [hw5]; exact E.out.2))
      clear hw5 c0 c1
      have c0 := E5.out.1.c0
      have c1 := E5.out.1.c1
      go_wp2_with fail
      go_quiet (fail)
      obtain ⟨w6, hw6⟩ : ∃ w6, w6 = w5.drewN nq := ⟨_, rfl⟩
      rw [← hw6]
      have G := Asd.mk (And.intro (show Rd b s q w w6 by rw [hw6]; exact E5.out.1.drewN nq) (show w6.heap[w.heap.size]? = some (.cells zeroTok 37 (0, 0)) by rw [hw6]; exact E5.out.2))
      clear hw6 c0 c1
      go_wp2_with fail
      refine (dig.out _).mono ?_
      rintro e w5 ⟨rfl, rfl⟩
      go_wp2_with fail
      refine (number_any b s q _ HS.out hqs (Rd.refl G.out.1.here)).mono ?_
      rintro e w6 hP
      obtain ⟨tk, tn, tt, ta, ev, q2, rfl, hR6, hfin⟩ := ItP_form hP
      have E6 := Asd.mk (And.intro (Rd.trans G.out.1 hR6) (hR6.blk (k := w.heap.size) (by omega) G.out.2))
      have HF := Asd.mk hfin
      clear hP hR6 hfin
      have hz6 := E6.out.2
      have z0 : w6.cell? ⟨w.heap.size, 0, none⟩ = some (.int .i64 0) := cell_of hz6 0
      have z1 : w6.cell? ⟨w.heap.size, 1, none⟩ = some (.int .i64 0) := cell_of hz6 1
      have z2 : w6.cell? ⟨w.heap.size, 2, none⟩ = some (.string ⟨#[]⟩) := cell_of hz6 2
      have z3 : w6.cell? ⟨w.heap.size, 3, none⟩ = some (.int .i64 0) := cell_of hz6 3
      have f0 : w6.frozen? ⟨w.heap.size, 0, none⟩ = false := free_of hz6 0
      have f1 : w6.frozen? ⟨w.heap.size, 1, none⟩ = false := free_of hz6 1
      have f2 : w6.frozen? ⟨w.heap.size, 2, none⟩ = false := free_of hz6 2
      have f3 : w6.frozen? ⟨w.heap.size, 3, none⟩ = false := free_of hz6 3
      clear hz6
      go_wp2_with fail
      refine tok_ret E6.out.1 E6.out.2 rfl ?_
      intro Wf hR y0 y1 y2 y3
      exact bodyPost_ret (v := .tuple #[.agg #[.int .i64 tk, .int .i64 tn, .string tt, .int .i64 ta], ev]) (by simp [results, Tryd.results15, go_sem, y0, y1, y2, y3]) rfl (HF.out _ _ hR)
    rw [hd] at dig HI2
    simp only [Bool.false_eq_true, if_false] at HI2
    rcases Bool.eq_false_or_eq_true (letB (s[q].toNat : Int)) with hl | hl
    · obtain rfl : I = wordI (rest s q) := by rw [HI2.out, hl]; rfl
      rw [hl] at let'
      clear HI2 hl hd
      go_wp2_with fail
      go_quiet (fail)
      obtain ⟨w5, hw5⟩ : ∃ w5, w5 = w4.drewN nq := ⟨_, rfl⟩
      rw [← hw5]
      have E5 := Asd.mk (And.intro (show Rd b s q w w5 by rw [hw5]; exact E.out.1.drewN nq) (show w5.heap[w.heap.size]? = some (.cells zeroTok 37 (0, 0)) by rw [hw5]; exact E.out.2))
      clear hw5 c0 c1
      have c0 := E5.out.1.c0
      have c1 := E5.out.1.c1
      go_wp2_with fail
      go_quiet (fail)
      obtain ⟨w6, hw6⟩ : ∃ w6, w6 = w5.drewN nq := ⟨_, rfl⟩
      rw [← hw6]
      have G := Asd.mk (And.intro (show Rd b s q w w6 by rw [hw6]; exact E5.out.1.drewN nq) (show w6.heap[w.heap.size]? = some (.cells zeroTok 37 (0, 0)) by rw [hw6]; exact E5.out.2))
      clear hw6 c0 c1
      go_wp2_with fail
      refine (dig.out _).mono ?_
      rintro e w5 ⟨rfl, rfl⟩
      go_wp2_with fail
      refine (let'.out _).mono ?_
      rintro e w5 ⟨rfl, rfl⟩
      go_wp2_with fail
      refine (word_any b s q _ HS.out hqs (Rd.refl G.out.1.here)).mono ?_
      rintro e w6 hP
      obtain ⟨tk, tn, tt, ta, ev, q2, rfl, hR6, hfin⟩ := ItP_form hP
      have E6 := Asd.mk (And.intro (Rd.trans G.out.1 hR6) (hR6.blk (k := w.heap.size) (by omega) G.out.2))
      have HF := Asd.mk hfin
      clear hP hR6 hfin
      have hz6 := E6.out.2
      have z0 : w6.cell? ⟨w.heap.size, 0, none⟩ = some (.int .i64 0) := cell_of hz6 0
      have z1 : w6.cell? ⟨w.heap.size, 1, none⟩ = some (.int .i64 0) := cell_of hz6 1
      have z2 : w6.cell? ⟨w.heap.size, 2, none⟩ = some (.string ⟨#[]⟩) := cell_of hz6 2
      have z3 : w6.cell? ⟨w.heap.size, 3, none⟩ = some (.int .i64 0) := cell_of hz6 3
      have f0 : w6.frozen? ⟨w.heap.size, 0, none⟩ = false := free_of hz6 0
      have f1 : w6.frozen? ⟨w.heap.size, 1, none⟩ = false := free_of hz6 1
      have f2 : w6.frozen? ⟨w.heap.size, 2, none⟩ = false := free_of hz6 2
      have f3 : w6.frozen? ⟨w.heap.size, 3, none⟩ = false := free_of hz6 3
      clear hz6
      go_wp2_with fail
      refine tok_ret E6.out.1 E6.out.2 rfl ?_
      intro Wf hR y0 y1 y2 y3
      exact bodyPost_ret (v := .tuple #[.agg #[.int .i64 tk, .int .i64 tn, .string tt, .int .i64 ta], ev]) (by simp [results, Tryd.results15, go_sem, y0, y1, y2, y3]) rfl (HF.out _ _ hR)
    rw [hl] at let' HI2
    simp only [Bool.false_eq_true, if_false] at HI2
    rcases Bool.eq_false_or_eq_true ((s[q].toNat : Int) == 34) with h34 | h34
    · obtain rfl : I = textI (rest s q) := by rw [HI2.out, h34]; rfl
      clear HI2 hl hd
      go_wp2_with fail
      go_quiet (fail)
      obtain ⟨w5, hw5⟩ : ∃ w5, w5 = w4.drewN nq := ⟨_, rfl⟩
      rw [← hw5]
      have E5 := Asd.mk (And.intro (show Rd b s q w w5 by rw [hw5]; exact E.out.1.drewN nq) (show w5.heap[w.heap.size]? = some (.cells zeroTok 37 (0, 0)) by rw [hw5]; exact E.out.2))
      clear hw5 c0 c1
      have c0 := E5.out.1.c0
      have c1 := E5.out.1.c1
      go_wp2_with fail
      go_quiet (fail)
      obtain ⟨w6, hw6⟩ : ∃ w6, w6 = w5.drewN nq := ⟨_, rfl⟩
      rw [← hw6]
      have G := Asd.mk (And.intro (show Rd b s q w w6 by rw [hw6]; exact E5.out.1.drewN nq) (show w6.heap[w.heap.size]? = some (.cells zeroTok 37 (0, 0)) by rw [hw6]; exact E5.out.2))
      clear hw6 c0 c1
      go_wp2_with fail
      refine (dig.out _).mono ?_
      rintro e w5 ⟨rfl, rfl⟩
      go_wp2_with fail
      refine (let'.out _).mono ?_
      rintro e w5 ⟨rfl, rfl⟩
      go_wp2_with fail
      refine (text_any b s q _ HS.out hlt (Rd.refl G.out.1.here)).mono ?_
      rintro e w6 hP
      obtain ⟨tk, tn, tt, ta, ev, q2, rfl, hR6, hfin⟩ := ItP_form hP
      have E6 := Asd.mk (And.intro (Rd.trans G.out.1 hR6) (hR6.blk (k := w.heap.size) (by omega) G.out.2))
      have HF := Asd.mk hfin
      clear hP hR6 hfin
      have hz6 := E6.out.2
      have z0 : w6.cell? ⟨w.heap.size, 0, none⟩ = some (.int .i64 0) := cell_of hz6 0
      have z1 : w6.cell? ⟨w.heap.size, 1, none⟩ = some (.int .i64 0) := cell_of hz6 1
      have z2 : w6.cell? ⟨w.heap.size, 2, none⟩ = some (.string ⟨#[]⟩) := cell_of hz6 2
      have z3 : w6.cell? ⟨w.heap.size, 3, none⟩ = some (.int .i64 0) := cell_of hz6 3
      have f0 : w6.frozen? ⟨w.heap.size, 0, none⟩ = false := free_of hz6 0
      have f1 : w6.frozen? ⟨w.heap.size, 1, none⟩ = false := free_of hz6 1
      have f2 : w6.frozen? ⟨w.heap.size, 2, none⟩ = false := free_of hz6 2
      have f3 : w6.frozen? ⟨w.heap.size, 3, none⟩ = false := free_of hz6 3
      clear hz6
      go_wp2_with fail
      refine tok_ret E6.out.1 E6.out.2 rfl ?_
      intro Wf hR y0 y1 y2 y3
      exact bodyPost_ret (v := .tuple #[.agg #[.int .i64 tk, .int .i64 tn, .string tt, .int .i64 ta], ev]) (by simp [results, Tryd.results15, go_sem, y0, y1, y2, y3]) rfl (HF.out _ _ hR)
    · obtain rfl : I = signI (rest s q) := by rw [HI2.out, h34]; rfl
      clear HI2 hl hd
      go_wp2_with fail
      go_quiet (fail)
      obtain ⟨w5, hw5⟩ : ∃ w5, w5 = w4.drewN nq := ⟨_, rfl⟩
      rw [← hw5]
      have E5 := Asd.mk (And.intro (show Rd b s q w w5 by rw [hw5]; exact E.out.1.drewN nq) (show w5.heap[w.heap.size]? = some (.cells zeroTok 37 (0, 0)) by rw [hw5]; exact E.out.2))
      clear hw5 c0 c1
      have c0 := E5.out.1.c0
      have c1 := E5.out.1.c1
      go_wp2_with fail
      go_quiet (fail)
      obtain ⟨w6, hw6⟩ : ∃ w6, w6 = w5.drewN nq := ⟨_, rfl⟩
      rw [← hw6]
      have G := Asd.mk (And.intro (show Rd b s q w w6 by rw [hw6]; exact E5.out.1.drewN nq) (show w6.heap[w.heap.size]? = some (.cells zeroTok 37 (0, 0)) by rw [hw6]; exact E5.out.2))
      clear hw6 c0 c1
      go_wp2_with fail
      refine (dig.out _).mono ?_
      rintro e w5 ⟨rfl, rfl⟩
      go_wp2_with fail
      refine (let'.out _).mono ?_
      rintro e w5 ⟨rfl, rfl⟩
      go_wp2_with fail
      refine (sign_any b s q _ HS.out hlt (Rd.refl G.out.1.here)).mono ?_
      rintro e w6 hP
      obtain ⟨tk, tn, tt, ta, ev, q2, rfl, hR6, hfin⟩ := ItP_form hP
      have E6 := Asd.mk (And.intro (Rd.trans G.out.1 hR6) (hR6.blk (k := w.heap.size) (by omega) G.out.2))
      have HF := Asd.mk hfin
      clear hP hR6 hfin
      have hz6 := E6.out.2
      have z0 : w6.cell? ⟨w.heap.size, 0, none⟩ = some (.int .i64 0) := cell_of hz6 0
      have z1 : w6.cell? ⟨w.heap.size, 1, none⟩ = some (.int .i64 0) := cell_of hz6 1
      have z2 : w6.cell? ⟨w.heap.size, 2, none⟩ = some (.string ⟨#[]⟩) := cell_of hz6 2
      have z3 : w6.cell? ⟨w.heap.size, 3, none⟩ = some (.int .i64 0) := cell_of hz6 3
      have f0 : w6.frozen? ⟨w.heap.size, 0, none⟩ = false := free_of hz6 0
      have f1 : w6.frozen? ⟨w.heap.size, 1, none⟩ = false := free_of hz6 1
      have f2 : w6.frozen? ⟨w.heap.size, 2, none⟩ = false := free_of hz6 2
      have f3 : w6.frozen? ⟨w.heap.size, 3, none⟩ = false := free_of hz6 3
      clear hz6
      go_wp2_with fail
      refine tok_ret E6.out.1 E6.out.2 rfl ?_
      intro Wf hR y0 y1 y2 y3
      exact bodyPost_ret (v := .tuple #[.agg #[.int .i64 tk, .int .i64 tn, .string tt, .int .i64 ta], ev]) (by simp [results, Tryd.results15, go_sem, y0, y1, y2, y3]) rfl (HF.out _ _ hR)
  · have hqq : q = s.size := by omega
    obtain rfl : I = .tok 0 0 [] 0 := by rw [← HI.out]; unfold itemE; rw [if_pos (by rw [rest_len]; omega)]
    have hne : ((q : Int) == (s.size : Int)) = true := by rw [beq_iff_eq]; omega
    have hne2 : (q == s.size) = true := by rw [beq_iff_eq]; omega
    have HX := Asd.mk hqq
    clear hqq HI
    go_wp2_with fail
    go_quiet (fail)
    clear hne hne2 c0 c1
    have E5 := Asd.mk (And.intro (E.out.1.drewN nq) (show (w4.drewN nq).heap[w.heap.size]? = some (.cells zeroTok 37 (0, 0)) from E.out.2))
    generalize w4.drewN nq = w5 at E5 ⊢
    have hz5 := E5.out.2
    have c1 := E5.out.1.c1
    have z0 : w5.cell? ⟨w.heap.size, 0, none⟩ = some (.int .i64 0) := cell_of hz5 0
    have z1 : w5.cell? ⟨w.heap.size, 1, none⟩ = some (.int .i64 0) := cell_of hz5 1
    have z2 : w5.cell? ⟨w.heap.size, 2, none⟩ = some (.string ⟨#[]⟩) := cell_of hz5 2
    have z3 : w5.cell? ⟨w.heap.size, 3, none⟩ = some (.int .i64 0) := cell_of hz5 3
    have f0 : w5.frozen? ⟨w.heap.size, 0, none⟩ = false := free_of hz5 0
    have f1 : w5.frozen? ⟨w.heap.size, 1, none⟩ = false := free_of hz5 1
    have f2 : w5.frozen? ⟨w.heap.size, 2, none⟩ = false := free_of hz5 2
    have f3 : w5.frozen? ⟨w.heap.size, 3, none⟩ = false := free_of hz5 3
    clear hz5
    go_wp2_with fail
    refine tok_ret E5.out.1 E5.out.2 rfl ?_
    intro Wf hR y0 y1 y2 y3
    exact bodyPost_ret (v := .tuple #[tokV 0 0 (bytesOf []) q, .nilIface]) (by simp [results, Tryd.results15, go_sem, y0, y1, y2, y3, tokV, bytesOf]) rfl ⟨rfl, hR⟩
end Go.Proofs.YtaebigakdfaogaaDoor
