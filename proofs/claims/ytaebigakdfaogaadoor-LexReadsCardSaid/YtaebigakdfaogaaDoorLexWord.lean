/- (*reader).word. -/
import Derived.Test.YtaebigakdfaogaaDoorLexNum
namespace Go.Proofs.YtaebigakdfaogaaDoor
open Go.RowKit
theorem bytesOf_self (T : ByteArray) : bytesOf T.data.toList = T := by
  apply ByteArray.ext
  simp [bytesOf]
def wordI (l : List UInt8) : It :=
  if 8 < runN alnB l then .bad 6 0
  else if (kindI (l.take (runN alnB l)) == 1 || kindI (l.take (runN alnB l)) == 3) = true then .tok 3 0 (l.take (runN alnB l)) (runN alnB l)
  else if (kindI (l.take (runN alnB l)) == 2 || kindI (l.take (runN alnB l)) == 4) = true then .tok 4 0 (l.take (runN alnB l)) (runN alnB l)
  else .bad 2 0
theorem wordI_T {l : List UInt8} {T : ByteArray} (h1 : T.size = runN alnB l) (h2 : T.data.toList = l.take T.size) :
    wordI l = if 8 < T.size then .bad 6 0 else if (kindI T.data.toList == 1 || kindI T.data.toList == 3) = true then .tok 3 0 T.data.toList T.size else if (kindI T.data.toList == 2 || kindI T.data.toList == 4) = true then .tok 4 0 T.data.toList T.size else .bad 2 0 := by
  unfold wordI
  rw [← h1, ← h2]
theorem tok_start (b : Nat) (s : ByteArray) (p : Nat) (w : World) (h : Rd b s p w w) (W : World) (hW : W = w.alloc (.cells #[.int .i64 0, .int .i64 0, .string ⟨#[]⟩, .int .i64 0] 37)) :
    Rd b s p w W ∧ W.heap[w.heap.size]? = some (.cells zeroTok 37 (0, 0)) := by
  subst hW
  exact ⟨h.alloc _, alloc_blk _ _⟩

set_option maxHeartbeats 1000000 in
theorem word_any (b : Nat) (s : ByteArray) (p : Nat) (w : World) (hs : s.size ≤ maxLen) (hp : p ≤ s.size) (h : Rd b s p w w) :
    Calls Tryd.prog 26 #[.pointer (some ⟨b, 0, none⟩)] w fun e w' => ItP (wordI (rest s p)) b s p w e w' := by
  generalize hI : wordI (rest s p) = I
  have HI := Asd.mk hI
  clear hI
  have F := Asd.mk (tok_start b s p w h _ rfl)
  have c1 := h.c1
  have hbl := h.lt
  clear h
  go_enter Tryd.func26, Tryd.ntmps26
  go_wp2_with fail
  generalize w.alloc (.cells #[.int .i64 0, .int .i64 0, .string ⟨#[]⟩, .int .i64 0] 37) = W at F ⊢
  refine ((take_word b s p W hs hp (Rd.refl F.out.1.here)).mono fun _ _ hh => takeP_of hh).mono ?_
  rintro e w4 ⟨T, rfl, hT1, hT2, hrd, hTs⟩
  have hz := hrd.blk (k := w.heap.size) (by omega) F.out.2
  have E := Asd.mk (And.intro (F.out.1.trans hrd) hz)
  have hI2 : I = if 8 < T.size then .bad 6 0 else if (kindI T.data.toList == 1 || kindI T.data.toList == 3) = true then .tok 3 0 T.data.toList T.size else if (kindI T.data.toList == 2 || kindI T.data.toList == 4) = true then .tok 4 0 T.data.toList T.size else .bad 2 0 := by rw [← HI.out, wordI_T hT1 hT2]
  have hTm : T.size ≤ maxLen := Nat.le_trans hTs hs
  have XX := Asd.mk (nkind_any T w4 hTm)
  clear hrd F hz hT1 hT2 HI
  unfold maxLen at hTm
  by_cases h8 : 8 < T.size
  · obtain rfl : I = .bad 6 0 := by rw [hI2, if_pos h8]
    clear hI2 XX
    go_wp2_with fail
    refine (failed_any 6 p _ rfl).mono ?_
    rintro e w6 ⟨rfl, hb6⟩
    have hz6 := below_blk hb6 (E.out.2)
    have E6 := Asd.mk (And.intro (Rd.below (E.out.1) hb6) hz6)
    have z0 : w6.cell? ⟨w.heap.size, 0, none⟩ = some (.int .i64 0) := cell_of hz6 0
    have z1 : w6.cell? ⟨w.heap.size, 1, none⟩ = some (.int .i64 0) := cell_of hz6 1
    have z2 : w6.cell? ⟨w.heap.size, 2, none⟩ = some (.string ⟨#[]⟩) := cell_of hz6 2
    have z3 : w6.cell? ⟨w.heap.size, 3, none⟩ = some (.int .i64 0) := cell_of hz6 3
    have f0 : w6.frozen? ⟨w.heap.size, 0, none⟩ = false := free_of hz6 0
    have f1 : w6.frozen? ⟨w.heap.size, 1, none⟩ = false := free_of hz6 1
    have f2 : w6.frozen? ⟨w.heap.size, 2, none⟩ = false := free_of hz6 2
    have f3 : w6.frozen? ⟨w.heap.size, 3, none⟩ = false := free_of hz6 3
    clear hz6 hb6
    unfold noTok errV
    go_wp2_with fail
    refine tok_ret E6.out.1 E6.out.2 rfl ?_
    intro Wf hR y0 y1 y2 y3
    exact bodyPost_ret (v := .tuple #[noTok, errV 6 ((p : Int) + ((0 : Nat) : Int))]) (by simp [results, Tryd.results26, go_sem, y0, y1, y2, y3, noTok, errV]) rfl ⟨rfl, _, hR⟩
  rw [if_neg h8] at hI2
  generalize hk : kindI T.data.toList = kk at XX hI2
  clear hk
  rcases Bool.eq_false_or_eq_true (kk == 1) with k1 | k1
  · obtain rfl : I = .tok 3 0 T.data.toList T.size := by rw [hI2, k1]; rfl
    clear hI2
    go_wp2_with fail
    refine XX.out.mono ?_
    rintro e w5 ⟨rfl, hb5⟩
    have hz5 := below_blk hb5 E.out.2
    have E5 := Asd.mk (And.intro (E.out.1.below hb5) hz5)
    have z0 : w5.cell? ⟨w.heap.size, 0, none⟩ = some (.int .i64 0) := cell_of hz5 0
    have z1 : w5.cell? ⟨w.heap.size, 1, none⟩ = some (.int .i64 0) := cell_of hz5 1
    have z2 : w5.cell? ⟨w.heap.size, 2, none⟩ = some (.string ⟨#[]⟩) := cell_of hz5 2
    have z3 : w5.cell? ⟨w.heap.size, 3, none⟩ = some (.int .i64 0) := cell_of hz5 3
    have f0 : w5.frozen? ⟨w.heap.size, 0, none⟩ = false := free_of hz5 0
    have f1 : w5.frozen? ⟨w.heap.size, 1, none⟩ = false := free_of hz5 1
    have f2 : w5.frozen? ⟨w.heap.size, 2, none⟩ = false := free_of hz5 2
    have f3 : w5.frozen? ⟨w.heap.size, 3, none⟩ = false := free_of hz5 3
    clear hz5 hb5
    go_wp2_with fail
    refine tok_ret E5.out.1 E5.out.2 rfl ?_
    intro Wf hR y0 y1 y2 y3
    exact bodyPost_ret (v := .tuple #[tokV 3 0 (bytesOf T.data.toList) p, .nilIface]) (by simp [results, Tryd.results26, go_sem, y0, y1, y2, y3, tokV, bytesOf_self]) rfl ⟨rfl, hR⟩
  rcases Bool.eq_false_or_eq_true (kk == 3) with k3 | k3
  · obtain rfl : I = .tok 3 0 T.data.toList T.size := by rw [hI2, k1, k3]; rfl
    clear hI2
    go_wp2_with fail
    refine XX.out.mono ?_
    rintro e w5 ⟨rfl, hb5⟩
    have hz5 := below_blk hb5 E.out.2
    have E5 := Asd.mk (And.intro (E.out.1.below hb5) hz5)
    have z0 : w5.cell? ⟨w.heap.size, 0, none⟩ = some (.int .i64 0) := cell_of hz5 0
    have z1 : w5.cell? ⟨w.heap.size, 1, none⟩ = some (.int .i64 0) := cell_of hz5 1
    have z2 : w5.cell? ⟨w.heap.size, 2, none⟩ = some (.string ⟨#[]⟩) := cell_of hz5 2
    have z3 : w5.cell? ⟨w.heap.size, 3, none⟩ = some (.int .i64 0) := cell_of hz5 3
    have f0 : w5.frozen? ⟨w.heap.size, 0, none⟩ = false := free_of hz5 0
    have f1 : w5.frozen? ⟨w.heap.size, 1, none⟩ = false := free_of hz5 1
    have f2 : w5.frozen? ⟨w.heap.size, 2, none⟩ = false := free_of hz5 2
    have f3 : w5.frozen? ⟨w.heap.size, 3, none⟩ = false := free_of hz5 3
    clear hz5 hb5
    go_wp2_with fail
    refine tok_ret E5.out.1 E5.out.2 rfl ?_
    intro Wf hR y0 y1 y2 y3
    exact bodyPost_ret (v := .tuple #[tokV 3 0 (bytesOf T.data.toList) p, .nilIface]) (by simp [results, Tryd.results26, go_sem, y0, y1, y2, y3, tokV, bytesOf_self]) rfl ⟨rfl, hR⟩
  rcases Bool.eq_false_or_eq_true (kk == 2) with k2 | k2
  · obtain rfl : I = .tok 4 0 T.data.toList T.size := by rw [hI2, k1, k3, k2]; rfl
    clear hI2
    go_wp2_with fail
    refine XX.out.mono ?_
    rintro e w5 ⟨rfl, hb5⟩
    have hz5 := below_blk hb5 E.out.2
    have E5 := Asd.mk (And.intro (E.out.1.below hb5) hz5)
    have z0 : w5.cell? ⟨w.heap.size, 0, none⟩ = some (.int .i64 0) := cell_of hz5 0
    have z1 : w5.cell? ⟨w.heap.size, 1, none⟩ = some (.int .i64 0) := cell_of hz5 1
    have z2 : w5.cell? ⟨w.heap.size, 2, none⟩ = some (.string ⟨#[]⟩) := cell_of hz5 2
    have z3 : w5.cell? ⟨w.heap.size, 3, none⟩ = some (.int .i64 0) := cell_of hz5 3
    have f0 : w5.frozen? ⟨w.heap.size, 0, none⟩ = false := free_of hz5 0
    have f1 : w5.frozen? ⟨w.heap.size, 1, none⟩ = false := free_of hz5 1
    have f2 : w5.frozen? ⟨w.heap.size, 2, none⟩ = false := free_of hz5 2
    have f3 : w5.frozen? ⟨w.heap.size, 3, none⟩ = false := free_of hz5 3
    clear hz5 hb5
    go_wp2_with fail
    refine tok_ret E5.out.1 E5.out.2 rfl ?_
    intro Wf hR y0 y1 y2 y3
    exact bodyPost_ret (v := .tuple #[tokV 4 0 (bytesOf T.data.toList) p, .nilIface]) (by simp [results, Tryd.results26, go_sem, y0, y1, y2, y3, tokV, bytesOf_self]) rfl ⟨rfl, hR⟩
  rcases Bool.eq_false_or_eq_true (kk == 4) with k4 | k4
  · obtain rfl : I = .tok 4 0 T.data.toList T.size := by rw [hI2, k1, k3, k2, k4]; rfl
    clear hI2
    go_wp2_with fail
    refine XX.out.mono ?_
    rintro e w5 ⟨rfl, hb5⟩
    have hz5 := below_blk hb5 E.out.2
    have E5 := Asd.mk (And.intro (E.out.1.below hb5) hz5)
    have z0 : w5.cell? ⟨w.heap.size, 0, none⟩ = some (.int .i64 0) := cell_of hz5 0
    have z1 : w5.cell? ⟨w.heap.size, 1, none⟩ = some (.int .i64 0) := cell_of hz5 1
    have z2 : w5.cell? ⟨w.heap.size, 2, none⟩ = some (.string ⟨#[]⟩) := cell_of hz5 2
    have z3 : w5.cell? ⟨w.heap.size, 3, none⟩ = some (.int .i64 0) := cell_of hz5 3
    have f0 : w5.frozen? ⟨w.heap.size, 0, none⟩ = false := free_of hz5 0
    have f1 : w5.frozen? ⟨w.heap.size, 1, none⟩ = false := free_of hz5 1
    have f2 : w5.frozen? ⟨w.heap.size, 2, none⟩ = false := free_of hz5 2
    have f3 : w5.frozen? ⟨w.heap.size, 3, none⟩ = false := free_of hz5 3
    clear hz5 hb5
    go_wp2_with fail
    refine tok_ret E5.out.1 E5.out.2 rfl ?_
    intro Wf hR y0 y1 y2 y3
    exact bodyPost_ret (v := .tuple #[tokV 4 0 (bytesOf T.data.toList) p, .nilIface]) (by simp [results, Tryd.results26, go_sem, y0, y1, y2, y3, tokV, bytesOf_self]) rfl ⟨rfl, hR⟩
  · obtain rfl : I = .bad 2 0 := by rw [hI2, k1, k3, k2, k4]; rfl
    clear hI2
    go_wp2_with fail
    refine XX.out.mono ?_
    rintro e w5 ⟨rfl, hb5⟩
    go_wp2_with fail
    refine (failed_any 2 p _ rfl).mono ?_
    rintro e w6 ⟨rfl, hb6⟩
    have hz6 := below_blk hb6 (below_blk hb5 E.out.2)
    have E6 := Asd.mk (And.intro (Rd.below (E.out.1.below hb5) hb6) hz6)
    have z0 : w6.cell? ⟨w.heap.size, 0, none⟩ = some (.int .i64 0) := cell_of hz6 0
    have z1 : w6.cell? ⟨w.heap.size, 1, none⟩ = some (.int .i64 0) := cell_of hz6 1
    have z2 : w6.cell? ⟨w.heap.size, 2, none⟩ = some (.string ⟨#[]⟩) := cell_of hz6 2
    have z3 : w6.cell? ⟨w.heap.size, 3, none⟩ = some (.int .i64 0) := cell_of hz6 3
    have f0 : w6.frozen? ⟨w.heap.size, 0, none⟩ = false := free_of hz6 0
    have f1 : w6.frozen? ⟨w.heap.size, 1, none⟩ = false := free_of hz6 1
    have f2 : w6.frozen? ⟨w.heap.size, 2, none⟩ = false := free_of hz6 2
    have f3 : w6.frozen? ⟨w.heap.size, 3, none⟩ = false := free_of hz6 3
    clear hz6 hb6
    unfold noTok errV
    go_wp2_with fail
    refine tok_ret E6.out.1 E6.out.2 rfl ?_
    intro Wf hR y0 y1 y2 y3
    exact bodyPost_ret (v := .tuple #[noTok, errV 2 ((p : Int) + ((0 : Nat) : Int))]) (by simp [results, Tryd.results26, go_sem, y0, y1, y2, y3, noTok, errV]) rfl ⟨rfl, _, hR⟩
end Go.Proofs.YtaebigakdfaogaaDoor
