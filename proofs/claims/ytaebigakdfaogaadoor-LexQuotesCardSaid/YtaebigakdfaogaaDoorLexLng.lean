/- limbecklaw03.LexLong: the walk. -/
import Derived.Test.YtaebigakdfaogaaDoorLexQts
import Derived.Laws.MakeOwn
import Derived.Laws.OwnMore
namespace Go.Proofs.YtaebigakdfaogaaDoor
open Go.RowKit
theorem long_make (N : Nat) (hN : N ≤ 1000000) (w : World) : (Instr.makeSlice 38 (.int .i64 (N : Int)) (.int .i64 (N : Int))).run Tryd.prog w = .ok (.slice (some ⟨w.heap.size, 0, none⟩) N N) (w.alloc (.cells (madeCells #[.int .u8 0] N) 5)) := by
  obtain ⟨i0, hi, hz0, hz1, hz2⟩ := infoParts info_u8
  have h := run_make (P := Tryd.prog) w 38 5 i0 (.int .u8 0) Tryd.underlying38 hi hz0 .i64 .i64 (N : Int) (N : Int) (by omega) (Int.le_refl _) (by rw [hz2]; omega) (by omega)
  rw [hz1, Int.toNat_natCast, Nat.mul_one] at h
  exact h
theorem long_conv (N : Nat) (w : World) : (convert 38 9 (.slice (some ⟨w.heap.size, 0, none⟩) N N)).run Tryd.prog (w.alloc (.cells (madeCells #[.int .u8 0] N) 5)) = .ok (.string (bytesOf (List.replicate N 0))) (w.alloc (.cells (madeCells #[.int .u8 0] N) 5)) := by
  have h := run_convert_bytes_back (P := Tryd.prog) (w.alloc (.cells (madeCells #[.int .u8 0] N) 5)) 38 9 5 ⟨w.heap.size, 0, none⟩ N (List.replicate N 0) Tryd.underlying38 Tryd.underlying5 Tryd.underlying9 (fun j hj => by
    have hj' : j < N := by simpa using hj
    have hc : (madeCells #[.int .u8 0] N)[j]? = some (.int .u8 0) := by
      rw [← Array.getElem?_toList, toList_madeCells_one, List.getElem?_replicate, if_pos hj']
    have := cellNew w (madeCells #[.int .u8 0] N) 5 j _ hc
    rw [List.getElem_replicate]
    by_cases hj0 : j = 0
    · subst hj0; simpa [Addr.add] using this
    · simpa [Addr.add, hj0] using this)
  rw [List.length_replicate] at h
  exact h
set_option maxRecDepth 8000 in
set_option maxHeartbeats 4000000 in
theorem long_any (m : Nat) (w : World) (hm : m ≤ 255) (hg : ErrAt w) : Calls Tryd.prog 5 #[.int .u8 (m : Int)] w fun e w' => e = .returned (.bool true) ∧ Below w.heap.size w w' := by
  have HG := Asd.mk hg
  clear hg
  have B0 := Asd.mk (show Below w.heap.size w (w.alloc (.cells (madeCells #[.int .u8 0] (65537 + m)) 5)) from (Below.refl _ _).alloc (Nat.le_refl _) _)
  have hmk := long_make (65537 + m) (by omega)
  have hcv := long_conv (65537 + m) w
  have hsz : (bytesOf (List.replicate (65537 + m) 0)).size = 65537 + m := by rw [bytesOf_size, List.length_replicate]
  have hdl : (bytesOf (List.replicate (65537 + m) 0)).data.toList = List.replicate (65537 + m) 0 := rfl
  have XA := Asd.mk (fun w => all_any (bytesOf (List.replicate (65537 + m) 0)) w (by rw [hsz]; unfold maxLen; omega))
  rw [hdl, show lexAll (List.replicate (65537 + m) 0) = .bad 6 0 by unfold lexAll; rw [List.length_replicate, if_pos (by omega)]] at XA
  have hcast : ((65537 + m : Nat) : Int) = 65537 + (m : Int) := by omega
  rw [hcast] at hmk
  clear hsz hdl hcast
  generalize bytesOf (List.replicate (65537 + m) 0) = S at hcv XA
  generalize madeCells #[.int .u8 0] (65537 + m) = CS at hmk hcv B0
  generalize 65537 + m = N at hmk hcv
  go_enter Tryd.func5, Tryd.ntmps5
  go_wp2_with fail
  refine (XA.out _).mono ?_
  clear hmk hcv
  rintro e w2 ⟨rfl, hb2⟩
  have B2 := Asd.mk (B0.out.trans (hb2.mono B0.out.size))
  clear hb2
  go_wp2_with fail
  refine (code_one 6 0 _ rfl (HG.out.mono B2.out)).mono ?_
  rintro e w3 ⟨rfl, hb3⟩
  have B3 := Asd.mk (B2.out.trans (hb3.mono B2.out.size))
  clear hb3
  go_wp2_with fail
  refine (at_one 6 0 _ rfl (HG.out.mono B3.out)).mono ?_
  rintro e w4 ⟨rfl, hb4⟩
  have B4 := Asd.mk (B3.out.trans (hb4.mono B3.out.size))
  clear hb4
  go_wp2_with fail
  refine (lawake_any _).mono ?_
  rintro e w5 ⟨rfl, hb5⟩
  go_wp2_with fail
  go_ret
  exact ⟨rfl, B4.out.trans (hb5.mono B4.out.size)⟩
end Go.Proofs.YtaebigakdfaogaaDoor
