/- limbecklaw03.LexReads: the walk. -/
import Derived.Test.YtaebigakdfaogaaDoorLR7
import Derived.Test.YtaebigakdfaogaaDoorLR8
import Derived.Test.YtaebigakdfaogaaDoorLexLng
namespace Go.Proofs.YtaebigakdfaogaaDoor
open Go.RowKit
theorem rsame_nil (w : World) : Calls Tryd.prog 11 #[.slice none 0 0, .slice none 0 0] w fun e w' => e = .returned (.bool true) ∧ Below w.heap.size w w' := by
  go_enter Tryd.func11, Tryd.ntmps11
  go_wp2_with fail
  go_rounds 1
  go_ret
  exact ⟨rfl, Below.refl _ _⟩
set_option maxRecDepth 8000 in
set_option maxHeartbeats 4000000 in
theorem reads_any (s : ByteArray) (w : World) (hs : s.size ≤ maxLen) (hg : ErrAt w) : Calls Tryd.prog 3 #[.string s] w fun e w' => e = .returned (.bool true) ∧ Below w.heap.size w w' := by
  have HG := Asd.mk hg
  clear hg
  have XA := Asd.mk (fun w => all_any s w hs)
  have XB := Asd.mk (fun w => rall_any s w hs)
  unfold maxLen at hs
  by_cases h1 : 3000 < s.size
  · go_enter Tryd.func3, Tryd.ntmps3
    go_wp2_with fail
    refine (lawake_any _).mono ?_
    rintro e w1 ⟨rfl, hb1⟩
    go_wp2_with fail
    go_ret
    exact ⟨rfl, hb1⟩
  have XQ := Asd.mk (fun w => quote_any s w (by omega))
  have XR := Asd.mk (fun w => rquote_any s w (by omega))
  generalize bytesOf (quoL s.data.toList) = Q at XQ XR
  cases ho : lexAll s.data.toList with
  | bad c a =>
    rw [ho] at XA XB
    clear ho
    go_enter Tryd.func3, Tryd.ntmps3
    go_wp2_with fail
    refine (XA.out _).mono ?_
    rintro e w1 ⟨rfl, hb1⟩
    have B1 := Asd.mk hb1
    clear hb1
    go_wp2_with fail
    refine (XB.out _).mono ?_
    rintro e w2 ⟨rfl, hc, hb2⟩
    have B2 := Asd.mk (B1.out.trans (hb2.mono B1.out.size))
    have XC := Asd.mk (fun w (h : ErrAt w) => code_one c a w hc h)
    have XP := Asd.mk (fun w (h : ErrAt w) => at_one c a w hc h)
    clear hb2
    unfold errV at XC XP ⊢
    go_wp2_with fail
    refine (XC.out _ (HG.out.mono B2.out)).mono ?_
    rintro e w3 ⟨rfl, hb3⟩
    have B3 := Asd.mk (B2.out.trans (hb3.mono B2.out.size))
    clear hb3
    go_wp2_with fail
    refine (XP.out _ (HG.out.mono B3.out)).mono ?_
    rintro e w4 ⟨rfl, hb4⟩
    have B4 := Asd.mk (B3.out.trans (hb4.mono B3.out.size))
    clear hb4
    go_wp2_with fail
    refine (rsame_nil _).mono ?_
    rintro e w5 ⟨rfl, hb5⟩
    have B5 := Asd.mk (B4.out.trans (hb5.mono B4.out.size))
    clear hb5
    go_wp2_with fail
    refine (XQ.out _).mono ?_
    rintro e w6 ⟨rfl, hb6⟩
    have B6 := Asd.mk (B5.out.trans (hb6.mono B5.out.size))
    clear hb6
    go_wp2_with fail
    refine (XR.out _).mono ?_
    rintro e w7 ⟨rfl, hb7⟩
    have B7 := Asd.mk (B6.out.trans (hb7.mono B6.out.size))
    clear hb7
    go_wp2_with fail
    refine (lawake_any _).mono ?_
    rintro e w8 ⟨rfl, hb8⟩
    go_wp2_with fail
    go_ret
    exact ⟨rfl, B7.out.trans (hb8.mono B7.out.size)⟩
  | ok ts =>
    rw [ho] at XA XB
    clear ho
    go_enter Tryd.func3, Tryd.ntmps3
    go_wp2_with fail
    refine (XA.out _).mono ?_
    rintro e w1 ⟨v1, rfl, ht1, hb1⟩
    have B1 := Asd.mk hb1
    have T1 := Asd.mk ht1
    clear hb1 ht1
    go_wp2_with fail
    refine (XB.out _).mono ?_
    rintro e w2 ⟨v2, rfl, ht2, hb2⟩
    have B2 := Asd.mk (B1.out.trans (hb2.mono B1.out.size))
    have T1 := Asd.mk (T1.out.mono hb2)
    have T2 := Asd.mk ht2
    clear hb2 ht2
    go_wp2_with fail
    refine (rsame_any v1 v2 ts _ T1.out T2.out).mono ?_
    rintro e w5 ⟨rfl, hb5⟩
    have B5 := Asd.mk (B2.out.trans (hb5.mono B2.out.size))
    clear hb5
    go_wp2_with fail
    refine (XQ.out _).mono ?_
    rintro e w6 ⟨rfl, hb6⟩
    have B6 := Asd.mk (B5.out.trans (hb6.mono B5.out.size))
    clear hb6
    go_wp2_with fail
    refine (XR.out _).mono ?_
    rintro e w7 ⟨rfl, hb7⟩
    have B7 := Asd.mk (B6.out.trans (hb7.mono B6.out.size))
    clear hb7
    go_wp2_with fail
    refine (lawake_any _).mono ?_
    rintro e w8 ⟨rfl, hb8⟩
    go_wp2_with fail
    go_ret
    exact ⟨rfl, B7.out.trans (hb8.mono B7.out.size)⟩
end Go.Proofs.YtaebigakdfaogaaDoor
