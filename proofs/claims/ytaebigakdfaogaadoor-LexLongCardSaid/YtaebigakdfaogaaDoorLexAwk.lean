/- limbecklaw03.awake: the program computes at all. -/
import Derived.Test.YtaebigakdfaogaaDoorLexAll
import Derived.Test.YtaebigakdfaogaaDoorLexQuo
namespace Go.Proofs.YtaebigakdfaogaaDoor
open Go.RowKit
def awkToks : List Tk := [⟨3, 0, [97], 0⟩, ⟨5, 0, [60, 58], 1⟩, ⟨4, 0, [88], 3⟩, ⟨1, 7, [], 5⟩, ⟨0, 0, [], 6⟩]
theorem awk_lex : lexAll (⟨#[97, 60, 58, 88, 32, 55]⟩ : ByteArray).data.toList = .ok awkToks := by kernel_rfl
theorem awk_quo : bytesOf (quoL (⟨#[97, 10]⟩ : ByteArray).data.toList) = ⟨#[34, 97, 92, 110, 34]⟩ := by kernel_rfl
set_option maxRecDepth 8000 in
set_option maxHeartbeats 1000000 in
theorem lawake_any (w : World) : Calls Tryd.prog 6 #[] w fun e w' => e = .returned (.bool true) ∧ Below w.heap.size w w' := by
  have XA := Asd.mk (all_any ⟨#[97, 60, 58, 88, 32, 55]⟩ w (by unfold maxLen; show 6 ≤ _; omega))
  rw [awk_lex] at XA
  have XQ := Asd.mk (fun w => quote_any ⟨#[97, 10]⟩ w (by show 2 ≤ _; omega))
  rw [awk_quo] at XQ
  go_enter Tryd.func6, Tryd.ntmps6
  go_wp2_with fail
  refine XA.out.mono ?_
  rintro e w1 ⟨v, rfl, ⟨_, _, g, cap, rfl, hc⟩, hb1⟩
  have k0 : w1.cell? ⟨g, 2, none⟩ = some (.string ⟨#[97]⟩) := (hc 0 (by decide)).2.2.1
  have k1 : w1.cell? ⟨g, 6, none⟩ = some (.string ⟨#[60, 58]⟩) := (hc 1 (by decide)).2.2.1
  have k2 : w1.cell? ⟨g, 8, none⟩ = some (.int .i64 4) := (hc 2 (by decide)).1
  have k3 : w1.cell? ⟨g, 13, none⟩ = some (.int .i64 7) := (hc 3 (by decide)).2.1
  have hl : awkToks.length = 5 := rfl
  rw [hl]
  have B := Asd.mk hb1
  clear hc hb1 hl XA
  go_wp2_with fail
  refine (XQ.out _).mono ?_
  rintro e w2 ⟨rfl, hb2⟩
  have B2 := Asd.mk (B.out.trans (hb2.mono B.out.size))
  clear hb2
  go_wp2_with fail
  go_ret
  exact ⟨rfl, B2.out⟩
end Go.Proofs.YtaebigakdfaogaaDoor
