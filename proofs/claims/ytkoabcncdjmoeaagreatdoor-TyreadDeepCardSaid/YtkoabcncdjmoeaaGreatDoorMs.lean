/- The document's own answers of layer 1, on lists: limbeckref01. -/
import Derived.Lib.QuietBelow
import Derived.Test.YtkoabcncdjmoeaaGreatDoorMr
set_option linter.unusedSimpArgs false
set_option linter.unusedVariables false
set_option maxRecDepth 1000000
set_option maxHeartbeats 40000000
namespace Go.Proofs.YtkoabcncdjmoeaaGreatDoor
open Go.RowKit Go.Sort
theorem rfine_any (s : ByteArray) (w : World) (hs : s.size ≤ maxLen) : Calls Tryz.prog 53 #[.string s] w fun e w' => e = .returned (.bool (fineB s)) ∧ Below w.heap.size w w' := by
 go_enter Tryz.func53,Tryz.ntmps53
 go_wp2_with (go_at_call 52;refine (rkind_any _ _ hs).mono ?_;rintro e w' ⟨rfl,hb⟩)
 go_ret
 exact ⟨rfl,hb⟩
theorem place_any (v : Value) (ss : List ByteArray) (s : ByteArray) (w : World) (h : StrsAt w v ss) :
  Calls Tryz.prog 80 #[v,.string s] w fun e w' => e = .returned (.int .i64 (placeI ss s)) ∧ w = w' := by
 obtain ⟨hs,hm,h⟩ := h
 unfold maxLen at hm
 rcases h with ⟨a,cap,rfl,rfl⟩ | ⟨b,off,cap,rfl,hb,hc⟩
 ·go_enter Tryz.func80,Tryz.ntmps80
  go_wp2
  go_rounds 1
  go_ret
  exact ⟨ret_int rfl,rfl⟩
 ·go_enter Tryz.func80,Tryz.ntmps80
  go_wp2
  go_loop [5] (fun i => ∃ k : Nat,k ≤ ss.length ∧ i = .int .i64 k ∧ ∀ j,j < k -> ((stAt ss j).toList == s.toList) = false) (fun i => ss.length - (intOf i).toNat)
  case atStart => exact ⟨0,by omega,rfl,fun j hj => by omega⟩
  case round =>
   obtain ⟨k,hk,rfl,hq⟩ := hrel
   have HQ := Lib.hid hq
   clear hq
   by_cases hlt : k < ss.length
   ·have hcx := hc k hlt
    obtain ⟨x,hx⟩ : ∃ x,x = stAt ss k := ⟨_,rfl⟩
    rw [← hx] at hcx
    have HX := Lib.hid hx
    clear hx hc
    rcases Bool.eq_false_or_eq_true (x.toList == s.toList) with he | he
    ·go_wp2
     go_ret
     exact ⟨ret_int (place_some hlt (by rw [← HX.out];exact he) HQ.out).symm,rfl⟩
    ·go_wp2
     go_round
     case rel => exact ⟨k + 1,by omega,by go_num,fun j hj => by
      by_cases hjk : j = k
      ·subst hjk;rw [← HX.out];exact he
      ·exact HQ.out j (by omega)⟩
     case measure => simp [intOf];omega
   ·have : k = ss.length := by omega
    subst this
    clear hc
    go_wp2
    go_ret
    exact ⟨ret_int (place_none HQ.out).symm,rfl⟩
end Go.Proofs.YtkoabcncdjmoeaaGreatDoor
