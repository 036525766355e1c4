/- limbecklaw03.LexQuotes: the walk. -/
import Derived.Test.YtaebigakdfaogaaDoorLexMQ
import Derived.Test.YtaebigakdfaogaaDoorLexAwk
import Derived.Test.YtaebigakdfaogaaDoorFOne
namespace Go.Proofs.YtaebigakdfaogaaDoor
open Go.RowKit
def ErrAt (w : World) : Prop := w.cell? ⟨0, 0, none⟩ = some (.iface 92 (.agg #[.pointer (some ⟨1, 25, none⟩)]))
theorem ErrAt.mono {w w' : World} (h : ErrAt w) (hb : Below w.heap.size w w') : ErrAt w' := below_cellAt hb h
theorem bytesOf_size (l : List UInt8) : (bytesOf l).size = l.length := by rw [← size_list]; rfl
set_option maxRecDepth 8000 in
set_option maxHeartbeats 4000000 in
theorem quotes_any (s : ByteArray) (w : World) (hs : s.size ≤ maxLen) (hg : ErrAt w) : Calls Tryd.prog 4 #[.string s] w fun e w' => e = .returned (.bool true) ∧ Below w.heap.size w w' := by
  have HG := Asd.mk hg
  clear hg
  unfold maxLen at hs
  by_cases h1 : 3000 < s.size
  · go_enter Tryd.func4, Tryd.ntmps4
    go_wp2_with fail
    refine (lawake_any _).mono ?_
    rintro e w1 ⟨rfl, hb1⟩
    go_wp2_with fail
    go_ret
    exact ⟨rfl, hb1⟩
  have hql := quoL_len s.data.toList
  have hqi := quoI_len s.data.toList
  rw [size_list] at hqi
  have HL := lex_quote s.data.toList (by rw [size_list]; omega)
  rw [size_list] at HL
  have XQ := Asd.mk (fun w => quote_any s w (by omega))
  have XA := Asd.mk (fun w => all_any (bytesOf (quoL s.data.toList)) w (by rw [bytesOf_size]; unfold maxLen; omega))
  have hdl : (bytesOf (quoL s.data.toList)).data.toList = quoL s.data.toList := rfl
  rw [hdl, HL] at XA
  have hqs : (quoL s.data.toList).length = (bytesOf (quoL s.data.toList)).size := (bytesOf_size _).symm
  rw [hqs] at XA
  clear HL hdl hql hqi hqs
  generalize bytesOf (quoL s.data.toList) = Q at XQ XA
  by_cases h40 : s.size ≤ 40
  · rw [if_pos h40] at XA
    have h40i : ¬ (40 : Int) < (s.size : Int) := by omega
    go_enter Tryd.func4, Tryd.ntmps4
    go_wp2_with fail
    refine (XQ.out _).mono ?_
    rintro e w1 ⟨rfl, hb1⟩
    have B1 := Asd.mk hb1
    clear hb1
    go_wp2_with fail
    refine (XA.out _).mono ?_
    rintro e w2 ⟨v, rfl, ⟨_, _, g, cap, rfl, hc⟩, hb2⟩
    have B2 := Asd.mk (B1.out.trans (hb2.mono B1.out.size))
    have k0 : w2.cell? ⟨g, 0, none⟩ = some (.int .i64 2) := (hc 0 (by simp)).1
    have k1 : w2.cell? ⟨g, 2, none⟩ = some (.string s) := (hc 0 (by simp)).2.2.1.trans (by rw [show (tkAt [(⟨2, 0, s.data.toList, 0⟩ : Tk), ⟨0, 0, [], Q.size⟩] 0).t = s.data.toList from rfl, bytesOf_self])
    have k2 : w2.cell? ⟨g, 3, none⟩ = some (.int .i64 0) := (hc 0 (by simp)).2.2.2
    have k3 : w2.cell? ⟨g, 4, none⟩ = some (.int .i64 0) := (hc 1 (by simp)).1
    have k4 : w2.cell? ⟨g, 7, none⟩ = some (.int .i64 (Q.size : Int)) := (hc 1 (by simp)).2.2.2
    have hl : [(⟨2, 0, s.data.toList, 0⟩ : Tk), ⟨0, 0, [], Q.size⟩].length = 2 := rfl
    rw [hl]
    clear hc hb2 hl XA XQ
    go_wp2_with fail
    refine (lawake_any _).mono ?_
    rintro e w3 ⟨rfl, hb3⟩
    go_wp2_with fail
    go_ret
    exact ⟨rfl, B2.out.trans (hb3.mono B2.out.size)⟩
  · rw [if_neg h40] at XA
    have h40i : (40 : Int) < (s.size : Int) := by omega
    go_enter Tryd.func4, Tryd.ntmps4
    go_wp2_with fail
    refine (XQ.out _).mono ?_
    rintro e w1 ⟨rfl, hb1⟩
    have B1 := Asd.mk hb1
    clear hb1
    go_wp2_with fail
    refine (XA.out _).mono ?_
    rintro e w2 ⟨rfl, hb2⟩
    have B2 := Asd.mk (B1.out.trans (hb2.mono B1.out.size))
    clear hb2
    go_wp2_with fail
    refine (code_one 6 0 _ rfl (HG.out.mono B2.out)).mono ?_
    rintro e w3 ⟨rfl, hb3⟩
    have B3 := Asd.mk (B2.out.trans (hb3.mono B2.out.size))
    clear hb3
    go_wp2_with fail
    refine (at_one 6 0 _ rfl (HG.out.mono B3.out)).mono ?_
    rintro e w4 ⟨rfl, hb4⟩
    have B4 := Asd.mk (B3.out.trans (hb4.mono B3.out.size))
    clear hb4
    go_wp2_with fail
    refine (lawake_any _).mono ?_
    rintro e w5 ⟨rfl, hb5⟩
    go_wp2_with fail
    go_ret
    exact ⟨rfl, B4.out.trans (hb5.mono B4.out.size)⟩
end Go.Proofs.YtaebigakdfaogaaDoor
