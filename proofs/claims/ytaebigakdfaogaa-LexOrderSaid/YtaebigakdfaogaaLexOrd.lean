/- limbecklaw03.LexOrder: the walk. -/
import Derived.Test.YtaebigakdfaogaaLexMO
import Derived.Test.YtaebigakdfaogaaLexAwk
import Derived.Laws.StructEq
import Derived.LaidEql
namespace Go.Proofs.Ytaebigakdfaogaa
open Go.RowKit
theorem heldTok : Try.prog.stoodInHeld 29 = false := by kernel_rfl
theorem fieldsTok : Try.prog.underlying 29 = some (.struct (Try.prog.fieldsOf 29)) := by kernel_rfl
theorem neTok (k n a : Int) (t : ByteArray) (w : World) : (binOp .neq 29 (.agg #[.int .i64 k, .int .i64 n, .string t, .int .i64 a]) (.agg #[.int .i64 k, .int .i64 n, .string t, .int .i64 a])).run Try.prog w = .ok (.bool false) w := by
  rw [run_neq_struct, run_equalIn_agg (d := 9999) w _ _ _ fieldsTok heldTok]
  simp [Program.fieldsOf, Try.underlying29, go_sem, Try.underlying3, Try.underlying9]
theorem egTok : Try.prog.eqGuardType Try.prog.depth 29 = false := by kernel_rfl

/-- What a text and one behind it come to. -/
theorem order_math {s t : ByteArray} {ls lt : List Tk} (hs : s.size ≤ 2000) (ht : t.size ≤ 2000) (h1 : lexAll s.data.toList = .ok ls) (h2 : lexAll t.data.toList = .ok lt) :
    ∃ ys, ls = ys ++ [⟨0, 0, [], s.size⟩] ∧ Rises ls ∧ lexAll (s.data.toList ++ 10 :: t.data.toList) = .ok (ys ++ lt.map (Tk.up (s.size + 1))) ∧ (∀ j, j < lt.length → (tkAt lt j).a ≤ t.size) ∧ (∀ j, j < ls.length → (tkAt ls j).a ≤ s.size) := by
  unfold lexAll at h1 h2 ⊢
  rw [size_list] at h1 h2
  rw [if_neg (by omega)] at h1 h2
  rw [if_neg (by rw [List.length_append, List.length_cons, size_list, size_list]; omega)]
  unfold lexL at h1 h2 ⊢
  obtain ⟨ys, e1, _, e2, e3⟩ := lexF_rises _ _ 0 ls (by omega) h1
  obtain ⟨_, _, _, _, e4⟩ := lexF_rises _ _ 0 lt (by omega) h2
  rw [size_list, Nat.zero_add] at e1 e3 e4
  refine ⟨ys, e1, e2, ?_, e4, e3⟩
  rw [lexF_app t.data.toList _ _ _ 0 ls (Nat.lt_succ_self _) (by rw [List.length_append, List.length_cons]; omega) h1]
  have hu := lexF_up (s.size + 1) (t.data.toList.length + 1) t.data.toList 0 [] (by omega)
  rw [List.map_nil] at hu
  rw [show 0 + s.data.toList.length + 1 = 0 + (s.size + 1) by rw [size_list]; omega, hu, h2, e1]
  simp [Out.up, Out.pre]
theorem tkAt_app_l {xs ys : List Tk} {j : Nat} (h : j < xs.length) : tkAt (xs ++ ys) j = tkAt xs j := by
  unfold tkAt
  rw [List.getD_eq_getElem?_getD, List.getD_eq_getElem?_getD, List.getElem?_append_left h]
theorem tkAt_app_r {xs ys : List Tk} {j : Nat} : tkAt (xs ++ ys) (xs.length + j) = tkAt ys j := by
  unfold tkAt
  rw [List.getD_eq_getElem?_getD, List.getD_eq_getElem?_getD, List.getElem?_append_right (by omega)]
  congr 2
  omega
theorem tkAt_map {ys : List Tk} {j d : Nat} (h : j < ys.length) : tkAt (ys.map (Tk.up d)) j = (tkAt ys j).up d := by
  unfold tkAt
  rw [List.getD_eq_getElem?_getD, List.getD_eq_getElem?_getD, List.getElem?_map, List.getElem?_eq_getElem h]
  rfl
theorem below_drewN {B : Nat} {a w : World} (h : Below B a w) (n : Nat) : Below B a (w.drewN n) := ⟨h.os, h.tape, h.output, h.size, h.block⟩
theorem cat_list (s t : ByteArray) : (s ++ (⟨#[10]⟩ : ByteArray) ++ t).data.toList = s.data.toList ++ 10 :: t.data.toList := by
  simp
theorem cat_size (s t : ByteArray) : (s ++ (⟨#[10]⟩ : ByteArray) ++ t).size = s.size + 1 + t.size := by
  rw [← size_list, cat_list, List.length_append, List.length_cons, size_list, size_list]; omega
/-- The four cells of a token in a row. -/
def TkCells (w : World) (g j : Nat) (x : Tk) : Prop :=
  w.cell? ⟨g, j * 4, none⟩ = some (.int .i64 x.k) ∧ w.cell? ⟨g, j * 4 + 1, none⟩ = some (.int .i64 x.n) ∧ w.cell? ⟨g, j * 4 + 2, none⟩ = some (.string (bytesOf x.t)) ∧ w.cell? ⟨g, j * 4 + 3, none⟩ = some (.int .i64 x.a)
theorem TkCells.mono {w w' : World} {g j : Nat} {x : Tk} (h : TkCells w g j x) (hb : Below w.heap.size w w') : TkCells w' g j x :=
  ⟨below_cellAt hb h.1, below_cellAt hb h.2.1, below_cellAt hb h.2.2.1, below_cellAt hb h.2.2.2⟩

set_option maxRecDepth 100000 in
set_option maxHeartbeats 4000000 in
theorem order_any (s t : ByteArray) (w : World) (hs : s.size ≤ maxLen) (ht : t.size ≤ maxLen) : Calls Try.prog 3 #[.string s, .string t] w fun e w' => e = .returned (.bool true) ∧ Below w.heap.size w w' := by
  have HS := Asd.mk hs
  have HT := Asd.mk ht
  unfold maxLen at hs ht
  have XS := Asd.mk (fun w => all_any s w HS.out)
  have XT := Asd.mk (fun w => all_any t w HT.out)
  by_cases h1 : 2000 < s.size
  · go_enter Try.func3, Try.ntmps3
    go_wp2_with fail
    refine (lawake_any _).mono ?_
    rintro e w1 ⟨rfl, hb1⟩
    go_wp2_with fail
    go_ret
    exact ⟨rfl, hb1⟩
  by_cases h2 : 2000 < t.size
  · go_enter Try.func3, Try.ntmps3
    go_wp2_with fail
    refine (lawake_any _).mono ?_
    rintro e w1 ⟨rfl, hb1⟩
    go_wp2_with fail
    go_ret
    exact ⟨rfl, hb1⟩
  go_enter Try.func3, Try.ntmps3
  go_wp2_with fail
  refine (XS.out _).mono ?_
  rintro e w1 hP1
  cases ho1 : lexAll s.data.toList with
  | bad c a =>
    rw [ho1] at hP1
    obtain ⟨rfl, hb1⟩ := hP1
    have B1 := Asd.mk hb1
    clear hb1
    go_wp2_with fail
    refine (XT.out _).mono ?_
    rintro e w2 hP2
    have HP2 : ∃ v2 e2, e = .returned (.tuple #[v2, e2]) ∧ Below w1.heap.size w1 w2 := by
      cases ho2 : lexAll t.data.toList with
      | bad c2 a2 => rw [ho2] at hP2; exact ⟨_, _, hP2.1, hP2.2⟩
      | ok ts2 =>
        rw [ho2] at hP2
        obtain ⟨v, h1, _, h3⟩ := hP2
        exact ⟨_, _, h1, h3⟩
    clear hP2
    obtain ⟨v2, e2, rfl, hb2⟩ := HP2
    have B2 := Asd.mk (B1.out.trans (hb2.mono B1.out.size))
    clear hb2
    unfold errV
    go_wp2_with fail
    refine (lawake_any _).mono ?_
    rintro e w3 ⟨rfl, hb3⟩
    go_wp2_with fail
    go_ret
    exact ⟨rfl, B2.out.trans (hb3.mono B2.out.size)⟩
  | ok ls =>
    rw [ho1] at hP1
    obtain ⟨v1, rfl, ⟨hl1, hp1, g1, cap1, rfl, hc1⟩, hb1⟩ := hP1
    have B1 := Asd.mk hb1
    have C1 : Asd (∀ j, j < ls.length → TkCells w1 g1 j (tkAt ls j)) := ⟨hc1⟩
    clear hb1 hc1
    go_wp2_with fail
    refine (XT.out _).mono ?_
    rintro e w2 hP2
    cases ho2 : lexAll t.data.toList with
    | bad c2 a2 =>
      rw [ho2] at hP2
      obtain ⟨rfl, hb2⟩ := hP2
      have B2 := Asd.mk (B1.out.trans (hb2.mono B1.out.size))
      clear hb2
      unfold errV
      go_wp2_with fail
      refine (lawake_any _).mono ?_
      rintro e w3 ⟨rfl, hb3⟩
      go_wp2_with fail
      go_ret
      exact ⟨rfl, B2.out.trans (hb3.mono B2.out.size)⟩
    | ok lt =>
      rw [ho2] at hP2
      obtain ⟨v2, rfl, ⟨hl2, hp2, g2, cap2, rfl, hc2⟩, hb2⟩ := hP2
      have B2 := Asd.mk (B1.out.trans (hb2.mono B1.out.size))
      have C1 : Asd (∀ j, j < ls.length → TkCells w2 g1 j (tkAt ls j)) := ⟨fun j hj => (C1.out j hj).mono hb2⟩
      have C2 : Asd (∀ j, j < lt.length → TkCells w2 g2 j (tkAt lt j)) := ⟨hc2⟩
      clear hb2 hc2
      have HM := Asd.mk (order_math (by omega) (by omega) ho1 ho2)
      have hm1 : ∃ m1, ls.length = m1 + 1 := ⟨ls.length - 1, by omega⟩
      obtain ⟨m1, hm1⟩ := hm1
      rw [hm1]
      have HM1 := Asd.mk hm1
      rw [hm1] at hl1 hp1
      clear hm1 ho1 ho2
      obtain ⟨n2, hn2⟩ : ∃ n2, n2 = lt.length := ⟨_, rfl⟩
      rw [← hn2]
      have HN2 := Asd.mk hn2
      rw [← hn2] at hl2 hp2
      clear hn2
      go_wp2_with fail
      go_loopw [9] (fun v9 wr => ∃ k : Nat, 1 ≤ k ∧ k ≤ m1 + 1 ∧ v9 = .int .i64 k ∧ Below w2.heap.size w2 wr) (fun v9 _ => m1 + 1 - (intOf v9).toNat)
      case atStart => exact ⟨1, Nat.le_refl _, by omega, rfl, Below.refl _ _⟩
      case round =>
        obtain ⟨k, hk0, hk1, rfl, hbk⟩ := hrel
        have BK := Asd.mk hbk
        clear hbk
        by_cases hlt : k < m1 + 1
        · have p1 := ((C1.out (k - 1) (by have := HM1.out; omega)).mono BK.out).2.2.2
          have p2 := ((C1.out k (by have := HM1.out; omega)).mono BK.out).2.2.2
          obtain ⟨ys, hy1, hy2, hy3, hy4, hy5⟩ := HM.out
          have hr := hy2 (k - 1) (by have := HM1.out; omega)
          rw [show k - 1 + 1 = k by omega] at hr
          clear hy1 hy2 hy3 hy4 hy5
          generalize (tkAt ls (k - 1)).a = a1 at p1 hr
          generalize (tkAt ls k).a = a2 at p2 hr
          go_wp2_with fail
          go_quiet (fail)
          go_wp2_with fail
          go_roundw
          case rel => exact ⟨k + 1, by omega, by omega, by go_num, below_drewN BK.out _⟩
          case measure => simp [intOf]; omega
        · go_wp2_with fail
          obtain ⟨ys, hy1, hy2, hy3, hy4, hy5⟩ := HM.out
          have hym : ys.length = m1 := by have := HM1.out; rw [hy1, List.length_append] at this; simpa using this
          have X3 := all_any (s ++ ⟨#[10]⟩ ++ t) wr (by rw [cat_size]; unfold maxLen; omega)
          rw [cat_list, hy3] at X3
          have Y := Asd.mk (And.intro hy1 (And.intro hym hy4))
          clear hy1 hy2 hy3 hy4 hy5 hym
          refine X3.mono ?_
          clear X3
          rintro e w3 ⟨v3, rfl, ⟨hl3, hp3, g3, cap3, rfl, hc3⟩, hb3⟩
          have hn3 : (ys ++ lt.map (Tk.up (s.size + 1))).length = m1 + n2 := by rw [List.length_append, List.length_map, Y.out.2.1, HN2.out]
          have D1 : Asd (∀ j, j < ls.length → TkCells w3 g1 j (tkAt ls j)) := ⟨fun j hj => ((C1.out j hj).mono BK.out).mono hb3⟩
          have D2 : Asd (∀ j, j < n2 → TkCells w3 g2 j (tkAt lt j)) := ⟨fun j hj => ((C2.out j (by have := HN2.out; omega)).mono BK.out).mono hb3⟩
          have D3 : Asd (∀ j, j < m1 → TkCells w3 g3 j (tkAt ls j)) := ⟨fun j hj => by
            have h := hc3 j (by rw [hn3]; omega)
            rw [tkAt_app_l (by rw [Y.out.2.1]; exact hj)] at h
            rw [Y.out.1, tkAt_app_l (by rw [Y.out.2.1]; exact hj)]
            exact h⟩
          have D4 : Asd (∀ j, j < n2 → TkCells w3 g3 (m1 + j) ((tkAt lt j).up (s.size + 1)) ∧ (tkAt lt j).a ≤ t.size) := ⟨fun j hj => by
            have h := hc3 (m1 + j) (by rw [hn3]; omega)
            rw [← Y.out.2.1, tkAt_app_r, tkAt_map (by have := HN2.out; omega), Y.out.2.1] at h
            exact ⟨h, Y.out.2.2 j (by have := HN2.out; omega)⟩⟩
          have p1 : w3.cell? ⟨g1, m1 * 4 + 3, none⟩ = some (.int .i64 (s.size : Int)) := by
            have h := (D1.out m1 (by have := HM1.out; omega)).2.2.2
            rw [h, Y.out.1, ← Y.out.2.1, show ys.length = ys.length + 0 from rfl, tkAt_app_r]
            rfl
          have B3 := Asd.mk ((B2.out.trans (BK.out.mono B2.out.size)).trans (hb3.mono (Nat.le_trans B2.out.size BK.out.size)))
          rw [hn3] at hl3 hp3 ⊢
          clear hc3 hb3 hn3 BK C1 C2 Y HM
          go_wp2_with fail
          clear p1
          go_loopw [12] (fun v12 wr => ∃ k : Nat, k ≤ m1 ∧ v12 = .int .i64 k ∧ Below w3.heap.size w3 wr) (fun v12 _ => m1 - (intOf v12).toNat)
          case atStart => exact ⟨0, Nat.zero_le _, rfl, Below.refl _ _⟩
          case round =>
            obtain ⟨k, hk1, rfl, hbk⟩ := hrel
            have BK := Asd.mk hbk
            clear hbk
            by_cases hlt : k < m1
            · obtain ⟨p1, p2, p3, p4⟩ := (D1.out k (by have := HM1.out; omega)).mono BK.out
              obtain ⟨q1, q2, q3, q4⟩ := (D3.out k hlt).mono BK.out
              generalize (tkAt ls k).k = xk at p1 q1
              generalize (tkAt ls k).n = xn at p2 q2
              generalize (tkAt ls k).t = xt at p3 q3
              generalize (tkAt ls k).a = xa at p4 q4
              have nt := neTok
              have ng := egTok
              go_wp2_with fail
              go_quiet (fail)
              go_wp2_with fail
              go_roundw
              case rel => exact ⟨k + 1, by omega, by go_num, below_drewN BK.out _⟩
              case measure => simp [intOf]; omega
            · go_wp2_with fail
              go_loopw [13, 14] (fun v13 v14 wr => ∃ k : Nat, k ≤ n2 ∧ v13 = .int .i64 k ∧ Below w3.heap.size w3 wr) (fun v13 _ _ => n2 - (intOf v13).toNat)
              case atStart => exact ⟨0, Nat.zero_le _, rfl, BK.out⟩
              case round =>
                obtain ⟨j, hj1, rfl, hbj⟩ := hrel
                have BJ := Asd.mk hbj
                clear hbj
                by_cases hlj : j < n2
                · have hfit := (D4.out j hlj).2
                  obtain ⟨p1, p2, p3, p4⟩ := (D2.out j hlj).mono BJ.out
                  obtain ⟨y1, y2, y3, y4⟩ := (D4.out j hlj).1.mono BJ.out
                  have q4 : wr.cell? ⟨g3, (m1 + j) * 4 + 3, none⟩ = some (.int .i64 (((tkAt lt j).a : Int) + (s.size : Int) + 1)) := y4
                  have q1 : wr.cell? ⟨g3, (m1 + j) * 4, none⟩ = some (.int .i64 (tkAt lt j).k) := y1
                  have q2 : wr.cell? ⟨g3, (m1 + j) * 4 + 1, none⟩ = some (.int .i64 (tkAt lt j).n) := y2
                  have q3 : wr.cell? ⟨g3, (m1 + j) * 4 + 2, none⟩ = some (.string (bytesOf (tkAt lt j).t)) := y3
                  clear y1 y2 y3 y4
                  generalize (tkAt lt j).k = xk at p1 q1
                  generalize (tkAt lt j).n = xn at p2 q2
                  generalize (tkAt lt j).t = xt at p3 q3
                  generalize (tkAt lt j).a = xa at p4 q4 hfit
                  go_wp2_with fail
                  clear q1 q2 q3 q4
                  have W1 : ∃ WW, WW = wr.alloc (.cells #[.int .i64 xk, .int .i64 xn, .string (bytesOf xt), .int .i64 ((xa : Int) + (s.size : Int) + 1)] 29) := ⟨_, rfl⟩
                  obtain ⟨WW, hWW⟩ := W1
                  rw [← hWW]
                  have BW : Below wr.heap.size wr WW := by rw [hWW]; exact (Below.refl _ _).alloc (Nat.le_refl _) _
                  have r0 : WW.cell? ⟨wr.heap.size, 0, none⟩ = some (.int .i64 xk) := by rw [hWW]; exact cellNew _ _ _ 0 _ rfl
                  have r1 : WW.cell? ⟨wr.heap.size, 1, none⟩ = some (.int .i64 xn) := by rw [hWW]; exact cellNew _ _ _ 1 _ rfl
                  have r2 : WW.cell? ⟨wr.heap.size, 2, none⟩ = some (.string (bytesOf xt)) := by rw [hWW]; exact cellNew _ _ _ 2 _ rfl
                  have r3 : WW.cell? ⟨wr.heap.size, 3, none⟩ = some (.int .i64 ((xa : Int) + (s.size : Int) + 1)) := by rw [hWW]; exact cellNew _ _ _ 3 _ rfl
                  have p1 := below_cellAt BW p1
                  have p2 := below_cellAt BW p2
                  have p3 := below_cellAt BW p3
                  have p4 := below_cellAt BW p4
                  have BX := Asd.mk (BJ.out.trans (BW.mono BJ.out.size))
                  clear hWW BW
                  go_quiet (fail)
                  go_wp2_with fail
                  go_roundw
                  case rel => exact ⟨j + 1, by omega, by go_num, below_drewN BX.out _⟩
                  case measure => simp [intOf]; omega
                · go_wp2_with fail
                  refine (lawake_any _).mono ?_
                  rintro e w4 ⟨rfl, hb4⟩
                  go_wp2_with fail
                  go_ret
                  exact ⟨rfl, (B3.out.trans (BJ.out.mono B3.out.size)).trans (hb4.mono (Nat.le_trans B3.out.size BJ.out.size))⟩
end Go.Proofs.Ytaebigakdfaogaa
