/- lex.writeQuoted, lex.Quote. -/
import Derived.Test.YtaebigakdfaogaaDoorLexBld
namespace Go.Proofs.YtaebigakdfaogaaDoor
open Go.RowKit
def hexD (n : Nat) : UInt8 := if n < 10 then UInt8.ofNat (48 + n) else UInt8.ofNat (87 + n)
/-- A byte within quotes. -/
def quo1 (c : UInt8) : List UInt8 :=
  if ((c.toNat : Int) == 34 || (c.toNat : Int) == 92) = true then [92, c] else if ((c.toNat : Int) == 10) = true then [92, 110] else if plainB (c.toNat : Int) = true then [c]
  else [92, 120, hexD (c.toNat / 16), hexD (c.toNat % 16)]
def quoI (l : List UInt8) : List UInt8 := l.flatMap quo1
def quoL (l : List UInt8) : List UInt8 := [34] ++ quoI l ++ [34]
theorem sixteen (n : Nat) (h : n < 16) : (({ data := #[48, 49, 50, 51, 52, 53, 54, 55, 56, 57, 97, 98, 99, 100, 101, 102] } : ByteArray)[n]'h) = hexD n := by
  have : ∀ m : Fin 16, (({ data := #[48, 49, 50, 51, 52, 53, 54, 55, 56, 57, 97, 98, 99, 100, 101, 102] } : ByteArray)[m.val]'m.isLt) = hexD m.val := by decide
  exact this ⟨n, h⟩
theorem quo1_len (c : UInt8) : (quo1 c).length ≤ 4 := by
  unfold quo1
  split
  · simp
  · split
    · simp
    · split <;> simp
theorem byteCells_app (a b : List UInt8) : Lib.byteCells (a ++ b) = Lib.byteCells a ++ Lib.byteCells b := by simp [Lib.byteCells]
theorem bld_eq {B b : Nat} {p : Value} {xs ys : List Value} {w : World} (h : Lib.BuilderAt 54 5 B b p xs w) (he : xs = ys) : Lib.BuilderAt 54 5 B b p ys w := he ▸ h

set_option maxRecDepth 8000 in
set_option maxHeartbeats 2000000 in
theorem wq_any (B b : Nat) (l : List UInt8) (c : UInt8) (w : World) (h : Lib.IsBuilder 54 5 B b (Lib.byteCells l) w) (hlen : l.length + 4 ≤ 140737488355328) (hBw : B ≤ w.heap.size) :
    Calls Tryd.prog 19 #[.pointer (some ⟨b, 0, none⟩), .int .u8 (c.toNat : Int)] w fun e w' => e = .returned (.tuple #[]) ∧ (Lib.BuilderAt 54 5 B b (.pointer (some ⟨b, 0, none⟩)) (Lib.byteCells (l ++ quo1 c)) w' ∧ Below B w w') := by
  have hc := byte_le c
  have hcl : (Lib.byteCells l).length = l.length := Lib.byteCells_length l
  generalize hQ : quo1 c = Q
  rw [byteCells_app]
  unfold quo1 at hQ
  have HCI : Asd (∃ ci : Int, ci = (c.toNat : Int)) := ⟨_, rfl⟩
  obtain ⟨ci, hci⟩ := HCI.out
  clear HCI
  rw [← hci] at hQ hc ⊢
  have XP := Asd.mk (fun w => lplain_any ci w)
  have HCI := Asd.mk hci
  clear hci
  have HCL := Asd.mk hcl
  clear hcl
  rcases Bool.eq_false_or_eq_true (ci == 34) with g34 | g34
  · obtain rfl : Q = [92, c] := by rw [← hQ, g34]; rfl
    clear hQ
    have XS := Asd.mk (wb_any B b (Lib.byteCells l) 92 w h (by rw [HCL.out]; omega) hBw)
    go_enter Tryd.func19, Tryd.ntmps19
    go_wp2_with fail
    refine XS.out.mono ?_
    rintro e w1 ⟨rfl, h1, hb1⟩
    go_wp2_with fail
    refine (wb_any B b (Lib.byteCells l ++ [.int .u8 92]) ci w1 (.inr h1) (by rw [List.length_append, HCL.out]; show l.length + 1 + 1 ≤ _; omega) (Nat.le_trans hBw hb1.size)).mono ?_
    rintro e w2 ⟨rfl, h2, hb2⟩
    clear h1
    go_wp2_with fail
    go_end0
    exact ⟨rfl, bld_eq h2 (by rw [HCI.out, List.append_assoc]; rfl), hb1.trans hb2⟩
  rcases Bool.eq_false_or_eq_true (ci == 92) with g92 | g92
  · obtain rfl : Q = [92, c] := by rw [← hQ, g34, g92]; rfl
    clear hQ
    have XS := Asd.mk (wb_any B b (Lib.byteCells l) 92 w h (by rw [HCL.out]; omega) hBw)
    go_enter Tryd.func19, Tryd.ntmps19
    go_wp2_with fail
    refine XS.out.mono ?_
    rintro e w1 ⟨rfl, h1, hb1⟩
    go_wp2_with fail
    refine (wb_any B b (Lib.byteCells l ++ [.int .u8 92]) ci w1 (.inr h1) (by rw [List.length_append, HCL.out]; show l.length + 1 + 1 ≤ _; omega) (Nat.le_trans hBw hb1.size)).mono ?_
    rintro e w2 ⟨rfl, h2, hb2⟩
    clear h1
    go_wp2_with fail
    go_end0
    exact ⟨rfl, bld_eq h2 (by rw [HCI.out, List.append_assoc]; rfl), hb1.trans hb2⟩
  rcases Bool.eq_false_or_eq_true (ci == 10) with g10 | g10
  · obtain rfl : Q = [92, 110] := by rw [← hQ, g34, g92, g10]; rfl
    clear hQ
    have XS := Asd.mk (ws_any B b (Lib.byteCells l) ⟨#[92, 110]⟩ w h (by rw [HCL.out]; show l.length + 2 ≤ _; omega) hBw)
    go_enter Tryd.func19, Tryd.ntmps19
    go_wp2_with fail
    refine XS.out.mono ?_
    rintro e w1 ⟨rfl, h1, hb1⟩
    go_wp2_with fail
    go_end0
    exact ⟨rfl, h1, hb1⟩
  rcases Bool.eq_false_or_eq_true (plainB ci) with gp | gp
  · obtain rfl : Q = [c] := by rw [← hQ, g34, g92, g10, gp]; rfl
    clear hQ
    rw [gp] at XP
    have XS := Asd.mk (wb_any B b (Lib.byteCells l) ci w h (by rw [HCL.out]; omega) hBw)
    go_enter Tryd.func19, Tryd.ntmps19
    go_wp2_with fail
    refine (XP.out _).mono ?_
    rintro e w' ⟨rfl, rfl⟩
    go_wp2_with fail
    refine XS.out.mono ?_
    rintro e w1 ⟨rfl, h1, hb1⟩
    go_wp2_with fail
    go_end0
    exact ⟨rfl, bld_eq h1 (by rw [HCI.out]; rfl), hb1⟩
  · obtain rfl : Q = [92, 120, hexD (c.toNat / 16), hexD (c.toNat % 16)] := by rw [← hQ, g34, g92, g10, gp]; rfl
    clear hQ
    rw [gp] at XP
    have XS := Asd.mk (ws_any B b (Lib.byteCells l) ⟨#[92, 120]⟩ w h (by rw [HCL.out]; show l.length + 2 ≤ _; omega) hBw)
    go_enter Tryd.func19, Tryd.ntmps19
    go_wp2_with fail
    refine (XP.out _).mono ?_
    rintro e w' ⟨rfl, rfl⟩
    go_wp2_with fail
    refine XS.out.mono ?_
    rintro e w1 ⟨rfl, h1, hb1⟩
    go_wp2_with fail
    refine (wb_any B b (Lib.byteCells l ++ Lib.strCells ⟨#[92, 120]⟩) _ w1 (.inr h1) (by rw [List.length_append, HCL.out]; show l.length + 2 + 1 ≤ _; omega) (Nat.le_trans hBw hb1.size)).mono ?_
    rintro e w2 ⟨rfl, h2, hb2⟩
    have hs1 := hb1.size
    clear h1
    go_wp2_with fail
    refine (wb_any B b _ _ w2 (.inr h2) (by rw [List.length_append, List.length_append, HCL.out]; show l.length + 2 + 1 + 1 ≤ _; omega) (Nat.le_trans hBw (Nat.le_trans hs1 hb2.size))).mono ?_
    rintro e w3 ⟨rfl, h3, hb3⟩
    clear h2
    go_wp2_with fail
    go_end0
    refine ⟨rfl, bld_eq h3 ?_, (hb1.trans hb2).trans hb3⟩
    have e1 : (ci / 16).toNat = c.toNat / 16 := by rw [HCI.out]; omega
    have e2 : (ci % 16).toNat = c.toNat % 16 := by rw [HCI.out]; omega
    have hd1 : (ci / 16).toNat < 16 := by omega
    have hd2 : (ci % 16).toNat < 16 := by omega
    have k1 := sixteen (ci / 16).toNat hd1
    have k2 := sixteen (ci % 16).toNat hd2
    rw [k1, k2, e1, e2]
    simp [Lib.byteCells, Lib.strCells]

set_option maxRecDepth 8000 in
set_option maxHeartbeats 2000000 in
theorem quote_any (s : ByteArray) (w : World) (hs : s.size ≤ 1000000) :
    Calls Tryd.prog 12 #[.string s] w fun e w' => e = .returned (.string (bytesOf (quoL s.data.toList))) ∧ Below w.heap.size w w' := by
  have HF : Asd (Lib.IsBuilder 54 5 w.heap.size w.heap.size (Lib.byteCells []) (w.alloc (.cells #[.pointer none, .slice none 0 0] 54))) := ⟨Lib.fresh_isBuilder 54 5 w⟩
  have HB0 : Asd (Below w.heap.size w (w.alloc (.cells #[.pointer none, .slice none 0 0] 54))) := ⟨(Below.refl _ _).alloc (Nat.le_refl _) _⟩
  go_enter Tryd.func12, Tryd.ntmps12
  go_wp2_with fail
  generalize w.alloc (.cells #[.pointer none, .slice none 0 0] 54) = W at HF HB0 ⊢
  refine (wb_any w.heap.size w.heap.size (Lib.byteCells []) 34 W HF.out (by simp [Lib.byteCells]) HB0.out.size).mono ?_
  rintro e w1 ⟨rfl, h1, hb1⟩
  have H1 : Asd (Lib.BuilderAt 54 5 w.heap.size w.heap.size (.pointer (some ⟨w.heap.size, 0, none⟩)) (Lib.byteCells ([34] ++ quoI [])) w1 ∧ Below w.heap.size w w1) := ⟨h1, HB0.out.trans hb1⟩
  clear h1 hb1 HF HB0
  go_wp2_with fail
  go_loopw [8] (fun v8 wr => ∃ k : Nat, k ≤ s.size ∧ v8 = .int .i64 k ∧ Lib.BuilderAt 54 5 w.heap.size w.heap.size (.pointer (some ⟨w.heap.size, 0, none⟩)) (Lib.byteCells ([34] ++ quoI (s.data.toList.take k))) wr ∧ Below w.heap.size w wr) (fun v8 _ => s.size - (intOf v8).toNat)
  case atStart => exact ⟨0, Nat.zero_le _, rfl, by simpa using H1.out.1, H1.out.2⟩
  case round =>
    obtain ⟨k, hk, rfl, hbl, hbw⟩ := hrel
    have A := Asd.mk (And.intro hbl hbw)
    clear hbl hbw H1
    have hql : ∀ l : List UInt8, (quoI l).length ≤ 4 * l.length := fun l => by
      induction l with
      | nil => simp [quoI]
      | cons c r ih =>
        have := quo1_len c
        show (quo1 c ++ quoI r).length ≤ _
        rw [List.length_append, List.length_cons]
        omega
    have hq := hql (s.data.toList.take k)
    rw [List.length_take, size_list] at hq
    clear hql
    have hmin : min k s.size = k := by omega
    rw [hmin] at hq
    have HQ := Asd.mk hq
    clear hq hmin
    by_cases hlt : k < s.size
    · have XX := Asd.mk (wq_any w.heap.size w.heap.size ([34] ++ quoI (s.data.toList.take k)) s[k] wr (.inr A.out.1) (by have := HQ.out; simp; omega) A.out.2.size)
      go_wp2_with fail
      refine XX.out.mono ?_
      rintro e w2 ⟨rfl, h2, hb2⟩
      have H2 := Asd.mk (And.intro h2 hb2)
      clear h2 hb2 XX
      go_wp2_with fail
      go_roundw
      case rel => exact ⟨k + 1, by omega, by go_num, by
          have ht : s.data.toList.take (k + 1) = s.data.toList.take k ++ [s[k]] := by
            rw [List.take_succ_eq_append_getElem (by rw [size_list]; exact hlt)]; rfl
          rw [ht]
          refine bld_eq H2.out.1 ?_
          simp [quoI], A.out.2.trans H2.out.2⟩
      case measure => simp [intOf]; omega
    · have hks : s.data.toList.take k = s.data.toList := List.take_of_length_le (by rw [size_list]; omega)
      rw [hks] at A HQ
      go_wp2_with fail
      refine (wb_any w.heap.size w.heap.size (Lib.byteCells ([34] ++ quoI s.data.toList)) 34 wr (.inr A.out.1) (by have := HQ.out; rw [Lib.byteCells_length]; simp; omega) A.out.2.size).mono ?_
      rintro e w2 ⟨rfl, h2, hb2⟩
      have H2 := Asd.mk (And.intro (show Lib.IsBuilder 54 5 w.heap.size w.heap.size (Lib.byteCells (quoL s.data.toList)) w2 from .inr (bld_eq h2 (by rw [quoL, byteCells_app ([34] ++ quoI s.data.toList)]; rfl))) (A.out.2.trans hb2))
      clear h2 hb2
      go_wp2_with fail
      refine (bstring_any w.heap.size w.heap.size (quoL s.data.toList) w2 H2.out.1 H2.out.2.size).mono ?_
      rintro e w3 ⟨rfl, hb3⟩
      go_wp2_with fail
      go_ret
      exact ⟨rfl, H2.out.2.trans hb3⟩
end Go.Proofs.YtaebigakdfaogaaDoor
