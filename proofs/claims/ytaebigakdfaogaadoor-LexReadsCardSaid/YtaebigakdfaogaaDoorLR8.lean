/- The document's lexer: digit, Quote, Same. -/
import Derived.Test.YtaebigakdfaogaaDoorLexQuo
import Derived.Test.YtaebigakdfaogaaDoorLexAll
import Derived.Laws.StructEq
import Derived.LaidEql
namespace Go.Proofs.YtaebigakdfaogaaDoor
open Go.RowKit
theorem hexD_nat (n : Nat) (h : n < 16) : ((hexD n).toNat : Int) = if n < 10 then 48 + (n : Int) else 87 + (n : Int) := by
  have : ∀ m : Fin 16, ((hexD m.val).toNat : Int) = if m.val < 10 then 48 + (m.val : Int) else 87 + (m.val : Int) := by decide
  exact this ⟨n, h⟩
theorem hexD_nat0 (n : Nat) (h : n < 16) : 0 ≤ ((hexD n).toNat : Int) ∧ ((hexD n).toNat : Int) ≤ 255 := byte_le _
theorem rdig_any (n : Nat) (c : Int) (w : World) (hc : c = (n : Int)) (h : n < 16) : Calls Tryd.prog 21 #[.int .u8 c] w fun e w' => e = .returned (.int .u8 ((hexD n).toNat : Int)) ∧ w = w' := by
  subst hc
  rw [hexD_nat n h]
  by_cases h10 : n < 10
  · rw [if_pos h10]
    have h10i : (n : Int) < 10 := by omega
    go_enter Tryd.func21, Tryd.ntmps21
    go_wp2_with fail
    go_ret
    exact ⟨rfl, rfl⟩
  · rw [if_neg h10]
    have h10i : ¬ (n : Int) < 10 := by omega
    go_enter Tryd.func21, Tryd.ntmps21
    go_wp2_with fail
    go_ret
    exact ⟨ret_int (by omega), rfl⟩
theorem rq_news {w : World} (xs : List UInt8) (cs : Array Value) (hcs : cs.toList = bcells xs) : ∀ j u, (bcells xs)[j]? = some u → (w.alloc (.cells cs 5)).cell? ((⟨w.heap.size, 0, none⟩ : Addr).add j) = some u := by
  intro j u hj
  rw [← hcs] at hj
  have := cellNew w cs 5 j u (by rw [← hj, Array.getElem?_toList])
  by_cases hj0 : j = 0
  · subst hj0; simpa [Addr.add] using this
  · simpa [Addr.add, hj0] using this
theorem bcells_app (a b : List UInt8) : bcells (a ++ b) = bcells a ++ bcells b := by simp [bcells]
theorem bcells_len (a : List UInt8) : (bcells a).length = a.length := by simp [bcells]
theorem bcells_one (a : List UInt8) : ∀ u ∈ bcells a, u.oneCell' = true := by
  intro u hu
  obtain ⟨c, _, rfl⟩ := List.mem_map.1 hu
  rfl
theorem rq_conv {o : Oper} {a : Act} {K : Act → World → Prop} {Q : Exit → Act → World → Prop} {g : Value → World → Result Next} {w : World} {base : Nat} {v : Value} {acc : List UInt8}
    (hown : w.ownsRow base 5 1 v acc.length (bcells acc)) (hK : Oper.upon Tryd.prog o a K Q ((Result.ok (.string (bytesOf acc)) w).andThen g)) :
    Oper.upon Tryd.prog o a K Q (((convert 38 9 v).run Tryd.prog w).andThen g) := by
  rw [conv_own hown]
  exact hK
theorem rq_own {w w6 : World} {base : Nat} {v : Value} {acc xs : List UInt8} {n : Nat} (h : w6.ownsRow base 5 1 v (acc.length + n) (bcells acc ++ bcells xs)) (hn : n = xs.length) : w6.ownsRow base 5 1 v (acc ++ xs).length (bcells (acc ++ xs)) := by
  rw [List.length_append, bcells_app, ← hn]
  exact h
theorem rq_start (w W : World) (hW : W = w.alloc (.cells #[.int .u8 34] 5)) : Below w.heap.size w W ∧ W.ownsRow w.heap.size 5 1 (.slice (some ⟨w.heap.size, 0, none⟩) 1 1) ([34] : List UInt8).length (bcells [34]) := by
  subst hW
  exact ⟨(Below.refl _ _).alloc (Nat.le_refl _) _, World.ownsRow_lit (base := w.heap.size) (e := 5) (size := 1) w #[.int .u8 34] 1 (Nat.le_refl _) (by simp [maxLen]) rfl⟩
theorem quoI_snoc (s : ByteArray) (k : Nat) (h : k < s.size) : [34] ++ quoI (s.data.toList.take (k + 1)) = ([34] ++ quoI (s.data.toList.take k)) ++ quo1 s[k] := by
  rw [List.take_succ_eq_append_getElem (by rw [size_list]; exact h)]
  simp [quoI]
  rfl
theorem rq_len (s : ByteArray) (k : Nat) (hk : k ≤ s.size) : ([34] ++ quoI (s.data.toList.take k)).length ≤ 1 + 4 * k := by
  have hql : ∀ l : List UInt8, (quoI l).length ≤ 4 * l.length := fun l => by
    induction l with
    | nil => simp [quoI]
    | cons c r ih =>
      have := quo1_len c
      show (quo1 c ++ quoI r).length ≤ _
      rw [List.length_append, List.length_cons]
      omega
  have := hql (s.data.toList.take k)
  rw [List.length_take, size_list] at this
  rw [List.length_append]
  simp only [List.length_cons, List.length_nil]
  omega

set_option maxRecDepth 8000 in
set_option maxHeartbeats 4000000 in
theorem rquote_any (s : ByteArray) (w : World) (hs : s.size ≤ 65536) :
    Calls Tryd.prog 13 #[.string s] w fun e w' => e = .returned (.string (bytesOf (quoL s.data.toList))) ∧ Below w.heap.size w w' := by
  obtain ⟨i0, hi, hz0, hz1, hz2⟩ := infoParts info_u8
  have F := Asd.mk (rq_start w _ rfl)
  go_enter Tryd.func13, Tryd.ntmps13
  go_wp2_with fail
  generalize w.alloc (.cells #[.int .u8 34] 5) = W at F ⊢
  go_loopg [3, 4] s.size (fun gk v3 v4 wr => ∃ k : Nat, v4 = .int .i64 k ∧ k + gk = s.size ∧ Below w.heap.size w wr ∧ wr.ownsRow w.heap.size 5 1 v3 ([34] ++ quoI (s.data.toList.take k)).length (bcells ([34] ++ quoI (s.data.toList.take k))))
  case atStart => exact ⟨0, rfl, by omega, F.out.1, by simpa [quoI] using F.out.2⟩
  case round =>
    obtain ⟨k, rfl, hk, hbw, hown⟩ := hrel
    have hlen := rq_len s k (by omega)
    have hsn := Asd.mk (fun h : k < s.size => quoI_snoc s k h)
    have hfull := Asd.mk (fun h : k = s.size => show ([34] ++ quoI (s.data.toList.take k)) ++ [34] = quoL s.data.toList by rw [h, List.take_of_length_le (by rw [size_list]; omega)]; rfl)
    generalize [34] ++ quoI (s.data.toList.take k) = acc at hown hlen hsn hfull
    obtain ⟨ao, cap, rfl⟩ : ∃ ao cap, u3 = .slice ao acc.length cap := by
      rcases hown.2 with ⟨hv, h0⟩ | ⟨g, cap, cur, hv, _⟩
      · exact ⟨none, 0, by rw [hv, h0]⟩
      · exact ⟨_, _, hv⟩
    have BW := Asd.mk hbw
    clear hbw
    by_cases hlt : k < s.size
    · have hcb := byte_le s[k]
      have SN : Asd ([34] ++ quoI (s.data.toList.take (k + 1)) = acc ++ quo1 s[k]) := ⟨hsn.out hlt⟩
      have Q1 : Asd (∃ Q, Q = quo1 s[k]) := ⟨_, rfl⟩
      obtain ⟨Q, hQ⟩ := Q1.out
      clear Q1
      rw [← hQ] at SN
      unfold quo1 at hQ
      clear hsn hfull
      rcases Bool.eq_false_or_eq_true ((s[k].toNat : Int) == 34) with h34 | h34
      · have hQ' : Q = [92, s[k]] := by rw [hQ, h34]; rfl
        clear hQ
        go_wp2_with (at_builtin; refine wpList_append_own _ rfl _ _ 38 rfl w.heap.size 5 i0 (.int .u8 0) 1 1 Tryd.underlying38 hi hz0 hz1 hz2 rfl (by decide) _ _ _ rfl (hown.alloc _) ⟨wr.heap.size, 0, none⟩ 2 2 (bcells [92, s[k]]) rfl rfl (rq_news [92, s[k]] _ rfl) (bcells_one _) (by unfold maxLen; omega) (by omega) (by have := BW.out.size; simp; omega) ?_)
        intro v' w6 hown6 hgrow _
        have O6 := Asd.mk (rq_own (w := w) hown6 rfl)
        have B6 := Asd.mk (Below.grown (BW.out.alloc BW.out.size (.cells #[.int .u8 92, .int .u8 (s[k].toNat : Int)] 5)) hgrow (by have := BW.out.size; simp; omega) (fun k hk => (hown.lt k hk).1))
        clear hown6 hgrow hown
        rw [← hQ', ← SN.out] at O6
        clear hQ'
        go_wp2_with fail
        go_roundg (gk - 1)
        case measure => omega
        case rel => exact ⟨k + 1, by go_num, by omega, B6.out, O6.out⟩
      rcases Bool.eq_false_or_eq_true ((s[k].toNat : Int) == 92) with h92 | h92
      · have hQ' : Q = [92, s[k]] := by rw [hQ, h34, h92]; rfl
        clear hQ
        go_wp2_with (at_builtin; refine wpList_append_own _ rfl _ _ 38 rfl w.heap.size 5 i0 (.int .u8 0) 1 1 Tryd.underlying38 hi hz0 hz1 hz2 rfl (by decide) _ _ _ rfl (hown.alloc _) ⟨wr.heap.size, 0, none⟩ 2 2 (bcells [92, s[k]]) rfl rfl (rq_news [92, s[k]] _ rfl) (bcells_one _) (by unfold maxLen; omega) (by omega) (by have := BW.out.size; simp; omega) ?_)
        intro v' w6 hown6 hgrow _
        have O6 := Asd.mk (rq_own (w := w) hown6 rfl)
        have B6 := Asd.mk (Below.grown (BW.out.alloc BW.out.size (.cells #[.int .u8 92, .int .u8 (s[k].toNat : Int)] 5)) hgrow (by have := BW.out.size; simp; omega) (fun k hk => (hown.lt k hk).1))
        clear hown6 hgrow hown
        rw [← hQ', ← SN.out] at O6
        clear hQ'
        go_wp2_with fail
        go_roundg (gk - 1)
        case measure => omega
        case rel => exact ⟨k + 1, by go_num, by omega, B6.out, O6.out⟩
      rcases Bool.eq_false_or_eq_true ((s[k].toNat : Int) == 10) with h10 | h10
      · have hQ' : Q = [92, 110] := by rw [hQ, h34, h92, h10]; rfl
        clear hQ
        go_wp2_with (at_builtin; refine wpList_append_own _ rfl _ _ 38 rfl w.heap.size 5 i0 (.int .u8 0) 1 1 Tryd.underlying38 hi hz0 hz1 hz2 rfl (by decide) _ _ _ rfl (hown.alloc _) ⟨wr.heap.size, 0, none⟩ 2 2 (bcells [92, 110]) rfl rfl (rq_news [92, 110] _ rfl) (bcells_one _) (by unfold maxLen; omega) (by omega) (by have := BW.out.size; simp; omega) ?_)
        intro v' w6 hown6 hgrow _
        have O6 := Asd.mk (rq_own (w := w) hown6 rfl)
        have B6 := Asd.mk (Below.grown (BW.out.alloc BW.out.size (.cells #[.int .u8 92, .int .u8 110] 5)) hgrow (by have := BW.out.size; simp; omega) (fun k hk => (hown.lt k hk).1))
        clear hown6 hgrow hown
        rw [← hQ', ← SN.out] at O6
        clear hQ'
        go_wp2_with fail
        go_roundg (gk - 1)
        case measure => omega
        case rel => exact ⟨k + 1, by go_num, by omega, B6.out, O6.out⟩
      rcases Bool.eq_false_or_eq_true (plainB (s[k].toNat : Int)) with hpl | hpl
      · have hQ' : Q = [s[k]] := by rw [hQ, h34, h92, h10, hpl]; rfl
        have hpr : 32 ≤ (s[k].toNat : Int) ∧ (s[k].toNat : Int) ≤ 126 := by simpa [plainB] using hpl
        obtain ⟨hpr1, hpr2⟩ := hpr
        clear hQ hpl
        go_wp2_with (at_builtin; refine wpList_append_own _ rfl _ _ 38 rfl w.heap.size 5 i0 (.int .u8 0) 1 1 Tryd.underlying38 hi hz0 hz1 hz2 rfl (by decide) _ _ _ rfl (hown.alloc _) ⟨wr.heap.size, 0, none⟩ 1 1 (bcells [s[k]]) rfl rfl (rq_news [s[k]] _ rfl) (bcells_one _) (by unfold maxLen; omega) (by omega) (by have := BW.out.size; simp; omega) ?_)
        intro v' w6 hown6 hgrow _
        have O6 := Asd.mk (rq_own (w := w) hown6 rfl)
        have B6 := Asd.mk (Below.grown (BW.out.alloc BW.out.size (.cells #[.int .u8 (s[k].toNat : Int)] 5)) hgrow (by have := BW.out.size; simp; omega) (fun k hk => (hown.lt k hk).1))
        clear hown6 hgrow hown
        rw [← hQ', ← SN.out] at O6
        clear hQ'
        go_wp2_with fail
        go_roundg (gk - 1)
        case measure => omega
        case rel => exact ⟨k + 1, by go_num, by omega, B6.out, O6.out⟩
      · have hQ' : Q = [92, 120, hexD (s[k].toNat / 16), hexD (s[k].toNat % 16)] := by rw [hQ, h34, h92, h10, hpl]; rfl
        have hnp : ¬ (32 ≤ (s[k].toNat : Int) ∧ (s[k].toNat : Int) ≤ 126) := by simpa [plainB] using hpl
        have X1 := Asd.mk (fun w => rdig_any (s[k].toNat / 16) ((s[k].toNat : Int) / 16) w (by omega) (by omega))
        have X2 := Asd.mk (fun w => rdig_any (s[k].toNat % 16) ((s[k].toNat : Int) % 16) w (by omega) (by omega))
        clear hQ hpl
        by_cases h32 : (s[k].toNat : Int) < 32
        · have h32' : ¬ (32 ≤ (s[k].toNat : Int)) := by omega
          clear hnp
          go_wp2_with fail
          refine (X1.out _).mono ?_
          rintro e w' ⟨rfl, rfl⟩
          go_wp2_with fail
          refine (X2.out _).mono ?_
          rintro e w'' ⟨rfl, rfl⟩
          go_wp2_with (at_builtin; refine wpList_append_own _ rfl _ _ 38 rfl w.heap.size 5 i0 (.int .u8 0) 1 1 Tryd.underlying38 hi hz0 hz1 hz2 rfl (by decide) _ _ _ rfl (hown.alloc _) ⟨wr.heap.size, 0, none⟩ 4 4 (bcells [92, 120, hexD (s[k].toNat / 16), hexD (s[k].toNat % 16)]) rfl rfl (rq_news [92, 120, hexD (s[k].toNat / 16), hexD (s[k].toNat % 16)] _ rfl) (bcells_one _) (by unfold maxLen; omega) (by omega) (by have := BW.out.size; simp; omega) ?_)
          intro v' w6 hown6 hgrow _
          have O6 := Asd.mk (rq_own (w := w) hown6 rfl)
          have B6 := Asd.mk (Below.grown (BW.out.alloc BW.out.size (.cells #[.int .u8 92, .int .u8 120, .int .u8 ((hexD (s[k].toNat / 16)).toNat : Int), .int .u8 ((hexD (s[k].toNat % 16)).toNat : Int)] 5)) hgrow (by have := BW.out.size; simp; omega) (fun k hk => (hown.lt k hk).1))
          clear hown6 hgrow hown
          rw [← hQ', ← SN.out] at O6
          clear hQ'
          go_wp2_with fail
          go_roundg (gk - 1)
          case measure => omega
          case rel => exact ⟨k + 1, by go_num, by omega, B6.out, O6.out⟩
        · have h32' : 32 ≤ (s[k].toNat : Int) := by omega
          have h126 : ¬ ((s[k].toNat : Int) ≤ 126) := by omega
          clear hnp h32
          go_wp2_with fail
          refine (X1.out _).mono ?_
          rintro e w' ⟨rfl, rfl⟩
          go_wp2_with fail
          refine (X2.out _).mono ?_
          rintro e w'' ⟨rfl, rfl⟩
          go_wp2_with (at_builtin; refine wpList_append_own _ rfl _ _ 38 rfl w.heap.size 5 i0 (.int .u8 0) 1 1 Tryd.underlying38 hi hz0 hz1 hz2 rfl (by decide) _ _ _ rfl (hown.alloc _) ⟨wr.heap.size, 0, none⟩ 4 4 (bcells [92, 120, hexD (s[k].toNat / 16), hexD (s[k].toNat % 16)]) rfl rfl (rq_news [92, 120, hexD (s[k].toNat / 16), hexD (s[k].toNat % 16)] _ rfl) (bcells_one _) (by unfold maxLen; omega) (by omega) (by have := BW.out.size; simp; omega) ?_)
          intro v' w6 hown6 hgrow _
          have O6 := Asd.mk (rq_own (w := w) hown6 rfl)
          have B6 := Asd.mk (Below.grown (BW.out.alloc BW.out.size (.cells #[.int .u8 92, .int .u8 120, .int .u8 ((hexD (s[k].toNat / 16)).toNat : Int), .int .u8 ((hexD (s[k].toNat % 16)).toNat : Int)] 5)) hgrow (by have := BW.out.size; simp; omega) (fun k hk => (hown.lt k hk).1))
          clear hown6 hgrow hown
          rw [← hQ', ← SN.out] at O6
          clear hQ'
          go_wp2_with fail
          go_roundg (gk - 1)
          case measure => omega
          case rel => exact ⟨k + 1, by go_num, by omega, B6.out, O6.out⟩
    · have FU := Asd.mk (hfull.out (by omega))
      clear hsn hfull
      go_wp2_with (at_builtin; refine wpList_append_own _ rfl _ _ 38 rfl w.heap.size 5 i0 (.int .u8 0) 1 1 Tryd.underlying38 hi hz0 hz1 hz2 rfl (by decide) _ _ _ rfl (hown.alloc _) ⟨wr.heap.size, 0, none⟩ 1 1 (bcells [34]) rfl rfl (rq_news [34] _ rfl) (bcells_one _) (by unfold maxLen; omega) (by omega) (by have := BW.out.size; simp; omega) ?_)
      intro v' w6 hown6 hgrow _
      have O6 := Asd.mk (rq_own (w := w) hown6 rfl)
      have B6 := Asd.mk (Below.grown (BW.out.alloc BW.out.size (.cells #[.int .u8 34] 5)) hgrow (by have := BW.out.size; simp; omega) (fun k hk => (hown.lt k hk).1))
      rw [FU.out] at O6
      clear hown6 hgrow hown
      go_wp2_with fail
      refine rq_conv O6.out ?_
      go_wp2_with fail
      go_ret
      exact ⟨rfl, B6.out⟩

theorem heldTok : Tryd.prog.stoodInHeld 37 = false := by kernel_rfl
theorem fieldsTok : Tryd.prog.underlying 37 = some (.struct (Tryd.prog.fieldsOf 37)) := by kernel_rfl
theorem neTok (k n a : Int) (t : ByteArray) (w : World) : (binOp .neq 37 (.agg #[.int .i64 k, .int .i64 n, .string t, .int .i64 a]) (.agg #[.int .i64 k, .int .i64 n, .string t, .int .i64 a])).run Tryd.prog w = .ok (.bool false) w := by
  rw [run_neq_struct, run_equalIn_agg (d := 9999) w _ _ _ fieldsTok heldTok]
  simp [Program.fieldsOf, Tryd.underlying37, go_sem, Tryd.underlying3, Tryd.underlying9]
theorem egTok : Tryd.prog.eqGuardType Tryd.prog.depth 37 = false := by kernel_rfl
theorem below_drewN8 {B : Nat} {a w : World} (h : Below B a w) (n : Nat) : Below B a (w.drewN n) := ⟨h.os, h.tape, h.output, h.size, h.block⟩
/-- Same, of the same tokens. -/
theorem rsame_any (v1 v2 : Value) (ts : List Tk) (w : World) (h1 : ToksAt w v1 ts) (h2 : ToksAt w v2 ts) : Calls Tryd.prog 11 #[v1, v2] w fun e w' => e = .returned (.bool true) ∧ Below w.heap.size w w' := by
  obtain ⟨hl, hp, g1, cap1, rfl, hc1⟩ := h1
  obtain ⟨_, _, g2, cap2, rfl, hc2⟩ := h2
  have C1 := Asd.mk hc1
  have C2 := Asd.mk hc2
  clear hc1 hc2
  go_enter Tryd.func11, Tryd.ntmps11
  go_wp2_with fail
  go_loopw [5] (fun v5 wr => ∃ k : Nat, k ≤ ts.length ∧ v5 = .int .i64 k ∧ Below w.heap.size w wr) (fun v5 _ => ts.length - (intOf v5).toNat)
  case atStart => exact ⟨0, Nat.zero_le _, rfl, Below.refl _ _⟩
  case round =>
    obtain ⟨k, hk, rfl, hbw⟩ := hrel
    have BK := Asd.mk hbw
    clear hbw
    by_cases hlt : k < ts.length
    · obtain ⟨p1, p2, p3, p4⟩ := C1.out k hlt
      obtain ⟨q1, q2, q3, q4⟩ := C2.out k hlt
      have p1 := below_cellAt BK.out p1
      have p2 := below_cellAt BK.out p2
      have p3 := below_cellAt BK.out p3
      have p4 := below_cellAt BK.out p4
      have q1 := below_cellAt BK.out q1
      have q2 := below_cellAt BK.out q2
      have q3 := below_cellAt BK.out q3
      have q4 := below_cellAt BK.out q4
      generalize (tkAt ts k).k = xk at *
      generalize (tkAt ts k).n = xn at *
      generalize (tkAt ts k).t = xt at *
      generalize (tkAt ts k).a = xa at *
      have nt := neTok
      have ng := egTok
      go_wp2_with fail
      go_quiet (fail)
      go_wp2_with fail
      go_roundw
      case rel => exact ⟨k + 1, by omega, by go_num, below_drewN8 BK.out _⟩
      case measure => simp [intOf]; omega
    · go_wp2_with fail
      go_ret
      exact ⟨rfl, BK.out⟩
end Go.Proofs.YtaebigakdfaogaaDoor
