/- Parts of the proof: TyK, TyR, RefKept, Ref, RefL, PwC4. -/
import Derived.Lib.QuietBelow
import Derived.Test.YtglefhgcfijiaaaGAe
import Derived.Test.YtglefhgcfijiaaaGAf
set_option linter.unusedSimpArgs false
set_option linter.unusedVariables false
set_option maxRecDepth 1000000
set_option maxHeartbeats 40000000
namespace Go.Proofs.Ytglefhgcfijiaaa
open Go.RowKit Go.Deep Go.Sort
theorem rdepth_any : ∀ (f : Nat) (t : Ty5) (v0 v1 v2 v3 v4 : Value) (w : World),szT t ≤ f -> nodesT t ≤ 1000000 -> TyIn w t v0 v1 v2 v3 v4 ->
  Calls Try.prog 37 #[.agg #[v0,v1,v2,v3,v4]] w fun e w' => e = .returned (.int .i64 (depthT t)) ∧ Below w.heap.size w w'
 | 0,t,_,_,_,_,_,_,h,_,_ => absurd (szT_pos t) (by omega)
 | f + 1,.mk k n nm ls ks,v0,v1,v2,v3,v4,w,hz,hn,hT => by
  obtain ⟨rfl,rfl,⟨rfl,hm⟩,hl,hk,h4⟩ := hT
  unfold maxLen at hk
  rcases h4 with ⟨a,cap,rfl,rfl⟩ | ⟨b,off,cap,rfl,hr⟩
  ·go_enter Try.func37,Try.ntmps37
   go_wp2
   go_rounds 1
   go_ret
   exact ⟨retI rfl,by go_grown⟩
  ·have IH := Asd.mk (rdepth_any f)
   have HZ := Asd.mk hz
   have HN := Asd.mk hn
   have HM := Asd.mk hm
   have HL := Asd.mk hl
   have HR := Asd.mk hr
   clear hz hn hm hl hr
   go_enter Try.func37,Try.ntmps37
   go_wp2
   have Z := alloc_at w #[.int .i64 k,.int .i64 n,.string nm,v3,.slice (some ⟨b,off,none⟩) ks.length cap] 38 4 _ rfl
   have L := alloc_lt w (.cells #[.int .i64 k,.int .i64 n,.string nm,v3,.slice (some ⟨b,off,none⟩) ks.length cap] 38)
   have B1 : Below w.heap.size w (w.alloc (.cells #[.int .i64 k,.int .i64 n,.string nm,v3,.slice (some ⟨b,off,none⟩) ks.length cap] 38)) := (Below.refl _ _).alloc (Nat.le_refl _) _
   generalize w.alloc (.cells #[.int .i64 k,.int .i64 n,.string nm,v3,.slice (some ⟨b,off,none⟩) ks.length cap] 38) = W at Z L B1 ⊢
   have B1 := Asd.mk B1
   have Z := Asd.mk Z
   have L := Asd.mk L
   go_loopw [3,4] (fun m i wr => ∃ j : Nat,j ≤ ks.length ∧ i = .int .i64 j ∧ m = .int .i64 ((depthL (ks.take j) : Nat) : Int) ∧ Below W.heap.size W wr) (fun _ i _ => ks.length - (intOf i).toNat)
   case atStart => exact ⟨0,by omega,rfl,by simp [depthL],Below.refl _ _⟩
   case round =>
    obtain ⟨j,hj,rfl,rfl,hb⟩ := hrel
    have z := cell_below hb Z.out
    by_cases hlt : j < ks.length
    ·obtain ⟨x0,x1,x2,x3,x4,c0,c1,c2,c3,c4,ht⟩ := (((HR.out).mono B1.out).mono hb).at hlt
     have HT := Asd.mk ht
     have HB := Asd.mk hb
     clear ht hb
     go_wp2_with (go_at_call 37;refine (IH.out (kAt ks j) _ _ _ _ _ _ (by have := HZ.out;have := szT_kid (k := k) (n := n) (nm := nm) (ls := ls) hlt;omega) (by have := HN.out;have := nodesL_step hlt;have := nodesL_le ks (j + 1);simp only [nodesT] at *;omega) HT.out).mono ?_;rintro e w2 ⟨rfl,hb2⟩)
     have hn1 : nodesL (ks.take (j + 1)) ≤ 1000000 := by have := HN.out;have := nodesL_le ks (j + 1);simp only [nodesT] at *;omega
     go_roundw
     case rel => exact ⟨j + 1,by omega,by go_num,by rw [depthL_step hlt];go_num,HB.out.trans (hb2.mono HB.out.size)⟩
     case measure => simp [intOf];omega
    ·have : j = ks.length := by omega
     subst this
     go_wp2
     go_ret
     have hd := depth_nodes (.mk k n nm ls ks)
     have := HN.out
     exact ⟨congrArg Ending.returned (i64_small (by simp only [depthT];omega) (by omega) (by omega)),B1.out.trans (hb.mono B1.out.size)⟩
theorem rhas_any (kd : Int) : ∀ (f : Nat) (t : Ty5) (v0 v1 v2 v3 v4 : Value) (w : World),szT t ≤ f -> TyIn w t v0 v1 v2 v3 v4 ->
  Calls Try.prog 75 #[.agg #[v0,v1,v2,v3,v4],.int .i64 kd] w fun e w' => e = .returned (.bool (hasT kd t)) ∧ Below w.heap.size w w'
 | 0,t,_,_,_,_,_,_,h,_ => absurd (szT_pos t) (by omega)
 | f + 1,.mk k n nm ls ks,v0,v1,v2,v3,v4,w,hz,hT => by
  obtain ⟨rfl,rfl,⟨rfl,hm⟩,hl,hk,h4⟩ := hT
  unfold maxLen at hk
  rcases Bool.eq_false_or_eq_true (k == kd) with hq | hq
  ·have hv : hasT kd (.mk k n nm ls ks) = true := by simp [hasT,hq]
   rw [hv]
   rw [beq_iff_eq] at hq
   subst hq
   rcases h4 with ⟨a,cap,rfl,rfl⟩ | ⟨b,off,cap,rfl,hr⟩
   all_goals
    go_enter Try.func75,Try.ntmps75
    go_wp2
    go_ret
    exact ⟨rfl,by go_grown⟩
  have hne : k ≠ kd := by intro e;rw [e] at hq;simp at hq
  rcases h4 with ⟨a,cap,rfl,rfl⟩ | ⟨b,off,cap,rfl,hr⟩
  ·have hv : hasT kd (.mk k n nm ls []) = false := by simp [hasT,hasL,hne]
   rw [hv]
   clear hv
   go_enter Try.func75,Try.ntmps75
   go_wp2
   go_rounds 1
   go_ret
   exact ⟨rfl,by go_grown⟩
  ·have IH := Asd.mk (rhas_any kd f)
   have HZ := Asd.mk hz
   have HM := Asd.mk hm
   have HL := Asd.mk hl
   have HR := Asd.mk hr
   have HQ := Asd.mk hq
   clear hz hm hl hr hq
   go_enter Try.func75,Try.ntmps75
   go_wp2
   clear hne
   rw [HQ.out]
   have Z := alloc_at w #[.int .i64 k,.int .i64 n,.string nm,v3,.slice (some ⟨b,off,none⟩) ks.length cap] 38 4 _ rfl
   have L := alloc_lt w (.cells #[.int .i64 k,.int .i64 n,.string nm,v3,.slice (some ⟨b,off,none⟩) ks.length cap] 38)
   have B1 : Below w.heap.size w (w.alloc (.cells #[.int .i64 k,.int .i64 n,.string nm,v3,.slice (some ⟨b,off,none⟩) ks.length cap] 38)) := (Below.refl _ _).alloc (Nat.le_refl _) _
   generalize w.alloc (.cells #[.int .i64 k,.int .i64 n,.string nm,v3,.slice (some ⟨b,off,none⟩) ks.length cap] 38) = W at Z L B1 ⊢
   have B1 := Asd.mk B1
   have Z := Asd.mk Z
   have L := Asd.mk L
   go_loopw [5] (fun i wr => ∃ j : Nat,j ≤ ks.length ∧ i = .int .i64 j ∧ (∀ q,q < j -> hasT kd (kAt ks q) = false) ∧ Below W.heap.size W wr) (fun i _ => ks.length - (intOf i).toNat)
   case atStart => exact ⟨0,by omega,rfl,fun q hq => by omega,Below.refl _ _⟩
   case round =>
    obtain ⟨j,hj,rfl,hA,hb⟩ := hrel
    have HA := Asd.mk hA
    clear hA
    have z := cell_below hb Z.out
    by_cases hlt : j < ks.length
    ·obtain ⟨x0,x1,x2,x3,x4,c0,c1,c2,c3,c4,ht⟩ := (((HR.out).mono B1.out).mono hb).at hlt
     have HT := Asd.mk ht
     have HB := Asd.mk hb
     clear ht hb
     rcases Bool.eq_false_or_eq_true (hasT kd (kAt ks j)) with hh | hh
     ·go_wp2_with (go_at_call 75;refine (IH.out (kAt ks j) _ _ _ _ _ _ (by have := HZ.out;have := szT_kid (k := k) (n := n) (nm := nm) (ls := ls) hlt;omega) HT.out).mono ?_;rintro e w2 ⟨rfl,hb2⟩)
      go_ret
      exact ⟨retB (by simp [hasT,hasL_of (kAt_mem hlt) hh]),B1.out.trans ((HB.out.trans (hb2.mono HB.out.size)).mono B1.out.size)⟩
     ·go_wp2_with (go_at_call 75;refine (IH.out (kAt ks j) _ _ _ _ _ _ (by have := HZ.out;have := szT_kid (k := k) (n := n) (nm := nm) (ls := ls) hlt;omega) HT.out).mono ?_;rintro e w2 ⟨rfl,hb2⟩)
      go_roundw
      case rel => exact ⟨j + 1,by omega,by go_num,fun q hq => by
       by_cases e : q = j
       ·rw [e];exact hh
       ·exact HA.out q (by omega),HB.out.trans (hb2.mono HB.out.size)⟩
      case measure => simp [intOf];omega
    ·have : j = ks.length := by omega
     subst this
     go_wp2
     go_ret
     exact ⟨retB (by simp only [hasT];rw [HQ.out,hasL_none HA.out];rfl),B1.out.trans (hb.mono B1.out.size)⟩
def headB (varB : ByteArray -> Bool) (risB : List ByteArray -> Bool) (k n : Int) (nm : ByteArray) (ls : List ByteArray) (len : Nat) : Bool :=
 if (¬ k = 6 ∧ ¬ nm.toList = []) ∨ (¬ k = 9 ∧ ¬ n = 0) ∨ (¬ k = 8 ∧ 0 < ls.length) then false
 else if 1 ≤ k ∧ k ≤ 5 then (len : Int) == 0
 else if k = 6 then varB nm && (len : Int) == 0
 else if k = 9 then decide (0 ≤ n) && (decide (n ≤ 1073741824) && (len : Int) == 0)
 else if k = 7 then (len : Int) == 2
 else decide (k = 8) && (risB ls && (ls.length : Int) == (len : Int))
mutual
def rightT (varB : ByteArray -> Bool) (risB : List ByteArray -> Bool) : Ty5 -> Bool
 | .mk k n nm ls ks => rightL varB risB ks && headB varB risB k n nm ls ks.length
def rightL (varB : ByteArray -> Bool) (risB : List ByteArray -> Bool) : List Ty5 -> Bool
 | [] => true
 | t :: r => rightT varB risB t && rightL varB risB r
end
section
variable {varB : ByteArray -> Bool} {risB : List ByteArray -> Bool}
theorem rightL_all : ∀ {ks : List Ty5},(∀ j,j < ks.length -> rightT varB risB (kAt ks j) = true) -> rightL varB risB ks = true
 | [],_ => rfl
 | t :: r,h => by
  simp only [rightL,Bool.and_eq_true]
  exact ⟨h 0 (Nat.zero_lt_succ _),rightL_all fun j hj => h (j + 1) (Nat.succ_lt_succ hj)⟩
theorem rightL_mem : ∀ {ks : List Ty5} {t : Ty5},rightL varB risB ks = true -> t ∈ ks -> rightT varB risB t = true
 | [],_,_,h => by simp at h
 | x :: r,t,h,ht => by
  simp only [rightL,Bool.and_eq_true] at h
  rcases List.mem_cons.1 ht with rfl | ht
  ·exact h.1
  ·exact rightL_mem h.2 ht
theorem rightL_not {ks : List Ty5} {j : Nat} (hj : j < ks.length) (h : rightT varB risB (kAt ks j) = false) : rightL varB risB ks = false := by
 rcases hq : rightL varB risB ks with _ | _
 ·rfl
 ·rw [rightL_mem hq (kAt_mem hj)] at h
  cases h
end
theorem ls_none {k : Int} {m : Nat} (h : (k != 8) = false ∨ ¬ 0 < m) (q : ¬ k = 8) : ¬ 0 < m := by
 rcases h with h | h
 ·exact absurd (bne_eq_false_iff_eq.1 h) q
 ·exact h
theorem StrsAt.form {w : World} {v : Value} {ss : List ByteArray} (h : StrsAt w v ss) : ss.length ≤ maxLen ∧ ∃ a cap,v = .slice a ss.length cap := by
 obtain ⟨_,hm,h⟩ := h
 refine ⟨hm,?_⟩
 rcases h with ⟨a,cap,rfl,rfl⟩ | ⟨b,off,cap,rfl,_⟩
 ·exact ⟨a,cap,rfl⟩
 ·exact ⟨_,cap,rfl⟩
theorem rright_any (varB : ByteArray -> Bool) (risB : List ByteArray -> Bool)
    (HV : Asd (∀ (s : ByteArray) (w : World), s.size ≤ maxLen -> Calls Try.prog 86 #[.string s] w fun e w' => e = .returned (.bool (varB s)) ∧ Below w.heap.size w w'))
    (HS : Asd (∀ (v : Value) (ss : List ByteArray) (w : World), StrsAt w v ss -> Calls Try.prog 61 #[v] w fun e w' => e = .returned (.bool (risB ss)) ∧ Below w.heap.size w w')) :
    ∀ (f : Nat) (t : Ty5) (v0 v1 v2 v3 v4 : Value) (w : World), szT t ≤ f -> TyIn w t v0 v1 v2 v3 v4 ->
    Calls Try.prog 74 #[.agg #[v0, v1, v2, v3, v4]] w fun e w' => e = .returned (.bool (rightT varB risB t)) ∧ Below w.heap.size w w'
  | 0, t, _, _, _, _, _, _, h, _ => absurd (szT_pos t) (by omega)
  | f + 1, .mk k n nm ls ks, v0, v1, v2, v3, v4, w, hz, hT => by
    obtain ⟨rfl, rfl, ⟨rfl, hm⟩, hl, hk, h4⟩ := hT
    unfold maxLen at hk
    have hlf := hl.form
    obtain ⟨hlm, a3, cap3, rfl⟩ := hlf
    unfold maxLen at hlm
    obtain ⟨a4, cap4, rfl⟩ : ∃ a cap, v4 = .slice a ks.length cap := by
      rcases h4 with ⟨a, cap, rfl, rfl⟩ | ⟨b, off, cap, rfl, _⟩
      · exact ⟨a, cap, rfl⟩
      · exact ⟨_, cap, rfl⟩
    have IH := Asd.mk (rright_any varB risB HV HS f)
    have HZ := Asd.mk hz
    have HM := Asd.mk hm
    have HL := Asd.mk hl
    have H4 := Asd.mk h4
    clear hz hm hl h4
    go_enter Try.func74, Try.ntmps74
    go_wp2
    have Z : ∀ (i : Nat) (v : Value), (#[.int .i64 k, .int .i64 n, .string nm, .slice a3 ls.length cap3, .slice a4 ks.length cap4] : Array Value)[i]? = some v -> (w.alloc (.cells #[.int .i64 k, .int .i64 n, .string nm, .slice a3 ls.length cap3, .slice a4 ks.length cap4] 38)).cell? ⟨w.heap.size, i, none⟩ = some v := fun i v h => alloc_at w #[.int .i64 k, .int .i64 n, .string nm, .slice a3 ls.length cap3, .slice a4 ks.length cap4] 38 i v h
    have B1 : Below w.heap.size w (w.alloc (.cells #[.int .i64 k, .int .i64 n, .string nm, .slice a3 ls.length cap3, .slice a4 ks.length cap4] 38)) := (Below.refl _ _).alloc (Nat.le_refl _) _
    generalize w.alloc (.cells #[.int .i64 k, .int .i64 n, .string nm, .slice a3 ls.length cap3, .slice a4 ks.length cap4] 38) = W at Z B1 ⊢
    have B1 := Asd.mk B1
    have Z0 := Asd.mk (Z 0 _ rfl)
    have Z1 := Asd.mk (Z 1 _ rfl)
    have Z2 := Asd.mk (Z 2 _ rfl)
    have Z3 := Asd.mk (Z 3 _ rfl)
    have Z4 := Asd.mk (Z 4 _ rfl)
    clear Z
    go_loopw [3] (fun i wr => ∃ j : Nat, j ≤ ks.length ∧ i = .int .i64 j ∧ (∀ q, q < j -> rightT varB risB (kAt ks q) = true) ∧ Below W.heap.size W wr) (fun i _ => ks.length - (intOf i).toNat)
    case atStart => exact ⟨0, by omega, rfl, fun q hq => by omega, Below.refl _ _⟩
    case round =>
      obtain ⟨j, hj, rfl, hA, hb⟩ := hrel
      have HA := Asd.mk hA
      clear hA
      have z4 := cell_below hb Z4.out
      by_cases hlt : j < ks.length
      · rcases H4.out with ⟨_, _, _, e⟩ | ⟨b, off, cap, e, hr⟩
        · rw [e] at hlt
          exact absurd hlt (Nat.not_lt_zero _)
        obtain ⟨rfl, rfl⟩ : a4 = some ⟨b, off, none⟩ ∧ cap4 = cap := by simpa using e
        obtain ⟨x0, x1, x2, x3, x4, c0, c1, c2, c3, c4, ht⟩ := ((hr.mono B1.out).mono hb).at hlt
        have HT := Asd.mk ht
        have HB := Asd.mk hb
        clear ht hb hr e
        rcases Bool.eq_false_or_eq_true (rightT varB risB (kAt ks j)) with hh | hh
        · go_wp2_with (go_at_call 74; refine (IH.out (kAt ks j) _ _ _ _ _ _ (by have := HZ.out; have := szT_kid (k := k) (n := n) (nm := nm) (ls := ls) hlt; omega) HT.out).mono ?_; rintro e w2 ⟨rfl, hb2⟩)
          go_roundw
          case rel => exact ⟨j + 1, by omega, by go_num, fun q hq => by
            by_cases e : q = j
            · rw [e]; exact hh
            · exact HA.out q (by omega), HB.out.trans (hb2.mono HB.out.size)⟩
          case measure => simp [intOf]; omega
        · go_wp2_with (go_at_call 74; refine (IH.out (kAt ks j) _ _ _ _ _ _ (by have := HZ.out; have := szT_kid (k := k) (n := n) (nm := nm) (ls := ls) hlt; omega) HT.out).mono ?_; rintro e w2 ⟨rfl, hb2⟩)
          go_ret
          exact ⟨retB (by simp [rightT, rightL_not hlt hh]), B1.out.trans ((HB.out.trans (hb2.mono HB.out.size)).mono B1.out.size)⟩
      · have : j = ks.length := by omega
        subst this
        have HE : Asd (rightT varB risB (.mk k n nm ls ks) = headB varB risB k n nm ls ks.length) := ⟨by simp only [rightT]; rw [rightL_all HA.out, Bool.true_and]⟩
        have HB := Asd.mk hb
        have z0 := cell_below hb Z0.out
        have z1 := cell_below hb Z1.out
        have z2 := cell_below hb Z2.out
        have z3 := cell_below hb Z3.out
        have HHl := Asd.mk (fun W2 hB => HL.out.mono (w' := W2) hB)
        clear hb
        go_wp2_with (first
          | (go_at_call 86; refine (HV.out _ _ HM.out).mono ?_; rintro e w2 ⟨rfl, hb2⟩; have y4 := cell_below hb2 z4)
          | (go_at_call 61; refine (HS.out _ _ _ (HL.out.mono (B1.out.trans (HB.out.mono B1.out.size)))).mono ?_; rintro e w2 ⟨rfl, hb2⟩; have y3 := cell_below hb2 z3; have y4 := cell_below hb2 z4))
        all_goals go_ret
        all_goals clear HV HS IH HM HL H4 Z0 Z1 Z2 Z3 Z4 HHl HA
        all_goals refine ⟨retB ?_, ?_⟩
        any_goals (first | exact B1.out.trans (HB.out.mono B1.out.size) | exact B1.out.trans ((HB.out.trans (hb2.mono HB.out.size)).mono B1.out.size))
        all_goals first
          | rw [HE.out]
          | (have q9 : k = 9 := by assumption
             subst q9
             rw [HE.out])
          | (have qn : n = 0 := by assumption
             subst qn
             rw [HE.out])
        all_goals clear HE
        all_goals try (have h8 : ¬ 0 < ls.length := ls_none ‹(k != 8) = false ∨ ¬ 0 < ls.length› ‹¬ k = 8›)
        all_goals try (have h7 : k = 7 := beq_iff_eq.1 ‹(k == 7) = true›)
        all_goals try (have h7 : ¬ k = 7 := beq_eq_false_iff_ne.1 ‹(k == 7) = false›)
        all_goals try (have h5 : ¬ k ≤ 5 := by omega)
        all_goals try (have h1 : ¬ 1 ≤ k := by omega)
        all_goals simp [headB, *]
        all_goals try omega
open Go.RowKit
theorem rkept_any (s : ByteArray) (w : World) :
  Calls Try.prog 82 #[.string s] w fun e w' => e = .returned (.int .i64 (keptI s.data.toList)) ∧ Below w.heap.size w w' := by
 rcases Bool.eq_false_or_eq_true (s.toList == [108,101,116]) with h0 | h0
 ·have g0 : ([108,101,116] == s.toList) = true := by rw [beq_turn];exact h0
  go_enter Try.func82,Try.ntmps82
  go_wp2
  go_rounds 1
  go_ret
  exact ⟨ret_int (by rw [ByteArray.toList_eq] at *;simp [keptI, *]),by go_grown⟩
 have g0 : ([108,101,116] == s.toList) = false := by rw [beq_turn];exact h0
 rcases Bool.eq_false_or_eq_true (s.toList == [105,110]) with h1 | h1
 ·have g1 : ([105,110] == s.toList) = true := by rw [beq_turn];exact h1
  go_enter Try.func82,Try.ntmps82
  go_wp2
  go_rounds 2
  go_ret
  exact ⟨ret_int (by rw [ByteArray.toList_eq] at *;simp [keptI, *]),by go_grown⟩
 have g1 : ([105,110] == s.toList) = false := by rw [beq_turn];exact h1
 rcases Bool.eq_false_or_eq_true (s.toList == [105,102]) with h2 | h2
 ·have g2 : ([105,102] == s.toList) = true := by rw [beq_turn];exact h2
  go_enter Try.func82,Try.ntmps82
  go_wp2
  go_rounds 3
  go_ret
  exact ⟨ret_int (by rw [ByteArray.toList_eq] at *;simp [keptI, *]),by go_grown⟩
 have g2 : ([105,102] == s.toList) = false := by rw [beq_turn];exact h2
 rcases Bool.eq_false_or_eq_true (s.toList == [116,104,101,110]) with h3 | h3
 ·have g3 : ([116,104,101,110] == s.toList) = true := by rw [beq_turn];exact h3
  go_enter Try.func82,Try.ntmps82
  go_wp2
  go_rounds 4
  go_ret
  exact ⟨ret_int (by rw [ByteArray.toList_eq] at *;simp [keptI, *]),by go_grown⟩
 have g3 : ([116,104,101,110] == s.toList) = false := by rw [beq_turn];exact h3
 rcases Bool.eq_false_or_eq_true (s.toList == [101,108,115,101]) with h4 | h4
 ·have g4 : ([101,108,115,101] == s.toList) = true := by rw [beq_turn];exact h4
  go_enter Try.func82,Try.ntmps82
  go_wp2
  go_rounds 5
  go_ret
  exact ⟨ret_int (by rw [ByteArray.toList_eq] at *;simp [keptI, *]),by go_grown⟩
 have g4 : ([101,108,115,101] == s.toList) = false := by rw [beq_turn];exact h4
 rcases Bool.eq_false_or_eq_true (s.toList == [102,110]) with h5 | h5
 ·have g5 : ([102,110] == s.toList) = true := by rw [beq_turn];exact h5
  go_enter Try.func82,Try.ntmps82
  go_wp2
  go_rounds 6
  go_ret
  exact ⟨ret_int (by rw [ByteArray.toList_eq] at *;simp [keptI, *]),by go_grown⟩
 have g5 : ([102,110] == s.toList) = false := by rw [beq_turn];exact h5
 rcases Bool.eq_false_or_eq_true (s.toList == [99,97,108,108]) with h6 | h6
 ·have g6 : ([99,97,108,108] == s.toList) = true := by rw [beq_turn];exact h6
  go_enter Try.func82,Try.ntmps82
  go_wp2
  go_rounds 7
  go_ret
  exact ⟨ret_int (by rw [ByteArray.toList_eq] at *;simp [keptI, *]),by go_grown⟩
 have g6 : ([99,97,108,108] == s.toList) = false := by rw [beq_turn];exact h6
 rcases Bool.eq_false_or_eq_true (s.toList == [100,101,102]) with h7 | h7
 ·have g7 : ([100,101,102] == s.toList) = true := by rw [beq_turn];exact h7
  go_enter Try.func82,Try.ntmps82
  go_wp2
  go_rounds 8
  go_ret
  exact ⟨ret_int (by rw [ByteArray.toList_eq] at *;simp [keptI, *]),by go_grown⟩
 have g7 : ([100,101,102] == s.toList) = false := by rw [beq_turn];exact h7
 rcases Bool.eq_false_or_eq_true (s.toList == [116,114,117,101]) with h8 | h8
 ·have g8 : ([116,114,117,101] == s.toList) = true := by rw [beq_turn];exact h8
  go_enter Try.func82,Try.ntmps82
  go_wp2
  go_rounds 9
  go_ret
  exact ⟨ret_int (by rw [ByteArray.toList_eq] at *;simp [keptI, *]),by go_grown⟩
 have g8 : ([116,114,117,101] == s.toList) = false := by rw [beq_turn];exact h8
 rcases Bool.eq_false_or_eq_true (s.toList == [102,97,108,115,101]) with h9 | h9
 ·have g9 : ([102,97,108,115,101] == s.toList) = true := by rw [beq_turn];exact h9
  go_enter Try.func82,Try.ntmps82
  go_wp2
  go_rounds 10
  go_ret
  exact ⟨ret_int (by rw [ByteArray.toList_eq] at *;simp [keptI, *]),by go_grown⟩
 have g9 : ([102,97,108,115,101] == s.toList) = false := by rw [beq_turn];exact h9
 rcases Bool.eq_false_or_eq_true (s.toList == [73,110,116]) with h10 | h10
 ·have g10 : ([73,110,116] == s.toList) = true := by rw [beq_turn];exact h10
  go_enter Try.func82,Try.ntmps82
  go_wp2
  go_rounds 11
  go_wp2
  go_rounds 1
  go_ret
  exact ⟨ret_int (by rw [ByteArray.toList_eq] at *;simp [keptI, *]),by go_grown⟩
 have g10 : ([73,110,116] == s.toList) = false := by rw [beq_turn];exact h10
 rcases Bool.eq_false_or_eq_true (s.toList == [66,111,111,108]) with h11 | h11
 ·have g11 : ([66,111,111,108] == s.toList) = true := by rw [beq_turn];exact h11
  go_enter Try.func82,Try.ntmps82
  go_wp2
  go_rounds 11
  go_wp2
  go_rounds 2
  go_ret
  exact ⟨ret_int (by rw [ByteArray.toList_eq] at *;simp [keptI, *]),by go_grown⟩
 have g11 : ([66,111,111,108] == s.toList) = false := by rw [beq_turn];exact h11
 rcases Bool.eq_false_or_eq_true (s.toList == [83,116,114,105,110,103]) with h12 | h12
 ·have g12 : ([83,116,114,105,110,103] == s.toList) = true := by rw [beq_turn];exact h12
  go_enter Try.func82,Try.ntmps82
  go_wp2
  go_rounds 11
  go_wp2
  go_rounds 3
  go_ret
  exact ⟨ret_int (by rw [ByteArray.toList_eq] at *;simp [keptI, *]),by go_grown⟩
 have g12 : ([83,116,114,105,110,103] == s.toList) = false := by rw [beq_turn];exact h12
 rcases Bool.eq_false_or_eq_true (s.toList == [84,111,112]) with h13 | h13
 ·have g13 : ([84,111,112] == s.toList) = true := by rw [beq_turn];exact h13
  go_enter Try.func82,Try.ntmps82
  go_wp2
  go_rounds 11
  go_wp2
  go_rounds 4
  go_ret
  exact ⟨ret_int (by rw [ByteArray.toList_eq] at *;simp [keptI, *]),by go_grown⟩
 have g13 : ([84,111,112] == s.toList) = false := by rw [beq_turn];exact h13
 go_enter Try.func82,Try.ntmps82
 go_wp2
 go_rounds 11
 go_wp2
 go_rounds 5
 go_ret
 exact ⟨ret_int (by rw [ByteArray.toList_eq] at *;simp [keptI, *]),by go_grown⟩
theorem rlow_any (c : Int) (w : World) : Calls Try.prog 83 #[.int .u8 c] w fun e w' => e = .returned (.bool (lowB c)) ∧ w = w' := by
 go_enter Try.func83,Try.ntmps83
 go_wp2
 all_goals go_ret
 all_goals exact ⟨ret_bool (by simp [lowB, *] <;> omega),rfl⟩
theorem rup_any (c : Int) (w : World) : Calls Try.prog 84 #[.int .u8 c] w fun e w' => e = .returned (.bool (upB c)) ∧ w = w' := by
 go_enter Try.func84,Try.ntmps84
 go_wp2
 all_goals go_ret
 all_goals exact ⟨ret_bool (by simp [upB, *] <;> omega),rfl⟩
theorem rdigit_any (c : Int) (w : World) : Calls Try.prog 85 #[.int .u8 c] w fun e w' => e = .returned (.bool (digB c)) ∧ w = w' := by
 go_enter Try.func85,Try.ntmps85
 go_wp2
 all_goals go_ret
 all_goals exact ⟨ret_bool (by simp [digB, *] <;> omega),rfl⟩
theorem shapeAt_skip {s : ByteArray} {pos : Nat} (h : ShapeAt s pos 0) (h0 : 0 < pos) : ShapeAt s (pos + 1) 0 := by
 rcases h with ⟨rfl,_⟩ | ⟨_,a,r,hl,hk,_⟩
 ·omega
 ·exact .inr ⟨by omega,a,r,hl,hk,.inl rfl⟩
theorem up_not_low (c : Int) (h : lowB c = true) : upB c = false := by
 simp [lowB] at h;simp [upB];omega
theorem rkind_any (s : ByteArray) (w : World) (hs : s.size ≤ maxLen) :
    Calls Try.prog 73 #[.string s] w fun e w' => e = .returned (.int .i64 (kindI s.data.toList)) ∧ Below w.heap.size w w' := by
  unfold maxLen at hs
  have hl := size_list s
  by_cases hk : keptI s.data.toList = 0
  · have hkk : (keptI s.data.toList != 0) = false := by rw [hk]; rfl
    by_cases h8 : 8 < s.size
    · have HF : Hid (kindI s.data.toList = 0) := by show kindI _ = 0; simp only [kindI]; rw [if_pos hk, if_pos (by omega)]
      clear hk
      go_enter Try.func73, Try.ntmps73
      go_wp2_with (go_at_call 82; refine (rkept_any _ _).mono ?_; rintro e w1 ⟨rfl, hb1⟩)
      go_ret
      exact ⟨ret_int HF.out.symm, hb1⟩
    · by_cases h1 : s.size < 1
      · have HF : Hid (kindI s.data.toList = 0) := by
          have : s.data.toList = [] := List.eq_nil_of_length_eq_zero (by omega)
          show kindI _ = 0
          rw [this]; rfl
        clear hk
        go_enter Try.func73, Try.ntmps73
        go_wp2_with (go_at_call 82; refine (rkept_any _ _).mono ?_; rintro e w1 ⟨rfl, hb1⟩)
        go_ret
        exact ⟨ret_int HF.out.symm, hb1⟩
      · have HF : Hid (kindI s.data.toList = shapeI s.data.toList) := by simp only [kindI]; rw [if_pos hk, if_neg (by omega)]; exact rfl
        have hp0 : 0 < s.size := by omega
        have hz : ShapeAt s 1 (begunI ((s[0]'hp0).toNat : Int)) := shapeAt_zero hp0 1 (Nat.le_refl _) _ (.inl ⟨rfl, rfl⟩)
        have hkind : Hid (begunI ((s[0]'hp0).toNat : Int) = if lowB ((s[0]'hp0).toNat : Int) = true then 1 else if upB ((s[0]'hp0).toNat : Int) = true then 2 else 0) := rfl
        have hnot := up_not_low ((s[0]'hp0).toNat : Int)
        have HN := Lib.hid hnot
        clear hk hnot
        rcases Bool.eq_false_or_eq_true (lowB ((s[0]'hp0).toNat : Int)) with hw0 | hw0
        · skip
          have hu0 : upB ((s[0]'hp0).toNat : Int) = false := HN.out hw0
          have HZ : Hid (ShapeAt s 1 1) := by have h : begunI ((s[0]'hp0).toNat : Int) = 1 := by rw [hkind.out, if_pos hw0]
                                              rw [h] at hz; exact hz
          clear hz hkind
          go_enter Try.func73, Try.ntmps73
          go_wp2_with (first
                      | (go_at_call 82; refine (rkept_any _ _).mono ?_; rintro e w1 ⟨rfl, hb1⟩)
                      | (go_at_call 83; refine (rlow_any _ _).mono ?_; rintro e w1 ⟨rfl, rfl⟩)
                      | (go_at_call 84; refine (rup_any _ _).mono ?_; rintro e w1 ⟨rfl, rfl⟩)
                      | (go_at_call 85; refine (rdigit_any _ _).mono ?_; rintro e w1 ⟨rfl, rfl⟩))
          go_loop [5] (fun i => ∃ k : Nat, 1 ≤ k ∧ k ≤ s.size ∧ i = .int .i64 k ∧ ShapeAt s k 1) (fun i => s.size - (intOf i).toNat)
          case atStart => exact ⟨1, by omega, by omega, rfl, HZ.out⟩
          case round =>
            obtain ⟨k, hk1, hk, rfl, hsh⟩ := hrel
            have HS := Lib.hid hsh
            clear hsh
            by_cases hlt : k < s.size
            · skip
              rcases Bool.eq_false_or_eq_true (digB ((s[k]'hlt).toNat : Int)) with hd | hd
              · skip
                go_wp2_with (first
                            | (go_at_call 82; refine (rkept_any _ _).mono ?_; rintro e w1 ⟨rfl, hb1⟩)
                            | (go_at_call 83; refine (rlow_any _ _).mono ?_; rintro e w1 ⟨rfl, rfl⟩)
                            | (go_at_call 84; refine (rup_any _ _).mono ?_; rintro e w1 ⟨rfl, rfl⟩)
                            | (go_at_call 85; refine (rdigit_any _ _).mono ?_; rintro e w1 ⟨rfl, rfl⟩))
                go_round
                case rel => exact ⟨k + 1, by omega, by omega, by go_num, by have h := HS.out; exact shapeAt_step h hlt (by omega) (by simp [contB, *])⟩
                case measure => simp [intOf]; omega
              rcases Bool.eq_false_or_eq_true (lowB ((s[k]'hlt).toNat : Int)) with hw | hw
              · skip
                go_wp2_with (first
                            | (go_at_call 82; refine (rkept_any _ _).mono ?_; rintro e w1 ⟨rfl, hb1⟩)
                            | (go_at_call 83; refine (rlow_any _ _).mono ?_; rintro e w1 ⟨rfl, rfl⟩)
                            | (go_at_call 84; refine (rup_any _ _).mono ?_; rintro e w1 ⟨rfl, rfl⟩)
                            | (go_at_call 85; refine (rdigit_any _ _).mono ?_; rintro e w1 ⟨rfl, rfl⟩))
                go_round
                case rel => exact ⟨k + 1, by omega, by omega, by go_num, by have h := HS.out; exact shapeAt_step h hlt (by omega) (by simp [contB, *])⟩
                case measure => simp [intOf]; omega
              rcases Bool.eq_false_or_eq_true (upB ((s[k]'hlt).toNat : Int)) with hu | hu
              · skip
                go_wp2_with (first
                            | (go_at_call 82; refine (rkept_any _ _).mono ?_; rintro e w1 ⟨rfl, hb1⟩)
                            | (go_at_call 83; refine (rlow_any _ _).mono ?_; rintro e w1 ⟨rfl, rfl⟩)
                            | (go_at_call 84; refine (rup_any _ _).mono ?_; rintro e w1 ⟨rfl, rfl⟩)
                            | (go_at_call 85; refine (rdigit_any _ _).mono ?_; rintro e w1 ⟨rfl, rfl⟩))
                go_ret
                exact ⟨ret_int (HF.out.trans (shapeAt_bad HS.out hlt (by omega) (.inl (by simp [contB, *])))).symm, hb1⟩
              go_wp2_with (first
                          | (go_at_call 82; refine (rkept_any _ _).mono ?_; rintro e w1 ⟨rfl, hb1⟩)
                          | (go_at_call 83; refine (rlow_any _ _).mono ?_; rintro e w1 ⟨rfl, rfl⟩)
                          | (go_at_call 84; refine (rup_any _ _).mono ?_; rintro e w1 ⟨rfl, rfl⟩)
                          | (go_at_call 85; refine (rdigit_any _ _).mono ?_; rintro e w1 ⟨rfl, rfl⟩))
              go_ret
              exact ⟨ret_int (HF.out.trans (shapeAt_bad HS.out hlt (by omega) (.inl (by simp [contB, *])))).symm, hb1⟩
            · have hke : k = s.size := by omega
              have HE := Lib.hid (HF.out.trans (shapeAt_end HS.out (by omega)).symm)
              clear HS
              subst hke
              go_wp2
              go_ret
              exact ⟨ret_int HE.out.symm, hb1⟩
        rcases Bool.eq_false_or_eq_true (upB ((s[0]'hp0).toNat : Int)) with hu0 | hu0
        · skip
          have HZ : Hid (ShapeAt s 1 2) := by have h : begunI ((s[0]'hp0).toNat : Int) = 2 := by rw [hkind.out, if_neg (by rw [hw0]; exact Bool.false_ne_true), if_pos hu0]
                                              rw [h] at hz; exact hz
          clear hz hkind
          go_enter Try.func73, Try.ntmps73
          go_wp2_with (first
                      | (go_at_call 82; refine (rkept_any _ _).mono ?_; rintro e w1 ⟨rfl, hb1⟩)
                      | (go_at_call 83; refine (rlow_any _ _).mono ?_; rintro e w1 ⟨rfl, rfl⟩)
                      | (go_at_call 84; refine (rup_any _ _).mono ?_; rintro e w1 ⟨rfl, rfl⟩)
                      | (go_at_call 85; refine (rdigit_any _ _).mono ?_; rintro e w1 ⟨rfl, rfl⟩))
          go_loop [5] (fun i => ∃ k : Nat, 1 ≤ k ∧ k ≤ s.size ∧ i = .int .i64 k ∧ ShapeAt s k 2) (fun i => s.size - (intOf i).toNat)
          case atStart => exact ⟨1, by omega, by omega, rfl, HZ.out⟩
          case round =>
            obtain ⟨k, hk1, hk, rfl, hsh⟩ := hrel
            have HS := Lib.hid hsh
            clear hsh
            by_cases hlt : k < s.size
            · skip
              rcases Bool.eq_false_or_eq_true (digB ((s[k]'hlt).toNat : Int)) with hd | hd
              · skip
                go_wp2_with (first
                            | (go_at_call 82; refine (rkept_any _ _).mono ?_; rintro e w1 ⟨rfl, hb1⟩)
                            | (go_at_call 83; refine (rlow_any _ _).mono ?_; rintro e w1 ⟨rfl, rfl⟩)
                            | (go_at_call 84; refine (rup_any _ _).mono ?_; rintro e w1 ⟨rfl, rfl⟩)
                            | (go_at_call 85; refine (rdigit_any _ _).mono ?_; rintro e w1 ⟨rfl, rfl⟩))
                go_round
                case rel => exact ⟨k + 1, by omega, by omega, by go_num, by have h := HS.out; exact shapeAt_step h hlt (by omega) (by simp [contB, *])⟩
                case measure => simp [intOf]; omega
              rcases Bool.eq_false_or_eq_true (lowB ((s[k]'hlt).toNat : Int)) with hw | hw
              · skip
                go_wp2_with (first
                            | (go_at_call 82; refine (rkept_any _ _).mono ?_; rintro e w1 ⟨rfl, hb1⟩)
                            | (go_at_call 83; refine (rlow_any _ _).mono ?_; rintro e w1 ⟨rfl, rfl⟩)
                            | (go_at_call 84; refine (rup_any _ _).mono ?_; rintro e w1 ⟨rfl, rfl⟩)
                            | (go_at_call 85; refine (rdigit_any _ _).mono ?_; rintro e w1 ⟨rfl, rfl⟩))
                go_round
                case rel => exact ⟨k + 1, by omega, by omega, by go_num, by have h := HS.out; exact shapeAt_step h hlt (by omega) (by simp [contB, *])⟩
                case measure => simp [intOf]; omega
              rcases Bool.eq_false_or_eq_true (upB ((s[k]'hlt).toNat : Int)) with hu | hu
              · skip
                go_wp2_with (first
                            | (go_at_call 82; refine (rkept_any _ _).mono ?_; rintro e w1 ⟨rfl, hb1⟩)
                            | (go_at_call 83; refine (rlow_any _ _).mono ?_; rintro e w1 ⟨rfl, rfl⟩)
                            | (go_at_call 84; refine (rup_any _ _).mono ?_; rintro e w1 ⟨rfl, rfl⟩)
                            | (go_at_call 85; refine (rdigit_any _ _).mono ?_; rintro e w1 ⟨rfl, rfl⟩))
                go_round
                case rel => exact ⟨k + 1, by omega, by omega, by go_num, by have h := HS.out; exact shapeAt_step h hlt (by omega) (by simp [contB, *])⟩
                case measure => simp [intOf]; omega
              go_wp2_with (first
                          | (go_at_call 82; refine (rkept_any _ _).mono ?_; rintro e w1 ⟨rfl, hb1⟩)
                          | (go_at_call 83; refine (rlow_any _ _).mono ?_; rintro e w1 ⟨rfl, rfl⟩)
                          | (go_at_call 84; refine (rup_any _ _).mono ?_; rintro e w1 ⟨rfl, rfl⟩)
                          | (go_at_call 85; refine (rdigit_any _ _).mono ?_; rintro e w1 ⟨rfl, rfl⟩))
              go_ret
              exact ⟨ret_int (HF.out.trans (shapeAt_bad HS.out hlt (by omega) (.inl (by simp [contB, *])))).symm, hb1⟩
            · have hke : k = s.size := by omega
              have HE := Lib.hid (HF.out.trans (shapeAt_end HS.out (by omega)).symm)
              clear HS
              subst hke
              go_wp2
              go_ret
              exact ⟨ret_int HE.out.symm, hb1⟩
        · skip
          have HZ : Hid (ShapeAt s 1 0) := by have h : begunI ((s[0]'hp0).toNat : Int) = 0 := by rw [hkind.out, if_neg (by rw [hw0]; exact Bool.false_ne_true), if_neg (by rw [hu0]; exact Bool.false_ne_true)]
                                              rw [h] at hz; exact hz
          clear hz hkind
          go_enter Try.func73, Try.ntmps73
          go_wp2_with (first
                      | (go_at_call 82; refine (rkept_any _ _).mono ?_; rintro e w1 ⟨rfl, hb1⟩)
                      | (go_at_call 83; refine (rlow_any _ _).mono ?_; rintro e w1 ⟨rfl, rfl⟩)
                      | (go_at_call 84; refine (rup_any _ _).mono ?_; rintro e w1 ⟨rfl, rfl⟩)
                      | (go_at_call 85; refine (rdigit_any _ _).mono ?_; rintro e w1 ⟨rfl, rfl⟩))
          go_loop [5] (fun i => ∃ k : Nat, 1 ≤ k ∧ k ≤ s.size ∧ i = .int .i64 k ∧ ShapeAt s k 0) (fun i => s.size - (intOf i).toNat)
          case atStart => exact ⟨1, by omega, by omega, rfl, HZ.out⟩
          case round =>
            obtain ⟨k, hk1, hk, rfl, hsh⟩ := hrel
            have HS := Lib.hid hsh
            clear hsh
            by_cases hlt : k < s.size
            · skip
              rcases Bool.eq_false_or_eq_true (digB ((s[k]'hlt).toNat : Int)) with hd | hd
              · skip
                go_wp2_with (first
                            | (go_at_call 82; refine (rkept_any _ _).mono ?_; rintro e w1 ⟨rfl, hb1⟩)
                            | (go_at_call 83; refine (rlow_any _ _).mono ?_; rintro e w1 ⟨rfl, rfl⟩)
                            | (go_at_call 84; refine (rup_any _ _).mono ?_; rintro e w1 ⟨rfl, rfl⟩)
                            | (go_at_call 85; refine (rdigit_any _ _).mono ?_; rintro e w1 ⟨rfl, rfl⟩))
                go_round
                case rel => exact ⟨k + 1, by omega, by omega, by go_num, shapeAt_skip HS.out (by omega)⟩
                case measure => simp [intOf]; omega
              rcases Bool.eq_false_or_eq_true (lowB ((s[k]'hlt).toNat : Int)) with hw | hw
              · skip
                go_wp2_with (first
                            | (go_at_call 82; refine (rkept_any _ _).mono ?_; rintro e w1 ⟨rfl, hb1⟩)
                            | (go_at_call 83; refine (rlow_any _ _).mono ?_; rintro e w1 ⟨rfl, rfl⟩)
                            | (go_at_call 84; refine (rup_any _ _).mono ?_; rintro e w1 ⟨rfl, rfl⟩)
                            | (go_at_call 85; refine (rdigit_any _ _).mono ?_; rintro e w1 ⟨rfl, rfl⟩))
                go_round
                case rel => exact ⟨k + 1, by omega, by omega, by go_num, shapeAt_skip HS.out (by omega)⟩
                case measure => simp [intOf]; omega
              rcases Bool.eq_false_or_eq_true (upB ((s[k]'hlt).toNat : Int)) with hu | hu
              · skip
                go_wp2_with (first
                            | (go_at_call 82; refine (rkept_any _ _).mono ?_; rintro e w1 ⟨rfl, hb1⟩)
                            | (go_at_call 83; refine (rlow_any _ _).mono ?_; rintro e w1 ⟨rfl, rfl⟩)
                            | (go_at_call 84; refine (rup_any _ _).mono ?_; rintro e w1 ⟨rfl, rfl⟩)
                            | (go_at_call 85; refine (rdigit_any _ _).mono ?_; rintro e w1 ⟨rfl, rfl⟩))
                go_round
                case rel => exact ⟨k + 1, by omega, by omega, by go_num, shapeAt_skip HS.out (by omega)⟩
                case measure => simp [intOf]; omega
              go_wp2_with (first
                          | (go_at_call 82; refine (rkept_any _ _).mono ?_; rintro e w1 ⟨rfl, hb1⟩)
                          | (go_at_call 83; refine (rlow_any _ _).mono ?_; rintro e w1 ⟨rfl, rfl⟩)
                          | (go_at_call 84; refine (rup_any _ _).mono ?_; rintro e w1 ⟨rfl, rfl⟩)
                          | (go_at_call 85; refine (rdigit_any _ _).mono ?_; rintro e w1 ⟨rfl, rfl⟩))
              go_ret
              exact ⟨ret_int (HF.out.trans (shapeAt_bad HS.out hlt (by omega) (.inr rfl))).symm, hb1⟩
            · have hke : k = s.size := by omega
              have HE := Lib.hid (HF.out.trans (shapeAt_end HS.out (by omega)).symm)
              clear HS
              subst hke
              go_wp2
              go_ret
              exact ⟨ret_int HE.out.symm, hb1⟩
  · have hkk : (keptI s.data.toList != 0) = true := by simp [hk]
    have HF : Hid (kindI s.data.toList = keptI s.data.toList) := by show kindI _ = _; simp [kindI, hk]
    clear hk
    go_enter Try.func73, Try.ntmps73
    go_wp2_with (go_at_call 82; refine (rkept_any _ _).mono ?_; rintro e w1 ⟨rfl, hb1⟩)
    go_ret
    exact ⟨ret_int HF.out.symm, hb1⟩
open Go.RowKit Go.Sort
theorem rfine_any (s : ByteArray) (w : World) (hs : s.size ≤ maxLen) : Calls Try.prog 60 #[.string s] w fun e w' => e = .returned (.bool (fineB s)) ∧ Below w.heap.size w w' := by
 go_enter Try.func60,Try.ntmps60
 go_wp2_with (go_at_call 73;refine (rkind_any _ _ hs).mono ?_;rintro e w' ⟨rfl,hb⟩)
 go_ret
 exact ⟨rfl,hb⟩
theorem rrising_any (v : Value) (ss : List ByteArray) (w : World) (h : StrsAt w v ss) :
  Calls Try.prog 61 #[v] w fun e w' => e = .returned (.bool (risingB ss)) ∧ Below w.heap.size w w' := by
 obtain ⟨hs,hm,h⟩ := h
 unfold maxLen at hm
 rcases h with ⟨a,cap,rfl,rfl⟩ | ⟨b,off,cap,rfl,hb,hc⟩
 ·go_enter Try.func61,Try.ntmps61
  go_wp2
  go_rounds 1
  go_ret
  exact ⟨ret_bool rfl,Below.refl _ _⟩
 ·go_enter Try.func61,Try.ntmps61
  go_wp2
  go_loopw [3] (fun i wr => ∃ k : Nat,k ≤ ss.length ∧ i = .int .i64 k ∧ Below w.heap.size w wr ∧ ∀ j,j < k -> upAt ss j = true) (fun i _ => ss.length - (intOf i).toNat)
  case atStart => exact ⟨0,by omega,rfl,Below.refl _ _,fun j hj => by omega⟩
  case round =>
   obtain ⟨k,hk,rfl,hbw,hq⟩ := hrel
   have HQ := Lib.hid hq
   clear hq
   by_cases hlt : k < ss.length
   ·have hcx := (hbw.cell (p := ⟨b,off + k,none⟩) hb).trans (hc k hlt)
    have hsx := hs _ (getD_mem hlt)
    obtain ⟨x,hx⟩ : ∃ x,x = stAt ss k := ⟨_,rfl⟩
    rw [← hx] at hcx hsx
    have HX := Lib.hid hx
    clear hx
    have hbz : b < wr.heap.size := Nat.lt_of_lt_of_le hb hbw.size
    by_cases h0 : k = 0
    ·subst h0
     clear hc
     simp only [Nat.add_zero] at hcx
     rw [show ((0 : Nat) : Int) = 0 from rfl]
     have kx := cell_regrown hcx
     have cF : ∀ d os,Calls Try.prog 60 #[.string x] (grow (redrawn wr d) os) fun e w'' => e = .returned (.bool (fineB x)) ∧ ∃ p : Regrown,w'' = grow (redrawn wr p.d) p.os := fun d os => Calls.regrown_of (rfine_any _ _ hsx)
     rcases Bool.eq_false_or_eq_true (fineB x) with hf | hf
     ·go_wp2_with fail
      refine wp_region_quiet_below (by kernel_rfl) (by kernel_rfl) ?_
      repeat (go_big_quiet_step (exact cF _ _))
      refine wpQuiet_nil ?_
      intro _ hw'
      obtain ⟨⟨dq,osq⟩,hw''⟩ := hw'
      obtain ⟨W2,hW2⟩ : ∃ W2,W2 = grow (redrawn wr dq) osq := ⟨_,rfl⟩
      have hb2 : Below wr.heap.size wr W2 := by rw [hW2];exact below_regrown wr dq osq
      subst hw''
      rw [← hW2]
      clear hW2 kx cF
      go_wp2
      go_roundw
      case rel => exact ⟨1,by omega,by go_num,hbw.trans (hb2.mono hbw.size),fun j hj => by
       obtain rfl : j = 0 := by omega
       rw [up_zero,← HX.out];exact hf⟩
      case measure => simp [intOf];omega
     ·go_wp2_with fail
      refine wp_region_quiet_below (by kernel_rfl) (by kernel_rfl) ?_
      repeat (go_big_quiet_step (exact cF _ _))
      refine wpQuiet_nil ?_
      intro _ hw'
      obtain ⟨⟨dq,osq⟩,hw''⟩ := hw'
      obtain ⟨W2,hW2⟩ : ∃ W2,W2 = grow (redrawn wr dq) osq := ⟨_,rfl⟩
      have hb2 : Below wr.heap.size wr W2 := by rw [hW2];exact below_regrown wr dq osq
      subst hw''
      rw [← hW2]
      clear hW2 kx cF
      go_wp2
      go_ret
      exact ⟨ret_bool (rising_false hlt (by rw [up_zero,← HX.out];exact hf)).symm,hbw.trans (hb2.mono hbw.size)⟩
    ·obtain ⟨q,rfl⟩ : ∃ q,k = q + 1 := ⟨k - 1,by omega⟩
     have hcy := (hbw.cell (p := ⟨b,off + q,none⟩) hb).trans (hc q (by omega))
     obtain ⟨y,hy⟩ : ∃ y,y = stAt ss q := ⟨_,rfl⟩
     rw [← hy] at hcy
     have HY := Lib.hid hy
     clear hy hc
     have hgt : (0 : Int) < (q : Int) + 1 := by omega
     have kx := cell_regrown hcx
     have ky := cell_regrown hcy
     have cF : ∀ d os,Calls Try.prog 60 #[.string x] (grow (redrawn wr d) os) fun e w'' => e = .returned (.bool (fineB x)) ∧ ∃ p : Regrown,w'' = grow (redrawn wr p.d) p.os := fun d os => Calls.regrown_of (rfine_any _ _ hsx)
     rcases Bool.eq_false_or_eq_true (fineB x) with hf | hf
     ·rcases Bool.eq_false_or_eq_true (Op.bytesLess y.toList x.toList) with hl | hl
      ·go_wp2_with fail
       refine wp_region_quiet_below (by kernel_rfl) (by kernel_rfl) ?_
       repeat (go_big_quiet_step (exact cF _ _))
       refine wpQuiet_nil ?_
       intro _ hw'
       obtain ⟨⟨dq,osq⟩,hw''⟩ := hw'
       obtain ⟨W2,hW2⟩ : ∃ W2,W2 = grow (redrawn wr dq) osq := ⟨_,rfl⟩
       have hb2 : Below wr.heap.size wr W2 := by rw [hW2];exact below_regrown wr dq osq
       subst hw''
       rw [← hW2]
       clear hW2 kx cF ky
       go_wp2
       go_roundw
       case rel => exact ⟨q + 1 + 1,by omega,by go_num,hbw.trans (hb2.mono hbw.size),fun j hj => by
        by_cases hjq : j = q + 1
        ·subst hjq;rw [up_succ,← HX.out,← HY.out,hf];exact hl
        ·exact HQ.out j (by omega)⟩
       case measure => simp [intOf];omega
      ·go_wp2_with fail
       refine wp_region_quiet_below (by kernel_rfl) (by kernel_rfl) ?_
       repeat (go_big_quiet_step (exact cF _ _))
       refine wpQuiet_nil ?_
       intro _ hw'
       obtain ⟨⟨dq,osq⟩,hw''⟩ := hw'
       obtain ⟨W2,hW2⟩ : ∃ W2,W2 = grow (redrawn wr dq) osq := ⟨_,rfl⟩
       have hb2 : Below wr.heap.size wr W2 := by rw [hW2];exact below_regrown wr dq osq
       subst hw''
       rw [← hW2]
       clear hW2 kx cF ky
       go_wp2
       go_ret
       exact ⟨ret_bool (rising_false hlt (by rw [up_succ,← HX.out,← HY.out,hf];exact hl)).symm,hbw.trans (hb2.mono hbw.size)⟩
     ·go_wp2_with fail
      refine wp_region_quiet_below (by kernel_rfl) (by kernel_rfl) ?_
      repeat (go_big_quiet_step (exact cF _ _))
      refine wpQuiet_nil ?_
      intro _ hw'
      obtain ⟨⟨dq,osq⟩,hw''⟩ := hw'
      obtain ⟨W2,hW2⟩ : ∃ W2,W2 = grow (redrawn wr dq) osq := ⟨_,rfl⟩
      have hb2 : Below wr.heap.size wr W2 := by rw [hW2];exact below_regrown wr dq osq
      subst hw''
      rw [← hW2]
      clear hW2 kx cF ky
      go_wp2
      go_ret
      exact ⟨ret_bool (rising_false hlt (by rw [up_succ,← HX.out,hf];rfl)).symm,hbw.trans (hb2.mono hbw.size)⟩
   ·have : k = ss.length := by omega
    subst this
    clear hc
    go_wp2
    go_ret
    exact ⟨ret_bool (rising_true HQ.out).symm,hbw⟩
open Go.RowKit Pv
theorem c4_run {k : FuncId} {ds : List D} {u : Value} (h : ∀ Q : D -> H -> Prop,(∀ h',Q (.raw u) h') -> wfun TT k ds [] Q) : CP (TT ()) k ds (· = .raw u) :=
 (wfun_ok (T := TT) (by kernel_rfl) (h (fun d _ => d = .raw u) fun _ => rfl)).cp fun d h' h => ⟨d,by rw [h];rfl,h⟩
theorem c4_runW {k : FuncId} {ds : List D} {d0 : D} (hp : pureD d0 = some d0) (h : ∀ Q : D -> H -> Prop,(∀ d h',Wk d d0 -> Q d h') -> wfun TT k ds [] Q) : CP (TT ()) k ds (· = d0) := by
 have c : CW (TT ()) k ds [] fun d _ => Wk d d0 := wfun_ok (T := TT) (by kernel_rfl) (h (fun d _ => Wk d d0) fun _ _ e => e)
 exact (c.weaken (R := fun d _ => d = d0) fun d h' h => ⟨d0,h,rfl⟩).cp fun d h' h => ⟨d0,by rw [h];exact hp,rfl⟩
theorem c4_node (t : Ty5) : ∃ k n nm L K,tyD t = .agg [.raw (.int .i64 k),.raw (.int .i64 n),.raw (.string nm),.sl none 1 L,.sl none 5 K] ∧ (∀ m,idbL m L = true) ∧ ∀ m,idbL m K = true := by
 obtain ⟨k,n,nm,ls,ks⟩ := t
 exact ⟨k,n,nm,_,_,rfl,fun m => pure_idbL m _ (strs_pure ls),fun m => pure_idbL m _ (tys_pure ks)⟩
theorem muchq_cp (a : Ty5) (ha : okT a) (hz : szT a ≤ 1048576) : CP (TT ()) 31 [tyD a] (· = .raw (.int .i64 (much a))) :=
 cp_raw (callable_at Try.func31 (by kernel_rfl) rfl) fun S w args r => by
  obtain ⟨v,rfl,h⟩ := rdL_one r
  obtain ⟨v0,v1,v2,v3,v4,rfl,hT⟩ := ty_in a ha h
  exact rmuch_any _ a _ _ _ _ _ w (Nat.le_refl _) hz hT
theorem sameq_cp (a b : Ty5) (ha : okT a) (hb : okT b) : CP (TT ()) 52 [tyD a,tyD b] (· = .raw (.bool (sameT a b))) :=
 cp_raw (callable_at Try.func52 (by kernel_rfl) rfl) fun S w args r => by
  obtain ⟨v,v',rfl,h,h'⟩ := rdL_two r
  obtain ⟨u0,u1,u2,u3,u4,rfl,hA⟩ := ty_in a ha h
  obtain ⟨v0,v1,v2,v3,v4,rfl,hB⟩ := ty_in b hb h'
  exact rsameTy_any _ a b _ _ _ _ _ _ _ _ _ _ w (Nat.le_refl _) hA hB
theorem nodesq_cp (a : Ty5) (ha : okT a) (hn : nodesT a ≤ 1000000) : CP (TT ()) 30 [tyD a] (· = .raw (.int .i64 (nodesT a))) :=
 cp_raw (callable_at Try.func30 (by kernel_rfl) rfl) fun S w args r => by
  obtain ⟨v,rfl,h⟩ := rdL_one r
  obtain ⟨v0,v1,v2,v3,v4,rfl,hT⟩ := ty_in a ha h
  exact rnodes_any _ a _ _ _ _ _ w (Nat.le_refl _) hn hT
theorem hasq_cp (kd : Int) (a : Ty5) (ha : okT a) : CP (TT ()) 75 [tyD a,.raw (.int .i64 kd)] (· = .raw (.bool (hasT kd a))) :=
 cp_raw (callable_at Try.func75 (by kernel_rfl) rfl) fun S w args r => by
  obtain ⟨v,v',rfl,h,h'⟩ := rdL_two r
  simp only [Pv.Rd] at h'
  subst h'
  obtain ⟨v0,v1,v2,v3,v4,rfl,hT⟩ := ty_in a ha h
  exact rhas_any kd _ a _ _ _ _ _ w (Nat.le_refl _) hT
end Go.Proofs.Ytglefhgcfijiaaa
