/- The document's own answers of layer 4: the variables. -/
import Derived.Test.YtbfmaicoefefaaaTyPut
import Derived.Test.YtbfmaicoefefaaaTyK
set_option linter.unusedSimpArgs false
set_option linter.unusedVariables false
namespace Go.Proofs.Ytbfmaicoefefaaa
open Go.RowKit Go.Deep Go.Sort
theorem namesL_app : ∀ a b : List Ty5, namesL (a ++ b) = namesL a ++ namesL b
  | [], b => by simp [namesL]
  | t :: r, b => by
    rw [List.cons_append]
    simp only [namesL]
    rw [namesL_app r b, List.append_assoc]
theorem namesL_step {ks : List Ty5} {j : Nat} (h : j < ks.length) : namesL (ks.take (j + 1)) = namesL (ks.take j) ++ namesT (kAt ks j) := by
  rw [take_kAt h, namesL_app]
  simp [namesL]
/-- A list of variables in a slice, so far. -/
structure VarsAt (wr : World) (v : Value) (N : List ByteArray) (m : Nat) : Prop where
  out : ∃ L, StrsAt wr v L ∧ VarsIs N L ∧ L.length ≤ m
theorem VarsAt.mono {wr w' : World} {v : Value} {N : List ByteArray} {m : Nat} (h : VarsAt wr v N m) (hb : Below wr.heap.size wr w') : VarsAt w' v N m := by
  obtain ⟨L, h1, h2, h3⟩ := h.out
  exact ⟨L, h1.mono hb, h2, h3⟩
theorem varsAt_nil (w : World) (m : Nat) : VarsAt w (.slice none 0 0) [] m := ⟨[], ⟨fun s h => (by simp at h), by simp, .inl ⟨none, 0, rfl, rfl⟩⟩, ⟨List.Pairwise.nil, fun s => Iff.rfl⟩, Nat.zero_le _⟩
set_option maxRecDepth 20000 in
set_option maxHeartbeats 4000000 in
theorem rvars_any : ∀ (f : Nat) (t : Ty5) (v0 v1 v2 v3 v4 : Value) (w : World), szT t ≤ f → nodesT t ≤ 1000000 → TyIn w t v0 v1 v2 v3 v4 →
    Calls Try.prog 23 #[.agg #[v0, v1, v2, v3, v4]] w fun e w' => ∃ v, e = .returned v ∧ Below w.heap.size w w' ∧ VarsAt w' v (namesT t) (nodesT t)
  | 0, t, _, _, _, _, _, _, h, _, _ => absurd (szT_pos t) (by omega)
  | f + 1, .mk k n nm ls ks, v0, v1, v2, v3, v4, w, hz, hn, hT => by
    obtain ⟨rfl, rfl, ⟨rfl, hm⟩, hl, hk, h4⟩ := hT
    unfold maxLen at hk
    obtain ⟨i0, hi, hz0, hz1, hz2⟩ := info_parts info_strT
    obtain ⟨a4, cap4, rfl⟩ : ∃ a cap, v4 = .slice a ks.length cap := by
      rcases h4 with ⟨a, cap, rfl, rfl⟩ | ⟨b, off, cap, rfl, _⟩
      · exact ⟨a, cap, rfl⟩
      · exact ⟨_, cap, rfl⟩
    have IH := Asd.mk (rvars_any f)
    have HZ := Asd.mk hz
    have HN := Asd.mk hn
    have HM := Asd.mk hm
    have H4 := Asd.mk h4
    clear hz hn hm hl h4
    have HB1 := Asd.mk (show Below w.heap.size w (w.alloc (.cells #[.int .i64 k, .int .i64 n, .string nm, v3, .slice a4 ks.length cap4] 25)) from (Below.refl _ _).alloc (Nat.le_refl _) _)
    have HZB := Asd.mk (heap_alloc_new w (.cells #[.int .i64 k, .int .i64 n, .string nm, v3, .slice a4 ks.length cap4] 25))
    have HLT := Asd.mk (alloc_lt w (.cells #[.int .i64 k, .int .i64 n, .string nm, v3, .slice a4 ks.length cap4] 25))
    go_enter Try.func23, Try.ntmps23
    obtain ⟨N0, hN0⟩ : ∃ N0, N0 = (if (k == 6) = true then [nm] else []) := ⟨_, rfl⟩
    have HN0 := Asd.mk (show namesT (.mk k n nm ls ks) = N0 ++ namesL ks by rw [hN0]; rfl)
    have HNN := Asd.mk (show nodesT (.mk k n nm ls ks) = 1 + nodesL ks from rfl)
    rcases Bool.eq_false_or_eq_true (k == 6) with hq | hq
    · rw [if_pos hq] at hN0
      go_wp2_with (at_builtin; refine wpList_append_own _ rfl (.tmp 10) (.tmp 13) 22 rfl (w.heap.size + 1) 9 i0 (.string ⟨#[]⟩) 1 16 Try.underlying22 hi hz0 hz1 hz2 rfl (by decide) (.slice none 0 0) 0 [] rfl (World.ownsRow_nil _ _ _ _) ⟨w.heap.size + 1, 0, none⟩ 1 1 [.string nm] rfl rfl (news_two w _ #[.string nm] _) (by intro u hu; simp at hu; subst hu; rfl) (by decide) (by decide) (by simp <;> omega) ?_; intro u0 W hown hgr _)
      have HV0 := Asd.mk (show VarsAt W u0 N0 1 from ⟨[nm], strsAt_ownT hown rfl (fun s hs => by rw [List.mem_singleton.1 hs]; exact HM.out) (by simp; unfold maxLen; omega), by rw [hN0]; exact ⟨by simp, fun s => Iff.rfl⟩, Nat.le_refl _⟩)
      have HW := Asd.mk (show Below w.heap.size w W from (HB1.out.alloc HB1.out.size _).grown hgr (by simp; omega) (fun j e => by cases e))
      have HZW := Asd.mk (show W.heap[w.heap.size]? = some (.cells #[.int .i64 k, .int .i64 n, .string nm, v3, .slice a4 ks.length cap4] 25 (0, 0)) from by
        rw [hgr.block _ (by simp; omega) (by simp [Value.ownBlock]), Below.heap_alloc _ _ _ HLT.out]
        exact HZB.out)
      clear hown hgr
      clear hN0 HB1 HZB HLT
      go_loopw [3, 4] (fun u i wr => ∃ j : Nat, j ≤ ks.length ∧ i = .int .i64 j ∧ VarsAt wr u (N0 ++ namesL (ks.take j)) (1 + nodesL (ks.take j)) ∧ Below W.heap.size W wr) (fun _ i _ => ks.length - (intOf i).toNat)
      case atStart => exact ⟨0, by omega, rfl, by simpa [namesL, nodesL] using HV0.out, Below.refl _ _⟩
      case round =>
        obtain ⟨j, hj, rfl, HV, hb⟩ := hrel
        have z4 := box_cell (i := 4) ((hb.block _ (Array.getElem?_eq_some_iff.1 HZW.out).1).trans HZW.out) rfl
        by_cases hlt : j < ks.length
        · rcases H4.out with ⟨_, _, e, e'⟩ | ⟨b, off, cap, e, hr⟩
          · rw [e'] at hlt
            exact absurd hlt (Nat.not_lt_zero _)
          obtain ⟨rfl, rfl⟩ : a4 = some ⟨b, off, none⟩ ∧ cap4 = cap := by simpa using e
          obtain ⟨x0, x1, x2, x3, x4, c0, c1, c2, c3, c4, ht⟩ := ((hr.mono HW.out).mono hb).at hlt
          have hn2 : 1 + nodesL (ks.take (j + 1)) ≤ 1000000 := by have := HN.out; have := HNN.out; have := nodesL_le ks (j + 1); omega
          have hst := nodesL_step hlt
          have C := Asd.mk (IH.out (kAt ks j) _ _ _ _ _ _ (by have := HZ.out; have := szT_kid (k := k) (n := n) (nm := nm) (ls := ls) hlt; omega) (by omega) ht)
          have HB := Asd.mk hb
          have HST := Asd.mk hst
          clear ht hb hr e
          go_wp2_with (go_at_call 23; refine C.out.mono ?_; clear C; rintro e w2 ⟨v', rfl, hb2, hv2⟩)
          obtain ⟨L, hL, hLV, hLn⟩ := hv2.out
          have HV2 := Asd.mk (HV.mono hb2)
          have HLV := Asd.mk hLV
          have HSL := Asd.mk hL
          have HB2 := Asd.mk hb2
          obtain ⟨aL, cL, rfl⟩ : ∃ a c, v' = .slice a L.length c := by
            rcases hL.2.2 with ⟨a, c, rfl, rfl⟩ | ⟨b, off, c, rfl, _⟩
            · exact ⟨a, c, rfl⟩
            · exact ⟨_, c, rfl⟩
          clear hL hLV hv2 HV hb2
          go_loopw [3, 6] (fun u q w3 => ∃ c : Nat, c ≤ L.length ∧ q = .int .i64 c ∧ VarsAt w3 u ((N0 ++ namesL (ks.take j)) ++ L.take c) (1 + nodesL (ks.take j) + c) ∧ Below w2.heap.size w2 w3) (fun _ q _ => L.length - (intOf q).toNat)
          case atStart => exact ⟨0, by omega, rfl, by simpa using HV2.out, Below.refl _ _⟩
          case round =>
            obtain ⟨c, hc, rfl, HVc, hb3⟩ := hrel
            by_cases hlc : c < L.length
            · have hsz := HSL.out.1 _ (getD_mem hlc)
              rcases HSL.out.2.2 with ⟨_, _, _, e'⟩ | ⟨b1, off1, cap1, e, hb1, hc1⟩
              · rw [e'] at hlc
                exact absurd hlc (Nat.not_lt_zero _)
              obtain ⟨rfl, rfl⟩ : aL = some ⟨b1, off1, none⟩ ∧ cL = cap1 := by simpa using e
              have hcx := (hb3.cell (p := ⟨b1, off1 + c, none⟩) hb1).trans (hc1 c hlc)
              have HTK : Asd (L.take (c + 1) = L.take c ++ [stAt L c]) := ⟨take_snoc hlc⟩
              obtain ⟨M, hM, hMV, hMn⟩ := HVc.out
              generalize stAt L c = y at hcx hsz HTK
              have D := Asd.mk (rput_any _ M y _ hM hsz (by omega))
              have HMV := Asd.mk hMV
              have HB3 := Asd.mk hb3
              clear hM hMV e hc1 hb3 HVc
              go_wp2_with (go_at_call 53; refine D.out.mono ?_; clear D; rintro e w4 ⟨u4, rfl, hb4, hs4⟩)
              go_roundw
              case rel => exact ⟨c + 1, by omega, by go_num, ⟨putL M y, hs4, by rw [HTK.out, ← List.append_assoc]; exact varsIs_put HMV.out y, by rw [putL_eq]; have := putR_len y M; omega⟩, HB3.out.trans (hb4.mono HB3.out.size)⟩
              case measure => simp [intOf]; omega
            · have hce : c = L.length := by omega
              subst hce
              go_wp2
              go_roundw
              case rel => exact ⟨j + 1, by omega, by go_num, by
                obtain ⟨M, hM, hMV, hMn⟩ := HVc.out
                rw [List.take_length] at hMV
                exact ⟨M, hM, varsIs_of hMV (fun s => by rw [namesL_step hlt]; simp only [List.mem_append, HLV.out.2, or_assoc]), by rw [HST.out]; omega⟩, HB.out.trans ((HB2.out.trans (hb3.mono HB2.out.size)).mono HB.out.size)⟩
              case measure => simp [intOf]; omega
        · have hje : j = ks.length := by omega
          subst hje
          go_wp2
          go_ret
          exact ⟨_, rfl, HW.out.trans (hb.mono HW.out.size), by rw [HN0.out, HNN.out]; rw [List.take_length] at HV; exact HV⟩
    · rw [if_neg (by rw [hq]; simp)] at hN0
      go_wp2
      have HV0 := Asd.mk (show VarsAt (w.alloc (.cells #[.int .i64 k, .int .i64 n, .string nm, v3, .slice a4 ks.length cap4] 25)) (.slice none 0 0) N0 1 from by rw [hN0]; exact varsAt_nil _ _)
      have HW := Asd.mk HB1.out
      have HZW := Asd.mk HZB.out
      generalize w.alloc (.cells #[.int .i64 k, .int .i64 n, .string nm, v3, .slice a4 ks.length cap4] 25) = W at HV0 HW HZW HB1 HZB HLT ⊢
      clear hN0 HB1 HZB HLT
      go_loopw [3, 4] (fun u i wr => ∃ j : Nat, j ≤ ks.length ∧ i = .int .i64 j ∧ VarsAt wr u (N0 ++ namesL (ks.take j)) (1 + nodesL (ks.take j)) ∧ Below W.heap.size W wr) (fun _ i _ => ks.length - (intOf i).toNat)
      case atStart => exact ⟨0, by omega, rfl, by simpa [namesL, nodesL] using HV0.out, Below.refl _ _⟩
      case round =>
        obtain ⟨j, hj, rfl, HV, hb⟩ := hrel
        have z4 := box_cell (i := 4) ((hb.block _ (Array.getElem?_eq_some_iff.1 HZW.out).1).trans HZW.out) rfl
        by_cases hlt : j < ks.length
        · rcases H4.out with ⟨_, _, e, e'⟩ | ⟨b, off, cap, e, hr⟩
          · rw [e'] at hlt
            exact absurd hlt (Nat.not_lt_zero _)
          obtain ⟨rfl, rfl⟩ : a4 = some ⟨b, off, none⟩ ∧ cap4 = cap := by simpa using e
          obtain ⟨x0, x1, x2, x3, x4, c0, c1, c2, c3, c4, ht⟩ := ((hr.mono HW.out).mono hb).at hlt
          have hn2 : 1 + nodesL (ks.take (j + 1)) ≤ 1000000 := by have := HN.out; have := HNN.out; have := nodesL_le ks (j + 1); omega
          have hst := nodesL_step hlt
          have C := Asd.mk (IH.out (kAt ks j) _ _ _ _ _ _ (by have := HZ.out; have := szT_kid (k := k) (n := n) (nm := nm) (ls := ls) hlt; omega) (by omega) ht)
          have HB := Asd.mk hb
          have HST := Asd.mk hst
          clear ht hb hr e
          go_wp2_with (go_at_call 23; refine C.out.mono ?_; clear C; rintro e w2 ⟨v', rfl, hb2, hv2⟩)
          obtain ⟨L, hL, hLV, hLn⟩ := hv2.out
          have HV2 := Asd.mk (HV.mono hb2)
          have HLV := Asd.mk hLV
          have HSL := Asd.mk hL
          have HB2 := Asd.mk hb2
          obtain ⟨aL, cL, rfl⟩ : ∃ a c, v' = .slice a L.length c := by
            rcases hL.2.2 with ⟨a, c, rfl, rfl⟩ | ⟨b, off, c, rfl, _⟩
            · exact ⟨a, c, rfl⟩
            · exact ⟨_, c, rfl⟩
          clear hL hLV hv2 HV hb2
          go_loopw [3, 6] (fun u q w3 => ∃ c : Nat, c ≤ L.length ∧ q = .int .i64 c ∧ VarsAt w3 u ((N0 ++ namesL (ks.take j)) ++ L.take c) (1 + nodesL (ks.take j) + c) ∧ Below w2.heap.size w2 w3) (fun _ q _ => L.length - (intOf q).toNat)
          case atStart => exact ⟨0, by omega, rfl, by simpa using HV2.out, Below.refl _ _⟩
          case round =>
            obtain ⟨c, hc, rfl, HVc, hb3⟩ := hrel
            by_cases hlc : c < L.length
            · have hsz := HSL.out.1 _ (getD_mem hlc)
              rcases HSL.out.2.2 with ⟨_, _, _, e'⟩ | ⟨b1, off1, cap1, e, hb1, hc1⟩
              · rw [e'] at hlc
                exact absurd hlc (Nat.not_lt_zero _)
              obtain ⟨rfl, rfl⟩ : aL = some ⟨b1, off1, none⟩ ∧ cL = cap1 := by simpa using e
              have hcx := (hb3.cell (p := ⟨b1, off1 + c, none⟩) hb1).trans (hc1 c hlc)
              have HTK : Asd (L.take (c + 1) = L.take c ++ [stAt L c]) := ⟨take_snoc hlc⟩
              obtain ⟨M, hM, hMV, hMn⟩ := HVc.out
              generalize stAt L c = y at hcx hsz HTK
              have D := Asd.mk (rput_any _ M y _ hM hsz (by omega))
              have HMV := Asd.mk hMV
              have HB3 := Asd.mk hb3
              clear hM hMV e hc1 hb3 HVc
              go_wp2_with (go_at_call 53; refine D.out.mono ?_; clear D; rintro e w4 ⟨u4, rfl, hb4, hs4⟩)
              go_roundw
              case rel => exact ⟨c + 1, by omega, by go_num, ⟨putL M y, hs4, by rw [HTK.out, ← List.append_assoc]; exact varsIs_put HMV.out y, by rw [putL_eq]; have := putR_len y M; omega⟩, HB3.out.trans (hb4.mono HB3.out.size)⟩
              case measure => simp [intOf]; omega
            · have hce : c = L.length := by omega
              subst hce
              go_wp2
              go_roundw
              case rel => exact ⟨j + 1, by omega, by go_num, by
                obtain ⟨M, hM, hMV, hMn⟩ := HVc.out
                rw [List.take_length] at hMV
                exact ⟨M, hM, varsIs_of hMV (fun s => by rw [namesL_step hlt]; simp only [List.mem_append, HLV.out.2, or_assoc]), by rw [HST.out]; omega⟩, HB.out.trans ((HB2.out.trans (hb3.mono HB2.out.size)).mono HB.out.size)⟩
              case measure => simp [intOf]; omega
        · have hje : j = ks.length := by omega
          subst hje
          go_wp2
          go_ret
          exact ⟨_, rfl, HW.out.trans (hb.mono HW.out.size), by rw [HN0.out, HNN.out]; rw [List.take_length] at HV; exact HV⟩
end Go.Proofs.Ytbfmaicoefefaaa
