/- limbeckref08.Cut. -/
import Derived.Test.YtlklpangckkkaaaPcN
import Derived.Test.YtlklpangckkkaaaPvE
import Derived.Test.YtlklpangckkkaaaSbG
namespace Go.Proofs.Ytlklpangckkkaaa
open Go.RowKit Pv
/-- The row, when i of its types are done. -/
def rowW (W ks : List Ty5) (m i : Nat) : List (List D) := (W.take i).map tyF ++ ((ks.drop i).map tyF ++ List.replicate m zeroF)
theorem rowW_zero (W ks : List Ty5) (m : Nat) : rowW W ks m 0 = ks.map tyF ++ List.replicate m zeroF := by simp [rowW]
theorem rowW_row (W ks : List Ty5) (m i : Nat) : ∀ r ∈ rowW W ks m i, r.length = 5 := fun r hr => by
  unfold rowW at hr
  rcases List.mem_append.1 hr with h | h
  · obtain ⟨t, _, rfl⟩ := List.mem_map.1 h
    exact tyF_len _
  rcases List.mem_append.1 h with h | h
  · obtain ⟨t, _, rfl⟩ := List.mem_map.1 h
    exact tyF_len _
  · rw [List.eq_of_mem_replicate h]
    rfl
theorem rowW_at {W ks : List Ty5} {m i : Nat} {t : Ty5} (hl : W.length = ks.length) (h : ks[i]? = some t) : (rowW W ks m i)[i]? = some (tyF t) := by
  obtain ⟨h1, h2⟩ := List.getElem?_eq_some_iff.1 h
  unfold rowW
  rw [List.getElem?_append_right (by simp; omega), show i - ((W.take i).map tyF).length = 0 by simp; omega, List.drop_eq_getElem_cons h1, h2]
  rfl
theorem rowW_set {W ks : List Ty5} {m i : Nat} {t u : Ty5} (hl : W.length = ks.length) (h : ks[i]? = some t) (hu : W[i]? = some u) : (rowW W ks m i).set i (tyF u) = rowW W ks m (i + 1) := by
  obtain ⟨h1, h2⟩ := List.getElem?_eq_some_iff.1 h
  obtain ⟨h3, h4⟩ := List.getElem?_eq_some_iff.1 hu
  unfold rowW
  rw [List.set_append_right _ _ (by simp; omega), show i - ((W.take i).map tyF).length = 0 by simp; omega, List.drop_eq_getElem_cons h1, h2, List.take_succ_eq_append_getElem h3, h4]
  simp
theorem rowW_same {W ks : List Ty5} {m i : Nat} {t : Ty5} (hl : W.length = ks.length) (h : ks[i]? = some t) (hu : W[i]? = some t) : rowW W ks m (i + 1) = rowW W ks m i := by
  obtain ⟨h1, h2⟩ := List.getElem?_eq_some_iff.1 h
  obtain ⟨h3, h4⟩ := List.getElem?_eq_some_iff.1 hu
  unfold rowW
  rw [List.drop_eq_getElem_cons h1, h2, List.take_succ_eq_append_getElem h3, h4]
  simp
theorem rowW_done {W ks : List Ty5} {m : Nat} (hl : W.length = ks.length) (j : Nat) (d : D) (h : (tysD W)[j]? = some d) : ∃ row, (rowW W ks m ks.length)[j]? = some row ∧ d = D.agg row := by
  rw [tysD_map, List.getElem?_map, Option.map_eq_some_iff] at h
  obtain ⟨t, ht, rfl⟩ := h
  refine ⟨tyF t, ?_, tyF_agg _⟩
  have hlt := (List.getElem?_eq_some_iff.1 ht).1
  unfold rowW
  rw [← hl, List.take_length, List.getElem?_append_left (by simpa using hlt), List.getElem?_map, ht]
  rfl
structure GutI (ks W : List Ty5) (m : Nat) (i y : Int) (E : List D) : Prop where
  i0 : 0 ≤ i
  i1 : i.toNat ≤ ks.length
  y1 : y = 1 + nodesL (ks.take i.toNat)
  row : E = (rowW W ks m i.toNat).flatten
theorem tyF_idb8 (t : Ty5) (k : Nat) : idbL k (tyF t) = true := by
  obtain ⟨a, b, c, ls, ks⟩ := t
  simp [tyF, tyD, leavesD, idbL, idb, strs_idb ls, tys_idb ks]
theorem idbL_app8 (k : Nat) : ∀ a b : List D, idbL k (a ++ b) = (idbL k a && idbL k b)
  | [], b => by simp [idbL]
  | x :: a, b => by simp [idbL, idbL_app8 k a b, Bool.and_assoc]
theorem idbL_flat8 {k : Nat} : ∀ {E : List (List D)}, (∀ r ∈ E, idbL k r = true) → idbL k E.flatten = true
  | [], _ => rfl
  | r :: E, h => by
    rw [List.flatten_cons, idbL_app8, h r (List.mem_cons_self ..), idbL_flat8 fun r hr => h r (List.mem_cons_of_mem _ hr)]
    rfl
theorem rowW_idb (W ks : List Ty5) (m i k : Nat) : idbL k (rowW W ks m i).flatten = true := idbL_flat8 fun r hr => by
  unfold rowW at hr
  rcases List.mem_append.1 hr with h | h
  · obtain ⟨t, _, rfl⟩ := List.mem_map.1 h
    exact tyF_idb8 _ _
  rcases List.mem_append.1 h with h | h
  · obtain ⟨t, _, rfl⟩ := List.mem_map.1 h
    exact tyF_idb8 _ _
  · rw [List.eq_of_mem_replicate h]
    rfl
set_option maxRecDepth 20000 in
set_option maxHeartbeats 4000000 in
theorem rcut_run (k n : Int) (nm : ByteArray) (ls : List ByteArray) (ks : List Ty5) (z : Int) (hz : 0 < z) (ho : okT (.mk k n nm ls ks)) (hzm : z.toNat < nodesT (.mk k n nm ls ks)) (hks : ks.length ≤ 1000000) (hnn : nodesT (.mk k n nm ls ks) ≤ 1000000)
    (hc : ∀ t ∈ ks, ∀ y : Int, 0 ≤ y → y ≤ 9223372036854775807 → CP (TT ()) 11 [tyD t, .raw (.int .i64 y)] (· = cutR2 t y)) (Q : D → H → Prop)
    (hQ : ∀ m h' id, h'[id]? = some (.box 25 (rowW (cutL ks (z.toNat - 1)) ks m ks.length).flatten) → Q (.tup [.agg [.raw (.int .i64 k), .raw (.int .i64 n), .raw (.string nm), .sl none 1 (ls.map strD), .ms id 0 ks.length], .raw (.bool true)]) h') :
    wfun TT 11 [tyD (.mk k n nm ls ks), .raw (.int .i64 z)] [] Q := by
  have cN := nodesq_cp _ ho hnn
  have hne : 0 < ks.length := by
    rcases ks with _ | _
    · simp only [nodesT, nodesL] at hzm
      omega
    · simp
  have hoL : ∀ t ∈ ks, okT t ∧ nodesT t ≤ 1000000 := fun t ht => ⟨okL_get ho.2.2 t ht, by have := nodesL_mem ht; simp only [nodesT] at hnn; omega⟩
  have hsumk : nodesL ks ≤ 1000000 := by simp only [nodesT] at hnn; omega
  have hpt := ty_pure (.mk k n nm ls ks)
  have hKl := tys_len ks
  have hKi := tys_idb ks
  have hKp := tys_pure ks
  have hLi := strs_idb ls
  have hKat := fun i => tys_at (ks := ks) (i := i)
  have hKF : ∀ y ∈ tysD ks, y = .agg (leavesD y) := fun y hy => by
    rw [tysD_map] at hy
    obtain ⟨t, _, rfl⟩ := List.mem_map.1 hy
    exact tyF_agg t
  have hKM : (tysD ks).map leavesD = ks.map tyF := by rw [tysD_map, List.map_map]; rfl
  obtain ⟨nn, hnn2⟩ : ∃ nn : Int, ((nodesT (.mk k n nm ls ks) : Nat) : Int) = nn := ⟨_, rfl⟩
  rw [hnn2] at cN
  have hzn : ¬ (nn ≤ z) := by omega
  have hzb : z ≤ 1000000 := by omega
  clear hnn2 hzm hnn
  simp only [tyD] at cN hpt ⊢
  generalize ls.map strD = LS at cN hpt hLi hQ ⊢
  generalize tysD ks = KS at cN hpt hKl hKi hKp hKat hKF hKM ⊢
  cbv
  (repeat' (first | (refine Pv.StatK.go (by kernel_rfl) (by kernel_rfl) ?_; cbv) | (refine Pv.DrawK.go 0 (by decide +kernel) ?_; cbv) | (refine Pv.DrawK.go 1 (by decide +kernel) ?_; cbv) | (refine Pv.DrawK.go 2 (by decide +kernel) ?_; cbv) | (refine Pv.LineK.go 0 (by decide +kernel) (by kernel_rfl) ?_; cbv) | (refine Pv.LineK.go 1 (by decide +kernel) (by kernel_rfl) ?_; cbv) | (refine Pv.LenK.intro ?_; intro _ _ _; cbv) | (refine Pv.LenNK.intro ?_; intro _ _ _; cbv) | (refine Pv.BinK.lssT (by omega) ?_; cbv) | (refine Pv.BinK.lssF (by omega) ?_; cbv) | (refine Pv.BinK.leqT (by omega) ?_; cbv) | (refine Pv.BinK.leqF (by omega) ?_; cbv) | (refine Pv.BinK.gtrT (by omega) ?_; cbv) | (refine Pv.BinK.gtrF (by omega) ?_; cbv) | (refine Pv.BinK.geqT (by omega) ?_; cbv) | (refine Pv.BinK.geqF (by omega) ?_; cbv) | (refine Pv.BinK.eqlT (by omega) ?_; cbv) | (refine Pv.BinK.eqlF (by omega) ?_; cbv) | (refine Pv.BinK.neqT (by omega) ?_; cbv) | (refine Pv.BinK.neqF (by omega) ?_; cbv) | (refine Pv.BinK.add (by omega) ?_; intro _ _; cbv) | (refine Pv.BinK.sub (by omega) ?_; intro _ _; cbv) | (refine Pv.RegK.go ?_; cbv)))
  refine CallK.one cN (cons_pure hpt rfl) rfl ?_
  clear cN
  cbv
  (repeat' (first | (refine Pv.StatK.go (by kernel_rfl) (by kernel_rfl) ?_; cbv) | (refine Pv.LineK.go 0 (by decide +kernel) (by kernel_rfl) ?_; cbv) | (refine Pv.LineK.go 1 (by decide +kernel) (by kernel_rfl) ?_; cbv) | (refine Pv.LenK.intro ?_; intro _ _ _; cbv) | (refine Pv.LenNK.intro ?_; intro _ _ _; cbv) | (refine Pv.BinK.lssT (by omega) ?_; cbv) | (refine Pv.BinK.lssF (by omega) ?_; cbv) | (refine Pv.BinK.leqT (by omega) ?_; cbv) | (refine Pv.BinK.leqF (by omega) ?_; cbv) | (refine Pv.BinK.gtrT (by omega) ?_; cbv) | (refine Pv.BinK.gtrF (by omega) ?_; cbv) | (refine Pv.BinK.geqT (by omega) ?_; cbv) | (refine Pv.BinK.geqF (by omega) ?_; cbv) | (refine Pv.BinK.eqlT (by omega) ?_; cbv) | (refine Pv.BinK.eqlF (by omega) ?_; cbv) | (refine Pv.BinK.neqT (by omega) ?_; cbv) | (refine Pv.BinK.neqF (by omega) ?_; cbv) | (refine Pv.BinK.add (by omega) ?_; intro _ _; cbv) | (refine Pv.BinK.sub (by omega) ?_; intro _ _; cbv)))
  refine RegK.copy (zs := zeroF) el_tys (by kernel_rfl) leavesD rfl rfl rfl rfl rfl rfl rfl rfl rfl rfl rfl (by kernel_rfl) (by kernel_rfl) rfl rfl (by decide) (by decide) rfl rfl (by omega) (by omega) (by omega) hKF ?_
  intro m E hE
  rw [hKM] at hE
  obtain ⟨E0, hE0⟩ : ∃ E0, E0 = E.flatten := ⟨_, rfl⟩
  rw [← hE0]
  obtain ⟨nk, hnk⟩ : ∃ nk, KS.length = nk := ⟨_, rfl⟩
  rw [hnk]
  rw [hnk] at hKl
  have hv0 : GutI ks (cutL ks (z.toNat - 1)) m 0 1 E0 := ⟨by omega, by simp, by simp [nodesL], by rw [hE0, hE, ← rowW_zero (cutL ks (z.toNat - 1))]; rfl⟩
  obtain ⟨W, hW⟩ : ∃ W, cutL ks (z.toNat - 1) = W := ⟨_, rfl⟩
  have hWl : W.length = ks.length := by rw [← hW]; exact cutL_len _ _
  have hWat : ∀ (j : Nat) (t : Ty5), ks[j]? = some t → W[j]? = some (if nodesL (ks.take j) ≤ z.toNat - 1 ∧ z.toNat - 1 < nodesL (ks.take j) + nodesT t then cutT t (z.toNat - 1 - nodesL (ks.take j)) else t) := fun j t h => by
    rw [← hW]
    exact cutL_at ks _ j t h
  rw [hW] at hv0 hQ
  clear hE0 hE hW
  cbv
  (repeat' (first | (refine Pv.StatK.go (by kernel_rfl) (by kernel_rfl) ?_; cbv) | (refine Pv.DrawK.go 0 (by decide +kernel) ?_; cbv) | (refine Pv.DrawK.go 1 (by decide +kernel) ?_; cbv) | (refine Pv.DrawK.go 2 (by decide +kernel) ?_; cbv) | (refine Pv.LineK.go 0 (by decide +kernel) (by kernel_rfl) ?_; cbv) | (refine Pv.LineK.go 1 (by decide +kernel) (by kernel_rfl) ?_; cbv) | (refine Pv.LenK.intro ?_; intro _ _ _; cbv) | (refine Pv.LenNK.intro ?_; intro _ _ _; cbv) | (refine Pv.BinK.lssT (by omega) ?_; cbv) | (refine Pv.BinK.lssF (by omega) ?_; cbv) | (refine Pv.BinK.leqT (by omega) ?_; cbv) | (refine Pv.BinK.leqF (by omega) ?_; cbv) | (refine Pv.BinK.gtrT (by omega) ?_; cbv) | (refine Pv.BinK.gtrF (by omega) ?_; cbv) | (refine Pv.BinK.geqT (by omega) ?_; cbv) | (refine Pv.BinK.geqF (by omega) ?_; cbv) | (refine Pv.BinK.eqlT (by omega) ?_; cbv) | (refine Pv.BinK.eqlF (by omega) ?_; cbv) | (refine Pv.BinK.neqT (by omega) ?_; cbv) | (refine Pv.BinK.neqF (by omega) ?_; cbv) | (refine Pv.BinK.add (by omega) ?_; intro _ _; cbv) | (refine Pv.BinK.sub (by omega) ?_; intro _ _; cbv) | (refine Pv.RegK.go ?_; cbv)))
  refine LoopK.put (X := Int × Int × List D) (fun x => [(8, .raw (.int .i64 x.1)), (7, .raw (.int .i64 x.2.1))]) (fun x => [(3, .box 25 x.2.2)]) (fun x => ks.length - x.1.toNat) (fun x => GutI ks W m x.1 x.2.1 x.2.2) (0, 1, E0) hv0 rfl rfl ?_
  rintro ⟨i, y, E1⟩ N hv hN
  simp only at hv hN ⊢
  have hi0 := hv.i0
  have hi1 := hv.i1
  cbv
  (repeat' (first | (refine Pv.StatK.go (by kernel_rfl) (by kernel_rfl) ?_; cbv) | (refine Pv.DrawK.go 0 (by decide +kernel) ?_; cbv) | (refine Pv.DrawK.go 1 (by decide +kernel) ?_; cbv) | (refine Pv.DrawK.go 2 (by decide +kernel) ?_; cbv) | (refine Pv.LineK.go 0 (by decide +kernel) (by kernel_rfl) ?_; cbv) | (refine Pv.LineK.go 1 (by decide +kernel) (by kernel_rfl) ?_; cbv) | (refine Pv.LenK.intro ?_; intro _ _ _; cbv) | (refine Pv.LenNK.intro ?_; intro _ _ _; cbv) | (refine Pv.BinK.lssT (by omega) ?_; cbv) | (refine Pv.BinK.lssF (by omega) ?_; cbv) | (refine Pv.BinK.leqT (by omega) ?_; cbv) | (refine Pv.BinK.leqF (by omega) ?_; cbv) | (refine Pv.BinK.gtrT (by omega) ?_; cbv) | (refine Pv.BinK.gtrF (by omega) ?_; cbv) | (refine Pv.BinK.geqT (by omega) ?_; cbv) | (refine Pv.BinK.geqF (by omega) ?_; cbv) | (refine Pv.BinK.eqlT (by omega) ?_; cbv) | (refine Pv.BinK.eqlF (by omega) ?_; cbv) | (refine Pv.BinK.neqT (by omega) ?_; cbv) | (refine Pv.BinK.neqF (by omega) ?_; cbv) | (refine Pv.BinK.add (by omega) ?_; intro _ _; cbv) | (refine Pv.BinK.sub (by omega) ?_; intro _ _; cbv) | (refine Pv.RegK.go ?_; cbv)))
  refine BinK.lss ?_ ?_ <;> intro hlt <;> cbv <;> (repeat' (first | (refine Pv.StatK.go (by kernel_rfl) (by kernel_rfl) ?_; cbv) | (refine Pv.DrawK.go 0 (by decide +kernel) ?_; cbv) | (refine Pv.DrawK.go 1 (by decide +kernel) ?_; cbv) | (refine Pv.DrawK.go 2 (by decide +kernel) ?_; cbv) | (refine Pv.LineK.go 0 (by decide +kernel) (by kernel_rfl) ?_; cbv) | (refine Pv.LineK.go 1 (by decide +kernel) (by kernel_rfl) ?_; cbv) | (refine Pv.LenK.intro ?_; intro _ _ _; cbv) | (refine Pv.LenNK.intro ?_; intro _ _ _; cbv) | (refine Pv.BinK.lssT (by omega) ?_; cbv) | (refine Pv.BinK.lssF (by omega) ?_; cbv) | (refine Pv.BinK.leqT (by omega) ?_; cbv) | (refine Pv.BinK.leqF (by omega) ?_; cbv) | (refine Pv.BinK.gtrT (by omega) ?_; cbv) | (refine Pv.BinK.gtrF (by omega) ?_; cbv) | (refine Pv.BinK.geqT (by omega) ?_; cbv) | (refine Pv.BinK.geqF (by omega) ?_; cbv) | (refine Pv.BinK.eqlT (by omega) ?_; cbv) | (refine Pv.BinK.eqlF (by omega) ?_; cbv) | (refine Pv.BinK.neqT (by omega) ?_; cbv) | (refine Pv.BinK.neqF (by omega) ?_; cbv) | (refine Pv.BinK.add (by omega) ?_; intro _ _; cbv) | (refine Pv.BinK.sub (by omega) ?_; intro _ _; cbv) | (refine Pv.RegK.go ?_; cbv)))
  · obtain ⟨t, ht, hK⟩ := hKat i.toNat (by omega)
    have hilt : i.toNat < nk := by
      have := (List.getElem?_eq_some_iff.1 ht).1
      rw [hKl]
      exact this
    obtain ⟨hot, hnt⟩ := hoL t (List.mem_of_getElem? ht)
    have cNt := nodesq_cp t hot hnt
    have hpt2 := ty_pure t
    have hsum := nodesL_take ht
    have hS : nodesL (ks.take i.toNat) ≤ 1000000 := by
      have h : nodesL ks = nodesL (ks.take i.toNat) + nodesL (ks.drop i.toNat) := by rw [← nodesL_app, List.take_append_drop]
      omega
    have hWi := hWat i.toNat t ht
    have hrow := rowW_row W ks m i.toNat
    have hat := rowW_at (m := m) hWl ht
    have hE1 := hv.row
    have hct := hc t (List.mem_of_getElem? ht)
    have hy1 := hv.y1
    have hstep : ∀ (i2 y2 : Int) (E2 : List D), i2 = i + 1 → y2 = y + nodesT t → E2 = (rowW W ks m (i.toNat + 1)).flatten → GutI ks W m i2 y2 E2 := fun i2 y2 E2 e1 e2 e3 => by
      have e : i2.toNat = i.toNat + 1 := by omega
      have hlt2 := (List.getElem?_eq_some_iff.1 ht).1
      refine ⟨by omega, by omega, ?_, by rw [e]; exact e3⟩
      rw [e, hsum]
      omega
    have hyb : 1 ≤ y ∧ y ≤ 1000001 := by omega
    obtain ⟨nt, hnt2⟩ : ∃ nt : Int, ((nodesT t : Nat) : Int) = nt := ⟨_, rfl⟩
    rw [hnt2] at cNt
    have hntb : 0 ≤ nt ∧ nt ≤ 1000000 := by omega
    clear hc hKat hWat hoL
    by_cases hin : y ≤ z ∧ z < y + nt
    · rw [if_pos (by omega)] at hWi
      have hc2 := hct (z - y) (by omega) (by omega)
      have hset := rowW_set (m := m) hWl ht hWi
      have e : cutR2 t (z - y) = .tup [tyD (cutT t (z.toNat - 1 - nodesL (ks.take i.toNat))), .raw (.bool true)] := by
        unfold cutR2 cutR cutB
        rw [if_pos (by omega), decide_eq_true (by omega), show (z - y).toNat = z.toNat - 1 - nodesL (ks.take i.toNat) by omega]
      have hcp := cutR2_pure t (z - y)
      rw [e] at hc2 hcp
      have hc2 : ∀ r : Int, r = z - y → CP (TT ()) 11 [tyD t, .raw (.int .i64 r)] (· = .tup [tyD (cutT t (z.toNat - 1 - nodesL (ks.take i.toNat))), .raw (.bool true)]) := fun r hr => by rw [hr]; exact hc2
      rw [← hset] at hstep
      have hnext := fun i2 y2 E2 e1 e2 => hstep i2 y2 E2 e1 (hnt2 ▸ e2)
      have hEi : ∀ (i2 y2 : Int) (E2 : List D), GutI ks W m i2 y2 E2 → ∀ q, idbL q E2 = true := fun i2 y2 E2 h q => by rw [h.row]; exact rowW_idb ..
      clear hct e hset hstep hWi
      generalize cutT t (z.toNat - 1 - nodesL (ks.take i.toNat)) = u at hc2 hcp hnext
      obtain ⟨k0, n0, m0, l0, s0⟩ := t
      obtain ⟨k2, n2, m2, l2, s2⟩ := u
      simp only [tyF, tyD, leavesD] at hc2 hcp hpt2 hK hat hnext cNt
      generalize l0.map strD = L0 at hc2 hpt2 hK hat cNt
      generalize tysD s0 = S0 at hc2 hpt2 hK hat cNt
      generalize l2.map strD = L2 at hc2 hcp hnext
      generalize tysD s2 = S2 at hc2 hcp hnext
      refine IdxK.intro hi0 hK ?_
      cbv
      (repeat' (first | (refine Pv.StatK.go (by kernel_rfl) (by kernel_rfl) ?_; cbv) | (refine Pv.DrawK.go 0 (by decide +kernel) ?_; cbv) | (refine Pv.DrawK.go 1 (by decide +kernel) ?_; cbv) | (refine Pv.DrawK.go 2 (by decide +kernel) ?_; cbv) | (refine Pv.LineK.go 0 (by decide +kernel) (by kernel_rfl) ?_; cbv) | (refine Pv.LineK.go 1 (by decide +kernel) (by kernel_rfl) ?_; cbv) | (refine Pv.LenK.intro ?_; intro _ _ _; cbv) | (refine Pv.LenNK.intro ?_; intro _ _ _; cbv) | (refine Pv.BinK.lssT (by omega) ?_; cbv) | (refine Pv.BinK.lssF (by omega) ?_; cbv) | (refine Pv.BinK.leqT (by omega) ?_; cbv) | (refine Pv.BinK.leqF (by omega) ?_; cbv) | (refine Pv.BinK.gtrT (by omega) ?_; cbv) | (refine Pv.BinK.gtrF (by omega) ?_; cbv) | (refine Pv.BinK.geqT (by omega) ?_; cbv) | (refine Pv.BinK.geqF (by omega) ?_; cbv) | (refine Pv.BinK.eqlT (by omega) ?_; cbv) | (refine Pv.BinK.eqlF (by omega) ?_; cbv) | (refine Pv.BinK.neqT (by omega) ?_; cbv) | (refine Pv.BinK.neqF (by omega) ?_; cbv) | (refine Pv.BinK.add (by omega) ?_; intro _ _; cbv) | (refine Pv.BinK.sub (by omega) ?_; intro _ _; cbv) | (refine Pv.RegK.go ?_; cbv)))
      refine CallK.one cNt (cons_pure hpt2 rfl) rfl ?_
      cbv
      (repeat' (first | (refine Pv.StatK.go (by kernel_rfl) (by kernel_rfl) ?_; cbv) | (refine Pv.DrawK.go 0 (by decide +kernel) ?_; cbv) | (refine Pv.DrawK.go 1 (by decide +kernel) ?_; cbv) | (refine Pv.DrawK.go 2 (by decide +kernel) ?_; cbv) | (refine Pv.LineK.go 0 (by decide +kernel) (by kernel_rfl) ?_; cbv) | (refine Pv.LineK.go 1 (by decide +kernel) (by kernel_rfl) ?_; cbv) | (refine Pv.LenK.intro ?_; intro _ _ _; cbv) | (refine Pv.LenNK.intro ?_; intro _ _ _; cbv) | (refine Pv.BinK.lssT (by omega) ?_; cbv) | (refine Pv.BinK.lssF (by omega) ?_; cbv) | (refine Pv.BinK.leqT (by omega) ?_; cbv) | (refine Pv.BinK.leqF (by omega) ?_; cbv) | (refine Pv.BinK.gtrT (by omega) ?_; cbv) | (refine Pv.BinK.gtrF (by omega) ?_; cbv) | (refine Pv.BinK.geqT (by omega) ?_; cbv) | (refine Pv.BinK.geqF (by omega) ?_; cbv) | (refine Pv.BinK.eqlT (by omega) ?_; cbv) | (refine Pv.BinK.eqlF (by omega) ?_; cbv) | (refine Pv.BinK.neqT (by omega) ?_; cbv) | (refine Pv.BinK.neqF (by omega) ?_; cbv) | (refine Pv.BinK.add (by omega) ?_; intro _ _; cbv) | (refine Pv.BinK.sub (by omega) ?_; intro _ _; cbv) | (refine Pv.RegK.go ?_; cbv)))
      refine DrawK.eager 2 14 (by kernel_rfl) (by decide +kernel) (by decide +kernel) ?_
      cbv
      (repeat' (first | (refine Pv.StatK.go (by kernel_rfl) (by kernel_rfl) ?_; cbv) | (refine Pv.DrawK.go 0 (by decide +kernel) ?_; cbv) | (refine Pv.DrawK.go 1 (by decide +kernel) ?_; cbv) | (refine Pv.DrawK.go 2 (by decide +kernel) ?_; cbv) | (refine Pv.LineK.go 0 (by decide +kernel) (by kernel_rfl) ?_; cbv) | (refine Pv.LineK.go 1 (by decide +kernel) (by kernel_rfl) ?_; cbv) | (refine Pv.LenK.intro ?_; intro _ _ _; cbv) | (refine Pv.LenNK.intro ?_; intro _ _ _; cbv) | (refine Pv.BinK.lssT (by omega) ?_; cbv) | (refine Pv.BinK.lssF (by omega) ?_; cbv) | (refine Pv.BinK.leqT (by omega) ?_; cbv) | (refine Pv.BinK.leqF (by omega) ?_; cbv) | (refine Pv.BinK.gtrT (by omega) ?_; cbv) | (refine Pv.BinK.gtrF (by omega) ?_; cbv) | (refine Pv.BinK.geqT (by omega) ?_; cbv) | (refine Pv.BinK.geqF (by omega) ?_; cbv) | (refine Pv.BinK.eqlT (by omega) ?_; cbv) | (refine Pv.BinK.eqlF (by omega) ?_; cbv) | (refine Pv.BinK.neqT (by omega) ?_; cbv) | (refine Pv.BinK.neqF (by omega) ?_; cbv) | (refine Pv.BinK.add (by omega) ?_; intro _ _; cbv) | (refine Pv.BinK.sub (by omega) ?_; intro _ _; cbv) | (refine Pv.RegK.go ?_; cbv)))
      refine IdxK.intro hi0 hK ?_
      cbv
      (repeat' (first | (refine Pv.StatK.go (by kernel_rfl) (by kernel_rfl) ?_; cbv) | (refine Pv.DrawK.go 0 (by decide +kernel) ?_; cbv) | (refine Pv.DrawK.go 1 (by decide +kernel) ?_; cbv) | (refine Pv.DrawK.go 2 (by decide +kernel) ?_; cbv) | (refine Pv.LineK.go 0 (by decide +kernel) (by kernel_rfl) ?_; cbv) | (refine Pv.LineK.go 1 (by decide +kernel) (by kernel_rfl) ?_; cbv) | (refine Pv.LenK.intro ?_; intro _ _ _; cbv) | (refine Pv.LenNK.intro ?_; intro _ _ _; cbv) | (refine Pv.BinK.lssT (by omega) ?_; cbv) | (refine Pv.BinK.lssF (by omega) ?_; cbv) | (refine Pv.BinK.leqT (by omega) ?_; cbv) | (refine Pv.BinK.leqF (by omega) ?_; cbv) | (refine Pv.BinK.gtrT (by omega) ?_; cbv) | (refine Pv.BinK.gtrF (by omega) ?_; cbv) | (refine Pv.BinK.geqT (by omega) ?_; cbv) | (refine Pv.BinK.geqF (by omega) ?_; cbv) | (refine Pv.BinK.eqlT (by omega) ?_; cbv) | (refine Pv.BinK.eqlF (by omega) ?_; cbv) | (refine Pv.BinK.neqT (by omega) ?_; cbv) | (refine Pv.BinK.neqF (by omega) ?_; cbv) | (refine Pv.BinK.add (by omega) ?_; intro _ _; cbv) | (refine Pv.BinK.sub (by omega) ?_; intro _ _; cbv) | (refine Pv.RegK.go ?_; cbv)))
      first | refine CallK.one (hc2 _ (by assumption)) (cons_pure hpt2 rfl) hcp ?_ | refine PCallK.one (hc2 _ (by assumption)) (cons_pure hpt2 rfl) hcp ?_
      cbv
      (repeat' (first | (refine Pv.StatK.go (by kernel_rfl) (by kernel_rfl) ?_; cbv) | (refine Pv.DrawK.go 0 (by decide +kernel) ?_; cbv) | (refine Pv.DrawK.go 1 (by decide +kernel) ?_; cbv) | (refine Pv.DrawK.go 2 (by decide +kernel) ?_; cbv) | (refine Pv.LineK.go 0 (by decide +kernel) (by kernel_rfl) ?_; cbv) | (refine Pv.LineK.go 1 (by decide +kernel) (by kernel_rfl) ?_; cbv) | (refine Pv.LenK.intro ?_; intro _ _ _; cbv) | (refine Pv.LenNK.intro ?_; intro _ _ _; cbv) | (refine Pv.BinK.lssT (by omega) ?_; cbv) | (refine Pv.BinK.lssF (by omega) ?_; cbv) | (refine Pv.BinK.leqT (by omega) ?_; cbv) | (refine Pv.BinK.leqF (by omega) ?_; cbv) | (refine Pv.BinK.gtrT (by omega) ?_; cbv) | (refine Pv.BinK.gtrF (by omega) ?_; cbv) | (refine Pv.BinK.geqT (by omega) ?_; cbv) | (refine Pv.BinK.geqF (by omega) ?_; cbv) | (refine Pv.BinK.eqlT (by omega) ?_; cbv) | (refine Pv.BinK.eqlF (by omega) ?_; cbv) | (refine Pv.BinK.neqT (by omega) ?_; cbv) | (refine Pv.BinK.neqF (by omega) ?_; cbv) | (refine Pv.BinK.add (by omega) ?_; intro _ _; cbv) | (refine Pv.BinK.sub (by omega) ?_; intro _ _; cbv) | (refine Pv.RegK.go ?_; cbv)))
      refine TailK.seq rfl (by decide +kernel) ?_
      cbv
      refine MIdxK.intro hi0 hilt ?_
      intro j2 hj2
      cbv
      (repeat' (first | (refine Pv.StatK.go (by kernel_rfl) (by kernel_rfl) ?_; cbv) | (refine Pv.DrawK.go 0 (by decide +kernel) ?_; cbv) | (refine Pv.DrawK.go 1 (by decide +kernel) ?_; cbv) | (refine Pv.DrawK.go 2 (by decide +kernel) ?_; cbv) | (refine Pv.LineK.go 0 (by decide +kernel) (by kernel_rfl) ?_; cbv) | (refine Pv.LineK.go 1 (by decide +kernel) (by kernel_rfl) ?_; cbv) | (refine Pv.LenK.intro ?_; intro _ _ _; cbv) | (refine Pv.LenNK.intro ?_; intro _ _ _; cbv) | (refine Pv.BinK.lssT (by omega) ?_; cbv) | (refine Pv.BinK.lssF (by omega) ?_; cbv) | (refine Pv.BinK.leqT (by omega) ?_; cbv) | (refine Pv.BinK.leqF (by omega) ?_; cbv) | (refine Pv.BinK.gtrT (by omega) ?_; cbv) | (refine Pv.BinK.gtrF (by omega) ?_; cbv) | (refine Pv.BinK.geqT (by omega) ?_; cbv) | (refine Pv.BinK.geqF (by omega) ?_; cbv) | (refine Pv.BinK.eqlT (by omega) ?_; cbv) | (refine Pv.BinK.eqlF (by omega) ?_; cbv) | (refine Pv.BinK.neqT (by omega) ?_; cbv) | (refine Pv.BinK.neqF (by omega) ?_; cbv) | (refine Pv.BinK.add (by omega) ?_; intro _ _; cbv) | (refine Pv.BinK.sub (by omega) ?_; intro _ _; cbv) | (refine Pv.RegK.go ?_; cbv)))
      refine MStoreK.row hE1 hrow (by rw [hj2]; exact hat) rfl (by simp) rfl ?_
      intro E2 hE2
      rw [hj2] at hE2
      cbv
      (repeat' (first | (refine Pv.StatK.go (by kernel_rfl) (by kernel_rfl) ?_; cbv) | (refine Pv.DrawK.go 0 (by decide +kernel) ?_; cbv) | (refine Pv.DrawK.go 1 (by decide +kernel) ?_; cbv) | (refine Pv.DrawK.go 2 (by decide +kernel) ?_; cbv) | (refine Pv.LineK.go 0 (by decide +kernel) (by kernel_rfl) ?_; cbv) | (refine Pv.LineK.go 1 (by decide +kernel) (by kernel_rfl) ?_; cbv) | (refine Pv.LenK.intro ?_; intro _ _ _; cbv) | (refine Pv.LenNK.intro ?_; intro _ _ _; cbv) | (refine Pv.BinK.lssT (by omega) ?_; cbv) | (refine Pv.BinK.lssF (by omega) ?_; cbv) | (refine Pv.BinK.leqT (by omega) ?_; cbv) | (refine Pv.BinK.leqF (by omega) ?_; cbv) | (refine Pv.BinK.gtrT (by omega) ?_; cbv) | (refine Pv.BinK.gtrF (by omega) ?_; cbv) | (refine Pv.BinK.geqT (by omega) ?_; cbv) | (refine Pv.BinK.geqF (by omega) ?_; cbv) | (refine Pv.BinK.eqlT (by omega) ?_; cbv) | (refine Pv.BinK.eqlF (by omega) ?_; cbv) | (refine Pv.BinK.neqT (by omega) ?_; cbv) | (refine Pv.BinK.neqF (by omega) ?_; cbv) | (refine Pv.BinK.add (by omega) ?_; intro _ _; cbv) | (refine Pv.BinK.sub (by omega) ?_; intro _ _; cbv) | (refine Pv.RegK.go ?_; cbv)))
      rename_i r1 hr1 r2 hr2
      have hv2 := hnext r2 r1 E2 hr2 hr1 (by rw [hE2]; rfl)
      have hE2i := hEi _ _ _ hv2
      refine RoundK.forget (r2, r1, E2) hv2 ?_ rfl rfl ?_ ?_
      · show ks.length - r2.toNat < N
        omega
      · simp [idbL, idb, hLi, hKi]
      · simp [cellIdb, idbL, idb, hLi, hKi, hE2i]
    · rw [if_neg (by omega)] at hWi
      have hsame := rowW_same (m := m) hWl ht hWi
      rw [hsame, ← hE1] at hstep
      have hEi : ∀ q, idbL q E1 = true := fun q => by rw [hE1]; exact rowW_idb ..
      have hnext := fun i2 y2 e1 e2 => hstep i2 y2 E1 e1 (hnt2 ▸ e2) rfl
      clear hct hstep hWi hsame
      obtain ⟨k0, n0, m0, L0, K0, f0, i0, j0⟩ := c4_node t
      rw [f0] at hpt2 hK cNt
      refine IdxK.intro hi0 hK ?_
      cbv
      (repeat' (first | (refine Pv.StatK.go (by kernel_rfl) (by kernel_rfl) ?_; cbv) | (refine Pv.DrawK.go 0 (by decide +kernel) ?_; cbv) | (refine Pv.DrawK.go 1 (by decide +kernel) ?_; cbv) | (refine Pv.DrawK.go 2 (by decide +kernel) ?_; cbv) | (refine Pv.LineK.go 0 (by decide +kernel) (by kernel_rfl) ?_; cbv) | (refine Pv.LineK.go 1 (by decide +kernel) (by kernel_rfl) ?_; cbv) | (refine Pv.LenK.intro ?_; intro _ _ _; cbv) | (refine Pv.LenNK.intro ?_; intro _ _ _; cbv) | (refine Pv.BinK.lssT (by omega) ?_; cbv) | (refine Pv.BinK.lssF (by omega) ?_; cbv) | (refine Pv.BinK.leqT (by omega) ?_; cbv) | (refine Pv.BinK.leqF (by omega) ?_; cbv) | (refine Pv.BinK.gtrT (by omega) ?_; cbv) | (refine Pv.BinK.gtrF (by omega) ?_; cbv) | (refine Pv.BinK.geqT (by omega) ?_; cbv) | (refine Pv.BinK.geqF (by omega) ?_; cbv) | (refine Pv.BinK.eqlT (by omega) ?_; cbv) | (refine Pv.BinK.eqlF (by omega) ?_; cbv) | (refine Pv.BinK.neqT (by omega) ?_; cbv) | (refine Pv.BinK.neqF (by omega) ?_; cbv) | (refine Pv.BinK.add (by omega) ?_; intro _ _; cbv) | (refine Pv.BinK.sub (by omega) ?_; intro _ _; cbv) | (refine Pv.RegK.go ?_; cbv)))
      refine CallK.one cNt (cons_pure hpt2 rfl) rfl ?_
      cbv
      (repeat' (first | (refine Pv.StatK.go (by kernel_rfl) (by kernel_rfl) ?_; cbv) | (refine Pv.DrawK.go 0 (by decide +kernel) ?_; cbv) | (refine Pv.DrawK.go 1 (by decide +kernel) ?_; cbv) | (refine Pv.DrawK.go 2 (by decide +kernel) ?_; cbv) | (refine Pv.LineK.go 0 (by decide +kernel) (by kernel_rfl) ?_; cbv) | (refine Pv.LineK.go 1 (by decide +kernel) (by kernel_rfl) ?_; cbv) | (refine Pv.LenK.intro ?_; intro _ _ _; cbv) | (refine Pv.LenNK.intro ?_; intro _ _ _; cbv) | (refine Pv.BinK.lssT (by omega) ?_; cbv) | (refine Pv.BinK.lssF (by omega) ?_; cbv) | (refine Pv.BinK.leqT (by omega) ?_; cbv) | (refine Pv.BinK.leqF (by omega) ?_; cbv) | (refine Pv.BinK.gtrT (by omega) ?_; cbv) | (refine Pv.BinK.gtrF (by omega) ?_; cbv) | (refine Pv.BinK.geqT (by omega) ?_; cbv) | (refine Pv.BinK.geqF (by omega) ?_; cbv) | (refine Pv.BinK.eqlT (by omega) ?_; cbv) | (refine Pv.BinK.eqlF (by omega) ?_; cbv) | (refine Pv.BinK.neqT (by omega) ?_; cbv) | (refine Pv.BinK.neqF (by omega) ?_; cbv) | (refine Pv.BinK.add (by omega) ?_; intro _ _; cbv) | (refine Pv.BinK.sub (by omega) ?_; intro _ _; cbv) | (refine Pv.RegK.go ?_; cbv)))
      refine BinK.geq ?_ ?_ <;> intro hge <;> cbv <;> (repeat' (first | (refine Pv.StatK.go (by kernel_rfl) (by kernel_rfl) ?_; cbv) | (refine Pv.DrawK.go 0 (by decide +kernel) ?_; cbv) | (refine Pv.DrawK.go 1 (by decide +kernel) ?_; cbv) | (refine Pv.DrawK.go 2 (by decide +kernel) ?_; cbv) | (refine Pv.LineK.go 0 (by decide +kernel) (by kernel_rfl) ?_; cbv) | (refine Pv.LineK.go 1 (by decide +kernel) (by kernel_rfl) ?_; cbv) | (refine Pv.LenK.intro ?_; intro _ _ _; cbv) | (refine Pv.LenNK.intro ?_; intro _ _ _; cbv) | (refine Pv.BinK.lssT (by omega) ?_; cbv) | (refine Pv.BinK.lssF (by omega) ?_; cbv) | (refine Pv.BinK.leqT (by omega) ?_; cbv) | (refine Pv.BinK.leqF (by omega) ?_; cbv) | (refine Pv.BinK.gtrT (by omega) ?_; cbv) | (refine Pv.BinK.gtrF (by omega) ?_; cbv) | (refine Pv.BinK.geqT (by omega) ?_; cbv) | (refine Pv.BinK.geqF (by omega) ?_; cbv) | (refine Pv.BinK.eqlT (by omega) ?_; cbv) | (refine Pv.BinK.eqlF (by omega) ?_; cbv) | (refine Pv.BinK.neqT (by omega) ?_; cbv) | (refine Pv.BinK.neqF (by omega) ?_; cbv) | (refine Pv.BinK.add (by omega) ?_; intro _ _; cbv) | (refine Pv.BinK.sub (by omega) ?_; intro _ _; cbv) | (refine Pv.RegK.go ?_; cbv)))
      all_goals
        rename_i r1 hr1 r2 hr2
        refine RoundK.forget (r2, r1, E1) (hnext r2 r1 hr2 hr1) ?_ rfl rfl ?_ ?_
        · show ks.length - r2.toNat < N
          omega
        · simp [idbL, idb, hLi, hKi, i0, j0]
        · simp [cellIdb, idbL, idb, hLi, hKi, i0, j0, hEi]
  · have hend : i.toNat = ks.length := by omega
    have hE1 := hv.row
    rw [hend] at hE1
    subst hnk
    rw [hKl]
    exact ⟨hQ m _ 3 (by rw [← hE1]; rfl)⟩
set_option maxRecDepth 20000 in
set_option maxHeartbeats 4000000 in
theorem rcut_zero (t : Ty5) : CP (TT ()) 11 [tyD t, .raw (.int .i64 0)] (· = cutR2 t 0) := by
  have hn := nodes_one t
  have e : cutR2 t 0 = .tup [tyD dynT, .raw (.bool true)] := by
    unfold cutR2 cutR cutB
    rw [if_pos ⟨by omega, by show 0 < _; omega⟩, decide_eq_true ⟨by omega, by show 0 < _; omega⟩, show (0 : Int).toNat = 0 from rfl, cut_zero]
  rw [e]
  have cD := dyn4_cp
  have hd := ty_pure dynT
  have hd2 : pureD (.tup [tyD dynT, .raw (.bool true)]) = some (.tup [tyD dynT, .raw (.bool true)]) := by simp [pureD, pureL, hd]
  refine c4_runW hd2 fun Q hQ => ?_
  have hQ := fun h' => hQ _ h' (.refl _)
  generalize dynT = d at cD hd hd2 hQ
  obtain ⟨k0, n0, m0, L0, K0, f0, _, _⟩ := c4_node t
  obtain ⟨k1, n1, m1, L1, K1, f1, _, _⟩ := c4_node d
  rw [f0]
  rw [f1] at cD hd hQ
  cbv
  (repeat' (first | (refine Pv.StatK.go (by kernel_rfl) (by kernel_rfl) ?_; cbv) | (refine Pv.DrawK.go 0 (by decide +kernel) ?_; cbv) | (refine Pv.DrawK.go 1 (by decide +kernel) ?_; cbv) | (refine Pv.DrawK.go 2 (by decide +kernel) ?_; cbv) | (refine Pv.LineK.go 0 (by decide +kernel) (by kernel_rfl) ?_; cbv) | (refine Pv.LineK.go 1 (by decide +kernel) (by kernel_rfl) ?_; cbv) | (refine Pv.LenK.intro ?_; intro _ _ _; cbv) | (refine Pv.LenNK.intro ?_; intro _ _ _; cbv) | (refine Pv.BinK.lssT (by omega) ?_; cbv) | (refine Pv.BinK.lssF (by omega) ?_; cbv) | (refine Pv.BinK.leqT (by omega) ?_; cbv) | (refine Pv.BinK.leqF (by omega) ?_; cbv) | (refine Pv.BinK.gtrT (by omega) ?_; cbv) | (refine Pv.BinK.gtrF (by omega) ?_; cbv) | (refine Pv.BinK.geqT (by omega) ?_; cbv) | (refine Pv.BinK.geqF (by omega) ?_; cbv) | (refine Pv.BinK.eqlT (by omega) ?_; cbv) | (refine Pv.BinK.eqlF (by omega) ?_; cbv) | (refine Pv.BinK.neqT (by omega) ?_; cbv) | (refine Pv.BinK.neqF (by omega) ?_; cbv) | (refine Pv.BinK.add (by omega) ?_; intro _ _; cbv) | (refine Pv.BinK.sub (by omega) ?_; intro _ _; cbv) | (refine Pv.RegK.go ?_; cbv)))
  first | refine CallK.one cD rfl hd ?_ | refine PCallK.one cD rfl hd ?_
  cbv
  (repeat' (first | (refine Pv.StatK.go (by kernel_rfl) (by kernel_rfl) ?_; cbv) | (refine Pv.DrawK.go 0 (by decide +kernel) ?_; cbv) | (refine Pv.DrawK.go 1 (by decide +kernel) ?_; cbv) | (refine Pv.DrawK.go 2 (by decide +kernel) ?_; cbv) | (refine Pv.LineK.go 0 (by decide +kernel) (by kernel_rfl) ?_; cbv) | (refine Pv.LineK.go 1 (by decide +kernel) (by kernel_rfl) ?_; cbv) | (refine Pv.LenK.intro ?_; intro _ _ _; cbv) | (refine Pv.LenNK.intro ?_; intro _ _ _; cbv) | (refine Pv.BinK.lssT (by omega) ?_; cbv) | (refine Pv.BinK.lssF (by omega) ?_; cbv) | (refine Pv.BinK.leqT (by omega) ?_; cbv) | (refine Pv.BinK.leqF (by omega) ?_; cbv) | (refine Pv.BinK.gtrT (by omega) ?_; cbv) | (refine Pv.BinK.gtrF (by omega) ?_; cbv) | (refine Pv.BinK.geqT (by omega) ?_; cbv) | (refine Pv.BinK.geqF (by omega) ?_; cbv) | (refine Pv.BinK.eqlT (by omega) ?_; cbv) | (refine Pv.BinK.eqlF (by omega) ?_; cbv) | (refine Pv.BinK.neqT (by omega) ?_; cbv) | (refine Pv.BinK.neqF (by omega) ?_; cbv) | (refine Pv.BinK.add (by omega) ?_; intro _ _; cbv) | (refine Pv.BinK.sub (by omega) ?_; intro _ _; cbv) | (refine Pv.RegK.go ?_; cbv)))
  exact ⟨hQ _⟩
set_option maxRecDepth 20000 in
set_option maxHeartbeats 4000000 in
theorem rcut_off (t : Ty5) (ho : okT t) (hn : nodesT t ≤ 1000000) (z : Int) (hz : z < 0 ∨ (0 < z ∧ nodesT t ≤ z.toNat)) : CP (TT ()) 11 [tyD t, .raw (.int .i64 z)] (· = cutR2 t z) := by
  have e : cutR2 t z = .tup [tyD ty0, .raw (.bool false)] := by
    unfold cutR2 cutR cutB
    rw [if_neg (by omega), decide_eq_false (by omega)]
  rw [e]
  have cN := nodesq_cp t ho hn
  have hpt := ty_pure t
  refine c4_runW (by simp [pureD, pureL, ty_pure]) fun Q hQ => ?_
  have hQ : ∀ h', Q (.tup [.agg [.raw (.int .i64 0), .raw (.int .i64 0), .raw (.string ⟨#[]⟩), .raw (.slice none 0 0), .raw (.slice none 0 0)], .raw (.bool false)]) h' := fun h' => hQ _ h' (.tup (.cons (.agg (.cons (.refl _) (.cons (.refl _) (.cons (.refl _) (.cons (nil_any 1) (.cons (nil_any 5) .nil)))))) (.refl _)))
  have hz2 : z < 0 ∨ (0 < z ∧ ((nodesT t : Nat) : Int) ≤ z) := by omega
  clear hz e
  generalize ((nodesT t : Nat) : Int) = nn at cN hz2
  obtain ⟨k0, n0, m0, L0, K0, f0, _, _⟩ := c4_node t
  rw [f0] at cN hpt
  rw [f0]
  rcases hz2 with hz2 | hz2
  · cbv
    (repeat' (first | (refine Pv.StatK.go (by kernel_rfl) (by kernel_rfl) ?_; cbv) | (refine Pv.DrawK.go 0 (by decide +kernel) ?_; cbv) | (refine Pv.DrawK.go 1 (by decide +kernel) ?_; cbv) | (refine Pv.DrawK.go 2 (by decide +kernel) ?_; cbv) | (refine Pv.LineK.go 0 (by decide +kernel) (by kernel_rfl) ?_; cbv) | (refine Pv.LineK.go 1 (by decide +kernel) (by kernel_rfl) ?_; cbv) | (refine Pv.LenK.intro ?_; intro _ _ _; cbv) | (refine Pv.LenNK.intro ?_; intro _ _ _; cbv) | (refine Pv.BinK.lssT (by omega) ?_; cbv) | (refine Pv.BinK.lssF (by omega) ?_; cbv) | (refine Pv.BinK.leqT (by omega) ?_; cbv) | (refine Pv.BinK.leqF (by omega) ?_; cbv) | (refine Pv.BinK.gtrT (by omega) ?_; cbv) | (refine Pv.BinK.gtrF (by omega) ?_; cbv) | (refine Pv.BinK.geqT (by omega) ?_; cbv) | (refine Pv.BinK.geqF (by omega) ?_; cbv) | (refine Pv.BinK.eqlT (by omega) ?_; cbv) | (refine Pv.BinK.eqlF (by omega) ?_; cbv) | (refine Pv.BinK.neqT (by omega) ?_; cbv) | (refine Pv.BinK.neqF (by omega) ?_; cbv) | (refine Pv.BinK.add (by omega) ?_; intro _ _; cbv) | (refine Pv.BinK.sub (by omega) ?_; intro _ _; cbv) | (refine Pv.RegK.go ?_; cbv)))
    exact ⟨hQ _⟩
  · cbv
    (repeat' (first | (refine Pv.StatK.go (by kernel_rfl) (by kernel_rfl) ?_; cbv) | (refine Pv.DrawK.go 0 (by decide +kernel) ?_; cbv) | (refine Pv.DrawK.go 1 (by decide +kernel) ?_; cbv) | (refine Pv.DrawK.go 2 (by decide +kernel) ?_; cbv) | (refine Pv.LineK.go 0 (by decide +kernel) (by kernel_rfl) ?_; cbv) | (refine Pv.LineK.go 1 (by decide +kernel) (by kernel_rfl) ?_; cbv) | (refine Pv.LenK.intro ?_; intro _ _ _; cbv) | (refine Pv.LenNK.intro ?_; intro _ _ _; cbv) | (refine Pv.BinK.lssT (by omega) ?_; cbv) | (refine Pv.BinK.lssF (by omega) ?_; cbv) | (refine Pv.BinK.leqT (by omega) ?_; cbv) | (refine Pv.BinK.leqF (by omega) ?_; cbv) | (refine Pv.BinK.gtrT (by omega) ?_; cbv) | (refine Pv.BinK.gtrF (by omega) ?_; cbv) | (refine Pv.BinK.geqT (by omega) ?_; cbv) | (refine Pv.BinK.geqF (by omega) ?_; cbv) | (refine Pv.BinK.eqlT (by omega) ?_; cbv) | (refine Pv.BinK.eqlF (by omega) ?_; cbv) | (refine Pv.BinK.neqT (by omega) ?_; cbv) | (refine Pv.BinK.neqF (by omega) ?_; cbv) | (refine Pv.BinK.add (by omega) ?_; intro _ _; cbv) | (refine Pv.BinK.sub (by omega) ?_; intro _ _; cbv) | (refine Pv.RegK.go ?_; cbv)))
    refine CallK.one cN (cons_pure hpt rfl) rfl ?_
    cbv
    (repeat' (first | (refine Pv.StatK.go (by kernel_rfl) (by kernel_rfl) ?_; cbv) | (refine Pv.DrawK.go 0 (by decide +kernel) ?_; cbv) | (refine Pv.DrawK.go 1 (by decide +kernel) ?_; cbv) | (refine Pv.DrawK.go 2 (by decide +kernel) ?_; cbv) | (refine Pv.LineK.go 0 (by decide +kernel) (by kernel_rfl) ?_; cbv) | (refine Pv.LineK.go 1 (by decide +kernel) (by kernel_rfl) ?_; cbv) | (refine Pv.LenK.intro ?_; intro _ _ _; cbv) | (refine Pv.LenNK.intro ?_; intro _ _ _; cbv) | (refine Pv.BinK.lssT (by omega) ?_; cbv) | (refine Pv.BinK.lssF (by omega) ?_; cbv) | (refine Pv.BinK.leqT (by omega) ?_; cbv) | (refine Pv.BinK.leqF (by omega) ?_; cbv) | (refine Pv.BinK.gtrT (by omega) ?_; cbv) | (refine Pv.BinK.gtrF (by omega) ?_; cbv) | (refine Pv.BinK.geqT (by omega) ?_; cbv) | (refine Pv.BinK.geqF (by omega) ?_; cbv) | (refine Pv.BinK.eqlT (by omega) ?_; cbv) | (refine Pv.BinK.eqlF (by omega) ?_; cbv) | (refine Pv.BinK.neqT (by omega) ?_; cbv) | (refine Pv.BinK.neqF (by omega) ?_; cbv) | (refine Pv.BinK.add (by omega) ?_; intro _ _; cbv) | (refine Pv.BinK.sub (by omega) ?_; intro _ _; cbv) | (refine Pv.RegK.go ?_; cbv)))
    exact ⟨hQ _⟩
theorem rcut_cp : ∀ (t : Ty5), nodesT t ≤ 1000000 → okT t → ∀ z : Int, -9223372036854775808 ≤ z → z ≤ 9223372036854775807 → CP (TT ()) 11 [tyD t, .raw (.int .i64 z)] (· = cutR2 t z) := by
  refine ty_ind fun k n nm ls ks ih hn ho z h0 h1 => ?_
  by_cases hz0 : z = 0
  · subst hz0
    exact rcut_zero _
  by_cases hin : 0 < z ∧ z.toNat < nodesT (.mk k n nm ls ks)
  rotate_left
  · exact rcut_off _ ho hn z (by omega)
  have hkn : ks.length ≤ nodesL ks := nodesL_len ks
  have hnode : nodesT (.mk k n nm ls ks) = 1 + nodesL ks := by simp only [nodesT]
  have c : CW (TT ()) 11 [tyD (.mk k n nm ls ks), .raw (.int .i64 z)] [] fun d h' => ∃ m id, h'[id]? = some (.box 25 (rowW (cutL ks (z.toNat - 1)) ks m ks.length).flatten) ∧ d = .tup [.agg [.raw (.int .i64 k), .raw (.int .i64 n), .raw (.string nm), .sl none 1 (ls.map strD), .ms id 0 ks.length], .raw (.bool true)] :=
    wfun_ok (T := TT) (by kernel_rfl) (rcut_run k n nm ls ks z hin.1 ho hin.2 (by omega) hn (fun t ht y g0 g1 => ih t ht (by have := nodesL_mem ht; omega) (okL_get ho.2.2 t ht) y (by omega) g1) _ fun m h' id hid => ⟨m, id, hid, rfl⟩)
  refine (c.conv (R := fun d _ => d = cutR2 (.mk k n nm ls ks) z) ?_).cp fun d h' h => ⟨d, by rw [h]; exact cutR2_pure _ _, h⟩
  rintro d h' ⟨m, id, h, rfl⟩
  refine ⟨_, h'.set id .dead, fun C w v s r => ?_, rfl⟩
  obtain ⟨C', f', s', hr⟩ := row_still s (n := ks.length) h (rowW_row _ ks m ks.length) (tysD (cutL ks (z.toNat - 1))) (rowW_done (cutL_len _ _)) (by rw [tys_len, cutL_len])
  refine ⟨C', f', s', ?_⟩
  have e2 : cutR2 (.mk k n nm ls ks) z = .tup [tyD (.mk k n nm ls (cutL ks (z.toNat - 1))), .raw (.bool true)] := by
    unfold cutR2 cutR cutB
    rw [if_pos ⟨by omega, hin.2⟩, decide_eq_true ⟨by omega, hin.2⟩, cut_succ (by omega)]
  rw [e2]
  obtain ⟨vs, rfl, a0, s0, rfl, ⟨vs', rfl, r⟩, b0, t0, rfl, r9, r10⟩ := r
  simp only [RdL] at r10
  subst r10
  obtain ⟨u0, r0, rfl, q0, u1, r1, rfl, q1, u2, r2, rfl, q2, u3, r3, rfl, q3, u4, r4, rfl, q4, q5⟩ := r
  simp only [RdL] at q5
  subst q5
  exact ⟨_, rfl, _, _, rfl, ⟨_, rfl, u0, _, rfl, q0.mono f'.toEv, u1, _, rfl, q1.mono f'.toEv, u2, _, rfl, q2.mono f'.toEv, u3, _, rfl, q3.mono f'.toEv, u4, _, rfl, hr _ q4, rfl⟩, _, _, rfl, r9.mono f'.toEv, rfl⟩
end Go.Proofs.Ytlklpangckkkaaa
