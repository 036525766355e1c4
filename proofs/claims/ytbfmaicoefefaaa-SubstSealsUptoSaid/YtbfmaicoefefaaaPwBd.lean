/- Bindings as data, and as parameters; how much types and bindings hold. -/
import Derived.Test.YtbfmaicoefefaaaPwY
import Derived.Test.YtbfmaicoefefaaaSbM
set_option linter.unusedSimpArgs false
set_option linter.unusedVariables false
namespace Go.Proofs.Ytbfmaicoefefaaa
open Go.RowKit Pv
set_option maxRecDepth 100000
/-- A binding, as data. -/
def bnD : Bd → D
  | (bn, .mk k n nm ls ks) => .agg [.raw (.string bn), .raw (.int .i64 k), .raw (.int .i64 n), .raw (.string nm), .sl none 1 (ls.map strD), .sl none 5 (tysD ks)]
def bnsD (m : List Bd) : List D := m.map bnD
theorem bn_node (p : Bd) : ∃ k n nm L K, bnD p = .agg [.raw (.string p.1), .raw (.int .i64 k), .raw (.int .i64 n), .raw (.string nm), .sl none 1 L, .sl none 5 K] ∧ tyD p.2 = .agg [.raw (.int .i64 k), .raw (.int .i64 n), .raw (.string nm), .sl none 1 L, .sl none 5 K] ∧ (∀ m, idbL m L = true) ∧ ∀ m, idbL m K = true := by
  obtain ⟨bn, k, n, nm, ls, ks⟩ := p
  exact ⟨k, n, nm, _, _, rfl, rfl, fun m => pure_idbL m _ (strs_pure ls), fun m => pure_idbL m _ (tys_pure ks)⟩
theorem bn_pure (p : Bd) : pureD (bnD p) = some (bnD p) := by
  obtain ⟨bn, k, n, nm, ls, ks⟩ := p
  simp [bnD, pureD, pureL, strs_pure ls, tys_pure ks]
theorem bns_pure : ∀ m : List Bd, pureL (bnsD m) = some (bnsD m)
  | [] => rfl
  | p :: r => by
    have := bns_pure r
    unfold bnsD at this ⊢
    simp only [List.map_cons, pureL, bn_pure p, this]
theorem bns_len (m : List Bd) : (bnsD m).length = m.length := List.length_map ..
theorem bns_idb (m : List Bd) : ∀ k, idbL k (bnsD m) = true := fun k => pure_idbL k _ (bns_pure m)
theorem bns_at {m : List Bd} {i : Nat} (h : i < m.length) : ∃ p, m[i]? = some p ∧ (bnsD m)[i]? = some (bnD p) :=
  ⟨m[i], List.getElem?_eq_getElem h, by unfold bnsD; rw [List.getElem?_map, List.getElem?_eq_getElem h]; rfl⟩
theorem tys_at {ks : List Ty5} {i : Nat} (h : i < ks.length) : ∃ t, ks[i]? = some t ∧ (tysD ks)[i]? = some (tyD t) :=
  ⟨ks[i], List.getElem?_eq_getElem h, by rw [tysD_map, List.getElem?_map, List.getElem?_eq_getElem h]; rfl⟩
theorem tys_len (ks : List Ty5) : (tysD ks).length = ks.length := by simp [tysD_map]
theorem tys_idb (ks : List Ty5) : ∀ k, idbL k (tysD ks) = true := fun k => pure_idbL k _ (tys_pure ks)
theorem strs_at {ls : List ByteArray} {i : Nat} (h : i < ls.length) : ∃ s, ls[i]? = some s ∧ (ls.map strD)[i]? = some (strD s) :=
  ⟨ls[i], List.getElem?_eq_getElem h, by rw [List.getElem?_map, List.getElem?_eq_getElem h]; rfl⟩
theorem strs_idb (ls : List ByteArray) : ∀ k, idbL k (ls.map strD) = true := fun k => pure_idbL k _ (strs_pure ls)
/-- Bindings that fit. -/
def okB (m : List Bd) : Prop := ∀ p ∈ m, p.1.size ≤ maxLen ∧ okT p.2
theorem okL_from : ∀ {ks : List Ty5}, (∀ t ∈ ks, okT t) → okT.okL ks
  | [], _ => trivial
  | t :: r, h => ⟨h t (List.mem_cons_self ..), okL_from fun u hu => h u (List.mem_cons_of_mem _ hu)⟩
theorem okB_tys {m : List Bd} (h : okB m) : okT.okL (m.map Prod.snd) := okL_from fun t ht => by
  obtain ⟨p, hp, rfl⟩ := List.mem_map.1 ht
  exact (h p hp).2
theorem okL_at {ks : List Ty5} (h : okT.okL ks) {t : Ty5} (ht : t ∈ ks) : okT t := okL_get h t ht
mutual
theorem tr_ok {f : NodeF} (hf : ∀ k n nm u, f k n nm = some u → okT u) : ∀ t : Ty5, okT t → okT (trT f t)
  | .mk k n nm ls ks, h => by
    rcases he : f k n nm with _ | u
    · rw [tr_none he, ← trL_map]
      exact ⟨h.1, h.2.1, tr_okL hf ks h.2.2⟩
    · rw [tr_some he]
      exact hf _ _ _ _ he
theorem tr_okL {f : NodeF} (hf : ∀ k n nm u, f k n nm = some u → okT u) : ∀ ks : List Ty5, okT.okL ks → okT.okL (trL f ks)
  | [], _ => trivial
  | t :: r, h => ⟨tr_ok hf t h.1, tr_okL hf r h.2⟩
end
theorem put_ok {m : List Bd} (hm : okB m) {t : Ty5} (h : okT t) : okT (putT m t) := tr_ok (fun k n nm u e => by
  unfold putF at e
  split at e
  · obtain ⟨p, hp, _, rfl⟩ := findT_mem e
    exact (hm p hp).2
  · cases e) t h
theorem seal_ok {names : List ByteArray} {fr : Int} {t : Ty5} (h : okT t) : okT (sealT names fr t) := tr_ok (fun k n nm u e => by
  unfold sealF at e
  split at e
  · obtain ⟨i, _, rfl⟩ := Option.map_eq_some_iff.1 e
    exact ⟨by decide, fun s hs => (by cases hs), trivial⟩
  · cases e) t h
theorem open_ok {l : List Ty5} (hl : okT.okL l) {fr : Int} {t : Ty5} (h : okT t) : okT (openT fr l t) := tr_ok (fun k n nm u e => by
  unfold openF nth? at e
  split at e
  · split at e
    · exact okL_get hl u (List.mem_of_getElem? e)
    · cases e
  · cases e) t h
theorem fit_ok {t : Ty5} (h : okT t) : okT (fitT t) := by
  unfold fitT
  split
  · exact h
  · exact ⟨by decide, fun s hs => (by cases hs), trivial⟩
/-! ### How much they hold -/
theorem strsD_bulk : ∀ ls : List ByteArray, bulkL (ls.map strD) = szS ls
  | [] => rfl
  | s :: r => by
    have := strsD_bulk r
    simp only [List.map_cons, strD, bulkL, bulkD, szS]
    omega
mutual
theorem tyD_bulk : ∀ t : Ty5, szT t ≤ bulkD (tyD t)
  | .mk k n nm ls ks => by
    have h1 := tysD_bulk ks
    have h2 := strsD_bulk ls
    simp only [szT, tyD, bulkD, bulkL]
    omega
theorem tysD_bulk : ∀ ks : List Ty5, szL ks ≤ bulkL (tysD ks)
  | [] => Nat.zero_le _
  | t :: r => by
    have h1 := tyD_bulk t
    have h2 := tysD_bulk r
    simp only [szL, tysD, bulkL]
    omega
end
theorem bn_bulk (p : Bd) : p.1.size + szT p.2 ≤ bulkD (bnD p) := by
  obtain ⟨bn, k, n, nm, ls, ks⟩ := p
  have h := tyD_bulk (.mk k n nm ls ks)
  simp only [tyD, bulkD, bulkL] at h
  simp only [bnD, bulkD, bulkL]
  omega
theorem bns_bulk {m : List Bd} {B : Nat} (h : bulkD (.sl none 6 (bnsD m)) ≤ B) : ∀ p ∈ m, p.1.size ≤ B ∧ szT p.2 ≤ B := fun p hp => by
  have h1 := bulk_mem (List.mem_map_of_mem (f := bnD) hp)
  have h2 := bn_bulk p
  simp only [bulkD] at h
  unfold bnsD at h
  omega
/-! ### Parameters -/
theorem cellsOf_bnd : Try.prog.cellsOf 53 = 6 := by kernel_rfl
theorem has_bnd {n : Nat} {d : D} (h : Has Try.prog n 53 d) : ∃ p : Bd, d = bnD p ∧ p.1.size ≤ maxLen ∧ okT p.2 := by
  obtain ⟨m, xs, rfl, rfl, hl, hx⟩ := h.struct Try.underlying53
  match xs, hl with
  | [x0, x1], _ =>
    obtain ⟨bn, rfl, hbn⟩ := (hx 0 _ x0 rfl rfl).str Try.underlying9
    obtain ⟨t, rfl, ht⟩ := has_ty _ (hx 1 _ x1 rfl rfl)
    obtain ⟨k, n, nm, ls, ks⟩ := t
    exact ⟨(bn, .mk k n nm ls ks), rfl, hbn, ht⟩
theorem bnds_of : ∀ {ds : List D}, (∀ x ∈ ds, ∃ p : Bd, x = bnD p ∧ p.1.size ≤ maxLen ∧ okT p.2) → ∃ m : List Bd, ds = bnsD m ∧ okB m
  | [], _ => ⟨[], rfl, fun p h => by cases h⟩
  | x :: r, h => by
    obtain ⟨m, h1, h2⟩ := bnds_of (ds := r) fun y hy => h y (List.mem_cons_of_mem _ hy)
    obtain ⟨p, rfl, hp⟩ := h x (List.mem_cons_self ..)
    refine ⟨p :: m, by rw [h1]; rfl, fun q hq => ?_⟩
    rcases List.mem_cons.1 hq with rfl | hq
    · exact hp
    · exact h2 q hq
theorem has_bnds {n : Nat} {d : D} (h : Has Try.prog n 40 d) : ∃ m : List Bd, d = .sl none 6 (bnsD m) ∧ m.length ≤ maxLen ∧ okB m := by
  obtain ⟨m, ds, _, rfl, hl, hds⟩ := h.slice Try.underlying40
  obtain ⟨bs, rfl, hbs⟩ := bnds_of fun x hx => has_bnd (hds x hx)
  rw [cellsOf_bnd]
  exact ⟨bs, rfl, by simpa [bns_len] using hl, hbs⟩
end Go.Proofs.Ytbfmaicoefefaaa
