/- Bindings as parameters; how much types and bindings hold, as data. -/
import Derived.Test.YtiajemakpdpnaaaDoorPwY
import Derived.Test.YtiajemakpdpnaaaDoorPwBi
import Derived.Test.YtiajemakpdpnaaaDoorPwLn
namespace Go.Proofs.YtiajemakpdpnaaaDoor
open Go.RowKit Pv
theorem strs_bulk : ∀ ls : List ByteArray, bulkL (ls.map strD) = szS ls
  | [] => rfl
  | s :: r => by
    have := strs_bulk r
    simp only [List.map_cons, strD, bulkL, bulkD, szS]
    omega
mutual
theorem ty_bulk : ∀ t : Ty5, szT t ≤ bulkD (tyD t)
  | .mk k n nm ls ks => by
    have h1 := tys_bulk ks
    have h2 := strs_bulk ls
    simp only [szT, tyD, bulkD, bulkL]
    omega
theorem tys_bulk : ∀ ks : List Ty5, szL ks ≤ bulkL (tysD ks)
  | [] => Nat.zero_le _
  | t :: r => by
    have h1 := ty_bulk t
    have h2 := tys_bulk r
    simp only [szL, tysD, bulkL]
    omega
end
theorem bd_bulk (p : ByteArray × Ty5) : p.1.size + szT p.2 ≤ bulkD (bdD p) := by
  obtain ⟨bn, k, n, nm, ls, ks⟩ := p
  have h := ty_bulk (.mk k n nm ls ks)
  simp only [tyD, bulkD, bulkL] at h
  simp only [bdD, bindD, bulkD, bulkL]
  omega
theorem cellsOf_bind : Tryd.prog.cellsOf 32 = 6 := by kernel_rfl
theorem has_bind {n : Nat} {d : D} (h : Has Tryd.prog n 32 d) : ∃ p : ByteArray × Ty5, d = bdD p ∧ p.1.size ≤ maxLen ∧ okT p.2 := by
  obtain ⟨m, xs, rfl, rfl, hl, hx⟩ := h.struct Tryd.underlying32
  match xs, hl with
  | [x0, x1], _ =>
    obtain ⟨bn, rfl, hbn⟩ := (hx 0 _ x0 rfl rfl).str Tryd.underlying9
    obtain ⟨t, rfl, ht⟩ := has_ty _ (hx 1 _ x1 rfl rfl)
    obtain ⟨k, n, nm, ls, ks⟩ := t
    exact ⟨(bn, .mk k n nm ls ks), rfl, hbn, ht⟩
theorem bds_of : ∀ {ds : List D}, (∀ x ∈ ds, ∃ p : ByteArray × Ty5, x = bdD p ∧ p.1.size ≤ maxLen ∧ okT p.2) → ∃ bs : List (ByteArray × Ty5), ds = bs.map bdD ∧ ∀ p ∈ bs, p.1.size ≤ maxLen ∧ okT p.2
  | [], _ => ⟨[], rfl, fun p h => by cases h⟩
  | x :: r, h => by
    obtain ⟨bs, h1, h2⟩ := bds_of (ds := r) fun y hy => h y (List.mem_cons_of_mem _ hy)
    obtain ⟨p, rfl, hp⟩ := h x (List.mem_cons_self ..)
    refine ⟨p :: bs, by simp [h1], fun q hq => ?_⟩
    rcases List.mem_cons.1 hq with rfl | hq
    · exact hp
    · exact h2 q hq
theorem has_binds {n : Nat} {d : D} (h : Has Tryd.prog n 30 d) : ∃ bs : List (ByteArray × Ty5), d = .sl none 6 (bs.map bdD) ∧ bs.length ≤ maxLen ∧ ∀ p ∈ bs, p.1.size ≤ maxLen ∧ okT p.2 := by
  obtain ⟨m, ds, _, rfl, hl, hds⟩ := h.slice Tryd.underlying30
  obtain ⟨bs, rfl, hbs⟩ := bds_of fun x hx => has_bind (hds x hx)
  rw [cellsOf_bind]
  exact ⟨bs, rfl, by simpa using hl, hbs⟩
theorem binds_bulk {bs : List (ByteArray × Ty5)} {B : Nat} (h : bulkD (.sl none 6 (bs.map bdD)) ≤ B) : ∀ p ∈ bs, p.1.size ≤ B ∧ szT p.2 ≤ B := fun p hp => by
  have h1 := bulk_mem (List.mem_map_of_mem (f := bdD) hp)
  have h2 := bd_bulk p
  simp only [bulkD] at h
  omega
theorem okL_of' : ∀ {ks : List Ty5}, (∀ t ∈ ks, okT t) → okT.okL ks
  | [], _ => trivial
  | t :: r, h => ⟨h t (List.mem_cons_self ..), okL_of' fun u hu => h u (List.mem_cons_of_mem _ hu)⟩
theorem sh_len (t : Ty5) : (shT t).length ≤ 32 * szT t := by
  unfold shT
  split
  · rename_i h
    exact show_len t h
  · simp
theorem jX_len (e : Nat → List UInt8) (B : Nat) : ∀ n : Nat, (∀ j, j < n → (e j).length ≤ B) → (jX e n).length ≤ n * (B + 2)
  | 0, _ => by simp [jX]
  | n + 1, h => by
    have ih := jX_len e B n fun j hj => h j (by omega)
    have h1 := h n (by omega)
    have h2 : (jY e n).length ≤ (jX e n).length + 2 := by
      unfold jY
      split <;> simp
    rw [jX_succ, List.length_append, Nat.succ_mul]
    omega
end Go.Proofs.YtiajemakpdpnaaaDoor
