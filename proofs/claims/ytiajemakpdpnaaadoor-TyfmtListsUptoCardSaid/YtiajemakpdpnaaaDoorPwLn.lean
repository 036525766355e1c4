/- How long a type's text can be. -/
import Derived.Test.YtiajemakpdpnaaaDoorPwSw
import Derived.Lib.ItoaLen
namespace Go.Proofs.YtiajemakpdpnaaaDoor
open Go.RowKit Pv
theorem ln_szS_app : ∀ a b : List ByteArray, szS (a ++ b) = szS a + szS b
  | [], b => by simp [szS]
  | s :: r, b => by simp only [List.cons_append, szS, ln_szS_app r b]; omega
theorem ln_szL_app : ∀ a b : List Ty5, szL (a ++ b) = szL a + szL b
  | [], b => by simp [szL]
  | s :: r, b => by simp only [List.cons_append, szL, ln_szL_app r b]; omega
theorem ln_szS_take {ls : List ByteArray} {j : Nat} (h : j < ls.length) : szS (ls.take (j + 1)) = szS (ls.take j) + (stAt ls j).size + 1 := by
  rw [List.take_add_one, ln_szS_app, List.getElem?_eq_getElem h, stAt_get h]
  simp only [Option.toList_some, szS]
  omega
theorem ln_szL_take {ks : List Ty5} {j : Nat} {t : Ty5} (h : ks[j]? = some t) : szL (ks.take (j + 1)) = szL (ks.take j) + szT t := by
  rw [List.take_add_one, ln_szL_app, h]
  simp only [Option.toList_some, szL]
  omega
theorem rec_len (ls : List ByteArray) (ks : List Ty5) (hl : ls.length = ks.length) (hall : ∀ t ∈ ks, (showT t).length ≤ 32 * szT t) : ∀ j : Nat, j ≤ ks.length → (recX [123] ls (ks.map showT) j).length ≤ 1 + 32 * (szS (ls.take j) + szL (ks.take j))
  | 0, _ => by simp [recX]
  | j + 1, h => by
    have ih := rec_len ls ks hl hall j (by omega)
    obtain ⟨t, ht⟩ : ∃ t, ks[j]? = some t := ⟨_, List.getElem?_eq_getElem (by omega)⟩
    have hx : (ks.map showT).getD j [] = showT t := by rw [List.getD_eq_getElem?_getD, List.getElem?_map, ht]; rfl
    have ha := hall t (List.mem_of_getElem? ht)
    have hy : (recY [123] ls (ks.map showT) j).length ≤ (recX [123] ls (ks.map showT) j).length + 2 := by
      unfold recY
      split
      · rename_i h0; subst h0; simp [recX]
      · simp
    rw [recX_succ, ln_szS_take (by omega), ln_szL_take ht, hx]
    simp only [List.length_append, List.length_cons, List.length_nil, size_list]
    omega
mutual
theorem show_len : ∀ t : Ty5, rightT varB risingB t = true → (showT t).length ≤ 32 * szT t
  | .mk k n nm ls ks, hR => by
    simp only [rightT, Bool.and_eq_true] at hR
    have hall := show_lens ks hR.1
    have hhead := head_cases hR.2
    simp only [showT, showL_map, szT]
    rcases hhead with ⟨h1, h5⟩ | rfl | ⟨rfl, h0, h9⟩ | ⟨rfl, hlen⟩ | ⟨rfl, hlen⟩
    · rcases (by omega : k = 1 ∨ k = 2 ∨ k = 3 ∨ k = 4 ∨ k = 5) with rfl | rfl | rfl | rfl | rfl <;> simp only [combT] <;> simp <;> omega
    · have e : combT 6 n nm ls (ks.map kT) (ks.map showT) = nm.data.toList := rfl
      rw [e, size_list]
      omega
    · have e : combT 9 n nm ls (ks.map kT) (ks.map showT) = [35] ++ Lib.itoa n := rfl
      have := Lib.itoa_length_le n (by omega) (by omega)
      rw [e]
      simp only [List.length_append, List.length_cons, List.length_nil]
      omega
    · obtain ⟨a, b, rfl⟩ : ∃ a b, ks = [a, b] := by
        match ks, hlen with
        | [a, b], _ => exact ⟨a, b, rfl⟩
      have ha := hall a (by simp)
      have hb := hall b (by simp)
      have e : combT 7 n nm ls ([a, b].map kT) ([a, b].map showT) = (if kT a = 7 then [40] ++ showT a ++ [41] else showT a) ++ [32, 45, 62, 32] ++ showT b := rfl
      rw [e]
      simp only [szL]
      split <;> simp only [List.length_append, List.length_cons, List.length_nil] <;> omega
    · have e : combT 8 n nm ls (ks.map kT) (ks.map showT) = recX [123] ls (ks.map showT) (ks.map showT).length ++ [125] := rfl
      have h := rec_len ls ks hlen hall ks.length (Nat.le_refl _)
      rw [List.take_of_length_le (by omega), List.take_of_length_le (Nat.le_refl _)] at h
      rw [e]
      simp only [List.length_append, List.length_cons, List.length_nil, List.length_map]
      omega
theorem show_lens : ∀ ks : List Ty5, rightL varB risingB ks = true → ∀ t ∈ ks, (showT t).length ≤ 32 * szT t
  | [], _, t, h => by cases h
  | a :: r, hR, t, ht => by
    simp only [rightL, Bool.and_eq_true] at hR
    have ha := show_len a hR.1
    have hr := show_lens r hR.2
    rcases List.mem_cons.1 ht with e | ht
    · rw [e]; exact ha
    · exact hr t ht
end
theorem shT_len (t : Ty5) (hz : szT t ≤ 1048576) : (shT t).length ≤ 140737488355328 := by
  unfold shT
  split
  · rename_i h
    have := show_len t h
    omega
  · simp
end Go.Proofs.YtiajemakpdpnaaaDoor
