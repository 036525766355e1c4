/- Plain mathematics of the lexer: what is quoted is that text's token, alone; one of too many bytes is too long. -/
import Derived.Test.YtaebigakdfaogaaDoorLexAll
import Derived.Test.YtaebigakdfaogaaDoorLexQuo
import Derived.Test.YtaebigakdfaogaaDoorLexMO
namespace Go.Proofs.YtaebigakdfaogaaDoor
theorem hexD_dgt (n : Nat) (h : n < 16) : dgtI 16 ((hexD n).toNat : Int) = (n : Int) := by
  have : ∀ m : Fin 16, dgtI 16 ((hexD m.val).toNat : Int) = (m.val : Int) := by decide
  exact this ⟨n, h⟩
theorem bI_zero (c : UInt8) (x : List UInt8) : bI (c :: x) 0 = (c.toNat : Int) := rfl
theorem bI_one (a c : UInt8) (x : List UInt8) : bI (a :: c :: x) 1 = (c.toNat : Int) := rfl
theorem elem_quo (c : UInt8) (x : List UInt8) : elemE (quo1 c ++ x) = ((c.toNat : Int), ((quo1 c).length : Int)) := by
  unfold quo1
  by_cases h1 : ((c.toNat : Int) == 34 || (c.toNat : Int) == 92) = true
  · rw [if_pos h1]
    simp only [List.cons_append, List.nil_append]
    unfold elemE
    rw [bI_zero]
    rw [if_pos (by rfl)]
    unfold escE
    rw [if_neg (by simp), bI_one]
    simp only [Bool.or_eq_true] at h1
    rcases h1 with h1 | h1
    · rw [if_pos h1]
      have : (c.toNat : Int) = 34 := by simpa using h1
      rw [this]
      rfl
    · have : (c.toNat : Int) = 92 := by simpa using h1
      rw [this]
      rfl
  · rw [if_neg h1]
    have h34 : ((c.toNat : Int) == 34) = false := by simp only [Bool.or_eq_true, not_or] at h1; simpa using h1.1
    have h92 : ((c.toNat : Int) == 92) = false := by simp only [Bool.or_eq_true, not_or] at h1; simpa using h1.2
    by_cases h10 : ((c.toNat : Int) == 10) = true
    · rw [if_pos h10]
      have hc : (c.toNat : Int) = 10 := by simpa using h10
      rw [hc]
      simp only [List.cons_append, List.nil_append]
      unfold elemE
      rw [bI_zero, if_pos (by rfl)]
      unfold escE
      rw [if_neg (by simp), bI_one]
      rfl
    · rw [if_neg h10]
      by_cases hp : plainB (c.toNat : Int) = true
      · rw [if_pos hp]
        simp only [List.cons_append, List.nil_append]
        unfold elemE
        rw [bI_zero, if_neg (by rw [h92]; simp), if_pos hp]
        rfl
      · rw [if_neg hp]
        simp only [List.cons_append, List.nil_append]
        unfold elemE
        rw [bI_zero, if_pos (by rfl)]
        unfold escE
        rw [if_neg (by simp), bI_one]
        rw [if_neg (by decide), if_neg (by decide), if_neg (by decide), if_pos (by decide)]
        unfold hexE
        rw [if_neg (by simp)]
        have hb := byte_le c
        have d1 := hexD_dgt (c.toNat / 16) (by omega)
        have d2 := hexD_dgt (c.toNat % 16) (by omega)
        have hv : valF 16 ((([92, 120, hexD (c.toNat / 16), hexD (c.toNat % 16)] ++ x : List UInt8).drop 2).take 2) 0 = ((c.toNat : Int), true) := by
          show valF 16 [hexD (c.toNat / 16), hexD (c.toNat % 16)] 0 = _
          simp only [valF, d1, d2]
          rw [if_neg, if_neg]
          · congr 1
            omega
          · simp only [Bool.or_eq_true, decide_eq_true_eq, not_or]
            omega
          · simp only [Bool.or_eq_true, decide_eq_true_eq, not_or]
            omega
        simp only [List.cons_append, List.nil_append] at hv
        rw [hv]
        rfl
theorem quo1_pos (c : UInt8) : 1 ≤ (quo1 c).length := by
  unfold quo1
  split
  · simp
  · split
    · simp
    · split <;> simp
theorem quo1_head (c : UInt8) (x : List UInt8) : (bI (quo1 c ++ x) 0 == 34) = false := by
  unfold quo1
  by_cases h1 : ((c.toNat : Int) == 34 || (c.toNat : Int) == 92) = true
  · rw [if_pos h1]; rfl
  · rw [if_neg h1]
    by_cases h10 : ((c.toNat : Int) == 10) = true
    · rw [if_pos h10]; rfl
    · rw [if_neg h10]
      by_cases hp : plainB (c.toNat : Int) = true
      · rw [if_pos hp]
        simp only [Bool.or_eq_true, not_or] at h1
        show ((c.toNat : Int) == 34) = false
        simpa using h1.1
      · rw [if_neg hp]; rfl
theorem textF_quo (x : List UInt8) : ∀ (l : List UInt8) (f off : Nat) (acc : List UInt8), (quoI l).length < f → acc.length ≤ 40 →
    textF f (quoI l ++ 34 :: x) off acc = if acc.length + l.length ≤ 40 then .tok 2 0 (acc ++ l) (off + (quoI l).length + 1) else .bad 6 0
  | [], 0, _, _, h, _ => by omega
  | [], f + 1, off, acc, _, ha => by
    show textF (f + 1) (34 :: x) off acc = _
    rw [textF_step _ _ _ _ (by simp), if_pos (by rfl), if_pos (by simpa using ha)]
    simp [quoI]
  | c :: l, 0, _, _, h, _ => by omega
  | c :: l, f + 1, off, acc, h, ha => by
    have hq : quoI (c :: l) = quo1 c ++ quoI l := rfl
    have hp := quo1_pos c
    rw [hq, List.append_assoc]
    rw [hq, List.length_append] at h
    rw [textF_step _ _ _ _ (by rw [List.length_append]; omega), if_neg (by rw [quo1_head]; simp), elem_quo]
    rw [if_neg (by simp only [beq_iff_eq]; omega)]
    by_cases h40 : acc.length = 40
    · rw [if_pos h40, if_neg (by rw [List.length_cons]; omega)]
    · rw [if_neg h40]
      have hd : (quo1 c ++ (quoI l ++ 34 :: x)).drop ((quo1 c).length : Int).toNat = quoI l ++ 34 :: x := by
        rw [Int.toNat_natCast, List.drop_left]
      have hc : UInt8.ofNat ((c.toNat : Int)).toNat = c := by
        rw [Int.toNat_natCast, UInt8.ofNat_toNat]
      simp only
      rw [hd, hc, Int.toNat_natCast]
      rw [textF_quo x l f _ _ (by omega) (by rw [List.length_append]; simp; omega)]
      simp only [List.length_append, List.length_cons, List.length_nil]
      by_cases hl : acc.length + (l.length + 1) ≤ 40
      · rw [if_pos (by omega), if_pos hl, List.append_assoc]
        congr 1
        omega
      · rw [if_neg (by omega), if_neg hl]
theorem quoI_len (l : List UInt8) : (quoI l).length ≤ 4 * l.length := by
  induction l with
  | nil => simp [quoI]
  | cons c r ih =>
    have := quo1_len c
    show (quo1 c ++ quoI r).length ≤ _
    rw [List.length_append, List.length_cons]
    omega
theorem quoL_len (l : List UInt8) : (quoL l).length = (quoI l).length + 2 := by simp [quoL]
theorem lex_quote (l : List UInt8) (h : l.length ≤ 3000) : lexAll (quoL l) = if l.length ≤ 40 then .ok [⟨2, 0, l, 0⟩, ⟨0, 0, [], (quoL l).length⟩] else .bad 6 0 := by
  have hq := quoI_len l
  have hql := quoL_len l
  have hcons : quoL l = 34 :: (quoI l ++ [34]) := by simp [quoL]
  unfold lexAll
  rw [if_neg (by omega)]
  unfold lexL
  have hg : gapN false (quoL l) = 0 := by rw [hcons]; rfl
  have hit : itemE ((quoL l).drop (gapN false (quoL l))) = if l.length ≤ 40 then .tok 2 0 l (quoL l).length else .bad 6 0 := by
    rw [hg, List.drop_zero]
    unfold itemE
    rw [if_neg (by omega)]
    have hb : bI (quoL l) 0 = 34 := by rw [hcons]; rfl
    unfold itemI
    rw [hb, if_neg (by decide), if_neg (by decide), if_pos (by decide)]
    unfold textI
    have hd : (quoL l).drop 1 = quoI l ++ 34 :: [] := by rw [hcons]; rfl
    rw [hd, textF_quo [] l _ 1 [] (by omega) (by simp)]
    simp only [List.length_nil, Nat.zero_add, List.nil_append]
    split
    · congr 1
      omega
    · rfl
  by_cases h40 : l.length ≤ 40
  · rw [if_pos h40] at hit
    rw [if_pos h40, lexF_tok hit (by decide), hg, Nat.zero_add]
    have hd : (quoL l).drop (quoL l).length = [] := List.drop_length
    rw [hd]
    have hlast : itemE (([] : List UInt8).drop (gapN false [])) = .tok 0 0 [] 0 := rfl
    obtain ⟨m, hm⟩ : ∃ m, (quoL l).length = m + 1 := ⟨(quoL l).length - 1, by omega⟩
    rw [hm, lexF_end hlast (by decide)]
    simp [gapN]
  · rw [if_neg h40] at hit
    rw [if_neg h40, lexF_bad hit, hg]
end Go.Proofs.YtaebigakdfaogaaDoor
