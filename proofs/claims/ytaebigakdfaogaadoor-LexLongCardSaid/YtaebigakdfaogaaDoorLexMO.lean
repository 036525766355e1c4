/- Plain mathematics of the lexer: tokens in order; a text behind another one. -/
import Derived.Test.YtaebigakdfaogaaDoorLexAll
namespace Go.Proofs.YtaebigakdfaogaaDoor
def Out.pre (acc : List Tk) : Out → Out
  | .ok ts => .ok (acc ++ ts)
  | .bad c a => .bad c a
def Tk.up (d : Nat) (x : Tk) : Tk := ⟨x.k, x.n, x.t, x.a + d⟩
def Out.up (d : Nat) : Out → Out
  | .ok ts => .ok (ts.map (Tk.up d))
  | .bad c a => .bad c (a + d)
theorem lexF_bad {f : Nat} {l : List UInt8} {p : Nat} {acc : List Tk} {c : Int} {o : Nat} (h : itemE (l.drop (gapN false l)) = .bad c o) : lexF (f + 1) l p acc = .bad c (p + gapN false l + o) := by
  simp only [lexF, h]
theorem lexF_end {f : Nat} {l : List UInt8} {p : Nat} {acc : List Tk} {k n : Int} {t : List UInt8} {wd : Nat} (h : itemE (l.drop (gapN false l)) = .tok k n t wd) (hk : (k == 0) = true) : lexF (f + 1) l p acc = .ok (acc ++ [⟨k, n, t, p + gapN false l⟩]) := by
  simp only [lexF, h, hk, if_true]
theorem lexF_tok {f : Nat} {l : List UInt8} {p : Nat} {acc : List Tk} {k n : Int} {t : List UInt8} {wd : Nat} (h : itemE (l.drop (gapN false l)) = .tok k n t wd) (hk : (k == 0) = false) : lexF (f + 1) l p acc = lexF f (l.drop (gapN false l + wd)) (p + gapN false l + wd) (acc ++ [⟨k, n, t, p + gapN false l⟩]) := by
  simp only [lexF, h, hk, Bool.false_eq_true, if_false]
theorem lexF_acc : ∀ (f : Nat) (l : List UInt8) (p : Nat) (acc : List Tk), lexF f l p acc = (lexF f l p []).pre acc
  | 0, _, _, _ => rfl
  | f + 1, l, p, acc => by
    cases hit : itemE (l.drop (gapN false l)) with
    | bad c o => rw [lexF_bad hit, lexF_bad hit]; rfl
    | tok k n t wd =>
      rcases Bool.eq_false_or_eq_true (k == 0) with hk | hk
      · rw [lexF_end hit hk, lexF_end hit hk]; rfl
      · rw [lexF_tok hit hk, lexF_tok hit hk, lexF_acc f _ _ (acc ++ _), lexF_acc f _ _ ([] ++ _)]
        cases lexF f (l.drop (gapN false l + wd)) (p + gapN false l + wd) [] <;> simp [Out.pre]
/-- One token, and how the rest shrinks. -/
theorem lex_shrink {l : List UInt8} {k n : Int} {t : List UInt8} {wd : Nat} (h : itemE (l.drop (gapN false l)) = .tok k n t wd) (hk : (k == 0) = false) : 1 ≤ wd ∧ gapN false l + wd ≤ l.length := by
  have hok := itemE_ok h
  rw [List.length_drop] at hok
  have := hok.2.2.1 hk
  have := gap_le false l
  omega
theorem lexF_fuel : ∀ (f f' : Nat) (l : List UInt8) (p : Nat) (acc : List Tk), l.length < f → l.length < f' → lexF f l p acc = lexF f' l p acc
  | 0, _, _, _, _, h, _ => by omega
  | _, 0, _, _, _, _, h => by omega
  | f + 1, f' + 1, l, p, acc, h, h' => by
    cases hit : itemE (l.drop (gapN false l)) with
    | bad c o => rw [lexF_bad hit, lexF_bad hit]
    | tok k n t wd =>
      rcases Bool.eq_false_or_eq_true (k == 0) with hk | hk
      · rw [lexF_end hit hk, lexF_end hit hk]
      · have := lex_shrink hit hk
        rw [lexF_tok hit hk, lexF_tok hit hk]
        exact lexF_fuel f f' _ _ _ (by rw [List.length_drop]; omega) (by rw [List.length_drop]; omega)
theorem lexF_up (d : Nat) : ∀ (f : Nat) (l : List UInt8) (p : Nat) (acc : List Tk), l.length < f → lexF f l (p + d) (acc.map (Tk.up d)) = (lexF f l p acc).up d
  | 0, _, _, _, h => by omega
  | f + 1, l, p, acc, h => by
    cases hit : itemE (l.drop (gapN false l)) with
    | bad c o => rw [lexF_bad hit, lexF_bad hit]; simp [Out.up]; omega
    | tok k n t wd =>
      rcases Bool.eq_false_or_eq_true (k == 0) with hk | hk
      · rw [lexF_end hit hk, lexF_end hit hk]
        simp [Out.up, Tk.up]
        omega
      · have := lex_shrink hit hk
        rw [lexF_tok hit hk, lexF_tok hit hk, ← lexF_up d f _ _ _ (by rw [List.length_drop]; omega)]
        congr 1
        · omega
        · simp [Tk.up]
          omega

/-! ### In order -/
def Rises (ts : List Tk) : Prop := ∀ j, j + 1 < ts.length → (tkAt ts j).a < (tkAt ts (j + 1)).a
theorem rises_cons {x : Tk} {ts : List Tk} (h0 : 0 < ts.length → x.a < (tkAt ts 0).a) (h : Rises ts) : Rises (x :: ts) := by
  intro j hj
  cases j with
  | zero => exact h0 (by simpa using hj)
  | succ j => exact h j (by simpa using hj)
/-- All of what a text comes to: tokens rise from p on; the last one stands at the end. -/
theorem lexF_rises : ∀ (f : Nat) (l : List UInt8) (p : Nat) (ts : List Tk), l.length < f → lexF f l p [] = .ok ts →
    ∃ ys, ts = ys ++ [⟨0, 0, [], p + l.length⟩] ∧ p ≤ (tkAt ts 0).a ∧ Rises ts ∧ ∀ j, j < ts.length → (tkAt ts j).a ≤ p + l.length
  | 0, _, _, _, h, _ => by omega
  | f + 1, l, p, ts, h, e => by
    cases hit : itemE (l.drop (gapN false l)) with
    | bad c o => rw [lexF_bad hit] at e; cases e
    | tok k n t wd =>
      rcases Bool.eq_false_or_eq_true (k == 0) with hk | hk
      · rw [lexF_end hit hk] at e
        obtain ⟨h1, rfl, rfl, rfl⟩ := (itemE_ok hit).2.1 hk
        have hk0 : k = 0 := by simpa using hk
        subst hk0
        have h2 : l.length ≤ gapN false l := by simpa using List.drop_eq_nil_iff.1 h1
        have h3 := gap_le false l
        cases e
        refine ⟨[], by simp; omega, ?_, fun j hj => by simp at hj, fun j hj => ?_⟩
        · show p ≤ p + gapN false l
          omega
        · have : j = 0 := by simpa using hj
          subst this
          show p + gapN false l ≤ _
          omega
      · have hs := lex_shrink hit hk
        rw [lexF_tok hit hk, lexF_acc] at e
        cases hr : lexF f (l.drop (gapN false l + wd)) (p + gapN false l + wd) [] with
        | bad c a => rw [hr] at e; cases e
        | ok rs =>
          rw [hr] at e
          obtain ⟨ys, h1, h2, h3, h4⟩ := lexF_rises f _ _ rs (by rw [List.length_drop]; omega) hr
          cases e
          have hl : p + gapN false l + wd + (l.drop (gapN false l + wd)).length = p + l.length := by rw [List.length_drop]; omega
          rw [hl] at h1 h4
          refine ⟨⟨k, n, t, p + gapN false l⟩ :: ys, by rw [h1]; rfl, ?_, rises_cons (fun _ => ?_) h3, fun j hj => ?_⟩
          · show p ≤ p + gapN false l
            omega
          · exact Nat.lt_of_lt_of_le (show p + gapN false l < p + gapN false l + wd by omega) h2
          · cases j with
            | zero =>
              show p + gapN false l ≤ _
              omega
            | succ j => exact h4 j (by simpa using hj)

/-! ### A text behind another one, a line feed between -/
theorem runN_app {q : Int → Bool} (hq : q 10 = false) (x : List UInt8) : ∀ l : List UInt8, runN q (l ++ 10 :: x) = runN q l
  | [] => by show (if q ((10 : UInt8).toNat : Int) = true then _ else 0) = 0; rw [show ((10 : UInt8).toNat : Int) = 10 from rfl, hq]; rfl
  | c :: r => by
    show (if q (c.toNat : Int) = true then runN q (r ++ 10 :: x) + 1 else 0) = _
    rw [runN_app hq x r]
    rfl
theorem gap_app_end (x : List UInt8) : ∀ (b : Bool) (l : List UInt8), gapN b l = l.length → gapN b (l ++ 10 :: x) = l.length + 1 + gapN false x
  | true, [], _ => by
    show gapN true (10 :: x) = _
    simp [gapN]
    omega
  | false, [], _ => by
    show gapN false (10 :: x) = _
    simp [gapN, blankB]
    omega
  | true, c :: r, h => by
    simp only [gapN, List.length_cons, List.cons_append] at h ⊢
    split
    · rename_i hc
      rw [if_pos hc] at h
      rw [gap_app_end x false r (by omega)]
      omega
    · rename_i hc
      rw [if_neg hc] at h
      rw [gap_app_end x true r (by omega)]
      omega
  | false, c :: r, h => by
    simp only [gapN, List.length_cons, List.cons_append] at h ⊢
    split
    · rename_i hc
      rw [if_pos hc] at h
      rw [gap_app_end x false r (by omega)]
      omega
    · rename_i hc
      rw [if_neg hc] at h
      split
      · rename_i hd
        rw [if_pos hd] at h
        rw [gap_app_end x true r (by omega)]
        omega
      · rename_i hd
        rw [if_neg hd] at h
        omega
theorem gap_app_mid (x : List UInt8) : ∀ (b : Bool) (l : List UInt8), gapN b l < l.length → gapN b (l ++ x) = gapN b l
  | true, [], h => by simp at h
  | false, [], h => by simp at h
  | true, c :: r, h => by
    simp only [gapN, List.length_cons, List.cons_append] at h ⊢
    split
    · rename_i hc
      rw [if_pos hc] at h
      rw [gap_app_mid x false r (by omega)]
    · rename_i hc
      rw [if_neg hc] at h
      rw [gap_app_mid x true r (by omega)]
  | false, c :: r, h => by
    simp only [gapN, List.length_cons, List.cons_append] at h ⊢
    split
    · rename_i hc
      rw [if_pos hc] at h
      rw [gap_app_mid x false r (by omega)]
    · rename_i hc
      rw [if_neg hc] at h
      split
      · rename_i hd
        rw [if_pos hd] at h
        rw [gap_app_mid x true r (by omega)]
      · rfl
theorem bI_app (l x : List UInt8) (j : Nat) (h : j < l.length) : bI (l ++ x) j = bI l j := by
  unfold bI
  rw [List.getD_eq_getElem?_getD, List.getD_eq_getElem?_getD, List.getElem?_append_left h]
theorem take_app {l x : List UInt8} {n : Nat} (h : n ≤ l.length) : (l ++ x).take n = l.take n := List.take_append_of_le_length h
theorem drop_app {l x : List UInt8} {n : Nat} (h : n ≤ l.length) : (l ++ x).drop n = l.drop n ++ x := List.drop_append_of_le_length h
theorem hexE_app (l x : List UInt8) (h : (hexE l).2 ≠ 0) : hexE (l ++ x) = hexE l := by
  unfold hexE at h ⊢
  by_cases h4 : l.length < 4
  · rw [if_pos h4] at h
    exact absurd rfl h
  · rw [if_neg h4, if_neg (by rw [List.length_append]; omega), drop_app (by omega), take_app (by rw [List.length_drop]; omega)]
theorem escE_app (l x : List UInt8) (h : (escE l).2 ≠ 0) : escE (l ++ x) = escE l := by
  unfold escE at h ⊢
  by_cases h2 : l.length < 2
  · rw [if_pos h2] at h
    exact absurd rfl h
  · rw [if_neg h2] at h
    rw [if_neg h2, if_neg (by rw [List.length_append]; omega), bI_app l x 1 (by omega)]
    split
    · rfl
    · rename_i h34
      rw [if_neg h34] at h
      split
      · rfl
      · rename_i h92
        rw [if_neg h92] at h
        split
        · rfl
        · rename_i h110
          rw [if_neg h110] at h
          split
          · rename_i h120
            rw [if_pos h120] at h
            exact hexE_app l x h
          · rfl
theorem elemE_app (l x : List UInt8) (h0 : 0 < l.length) (h : (elemE l).2 ≠ 0) : elemE (l ++ x) = elemE l := by
  unfold elemE at h ⊢
  rw [bI_app l x 0 h0]
  split
  · rename_i h92
    rw [if_pos h92] at h
    exact escE_app l x h
  · rfl
theorem textF_app (x : List UInt8) : ∀ (f f' : Nat) (l : List UInt8) (off : Nat) (acc : List UInt8) (k n : Int) (t : List UInt8) (wd : Nat), textF f l off acc = .tok k n t wd → f ≤ f' → textF f' (l ++ x) off acc = .tok k n t wd
  | 0, _, _, _, _, _, _, _, _, h, _ => by simp [textF] at h
  | f + 1, 0, _, _, _, _, _, _, _, _, h => by omega
  | f + 1, f' + 1, [], off, acc, k, n, t, wd, h, _ => by simp [textF] at h
  | f + 1, f' + 1, c :: r, off, acc, k, n, t, wd, h, hf => by
    rw [textF_step _ _ _ _ (by simp)] at h ⊢
    rw [bI_app _ x 0 (by simp)]
    split at h
    · rename_i h34
      rw [if_pos h34]
      exact h
    · rename_i h34
      rw [if_neg h34]
      split at h
      · cases h
      · rename_i hz
        have hz' : (elemE (c :: r)).2 ≠ 0 := fun e => hz (by rw [e]; rfl)
        rw [elemE_app _ x (by simp) hz', if_neg hz]
        split at h
        · cases h
        · rename_i h40
          rw [if_neg h40]
          obtain ⟨m, hm1, hm2, _, _⟩ := elemE_ok (c :: r) (by simp)
          rw [hm1] at h ⊢
          rw [drop_app (by simpa using hm2)]
          exact textF_app x f f' _ _ _ _ _ _ _ h (by omega)
theorem sgnW_app (l x : List UInt8) (h : 0 < l.length) : sgnW (l ++ 10 :: x) = sgnW l := by
  unfold sgnW
  rw [bI_app l _ 0 h]
  by_cases h2 : 1 < l.length
  · have : twoB (l ++ 10 :: x) = twoB l := by unfold twoB; rw [take_app (by omega)]
    rw [this]
    have h3 : 1 < l.length + (x.length + 1) := by omega
    simp [h2, h3]
  · match l, h with
    | [c], _ =>
      have : twoB ([c] ++ 10 :: x) = false := by
        unfold twoB
        show ([c, 10] == [61, 62] || _) = false
        simp
      rw [this]
      simp
    | _ :: _ :: _, _ => simp at h2
theorem itemE_app (x : List UInt8) {l : List UInt8} {k n : Int} {t : List UInt8} {wd : Nat} (h : itemE l = .tok k n t wd) (h0 : 0 < l.length) : itemE (l ++ 10 :: x) = .tok k n t wd := by
  unfold itemE at h ⊢
  rw [if_neg (by omega)] at h
  rw [if_neg (by rw [List.length_append]; omega)]
  unfold itemI at h ⊢
  rw [bI_app l _ 0 h0]
  split at h
  · rename_i hd
    rw [if_pos hd]
    unfold numI at h ⊢
    rw [runN_app rfl, bI_app l _ 0 h0, take_app (runN_le _ _)]
    exact h
  · rename_i hd
    rw [if_neg hd]
    split at h
    · rename_i hl
      rw [if_pos hl]
      unfold wordI at h ⊢
      rw [runN_app rfl, take_app (runN_le _ _)]
      exact h
    · rename_i hl
      rw [if_neg hl]
      split at h
      · rename_i h34
        rw [if_pos h34]
        unfold textI at h ⊢
        rw [drop_app (by omega)]
        exact textF_app _ _ _ _ _ _ _ _ _ _ h (by rw [List.length_append]; omega)
      · rename_i h34
        rw [if_neg h34]
        unfold signI at h ⊢
        rw [sgnW_app l x h0]
        split at h
        · cases h
        · rename_i hz
          rw [if_neg hz, take_app]
          · exact h
          · obtain ⟨m, hm1, hm2⟩ := sgnW_nat l h0
            rw [hm1]
            simpa using hm2
theorem lexF_app (x : List UInt8) : ∀ (f f' : Nat) (l : List UInt8) (p : Nat) (ts : List Tk), l.length < f → l.length + x.length + 1 < f' → lexF f l p [] = .ok ts →
    lexF f' (l ++ 10 :: x) p [] = (lexF (x.length + 1) x (p + l.length + 1) []).pre ts.dropLast
  | 0, _, _, _, _, h, _, _ => by omega
  | _, 0, _, _, _, _, h, _ => by omega
  | f + 1, f' + 1, l, p, ts, h, h', e => by
    cases hit : itemE (l.drop (gapN false l)) with
    | bad c o => rw [lexF_bad hit] at e; cases e
    | tok k n t wd =>
      rcases Bool.eq_false_or_eq_true (k == 0) with hk | hk
      · rw [lexF_end hit hk] at e
        obtain ⟨h1, rfl, rfl, rfl⟩ := (itemE_ok hit).2.1 hk
        have h2 : l.length ≤ gapN false l := by simpa using List.drop_eq_nil_iff.1 h1
        have h3 := gap_le false l
        cases e
        have hg := gap_app_end x false l (by omega)
        have hd : (l ++ 10 :: x).drop (gapN false (l ++ 10 :: x)) = x.drop (gapN false x) := by
          rw [hg, List.drop_append]
          rw [List.drop_of_length_le (by omega)]
          simp [show l.length + 1 + gapN false x - l.length = gapN false x + 1 by omega]
        have e2 : lexF (f' + 1) (l ++ 10 :: x) p [] = lexF (f' + 1) x (p + l.length + 1) [] := by
          cases hx : itemE (x.drop (gapN false x)) with
          | bad c o => rw [lexF_bad hx, lexF_bad (by rw [hd]; exact hx), hg]; congr 1; omega
          | tok k' n' t' wd' =>
            rcases Bool.eq_false_or_eq_true (k' == 0) with hk' | hk'
            · rw [lexF_end hx hk', lexF_end (by rw [hd]; exact hx) hk', hg]
              rw [show p + (l.length + 1 + gapN false x) = p + l.length + 1 + gapN false x by omega]
            · rw [lexF_tok hx hk', lexF_tok (by rw [hd]; exact hx) hk', hg]
              congr 1
              · rw [← List.drop_drop, ← hg, hd, List.drop_drop]
              · omega
              · rw [show p + (l.length + 1 + gapN false x) = p + l.length + 1 + gapN false x by omega]
        rw [e2, lexF_fuel (f' + 1) (x.length + 1) x _ _ (by omega) (by omega)]
        cases lexF (x.length + 1) x (p + l.length + 1) [] <;> simp [Out.pre]
      · have hs := lex_shrink hit hk
        have hlt : gapN false l < l.length := by omega
        rw [lexF_tok hit hk, lexF_acc] at e
        have hg := gap_app_mid (10 :: x) false l hlt
        have hit' : itemE ((l ++ 10 :: x).drop (gapN false (l ++ 10 :: x))) = .tok k n t wd := by
          rw [hg, drop_app (by omega)]
          exact itemE_app x hit (by rw [List.length_drop]; omega)
        rw [lexF_tok hit' hk, lexF_acc, hg, drop_app (by omega)]
        cases hr : lexF f (l.drop (gapN false l + wd)) (p + gapN false l + wd) [] with
        | bad c a => rw [hr] at e; cases e
        | ok rs =>
          rw [hr] at e
          cases e
          rw [lexF_app x f f' _ _ rs (by rw [List.length_drop]; omega) (by rw [List.length_drop]; omega) hr]
          have hl : p + gapN false l + wd + (l.drop (gapN false l + wd)).length = p + l.length := by rw [List.length_drop]; omega
          rw [hl]
          obtain ⟨ys, h1, _⟩ := lexF_rises f _ _ rs (by rw [List.length_drop]; omega) hr
          have hne : rs ≠ [] := by rw [h1]; simp
          cases lexF (x.length + 1) x (p + l.length + 1) [] with
          | bad c a => rfl
          | ok us =>
            show Out.ok _ = Out.ok _
            congr 1
            simp [List.dropLast_cons_of_ne_nil hne]
end Go.Proofs.YtaebigakdfaogaaDoor
