/- One text, one type: two right types that are shown the same are the same. -/
import Derived.Test.YtiajemakpdpnaaaDoorPwLn
namespace Go.Proofs.YtiajemakpdpnaaaDoor
open Go.RowKit Pv
/-- A byte of a word. -/
def wdB (c : UInt8) : Bool := lowB (c.toNat : Int) || upB (c.toNat : Int) || digB (c.toNat : Int)
/-- No byte of a word stands at the head. -/
def edgeL (r : List UInt8) : Prop := ∀ c r', r = c :: r' → wdB c = false
theorem span_eq : ∀ (a b r s : List UInt8), (∀ c ∈ a, wdB c = true) → (∀ c ∈ b, wdB c = true) → edgeL r → edgeL s → a ++ r = b ++ s → a = b ∧ r = s
  | [], [], r, s, _, _, _, _, h => ⟨rfl, h⟩
  | [], y :: b, r, s, _, hb, hr, _, h => by
    have h1 := hr y (b ++ s) (by simpa using h)
    rw [hb y (by simp)] at h1
    cases h1
  | x :: a, [], r, s, ha, _, _, hs, h => by
    have h1 := hs x (a ++ r) (by simpa using h.symm)
    rw [ha x (by simp)] at h1
    cases h1
  | x :: a, y :: b, r, s, ha, hb, hr, hs, h => by
    simp only [List.cons_append, List.cons.injEq] at h
    obtain ⟨rfl, h⟩ := h
    obtain ⟨rfl, h2⟩ := span_eq a b r s (fun c hc => ha c (by simp [hc])) (fun c hc => hb c (by simp [hc])) hr hs h
    exact ⟨rfl, h2⟩
/-- What may stand behind a type (tl0), and behind a simple one (tl1). -/
def tl0 (r : List UInt8) : Prop := ∀ c r', r = c :: r' → c = 44 ∨ c = 125 ∨ c = 41
def tl1 (r : List UInt8) : Prop := ∀ c r', r = c :: r' → c = 44 ∨ c = 125 ∨ c = 41 ∨ c = 32
theorem tl0_one {r : List UInt8} (h : tl0 r) : tl1 r := fun c r' e => by rcases h c r' e with h | h | h <;> simp [h]
theorem tl1_edge {r : List UInt8} (h : tl1 r) : edgeL r := fun c r' e => by rcases h c r' e with h | h | h | h <;> subst h <;> rfl
theorem tl0_nil : tl0 [] := fun c r' e => by cases e
theorem edge_cons {c : UInt8} {r : List UInt8} (h : wdB c = false) : edgeL (c :: r) := fun c' r' e => by cases e; exact h
/-! ### Words -/
theorem kind_word {l : List UInt8} {k : Int} (h : kindI l = k) (hk : k = 1 ∨ k = 2) : keptI l = 0 ∧ ∃ a r, l = a :: r ∧ begunI (a.toNat : Int) = k ∧ ∀ c ∈ l, wdB c = true := by
  unfold kindI at h
  split at h
  · rename_i h0
    split at h
    · omega
    · match l, h with
      | [], h => simp [shapeI] at h; omega
      | a :: r, h =>
        simp only [shapeI] at h
        split at h
        · rename_i hall
          rw [List.all_eq_true] at hall
          refine ⟨h0, a, r, rfl, h, fun c hc => ?_⟩
          rcases List.mem_cons.1 hc with rfl | hc
          · unfold begunI at h
            unfold wdB
            split at h
            · simp [*]
            · split at h
              · simp [*]
              · omega
          · have := hall c hc
            rw [h] at this
            unfold contB at this
            unfold wdB
            simp only [Bool.or_eq_true, Bool.and_eq_true] at this ⊢
            rcases this with ⟨_, h⟩ | ⟨_, h | h⟩ <;> simp [h]
        · omega
  · rcases kept_vals l with h1 | h1 | h1 <;> omega
theorem begun_low {c : Int} (h : begunI c = 1) : lowB c = true := by
  unfold begunI at h
  split at h
  · assumption
  · split at h <;> cases h
theorem begun_up {c : Int} (h : begunI c = 2) : upB c = true := by
  unfold begunI at h
  split at h
  · cases h
  · split at h
    · assumption
    · cases h
/-- The type that a word stands for. -/
def ofWord (w : List UInt8) : Ty5 :=
  if w = [73, 110, 116] then .mk 1 0 ⟨#[]⟩ [] [] else if w = [66, 111, 111, 108] then .mk 2 0 ⟨#[]⟩ [] [] else if w = [83, 116, 114, 105, 110, 103] then .mk 3 0 ⟨#[]⟩ [] [] else if w = [84, 111, 112] then .mk 4 0 ⟨#[]⟩ [] []
  else .mk 6 0 ⟨w.toArray⟩ [] []
theorem of_var {w : List UInt8} (h : keptI w = 0) : ofWord w = .mk 6 0 ⟨w.toArray⟩ [] [] := by
  unfold ofWord
  rw [if_neg, if_neg, if_neg, if_neg]
  all_goals
    rintro rfl
    exact absurd h (by decide)
theorem nm_nil {nm : ByteArray} (h : nm.toList = []) : nm = ⟨#[]⟩ := by
  rw [ByteArray.toList_eq] at h
  exact ByteArray.ext (Array.toList_inj.1 h)
/-- The ways in which a type is right. -/
inductive RV : Ty5 → Prop where
  | word (w : List UInt8) (hw : ∀ c ∈ w, wdB c = true) (a : UInt8) (r : List UInt8) (h1 : w = a :: r) (h2 : upB (a.toNat : Int) = true) (h3 : showT (ofWord w) = w) (h4 : kT (ofWord w) ≠ 7) : RV (ofWord w)
  | dyn : RV (.mk 5 0 ⟨#[]⟩ [] [])
  | sl9 (n : Int) (h : 0 ≤ n) : RV (.mk 9 n ⟨#[]⟩ [] [])
  | fn (a b : Ty5) (ha : rightT varB risingB a = true) (hb : rightT varB risingB b = true) : RV (.mk 7 0 ⟨#[]⟩ [] [a, b])
  | rcd (ls : List ByteArray) (ks : List Ty5) (hl : ls.length = ks.length) (hr : risingB ls = true) (hk : rightL varB risingB ks = true) : RV (.mk 8 0 ⟨#[]⟩ ls ks)
theorem ne_of {l : List ByteArray} (h : ¬ 0 < l.length) : l = [] := List.eq_nil_of_length_eq_zero (by omega)
theorem rv_any : ∀ t : Ty5, rightT varB risingB t = true → RV t
  | .mk k n nm ls ks, h => by
    simp only [rightT, Bool.and_eq_true] at h
    obtain ⟨hk, h⟩ := h
    unfold headB at h
    split at h
    · cases h
    rename_i hno
    have hnm : k ≠ 6 → nm = ⟨#[]⟩ := fun h6 => nm_nil (Classical.byContradiction fun h => hno (.inl ⟨h6, h⟩))
    have hn : k ≠ 9 → n = 0 := fun h9 => Classical.byContradiction fun h => hno (.inr (.inl ⟨h9, h⟩))
    have hls : k ≠ 8 → ls = [] := fun h8 => ne_of fun h => hno (.inr (.inr ⟨h8, h⟩))
    split at h
    · rename_i h15
      obtain rfl := hnm (by omega)
      obtain rfl := hn (by omega)
      obtain rfl := hls (by omega)
      obtain rfl : ks = [] := List.eq_nil_of_length_eq_zero (by have := beq_iff_eq.1 h; omega)
      rcases (by omega : k = 1 ∨ k = 2 ∨ k = 3 ∨ k = 4 ∨ k = 5) with rfl | rfl | rfl | rfl | rfl
      · exact .word [73, 110, 116] (by decide) _ _ rfl (by decide) rfl (by decide)
      · exact .word [66, 111, 111, 108] (by decide) _ _ rfl (by decide) rfl (by decide)
      · exact .word [83, 116, 114, 105, 110, 103] (by decide) _ _ rfl (by decide) rfl (by decide)
      · exact .word [84, 111, 112] (by decide) _ _ rfl (by decide) rfl (by decide)
      · exact .dyn
    · split at h
      · rename_i h6
        subst h6
        simp only [Bool.and_eq_true, beq_iff_eq] at h
        obtain rfl := hn (by omega)
        obtain rfl := hls (by omega)
        obtain rfl : ks = [] := List.eq_nil_of_length_eq_zero (by omega)
        have hv := h.1
        unfold varB at hv
        obtain ⟨h0, a, r, e, hb, hw⟩ := kind_word (beq_iff_eq.1 hv) (.inr rfl)
        have ho := of_var h0
        have hd : (⟨nm.data.toList.toArray⟩ : ByteArray) = nm := by cases nm; simp
        rw [hd] at ho
        rw [← ho]
        refine .word _ hw a r e (begun_up hb) (by rw [ho]; rfl) (by rw [ho]; show (6 : Int) ≠ 7; decide)
      · split at h
        · rename_i h9
          subst h9
          simp only [Bool.and_eq_true, decide_eq_true_eq, beq_iff_eq] at h
          obtain rfl := hnm (by omega)
          obtain rfl := hls (by omega)
          obtain rfl : ks = [] := List.eq_nil_of_length_eq_zero (by omega)
          exact .sl9 n h.1
        · split at h
          · rename_i h7
            subst h7
            obtain rfl := hnm (by omega)
            obtain rfl := hn (by omega)
            obtain rfl := hls (by omega)
            have hl : ks.length = 2 := by have := beq_iff_eq.1 h; omega
            match ks, hl, hk with
            | [a, b], _, hk =>
              simp only [rightL, Bool.and_eq_true] at hk
              exact .fn a b hk.1 hk.2.1
          · simp only [Bool.and_eq_true, decide_eq_true_eq, beq_iff_eq] at h
            obtain ⟨rfl, h1, h2⟩ := h
            obtain rfl := hnm (by omega)
            obtain rfl := hn (by omega)
            exact .rcd ls ks (by omega) h1 hk
/-! ### Digits -/
def valL (l : List UInt8) : Nat := l.foldl (fun a c => a * 10 + (c.toNat - 48)) 0
theorem dig_val : ∀ n : Nat, valL (Lib.decDigits n) = n ∧ ∀ c ∈ Lib.decDigits n, wdB c = true := by
  intro n
  induction n using Nat.strongRecOn with
  | ind n ih =>
    rw [Lib.decDigits]
    have hx : ∀ m, m < 10 → (UInt8.ofNat (48 + m)).toNat = 48 + m := fun m hm => UInt8.toNat_ofNat_of_lt' (by show _ < 256; omega)
    have hy : ∀ m, m < 10 → wdB (UInt8.ofNat (48 + m)) = true := fun m hm => by
      unfold wdB digB
      rw [hx m hm]
      simp only [Bool.or_eq_true, Bool.and_eq_true, decide_eq_true_eq]
      right
      omega
    by_cases h : n < 10
    · rw [dif_pos h]
      refine ⟨?_, fun c hc => ?_⟩
      · show 0 * 10 + ((UInt8.ofNat (48 + n)).toNat - 48) = n
        rw [hx n h]
        omega
      · rw [List.mem_singleton.1 hc]
        exact hy n h
    · rw [dif_neg h]
      obtain ⟨i1, i2⟩ := ih (n / 10) (by omega)
      refine ⟨?_, fun c hc => ?_⟩
      · unfold valL at i1 ⊢
        rw [List.foldl_append, i1]
        show n / 10 * 10 + ((UInt8.ofNat (48 + n % 10)).toNat - 48) = n
        rw [hx _ (by omega)]
        omega
      · rcases List.mem_append.1 hc with hc | hc
        · exact i2 c hc
        · rw [List.mem_singleton.1 hc]
          exact hy _ (by omega)
theorem itoa_pos {n : Int} (h : 0 ≤ n) : Lib.itoa n = Lib.decDigits n.toNat := by unfold Lib.itoa; rw [if_neg (by omega)]
/-! ### Records -/
def gsL : List ByteArray → List (List UInt8) → List UInt8
  | l :: ls, x :: xs => [44, 32] ++ (l.data.toList ++ ([58, 32] ++ (x ++ gsL ls xs)))
  | _, _ => [125]
def fsL : List ByteArray → List (List UInt8) → List UInt8
  | l :: ls, x :: xs => l.data.toList ++ ([58, 32] ++ (x ++ gsL ls xs))
  | _, _ => [125]
theorem recX_gs (S : List UInt8) (ls : List ByteArray) (tx : List (List UInt8)) (hl : ls.length = tx.length) : ∀ j : Nat, 0 < j → j ≤ tx.length → recX S ls tx j ++ gsL (ls.drop j) (tx.drop j) = S ++ fsL ls tx
  | 0, h, _ => absurd h (Nat.lt_irrefl _)
  | 1, _, h1 => by
    match ls, tx, hl, h1 with
    | [], tx, hl, h1 =>
      have : tx.length = 0 := hl.symm
      omega
    | l :: ls, x :: xs, hl, h1 =>
      show (S ++ (stAt (l :: ls) 0).data.toList ++ [58, 32] ++ x) ++ gsL ls xs = _
      rw [show stAt (l :: ls) 0 = l from rfl]
      simp only [fsL, List.append_assoc]
  | j + 2, _, h1 => by
    have ih := recX_gs S ls tx hl (j + 1) (by omega) (by omega)
    rw [← ih]
    have e1 : ls.drop (j + 1) = ls[j + 1]'(by omega) :: ls.drop (j + 2) := List.drop_eq_getElem_cons (by omega)
    have e2 : tx.drop (j + 1) = tx[j + 1]'(by omega) :: tx.drop (j + 2) := List.drop_eq_getElem_cons (by omega)
    rw [e1, e2]
    have e3 : tx.getD (j + 1) [] = tx[j + 1]'(by omega) := by rw [List.getD_eq_getElem?_getD, List.getElem?_eq_getElem (by omega)]; rfl
    have e4 : stAt ls (j + 1) = ls[j + 1]'(by omega) := stAt_get (by omega)
    show (recX S ls tx (j + 1) ++ [44, 32]) ++ (stAt ls (j + 1)).data.toList ++ [58, 32] ++ tx.getD (j + 1) [] ++ _ = _
    rw [e3, e4]
    simp only [gsL, List.append_assoc]
theorem rec_text (ls : List ByteArray) (tx : List (List UInt8)) (hl : ls.length = tx.length) : recX [123] ls tx tx.length ++ [125] = [123] ++ fsL ls tx := by
  rcases Nat.eq_zero_or_pos tx.length with h | h
  · obtain rfl := List.eq_nil_of_length_eq_zero h
    obtain rfl := List.eq_nil_of_length_eq_zero (hl.trans h)
    rfl
  · rw [← recX_gs [123] ls tx hl tx.length h (Nat.le_refl _), List.drop_of_length_le (by omega), List.drop_of_length_le (Nat.le_refl _)]
    rfl
theorem gs_tl0 (ls : List ByteArray) (xs : List (List UInt8)) (r : List UInt8) : tl0 (gsL ls xs ++ r) := by
  match ls, xs with
  | [], _ => intro c r' e; simp only [gsL, List.cons_append, List.cons.injEq] at e; simp [← e.1]
  | _ :: _, [] => intro c r' e; simp only [gsL, List.cons_append, List.cons.injEq] at e; simp [← e.1]
  | l :: ls, x :: xs => intro c r' e; simp only [gsL, List.cons_append, List.cons.injEq] at e; simp [← e.1]
theorem rising_fine {ls : List ByteArray} (h : risingB ls = true) : ∀ l ∈ ls, fineB l = true := by
  intro l hl
  obtain ⟨j, hj, rfl⟩ := List.getElem_of_mem hl
  simp only [risingB, List.all_eq_true, List.mem_range] at h
  have := h j hj
  simp only [upAt, Bool.and_eq_true, stAt_get hj] at this
  exact this.1
theorem fine_word {l : ByteArray} (h : fineB l = true) : (∀ c ∈ l.data.toList, wdB c = true) ∧ ∃ a r, l.data.toList = a :: r ∧ lowB (a.toNat : Int) = true := by
  unfold fineB at h
  obtain ⟨_, a, r, e, hb, hw⟩ := kind_word (beq_iff_eq.1 h) (.inl rfl)
  exact ⟨hw, a, r, e, begun_low hb⟩
theorem bytes_inj {a b : ByteArray} (h : a.data.toList = b.data.toList) : a = b := ByteArray.ext (Array.toList_inj.1 h)
/-! ### Texts -/
/-- A type's text as a simple type. -/
def sS (t : Ty5) : List UInt8 := if kT t = 7 then [40] ++ showT t ++ [41] else showT t
def One (a : Ty5) : Prop := rightT varB risingB a = true →
  (∀ b r s, rightT varB risingB b = true → tl0 r → tl0 s → showT a ++ r = showT b ++ s → a = b ∧ r = s) ∧ (∀ b r s, rightT varB risingB b = true → tl1 r → tl1 s → sS a ++ r = sS b ++ s → a = b ∧ r = s)
theorem cut2 {x y : UInt8} {a b : List UInt8} (h : x :: y :: a = x :: y :: b) : a = b := by simpa using h
theorem cut4 {x y z u : UInt8} {a b : List UInt8} (h : x :: y :: z :: u :: a = x :: y :: z :: u :: b) : a = b := by simpa using h
theorem gs_one : ∀ (ls : List ByteArray) (ks : List Ty5) (ls' : List ByteArray) (ks' : List Ty5) (r s : List UInt8), ls.length = ks.length → ls'.length = ks'.length → (∀ l ∈ ls, fineB l = true) → (∀ l ∈ ls', fineB l = true) → (∀ t ∈ ks, One t ∧ rightT varB risingB t = true) → (∀ t ∈ ks', rightT varB risingB t = true) →
    gsL ls (ks.map showT) ++ r = gsL ls' (ks'.map showT) ++ s → ls = ls' ∧ ks = ks' ∧ r = s
  | [], [], [], [], r, s, _, _, _, _, _, _, h => by simpa [gsL] using h
  | [], [], l' :: ls', t' :: ks', r, s, _, _, _, _, _, _, h => by simp [gsL] at h
  | l :: ls, t :: ks, [], [], r, s, _, _, _, _, _, _, h => by simp [gsL] at h
  | l :: ls, t :: ks, l' :: ls', t' :: ks', r, s, h1, h2, h3, h4, h5, h6, h => by
    simp only [List.map_cons, gsL, List.append_assoc] at h
    have h := List.append_cancel_left h
    obtain ⟨e1, h⟩ := span_eq _ _ _ _ (fine_word (h3 l (by simp))).1 (fine_word (h4 l' (by simp))).1 (edge_cons rfl) (edge_cons rfl) h
    have h := cut2 h
    obtain ⟨rfl, h'⟩ := ((h5 t (by simp)).1 (h5 t (by simp)).2).1 t' _ _ (h6 t' (by simp)) (gs_tl0 _ _ _) (gs_tl0 _ _ _) h
    obtain ⟨rfl, rfl, rfl⟩ := gs_one ls ks ls' ks' r s (by simpa using h1) (by simpa using h2) (fun x hx => h3 x (by simp [hx])) (fun x hx => h4 x (by simp [hx])) (fun x hx => h5 x (by simp [hx])) (fun x hx => h6 x (by simp [hx])) h'
    exact ⟨by rw [bytes_inj e1], rfl, rfl⟩
  | [], _ :: _, _, _, _, _, h, _, _, _, _, _, _ => by simp at h
  | _ :: _, [], _, _, _, _, h, _, _, _, _, _, _ => by simp at h
  | [], [], [], _ :: _, _, _, _, h, _, _, _, _, _ => by simp at h
  | [], [], _ :: _, [], _, _, _, h, _, _, _, _, _ => by simp at h
  | _ :: _, _ :: _, [], _ :: _, _, _, _, h, _, _, _, _, _ => by simp at h
  | _ :: _, _ :: _, _ :: _, [], _, _, _, h, _, _, _, _, _ => by simp at h
theorem low_not {a : UInt8} (h : lowB (a.toNat : Int) = true) : a ≠ 125 := by rintro rfl; exact absurd h (by decide)
theorem fs_one (ls : List ByteArray) (ks : List Ty5) (ls' : List ByteArray) (ks' : List Ty5) (r s : List UInt8) (h1 : ls.length = ks.length) (h2 : ls'.length = ks'.length) (h3 : ∀ l ∈ ls, fineB l = true) (h4 : ∀ l ∈ ls', fineB l = true) (h5 : ∀ t ∈ ks, One t ∧ rightT varB risingB t = true) (h6 : ∀ t ∈ ks', rightT varB risingB t = true)
    (h : fsL ls (ks.map showT) ++ r = fsL ls' (ks'.map showT) ++ s) : ls = ls' ∧ ks = ks' ∧ r = s := by
  match ls, ks, ls', ks', h1, h2, h3, h4, h5, h6, h with
  | [], [], [], [], _, _, _, _, _, _, h => simpa [fsL] using h
  | [], [], l' :: ls', t' :: ks', _, _, _, h4, _, _, h =>
    obtain ⟨_, a, q, e, hl⟩ := fine_word (h4 l' (by simp))
    simp only [List.map_nil, List.map_cons, fsL, e, List.cons_append, List.cons.injEq] at h
    exact absurd h.1.symm (low_not hl)
  | l :: ls, t :: ks, [], [], _, _, h3, _, _, _, h =>
    obtain ⟨_, a, q, e, hl⟩ := fine_word (h3 l (by simp))
    simp only [List.map_nil, List.map_cons, fsL, e, List.cons_append, List.cons.injEq] at h
    exact absurd h.1 (low_not hl)
  | l :: ls, t :: ks, l' :: ls', t' :: ks', h1, h2, h3, h4, h5, h6, h =>
    refine gs_one (l :: ls) (t :: ks) (l' :: ls') (t' :: ks') r s h1 h2 h3 h4 h5 h6 ?_
    simp only [List.map_cons, fsL, gsL, List.append_assoc] at h ⊢
    rw [h]
theorem up_not {a : UInt8} (h : upB (a.toNat : Int) = true) : a ≠ 63 ∧ a ≠ 35 ∧ a ≠ 40 ∧ a ≠ 123 := by
  refine ⟨?_, ?_, ?_, ?_⟩ <;> (rintro rfl; exact absurd h (by decide))
theorem sS_not {t : Ty5} (h : kT t ≠ 7) : sS t = showT t := if_neg h
theorem sS_fn (n : Int) (nm : ByteArray) (ls : List ByteArray) (ks : List Ty5) : sS (.mk 7 n nm ls ks) = [40] ++ showT (.mk 7 n nm ls ks) ++ [41] := rfl
theorem sh_seal (n : Int) : showT (.mk 9 n ⟨#[]⟩ [] []) = [35] ++ Lib.itoa n := rfl
theorem sh_dyn : showT (.mk 5 0 ⟨#[]⟩ [] []) = [63] := rfl
theorem sh_fn (a b : Ty5) : showT (.mk 7 0 ⟨#[]⟩ [] [a, b]) = sS a ++ ([32, 45, 62, 32] ++ showT b) := by
  rw [← List.append_assoc]
  rfl
theorem sh_rec (ls : List ByteArray) (ks : List Ty5) (hl : ls.length = ks.length) : showT (.mk 8 0 ⟨#[]⟩ ls ks) = [123] ++ fsL ls (ks.map showT) := by
  rw [← rec_text ls (ks.map showT) (by simpa using hl)]
  simp only [showT, showL_map]
  rfl
/-- One that is no function, before another one as a simple type. -/
theorem one_simple {a : Ty5} (va : RV a) (h7 : kT a ≠ 7) (ih : ∀ k n nm ls ks, a = .mk k n nm ls ks → ∀ t ∈ ks, One t) : ∀ b r s, rightT varB risingB b = true → tl1 r → tl1 s → showT a ++ r = sS b ++ s → a = b ∧ r = s := by
  intro b r s hb hr hs h
  have vb := rv_any b hb
  cases va with
  | word w hw x q e1 e2 e3 e4 =>
    rw [e3] at h
    obtain ⟨n1, n2, n3, n4⟩ := up_not e2
    cases vb with
    | word w' hw' x' q' e1' e2' e3' e4' =>
      rw [sS_not e4', e3'] at h
      obtain ⟨rfl, rfl⟩ := span_eq _ _ _ _ hw hw' (tl1_edge hr) (tl1_edge hs) h
      exact ⟨rfl, rfl⟩
    | dyn =>
      rw [sS_not (by decide), sh_dyn, e1] at h
      simp only [List.cons_append, List.cons.injEq] at h
      exact absurd h.1 n1
    | sl9 n hn =>
      rw [sS_not (by show (9 : Int) ≠ 7; decide), sh_seal, e1] at h
      simp only [List.cons_append, List.cons.injEq] at h
      exact absurd h.1 n2
    | fn c d hc hd =>
      rw [sS_fn, e1] at h
      simp only [List.cons_append, List.cons.injEq] at h
      exact absurd h.1 n3
    | rcd ls ks hl hri hk =>
      rw [sS_not (by show (8 : Int) ≠ 7; decide), sh_rec ls ks hl, e1] at h
      simp only [List.cons_append, List.cons.injEq] at h
      exact absurd h.1 n4
  | dyn =>
    rw [sh_dyn] at h
    cases vb with
    | word w' hw' x' q' e1' e2' e3' e4' =>
      obtain ⟨n1, n2, n3, n4⟩ := up_not e2'
      rw [sS_not e4', e3', e1'] at h
      simp only [List.cons_append, List.cons.injEq] at h
      exact absurd h.1.symm n1
    | dyn =>
      rw [sS_not (by decide), sh_dyn] at h
      exact ⟨rfl, List.append_cancel_left h⟩
    | sl9 n hn => rw [sS_not (by show (9 : Int) ≠ 7; decide), sh_seal] at h; simp at h
    | fn c d hc hd => rw [sS_fn] at h; simp at h
    | rcd ls ks hl hri hk => rw [sS_not (by show (8 : Int) ≠ 7; decide), sh_rec ls ks hl] at h; simp at h
  | sl9 n hn =>
    rw [sh_seal] at h
    cases vb with
    | word w' hw' x' q' e1' e2' e3' e4' =>
      obtain ⟨n1, n2, n3, n4⟩ := up_not e2'
      rw [sS_not e4', e3', e1'] at h
      simp only [List.cons_append, List.cons.injEq] at h
      exact absurd h.1.symm n2
    | dyn => rw [sS_not (by decide), sh_dyn] at h; simp at h
    | sl9 n' hn' =>
      rw [sS_not (by show (9 : Int) ≠ 7; decide), sh_seal, List.append_assoc, List.append_assoc] at h
      have h := List.append_cancel_left h
      rw [itoa_pos hn, itoa_pos hn'] at h
      obtain ⟨e, rfl⟩ := span_eq _ _ _ _ (dig_val n.toNat).2 (dig_val n'.toNat).2 (tl1_edge hr) (tl1_edge hs) h
      have e2 := congrArg valL e
      rw [(dig_val _).1, (dig_val _).1] at e2
      obtain rfl : n = n' := by omega
      exact ⟨rfl, rfl⟩
    | fn c d hc hd => rw [sS_fn] at h; simp at h
    | rcd ls ks hl hri hk => rw [sS_not (by show (8 : Int) ≠ 7; decide), sh_rec ls ks hl] at h; simp at h
  | fn c d hc hd => exact absurd rfl h7
  | rcd ls ks hl hri hk =>
    rw [sh_rec ls ks hl] at h
    cases vb with
    | word w' hw' x' q' e1' e2' e3' e4' =>
      obtain ⟨n1, n2, n3, n4⟩ := up_not e2'
      rw [sS_not e4', e3', e1'] at h
      simp only [List.cons_append, List.cons.injEq] at h
      exact absurd h.1.symm n4
    | dyn => rw [sS_not (by decide), sh_dyn] at h; simp at h
    | sl9 n' hn' => rw [sS_not (by show (9 : Int) ≠ 7; decide), sh_seal] at h; simp at h
    | fn c d hc hd => rw [sS_fn] at h; simp at h
    | rcd ls' ks' hl' hri' hk' =>
      rw [sS_not (by show (8 : Int) ≠ 7; decide), sh_rec ls' ks' hl', List.append_assoc, List.append_assoc] at h
      have h := List.append_cancel_left h
      obtain ⟨rfl, rfl, rfl⟩ := fs_one ls ks ls' ks' r s hl hl' (rising_fine hri) (rising_fine hri') (fun t ht => ⟨ih _ _ _ _ _ rfl t ht, rightL_get hk t ht⟩) (rightL_get hk') h
      exact ⟨rfl, rfl⟩
theorem one_node {a : Ty5} (ih : ∀ k n nm ls ks, a = .mk k n nm ls ks → ∀ t ∈ ks, One t) : One a := by
  intro ha
  have va := rv_any a ha
  by_cases h7 : kT a = 7
  · cases va with
    | word w hw x q e1 e2 e3 e4 => exact absurd h7 e4
    | dyn => exact absurd h7 (by decide)
    | sl9 n hn => exact absurd h7 (by show (9 : Int) ≠ 7; decide)
    | rcd ls ks hl hri hk => exact absurd h7 (by show (8 : Int) ≠ 7; decide)
    | fn c d hc hd =>
      have ic := ih _ _ _ _ _ rfl c (by simp) hc
      have id := ih _ _ _ _ _ rfl d (by simp) hd
      have hP : ∀ b r s, rightT varB risingB b = true → tl0 r → tl0 s → showT (.mk 7 0 ⟨#[]⟩ [] [c, d]) ++ r = showT b ++ s → (.mk 7 0 ⟨#[]⟩ [] [c, d]) = b ∧ r = s := by
        intro b r s hb hr hs h
        rw [sh_fn, List.append_assoc, List.append_assoc] at h
        have htl : ∀ q : List UInt8, tl1 ([32, 45, 62, 32] ++ q) := fun q c r' e => by simp only [List.cons_append, List.cons.injEq] at e; simp [← e.1]
        by_cases hb7 : kT b = 7
        · cases rv_any b hb with
          | word w hw x q e1 e2 e3 e4 => exact absurd hb7 e4
          | dyn => exact absurd hb7 (by decide)
          | sl9 n hn => exact absurd hb7 (by show (9 : Int) ≠ 7; decide)
          | rcd ls ks hl hri hk => exact absurd hb7 (by show (8 : Int) ≠ 7; decide)
          | fn c' d' hc' hd' =>
            rw [sh_fn, List.append_assoc, List.append_assoc] at h
            obtain ⟨rfl, h2⟩ := ic.2 c' _ _ hc' (htl _) (htl _) h
            obtain ⟨rfl, rfl⟩ := id.1 d' r s hd' hr hs (cut4 h2)
            exact ⟨rfl, rfl⟩
        · rw [← sS_not hb7] at h
          obtain ⟨_, h⟩ := ic.2 b _ s hb (htl _) (tl0_one hs) h
          exfalso
          rcases hs 32 _ h.symm with h | h | h <;> exact absurd h (by decide)
      refine ⟨hP, fun b r s hb hr hs h => ?_⟩
      rw [sS_fn, List.append_assoc, List.append_assoc] at h
      have ht0 : ∀ q : List UInt8, tl0 ([41] ++ q) := fun q c r' e => by simp only [List.cons_append, List.cons.injEq] at e; simp [← e.1]
      cases rv_any b hb with
      | word w' hw' x' q' e1' e2' e3' e4' =>
        obtain ⟨n1, n2, n3, n4⟩ := up_not e2'
        rw [sS_not e4', e3', e1'] at h
        simp only [List.cons_append, List.cons.injEq] at h
        exact absurd h.1.symm n3
      | dyn => rw [sS_not (by decide), sh_dyn] at h; simp at h
      | sl9 n' hn' => rw [sS_not (by show (9 : Int) ≠ 7; decide), sh_seal] at h; simp at h
      | rcd ls ks hl hri hk => rw [sS_not (by show (8 : Int) ≠ 7; decide), sh_rec ls ks hl] at h; simp at h
      | fn c' d' hc' hd' =>
        rw [sS_fn, List.append_assoc, List.append_assoc] at h
        obtain ⟨e, h⟩ := hP _ _ _ hb (ht0 _) (ht0 _) (List.append_cancel_left h)
        exact ⟨e, List.append_cancel_left h⟩
  · have hS := one_simple va h7 ih
    refine ⟨fun b r s hb hr hs h => ?_, fun b r s hb hr hs h => ?_⟩
    · by_cases hb7 : kT b = 7
      · cases rv_any b hb with
        | word w hw x q e1 e2 e3 e4 => exact absurd hb7 e4
        | dyn => exact absurd hb7 (by decide)
        | sl9 n hn => exact absurd hb7 (by show (9 : Int) ≠ 7; decide)
        | rcd ls ks hl hri hk => exact absurd hb7 (by show (8 : Int) ≠ 7; decide)
        | fn c' d' hc' hd' =>
          rw [sh_fn, List.append_assoc, List.append_assoc] at h
          have htl : ∀ q : List UInt8, tl1 ([32, 45, 62, 32] ++ q) := fun q c r' e => by simp only [List.cons_append, List.cons.injEq] at e; simp [← e.1]
          obtain ⟨_, h⟩ := hS c' r _ hc' (tl0_one hr) (htl _) h
          exfalso
          rcases hr 32 _ h with h | h | h <;> exact absurd h (by decide)
      · exact hS b r s hb (tl0_one hr) (tl0_one hs) (by rw [sS_not hb7]; exact h)
    · rw [sS_not h7] at h
      exact hS b r s hb hr hs h
mutual
theorem one_any : ∀ t : Ty5, One t
  | .mk k n nm ls ks => one_node fun k' n' nm' ls' ks' e t ht => by
    cases e
    exact one_all ks t ht
theorem one_all : ∀ ks : List Ty5, ∀ t ∈ ks, One t
  | [], t, h => by cases h
  | a :: r, t, h => by
    rcases List.mem_cons.1 h with e | h
    · exact e ▸ one_any a
    · exact one_all r t h
end
/-- Two right types that are shown the same are the same. -/
theorem show_inj {a b : Ty5} (ha : rightT varB risingB a = true) (hb : rightT varB risingB b = true) (h : showT a = showT b) : a = b := by
  refine ((one_any a ha).1 b [] [] hb tl0_nil tl0_nil ?_).1
  rw [List.append_nil, List.append_nil]
  exact h
end Go.Proofs.YtiajemakpdpnaaaDoor
