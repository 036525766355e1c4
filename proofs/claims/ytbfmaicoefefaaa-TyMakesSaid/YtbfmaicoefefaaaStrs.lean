/- Slices of strings: which texts they hold; where one stands; plain mathematics on lists of texts. -/
import Derived.Test.YtbfmaicoefefaaaShape
import Derived.Test.YtbfmaicoefefaaaTyP
import Derived.WalkLawsBesides
set_option linter.unusedSimpArgs false
set_option linter.unusedVariables false
namespace Go.Proofs.Ytbfmaicoefefaaa
open Go.RowKit
theorem getD_mem {ss : List ByteArray} {k : Nat} (h : k < ss.length) : stAt ss k ∈ ss := by
  rw [stAt_get h]
  exact List.getElem_mem h

def placeI (ss : List ByteArray) (s : ByteArray) : Int := match ss.findIdx? (fun x => x.toList == s.toList) with
  | some i => (i : Int)
  | none => -1

theorem place_some {ss : List ByteArray} {s : ByteArray} {k : Nat} (hk : k < ss.length) (h : ((stAt ss k).toList == s.toList) = true) (hb : ∀ j, j < k → ((stAt ss j).toList == s.toList) = false) : placeI ss s = (k : Int) := by
  have : ss.findIdx? (fun x => x.toList == s.toList) = some k := by
    rw [List.findIdx?_eq_some_iff_getElem]
    refine ⟨hk, ?_, fun j hj => ?_⟩
    · rw [stAt_get hk] at h
      exact h
    · have := hb j hj
      rw [stAt_get (by omega)] at this
      rw [this]; simp
  simp [placeI, this]
theorem place_none {ss : List ByteArray} {s : ByteArray} (hb : ∀ j, j < ss.length → ((stAt ss j).toList == s.toList) = false) : placeI ss s = -1 := by
  have : ss.findIdx? (fun x => x.toList == s.toList) = none := by
    rw [List.findIdx?_eq_none_iff]
    intro x hx
    obtain ⟨j, hj⟩ := List.mem_iff_getElem?.1 hx
    have hjl := (List.getElem?_eq_some_iff.1 hj).1
    have := hb j hjl
    rw [stAt_get hjl, (List.getElem?_eq_some_iff.1 hj).2] at this
    exact this
  simp [placeI, this]
theorem place_range (ss : List ByteArray) (s : ByteArray) : -1 ≤ placeI ss s ∧ placeI ss s < (ss.length : Int) := by
  unfold placeI
  split
  · rename_i i h
    have := (List.findIdx?_eq_some_iff_getElem.1 h).1
    omega
  · omega
theorem beq_turn (a b : List UInt8) : (a == b) = (b == a) := by
  rw [Bool.eq_iff_iff, beq_iff_eq, beq_iff_eq]; exact eq_comm

theorem index_any (v : Value) (ss : List ByteArray) (s : ByteArray) (w : World) (h : StrsAt w v ss) :
    Calls Try.prog 61 #[v, .string s] w fun e w' => e = .returned (.int .i64 (placeI ss s)) ∧ w = w' := by
  obtain ⟨hs, hm, h⟩ := h
  unfold maxLen at hm
  rcases h with ⟨a, cap, rfl, rfl⟩ | ⟨b, off, cap, rfl, hb, hc⟩
  · go_enter Try.func61, Try.ntmps61
    go_wp2
    go_rounds 1
    go_ret
    exact ⟨ret_int rfl, rfl⟩
  · go_enter Try.func61, Try.ntmps61
    go_wp2
    go_loop [8] (fun i => ∃ k : Nat, k ≤ ss.length ∧ i = .int .i64 k ∧ ∀ j, j < k → ((stAt ss j).toList == s.toList) = false) (fun i => ss.length - (intOf i).toNat)
    case atStart => exact ⟨0, by omega, rfl, fun j hj => by omega⟩
    case round =>
      obtain ⟨k, hk, rfl, hq⟩ := hrel
      have HQ := Lib.hid hq
      clear hq
      by_cases hlt : k < ss.length
      · have hcx := hc k hlt
        obtain ⟨x, hx⟩ : ∃ x, x = stAt ss k := ⟨_, rfl⟩
        rw [← hx] at hcx
        have HX := Lib.hid hx
        clear hx hc
        rcases Bool.eq_false_or_eq_true (s.toList == x.toList) with he | he
        · go_wp2
          go_ret
          exact ⟨ret_int (place_some hlt (by rw [← HX.out, beq_turn]; exact he) HQ.out).symm, rfl⟩
        · go_wp2
          go_round
          case rel => exact ⟨k + 1, by omega, by go_num, fun j hj => by
            by_cases hjk : j = k
            · subst hjk; rw [← HX.out, beq_turn]; exact he
            · exact HQ.out j (by omega)⟩
          case measure => simp [intOf]; omega
      · have : k = ss.length := by omega
        subst this
        clear hc
        go_wp2
        go_ret
        exact ⟨ret_int (place_none HQ.out).symm, rfl⟩

/-- Is a text a name? a variable? -/
def fineB (s : ByteArray) : Bool := kindI s.data.toList == 1
def varB (s : ByteArray) : Bool := kindI s.data.toList == 2
theorem fine_any (s : ByteArray) (w : World) (hs : s.size ≤ maxLen) : Calls Try.prog 83 #[.string s] w fun e w' => e = .returned (.bool (fineB s)) ∧ Below w.heap.size w w' := by
  go_enter Try.func83, Try.ntmps83
  go_wp2_with (go_at_call 90; refine (nkind_any _ _ hs).mono ?_; rintro e w' ⟨rfl, hb⟩)
  go_ret
  exact ⟨rfl, hb⟩
theorem var_any (s : ByteArray) (w : World) (hs : s.size ≤ maxLen) : Calls Try.prog 77 #[.string s] w fun e w' => e = .returned (.bool (varB s)) ∧ Below w.heap.size w w' := by
  go_enter Try.func77, Try.ntmps77
  go_wp2_with (go_at_call 90; refine (nkind_any _ _ hs).mono ?_; rintro e w' ⟨rfl, hb⟩)
  go_ret
  exact ⟨rfl, hb⟩
def ltS (a b : ByteArray) : Bool := Op.bytesLess a.toList b.toList
/-- Does the list rise at place j? -/
def upAt (ss : List ByteArray) (j : Nat) : Bool := fineB (stAt ss j) && (j == 0 || ltS (stAt ss (j - 1)) (stAt ss j))
theorem up_zero (ss : List ByteArray) : upAt ss 0 = fineB (stAt ss 0) := by simp [upAt]
theorem up_succ (ss : List ByteArray) (q : Nat) : upAt ss (q + 1) = (fineB (stAt ss (q + 1)) && ltS (stAt ss q) (stAt ss (q + 1))) := by simp [upAt]
def risingB (ss : List ByteArray) : Bool := (List.range ss.length).all (upAt ss)
theorem rising_true {ss : List ByteArray} (h : ∀ j, j < ss.length → upAt ss j = true) : risingB ss = true := by
  simp only [risingB, List.all_eq_true, List.mem_range]; exact h
theorem rising_false {ss : List ByteArray} {k : Nat} (hk : k < ss.length) (h : upAt ss k = false) : risingB ss = false := by
  rw [Bool.eq_false_iff]
  intro hr
  simp only [risingB, List.all_eq_true, List.mem_range] at hr
  rw [hr k hk] at h
  cases h

/-- The order of bytes: what it is not to be less. -/
theorem less_irr : ∀ a : List UInt8, Op.bytesLess a a = false
  | [] => rfl
  | x :: a => by simp [Op.bytesLess, less_irr a]
theorem less_total : ∀ a b : List UInt8, Op.bytesLess a b = true ∨ a = b ∨ Op.bytesLess b a = true
  | [], [] => .inr (.inl rfl)
  | [], _ :: _ => .inl rfl
  | _ :: _, [] => .inr (.inr rfl)
  | x :: a, y :: b => by
    simp only [Op.bytesLess, Bool.or_eq_true, Bool.and_eq_true, decide_eq_true_eq, beq_iff_eq]
    rcases Nat.lt_trichotomy x.toNat y.toNat with h | h | h
    · exact .inl (.inl h)
    · have e : x = y := UInt8.toNat_inj.1 h
      subst e
      rcases less_total a b with h | h | h
      · exact .inl (.inr ⟨rfl, h⟩)
      · exact .inr (.inl (by rw [h]))
      · exact .inr (.inr (.inr ⟨rfl, h⟩))
    · exact .inr (.inr (.inl h))
theorem less_trans : ∀ a b c : List UInt8, Op.bytesLess a b = true → Op.bytesLess b c = true → Op.bytesLess a c = true
  | _, [], _, h, _ => by cases ‹List UInt8› <;> simp [Op.bytesLess] at h
  | _, _ :: _, [], _, h => by simp [Op.bytesLess] at h
  | [], _ :: _, _ :: _, _, _ => rfl
  | x :: a, y :: b, z :: c, h, k => by
    simp only [Op.bytesLess, Bool.or_eq_true, Bool.and_eq_true, decide_eq_true_eq, beq_iff_eq] at h k ⊢
    rcases h with h | ⟨rfl, h⟩
    · rcases k with k | ⟨rfl, k⟩
      · exact .inl (Nat.lt_trans h k)
      · exact .inl h
    · rcases k with k | ⟨rfl, k⟩
      · exact .inl k
      · exact .inr ⟨rfl, less_trans a b c h k⟩
/-- 'b <= a' is 'not a < b'. -/
theorem leq_not (a b : List UInt8) : (Op.bytesLess b a || b == a) = !Op.bytesLess a b := by
  rw [Bool.eq_iff_iff]
  simp only [Bool.or_eq_true, beq_iff_eq, Bool.not_eq_true']
  constructor
  · rintro (h | rfl)
    · rw [Bool.eq_false_iff]
      intro k
      have := less_trans _ _ _ h k
      rw [less_irr] at this
      cases this
    · exact less_irr _
  · intro h
    rcases less_total a b with k | k | k
    · rw [k] at h; cases h
    · exact .inr k.symm
    · exact .inl k

set_option maxHeartbeats 400000 in
theorem rising_any (v : Value) (ss : List ByteArray) (w : World) (h : StrsAt w v ss) :
    Calls Try.prog 58 #[v] w fun e w' => e = .returned (.bool (risingB ss)) ∧ Below w.heap.size w w' := by
  obtain ⟨hs, hm, h⟩ := h
  unfold maxLen at hm
  rcases h with ⟨a, cap, rfl, rfl⟩ | ⟨b, off, cap, rfl, hb, hc⟩
  · go_enter Try.func58, Try.ntmps58
    go_wp2
    go_rounds 1
    go_ret
    exact ⟨ret_bool rfl, Below.refl _ _⟩
  · go_enter Try.func58, Try.ntmps58
    go_wp2
    go_loopw [7] (fun i wr => ∃ k : Nat, k ≤ ss.length ∧ i = .int .i64 k ∧ Below w.heap.size w wr ∧ ∀ j, j < k → upAt ss j = true) (fun i _ => ss.length - (intOf i).toNat)
    case atStart => exact ⟨0, by omega, rfl, Below.refl _ _, fun j hj => by omega⟩
    case round =>
      obtain ⟨k, hk, rfl, hbw, hq⟩ := hrel
      have HQ := Lib.hid hq
      clear hq
      by_cases hlt : k < ss.length
      · have hcx := (hbw.cell (p := ⟨b, off + k, none⟩) hb).trans (hc k hlt)
        have hsx := hs _ (getD_mem hlt)
        obtain ⟨x, hx⟩ : ∃ x, x = stAt ss k := ⟨_, rfl⟩
        rw [← hx] at hcx hsx
        have HX := Lib.hid hx
        clear hx
        by_cases h0 : k = 0
        · subst h0
          clear hc
          simp only [Nat.add_zero] at hcx
          rcases Bool.eq_false_or_eq_true (fineB x) with hf | hf
          · go_wp2_with (go_at_call 83; refine (fine_any _ _ hsx).mono ?_; rintro e w1 ⟨rfl, hb1⟩)
            go_roundw
            case rel => exact ⟨1, by omega, by go_num, hbw.trans (hb1.mono hbw.size), fun j hj => by
              obtain rfl : j = 0 := by omega
              rw [up_zero, ← HX.out]; exact hf⟩
            case measure => simp [intOf]; omega
          · go_wp2_with (go_at_call 83; refine (fine_any _ _ hsx).mono ?_; rintro e w1 ⟨rfl, hb1⟩)
            go_ret
            exact ⟨ret_bool (rising_false hlt (by rw [up_zero, ← HX.out]; exact hf)).symm, hbw.trans (hb1.mono hbw.size)⟩
        · obtain ⟨q, rfl⟩ : ∃ q, k = q + 1 := ⟨k - 1, by omega⟩
          have hcy := (hbw.cell (p := ⟨b, off + q, none⟩) hb).trans (hc q (by omega))
          obtain ⟨y, hy⟩ : ∃ y, y = stAt ss q := ⟨_, rfl⟩
          rw [← hy] at hcy
          have HY := Lib.hid hy
          clear hy hc
          rcases Bool.eq_false_or_eq_true (fineB x) with hf | hf
          · rcases Bool.eq_false_or_eq_true (Op.bytesLess y.toList x.toList) with hl | hl
            · have hl2 : (Op.bytesLess x.toList y.toList || x.toList == y.toList) = false := by rw [leq_not, hl]; rfl
              go_wp2_with (go_at_call 83; refine (fine_any _ _ hsx).mono ?_; rintro e w1 ⟨rfl, hb1⟩; have hcz := (hb1.cell (p := ⟨b, off + q, none⟩) (Nat.lt_of_lt_of_le hb hbw.size)).trans hcy)
              go_roundw
              case rel => exact ⟨q + 1 + 1, by omega, by go_num, hbw.trans (hb1.mono hbw.size), fun j hj => by
                by_cases hjq : j = q + 1
                · subst hjq; rw [up_succ, ← HX.out, ← HY.out, hf]; exact hl
                · exact HQ.out j (by omega)⟩
              case measure => simp [intOf]; omega
            · have hl2 : (Op.bytesLess x.toList y.toList || x.toList == y.toList) = true := by rw [leq_not, hl]; rfl
              go_wp2_with (go_at_call 83; refine (fine_any _ _ hsx).mono ?_; rintro e w1 ⟨rfl, hb1⟩; have hcz := (hb1.cell (p := ⟨b, off + q, none⟩) (Nat.lt_of_lt_of_le hb hbw.size)).trans hcy)
              go_ret
              exact ⟨ret_bool (rising_false hlt (by rw [up_succ, ← HX.out, ← HY.out, hf]; exact hl)).symm, hbw.trans (hb1.mono hbw.size)⟩
          · go_wp2_with (go_at_call 83; refine (fine_any _ _ hsx).mono ?_; rintro e w1 ⟨rfl, hb1⟩)
            go_ret
            exact ⟨ret_bool (rising_false hlt (by rw [up_succ, ← HX.out, hf]; rfl)).symm, hbw.trans (hb1.mono hbw.size)⟩
      · have : k = ss.length := by omega
        subst this
        clear hc
        go_wp2
        go_ret
        exact ⟨ret_bool (rising_true HQ.out).symm, hbw⟩
end Go.Proofs.Ytbfmaicoefefaaa
