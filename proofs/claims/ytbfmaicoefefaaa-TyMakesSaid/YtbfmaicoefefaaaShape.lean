/- name.shape, name.Kind, name.Fine, name.Var: what they answer of any text. -/
import Derived.Test.YtbfmaicoefefaaaMath
set_option linter.unusedSimpArgs false
set_option linter.unusedVariables false
namespace Go.Proofs.Ytbfmaicoefefaaa
open Go.RowKit
theorem iterPos_of {w : World} {k : Nat} {s : ByteArray} {p : Nat} (h : w.heap[k]? = some (.stringIter s p)) : w.iterPos k = p := by simp [World.iterPos, h]

/-- What decoding gives at pos. -/
theorem decode_cases (s : ByteArray) (pos : Nat) (hp : pos < s.size) : ∃ c wd : Nat, Utf8.decode s pos = (c, wd) ∧ 1 ≤ wd ∧ ((wd = 1 ∧ (c : Int) = ((s[pos]'hp).toNat : Int)) ∨ (128 ≤ (c : Int) ∧ 128 ≤ ((s[pos]'hp).toNat : Int))) := by
  by_cases ha : (s[pos]'hp).toNat < 128
  · exact ⟨_, 1, decode_ascii s pos hp ha, Nat.le_refl _, .inl ⟨rfl, rfl⟩⟩
  · have h := decode_high s pos hp (by omega)
    exact ⟨(Utf8.decode s pos).1, (Utf8.decode s pos).2, rfl, h.2, .inr ⟨by have := h.1; omega, by omega⟩⟩

set_option maxHeartbeats 400000 in
theorem shape_any (s : ByteArray) (w : World) :
    Calls Try.prog 115 #[.string s] w fun e w' => e = .returned (.int .i64 (shapeI s.data.toList)) ∧ Below w.heap.size w w' := by
  go_enter Try.func115, Try.ntmps115
  go_wp2
  go_loopw [3] (fun v wr => ∃ (pos : Nat) (kind : Int), v = .int .i64 kind ∧ wr.heap[w.heap.size]? = some (.stringIter s pos) ∧ Below w.heap.size w wr ∧ ShapeAt s pos kind) (fun _ wr => s.size - wr.iterPos w.heap.size)
  case atStart => exact ⟨0, 0, rfl, World.iter_heap w s 0, (Below.refl _ _).alloc (Nat.le_refl _) _, .inl ⟨rfl, rfl⟩⟩
  case round =>
    obtain ⟨pos, kind, rfl, hit, hbw, hsh⟩ := hrel
    have hpos0 := iterPos_of hit
    by_cases hp : pos < s.size
    · obtain ⟨c, wd, hdec, hwd, hc⟩ := decode_cases s pos hp
      have hnx : ∀ ty, (Instr.next (.pointer (some ⟨w.heap.size, 0, none⟩)) true ty).run Try.prog wr = _ := fun ty => Lib.run_next_any_at wr w.heap.size s pos ty hit hp
      rw [hdec] at hnx
      have hit2 := Lib.iterAt_heap wr w.heap.size s pos (pos + wd) hit
      have hbw2 := Lib.below_iterAt hbw (k := w.heap.size) (Nat.le_refl _) s (pos + wd)
      simp only at hnx
      obtain ⟨W1, hW1⟩ : ∃ W1, W1 = wr.iterAt w.heap.size s (pos + wd) := ⟨_, rfl⟩
      rw [← hW1] at hnx hit2 hbw2
      clear hW1 hit hdec
      by_cases h0 : pos = 0
      · subst h0
        have hx : ShapeAt s wd (begunI (c : Int)) := shapeAt_zero hp wd hwd (c : Int) hc
        clear hc hsh
        go_wp2_with (go_at_call 124; refine (begun_any _ _).mono ?_; rintro e w' ⟨rfl, rfl⟩)
        go_roundw
        case rel => exact ⟨wd, _, rfl, by simpa using hit2, hbw2, hx⟩
        case measure => rw [iterPos_of hit2, hpos0]; omega
      · have hz : (((pos : Nat) : Int) == 0) = false := by simp; omega
        have hzz : ∀ W, Calls Try.prog 125 #[.int .i64 kind, .int .i32 (c : Int)] W fun e w' => e = .returned (.bool (contB kind (c : Int))) ∧ W = w' := fun W => continues_any kind (c : Int) W
        by_cases hg : contB kind (c : Int) = true
        · have hx : ShapeAt s (pos + wd) kind := by
            rcases hc with ⟨rfl, h⟩ | ⟨h, _⟩
            · exact shapeAt_step hsh hp (by omega) (by rw [← h]; exact hg)
            · rw [cont_high _ _ h] at hg; cases hg
          clear hc hsh
          go_wp2_with (go_at_call 125; refine (continues_any _ _ _).mono ?_; rintro e w' ⟨rfl, rfl⟩)
          go_roundw
          case rel => exact ⟨pos + wd, _, rfl, hit2, hbw2, hx⟩
          case measure => rw [iterPos_of hit2, hpos0]; omega
        · have hg : contB kind (c : Int) = false := by simpa using hg
          have hx : shapeI s.data.toList = 0 := by
            refine shapeAt_bad hsh hp (by omega) ?_
            rcases hc with ⟨_, h⟩ | ⟨_, h⟩
            · rw [← h]; exact .inl hg
            · exact .inl (cont_high _ _ h)
          have HX := Lib.hid hx
          clear hc hsh hx
          go_wp2_with (go_at_call 125; refine (continues_any _ _ _).mono ?_; rintro e w' ⟨rfl, rfl⟩)
          go_ret
          exact ⟨ret_int HX.out.symm, hbw2⟩
    · have hnx : ∀ ty, (Instr.next (.pointer (some ⟨w.heap.size, 0, none⟩)) true ty).run Try.prog wr = _ := fun ty => Lib.run_next_end_at wr w.heap.size s pos ty hit hp
      have HX := Lib.hid (shapeAt_end hsh hp)
      clear hsh
      go_wp2
      go_ret
      exact ⟨ret_int HX.out, hbw⟩

def keptI (l : List UInt8) : Int :=
  if (l == [108, 101, 116]) = true then 3 else
  if (l == [105, 110]) = true then 3 else
  if (l == [105, 102]) = true then 3 else
  if (l == [116, 104, 101, 110]) = true then 3 else
  if (l == [101, 108, 115, 101]) = true then 3 else
  if (l == [102, 110]) = true then 3 else
  if (l == [99, 97, 108, 108]) = true then 3 else
  if (l == [100, 101, 102]) = true then 3 else
  if (l == [116, 114, 117, 101]) = true then 3 else
  if (l == [102, 97, 108, 115, 101]) = true then 3 else
  if (l == [73, 110, 116]) = true then 4 else
  if (l == [66, 111, 111, 108]) = true then 4 else
  if (l == [83, 116, 114, 105, 110, 103]) = true then 4 else
  if (l == [84, 111, 112]) = true then 4 else
  0

/-- What a text is. -/
def kindI (l : List UInt8) : Int := if keptI l = 0 then (if 8 < l.length then 0 else shapeI l) else keptI l

theorem kept_long (l : List UInt8) (h : 8 < l.length) : keptI l = 0 := by
  unfold keptI
  repeat (rw [if_neg (by intro e; rw [beq_iff_eq] at e; subst e; simp at h)])
theorem ite_P {P : Int → Prop} {c : Prop} [Decidable c] {a b : Int} (ha : P a) (hb : P b) : P (if c then a else b) := by
  split
  · exact ha
  · exact hb
theorem kept_vals (l : List UInt8) : keptI l = 0 ∨ keptI l = 3 ∨ keptI l = 4 := by
  unfold keptI
  repeat' (first | exact .inl rfl | exact .inr (.inl rfl) | exact .inr (.inr rfl) | refine ite_P (P := fun x : Int => x = 0 ∨ x = 3 ∨ x = 4) ?_ ?_)

set_option maxHeartbeats 1000000 in
theorem nkind_any (s : ByteArray) (w : World) (hs : s.size ≤ maxLen) :
    Calls Try.prog 90 #[.string s] w fun e w' => e = .returned (.int .i64 (kindI s.data.toList)) ∧ Below w.heap.size w w' := by
  unfold maxLen at hs
  have hl := size_list s
  by_cases h8 : 8 < s.size
  · go_enter Try.func90, Try.ntmps90
    go_wp2
    go_ret
    exact ⟨ret_int (by simp [kindI, kept_long s.data.toList (by omega)]; omega), Below.refl _ _⟩
  rcases Bool.eq_false_or_eq_true (s.toList == [108, 101, 116]) with h0 | h0
  · go_enter Try.func90, Try.ntmps90
    go_wp2_with (go_at_call 115; refine (shape_any _ _).mono ?_; rintro e w' ⟨rfl, hb⟩)
    go_ret
    exact ⟨ret_int (by rw [ByteArray.toList_eq] at *; simp [kindI, keptI, *]), by first | exact Below.refl _ _ | exact hb⟩
  rcases Bool.eq_false_or_eq_true (s.toList == [105, 110]) with h1 | h1
  · go_enter Try.func90, Try.ntmps90
    go_wp2_with (go_at_call 115; refine (shape_any _ _).mono ?_; rintro e w' ⟨rfl, hb⟩)
    go_ret
    exact ⟨ret_int (by rw [ByteArray.toList_eq] at *; simp [kindI, keptI, *]), by first | exact Below.refl _ _ | exact hb⟩
  rcases Bool.eq_false_or_eq_true (s.toList == [105, 102]) with h2 | h2
  · go_enter Try.func90, Try.ntmps90
    go_wp2_with (go_at_call 115; refine (shape_any _ _).mono ?_; rintro e w' ⟨rfl, hb⟩)
    go_ret
    exact ⟨ret_int (by rw [ByteArray.toList_eq] at *; simp [kindI, keptI, *]), by first | exact Below.refl _ _ | exact hb⟩
  rcases Bool.eq_false_or_eq_true (s.toList == [116, 104, 101, 110]) with h3 | h3
  · go_enter Try.func90, Try.ntmps90
    go_wp2_with (go_at_call 115; refine (shape_any _ _).mono ?_; rintro e w' ⟨rfl, hb⟩)
    go_ret
    exact ⟨ret_int (by rw [ByteArray.toList_eq] at *; simp [kindI, keptI, *]), by first | exact Below.refl _ _ | exact hb⟩
  rcases Bool.eq_false_or_eq_true (s.toList == [101, 108, 115, 101]) with h4 | h4
  · go_enter Try.func90, Try.ntmps90
    go_wp2_with (go_at_call 115; refine (shape_any _ _).mono ?_; rintro e w' ⟨rfl, hb⟩)
    go_ret
    exact ⟨ret_int (by rw [ByteArray.toList_eq] at *; simp [kindI, keptI, *]), by first | exact Below.refl _ _ | exact hb⟩
  rcases Bool.eq_false_or_eq_true (s.toList == [102, 110]) with h5 | h5
  · go_enter Try.func90, Try.ntmps90
    go_wp2_with (go_at_call 115; refine (shape_any _ _).mono ?_; rintro e w' ⟨rfl, hb⟩)
    go_ret
    exact ⟨ret_int (by rw [ByteArray.toList_eq] at *; simp [kindI, keptI, *]), by first | exact Below.refl _ _ | exact hb⟩
  rcases Bool.eq_false_or_eq_true (s.toList == [99, 97, 108, 108]) with h6 | h6
  · go_enter Try.func90, Try.ntmps90
    go_wp2_with (go_at_call 115; refine (shape_any _ _).mono ?_; rintro e w' ⟨rfl, hb⟩)
    go_ret
    exact ⟨ret_int (by rw [ByteArray.toList_eq] at *; simp [kindI, keptI, *]), by first | exact Below.refl _ _ | exact hb⟩
  rcases Bool.eq_false_or_eq_true (s.toList == [100, 101, 102]) with h7 | h7
  · go_enter Try.func90, Try.ntmps90
    go_wp2_with (go_at_call 115; refine (shape_any _ _).mono ?_; rintro e w' ⟨rfl, hb⟩)
    go_ret
    exact ⟨ret_int (by rw [ByteArray.toList_eq] at *; simp [kindI, keptI, *]), by first | exact Below.refl _ _ | exact hb⟩
  rcases Bool.eq_false_or_eq_true (s.toList == [116, 114, 117, 101]) with h8 | h8
  · go_enter Try.func90, Try.ntmps90
    go_wp2_with (go_at_call 115; refine (shape_any _ _).mono ?_; rintro e w' ⟨rfl, hb⟩)
    go_ret
    exact ⟨ret_int (by rw [ByteArray.toList_eq] at *; simp [kindI, keptI, *]), by first | exact Below.refl _ _ | exact hb⟩
  rcases Bool.eq_false_or_eq_true (s.toList == [102, 97, 108, 115, 101]) with h9 | h9
  · go_enter Try.func90, Try.ntmps90
    go_wp2_with (go_at_call 115; refine (shape_any _ _).mono ?_; rintro e w' ⟨rfl, hb⟩)
    go_ret
    exact ⟨ret_int (by rw [ByteArray.toList_eq] at *; simp [kindI, keptI, *]), by first | exact Below.refl _ _ | exact hb⟩
  rcases Bool.eq_false_or_eq_true (s.toList == [73, 110, 116]) with h10 | h10
  · go_enter Try.func90, Try.ntmps90
    go_wp2_with (go_at_call 115; refine (shape_any _ _).mono ?_; rintro e w' ⟨rfl, hb⟩)
    go_ret
    exact ⟨ret_int (by rw [ByteArray.toList_eq] at *; simp [kindI, keptI, *]), by first | exact Below.refl _ _ | exact hb⟩
  rcases Bool.eq_false_or_eq_true (s.toList == [66, 111, 111, 108]) with h11 | h11
  · go_enter Try.func90, Try.ntmps90
    go_wp2_with (go_at_call 115; refine (shape_any _ _).mono ?_; rintro e w' ⟨rfl, hb⟩)
    go_ret
    exact ⟨ret_int (by rw [ByteArray.toList_eq] at *; simp [kindI, keptI, *]), by first | exact Below.refl _ _ | exact hb⟩
  rcases Bool.eq_false_or_eq_true (s.toList == [83, 116, 114, 105, 110, 103]) with h12 | h12
  · go_enter Try.func90, Try.ntmps90
    go_wp2_with (go_at_call 115; refine (shape_any _ _).mono ?_; rintro e w' ⟨rfl, hb⟩)
    go_ret
    exact ⟨ret_int (by rw [ByteArray.toList_eq] at *; simp [kindI, keptI, *]), by first | exact Below.refl _ _ | exact hb⟩
  rcases Bool.eq_false_or_eq_true (s.toList == [84, 111, 112]) with h13 | h13
  · go_enter Try.func90, Try.ntmps90
    go_wp2_with (go_at_call 115; refine (shape_any _ _).mono ?_; rintro e w' ⟨rfl, hb⟩)
    go_ret
    exact ⟨ret_int (by rw [ByteArray.toList_eq] at *; simp [kindI, keptI, *]), by first | exact Below.refl _ _ | exact hb⟩
  go_enter Try.func90, Try.ntmps90
  go_wp2_with (go_at_call 115; refine (shape_any _ _).mono ?_; rintro e w' ⟨rfl, hb⟩)
  go_ret
  exact ⟨ret_int (by rw [ByteArray.toList_eq] at *; simp [kindI, keptI, *]), by first | exact Below.refl _ _ | exact hb⟩
end Go.Proofs.Ytbfmaicoefefaaa
