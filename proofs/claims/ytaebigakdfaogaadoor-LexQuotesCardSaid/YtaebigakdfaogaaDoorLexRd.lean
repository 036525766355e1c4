/- The reader: a source, and where it stands; what the small method 'take' does to it. -/
import Derived.Test.YtaebigakdfaogaaDoorLexLow
import Derived.Deep.QuietTactic
import Derived.BigQuiet
import Derived.Deep.LoopGhost
import Derived.Lib.Builder
namespace Go.Proofs.YtaebigakdfaogaaDoor
open Go.RowKit
/-- A fact laid aside. -/
structure Asd (p : Prop) : Prop where
  out : p
def runN (q : Int → Bool) : List UInt8 → Nat
  | [] => 0
  | c :: r => if q (c.toNat : Int) = true then runN q r + 1 else 0
theorem runN_le (q : Int → Bool) : ∀ l : List UInt8, runN q l ≤ l.length
  | [] => Nat.le_refl _
  | c :: r => by
    have := runN_le q r
    simp only [runN, List.length_cons]
    split <;> omega
def rest (s : ByteArray) (p : Nat) : List UInt8 := s.data.toList.drop p
theorem rest_lt (s : ByteArray) (p : Nat) (h : p < s.size) : rest s p = s[p] :: rest s (p + 1) := by
  unfold rest
  rw [List.drop_eq_getElem_cons (by rw [size_list]; exact h)]
  rfl
theorem rest_end (s : ByteArray) (p : Nat) (h : s.size ≤ p) : rest s p = [] := by
  unfold rest
  rw [List.drop_eq_nil_iff]
  exact h
theorem rest_len (s : ByteArray) (p : Nat) : (rest s p).length = s.size - p := by
  unfold rest
  rw [List.length_drop, size_list]
theorem rest_drop (s : ByteArray) (p k : Nat) : (rest s p).drop k = rest s (p + k) := by
  unfold rest
  rw [List.drop_drop]
theorem byte_le (c : UInt8) : 0 ≤ (c.toNat : Int) ∧ (c.toNat : Int) ≤ 255 := by
  have := c.toNat_lt
  omega

/-- The reader in block b: in w' it stands at p; all other blocks of w are in w' as they were. -/
structure Rd (b : Nat) (s : ByteArray) (p : Nat) (w w' : World) : Prop where
  os : w'.os = w.os
  tape : w'.tape = w.tape
  output : w'.output = w.output
  size : w.heap.size ≤ w'.heap.size
  lt : b < w.heap.size
  block : ∀ k, k < w.heap.size → k ≠ b → w'.heap[k]? = w.heap[k]?
  here : w'.heap[b]? = some (.cells #[.string s, .int .i64 p] 43 (0, 0))
theorem Rd.trans {b : Nat} {s s' : ByteArray} {p p' : Nat} {w w1 w2 : World} (h : Rd b s p w w1) (k : Rd b s' p' w1 w2) : Rd b s' p' w w2 :=
  ⟨k.os.trans h.os, k.tape.trans h.tape, k.output.trans h.output, Nat.le_trans h.size k.size, h.lt, fun i hi hn => (k.block i (Nat.lt_of_lt_of_le hi h.size) hn).trans (h.block i hi hn), k.here⟩
theorem Rd.refl {b : Nat} {s : ByteArray} {p : Nat} {w : World} (h : w.heap[b]? = some (.cells #[.string s, .int .i64 p] 43 (0, 0))) : Rd b s p w w :=
  ⟨rfl, rfl, rfl, Nat.le_refl _, by
    rcases Nat.lt_or_ge b w.heap.size with h' | h'
    · exact h'
    · simp [Array.getElem?_eq_none h'] at h, fun _ _ _ => rfl, h⟩
theorem Rd.below {b : Nat} {s : ByteArray} {p : Nat} {w w1 w2 : World} (h : Rd b s p w w1) (k : Below w1.heap.size w1 w2) : Rd b s p w w2 :=
  ⟨k.os.trans h.os, k.tape.trans h.tape, k.output.trans h.output, Nat.le_trans h.size k.size, h.lt, fun i hi hn => (k.block i (Nat.lt_of_lt_of_le hi h.size)).trans (h.block i hi hn), (k.block b (Nat.lt_of_lt_of_le h.lt h.size)).trans h.here⟩
theorem Rd.drewN {b : Nat} {s : ByteArray} {p : Nat} {w w1 : World} (h : Rd b s p w w1) (n : Nat) : Rd b s p w (w1.drewN n) := ⟨h.os, h.tape, h.output, h.size, h.lt, h.block, h.here⟩
theorem Rd.put {b : Nat} {s : ByteArray} {p : Nat} {w w1 : World} (h : Rd b s p w w1) (q : Nat) (v : Int) (hv : v = (q : Int)) : Rd b s q w (w1.setCell ⟨b, 1, none⟩ (.int .i64 v)) := by
  subst hv
  refine ⟨h.os, h.tape, h.output, by simpa [World.setCell] using h.size, h.lt, fun i hi hn => ?_, ?_⟩
  · rw [Below.heap_setCell _ _ _ _ (fun e => hn e)]
    exact h.block i hi hn
  · simp [World.setCell, Array.getElem?_modify, h.here]
/-- A store into a block that w did not have. -/
theorem Rd.own {b : Nat} {s : ByteArray} {p : Nat} {w w1 : World} (h : Rd b s p w w1) {a : Addr} (ha : w.heap.size ≤ a.block) (u : Value) : Rd b s p w (w1.setCell a u) := by
  have hlt := h.lt
  refine ⟨h.os, h.tape, h.output, by simpa [World.setCell] using h.size, h.lt, fun i hi hn => ?_, ?_⟩
  · rw [Below.heap_setCell _ _ _ _ (by omega)]
    exact h.block i hi hn
  · rw [Below.heap_setCell _ _ _ _ (by omega)]
    exact h.here
theorem Rd.alloc {b : Nat} {s : ByteArray} {p : Nat} {w w1 : World} (h : Rd b s p w w1) (o : Obj) : Rd b s p w (w1.alloc o) := h.below ((Below.refl _ _).alloc (Nat.le_refl _) _)
theorem Rd.c0 {b : Nat} {s : ByteArray} {p : Nat} {w w1 : World} (h : Rd b s p w w1) : w1.cell? ⟨b, 0, none⟩ = some (.string s) := by simp [World.cell?, h.here]
theorem Rd.c1 {b : Nat} {s : ByteArray} {p : Nat} {w w1 : World} (h : Rd b s p w w1) : w1.cell? ⟨b, 1, none⟩ = some (.int .i64 p) := by simp [World.cell?, h.here]
theorem Rd.f1 {b : Nat} {s : ByteArray} {p : Nat} {w w1 : World} (h : Rd b s p w w1) : w1.frozen? ⟨b, 1, none⟩ = false := by simp [World.frozen?, h.here]
theorem Rd.cell {b : Nat} {s : ByteArray} {p : Nat} {w w1 : World} (h : Rd b s p w w1) {a : Addr} {v : Value} (hb : a.block ≠ b) (hc : w.cell? a = some v) : w1.cell? a = some v := by
  rw [← hc]
  exact World.cell?_of_block (w := w) (h.block a.block (Nat.lt_of_not_le fun hn => by simp [World.cell?, Array.getElem?_eq_none hn] at hc) hb)
theorem Rd.of_below {b : Nat} {s : ByteArray} {p : Nat} {w w1 : World} (h : Rd b s p w w1) : Below b w w1 := ⟨h.os, h.tape, h.output, h.size, fun k hk => h.block k (by have := h.lt; omega) (by omega)⟩
end Go.Proofs.YtaebigakdfaogaaDoor
