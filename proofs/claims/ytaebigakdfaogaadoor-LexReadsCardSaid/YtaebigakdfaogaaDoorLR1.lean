/- The document's lexer: what a place gives; bad, letter, Hex, escape, digit. -/
import Derived.Test.YtaebigakdfaogaaDoorLRef
import Derived.Test.YtaebigakdfaogaaDoorLexAll
namespace Go.Proofs.YtaebigakdfaogaaDoor
open Go.RowKit
/-- What the document's lexer tells of a place. -/
def gotV (k n : Int) (t : ByteArray) (a : Int) (sk : Bool) (to e at' : Int) : Value :=
  .agg #[.int .i64 k, .int .i64 n, .string t, .int .i64 a, .bool sk, .int .i64 to, .int .i64 e, .int .i64 at']
def gotOf : It → Nat → Value
  | .tok k n t wd, p => gotV k n (bytesOf t) p false ((p : Int) + wd) 0 0
  | .bad c o, p => gotV 0 0 ⟨#[]⟩ 0 false 0 c ((p : Int) + o)
def zeroGot : Array Value := #[.int .i64 0, .int .i64 0, .string ⟨#[]⟩, .int .i64 0, .bool false, .int .i64 0, .int .i64 0, .int .i64 0]
theorem got_stored {w : World} {r : Nat} {cs : Array Value} {t : TypeId} (hz : w.heap[r]? = some (.cells cs t (0, 0))) (hc : cs.size = 8) (v0 v1 v2 v3 v4 v5 v6 v7 : Value) :
    ((((((((w.setCell ⟨r, 0, none⟩ v0).setCell ⟨r, 1, none⟩ v1).setCell ⟨r, 2, none⟩ v2).setCell ⟨r, 3, none⟩ v3).setCell ⟨r, 4, none⟩ v4).setCell ⟨r, 5, none⟩ v5).setCell ⟨r, 6, none⟩ v6).setCell ⟨r, 7, none⟩ v7).heap[r]? = some (.cells #[v0, v1, v2, v3, v4, v5, v6, v7] t (0, 0)) := by
  match cs, hc with
  | ⟨[a, b, c, d, e, f, g, h]⟩, _ => simp [World.setCell, Array.getElem?_modify, hz]
theorem got_ret {P : Program} {f : Func} {Q : Ending → World → Prop} {a : Act} {w w5 : World} {cs : Array Value} {t : TypeId} {v0 v1 v2 v3 v4 v5 v6 v7 : Value}
    (h : Below w.heap.size w w5) (hz : w5.heap[w.heap.size]? = some (.cells cs t (0, 0))) (hc : cs.size = 8)
    (hQ : ∀ W, Below w.heap.size w W → W.cell? ⟨w.heap.size, 0, none⟩ = some v0 → W.cell? ⟨w.heap.size, 1, none⟩ = some v1 → W.cell? ⟨w.heap.size, 2, none⟩ = some v2 → W.cell? ⟨w.heap.size, 3, none⟩ = some v3 →
      W.cell? ⟨w.heap.size, 4, none⟩ = some v4 → W.cell? ⟨w.heap.size, 5, none⟩ = some v5 → W.cell? ⟨w.heap.size, 6, none⟩ = some v6 → W.cell? ⟨w.heap.size, 7, none⟩ = some v7 → bodyPost P f Q Exit.ret a W) :
    bodyPost P f Q Exit.ret a ((((((((w5.setCell ⟨w.heap.size, 0, none⟩ v0).setCell ⟨w.heap.size, 1, none⟩ v1).setCell ⟨w.heap.size, 2, none⟩ v2).setCell ⟨w.heap.size, 3, none⟩ v3).setCell ⟨w.heap.size, 4, none⟩ v4).setCell ⟨w.heap.size, 5, none⟩ v5).setCell ⟨w.heap.size, 6, none⟩ v6).setCell ⟨w.heap.size, 7, none⟩ v7) := by
  have hs := got_stored hz hc v0 v1 v2 v3 v4 v5 v6 v7
  refine hQ _ ((((((((h.setCell (Nat.le_refl _) v0).setCell (Nat.le_refl _) v1).setCell (Nat.le_refl _) v2).setCell (Nat.le_refl _) v3).setCell (Nat.le_refl _) v4).setCell (Nat.le_refl _) v5).setCell (Nat.le_refl _) v6).setCell (Nat.le_refl _) v7) (cell_of hs 0) (cell_of hs 1) (cell_of hs 2) (cell_of hs 3) (cell_of hs 4) (cell_of hs 5) (cell_of hs 6) (cell_of hs 7)
/-- A new block of eight cells, in a later world. -/
structure G8 (w w5 : World) : Prop where
  below : Below w.heap.size w w5
  blk : w5.heap[w.heap.size]? = some (.cells zeroGot 47 (0, 0))
theorem G8.start (w W : World) (hW : W = w.alloc (.cells #[.int .i64 0, .int .i64 0, .string ⟨#[]⟩, .int .i64 0, .bool false, .int .i64 0, .int .i64 0, .int .i64 0] 47)) : G8 w W := by
  subst hW
  exact ⟨(Below.refl _ _).alloc (Nat.le_refl _) _, alloc_blk _ _⟩
theorem G8.step {w w5 w6 : World} (h : G8 w w5) (hb : Below w5.heap.size w5 w6) : G8 w w6 := ⟨h.below.trans (hb.mono h.below.size), below_blk hb h.blk⟩

theorem rbad_any (e a : Int) (w : World) : Calls Tryd.prog 50 #[.int .i64 e, .int .i64 a] w fun v w' => v = .returned (gotV 0 0 ⟨#[]⟩ 0 false 0 e a) ∧ Below w.heap.size w w' := by
  go_enter Tryd.func50, Tryd.ntmps50
  go_wp2_with fail
  exact bodyPost_ret (v := gotV 0 0 ⟨#[]⟩ 0 false 0 e a) (by simp [results, Tryd.results50, go_sem, gotV]) rfl ⟨rfl, (Below.refl _ _).alloc (Nat.le_refl _) _⟩
theorem rletter_any (c : Int) (w : World) : Calls Tryd.prog 31 #[.int .u8 c] w fun e w' => e = .returned (.bool (alnB c)) ∧ w = w' := by
  go_enter Tryd.func31, Tryd.ntmps31
  go_wp2_with (first | (go_at_call 51; refine (rlow_any _ _).mono ?_; rintro e w' ⟨rfl, rfl⟩) | (go_at_call 52; refine (rup_any _ _).mono ?_; rintro e w' ⟨rfl, rfl⟩) | (go_at_call 29; refine (rdigit_any _ _).mono ?_; rintro e w' ⟨rfl, rfl⟩))
  all_goals go_ret
  all_goals exact ⟨ret_bool (by simp_all [alnB, letB]), rfl⟩
theorem rhex_any (c : Int) (w : World) (h0 : 0 ≤ c) (h1 : c ≤ 255) : Calls Tryd.prog 64 #[.int .u8 c] w fun e w' => e = .returned (.int .i64 (dgtI 16 c)) ∧ w = w' := by
  unfold dgtI
  rcases Bool.eq_false_or_eq_true (digB c) with hd | hd
  · have hd2 : 48 ≤ c ∧ c ≤ 57 := by simpa [digB] using hd
    obtain ⟨d1, d2⟩ := hd2
    rw [hd, if_pos rfl, if_pos (by omega)]
    go_enter Tryd.func64, Tryd.ntmps64
    go_wp2_with fail
    go_ret
    exact ⟨rfl, rfl⟩
  · have hd2 : ¬ (48 ≤ c ∧ c ≤ 57) := by simpa [digB] using hd
    rw [hd, if_neg (by simp)]
    by_cases h97 : 97 ≤ c
    · by_cases h102 : c ≤ 102
      · have hl : lowB c = true := by simp [lowB]; omega
        have hn : ¬ c ≤ 57 := by omega
        rw [hl, if_pos rfl, if_pos (by omega)]
        clear hl hd hd2
        go_enter Tryd.func64, Tryd.ntmps64
        go_wp2_with fail
        go_ret
        exact ⟨rfl, rfl⟩
      · have hn : ¬ c ≤ 57 := by omega
        have hr : (if lowB c = true then (if c - 97 + 10 < 16 then c - 97 + 10 else -1) else -1) = (-1 : Int) := by
          split
          · rw [if_neg (by omega)]
          · rfl
        rw [hr]
        clear hr hd hd2
        go_enter Tryd.func64, Tryd.ntmps64
        go_wp2_with fail
        go_ret
        exact ⟨rfl, rfl⟩
    · have hl : lowB c = false := by simp [lowB]; omega
      rw [hl, if_neg (by simp)]
      clear hl hd
      by_cases h48 : 48 ≤ c
      · have h57 : ¬ c ≤ 57 := by omega
        clear hd2
        go_enter Tryd.func64, Tryd.ntmps64
        go_wp2_with fail
        go_ret
        exact ⟨rfl, rfl⟩
      · clear hd2
        go_enter Tryd.func64, Tryd.ntmps64
        go_wp2_with fail
        go_ret
        exact ⟨rfl, rfl⟩
end Go.Proofs.YtaebigakdfaogaaDoor
