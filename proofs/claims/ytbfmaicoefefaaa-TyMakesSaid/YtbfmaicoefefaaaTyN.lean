/- The document's own answers of layer 4: nodes. -/
import Derived.Test.YtbfmaicoefefaaaTyP
import Derived.BigQuiet
import Derived.Deep.QuietTactic
import Derived.Laws.RangeAny
import Derived.Lib.OthersKept
import Derived.Lib.QuietBelow
set_option linter.unusedSimpArgs false
set_option linter.unusedVariables false
namespace Go.Proofs.Ytbfmaicoefefaaa
open Go.RowKit Go.Deep Go.Sort
theorem alloc_at (w : World) (vs : Array Value) (t : TypeId) (i : Nat) (v : Value) (h : vs[i]? = some v) : (w.alloc (.cells vs t)).cell? ⟨w.heap.size, i, none⟩ = some v := by
  have hi : i < vs.size := (Array.getElem?_eq_some_iff.1 h).1
  simp [go_sem, h]
theorem alloc_lt (w : World) (o : Obj) : w.heap.size < (w.alloc o).heap.size := by
  simp [go_sem]
theorem i64_small {a b : Int} (h : a = b) (h0 : 0 ≤ b) (h1 : b ≤ 1000001) : Value.int .i64 (wrap64 a) = .int .i64 b := by
  subst h
  have : wrap64 a = a := by unfold wrap64; omega
  rw [this]
theorem cell_below {w w' : World} (h : Below w.heap.size w w') {a : Addr} {v : Value} (hc : w.cell? a = some v) : w'.cell? a = some v := by
  rw [← hc]
  exact h.cell (Nat.lt_of_not_le fun hn => by simp [World.cell?, Array.getElem?_eq_none hn] at hc)
set_option maxHeartbeats 1000000 in
theorem rnodes_any : ∀ (f : Nat) (t : Ty5) (v0 v1 v2 v3 v4 : Value) (w : World), szT t ≤ f → nodesT t ≤ 1000000 → TyIn w t v0 v1 v2 v3 v4 →
    Calls Try.prog 16 #[.agg #[v0, v1, v2, v3, v4]] w fun e w' => e = .returned (.int .i64 (nodesT t)) ∧ Below w.heap.size w w'
  | 0, t, _, _, _, _, _, _, h, _, _ => absurd (szT_pos t) (by omega)
  | f + 1, .mk k n nm ls ks, v0, v1, v2, v3, v4, w, hz, hn, hT => by
    obtain ⟨rfl, rfl, ⟨rfl, hm⟩, hl, hk, h4⟩ := hT
    unfold maxLen at hk
    rcases h4 with ⟨a, cap, rfl, rfl⟩ | ⟨b, off, cap, rfl, hr⟩
    · go_enter Try.func16, Try.ntmps16
      go_wp2
      go_rounds 1
      go_ret
      exact ⟨retI rfl, by go_grown⟩
    · have IH := Asd.mk (rnodes_any f)
      have HZ := Asd.mk hz
      have HN := Asd.mk hn
      have HM := Asd.mk hm
      have HL := Asd.mk hl
      have HR := Asd.mk hr
      clear hz hn hm hl hr
      go_enter Try.func16, Try.ntmps16
      go_wp2
      have Z := alloc_at w #[.int .i64 k, .int .i64 n, .string nm, v3, .slice (some ⟨b, off, none⟩) ks.length cap] 25 4 _ rfl
      have L := alloc_lt w (.cells #[.int .i64 k, .int .i64 n, .string nm, v3, .slice (some ⟨b, off, none⟩) ks.length cap] 25)
      have B1 : Below w.heap.size w (w.alloc (.cells #[.int .i64 k, .int .i64 n, .string nm, v3, .slice (some ⟨b, off, none⟩) ks.length cap] 25)) := (Below.refl _ _).alloc (Nat.le_refl _) _
      generalize w.alloc (.cells #[.int .i64 k, .int .i64 n, .string nm, v3, .slice (some ⟨b, off, none⟩) ks.length cap] 25) = W at Z L B1 ⊢
      have B1 := Asd.mk B1
      have Z := Asd.mk Z
      have L := Asd.mk L
      go_loopw [3, 4] (fun m i wr => ∃ j : Nat, j ≤ ks.length ∧ i = .int .i64 j ∧ m = .int .i64 ((1 + nodesL (ks.take j) : Nat) : Int) ∧ Below W.heap.size W wr) (fun _ i _ => ks.length - (intOf i).toNat)
      case atStart => exact ⟨0, by omega, rfl, by simp [nodesL], Below.refl _ _⟩
      case round =>
        obtain ⟨j, hj, rfl, rfl, hb⟩ := hrel
        have z := cell_below hb Z.out
        by_cases hlt : j < ks.length
        · obtain ⟨x0, x1, x2, x3, x4, c0, c1, c2, c3, c4, ht⟩ := (((HR.out).mono B1.out).mono hb).at hlt
          have HT := Asd.mk ht
          have HB := Asd.mk hb
          clear ht hb
          go_wp2_with (go_at_call 16; refine (IH.out (kAt ks j) _ _ _ _ _ _ (by have := HZ.out; have := szT_kid (k := k) (n := n) (nm := nm) (ls := ls) hlt; omega) (by have := HN.out; have := nodesL_step hlt; have := nodesL_le ks (j + 1); simp only [nodesT] at *; omega) HT.out).mono ?_; rintro e w2 ⟨rfl, hb2⟩)
          have hn1 : nodesL (ks.take (j + 1)) ≤ 1000000 := by have := HN.out; have := nodesL_le ks (j + 1); simp only [nodesT] at *; omega
          go_roundw
          case rel => exact ⟨j + 1, by omega, by go_num, i64_small (by rw [nodesL_step hlt]; omega) (by omega) (by omega), HB.out.trans (hb2.mono HB.out.size)⟩
          case measure => simp [intOf]; omega
        · have : j = ks.length := by omega
          subst this
          go_wp2
          go_ret
          exact ⟨retI (by rw [List.take_length]; simp [nodesT]), B1.out.trans (hb.mono B1.out.size)⟩
end Go.Proofs.Ytbfmaicoefefaaa
