/- The document's answers for package fault, and the law's awake. -/
import Derived.Test.YtdnjfdkjjenmdaaDoorFFault
import Derived.OwnWalk
import Derived.Laws.OwnMore
import Derived.Laws.AppendOwnNone
namespace Go.Proofs.YtdnjfdkjjenmdaaDoor
open Go.RowKit
/-- A list of texts made by the call itself. -/
def NamesAt (w : World) (v : Value) (ns : List ByteArray) : Prop :=
  (v = .slice none 0 0 ∧ ns = []) ∨ ∃ g cap, v = .slice (some ⟨g, 0, none⟩) ns.length cap ∧ 0 < ns.length ∧ ∀ j u, (ns.map Value.string)[j]? = some u → w.cell? ((⟨g, 0, none⟩ : Addr).add j) = some u
theorem NamesAt.mono {w w' : World} {v : Value} {ns : List ByteArray} (h : NamesAt w v ns) (hb : Below w.heap.size w w') : NamesAt w' v ns := by
  rcases h with h | ⟨g, cap, h1, h2, h3⟩
  · exact .inl h
  · exact .inr ⟨g, cap, h1, h2, fun j u hj => below_cellOf hb (h3 j u hj)⟩

theorem refCode_any (c a : Int) (v : Value) (o : Bool) (w : World) : Calls Tryd.prog 10 #[.agg #[.int .i64 c, .int .i64 a, v, .bool o]] w fun e w' => e = .returned (.int .i64 (if o = true then 23 else c)) ∧ Below w.heap.size w w' := by
  rcases Bool.eq_false_or_eq_true o with rfl | rfl
  all_goals
    go_enter Tryd.func10, Tryd.ntmps10
    go_wp2
    go_ret
    exact ⟨rfl, (Below.refl _ _).alloc (Nat.le_refl _) _⟩
theorem refAt_any (c a : Int) (v : Value) (o : Bool) (w : World) : Calls Tryd.prog 12 #[.agg #[.int .i64 c, .int .i64 a, v, .bool o]] w fun e w' => e = .returned (.int .i64 (if (o || c == 0) = true then -1 else a)) ∧ Below w.heap.size w w' := by
  rcases Bool.eq_false_or_eq_true o with rfl | rfl
  · go_enter Tryd.func12, Tryd.ntmps12
    go_wp2
    go_ret
    exact ⟨rfl, (Below.refl _ _).alloc (Nat.le_refl _) _⟩
  · rcases Bool.eq_false_or_eq_true (c == 0) with h | h
    all_goals
      simp only [h, Bool.false_or, Bool.false_eq_true, if_true, if_false]
      go_enter Tryd.func12, Tryd.ntmps12
      go_wp2
      go_ret
      exact ⟨rfl, (Below.refl _ _).alloc (Nat.le_refl _) _⟩
theorem refIs_any (c a : Int) (v : Value) (o : Bool) (q : Int) (w : World) : Calls Tryd.prog 15 #[.agg #[.int .i64 c, .int .i64 a, v, .bool o], .int .i64 q] w fun e w' => e = .returned (.bool (!o && c == q)) ∧ Below w.heap.size w w' := by
  rcases Bool.eq_false_or_eq_true o with rfl | rfl
  all_goals
    simp only [Bool.not_true, Bool.not_false, Bool.false_and, Bool.true_and]
    go_enter Tryd.func15, Tryd.ntmps15
    go_wp2
    go_ret
    exact ⟨rfl, (Below.refl _ _).alloc (Nat.le_refl _) _⟩
theorem last_at (ns : List ByteArray) (n : Nat) (hn : ns.length = n + 1) : (ns.map Value.string)[n]? = some (.string ((ns.getLast?).getD ⟨#[]⟩)) := by
  rw [List.getElem?_map, List.getLast?_eq_getElem?, hn]
  simp only [Nat.add_sub_cancel]
  rw [List.getElem?_eq_getElem (by omega)]
  rfl
theorem refDef_any (c a : Int) (v : Value) (ns : List ByteArray) (hN : ns.length ≤ 1000) (o : Bool) (w : World) (h : NamesAt w v ns) : Calls Tryd.prog 14 #[.agg #[.int .i64 c, .int .i64 a, v, .bool o]] w fun e w' => e = .returned (.string (if (!o && c == 0) = true then ⟨#[]⟩ else (ns.getLast?).getD ⟨#[]⟩)) ∧ Below w.heap.size w w' := by
  rcases Bool.eq_false_or_eq_true (!o && c == 0) with ho | ho
  · have h1 : o = false := by simp at ho; exact ho.1
    have h2 : (c == 0) = true := by simp at ho; simp [ho.2]
    subst h1
    simp only [Bool.not_false, Bool.true_and, h2, if_true]
    clear h ho
    go_enter Tryd.func14, Tryd.ntmps14
    go_wp2
    go_ret
    exact ⟨rfl, (Below.refl _ _).alloc (Nat.le_refl _) _⟩
  simp only [ho, Bool.false_eq_true, if_false]
  have hd : (o = true) ∨ (o = false ∧ (c == 0) = false) := by
    cases o
    · right; simpa using ho
    · left; rfl
  clear ho
  have hB := (Below.refl w.heap.size w).alloc (Nat.le_refl _) (.cells #[.int .i64 c, .int .i64 a, v, .bool o] 29)
  rcases h with ⟨rfl, rfl⟩ | ⟨g, cap, rfl, h0, hc⟩
  · have B : Aside (Below w.heap.size w (w.alloc (.cells #[.int .i64 c, .int .i64 a, .slice none 0 0, .bool o] 29))) := hB
    clear hB
    simp only [List.getLast?_nil, Option.getD_none]
    rcases hd with rfl | ⟨rfl, hz⟩
    all_goals
      go_enter Tryd.func14, Tryd.ntmps14
      go_wp2
      go_ret
      exact ⟨rfl, B.out⟩
  · obtain ⟨n, hn⟩ : ∃ n, ns.length = n + 1 := ⟨ns.length - 1, by omega⟩
    have hcell := below_cellOf hB (hc n _ (last_at ns n hn))
    generalize (ns.getLast?).getD ⟨#[]⟩ = z at hcell ⊢
    rw [hn] at hB hcell ⊢
    have hn1 : n ≤ 1000 := by omega
    have B : Aside (Below w.heap.size w (w.alloc (.cells #[.int .i64 c, .int .i64 a, .slice (some ⟨g, 0, none⟩) (n + 1) cap, .bool o] 29)) ∧ ns.length = n + 1) := ⟨hB, hn⟩
    clear hB hc hn h0 hN
    have hcell2 : (w.alloc (.cells #[.int .i64 c, .int .i64 a, .slice (some ⟨g, 0, none⟩) (n + 1) cap, .bool o] 29)).cell? ⟨g, n, none⟩ = some (.string z) := by
      by_cases h0 : n = 0
      · subst h0; simpa [Addr.add] using hcell
      · simpa [Addr.add, h0] using hcell
    clear hcell
    rcases hd with rfl | ⟨rfl, hz⟩
    all_goals
      go_enter Tryd.func14, Tryd.ntmps14
      go_wp2
      go_ret
      exact ⟨rfl, B.out.1⟩
theorem awake_any (w : World) (hg : w.cell? ⟨0, 0, none⟩ = some (.iface 66 (.agg #[.pointer (some ⟨1, 26, none⟩)]))) : Calls Tryd.prog 6 #[] w fun e w' => e = .returned (.bool true) ∧ Below w.heap.size w w' := by
  have G0 : Aside (w.cell? ⟨0, 0, none⟩ = some (.iface 66 (.agg #[.pointer (some ⟨1, 26, none⟩)]))) := hg
  clear hg
  go_enter Tryd.func6, Tryd.ntmps6
  go_wp2_with fail
  refine (new_any 4 3 _).mono ?_; rintro ev w1 ⟨rfl, rfl⟩
  go_wp2_with fail
  refine (in_any ⟨#[102]⟩ (newE 4 3) _ trivial).mono ?_; rintro ev w2 ⟨hb2, h2⟩
  obtain ⟨rfl, hx⟩ : ev = .returned (Er.nam w.heap.size ⟨#[102]⟩ (newE 4 3)).val ∧ (Er.nam w.heap.size ⟨#[102]⟩ (newE 4 3)).At w2 := h2
  generalize he : Er.nam w.heap.size ⟨#[102]⟩ (newE 4 3) = x at hx
  have F : Aside (x.At w2 ∧ Below w.heap.size w w2 ∧ x.code = 4 ∧ x.pos = 3 ∧ x.defFrom ⟨#[]⟩ = ⟨#[102]⟩ ∧ x.isCode 4 = true) := ⟨hx, hb2, by rw [← he]; rfl, by rw [← he]; rfl, by rw [← he]; rfl, by rw [← he]; rfl⟩
  clear he hx hb2
  go_wp2_with fail
  refine (code_any x _ F.out.1 (below_cellOf F.out.2.1 G0.out)).mono ?_; rintro ev w3 ⟨rfl, hb3⟩; rw [F.out.2.2.1]
  have A3 : Aside (Below w2.heap.size w2 w3 ∧ Below w.heap.size w w3) := ⟨hb3, F.out.2.1.trans (hb3.mono F.out.2.1.size)⟩
  clear hb3
  go_wp2_with fail
  refine (at_any x _ (F.out.1.mono A3.out.1) (below_cellOf A3.out.2 G0.out)).mono ?_; rintro ev w4 ⟨rfl, hb4⟩; rw [F.out.2.2.2.1]
  have A4 : Aside (Below w2.heap.size w2 w4 ∧ Below w.heap.size w w4) := ⟨A3.out.1.trans (hb4.mono A3.out.1.size), A3.out.2.trans (hb4.mono A3.out.2.size)⟩
  clear hb4
  go_wp2_with fail
  refine (def_any x _ (F.out.1.mono A4.out.1) (below_cellOf A4.out.2 G0.out)).mono ?_; rintro ev w5 ⟨rfl, hb5⟩; rw [F.out.2.2.2.2.1]
  have A5 : Aside (Below w2.heap.size w2 w5 ∧ Below w.heap.size w w5) := ⟨A4.out.1.trans (hb5.mono A4.out.1.size), A4.out.2.trans (hb5.mono A4.out.2.size)⟩
  clear hb5
  go_wp2_with fail
  refine (fis_any x 4 _ (F.out.1.mono A5.out.1)).mono ?_; rintro ev w6 ⟨rfl, hb6⟩; rw [F.out.2.2.2.2.2]
  have A6 : Aside (Below w.heap.size w w6) := A5.out.2.trans (hb6.mono A5.out.2.size)
  clear hb6
  go_wp2_with fail
  go_ret
  exact ⟨rfl, A6.out⟩
end Go.Proofs.YtdnjfdkjjenmdaaDoor
