/- limbecklaw01.NameOnce: the walk. -/
import Derived.Test.YtdcnccjabgldmaaOnceM
import Derived.Deep.RegionLaw
namespace Go.Proofs.Ytdcnccjabgldmaa
open Go.RowKit Go.Sort
theorem info_str : (Try.prog.info? 9).map (fun i => (i.zero, i.size, i.bytes)) = some (some (.string ⟨#[]⟩), 1, 16) := by kernel_rfl
theorem step_append_own {P : Program} {ops : Array Oper} {o : Oper} {a : Act} {w : World} {K : Act → World → Prop} {Q : Exit → Act → World → Prop} {E : Prop}
    (hgd : o.guard = none) (s x : Operand) (t : TypeId)
    (ho : o.op = .call { callee := .builtin .append, args := #[s, x], argTypes := #[t, t] })
    (base : Nat) (e : TypeId) (i : TypeInfo) (z : Value) (size bytes : Nat) (ht : P.underlying t = some (.slice e)) (hi : P.info? e = some i) (hz : i.zero = some z)
    (hsize : i.size = size) (hby : i.bytes = bytes) (hzs : z.cells.size = size) (hsz : 0 < size)
    (v : Value) (n : Nat) (xs : List Value) (hs : a.eval s = v) (hown : w.ownsRow base e size v n xs)
    (ad : Addr) (m c : Nat) (news : List Value) (hx : a.eval x = .slice (some ad) m c) (hl : news.length = m * size) (hnews : ∀ j u, news[j]? = some u → w.cell? (ad.add j) = some u) (h1 : ∀ u ∈ news, u.oneCell' = true)
    (h63 : n + m ≤ maxLen) (hbytes : (n + m) * bytes ≤ 140737488355328) (hbase : base ≤ w.heap.size)
    (h : ∀ v' w', w'.ownsRow base e size v' (n + m) (xs ++ news) → w.grownBy w' v.ownBlock → K (a.put o.dst v') w') : if Region.wanted o (yielded ops a.tmps) = true then Oper.wp P o a w K Q else E := by
  have hw : Region.wanted o (yielded ops a.tmps) = true := by simp [Region.wanted, hgd]
  rw [if_pos hw]
  exact wp_append_own w s x t ho base e i z size bytes ht hi hz hsize hby hzs hsz v n xs hs hown ad m c news hx hl hnews h1 h63 hbytes hbase fun v' w' h2 h3 _ => h v' w' h2 h3
/-- Cells of a slice's part, as the append reads them. -/
theorem news_part {w : World} {b off : Nat} {ss : List ByteArray} (hc : ∀ j, j < ss.length → w.cell? ⟨b, off + j, none⟩ = some (.string (stAt ss j))) (lo n : Nat) (hn : lo + n ≤ ss.length) :
    ∀ j u, (((ss.drop lo).take n).map Value.string)[j]? = some u → w.cell? ((⟨b, off + lo, none⟩ : Addr).add j) = some u := by
  intro j u hj
  have hlt := (List.getElem?_eq_some_iff.1 hj).1
  simp at hlt
  rw [List.getElem?_map, List.getElem?_take_of_lt (by omega), List.getElem?_drop, List.getElem?_eq_getElem (by omega)] at hj
  simp at hj
  rw [← hj, ← stAt_get (by omega)]
  have := hc (lo + j) (by omega)
  by_cases h0 : j = 0
  · subst h0; simpa [Addr.add] using this
  · simpa [Addr.add, h0, Nat.add_assoc] using this
theorem oneCell_strs (l : List ByteArray) : ∀ u ∈ l.map Value.string, u.oneCell' = true := by
  intro u hu
  obtain ⟨s, _, rfl⟩ := List.mem_map.1 hu
  rfl

theorem own_empty (w : World) : ((w.alloc (.cells #[] 9)).drew).ownsRow w.heap.size 9 1 (.slice (some ⟨w.heap.size, 0, none⟩) 0 0) 0 [] :=
  World.ownsRow_made (base := w.heap.size) (e := 9) (size := 1) w #[] 0 (Nat.le_refl _) (by simp) rfl
theorem drop_cell (w : World) (b o : Nat) (hb : b < w.heap.size) : ((w.alloc (.cells #[] 9)).drew).cell? ⟨b, o, none⟩ = w.cell? ⟨b, o, none⟩ :=
  World.cell?_alloc_lt _ _ _ hb

theorem below_one {w1 w2 : World} (hg : ((w1.alloc (.cells #[] 9)).drew).grownBy w2 (Value.slice (some ⟨w1.heap.size, 0, none⟩) 0 0).ownBlock) : Below w1.heap.size w1 w2 :=
  Below.grown (((Below.refl _ _).alloc (Nat.le_refl _) _).drew) hg (by simp) (fun k hk => by simp [Value.ownBlock] at hk; omega)
theorem below_two {w1 w2 w3 : World} {e n : Nat} {v : Value} {xs : List Value} (h : Below w1.heap.size w1 w2) (ho : w2.ownsRow w1.heap.size e 1 v n xs) (hg : w2.grownBy w3 v.ownBlock) : Below w1.heap.size w1 w3 :=
  Below.grown h hg h.size (fun k hk => (ho.lt k hk).1)

set_option maxHeartbeats 1000000 in
theorem once_any (v : Value) (ss : List ByteArray) (k : Nat) (w : World) (h : StrsAt w v ss) (hk : k < 256) (hcapp : ∀ a n c, v = .slice a n c → n ≤ c ∧ c ≤ maxLen) : Calls Try.prog 5 #[v, .int .u8 k] w fun e w' => e = .returned (.bool true) ∧ Below w.heap.size w w' := by
  have hv : ∃ a cap, v = .slice a ss.length cap := by
    rcases h.2.2 with ⟨a, cap, rfl, rfl⟩ | ⟨b, off, cap, rfl, _⟩
    · exact ⟨a, cap, rfl⟩
    · exact ⟨_, cap, rfl⟩
  obtain ⟨a, cap, rfl⟩ := hv
  obtain ⟨hcl, hcm⟩ := hcapp _ _ _ rfl
  have hm := h.2.1
  unfold maxLen at hm hcm
  by_cases hlen : 100 < ss.length
  · go_enter Try.func5, Try.ntmps5
    go_wp2_with fail
    refine (awake_any _).mono ?_; rintro e w5 ⟨rfl, hb5⟩
    go_wp2_with fail
    go_ret
    exact ⟨rfl, hb5⟩
  by_cases h0 : ss.length = 0
  · have hz : ((ss.length : Int) == 0) = true := by simp [h0]
    have hz2 : (ss.length == 0) = true := by simp [h0]
    clear h0
    go_enter Try.func5, Try.ntmps5
    go_wp2_with fail
    refine (awake_any _).mono ?_; rintro e w5 ⟨rfl, hb5⟩
    go_wp2_with fail
    go_ret
    exact ⟨rfl, hb5⟩
  have hz : ((ss.length : Int) == 0) = false := by rw [beq_eq_false_iff_ne]; omega
  have hz2 : (ss.length == 0) = false := by simp [h0]
  rcases Bool.eq_false_or_eq_true (risingB ss) with hr | hr
  · go_enter Try.func5, Try.ntmps5
    go_wp2_with fail
    refine (rising_any _ ss _ h).mono ?_; rintro e w1 ⟨rfl, hb1⟩
    have h1 := h.mono hb1
    go_wp2_with fail
    have hi : ((k : Int) % (ss.length : Int)) = ((k % ss.length : Nat) : Int) := by simp
    have hil : k % ss.length < ss.length := Nat.mod_lt _ (by omega)
    rw [hi]
    clear hi
    generalize k % ss.length = i at hil ⊢
    obtain ⟨i0, hi, hz0, hz1, hz2⟩ := info_parts info_str
    rcases h1.2.2 with ⟨a', cap', e1, e2⟩ | ⟨b, off, cap', e1, hb, hc⟩
    · exact absurd (by rw [e2]; rfl) h0
    obtain ⟨rfl, rfl⟩ : a = some ⟨b, off, none⟩ ∧ cap = cap' := by cases e1; exact ⟨rfl, rfl⟩
    clear e1
    have hwr : IntKind.i64.wrap ((i : Int) + 1) = (i : Int) + 1 := by rw [IntKind.wrap_i64]; omega
    have hic : i ≤ cap := by omega
    have hil1 : i + 1 ≤ ss.length := hil
    have hil1 : 0 ≤ (i : Int) + 1 ∧ (i : Int) + 1 ≤ (ss.length : Int) := by omega
    have HW : Hid ((without ss i).length = 0 + i + (ss.length - (i + 1)) ∧ (without ss i).map Value.string = ([] ++ ((ss.drop 0).take i).map Value.string) ++ ((ss.drop (i + 1)).take (ss.length - (i + 1))).map Value.string) := by
      refine ⟨by rw [without_len hil]; omega, ?_⟩
      rw [List.take_of_length_le (by simp : (ss.drop (i + 1)).length ≤ ss.length - (i + 1))]
      simp [without]
    have HM : Hid (∀ s, s ∈ without ss i → s ∈ ss) := fun s hs => by
      rcases List.mem_append.1 hs with hs | hs
      · exact List.mem_of_mem_take hs
      · exact List.mem_of_mem_drop hs
    have HL : Hid ((without ss i).length = ss.length - 1) := without_len hil
    have q1 : risingB (without ss i) = true := without_rising hil hr
    have q2 : placeI (without ss i) (stAt ss i) = -1 := without_fresh hil hr
    have q3 : placeI ss (stAt ss i) = (i : Int) := rising_place hil hr
    by_cases hcap : i + 1 = cap
    · have hcap2 : cap = i + 1 := hcap.symm
      subst hcap2
      have hci : (i : Int) ≤ (i : Int) + 1 := by omega
      have hlen1 : ss.length = i + 1 := by omega
      have HW : Hid ((without ss i).length = 0 + i + 0 ∧ (without ss i).map Value.string = ([] ++ ((ss.drop 0).take i).map Value.string) ++ []) := by
        refine ⟨by rw [without_len hil]; omega, ?_⟩
        simp [without, List.drop_of_length_le (show ss.length ≤ i + 1 by omega)]
      have HL1 := Lib.hid hlen1
      clear hlen1
      go_region_law (first
        | (refine step_append_own rfl (.tmp 26) (.tmp 29) 25 rfl w1.heap.size 9 i0 (.string ⟨#[]⟩) 1 16 Try.underlying25 hi hz0 hz1 hz2 rfl (by decide) _ 0 [] rfl (own_empty w1) ⟨b, off + 0, none⟩ i _ (((ss.drop 0).take i).map Value.string) rfl (by simp; omega) (news_part (ss := ss) (fun j hj => (drop_cell w1 b (off + j) hb).trans (hc j hj)) 0 i (by omega)) (oneCell_strs _) (by unfold maxLen; omega) (by omega) (by simp) ?_; intro v1 w2 hown1 hg1; have hbw2 := below_one hg1)
        | (refine step_append_own rfl (.tmp 30) (.tmp 34) 25 rfl w1.heap.size 9 i0 (.string ⟨#[]⟩) 1 16 Try.underlying25 hi hz0 hz1 hz2 rfl (by decide) _ _ _ rfl hown1 ⟨b, off, none⟩ 0 _ [] rfl (by simp) ?_ (by intro u hu; simp at hu) (by unfold maxLen; omega) (by omega) (by have := hbw2.size; omega) ?_
           · intro j u hj; simp at hj
           intro v2 w3 hown2 hg2
           have X := Lib.hid (And.intro hown2 (below_two hbw2 hown1 hg2))
           clear hown2 hg2 hown1 hg1 hbw2))
      all_goals (
        obtain ⟨hown2, hb2⟩ := X.out
        have hst : StrsAt w3 v2 (without ss i) := strsAt_own (e := 9) (base := w1.heap.size) (by rw [HW.out.1, HW.out.2]; exact hown2) (fun s hs => h1.1 s (HM.out s hs)) (by have := HL.out; unfold maxLen; omega)
        have h3 := h1.mono hb2
        have hcx := (hb2.cell (p := ⟨b, off + i, none⟩) hb).trans (hc i hil)
        clear X hown2 HW HM hc
        go_wp2_with fail
        refine (rising_any _ (without ss i) _ hst).mono ?_; rintro e w4 ⟨rfl, hb4⟩
        have hcx4 := (hb4.cell (p := ⟨b, off + i, none⟩) (Nat.lt_of_lt_of_le hb hb2.size)).trans hcx
        have hst4 := hst.mono hb4
        have h4 := h3.mono hb4
        go_wp2_with fail
        refine (fresh_any _ (without ss i) _ _ hst4).mono ?_; rintro e w5 ⟨rfl, rfl⟩
        go_wp2_with fail
        refine (fresh_any _ ss _ _ h4).mono ?_; rintro e w5 ⟨rfl, rfl⟩
        go_wp2_with fail
        refine (awake_any _).mono ?_; rintro e w5 ⟨rfl, hb5⟩
        go_wp2_with fail
        go_ret
        have s1 := hb1.size; have s2 := hb2.size; have s4 := hb4.size
        exact ⟨rfl, ((hb1.trans (hb2.mono s1)).trans (hb4.mono (by omega))).trans (hb5.mono (by omega))⟩)
    · have hcap2 : ¬ cap = i + 1 := fun e => hcap e.symm
      go_region_law (first
        | (refine step_append_own rfl (.tmp 26) (.tmp 29) 25 rfl w1.heap.size 9 i0 (.string ⟨#[]⟩) 1 16 Try.underlying25 hi hz0 hz1 hz2 rfl (by decide) _ 0 [] rfl (own_empty w1) ⟨b, off + 0, none⟩ i _ (((ss.drop 0).take i).map Value.string) rfl (by simp; omega) (news_part (ss := ss) (fun j hj => (drop_cell w1 b (off + j) hb).trans (hc j hj)) 0 i (by omega)) (oneCell_strs _) (by unfold maxLen; omega) (by omega) (by simp) ?_; intro v1 w2 hown1 hg1; have hbw2 := below_one hg1)
        | (refine step_append_own rfl (.tmp 30) (.tmp 34) 25 rfl w1.heap.size 9 i0 (.string ⟨#[]⟩) 1 16 Try.underlying25 hi hz0 hz1 hz2 rfl (by decide) _ _ _ rfl hown1 ⟨b, off + (i + 1), none⟩ (ss.length - (i + 1)) _ (((ss.drop (i + 1)).take (ss.length - (i + 1))).map Value.string) rfl (by simp) ?_ (oneCell_strs _) (by unfold maxLen; omega) (by omega) (by have := hbw2.size; omega) ?_
           · exact news_part (ss := ss) (fun j hj => (hbw2.cell (p := ⟨b, off + j, none⟩) hb).trans (hc j hj)) (i + 1) (ss.length - (i + 1)) (by omega)
           intro v2 w3 hown2 hg2
           have X := Lib.hid (And.intro hown2 (below_two hbw2 hown1 hg2))
           clear hown2 hg2 hown1 hg1 hbw2))
      all_goals (
        obtain ⟨hown2, hb2⟩ := X.out
        have hst : StrsAt w3 v2 (without ss i) := strsAt_own (e := 9) (base := w1.heap.size) (by rw [HW.out.1, HW.out.2]; exact hown2) (fun s hs => h1.1 s (HM.out s hs)) (by have := HL.out; unfold maxLen; omega)
        have h3 := h1.mono hb2
        have hcx := (hb2.cell (p := ⟨b, off + i, none⟩) hb).trans (hc i hil)
        clear X hown2 HW HM hc
        go_wp2_with fail
        refine (rising_any _ (without ss i) _ hst).mono ?_; rintro e w4 ⟨rfl, hb4⟩
        have hcx4 := (hb4.cell (p := ⟨b, off + i, none⟩) (Nat.lt_of_lt_of_le hb hb2.size)).trans hcx
        have hst4 := hst.mono hb4
        have h4 := h3.mono hb4
        go_wp2_with fail
        refine (fresh_any _ (without ss i) _ _ hst4).mono ?_; rintro e w5 ⟨rfl, rfl⟩
        go_wp2_with fail
        refine (fresh_any _ ss _ _ h4).mono ?_; rintro e w5 ⟨rfl, rfl⟩
        go_wp2_with fail
        refine (awake_any _).mono ?_; rintro e w5 ⟨rfl, hb5⟩
        go_wp2_with fail
        go_ret
        have s1 := hb1.size; have s2 := hb2.size; have s4 := hb4.size
        exact ⟨rfl, ((hb1.trans (hb2.mono s1)).trans (hb4.mono (by omega))).trans (hb5.mono (by omega))⟩)
  · go_enter Try.func5, Try.ntmps5
    go_wp2_with fail
    refine (rising_any _ ss _ h).mono ?_; rintro e w1 ⟨rfl, hb1⟩
    go_wp2_with fail
    refine (awake_any _).mono ?_; rintro e w5 ⟨rfl, hb5⟩
    go_wp2_with fail
    go_ret
    exact ⟨rfl, hb1.trans (hb5.mono hb1.size)⟩
end Go.Proofs.Ytdcnccjabgldmaa
