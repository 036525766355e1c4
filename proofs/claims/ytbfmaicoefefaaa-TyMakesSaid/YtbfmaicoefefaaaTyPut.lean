/- The document's own answers of layer 4: a text put in its place. -/
import Derived.Test.YtbfmaicoefefaaaTyPu
import Derived.Test.YtbfmaicoefefaaaTyVm
import Derived.Test.YtbfmaicoefefaaaTyRec
set_option linter.unusedSimpArgs false
set_option linter.unusedVariables false
namespace Go.Proofs.Ytbfmaicoefefaaa
open Go.RowKit Go.Deep Go.Sort
theorem putSt_len (s : ByteArray) : ∀ (l : List ByteArray) (st : List ByteArray × Bool), (l.foldl (putStep s) st).1.length + (if (l.foldl (putStep s) st).2 = true then 0 else 1) ≤ st.1.length + l.length + (if st.2 = true then 0 else 1)
  | [], st => by
    simp only [List.foldl_nil, List.length_nil, Nat.add_zero]
    exact Nat.le_refl _
  | x :: r, (a, dn) => by
    rw [List.foldl_cons]
    refine Nat.le_trans (putSt_len s r _) ?_
    unfold putStep
    rcases dn with _ | _ <;> rcases h : ltS x s with _ | _ <;> rcases h' : (x.toList == s.toList) with _ | _ <;> simp <;> omega
theorem putSt_le (s : ByteArray) (l : List ByteArray) : (putSt s l).1.length ≤ l.length + 1 := by
  have h := putSt_len s l ([], false)
  simp only [List.length_nil, Bool.false_eq_true, if_false] at h
  unfold putSt
  omega
theorem putSt_mem (s z : ByteArray) : ∀ (l : List ByteArray) (st : List ByteArray × Bool), z ∈ (l.foldl (putStep s) st).1 → z = s ∨ z ∈ l ∨ z ∈ st.1
  | [], st, h => .inr (.inr h)
  | x :: r, (a, dn), h => by
    rw [List.foldl_cons] at h
    rcases putSt_mem s z r _ h with h | h | h
    · exact .inl h
    · exact .inr (.inl (List.mem_cons_of_mem _ h))
    · unfold putStep at h
      rcases dn with _ | _ <;> rcases h1 : ltS x s with _ | _ <;> rcases h2 : (x.toList == s.toList) with _ | _ <;> simp [h1, h2] at h <;> (rcases h with h | h | h) <;> simp_all
theorem leq_ge {x s : ByteArray} (h : ltS x s = false) : Op.bytesLess x.toList s.toList = false := h
theorem put_below {w wr w1 : World} {e n : Nat} {v : Value} {x : List Value} {o : Obj} (hb : Below w.heap.size w wr) (h : wr.ownsRow w.heap.size e 1 v n x) (hg : (wr.alloc o).grownBy w1 v.ownBlock) : Below w.heap.size w w1 :=
  (hb.alloc hb.size o).grown hg (by have := hb.size; simp; omega) (fun j e => (h.lt j e).1)
/-- The relation of Put's loop. -/
structure PutAt (w wr : World) (l : List ByteArray) (s : ByteArray) (k : Nat) (v dn : Value) : Prop where
  dn : dn = .bool (putSt s (l.take k)).2
  own : wr.ownsRow w.heap.size 9 1 v (putSt s (l.take k)).1.length ((putSt s (l.take k)).1.map Value.string)
  below : Below w.heap.size w wr
theorem take_snoc {l : List ByteArray} {k : Nat} (h : k < l.length) : l.take (k + 1) = l.take k ++ [stAt l k] := by
  rw [stAt_get h, List.take_succ_eq_append_getElem h]
set_option maxRecDepth 20000 in
set_option maxHeartbeats 4000000 in
theorem rput_any (v : Value) (l : List ByteArray) (s : ByteArray) (w : World) (hv : StrsAt w v l) (hs : s.size ≤ maxLen) (hl : l.length ≤ 1000000) :
    Calls Try.prog 53 #[v, .string s] w fun e w' => ∃ u, e = .returned u ∧ Below w.heap.size w w' ∧ StrsAt w' u (putL l s) := by
  obtain ⟨i0, hi, hz0, hz1, hz2⟩ := info_parts info_strT
  obtain ⟨hss, _, hf⟩ := hv
  obtain ⟨a1, cap1, rfl⟩ : ∃ a cap, v = .slice a l.length cap := by
    rcases hf with ⟨a, cap, rfl, rfl⟩ | ⟨b, off, cap, rfl, _⟩
    · exact ⟨a, cap, rfl⟩
    · exact ⟨_, cap, rfl⟩
  have HF := Asd.mk hf
  have HSS := Asd.mk hss
  have HS := Asd.mk hs
  clear hf hss hs
  go_enter Try.func53, Try.ntmps53
  go_wp2
  go_loopw [5, 6, 7] (fun u dn i wr => ∃ k : Nat, k ≤ l.length ∧ i = .int .i64 k ∧ PutAt w wr l s k u dn) (fun _ _ i _ => l.length - (intOf i).toNat)
  case atStart => exact ⟨0, by omega, rfl, ⟨rfl, World.ownsRow_nil _ _ _ _, Below.refl _ _⟩⟩
  case round =>
    obtain ⟨k, hk, rfl, HP⟩ := hrel
    have hlen := putSt_le s (l.take k)
    rw [List.length_take] at hlen
    have hlen : (putSt s (l.take k)).1.length ≤ 1000001 := by omega
    by_cases hlt : k < l.length
    · rcases HF.out with ⟨_, _, e, e'⟩ | ⟨b1, off1, cap2, e, hb1, hc1⟩
      · rw [e'] at hlt
        exact absurd hlt (Nat.not_lt_zero _)
      obtain ⟨rfl, rfl⟩ : a1 = some ⟨b1, off1, none⟩ ∧ cap1 = cap2 := by simpa using e
      have hcx0 := hc1 k hlt
      have hcx := (HP.below.cell (p := ⟨b1, off1 + k, none⟩) hb1).trans (hc1 k hlt)
      have HST : Asd (putSt s (l.take (k + 1)) = putStep s (putSt s (l.take k)) (stAt l k)) := ⟨by rw [take_snoc hlt, putSt_snoc]⟩
      obtain ⟨st, hst⟩ : ∃ st, st = putSt s (l.take k) := ⟨_, rfl⟩
      obtain ⟨rfl, hown, hb⟩ := HP
      rw [← hst] at HST hown hlen ⊢
      obtain ⟨acc, dn⟩ := st
      simp only at hown hlen ⊢
      generalize stAt l k = x at hcx hcx0 HST
      have HB := Asd.mk hb
      have hbs := hb.size
      clear hst e hc1 hb
      have NEWS := fun (W : World) (y : ByteArray) => news_one W #[.string y] 9
      have HCX := Asd.mk hcx0
      clear hcx0
      have h1 : dn = true ∨ (dn = false ∧ ltS x s = true) ∨ (dn = false ∧ ltS x s = false ∧ (x.toList == s.toList) = true) ∨ (dn = false ∧ ltS x s = false ∧ (x.toList == s.toList) = false) := by
        rcases dn with _ | _ <;> rcases ltS x s with _ | _ <;> rcases (x.toList == s.toList) with _ | _ <;> simp
      rcases h1 with rfl | ⟨rfl, h1⟩ | ⟨rfl, h1, h2⟩ | ⟨rfl, h1, h2⟩
      · have HE : Asd (putSt s (l.take (k + 1)) = (acc ++ [x], true)) := ⟨by rw [HST.out]; simp [putStep]⟩
        go_wp2_with (at_builtin; refine wpList_append_own _ rfl (.tmp 34) (.tmp 39) 22 rfl w.heap.size 9 i0 (.string ⟨#[]⟩) 1 16 Try.underlying22 hi hz0 hz1 hz2 rfl (by decide) u5 _ _ rfl (hown.alloc _) ⟨wr.heap.size, 0, none⟩ 1 1 [.string x] rfl rfl (NEWS wr x) (by intro u hu; simp at hu; subst hu; rfl) (by unfold maxLen; omega) (by omega) (by have := hbs; simp; omega) ?_; intro v1 w1 hown1 hgr1 _)
        have hB1 := put_below HB.out hown hgr1
        go_roundw
        case rel => exact ⟨k + 1, by omega, by go_num, ⟨by rw [HE.out], by rw [HE.out, List.length_append, List.map_append]; exact hown1, hB1⟩⟩
        case measure => simp [intOf]; omega
      · have HE : Asd (putSt s (l.take (k + 1)) = (acc ++ [x], false)) := ⟨by rw [HST.out]; simp [putStep, h1]⟩
        have h1' : Op.bytesLess x.toList s.toList = true := h1
        go_wp2_with (at_builtin; refine wpList_append_own _ rfl (.tmp 34) (.tmp 39) 22 rfl w.heap.size 9 i0 (.string ⟨#[]⟩) 1 16 Try.underlying22 hi hz0 hz1 hz2 rfl (by decide) u5 _ _ rfl (hown.alloc _) ⟨wr.heap.size, 0, none⟩ 1 1 [.string x] rfl rfl (NEWS wr x) (by intro u hu; simp at hu; subst hu; rfl) (by unfold maxLen; omega) (by omega) (by have := hbs; simp; omega) ?_; intro v1 w1 hown1 hgr1 _)
        have hB1 := put_below HB.out hown hgr1
        go_roundw
        case rel => exact ⟨k + 1, by omega, by go_num, ⟨by rw [HE.out], by rw [HE.out, List.length_append, List.map_append]; exact hown1, hB1⟩⟩
        case measure => simp [intOf]; omega
      · have HE : Asd (putSt s (l.take (k + 1)) = (acc ++ [x], true)) := ⟨by rw [HST.out]; simp [putStep, h1, h2]⟩
        have h1' : Op.bytesLess x.toList s.toList = false := h1
        go_wp2_with (at_builtin; refine wpList_append_own _ rfl (.tmp 34) (.tmp 39) 22 rfl w.heap.size 9 i0 (.string ⟨#[]⟩) 1 16 Try.underlying22 hi hz0 hz1 hz2 rfl (by decide) u5 _ _ rfl (hown.alloc _) ⟨wr.heap.size, 0, none⟩ 1 1 [.string x] rfl rfl (NEWS wr x) (by intro u hu; simp at hu; subst hu; rfl) (by unfold maxLen; omega) (by omega) (by have := hbs; simp; omega) ?_; intro v1 w1 hown1 hgr1 _)
        have hB1 := put_below HB.out hown hgr1
        go_roundw
        case rel => exact ⟨k + 1, by omega, by go_num, ⟨by rw [HE.out], by rw [HE.out, List.length_append, List.map_append]; exact hown1, hB1⟩⟩
        case measure => simp [intOf]; omega
      · have HE : Asd (putSt s (l.take (k + 1)) = (acc ++ [s] ++ [x], true)) := ⟨by rw [HST.out]; simp [putStep, h1, h2]⟩
        have h1' : Op.bytesLess x.toList s.toList = false := h1
        have hg' : (Op.bytesLess x.toList s.toList || x.toList == s.toList) = false := by rw [h1', h2]; rfl
        go_wp2_with (first
          | (at_builtin; refine wpList_append_own _ rfl (.tmp 30) (.tmp 32) 22 rfl w.heap.size 9 i0 (.string ⟨#[]⟩) 1 16 Try.underlying22 hi hz0 hz1 hz2 rfl (by decide) u5 _ _ rfl (hown.alloc _) ⟨wr.heap.size, 0, none⟩ 1 1 [.string s] rfl rfl (NEWS wr s) (by intro u hu; simp at hu; subst hu; rfl) (by unfold maxLen; omega) (by omega) (by have := hbs; simp; omega) ?_; intro v0 w0 hown0 hgr0 _; have hB0 := Asd.mk (put_below HB.out hown hgr0); have hbs0 := hB0.out.size; have hcx0 := (hB0.out.cell (p := ⟨b1, off1 + k, none⟩) hb1).trans HCX.out)
          | (at_builtin; refine wpList_append_own _ rfl (.tmp 34) (.tmp 39) 22 rfl w.heap.size 9 i0 (.string ⟨#[]⟩) 1 16 Try.underlying22 hi hz0 hz1 hz2 rfl (by decide) v0 _ _ rfl (hown0.alloc _) ⟨w0.heap.size, 0, none⟩ 1 1 [.string x] rfl rfl (NEWS w0 x) (by intro u hu; simp at hu; subst hu; rfl) (by unfold maxLen; omega) (by omega) (by have := hbs0; simp; omega) ?_; intro v1 w1 hown1 hgr1 _))
        have hB1 := put_below hB0.out hown0 hgr1
        go_roundw
        case rel => exact ⟨k + 1, by omega, by go_num, ⟨by rw [HE.out], by rw [HE.out, List.length_append, List.map_append, List.length_append, List.map_append]; exact hown1, hB1⟩⟩
        case measure => simp [intOf]; omega
    · have hke : k = l.length := by omega
      subst hke
      have HM : Asd (∀ z, z ∈ putL l s → z.size ≤ maxLen) := ⟨fun z hz => by
        rw [putL_eq] at hz
        rcases (putR_mem s z l).1 hz with rfl | hz
        · exact HS.out
        · exact HSS.out z hz⟩
      have HLL : Asd ((putL l s).length ≤ maxLen) := ⟨by
        rw [putL_eq]
        have := putR_len s l
        unfold maxLen
        omega⟩
      obtain ⟨rfl, hown, hb⟩ := HP
      rw [List.take_length] at hown hlen ⊢
      have HP : Asd (putL l s = if (putSt s l).2 = true then (putSt s l).1 else (putSt s l).1 ++ [s]) := ⟨rfl⟩
      have NEWS := fun (W : World) (y : ByteArray) => news_one W #[.string y] 9
      generalize putSt s l = st at hown hlen HP ⊢
      obtain ⟨acc, dn⟩ := st
      simp only at hown hlen HP ⊢
      have HB := Asd.mk hb
      have hbs := hb.size
      clear hb
      rcases dn with _ | _
      · have HE : Asd (putL l s = acc ++ [s]) := ⟨by rw [HP.out]; simp⟩
        go_wp2_with (at_builtin; refine wpList_append_own _ rfl (.tmp 43) (.tmp 45) 22 rfl w.heap.size 9 i0 (.string ⟨#[]⟩) 1 16 Try.underlying22 hi hz0 hz1 hz2 rfl (by decide) u5 _ _ rfl (hown.alloc _) ⟨wr.heap.size, 0, none⟩ 1 1 [.string s] rfl rfl (NEWS wr s) (by intro u hu; simp at hu; subst hu; rfl) (by unfold maxLen; omega) (by omega) (by have := hbs; simp; omega) ?_; intro v1 w1 hown1 hgr1 _)
        have hB1 := put_below HB.out hown hgr1
        go_ret
        refine ⟨_, rfl, hB1, strsAt_ownT (n := acc.length + 1) (by rw [HE.out, List.map_append]; exact hown1) (by rw [HE.out]; simp) HM.out HLL.out⟩
      · have HE : Asd (putL l s = acc) := ⟨by rw [HP.out]; simp⟩
        go_wp2
        go_ret
        refine ⟨_, rfl, HB.out, strsAt_ownT (n := acc.length) (by rw [HE.out]; exact hown) (by rw [HE.out]) HM.out HLL.out⟩
end Go.Proofs.Ytbfmaicoefefaaa
