/- limbecklaw04.TyTurned: the walk (awake's contract comes in). -/
import Derived.Test.YtbfmaicoefefaaaTyTd
import Derived.Test.YtbfmaicoefefaaaTySl
import Derived.Test.YtbfmaicoefefaaaTyFb
import Derived.Deep.RegionHeld3
import Derived.Deep.DrawnRows
set_option linter.unusedSimpArgs false
set_option linter.unusedVariables false
namespace Go.Proofs.Ytbfmaicoefefaaa
open Go.RowKit Go.Deep Go.Sort
theorem KidsAt.mono {w w' : World} {v : Value} {ks : List Ty5} (h : KidsAt w v ks) (hb : Below w.heap.size w w') : KidsAt w' v ks := by
  rcases h with h | ⟨b, off, cap, e, hr⟩
  · exact .inl h
  · exact .inr ⟨b, off, cap, e, hr.mono hb⟩
theorem step_append_own {P : Program} {ops : Array Oper} {o : Oper} {a : Act} {w : World} {K : Act → World → Prop} {Q : Exit → Act → World → Prop} {E : Prop}
    (hgd : o.guard = none) (s x : Operand) (t : TypeId)
    (ho : o.op = .call { callee := .builtin .append, args := #[s, x], argTypes := #[t, t] })
    (base : Nat) (e : TypeId) (i : TypeInfo) (z : Value) (size bytes : Nat) (ht : P.underlying t = some (.slice e)) (hi : P.info? e = some i) (hz : i.zero = some z)
    (hsize : i.size = size) (hby : i.bytes = bytes) (hzs : z.cells.size = size) (hsz : 0 < size)
    (v : Value) (n : Nat) (xs : List Value) (hs : a.eval s = v) (hown : w.ownsRow base e size v n xs)
    (ad : Addr) (m c : Nat) (news : List Value) (hx : a.eval x = .slice (some ad) m c) (hl : news.length = m * size) (hnews : ∀ j u, news[j]? = some u → w.cell? (ad.add j) = some u) (h1 : ∀ u ∈ news, u.oneCell' = true)
    (h63 : n + m ≤ maxLen) (hbytes : (n + m) * bytes ≤ 140737488355328) (hbase : base ≤ w.heap.size)
    (h : ∀ v' w', w'.ownsRow base e size v' (n + m) (xs ++ news) → w.grownBy w' v.ownBlock → K (a.put o.dst v') w') : if Region.wanted o (yielded ops a.tmps) = true then Oper.wp P o a w K Q else E := by
  have hw : Region.wanted o (yielded ops a.tmps) = true := by simp [Region.wanted, hgd]
  rw [if_pos hw]
  exact wp_append_own w s x t ho base e i z size bytes ht hi hz hsize hby hzs hsz v n xs hs hown ad m c news hx hl hnews h1 h63 hbytes hbase fun v' w' h2 h3 _ => h v' w' h2 h3
theorem news_part {w : World} {b off : Nat} {ss : List ByteArray} (hc : ∀ j, j < ss.length → w.cell? ⟨b, off + j, none⟩ = some (.string (stAt ss j))) (lo n : Nat) (hn : lo + n ≤ ss.length) :
    ∀ j u, (((ss.drop lo).take n).map Value.string)[j]? = some u → w.cell? ((⟨b, off + lo, none⟩ : Addr).add j) = some u := by
  intro j u hj
  have hlt := (List.getElem?_eq_some_iff.1 hj).1
  simp at hlt
  rw [List.getElem?_map, List.getElem?_take_of_lt (by omega), List.getElem?_drop, List.getElem?_eq_getElem (by omega)] at hj
  simp at hj
  rw [← hj, ← stAt_get (by omega)]
  have := hc (lo + j) (by omega)
  by_cases h0 : j = 0
  · subst h0; simp [Addr.add]
  · simp [Addr.add, h0, Nat.add_assoc]
theorem oneCell_strs (l : List ByteArray) : ∀ u ∈ l.map Value.string, u.oneCell' = true := by
  intro u hu
  obtain ⟨s, _, rfl⟩ := List.mem_map.1 hu
  rfl
theorem own_empty (w : World) (e size : Nat) : ((w.alloc (.cells #[] e)).drew).ownsRow w.heap.size e size (.slice (some ⟨w.heap.size, 0, none⟩) 0 0) 0 [] :=
  World.ownsRow_made (base := w.heap.size) (e := e) (size := size) w #[] 0 (Nat.le_refl _) (by simp) (by simp)
theorem drop_cell (w : World) (e b o : Nat) (hb : b < w.heap.size) : ((w.alloc (.cells #[] e)).drew).cell? ⟨b, o, none⟩ = w.cell? ⟨b, o, none⟩ :=
  World.cell?_alloc_lt _ _ _ hb
theorem below_one {w1 w2 : World} {e : Nat} (hg : ((w1.alloc (.cells #[] e)).drew).grownBy w2 (Value.slice (some ⟨w1.heap.size, 0, none⟩) 0 0).ownBlock) : Below w1.heap.size w1 w2 :=
  Below.grown (((Below.refl _ _).alloc (Nat.le_refl _) _).drew) hg (by simp) (fun k hk => by simp [Value.ownBlock] at hk; omega)
theorem below_two {w1 w2 w3 : World} {e s n : Nat} {v : Value} {xs : List Value} (h : Below w1.heap.size w1 w2) (ho : w2.ownsRow w1.heap.size e s v n xs) (hg : w2.grownBy w3 v.ownBlock) : Below w1.heap.size w1 w3 :=
  Below.grown h hg h.size (fun k hk => (ho.lt k hk).1)
theorem sl_set {a w : World} {b i : Nat} {v : Value} (h : Below a.heap.size a w) (hb : a.heap.size ≤ b) : Below a.heap.size a (w.setCell ⟨b, i, none⟩ v) := h.setCell (p := ⟨b, i, none⟩) hb v
theorem tb_below {w w' : World} {k : Nat} {o : Obj} (h : Below w.heap.size w w') (hk : w.heap[k]? = some o) : w'.heap[k]? = some o := (h.block k (Array.getElem?_eq_some_iff.1 hk).1).trans hk
theorem tb_at (w : World) (o : Obj) {k : Nat} (hk : k = w.heap.size) : ((w.alloc o).drew).heap[k]? = some o := by
  subst hk
  exact Array.getElem?_push_size
theorem tb_zero {w : World} {b : Nat} (h : w.heap[b]? = some (.cells zero5 25 (0, 0))) : (w.cell? ⟨b, 0, none⟩ = some (.int .i64 0) ∧ w.cell? ⟨b, 1, none⟩ = some (.int .i64 0) ∧ w.cell? ⟨b, 2, none⟩ = some (.string ⟨#[]⟩) ∧ w.cell? ⟨b, 3, none⟩ = some (.slice none 0 0) ∧ w.cell? ⟨b, 4, none⟩ = some (.slice none 0 0)) ∧ (w.frozen? ⟨b, 0, none⟩ = false ∧ w.frozen? ⟨b, 1, none⟩ = false ∧ w.frozen? ⟨b, 2, none⟩ = false ∧ w.frozen? ⟨b, 3, none⟩ = false ∧ w.frozen? ⟨b, 4, none⟩ = false) :=
  ⟨⟨box_cell h rfl, box_cell h rfl, box_cell h rfl, box_cell h rfl, box_cell h rfl⟩, by simp [World.frozen?, h], by simp [World.frozen?, h], by simp [World.frozen?, h], by simp [World.frozen?, h], by simp [World.frozen?, h]⟩
attribute [local go_sem ↓] Go.wp_at_zero Go.wp_at_succ
set_option maxRecDepth 20000 in
set_option maxHeartbeats 0 in
theorem turned_law (HA : ∀ w, Calls Try.prog 12 #[] w fun e w' => e = .returned (.bool true) ∧ Below w.heap.size w w')
    (v u : Value) (ss : List ByteArray) (ks : List Ty5) (k : Nat) (w : World) (hs : StrsAt w v ss) (hk : KidsAt w u ks) (hkm : ks.length ≤ maxLen) (hk8 : k < 256)
    (hcv : ∀ a n c, v = .slice a n c → n ≤ c ∧ c ≤ maxLen) (hcu : ∀ a n c, u = .slice a n c → n ≤ c ∧ c ≤ maxLen) :
    Calls Try.prog 6 #[v, u, .int .u8 k] w fun e w' => e = .returned (.bool true) ∧ Below w.heap.size w w' := by
  obtain ⟨a, cap, rfl⟩ := hk.form
  have hsl := hs.2.1
  obtain ⟨a1, cap1, rfl⟩ : ∃ a cap, v = .slice a ss.length cap := by
    rcases hs.2.2 with ⟨a, cap, rfl, rfl⟩ | ⟨b, off, cap, rfl, _⟩
    · exact ⟨a, cap, rfl⟩
    · exact ⟨_, cap, rfl⟩
  obtain ⟨hc1, hc2⟩ := hcv _ _ _ rfl
  obtain ⟨hd1, hd2⟩ := hcu _ _ _ rfl
  have HK := Asd.mk hk
  have HS := Asd.mk hs
  have HKM := Asd.mk hkm
  unfold maxLen at hkm hsl hc2 hd2
  clear hk hs hcv hcu
  go_enter Try.func6, Try.ntmps6
  go_wp2_with fail
  refine (few_any _ _ ss ks _ HS.out HK.out HKM.out).mono ?_
  rintro e w1 ⟨hf, hb1⟩
  obtain ⟨b, rfl, hf2⟩ := hf.out
  rcases b with _ | _
  · go_wp2_with fail
    refine (HA _).mono ?_
    rintro e w2 ⟨rfl, hb2⟩
    go_wp2
    go_ret
    exact ⟨rfl, sl_trans hb1 hb2⟩
  obtain ⟨h60, k60⟩ := hf2 rfl
  clear hf hf2 HKM hkm hsl
  go_wp2_with fail
  refine (prec_any _ _ ss ks _ (HS.out.mono hb1) (KidsAt.mono HK.out hb1) h60 k60).mono ?_
  rintro e w2 ⟨p0, p1, p2, p3, p4, b, t, rfl, hb2, hT, hR⟩
  obtain ⟨pk, pn, pm, pa, pl, pc, pa', pl', pc', rfl, rfl, rfl, rfl, rfl⟩ := hT.form
  have HB2 := Asd.mk (sl_trans hb1 hb2)
  have HT := Asd.mk hT
  have HR := Asd.mk hR
  clear hb1 hb2 hT hR
  rcases b with _ | _
  · go_wp2_with fail
    refine (HA _).mono ?_
    rintro e w3 ⟨rfl, hb3⟩
    go_wp2
    go_ret
    exact ⟨rfl, sl_trans HB2.out (sl_trans ((Below.refl _ _).alloc (Nat.le_refl _) _) hb3)⟩
  by_cases h0 : ss.length = 0
  · have hz : ((ss.length : Int) == 0) = true := by simp [h0]
    have hz2 : (ss.length == 0) = true := by simp [h0]
    clear h0
    go_wp2_with fail
    refine (HA _).mono ?_
    rintro e w3 ⟨rfl, hb3⟩
    go_wp2
    go_ret
    exact ⟨rfl, sl_trans HB2.out (sl_trans ((Below.refl _ _).alloc (Nat.le_refl _) _) hb3)⟩
  have hz : ((ss.length : Int) == 0) = false := by rw [beq_eq_false_iff_ne]; omega
  have hz2 : (ss.length == 0) = false := by simp [h0]
  go_wp2_with fail
  have hi : ((k : Int) % (ss.length : Int)) = ((k % ss.length : Nat) : Int) := by simp
  have hn : k % ss.length < ss.length := Nat.mod_lt _ (by omega)
  rw [hi]
  clear hi
  generalize k % ss.length = n at hn ⊢
  have hbx : Below w2.heap.size w2 (w2.alloc (.cells #[.int .i64 pk, .int .i64 pn, .string pm, .slice pa pl pc, .slice pa' pl' pc'] 25)) := (Below.refl _ _).alloc (Nat.le_refl _) _
  have ha := fun i v h => alloc_at w2 #[.int .i64 pk, .int .i64 pn, .string pm, .slice pa pl pc, .slice pa' pl' pc'] 25 i v h
  generalize hB : w2.heap.size = B at ha ⊢
  obtain ⟨W, hW⟩ : ∃ W, (w2.alloc (.cells #[.int .i64 pk, .int .i64 pn, .string pm, .slice pa pl pc, .slice pa' pl' pc'] 25)) = W := ⟨_, rfl⟩
  rw [hW] at hbx ha ⊢
  clear hW hB
  have HBW := Asd.mk (sl_trans HB2.out hbx)
  have HTW := Asd.mk (HT.out.mono hbx)
  have i0 := ha 0 _ rfl
  have i1 := ha 1 _ rfl
  have i2 := ha 2 _ rfl
  have i3 := ha 3 _ rfl
  have i4 := ha 4 _ rfl
  have HS0 : Asd (∀ w', Below W.heap.size W w' → (w'.cell? ⟨B, 0, none⟩ = some (.int .i64 pk) ∧ w'.cell? ⟨B, 1, none⟩ = some (.int .i64 pn) ∧ w'.cell? ⟨B, 2, none⟩ = some (.string pm) ∧ w'.cell? ⟨B, 3, none⟩ = some (.slice pa pl pc) ∧ w'.cell? ⟨B, 4, none⟩ = some (.slice pa' pl' pc'))) := ⟨fun w' h => ⟨cell_below h i0, cell_below h i1, cell_below h i2, cell_below h i3, cell_below h i4⟩⟩
  clear ha hbx i0 i1 i2 i3 i4 HT HB2
  have HSW := Asd.mk (HS.out.mono HBW.out)
  have HKW := Asd.mk (KidsAt.mono HK.out HBW.out)
  have hkl : ks.length = ss.length := (rec_len HR.out).symm
  rcases HSW.out.2.2 with ⟨_, _, e, e'⟩ | ⟨b1, off1, cap1', e, hb1, hc1'⟩
  · exact absurd (by rw [e']; rfl) h0
  obtain ⟨rfl, rfl⟩ : a1 = some ⟨b1, off1, none⟩ ∧ cap1 = cap1' := by simpa using e
  rcases HKW.out with ⟨_, _, e, e'⟩ | ⟨b2, off2, cap2, e, hr⟩
  · exact absurd (by rw [← hkl, e']; rfl) h0
  obtain ⟨rfl, rfl⟩ : a = some ⟨b2, off2, none⟩ ∧ cap = cap2 := by simpa using e
  have hrow := Asd.mk hr
  obtain ⟨d, hd, hdc, hda⟩ := row_fvs ks off2 hr
  have hb2 : b2 < W.heap.size := World.block_lt_of_cell? W _ (hdc 0 0 (by omega) (by omega))
  clear e hr
  obtain ⟨i0, hi, hz0, hz1, hz2'⟩ := info_parts info_strT
  obtain ⟨j0, ji, jz0, jz1, jz2⟩ := info_parts info_tyT
  have hn1 : (0 : Int) ≤ (n : Int) := by omega
  have hn2 : (n : Int) ≤ (ss.length : Int) := by omega
  have hn3 : (n : Int) ≤ (cap1 : Int) := by omega
  rw [hkl] at hd1 ⊢
  have hn4 : (n : Int) ≤ (cap : Int) := by omega
  have hcn : ¬ cap1 = n := by omega
  have hcn2 : ¬ cap = n := by omega
  go_region_law (first
    | (refine step_append_own rfl (.tmp 41) (.tmp 44) 22 rfl W.heap.size 9 i0 (.string ⟨#[]⟩) 1 16 Try.underlying22 hi hz0 hz1 hz2' rfl (by decide) _ 0 [] rfl (own_empty W _ _) ⟨b1, off1 + n, none⟩ (ss.length - n) _ (((ss.drop n).take (ss.length - n)).map Value.string) rfl (by simp) (news_part (ss := ss) (fun j hj => (drop_cell W _ b1 (off1 + j) hb1).trans (hc1' j hj)) n (ss.length - n) (by omega)) (oneCell_strs _) (by unfold maxLen; omega) (by omega) (by simp) ?_; intro v1 w3 hown1 hg1; have hbw3 := below_one hg1)
    | (refine step_append_own rfl (.tmp 45) (.tmp 48) 22 rfl W.heap.size 9 i0 (.string ⟨#[]⟩) 1 16 Try.underlying22 hi hz0 hz1 hz2' rfl (by decide) _ _ _ rfl hown1 ⟨b1, off1 + 0, none⟩ n _ (((ss.drop 0).take n).map Value.string) rfl (by simp; omega) ?_ (oneCell_strs _) (by unfold maxLen; omega) (by omega) (by have := hbw3.size; omega) ?_
       · exact news_part (ss := ss) (fun j hj => (hbw3.cell (p := ⟨b1, off1 + j, none⟩) hb1).trans (hc1' j hj)) 0 n (by omega)
       intro v2 w4 hown2 hg2
       have X := Lib.hid (And.intro hown2 (below_two hbw3 hown1 hg2))
       clear hown2 hg2 hown1 hg1 hbw3))
  obtain ⟨hown2, hb4⟩ := X.out
  have hst : StrsAt w4 v2 (rot n ss) := strsAt_ownT (n := 0 + (ss.length - n) + n) (by
    have e1 : (ss.drop n).take (ss.length - n) = ss.drop n := List.take_of_length_le (by simp)
    rw [e1] at hown2
    simpa [rot] using hown2) (by rw [rot_len]; omega) (fun s hs => HS.out.1 s (rot_mem hs)) (by rw [rot_len]; unfold maxLen; omega)
  have HST := Asd.mk hst
  have HB4 := Asd.mk hb4
  have hdc4 := fun j c hj hc => (hb4.cell (p := ⟨b2, off2 + j * 5 + c, none⟩) hb2).trans (hdc j c hj hc)
  have hb2' : b2 < w4.heap.size := Nat.lt_of_lt_of_le hb2 hb4.size
  clear X hown2 hst hb4
  go_wp2_with fail
  go_region_law (first
    | (refine step_append_own rfl (.tmp 50) (.tmp 53) 23 rfl w4.heap.size 25 j0 (.agg zero5) 5 80 Try.underlying23 ji jz0 jz1 jz2 rfl (by decide) _ 0 [] rfl (own_empty w4 _ _) ⟨b2, off2 + n * 5, none⟩ (ss.length - n) _ (((d.drop n).take (ss.length - n)).flatMap FV.ty) rfl (by rw [ty_len, List.length_take, List.length_drop]; omega) (news_part5 (fun j c hj hc => (drop_cell w4 _ b2 (off2 + j * 5 + c) hb2').trans (hdc4 j c hj hc)) n (ss.length - n) (by omega)) (oneCell_tys _) (by unfold maxLen; omega) (by omega) (by simp) ?_; intro v3 w5 hown3 hg3; have hbw5 := below_one hg3)
    | (refine step_append_own rfl (.tmp 54) (.tmp 57) 23 rfl w4.heap.size 25 j0 (.agg zero5) 5 80 Try.underlying23 ji jz0 jz1 jz2 rfl (by decide) _ _ _ rfl hown3 ⟨b2, off2 + 0 * 5, none⟩ n _ (((d.drop 0).take n).flatMap FV.ty) rfl (by rw [ty_len, List.length_take, List.length_drop]; omega) ?_ (oneCell_tys _) (by unfold maxLen; omega) (by omega) (by have := hbw5.size; omega) ?_
       · exact news_part5 (fun j c hj hc => (hbw5.cell (p := ⟨b2, off2 + j * 5 + c, none⟩) hb2').trans (hdc4 j c hj hc)) 0 n (by omega)
       intro v4 w6 hown4 hg4
       have X := Lib.hid (And.intro hown4 (below_two hbw5 hown3 hg4))
       clear hown4 hg4 hown3 hg3 hbw5))
  obtain ⟨hown4, hb6⟩ := X.out
  have hB46 : Below W.heap.size W w6 := sl_trans HB4.out hb6
  have hkt : KidsAt w6 v4 (rot n ks) := by
    have e1 : (d.drop n).take (ss.length - n) = d.drop n := List.take_of_length_le (by simp; omega)
    rw [e1] at hown4
    have h := kids_own (d := rot n d) (P := rot n (ks.map fun t => (⟨#[]⟩, t))) (n := 0 + (ss.length - n) + n) (by
      have e2 : (rot n d).flatMap FV.ty = [] ++ (d.drop n).flatMap FV.ty ++ ((d.drop 0).take n).flatMap FV.ty := by simp [rot]
      rw [e2]
      exact hown4) (by rw [rot_len]; omega) ((hda.mono fun x p hx => hx.mono hB46).rot n)
    have e3 : (rot n (ks.map fun t => ((⟨#[]⟩ : ByteArray), t))).map Prod.snd = rot n ks := by
      rw [rot_map, List.map_map]
      simp [Function.comp_def]
    rwa [e3] at h
  have HKT := Asd.mk hkt
  have HB6 := Asd.mk hB46
  have HST6 := Asd.mk (HST.out.mono hb6)
  clear X hown4 hkt hb6 hB46 HST HB4 hdc4 hb2' hdc hda hd
  go_wp2_with fail
  refine (prec_any _ _ (rot n ss) (rot n ks) _ HST6.out HKT.out (by rw [rot_len]; omega) (by rw [rot_len]; omega)).mono ?_
  rintro e w7 ⟨q0, q1, q2, q3, q4, b', t', rfl, hb7, hT', hR'⟩
  obtain ⟨rfl, et⟩ := rec_rot HR.out hR'
  rw [et] at hT'
  clear et
  obtain ⟨qk, qn, qm, qa, ql, qc, qa', ql', qc', rfl, rfl, rfl, rfl, rfl⟩ := hT'.form
  have HB7 := Asd.mk (sl_trans HB6.out hb7)
  have HT7 := Asd.mk hT'
  clear hT' hb7 hR' HB6 HST6 HKT
  have hs7 := HS0.out w7 HB7.out
  have hlt := World.block_lt_of_cell? w7 _ hs7.1
  have hne : B ≠ w7.heap.size := by simp at hlt; omega
  have hne' : w7.heap.size ≠ B := fun h => hne h.symm
  go_split_ands
  go_wp2_with fail
  have hb8 : Below w7.heap.size w7 (w7.alloc (.cells #[.int .i64 qk, .int .i64 qn, .string qm, .slice qa ql qc, .slice qa' ql' qc'] 25)) := (Below.refl _ _).alloc (Nat.le_refl _) _
  have HB8 := Asd.mk (sl_trans HB7.out hb8)
  have HT8 := Asd.mk (HT7.out.mono hb8)
  clear hb8 HB7 HT7
  refine (psameTy_any _ t t _ _ _ _ _ _ _ _ _ _ _ (Nat.le_refl _) (HTW.out.mono HB8.out) HT8.out).mono ?_
  rw [same_refl]
  rintro e w9 ⟨rfl, hb9⟩
  have HB9 := Asd.mk (sl_trans HB8.out hb9)
  clear hb9 HT8 HB8 hlt hne hne'
  have hs9 := HS0.out w9 HB9.out
  go_split_ands
  go_wp2_with fail
  go_loopw [14] (fun i wr => ∃ j : Nat, j ≤ ss.length ∧ i = .int .i64 j ∧ Below W.heap.size W wr) (fun i _ => ss.length - (intOf i).toNat)
  case atStart => exact ⟨0, by omega, rfl, HB9.out⟩
  case round =>
    obtain ⟨j, hj, rfl, hb⟩ := hrel
    by_cases hlt : j < ss.length
    · have hkj : j < ks.length := by omega
      have hlc := hc1' j hlt
      obtain ⟨x0, x1, x2, x3, x4, c0, c1, c2, c3, c4, hx⟩ := hrow.out.at hkj
      obtain ⟨xk, xn, xm, xa, xl, xc, xa', xl', xc', rfl, rfl, rfl, rfl, rfl⟩ := hx.form
      have HX := Asd.mk hx
      have hf := rec_field HR.out hlt
      have CF : ∀ wx, Below W.heap.size W wx → Calls Try.prog 31 #[.agg #[.int .i64 pk, .int .i64 pn, .string pm, .slice pa pl pc, .slice pa' pl' pc'], .string (stAt ss j)] wx fun e w' => ∃ fk fn fm fa fl fc fa' fl' fc', e = .returned (.tuple #[.agg #[.int .i64 fk, .int .i64 fn, .string fm, .slice fa fl fc, .slice fa' fl' fc'], .bool true]) ∧ Below wx.heap.size wx w' ∧ TyIn W (kAt ks j) (.int .i64 fk) (.int .i64 fn) (.string fm) (.slice fa fl fc) (.slice fa' fl' fc') := fun wx hx => (pfield_base t (stAt ss j) _ _ _ _ _ W wx HTW.out hx).mono fun e w' h => by
        obtain ⟨u0, u1, u2, u3, u4, h1, h2, h3⟩ := h
        rw [hf] at h1 h3
        obtain ⟨fk, fn, fm, fa, fl, fc, fa', fl', fc', rfl, rfl, rfl, rfl, rfl⟩ := h3.form
        exact ⟨_, _, _, _, _, _, _, _, _, h1, h2, h3⟩
      have HSR : Asd (∀ w', Below W.heap.size W w' → (w'.cell? ⟨B, 0, none⟩ = some (.int .i64 pk) ∧ w'.cell? ⟨B, 1, none⟩ = some (.int .i64 pn) ∧ w'.cell? ⟨B, 2, none⟩ = some (.string pm) ∧ w'.cell? ⟨B, 3, none⟩ = some (.slice pa pl pc) ∧ w'.cell? ⟨B, 4, none⟩ = some (.slice pa' pl' pc')) ∧ w'.cell? ⟨b1, off1 + j, none⟩ = some (.string (stAt ss j))) := ⟨fun w' h => ⟨HS0.out w' h, cell_below h hlc⟩⟩
      have HCX : Asd (∀ w', Below W.heap.size W w' → (w'.cell? ⟨b2, off2 + j * 5, none⟩ = some (.int .i64 xk) ∧ w'.cell? ⟨b2, off2 + j * 5 + 1, none⟩ = some (.int .i64 xn) ∧ w'.cell? ⟨b2, off2 + j * 5 + 2, none⟩ = some (.string xm) ∧ w'.cell? ⟨b2, off2 + j * 5 + 3, none⟩ = some (.slice xa xl xc) ∧ w'.cell? ⟨b2, off2 + j * 5 + 4, none⟩ = some (.slice xa' xl' xc'))) := ⟨fun w' h => ⟨cell_below h c0, cell_below h c1, cell_below h c2, cell_below h c3, cell_below h c4⟩⟩
      generalize stAt ss j = lb at hlc CF HSR
      clear hx hf hlc c0 c1 c2 c3 c4
      have hwr := hb.size
      go_wp2_with fail
      go_region_held3 (fun w' => (w'.cell? ⟨B, 0, none⟩ = some (.int .i64 pk) ∧ w'.cell? ⟨B, 1, none⟩ = some (.int .i64 pn) ∧ w'.cell? ⟨B, 2, none⟩ = some (.string pm) ∧ w'.cell? ⟨B, 3, none⟩ = some (.slice pa pl pc) ∧ w'.cell? ⟨B, 4, none⟩ = some (.slice pa' pl' pc')) ∧ w'.cell? ⟨b1, off1 + j, none⟩ = some (.string lb))
        ((refine HSR.out _ ?_; repeat (first | assumption | apply sl_drew | apply sl_alloc | (refine sl_set ?_ (by omega)))))
        (first
          | (go_at_call 31; with_reducible refine Calls.mono (CF _ (by repeat (first | assumption | apply sl_drew | apply sl_alloc))) ?_; rintro e wq ⟨fk, fn, fm, fa, fl, fc, fa', fl', fc', rfl, hbq, hTq⟩; have hBq : Below W.heap.size W wq := sl_trans (by repeat (first | assumption | apply sl_drew | apply sl_alloc)) hbq; have hwq := hbq.size; (try (have n0 : wq.heap[wr.heap.size]? = some (.cells zero5 25 (0, 0)) := tb_below hbq (tb_at _ _ rfl); obtain ⟨⟨_, _, _, _, _⟩, _, _, _, _, _⟩ := tb_zero n0))))
      · have ha := fun i v h => alloc_at wq #[.int .i64 fk, .int .i64 fn, .string fm, .slice fa fl fc, .slice fa' fl' fc'] 25 i v h
        have hbz := sl_alloc (o := .cells #[.int .i64 fk, .int .i64 fn, .string fm, .slice fa fl fc, .slice fa' fl' fc'] 25) hBq
        generalize wq.heap.size = C at ha ⊢
        obtain ⟨wz, hwz⟩ : ∃ wz, wq.alloc (.cells #[.int .i64 fk, .int .i64 fn, .string fm, .slice fa fl fc, .slice fa' fl' fc'] 25) = wz := ⟨_, rfl⟩
        rw [hwz] at ha hbz ⊢
        clear hwz
        have z0 : wz.cell? ⟨C, 0, none⟩ = some (.int .i64 fk) := ha 0 _ rfl
        have z1 : wz.cell? ⟨C, 1, none⟩ = some (.int .i64 fn) := ha 1 _ rfl
        have z2 : wz.cell? ⟨C, 2, none⟩ = some (.string fm) := ha 2 _ rfl
        have z3 : wz.cell? ⟨C, 3, none⟩ = some (.slice fa fl fc) := ha 3 _ rfl
        have z4 : wz.cell? ⟨C, 4, none⟩ = some (.slice fa' fl' fc') := ha 4 _ rfl
        clear ha
        have hcx := HCX.out wz hbz
        clear HSR CF hwr hwq hbq hBq
        have HSZ : Asd (∀ w', Below wz.heap.size wz w' → (w'.cell? ⟨C, 0, none⟩ = some (.int .i64 fk) ∧ w'.cell? ⟨C, 1, none⟩ = some (.int .i64 fn) ∧ w'.cell? ⟨C, 2, none⟩ = some (.string fm) ∧ w'.cell? ⟨C, 3, none⟩ = some (.slice fa fl fc) ∧ w'.cell? ⟨C, 4, none⟩ = some (.slice fa' fl' fc')) ∧ (w'.cell? ⟨b2, off2 + j * 5, none⟩ = some (.int .i64 xk) ∧ w'.cell? ⟨b2, off2 + j * 5 + 1, none⟩ = some (.int .i64 xn) ∧ w'.cell? ⟨b2, off2 + j * 5 + 2, none⟩ = some (.string xm) ∧ w'.cell? ⟨b2, off2 + j * 5 + 3, none⟩ = some (.slice xa xl xc) ∧ w'.cell? ⟨b2, off2 + j * 5 + 4, none⟩ = some (.slice xa' xl' xc'))) := ⟨fun w' h => ⟨⟨cell_below h z0, cell_below h z1, cell_below h z2, cell_below h z3, cell_below h z4⟩, HCX.out w' (sl_trans hbz h)⟩⟩
        have CR : ∀ wx, Below wz.heap.size wz wx → Calls Try.prog 27 #[.agg #[.int .i64 fk, .int .i64 fn, .string fm, .slice fa fl fc, .slice fa' fl' fc'], .agg #[.int .i64 xk, .int .i64 xn, .string xm, .slice xa xl xc, .slice xa' xl' xc']] wx fun e w' => e = .returned (.bool true) ∧ Below wz.heap.size wz w' := fun wx hx => (rsameTy_any _ (kAt ks j) (kAt ks j) _ _ _ _ _ _ _ _ _ _ wx (Nat.le_refl _) (hTq.mono (sl_trans hbz hx)) (HX.out.mono (sl_trans hbz hx))).mono fun e w' h => ⟨by rw [h.1, same_refl], sl_trans hx h.2⟩
        have hzz : Below wz.heap.size wz wz := Below.refl _ _
        have HBZ := Asd.mk hbz
        clear hbz z0 z1 z2 z3 z4 hcx
        go_wp2_with fail
        go_region_held3 (fun w' => (w'.cell? ⟨C, 0, none⟩ = some (.int .i64 fk) ∧ w'.cell? ⟨C, 1, none⟩ = some (.int .i64 fn) ∧ w'.cell? ⟨C, 2, none⟩ = some (.string fm) ∧ w'.cell? ⟨C, 3, none⟩ = some (.slice fa fl fc) ∧ w'.cell? ⟨C, 4, none⟩ = some (.slice fa' fl' fc')) ∧ (w'.cell? ⟨b2, off2 + j * 5, none⟩ = some (.int .i64 xk) ∧ w'.cell? ⟨b2, off2 + j * 5 + 1, none⟩ = some (.int .i64 xn) ∧ w'.cell? ⟨b2, off2 + j * 5 + 2, none⟩ = some (.string xm) ∧ w'.cell? ⟨b2, off2 + j * 5 + 3, none⟩ = some (.slice xa xl xc) ∧ w'.cell? ⟨b2, off2 + j * 5 + 4, none⟩ = some (.slice xa' xl' xc')))
          ((refine HSZ.out _ ?_; repeat (first | assumption | apply sl_drew | apply sl_alloc)))
          (first
            | (go_at_call 27; with_reducible refine Calls.mono (CR _ (by repeat (first | assumption | apply sl_drew | apply sl_alloc))) ?_; rintro e wy ⟨rfl, hby⟩))
        go_wp2
        go_roundw
        case rel => exact ⟨j + 1, by omega, by go_num, sl_trans HBZ.out hby⟩
        case measure => simp [intOf]; omega
      · obtain ⟨⟨o0, o1, o2, o3, o4⟩, _⟩ := tb_zero n0
        have hbz := sl_set (i := 4) (v := .slice fa' fl' fc') (sl_set (i := 3) (v := .slice fa fl fc) (sl_set (i := 2) (v := .string fm) (sl_set (i := 1) (v := .int .i64 fn) (sl_set (i := 0) (v := .int .i64 fk) hBq hwr) hwr) hwr) hwr) hwr
        have z0 : (((((wq.setCell ⟨wr.heap.size, 0, none⟩ (.int .i64 fk)).setCell ⟨wr.heap.size, 1, none⟩ (.int .i64 fn)).setCell ⟨wr.heap.size, 2, none⟩ (.string fm)).setCell ⟨wr.heap.size, 3, none⟩ (.slice fa fl fc)).setCell ⟨wr.heap.size, 4, none⟩ (.slice fa' fl' fc')).cell? ⟨wr.heap.size, 0, none⟩ = some (.int .i64 fk) := by simp [go_sem, o0, o1, o2, o3, o4]
        have z1 : (((((wq.setCell ⟨wr.heap.size, 0, none⟩ (.int .i64 fk)).setCell ⟨wr.heap.size, 1, none⟩ (.int .i64 fn)).setCell ⟨wr.heap.size, 2, none⟩ (.string fm)).setCell ⟨wr.heap.size, 3, none⟩ (.slice fa fl fc)).setCell ⟨wr.heap.size, 4, none⟩ (.slice fa' fl' fc')).cell? ⟨wr.heap.size, 1, none⟩ = some (.int .i64 fn) := by simp [go_sem, o0, o1, o2, o3, o4]
        have z2 : (((((wq.setCell ⟨wr.heap.size, 0, none⟩ (.int .i64 fk)).setCell ⟨wr.heap.size, 1, none⟩ (.int .i64 fn)).setCell ⟨wr.heap.size, 2, none⟩ (.string fm)).setCell ⟨wr.heap.size, 3, none⟩ (.slice fa fl fc)).setCell ⟨wr.heap.size, 4, none⟩ (.slice fa' fl' fc')).cell? ⟨wr.heap.size, 2, none⟩ = some (.string fm) := by simp [go_sem, o0, o1, o2, o3, o4]
        have z3 : (((((wq.setCell ⟨wr.heap.size, 0, none⟩ (.int .i64 fk)).setCell ⟨wr.heap.size, 1, none⟩ (.int .i64 fn)).setCell ⟨wr.heap.size, 2, none⟩ (.string fm)).setCell ⟨wr.heap.size, 3, none⟩ (.slice fa fl fc)).setCell ⟨wr.heap.size, 4, none⟩ (.slice fa' fl' fc')).cell? ⟨wr.heap.size, 3, none⟩ = some (.slice fa fl fc) := by simp [go_sem, o0, o1, o2, o3, o4]
        have z4 : (((((wq.setCell ⟨wr.heap.size, 0, none⟩ (.int .i64 fk)).setCell ⟨wr.heap.size, 1, none⟩ (.int .i64 fn)).setCell ⟨wr.heap.size, 2, none⟩ (.string fm)).setCell ⟨wr.heap.size, 3, none⟩ (.slice fa fl fc)).setCell ⟨wr.heap.size, 4, none⟩ (.slice fa' fl' fc')).cell? ⟨wr.heap.size, 4, none⟩ = some (.slice fa' fl' fc') := by simp [go_sem, o0, o1, o2, o3, o4]
        clear o0 o1 o2 o3 o4 n0
        obtain ⟨wz, hwz⟩ : ∃ wz, ((((wq.setCell ⟨wr.heap.size, 0, none⟩ (.int .i64 fk)).setCell ⟨wr.heap.size, 1, none⟩ (.int .i64 fn)).setCell ⟨wr.heap.size, 2, none⟩ (.string fm)).setCell ⟨wr.heap.size, 3, none⟩ (.slice fa fl fc)).setCell ⟨wr.heap.size, 4, none⟩ (.slice fa' fl' fc') = wz := ⟨_, rfl⟩
        rw [hwz] at z0 z1 z2 z3 z4 hbz ⊢
        clear hwz
        have hcx := HCX.out wz hbz
        clear HSR CF hwq hbq hBq
        have HSZ : Asd (∀ w', Below wz.heap.size wz w' → (w'.cell? ⟨wr.heap.size, 0, none⟩ = some (.int .i64 fk) ∧ w'.cell? ⟨wr.heap.size, 1, none⟩ = some (.int .i64 fn) ∧ w'.cell? ⟨wr.heap.size, 2, none⟩ = some (.string fm) ∧ w'.cell? ⟨wr.heap.size, 3, none⟩ = some (.slice fa fl fc) ∧ w'.cell? ⟨wr.heap.size, 4, none⟩ = some (.slice fa' fl' fc')) ∧ (w'.cell? ⟨b2, off2 + j * 5, none⟩ = some (.int .i64 xk) ∧ w'.cell? ⟨b2, off2 + j * 5 + 1, none⟩ = some (.int .i64 xn) ∧ w'.cell? ⟨b2, off2 + j * 5 + 2, none⟩ = some (.string xm) ∧ w'.cell? ⟨b2, off2 + j * 5 + 3, none⟩ = some (.slice xa xl xc) ∧ w'.cell? ⟨b2, off2 + j * 5 + 4, none⟩ = some (.slice xa' xl' xc'))) := ⟨fun w' h => ⟨⟨cell_below h z0, cell_below h z1, cell_below h z2, cell_below h z3, cell_below h z4⟩, HCX.out w' (sl_trans hbz h)⟩⟩
        have CR : ∀ wx, Below wz.heap.size wz wx → Calls Try.prog 27 #[.agg #[.int .i64 fk, .int .i64 fn, .string fm, .slice fa fl fc, .slice fa' fl' fc'], .agg #[.int .i64 xk, .int .i64 xn, .string xm, .slice xa xl xc, .slice xa' xl' xc']] wx fun e w' => e = .returned (.bool true) ∧ Below wz.heap.size wz w' := fun wx hx => (rsameTy_any _ (kAt ks j) (kAt ks j) _ _ _ _ _ _ _ _ _ _ wx (Nat.le_refl _) (hTq.mono (sl_trans hbz hx)) (HX.out.mono (sl_trans hbz hx))).mono fun e w' h => ⟨by rw [h.1, same_refl], sl_trans hx h.2⟩
        have hzz : Below wz.heap.size wz wz := Below.refl _ _
        have HBZ := Asd.mk hbz
        clear hbz z0 z1 z2 z3 z4 hcx
        go_wp2_with fail
        go_region_held3 (fun w' => (w'.cell? ⟨wr.heap.size, 0, none⟩ = some (.int .i64 fk) ∧ w'.cell? ⟨wr.heap.size, 1, none⟩ = some (.int .i64 fn) ∧ w'.cell? ⟨wr.heap.size, 2, none⟩ = some (.string fm) ∧ w'.cell? ⟨wr.heap.size, 3, none⟩ = some (.slice fa fl fc) ∧ w'.cell? ⟨wr.heap.size, 4, none⟩ = some (.slice fa' fl' fc')) ∧ (w'.cell? ⟨b2, off2 + j * 5, none⟩ = some (.int .i64 xk) ∧ w'.cell? ⟨b2, off2 + j * 5 + 1, none⟩ = some (.int .i64 xn) ∧ w'.cell? ⟨b2, off2 + j * 5 + 2, none⟩ = some (.string xm) ∧ w'.cell? ⟨b2, off2 + j * 5 + 3, none⟩ = some (.slice xa xl xc) ∧ w'.cell? ⟨b2, off2 + j * 5 + 4, none⟩ = some (.slice xa' xl' xc')))
          ((refine HSZ.out _ ?_; repeat (first | assumption | apply sl_drew | apply sl_alloc)))
          (first
            | (go_at_call 27; with_reducible refine Calls.mono (CR _ (by repeat (first | assumption | apply sl_drew | apply sl_alloc))) ?_; rintro e wy ⟨rfl, hby⟩))
        go_wp2
        go_roundw
        case rel => exact ⟨j + 1, by omega, by go_num, sl_trans HBZ.out hby⟩
        case measure => simp [intOf]; omega
    · have hje : j = ss.length := by omega
      subst hje
      go_wp2_with fail
      refine (HA _).mono ?_
      rintro e wz ⟨rfl, hbz⟩
      go_wp2
      go_ret
      exact ⟨rfl, sl_trans HBW.out (sl_trans hb hbz)⟩
end Go.Proofs.Ytbfmaicoefefaaa
