/- slices.SortFunc of a row of fields, as the evaluator's boxes see it. -/
import Derived.Test.YtbfmaicoefefaaaPwY
import Derived.Test.YtbfmaicoefefaaaTyRow
set_option linter.unusedSimpArgs false
set_option linter.unusedVariables false
namespace Go.Proofs.Ytbfmaicoefefaaa
open Go.RowKit Pv Go.Sort
set_option maxRecDepth 100000
def fldD (p : ByteArray × Ty5) : List D := strD p.1 :: leavesD (tyD p.2)
theorem fldD_len (p : ByteArray × Ty5) : (fldD p).length = 6 := by
  obtain ⟨s, k, n, nm, ls, ks⟩ := p
  rfl
def FRd (C : Cx) (w : World) (x : FV) (p : ByteArray × Ty5) : Prop := x.lb = p.1 ∧ RdL C w (fldD p) x.enc
theorem fv_of {C : Cx} {w : World} {p : ByteArray × Ty5} {vs : List Value} (r : RdL C w (fldD p) vs) : ∃ x : FV, vs = x.enc ∧ FRd C w x p := by
  obtain ⟨s, k, n, nm, ls, ks⟩ := p
  have r' := r
  simp only [fldD, tyD, leavesD, strD] at r
  obtain ⟨u0, r0, rfl, q0, u1, r1, rfl, q1, u2, r2, rfl, q2, u3, r3, rfl, q3, u4, r4, rfl, q4, u5, r5, rfl, q5, q6⟩ := r
  simp only [RdL] at q6
  subst q6
  simp only [Pv.Rd] at q0 q1 q2 q3
  subst q0 q1 q2 q3
  obtain ⟨⟨a, c, rfl, _⟩, _⟩ := q4
  obtain ⟨⟨a', c', rfl, _⟩, _⟩ := q5
  exact ⟨⟨s, k, n, nm, a, _, c, a', _, c'⟩, rfl, rfl, r'⟩
theorem fvs_of {C : Cx} {w : World} : ∀ {ps : List (ByteArray × Ty5)} {vs : List Value}, RdL C w (ps.flatMap fldD) vs → ∃ d : List FV, vs = d.flatMap FV.enc ∧ All2 (FRd C w) d ps
  | [], vs, r => by
    simp only [List.flatMap_nil, RdL] at r
    subst r
    exact ⟨[], rfl, .nil⟩
  | p :: ps, vs, r => by
    rw [List.flatMap_cons] at r
    have r1 := r.take 6
    have r2 := r.drop 6
    rw [List.take_left' (fldD_len p)] at r1
    rw [List.drop_left' (fldD_len p)] at r2
    obtain ⟨x, e1, h1⟩ := fv_of r1
    obtain ⟨d, e2, h2⟩ := fvs_of r2
    refine ⟨x :: d, ?_, .cons h1 h2⟩
    rw [List.flatMap_cons, ← e1, ← e2, List.take_append_drop]
theorem frds_rd {C : Cx} {w : World} {d : List FV} {ps : List (ByteArray × Ty5)} (h : All2 (FRd C w) d ps) : RdL C w (ps.flatMap fldD) (d.flatMap FV.enc) := by
  induction h with
  | nil => rfl
  | cons h _ ih =>
    rw [List.flatMap_cons, List.flatMap_cons]
    exact h.2.app ih
theorem flatK_list (d : Array FV) : (flatK FV.enc 6 d).toList = d.toList.flatMap FV.enc := by
  apply List.ext_getElem?
  intro i
  by_cases hi : i < d.size * 6
  · have hq : i / 6 < d.toList.length := by simp; omega
    have h := flat_getF d.toList (i / 6) (i % 6) hq (Nat.mod_lt _ (by decide))
    rw [show i / 6 * 6 + i % 6 = i by omega] at h
    have h2 := get_flatK FV.enc 6 d i hi
    have h3 : (flatK FV.enc 6 d).toList[i]? = some (flatK FV.enc 6 d)[i]! := by
      rw [Array.getElem?_toList, getElem!_pos _ i (by simpa using hi)]
      exact Array.getElem?_eq_getElem (by simpa using hi)
    rw [h, h3, h2]
    have h4 : d[i / 6]! = d.toList[i / 6] := by
      rw [getElem!_pos d (i / 6) (by simpa using hq)]
      simp
    rw [h4]
    have h5 : i % 6 < (d.toList[i / 6].enc).length := by rw [enc_len]; exact Nat.mod_lt _ (by decide)
    rw [List.getElem?_eq_getElem h5]
    congr 1
    exact getElem!_pos (d.toList[i / 6].enc) (i % 6) h5
  · rw [List.getElem?_eq_none (by simp; omega), List.getElem?_eq_none (by rw [flat_len]; simp; omega)]
theorem sorted_block {w : World} {b n : Nat} {os : Array Obj} {d' : Array FV} {vs : Array Value} {t : TypeId} (hg : w.heap[b]? = some (.cells vs t (0, 0))) (hs : vs.size = d'.size * 6) :
    (sortWorldK FV.enc 6 w b 0 n d' os).heap[b]? = some (.cells (d'.toList.flatMap FV.enc).toArray t (0, 0)) := by
  have hlt : b < w.heap.size := (Array.getElem?_eq_some_iff.1 hg).1
  unfold sortWorldK putRowK
  rw [heap_grow_old _ _ (by simpa [putRow, mapBlock, Sort.ahead] using hlt)]
  have hg' : (Sort.ahead w n).heap[b]? = some (.cells vs t (0, 0)) := hg
  simp only [putRow, mapBlock, Array.getElem?_modify, if_true, hg', Option.map_some, onCells]
  congr 2
  apply Array.ext'
  rw [← flatK_list]
  apply List.ext_getElem?
  intro i
  simp only [putCells, Nat.zero_le, true_and, Nat.zero_add, Nat.sub_zero, id]
  by_cases hi : i < vs.size
  · have hi' : i < (flatK FV.enc 6 d').size := by simp; omega
    simp [hi, hi', show i < d'.size * 6 by omega]
  · rw [List.getElem?_eq_none (by simp; omega), List.getElem?_eq_none (by simp; omega)]
/-- A row of fields, sorted by their labels. -/
theorem sort_cw (h : H) (id n : Nat) (ps : List (ByteArray × Ty5)) (hid : h[id]? = some (.box 66 (ps.flatMap fldD))) (hn : n = ps.length) (hm : n ≤ 1000000) :
    CW (TT ()) 56 [.ms id 0 n, .raw (.func (.func 57) #[] #[])] h fun d h' => d = .tup [] ∧ ∃ ps' : List (ByteArray × Ty5), ps'.Perm ps ∧ (∀ i j, i < j → (hj : j < ps'.length) → (hi : i < ps'.length) → ltS ps'[j].1 ps'[i].1 = false) ∧ h' = h.set id (.box 66 (ps'.flatMap fldD)) := by
  refine ⟨callable_at Try.func56 (by kernel_rfl) rfl, fun C w args s r => ?_⟩
  obtain ⟨v, f, rfl, hv, hf⟩ := rdL_two r
  simp only [Pv.Rd] at hf
  subst hf
  obtain ⟨b, cap, hbx, rfl, hnc, hcm⟩ := hv
  obtain ⟨b', vs, k1, k2, k3, k4, k5⟩ := s.box id _ _ hid
  rw [hbx] at k1
  cases k1
  obtain ⟨d, hd, hall⟩ := fvs_of k3
  have hdl : d.length = n := by rw [hall.len, hn]
  have hvs : vs = (d.flatMap FV.enc).toArray := by rw [← hd]
  have hsz : vs.size = n * 6 := by rw [hvs, List.size_toArray, flat_len, hdl]
  have hlt : b < w.heap.size := (Array.getElem?_eq_some_iff.1 k2).1
  have hown : w.ownsRow 0 66 6 (.slice (some ⟨b, 0, none⟩) n n) n (d.flatMap FV.enc) :=
    ⟨by rw [flat_len, hdl], .inr ⟨b, n, vs, rfl, Nat.zero_le _, k2, Nat.le_refl _, by unfold maxLen; omega, hsz, by rw [hd, List.take_of_length_le (by rw [flat_len, hdl]; exact Nat.le_refl _)]⟩⟩
  have hH := holds_row hown hdl
  have hcall := fsort_any b 0 cap d.toArray w hH hlt (by simp; omega)
  rw [show d.toArray.size = n by simpa using hdl] at hcall
  refine hcall.mono ?_
  rintro e w' ⟨rfl, d', q, os, ⟨hp1, _, hp2⟩, hs, rfl⟩
  have hsz' : d'.size = n := by rw [hp1]; simpa using hdl
  have hperm : d'.toList.Perm d := by
    have e1 : (d'.extract 0 n).toList = d'.toList := by rw [← hsz']; simp
    have e2 : (d.toArray.extract 0 n).toList = d := by rw [← hdl]; simp
    rw [e1, e2] at hp2
    exact hp2
  obtain ⟨ps', hP1, hP2⟩ := hall.perm hperm
  have hg := grownBy_sortedK (w := w) (g := b) (n := q) (os := os) d'
  have hnew := sorted_block (n := q) (os := os) (d' := d') k2 (by rw [hsz, hsz'])
  generalize hw' : sortWorldK FV.enc 6 w b 0 q d' os = w' at hg hnew
  have same : ∀ k, k < w.heap.size → k ≠ b → w'.heap[k]? = w.heap[k]? := fun k hk hne => hg.block k hk (fun e => hne (by simpa using e))
  have notS : ∀ o, ¬ C.S b o := k5
  have ev : Ev C w C w' := by
    refine ⟨hg.os, hg.tape, hg.output, hg.size, fun _ _ h => h, fun b0 o hs0 => ?_, fun _ _ h => h, fun _ u h => ⟨u, h, .inl rfl⟩⟩
    have hb0 : b0 ≠ b := fun e => notS o (e ▸ hs0)
    exact World.cell?_of_block (w := w) (w' := w') (same b0 (s.S _ _ hs0) hb0)
  have fw : Fw C w C w' := ⟨ev, fun b0 hb0 hnb => same b0 hb0 fun e => hnb id (.inl (e ▸ hbx)), fun id0 b0 hk _ => ⟨id0, hk⟩, fun _ _ h _ => .inl h⟩
  have hidlt := (List.getElem?_eq_some_iff.1 hid).1
  refine ⟨.tuple #[], C, .tup [], _, rfl, ⟨rfl, ps', hP1, fun i j hij hj hi => ?_, rfl⟩, fw, ⟨s.S.mono fw.toEv fun b0 o hs0 => Nat.lt_of_lt_of_le (s.S b0 o hs0) hg.size, fun id0 t0 ds0 e0 => ?_, fun id0 e1 sz1 n1 e0 => ?_, fun id0 b0 hb0 => Nat.lt_of_lt_of_le (s.lt id0 b0 hb0) hg.size, fun id0 b0 hb0 => by rw [List.length_set]; exact s.idb id0 b0 hb0, fun id0 u0 hu0 => by rw [List.length_set]; exact s.idl id0 u0 hu0, s.inj, s.one, fun id0 b0 P0 e0 => ?_⟩, ⟨[], rfl, rfl⟩⟩
  · have hl : ps'.length = d'.size := by rw [← hP2.len]; simp
    have h0 := hs i j (Nat.zero_le _) hij (by omega)
    rw [flt, getElem!_pos d' j (by omega), getElem!_pos d' i (by omega)] at h0
    have a1 := hP2.get (j := j) (by simpa using (by omega : j < d'.size)) hj
    have a2 := hP2.get (j := i) (by simpa using (by omega : i < d'.size)) hi
    rw [← a1.1, ← a2.1]
    simpa using h0
  · rw [List.getElem?_set] at e0
    split at e0
    · rename_i hii
      subst hii
      simp [hidlt] at e0
      obtain ⟨rfl, rfl⟩ := e0
      refine ⟨b, _, hbx, hnew, ?_, fun u hu => ?_, notS⟩
      · have := frds_rd hP2
        simpa using this.mono ev
      · have hu' : u ∈ d'.toList.flatMap FV.enc := by simpa using hu
        obtain ⟨x, _, hx⟩ := List.mem_flatMap.1 hu'
        simp [FV.enc] at hx
        rcases hx with rfl | rfl | rfl | rfl | rfl | rfl <;> rfl
    · rename_i hii
      obtain ⟨b0, vs0, j1, j2, j3, j4, j5⟩ := s.box id0 t0 ds0 e0
      have hb0 : b0 ≠ b := fun e => hii (s.inj id id0 b (.inl hbx) (.inl (e ▸ j1)))
      exact ⟨b0, vs0, j1, (same b0 (s.lt id0 b0 (.inl j1)) hb0).trans j2, j3.mono ev, j4, j5⟩
  · rw [List.getElem?_set] at e0
    split at e0
    · simp [hidlt] at e0
    · rename_i hii
      obtain ⟨u, xs, j1, j2, j3⟩ := s.log id0 e1 sz1 n1 e0
      refine ⟨u, xs, j1, own_block j2 fun b0 hb0 => same b0 (s.lt id0 b0 (.inr ⟨u, j1, hb0⟩)) fun e => hii (s.inj id id0 b (.inl hbx) (.inr ⟨u, j1, e ▸ hb0⟩)), j3⟩
  · obtain ⟨hii, e0⟩ := set_old e0 (fun h => by cases h)
    obtain ⟨j1, ⟨x, j2, j3⟩, j4⟩ := s.keep id0 b0 P0 e0
    have hb0 : b0 ≠ b := fun e => hii (s.inj id0 id b0 (.inl j1) (.inl (hbx.trans (congrArg some e.symm))))
    exact ⟨j1, ⟨x, (same b0 (s.lt id0 b0 (.inl j1)) hb0).trans j2, j3⟩, j4⟩
end Go.Proofs.Ytbfmaicoefefaaa
