/- The program's ty.Rec. -/
import Derived.Test.YtbfmaicoefefaaaTyRow
import Derived.Test.YtbfmaicoefefaaaTyIs
import Derived.Test.YtbfmaicoefefaaaTyIt
set_option linter.unusedSimpArgs false
set_option linter.unusedVariables false
namespace Go.Proofs.Ytbfmaicoefefaaa
open Go.RowKit Go.Deep Go.Sort
def fv0 : FV := ⟨ByteArray.empty, 0, 0, ByteArray.empty, none, 0, 0, none, 0, 0⟩
theorem info_fld : (Try.prog.info? 66).map (fun i => (i.zero, i.size, i.bytes)) = some (some (.agg fv0.enc.toArray), 6, 96) := by kernel_rfl
theorem made_flds : ∀ n, n ≤ 60 → (madeCells fv0.enc.toArray (n * 6)).toList = (List.replicate n fv0).flatMap FV.enc := by
  intro n hn
  have hsz : fv0.enc.toArray.size = 6 := rfl
  apply List.ext_getElem?
  intro t
  by_cases ht : t < n * 6
  · have h := flat_getF (List.replicate n fv0) (t / 6) (t % 6) (by rw [List.length_replicate]; omega) (by omega)
    rw [show t / 6 * 6 + t % 6 = t by omega, List.getElem_replicate] at h
    rw [h]
    have hl : t % 6 < fv0.enc.length := by rw [enc_len]; omega
    simp only [madeCells, hsz, Array.toList_map, Array.toList_range, List.getElem?_map, List.getElem?_range ht, Option.map_some]
    rw [List.getElem?_eq_getElem hl]
    congr 1
    exact getElem!_pos fv0.enc.toArray (t % 6) hl
  · rw [List.getElem?_eq_none (by simp [madeCells]; omega), List.getElem?_eq_none (by rw [flat_len, List.length_replicate]; omega)]
theorem make_flds (n : Nat) (hn : n ≤ 60) (w : World) : (Instr.makeSlice 64 (.int .i64 (n : Nat)) (.int .i64 (n : Nat))).run Try.prog w = .ok (.slice (some ⟨w.heap.size, 0, none⟩) n n) (w.alloc (.cells (madeCells fv0.enc.toArray (n * 6)) 66)) := by
  obtain ⟨i0, hi, hz0, hz1, hz2⟩ := info_parts info_fld
  have h := run_make (P := Try.prog) w 64 66 i0 (.agg fv0.enc.toArray) Try.underlying64 hi hz0 .i64 .i64 (n : Int) (n : Int) (by omega) (Int.le_refl _) (by rw [hz2]; omega) (by omega)
  rw [hz1] at h
  simpa [Value.cells] using h
theorem set_step {w : World} {R : Nat} {cs : Array Value} {t : TypeId} (hz : w.heap[R]? = some (.cells cs t (0, 0))) (j : Nat) (v : Value) : (w.setCell ⟨R, j, none⟩ v).heap[R]? = some (.cells (cs.setIfInBounds j v) t (0, 0)) := heap_setCell_same w R j cs t v hz
theorem grown_step {w w' : World} {R : Nat} (h : w.grownBy w' (some R)) (j : Nat) (v : Value) : w.grownBy (w'.setCell ⟨R, j, none⟩ v) (some R) :=
  ⟨h.os, h.tape, h.output, Nat.le_trans h.size (by simp [World.setCell]), fun k hk hne => (Below.heap_setCell w' ⟨R, j, none⟩ v k (fun e => hne (by rw [e]))).trans (h.block k hk hne)⟩
theorem grown_refl (w : World) (r : Option Nat) : w.grownBy w r := ⟨rfl, rfl, rfl, Nat.le_refl _, fun _ _ _ => rfl⟩
theorem set5 {cs : Array Value} (hc : cs.size = 5) (v0 v1 v2 v3 v4 : Value) : ((((cs.setIfInBounds 0 v0).setIfInBounds 1 v1).setIfInBounds 2 v2).setIfInBounds 3 v3).setIfInBounds 4 v4 = #[v0, v1, v2, v3, v4] := by
  obtain ⟨l⟩ := cs
  match l, hc with
  | [a, b, c, d, e], _ => rfl
theorem ty_stored {w5 : World} {R : Nat} {cs : Array Value} {t : TypeId} (hz : w5.heap[R]? = some (.cells cs t (0, 0))) (hc : cs.size = 5) (v0 v1 v2 v3 v4 : Value) :
    (((((w5.setCell ⟨R, 0, none⟩ v0).setCell ⟨R, 1, none⟩ v1).setCell ⟨R, 2, none⟩ v2).setCell ⟨R, 3, none⟩ v3).setCell ⟨R, 4, none⟩ v4).heap[R]? = some (.cells #[v0, v1, v2, v3, v4] t (0, 0)) := by
  have s0 := set_step hz 0 v0
  have s1 := set_step s0 1 v1
  have s2 := set_step s1 2 v2
  have s3 := set_step s2 3 v3
  have s4 := set_step s3 4 v4
  rw [set5 hc] at s4
  exact s4
theorem ty_grown (w5 : World) (R : Nat) (v0 v1 v2 v3 v4 : Value) : w5.grownBy (((((w5.setCell ⟨R, 0, none⟩ v0).setCell ⟨R, 1, none⟩ v1).setCell ⟨R, 2, none⟩ v2).setCell ⟨R, 3, none⟩ v3).setCell ⟨R, 4, none⟩ v4) (some R) :=
  grown_step (grown_step (grown_step (grown_step (grown_step (grown_refl w5 _) 0 v0) 1 v1) 2 v2) 3 v3) 4 v4
/-- The result's struct has been written: the end. -/
theorem ty_ret {P : Program} {f : Func} {Q : Ending → World → Prop} {a : Act} {R : Nat} {w5 : World} {cs : Array Value} {t : TypeId} {v0 v1 v2 v3 v4 : Value}
    (hz : w5.heap[R]? = some (.cells cs t (0, 0))) (hc : cs.size = 5)
    (hQ : ∀ W, W.heap[R]? = some (.cells #[v0, v1, v2, v3, v4] t (0, 0)) → w5.grownBy W (some R) → bodyPost P f Q Exit.ret a W) :
    bodyPost P f Q Exit.ret a (((((w5.setCell ⟨R, 0, none⟩ v0).setCell ⟨R, 1, none⟩ v1).setCell ⟨R, 2, none⟩ v2).setCell ⟨R, 3, none⟩ v3).setCell ⟨R, 4, none⟩ v4) :=
  hQ _ (ty_stored hz hc v0 v1 v2 v3 v4) (ty_grown w5 R v0 v1 v2 v3 v4)
def zero5 : Array Value := #[.int .i64 0, .int .i64 0, .string ⟨#[]⟩, .slice none 0 0, .slice none 0 0]
/-- The fields that have been laid: of the first j places. -/
structure Laid (w wr : World) (ss : List ByteArray) (ks : List Ty5) (j : Nat) : Prop where
  out : ∃ d : List FV, d.length = ss.length ∧ wr.ownsRow (w.heap.size + 1) 66 6 (.slice (some ⟨w.heap.size + 1, 0, none⟩) ss.length ss.length) ss.length (d.flatMap FV.enc) ∧
    (∀ q (hq : q < d.length), q < j → FVIs w d[q] (stAt ss q, kAt ks q)) ∧ Below w.heap.size w wr ∧ wr.heap[w.heap.size]? = some (.cells zero5 25 (0, 0))
theorem laid_start (w : World) (ss : List ByteArray) (ks : List Ty5) (h60 : ss.length ≤ 60) : Laid w ((w.alloc (.cells zero5 25)).alloc (.cells (madeCells fv0.enc.toArray (ss.length * 6)) 66)) ss ks 0 := by
  refine ⟨List.replicate ss.length fv0, by simp, ?_, fun q _ h => absurd h (Nat.not_lt_zero _), ((Below.refl _ _).alloc (Nat.le_refl _) _).alloc (by simp) _, ?_⟩
  · have := World.ownsRow_lit (base := w.heap.size + 1) (e := 66) (size := 6) (w.alloc (.cells zero5 25)) (madeCells fv0.enc.toArray (ss.length * 6)) ss.length (by simp) (by unfold maxLen; omega) (size_madeCells _ _)
    rw [made_flds ss.length h60] at this
    simpa using this
  · rw [Below.heap_alloc _ _ _ (by simp)]
    exact heap_alloc_new w _
theorem laid_step {w wr : World} {ss : List ByteArray} {ks : List Ty5} {j : Nat} (h : Laid w wr ss ks j) (hj : j < ss.length) (x : FV) (hx : FVIs w x (stAt ss j, kAt ks j)) :
    Laid w ((((((wr.setCell ⟨w.heap.size + 1, j * 6, none⟩ (.string x.lb)).setCell ⟨w.heap.size + 1, j * 6 + 1, none⟩ (.int .i64 x.k)).setCell ⟨w.heap.size + 1, j * 6 + 2, none⟩ (.int .i64 x.n)).setCell ⟨w.heap.size + 1, j * 6 + 3, none⟩ (.string x.nm)).setCell ⟨w.heap.size + 1, j * 6 + 4, none⟩ (.slice x.a x.l x.c)).setCell ⟨w.heap.size + 1, j * 6 + 5, none⟩ (.slice x.a' x.l' x.c')) ss ks (j + 1) := by
  obtain ⟨d, hd, hown, hq, hb, hz⟩ := h.out
  have hle : w.heap.size ≤ w.heap.size + 1 := by omega
  refine ⟨d.set j x, by simpa using hd, store6 hown (by omega) x, fun q hq1 hq2 => ?_, ?_, ?_⟩
  · by_cases e : q = j
    · subst e
      rw [List.getElem_set_self]
      exact hx
    · rw [List.getElem_set_ne (fun h => e h.symm)]
      exact hq q (by simpa using hq1) (by omega)
  · exact (((((hb.setCell (p := ⟨w.heap.size + 1, j * 6, none⟩) hle _).setCell (p := ⟨w.heap.size + 1, j * 6 + 1, none⟩) hle _).setCell (p := ⟨w.heap.size + 1, j * 6 + 2, none⟩) hle _).setCell (p := ⟨w.heap.size + 1, j * 6 + 3, none⟩) hle _).setCell (p := ⟨w.heap.size + 1, j * 6 + 4, none⟩) hle _).setCell (p := ⟨w.heap.size + 1, j * 6 + 5, none⟩) hle _
  · have hne : w.heap.size ≠ w.heap.size + 1 := by omega
    rw [Below.heap_setCell _ _ _ _ hne, Below.heap_setCell _ _ _ _ hne, Below.heap_setCell _ _ _ _ hne, Below.heap_setCell _ _ _ _ hne, Below.heap_setCell _ _ _ _ hne, Below.heap_setCell _ _ _ _ hne]
    exact hz
theorem info_strT : (Try.prog.info? 9).map (fun i => (i.zero, i.size, i.bytes)) = some (some (.string ⟨#[]⟩), 1, 16) := by kernel_rfl
theorem info_tyT : (Try.prog.info? 25).map (fun i => (i.zero, i.size, i.bytes)) = some (some (.agg zero5), 5, 80) := by kernel_rfl
theorem not_rising {l : List ByteArray} (up : ∀ j, (h : j + 1 < l.length) → ltS l[j + 1] l[j] = false) (h : risingB l = false) : (∃ s ∈ l, fineB s = false) ∨ ¬ l.Nodup := by
  refine Classical.byContradiction fun hc => ?_
  rw [not_or] at hc
  obtain ⟨hf, hn⟩ := hc
  have hn : l.Nodup := Classical.not_not.1 hn
  have hf : ∀ s ∈ l, fineB s = true := fun s hs => by
    rcases hq : fineB s with _ | _
    · exact absurd ⟨s, hs, hq⟩ hf
    · rfl
  rw [rising_true fun j hj => ?_] at h
  · cases h
  · have h1 := hf _ (getD_mem hj)
    match j, hj, h1 with
    | 0, hj, h1 => rw [up_zero]; exact h1
    | q + 1, hj, h1 =>
      rw [up_succ, h1, Bool.true_and]
      have h2 := up q hj
      rw [stAt_get hj, stAt_get (by omega : q < l.length)]
      unfold ltS at h2 ⊢
      rcases less_total (l[q]).toList (l[q + 1]).toList with k | k | k
      · exact k
      · have e : l[q] = l[q + 1] := eqS_iff.1 (by unfold eqS; rw [k]; simp)
        have := (List.getElem_inj hn).1 e
        omega
      · rw [k] at h2; cases h2
theorem strsAt_ownT {w : World} {base e n : Nat} {v : Value} {ss : List ByteArray} (h : w.ownsRow base e 1 v n (ss.map Value.string)) (hn : ss.length = n) (hs : ∀ s, s ∈ ss → s.size ≤ maxLen) (hm : ss.length ≤ maxLen) : StrsAt w v ss := by
  refine ⟨hs, hm, ?_⟩
  by_cases h0 : n = 0
  · subst h0
    obtain rfl : ss = [] := List.length_eq_zero_iff.1 hn
    rcases h.2 with ⟨rfl, _⟩ | ⟨g, cap, _, rfl, _⟩
    · exact .inl ⟨none, 0, rfl, rfl⟩
    · exact .inl ⟨_, cap, rfl, rfl⟩
  rcases h.2 with ⟨_, h1⟩ | ⟨g, cap, cur, rfl, hb, hg, _⟩
  · exact absurd h1 h0
  · refine .inr ⟨g, 0, cap, by rw [hn], (Array.getElem?_eq_some_iff.1 hg).1, fun j hj => ?_⟩
    rw [Nat.zero_add, h.cellAt j (by omega), List.getElem?_map, List.getElem?_eq_getElem hj, stAt_get hj]
    rfl
theorem own_form {w : World} {b e s n : Nat} {v : Value} {x : List Value} (h : w.ownsRow b e s v n x) : ∃ a c, v = .slice a n c := by
  rcases h.2 with ⟨rfl, rfl⟩ | ⟨g, cap, _, rfl, _⟩
  · exact ⟨_, _, rfl⟩
  · exact ⟨_, _, rfl⟩
/-- The row of fields, sorted. -/
structure Sorted (w W2 : World) (ss : List ByteArray) (ks : List Ty5) (d : List FV) (P : List (ByteArray × Ty5)) : Prop where
  holds : HoldsK FV.enc 6 W2 (w.heap.size + 1) 0 d.toArray
  len : d.length = ss.length
  all : All2 (FVIs w) d P
  perm : P.Perm (ss.zip ks)
  up : ∀ i j, (hij : i < j) → (h : j < d.length) → ltS (d[j]'h).lb (d[i]'(by omega)).lb = false
  below : Below w.heap.size w W2
  box : W2.heap[w.heap.size]? = some (.cells zero5 25 (0, 0))
  lt : w.heap.size + 1 < W2.heap.size
theorem sorted_of {w wr W2 : World} {ss : List ByteArray} {ks : List Ty5} {d : List FV} {d' : Array FV} {n : Nat} {os : Array Obj} (hd : d.length = ss.length)
    (hq : ∀ q (hq : q < d.length), q < ss.length → FVIs w d[q] (stAt ss q, kAt ks q)) (hl : ss.length = ks.length) (hb : Below w.heap.size w wr) (hz : wr.heap[w.heap.size]? = some (.cells zero5 25 (0, 0)))
    (hO : HoldsK FV.enc 6 wr (w.heap.size + 1) 0 d.toArray) (hblk : w.heap.size + 1 < wr.heap.size) (hp : PermIn 0 ss.length d.toArray d') (hs : SortedIn (ltOf fun x y : FV => cmpS x.lb y.lb) 0 ss.length d')
    (hw : W2 = sortWorldK FV.enc 6 wr (w.heap.size + 1) 0 n d' os) : ∃ d2 P, Sorted w W2 ss ks d2 P := by
  obtain ⟨hp1, _, hp2⟩ := hp
  have hsz : d'.size = ss.length := by rw [hp1]; simpa using hd
  have hperm : d'.toList.Perm d := by
    have e1 : (d'.extract 0 ss.length).toList = d'.toList := by rw [← hsz]; simp
    have e2 : (d.toArray.extract 0 ss.length).toList = d := by rw [← hd]; simp
    rw [e1, e2] at hp2
    exact hp2
  have hall : All2 (FVIs w) d (ss.zip ks) := all2_of (by rw [List.length_zip]; omega) (fun j h1 h2 => by
    have h3 : j < ss.length := by omega
    have h4 : j < ks.length := by omega
    have := hq j h1 h3
    rw [stAt_get h3, kAt_get h4] at this
    rw [List.getElem_zip]
    exact this)
  obtain ⟨P, hP1, hP2⟩ := hall.perm hperm
  have hg := grownBy_sortedK (w := wr) (g := w.heap.size + 1) (n := n) (os := os) d'
  rw [← hw] at hg
  refine ⟨d'.toList, P, ⟨?_, by simpa using hsz, hP2, hP1, ?_, ?_, ?_, ?_⟩⟩
  · rw [hw, Array.toArray_toList]
    exact holds_sorted hblk hO (by rw [hsz]; simpa using hd.symm)
  · intro i j hij h
    have h' : j < d'.size := by simpa using h
    have := hs i j (Nat.zero_le _) hij (by omega)
    rw [flt, getElem!_pos d' j h', getElem!_pos d' i (by omega)] at this
    simpa using this
  · exact hb.grown hg hb.size (fun k e => by cases e; omega)
  · exact (hg.block _ (by omega) (fun e => by have := Option.some.inj e; omega)).trans hz
  · exact Nat.lt_of_lt_of_le hblk hg.size
/-- Behind the sort: the fields of the first k places, split. -/
structure Tail (W2 wr : World) (d : List FV) (k : Nat) : Prop where
  out : ∃ vL vA, wr.heap[W2.heap.size]? = some (.cells #[.int .i64 8, .int .i64 0, .string ⟨#[]⟩, vL, vA] 25 (0, 0)) ∧
    wr.ownsRow (W2.heap.size + 1) 9 1 vL k ((d.take k).map fun x => Value.string x.lb) ∧ wr.ownsRow (W2.heap.size + 1) 25 5 vA k ((d.take k).flatMap FV.ty) ∧ Below W2.heap.size W2 wr
theorem tail_start (W2 : World) (d : List FV) : Tail W2 (W2.alloc (.cells #[.int .i64 8, .int .i64 0, .string ⟨#[]⟩, .slice none 0 0, .slice none 0 0] 25)) d 0 :=
  ⟨_, _, heap_alloc_new W2 _, World.ownsRow_nil _ _ _ _, World.ownsRow_nil _ _ _ _, (Below.refl _ _).alloc (Nat.le_refl _) _⟩
theorem news_one (w : World) (vs : Array Value) (t : TypeId) : ∀ j u, vs.toList[j]? = some u → (w.alloc (.cells vs t)).cell? ((⟨w.heap.size, 0, none⟩ : Addr).add j) = some u := fun j u h => by
  rw [addPlain, Nat.zero_add]
  exact alloc_at w vs t j u (by simpa using h)
theorem news_set (w : World) (b i : Nat) (v : Value) (vs : Array Value) (t : TypeId) : ∀ j u, vs.toList[j]? = some u → ((w.setCell ⟨b, i, none⟩ v).alloc (.cells vs t)).cell? ((⟨w.heap.size, 0, none⟩ : Addr).add j) = some u := fun j u h => by
  have := news_one (w.setCell ⟨b, i, none⟩ v) vs t j u h
  have e : (w.setCell ⟨b, i, none⟩ v).heap.size = w.heap.size := by simp [World.setCell]
  rw [e] at this
  exact this
theorem news_two (w : World) (F : Obj) (vs : Array Value) (t : TypeId) : ∀ j u, vs.toList[j]? = some u → ((w.alloc F).alloc (.cells vs t)).cell? ((⟨w.heap.size + 1, 0, none⟩ : Addr).add j) = some u := fun j u h => by
  have := news_one (w.alloc F) vs t j u h
  have e : (w.alloc F).heap.size = w.heap.size + 1 := by simp [go_sem]
  rw [e] at this
  exact this
theorem rows_apart {w : World} {b1 b2 e1 e2 s1 s2 n1 n2 : Nat} {v1 v2 : Value} {x1 x2 : List Value} (h1 : w.ownsRow b1 e1 s1 v1 n1 x1) (h2 : w.ownsRow b2 e2 s2 v2 n2 x2) (hne : e1 ≠ e2) : v2.ownBlock = none ∨ v2.ownBlock ≠ v1.ownBlock := by
  rcases h2.2 with ⟨rfl, _⟩ | ⟨g2, c2, cur2, rfl, _, hg2, _⟩
  · exact .inl rfl
  · rcases h1.2 with ⟨rfl, _⟩ | ⟨g1, c1, cur1, rfl, _, hg1, _⟩
    · exact .inr (by simp [Value.ownBlock])
    · refine .inr fun e => ?_
      have e : g2 = g1 := by simpa [Value.ownBlock] using e
      subst e
      rw [hg1] at hg2
      simp at hg2
      exact hne hg2.2
theorem own_ne {w : World} {b e s n : Nat} {v : Value} {x : List Value} (h : w.ownsRow b e s v n x) {g : Nat} (hg : g < b ∨ w.heap.size ≤ g) : some g ≠ v.ownBlock := fun e => by
  have := h.lt g e.symm
  omega
/-- What stands behind the first append of a round and its store. -/
structure Mid (W2 wr w1 w3 : World) (F : Obj) (d : List FV) (k : Nat) (vL vA v1 : Value) : Prop where
  z1 : w1.heap[W2.heap.size]? = some (.cells #[.int .i64 8, .int .i64 0, .string ⟨#[]⟩, vL, vA] 25 (0, 0))
  zf : w1.heap[wr.heap.size]? = some F
  z3 : w3.heap[W2.heap.size]? = some (.cells #[.int .i64 8, .int .i64 0, .string ⟨#[]⟩, v1, vA] 25 (0, 0))
  zf3 : w3.heap[wr.heap.size]? = some F
  oL : w3.ownsRow (W2.heap.size + 1) 9 1 v1 (k + 1) ((d.take (k + 1)).map fun x => Value.string x.lb)
  oA : w3.ownsRow (W2.heap.size + 1) 25 5 vA k ((d.take k).flatMap FV.ty)
  b3 : Below W2.heap.size W2 w3
  lt : W2.heap.size < w3.heap.size
theorem mid_of {W2 wr w1 : World} {F S : Obj} {d : List FV} {k : Nat} {vL vA v1 : Value} {x : FV} (hk : k < d.length) (hx : x = d[k])
    (hz : wr.heap[W2.heap.size]? = some (.cells #[.int .i64 8, .int .i64 0, .string ⟨#[]⟩, vL, vA] 25 (0, 0)))
    (oL : wr.ownsRow (W2.heap.size + 1) 9 1 vL k ((d.take k).map fun x => Value.string x.lb)) (oA : wr.ownsRow (W2.heap.size + 1) 25 5 vA k ((d.take k).flatMap FV.ty)) (hb : Below W2.heap.size W2 wr)
    (h1 : w1.ownsRow (W2.heap.size + 1) 9 1 v1 (k + 1) (((d.take k).map fun x => Value.string x.lb) ++ [.string x.lb])) (hg : ((wr.alloc F).alloc S).grownBy w1 vL.ownBlock) :
    Mid W2 wr w1 (w1.setCell ⟨W2.heap.size, 3, none⟩ v1) F d k vL vA v1 := by
  have hlt : W2.heap.size < wr.heap.size := (Array.getElem?_eq_some_iff.1 hz).1
  have hs1 : wr.heap.size + 2 ≤ w1.heap.size := by have := hg.size; simp at this; omega
  have n1 : some W2.heap.size ≠ vL.ownBlock := own_ne oL (.inl (by omega))
  have n2 : some wr.heap.size ≠ vL.ownBlock := own_ne oL (.inr (Nat.le_refl _))
  have z1 : w1.heap[W2.heap.size]? = some (.cells #[.int .i64 8, .int .i64 0, .string ⟨#[]⟩, vL, vA] 25 (0, 0)) := by
    rw [hg.block _ (by simp; omega) n1, Below.heap_alloc _ _ _ (by simp; omega), Below.heap_alloc _ _ _ hlt]
    exact hz
  have zf : w1.heap[wr.heap.size]? = some F := by
    rw [hg.block _ (by simp; omega) n2, Below.heap_alloc _ _ _ (by simp)]
    exact heap_alloc_new wr F
  have oA1 := ((oA.alloc F).alloc S).kept hg (rows_apart oL oA (by decide))
  have hb1 : Below W2.heap.size W2 w1 := ((hb.alloc hb.size F).alloc (by simp; omega) S).grown hg (by simp; omega) (fun j e => by
    have := oL.lt j e
    omega)
  refine ⟨z1, zf, set_step z1 3 v1, ?_, ?_, ?_, hb1.setCell (p := ⟨W2.heap.size, 3, none⟩) (Nat.le_refl _) _, ?_⟩
  · rw [Below.heap_setCell _ _ _ _ (by show wr.heap.size ≠ W2.heap.size; omega)]
    exact zf
  · rw [List.take_succ_eq_append_getElem hk, List.map_append, ← hx]
    exact ownsRow_setCell_other h1 (own_ne h1 (.inl (by show W2.heap.size < _; omega))).symm _
  · exact ownsRow_setCell_other oA1 (own_ne oA1 (.inl (by show W2.heap.size < _; omega))).symm _
  · have : (w1.setCell ⟨W2.heap.size, 3, none⟩ v1).heap.size = w1.heap.size := by simp [World.setCell]
    omega
theorem tail_step {W2 wr w1 w3 w4 : World} {F S : Obj} {d : List FV} {k : Nat} {vL vA v1 v2 : Value} {x : FV} (M : Mid W2 wr w1 w3 F d k vL vA v1) (hk : k < d.length) (hx : x = d[k])
    (h2 : w4.ownsRow (W2.heap.size + 1) 25 5 v2 (k + 1) (((d.take k).flatMap FV.ty) ++ x.ty)) (hg : (w3.alloc S).grownBy w4 vA.ownBlock) :
    w4.heap[W2.heap.size]? = some (.cells #[.int .i64 8, .int .i64 0, .string ⟨#[]⟩, v1, vA] 25 (0, 0)) ∧ Tail W2 (w4.setCell ⟨W2.heap.size, 4, none⟩ v2) d (k + 1) := by
  have hlt := M.lt
  have n1 : some W2.heap.size ≠ vA.ownBlock := own_ne M.oA (.inl (by omega))
  have z4 : w4.heap[W2.heap.size]? = some (.cells #[.int .i64 8, .int .i64 0, .string ⟨#[]⟩, v1, vA] 25 (0, 0)) := by
    rw [hg.block _ (by simp; omega) n1, Below.heap_alloc _ _ _ hlt]
    exact M.z3
  have oL4 := (M.oL.alloc S).kept hg (rows_apart M.oA M.oL (by decide))
  refine ⟨z4, ⟨v1, v2, set_step z4 4 v2, ownsRow_setCell_other oL4 (own_ne oL4 (.inl (by show W2.heap.size < _; omega))).symm _, ?_, ?_⟩⟩
  · rw [List.take_succ_eq_append_getElem hk, List.flatMap_append, ← hx]
    have e : [x].flatMap FV.ty = x.ty := by simp
    rw [e]
    exact ownsRow_setCell_other h2 (own_ne h2 (.inl (by show W2.heap.size < _; omega))).symm _
  · exact ((M.b3.alloc M.b3.size S).grown hg (by simp; omega) (fun j e => by
      have := M.oA.lt j e
      omega)).setCell (p := ⟨W2.heap.size, 4, none⟩) (Nat.le_refl _) _
theorem own_belowT {w w' : World} {b e s n : Nat} {v : Value} {x : List Value} (h : w.ownsRow b e s v n x) (hb : Below w.heap.size w w') : w'.ownsRow b e s v n x :=
  h.kept (row := none) ⟨hb.os, hb.tape, hb.output, hb.size, fun k hk _ => hb.block k hk⟩ (by cases hv : v.ownBlock <;> simp)
/-- All fields have been split: what the record reads as. -/
theorem tail_end {w W2 wr : World} {ss : List ByteArray} {ks : List Ty5} {d : List FV} {P : List (ByteArray × Ty5)} (h : Sorted w W2 ss ks d P) (hl : ss.length = ks.length) (h60 : ss.length ≤ 60) (hw : ∀ s, s ∈ ss → s.size ≤ maxLen) (T : Tail W2 wr d ss.length) :
    ∃ aL cL aA cA, wr.heap[W2.heap.size]? = some (.cells #[.int .i64 8, .int .i64 0, .string ⟨#[]⟩, .slice aL ss.length cL, .slice aA ss.length cA] 25 (0, 0)) ∧
      StrsAt wr (.slice aL ss.length cL) (P.map Prod.fst) ∧ (∀ w5 W, Below wr.heap.size wr w5 → w5.grownBy W (some w.heap.size) → TyIn W (.mk 8 0 ⟨#[]⟩ (P.map Prod.fst) (P.map Prod.snd)) (.int .i64 8) (.int .i64 0) (.string ⟨#[]⟩) (.slice aL ss.length cL) (.slice aA ss.length cA)) ∧
      Below w.heap.size w wr ∧ wr.heap[w.heap.size]? = some (.cells zero5 25 (0, 0)) ∧ RecIs ss ks (risingB (P.map Prod.fst)) (if risingB (P.map Prod.fst) = true then .mk 8 0 ⟨#[]⟩ (P.map Prod.fst) (P.map Prod.snd) else ty0) := by
  obtain ⟨vL, vA, hz, oL, oA, hb⟩ := T.out
  have hlen := h.len
  have hlt := h.lt
  have hPl : P.length = ss.length := by rw [← h.all.len, hlen]
  rw [List.take_of_length_le (by omega)] at oL oA
  have hbw : Below w.heap.size w wr := h.below.trans (hb.mono h.below.size)
  have hmap : (d.map fun x => Value.string x.lb) = (P.map Prod.fst).map Value.string := by
    apply List.ext_getElem
    · simp [hPl, hlen]
    · intro j h1 h2
      have := (h.all.get (j := j) (by simpa using h1) (by simpa using h2)).1
      simp [this]
  rw [hmap] at oL
  have hmem : ∀ s, s ∈ P.map Prod.fst → s ∈ ss := fun s hs => by
    obtain ⟨p, hp, rfl⟩ := List.mem_map.1 hs
    have := h.perm.subset hp
    exact (List.of_mem_zip this).1
  have hS : ∀ {W : World}, W.ownsRow (W2.heap.size + 1) 9 1 vL ss.length ((P.map Prod.fst).map Value.string) → StrsAt W vL (P.map Prod.fst) := fun {W} o => strsAt_ownT o (by simpa using hPl) (fun s hs => hw s (hmem s hs)) (by simp; unfold maxLen; omega)
  have hK : ∀ {W : World}, W.ownsRow (W2.heap.size + 1) 25 5 vA ss.length (d.flatMap FV.ty) → Below w.heap.size w W → KidsAt W vA (P.map Prod.snd) := fun {W} o hB => kids_own o hlen (h.all.mono fun x p hx => hx.mono hB)
  obtain ⟨aL, cL, rfl⟩ := own_form oL
  obtain ⟨aA, cA, rfl⟩ := own_form oA
  refine ⟨aL, cL, aA, cA, hz, hS oL, fun w5 W h5 hg => ?_, hbw, ?_, ?_⟩
  · have oL5 := own_belowT oL h5
    have oA5 := own_belowT oA h5
    have oL6 := oL5.kept hg (.inr (own_ne oL5 (.inl (by omega))).symm)
    have oA6 := oA5.kept hg (.inr (own_ne oA5 (.inl (by omega))).symm)
    have hB6 : Below w.heap.size w W := (hbw.trans (h5.mono hbw.size)).grown hg (hbw.trans (h5.mono hbw.size)).size (fun j e => by cases e; exact Nat.le_refl _)
    exact ⟨rfl, rfl, ⟨rfl, by decide⟩, hS oL6, by simp; unfold maxLen; omega, by have := hK oA6 hB6; exact this⟩
  · rw [hb.block _ (by omega)]
    exact h.box
  · have hup : ∀ j, (hj : j + 1 < (P.map Prod.fst).length) → ltS (P.map Prod.fst)[j + 1] (P.map Prod.fst)[j] = false := fun j hj => by
      have hjP : j + 1 < P.length := by simpa using hj
      have hj' : j + 1 < d.length := by omega
      have h1 := h.up j (j + 1) (by omega) hj'
      have e1 := (h.all.get (j := j + 1) hj' hjP).1
      have e2 := (h.all.get (j := j) (by omega) (by omega)).1
      rw [e1, e2] at h1
      simpa using h1
    rcases hr : risingB (P.map Prod.fst) with _ | _
    · refine .inr ⟨rfl, by simp, .inr ?_⟩
      have hfst : (P.map Prod.fst).Perm ss := by
        have := h.perm.map Prod.fst
        rwa [List.map_fst_zip (by omega)] at this
      rcases not_rising hup hr with ⟨s, hs, hf⟩ | hn
      · exact .inl ⟨s, hmem s hs, hf⟩
      · exact .inr (fun hnd => hn (hfst.symm.nodup hnd))
    · exact .inl ⟨rfl, hl, P, h.perm, hr, by simp⟩
theorem field_cell {w W2 wr : World} {ss : List ByteArray} {ks : List Ty5} {d : List FV} {P : List (ByteArray × Ty5)} (h : Sorted w W2 ss ks d P) (hb : Below W2.heap.size W2 wr) {k c : Nat} (hk : k < d.length) (hc : c < 6) :
    wr.cell? ⟨w.heap.size + 1, k * 6 + c, none⟩ = (d[k]'hk).enc[c]? := by
  have h1 := (HoldsK.cell h.holds (i := k) (c := c) (by simpa using hk) hc).1
  rw [Nat.zero_add] at h1
  rw [hb.cell (p := ⟨w.heap.size + 1, k * 6 + c, none⟩) h.lt, h1]
  have e1 : d.toArray[k]! = d[k] := by
    rw [getElem!_pos _ _ (by simpa using hk)]
    simp
  have hl : c < (d[k]).enc.length := by rw [enc_len]; exact hc
  rw [e1, List.getElem?_eq_getElem hl, getElem!_pos (d[k]).enc c hl]
set_option maxRecDepth 20000 in
set_option maxHeartbeats 4000000 in
theorem prec_any (v u : Value) (ss : List ByteArray) (ks : List Ty5) (w : World) (hs : StrsAt w v ss) (hk : KidsAt w u ks) (h60 : ss.length ≤ 60) (k60 : ks.length ≤ 60) :
    Calls Try.prog 29 #[v, u] w fun e w' => ∃ v0 v1 v2 v3 v4 b t, e = .returned (.tuple #[.agg #[v0, v1, v2, v3, v4], .bool b]) ∧ Below w.heap.size w w' ∧ TyIn w' t v0 v1 v2 v3 v4 ∧ RecIs ss ks b t := by
  obtain ⟨a, cap, rfl⟩ := hk.form
  have hsl := hs.2.1
  have hsz := hs.1
  obtain ⟨_, _, hsf⟩ := hs
  obtain ⟨a1, cap1, rfl⟩ : ∃ a cap, v = .slice a ss.length cap := by
    rcases hsf with ⟨a, cap, rfl, rfl⟩ | ⟨b, off, cap, rfl, _⟩
    · exact ⟨a, cap, rfl⟩
    · exact ⟨_, cap, rfl⟩
  have HS := Asd.mk hsf
  have HK := Asd.mk hk
  have HW0 := Asd.mk hsz
  clear hsf hk hsz hsl
  by_cases hl : ss.length = ks.length
  case neg =>
    go_enter Try.func29, Try.ntmps29
    go_wp2
    refine bodyPost_ret (v := .tuple #[.agg zero5, .bool false]) (by simp [results, Try.results29, go_sem, zero5]) rfl ?_
    exact ⟨_, _, _, _, _, _, ty0, rfl, (Below.refl _ _).alloc (Nat.le_refl _) _, ⟨rfl, rfl, ⟨rfl, by decide⟩, ⟨fun s h => (by simp at h), by simp, .inl ⟨none, 0, rfl, rfl⟩⟩, by simp, .inl ⟨none, 0, rfl, rfl⟩⟩, .inr ⟨rfl, rfl, .inl hl⟩⟩
  rw [← hl]
  have HL := Asd.mk hl
  clear hl k60
  have hmk := make_flds ss.length h60
  go_enter Try.func29, Try.ntmps29
  go_wp2
  have L0 := laid_start w ss ks h60
  unfold zero5 at L0
  obtain ⟨W1, hW1⟩ : ∃ W1, (w.alloc (.cells #[.int .i64 0, .int .i64 0, .string ⟨#[]⟩, .slice none 0 0, .slice none 0 0] 25)).alloc (.cells (madeCells fv0.enc.toArray (ss.length * 6)) 66) = W1 := ⟨_, rfl⟩
  rw [hW1] at L0 ⊢
  clear hW1 hmk
  go_loopw [23] (fun i wr => ∃ j : Nat, j ≤ ss.length ∧ i = .int .i64 j ∧ Laid w wr ss ks j) (fun i _ => ss.length - (intOf i).toNat)
  case atStart => exact ⟨0, by omega, rfl, L0⟩
  case round =>
    clear L0
    obtain ⟨j, hj, rfl, HX⟩ := hrel
    by_cases hlt : j < ss.length
    · obtain ⟨d, hd, hown, hq, hb, hz⟩ := HX.out
      have hb := Asd.mk hb
      rcases HS.out with ⟨_, _, e, e'⟩ | ⟨b1, off1, cap2, e, hb1, hc1⟩
      · rw [e'] at hlt
        exact absurd hlt (Nat.not_lt_zero _)
      obtain ⟨rfl, rfl⟩ : a1 = some ⟨b1, off1, none⟩ ∧ cap1 = cap2 := by simpa using e
      have hcx := (hb.out.cell (p := ⟨b1, off1 + j, none⟩) hb1).trans (hc1 j hlt)
      rcases HK.out with ⟨_, _, e1, e'⟩ | ⟨b, off, cap', e1, hr⟩
      · rw [HL.out, e'] at hlt
        exact absurd hlt (Nat.not_lt_zero _)
      obtain ⟨rfl, rfl⟩ : a = some ⟨b, off, none⟩ ∧ cap = cap' := by simpa [HL.out] using e1
      obtain ⟨x0, x1, x2, x3, x4, c0, c1, c2, c3, c4, ht⟩ := hr.at (by rw [← HL.out]; exact hlt : j < ks.length)
      have c0 := cell_below hb.out c0
      have c1 := cell_below hb.out c1
      have c2 := cell_below hb.out c2
      have c3 := cell_below hb.out c3
      have c4 := cell_below hb.out c4
      obtain ⟨k', n', nm', a', l', cc', a'', l'', cc'', rfl, rfl, rfl, rfl, rfl⟩ := ht.form
      have f0 := hown.frozenAt (j * 6)
      have f1 := hown.frozenAt (j * 6 + 1)
      have f2 := hown.frozenAt (j * 6 + 2)
      have f3 := hown.frozenAt (j * 6 + 3)
      have f4 := hown.frozenAt (j * 6 + 4)
      have f5 := hown.frozenAt (j * 6 + 5)
      have hg : ∀ c, c < 6 → wr.cell? ⟨w.heap.size + 1, j * 6 + c, none⟩ = (d[j]'(by omega)).enc[c]? := fun c hc => by
        rw [hown.cellAt _ (by omega), flat_getF d j c (by omega) hc]
      have g0 := hg 0 (by omega)
      have g1 := hg 1 (by omega)
      have g2 := hg 2 (by omega)
      have g3 := hg 3 (by omega)
      have g4 := hg 4 (by omega)
      have g5 := hg 5 (by omega)
      simp only [FV.enc, List.getElem?_cons_zero, List.getElem?_cons_succ, Nat.add_zero] at g0 g1 g2 g3 g4 g5
      have HST := laid_step HX hlt ⟨stAt ss j, k', n', nm', a', l', cc', a'', l'', cc''⟩ ⟨rfl, ht⟩
      have HST := Asd.mk HST
      generalize (d[j]'(by omega)).lb = y0 at g0
      generalize (d[j]'(by omega)).k = y1 at g1
      generalize (d[j]'(by omega)).n = y2 at g2
      generalize (d[j]'(by omega)).nm = y3 at g3
      generalize (d[j]'(by omega)).a = y4 at g4
      generalize (d[j]'(by omega)).l = y5 at g4
      generalize (d[j]'(by omega)).c = y6 at g4
      generalize (d[j]'(by omega)).a' = y7 at g5
      generalize (d[j]'(by omega)).l' = y8 at g5
      generalize (d[j]'(by omega)).c' = y9 at g5
      clear hg hown hq hz hr hc1 ht e e1 HX hd
      generalize stAt ss j = lb at hcx HST
      go_wp2
      go_roundw
      case rel => exact ⟨j + 1, by omega, by go_num, HST.out⟩
      case measure => simp [intOf]; omega
    · have hje : j = ss.length := by omega
      subst hje
      obtain ⟨d, hd, hown, hq, hb, hz⟩ := HX.out
      have HO := holds_row hown hd
      have hblk : w.heap.size + 1 < wr.heap.size := (hown.lt _ rfl).2
      have HC := fsort_any (w.heap.size + 1) 0 ss.length d.toArray wr HO hblk (by simp; omega)
      rw [show d.toArray.size = ss.length by simpa using hd] at HC
      have HC := Asd.mk HC
      have HD := Asd.mk (And.intro hd (And.intro hq (And.intro hb (And.intro hz (And.intro HO hblk)))))
      clear hd hown hq hb hz HO hblk HX
      go_wp2_with (go_at_call 56; refine HC.out.mono ?_; clear HC; rintro e W2 ⟨rfl, d', n, os, hp, hs, hw⟩; have HP := Asd.mk hp; have HQ := Asd.mk hs; have HW := Asd.mk hw; clear hp hs hw)
      obtain ⟨d2, P, HSR⟩ := sorted_of HD.out.1 HD.out.2.1 HL.out HD.out.2.2.1 HD.out.2.2.2.1 HD.out.2.2.2.2.1 HD.out.2.2.2.2.2 HP.out HQ.out HW.out
      clear HD HP HQ HW
      have T0 := tail_start W2
      obtain ⟨W3, hW3⟩ : ∃ W3, W2.alloc (.cells #[.int .i64 8, .int .i64 0, .string ⟨#[]⟩, .slice none 0 0, .slice none 0 0] 25) = W3 := ⟨_, rfl⟩
      rw [hW3] at T0 ⊢
      clear hW3
      obtain ⟨i0, hi, hz0, hz1, hz2⟩ := info_parts info_strT
      obtain ⟨j0, ji, jz0, jz1, jz2⟩ := info_parts info_tyT
      go_loopw [43] (fun i wr => ∃ k : Nat, k ≤ ss.length ∧ i = .int .i64 k ∧ Tail W2 wr d2 k) (fun i _ => ss.length - (intOf i).toNat)
      case atStart => exact ⟨0, by omega, rfl, T0 d2⟩
      case round =>
        clear T0
        obtain ⟨k, hk', rfl, HT⟩ := hrel
        by_cases hlt : k < ss.length
        · obtain ⟨vL, vA, hz, oL, oA, hb⟩ := HT.out
          have hkd : k < d2.length := by rw [HSR.len]; exact hlt
          have hcell := fun c (hc : c < 6) => field_cell HSR hb hkd hc
          obtain ⟨x, hx⟩ : ∃ x, x = d2[k] := ⟨_, rfl⟩
          rw [← hx] at hcell
          have HX := Asd.mk hx
          clear hx
          have c0 := hcell 0 (by omega)
          have c1 := hcell 1 (by omega)
          have c2 := hcell 2 (by omega)
          have c3 := hcell 3 (by omega)
          have c4 := hcell 4 (by omega)
          have c5 := hcell 5 (by omega)
          simp only [FV.enc, List.getElem?_cons_zero, List.getElem?_cons_succ, Nat.add_zero] at c0 c1 c2 c3 c4 c5
          obtain ⟨lb, fk, fn, fm, fa, fl, fc, fa', fl', fc'⟩ := x
          have t3 := box_cell (i := 3) hz rfl
          have t4 := box_cell (i := 4) hz rfl
          have hbl := hb.size
          have hW3 : W2.heap.size < wr.heap.size := (Array.getElem?_eq_some_iff.1 hz).1
          have f3 : wr.frozen? ⟨W2.heap.size, 3, none⟩ = false := by simp [World.frozen?, hz]
          have HM := Asd.mk (fun w1 v1 S (h1 : w1.ownsRow (W2.heap.size + 1) 9 1 v1 (k + 1) (((d2.take k).map fun x => Value.string x.lb) ++ [.string lb])) (hg : ((wr.alloc (.cells #[.string lb, .int .i64 fk, .int .i64 fn, .string fm, .slice fa fl fc, .slice fa' fl' fc'] 66)).alloc S).grownBy w1 vL.ownBlock) => mid_of (S := S) hkd HX.out hz oL oA hb h1 hg)
          have HOL := Asd.mk oL
          clear hcell oL oA hb hz
          go_wp2_with (first
            | (at_builtin; refine wpList_append_own _ rfl (.tmp 48) (.tmp 51) 22 rfl (W2.heap.size + 1) 9 i0 (.string ⟨#[]⟩) 1 16 Try.underlying22 hi hz0 hz1 hz2 rfl (by decide) vL k _ rfl ((HOL.out.alloc _).alloc _) ⟨wr.heap.size + 1, 0, none⟩ 1 1 [.string lb] rfl rfl (news_two wr _ #[.string lb] _) (by intro u hu; simp at hu; subst hu; rfl) (by unfold maxLen; omega) (by omega) (by simp; omega) ?_; intro v1 w1 hown1 hgr1 _; obtain ⟨g1, cp1, rfl⟩ := ownsRow_succ hown1; have M := HM.out _ _ _ hown1 hgr1; clear hown1 hgr1; have p3 := box_cell (i := 3) M.z1 rfl; have p4 := box_cell (i := 4) M.z1 rfl; have p3f : w1.frozen? ⟨W2.heap.size, 3, none⟩ = false := (by simp [World.frozen?, M.z1]); have r4 := box_cell (i := 4) M.z3 rfl; have r4f : (w1.setCell ⟨W2.heap.size, 3, none⟩ (.slice (some ⟨g1, 0, none⟩) (k + 1) cp1)).frozen? ⟨W2.heap.size, 4, none⟩ = false := (by simp [World.frozen?, M.z3]); have q1 := box_cell (i := 1) M.zf3 rfl; have q2 := box_cell (i := 2) M.zf3 rfl; have q3 := box_cell (i := 3) M.zf3 rfl; have q4 := box_cell (i := 4) M.zf3 rfl; have q5 := box_cell (i := 5) M.zf3 rfl; have s1 := box_cell (i := 1) M.zf rfl; have s2 := box_cell (i := 2) M.zf rfl; have s3 := box_cell (i := 3) M.zf rfl; have s4 := box_cell (i := 4) M.zf rfl; have s5 := box_cell (i := 5) M.zf rfl)
            | (at_builtin; refine wpList_append_own _ rfl (.tmp 55) (.tmp 58) 23 rfl (W2.heap.size + 1) 25 j0 (.agg zero5) 5 80 Try.underlying23 ji jz0 jz1 jz2 rfl (by decide) vA k _ rfl (M.oA.alloc _) ⟨w1.heap.size, 0, none⟩ 1 1 (FV.ty ⟨lb, fk, fn, fm, fa, fl, fc, fa', fl', fc'⟩) rfl rfl (news_set w1 W2.heap.size 3 (.slice (some ⟨g1, 0, none⟩) (k + 1) cp1) #[.int .i64 fk, .int .i64 fn, .string fm, .slice fa fl fc, .slice fa' fl' fc'] _) (by intro u hu; simp [FV.ty] at hu; rcases hu with rfl | rfl | rfl | rfl | rfl <;> rfl) (by unfold maxLen; omega) (by omega) (by have := M.b3.size; simp at this; simp; omega) ?_; intro v2 w4 hown2 hgr2 _; obtain ⟨g2, cp2, rfl⟩ := ownsRow_succ hown2; have N := Asd.mk (tail_step M hkd HX.out hown2 hgr2); clear hown2 hgr2; have u4 := box_cell (i := 4) N.out.1 rfl; have u4f : w4.frozen? ⟨W2.heap.size, 4, none⟩ = false := (by simp [World.frozen?, N.out.1])))
          go_roundw
          case rel => exact ⟨k + 1, by omega, by go_num, N.out.2⟩
          case measure => simp [intOf]; omega
        · have hke : k = ss.length := by omega
          subst hke
          obtain ⟨aL, cL, aA, cA, hz, hS, hT, hB, hR, hI⟩ := tail_end HSR HL.out h60 HW0.out HT
          have t3 := box_cell (i := 3) hz rfl
          have HB := Asd.mk hB
          have HTT := Asd.mk hT
          have HI := Asd.mk hI
          have HSS := Asd.mk hS
          have HZ := Asd.mk hz
          have HR := Asd.mk hR
          clear hz hS hT hB hR hI HT HSR
          rcases Bool.eq_false_or_eq_true (risingB (P.map Prod.fst)) with hr | hr
          · go_wp2_with (go_at_call 58; refine (rising_any _ _ _ HSS.out).mono ?_; rintro e w5 ⟨rfl, hb5⟩; rw [hr]; have hz5 := (hb5.block _ (Array.getElem?_eq_some_iff.1 HZ.out).1).trans HZ.out; have hr5 := (hb5.block _ (Array.getElem?_eq_some_iff.1 HR.out).1).trans HR.out; have y0 := box_cell (i := 0) hz5 rfl; have y1 := box_cell (i := 1) hz5 rfl; have y2 := box_cell (i := 2) hz5 rfl; have y3 := box_cell (i := 3) hz5 rfl; have y4 := box_cell (i := 4) hz5 rfl; have f0 : w5.frozen? ⟨w.heap.size, 0, none⟩ = false := (by simp [World.frozen?, hr5]); have f1 : w5.frozen? ⟨w.heap.size, 1, none⟩ = false := (by simp [World.frozen?, hr5]); have f2 : w5.frozen? ⟨w.heap.size, 2, none⟩ = false := (by simp [World.frozen?, hr5]); have f3 : w5.frozen? ⟨w.heap.size, 3, none⟩ = false := (by simp [World.frozen?, hr5]); have f4 : w5.frozen? ⟨w.heap.size, 4, none⟩ = false := (by simp [World.frozen?, hr5]); have x0 := box_cell (i := 0) hr5 rfl; have x1 := box_cell (i := 1) hr5 rfl; have x2 := box_cell (i := 2) hr5 rfl; have x3 := box_cell (i := 3) hr5 rfl; have x4 := box_cell (i := 4) hr5 rfl)
            refine ty_ret hr5 rfl (fun W hW hg => ?_)
            have z0 := box_cell (i := 0) hW rfl
            have z1 := box_cell (i := 1) hW rfl
            have z2 := box_cell (i := 2) hW rfl
            have z3 := box_cell (i := 3) hW rfl
            have z4 := box_cell (i := 4) hW rfl
            have hb6 := (HB.out.trans (hb5.mono HB.out.size))
            refine bodyPost_ret (v := .tuple #[.agg #[.int .i64 8, .int .i64 0, .string ⟨#[]⟩, .slice aL ss.length cL, .slice aA ss.length cA], .bool true]) (by simp [results, Try.results29, go_sem, z0, z1, z2, z3, z4]) rfl ?_
            have hI := HI.out
            rw [hr, if_pos rfl] at hI
            exact ⟨_, _, _, _, _, _, _, rfl, hb6.grown hg hb6.size (fun j e => by cases e; exact Nat.le_refl _), HTT.out w5 W hb5 hg, hI⟩
          · go_wp2_with (go_at_call 58; refine (rising_any _ _ _ HSS.out).mono ?_; rintro e w5 ⟨rfl, hb5⟩; rw [hr]; have hr5 := (hb5.block _ (Array.getElem?_eq_some_iff.1 HR.out).1).trans HR.out; have f0 : w5.frozen? ⟨w.heap.size, 0, none⟩ = false := (by simp [World.frozen?, hr5]); have f1 : w5.frozen? ⟨w.heap.size, 1, none⟩ = false := (by simp [World.frozen?, hr5]); have f2 : w5.frozen? ⟨w.heap.size, 2, none⟩ = false := (by simp [World.frozen?, hr5]); have f3 : w5.frozen? ⟨w.heap.size, 3, none⟩ = false := (by simp [World.frozen?, hr5]); have f4 : w5.frozen? ⟨w.heap.size, 4, none⟩ = false := (by simp [World.frozen?, hr5]); have x0 := box_cell (i := 0) hr5 rfl; have x1 := box_cell (i := 1) hr5 rfl; have x2 := box_cell (i := 2) hr5 rfl; have x3 := box_cell (i := 3) hr5 rfl; have x4 := box_cell (i := 4) hr5 rfl)
            refine ty_ret hr5 rfl (fun W hW hg => ?_)
            have z0 := box_cell (i := 0) hW rfl
            have z1 := box_cell (i := 1) hW rfl
            have z2 := box_cell (i := 2) hW rfl
            have z3 := box_cell (i := 3) hW rfl
            have z4 := box_cell (i := 4) hW rfl
            have hb6 := (HB.out.trans (hb5.mono HB.out.size))
            refine bodyPost_ret (v := .tuple #[.agg zero5, .bool false]) (by simp [results, Try.results29, go_sem, z0, z1, z2, z3, z4, zero5]) rfl ?_
            have hI := HI.out
            rw [hr, if_neg (by simp)] at hI
            exact ⟨_, _, _, _, _, _, ty0, rfl, hb6.grown hg hb6.size (fun j e => by cases e; exact Nat.le_refl _), ⟨rfl, rfl, ⟨rfl, by decide⟩, ⟨fun s h => (by simp at h), by simp, .inl ⟨none, 0, rfl, rfl⟩⟩, by simp, .inl ⟨none, 0, rfl, rfl⟩⟩, hI⟩
end Go.Proofs.Ytbfmaicoefefaaa
