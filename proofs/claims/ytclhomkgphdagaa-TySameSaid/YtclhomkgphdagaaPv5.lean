/- The evaluator over data (see NOTES, 'Pv'): part Pv5. -/
import Derived.Test.YtclhomkgphdagaaPv4
namespace Go.Proofs.Ytclhomkgphdagaa.Pv
open Go Go.RowKit
section
variable {P : Program} {C : Cx} {h : H} {w : World}
theorem run_append_room_row (t tx ty e : TypeId) (i : TypeInfo) (ht : P.underlying t = some (.slice e)) (hi : P.info? e = some i) (g sLen sCap : Nat) (cur : Array Value) (et : TypeId) (hg : w.heap[g]? = some (.cells cur et (0, 0)))
    (x : Value) (n : Nat) (news : List Value) (hs : Src P i.size tx x n news w) (hroom : sLen + n ≤ sCap) (hfit : sLen * i.size + news.length ≤ cur.size) :
    (Builtin.append_ #[t, tx] ty #[.slice (some ⟨g, 0, none⟩) sLen sCap, x]).run P w = .ok (.slice (some ⟨g, 0, none⟩) (sLen + n) sCap) (w.setRow g (cur.toList.take (sLen * i.size) ++ news ++ cur.toList.drop (sLen * i.size + news.length)).toArray) := by
  have hst := run_storeCells_at P g (sLen * i.size) et news 0 cur w hg (by simpa using hfit) hs.one
  simp only [Nat.add_zero] at hst
  have ha : (⟨g, 0, none⟩ : Addr).add (sLen * i.size) = ⟨g, sLen * i.size, none⟩ := by rw [Addr.add_mid, Nat.zero_add]
  rcases hs.kind with ⟨e', hk⟩ | hk <;> simp [Builtin.append_, run_underlying ht, run_underlying hk, sizeOf, typeInfo, hi, hs.len, hroom, hs.cells, ha, hst]
/-- append onto a row that is owned: where it lies then, and that the old one stands. -/
theorem run_append_src (t tx ty e : TypeId) (i : TypeInfo) (z : Value) (ht : P.underlying t = some (.slice e)) (hi : P.info? e = some i) (hz : i.zero = some z) (hzs : z.cells.size = i.size) (hsz : 0 < i.size)
    {u : Value} {n : Nat} {xs : List Value} (hown : w.ownsRow 0 e i.size u n xs) {x : Value} {m : Nat} {news : List Value} (hs : Src P i.size tx x m news w) (hm : 0 < m)
    (h63 : n + m ≤ maxLen) (hbytes : (n + m) * i.bytes ≤ 140737488355328) :
    ∃ v' w' g, (Builtin.append_ #[t, tx] ty #[u, x]).run P w = .ok v' w' ∧ w'.ownsRow 0 e i.size v' (n + m) (xs ++ news) ∧ w.grownBy w' u.ownBlock ∧ v'.ownBlock = some g ∧ (u.ownBlock = some g ∨ g = w.heap.size) ∧
      (∀ b o, u.ownBlock = some b → o < n * i.size → w'.cell? ⟨b, o, none⟩ = w.cell? ⟨b, o, none⟩) ∧ ∀ j, j < (n + m) * i.size → w'.cell? ⟨g, j, none⟩ = (xs ++ news)[j]? := by
  have hsmall : n + m ≤ 9223372036854775807 := by simp only [maxLen] at h63; omega
  have hl := hs.newsLen
  have hlen : (xs ++ news).length = (n + m) * i.size := by rw [List.length_append, hown.1, hl, Nat.add_mul]
  have grown : ∀ (bs : Option Addr) (old : Nat), u = .slice bs n old → old < n + m → (Builtin.firstCells i.size n (.slice bs n old)).run P w.drew = .ok xs.toArray w.drew →
      ∃ v' w' g, (Builtin.append_ #[t, tx] ty #[u, x]).run P w = .ok v' w' ∧ w'.ownsRow 0 e i.size v' (n + m) (xs ++ news) ∧ w.grownBy w' u.ownBlock ∧ v'.ownBlock = some g ∧ (u.ownBlock = some g ∨ g = w.heap.size) ∧
      (∀ b o, u.ownBlock = some b → o < n * i.size → w'.cell? ⟨b, o, none⟩ = w.cell? ⟨b, o, none⟩) ∧ ∀ j, j < (n + m) * i.size → w'.cell? ⟨g, j, none⟩ = (xs ++ news)[j]? := by
    intro bs old hu ho hold
    have hge := grownCap_ge w (n + m) old e
    have hcm : grownCap w (n + m) old e ≤ maxLen := grownCap_le_maxLen w (n + m) old e h63
    have hrun := run_append_grow_src (P := P) w t tx ty e i z ht hi hz bs n old xs hold x m news hs ho (by omega) (growslice_fits ho hbytes)
    rw [← hu] at hrun
    refine ⟨_, _, w.heap.size, hrun, ⟨hlen, .inr ⟨w.heap.size, _, _, rfl, Nat.zero_le _, heap_alloc_new w.drew _, hge, hcm, ?_, ?_⟩⟩, ⟨rfl, rfl, rfl, by simp, fun k hk _ => Below.heap_alloc w.drew _ k hk⟩, rfl, .inr rfl, fun b o hb _ => ?_, fun j hj => ?_⟩
    · simp only [Array.size_append, List.size_toArray, size_zeroCells, hzs, hlen, ← Nat.add_mul]
      congr 1
      omega
    · simp only [Array.toList_append]
      rw [← hlen]
      exact List.take_left
    · exact World.cell?_of_block (a := ⟨b, o, none⟩) (Below.heap_alloc w.drew _ b (hown.lt b hb).2)
    · have e1 : (w.drew.alloc (.cells ((xs ++ news).toArray ++ Builtin.zeroCells z.cells (grownCap w (n + m) old e - (n + m))) e)).cell? ⟨w.heap.size, j, none⟩ = _ := World.cell?_alloc_new w.drew _ _ j
      rw [e1, Array.getElem?_append_left (by simp only [List.size_toArray]; rw [hlen]; exact hj), List.getElem?_toArray]
  rcases hown.2 with ⟨rfl, rfl⟩ | ⟨g, cap, cur, rfl, hbg, hg, hnc, hcm, hcs, htake⟩
  · have hx : xs = [] := List.eq_nil_of_length_eq_zero (by simpa using hown.1)
    subst hx
    exact grown none 0 rfl (by omega) (run_firstCells_none w.drew i.size 0 0 0)
  · by_cases hroom : n + m ≤ cap
    · have hfit : n * i.size + news.length ≤ cur.size := by rw [hl, hcs, ← Nat.add_mul]; exact Nat.mul_le_mul_right _ hroom
      have hxl := hown.1
      refine ⟨_, _, g, run_append_room_row t tx ty e i ht hi g n cap cur e hg x m news hs hroom hfit, ⟨hlen, .inr ⟨g, cap, _, rfl, hbg, setRow_heap w g cur _ e _ hg, hroom, hcm, ?_, ?_⟩⟩, ⟨rfl, rfl, rfl, by simp, fun k _ hk => setRow_other w g k _ (fun e => hk (by simp [Value.ownBlock, e]))⟩, rfl, .inl rfl, fun b o hb ho => ?_, fun j hj => ?_⟩
      · simp only [List.size_toArray, List.length_append, List.length_take, List.length_drop, Array.length_toList]
        omega
      · rw [htake, ← hlen]
        exact List.take_left
      · simp [Value.ownBlock] at hb
        subst hb
        rw [cell_setRow_same w g o cur _ e (0, 0) hg, cell_row hg, List.getElem?_toArray, List.append_assoc, List.getElem?_append_left (by simp only [List.length_take, Array.length_toList]; omega), List.getElem?_take_of_lt ho, Array.getElem?_toList]
      · rw [cell_setRow_same w g j cur _ e (0, 0) hg, List.getElem?_toArray, List.getElem?_append_left (by simp only [List.length_append, List.length_take, Array.length_toList]; rw [hl]; rw [Nat.add_mul] at hj; omega), htake]
    · have holds : ∀ j u, xs[j]? = some u → w.drew.cell? ((⟨g, 0, none⟩ : Addr).add j) = some u := hown.cells (g := g) rfl
      exact grown (some ⟨g, 0, none⟩) cap rfl (by omega) (run_firstCells_some w.drew i.size n ⟨g, 0, none⟩ n cap xs hown.1 holds)
/-! ### Sources of append -/
def srcD (P : Program) (tx : TypeId) (sz : Nat) : D → Option (List D)
  | .sl _ sz' ys => match P.underlying tx with | some (.slice _) => if sz' = sz then some ys else none | _ => none
  | .raw (.slice none 0 _) => match P.underlying tx with | some (.slice _) => some [] | _ => none
  | .raw (.string s) => match P.underlying tx with | some .string => if sz = 1 then some (s.data.toList.map fun b => .raw (.int .u8 b.toNat)) else none | _ => none
  | _ => none
theorem RdE.cells_ex {sz : Nat} : ∀ {ds : List D} {f : Nat → Option Value}, RdE C w sz ds f → ∃ us : List Value, us.length = ds.length * sz ∧ (∀ j, j < ds.length * sz → f j = us[j]?) ∧ ∀ c ∈ us, c.oneCell' = true
  | [], _, _ => ⟨[], by simp, fun j hj => by simp at hj, fun c hc => by cases hc⟩
  | d :: ds, f, ⟨⟨u, h1, h2, ho, h3⟩, r⟩ => by
    obtain ⟨us, k1, k2, k3⟩ := r.cells_ex
    refine ⟨u.cells.toList ++ us, by simp [h2, k1, Nat.add_mul]; omega, fun j hj => ?_, fun c hc => ?_⟩
    rotate_left
    · rcases List.mem_append.1 hc with hc | hc
      · exact ho c hc
      · exact k3 c hc
    rw [List.length_cons, Nat.add_mul, Nat.one_mul] at hj
    by_cases hlt : j < sz
    · rw [List.getElem?_append_left (by simpa [h2] using hlt), h3 j (by omega)]
      simp [h2, hlt]
    · rw [List.getElem?_append_right (by simp [h2]; omega)]
      have := k2 (j - sz) (by omega)
      simp only [Array.length_toList, h2]
      rw [← this]
      congr 1
      omega
theorem RdE.app {sz : Nat} {ds es : List D} {f g : Nat → Option Value} (h : RdE C w sz ds f) (k : RdE C w sz es g) {F : Nat → Option Value} (h1 : ∀ j, j < ds.length * sz → F j = f j) (h2 : ∀ j, j < es.length * sz → F (ds.length * sz + j) = g j) : RdE C w sz (ds ++ es) F := by
  refine RdE.mk fun i d e => ?_
  by_cases hi : i < ds.length
  · rw [List.getElem?_append_left hi] at e
    obtain ⟨u, k1, k2, ko, k3⟩ := h.get e
    refine ⟨u, k1, k2, ko, fun j hj => ?_⟩
    rw [h1 _ (by
      have : (i + 1) * sz ≤ ds.length * sz := Nat.mul_le_mul_right _ hi
      rw [Nat.add_mul, Nat.one_mul] at this
      omega)]
    exact k3 j hj
  · rw [List.getElem?_append_right (by omega)] at e
    obtain ⟨hlt, _⟩ := List.getElem?_eq_some_iff.1 e
    obtain ⟨u, k1, k2, ko, k3⟩ := k.get e
    refine ⟨u, k1, k2, ko, fun j hj => ?_⟩
    have e1 : i * sz + j = ds.length * sz + ((i - ds.length) * sz + j) := by
      rw [← Nat.add_assoc, ← Nat.add_mul]
      congr 2
      omega
    rw [e1, h2 _ (by
      have : (i - ds.length + 1) * sz ≤ es.length * sz := Nat.mul_le_mul_right _ hlt
      rw [Nat.add_mul, Nat.one_mul] at this
      omega)]
    exact k3 j hj
theorem RdE.congr {sz : Nat} {ds : List D} {f g : Nat → Option Value} (h : RdE C w sz ds f) (e : ∀ j, j < ds.length * sz → g j = f j) : RdE C w sz ds g := by
  have := RdE.app h (es := []) (g := fun _ => none) trivial (F := g) e (fun j hj => by simp at hj)
  simpa using this
theorem srcD_sound {tx : TypeId} {sz : Nat} {x : D} {xv : Value} {ys : List D} (hx : Rd C w x xv) (e : srcD P tx sz x = some ys) :
    ∃ news, Src P sz tx xv ys.length news w ∧ RdE C w sz ys (fun j => news[j]?) := by
  unfold srcD at e
  split at e
  · rename_i tag sz' zs
    split at e
    · rename_i e' hu
      split at e
      · rename_i hsz
        cases e
        subst hsz
        obtain ⟨⟨a, cap, hv, _, _⟩, hx2, _⟩ := hx
        by_cases h0 : 0 < ys.length
        · obtain ⟨b, off, cap, rfl, hs, hr⟩ := hx2 h0
          obtain ⟨us, k1, k2, k3⟩ := hr.cells_ex
          have hr' : RdE C w sz' ys (fun j => us[j]?) := hr.congr fun j hj => (k2 j hj).symm
          refine ⟨us, Src.ofSlice w hu _ _ _ us k1 (fun j u hj => ?_) k3, hr'⟩
          obtain ⟨hlt, _⟩ := List.getElem?_eq_some_iff.1 hj
          rw [Addr.add_mid, ← hj]
          exact k2 j (by omega)
        · have hys : ys = [] := List.eq_nil_of_length_eq_zero (by omega)
          subst hys
          refine ⟨[], ?_, trivial⟩
          subst hv
          cases a with
          | none => exact Src.ofNil w hu cap
          | some a => exact Src.ofSlice w hu a 0 cap [] (by simp) (fun j u hj => by simp at hj) (fun u hu => by cases hu)
      · cases e
    · cases e
  · rename_i cap
    split at e
    · rename_i e' hu
      cases e
      simp only [Rd] at hx
      subst hx
      exact ⟨[], Src.ofNil w hu cap, trivial⟩
    · cases e
  · rename_i s
    split at e
    · rename_i hu
      split at e
      · rename_i hsz
        cases e
        subst hsz
        simp only [Rd] at hx
        subst hx
        refine ⟨byteCells s, ?_, ?_⟩
        · have hl : (s.data.toList.map fun b => D.raw (.int .u8 b.toNat)).length = s.size := by
            rw [List.length_map, Array.length_toList]
            rfl
          rw [hl]
          exact Src.ofString w hu s
        · refine RdE.mk fun i d e => ?_
          rw [List.getElem?_map, Option.map_eq_some_iff] at e
          obtain ⟨b, hb, rfl⟩ := e
          refine ⟨.int .u8 b.toNat, rfl, rfl, fun c hc => (by simp [Value.cells] at hc; subst hc; rfl), fun j hj => ?_⟩
          have : j = 0 := by simp [Value.cells] at hj; omega
          subst this
          simp [byteCells, Value.cells, hb]
      · cases e
    · cases e
  · cases e
end
end Go.Proofs.Ytclhomkgphdagaa.Pv
