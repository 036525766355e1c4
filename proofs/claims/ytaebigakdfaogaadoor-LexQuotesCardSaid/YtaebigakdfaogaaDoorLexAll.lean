/- lex.All. -/
import Derived.Test.YtaebigakdfaogaaDoorLexNext
namespace Go.Proofs.YtaebigakdfaogaaDoor
open Go.RowKit
structure Tk where
  k : Int
  n : Int
  t : List UInt8
  a : Nat
inductive Out where
  | ok (ts : List Tk)
  | bad (c : Int) (a : Nat)
def lexF : Nat → List UInt8 → Nat → List Tk → Out
  | 0, _, _, _ => .bad 0 0
  | f + 1, l, p, acc =>
    match itemE (l.drop (gapN false l)) with
    | .bad c o => .bad c (p + gapN false l + o)
    | .tok k n t wd => if (k == 0) = true then .ok (acc ++ [⟨k, n, t, p + gapN false l⟩]) else lexF f (l.drop (gapN false l + wd)) (p + gapN false l + wd) (acc ++ [⟨k, n, t, p + gapN false l⟩])
def lexL (l : List UInt8) : Out := lexF (l.length + 1) l 0 []
def lexAll (l : List UInt8) : Out := if 65536 < l.length then .bad 6 0 else lexL l

/-! ### What an item takes -/
theorem runN_pos {q : Int → Bool} {l : List UInt8} (h : q (bI l 0) = true) (hl : 0 < l.length) : 1 ≤ runN q l := by
  match l, hl with
  | c :: r, _ =>
    have : q (c.toNat : Int) = true := h
    rw [runN, if_pos this]
    omega
theorem textF_wd : ∀ (f : Nat) (l : List UInt8) (off : Nat) (acc : List UInt8) (k n : Int) (t : List UInt8) (wd : Nat), textF f l off acc = .tok k n t wd → k = 2 ∧ n = 0 ∧ (acc.length ≤ 40 → t.length ≤ 40) ∧ off + 1 ≤ wd ∧ wd ≤ off + l.length
  | 0, _, _, _, _, _, _, _, h => by simp [textF] at h
  | f + 1, [], off, acc, k, n, t, wd, h => by simp [textF] at h
  | f + 1, c :: r, off, acc, k, n, t, wd, h => by
    obtain ⟨m, hm1, hm2, _, _⟩ := elemE_ok (c :: r) (by simp)
    simp only [textF] at h
    split at h
    · cases h
      exact ⟨rfl, rfl, fun h => h, by omega, by simp⟩
    · split at h
      · cases h
      · rename_i h0
        split at h
        · cases h
        · rename_i h40
          have := textF_wd f _ _ _ _ _ _ _ h
          simp only [List.length_append, List.length_drop, List.length_cons, List.length_nil] at this
          rw [hm1] at this h0
          simp only [List.length_cons] at hm2
          have hm0 : m ≠ 0 := fun e => h0 (by rw [e]; rfl)
          exact ⟨this.1, this.2.1, fun ha => this.2.2.1 (by omega), by have := this.2.2.2.1; omega, by have := this.2.2.2.2; simp at this ⊢; omega⟩
theorem runN_le' (q : Int → Bool) (l : List UInt8) (k : Nat) (h : runN q l = k) : k ≤ l.length := h ▸ runN_le q l
/-- A token's kind, and how many bytes it takes. -/
theorem itemE_ok {l : List UInt8} {k n : Int} {t : List UInt8} {wd : Nat} (h : itemE l = .tok k n t wd) :
    wd ≤ l.length ∧ ((k == 0) = true → l = [] ∧ n = 0 ∧ t = [] ∧ wd = 0) ∧ ((k == 0) = false → 1 ≤ wd) ∧ t.length ≤ 65536 + l.length := by
  unfold itemE at h
  split at h
  · rename_i h0
    cases h
    exact ⟨Nat.zero_le _, fun _ => ⟨List.eq_nil_of_length_eq_zero h0, rfl, rfl, rfl⟩, fun h => by simp at h, by simp⟩
  · rename_i h0
    have h0 : 0 < l.length := by omega
    unfold itemI at h
    split at h
    · rename_i hd
      have h1 := runN_pos hd h0
      have h2 := runN_le digB l
      unfold numI at h
      split at h
      · cases h
      · split at h
        · cases h
          exact ⟨h2, fun h => by simp at h, fun _ => h1, by simp⟩
        · cases h
    · split at h
      · rename_i hl
        have h1 : 1 ≤ runN alnB l := runN_pos (q := alnB) (by unfold alnB; rw [hl]; rfl) h0
        have h2 := runN_le alnB l
        unfold wordI at h
        split at h
        · cases h
        · split at h
          · cases h
            exact ⟨h2, fun h => by simp at h, fun _ => h1, by rw [List.length_take]; omega⟩
          · split at h
            · cases h
              exact ⟨h2, fun h => by simp at h, fun _ => h1, by rw [List.length_take]; omega⟩
            · cases h
      · split at h
        · unfold textI at h
          have := textF_wd _ _ _ _ _ _ _ _ h
          rw [List.length_drop] at this
          obtain ⟨rfl, _, h3, h5, h6⟩ := this
          exact ⟨by omega, fun h => by simp at h, fun _ => by omega, by have := h3 (by simp); omega⟩
        · unfold signI at h
          split at h
          · cases h
          · rename_i hz
            obtain ⟨m, hm1, hm2⟩ := sgnW_nat l h0
            cases h
            rw [hm1] at hz ⊢
            refine ⟨by simp; omega, fun h => by simp at h, fun _ => ?_, by rw [List.length_take]; omega⟩
            have : m ≠ 0 := fun e => hz (by rw [e]; rfl)
            simp
            omega

def Tk.cells (x : Tk) : List Value := [.int .i64 x.k, .int .i64 x.n, .string (bytesOf x.t), .int .i64 x.a]
def flat (ts : List Tk) : List Value := ts.flatMap Tk.cells
theorem flat_snoc (ts : List Tk) (x : Tk) : flat (ts ++ [x]) = flat ts ++ x.cells := by simp [flat]
theorem info_tok : (Tryd.prog.info? 37).map (fun i => (i.zero, i.size, i.bytes)) = some (some (.agg #[.int .i64 0, .int .i64 0, .string ⟨#[]⟩, .int .i64 0]), 4, 40) := by kernel_rfl
def tkAt (ts : List Tk) (j : Nat) : Tk := ts.getD j ⟨0, 0, [], 0⟩
theorem flat_get : ∀ (ts : List Tk) (j i : Nat) (u : Value), j < ts.length → (tkAt ts j).cells[i]? = some u → (flat ts)[j * 4 + i]? = some u
  | [], j, i, u, h, _ => by simp at h
  | x :: r, 0, i, u, _, h => by
    have hi : i < 4 := by
      have := (List.getElem?_eq_some_iff.1 h).1
      simpa [Tk.cells] using this
    have h' : x.cells[i]? = some u := h
    show (x.cells ++ flat r)[0 * 4 + i]? = some u
    rw [List.getElem?_append_left (by simp [Tk.cells]; omega), ← h']
    congr 1
    omega
  | x :: r, j + 1, i, u, h, hi => by
    have := flat_get r j i u (by simpa using h) hi
    show (x.cells ++ flat r)[(j + 1) * 4 + i]? = some u
    rw [List.getElem?_append_right (by simp [Tk.cells]; omega), ← this]
    congr 1
    simp [Tk.cells]
    omega
/-- The slice v holds the tokens ts. -/
def ToksAt (w : World) (v : Value) (ts : List Tk) : Prop :=
  ts.length ≤ 65537 ∧ 0 < ts.length ∧ ∃ g cap, v = .slice (some ⟨g, 0, none⟩) ts.length cap ∧ ∀ j, j < ts.length →
    w.cell? ⟨g, j * 4, none⟩ = some (.int .i64 (tkAt ts j).k) ∧ w.cell? ⟨g, j * 4 + 1, none⟩ = some (.int .i64 (tkAt ts j).n) ∧
    w.cell? ⟨g, j * 4 + 2, none⟩ = some (.string (bytesOf (tkAt ts j).t)) ∧ w.cell? ⟨g, j * 4 + 3, none⟩ = some (.int .i64 (tkAt ts j).a)
theorem below_cellAt {w w' : World} (h : Below w.heap.size w w') {a : Addr} {v : Value} (hc : w.cell? a = some v) : w'.cell? a = some v := by
  rw [← hc]
  exact h.cell (Nat.lt_of_not_le fun hn => by simp [World.cell?, Array.getElem?_eq_none hn] at hc)
theorem ToksAt.mono {w w' : World} {v : Value} {ts : List Tk} (h : ToksAt w v ts) (hb : Below w.heap.size w w') : ToksAt w' v ts := by
  obtain ⟨h0, h1, g, cap, h2, h3⟩ := h
  exact ⟨h0, h1, g, cap, h2, fun j hj => ⟨below_cellAt hb (h3 j hj).1, below_cellAt hb (h3 j hj).2.1, below_cellAt hb (h3 j hj).2.2.1, below_cellAt hb (h3 j hj).2.2.2⟩⟩
theorem toks_of_own {w : World} {base : Nat} {v : Value} {ts : List Tk} (h : w.ownsRow base 37 4 v ts.length (flat ts)) (h0 : 0 < ts.length) (h1 : ts.length ≤ 65537) : ToksAt w v ts := by
  rcases h.2 with ⟨_, h2⟩ | ⟨g, cap, cur, hv, hg, hh, _⟩
  · omega
  · subst hv
    have hc : ∀ j u, (flat ts)[j]? = some u → w.cell? ⟨g, j, none⟩ = some u := fun j u hj => by
      have := h.cells (g := g) rfl j u hj
      by_cases hj0 : j = 0
      · subst hj0; simpa [Addr.add] using this
      · simpa [Addr.add, hj0] using this
    refine ⟨h1, h0, g, cap, rfl, fun j hj => ⟨?_, ?_, ?_, ?_⟩⟩
    · exact hc (j * 4) _ (flat_get ts j 0 _ hj rfl)
    · exact hc (j * 4 + 1) _ (flat_get ts j 1 _ hj rfl)
    · exact hc (j * 4 + 2) _ (flat_get ts j 2 _ hj rfl)
    · exact hc (j * 4 + 3) _ (flat_get ts j 3 _ hj rfl)
/-- What All comes to. -/
def AllP (o : Out) (w : World) (e : Ending) (w' : World) : Prop :=
  match o with
  | .ok ts => ∃ v, e = .returned (.tuple #[v, .nilIface]) ∧ ToksAt w' v ts ∧ Below w.heap.size w w'
  | .bad c a => e = .returned (.tuple #[.slice none 0 0, errV c a]) ∧ Below w.heap.size w w'
theorem all_start (s : ByteArray) (w : World) (W : World) (hW : W = w.alloc (.cells #[.string s, .int .i64 0] 43)) : Rd w.heap.size s 0 W W ∧ Below w.heap.size w W := by
  subst hW
  exact ⟨Rd.refl (alloc_blk _ _), (Below.refl _ _).alloc (Nat.le_refl _) _⟩
def AllRel (R : Out) (b : Nat) (s : ByteArray) (W : World) (gk : Nat) (v : Value) (wr : World) : Prop :=
  ∃ (q : Nat) (acc : List Tk), q ≤ s.size ∧ s.size - q ≤ gk ∧ Rd b s q W wr ∧ wr.ownsRow W.heap.size 37 4 v acc.length (flat acc) ∧ acc.length ≤ q ∧ lexF (gk + 1) (rest s q) q acc = R
theorem own_below4 {wr w1 : World} {base n : Nat} {e : TypeId} {v : Value} {xs : List Value} (h : wr.ownsRow base e 4 v n xs) (hb : ∀ k, k < wr.heap.size → base ≤ k → w1.heap[k]? = wr.heap[k]?) : w1.ownsRow base e 4 v n xs := by
  refine ⟨h.1, ?_⟩
  rcases h.2 with h2 | ⟨g, cap, cur, hv, hg, hh, r⟩
  · exact .inl h2
  · exact .inr ⟨g, cap, cur, hv, hg, (hb g (blk_lt hh) hg).trans hh, r⟩
theorem all_news {w : World} (x : Tk) : ∀ j u, x.cells[j]? = some u → (w.alloc (.cells #[.int .i64 x.k, .int .i64 x.n, .string (bytesOf x.t), .int .i64 x.a] 37)).cell? ((⟨w.heap.size, 0, none⟩ : Addr).add j) = some u := by
  intro j u hj
  have h := cellNew w #[.int .i64 x.k, .int .i64 x.n, .string (bytesOf x.t), .int .i64 x.a] 37 j u (by simpa [Tk.cells] using hj)
  by_cases hj0 : j = 0
  · subst hj0; simpa [Addr.add] using h
  · simpa [Addr.add, hj0] using h

set_option maxHeartbeats 2000000 in
theorem all_any (s : ByteArray) (w : World) (hs : s.size ≤ maxLen) :
    Calls Tryd.prog 7 #[.string s] w fun e w' => AllP (lexAll s.data.toList) w e w' := by
  have HS := Asd.mk hs
  unfold maxLen at hs
  generalize hR : lexAll s.data.toList = R
  by_cases hlong : 65536 < s.size
  · obtain rfl : R = .bad 6 0 := by rw [← hR]; unfold lexAll; rw [if_pos (by rw [size_list]; exact hlong)]
    clear hR
    go_enter Tryd.func7, Tryd.ntmps7
    go_wp2_with fail
    refine (lnew_any 6 0 _ rfl).mono ?_
    rintro e w1 ⟨rfl, rfl⟩
    go_wp2_with fail
    go_ret2
    exact ⟨rfl, Below.refl _ _⟩
  have HR : Asd (lexF (s.size + 1) (rest s 0) 0 [] = R) := ⟨by rw [← hR]; unfold lexAll; rw [if_neg (by rw [size_list]; exact hlong)]; unfold lexL; rw [size_list]; rfl⟩
  clear hR
  have F := Asd.mk (all_start s w _ rfl)
  go_enter Tryd.func7, Tryd.ntmps7
  go_wp2_with fail
  generalize w.alloc (.cells #[.string s, .int .i64 0] 43) = W at F ⊢
  have E1 : Asd (AllRel R w.heap.size s W s.size (.slice none 0 0) W) := ⟨0, [], Nat.zero_le _, Nat.le_refl _, F.out.1, ⟨rfl, .inl ⟨rfl, rfl⟩⟩, Nat.le_refl _, HR.out⟩
  clear HR
  go_loopg [4] s.size (fun gk v4 wr => AllRel R w.heap.size s W gk v4 wr)
  case atStart => exact E1.out
  case round =>
    clear E1
    obtain ⟨q, acc, hqs, hgk, hrd, hown, hlen, hlx⟩ := hrel
    obtain ⟨ao, cap, rfl⟩ : ∃ ao cap, u4 = .slice ao acc.length cap := by
      rcases hown.2 with ⟨hv, h0⟩ | ⟨g, cap, cur, hv, _⟩
      · exact ⟨none, 0, by rw [hv, h0]⟩
      · exact ⟨_, _, hv⟩
    have A := Asd.mk (And.intro hrd hown)
    clear hrd hown
    have hgl := gap_le false (rest s q)
    rw [rest_len] at hgl
    simp only [lexF, rest_drop] at hlx
    obtain ⟨q1, hq1⟩ : ∃ q1, q1 = q + gapN false (rest s q) := ⟨_, rfl⟩
    rw [← hq1] at hlx
    have hw : q + (gapN false (rest s q)) = q1 := hq1.symm
    have HX := Asd.mk (next_any w.heap.size s q q1 wr HS.out hqs hq1 (Rd.refl A.out.1.here))
    have hq1s : q1 ≤ s.size := by omega
    have HQ := Asd.mk hq1
    clear hgl hw hq1
    cases hit : itemE (rest s q1) with
    | bad c o =>
      rw [hit] at hlx HX
      obtain rfl : R = .bad c (q1 + o) := hlx.symm
      clear hlx hit
      go_wp2_with fail
      refine HX.out.mono ?_
      rintro e w5 ⟨rfl, q2, hR5⟩
      have B := Asd.mk (F.out.2.trans ((A.out.1.trans hR5).of_below))
      clear hR5
      unfold noTok errV
      go_wp2_with fail
      go_ret2
      exact ⟨by simp [errV], B.out.alloc (by have := B.out.size; omega) _⟩
    | tok k n t wd =>
      have hok := itemE_ok hit
      rw [rest_len] at hok
      rw [hit] at hlx HX
      clear hit
      obtain ⟨i0, hi, hz0, hz1, hz2⟩ := infoParts info_tok
      have hacc : acc.length ≤ 65536 := by omega
      go_wp2_with fail
      refine HX.out.mono ?_
      rintro e w5 ⟨rfl, hR5⟩
      have RD := Asd.mk (A.out.1.trans hR5)
      have own5 : w5.ownsRow W.heap.size 37 4 (.slice ao acc.length cap) acc.length (flat acc) := own_below4 A.out.2 (fun i hi hb => hR5.block i hi (by have := F.out.1.lt; omega))
      have hwd := hok.1
      have hk1 := Asd.mk hok.2.2.1
      have hfl := Asd.mk (flat_snoc acc ⟨k, n, t, q1⟩)
      clear hok hR5 HX
      have hsz5 : W.heap.size ≤ ((w5.alloc (.cells #[.int .i64 k, .int .i64 n, .string (bytesOf t), .int .i64 q1] 37)).alloc (.cells #[.int .i64 k, .int .i64 n, .string (bytesOf t), .int .i64 q1] 37)).heap.size := by have := RD.out.size; simp; omega
      unfold tokV
      go_wp2_with (at_builtin; refine wpList_append_own _ rfl _ _ 23 rfl W.heap.size 37 i0 (.agg #[.int .i64 0, .int .i64 0, .string ⟨#[]⟩, .int .i64 0]) 4 40 Tryd.underlying23 hi hz0 hz1 hz2 rfl (by decide) _ _ _ rfl ((own5.alloc _).alloc _) ⟨w5.heap.size + 1, 0, none⟩ 1 1 [.int .i64 k, .int .i64 n, .string (bytesOf t), .int .i64 q1] rfl rfl ?c1 ?c2 ?c3 ?c4 ?c5 ?_)
      case c1 => 
        have := all_news (w := w5.alloc (.cells #[.int .i64 k, .int .i64 n, .string (bytesOf t), .int .i64 q1] 37)) ⟨k, n, t, q1⟩
        simpa [Tk.cells] using this
      case c2 => intro u hu; simp at hu; rcases hu with rfl | rfl | rfl | rfl <;> rfl
      case c3 => unfold maxLen; omega
      case c4 => omega
      case c5 => exact hsz5
      intro v' w6 hown6 hgrow _
      have c6 : w6.cell? ⟨w5.heap.size, 0, none⟩ = some (.int .i64 k) := by
        refine (World.cell?_of_block (w := (w5.alloc (.cells #[.int .i64 k, .int .i64 n, .string (bytesOf t), .int .i64 q1] 37)).alloc (.cells #[.int .i64 k, .int .i64 n, .string (bytesOf t), .int .i64 q1] 37)) (a := ⟨w5.heap.size, 0, none⟩) (hgrow.block w5.heap.size (by simp; omega) (fun e => by have := (own5.lt _ e.symm).2; omega))).trans ?_
        rw [World.cell?_alloc_lt _ _ _ (by simp)]
        exact cellNew _ _ _ 0 _ rfl
      have R6 := Asd.mk (Rd.grown ((RD.out.alloc _).alloc _) hgrow (fun k hk => (own5.lt k hk).1))
      have O6 : Asd (w6.ownsRow W.heap.size 37 4 v' (acc ++ [(⟨k, n, t, q1⟩ : Tk)]).length (flat (acc ++ [(⟨k, n, t, q1⟩ : Tk)]))) := ⟨by rw [hfl.out, List.length_append]; exact hown6⟩
      have HL := Asd.mk hlx
      clear hown6 hgrow own5 hlx hfl
      rcases Bool.eq_false_or_eq_true (k == 0) with hk0 | hk0
      · obtain rfl : R = .ok (acc ++ [⟨k, n, t, q1⟩]) := by rw [← HL.out, if_pos hk0]
        have B := Asd.mk (F.out.2.trans (R6.out.of_below))
        clear HL
        go_wp2_with fail
        go_ret2
        exact ⟨v', rfl, toks_of_own O6.out (by simp) (by simp; omega), B.out⟩
      · have HT : Asd (lexF gk (rest s (q1 + wd)) (q1 + wd) (acc ++ [⟨k, n, t, q1⟩]) = R) := ⟨by
          rw [← HL.out, if_neg (by rw [hk0]; simp), ← Nat.add_assoc, ← HQ.out]⟩
        have hwd1 := hk1.out hk0
        clear HL
        go_wp2_with fail
        go_roundg (gk - 1)
        case measure => have := HQ.out; omega
        case rel => exact ⟨q1 + wd, acc ++ [⟨k, n, t, q1⟩], by omega, by have := HQ.out; omega, R6.out, O6.out, by have := HQ.out; simp; omega, by rw [show gk - 1 + 1 = gk by have := HQ.out; omega]; exact HT.out⟩
end Go.Proofs.YtaebigakdfaogaaDoor
