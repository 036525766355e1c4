/- tyfmt.List and tyfmt.Binds. -/
import Derived.Test.YtiajemakpdpnaaaDoorPwSw
import Derived.Test.YtiajemakpdpnaaaDoorPwJo
namespace Go.Proofs.YtiajemakpdpnaaaDoor
open Go.RowKit Pv
/-- Texts, a comma and a blank between two of them. -/
def jX (e : Nat → List UInt8) : Nat → List UInt8
  | 0 => []
  | j + 1 => (if j = 0 then [] else jX e j ++ [44, 32]) ++ e j
def jY (e : Nat → List UInt8) (j : Nat) : List UInt8 := if j = 0 then [] else jX e j ++ [44, 32]
theorem jX_succ (e : Nat → List UInt8) (j : Nat) : jX e (j + 1) = jY e j ++ e j := rfl
theorem jX_le (e : Nat → List UInt8) (j : Nat) : (jX e j).length ≤ (jY e j).length := by
  unfold jY
  split
  · rename_i h; subst h; exact Nat.le_refl _
  · simp
theorem jX_mono (e : Nat → List UInt8) : ∀ d j : Nat, (jX e j).length ≤ (jX e (j + d)).length
  | 0, _ => Nat.le_refl _
  | d + 1, j => by
    have h1 := jX_mono e d j
    have h2 := jX_le e (j + d)
    rw [← Nat.add_assoc, jX_succ, List.length_append]
    omega
theorem jX_at (e : Nat → List UInt8) {j n : Nat} (h : j < n) : (jY e j).length + (e j).length ≤ (jX e n).length := by
  have := jX_mono e (n - (j + 1)) (j + 1)
  rw [show j + 1 + (n - (j + 1)) = n by omega, jX_succ, List.length_append] at this
  exact this
theorem comma_step (e : Nat → List UInt8) {n : Nat} (hfin : (jX e n).length ≤ 140737488355328) (j : Nat) (h0 : 0 < j) (h1 : j < n) : Step 28 [.raw (.string ⟨#[44, 32]⟩), .bx 0 0] (jX e j) (jY e j) := by
  have := jX_at e h1
  unfold jY at this ⊢
  rw [if_neg (by omega)] at this ⊢
  simp only [List.length_append, List.length_cons, List.length_nil] at this
  exact add_step _ ⟨#[44, 32]⟩ (by show _ + 2 ≤ _; omega)
theorem text_step (S : List UInt8) (rest : H) (c0 c1 : Cell) (hG : GB S c0 c1) : CW (TT ()) 30 [.bx 0 0] (c0 :: c1 :: rest) fun d h' => d = .raw (.string ⟨S.toArray⟩) ∧ h' = .dead :: .dead :: rest := by
  obtain ⟨u, hu⟩ := hG
  have c := (text_cw u S).ext rest rfl (bld_idb u S) (fun d h' ⟨h1, h2⟩ => by subst h1 h2; exact ⟨rfl, rfl, rfl⟩)
  rw [show c0 :: c1 :: rest = Bld u S ++ rest by rw [← hu]; rfl]
  refine c.mono ?_
  rintro d h' ⟨h0', ⟨h1, rfl⟩, rfl⟩
  exact ⟨h1, rfl⟩
set_option maxRecDepth 20000 in
theorem list1_run (i : Int) (k n : Int) (nm : ByteArray) (L K : List D) (S T : List UInt8) (hw : Step 19 [nodeD k n nm L K, addD] S T) (c0 c1 bx : Cell) (hG : GB S c0 c1) (Q : D → H → Prop)
    (hQ : ∀ e0 e1 tl, GB T e0 e1 → Q (.tup []) (e0 :: e1 :: .box 39 [addD] :: tl)) : wfun TT 22 [.raw (.int .i64 i), nodeD k n nm L K, .bx 2 0] [c0, c1, .box 39 [addD], bx] Q := by
  unfold addD at hw hQ ⊢
  cbv
  (repeat' (first | (refine Pv.StatK.go (by kernel_rfl) (by kernel_rfl) ?_; cbv) | (refine Pv.DrawK.go 1 (by decide +kernel) ?_; cbv) | (refine Pv.DrawK.go 2 (by decide +kernel) ?_; cbv) | (refine Pv.LineK.go 0 (by decide +kernel) (by kernel_rfl) ?_; cbv) | (refine Pv.LineK.go 1 (by decide +kernel) (by kernel_rfl) ?_; cbv) | (refine Pv.LenK.intro ?_; intro _ _ _; cbv) | (refine Pv.LenNK.intro ?_; intro _ _ _; cbv) | (refine Pv.BinK.lssT (by omega) ?_; cbv) | (refine Pv.BinK.lssF (by omega) ?_; cbv) | (refine Pv.BinK.leqT (by omega) ?_; cbv) | (refine Pv.BinK.leqF (by omega) ?_; cbv) | (refine Pv.BinK.gtrT (by omega) ?_; cbv) | (refine Pv.BinK.gtrF (by omega) ?_; cbv) | (refine Pv.BinK.geqT (by omega) ?_; cbv) | (refine Pv.BinK.geqF (by omega) ?_; cbv) | (refine Pv.BinK.eqlT (by omega) ?_; cbv) | (refine Pv.BinK.eqlF (by omega) ?_; cbv) | (refine Pv.BinK.neqT (by omega) ?_; cbv) | (refine Pv.BinK.neqF (by omega) ?_; cbv) | (refine Pv.BinK.add (by omega) ?_; intro _ _; cbv) | (refine Pv.BinK.sub (by omega) ?_; intro _ _; cbv)))
  refine CallK.mut (hw _ _ _ hG) ?_
  rintro d h' ⟨rfl, e0, e1, hG1, rfl⟩
  cbv
  (repeat' (first | (refine Pv.StatK.go (by kernel_rfl) (by kernel_rfl) ?_; cbv) | (refine Pv.DrawK.go 1 (by decide +kernel) ?_; cbv) | (refine Pv.DrawK.go 2 (by decide +kernel) ?_; cbv) | (refine Pv.LineK.go 0 (by decide +kernel) (by kernel_rfl) ?_; cbv) | (refine Pv.LineK.go 1 (by decide +kernel) (by kernel_rfl) ?_; cbv) | (refine Pv.LenK.intro ?_; intro _ _ _; cbv) | (refine Pv.LenNK.intro ?_; intro _ _ _; cbv) | (refine Pv.BinK.lssT (by omega) ?_; cbv) | (refine Pv.BinK.lssF (by omega) ?_; cbv) | (refine Pv.BinK.leqT (by omega) ?_; cbv) | (refine Pv.BinK.leqF (by omega) ?_; cbv) | (refine Pv.BinK.gtrT (by omega) ?_; cbv) | (refine Pv.BinK.gtrF (by omega) ?_; cbv) | (refine Pv.BinK.geqT (by omega) ?_; cbv) | (refine Pv.BinK.geqF (by omega) ?_; cbv) | (refine Pv.BinK.eqlT (by omega) ?_; cbv) | (refine Pv.BinK.eqlF (by omega) ?_; cbv) | (refine Pv.BinK.neqT (by omega) ?_; cbv) | (refine Pv.BinK.neqF (by omega) ?_; cbv) | (refine Pv.BinK.add (by omega) ?_; intro _ _; cbv) | (refine Pv.BinK.sub (by omega) ?_; intro _ _; cbv)))
  exact ⟨hQ _ _ _ hG1⟩
set_option maxRecDepth 20000 in
theorem binds1_run (i : Int) (bn sg : ByteArray) (k n : Int) (nm : ByteArray) (L K : List D) (S T1 T2 T : List UInt8) (ha : Step 28 [.raw (.string bn), .bx 0 0] S T1) (hb : Step 28 [.raw (.string sg), .bx 0 0] T1 T2)
    (hw : Step 19 [nodeD k n nm L K, addD] T2 T) (c0 c1 bx : Cell) (hG : GB S c0 c1) (Q : D → H → Prop)
    (hQ : ∀ e0 e1 tl, GB T e0 e1 → Q (.tup []) (e0 :: e1 :: .box 39 [addD] :: .box 9 [.raw (.string sg)] :: tl)) :
    wfun TT 24 [.raw (.int .i64 i), bindD bn k n nm L K, .bx 2 0, .bx 3 0] [c0, c1, .box 39 [addD], .box 9 [.raw (.string sg)], bx] Q := by
  unfold addD at hw hQ ⊢
  cbv
  (repeat' (first | (refine Pv.StatK.go (by kernel_rfl) (by kernel_rfl) ?_; cbv) | (refine Pv.DrawK.go 1 (by decide +kernel) ?_; cbv) | (refine Pv.DrawK.go 2 (by decide +kernel) ?_; cbv) | (refine Pv.LineK.go 0 (by decide +kernel) (by kernel_rfl) ?_; cbv) | (refine Pv.LineK.go 1 (by decide +kernel) (by kernel_rfl) ?_; cbv) | (refine Pv.LenK.intro ?_; intro _ _ _; cbv) | (refine Pv.LenNK.intro ?_; intro _ _ _; cbv) | (refine Pv.BinK.lssT (by omega) ?_; cbv) | (refine Pv.BinK.lssF (by omega) ?_; cbv) | (refine Pv.BinK.leqT (by omega) ?_; cbv) | (refine Pv.BinK.leqF (by omega) ?_; cbv) | (refine Pv.BinK.gtrT (by omega) ?_; cbv) | (refine Pv.BinK.gtrF (by omega) ?_; cbv) | (refine Pv.BinK.geqT (by omega) ?_; cbv) | (refine Pv.BinK.geqF (by omega) ?_; cbv) | (refine Pv.BinK.eqlT (by omega) ?_; cbv) | (refine Pv.BinK.eqlF (by omega) ?_; cbv) | (refine Pv.BinK.neqT (by omega) ?_; cbv) | (refine Pv.BinK.neqF (by omega) ?_; cbv) | (refine Pv.BinK.add (by omega) ?_; intro _ _; cbv) | (refine Pv.BinK.sub (by omega) ?_; intro _ _; cbv)))
  refine CallK.mut (ha _ _ _ hG) ?_
  rintro d h' ⟨rfl, e0, e1, hG1, rfl⟩
  cbv
  (repeat' (first | (refine Pv.StatK.go (by kernel_rfl) (by kernel_rfl) ?_; cbv) | (refine Pv.DrawK.go 1 (by decide +kernel) ?_; cbv) | (refine Pv.DrawK.go 2 (by decide +kernel) ?_; cbv) | (refine Pv.LineK.go 0 (by decide +kernel) (by kernel_rfl) ?_; cbv) | (refine Pv.LineK.go 1 (by decide +kernel) (by kernel_rfl) ?_; cbv) | (refine Pv.LenK.intro ?_; intro _ _ _; cbv) | (refine Pv.LenNK.intro ?_; intro _ _ _; cbv) | (refine Pv.BinK.lssT (by omega) ?_; cbv) | (refine Pv.BinK.lssF (by omega) ?_; cbv) | (refine Pv.BinK.leqT (by omega) ?_; cbv) | (refine Pv.BinK.leqF (by omega) ?_; cbv) | (refine Pv.BinK.gtrT (by omega) ?_; cbv) | (refine Pv.BinK.gtrF (by omega) ?_; cbv) | (refine Pv.BinK.geqT (by omega) ?_; cbv) | (refine Pv.BinK.geqF (by omega) ?_; cbv) | (refine Pv.BinK.eqlT (by omega) ?_; cbv) | (refine Pv.BinK.eqlF (by omega) ?_; cbv) | (refine Pv.BinK.neqT (by omega) ?_; cbv) | (refine Pv.BinK.neqF (by omega) ?_; cbv) | (refine Pv.BinK.add (by omega) ?_; intro _ _; cbv) | (refine Pv.BinK.sub (by omega) ?_; intro _ _; cbv)))
  refine CallK.mut (hb _ _ _ hG1) ?_
  rintro d h' ⟨rfl, f0, f1, hG2, rfl⟩
  cbv
  (repeat' (first | (refine Pv.StatK.go (by kernel_rfl) (by kernel_rfl) ?_; cbv) | (refine Pv.DrawK.go 1 (by decide +kernel) ?_; cbv) | (refine Pv.DrawK.go 2 (by decide +kernel) ?_; cbv) | (refine Pv.LineK.go 0 (by decide +kernel) (by kernel_rfl) ?_; cbv) | (refine Pv.LineK.go 1 (by decide +kernel) (by kernel_rfl) ?_; cbv) | (refine Pv.LenK.intro ?_; intro _ _ _; cbv) | (refine Pv.LenNK.intro ?_; intro _ _ _; cbv) | (refine Pv.BinK.lssT (by omega) ?_; cbv) | (refine Pv.BinK.lssF (by omega) ?_; cbv) | (refine Pv.BinK.leqT (by omega) ?_; cbv) | (refine Pv.BinK.leqF (by omega) ?_; cbv) | (refine Pv.BinK.gtrT (by omega) ?_; cbv) | (refine Pv.BinK.gtrF (by omega) ?_; cbv) | (refine Pv.BinK.geqT (by omega) ?_; cbv) | (refine Pv.BinK.geqF (by omega) ?_; cbv) | (refine Pv.BinK.eqlT (by omega) ?_; cbv) | (refine Pv.BinK.eqlF (by omega) ?_; cbv) | (refine Pv.BinK.neqT (by omega) ?_; cbv) | (refine Pv.BinK.neqF (by omega) ?_; cbv) | (refine Pv.BinK.add (by omega) ?_; intro _ _; cbv) | (refine Pv.BinK.sub (by omega) ?_; intro _ _; cbv)))
  refine CallK.mut (hw _ _ _ hG2) ?_
  rintro d h' ⟨rfl, g0, g1, hG3, rfl⟩
  cbv
  (repeat' (first | (refine Pv.StatK.go (by kernel_rfl) (by kernel_rfl) ?_; cbv) | (refine Pv.DrawK.go 1 (by decide +kernel) ?_; cbv) | (refine Pv.DrawK.go 2 (by decide +kernel) ?_; cbv) | (refine Pv.LineK.go 0 (by decide +kernel) (by kernel_rfl) ?_; cbv) | (refine Pv.LineK.go 1 (by decide +kernel) (by kernel_rfl) ?_; cbv) | (refine Pv.LenK.intro ?_; intro _ _ _; cbv) | (refine Pv.LenNK.intro ?_; intro _ _ _; cbv) | (refine Pv.BinK.lssT (by omega) ?_; cbv) | (refine Pv.BinK.lssF (by omega) ?_; cbv) | (refine Pv.BinK.leqT (by omega) ?_; cbv) | (refine Pv.BinK.leqF (by omega) ?_; cbv) | (refine Pv.BinK.gtrT (by omega) ?_; cbv) | (refine Pv.BinK.gtrF (by omega) ?_; cbv) | (refine Pv.BinK.geqT (by omega) ?_; cbv) | (refine Pv.BinK.geqF (by omega) ?_; cbv) | (refine Pv.BinK.eqlT (by omega) ?_; cbv) | (refine Pv.BinK.eqlF (by omega) ?_; cbv) | (refine Pv.BinK.neqT (by omega) ?_; cbv) | (refine Pv.BinK.neqF (by omega) ?_; cbv) | (refine Pv.BinK.add (by omega) ?_; intro _ _; cbv) | (refine Pv.BinK.sub (by omega) ?_; intro _ _; cbv)))
  exact ⟨hQ _ _ _ hG3⟩
/-- The texts of types. -/
def lE (ks : List Ty5) (j : Nat) : List UInt8 := shT (kAt ks j)
theorem kAt_some {ks : List Ty5} {j : Nat} {t : Ty5} (h : ks[j]? = some t) : kAt ks j = t := by
  obtain ⟨h1, h2⟩ := List.getElem?_eq_some_iff.1 h
  rw [kAt_get h1, h2]
theorem ljoin_cw (ks : List Ty5) (ho : okT.okL ks) (hlen : ks.length ≤ 140737488355328) (hfin : (jX (lE ks) ks.length).length ≤ 140737488355328) (c0 c1 : Cell) (hG : GB [] c0 c1) :
    CW (TT ()) 21 [.sl none 5 (tysD ks), addD, .fn (.func 22) [] [.bx 2 0]] [c0, c1, .box 39 [addD]] fun d h' => d = .tup [] ∧ ∃ e0 e1, GB (jX (lE ks) ks.length) e0 e1 ∧ h' = [e0, e1, .box 39 [addD]] := by
  have hKl : (tysD ks).length = ks.length := by simp [tysD_map]
  refine wfun_ok (T := TT) (by kernel_rfl) (join1_run (tysD ks) _ _ _ (jX (lE ks)) (jY (lE ks)) (fun j A hA => ?_) (pure_idbL 3 _ (tys_pure ks)) (by simp [idbL, idb]) (by simp [cellIdb, idbL, idb, addD]) rfl (fun j h0 h1 => comma_step _ hfin j h0 (by omega)) (fun i A h0 hA c0 c1 bx hG => ?_) (by omega) c0 c1 hG _ fun e0 e1 hE => ⟨rfl, e0, e1, by rw [← hKl]; exact hE, rfl⟩)
  · rw [tysD_map, List.getElem?_map, Option.map_eq_some_iff] at hA
    obtain ⟨t, _, rfl⟩ := hA
    obtain ⟨k0, n0, m0, L0, K0, f0, g0, i0, j0⟩ := ty_node t
    exact ⟨k0, n0, m0, L0, K0, f0, i0 _, j0 _⟩
  · have hlt : i.toNat < ks.length := by rw [← hKl]; exact (List.getElem?_eq_some_iff.1 hA).1
    have hat := jX_at (lE ks) hlt
    rw [tysD_map, List.getElem?_map, Option.map_eq_some_iff] at hA
    obtain ⟨t, ht, rfl⟩ := hA
    have hk : lE ks i.toNat = shT t := by unfold lE; rw [kAt_some ht]
    rw [hk] at hat
    have hs := show_step t (okL_get ho t (List.mem_of_getElem? ht)) (jY (lE ks) i.toNat) (by omega)
    rw [jX_succ, hk]
    obtain ⟨k0, n0, m0, L0, K0, f0, g0, i0, j0⟩ := ty_node t
    rw [f0] at hs ⊢
    exact wfun_ok (T := TT) (by kernel_rfl) (list1_run i k0 n0 m0 L0 K0 _ _ hs c0 c1 bx hG _ fun e0 e1 tl hE => ⟨rfl, e0, e1, tl, hE, rfl⟩)
set_option maxRecDepth 20000 in
theorem listp_cp (ks : List Ty5) (ho : okT.okL ks) (hlen : ks.length ≤ 140737488355328) (hfin : (jX (lE ks) ks.length).length ≤ 140737488355328) : CP (TT ()) 10 [.sl none 5 (tysD ks)] (· = .raw (.string ⟨(jX (lE ks) ks.length).toArray⟩)) := by
  have hj := ljoin_cw ks ho hlen hfin
  have ht := text_step (jX (lE ks) ks.length)
  have hc := col_cw
  generalize jX (lE ks) ks.length = T at hj ht ⊢
  generalize (⟨T.toArray⟩ : ByteArray) = z at ht ⊢
  generalize tysD ks = KS at hj ⊢
  suffices hw : ∀ Q : D → H → Prop, (∀ h', Q (.raw (.string z)) h') → wfun TT 10 [.sl none 5 KS] [] Q from
    (wfun_ok (T := TT) (by kernel_rfl) (hw (fun d _ => d = .raw (.string z)) fun _ => rfl)).cp fun d h' h => ⟨d, by rw [h]; rfl, h⟩
  intro Q hQ
  unfold addD at hj hc
  unfold textD at hc
  have hcc : ∃ c0 c1, GB [] c0 c1 ∧ Bld false [] = [c0, c1] := ⟨_, _, ⟨false, rfl⟩, rfl⟩
  obtain ⟨c0, c1, hG, he⟩ := hcc
  rw [he] at hc
  cbv
  (repeat' (first | (refine Pv.StatK.go (by kernel_rfl) (by kernel_rfl) ?_; cbv) | (refine Pv.DrawK.go 1 (by decide +kernel) ?_; cbv) | (refine Pv.DrawK.go 2 (by decide +kernel) ?_; cbv) | (refine Pv.LineK.go 0 (by decide +kernel) (by kernel_rfl) ?_; cbv) | (refine Pv.LineK.go 1 (by decide +kernel) (by kernel_rfl) ?_; cbv) | (refine Pv.LenK.intro ?_; intro _ _ _; cbv) | (refine Pv.LenNK.intro ?_; intro _ _ _; cbv) | (refine Pv.BinK.lssT (by omega) ?_; cbv) | (refine Pv.BinK.lssF (by omega) ?_; cbv) | (refine Pv.BinK.leqT (by omega) ?_; cbv) | (refine Pv.BinK.leqF (by omega) ?_; cbv) | (refine Pv.BinK.gtrT (by omega) ?_; cbv) | (refine Pv.BinK.gtrF (by omega) ?_; cbv) | (refine Pv.BinK.geqT (by omega) ?_; cbv) | (refine Pv.BinK.geqF (by omega) ?_; cbv) | (refine Pv.BinK.eqlT (by omega) ?_; cbv) | (refine Pv.BinK.eqlF (by omega) ?_; cbv) | (refine Pv.BinK.neqT (by omega) ?_; cbv) | (refine Pv.BinK.neqF (by omega) ?_; cbv) | (refine Pv.BinK.add (by omega) ?_; intro _ _; cbv) | (refine Pv.BinK.sub (by omega) ?_; intro _ _; cbv)))
  refine CallK.mut hc ?_
  rintro d h' ⟨rfl, rfl⟩
  cbv
  (repeat' (first | (refine Pv.StatK.go (by kernel_rfl) (by kernel_rfl) ?_; cbv) | (refine Pv.DrawK.go 1 (by decide +kernel) ?_; cbv) | (refine Pv.DrawK.go 2 (by decide +kernel) ?_; cbv) | (refine Pv.LineK.go 0 (by decide +kernel) (by kernel_rfl) ?_; cbv) | (refine Pv.LineK.go 1 (by decide +kernel) (by kernel_rfl) ?_; cbv) | (refine Pv.LenK.intro ?_; intro _ _ _; cbv) | (refine Pv.LenNK.intro ?_; intro _ _ _; cbv) | (refine Pv.BinK.lssT (by omega) ?_; cbv) | (refine Pv.BinK.lssF (by omega) ?_; cbv) | (refine Pv.BinK.leqT (by omega) ?_; cbv) | (refine Pv.BinK.leqF (by omega) ?_; cbv) | (refine Pv.BinK.gtrT (by omega) ?_; cbv) | (refine Pv.BinK.gtrF (by omega) ?_; cbv) | (refine Pv.BinK.geqT (by omega) ?_; cbv) | (refine Pv.BinK.geqF (by omega) ?_; cbv) | (refine Pv.BinK.eqlT (by omega) ?_; cbv) | (refine Pv.BinK.eqlF (by omega) ?_; cbv) | (refine Pv.BinK.neqT (by omega) ?_; cbv) | (refine Pv.BinK.neqF (by omega) ?_; cbv) | (refine Pv.BinK.add (by omega) ?_; intro _ _; cbv) | (refine Pv.BinK.sub (by omega) ?_; intro _ _; cbv)))
  refine CallK.mut (hj c0 c1 hG) ?_
  rintro d h' ⟨rfl, e0, e1, hE, rfl⟩
  cbv
  (repeat' (first | (refine Pv.StatK.go (by kernel_rfl) (by kernel_rfl) ?_; cbv) | (refine Pv.DrawK.go 1 (by decide +kernel) ?_; cbv) | (refine Pv.DrawK.go 2 (by decide +kernel) ?_; cbv) | (refine Pv.LineK.go 0 (by decide +kernel) (by kernel_rfl) ?_; cbv) | (refine Pv.LineK.go 1 (by decide +kernel) (by kernel_rfl) ?_; cbv) | (refine Pv.LenK.intro ?_; intro _ _ _; cbv) | (refine Pv.LenNK.intro ?_; intro _ _ _; cbv) | (refine Pv.BinK.lssT (by omega) ?_; cbv) | (refine Pv.BinK.lssF (by omega) ?_; cbv) | (refine Pv.BinK.leqT (by omega) ?_; cbv) | (refine Pv.BinK.leqF (by omega) ?_; cbv) | (refine Pv.BinK.gtrT (by omega) ?_; cbv) | (refine Pv.BinK.gtrF (by omega) ?_; cbv) | (refine Pv.BinK.geqT (by omega) ?_; cbv) | (refine Pv.BinK.geqF (by omega) ?_; cbv) | (refine Pv.BinK.eqlT (by omega) ?_; cbv) | (refine Pv.BinK.eqlF (by omega) ?_; cbv) | (refine Pv.BinK.neqT (by omega) ?_; cbv) | (refine Pv.BinK.neqF (by omega) ?_; cbv) | (refine Pv.BinK.add (by omega) ?_; intro _ _; cbv) | (refine Pv.BinK.sub (by omega) ?_; intro _ _; cbv)))
  refine CallK.mut (ht _ _ _ hE) ?_
  rintro d h' ⟨rfl, rfl⟩
  cbv
  (repeat' (first | (refine Pv.StatK.go (by kernel_rfl) (by kernel_rfl) ?_; cbv) | (refine Pv.DrawK.go 1 (by decide +kernel) ?_; cbv) | (refine Pv.DrawK.go 2 (by decide +kernel) ?_; cbv) | (refine Pv.LineK.go 0 (by decide +kernel) (by kernel_rfl) ?_; cbv) | (refine Pv.LineK.go 1 (by decide +kernel) (by kernel_rfl) ?_; cbv) | (refine Pv.LenK.intro ?_; intro _ _ _; cbv) | (refine Pv.LenNK.intro ?_; intro _ _ _; cbv) | (refine Pv.BinK.lssT (by omega) ?_; cbv) | (refine Pv.BinK.lssF (by omega) ?_; cbv) | (refine Pv.BinK.leqT (by omega) ?_; cbv) | (refine Pv.BinK.leqF (by omega) ?_; cbv) | (refine Pv.BinK.gtrT (by omega) ?_; cbv) | (refine Pv.BinK.gtrF (by omega) ?_; cbv) | (refine Pv.BinK.geqT (by omega) ?_; cbv) | (refine Pv.BinK.geqF (by omega) ?_; cbv) | (refine Pv.BinK.eqlT (by omega) ?_; cbv) | (refine Pv.BinK.eqlF (by omega) ?_; cbv) | (refine Pv.BinK.neqT (by omega) ?_; cbv) | (refine Pv.BinK.neqF (by omega) ?_; cbv) | (refine Pv.BinK.add (by omega) ?_; intro _ _; cbv) | (refine Pv.BinK.sub (by omega) ?_; intro _ _; cbv)))
  exact ⟨hQ _⟩
end Go.Proofs.YtiajemakpdpnaaaDoor
