/- tyfmt.Binds. -/
import Derived.Test.YtiajemakpdpnaaaDoorPwLi
namespace Go.Proofs.YtiajemakpdpnaaaDoor
open Go.RowKit Pv
theorem cp_run2 {k : FuncId} {ds : List D} {u : Value} (h : ∀ Q : D → H → Prop, (∀ h', Q (.raw u) h') → wfun TT k ds [] Q) : CP (TT ()) k ds (· = .raw u) :=
  (wfun_ok (T := TT) (by kernel_rfl) (h (fun d _ => d = .raw u) fun _ => rfl)).cp fun d h' h => ⟨d, by rw [h]; rfl, h⟩
/-- A binding, as data. -/
def bdD : ByteArray × Ty5 → D
  | (bn, .mk k n nm ls ks) => bindD bn k n nm (ls.map strD) (tysD ks)
theorem bd_node (p : ByteArray × Ty5) : ∃ k n nm L K, bdD p = bindD p.1 k n nm L K ∧ tyD p.2 = nodeD k n nm L K ∧ (∀ m, idbL m L = true) ∧ ∀ m, idbL m K = true := by
  obtain ⟨bn, k, n, nm, ls, ks⟩ := p
  exact ⟨k, n, nm, _, _, rfl, rfl, fun m => pure_idbL m _ (strs_pure ls), fun m => pure_idbL m _ (tys_pure ks)⟩
theorem bd_pure (p : ByteArray × Ty5) : pureD (bdD p) = some (bdD p) := by
  obtain ⟨bn, k, n, nm, ls, ks⟩ := p
  simp [bdD, pureD, pureL, strs_pure ls, tys_pure ks]
theorem bds_pure : ∀ bs : List (ByteArray × Ty5), pureL (bs.map bdD) = some (bs.map bdD)
  | [] => rfl
  | p :: r => by simp only [List.map_cons, pureL, bd_pure p, bds_pure r]
def bAt (bs : List (ByteArray × Ty5)) (j : Nat) : ByteArray × Ty5 := bs.getD j (⟨#[]⟩, ty0)
/-- A binding's text. -/
def bE (bs : List (ByteArray × Ty5)) (sg : ByteArray) (j : Nat) : List UInt8 := (bAt bs j).1.data.toList ++ sg.data.toList ++ shT (bAt bs j).2
theorem bjoin_cw (bs : List (ByteArray × Ty5)) (sg : ByteArray) (ho : ∀ p ∈ bs, okT p.2) (hlen : bs.length ≤ 140737488355328) (hfin : (jX (bE bs sg) bs.length).length ≤ 140737488355328) (c0 c1 : Cell) (hG : GB [] c0 c1) :
    CW (TT ()) 23 [.sl none 6 (bs.map bdD), addD, .fn (.func 24) [] [.bx 2 0, .bx 3 0]] [c0, c1, .box 39 [addD], .box 9 [.raw (.string sg)]]
      fun d h' => d = .tup [] ∧ ∃ e0 e1, GB (jX (bE bs sg) bs.length) e0 e1 ∧ h' = [e0, e1, .box 39 [addD], .box 9 [.raw (.string sg)]] := by
  have hKl : (bs.map bdD).length = bs.length := List.length_map ..
  refine wfun_ok (T := TT) (by kernel_rfl) (joinB_run (bs.map bdD) _ _ _ _ (jX (bE bs sg)) (jY (bE bs sg)) (fun j A hA => ?_) (pure_idbL 4 _ (bds_pure bs)) (by simp [idbL, idb]) ⟨by simp [cellIdb, idbL, idb, addD], by simp [cellIdb, idbL, idb]⟩ rfl (fun j h0 h1 => comma_step _ hfin j h0 (by omega)) (fun i A h0 hA c0 c1 bx hG => ?_) (by omega) c0 c1 hG _ fun e0 e1 hE => ⟨rfl, e0, e1, by rw [← hKl]; exact hE, rfl⟩)
  · rw [List.getElem?_map, Option.map_eq_some_iff] at hA
    obtain ⟨p, _, rfl⟩ := hA
    obtain ⟨k0, n0, m0, L0, K0, f0, _, i0, j0⟩ := bd_node p
    exact ⟨p.1, k0, n0, m0, L0, K0, f0, i0 _, j0 _⟩
  · have hlt : i.toNat < bs.length := by rw [← hKl]; exact (List.getElem?_eq_some_iff.1 hA).1
    have hat := jX_at (bE bs sg) hlt
    rw [List.getElem?_map, Option.map_eq_some_iff] at hA
    obtain ⟨p, hp, rfl⟩ := hA
    have hk : bE bs sg i.toNat = p.1.data.toList ++ sg.data.toList ++ shT p.2 := by
      unfold bE bAt
      rw [List.getD_eq_getElem?_getD, hp]
      rfl
    rw [hk] at hat
    rw [jX_succ, hk]
    simp only [List.length_append, size_list] at hat
    generalize jY (bE bs sg) i.toNat = Y at hat hG ⊢
    have hs := show_step p.2 (ho p (List.mem_of_getElem? hp)) (Y ++ p.1.data.toList ++ sg.data.toList) (by simp only [List.length_append, size_list]; omega)
    obtain ⟨k0, n0, m0, L0, K0, f0, f1, i0, j0⟩ := bd_node p
    rw [f1] at hs
    rw [f0, ← List.append_assoc, ← List.append_assoc]
    exact wfun_ok (T := TT) (by kernel_rfl) (binds1_run i p.1 sg k0 n0 m0 L0 K0 _ _ _ _ (add_step Y p.1 (by omega)) (add_step _ sg (by simp only [List.length_append, size_list]; omega)) hs c0 c1 bx hG _ fun e0 e1 tl hE => ⟨rfl, e0, e1, tl, hE, rfl⟩)
abbrev pm : Nat → Nat := fun i => if i = 3 then 0 else i + 1
/-- The same, where the sign's box stands ahead. -/
theorem bjoin_ahead (bs : List (ByteArray × Ty5)) (sg : ByteArray) (ho : ∀ p ∈ bs, okT p.2) (hlen : bs.length ≤ 140737488355328) (hfin : (jX (bE bs sg) bs.length).length ≤ 140737488355328) (c0 c1 : Cell) (hG : GB [] c0 c1) :
    CW (TT ()) 23 [.sl none 6 (bs.map bdD), add1D, .fn (.func 24) [] [.bx 3 0, .bx 0 0]] [.box 9 [.raw (.string sg)], renC sh1 c0, renC sh1 c1, .box 39 [add1D]]
      fun d h' => d = .tup [] ∧ ∃ e0 e1, GB (jX (bE bs sg) bs.length) e0 e1 ∧ h' = [.box 9 [.raw (.string sg)], renC sh1 e0, renC sh1 e1, .box 39 [add1D]] := by
  have hren : ∀ {S : List UInt8} {c0 c1 : Cell}, GB S c0 c1 → renC pm c0 = renC sh1 c0 ∧ renC pm c1 = renC sh1 c1 := fun {S c0 c1} ⟨u, hu⟩ => by
    simp only [Bld, List.cons.injEq, and_true] at hu
    obtain ⟨rfl, rfl⟩ := hu
    have hb : ∀ f, renL f (bytesD S) = bytesD S := fun f => by
      have : ∀ S : List UInt8, pureL (bytesD S) = some (bytesD S) := fun S => by
        induction S with
        | nil => rfl
        | cons b r ih =>
          simp only [bytesD, List.map_cons, pureL] at ih ⊢
          simp only [ih]
          rfl
      exact pure_renL f _ (this S)
    refine ⟨?_, rfl⟩
    cases u <;> simp [renC, renL, renD, headD, hb, pm, sh1]
  have hi := hG.idb (m := 4) (by decide)
  have hr := hren hG
  have hBi := pure_idbL 4 _ (bds_pure bs)
  have hBr := pure_renL pm _ (bds_pure bs)
  refine ((bjoin_cw bs sg ho hlen hfin c0 c1 hG).frame (h := [.box 9 [.raw (.string sg)], renC sh1 c0, renC sh1 c1, .box 39 [add1D]]) pm ?_ ?_ ?_ (fun i j hi hj e => ?_) (fun i hi => ?_) ?_).mono ?_
  · simp only [renL, renD, hBr, addD, add1D, Option.map_none]
    rfl
  · simp [idbL, idb, hBi, addD]
  · show (cellIdb 4 c0 && (cellIdb 4 c1 && _)) = true
    rw [hi.1, hi.2]
    rfl
  · simp only [List.length_cons, List.length_nil] at hi hj
    simp only [pm] at e
    split at e <;> split at e <;> omega
  · match i, hi with
    | 0, _ => exact congrArg some hr.1
    | 1, _ => exact congrArg some hr.2
    | 2, _ => rfl
    | 3, _ => rfl
    | n + 4, hi => exact absurd hi (by show ¬ (n + 4 < 4); omega)
  · rintro d h' ⟨rfl, e0, e1, hE, rfl⟩
    have := hE.idb (m := 4) (by decide)
    refine ⟨rfl, rfl, ?_⟩
    show (cellIdb 4 e0 && (cellIdb 4 e1 && _)) = true
    rw [this.1, this.2]
    rfl
  · rintro d h' ⟨d0, h0', ⟨rfl, e0, e1, hE, rfl⟩, rfl, rfl⟩
    refine ⟨rfl, e0, e1, hE, ?_⟩
    rw [← (hren hE).1, ← (hren hE).2]
    rfl
theorem text_ahead2 (S : List UInt8) (b r c0 c1 : Cell) (hG : GB S c0 c1) : CW (TT ()) 30 [.bx 1 0] [b, renC sh1 c0, renC sh1 c1, r] fun d h' => d = .raw (.string ⟨S.toArray⟩) ∧ h' = [b, .dead, .dead, r] := by
  obtain ⟨u, hu⟩ := hG
  refine ((text_cw u S).frame (h := [b, renC sh1 c0, renC sh1 c1, r]) sh1 rfl rfl (bld_idb u S) (fun i j _ _ e => by simp only [sh1] at e; omega) (fun i hi => ?_) ?_).mono ?_
  · rw [← hu]
    match i, hi with
    | 0, _ => rfl
    | 1, _ => rfl
    | n + 2, hi => exact absurd hi (by show ¬ (n + 2 < 2); omega)
  · rintro d h' ⟨rfl, rfl⟩
    exact ⟨rfl, rfl, rfl⟩
  · rintro d h' ⟨d0, h0', ⟨rfl, rfl⟩, rfl, rfl⟩
    exact ⟨rfl, rfl⟩
set_option maxRecDepth 20000 in
theorem bindsp_cp (bs : List (ByteArray × Ty5)) (sg : ByteArray) (ho : ∀ p ∈ bs, okT p.2) (hlen : bs.length ≤ 140737488355328) (hfin : (jX (bE bs sg) bs.length).length ≤ 140737488355328) : CP (TT ()) 12 [.sl none 6 (bs.map bdD), .raw (.string sg)] (· = .raw (.string ⟨(jX (bE bs sg) bs.length).toArray⟩)) := by
  have hj := bjoin_ahead bs sg ho hlen hfin
  have ht := text_ahead2 (jX (bE bs sg) bs.length)
  have hc := colb_cw
  generalize jX (bE bs sg) bs.length = T at hj ht ⊢
  generalize (⟨T.toArray⟩ : ByteArray) = z at ht ⊢
  generalize bs.map bdD = BS at hj ⊢
  refine cp_run2 fun Q hQ => ?_
  unfold add1D at hj hc
  unfold text1D at hc
  cbv
  (repeat' (first | (refine Pv.StatK.go (by kernel_rfl) (by kernel_rfl) ?_; cbv) | (refine Pv.DrawK.go 1 (by decide +kernel) ?_; cbv) | (refine Pv.DrawK.go 2 (by decide +kernel) ?_; cbv) | (refine Pv.LineK.go 0 (by decide +kernel) (by kernel_rfl) ?_; cbv) | (refine Pv.LineK.go 1 (by decide +kernel) (by kernel_rfl) ?_; cbv) | (refine Pv.LenK.intro ?_; intro _ _ _; cbv) | (refine Pv.LenNK.intro ?_; intro _ _ _; cbv) | (refine Pv.BinK.lssT (by omega) ?_; cbv) | (refine Pv.BinK.lssF (by omega) ?_; cbv) | (refine Pv.BinK.leqT (by omega) ?_; cbv) | (refine Pv.BinK.leqF (by omega) ?_; cbv) | (refine Pv.BinK.gtrT (by omega) ?_; cbv) | (refine Pv.BinK.gtrF (by omega) ?_; cbv) | (refine Pv.BinK.geqT (by omega) ?_; cbv) | (refine Pv.BinK.geqF (by omega) ?_; cbv) | (refine Pv.BinK.eqlT (by omega) ?_; cbv) | (refine Pv.BinK.eqlF (by omega) ?_; cbv) | (refine Pv.BinK.neqT (by omega) ?_; cbv) | (refine Pv.BinK.neqF (by omega) ?_; cbv) | (refine Pv.BinK.add (by omega) ?_; intro _ _; cbv) | (refine Pv.BinK.sub (by omega) ?_; intro _ _; cbv)))
  refine CallK.mut (hc _) ?_
  rintro d h' ⟨rfl, c0, c1, hG, rfl⟩
  have h1 := hj c0 c1 hG
  generalize renC sh1 c0 = x0 at h1 ⊢
  generalize renC sh1 c1 = x1 at h1 ⊢
  cbv
  (repeat' (first | (refine Pv.StatK.go (by kernel_rfl) (by kernel_rfl) ?_; cbv) | (refine Pv.DrawK.go 1 (by decide +kernel) ?_; cbv) | (refine Pv.DrawK.go 2 (by decide +kernel) ?_; cbv) | (refine Pv.LineK.go 0 (by decide +kernel) (by kernel_rfl) ?_; cbv) | (refine Pv.LineK.go 1 (by decide +kernel) (by kernel_rfl) ?_; cbv) | (refine Pv.LenK.intro ?_; intro _ _ _; cbv) | (refine Pv.LenNK.intro ?_; intro _ _ _; cbv) | (refine Pv.BinK.lssT (by omega) ?_; cbv) | (refine Pv.BinK.lssF (by omega) ?_; cbv) | (refine Pv.BinK.leqT (by omega) ?_; cbv) | (refine Pv.BinK.leqF (by omega) ?_; cbv) | (refine Pv.BinK.gtrT (by omega) ?_; cbv) | (refine Pv.BinK.gtrF (by omega) ?_; cbv) | (refine Pv.BinK.geqT (by omega) ?_; cbv) | (refine Pv.BinK.geqF (by omega) ?_; cbv) | (refine Pv.BinK.eqlT (by omega) ?_; cbv) | (refine Pv.BinK.eqlF (by omega) ?_; cbv) | (refine Pv.BinK.neqT (by omega) ?_; cbv) | (refine Pv.BinK.neqF (by omega) ?_; cbv) | (refine Pv.BinK.add (by omega) ?_; intro _ _; cbv) | (refine Pv.BinK.sub (by omega) ?_; intro _ _; cbv)))
  refine CallK.mut h1 ?_
  rintro d h' ⟨rfl, e0, e1, hE, rfl⟩
  have h2 := fun b r => ht b r e0 e1 hE
  generalize renC sh1 e0 = y0 at h2 ⊢
  generalize renC sh1 e1 = y1 at h2 ⊢
  cbv
  (repeat' (first | (refine Pv.StatK.go (by kernel_rfl) (by kernel_rfl) ?_; cbv) | (refine Pv.DrawK.go 1 (by decide +kernel) ?_; cbv) | (refine Pv.DrawK.go 2 (by decide +kernel) ?_; cbv) | (refine Pv.LineK.go 0 (by decide +kernel) (by kernel_rfl) ?_; cbv) | (refine Pv.LineK.go 1 (by decide +kernel) (by kernel_rfl) ?_; cbv) | (refine Pv.LenK.intro ?_; intro _ _ _; cbv) | (refine Pv.LenNK.intro ?_; intro _ _ _; cbv) | (refine Pv.BinK.lssT (by omega) ?_; cbv) | (refine Pv.BinK.lssF (by omega) ?_; cbv) | (refine Pv.BinK.leqT (by omega) ?_; cbv) | (refine Pv.BinK.leqF (by omega) ?_; cbv) | (refine Pv.BinK.gtrT (by omega) ?_; cbv) | (refine Pv.BinK.gtrF (by omega) ?_; cbv) | (refine Pv.BinK.geqT (by omega) ?_; cbv) | (refine Pv.BinK.geqF (by omega) ?_; cbv) | (refine Pv.BinK.eqlT (by omega) ?_; cbv) | (refine Pv.BinK.eqlF (by omega) ?_; cbv) | (refine Pv.BinK.neqT (by omega) ?_; cbv) | (refine Pv.BinK.neqF (by omega) ?_; cbv) | (refine Pv.BinK.add (by omega) ?_; intro _ _; cbv) | (refine Pv.BinK.sub (by omega) ?_; intro _ _; cbv)))
  refine CallK.mut (h2 _ _) ?_
  rintro d h' ⟨rfl, rfl⟩
  cbv
  (repeat' (first | (refine Pv.StatK.go (by kernel_rfl) (by kernel_rfl) ?_; cbv) | (refine Pv.DrawK.go 1 (by decide +kernel) ?_; cbv) | (refine Pv.DrawK.go 2 (by decide +kernel) ?_; cbv) | (refine Pv.LineK.go 0 (by decide +kernel) (by kernel_rfl) ?_; cbv) | (refine Pv.LineK.go 1 (by decide +kernel) (by kernel_rfl) ?_; cbv) | (refine Pv.LenK.intro ?_; intro _ _ _; cbv) | (refine Pv.LenNK.intro ?_; intro _ _ _; cbv) | (refine Pv.BinK.lssT (by omega) ?_; cbv) | (refine Pv.BinK.lssF (by omega) ?_; cbv) | (refine Pv.BinK.leqT (by omega) ?_; cbv) | (refine Pv.BinK.leqF (by omega) ?_; cbv) | (refine Pv.BinK.gtrT (by omega) ?_; cbv) | (refine Pv.BinK.gtrF (by omega) ?_; cbv) | (refine Pv.BinK.geqT (by omega) ?_; cbv) | (refine Pv.BinK.geqF (by omega) ?_; cbv) | (refine Pv.BinK.eqlT (by omega) ?_; cbv) | (refine Pv.BinK.eqlF (by omega) ?_; cbv) | (refine Pv.BinK.neqT (by omega) ?_; cbv) | (refine Pv.BinK.neqF (by omega) ?_; cbv) | (refine Pv.BinK.add (by omega) ?_; intro _ _; cbv) | (refine Pv.BinK.sub (by omega) ?_; intro _ _; cbv)))
  exact ⟨hQ _⟩
end Go.Proofs.YtiajemakpdpnaaaDoor
